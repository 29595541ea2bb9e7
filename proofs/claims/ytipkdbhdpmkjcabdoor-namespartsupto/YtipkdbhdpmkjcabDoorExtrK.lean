/- A name's block, kept. -/
import Derived.Test.YtipkdbhdpmkjcabDoorProg
import Derived.Test.YtipkdbhdpmkjcabDoorCut
namespace Go.Proofs.YtipkdbhdpmkjcabDoor
open Go.RowKit Go.Lib

structure Kn (bn : Nat) (a p l : ByteArray) (W : World) : Prop where
  n0 : W.cell? ⟨bn, 0, none⟩ = some (.string a)
  n1 : W.cell? ⟨bn, 1, none⟩ = some (.string p)
  n2 : W.cell? ⟨bn, 2, none⟩ = some (.string l)
  ln : bn < W.heap.size
theorem Kn.later {bn : Nat} {a p l : ByteArray} {W W' : World} (h : Kn bn a p l W) (hb : Below W.heap.size W W') : Kn bn a p l W' :=
  ⟨(hb.cell (p := ⟨bn, 0, none⟩) h.ln).trans h.n0, (hb.cell (p := ⟨bn, 1, none⟩) h.ln).trans h.n1, (hb.cell (p := ⟨bn, 2, none⟩) h.ln).trans h.n2, Nat.lt_of_lt_of_le h.ln hb.size⟩
end Go.Proofs.YtipkdbhdpmkjcabDoor
