/- The walk of the law NamesExtracts. -/
import Derived.Test.YtomlbkkoodileabDoorRefRight
import Derived.Test.YtomlbkkoodileabDoorRight
import Derived.Test.YtomlbkkoodileabDoorBegins
import Derived.Test.YtomlbkkoodileabDoorSteps
import Derived.Deep.RegionWith
namespace Go.Proofs.YtomlbkkoodileabDoor
open Go.RowKit Go.Lib

/-- A name's block, kept. -/
structure Kn (bn : Nat) (a p l : ByteArray) (W : World) : Prop where
  n0 : W.cell? ⟨bn, 0, none⟩ = some (.string a)
  n1 : W.cell? ⟨bn, 1, none⟩ = some (.string p)
  n2 : W.cell? ⟨bn, 2, none⟩ = some (.string l)
  ln : bn < W.heap.size
theorem Kn.later {bn : Nat} {a p l : ByteArray} {W W' : World} (h : Kn bn a p l W) (hb : Below W.heap.size W W') : Kn bn a p l W' :=
  ⟨(hb.cell (p := ⟨bn, 0, none⟩) h.ln).trans h.n0, (hb.cell (p := ⟨bn, 1, none⟩) h.ln).trans h.n1, (hb.cell (p := ⟨bn, 2, none⟩) h.ln).trans h.n2, Nat.lt_of_lt_of_le h.ln hb.size⟩

set_option maxRecDepth 100000 in
set_option maxHeartbeats 8000000 in
theorem extractsLaw (sp q a p l : ByteArray) (w : World) (_hsp : sp.size ≤ 140737488351232) (hq : q.size ≤ 140737488351232) (_ha : a.size ≤ 140737488351232) (hp : p.size ≤ 140737488351232) (hl : l.size ≤ 140737488351232) (h : Laid w) :
    Calls Tryd.prog 6 #[.string sp, .string q, nameV a p l] w fun e w' => e = .returned (.bool true) ∧ Below w.heap.size w w' := by
  have hE := fun W (hW : Laid W) => extract_any sp q W (by omega) hW
  have hRE := fun W => rextract_any sp q W
  have hR := fun W (hW : Laid W) => right_any a p l W hW (by omega) (by omega)
  have hRR := fun W (hW : Laid W) => rright_any a p l W hW (by omega) (by omega)
  generalize extractN sp q = N at hE hRE
  generalize extractE sp q = ex at hE hRE
  generalize rightB a p l = rb at hR hRR
  obtain ⟨n1, n2, n3⟩ := N
  have HB : Hid (∀ W, Laid W → _) := fun W (hW : Laid W) => begins_any W hW
  have HE : Hid (∀ W, Laid W → _) := hE
  have HRE : Hid (∀ W : World, _) := hRE
  have HR : Hid (∀ W, Laid W → _) := hR
  have HRR : Hid (∀ W, Laid W → _) := hRR
  clear hE hRE hR hRR
  have L := (St.start h).later ((Below.refl _ w).alloc (Nat.le_refl _) (.cells #[.string a, .string p, .string l] 26))
  go_enter Tryd.func6, Tryd.ntmps6
  go_wp2_with fail
  refine (HE.out _ L.laid).mono ?_
  rintro e w1 ⟨rfl, hb1⟩
  obtain ⟨hlt1, _, c0, c1, c2, _, _, _⟩ := kept3 (by simpa using hb1)
  replace L := L.later hb1
  clear hb1
  go_wp2_with fail
  have L1 := L.later ((Below.refl _ w1).alloc (Nat.le_refl _) (.cells #[.string n1, .string n2, .string n3] 26))
  refine (HRE.out _).mono ?_
  rintro e w2 ⟨rfl, hb2⟩
  obtain ⟨hlt2, hbb, e0, e1, e2, _, _, _⟩ := kept3 (by simpa using hb2)
  have d0 := (hbb.cell (p := ⟨w.heap.size, 0, none⟩) hlt1).trans c0
  have d1 := (hbb.cell (p := ⟨w.heap.size, 1, none⟩) hlt1).trans c1
  have d2 := (hbb.cell (p := ⟨w.heap.size, 2, none⟩) hlt1).trans c2
  have L2 := L1.later hb2
  have hlt3 := Nat.lt_trans hlt1 hlt2
  clear hb2 hbb L L1 c0 c1 c2
  have g1 : (n1.toList == n1.toList) = true := by simp
  have g2 : (n2.toList == n2.toList) = true := by simp
  have g3 : (n3.toList == n3.toList) = true := by simp
  have g4 : (ex == ex) = true := by simp
  have g5 : (rb == rb) = true := by simp
  have hlt2' : w1.heap.size < w2.heap.size := hlt2
  have L3 := L2.later ((Below.refl _ w2).alloc (Nat.le_refl _) (.cells #[.string n1, .string n2, .string n3] 26))
  have kn : Kn w.heap.size a p l (w2.alloc (.cells #[.string n1, .string n2, .string n3] 26)) := (Kn.mk d0 d1 d2 hlt3).later ((Below.refl _ w2).alloc (Nat.le_refl _) _)
  have L3d := L3.later ((Below.refl _ _).drew)
  have knd := kn.later ((Below.refl _ _).drew)
  go_upto_region 3 with fail
  go_region_with (first
    | (go_at_call 31; refine (HR.out _ L3d.laid).mono ?_; rintro e v1 ⟨rfl, hb⟩; have L4 := L3d.later hb; have kn1 := knd.later hb; clear hb; obtain ⟨y0, y1, y2, y3⟩ := kn1)
    | (go_at_call 32; refine (HRR.out _ L4.laid).mono ?_; rintro e v2 ⟨rfl, hb⟩; have L5 := L4.later hb; clear hb)
    | (go_at_call 12; refine (HB.out _ L5.laid).mono ?_; rintro e v3 ⟨rfl, hb⟩; have L6 := L5.later hb; clear hb))
  all_goals
    go_wp2
    go_ret
    exact ⟨rfl, L6.bel⟩
end Go.Proofs.YtomlbkkoodileabDoor
