/- Lists of texts that are handed in: opened; what the bound says of them. -/
import Derived.Test.YtbefinbihopgfaaDoorUCmp
import Derived.Test.YtbefinbihopgfaaDoorRows
import Derived.ProofKit
import Derived.SliceStrings
import Derived.Carry
import Derived.OpenShut
namespace Go.Proofs.YtbefinbihopgfaaDoor
open Go.RowKit Go.Lib Go.ChangeShapes Go.WideShapes Go.ChangeAt

theorem Tryd.cellsStr : Tryd.prog.cellsOf 9 = 1 := by kernel_rfl

theorem bulk_strs {H : Type} : ∀ ss : List ByteArray, ss.length ≤ Rows.uptoBulkAll (strs (H := H) ss) ∧ ∀ x ∈ ss, x.size ≤ Rows.uptoBulkAll (strs (H := H) ss)
  | [] => ⟨by simp, by simp⟩
  | s :: t => by
    obtain ⟨h1, h2⟩ := bulk_strs (H := H) t
    simp only [strs, List.map_cons, Rows.uptoBulkAll, Rows.uptoBulk, List.length_cons] at h1 h2 ⊢
    have hs : s.data.toList.length = s.size := (Lib.size_eq s).symm
    refine ⟨by omega, fun x hx => ?_⟩
    rcases List.mem_cons.1 hx with rfl | hx
    · omega
    · have := h2 x hx; omega

set_option maxRecDepth 100000 in
theorem open_texts {H : Type} {enc : TypeId × Value → H} {W : World} {b0 : Nat} {v : Value} {d : DataW H} {p : List MemPlace} (hv : Value.okWide Tryd.prog W .any b0 22 v)
    (h : DataW.Trod enc Tryd.prog W 0 (fun _ => true) true 22 v d p) :
    ∃ ws : List ByteArray, RdS W v ws ∧ ws.length ≤ Rows.uptoBulk d ∧ ∀ x ∈ ws, x.size ≤ Rows.uptoBulk d := by
  obtain ⟨a0, len, cap, rfl⟩ := okWide_slice Tryd.underlying22 hv
  obtain ⟨fuel, hf⟩ := h
  rcases open_strings Tryd.underlying22 Tryd.underlying9 Tryd.cellsStr hf with ⟨hcs, hx⟩ | ⟨a, len', cap', ss, hcs, _, hl, hm, hz, hx, hcell, hwz⟩
  · have e : Value.slice a0 len cap = .slice none 0 0 := by simpa [Value.cells] using hcs
    cases e
    exact ⟨[], ⟨_, _, rfl, fun h => absurd h (by simp)⟩, Nat.zero_le _, by simp⟩
  · have e : Value.slice a0 len cap = .slice (some a) len' cap' := by simpa [Value.cells] using hcs
    cases e
    have hz' : ss.length = cap := by simpa using hz
    have hd : d = .slice (strs (ss.take len)) (strs (ss.drop len)) := congrArg Prod.fst hx
    have hul : (ss.take len).length = len := by simp; omega
    have hbk := bulk_strs (H := H) (ss.take len)
    refine ⟨ss.take len, ⟨some a, cap, by rw [hul], fun hp => ?_⟩, ?_, ?_⟩
    · have hc : ∀ (j : Nat) (h : j < (ss.take len).length), W.cell? (a.add j) = some (.string (ss.take len)[j]) := fun j hj => by
        rw [hul] at hj
        have hjz : j < ss.length := by omega
        rw [hcell j hjz]
        simp [List.getD, hjz]
      refine ⟨a, rfl, ?_, hc⟩
      have hc0 := hc 0 hp
      rw [Addr.add_zero'] at hc0
      by_cases hlt : a.block < W.heap.size
      · exact hlt
      · have hnone : W.heap[a.block]? = none := Array.getElem?_eq_none (by omega)
        unfold World.cell? at hc0
        rw [hnone] at hc0
        cases hc0
    · rw [hd]
      simp only [Rows.uptoBulk]
      have := hbk.1
      omega
    · intro x hx
      rw [hd]
      simp only [Rows.uptoBulk]
      have := hbk.2 x hx
      omega
end Go.Proofs.YtbefinbihopgfaaDoor
