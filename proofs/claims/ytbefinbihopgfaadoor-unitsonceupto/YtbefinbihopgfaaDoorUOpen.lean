/- Strings of units that are handed in: opened; what the bound says of them. -/
import Derived.Test.YtbefinbihopgfaaDoorUCmp
import Derived.Test.YtbefinbihopgfaaDoorRows
import Derived.ProofKit
import Derived.ChangeSlices
import Derived.Carry
import Derived.OpenShut
namespace Go.Proofs.YtbefinbihopgfaaDoor
open Go.RowKit Go.Lib Go.ChangeShapes Go.WideShapes Go.ChangeAt

theorem Tryd.laidOut : laidOutB Tryd.prog = true := by kernel_rfl
theorem Tryd.cellsUnit : Tryd.prog.cellsOf 45 = 1 := by kernel_rfl

theorem bulk_lits {H : Type} (k : IntKind) : ∀ zs : List Int, Rows.uptoBulkAll (lits (H := H) k zs) = zs.length
  | [] => by simp [lits, Rows.uptoBulkAll]
  | z :: t => by
    have := bulk_lits (H := H) k t
    simp only [lits, List.map_cons, Rows.uptoBulkAll, Rows.uptoBulk, List.length_cons] at this ⊢
    omega

theorem u16_range {n : Int} (h : (Lit.int .u16 n).wf = true) : 0 ≤ n ∧ n ≤ 65535 := by
  simpa [Lit.wf, IntKind.min, IntKind.max, IntKind.signed, IntKind.bits] using h

set_option maxRecDepth 100000 in
theorem open_units {H : Type} {enc : TypeId × Value → H} {W : World} {b0 : Nat} {v : Value} {d : DataW H} {p : List MemPlace} (hv : Value.okWide Tryd.prog W .any b0 39 v)
    (h : DataW.Trod enc Tryd.prog W 0 (fun _ => true) true 39 v d p) :
    ∃ us : List Nat, RdU W v us ∧ (∀ x ∈ us, x < 65536) ∧ us.length ≤ Rows.uptoBulk d := by
  obtain ⟨a0, len, cap, rfl⟩ := okWide_slice Tryd.underlying39 hv
  obtain ⟨fuel, hf⟩ := h
  rcases open_ints Tryd.underlying39 Tryd.underlying45 Tryd.cellsUnit hf with ⟨hcs, hx⟩ | ⟨a, len', cap', zs, hcs, _, hl, hm, hz, hx, hcell, hwz⟩
  · have e : Value.slice a0 len cap = .slice none 0 0 := by simpa [Value.cells] using hcs
    cases e
    exact ⟨[], .inl ⟨_, _, rfl, rfl⟩, by simp, Nat.zero_le _⟩
  · have e : Value.slice a0 len cap = .slice (some a) len' cap' := by simpa [Value.cells] using hcs
    cases e
    have hz' : zs.length = cap := by simpa using hz
    have hd : d = .slice (lits .u16 (zs.take len)) (lits .u16 (zs.drop len)) := congrArg Prod.fst hx
    have hnn : ∀ n ∈ zs, 0 ≤ n ∧ n ≤ 65535 := fun n hn => u16_range (hwz n hn)
    have hul : ((zs.take len).map Int.toNat).length = len := by simp; omega
    refine ⟨(zs.take len).map Int.toNat, ?_, ?_, ?_⟩
    · by_cases h0 : len = 0
      · subst h0
        exact .inl ⟨_, _, rfl, by simp⟩
      · right
        have hc : CellsU W a ((zs.take len).map Int.toNat) := fun j hj => by
          rw [hul] at hj
          have hjz : j < zs.length := by omega
          rw [hcell j hjz]
          have e1 : zs.getD j 0 = zs[j] := by simp [List.getD, hjz]
          have := hnn zs[j] (List.getElem_mem hjz)
          rw [e1]
          unfold unitV
          simp
          omega
        refine ⟨a, cap, by rw [hul], ?_, by omega, hm, hc⟩
        have hc0 := hc 0 (by omega)
        rw [Addr.add_zero'] at hc0
        by_cases hlt : a.block < W.heap.size
        · exact hlt
        · have hnone : W.heap[a.block]? = none := Array.getElem?_eq_none (by omega)
          unfold World.cell? at hc0
          rw [hnone] at hc0
          cases hc0
    · intro x hx
      obtain ⟨n, hn, rfl⟩ := List.mem_map.1 hx
      have := hnn n (List.mem_of_mem_take hn)
      omega
    · rw [hd, hul]
      simp only [Rows.uptoBulk, bulk_lits]
      simp
      omega
end Go.Proofs.YtbefinbihopgfaaDoor
