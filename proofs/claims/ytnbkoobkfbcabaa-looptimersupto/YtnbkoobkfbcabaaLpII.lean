/- loop: rows of numbers that are handed in, opened. -/
import Derived.Test.YtnbkoobkfbcabaaLpX
namespace Go.Proofs.Ytnbkoobkfbcabaa
open Go.RowKit Go.Lib Go.ChangeShapes Go.WideShapes Go.ChangeAt

theorem Try.fCellsInt : Try.prog.cellsOf 3 = 1 := by kernel_rfl
theorem Try.fCellsI64 : Try.prog.cellsOf 2 = 1 := by kernel_rfl
section
variable {H : Type} {enc : TypeId × Value → H} {W : World}
theorem open_rdI {fuel : Nat} {cs : List Value} {x : DataW H × List MemPlace} (h : DataW.trod enc Try.prog W 0 (fun _ => true) true fuel 26 cs = some x) :
    ∃ v l, cs = [v] ∧ RdI W v l ∧ l.length ≤ Rows.uptoBulk x.1 := by
  rcases open_ints Try.underlying26 Try.underlying3 Try.fCellsInt h with ⟨rfl, _⟩ | ⟨a, len, cap, zs, rfl, _, hl, _, hz, hx, hcell, _⟩
  · exact ⟨_, [], rfl, ⟨none, 0, rfl, Nat.le_refl _, fun h => absurd h (Nat.lt_irrefl _)⟩, Nat.zero_le _⟩
  · have hz' : zs.length = cap := by simpa using hz
    have hul : (zs.take len).length = len := by rw [List.length_take]; omega
    refine ⟨_, zs.take len, rfl, ⟨some a, cap, by rw [hul], by omega, fun hp => ?_⟩, ?_⟩
    · rw [hul] at hp
      have hs := addr_spot (hcell 0 (by omega))
      have hc : ∀ (j : Nat) (h : j < (zs.take len).length), W.cell? ⟨a.block, a.off + j, none⟩ = some (.int .i64 (zs.take len)[j]) := fun j hj => by
        rw [hul] at hj
        have hjz : j < zs.length := by omega
        rw [addr_at (hcell j hjz) hs]
        simp [List.getD, hjz]
      refine ⟨a.block, a.off, ?_, addr_lt (hc 0 (by omega)), hc⟩
      obtain ⟨b, o, s⟩ := a
      simp only at hs
      subst hs
      rfl
    · rw [hx, hul]
      have hm := bulk_many (H := H) (lits .i64 (zs.take len))
      have hll : (lits (H := H) .i64 (zs.take len)).length = len := by unfold lits; rw [List.length_map, hul]
      simp only [Rows.uptoBulk]
      omega
set_option maxRecDepth 100000 in
theorem open_nums {b0 : Nat} {v : Value} {d : DataW H} {p : List MemPlace} (hv : Value.okWide Try.prog W .any b0 26 v) (h : DataW.Trod enc Try.prog W 0 (fun _ => true) true 26 v d p) :
    ∃ l, RdI W v l ∧ l.length ≤ Rows.uptoBulk d := by
  obtain ⟨a0, len, cap, rfl⟩ := okWide_slice Try.underlying26 hv
  obtain ⟨fuel, hf⟩ := h
  obtain ⟨v', l, e, hr, hb⟩ := open_rdI hf
  have e' : Value.slice a0 len cap = v' := by simpa [Value.cells] using e
  subst e'
  exact ⟨l, hr, hb⟩
theorem open_rdL {fuel : Nat} {cs : List Value} {x : DataW H × List MemPlace} (h : DataW.trod enc Try.prog W 0 (fun _ => true) true fuel 50 cs = some x) :
    ∃ v l, cs = [v] ∧ RdI W v l ∧ l.length ≤ Rows.uptoBulk x.1 := by
  rcases open_ints Try.underlying50 Try.underlying2 Try.fCellsI64 h with ⟨rfl, _⟩ | ⟨a, len, cap, zs, rfl, _, hl, _, hz, hx, hcell, _⟩
  · exact ⟨_, [], rfl, ⟨none, 0, rfl, Nat.le_refl _, fun h => absurd h (Nat.lt_irrefl _)⟩, Nat.zero_le _⟩
  · have hz' : zs.length = cap := by simpa using hz
    have hul : (zs.take len).length = len := by rw [List.length_take]; omega
    refine ⟨_, zs.take len, rfl, ⟨some a, cap, by rw [hul], by omega, fun hp => ?_⟩, ?_⟩
    · rw [hul] at hp
      have hs := addr_spot (hcell 0 (by omega))
      have hc : ∀ (j : Nat) (h : j < (zs.take len).length), W.cell? ⟨a.block, a.off + j, none⟩ = some (.int .i64 (zs.take len)[j]) := fun j hj => by
        rw [hul] at hj
        have hjz : j < zs.length := by omega
        rw [addr_at (hcell j hjz) hs]
        simp [List.getD, hjz]
      refine ⟨a.block, a.off, ?_, addr_lt (hc 0 (by omega)), hc⟩
      obtain ⟨b, o, s⟩ := a
      simp only at hs
      subst hs
      rfl
    · rw [hx, hul]
      have hm := bulk_many (H := H) (lits .i64 (zs.take len))
      have hll : (lits (H := H) .i64 (zs.take len)).length = len := by unfold lits; rw [List.length_map, hul]
      simp only [Rows.uptoBulk]
      omega
set_option maxRecDepth 100000 in
theorem open_longs {b0 : Nat} {v : Value} {d : DataW H} {p : List MemPlace} (hv : Value.okWide Try.prog W .any b0 50 v) (h : DataW.Trod enc Try.prog W 0 (fun _ => true) true 50 v d p) :
    ∃ l, RdI W v l ∧ l.length ≤ Rows.uptoBulk d := by
  obtain ⟨a0, len, cap, rfl⟩ := okWide_slice Try.underlying50 hv
  obtain ⟨fuel, hf⟩ := h
  obtain ⟨v', l, e, hr, hb⟩ := open_rdL hf
  have e' : Value.slice a0 len cap = v' := by simpa [Value.cells] using e
  subst e'
  exact ⟨l, hr, hb⟩
end
end Go.Proofs.Ytnbkoobkfbcabaa
