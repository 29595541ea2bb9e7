/- The walk of the reference's Sub. -/
import Derived.Test.YtipkdbhdpmkjcabUCut
namespace Go.Proofs.Ytipkdbhdpmkjcab
open Go.RowKit Go.Lib

theorem cut_min (us : List Nat) (x y z : Nat) (hz : z = min y (us.length - x)) : cutU us x y = cutU us x z := by
  have h1 : (us.drop x).length = us.length - x := by simp
  by_cases hyy : y ≤ us.length - x
  · rw [show z = y by omega]
  · unfold cutU
    rw [List.take_of_length_le (by omega), List.take_of_length_le (by omega)]

/-- Units put into an empty row of the call's own. -/
theorem run_fresh_rd (w : World) (src : Value) (us : List Nat) (ty : TypeId) (hr : RdU w src us) (hn : us.length ≤ 35184372088832) :
    ∃ v' w', (Builtin.append_ #[23, 23] ty #[.slice (some ⟨w.heap.size, 0, none⟩) 0 0, src]).run Try.prog (w.alloc (.cells #[] 32)) = .ok v' w' ∧ w'.ownsRow w.heap.size 32 1 v' us.length (us.map unitV) ∧ Below w.heap.size w w' := by
  have hb0 : Below w.heap.size w (w.alloc (.cells #[] 32)) := (Below.refl _ w).alloc (Nat.le_refl _) _
  obtain ⟨v', w', h1, h2, h3⟩ := run_append_rd (w.alloc (.cells #[] 32)) w.heap.size (.slice (some ⟨w.heap.size, 0, none⟩) 0 0) src [] us ty (own_empty w _ (Nat.le_refl _)) (by simp) (hr.later hb0) (by simp; omega)
  exact ⟨v', w', h1, by simpa using h2, hb0.trans (below_grown (own_empty w w.heap.size (Nat.le_refl _)) (by simp) h3)⟩

set_option maxRecDepth 100000 in
set_option maxHeartbeats 1000000 in
theorem rsub_any (v : Value) (us : List Nat) (x y : Nat) (w : World) (hr : RdU w v us) (hn : us.length ≤ 17592186044416) (hx : x ≤ 4294967295) (hy : y ≤ 4294967295) :
    Calls Try.prog 22 #[v, .int .u32 x, .int .u32 y] w (SubPost w us x y) := by
  obtain ⟨o, cap, rfl, g⟩ := hr.form
  unfold SubPost subE subU
  by_cases h : us.length < x
  · rw [if_pos h, if_pos h]
    have q : (us.length : Int) < (x : Int) := by omega
    go_enter Try.func22, Try.ntmps22
    go_wp2
    go_ret2
    exact ⟨_, rfl, World.ownsRow_nil _ _ _ _, Below.refl _ _⟩
  · rw [if_neg h, if_neg h]
    have q : ¬ (us.length : Int) < (x : Int) := by omega
    obtain ⟨z, hz⟩ : ∃ z, z = min y (us.length - x) := ⟨_, rfl⟩
    rw [cut_min us x y z hz]
    have hzl : x + z ≤ us.length := by omega
    have hmin : min ((x : Int) + (y : Int)) (us.length : Int) = ((x + z : Nat) : Int) := by omega
    clear hz
    cases o with
    | none =>
      have h0 : us.length = 0 := by
        by_cases hp : 0 < us.length
        · obtain ⟨a, ha, _⟩ := g hp; cases ha
        · omega
      have hus : us = [] := List.eq_nil_of_length_eq_zero h0
      subst hus
      have hx0 : x = 0 := by simp at hzl; omega
      have hz0 : z = 0 := by simp at hzl; omega
      subst hx0 hz0
      obtain ⟨v', w', h1, h2, h3⟩ := run_fresh_rd w (.slice none 0 cap) [] 23 hr (by simp)
      have hmin2 : min (y : Int) 0 = 0 := by omega
      go_enter Try.func22, Try.ntmps22
      go_wp2_with (at_builtin; refine wpList_append_run _ rfl _ _ 23 23 rfl _ _ rfl rfl _ _ h1 ?_)
      go_ret2
      exact ⟨_, rfl, by simpa [cutU] using h2, h3⟩
    | some a =>
      have hcap : us.length ≤ cap := by
        by_cases hp : 0 < us.length
        · obtain ⟨a', ha, _, hc, _⟩ := g hp; exact hc
        · omega
      by_cases hcx : cap = x
      · have hz0 : z = 0 := by omega
        subst hcx hz0
        obtain ⟨v', w', h1, h2, h3⟩ := run_fresh_rd w (.slice (some a) 0 0) [] 23 (.inl ⟨_, _, rfl, rfl⟩) (by simp)
        rw [show cutU us cap 0 = [] by simp [cutU]]
        go_enter Try.func22, Try.ntmps22
        go_wp2_with (at_builtin; refine wpList_append_run _ rfl _ _ 23 23 rfl _ _ rfl rfl _ _ h1 ?_)
        go_ret2
        exact ⟨_, rfl, by simpa using h2, h3⟩
      · have hr2 : RdU w (.slice (some (a.add x)) (x + z - x) (cap - x)) (cutU us x z) := by rw [show x + z - x = z by omega]; exact rd_cut hr hcap x z hzl
        obtain ⟨v', w', h1, h2, h3⟩ := run_fresh_rd w _ _ 23 hr2 (by rw [cutU_len]; omega)
        go_enter Try.func22, Try.ntmps22
        go_wp2_with (at_builtin; refine wpList_append_run _ rfl _ _ 23 23 rfl _ _ rfl rfl _ _ h1 ?_)
        go_ret2
        exact ⟨_, rfl, by simpa using h2, h3⟩
end Go.Proofs.Ytipkdbhdpmkjcab
