/- The small functions of units, and how a slice of units is read. -/
import Derived.Test.YtbefinbihopgfaaDoorUOf
namespace Go.Proofs.YtbefinbihopgfaaDoor
open Go.RowKit Go.Lib

/-- What lies from an address on: these units. -/
def CellsU (w : World) (a : Addr) (us : List Nat) : Prop := ∀ (j : Nat) (h : j < us.length), w.cell? (a.add j) = some (unitV us[j])

theorem isHigh_any (x : Nat) (w : World) : Calls Tryd.prog 63 #[unitV x] w fun e w' => e = .returned (.bool (hiB x)) ∧ w' = w := by
  unfold hiB unitV
  by_cases h1 : 55296 ≤ x
  · by_cases h2 : x < 56320
    · have g1 : (55296 : Int) ≤ (x : Int) := by omega
      have g2 : (x : Int) < 56320 := by omega
      rw [decide_eq_true ⟨h1, h2⟩]
      go_enter Tryd.func63, Tryd.ntmps63
      go_wp2
      go_ret
      exact ⟨rfl, rfl⟩
    · have g1 : (55296 : Int) ≤ (x : Int) := by omega
      have g2 : ¬ (x : Int) < 56320 := by omega
      rw [decide_eq_false (fun h => h2 h.2)]
      go_enter Tryd.func63, Tryd.ntmps63
      go_wp2
      go_ret
      exact ⟨rfl, rfl⟩
  · have g1 : ¬ (55296 : Int) ≤ (x : Int) := by omega
    rw [decide_eq_false (fun h => h1 h.1)]
    go_enter Tryd.func63, Tryd.ntmps63
    go_wp2
    go_ret
    exact ⟨rfl, rfl⟩
theorem isLow_any (x : Nat) (w : World) : Calls Tryd.prog 64 #[unitV x] w fun e w' => e = .returned (.bool (loB x)) ∧ w' = w := by
  unfold loB unitV
  by_cases h1 : 56320 ≤ x
  · by_cases h2 : x < 57344
    · have g1 : (56320 : Int) ≤ (x : Int) := by omega
      have g2 : (x : Int) ≤ 57343 := by omega
      rw [decide_eq_true ⟨h1, h2⟩]
      go_enter Tryd.func64, Tryd.ntmps64
      go_wp2
      go_ret
      exact ⟨rfl, rfl⟩
    · have g1 : (56320 : Int) ≤ (x : Int) := by omega
      have g2 : ¬ (x : Int) ≤ 57343 := by omega
      rw [decide_eq_false (fun h => h2 h.2)]
      go_enter Tryd.func64, Tryd.ntmps64
      go_wp2
      go_ret
      exact ⟨rfl, rfl⟩
  · have g1 : ¬ (56320 : Int) ≤ (x : Int) := by omega
    rw [decide_eq_false (fun h => h1 h.1)]
    go_enter Tryd.func64, Tryd.ntmps64
    go_wp2
    go_ret
    exact ⟨rfl, rfl⟩

set_option maxHeartbeats 1000000 in
theorem beginsPair_any (a : Addr) (us : List Nat) (cap : Nat) (w : World) (hc : CellsU w a us) :
    Calls Tryd.prog 62 #[.slice (some a) us.length cap] w fun e w' => e = .returned (.bool (pairB us)) ∧ w' = w := by
  match us, hc with
  | [], hc =>
    go_enter Tryd.func62, Tryd.ntmps62
    go_wp2
    go_ret
    exact ⟨rfl, rfl⟩
  | [x], hc =>
    go_enter Tryd.func62, Tryd.ntmps62
    go_wp2
    go_ret
    exact ⟨rfl, rfl⟩
  | x :: y :: t, hc =>
    have c0 : w.cell? (a.add 0) = some (unitV x) := hc 0 (by simp)
    have c1 : w.cell? (a.add 1) = some (unitV y) := hc 1 (by simp)
    have hl : (x :: y :: t).length = t.length + 2 := rfl
    rw [hl]
    have hH := isHigh_any x w
    have hL := isLow_any y w
    rw [show pairB (x :: y :: t) = (hiB x && loB y) from rfl]
    generalize hiB x = b1 at hH ⊢
    generalize loB y = b2 at hL ⊢
    unfold unitV at c0 c1 hH hL
    have g1 : (1 : Int) < ((t.length + 2 : Nat) : Int) := by omega
    have g2 : (0 : Int) < ((t.length + 2 : Nat) : Int) := by omega
    rw [Addr.add_zero'] at c0
    rw [show (1 : Nat) = 0 + 1 from rfl, Addr.add_succ'] at c1
    simp only [Nat.zero_add] at c1
    cases b1
    · go_enter Tryd.func62, Tryd.ntmps62
      go_wp2_with (go_at_call 63; refine hH.mono ?_; rintro e w' ⟨rfl, rfl⟩)
      go_ret
      exact ⟨rfl, rfl⟩
    · go_enter Tryd.func62, Tryd.ntmps62
      go_wp2_with (first
        | (go_at_call 63; refine hH.mono ?_; rintro e w' ⟨rfl, rfl⟩)
        | (go_at_call 64; refine hL.mono ?_; rintro e w' ⟨rfl, rfl⟩))
      go_ret
      exact ⟨rfl, rfl⟩
end Go.Proofs.YtbefinbihopgfaaDoor
