/- The walks of the document's own Part, one for each stretch of runes. -/
import Derived.Test.YtbefinbihopgfaaDoorRefRunes
namespace Go.Proofs.YtbefinbihopgfaaDoor
open Go.RowKit

set_option maxHeartbeats 2000000 in
theorem rpart_1 (r : Int) (w : World) (g1 : 46 ≤ r) (g2 : r ≤ 46) (hS : ∀ W, Calls Tryd.prog 46 #[.int .i32 r] W fun e w' => e = .returned (.bool false) ∧ w' = W) :
    Calls Tryd.prog 47 #[.int .i32 r] w fun e w' => e = .returned (.bool true) ∧ w' = w := by
  obtain rfl : r = 46 := by omega
  clear g1 g2
  go_enter Tryd.func47, Tryd.ntmps47
  go_wp2_with fail
  refine (hS _).mono ?_
  rintro e w' ⟨rfl, rfl⟩
  go_wp2
  go_ret
  exact ⟨rfl, rfl⟩

set_option maxHeartbeats 2000000 in
theorem rpart_3 (r : Int) (w : World) (g1 : 48 ≤ r) (g2 : r ≤ 57) (hS : ∀ W, Calls Tryd.prog 46 #[.int .i32 r] W fun e w' => e = .returned (.bool false) ∧ w' = W) :
    Calls Tryd.prog 47 #[.int .i32 r] w fun e w' => e = .returned (.bool true) ∧ w' = w := by
  have m1 : decide (48 ≤ r) = true := decide_eq_true (by omega)
  have m2 : decide (r ≤ 57) = true := decide_eq_true (by omega)
  have m3 : decide (768 ≤ r) = false := decide_eq_false (by omega)
  have m4 : decide (8255 ≤ r) = false := decide_eq_false (by omega)
  have m5 : (r == 45) = false := beq_eq_false_iff_ne.2 (by omega)
  have m6 : (r == 46) = false := beq_eq_false_iff_ne.2 (by omega)
  have m7 : (r == 183) = false := beq_eq_false_iff_ne.2 (by omega)
  clear g1 g2
  go_enter Tryd.func47, Tryd.ntmps47
  go_wp2_with fail
  refine (hS _).mono ?_
  rintro e w' ⟨rfl, rfl⟩
  go_wp2
  go_ret
  exact ⟨rfl, rfl⟩

set_option maxHeartbeats 2000000 in
theorem rpart_5 (r : Int) (w : World) (g1 : 8255 ≤ r) (g2 : r ≤ 8256) (hS : ∀ W, Calls Tryd.prog 46 #[.int .i32 r] W fun e w' => e = .returned (.bool false) ∧ w' = W) :
    Calls Tryd.prog 47 #[.int .i32 r] w fun e w' => e = .returned (.bool true) ∧ w' = w := by
  have m1 : decide (48 ≤ r) = true := decide_eq_true (by omega)
  have m2 : decide (r ≤ 57) = false := decide_eq_false (by omega)
  have m3 : decide (768 ≤ r) = true := decide_eq_true (by omega)
  have m4 : decide (r ≤ 879) = false := decide_eq_false (by omega)
  have m5 : decide (8255 ≤ r) = true := decide_eq_true (by omega)
  have m6 : decide (r ≤ 8256) = true := decide_eq_true (by omega)
  have m7 : (r == 45) = false := beq_eq_false_iff_ne.2 (by omega)
  have m8 : (r == 46) = false := beq_eq_false_iff_ne.2 (by omega)
  have m9 : (r == 183) = false := beq_eq_false_iff_ne.2 (by omega)
  clear g1 g2
  go_enter Tryd.func47, Tryd.ntmps47
  go_wp2_with fail
  refine (hS _).mono ?_
  rintro e w' ⟨rfl, rfl⟩
  go_wp2
  go_ret
  exact ⟨rfl, rfl⟩

set_option maxHeartbeats 2000000 in
theorem rpart_7 (r : Int) (w : World) (g1 : 58 ≤ r) (g2 : r ≤ 767) (q183 : r ≠ 183) (hS : ∀ W, Calls Tryd.prog 46 #[.int .i32 r] W fun e w' => e = .returned (.bool false) ∧ w' = W) :
    Calls Tryd.prog 47 #[.int .i32 r] w fun e w' => e = .returned (.bool false) ∧ w' = w := by
  have m1 : decide (48 ≤ r) = true := decide_eq_true (by omega)
  have m2 : decide (r ≤ 57) = false := decide_eq_false (by omega)
  have m3 : decide (768 ≤ r) = false := decide_eq_false (by omega)
  have m4 : decide (8255 ≤ r) = false := decide_eq_false (by omega)
  have m5 : (r == 45) = false := beq_eq_false_iff_ne.2 (by omega)
  have m6 : (r == 46) = false := beq_eq_false_iff_ne.2 (by omega)
  have m7 : (r == 183) = false := beq_eq_false_iff_ne.2 (by omega)
  clear g1 g2 q183
  go_enter Tryd.func47, Tryd.ntmps47
  go_wp2_with fail
  refine (hS _).mono ?_
  rintro e w' ⟨rfl, rfl⟩
  go_wp2
  go_ret
  exact ⟨rfl, rfl⟩

set_option maxHeartbeats 2000000 in
theorem rpart_9 (r : Int) (w : World) (g1 : 8257 ≤ r) (hS : ∀ W, Calls Tryd.prog 46 #[.int .i32 r] W fun e w' => e = .returned (.bool false) ∧ w' = W) :
    Calls Tryd.prog 47 #[.int .i32 r] w fun e w' => e = .returned (.bool false) ∧ w' = w := by
  have m1 : decide (48 ≤ r) = true := decide_eq_true (by omega)
  have m2 : decide (r ≤ 57) = false := decide_eq_false (by omega)
  have m3 : decide (768 ≤ r) = true := decide_eq_true (by omega)
  have m4 : decide (r ≤ 879) = false := decide_eq_false (by omega)
  have m5 : decide (8255 ≤ r) = true := decide_eq_true (by omega)
  have m6 : decide (r ≤ 8256) = false := decide_eq_false (by omega)
  have m7 : (r == 45) = false := beq_eq_false_iff_ne.2 (by omega)
  have m8 : (r == 46) = false := beq_eq_false_iff_ne.2 (by omega)
  have m9 : (r == 183) = false := beq_eq_false_iff_ne.2 (by omega)
  clear g1
  go_enter Tryd.func47, Tryd.ntmps47
  go_wp2_with fail
  refine (hS _).mono ?_
  rintro e w' ⟨rfl, rfl⟩
  go_wp2
  go_ret
  exact ⟨rfl, rfl⟩
end Go.Proofs.YtbefinbihopgfaaDoor
