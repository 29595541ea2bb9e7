/- The walks of the document's own wide, one for each stretch of runes. -/
import Derived.Test.YtbefinbihopgfaaDoorRefRunes
namespace Go.Proofs.YtbefinbihopgfaaDoor
open Go.RowKit

set_option maxHeartbeats 2000000 in
theorem wide_1 (r : Int) (w : World) (g1 : 895 ≤ r) (g2 : r ≤ 8191) :
    Calls Tryd.prog 76 #[.int .i32 r] w fun e w' => e = .returned (.bool true) ∧ w' = w := by
  have m1 : decide (880 ≤ r) = true := decide_eq_true (by omega)
  have m2 : decide (r ≤ 893) = false := decide_eq_false (by omega)
  have m3 : decide (895 ≤ r) = true := decide_eq_true (by omega)
  have m4 : decide (r ≤ 8191) = true := decide_eq_true (by omega)
  have m5 : decide (8204 ≤ r) = false := decide_eq_false (by omega)
  have m6 : decide (8304 ≤ r) = false := decide_eq_false (by omega)
  have m7 : decide (11264 ≤ r) = false := decide_eq_false (by omega)
  have m8 : decide (12289 ≤ r) = false := decide_eq_false (by omega)
  have m9 : decide (63744 ≤ r) = false := decide_eq_false (by omega)
  have m10 : decide (65008 ≤ r) = false := decide_eq_false (by omega)
  have m11 : decide (65536 ≤ r) = false := decide_eq_false (by omega)
  clear g1 g2
  go_enter Tryd.func76, Tryd.ntmps76
  go_wp2
  all_goals (go_ret; exact ⟨rfl, rfl⟩)

set_option maxHeartbeats 2000000 in
theorem wide_7 (r : Int) (w : World) (g1 : 65008 ≤ r) (g2 : r ≤ 65533) :
    Calls Tryd.prog 76 #[.int .i32 r] w fun e w' => e = .returned (.bool true) ∧ w' = w := by
  have m1 : decide (880 ≤ r) = true := decide_eq_true (by omega)
  have m2 : decide (r ≤ 893) = false := decide_eq_false (by omega)
  have m3 : decide (895 ≤ r) = true := decide_eq_true (by omega)
  have m4 : decide (r ≤ 8191) = false := decide_eq_false (by omega)
  have m5 : decide (8204 ≤ r) = true := decide_eq_true (by omega)
  have m6 : decide (r ≤ 8205) = false := decide_eq_false (by omega)
  have m7 : decide (8304 ≤ r) = true := decide_eq_true (by omega)
  have m8 : decide (r ≤ 8591) = false := decide_eq_false (by omega)
  have m9 : decide (11264 ≤ r) = true := decide_eq_true (by omega)
  have m10 : decide (r ≤ 12271) = false := decide_eq_false (by omega)
  have m11 : decide (12289 ≤ r) = true := decide_eq_true (by omega)
  have m12 : decide (r ≤ 55295) = false := decide_eq_false (by omega)
  have m13 : decide (63744 ≤ r) = true := decide_eq_true (by omega)
  have m14 : decide (r ≤ 64975) = false := decide_eq_false (by omega)
  have m15 : decide (65008 ≤ r) = true := decide_eq_true (by omega)
  have m16 : decide (r ≤ 65533) = true := decide_eq_true (by omega)
  have m17 : decide (65536 ≤ r) = false := decide_eq_false (by omega)
  clear g1 g2
  go_enter Tryd.func76, Tryd.ntmps76
  go_wp2
  all_goals (go_ret; exact ⟨rfl, rfl⟩)

set_option maxHeartbeats 2000000 in
theorem wide_13 (r : Int) (w : World) (g1 : 8592 ≤ r) (g2 : r ≤ 11263) :
    Calls Tryd.prog 76 #[.int .i32 r] w fun e w' => e = .returned (.bool false) ∧ w' = w := by
  have m1 : decide (880 ≤ r) = true := decide_eq_true (by omega)
  have m2 : decide (r ≤ 893) = false := decide_eq_false (by omega)
  have m3 : decide (895 ≤ r) = true := decide_eq_true (by omega)
  have m4 : decide (r ≤ 8191) = false := decide_eq_false (by omega)
  have m5 : decide (8204 ≤ r) = true := decide_eq_true (by omega)
  have m6 : decide (r ≤ 8205) = false := decide_eq_false (by omega)
  have m7 : decide (8304 ≤ r) = true := decide_eq_true (by omega)
  have m8 : decide (r ≤ 8591) = false := decide_eq_false (by omega)
  have m9 : decide (11264 ≤ r) = false := decide_eq_false (by omega)
  have m10 : decide (12289 ≤ r) = false := decide_eq_false (by omega)
  have m11 : decide (63744 ≤ r) = false := decide_eq_false (by omega)
  have m12 : decide (65008 ≤ r) = false := decide_eq_false (by omega)
  have m13 : decide (65536 ≤ r) = false := decide_eq_false (by omega)
  clear g1 g2
  go_enter Tryd.func76, Tryd.ntmps76
  go_wp2
  all_goals (go_ret; exact ⟨rfl, rfl⟩)
end Go.Proofs.YtbefinbihopgfaaDoor
