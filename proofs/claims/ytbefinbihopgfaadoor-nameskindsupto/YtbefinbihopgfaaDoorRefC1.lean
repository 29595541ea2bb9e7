/- The walks of the document's own pcen, one for each stretch of runes. -/
import Derived.Test.YtbefinbihopgfaaDoorRefRunes
import Derived.BigGuard
namespace Go.Proofs.YtbefinbihopgfaaDoor
open Go.RowKit


set_option maxHeartbeats 12000000 in
theorem rpcen_0 (r : Int) (w : World) (g1 : 45 ≤ r) (g2 : r ≤ 45) :
    Calls Tryd.prog 56 #[.int .i32 r] w fun e w' => e = .returned (.bool true) ∧ w' = w := by
  obtain rfl : r = 45 := by omega
  clear g1 g2
  go_enter Tryd.func56, Tryd.ntmps56
  go_wp2
  all_goals (go_ret; exact ⟨rfl, rfl⟩)

set_option maxHeartbeats 12000000 in
theorem rpcen_8 (r : Int) (w : World) (g1 : 248 ≤ r) (g2 : r ≤ 893) :
    Calls Tryd.prog 56 #[.int .i32 r] w fun e w' => e = .returned (.bool true) ∧ w' = w := by
  have m1 : decide (48 ≤ r) = true := decide_eq_true (by omega)
  have m2 : decide (r ≤ 57) = false := decide_eq_false (by omega)
  have m3 : decide (97 ≤ r) = true := decide_eq_true (by omega)
  have m4 : decide (r ≤ 122) = false := decide_eq_false (by omega)
  have m5 : decide (192 ≤ r) = true := decide_eq_true (by omega)
  have m6 : decide (r ≤ 214) = false := decide_eq_false (by omega)
  have m7 : decide (216 ≤ r) = true := decide_eq_true (by omega)
  have m8 : decide (r ≤ 246) = false := decide_eq_false (by omega)
  have m9 : decide (248 ≤ r) = true := decide_eq_true (by omega)
  have m10 : decide (r ≤ 893) = true := decide_eq_true (by omega)
  have m11 : decide (8255 ≤ r) = false := decide_eq_false (by omega)
  have m12 : (r == 45) = false := beq_eq_false_iff_ne.2 (by omega)
  have m13 : (r == 46) = false := beq_eq_false_iff_ne.2 (by omega)
  have m14 : (r == 95) = false := beq_eq_false_iff_ne.2 (by omega)
  have m15 : (r == 183) = false := beq_eq_false_iff_ne.2 (by omega)
  have mw : decide (895 ≤ r) = false := decide_eq_false (by omega)
  clear g1 g2
  go_enter Tryd.func56, Tryd.ntmps56
  go_wp2
  all_goals (go_ret; exact ⟨rfl, rfl⟩)

set_option maxHeartbeats 12000000 in
theorem rpcen_16 (r : Int) (w : World) (g1 : 215 ≤ r) (g2 : r ≤ 215) :
    Calls Tryd.prog 56 #[.int .i32 r] w fun e w' => e = .returned (.bool false) ∧ w' = w := by
  obtain rfl : r = 215 := by omega
  clear g1 g2
  go_enter Tryd.func56, Tryd.ntmps56
  go_wp2
  all_goals (go_ret; exact ⟨rfl, rfl⟩)
end Go.Proofs.YtbefinbihopgfaaDoor
