/- The walks of the document's own pcen, one for each stretch of runes. -/
import Derived.Test.YtbefinbihopgfaaDoorRefRunes
import Derived.BigGuard
namespace Go.Proofs.YtbefinbihopgfaaDoor
open Go.RowKit


set_option maxHeartbeats 12000000 in
theorem rpcen_2 (r : Int) (w : World) (g1 : 95 ≤ r) (g2 : r ≤ 95) :
    Calls Tryd.prog 56 #[.int .i32 r] w fun e w' => e = .returned (.bool true) ∧ w' = w := by
  obtain rfl : r = 95 := by omega
  clear g1 g2
  go_enter Tryd.func56, Tryd.ntmps56
  go_wp2
  all_goals (go_ret; exact ⟨rfl, rfl⟩)

set_option maxHeartbeats 12000000 in
theorem rpcen_10 (r : Int) (w : World) (g2 : r ≤ 44) :
    Calls Tryd.prog 56 #[.int .i32 r] w fun e w' => e = .returned (.bool false) ∧ w' = w := by
  have m1 : decide (48 ≤ r) = false := decide_eq_false (by omega)
  have m2 : decide (97 ≤ r) = false := decide_eq_false (by omega)
  have m3 : decide (192 ≤ r) = false := decide_eq_false (by omega)
  have m4 : decide (216 ≤ r) = false := decide_eq_false (by omega)
  have m5 : decide (248 ≤ r) = false := decide_eq_false (by omega)
  have m6 : decide (8255 ≤ r) = false := decide_eq_false (by omega)
  have m7 : (r == 45) = false := beq_eq_false_iff_ne.2 (by omega)
  have m8 : (r == 46) = false := beq_eq_false_iff_ne.2 (by omega)
  have m9 : (r == 95) = false := beq_eq_false_iff_ne.2 (by omega)
  have m10 : (r == 183) = false := beq_eq_false_iff_ne.2 (by omega)
  have mw : decide (895 ≤ r) = false := decide_eq_false (by omega)
  clear g2
  go_enter Tryd.func56, Tryd.ntmps56
  go_wp2
  all_goals (go_ret; exact ⟨rfl, rfl⟩)

set_option maxHeartbeats 12000000 in
theorem rpcen_18 (r : Int) (w : World) (g1 : 894 ≤ r) (g2 : r ≤ 894) :
    Calls Tryd.prog 56 #[.int .i32 r] w fun e w' => e = .returned (.bool false) ∧ w' = w := by
  obtain rfl : r = 894 := by omega
  clear g1 g2
  go_enter Tryd.func56, Tryd.ntmps56
  go_wp2
  all_goals (go_ret; exact ⟨rfl, rfl⟩)
end Go.Proofs.YtbefinbihopgfaaDoor
