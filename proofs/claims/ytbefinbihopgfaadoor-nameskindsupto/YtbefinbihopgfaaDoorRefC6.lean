/- The walks of the document's own pcen, one for each stretch of runes. -/
import Derived.Test.YtbefinbihopgfaaDoorRefRunes
import Derived.BigGuard
namespace Go.Proofs.YtbefinbihopgfaaDoor
open Go.RowKit


set_option maxHeartbeats 12000000 in
theorem rpcen_5 (r : Int) (w : World) (g1 : 97 ≤ r) (g2 : r ≤ 122) :
    Calls Tryd.prog 56 #[.int .i32 r] w fun e w' => e = .returned (.bool true) ∧ w' = w := by
  have m1 : decide (48 ≤ r) = true := decide_eq_true (by omega)
  have m2 : decide (r ≤ 57) = false := decide_eq_false (by omega)
  have m3 : decide (97 ≤ r) = true := decide_eq_true (by omega)
  have m4 : decide (r ≤ 122) = true := decide_eq_true (by omega)
  have m5 : decide (192 ≤ r) = false := decide_eq_false (by omega)
  have m6 : decide (216 ≤ r) = false := decide_eq_false (by omega)
  have m7 : decide (248 ≤ r) = false := decide_eq_false (by omega)
  have m8 : decide (8255 ≤ r) = false := decide_eq_false (by omega)
  have m9 : (r == 45) = false := beq_eq_false_iff_ne.2 (by omega)
  have m10 : (r == 46) = false := beq_eq_false_iff_ne.2 (by omega)
  have m11 : (r == 95) = false := beq_eq_false_iff_ne.2 (by omega)
  have m12 : (r == 183) = false := beq_eq_false_iff_ne.2 (by omega)
  have mw : decide (895 ≤ r) = false := decide_eq_false (by omega)
  clear g1 g2
  go_enter Tryd.func56, Tryd.ntmps56
  go_wp2
  all_goals (go_ret; exact ⟨rfl, rfl⟩)

set_option maxHeartbeats 12000000 in
theorem rpcen_13 (r : Int) (w : World) (g1 : 96 ≤ r) (g2 : r ≤ 96) :
    Calls Tryd.prog 56 #[.int .i32 r] w fun e w' => e = .returned (.bool false) ∧ w' = w := by
  obtain rfl : r = 96 := by omega
  clear g1 g2
  go_enter Tryd.func56, Tryd.ntmps56
  go_wp2
  all_goals (go_ret; exact ⟨rfl, rfl⟩)
end Go.Proofs.YtbefinbihopgfaaDoor
