/- The walks of the document's own Start, one for each stretch of runes. -/
import Derived.Test.YtbefinbihopgfaaDoorRefRunes
namespace Go.Proofs.YtbefinbihopgfaaDoor
open Go.RowKit

set_option maxHeartbeats 2000000 in
theorem rstart_1 (r : Int) (w : World) (g1 : 95 ≤ r) (g2 : r ≤ 95) :
    Calls Tryd.prog 46 #[.int .i32 r] w fun e w' => e = .returned (.bool true) ∧ w' = w := by
  obtain rfl : r = 95 := by omega
  clear g1 g2
  go_enter Tryd.func46, Tryd.ntmps46
  go_wp2
  go_ret
  exact ⟨rfl, rfl⟩

set_option maxHeartbeats 2000000 in
theorem rstart_4 (r : Int) (w : World) (g1 : 192 ≤ r) (g2 : r ≤ 214) :
    Calls Tryd.prog 46 #[.int .i32 r] w fun e w' => e = .returned (.bool true) ∧ w' = w := by
  have m1 : decide (65 ≤ r) = true := decide_eq_true (by omega)
  have m2 : decide (r ≤ 90) = false := decide_eq_false (by omega)
  have m3 : decide (97 ≤ r) = true := decide_eq_true (by omega)
  have m4 : decide (r ≤ 122) = false := decide_eq_false (by omega)
  have m5 : decide (192 ≤ r) = true := decide_eq_true (by omega)
  have m6 : decide (r ≤ 214) = true := decide_eq_true (by omega)
  have m7 : decide (216 ≤ r) = false := decide_eq_false (by omega)
  have m8 : decide (248 ≤ r) = false := decide_eq_false (by omega)
  have m9 : (r == 58) = false := beq_eq_false_iff_ne.2 (by omega)
  have m10 : (r == 95) = false := beq_eq_false_iff_ne.2 (by omega)
  clear g1 g2
  go_enter Tryd.func46, Tryd.ntmps46
  go_wp2
  go_ret
  exact ⟨rfl, rfl⟩

set_option maxHeartbeats 2000000 in
theorem rstart_7 (r : Int) (w : World) (g2 : r ≤ 57) (b : Bool) (hW : ∀ W, Calls Tryd.prog 76 #[.int .i32 r] W fun e w' => e = .returned (.bool b) ∧ w' = W) :
    Calls Tryd.prog 46 #[.int .i32 r] w fun e w' => e = .returned (.bool b) ∧ w' = w := by
  have m1 : decide (65 ≤ r) = false := decide_eq_false (by omega)
  have m2 : decide (97 ≤ r) = false := decide_eq_false (by omega)
  have m3 : decide (192 ≤ r) = false := decide_eq_false (by omega)
  have m4 : decide (216 ≤ r) = false := decide_eq_false (by omega)
  have m5 : decide (248 ≤ r) = false := decide_eq_false (by omega)
  have m6 : (r == 58) = false := beq_eq_false_iff_ne.2 (by omega)
  have m7 : (r == 95) = false := beq_eq_false_iff_ne.2 (by omega)
  clear g2
  go_enter Tryd.func46, Tryd.ntmps46
  go_wp2_with fail
  refine (hW _).mono ?_
  rintro e w' ⟨rfl, rfl⟩
  go_wp2
  go_ret
  exact ⟨rfl, rfl⟩

set_option maxHeartbeats 2000000 in
theorem rstart_10 (r : Int) (w : World) (g1 : 96 ≤ r) (g2 : r ≤ 96) (b : Bool) (hW : ∀ W, Calls Tryd.prog 76 #[.int .i32 r] W fun e w' => e = .returned (.bool b) ∧ w' = W) :
    Calls Tryd.prog 46 #[.int .i32 r] w fun e w' => e = .returned (.bool b) ∧ w' = w := by
  obtain rfl : r = 96 := by omega
  clear g1 g2
  go_enter Tryd.func46, Tryd.ntmps46
  go_wp2_with fail
  refine (hW _).mono ?_
  rintro e w' ⟨rfl, rfl⟩
  go_wp2
  go_ret
  exact ⟨rfl, rfl⟩

set_option maxHeartbeats 2000000 in
theorem rstart_13 (r : Int) (w : World) (g1 : 247 ≤ r) (g2 : r ≤ 247) (b : Bool) (hW : ∀ W, Calls Tryd.prog 76 #[.int .i32 r] W fun e w' => e = .returned (.bool b) ∧ w' = W) :
    Calls Tryd.prog 46 #[.int .i32 r] w fun e w' => e = .returned (.bool b) ∧ w' = w := by
  obtain rfl : r = 247 := by omega
  clear g1 g2
  go_enter Tryd.func46, Tryd.ntmps46
  go_wp2_with fail
  refine (hW _).mono ?_
  rintro e w' ⟨rfl, rfl⟩
  go_wp2
  go_ret
  exact ⟨rfl, rfl⟩
end Go.Proofs.YtbefinbihopgfaaDoor
