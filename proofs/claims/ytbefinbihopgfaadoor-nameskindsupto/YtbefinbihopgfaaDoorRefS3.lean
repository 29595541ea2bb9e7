/- The walks of the document's own Start, one for each stretch of runes. -/
import Derived.Test.YtbefinbihopgfaaDoorRefRunes
namespace Go.Proofs.YtbefinbihopgfaaDoor
open Go.RowKit

set_option maxHeartbeats 2000000 in
theorem rstart_2 (r : Int) (w : World) (g1 : 65 ≤ r) (g2 : r ≤ 90) :
    Calls Tryd.prog 46 #[.int .i32 r] w fun e w' => e = .returned (.bool true) ∧ w' = w := by
  have m1 : decide (65 ≤ r) = true := decide_eq_true (by omega)
  have m2 : decide (r ≤ 90) = true := decide_eq_true (by omega)
  have m3 : decide (97 ≤ r) = false := decide_eq_false (by omega)
  have m4 : decide (192 ≤ r) = false := decide_eq_false (by omega)
  have m5 : decide (216 ≤ r) = false := decide_eq_false (by omega)
  have m6 : decide (248 ≤ r) = false := decide_eq_false (by omega)
  have m7 : (r == 58) = false := beq_eq_false_iff_ne.2 (by omega)
  have m8 : (r == 95) = false := beq_eq_false_iff_ne.2 (by omega)
  clear g1 g2
  go_enter Tryd.func46, Tryd.ntmps46
  go_wp2
  go_ret
  exact ⟨rfl, rfl⟩

set_option maxHeartbeats 2000000 in
theorem rstart_5 (r : Int) (w : World) (g1 : 216 ≤ r) (g2 : r ≤ 246) :
    Calls Tryd.prog 46 #[.int .i32 r] w fun e w' => e = .returned (.bool true) ∧ w' = w := by
  have m1 : decide (65 ≤ r) = true := decide_eq_true (by omega)
  have m2 : decide (r ≤ 90) = false := decide_eq_false (by omega)
  have m3 : decide (97 ≤ r) = true := decide_eq_true (by omega)
  have m4 : decide (r ≤ 122) = false := decide_eq_false (by omega)
  have m5 : decide (192 ≤ r) = true := decide_eq_true (by omega)
  have m6 : decide (r ≤ 214) = false := decide_eq_false (by omega)
  have m7 : decide (216 ≤ r) = true := decide_eq_true (by omega)
  have m8 : decide (r ≤ 246) = true := decide_eq_true (by omega)
  have m9 : decide (248 ≤ r) = false := decide_eq_false (by omega)
  have m10 : (r == 58) = false := beq_eq_false_iff_ne.2 (by omega)
  have m11 : (r == 95) = false := beq_eq_false_iff_ne.2 (by omega)
  clear g1 g2
  go_enter Tryd.func46, Tryd.ntmps46
  go_wp2
  go_ret
  exact ⟨rfl, rfl⟩

set_option maxHeartbeats 2000000 in
theorem rstart_8 (r : Int) (w : World) (g1 : 59 ≤ r) (g2 : r ≤ 64) (b : Bool) (hW : ∀ W, Calls Tryd.prog 76 #[.int .i32 r] W fun e w' => e = .returned (.bool b) ∧ w' = W) :
    Calls Tryd.prog 46 #[.int .i32 r] w fun e w' => e = .returned (.bool b) ∧ w' = w := by
  have m1 : decide (65 ≤ r) = false := decide_eq_false (by omega)
  have m2 : decide (97 ≤ r) = false := decide_eq_false (by omega)
  have m3 : decide (192 ≤ r) = false := decide_eq_false (by omega)
  have m4 : decide (216 ≤ r) = false := decide_eq_false (by omega)
  have m5 : decide (248 ≤ r) = false := decide_eq_false (by omega)
  have m6 : (r == 58) = false := beq_eq_false_iff_ne.2 (by omega)
  have m7 : (r == 95) = false := beq_eq_false_iff_ne.2 (by omega)
  clear g1 g2
  go_enter Tryd.func46, Tryd.ntmps46
  go_wp2_with fail
  refine (hW _).mono ?_
  rintro e w' ⟨rfl, rfl⟩
  go_wp2
  go_ret
  exact ⟨rfl, rfl⟩

set_option maxHeartbeats 2000000 in
theorem rstart_11 (r : Int) (w : World) (g1 : 123 ≤ r) (g2 : r ≤ 191) (b : Bool) (hW : ∀ W, Calls Tryd.prog 76 #[.int .i32 r] W fun e w' => e = .returned (.bool b) ∧ w' = W) :
    Calls Tryd.prog 46 #[.int .i32 r] w fun e w' => e = .returned (.bool b) ∧ w' = w := by
  have m1 : decide (65 ≤ r) = true := decide_eq_true (by omega)
  have m2 : decide (r ≤ 90) = false := decide_eq_false (by omega)
  have m3 : decide (97 ≤ r) = true := decide_eq_true (by omega)
  have m4 : decide (r ≤ 122) = false := decide_eq_false (by omega)
  have m5 : decide (192 ≤ r) = false := decide_eq_false (by omega)
  have m6 : decide (216 ≤ r) = false := decide_eq_false (by omega)
  have m7 : decide (248 ≤ r) = false := decide_eq_false (by omega)
  have m8 : (r == 58) = false := beq_eq_false_iff_ne.2 (by omega)
  have m9 : (r == 95) = false := beq_eq_false_iff_ne.2 (by omega)
  clear g1 g2
  go_enter Tryd.func46, Tryd.ntmps46
  go_wp2_with fail
  refine (hW _).mono ?_
  rintro e w' ⟨rfl, rfl⟩
  go_wp2
  go_ret
  exact ⟨rfl, rfl⟩

set_option maxHeartbeats 2000000 in
theorem rstart_14 (r : Int) (w : World) (g1 : 768 ≤ r) (b : Bool) (hW : ∀ W, Calls Tryd.prog 76 #[.int .i32 r] W fun e w' => e = .returned (.bool b) ∧ w' = W) :
    Calls Tryd.prog 46 #[.int .i32 r] w fun e w' => e = .returned (.bool b) ∧ w' = w := by
  have m1 : decide (65 ≤ r) = true := decide_eq_true (by omega)
  have m2 : decide (r ≤ 90) = false := decide_eq_false (by omega)
  have m3 : decide (97 ≤ r) = true := decide_eq_true (by omega)
  have m4 : decide (r ≤ 122) = false := decide_eq_false (by omega)
  have m5 : decide (192 ≤ r) = true := decide_eq_true (by omega)
  have m6 : decide (r ≤ 214) = false := decide_eq_false (by omega)
  have m7 : decide (216 ≤ r) = true := decide_eq_true (by omega)
  have m8 : decide (r ≤ 246) = false := decide_eq_false (by omega)
  have m9 : decide (248 ≤ r) = true := decide_eq_true (by omega)
  have m10 : decide (r ≤ 767) = false := decide_eq_false (by omega)
  have m11 : (r == 58) = false := beq_eq_false_iff_ne.2 (by omega)
  have m12 : (r == 95) = false := beq_eq_false_iff_ne.2 (by omega)
  clear g1
  go_enter Tryd.func46, Tryd.ntmps46
  go_wp2_with fail
  refine (hW _).mono ?_
  rintro e w' ⟨rfl, rfl⟩
  go_wp2
  go_ret
  exact ⟨rfl, rfl⟩
end Go.Proofs.YtbefinbihopgfaaDoor
