/- The walks of what forest asks of kinds. -/
import Derived.Test.YtilacgcjbdkphaaGreatFPlain
import Derived.Test.YtilacgcjbdkphaaGreatProg
import Derived.WalkKit
import Derived.BigGuard
namespace Go.Proofs.YtilacgcjbdkphaaGreat
open Go.RowKit

set_option maxHeartbeats 1000000 in
theorem hasData_any (k : Nat) (w : World) : Calls Tryz.prog 156 #[.int .u8 (k : Int)] w fun e w' => e = .returned (.bool (hasDataK k)) ∧ w' = w := by
  have e1 : ((k : Int) == 3) = (k == 3) := beq_cast k 3
  have e2 : ((k : Int) == 4) = (k == 4) := beq_cast k 4
  have e3 : ((k : Int) == 7) = (k == 7) := beq_cast k 7
  have e4 : ((k : Int) == 8) = (k == 8) := beq_cast k 8
  unfold hasDataK
  generalize (k == 3) = b1 at *
  generalize (k == 4) = b2 at *
  generalize (k == 7) = b3 at *
  generalize (k == 8) = b4 at *
  cases b1 <;> cases b2 <;> cases b3 <;> cases b4
  all_goals
    go_enter Tryz.func156, Tryz.ntmps156
    go_wp2
    go_ret
    exact ⟨rfl, rfl⟩
set_option maxHeartbeats 1000000 in
theorem mayBeTop_any (k : Nat) (w : World) : Calls Tryz.prog 153 #[.int .u8 (k : Int)] w fun e w' => e = .returned (.bool (mayBeTopK k)) ∧ w' = w := by
  have e1 : ((k : Int) == 9) = (k == 9) := beq_cast k 9
  have e2 : ((k : Int) == 11) = (k == 11) := beq_cast k 11
  have e3 : ((k : Int) == 12) = (k == 12) := beq_cast k 12
  unfold mayBeTopK
  generalize (k == 9) = b1 at *
  generalize (k == 11) = b2 at *
  generalize (k == 12) = b3 at *
  cases b1 <;> cases b2 <;> cases b3
  all_goals
    go_enter Tryz.func153, Tryz.ntmps153
    go_wp2
    go_ret
    exact ⟨rfl, rfl⟩
set_option maxHeartbeats 1000000 in
theorem hasLocal_any (k : Nat) (w : World) : Calls Tryz.prog 155 #[.int .u8 (k : Int)] w fun e w' => e = .returned (.bool (hasLocalK k)) ∧ w' = w := by
  have e1 : ((k : Int) == 1) = (k == 1) := beq_cast k 1
  have e2 : ((k : Int) == 10) = (k == 10) := beq_cast k 10
  have e3 : ((k : Int) == 7) = (k == 7) := beq_cast k 7
  unfold hasLocalK
  generalize (k == 1) = b1 at *
  generalize (k == 10) = b2 at *
  generalize (k == 7) = b3 at *
  cases b1 <;> cases b2 <;> cases b3
  all_goals
    go_enter Tryz.func155, Tryz.ntmps155
    go_wp2
    go_ret
    exact ⟨rfl, rfl⟩
set_option maxHeartbeats 1000000 in
theorem mayBeWithin_any (k : Nat) (w : World) : Calls Tryz.prog 151 #[.int .u8 (k : Int)] w fun e w' => e = .returned (.bool (mayBeWithinK k)) ∧ w' = w := by
  have e1 : ((k : Int) == 1) = (k == 1) := beq_cast k 1
  have hD := hasData_any k w
  unfold mayBeWithinK
  generalize (k == 1) = b1 at *
  generalize hasDataK k = b2 at *
  cases b1 <;> cases b2
  all_goals
    go_enter Tryz.func151, Tryz.ntmps151
    go_wp2_with (go_at_call 156; refine hD.mono ?_; rintro e w' ⟨rfl, rfl⟩)
    go_ret
    exact ⟨rfl, rfl⟩
set_option maxHeartbeats 1000000 in
theorem mayHang_any (k : Nat) (w : World) : Calls Tryz.prog 152 #[.int .u8 (k : Int)] w fun e w' => e = .returned (.bool (mayHangK k)) ∧ w' = w := by
  have e1 : ((k : Int) == 10) = (k == 10) := beq_cast k 10
  have hD := mayBeWithin_any k w
  unfold mayHangK
  generalize (k == 10) = b1 at *
  generalize mayBeWithinK k = b2 at *
  cases b1 <;> cases b2
  all_goals
    go_enter Tryz.func152, Tryz.ntmps152
    go_wp2_with (go_at_call 151; refine hD.mono ?_; rintro e w' ⟨rfl, rfl⟩)
    go_ret
    exact ⟨rfl, rfl⟩
set_option maxHeartbeats 1000000 in
theorem known_any (k : Nat) (w : World) : Calls Tryz.prog 143 #[.int .u8 (k : Int)] w fun e w' => e = .returned (.bool (knownK k)) ∧ w' = w := by
  have hD := mayHang_any k w
  have hT := mayBeTop_any k w
  unfold knownK
  generalize mayBeTopK k = b1 at *
  generalize mayHangK k = b2 at *
  cases b1 <;> cases b2
  all_goals
    go_enter Tryz.func143, Tryz.ntmps143
    go_wp2_with (first
      | (go_at_call 152; refine hD.mono ?_; rintro e w' ⟨rfl, rfl⟩)
      | (go_at_call 153; refine hT.mono ?_; rintro e w' ⟨rfl, rfl⟩))
    go_ret
    exact ⟨rfl, rfl⟩
set_option maxHeartbeats 1000000 in
theorem hasKids_any (k : Nat) (w : World) : Calls Tryz.prog 157 #[.int .u8 (k : Int)] w fun e w' => e = .returned (.bool (hasKidsK k)) ∧ w' = w := by
  have e1 : ((k : Int) == 1) = (k == 1) := beq_cast k 1
  have hT := mayBeTop_any k w
  unfold hasKidsK
  generalize mayBeTopK k = b2 at *
  generalize (k == 1) = b1 at *
  cases b1 <;> cases b2
  all_goals
    go_enter Tryz.func157, Tryz.ntmps157
    go_wp2_with (go_at_call 153; refine hT.mono ?_; rintro e w' ⟨rfl, rfl⟩)
    go_ret
    exact ⟨rfl, rfl⟩
end Go.Proofs.YtilacgcjbdkphaaGreat
