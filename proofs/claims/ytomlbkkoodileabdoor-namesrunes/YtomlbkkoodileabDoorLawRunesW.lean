/- The walk of the law NamesRunes, over the walks of what it calls. -/
import Derived.Test.YtomlbkkoodileabDoorBegins
namespace Go.Proofs.YtomlbkkoodileabDoor
open Go.RowKit Go.Lib

set_option maxHeartbeats 1000000 in
theorem runesLaw_of (r : Int) (w : World) (h : Laid w)
    (hRS : ∀ W, Calls Tryd.prog 9 #[.int .i32 r] W fun e w' => e = .returned (.bool (startB r)) ∧ w' = W)
    (hRP : ∀ W, Calls Tryd.prog 11 #[.int .i32 r] W fun e w' => e = .returned (.bool (partB r)) ∧ w' = W) :
    Calls Tryd.prog 3 #[.int .i32 r] w fun e w' => e = .returned (.bool true) ∧ Below w.heap.size w w' := by
  have hS : ∀ W, Laid W → Calls Tryd.prog 8 #[.int .i32 r] W fun e w' => e = .returned (.bool (startB r)) ∧ Below W.heap.size W w' := fun W hW => by
    obtain ⟨tt, fz, hg⟩ := hW.spans
    exact start_any r W tt fz hg
  have hP : ∀ W, Laid W → Calls Tryd.prog 10 #[.int .i32 r] W fun e w' => e = .returned (.bool (partB r)) ∧ Below W.heap.size W w' := fun W hW => by
    obtain ⟨tt, fz, hg⟩ := hW.spans
    exact part_any r W tt fz hg
  generalize startB r = b1 at hS hRS
  generalize partB r = b2 at hP hRP
  have HS : Hid (∀ W, Laid W → _) := hS
  have HP : Hid (∀ W, Laid W → _) := hP
  have HRS : Hid (∀ W : World, _) := hRS
  have HRP : Hid (∀ W : World, _) := hRP
  clear hS hP hRS hRP
  have e1 : (b1 == b1) = true := beq_self_eq_true b1
  have e2 : (b2 == b2) = true := beq_self_eq_true b2
  go_enter Tryd.func3, Tryd.ntmps3
  go_wp2_with fail
  refine (HS.out w h).mono ?_
  rintro e w1 ⟨rfl, hb1⟩
  have l1 := h.later hb1
  go_wp2_with fail
  refine (HRS.out w1).mono ?_
  rintro e w1' ⟨rfl, rfl⟩
  go_wp2_with fail
  refine (HP.out _ l1).mono ?_
  rintro e w2 ⟨rfl, hb2⟩
  have l2 := l1.later hb2
  have hbw2 := hb1.trans (hb2.mono hb1.size)
  clear hb2 l1
  go_wp2_with fail
  refine (HRP.out w2).mono ?_
  rintro e w2' ⟨rfl, rfl⟩
  go_wp2_with fail
  refine (begins_any _ l2).mono ?_
  rintro e w3 ⟨rfl, hb3⟩
  go_wp2
  go_ret
  exact ⟨rfl, hbw2.trans (hb3.mono hbw2.size)⟩
end Go.Proofs.YtomlbkkoodileabDoor
