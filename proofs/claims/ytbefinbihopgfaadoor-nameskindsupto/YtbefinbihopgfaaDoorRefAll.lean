/- The document's Start and Part, all stretches together; that they are the spans' own. -/
import Derived.Test.YtbefinbihopgfaaDoorRefW1
import Derived.Test.YtbefinbihopgfaaDoorRefW2
import Derived.Test.YtbefinbihopgfaaDoorRefW3
import Derived.Test.YtbefinbihopgfaaDoorRefW4
import Derived.Test.YtbefinbihopgfaaDoorRefW5
import Derived.Test.YtbefinbihopgfaaDoorRefW6
import Derived.Test.YtbefinbihopgfaaDoorRefS1
import Derived.Test.YtbefinbihopgfaaDoorRefS2
import Derived.Test.YtbefinbihopgfaaDoorRefS3
import Derived.Test.YtbefinbihopgfaaDoorRefP1
import Derived.Test.YtbefinbihopgfaaDoorRefP2
namespace Go.Proofs.YtbefinbihopgfaaDoor
open Go.RowKit

theorem wide_any (r : Int) (w : World) : Calls Tryd.prog 76 #[.int .i32 r] w fun e w' => e = .returned (.bool (wideB r)) ∧ w' = w := by
  rcases (by omega : (880 ≤ r ∧ r ≤ 893) ∨ (895 ≤ r ∧ r ≤ 8191) ∨ (8204 ≤ r ∧ r ≤ 8205) ∨ (8304 ≤ r ∧ r ≤ 8591) ∨ (11264 ≤ r ∧ r ≤ 12271) ∨ (12289 ≤ r ∧ r ≤ 55295) ∨ (63744 ≤ r ∧ r ≤ 64975) ∨ (65008 ≤ r ∧ r ≤ 65533) ∨ (65536 ≤ r ∧ r ≤ 983039) ∨ (r ≤ 879) ∨ (894 ≤ r ∧ r ≤ 894) ∨ (8192 ≤ r ∧ r ≤ 8203) ∨ (8206 ≤ r ∧ r ≤ 8303) ∨ (8592 ≤ r ∧ r ≤ 11263) ∨ (12272 ≤ r ∧ r ≤ 12288) ∨ (55296 ≤ r ∧ r ≤ 63743) ∨ (64976 ≤ r ∧ r ≤ 65007) ∨ (65534 ≤ r ∧ r ≤ 65535) ∨ (983040 ≤ r)) with h | h | h | h | h | h | h | h | h | h | h | h | h | h | h | h | h | h | h
  · rw [show wideB r = true from decide_eq_true (by omega)]; exact wide_0 r w (by omega) (by omega)
  · rw [show wideB r = true from decide_eq_true (by omega)]; exact wide_1 r w (by omega) (by omega)
  · rw [show wideB r = true from decide_eq_true (by omega)]; exact wide_2 r w (by omega) (by omega)
  · rw [show wideB r = true from decide_eq_true (by omega)]; exact wide_3 r w (by omega) (by omega)
  · rw [show wideB r = true from decide_eq_true (by omega)]; exact wide_4 r w (by omega) (by omega)
  · rw [show wideB r = true from decide_eq_true (by omega)]; exact wide_5 r w (by omega) (by omega)
  · rw [show wideB r = true from decide_eq_true (by omega)]; exact wide_6 r w (by omega) (by omega)
  · rw [show wideB r = true from decide_eq_true (by omega)]; exact wide_7 r w (by omega) (by omega)
  · rw [show wideB r = true from decide_eq_true (by omega)]; exact wide_8 r w (by omega) (by omega)
  · rw [show wideB r = false from decide_eq_false (by omega)]; exact wide_9 r w (by omega)
  · rw [show wideB r = false from decide_eq_false (by omega)]; exact wide_10 r w (by omega) (by omega)
  · rw [show wideB r = false from decide_eq_false (by omega)]; exact wide_11 r w (by omega) (by omega)
  · rw [show wideB r = false from decide_eq_false (by omega)]; exact wide_12 r w (by omega) (by omega)
  · rw [show wideB r = false from decide_eq_false (by omega)]; exact wide_13 r w (by omega) (by omega)
  · rw [show wideB r = false from decide_eq_false (by omega)]; exact wide_14 r w (by omega) (by omega)
  · rw [show wideB r = false from decide_eq_false (by omega)]; exact wide_15 r w (by omega) (by omega)
  · rw [show wideB r = false from decide_eq_false (by omega)]; exact wide_16 r w (by omega) (by omega)
  · rw [show wideB r = false from decide_eq_false (by omega)]; exact wide_17 r w (by omega) (by omega)
  · rw [show wideB r = false from decide_eq_false (by omega)]; exact wide_18 r w (by omega)

theorem rstart_any (r : Int) (w : World) : Calls Tryd.prog 46 #[.int .i32 r] w fun e w' => e = .returned (.bool (startB r)) ∧ w' = w := by
  have hsi := startB_iff r
  rcases (by omega : (58 ≤ r ∧ r ≤ 58) ∨ (95 ≤ r ∧ r ≤ 95) ∨ (65 ≤ r ∧ r ≤ 90) ∨ (97 ≤ r ∧ r ≤ 122) ∨ (192 ≤ r ∧ r ≤ 214) ∨ (216 ≤ r ∧ r ≤ 246) ∨ (248 ≤ r ∧ r ≤ 767) ∨ (r ≤ 57) ∨ (59 ≤ r ∧ r ≤ 64) ∨ (91 ≤ r ∧ r ≤ 94) ∨ (96 ≤ r ∧ r ≤ 96) ∨ (123 ≤ r ∧ r ≤ 191) ∨ (215 ≤ r ∧ r ≤ 215) ∨ (247 ≤ r ∧ r ≤ 247) ∨ (768 ≤ r)) with h | h | h | h | h | h | h | h | h | h | h | h | h | h | h
  · rw [show startB r = true from hsi.2 (by omega)]; exact rstart_0 r w (by omega) (by omega)
  · rw [show startB r = true from hsi.2 (by omega)]; exact rstart_1 r w (by omega) (by omega)
  · rw [show startB r = true from hsi.2 (by omega)]; exact rstart_2 r w (by omega) (by omega)
  · rw [show startB r = true from hsi.2 (by omega)]; exact rstart_3 r w (by omega) (by omega)
  · rw [show startB r = true from hsi.2 (by omega)]; exact rstart_4 r w (by omega) (by omega)
  · rw [show startB r = true from hsi.2 (by omega)]; exact rstart_5 r w (by omega) (by omega)
  · rw [show startB r = true from hsi.2 (by omega)]; exact rstart_6 r w (by omega) (by omega)
  · rw [show startB r = wideB r from Bool.eq_iff_iff.2 (hsi.trans ⟨fun g => decide_eq_true (by omega), fun g => by have := of_decide_eq_true g; omega⟩)]; exact rstart_7 r w (by omega) _ (fun W => wide_any r W)
  · rw [show startB r = wideB r from Bool.eq_iff_iff.2 (hsi.trans ⟨fun g => decide_eq_true (by omega), fun g => by have := of_decide_eq_true g; omega⟩)]; exact rstart_8 r w (by omega) (by omega) _ (fun W => wide_any r W)
  · rw [show startB r = wideB r from Bool.eq_iff_iff.2 (hsi.trans ⟨fun g => decide_eq_true (by omega), fun g => by have := of_decide_eq_true g; omega⟩)]; exact rstart_9 r w (by omega) (by omega) _ (fun W => wide_any r W)
  · rw [show startB r = wideB r from Bool.eq_iff_iff.2 (hsi.trans ⟨fun g => decide_eq_true (by omega), fun g => by have := of_decide_eq_true g; omega⟩)]; exact rstart_10 r w (by omega) (by omega) _ (fun W => wide_any r W)
  · rw [show startB r = wideB r from Bool.eq_iff_iff.2 (hsi.trans ⟨fun g => decide_eq_true (by omega), fun g => by have := of_decide_eq_true g; omega⟩)]; exact rstart_11 r w (by omega) (by omega) _ (fun W => wide_any r W)
  · rw [show startB r = wideB r from Bool.eq_iff_iff.2 (hsi.trans ⟨fun g => decide_eq_true (by omega), fun g => by have := of_decide_eq_true g; omega⟩)]; exact rstart_12 r w (by omega) (by omega) _ (fun W => wide_any r W)
  · rw [show startB r = wideB r from Bool.eq_iff_iff.2 (hsi.trans ⟨fun g => decide_eq_true (by omega), fun g => by have := of_decide_eq_true g; omega⟩)]; exact rstart_13 r w (by omega) (by omega) _ (fun W => wide_any r W)
  · rw [show startB r = wideB r from Bool.eq_iff_iff.2 (hsi.trans ⟨fun g => decide_eq_true (by omega), fun g => by have := of_decide_eq_true g; omega⟩)]; exact rstart_14 r w (by omega) _ (fun W => wide_any r W)

theorem rpart_any (r : Int) (w : World) : Calls Tryd.prog 47 #[.int .i32 r] w fun e w' => e = .returned (.bool (partB r)) ∧ w' = w := by
  have hpi := partB_iff r
  have hS := fun W => rstart_any r W
  cases hs : startB r with
  | true =>
    rw [hs] at hS
    rw [show partB r = true from hpi.2 (.inl hs)]
    exact rpart_start r w hS
  | false =>
    rw [hs] at hS hpi
    simp only [Bool.false_eq_true, false_or] at hpi
    rcases (by omega : (45 ≤ r ∧ r ≤ 45) ∨ (46 ≤ r ∧ r ≤ 46) ∨ (183 ≤ r ∧ r ≤ 183) ∨ (48 ≤ r ∧ r ≤ 57) ∨ (768 ≤ r ∧ r ≤ 879) ∨ (8255 ≤ r ∧ r ≤ 8256) ∨ (r ≤ 47 ∧ r ≠ 45 ∧ r ≠ 46) ∨ (58 ≤ r ∧ r ≤ 767 ∧ r ≠ 183) ∨ (880 ≤ r ∧ r ≤ 8254) ∨ (8257 ≤ r)) with h | h | h | h | h | h | h | h | h | h
    · rw [show partB r = true from hpi.2 (by omega)]; exact rpart_0 r w (by omega) (by omega) hS
    · rw [show partB r = true from hpi.2 (by omega)]; exact rpart_1 r w (by omega) (by omega) hS
    · rw [show partB r = true from hpi.2 (by omega)]; exact rpart_2 r w (by omega) (by omega) hS
    · rw [show partB r = true from hpi.2 (by omega)]; exact rpart_3 r w (by omega) (by omega) hS
    · rw [show partB r = true from hpi.2 (by omega)]; exact rpart_4 r w (by omega) (by omega) hS
    · rw [show partB r = true from hpi.2 (by omega)]; exact rpart_5 r w (by omega) (by omega) hS
    · rw [show partB r = false from Bool.eq_false_iff.2 (fun g => by have := hpi.1 g; omega)]; exact rpart_6 r w (by omega) (by omega) (by omega) hS
    · rw [show partB r = false from Bool.eq_false_iff.2 (fun g => by have := hpi.1 g; omega)]; exact rpart_7 r w (by omega) (by omega) (by omega) hS
    · rw [show partB r = false from Bool.eq_false_iff.2 (fun g => by have := hpi.1 g; omega)]; exact rpart_8 r w (by omega) (by omega)  hS
    · rw [show partB r = false from Bool.eq_false_iff.2 (fun g => by have := hpi.1 g; omega)]; exact rpart_9 r w (by omega)  hS
end Go.Proofs.YtbefinbihopgfaaDoor
