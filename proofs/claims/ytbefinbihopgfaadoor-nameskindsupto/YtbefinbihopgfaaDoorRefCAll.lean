/- The runes of a custom element's name, all stretches together. -/
import Derived.Test.YtbefinbihopgfaaDoorRefAll
import Derived.Test.YtbefinbihopgfaaDoorRefC1
import Derived.Test.YtbefinbihopgfaaDoorRefC2
import Derived.Test.YtbefinbihopgfaaDoorRefC3
import Derived.Test.YtbefinbihopgfaaDoorRefC4
import Derived.Test.YtbefinbihopgfaaDoorRefC5
import Derived.Test.YtbefinbihopgfaaDoorRefC6
import Derived.Test.YtbefinbihopgfaaDoorRefC7
import Derived.Test.YtbefinbihopgfaaDoorRefC8
import Derived.Test.YtbefinbihopgfaaDoorKinds
namespace Go.Proofs.YtbefinbihopgfaaDoor
open Go.RowKit

/-- What may stand in a custom element's name, as the program says it. -/
def pcenB (r : Int) : Bool := (partB r && !(r == 58)) && !capitalB r
theorem pcenB_iff (r : Int) : pcenB r = true ↔ partB r = true ∧ r ≠ 58 ∧ ¬ (65 ≤ r ∧ r ≤ 90) := by
  unfold pcenB capitalB
  simp only [Bool.and_eq_true, Bool.not_eq_true', beq_eq_false_iff_ne, Bool.and_eq_false_iff, decide_eq_false_iff_not]
  constructor
  · rintro ⟨⟨a, b⟩, c⟩; exact ⟨a, b, by omega⟩
  · rintro ⟨a, b, c⟩; exact ⟨⟨a, b⟩, by omega⟩

theorem rpcen_any (r : Int) (w : World) : Calls Tryd.prog 56 #[.int .i32 r] w fun e w' => e = .returned (.bool (pcenB r)) ∧ w' = w := by
  have hp := pcenB_iff r
  rw [partB_iff, startB_iff] at hp
  rcases (by omega : (45 ≤ r ∧ r ≤ 45) ∨ (46 ≤ r ∧ r ≤ 46) ∨ (95 ≤ r ∧ r ≤ 95) ∨ (183 ≤ r ∧ r ≤ 183) ∨ (48 ≤ r ∧ r ≤ 57) ∨ (97 ≤ r ∧ r ≤ 122) ∨ (192 ≤ r ∧ r ≤ 214) ∨ (216 ≤ r ∧ r ≤ 246) ∨ (248 ≤ r ∧ r ≤ 893) ∨ (8255 ≤ r ∧ r ≤ 8256) ∨ (r ≤ 44) ∨ (47 ≤ r ∧ r ≤ 47) ∨ (58 ≤ r ∧ r ≤ 94) ∨ (96 ≤ r ∧ r ≤ 96) ∨ (123 ≤ r ∧ r ≤ 182) ∨ (184 ≤ r ∧ r ≤ 191) ∨ (215 ≤ r ∧ r ≤ 215) ∨ (247 ≤ r ∧ r ≤ 247) ∨ (894 ≤ r ∧ r ≤ 894) ∨ (895 ≤ r ∧ r ≤ 8254) ∨ (8257 ≤ r)) with h | h | h | h | h | h | h | h | h | h | h | h | h | h | h | h | h | h | h | h | h
  · rw [show pcenB r = true from hp.2 (by omega)]; exact rpcen_0 r w (by omega) (by omega)
  · rw [show pcenB r = true from hp.2 (by omega)]; exact rpcen_1 r w (by omega) (by omega)
  · rw [show pcenB r = true from hp.2 (by omega)]; exact rpcen_2 r w (by omega) (by omega)
  · rw [show pcenB r = true from hp.2 (by omega)]; exact rpcen_3 r w (by omega) (by omega)
  · rw [show pcenB r = true from hp.2 (by omega)]; exact rpcen_4 r w (by omega) (by omega)
  · rw [show pcenB r = true from hp.2 (by omega)]; exact rpcen_5 r w (by omega) (by omega)
  · rw [show pcenB r = true from hp.2 (by omega)]; exact rpcen_6 r w (by omega) (by omega)
  · rw [show pcenB r = true from hp.2 (by omega)]; exact rpcen_7 r w (by omega) (by omega)
  · rw [show pcenB r = true from hp.2 (by omega)]; exact rpcen_8 r w (by omega) (by omega)
  · rw [show pcenB r = true from hp.2 (by omega)]; exact rpcen_9 r w (by omega) (by omega)
  · rw [show pcenB r = false from Bool.eq_false_iff.2 (fun g => by have := hp.1 g; omega)]; exact rpcen_10 r w (by omega)
  · rw [show pcenB r = false from Bool.eq_false_iff.2 (fun g => by have := hp.1 g; omega)]; exact rpcen_11 r w (by omega) (by omega)
  · rw [show pcenB r = false from Bool.eq_false_iff.2 (fun g => by have := hp.1 g; omega)]; exact rpcen_12 r w (by omega) (by omega)
  · rw [show pcenB r = false from Bool.eq_false_iff.2 (fun g => by have := hp.1 g; omega)]; exact rpcen_13 r w (by omega) (by omega)
  · rw [show pcenB r = false from Bool.eq_false_iff.2 (fun g => by have := hp.1 g; omega)]; exact rpcen_14 r w (by omega) (by omega)
  · rw [show pcenB r = false from Bool.eq_false_iff.2 (fun g => by have := hp.1 g; omega)]; exact rpcen_15 r w (by omega) (by omega)
  · rw [show pcenB r = false from Bool.eq_false_iff.2 (fun g => by have := hp.1 g; omega)]; exact rpcen_16 r w (by omega) (by omega)
  · rw [show pcenB r = false from Bool.eq_false_iff.2 (fun g => by have := hp.1 g; omega)]; exact rpcen_17 r w (by omega) (by omega)
  · rw [show pcenB r = false from Bool.eq_false_iff.2 (fun g => by have := hp.1 g; omega)]; exact rpcen_18 r w (by omega) (by omega)
  · rw [show pcenB r = wideB r from Bool.eq_iff_iff.2 (hp.trans ⟨fun g => decide_eq_true (by omega), fun g => by have := of_decide_eq_true g; omega⟩)]; exact rpcen_19 r w (by omega) (by omega) _ (fun W => wide_any r W)
  · rw [show pcenB r = wideB r from Bool.eq_iff_iff.2 (hp.trans ⟨fun g => decide_eq_true (by omega), fun g => by have := of_decide_eq_true g; omega⟩)]; exact rpcen_20 r w (by omega) _ (fun W => wide_any r W)
end Go.Proofs.YtbefinbihopgfaaDoor
