/- Plain facts on the runes that stand in names: no program in this text. -/
import Derived.WalkKit
namespace Go.Proofs.YtbefinbihopgfaaDoor
open Go.RowKit

/-- The spans of runes as the variable lists them: first, last, whether they begin a name. -/
def spanTab : List (Int × Int × Bool) :=
  [(45, 46, false), (48, 57, false), (58, 58, true), (65, 90, true), (95, 95, true), (97, 122, true), (183, 183, false),
   (192, 214, true), (216, 246, true), (248, 767, true), (768, 879, false), (880, 893, true), (895, 8191, true), (8204, 8205, true),
   (8255, 8256, false), (8304, 8591, true), (11264, 12271, true), (12289, 55295, true), (63744, 64975, true), (65008, 65533, true), (65536, 983039, true)]

/-- The span that holds r, of a list of spans that rise. -/
def spanIn (r : Int) : List (Int × Int × Bool) → Int × Int × Bool
  | [] => (0, 0, false)
  | s :: l => if s.2.1 < r then spanIn r l else if s.1 ≤ r then s else (0, 0, false)

def spanCellsOf : List (Int × Int × Bool) → List Value
  | [] => []
  | s :: l => .int .i32 s.1 :: .int .i32 s.2.1 :: .bool s.2.2 :: spanCellsOf l

def spanCells : Array Value := (spanCellsOf spanTab).toArray

theorem spanIn_last (r : Int) (k : Nat) (h : k < spanTab.length) (hr : spanTab[k].2.1 < r) : spanIn r (spanTab.drop k) = spanIn r (spanTab.drop (k + 1)) := by
  rw [List.drop_eq_getElem_cons h, spanIn, if_pos hr]
theorem spanIn_here (r : Int) (k : Nat) (h : k < spanTab.length) (hr : ¬ spanTab[k].2.1 < r) (hf : spanTab[k].1 ≤ r) : spanIn r (spanTab.drop k) = spanTab[k] := by
  rw [List.drop_eq_getElem_cons h, spanIn, if_neg hr, if_pos hf]
theorem spanIn_none (r : Int) (k : Nat) (h : k < spanTab.length) (hr : ¬ spanTab[k].2.1 < r) (hf : ¬ spanTab[k].1 ≤ r) : spanIn r (spanTab.drop k) = (0, 0, false) := by
  rw [List.drop_eq_getElem_cons h, spanIn, if_neg hr, if_neg hf]

/-- Does a rune begin a name? As the spans say. -/
def startB (r : Int) : Bool := (spanIn r spanTab).2.2
/-- May a rune stand in a name? -/
def partB (r : Int) : Bool := !((spanIn r spanTab) == ((0, 0, false) : Int × Int × Bool))

theorem spanIn_spec (r : Int) : ∀ l : List (Int × Int × Bool), l.Pairwise (fun a b => a.2.1 < b.1) → (∃ s, s ∈ l ∧ s.1 ≤ r ∧ r ≤ s.2.1 ∧ spanIn r l = s) ∨ ((∀ s, s ∈ l → ¬ (s.1 ≤ r ∧ r ≤ s.2.1)) ∧ spanIn r l = (0, 0, false))
  | [], _ => .inr ⟨fun _ h => absurd h (List.not_mem_nil), rfl⟩
  | s :: l, h => by
    have hp := List.pairwise_cons.1 h
    unfold spanIn
    by_cases h1 : s.2.1 < r
    · rw [if_pos h1]
      rcases spanIn_spec r l hp.2 with ⟨t, ht, ha, hb, hc⟩ | ⟨ha, hb⟩
      · exact .inl ⟨t, List.mem_cons_of_mem _ ht, ha, hb, hc⟩
      · refine .inr ⟨fun t ht => ?_, hb⟩
        rcases List.mem_cons.1 ht with rfl | ht
        · omega
        · exact ha t ht
    · rw [if_neg h1]
      by_cases h2 : s.1 ≤ r
      · rw [if_pos h2]
        exact .inl ⟨s, List.mem_cons_self, h2, by omega, rfl⟩
      · rw [if_neg h2]
        refine .inr ⟨fun t ht => ?_, rfl⟩
        rcases List.mem_cons.1 ht with rfl | ht
        · omega
        · have := hp.1 t ht
          omega

theorem spanTab_rises : spanTab.Pairwise (fun a b => a.2.1 < b.1) := by decide

set_option maxHeartbeats 1000000 in
/-- The spans' answer is the document's. -/
theorem startB_iff (r : Int) : startB r = true ↔ (r = 58 ∨ r = 95 ∨ 65 ≤ r ∧ r ≤ 90 ∨ 97 ≤ r ∧ r ≤ 122 ∨ 192 ≤ r ∧ r ≤ 214 ∨ 216 ≤ r ∧ r ≤ 246 ∨ 248 ≤ r ∧ r ≤ 767 ∨ 880 ≤ r ∧ r ≤ 893 ∨ 895 ≤ r ∧ r ≤ 8191 ∨ 8204 ≤ r ∧ r ≤ 8205 ∨ 8304 ≤ r ∧ r ≤ 8591 ∨ 11264 ≤ r ∧ r ≤ 12271 ∨ 12289 ≤ r ∧ r ≤ 55295 ∨ 63744 ≤ r ∧ r ≤ 64975 ∨ 65008 ≤ r ∧ r ≤ 65533 ∨ 65536 ≤ r ∧ r ≤ 983039) := by
  unfold startB
  rcases spanIn_spec r spanTab spanTab_rises with ⟨s, hs, h1, h2, h3⟩ | ⟨h1, h3⟩
  · rw [h3]
    clear h3
    simp only [spanTab, List.mem_cons, List.not_mem_nil, or_false] at hs
    rcases hs with rfl | rfl | rfl | rfl | rfl | rfl | rfl | rfl | rfl | rfl | rfl | rfl | rfl | rfl | rfl | rfl | rfl | rfl | rfl | rfl | rfl
    all_goals simp only at h1 h2 ⊢
    all_goals simp
    all_goals omega
  · rw [h3]
    simp only [spanTab, List.mem_cons, List.not_mem_nil, or_false, forall_eq_or_imp, forall_eq] at h1
    simp
    omega
set_option maxHeartbeats 1000000 in
theorem partB_iff (r : Int) : partB r = true ↔ (startB r = true ∨ r = 45 ∨ r = 46 ∨ 48 ≤ r ∧ r ≤ 57 ∨ r = 183 ∨ 768 ≤ r ∧ r ≤ 879 ∨ 8255 ≤ r ∧ r ≤ 8256) := by
  rw [startB_iff]
  unfold partB
  rcases spanIn_spec r spanTab spanTab_rises with ⟨s, hs, h1, h2, h3⟩ | ⟨h1, h3⟩
  · rw [h3]
    clear h3
    simp only [spanTab, List.mem_cons, List.not_mem_nil, or_false] at hs
    rcases hs with rfl | rfl | rfl | rfl | rfl | rfl | rfl | rfl | rfl | rfl | rfl | rfl | rfl | rfl | rfl | rfl | rfl | rfl | rfl | rfl | rfl
    all_goals simp only at h1 h2 ⊢
    all_goals simp
    all_goals omega
  · rw [h3]
    simp only [spanTab, List.mem_cons, List.not_mem_nil, or_false, forall_eq_or_imp, forall_eq] at h1
    simp
    omega
end Go.Proofs.YtbefinbihopgfaaDoor
