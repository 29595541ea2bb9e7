/- A region that draws its order, gone through step by step under a condition on the world: operations whose value is known, operations whose guards say no, and what is left. No program in this text. -/
/- The reference of walk: which of seven is asked (Step). -/
/- The reference of walk: which of seven is asked (Step), where there are no rules. -/
import Derived.Test.YteflknfejjdkfabGreatFSkip
import Derived.Deep.RegionHeld
import Derived.Test.YteflknfejjdkfabGreatCFWk3FWm5
import Derived.Test.YteflknfejjdkfabGreatCFWkGFWkN
import Derived.Deep.DeepCutAuto
namespace Go.Proofs.YteflknfejjdkfabGreat
open Go.RowKit

section
variable {P : Program} {md : Region.Mode} {ops : Array Oper} {Q : Exit → Act → World → Prop} {S : World → Prop}

theorem wpAnyH_skips (us : List (Nat × Nat)) (fuel : Nat) {listed : Array Bool} {a : Act} {w : World} (hS : S w) (hs : Region.noSelect ops = true) (hQ : ∀ c (a : Act) (t : Tmp) (v : Value) w, Q (.panic c) (a.put (some t) v) w → Q (.panic c) a w) (h1 : skipsOk md ops us listed = true) (h2 : unwanted ops us a = true)
    (h : wpAnyH P md ops Q S fuel (listedAfter us listed) (actAfter us a) w) : wpAnyH P md ops Q S (fuel + us.length) listed a w := by
  induction us generalizing listed a with
  | nil => exact h
  | cons i us ih =>
    simp only [skipsOk, Bool.and_eq_true, beq_iff_eq, Option.map_eq_some_iff] at h1
    obtain ⟨⟨oi, hoi, hd⟩, g2, g3, g4⟩ := h1
    simp only [unwanted, Bool.and_eq_true, hoi, Option.map_some, Option.getD_some, Bool.not_eq_true'] at h2
    simp only [actAfter, listedAfter] at h
    refine wpAnyH_take (i := i.1) (v := undef) hoi hs g2 g3 (fun c a w h => hQ c a i.2 _ w (hd ▸ h)) (Or.inr ⟨h2.1, rfl⟩) hS ?_
    rw [hd]
    exact ih g4 h2.2 h
/-- An operation that yields a value in every world that meets the condition, taken first. -/
theorem wpAnyH_one (i t : Nat) (v : Value) {oi : Oper} {fuel : Nat} {listed : Array Bool} {a : Act} {w : World} (hS : S w) (hi : ops[i]? = some oi) (hd : oi.dst = some t) (hs : Region.noSelect ops = true) (hQ : ∀ c (a : Act) (t : Tmp) (v : Value) w, Q (.panic c) (a.put (some t) v) w → Q (.panic c) a w)
    (hf : Region.free md ops listed i = true) (hr : (Region.ready md ops listed).contains i = true) (hw : Region.wanted oi (yielded ops a.tmps) = true) (hx : ∀ w, S w → (execOp a.eval oi).run P w = .ok (.value v) w)
    (h : wpAnyH P md ops Q S fuel (listed.setIfInBounds i true) (a.put (some t) v) w) : wpAnyH P md ops Q S (fuel + 1) listed a w :=
  wpAnyH_take (i := i) (v := v) hi hs hf hr (fun c a w h => hQ c a t _ w (hd ▸ h)) (Or.inl ⟨hw, hx⟩) hS (hd ▸ h)
end
end Go.Proofs.YteflknfejjdkfabGreat

namespace Go.Proofs.YteflknfejjdkfabGreat
open Go.RowKit Go.Lib Go.Shelf

/-- Behind the boxes of a forest, of a walker, and of the walker that is answered. -/
def At3 (w : World) (f r c s l : Value) (V : World) : Prop := Below (w.heap.size + 3) (((w.alloc (.cells #[f] 24)).alloc (.cells #[r, c, s, l] 30)).alloc (.cells #[.int .i64 0, .int .i64 0, .int .u32 0, .slice none 0 0] 30)) V
section
variable {w V V' : World} {f r c s l : Value}
theorem At3.heaps (h : At3 w f r c s l V) : V.heap[w.heap.size]? = some (.cells #[f] 24) ∧ V.heap[w.heap.size + 1]? = some (.cells #[r, c, s, l] 30) ∧ V.heap[w.heap.size + 1 + 1]? = some (.cells #[.int .i64 0, .int .i64 0, .int .u32 0, .slice none 0 0] 30) := by
  have h0 := vheapW w (.cells #[f] 24)
  have h1 := vheapW (w.alloc (.cells #[f] 24)) (.cells #[r, c, s, l] 30)
  have h2 := vheapW ((w.alloc (.cells #[f] 24)).alloc (.cells #[r, c, s, l] 30)) (.cells #[.int .i64 0, .int .i64 0, .int .u32 0, .slice none 0 0] 30)
  simp only [World.size_alloc] at h1 h2
  refine ⟨(Below.block h _ (by omega)).trans ?_, (Below.block h _ (by omega)).trans ?_, (Below.block h _ (by omega)).trans h2⟩
  · rw [Below.heap_alloc _ _ _ (by simp only [World.size_alloc]; omega), Below.heap_alloc _ _ _ (by simp only [World.size_alloc]; omega)]
    exact h0
  · rw [Below.heap_alloc _ _ _ (by simp only [World.size_alloc]; omega)]
    exact h1
theorem At3.size (h : At3 w f r c s l V) : w.heap.size + 3 ≤ V.heap.size := by
  have := Below.size h
  simp only [World.size_alloc] at this
  exact this
theorem At3.below (h : At3 w f r c s l V) : Below w.heap.size w V := ((((Below.refl _ w).alloc (Nat.le_refl _) _).alloc (by simp) _).alloc (by simp only [World.size_alloc]; omega) _).trans (Below.mono h (by omega))
theorem At3.step (h : At3 w f r c s l V) (hb : Below V.heap.size V V') : At3 w f r c s l V' := Below.trans h (hb.mono h.size)
theorem At3.first (w : World) (f r c s l : Value) : At3 w f r c s l (((w.alloc (.cells #[f] 24)).alloc (.cells #[r, c, s, l] 30)).alloc (.cells #[.int .i64 0, .int .i64 0, .int .u32 0, .slice none 0 0] 30)) := Below.refl _ _
theorem At3.cells (h : At3 w f r c s l V) : V.cell? ⟨w.heap.size, 0, none⟩ = some f ∧ V.cell? ⟨w.heap.size + 1, 0, none⟩ = some r ∧ V.cell? ⟨w.heap.size + 1, 1, none⟩ = some c ∧ V.cell? ⟨w.heap.size + 1, 2, none⟩ = some s ∧ V.cell? ⟨w.heap.size + 1, 3, none⟩ = some l := by
  obtain ⟨h0, h1, _⟩ := h.heaps
  refine ⟨?_, ?_, ?_, ?_, ?_⟩ <;> simp [World.cell?, h0, h1]
end
theorem below_fourS {W V : World} {n B : Nat} {a b c d : Value} (h : Below n W V) (hB : n ≤ B) : Below n W ((((V.setCell ⟨B, 0, none⟩ a).setCell ⟨B, 1, none⟩ b).setCell ⟨B, 2, none⟩ c).setCell ⟨B, 3, none⟩ d) :=
  (((h.setCell (p := ⟨B, 0, none⟩) hB _).setCell (p := ⟨B, 1, none⟩) hB _).setCell (p := ⟨B, 2, none⟩) hB _).setCell (p := ⟨B, 3, none⟩) hB _
theorem heap_fourS {V : World} {B k : Nat} {a b c d : Value} (hne : k ≠ B) : ((((V.setCell ⟨B, 0, none⟩ a).setCell ⟨B, 1, none⟩ b).setCell ⟨B, 2, none⟩ c).setCell ⟨B, 3, none⟩ d).heap[k]? = V.heap[k]? := by
  rw [Below.heap_setCell _ _ _ _ (by exact hne), Below.heap_setCell _ _ _ _ (by exact hne), Below.heap_setCell _ _ _ _ (by exact hne), Below.heap_setCell _ _ _ _ (by exact hne)]
theorem grown_keepS {V w1 : World} {o : Obj} {v : Value} {k g : Nat} {x : Obj} (h : V.heap[k]? = some x) (hg : (V.alloc o).grownBy w1 v.ownBlock) (hv : v.ownBlock = some g) (hne : k ≠ g) : w1.heap[k]? = some x := by
  have hlt := (Array.getElem?_eq_some_iff.1 h).1
  exact (hg.block k (by simp only [World.size_alloc]; omega) (by rw [hv]; simp only [ne_eq, Option.some.injEq]; exact hne)).trans ((Below.heap_alloc V o k hlt).trans h)
/-- A walker's box, whichever its rules. -/
def BoxW (B : Nat) (r c s : Value) (V : World) : Prop := ∃ l, V.heap[B]? = some (.cells #[r, c, s, l] 30)
theorem BoxW.cells {B : Nat} {r c s : Value} {V : World} (h : BoxW B r c s V) : V.cell? ⟨B, 0, none⟩ = some r ∧ V.cell? ⟨B, 1, none⟩ = some c ∧ V.cell? ⟨B, 2, none⟩ = some s := by
  obtain ⟨l, hl⟩ := h
  obtain ⟨a, b, c, _⟩ := cells4 hl
  exact ⟨a, b, c⟩
section
variable {w : World} {o : Option Addr} {cap n : Nat} {root cur : Int} {sh : Nat} {ro : Option Addr} {rc : Nat} {l : List RuleD} {way : Nat}
set_option linter.unusedSimpArgs false in
set_option maxRecDepth 100000 in
set_option maxHeartbeats 8000000 in
theorem refStep_bad (E : Int) (h1 : (E != 0) = true) (HW : ∀ W : World, Below w.heap.size w W → Calls Tryz.prog 16 #[.agg #[.slice o n cap], .agg #[.int .i64 root, .int .i64 cur, .int .u32 (sh : Int), .slice ro l.length rc]] W fun e w' => e = .returned (.int .i64 E) ∧ Below W.heap.size W w') :
    Calls Tryz.prog 7 #[.agg #[.slice o n cap], .agg #[.int .i64 root, .int .i64 cur, .int .u32 (sh : Int), .slice ro l.length rc], .int .u8 (way : Int)] w fun e w' => e = .returned (.tuple #[.agg #[.int .i64 0, .int .i64 0, .int .u32 0, .slice none 0 0], .int .i64 0, .int .i64 E]) ∧ Below w.heap.size w w' := by
  have hA0 := At3.first w (.slice o n cap) (.int .i64 root) (.int .i64 cur) (.int .u32 (sh : Int)) (.slice ro l.length rc)
  have hW := HW _ hA0.below
  clear HW
  go_enter Tryz.func7, Tryz.ntmps7
  go_wp2_with fail
  refine hW.mono ?_
  rintro e v1 ⟨rfl, hb⟩
  have hA1 := hA0.step hb
  clear hb hW hA0
  obtain ⟨_, _, kz⟩ := hA1.heaps
  have HK := hid kz
  obtain ⟨i0, i1, i2, i3⟩ := cells4 kz
  obtain ⟨f0, f1, f2, f3⟩ := free4 kz
  clear kz
  go_wp2
  have hn := four_set HK.out (.int .i64 0) (.int .i64 0) (.int .u32 0) (.slice none 0 0)
  obtain ⟨j0, j1, j2, j3⟩ := cells4 hn
  exact bodyPost_ret (v := .tuple #[.agg #[.int .i64 0, .int .i64 0, .int .u32 0, .slice none 0 0], .int .i64 0, .int .i64 E]) (by simp [results, Tryz.results7, go_sem, j0, j1, j2, j3]) rfl ⟨rfl, below_four hA1.below (by omega)⟩
set_option linter.unusedSimpArgs false in
set_option maxRecDepth 100000 in
set_option maxHeartbeats 8000000 in
theorem refStep_none (hw : isWay way = false) (HW : ∀ W : World, Below w.heap.size w W → Calls Tryz.prog 16 #[.agg #[.slice o n cap], .agg #[.int .i64 root, .int .i64 cur, .int .u32 (sh : Int), .slice ro l.length rc]] W fun e w' => e = .returned (.int .i64 0) ∧ Below W.heap.size W w') :
    Calls Tryz.prog 7 #[.agg #[.slice o n cap], .agg #[.int .i64 root, .int .i64 cur, .int .u32 (sh : Int), .slice ro l.length rc], .int .u8 (way : Int)] w fun e w' => e = .returned (.tuple #[.agg #[.int .i64 0, .int .i64 0, .int .u32 0, .slice none 0 0], .int .i64 0, .int .i64 23]) ∧ Below w.heap.size w w' := by
  have hno : ∀ k : Nat, 1 ≤ k → k ≤ 7 → ((way : Int) == (k : Int)) = false := fun k h1 h7 => ver_ne (fun e => by
    rw [e] at hw
    unfold isWay at hw
    rw [decide_eq_true h1, decide_eq_true h7] at hw
    cases hw)
  have g1 : ((way : Int) == 1) = false := hno 1 (by decide) (by decide)
  have g2 : ((way : Int) == 2) = false := hno 2 (by decide) (by decide)
  have g3 : ((way : Int) == 3) = false := hno 3 (by decide) (by decide)
  have g4 : ((way : Int) == 4) = false := hno 4 (by decide) (by decide)
  have g5 : ((way : Int) == 5) = false := hno 5 (by decide) (by decide)
  have g6 : ((way : Int) == 6) = false := hno 6 (by decide) (by decide)
  have g7 : ((way : Int) == 7) = false := hno 7 (by decide) (by decide)
  clear hno hw
  have hA0 := At3.first w (.slice o n cap) (.int .i64 root) (.int .i64 cur) (.int .u32 (sh : Int)) (.slice ro l.length rc)
  have hW := HW _ hA0.below
  clear HW
  go_enter Tryz.func7, Tryz.ntmps7
  go_wp2_with fail
  refine hW.mono ?_
  rintro e v1 ⟨rfl, hb⟩
  have hA1 := hA0.step hb
  clear hb hW hA0
  obtain ⟨_, _, kz⟩ := hA1.heaps
  have HK := hid kz
  obtain ⟨i0, i1, i2, i3⟩ := cells4 kz
  obtain ⟨f0, f1, f2, f3⟩ := free4 kz
  clear kz
  go_wp2
  have hn := four_set HK.out (.int .i64 0) (.int .i64 0) (.int .u32 0) (.slice none 0 0)
  obtain ⟨j0, j1, j2, j3⟩ := cells4 hn
  exact bodyPost_ret (v := .tuple #[.agg #[.int .i64 0, .int .i64 0, .int .u32 0, .slice none 0 0], .int .i64 0, .int .i64 23]) (by simp [results, Tryz.results7, go_sem, j0, j1, j2, j3]) rfl ⟨rfl, below_four hA1.below (by omega)⟩
set_option linter.unusedSimpArgs false in
set_option maxRecDepth 100000 in
set_option maxHeartbeats 8000000 in
theorem refStep_some (ad : Addr) (hr : RdR w (.slice (some ad) l.length rc) l) (hl : l.length ≤ 64) (D C : Int) (hC0 : D = 0 → C = cur) (hC1 : D ≠ 0 → C = D) (hw : isWay way = true) (HW : ∀ W : World, Below w.heap.size w W → Calls Tryz.prog 16 #[.agg #[.slice o n cap], .agg #[.int .i64 root, .int .i64 cur, .int .u32 (sh : Int), .slice (some ad) l.length rc]] W fun e w' => e = .returned (.int .i64 0) ∧ Below W.heap.size W w')
    (H1 : way = 1 → ∀ W : World, Below w.heap.size w W → Calls Tryz.prog 17 #[.agg #[.slice o n cap], .agg #[.int .i64 root, .int .i64 cur, .int .u32 (sh : Int), .slice (some ad) l.length rc]] W fun e w' => e = .returned (.int .i64 D) ∧ Below W.heap.size W w')
    (H2 : way = 2 → ∀ W : World, Below w.heap.size w W → Calls Tryz.prog 18 #[.agg #[.slice o n cap], .agg #[.int .i64 root, .int .i64 cur, .int .u32 (sh : Int), .slice (some ad) l.length rc], .bool false] W fun e w' => e = .returned (.int .i64 D) ∧ Below W.heap.size W w')
    (H3 : way = 3 → ∀ W : World, Below w.heap.size w W → Calls Tryz.prog 18 #[.agg #[.slice o n cap], .agg #[.int .i64 root, .int .i64 cur, .int .u32 (sh : Int), .slice (some ad) l.length rc], .bool true] W fun e w' => e = .returned (.int .i64 D) ∧ Below W.heap.size W w')
    (H4 : way = 4 → ∀ W : World, Below w.heap.size w W → Calls Tryz.prog 19 #[.agg #[.slice o n cap], .agg #[.int .i64 root, .int .i64 cur, .int .u32 (sh : Int), .slice (some ad) l.length rc], .bool true] W fun e w' => e = .returned (.int .i64 D) ∧ Below W.heap.size W w')
    (H5 : way = 5 → ∀ W : World, Below w.heap.size w W → Calls Tryz.prog 19 #[.agg #[.slice o n cap], .agg #[.int .i64 root, .int .i64 cur, .int .u32 (sh : Int), .slice (some ad) l.length rc], .bool false] W fun e w' => e = .returned (.int .i64 D) ∧ Below W.heap.size W w')
    (H6 : way = 6 → ∀ W : World, Below w.heap.size w W → Calls Tryz.prog 20 #[.agg #[.slice o n cap], .agg #[.int .i64 root, .int .i64 cur, .int .u32 (sh : Int), .slice (some ad) l.length rc]] W fun e w' => e = .returned (.int .i64 D) ∧ Below W.heap.size W w')
    (H7 : way = 7 → ∀ W : World, Below w.heap.size w W → Calls Tryz.prog 21 #[.agg #[.slice o n cap], .agg #[.int .i64 root, .int .i64 cur, .int .u32 (sh : Int), .slice (some ad) l.length rc]] W fun e w' => e = .returned (.int .i64 D) ∧ Below W.heap.size W w') :
    Calls Tryz.prog 7 #[.agg #[.slice o n cap], .agg #[.int .i64 root, .int .i64 cur, .int .u32 (sh : Int), .slice (some ad) l.length rc], .int .u8 (way : Int)] w fun e w' => ∃ vo vc, e = .returned (.tuple #[.agg #[.int .i64 root, .int .i64 C, .int .u32 (sh : Int), .slice vo l.length vc], .int .i64 D, .int .i64 0]) ∧ w'.ownsRow w.heap.size 39 3 (.slice vo l.length vc) l.length (rulesC l) ∧ Below w.heap.size w w' := by
  obtain ⟨i0, hi, hz0, hz1, hz2⟩ := info_parts info_rule
  have HRu := hid hr
  clear hr
  have X1 := hid H1
  have X2 := hid H2
  have X3 := hid H3
  have X4 := hid H4
  have X5 := hid H5
  have X6 := hid H6
  have X7 := hid H7
  clear H1 H2 H3 H4 H5 H6 H7
  have hA0 := At3.first w (.slice o n cap) (.int .i64 root) (.int .i64 cur) (.int .u32 (sh : Int)) (.slice (some ad) l.length rc)
  have hW := HW _ hA0.below
  clear HW
  go_enter Tryz.func7, Tryz.ntmps7
  go_wp2_with fail
  refine hW.mono ?_
  rintro e v1 ⟨rfl, hb⟩
  have hA1 := hA0.step hb
  clear hb hW hA0
  go_upto_region 4 with fail
  go_cut [10] (fun t wx => t = .int .i64 0 ∧ v1 = wx)
  case first =>
    go_wp2_with fail
    go_meet
    case rel => exact ⟨rfl, rfl⟩
  case rest =>
  obtain ⟨rfl, rfl⟩ := hcut
  rename_i K1 hK1
  refine hK1 _ _ ?_
  refine wp_seq_k (fun K2 hK2 => ?_)
  go_cut [10] (fun t wx => t = .int .i64 D ∧ At3 w (.slice o n cap) (.int .i64 root) (.int .i64 cur) (.int .u32 (sh : Int)) (.slice (some ad) l.length rc) wx)
  case first =>
    clear HRu
    obtain ⟨q0, q1, q2, q3, q4⟩ := hA1.cells
    rcases isWay_cases hw with e | e | e | e | e | e | e
    · have hU := X1.out e v1 hA1.below
      have g1 : ((way : Int) == 1) = true := ver_eq e
      clear X1 X2 X3 X4 X5 X6 X7 e
      go_wp2_with fail
      refine hU.mono ?_
      rintro e v2 ⟨rfl, hb⟩
      have hA2 := hA1.step hb
      clear hU hb q0 q1 q2 q3 q4
      go_wp2_with fail
      go_meet
      case rel => exact ⟨rfl, hA2⟩
    · have hU := X2.out e v1 hA1.below
      have g1 : ((way : Int) == 1) = false := ver_ne (show way ≠ 1 by omega)
      have g2 : ((way : Int) == 2) = true := ver_eq e
      have g3 : ((way : Int) == 3) = false := ver_ne (show way ≠ 3 by omega)
      clear X1 X2 X3 X4 X5 X6 X7 e
      go_wp2_with fail
      refine hU.mono ?_
      rintro e v2 ⟨rfl, hb⟩
      have hA2 := hA1.step hb
      clear hU hb q0 q1 q2 q3 q4
      go_wp2_with fail
      go_meet
      case rel => exact ⟨rfl, hA2⟩
    · have hU := X3.out e v1 hA1.below
      have g1 : ((way : Int) == 1) = false := ver_ne (show way ≠ 1 by omega)
      have g2 : ((way : Int) == 2) = false := ver_ne (show way ≠ 2 by omega)
      have g3 : ((way : Int) == 3) = true := ver_eq e
      clear X1 X2 X3 X4 X5 X6 X7 e
      go_wp2_with fail
      refine hU.mono ?_
      rintro e v2 ⟨rfl, hb⟩
      have hA2 := hA1.step hb
      clear hU hb q0 q1 q2 q3 q4
      go_wp2_with fail
      go_meet
      case rel => exact ⟨rfl, hA2⟩
    · have hU := X4.out e v1 hA1.below
      have g1 : ((way : Int) == 1) = false := ver_ne (show way ≠ 1 by omega)
      have g2 : ((way : Int) == 2) = false := ver_ne (show way ≠ 2 by omega)
      have g3 : ((way : Int) == 3) = false := ver_ne (show way ≠ 3 by omega)
      have g4 : ((way : Int) == 4) = true := ver_eq e
      clear X1 X2 X3 X4 X5 X6 X7 e
      go_wp2_with fail
      refine hU.mono ?_
      rintro e v2 ⟨rfl, hb⟩
      have hA2 := hA1.step hb
      clear hU hb q0 q1 q2 q3 q4
      go_wp2_with fail
      go_meet
      case rel => exact ⟨rfl, hA2⟩
    · have hU := X5.out e v1 hA1.below
      have g1 : ((way : Int) == 1) = false := ver_ne (show way ≠ 1 by omega)
      have g2 : ((way : Int) == 2) = false := ver_ne (show way ≠ 2 by omega)
      have g3 : ((way : Int) == 3) = false := ver_ne (show way ≠ 3 by omega)
      have g4 : ((way : Int) == 4) = false := ver_ne (show way ≠ 4 by omega)
      have g5 : ((way : Int) == 5) = true := ver_eq e
      clear X1 X2 X3 X4 X5 X6 X7 e
      go_wp2_with fail
      refine hU.mono ?_
      rintro e v2 ⟨rfl, hb⟩
      have hA2 := hA1.step hb
      clear hU hb q0 q1 q2 q3 q4
      go_wp2_with fail
      go_meet
      case rel => exact ⟨rfl, hA2⟩
    · have hU := X6.out e v1 hA1.below
      have g1 : ((way : Int) == 1) = false := ver_ne (show way ≠ 1 by omega)
      have g2 : ((way : Int) == 2) = false := ver_ne (show way ≠ 2 by omega)
      have g3 : ((way : Int) == 3) = false := ver_ne (show way ≠ 3 by omega)
      have g4 : ((way : Int) == 4) = false := ver_ne (show way ≠ 4 by omega)
      have g5 : ((way : Int) == 5) = false := ver_ne (show way ≠ 5 by omega)
      have g6 : ((way : Int) == 6) = true := ver_eq e
      clear X1 X2 X3 X4 X5 X6 X7 e
      go_wp2_with fail
      refine hU.mono ?_
      rintro e v2 ⟨rfl, hb⟩
      have hA2 := hA1.step hb
      clear hU hb q0 q1 q2 q3 q4
      go_wp2_with fail
      go_meet
      case rel => exact ⟨rfl, hA2⟩
    · have hU := X7.out e v1 hA1.below
      have g1 : ((way : Int) == 1) = false := ver_ne (show way ≠ 1 by omega)
      have g2 : ((way : Int) == 2) = false := ver_ne (show way ≠ 2 by omega)
      have g3 : ((way : Int) == 3) = false := ver_ne (show way ≠ 3 by omega)
      have g4 : ((way : Int) == 4) = false := ver_ne (show way ≠ 4 by omega)
      have g5 : ((way : Int) == 5) = false := ver_ne (show way ≠ 5 by omega)
      have g6 : ((way : Int) == 6) = false := ver_ne (show way ≠ 6 by omega)
      have g7 : ((way : Int) == 7) = true := ver_eq e
      clear X1 X2 X3 X4 X5 X6 X7 e
      go_wp2_with fail
      refine hU.mono ?_
      rintro e v2 ⟨rfl, hb⟩
      have hA2 := hA1.step hb
      clear hU hb q0 q1 q2 q3 q4
      go_wp2_with fail
      go_meet
      case rel => exact ⟨rfl, hA2⟩
  case rest =>
    obtain ⟨rfl, hA⟩ := hcut
    clear X1 X2 X3 X4 X5 X6 X7 hA1
    obtain ⟨kf, kw, kz⟩ := hA.heaps
    have hsz := hA.size
    have HKW := hid kw
    have HKZ := hid kz
    have HB1 := hid hA.below
    have HF1 : Hid (Below (w.heap.size + 1) (w.alloc (.cells #[.slice o n cap] 24)) wc) := ((((Below.refl (w.heap.size + 1) (w.alloc (.cells #[.slice o n cap] 24))).alloc (by simp) _).alloc (by simp only [World.size_alloc]; omega) _)).trans (Below.mono hA (by omega))
    have HF2 : Hid (Below (w.heap.size + 1) (w.alloc (.cells #[.slice o n cap] 24)) (wc.drew.alloc (.cells #[] 39))) := HF1.out.drew.alloc (show w.heap.size + 1 ≤ wc.heap.size by omega) _
    have HB2 : Hid (Below w.heap.size w (wc.drew.alloc (.cells #[] 39))) := HB1.out.drew.alloc (show w.heap.size ≤ wc.heap.size by omega) _
    have hwl : w.heap.size + 1 < wc.heap.size := by omega
    have hzl : w.heap.size + 1 + 1 < wc.heap.size := by omega
    have HKW2 : Hid ((wc.drew.alloc (.cells #[] 39)).heap[w.heap.size + 1]? = some (.cells #[.int .i64 root, .int .i64 cur, .int .u32 (sh : Int), .slice (some ad) l.length rc] 30)) := (Below.heap_alloc wc.drew _ _ hwl).trans HKW.out
    have HKZ2 : Hid ((wc.drew.alloc (.cells #[] 39)).heap[w.heap.size + 1 + 1]? = some (.cells #[.int .i64 0, .int .i64 0, .int .u32 0, .slice none 0 0] 30)) := (Below.heap_alloc wc.drew _ _ hzl).trans HKZ.out
    have hnw : w.heap.size + 1 ≠ wc.heap.size := by omega
    have hnz : w.heap.size + 1 + 1 ≠ wc.heap.size := by omega
    have hnews : ∀ (j : Nat) (u : Value), (rulesC l)[j]? = some u → wc.cell? (ad.add j) = some u := fun j u hj => by
      obtain ⟨o', c', he, hc, g⟩ := HRu.out.later HB1.out
      have hp : 0 < l.length := by
        have hlt : j < (rulesC l).length := (List.getElem?_eq_some_iff.1 hj).1
        rw [rulesC_len] at hlt
        omega
      obtain ⟨b, off, h, _, ha⟩ := g hp
      simp only [Value.slice.injEq] at he
      rw [h] at he
      cases he.1
      exact rules_news ha j u hj
    have Hnews : Hid (∀ (j : Nat) (u : Value), (rulesC l)[j]? = some u → (wc.drew.alloc (.cells #[] 39)).cell? (ad.add j) = some u) := fun j u hj => cell_kept (W := wc.drew) (hnews j u hj) (World.grownBy_alloc wc.drew _ none) (fun r e => by cases e)
    have Hone := hid (rules_one l)
    have Hlen := hid (rulesC_len l)
    have m1 : 0 + l.length ≤ maxLen := by simp only [maxLen]; omega
    have m2 : (0 + l.length) * 32 ≤ 140737488355328 := by omega
    have m3 : wc.heap.size ≤ (wc.drew.alloc (.cells #[] 39)).heap.size := by rw [World.size_alloc]; exact Nat.le_succ _
    have own_lt : ∀ k, (Value.slice (some ⟨wc.heap.size, 0, none⟩) 0 0).ownBlock = some k → w.heap.size ≤ k := fun k hk => by simp only [Value.ownBlock, Option.some.injEq] at hk; omega
    have own_lt2 : ∀ k, (Value.slice (some ⟨wc.heap.size, 0, none⟩) 0 0).ownBlock = some k → w.heap.size + 1 ≤ k := fun k hk => by simp only [Value.ownBlock, Option.some.injEq] at hk; omega
    clear hnews
    have Hown : Hid ((wc.drew.alloc (.cells #[] 39)).ownsRow wc.heap.size 39 3 (.slice (some ⟨wc.heap.size, 0, none⟩) 0 0) 0 []) := ⟨rfl, .inr ⟨wc.heap.size, 0, #[], rfl, Nat.le_refl _, vheapW wc.drew _, Nat.le_refl _, Nat.zero_le _, rfl, rfl⟩⟩
    clear kf kw kz hA HRu
    go_upto_region 19 with fail
    refine wp_region_held_drew (S := (fun V => Below (w.heap.size + 1) (w.alloc (.cells #[.slice o n cap] 24)) V ∧ BoxW (w.heap.size + 1) (.int .i64 root) (.int .i64 cur) (.int .u32 (sh : Int)) V)) (by kernel_rfl) (⟨HF1.out.drew, _, HKW.out⟩) (fun hHeld => ?_)
    refine wpAnyH_one 0 51 (.pointer (some ⟨w.heap.size + 1, 0, none⟩)) hHeld rfl rfl (by kernel_rfl) (fun _ _ _ _ _ h => h) (by kernel_rfl) (by kernel_rfl) (by rfl) ?_ ?_
    · intro V hSw; (try dsimp only at hSw); go_simp
    simp only [Act.put, List.setIfInBounds_toArray, List.set_cons_zero, List.set_cons_succ]
    refine wpAnyH_one 1 52 (.int .i64 root) hHeld rfl rfl (by kernel_rfl) (fun _ _ _ _ _ h => h) (by kernel_rfl) (by kernel_rfl) (by rfl) ?_ ?_
    · intro V hSw; (try dsimp only at hSw); obtain ⟨p1, p2, p3⟩ := hSw.2.cells; go_simp
    simp only [Act.put, List.setIfInBounds_toArray, List.set_cons_zero, List.set_cons_succ]
    refine wpAnyH_one 2 53 (.pointer (some ⟨w.heap.size + 1, 1, none⟩)) hHeld rfl rfl (by kernel_rfl) (fun _ _ _ _ _ h => h) (by kernel_rfl) (by kernel_rfl) (by rfl) ?_ ?_
    · intro V hSw; (try dsimp only at hSw); go_simp
    simp only [Act.put, List.setIfInBounds_toArray, List.set_cons_zero, List.set_cons_succ]
    refine wpAnyH_one 3 54 (.int .i64 cur) hHeld rfl rfl (by kernel_rfl) (fun _ _ _ _ _ h => h) (by kernel_rfl) (by kernel_rfl) (by rfl) ?_ ?_
    · intro V hSw; (try dsimp only at hSw); obtain ⟨p1, p2, p3⟩ := hSw.2.cells; go_simp
    simp only [Act.put, List.setIfInBounds_toArray, List.set_cons_zero, List.set_cons_succ]
    refine wpAnyH_one 4 55 (.pointer (some ⟨w.heap.size + 1, 2, none⟩)) hHeld rfl rfl (by kernel_rfl) (fun _ _ _ _ _ h => h) (by kernel_rfl) (by kernel_rfl) (by rfl) ?_ ?_
    · intro V hSw; (try dsimp only at hSw); go_simp
    simp only [Act.put, List.setIfInBounds_toArray, List.set_cons_zero, List.set_cons_succ]
    refine wpAnyH_one 5 56 (.pointer (some ⟨w.heap.size + 1, 2, none⟩)) hHeld rfl rfl (by kernel_rfl) (fun _ _ _ _ _ h => h) (by kernel_rfl) (by kernel_rfl) (by rfl) ?_ ?_
    · intro V hSw; (try dsimp only at hSw); go_simp
    simp only [Act.put, List.setIfInBounds_toArray, List.set_cons_zero, List.set_cons_succ]
    refine wpAnyH_one 6 57 (.int .u32 (sh : Int)) hHeld rfl rfl (by kernel_rfl) (fun _ _ _ _ _ h => h) (by kernel_rfl) (by kernel_rfl) (by rfl) ?_ ?_
    · intro V hSw; (try dsimp only at hSw); obtain ⟨p1, p2, p3⟩ := hSw.2.cells; go_simp
    simp only [Act.put, List.setIfInBounds_toArray, List.set_cons_zero, List.set_cons_succ]
    refine wpAnyH_one 8 59 (.pointer (some ⟨w.heap.size + 1, 2, none⟩)) hHeld rfl rfl (by kernel_rfl) (fun _ _ _ _ _ h => h) (by kernel_rfl) (by kernel_rfl) (by rfl) ?_ ?_
    · intro V hSw; (try dsimp only at hSw); go_simp
    simp only [Act.put, List.setIfInBounds_toArray, List.set_cons_zero, List.set_cons_succ]
    refine wpAnyH_one 9 60 (.pointer (some ⟨w.heap.size + 1, 3, none⟩)) hHeld rfl rfl (by kernel_rfl) (fun _ _ _ _ _ h => h) (by kernel_rfl) (by kernel_rfl) (by rfl) ?_ ?_
    · intro V hSw; (try dsimp only at hSw); go_simp
    simp only [Act.put, List.setIfInBounds_toArray, List.set_cons_zero, List.set_cons_succ]
    refine wpAnyH_ready (rs := [7, 10]) (by kernel_rfl) (by simp) ?_
    refine AllReadyH.cons rfl (fun K hK => ?_) (AllReadyH.cons rfl (fun K hK => ?_) AllReadyH.nil)
    · go_simp
      refine hK.out _ _ ⟨HF2.out, _, HKW2.out⟩ (fun hHeld => ?_)
      clear hK K
      have r4 := (cells4 ((Below.heap_alloc wc (.cells #[] 39) _ hwl).trans HKW.out)).2.2.2
      refine wpAnyH_ready (rs := [10]) (by kernel_rfl) (by simp) ?_
      refine AllReadyH.cons rfl (fun K hK => ?_) AllReadyH.nil
      go_simp
      refine hK.out _ _ (⟨HF2.out, _, HKW2.out⟩) (fun hHeld => ?_)
      clear hK K
      clear r4
      refine wpAnyH_ready (rs := [11]) (by kernel_rfl) (by simp) ?_
      refine AllReadyH.cons rfl (fun K hK => ?_) AllReadyH.nil
      refine wp_append_own _ (.tmp 58) (.tmp 61) 26 rfl wc.heap.size 39 i0 (.agg #[.int .u8 0, .string ⟨#[]⟩, .int .u8 0]) 3 32 Tryz.underlying26 hi hz0 hz1 hz2 rfl (by decide) (.slice (some ⟨wc.heap.size, 0, none⟩) 0 0) 0 [] rfl Hown.out ad l.length rc (rulesC l) rfl Hlen.out Hnews.out Hone.out m1 m2 m3 ?_
      intro v' w1 hown' hgrow _
      rw [Nat.zero_add, List.nil_append] at hown'
      obtain ⟨vo, vc, rfl⟩ := own_shape hown'
      have HOW := hid hown'
      have HF3 := hid (HF2.out.grown hgrow (by have := HF2.out.size; simp only [World.size_alloc] at this ⊢; omega) own_lt2)
      have HB3 := hid (HB2.out.grown hgrow HB2.out.size own_lt)
      have HKW3 := hid (grown_keepS (V := wc.drew) HKW.out hgrow rfl hnw)
      have HKZ3 := hid (grown_keepS (V := wc.drew) HKZ.out hgrow rfl hnz)
      clear hown' hgrow
      refine hK.out _ _ ⟨HF3.out, _, HKW3.out⟩ (fun hHeld => ?_)
      clear hK K
      simp only [Act.put, List.setIfInBounds_toArray, List.set_cons_zero, List.set_cons_succ]
      refine wpAnyH_one 12 63 (.agg #[.int .u32 (sh : Int), .slice vo l.length vc]) hHeld rfl rfl (by kernel_rfl) (fun _ _ _ _ _ h => h) (by kernel_rfl) (by kernel_rfl) (by rfl) ?_ ?_
      · intro V hSw; (try dsimp only at hSw); go_simp
      simp only [Act.put, List.setIfInBounds_toArray, List.set_cons_zero, List.set_cons_succ]
      refine wpAnyH_one 13 64 (.agg #[.int .i64 root, .int .i64 cur, .int .u32 (sh : Int), .slice vo l.length vc]) hHeld rfl rfl (by kernel_rfl) (fun _ _ _ _ _ h => h) (by kernel_rfl) (by kernel_rfl) (by rfl) ?_ ?_
      · intro V hSw; (try dsimp only at hSw); go_simp
      simp only [Act.put, List.setIfInBounds_toArray, List.set_cons_zero, List.set_cons_succ]
      obtain ⟨i0', i1, i2, i3⟩ := cells4 HKW3.out
      obtain ⟨f0, f1, f2, f3⟩ := free4 HKW3.out
      have HKW4 := hid (four_set HKW3.out (.int .i64 root) (.int .i64 cur) (.int .u32 (sh : Int)) (.slice vo l.length vc))
      have HF4 := hid (below_fourS (a := .int .i64 root) (b := .int .i64 cur) (c := .int .u32 (sh : Int)) (d := .slice vo l.length vc) HF3.out (Nat.le_refl (w.heap.size + 1)))
      have HB4 := hid (below_fourS (a := .int .i64 root) (b := .int .i64 cur) (c := .int .u32 (sh : Int)) (d := .slice vo l.length vc) HB3.out (Nat.le_succ w.heap.size))
      have HKZ4 := hid ((heap_fourS (V := _) (B := w.heap.size + 1) (a := .int .i64 root) (b := .int .i64 cur) (c := .int .u32 (sh : Int)) (d := .slice vo l.length vc) (by omega)).trans HKZ3.out)
      have HOW4 := hid (own_four (a := .int .i64 root) (b := .int .i64 cur) (c := .int .u32 (sh : Int)) (d := .slice vo l.length vc) HOW.out hwl)
      clear HKW3 HKZ3 HF3 HB3
      refine wpAnyH_ready (rs := [14]) (by kernel_rfl) (by simp) ?_
      refine AllReadyH.cons rfl (fun K hK => ?_) AllReadyH.nil
      go_simp
      refine hK.out _ _ (⟨HF4.out, _, HKW4.out⟩) (fun hHeld => ?_)
      clear hK K
      clear i0' i1 i2 i3 f0 f1 f2 f3
      refine wpAnyH_done (by kernel_rfl) ?_ _
      obtain ⟨i0', i1, i2, i3⟩ := cells4 HKW4.out
      obtain ⟨f0, f1, f2, f3⟩ := free4 HKW4.out
      obtain ⟨z0, z1, z2, z3⟩ := cells4 HKZ4.out
      obtain ⟨y0, y1, y2, y3⟩ := free4 HKZ4.out
      by_cases hD : D = 0
      · have n0 : (D != 0) = false := bne_f hD
        have HCC := hid (hC0 hD)
        clear hD hC0 hC1
        go_wp2_with fail
        have hn := four_set HKZ4.out (.int .i64 root) (.int .i64 cur) (.int .u32 (sh : Int)) (.slice vo l.length vc)
        obtain ⟨j0, j1, j2, j3⟩ := cells4 hn
        exact bodyPost_ret (v := .tuple #[.agg #[.int .i64 root, .int .i64 cur, .int .u32 (sh : Int), .slice vo l.length vc], .int .i64 D, .int .i64 0]) (by simp [results, Tryz.results7, go_sem, j0, j1, j2, j3]) rfl ⟨_, _, by rw [HCC.out], own_base HB1.out.size (own_four HOW4.out hzl), below_four HB4.out (by omega)⟩
      · have n0 : (D != 0) = true := bne_t hD
        have HCC := hid (hC1 hD)
        clear hD hC0 hC1
        go_wp2_with fail
        have hn := four_set ((Below.heap_setCell _ ⟨w.heap.size + 1, 1, none⟩ (.int .i64 D) (w.heap.size + 1 + 1) (by show w.heap.size + 1 + 1 ≠ w.heap.size + 1; omega)).trans HKZ4.out) (.int .i64 root) (.int .i64 D) (.int .u32 (sh : Int)) (.slice vo l.length vc)
        obtain ⟨j0, j1, j2, j3⟩ := cells4 hn
        exact bodyPost_ret (v := .tuple #[.agg #[.int .i64 root, .int .i64 D, .int .u32 (sh : Int), .slice vo l.length vc], .int .i64 D, .int .i64 0]) (by simp [results, Tryz.results7, go_sem, j0, j1, j2, j3]) rfl ⟨_, _, by rw [HCC.out], own_base HB1.out.size (own_four (ownsRow_setCell_below HOW4.out (a := ⟨w.heap.size + 1, 1, none⟩) hwl (.int .i64 D)) hzl), below_four (HB4.out.setCell (p := ⟨w.heap.size + 1, 1, none⟩) (Nat.le_succ _) _) (by omega)⟩
    · have r4 := (cells4 (V := wc.drew) HKW.out).2.2.2
      go_simp
      refine hK.out _ _ ⟨HF1.out.drew, _, HKW.out⟩ (fun hHeld => ?_)
      clear hK K r4
      refine wpAnyH_ready (rs := [7]) (by kernel_rfl) (by simp) ?_
      refine AllReadyH.cons rfl (fun K hK => ?_) AllReadyH.nil
      go_simp
      refine hK.out _ _ (⟨HF2.out, _, HKW2.out⟩) (fun hHeld => ?_)
      clear hK K
      refine wpAnyH_ready (rs := [11]) (by kernel_rfl) (by simp) ?_
      refine AllReadyH.cons rfl (fun K hK => ?_) AllReadyH.nil
      refine wp_append_own _ (.tmp 58) (.tmp 61) 26 rfl wc.heap.size 39 i0 (.agg #[.int .u8 0, .string ⟨#[]⟩, .int .u8 0]) 3 32 Tryz.underlying26 hi hz0 hz1 hz2 rfl (by decide) (.slice (some ⟨wc.heap.size, 0, none⟩) 0 0) 0 [] rfl Hown.out ad l.length rc (rulesC l) rfl Hlen.out Hnews.out Hone.out m1 m2 m3 ?_
      intro v' w1 hown' hgrow _
      rw [Nat.zero_add, List.nil_append] at hown'
      obtain ⟨vo, vc, rfl⟩ := own_shape hown'
      have HOW := hid hown'
      have HF3 := hid (HF2.out.grown hgrow (by have := HF2.out.size; simp only [World.size_alloc] at this ⊢; omega) own_lt2)
      have HB3 := hid (HB2.out.grown hgrow HB2.out.size own_lt)
      have HKW3 := hid (grown_keepS (V := wc.drew) HKW.out hgrow rfl hnw)
      have HKZ3 := hid (grown_keepS (V := wc.drew) HKZ.out hgrow rfl hnz)
      clear hown' hgrow
      refine hK.out _ _ ⟨HF3.out, _, HKW3.out⟩ (fun hHeld => ?_)
      clear hK K
      simp only [Act.put, List.setIfInBounds_toArray, List.set_cons_zero, List.set_cons_succ]
      refine wpAnyH_one 12 63 (.agg #[.int .u32 (sh : Int), .slice vo l.length vc]) hHeld rfl rfl (by kernel_rfl) (fun _ _ _ _ _ h => h) (by kernel_rfl) (by kernel_rfl) (by rfl) ?_ ?_
      · intro V hSw; (try dsimp only at hSw); go_simp
      simp only [Act.put, List.setIfInBounds_toArray, List.set_cons_zero, List.set_cons_succ]
      refine wpAnyH_one 13 64 (.agg #[.int .i64 root, .int .i64 cur, .int .u32 (sh : Int), .slice vo l.length vc]) hHeld rfl rfl (by kernel_rfl) (fun _ _ _ _ _ h => h) (by kernel_rfl) (by kernel_rfl) (by rfl) ?_ ?_
      · intro V hSw; (try dsimp only at hSw); go_simp
      simp only [Act.put, List.setIfInBounds_toArray, List.set_cons_zero, List.set_cons_succ]
      obtain ⟨i0', i1, i2, i3⟩ := cells4 HKW3.out
      obtain ⟨f0, f1, f2, f3⟩ := free4 HKW3.out
      have HKW4 := hid (four_set HKW3.out (.int .i64 root) (.int .i64 cur) (.int .u32 (sh : Int)) (.slice vo l.length vc))
      have HF4 := hid (below_fourS (a := .int .i64 root) (b := .int .i64 cur) (c := .int .u32 (sh : Int)) (d := .slice vo l.length vc) HF3.out (Nat.le_refl (w.heap.size + 1)))
      have HB4 := hid (below_fourS (a := .int .i64 root) (b := .int .i64 cur) (c := .int .u32 (sh : Int)) (d := .slice vo l.length vc) HB3.out (Nat.le_succ w.heap.size))
      have HKZ4 := hid ((heap_fourS (V := _) (B := w.heap.size + 1) (a := .int .i64 root) (b := .int .i64 cur) (c := .int .u32 (sh : Int)) (d := .slice vo l.length vc) (by omega)).trans HKZ3.out)
      have HOW4 := hid (own_four (a := .int .i64 root) (b := .int .i64 cur) (c := .int .u32 (sh : Int)) (d := .slice vo l.length vc) HOW.out hwl)
      clear HKW3 HKZ3 HF3 HB3
      refine wpAnyH_ready (rs := [14]) (by kernel_rfl) (by simp) ?_
      refine AllReadyH.cons rfl (fun K hK => ?_) AllReadyH.nil
      go_simp
      refine hK.out _ _ (⟨HF4.out, _, HKW4.out⟩) (fun hHeld => ?_)
      clear hK K
      clear i0' i1 i2 i3 f0 f1 f2 f3
      refine wpAnyH_done (by kernel_rfl) ?_ _
      obtain ⟨i0', i1, i2, i3⟩ := cells4 HKW4.out
      obtain ⟨f0, f1, f2, f3⟩ := free4 HKW4.out
      obtain ⟨z0, z1, z2, z3⟩ := cells4 HKZ4.out
      obtain ⟨y0, y1, y2, y3⟩ := free4 HKZ4.out
      by_cases hD : D = 0
      · have n0 : (D != 0) = false := bne_f hD
        have HCC := hid (hC0 hD)
        clear hD hC0 hC1
        go_wp2_with fail
        have hn := four_set HKZ4.out (.int .i64 root) (.int .i64 cur) (.int .u32 (sh : Int)) (.slice vo l.length vc)
        obtain ⟨j0, j1, j2, j3⟩ := cells4 hn
        exact bodyPost_ret (v := .tuple #[.agg #[.int .i64 root, .int .i64 cur, .int .u32 (sh : Int), .slice vo l.length vc], .int .i64 D, .int .i64 0]) (by simp [results, Tryz.results7, go_sem, j0, j1, j2, j3]) rfl ⟨_, _, by rw [HCC.out], own_base HB1.out.size (own_four HOW4.out hzl), below_four HB4.out (by omega)⟩
      · have n0 : (D != 0) = true := bne_t hD
        have HCC := hid (hC1 hD)
        clear hD hC0 hC1
        go_wp2_with fail
        have hn := four_set ((Below.heap_setCell _ ⟨w.heap.size + 1, 1, none⟩ (.int .i64 D) (w.heap.size + 1 + 1) (by show w.heap.size + 1 + 1 ≠ w.heap.size + 1; omega)).trans HKZ4.out) (.int .i64 root) (.int .i64 D) (.int .u32 (sh : Int)) (.slice vo l.length vc)
        obtain ⟨j0, j1, j2, j3⟩ := cells4 hn
        exact bodyPost_ret (v := .tuple #[.agg #[.int .i64 root, .int .i64 D, .int .u32 (sh : Int), .slice vo l.length vc], .int .i64 D, .int .i64 0]) (by simp [results, Tryz.results7, go_sem, j0, j1, j2, j3]) rfl ⟨_, _, by rw [HCC.out], own_base HB1.out.size (own_four (ownsRow_setCell_below HOW4.out (a := ⟨w.heap.size + 1, 1, none⟩) hwl (.int .i64 D)) hzl), below_four (HB4.out.setCell (p := ⟨w.heap.size + 1, 1, none⟩) (Nat.le_succ _) _) (by omega)⟩
end
end Go.Proofs.YteflknfejjdkfabGreat

namespace Go.Proofs.YteflknfejjdkfabGreat
open Go.RowKit Go.Lib Go.Shelf

section
variable {w : World} {o : Option Addr} {cap n : Nat} {root cur : Int} {sh : Nat} {rc : Nat} {way : Nat}
set_option linter.unusedSimpArgs false in
set_option maxRecDepth 100000 in
set_option maxHeartbeats 8000000 in
theorem refStep_nil (D C : Int) (hC0 : D = 0 → C = cur) (hC1 : D ≠ 0 → C = D) (hw : isWay way = true) (HW : ∀ W : World, Below w.heap.size w W → Calls Tryz.prog 16 #[.agg #[.slice o n cap], .agg #[.int .i64 root, .int .i64 cur, .int .u32 (sh : Int), .slice none 0 rc]] W fun e w' => e = .returned (.int .i64 0) ∧ Below W.heap.size W w')
    (H1 : way = 1 → ∀ W : World, Below w.heap.size w W → Calls Tryz.prog 17 #[.agg #[.slice o n cap], .agg #[.int .i64 root, .int .i64 cur, .int .u32 (sh : Int), .slice none 0 rc]] W fun e w' => e = .returned (.int .i64 D) ∧ Below W.heap.size W w')
    (H2 : way = 2 → ∀ W : World, Below w.heap.size w W → Calls Tryz.prog 18 #[.agg #[.slice o n cap], .agg #[.int .i64 root, .int .i64 cur, .int .u32 (sh : Int), .slice none 0 rc], .bool false] W fun e w' => e = .returned (.int .i64 D) ∧ Below W.heap.size W w')
    (H3 : way = 3 → ∀ W : World, Below w.heap.size w W → Calls Tryz.prog 18 #[.agg #[.slice o n cap], .agg #[.int .i64 root, .int .i64 cur, .int .u32 (sh : Int), .slice none 0 rc], .bool true] W fun e w' => e = .returned (.int .i64 D) ∧ Below W.heap.size W w')
    (H4 : way = 4 → ∀ W : World, Below w.heap.size w W → Calls Tryz.prog 19 #[.agg #[.slice o n cap], .agg #[.int .i64 root, .int .i64 cur, .int .u32 (sh : Int), .slice none 0 rc], .bool true] W fun e w' => e = .returned (.int .i64 D) ∧ Below W.heap.size W w')
    (H5 : way = 5 → ∀ W : World, Below w.heap.size w W → Calls Tryz.prog 19 #[.agg #[.slice o n cap], .agg #[.int .i64 root, .int .i64 cur, .int .u32 (sh : Int), .slice none 0 rc], .bool false] W fun e w' => e = .returned (.int .i64 D) ∧ Below W.heap.size W w')
    (H6 : way = 6 → ∀ W : World, Below w.heap.size w W → Calls Tryz.prog 20 #[.agg #[.slice o n cap], .agg #[.int .i64 root, .int .i64 cur, .int .u32 (sh : Int), .slice none 0 rc]] W fun e w' => e = .returned (.int .i64 D) ∧ Below W.heap.size W w')
    (H7 : way = 7 → ∀ W : World, Below w.heap.size w W → Calls Tryz.prog 21 #[.agg #[.slice o n cap], .agg #[.int .i64 root, .int .i64 cur, .int .u32 (sh : Int), .slice none 0 rc]] W fun e w' => e = .returned (.int .i64 D) ∧ Below W.heap.size W w') :
    Calls Tryz.prog 7 #[.agg #[.slice o n cap], .agg #[.int .i64 root, .int .i64 cur, .int .u32 (sh : Int), .slice none 0 rc], .int .u8 (way : Int)] w fun e w' => ∃ vo vc, e = .returned (.tuple #[.agg #[.int .i64 root, .int .i64 C, .int .u32 (sh : Int), .slice vo 0 vc], .int .i64 D, .int .i64 0]) ∧ w'.ownsRow w.heap.size 39 3 (.slice vo 0 vc) 0 (rulesC []) ∧ Below w.heap.size w w' := by
  have HRu : Hid True := trivial
  have X1 := hid H1
  have X2 := hid H2
  have X3 := hid H3
  have X4 := hid H4
  have X5 := hid H5
  have X6 := hid H6
  have X7 := hid H7
  clear H1 H2 H3 H4 H5 H6 H7
  have hA0 := At3.first w (.slice o n cap) (.int .i64 root) (.int .i64 cur) (.int .u32 (sh : Int)) (.slice none 0 rc)
  have hW := HW _ hA0.below
  clear HW
  go_enter Tryz.func7, Tryz.ntmps7
  go_wp2_with fail
  refine hW.mono ?_
  rintro e v1 ⟨rfl, hb⟩
  have hA1 := hA0.step hb
  clear hb hW hA0
  go_upto_region 4 with fail
  go_cut [10] (fun t wx => t = .int .i64 0 ∧ v1 = wx)
  case first =>
    go_wp2_with fail
    go_meet
    case rel => exact ⟨rfl, rfl⟩
  case rest =>
  obtain ⟨rfl, rfl⟩ := hcut
  rename_i K1 hK1
  refine hK1 _ _ ?_
  refine wp_seq_k (fun K2 hK2 => ?_)
  go_cut [10] (fun t wx => t = .int .i64 D ∧ At3 w (.slice o n cap) (.int .i64 root) (.int .i64 cur) (.int .u32 (sh : Int)) (.slice none 0 rc) wx)
  case first =>
    clear HRu
    obtain ⟨q0, q1, q2, q3, q4⟩ := hA1.cells
    rcases isWay_cases hw with e | e | e | e | e | e | e
    · have hU := X1.out e v1 hA1.below
      have g1 : ((way : Int) == 1) = true := ver_eq e
      clear X1 X2 X3 X4 X5 X6 X7 e
      go_wp2_with fail
      refine hU.mono ?_
      rintro e v2 ⟨rfl, hb⟩
      have hA2 := hA1.step hb
      clear hU hb q0 q1 q2 q3 q4
      go_wp2_with fail
      go_meet
      case rel => exact ⟨rfl, hA2⟩
    · have hU := X2.out e v1 hA1.below
      have g1 : ((way : Int) == 1) = false := ver_ne (show way ≠ 1 by omega)
      have g2 : ((way : Int) == 2) = true := ver_eq e
      have g3 : ((way : Int) == 3) = false := ver_ne (show way ≠ 3 by omega)
      clear X1 X2 X3 X4 X5 X6 X7 e
      go_wp2_with fail
      refine hU.mono ?_
      rintro e v2 ⟨rfl, hb⟩
      have hA2 := hA1.step hb
      clear hU hb q0 q1 q2 q3 q4
      go_wp2_with fail
      go_meet
      case rel => exact ⟨rfl, hA2⟩
    · have hU := X3.out e v1 hA1.below
      have g1 : ((way : Int) == 1) = false := ver_ne (show way ≠ 1 by omega)
      have g2 : ((way : Int) == 2) = false := ver_ne (show way ≠ 2 by omega)
      have g3 : ((way : Int) == 3) = true := ver_eq e
      clear X1 X2 X3 X4 X5 X6 X7 e
      go_wp2_with fail
      refine hU.mono ?_
      rintro e v2 ⟨rfl, hb⟩
      have hA2 := hA1.step hb
      clear hU hb q0 q1 q2 q3 q4
      go_wp2_with fail
      go_meet
      case rel => exact ⟨rfl, hA2⟩
    · have hU := X4.out e v1 hA1.below
      have g1 : ((way : Int) == 1) = false := ver_ne (show way ≠ 1 by omega)
      have g2 : ((way : Int) == 2) = false := ver_ne (show way ≠ 2 by omega)
      have g3 : ((way : Int) == 3) = false := ver_ne (show way ≠ 3 by omega)
      have g4 : ((way : Int) == 4) = true := ver_eq e
      clear X1 X2 X3 X4 X5 X6 X7 e
      go_wp2_with fail
      refine hU.mono ?_
      rintro e v2 ⟨rfl, hb⟩
      have hA2 := hA1.step hb
      clear hU hb q0 q1 q2 q3 q4
      go_wp2_with fail
      go_meet
      case rel => exact ⟨rfl, hA2⟩
    · have hU := X5.out e v1 hA1.below
      have g1 : ((way : Int) == 1) = false := ver_ne (show way ≠ 1 by omega)
      have g2 : ((way : Int) == 2) = false := ver_ne (show way ≠ 2 by omega)
      have g3 : ((way : Int) == 3) = false := ver_ne (show way ≠ 3 by omega)
      have g4 : ((way : Int) == 4) = false := ver_ne (show way ≠ 4 by omega)
      have g5 : ((way : Int) == 5) = true := ver_eq e
      clear X1 X2 X3 X4 X5 X6 X7 e
      go_wp2_with fail
      refine hU.mono ?_
      rintro e v2 ⟨rfl, hb⟩
      have hA2 := hA1.step hb
      clear hU hb q0 q1 q2 q3 q4
      go_wp2_with fail
      go_meet
      case rel => exact ⟨rfl, hA2⟩
    · have hU := X6.out e v1 hA1.below
      have g1 : ((way : Int) == 1) = false := ver_ne (show way ≠ 1 by omega)
      have g2 : ((way : Int) == 2) = false := ver_ne (show way ≠ 2 by omega)
      have g3 : ((way : Int) == 3) = false := ver_ne (show way ≠ 3 by omega)
      have g4 : ((way : Int) == 4) = false := ver_ne (show way ≠ 4 by omega)
      have g5 : ((way : Int) == 5) = false := ver_ne (show way ≠ 5 by omega)
      have g6 : ((way : Int) == 6) = true := ver_eq e
      clear X1 X2 X3 X4 X5 X6 X7 e
      go_wp2_with fail
      refine hU.mono ?_
      rintro e v2 ⟨rfl, hb⟩
      have hA2 := hA1.step hb
      clear hU hb q0 q1 q2 q3 q4
      go_wp2_with fail
      go_meet
      case rel => exact ⟨rfl, hA2⟩
    · have hU := X7.out e v1 hA1.below
      have g1 : ((way : Int) == 1) = false := ver_ne (show way ≠ 1 by omega)
      have g2 : ((way : Int) == 2) = false := ver_ne (show way ≠ 2 by omega)
      have g3 : ((way : Int) == 3) = false := ver_ne (show way ≠ 3 by omega)
      have g4 : ((way : Int) == 4) = false := ver_ne (show way ≠ 4 by omega)
      have g5 : ((way : Int) == 5) = false := ver_ne (show way ≠ 5 by omega)
      have g6 : ((way : Int) == 6) = false := ver_ne (show way ≠ 6 by omega)
      have g7 : ((way : Int) == 7) = true := ver_eq e
      clear X1 X2 X3 X4 X5 X6 X7 e
      go_wp2_with fail
      refine hU.mono ?_
      rintro e v2 ⟨rfl, hb⟩
      have hA2 := hA1.step hb
      clear hU hb q0 q1 q2 q3 q4
      go_wp2_with fail
      go_meet
      case rel => exact ⟨rfl, hA2⟩
  case rest =>
    obtain ⟨rfl, hA⟩ := hcut
    clear X1 X2 X3 X4 X5 X6 X7 hA1
    obtain ⟨kf, kw, kz⟩ := hA.heaps
    have hsz := hA.size
    have HKW := hid kw
    have HKZ := hid kz
    have HB1 := hid hA.below
    have HF1 : Hid (Below (w.heap.size + 1) (w.alloc (.cells #[.slice o n cap] 24)) wc) := ((((Below.refl (w.heap.size + 1) (w.alloc (.cells #[.slice o n cap] 24))).alloc (by simp) _).alloc (by simp only [World.size_alloc]; omega) _)).trans (Below.mono hA (by omega))
    have HF2 : Hid (Below (w.heap.size + 1) (w.alloc (.cells #[.slice o n cap] 24)) (wc.drew.alloc (.cells #[] 39))) := HF1.out.drew.alloc (show w.heap.size + 1 ≤ wc.heap.size by omega) _
    have HB2 : Hid (Below w.heap.size w (wc.drew.alloc (.cells #[] 39))) := HB1.out.drew.alloc (show w.heap.size ≤ wc.heap.size by omega) _
    have hwl : w.heap.size + 1 < wc.heap.size := by omega
    have hzl : w.heap.size + 1 + 1 < wc.heap.size := by omega
    have HKW2 : Hid ((wc.drew.alloc (.cells #[] 39)).heap[w.heap.size + 1]? = some (.cells #[.int .i64 root, .int .i64 cur, .int .u32 (sh : Int), .slice none 0 rc] 30)) := (Below.heap_alloc wc.drew _ _ hwl).trans HKW.out
    have HKZ2 : Hid ((wc.drew.alloc (.cells #[] 39)).heap[w.heap.size + 1 + 1]? = some (.cells #[.int .i64 0, .int .i64 0, .int .u32 0, .slice none 0 0] 30)) := (Below.heap_alloc wc.drew _ _ hzl).trans HKZ.out
    have hnw : w.heap.size + 1 ≠ wc.heap.size := by omega
    have hnz : w.heap.size + 1 + 1 ≠ wc.heap.size := by omega
    have Hown : Hid ((wc.drew.alloc (.cells #[] 39)).ownsRow wc.heap.size 39 3 (.slice (some ⟨wc.heap.size, 0, none⟩) 0 0) 0 []) := ⟨rfl, .inr ⟨wc.heap.size, 0, #[], rfl, Nat.le_refl _, vheapW wc.drew _, Nat.le_refl _, Nat.zero_le _, rfl, rfl⟩⟩
    clear kf kw kz hA HRu
    go_upto_region 19 with fail
    refine wp_region_held_drew (S := (fun V => Below (w.heap.size + 1) (w.alloc (.cells #[.slice o n cap] 24)) V ∧ BoxW (w.heap.size + 1) (.int .i64 root) (.int .i64 cur) (.int .u32 (sh : Int)) V)) (by kernel_rfl) (⟨HF1.out.drew, _, HKW.out⟩) (fun hHeld => ?_)
    refine wpAnyH_one 0 51 (.pointer (some ⟨w.heap.size + 1, 0, none⟩)) hHeld rfl rfl (by kernel_rfl) (fun _ _ _ _ _ h => h) (by kernel_rfl) (by kernel_rfl) (by rfl) ?_ ?_
    · intro V hSw; (try dsimp only at hSw); go_simp
    simp only [Act.put, List.setIfInBounds_toArray, List.set_cons_zero, List.set_cons_succ]
    refine wpAnyH_one 1 52 (.int .i64 root) hHeld rfl rfl (by kernel_rfl) (fun _ _ _ _ _ h => h) (by kernel_rfl) (by kernel_rfl) (by rfl) ?_ ?_
    · intro V hSw; (try dsimp only at hSw); obtain ⟨p1, p2, p3⟩ := hSw.2.cells; go_simp
    simp only [Act.put, List.setIfInBounds_toArray, List.set_cons_zero, List.set_cons_succ]
    refine wpAnyH_one 2 53 (.pointer (some ⟨w.heap.size + 1, 1, none⟩)) hHeld rfl rfl (by kernel_rfl) (fun _ _ _ _ _ h => h) (by kernel_rfl) (by kernel_rfl) (by rfl) ?_ ?_
    · intro V hSw; (try dsimp only at hSw); go_simp
    simp only [Act.put, List.setIfInBounds_toArray, List.set_cons_zero, List.set_cons_succ]
    refine wpAnyH_one 3 54 (.int .i64 cur) hHeld rfl rfl (by kernel_rfl) (fun _ _ _ _ _ h => h) (by kernel_rfl) (by kernel_rfl) (by rfl) ?_ ?_
    · intro V hSw; (try dsimp only at hSw); obtain ⟨p1, p2, p3⟩ := hSw.2.cells; go_simp
    simp only [Act.put, List.setIfInBounds_toArray, List.set_cons_zero, List.set_cons_succ]
    refine wpAnyH_one 4 55 (.pointer (some ⟨w.heap.size + 1, 2, none⟩)) hHeld rfl rfl (by kernel_rfl) (fun _ _ _ _ _ h => h) (by kernel_rfl) (by kernel_rfl) (by rfl) ?_ ?_
    · intro V hSw; (try dsimp only at hSw); go_simp
    simp only [Act.put, List.setIfInBounds_toArray, List.set_cons_zero, List.set_cons_succ]
    refine wpAnyH_one 5 56 (.pointer (some ⟨w.heap.size + 1, 2, none⟩)) hHeld rfl rfl (by kernel_rfl) (fun _ _ _ _ _ h => h) (by kernel_rfl) (by kernel_rfl) (by rfl) ?_ ?_
    · intro V hSw; (try dsimp only at hSw); go_simp
    simp only [Act.put, List.setIfInBounds_toArray, List.set_cons_zero, List.set_cons_succ]
    refine wpAnyH_one 6 57 (.int .u32 (sh : Int)) hHeld rfl rfl (by kernel_rfl) (fun _ _ _ _ _ h => h) (by kernel_rfl) (by kernel_rfl) (by rfl) ?_ ?_
    · intro V hSw; (try dsimp only at hSw); obtain ⟨p1, p2, p3⟩ := hSw.2.cells; go_simp
    simp only [Act.put, List.setIfInBounds_toArray, List.set_cons_zero, List.set_cons_succ]
    refine wpAnyH_one 8 59 (.pointer (some ⟨w.heap.size + 1, 2, none⟩)) hHeld rfl rfl (by kernel_rfl) (fun _ _ _ _ _ h => h) (by kernel_rfl) (by kernel_rfl) (by rfl) ?_ ?_
    · intro V hSw; (try dsimp only at hSw); go_simp
    simp only [Act.put, List.setIfInBounds_toArray, List.set_cons_zero, List.set_cons_succ]
    refine wpAnyH_one 9 60 (.pointer (some ⟨w.heap.size + 1, 3, none⟩)) hHeld rfl rfl (by kernel_rfl) (fun _ _ _ _ _ h => h) (by kernel_rfl) (by kernel_rfl) (by rfl) ?_ ?_
    · intro V hSw; (try dsimp only at hSw); go_simp
    simp only [Act.put, List.setIfInBounds_toArray, List.set_cons_zero, List.set_cons_succ]
    refine wpAnyH_ready (rs := [7, 10]) (by kernel_rfl) (by simp) ?_
    refine AllReadyH.cons rfl (fun K hK => ?_) (AllReadyH.cons rfl (fun K hK => ?_) AllReadyH.nil)
    · go_simp
      refine hK.out _ _ ⟨HF2.out, _, HKW2.out⟩ (fun hHeld => ?_)
      clear hK K
      obtain ⟨wd, hwd⟩ : ∃ wd, wd = (wc.alloc (.cells #[] 39)).drew := ⟨_, rfl⟩
      rw [← hwd]
      rw [← hwd] at hHeld
      have HF3 : Hid (Below (w.heap.size + 1) (w.alloc (.cells #[.slice o n cap] 24)) wd) := by subst hwd; exact HF2
      have HB3 : Hid (Below w.heap.size w wd) := by subst hwd; exact HB2
      have HKW3 : Hid (wd.heap[w.heap.size + 1]? = some (.cells #[.int .i64 root, .int .i64 cur, .int .u32 (sh : Int), .slice none 0 rc] 30)) := by subst hwd; exact HKW2
      have HKZ3 : Hid (wd.heap[w.heap.size + 1 + 1]? = some (.cells #[.int .i64 0, .int .i64 0, .int .u32 0, .slice none 0 0] 30)) := by subst hwd; exact HKZ2
      have HOW : Hid (wd.ownsRow wc.heap.size 39 3 (.slice (some ⟨wc.heap.size, 0, none⟩) 0 0) 0 []) := by subst hwd; exact Hown
      clear hwd
      have r4 := (cells4 HKW3.out).2.2.2
      refine wpAnyH_ready (rs := [10]) (by kernel_rfl) (by simp) ?_
      refine AllReadyH.cons rfl (fun K hK => ?_) AllReadyH.nil
      go_simp
      refine hK.out _ _ (⟨HF3.out, _, HKW3.out⟩) (fun hHeld => ?_)
      clear hK K
      clear r4
      refine wpAnyH_ready (rs := [11]) (by kernel_rfl) (by simp) ?_
      refine AllReadyH.cons rfl (fun K hK => ?_) AllReadyH.nil
      go_simp
      refine hK.out _ _ (⟨HF3.out, _, HKW3.out⟩) (fun hHeld => ?_)
      clear hK K
      refine wpAnyH_one 12 63 (.agg #[.int .u32 (sh : Int), .slice (some ⟨wc.heap.size, 0, none⟩) 0 0]) hHeld rfl rfl (by kernel_rfl) (fun _ _ _ _ _ h => h) (by kernel_rfl) (by kernel_rfl) (by rfl) ?_ ?_
      · intro V hSw; (try dsimp only at hSw); go_simp
      simp only [Act.put, List.setIfInBounds_toArray, List.set_cons_zero, List.set_cons_succ]
      refine wpAnyH_one 13 64 (.agg #[.int .i64 root, .int .i64 cur, .int .u32 (sh : Int), .slice (some ⟨wc.heap.size, 0, none⟩) 0 0]) hHeld rfl rfl (by kernel_rfl) (fun _ _ _ _ _ h => h) (by kernel_rfl) (by kernel_rfl) (by rfl) ?_ ?_
      · intro V hSw; (try dsimp only at hSw); go_simp
      simp only [Act.put, List.setIfInBounds_toArray, List.set_cons_zero, List.set_cons_succ]
      obtain ⟨i0', i1, i2, i3⟩ := cells4 HKW3.out
      obtain ⟨f0, f1, f2, f3⟩ := free4 HKW3.out
      have HKW4 := hid (four_set HKW3.out (.int .i64 root) (.int .i64 cur) (.int .u32 (sh : Int)) (.slice (some ⟨wc.heap.size, 0, none⟩) 0 0))
      have HF4 := hid (below_fourS (a := .int .i64 root) (b := .int .i64 cur) (c := .int .u32 (sh : Int)) (d := .slice (some ⟨wc.heap.size, 0, none⟩) 0 0) HF3.out (Nat.le_refl (w.heap.size + 1)))
      have HB4 := hid (below_fourS (a := .int .i64 root) (b := .int .i64 cur) (c := .int .u32 (sh : Int)) (d := .slice (some ⟨wc.heap.size, 0, none⟩) 0 0) HB3.out (Nat.le_succ w.heap.size))
      have HKZ4 := hid ((heap_fourS (V := _) (B := w.heap.size + 1) (a := .int .i64 root) (b := .int .i64 cur) (c := .int .u32 (sh : Int)) (d := .slice (some ⟨wc.heap.size, 0, none⟩) 0 0) (by omega)).trans HKZ3.out)
      have HOW4 := hid (own_four (a := .int .i64 root) (b := .int .i64 cur) (c := .int .u32 (sh : Int)) (d := .slice (some ⟨wc.heap.size, 0, none⟩) 0 0) HOW.out hwl)
      clear HKW3 HKZ3 HF3 HB3
      refine wpAnyH_ready (rs := [14]) (by kernel_rfl) (by simp) ?_
      refine AllReadyH.cons rfl (fun K hK => ?_) AllReadyH.nil
      go_simp
      refine hK.out _ _ (⟨HF4.out, _, HKW4.out⟩) (fun hHeld => ?_)
      clear hK K
      clear i0' i1 i2 i3 f0 f1 f2 f3
      refine wpAnyH_done (by kernel_rfl) ?_ _
      obtain ⟨i0', i1, i2, i3⟩ := cells4 HKW4.out
      obtain ⟨f0, f1, f2, f3⟩ := free4 HKW4.out
      obtain ⟨z0, z1, z2, z3⟩ := cells4 HKZ4.out
      obtain ⟨y0, y1, y2, y3⟩ := free4 HKZ4.out
      by_cases hD : D = 0
      · have n0 : (D != 0) = false := bne_f hD
        have HCC := hid (hC0 hD)
        clear hD hC0 hC1
        go_wp2_with fail
        have hn := four_set HKZ4.out (.int .i64 root) (.int .i64 cur) (.int .u32 (sh : Int)) (.slice (some ⟨wc.heap.size, 0, none⟩) 0 0)
        obtain ⟨j0, j1, j2, j3⟩ := cells4 hn
        exact bodyPost_ret (v := .tuple #[.agg #[.int .i64 root, .int .i64 cur, .int .u32 (sh : Int), .slice (some ⟨wc.heap.size, 0, none⟩) 0 0], .int .i64 D, .int .i64 0]) (by simp [results, Tryz.results7, go_sem, j0, j1, j2, j3]) rfl ⟨_, _, by rw [HCC.out], own_base HB1.out.size (own_four HOW4.out hzl), below_four HB4.out (by omega)⟩
      · have n0 : (D != 0) = true := bne_t hD
        have HCC := hid (hC1 hD)
        clear hD hC0 hC1
        go_wp2_with fail
        have hn := four_set ((Below.heap_setCell _ ⟨w.heap.size + 1, 1, none⟩ (.int .i64 D) (w.heap.size + 1 + 1) (by show w.heap.size + 1 + 1 ≠ w.heap.size + 1; omega)).trans HKZ4.out) (.int .i64 root) (.int .i64 D) (.int .u32 (sh : Int)) (.slice (some ⟨wc.heap.size, 0, none⟩) 0 0)
        obtain ⟨j0, j1, j2, j3⟩ := cells4 hn
        exact bodyPost_ret (v := .tuple #[.agg #[.int .i64 root, .int .i64 D, .int .u32 (sh : Int), .slice (some ⟨wc.heap.size, 0, none⟩) 0 0], .int .i64 D, .int .i64 0]) (by simp [results, Tryz.results7, go_sem, j0, j1, j2, j3]) rfl ⟨_, _, by rw [HCC.out], own_base HB1.out.size (own_four (ownsRow_setCell_below HOW4.out (a := ⟨w.heap.size + 1, 1, none⟩) hwl (.int .i64 D)) hzl), below_four (HB4.out.setCell (p := ⟨w.heap.size + 1, 1, none⟩) (Nat.le_succ _) _) (by omega)⟩
    · have r4 := (cells4 (V := wc.drew) HKW.out).2.2.2
      go_simp
      refine hK.out _ _ ⟨HF1.out.drew, _, HKW.out⟩ (fun hHeld => ?_)
      clear hK K r4
      refine wpAnyH_ready (rs := [7]) (by kernel_rfl) (by simp) ?_
      refine AllReadyH.cons rfl (fun K hK => ?_) AllReadyH.nil
      go_simp
      refine hK.out _ _ (⟨HF2.out, _, HKW2.out⟩) (fun hHeld => ?_)
      clear hK K
      obtain ⟨wd, hwd⟩ : ∃ wd, wd = (wc.alloc (.cells #[] 39)).drew := ⟨_, rfl⟩
      rw [← hwd]
      rw [← hwd] at hHeld
      have HF3 : Hid (Below (w.heap.size + 1) (w.alloc (.cells #[.slice o n cap] 24)) wd) := by subst hwd; exact HF2
      have HB3 : Hid (Below w.heap.size w wd) := by subst hwd; exact HB2
      have HKW3 : Hid (wd.heap[w.heap.size + 1]? = some (.cells #[.int .i64 root, .int .i64 cur, .int .u32 (sh : Int), .slice none 0 rc] 30)) := by subst hwd; exact HKW2
      have HKZ3 : Hid (wd.heap[w.heap.size + 1 + 1]? = some (.cells #[.int .i64 0, .int .i64 0, .int .u32 0, .slice none 0 0] 30)) := by subst hwd; exact HKZ2
      have HOW : Hid (wd.ownsRow wc.heap.size 39 3 (.slice (some ⟨wc.heap.size, 0, none⟩) 0 0) 0 []) := by subst hwd; exact Hown
      clear hwd
      refine wpAnyH_ready (rs := [11]) (by kernel_rfl) (by simp) ?_
      refine AllReadyH.cons rfl (fun K hK => ?_) AllReadyH.nil
      go_simp
      refine hK.out _ _ (⟨HF3.out, _, HKW3.out⟩) (fun hHeld => ?_)
      clear hK K
      refine wpAnyH_one 12 63 (.agg #[.int .u32 (sh : Int), .slice (some ⟨wc.heap.size, 0, none⟩) 0 0]) hHeld rfl rfl (by kernel_rfl) (fun _ _ _ _ _ h => h) (by kernel_rfl) (by kernel_rfl) (by rfl) ?_ ?_
      · intro V hSw; (try dsimp only at hSw); go_simp
      simp only [Act.put, List.setIfInBounds_toArray, List.set_cons_zero, List.set_cons_succ]
      refine wpAnyH_one 13 64 (.agg #[.int .i64 root, .int .i64 cur, .int .u32 (sh : Int), .slice (some ⟨wc.heap.size, 0, none⟩) 0 0]) hHeld rfl rfl (by kernel_rfl) (fun _ _ _ _ _ h => h) (by kernel_rfl) (by kernel_rfl) (by rfl) ?_ ?_
      · intro V hSw; (try dsimp only at hSw); go_simp
      simp only [Act.put, List.setIfInBounds_toArray, List.set_cons_zero, List.set_cons_succ]
      obtain ⟨i0', i1, i2, i3⟩ := cells4 HKW3.out
      obtain ⟨f0, f1, f2, f3⟩ := free4 HKW3.out
      have HKW4 := hid (four_set HKW3.out (.int .i64 root) (.int .i64 cur) (.int .u32 (sh : Int)) (.slice (some ⟨wc.heap.size, 0, none⟩) 0 0))
      have HF4 := hid (below_fourS (a := .int .i64 root) (b := .int .i64 cur) (c := .int .u32 (sh : Int)) (d := .slice (some ⟨wc.heap.size, 0, none⟩) 0 0) HF3.out (Nat.le_refl (w.heap.size + 1)))
      have HB4 := hid (below_fourS (a := .int .i64 root) (b := .int .i64 cur) (c := .int .u32 (sh : Int)) (d := .slice (some ⟨wc.heap.size, 0, none⟩) 0 0) HB3.out (Nat.le_succ w.heap.size))
      have HKZ4 := hid ((heap_fourS (V := _) (B := w.heap.size + 1) (a := .int .i64 root) (b := .int .i64 cur) (c := .int .u32 (sh : Int)) (d := .slice (some ⟨wc.heap.size, 0, none⟩) 0 0) (by omega)).trans HKZ3.out)
      have HOW4 := hid (own_four (a := .int .i64 root) (b := .int .i64 cur) (c := .int .u32 (sh : Int)) (d := .slice (some ⟨wc.heap.size, 0, none⟩) 0 0) HOW.out hwl)
      clear HKW3 HKZ3 HF3 HB3
      refine wpAnyH_ready (rs := [14]) (by kernel_rfl) (by simp) ?_
      refine AllReadyH.cons rfl (fun K hK => ?_) AllReadyH.nil
      go_simp
      refine hK.out _ _ (⟨HF4.out, _, HKW4.out⟩) (fun hHeld => ?_)
      clear hK K
      clear i0' i1 i2 i3 f0 f1 f2 f3
      refine wpAnyH_done (by kernel_rfl) ?_ _
      obtain ⟨i0', i1, i2, i3⟩ := cells4 HKW4.out
      obtain ⟨f0, f1, f2, f3⟩ := free4 HKW4.out
      obtain ⟨z0, z1, z2, z3⟩ := cells4 HKZ4.out
      obtain ⟨y0, y1, y2, y3⟩ := free4 HKZ4.out
      by_cases hD : D = 0
      · have n0 : (D != 0) = false := bne_f hD
        have HCC := hid (hC0 hD)
        clear hD hC0 hC1
        go_wp2_with fail
        have hn := four_set HKZ4.out (.int .i64 root) (.int .i64 cur) (.int .u32 (sh : Int)) (.slice (some ⟨wc.heap.size, 0, none⟩) 0 0)
        obtain ⟨j0, j1, j2, j3⟩ := cells4 hn
        exact bodyPost_ret (v := .tuple #[.agg #[.int .i64 root, .int .i64 cur, .int .u32 (sh : Int), .slice (some ⟨wc.heap.size, 0, none⟩) 0 0], .int .i64 D, .int .i64 0]) (by simp [results, Tryz.results7, go_sem, j0, j1, j2, j3]) rfl ⟨_, _, by rw [HCC.out], own_base HB1.out.size (own_four HOW4.out hzl), below_four HB4.out (by omega)⟩
      · have n0 : (D != 0) = true := bne_t hD
        have HCC := hid (hC1 hD)
        clear hD hC0 hC1
        go_wp2_with fail
        have hn := four_set ((Below.heap_setCell _ ⟨w.heap.size + 1, 1, none⟩ (.int .i64 D) (w.heap.size + 1 + 1) (by show w.heap.size + 1 + 1 ≠ w.heap.size + 1; omega)).trans HKZ4.out) (.int .i64 root) (.int .i64 D) (.int .u32 (sh : Int)) (.slice (some ⟨wc.heap.size, 0, none⟩) 0 0)
        obtain ⟨j0, j1, j2, j3⟩ := cells4 hn
        exact bodyPost_ret (v := .tuple #[.agg #[.int .i64 root, .int .i64 D, .int .u32 (sh : Int), .slice (some ⟨wc.heap.size, 0, none⟩) 0 0], .int .i64 D, .int .i64 0]) (by simp [results, Tryz.results7, go_sem, j0, j1, j2, j3]) rfl ⟨_, _, by rw [HCC.out], own_base HB1.out.size (own_four (ownsRow_setCell_below HOW4.out (a := ⟨w.heap.size + 1, 1, none⟩) hwl (.int .i64 D)) hzl), below_four (HB4.out.setCell (p := ⟨w.heap.size + 1, 1, none⟩) (Nat.le_succ _) _) (by omega)⟩
end
end Go.Proofs.YteflknfejjdkfabGreat
