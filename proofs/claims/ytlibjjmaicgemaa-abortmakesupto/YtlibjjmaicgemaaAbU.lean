/- What the statements of abort begin with: lives. -/
import Derived.Test.YtlibjjmaicgemaaAbT
import Derived.Test.YtlibjjmaicgemaaAbO
namespace Go.Proofs.Ytlibjjmaicgemaa
open Go.RowKit Go.Lib Go.Shelf

theorem ties_all : Ties := fun g c q p l0 W w0 base h1 h2 h3 h4 h5 h6 h7 h8 h9 => tie_any g c q p l0 W w0 base h1 h2 h3 h4 h5 h6 h7 h8 h9
theorem fit_of (s : SigD) (row : List Int) (h1 : oddD s = false) (h2 : s.dts = row) (h3 : row.Pairwise (· ≤ ·)) : fitD s row = true := by
  unfold fitD
  rw [h1, h2, decide_eq_true rfl, sort_same row h3]
  simp
def lS1 : List SigD := [⟨false, 0, false, [], []⟩]
def lS2 : List SigD := [⟨false, 0, false, [], []⟩, ⟨false, 0, false, [], []⟩]
def lS3 : List SigD := [⟨false, 0, false, [], [3]⟩, ⟨false, 0, false, [], [3]⟩, ⟨false, 0, true, [1, 2], []⟩]
def lS4 : List SigD := [⟨false, 0, false, [], [3]⟩, ⟨true, 7, false, [], [3]⟩, ⟨true, 7, true, [1, 2], []⟩]
theorem right0 : rightD [] = true := rfl
theorem right1 : rightD lS1 = true := by
  have hs : saidD lS1 = some [[]] := rfl
  unfold rightD
  rw [hs]
  show (fitD _ _ && fitsD [] _) = true
  simp only [Bool.and_eq_true]
  exact ⟨fit_of _ _ rfl rfl List.Pairwise.nil, rfl⟩
theorem right2 : rightD lS2 = true := by
  have hs : saidD lS2 = some [[], []] := rfl
  unfold rightD
  rw [hs]
  show (fitD _ _ && (fitD _ _ && fitsD [] _)) = true
  simp only [Bool.and_eq_true]
  exact ⟨fit_of _ _ rfl rfl List.Pairwise.nil, fit_of _ _ rfl rfl List.Pairwise.nil, rfl⟩
theorem right3 : rightD lS3 = true := by
  have hs : saidD lS3 = some [[3], [3], []] := rfl
  unfold rightD
  rw [hs]
  show (fitD _ _ && (fitD _ _ && (fitD _ _ && fitsD [] _))) = true
  simp only [Bool.and_eq_true]
  exact ⟨fit_of _ _ rfl rfl (List.pairwise_singleton _ _), fit_of _ _ rfl rfl (List.pairwise_singleton _ _), fit_of _ _ rfl rfl List.Pairwise.nil, rfl⟩
theorem right4 : rightD lS4 = true := by
  have hs : saidD lS4 = some [[3], [3], []] := rfl
  unfold rightD
  rw [hs]
  show (fitD _ _ && (fitD _ _ && (fitD _ _ && fitsD [] _))) = true
  simp only [Bool.and_eq_true]
  exact ⟨fit_of _ _ rfl rfl (List.pairwise_singleton _ _), fit_of _ _ rfl rfl (List.pairwise_singleton _ _), fit_of _ _ rfl rfl List.Pairwise.nil, rfl⟩
theorem full_ok {ls : List SigD} (h : rightD ls = true) (hl : ls.length < 1024) : fullE ls = 0 := by
  have hc : checkS ls = 0 := by unfold checkS; rw [if_neg (by omega), h, if_pos rfl]
  unfold fullE
  rw [hc, if_pos (show ((0 : Int) == 0) = true from rfl), if_neg (by omega)]
theorem any3 : anyL lS2 [1, 2] = lS3 := rfl
theorem hit4 : hitAll (reasonD 7) [2, 3] lS3 [] = (lS4, [2, 3]) := rfl
theorem newA (V : World) : Calls Try.prog 8 #[.slice none 0 0, .int .i64 0] V fun e w' => ∃ o c, e = .returned (.tuple #[.slice o 1 c, .int .i64 1, .int .i64 0]) ∧ RdS w' (.slice o 1 c) lS1 ∧ Below V.heap.size V w' :=
  (newS_ok (.slice none 0 0) [] 0 V (RdS.nil V) (by simp) (fun s h => by cases h) (full_ok right0 (by simp))).mono (by
    rintro e w' ⟨o, c, l, rfl, hm, hO, hb⟩
    refine ⟨o, c, rfl, ?_, hb⟩
    have h := hO.read
    rw [hm] at h
    exact h)
theorem newB (V : World) (o : Option Addr) (c : Nat) (hr : RdS V (.slice o 1 c) lS1) : Calls Try.prog 8 #[.slice o 1 c, .int .i64 0] V fun e w' => ∃ o c, e = .returned (.tuple #[.slice o 2 c, .int .i64 2, .int .i64 0]) ∧ RdS w' (.slice o 2 c) lS2 ∧ Below V.heap.size V w' :=
  (newS_ok (.slice o 1 c) lS1 0 V hr (by simp [lS1]) (fun s h => by
    have : s = ⟨false, 0, false, [], []⟩ := by simpa [lS1] using h
    subst this
    simp) (full_ok right1 (by simp [lS1]))).mono (by
    rintro e w' ⟨o, c, l, rfl, hm, hO, hb⟩
    refine ⟨o, c, rfl, ?_, hb⟩
    have h := hO.read
    rw [hm] at h
    exact h)
theorem small_le {ls : List SigD} (h : ∀ s ∈ ls, s.src.length ≤ 2 ∧ s.dts.length ≤ 2) : SmallS ls := fun s hs => ⟨by have := (h s hs).1; omega, by have := (h s hs).2; omega⟩
theorem anyB (V : World) (o : Option Addr) (c D : Nat) (hr : RdS V (.slice o 2 c) lS2) (hD : V.heap[D]? = some (.cells #[.int .i64 1, .int .i64 2] 3)) : Calls Try.prog 10 #[.slice o 2 c, .slice (some ⟨D, 0, none⟩) 2 2] V fun e w' => ∃ o c, e = .returned (.tuple #[.slice o 3 c, .int .i64 3, .int .i64 0]) ∧ RdS w' (.slice o 3 c) lS3 ∧ Below V.heap.size V w' :=
  (anyS_dep ties_all (.slice o 2 c) (.slice (some ⟨D, 0, none⟩) 2 2) lS2 [1, 2] V hr ⟨_, 2, rfl, by simp, fun _ => ⟨D, 0, rfl, (Array.getElem?_eq_some_iff.1 hD).1, fun j hj => by
    match j, hj with
    | 0, _ => exact (cell_of_heap hD 0).trans rfl
    | 1, _ => exact (cell_of_heap hD 1).trans rfl⟩⟩ (by simp [lS2]) (small_le (fun s h => by
    have : s = ⟨false, 0, false, [], []⟩ := by simpa [lS2] using h
    subst this
    simp)) ⟨fun j h => (by
      match j, h with
      | 0, _ => simp [lS2]
      | 1, _ => simp [lS2]), fun j h hd => (by
      match j, h with
      | 0, _ => simp [lS2] at hd
      | 1, _ => simp [lS2] at hd), fun j h s hs => (by
      match j, h with
      | 0, _ => simp [lS2] at hs
      | 1, _ => simp [lS2] at hs)⟩ (full_ok right2 (by simp [lS2])) (by simp) (fun h hh => by
    rcases List.mem_cons.1 hh with rfl | hh
    · rfl
    · have : h = 2 := by simpa using hh
      subst this
      rfl) rfl).mono (by
    rintro e w' ⟨o, c, l, rfl, hm, hO, hb⟩
    refine ⟨o, c, rfl, ?_, hb⟩
    have h := hO.read
    rw [hm] at h
    exact h)
theorem abortB (V : World) (o : Option Addr) (c : Nat) (hr : RdS V (.slice o 3 c) lS3) : Calls Try.prog 16 #[.slice o 3 c, .int .i64 2, .int .i64 7] V fun e w' => ∃ o c o2 c2, e = .returned (.tuple #[.slice o 3 c, .slice o2 2 c2, .int .i64 0]) ∧ RdS w' (.slice o 3 c) lS4 ∧ RdI w' (.slice o2 2 c2) [2, 3] ∧ Below V.heap.size V w' :=
  (abortS_ok (.slice o 3 c) lS3 1 7 V hr (by simp [lS3]) (small_le (fun s h => by
    simp only [lS3, List.mem_cons, List.not_mem_nil, or_false] at h
    rcases h with rfl | rfl | rfl <;> simp)) (by simp [lS3]) (known_ok right3 (by simp [lS3]) rfl) rfl rfl (fun h hh => by
    have : h = 3 := by simpa [lS3] using hh
    subst this
    rfl) (by simp [lS3])).mono (by
    rintro e w' ⟨o, c, l, o2, c2, rfl, hm, hO, hT, hb⟩
    refine ⟨o, c, o2, c2, rfl, ?_, ?_, hb⟩
    · have h := hO.read
      rw [hm] at h
      exact h
    · exact own_rdI hT)
theorem ofB (V : World) (o : Option Addr) (c : Nat) (hr : RdS V (.slice o 3 c) lS4) : Calls Try.prog 18 #[.slice o 3 c, .int .i64 3] V fun e w' => e = .returned (.tuple #[.bool true, .int .i64 7, .int .i64 0]) ∧ Below V.heap.size V w' :=
  ofS_ok (.slice o 3 c) lS4 2 V hr (by simp [lS4]) (small_le (fun s h => by
    simp only [lS4, List.mem_cons, List.not_mem_nil, or_false] at h
    rcases h with rfl | rfl | rfl <;> simp)) (by simp [lS4]) (known_ok right4 (by simp [lS4]) rfl)
set_option maxRecDepth 100000 in
set_option maxHeartbeats 4000000 in
theorem livesA_any (w : World) : Calls Try.prog 12 #[] w fun e w' => e = .returned (.bool true) ∧ Below w.heap.size w w' := by
  go_enter Try.func12, Try.ntmps12
  go_wp2_with (first
    | (go_at_call 20; refine (ints3_any _ _ [2, 3] [2, 3] _ (HI4.out.later (HB5w.out.trans (HQ5.out.mono HB5w.out.size))) ⟨_, 2, rfl, by simp, fun _ => ⟨w5.heap.size, 0, rfl, (by simp), fun j hj => (by
        match j, hj with
        | 0, _ => exact (cell_of_heap (heap_new w5 (.cells #[.int .i64 2, .int .i64 3] 3)) 0).trans rfl
        | 1, _ => exact (cell_of_heap (heap_new w5 (.cells #[.int .i64 2, .int .i64 3] 3)) 1).trans rfl)⟩⟩ (by simp)).mono ?_; rintro e w6 ⟨rfl, hb⟩; have HB6 := hid (HB5.out.trans ((HQ5.out.trans (hb.mono HQ5.out.size)).mono HB5.out.size)); clear hb)
    | (go_at_call 18; refine (ofB _ o4 c4 HR4.out).mono ?_; rintro e w5 ⟨rfl, hb⟩; have HB5w := hid hb; have HB5 := hid (HB4.out.trans (hb.mono HB4.out.size)); have HQ5 : Hid (Below w5.heap.size w5 (w5.alloc (.cells #[.int .i64 2, .int .i64 3] 3))) := (Below.refl _ w5).alloc (Nat.le_refl _) _; clear hb)
    | (go_at_call 16; refine (abortB _ o3 c3 HR3.out).mono ?_; rintro e w4 ⟨o4, c4, o5, c5, rfl, hr, hi, hb⟩; have HR4 := hid hr; have HI4 := hid hi; have HB4 := hid (HB3.out.trans (hb.mono HB3.out.size)); clear hr hi hb)
    | (go_at_call 10; refine (anyB _ o2 c2 _ (HR2.out.later HQ2.out) (heap_new w2 _)).mono ?_; rintro e w3 ⟨o3, c3, rfl, hr, hb⟩; have HR3 := hid hr; have HB3 := hid (HB2.out.trans ((HQ2.out.trans (hb.mono HQ2.out.size)).mono HB2.out.size)); clear hr hb)
    | (go_at_call 8; refine (newB _ o1 c1 HR1.out).mono ?_; rintro e w2 ⟨o2, c2, rfl, hr, hb⟩; have HR2 := hid hr; have HB2 := hid (HB1.out.trans (hb.mono HB1.out.size)); have HQ2 : Hid (Below w2.heap.size w2 (w2.alloc (.cells #[.int .i64 1, .int .i64 2] 3))) := (Below.refl _ w2).alloc (Nat.le_refl _) _; clear hr hb)
    | (go_at_call 8; refine (newA _).mono ?_; rintro e w1 ⟨o1, c1, rfl, hr, hb⟩; have HR1 := hid hr; have HB1 := hid hb; clear hr hb))
  go_ret
  exact ⟨by simp, HB6.out⟩
end Go.Proofs.Ytlibjjmaicgemaa
