/- The closures of names, and the walks of Name and NC. -/
import Derived.Test.YtbefinbihopgfaaDoorRuns
import Derived.Test.YtbefinbihopgfaaDoorNShelf
namespace Go.Proofs.YtbefinbihopgfaaDoor
open Go.RowKit Go.Lib

/-- What the named variables hold, as the walks ask it. -/
structure Laid (w : World) : Prop where
  spans : ∃ tt fz, w.heap[2]? = some (.cells spanCells tt fz)
  tabs : Lib.Utf8Tabs 0 1 w
theorem Laid.later {w W : World} (h : Laid w) (hb : Below w.heap.size w W) : Laid W := by
  obtain ⟨⟨tt, fz, hg⟩, ht⟩ := h
  exact ⟨⟨tt, fz, (hb.block _ (Array.getElem?_eq_some_iff.1 hg).1).trans hg⟩, Utf8Tabs_below ht hb⟩

theorem start_pred (w : World) (h : Laid w) : PredG 43 #[] startB w := fun W x _ hb => by
  obtain ⟨tt, fz, hg⟩ := (h.later hb).spans
  exact start_any x W tt fz hg
theorem part_pred (w : World) (h : Laid w) : PredG 44 #[] partB w := fun W x _ hb => by
  obtain ⟨tt, fz, hg⟩ := (h.later hb).spans
  exact part_any x W tt fz hg

theorem colon_pred (w : World) : PredG 49 #[] (fun r => r == 58) w := fun W x _ _ => by
  show Calls Tryd.prog 49 #[.int .i32 (x : Int)] W _
  go_enter Tryd.func49, Tryd.ntmps49
  go_wp2
  go_ret
  exact ⟨rfl, Below.refl _ _⟩
def smallB (r : Int) : Bool := decide (97 ≤ r) && decide (r ≤ 122)
def capitalB (r : Int) : Bool := decide (65 ≤ r) && decide (r ≤ 90)
theorem small_pred (w : World) : PredG 52 #[] smallB w := fun W x _ _ => by
  show Calls Tryd.prog 52 #[.int .i32 (x : Int)] W _
  unfold smallB
  generalize (x : Int) = r
  by_cases h1 : 97 ≤ r <;> by_cases h2 : r ≤ 122
  all_goals
    go_enter Tryd.func52, Tryd.ntmps52
    go_wp2
    all_goals first | (exfalso; omega) | (go_ret; exact ⟨by simp [h1, h2], Below.refl _ _⟩)
theorem capital_pred (w : World) : PredG 53 #[] capitalB w := fun W x _ _ => by
  show Calls Tryd.prog 53 #[.int .i32 (x : Int)] W _
  unfold capitalB
  generalize (x : Int) = r
  by_cases h1 : 65 ≤ r <;> by_cases h2 : r ≤ 90
  all_goals
    go_enter Tryd.func53, Tryd.ntmps53
    go_wp2
    all_goals first | (exfalso; omega) | (go_ret; exact ⟨by simp [h1, h2], Below.refl _ _⟩)

theorem entersBut : ∀ args w, (callFunc 77 args).run Tryd.prog w = .ok (.enter 77 args) w := enters_of Tryd.func77 (by kernel_rfl) rfl
theorem entersStart : ∀ args w, (callFunc 43 args).run Tryd.prog w = .ok (.enter 43 args) w := enters_of Tryd.func43 (by kernel_rfl) rfl
theorem entersPart : ∀ args w, (callFunc 44 args).run Tryd.prog w = .ok (.enter 44 args) w := enters_of Tryd.func44 (by kernel_rfl) rfl
theorem entersColon : ∀ args w, (callFunc 49 args).run Tryd.prog w = .ok (.enter 49 args) w := enters_of Tryd.func49 (by kernel_rfl) rfl
theorem entersSmall : ∀ args w, (callFunc 52 args).run Tryd.prog w = .ok (.enter 52 args) w := enters_of Tryd.func52 (by kernel_rfl) rfl
theorem entersCapital : ∀ args w, (callFunc 53 args).run Tryd.prog w = .ok (.enter 53 args) w := enters_of Tryd.func53 (by kernel_rfl) rfl

set_option maxHeartbeats 400000 in
/-- 'func(r rune) bool { return takes(r) && !not(r) }', both captured. -/
theorem but_pred (g1 g2 b1 b2 : Nat) (lb1 lb2 : Array Value) (p q : Int → Bool) (w : World)
    (eg1 : ∀ args w, (callFunc g1 args).run Tryd.prog w = .ok (.enter g1 args) w) (eg2 : ∀ args w, (callFunc g2 args).run Tryd.prog w = .ok (.enter g2 args) w)
    (h1 : PredG g1 lb1 p w) (h2 : PredG g2 lb2 q w) (hl1 : b1 < w.heap.size) (hl2 : b2 < w.heap.size)
    (hc1 : w.cell? ⟨b1, 0, none⟩ = some (.func (.func g1) #[] lb1)) (hc2 : w.cell? ⟨b2, 0, none⟩ = some (.func (.func g2) #[] lb2)) :
    PredG 77 #[.pointer (some ⟨b1, 0, none⟩), .pointer (some ⟨b2, 0, none⟩)] (fun r => p r && !q r) w := fun W x hx hb => by
  have hd1 : W.cell? ⟨b1, 0, none⟩ = some (.func (.func g1) #[] lb1) := (hb.cell (p := ⟨b1, 0, none⟩) hl1).trans hc1
  have hC := h1 W x hx hb
  have hC2 : ∀ W', Below W.heap.size W W' → _ := fun W' hb' => h2 W' x hx (hb.trans (hb'.mono hb.size))
  have hd2 : ∀ W', Below W.heap.size W W' → W'.cell? ⟨b2, 0, none⟩ = some (.func (.func g2) #[] lb2) := fun W' hb' =>
    ((hb'.cell (p := ⟨b2, 0, none⟩) (Nat.lt_of_lt_of_le hl2 hb.size)).trans (hb.cell (p := ⟨b2, 0, none⟩) hl2)).trans hc2
  have HC2 : Hid (∀ W', Below W.heap.size W W' → _) := hC2
  have HD2 : Hid (∀ W', Below W.heap.size W W' → W'.cell? ⟨b2, 0, none⟩ = some (.func (.func g2) #[] lb2)) := hd2
  clear hC2 hd2 h1 h2 hc1 hc2
  show Calls Tryd.prog 77 #[.int .i32 (x : Int), .pointer (some ⟨b1, 0, none⟩), .pointer (some ⟨b2, 0, none⟩)] W _
  generalize hp : p (x : Int) = pv at hC
  simp only [hp]
  cases pv with
  | false =>
    go_enter Tryd.func77, Tryd.ntmps77
    go_wp2_with (go_at_fn g1; refine hC.mono ?_; rintro e w2 ⟨rfl, hb2⟩)
    go_ret
    exact ⟨rfl, hb2⟩
  | true =>
    go_enter Tryd.func77, Tryd.ntmps77
    go_wp2_with (go_at_fn g1; refine hC.mono ?_; rintro e w2 ⟨rfl, hb2⟩; have hd2 := HD2.out w2 hb2)
    refine (HC2.out w2 hb2).mono ?_
    rintro e w3 ⟨rfl, hb3⟩
    go_wp2
    go_ret
    exact ⟨by rw [Bool.true_and]; rfl, hb2.trans (hb3.mono hb2.size)⟩

set_option maxHeartbeats 400000 in
theorem but_any (g1 g2 : Nat) (lb1 lb2 : Array Value) (p q : Int → Bool) (w : World)
    (eg1 : ∀ args w, (callFunc g1 args).run Tryd.prog w = .ok (.enter g1 args) w) (eg2 : ∀ args w, (callFunc g2 args).run Tryd.prog w = .ok (.enter g2 args) w)
    (h1 : PredG g1 lb1 p w) (h2 : PredG g2 lb2 q w) :
    Calls Tryd.prog 48 #[.func (.func g1) #[] lb1, .func (.func g2) #[] lb2] w fun e w' => ∃ lb, e = .returned (.func (.func 77) #[] lb) ∧ Below w.heap.size w w' ∧ PredG 77 lb (fun r => p r && !q r) w' := by
  have hb : ∀ o1 o2, Below w.heap.size w ((w.alloc o1).alloc o2) := fun o1 o2 => ((Below.refl _ w).alloc (Nat.le_refl _) _).alloc (by simp) _
  have HB : Hid (∀ o1 o2, Below w.heap.size w ((w.alloc o1).alloc o2)) := hb
  clear hb
  go_enter Tryd.func48, Tryd.ntmps48
  go_wp2
  go_ret
  exact ⟨_, rfl, HB.out _ _, but_pred g1 g2 w.heap.size (w.heap.size + 1) lb1 lb2 p q _ eg1 eg2 (h1.later (HB.out _ _)) (h2.later (HB.out _ _)) (by simp; omega) (by simp) (by simp) (by simp)⟩

def nameB (l : List UInt8) : Bool := runsB startB partB l
def ncB (l : List UInt8) : Bool := runsB (fun r => startB r && !(r == 58)) (fun r => partB r && !(r == 58)) l

set_option maxHeartbeats 400000 in
theorem name_any (s : ByteArray) (w : World) (hs : s.size ≤ 9223372036854775807) (h : Laid w) :
    Calls Tryd.prog 22 #[.string s] w fun e w' => e = .returned (.bool (nameB s.data.toList)) ∧ Below w.heap.size w w' := by
  have hR := runs_any s 43 44 #[] #[] startB partB w hs entersStart entersPart (Tryd.utf8_ValidString s w hs h.tabs) (start_pred w h) (part_pred w h)
  unfold nameB
  generalize runsB startB partB s.data.toList = ans at hR ⊢
  go_enter Tryd.func22, Tryd.ntmps22
  go_wp2_with (go_at_call 42; refine hR.mono ?_; rintro e w' ⟨rfl, hb⟩)
  go_ret
  exact ⟨rfl, hb⟩

set_option maxHeartbeats 400000 in
theorem nc_any (s : ByteArray) (w : World) (hs : s.size ≤ 9223372036854775807) (h : Laid w) :
    Calls Tryd.prog 24 #[.string s] w fun e w' => e = .returned (.bool (ncB s.data.toList)) ∧ Below w.heap.size w w' := by
  have hB1 := but_any 43 49 #[] #[] startB (fun r => r == 58) w entersStart entersColon (start_pred w h) (colon_pred w)
  have hB2 : ∀ W, Below w.heap.size w W → _ := fun W hb => but_any 44 49 #[] #[] partB (fun r => r == 58) W entersPart entersColon ((part_pred w h).later hb) (colon_pred W)
  have HB2 : Hid (∀ W, Below w.heap.size w W → _) := hB2
  clear hB2
  go_enter Tryd.func24, Tryd.ntmps24
  go_wp2_with fail
  refine hB1.mono ?_
  rintro e w1 ⟨lb1, rfl, hb1, hp1⟩
  go_wp2_with fail
  refine (HB2.out w1 hb1).mono ?_
  rintro e w2 ⟨lb2, rfl, hb2, hp2⟩
  go_wp2_with fail
  refine (runs_any s 77 77 lb1 lb2 _ _ w2 hs entersBut entersBut (Tryd.utf8_ValidString s w2 hs ((h.later hb1).later hb2).tabs) (hp1.later hb2) hp2).mono ?_
  rintro e w3 ⟨rfl, hb3⟩
  go_wp2
  go_ret
  exact ⟨rfl, (hb1.trans (hb2.mono hb1.size)).trans (hb3.mono (Nat.le_trans hb1.size hb2.size))⟩
end Go.Proofs.YtbefinbihopgfaaDoor
