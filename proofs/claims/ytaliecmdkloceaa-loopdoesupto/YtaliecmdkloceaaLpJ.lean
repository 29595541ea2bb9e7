/- loop: New, Waiting, full, against, Now, Given, Due; place, wait. -/
import Derived.Test.YtaliecmdkloceaaLpI
import Derived.Laws.LoneSync
import Derived.RegionCalls
namespace Go.Proofs.Ytaliecmdkloceaa
open Go.RowKit Go.Lib Go.Shelf

/-- The cells of a loop. -/
structure LCs (V : World) (B : Nat) (s : LpD) : Prop where
  now : V.cell? ⟨B, 0, none⟩ = some (.int .i64 s.now)
  giv : V.cell? ⟨B, 11, none⟩ = some (.int .i64 s.giv)
  done : V.cell? ⟨B, 12, none⟩ = some (.int .u32 (doneN s.cls))
  mu : V.cell? ⟨B, 13, none⟩ = some (.int .i32 0)
  sem : V.cell? ⟨B, 14, none⟩ = some (.int .u32 0)
  cls : V.cell? ⟨B, 15, none⟩ = some (.bool s.cls)
  fz : ∀ i, V.frozen? ⟨B, i, none⟩ = false
theorem LpV.cs {W : World} {F : Nat → Prop} {B : Nat} {s : LpD} {arr : Array Value} {v : Nat → Value} (h : LpV W F B s arr v) : LCs W B s :=
  ⟨box_at h.box h.arr.now, box_at h.box h.arr.giv, box_at h.box h.arr.done, box_at h.box h.arr.mu, box_at h.box h.arr.sem, box_at h.box h.arr.cls, box_fz h.box⟩
/-- The cell of a queue of numbers. -/
theorem LpV.qcell {W : World} {F : Nat → Prop} {B : Nat} {s : LpD} {arr : Array Value} {v : Nat → Value} (h : LpV W F B s arr v) (i : Nat) (h1 : 1 ≤ i) (h2 : i < 10) : ∃ o c, v i = .slice o (qI s i).length c ∧ W.cell? ⟨B, i, none⟩ = some (.slice o (qI s i).length c) := by
  obtain ⟨o, c, e⟩ := (h.rowI i h1 h2).shape
  exact ⟨o, c, e, by rw [box_at h.box (h.arr.q i h1 (by omega)), e]⟩
theorem LpV.tcell {W : World} {F : Nat → Prop} {B : Nat} {s : LpD} {arr : Array Value} {v : Nat → Value} (h : LpV W F B s arr v) : ∃ o c, v 10 = .slice o s.tms.length c ∧ W.cell? ⟨B, 10, none⟩ = some (.slice o s.tms.length c) := by
  obtain ⟨o, c, e⟩ := h.rowT.shape
  exact ⟨o, c, e, by rw [box_at h.box (h.arr.q 10 (by omega) (by omega)), e]⟩
theorem qI_task (s : LpD) (k : Nat) : qI s (2 + k) = s.tks.getD k [] := by
  unfold qI
  rw [if_neg (by omega), show 2 + k - 2 = k by omega]
theorem qI_mic (s : LpD) : qI s 1 = s.mic := rfl

set_option maxRecDepth 100000 in
set_option maxHeartbeats 1000000 in
theorem new_any (V : World) : Calls Try.prog 5 #[] V fun e w' => e = .returned (.pointer (some ⟨V.heap.size, 0, none⟩)) ∧ Below V.heap.size V w' ∧ w'.heap.size = V.heap.size + 1 ∧ LpAt w' (fun k => k = V.heap.size) V.heap.size newD := by
  obtain ⟨A, hA⟩ : ∃ A : Array Value, #[.int .i64 0, .slice none 0 0, .slice none 0 0, .slice none 0 0, .slice none 0 0, .slice none 0 0, .slice none 0 0, .slice none 0 0, .slice none 0 0, .slice none 0 0, .slice none 0 0, .int .i64 0, .int .u32 0, .int .i32 0, .int .u32 0, .bool false] = A := ⟨_, rfl⟩
  have HI : Hid (Below V.heap.size V (V.alloc (.cells A 73)) ∧ (V.alloc (.cells A 73)).heap.size = V.heap.size + 1 ∧ LpAt (V.alloc (.cells A 73)) (fun k => k = V.heap.size) V.heap.size newD) := by
    refine ⟨(Below.refl _ V).alloc (Nat.le_refl _) _, by simp, A, fun _ => .slice none 0 0, ⟨heap_new V _, ?_, fun i h1 h2 => ?_, ?_, fun i _ _ g hg => (by cases hg), fun i j _ _ _ _ _ g hg => (by cases hg), rfl, fun k hk => (by subst hk; simp), rfl⟩⟩
    · subst hA
      refine ⟨rfl, fun i h1 h2 => ?_, rfl, rfl, rfl, rfl, rfl, rfl⟩
      rcases (by omega : i = 1 ∨ i = 2 ∨ i = 3 ∨ i = 4 ∨ i = 5 ∨ i = 6 ∨ i = 7 ∨ i = 8 ∨ i = 9 ∨ i = 10) with rfl | rfl | rfl | rfl | rfl | rfl | rfl | rfl | rfl | rfl <;> rfl
    · have : qI newD i = [] := by
        unfold qI newD
        split
        · rfl
        · dsimp only
          rw [List.getD_eq_getElem?_getD, List.getElem?_replicate]
          split <;> rfl
      rw [this]
      exact QR.nil _ _ _
    · exact QR.nil _ _ _
  subst hA
  go_enter Try.func5, Try.ntmps5
  go_wp2
  go_ret
  exact ⟨rfl, HI.out⟩
/-- How many tasks wait. -/
def sumL (l : List (List Int)) : Nat := (l.map List.length).sum
def tasksD (s : LpD) : Nat := sumL s.tks
def totD (s : LpD) : Nat := tasksD s + s.mic.length + s.tms.length
theorem sumL_take (l : List (List Int)) (k : Nat) (h : k < l.length) : sumL (l.take (k + 1)) = sumL (l.take k) + (l.getD k []).length := by
  unfold sumL
  rw [List.take_add_one, List.getElem?_eq_getElem h, List.map_append, List.sum_append]
  show _ + ([l[k]].map List.length).sum = _
  rw [List.getD_eq_getElem?_getD, List.getElem?_eq_getElem h]
  simp
theorem sumL_le (l : List (List Int)) (k : Nat) : sumL (l.take k) ≤ sumL l := by
  unfold sumL
  conv => rhs; rw [← List.take_append_drop k l, List.map_append, List.sum_append]
  omega
set_option maxRecDepth 100000 in
set_option maxHeartbeats 2000000 in
theorem waiting_any (F : Nat → Prop) (B : Nat) (s : LpD) (V : World) (h : LpAt V F B s) (ht : totD s ≤ 1048576) :
    Calls Try.prog 24 #[.pointer (some ⟨B, 0, none⟩)] V fun e w' => e = .returned (.tuple #[.int .i64 (tasksD s : Nat), .int .i64 s.mic.length, .int .i64 s.tms.length]) ∧ Below V.heap.size V w' := by
  obtain ⟨arr, v, h⟩ := h
  obtain ⟨o1, c1, _, m0⟩ := h.qcell 1 (by omega) (by omega)
  rw [qI_mic] at m0
  obtain ⟨o2, c2, _, t0⟩ := h.tcell
  have H := hid (fun k (hk : k < 8) => h.qcell (2 + k) (by omega) (by omega))
  have hlen := h.len
  have hsum : ∀ k, sumL (s.tks.take k) ≤ 1048576 := fun k => by
    have := sumL_le s.tks k
    unfold totD tasksD at ht
    omega
  have hstep : ∀ k, k < 8 → sumL (s.tks.take (k + 1)) = sumL (s.tks.take k) + (qI s (2 + k)).length := fun k hk => by
    rw [qI_task]
    exact sumL_take s.tks k (by omega)
  have hend : sumL (s.tks.take 8) = tasksD s := by
    unfold tasksD
    rw [List.take_of_length_le (by omega)]
  have hz : sumL (s.tks.take 0) = 0 := rfl
  generalize hS : (fun k => sumL (s.tks.take k)) = S at *
  have eS : ∀ k, sumL (s.tks.take k) = S k := fun k => by rw [← hS]
  simp only [eS] at hsum hstep hend hz
  have HS := hid hsum
  have HT := hid hstep
  generalize s.mic.length = M at *
  generalize s.tms.length = T at *
  rw [← hend]
  have HZ := hid hz
  clear hS eS hend ht hlen h hsum hstep hz
  go_enter Try.func24, Try.ntmps24
  go_wp2
  go_loopw [5, 9] (fun y u wr => ∃ k : Nat, k ≤ 8 ∧ y = .int .i64 (S k : Nat) ∧ u = .int .i64 k ∧ wr = V) (fun _ u _ => 8 - (RowKit.intOf u).toNat)
  case atStart => exact ⟨0, by omega, by rw [HZ.out]; rfl, rfl, rfl⟩
  case round =>
    obtain ⟨k, hk, rfl, rfl, rfl⟩ := hrel
    by_cases hlt : k < 8
    · have d1 : decide ((k : Int) < 8) = true := decide_eq_true (by omega)
      obtain ⟨oq, cq, _, q0⟩ := H.out k hlt
      have hs1 := HT.out k hlt
      have hb1 := HS.out (k + 1)
      have hb2 := HS.out k
      generalize (qI s (2 + k)).length = L at *
      have q1 : (0 : Int) ≤ (k : Int) := by omega
      have q2 : (k : Int) < 8 := by omega
      have hw : IntKind.i64.wrap ((S k : Int) + (L : Int)) = ((S (k + 1) : Nat) : Int) := by rw [IntKind.wrap_i64]; omega
      have Hs := hid hs1
      clear hs1
      go_wp2_with (go_at_call 36; refine (lengthI_any _ _ _ _ _ _ q0).mono ?_; rintro e w2 ⟨rfl, rfl⟩)
      go_roundw
      case rel => exact ⟨k + 1, by omega, by rfl, by go_num, trivial⟩
      case measure => simp [RowKit.intOf]; omega
    · have hk8 : k = 8 := by omega
      subst hk8
      clear HS HT H HZ
      go_wp2
      go_region_with (first | (go_at_call 47; refine (lengthA_any _ _ _ _ _ _ (by first | exact t0 | simpa using t0)).mono ?_; rintro e w2 ⟨rfl, rfl⟩) | (go_at_call 36; refine (lengthI_any _ _ _ _ _ _ (by first | exact m0 | simpa using m0)).mono ?_; rintro e w2 ⟨rfl, rfl⟩))
      all_goals
        go_wp2
        refine bodyPost_ret (v := .tuple #[.int .i64 (S 8 : Nat), .int .i64 M, .int .i64 T]) (by simp [results, Try.results24, go_sem]) rfl ?_
        exact ⟨rfl, (Below.refl _ _).drew⟩
end Go.Proofs.Ytaliecmdkloceaa
