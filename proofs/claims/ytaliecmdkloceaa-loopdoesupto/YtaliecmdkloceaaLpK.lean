/- loop: full, against, Now, place, wait; Micro, Task, Clear. -/
import Derived.Test.YtaliecmdkloceaaLpJ
namespace Go.Proofs.Ytaliecmdkloceaa
open Go.RowKit Go.Lib Go.Shelf

theorem len_le_sum : ∀ (l : List (List Int)) (k : Nat), (l.getD k []).length ≤ sumL l
  | [], k => by simp
  | x :: r, 0 => by
    show x.length ≤ _
    unfold sumL
    rw [List.map_cons, List.sum_cons]
    omega
  | x :: r, k + 1 => by
    have := len_le_sum r k
    show (r.getD k []).length ≤ _
    unfold sumL at this ⊢
    rw [List.map_cons, List.sum_cons]
    omega
theorem qI_le (s : LpD) (i : Nat) : (qI s i).length ≤ totD s := by
  unfold qI totD tasksD
  split
  · omega
  · have := len_le_sum s.tks (i - 2)
    omega
theorem LpV.put {V : World} {F : Nat → Prop} {B : Nat} {s : LpD} {arr : Array Value} {v : Nat → Value} (h : LpV V F B s arr v) (i : Nat) (h1 : 1 ≤ i) (h2 : i < 10) (x : Int) (ht : totD s ≤ 1048576) :
    Calls Try.prog 31 #[.pointer (some ⟨B, i, none⟩), .int .i64 x] V fun e w' => e = .returned (.tuple #[]) ∧ LpTo V F B (setI s i (qI s i ++ [x])) w' := by
  refine (put_any B i arr _ x (v i) (qI s i) V h.box (h.arr.q i h1 (by omega)) (h.rowI i h1 h2) (fun hb => (h.own i h1 (by omega) B hb).2 rfl) (Nat.le_trans (qI_le s i) ht)).mono ?_
  rintro e w' ⟨rfl, hq⟩
  exact ⟨rfl, h.updI h1 h2 hq⟩
theorem LpV.take {V : World} {F : Nat → Prop} {B : Nat} {s : LpD} {arr : Array Value} {v : Nat → Value} (h : LpV V F B s arr v) (i : Nat) (h1 : 1 ≤ i) (h2 : i < 10) {x : Int} {l : List Int} (hq : qI s i = x :: l) :
    Calls Try.prog 37 #[.pointer (some ⟨B, i, none⟩)] V fun e w' => e = .returned (.int .i64 x) ∧ LpTo V F B (setI s i l) w' := by
  have hr := h.rowI i h1 h2
  rw [hq] at hr
  refine (take_any B i arr _ x (v i) l V h.box (h.arr.q i h1 (by omega)) hr (fun hb => (h.own i h1 (by omega) B hb).2 rfl)).mono ?_
  rintro e w' ⟨rfl, hq⟩
  exact ⟨rfl, h.updI h1 h2 hq⟩
theorem LpV.takeT {V : World} {F : Nat → Prop} {B : Nat} {s : LpD} {arr : Array Value} {v : Nat → Value} (h : LpV V F B s arr v) {x : AlD} {l : List AlD} (hq : s.tms = x :: l) :
    Calls Try.prog 40 #[.pointer (some ⟨B, 10, none⟩)] V fun e w' => e = .returned (alV x) ∧ LpTo V F B { s with tms := l } w' := by
  have hr := h.rowT
  rw [hq] at hr
  refine (takeA_any B 10 arr _ x (v 10) l V h.box (h.arr.q 10 (by omega) (by omega)) hr (fun hb => (h.own 10 (by omega) (by omega) B hb).2 rfl)).mono ?_
  rintro e w' ⟨rfl, hq⟩
  exact ⟨rfl, h.updT hq⟩
theorem LpV.drop {V : World} {F : Nat → Prop} {B : Nat} {s : LpD} {arr : Array Value} {v : Nat → Value} (h : LpV V F B s arr v) (n : Int) (g : Nat) (h0 : V.heap[g]? = some (.cells #[.int .i64 n] 3)) (ht : totD s ≤ 1048576) :
    Calls Try.prog 43 #[.pointer (some ⟨B, 10, none⟩), .func (.func 44) #[] #[.pointer (some ⟨g, 0, none⟩)]] V fun e w' => e = .returned (.bool (s.tms.any (isN n))) ∧ LpTo V F B { s with tms := s.tms.eraseP (isN n) } w' := by
  refine (drop_any B 10 g arr _ n (v 10) s.tms V h.box (h.arr.q 10 (by omega) (by omega)) h.rowT (fun hb => (h.own 10 (by omega) (by omega) B hb).2 rfl) (by unfold totD at ht; omega) h0).mono ?_
  rintro e w' ⟨rfl, hq⟩
  exact ⟨rfl, h.updT hq⟩
theorem LpV.ins {V : World} {F : Nat → Prop} {B : Nat} {s : LpD} {arr : Array Value} {v : Nat → Value} (h : LpV V F B s arr v) (i : Nat) (x : AlD) (hi : i ≤ s.tms.length) (ht : totD s ≤ 1048576) :
    Calls Try.prog 34 #[.pointer (some ⟨B, 10, none⟩), .int .i64 i, alV x] V fun e w' => e = .returned (.tuple #[]) ∧ LpTo V F B { s with tms := s.tms.take i ++ x :: s.tms.drop i } w' := by
  refine (qinsert_any B 10 arr _ i x (v 10) s.tms V h.box (h.arr.q 10 (by omega) (by omega)) h.rowT (fun hb => (h.own 10 (by omega) (by omega) B hb).2 rfl) hi (by unfold totD at ht; omega)).mono ?_
  rintro e w' ⟨rfl, hq⟩
  refine ⟨rfl, h.updT ?_⟩
  have hl : (s.tms.take i ++ x :: s.tms.drop i).length = s.tms.length + 1 := by rw [List.length_append, List.length_take, List.length_cons, List.length_drop]; omega
  rw [hl]
  exact hq

set_option maxRecDepth 100000 in
set_option maxHeartbeats 2000000 in
theorem full_any (F : Nat → Prop) (B : Nat) (s : LpD) (V : World) (h : LpAt V F B s) (ht : totD s ≤ 1048576) :
    Calls Try.prog 49 #[.pointer (some ⟨B, 0, none⟩)] V fun e w' => e = .returned (.bool (decide (4096 ≤ (totD s : Int)))) ∧ Below V.heap.size V w' := by
  have hC := waiting_any F B s V h ht
  have e1 : ((tasksD s : Int) + (s.mic.length : Int) + (s.tms.length : Int)) = (totD s : Int) := by unfold totD; omega
  have w1 : IntKind.i64.wrap ((tasksD s : Int) + (s.mic.length : Int)) = (tasksD s : Int) + (s.mic.length : Int) := by rw [IntKind.wrap_i64]; unfold totD at ht; omega
  have w2 : IntKind.i64.wrap ((tasksD s : Int) + (s.mic.length : Int) + (s.tms.length : Int)) = (tasksD s : Int) + (s.mic.length : Int) + (s.tms.length : Int) := by rw [IntKind.wrap_i64]; unfold totD at ht; omega
  rw [← e1]
  clear e1
  generalize tasksD s = A at *
  generalize s.mic.length = M at *
  generalize s.tms.length = T at *
  clear h ht
  go_enter Try.func49, Try.ntmps49
  go_wp2_with (go_at_call 24; refine hC.mono ?_; rintro e w2 ⟨rfl, hb⟩; have HB2 := hid hb; clear hb)
  go_ret
  exact ⟨rfl, HB2.out⟩
/-- Why nothing more may wait. -/
def againstE (s : LpD) (wrong : Bool) : Int := if s.cls = true then 15 else if wrong = true then 2 else if 4096 ≤ (totD s : Int) then 3 else 0
set_option maxRecDepth 100000 in
set_option maxHeartbeats 2000000 in
theorem against_any (F : Nat → Prop) (B : Nat) (s : LpD) (wrong : Bool) (V : World) (h : LpAt V F B s) (ht : totD s ≤ 1048576) :
    Calls Try.prog 30 #[.pointer (some ⟨B, 0, none⟩), .bool wrong] V fun e w' => e = .returned (.int .i64 (againstE s wrong)) ∧ Below V.heap.size V w' := by
  have hC := full_any F B s V h ht
  obtain ⟨arr, v, h'⟩ := h
  have c15 := h'.cs.cls
  unfold againstE
  clear h'
  cases hc : s.cls with
  | true =>
    rw [hc] at c15
    rw [if_pos rfl]
    clear hc hC
    go_enter Try.func30, Try.ntmps30
    go_wp2
    go_ret
    exact ⟨rfl, Below.refl _ _⟩
  | false =>
    rw [hc] at c15
    rw [if_neg Bool.false_ne_true]
    clear hc
    cases wrong with
    | true =>
      rw [if_pos rfl]
      clear hC
      go_enter Try.func30, Try.ntmps30
      go_wp2
      go_ret
      exact ⟨rfl, Below.refl _ _⟩
    | false =>
      rw [if_neg Bool.false_ne_true]
      by_cases hf : 4096 ≤ (totD s : Int)
      · rw [if_pos hf]
        rw [decide_eq_true hf] at hC
        clear hf
        go_enter Try.func30, Try.ntmps30
        go_wp2_with (go_at_call 49; refine hC.mono ?_; rintro e w2 ⟨rfl, hb⟩; have HB2 := hid hb; clear hb)
        go_ret
        exact ⟨rfl, HB2.out⟩
      · rw [if_neg hf]
        rw [decide_eq_false hf] at hC
        clear hf
        go_enter Try.func30, Try.ntmps30
        go_wp2_with (go_at_call 49; refine hC.mono ?_; rintro e w2 ⟨rfl, hb⟩; have HB2 := hid hb; clear hb)
        go_ret
        exact ⟨rfl, HB2.out⟩
set_option maxRecDepth 100000 in
set_option maxHeartbeats 1000000 in
theorem now_any (F : Nat → Prop) (B : Nat) (s : LpD) (V : World) (h : LpAt V F B s) :
    Calls Try.prog 28 #[.pointer (some ⟨B, 0, none⟩)] V fun e w' => e = .returned (.int .i64 s.now) ∧ w' = V := by
  obtain ⟨arr, v, h'⟩ := h
  have c0 := h'.cs.now
  clear h'
  go_enter Try.func28, Try.ntmps28
  go_wp2
  go_ret
  exact ⟨rfl, rfl⟩
def wrongT (src : Int) : Bool := decide (src < 0) || decide (8 ≤ src)
def taskD (s : LpD) (src id : Int) : LpD := if againstE s (wrongT src) = 0 then setI s (2 + src.toNat) (qI s (2 + src.toNat) ++ [id]) else s
def microD (s : LpD) (id : Int) : LpD := if againstE s false = 0 then setI s 1 (s.mic ++ [id]) else s
set_option maxRecDepth 100000 in
set_option maxHeartbeats 2000000 in
theorem micro_any (F : Nat → Prop) (B : Nat) (s : LpD) (id : Int) (V : World) (h : LpAt V F B s) (ht : totD s ≤ 1048576) :
    Calls Try.prog 11 #[.pointer (some ⟨B, 0, none⟩), .int .i64 id] V fun e w' => e = .returned (.int .i64 (againstE s false)) ∧ LpTo V F B (microD s id) w' := by
  have hA := against_any F B s false V h ht
  have HT := hid (fun W (hb : Below V.heap.size V W) => LpTo.of_below h hb)
  have HP : Hid (∀ W, Below V.heap.size V W → Calls Try.prog 31 #[.pointer (some ⟨B, 1, none⟩), .int .i64 id] W fun e w' => e = .returned (.tuple #[]) ∧ Hid (LpTo V F B (setI s 1 (s.mic ++ [id])) w')) := by
    intro W hb
    obtain ⟨arr, v, h'⟩ := h.later hb
    refine (h'.put 1 (by omega) (by omega) id ht).mono ?_
    rintro e w' ⟨rfl, hq⟩
    exact ⟨rfl, LpTo.above hb hq⟩
  unfold microD
  by_cases hz : againstE s false = 0
  · rw [if_pos hz, hz]
    rw [hz] at hA
    clear hz h ht HT
    go_enter Try.func11, Try.ntmps11
    go_wp2_with (first
      | (go_at_call 31; refine (HP.out _ HB2.out).mono ?_; rintro e w3 ⟨rfl, HQ⟩)
      | (go_at_call 30; refine hA.mono ?_; rintro e w2 ⟨rfl, hb⟩; have HB2 := hid hb; clear hb))
    go_ret
    exact ⟨rfl, HQ.out⟩
  · rw [if_neg hz]
    clear h ht HP
    have hd : (againstE s false == 0) = false := beq_eq_false_iff_ne.2 hz
    generalize againstE s false = E at *
    clear hz
    go_enter Try.func11, Try.ntmps11
    go_wp2_with (go_at_call 30; refine hA.mono ?_; rintro e w2 ⟨rfl, hb⟩; have HB2 := hid hb; clear hb)
    go_ret
    exact ⟨rfl, HT.out _ HB2.out⟩
set_option maxRecDepth 100000 in
set_option maxHeartbeats 2000000 in
theorem task_any (F : Nat → Prop) (B : Nat) (s : LpD) (src id : Int) (V : World) (h : LpAt V F B s) (ht : totD s ≤ 1048576) :
    Calls Try.prog 10 #[.pointer (some ⟨B, 0, none⟩), .int .i64 src, .int .i64 id] V fun e w' => e = .returned (.int .i64 (againstE s (wrongT src))) ∧ LpTo V F B (taskD s src id) w' := by
  have hA := against_any F B s (wrongT src) V h ht
  have HT := hid (fun W (hb : Below V.heap.size V W) => LpTo.of_below h hb)
  have HP : Hid (∀ W k, k < 8 → Below V.heap.size V W → Calls Try.prog 31 #[.pointer (some ⟨B, 2 + k, none⟩), .int .i64 id] W fun e w' => e = .returned (.tuple #[]) ∧ Hid (LpTo V F B (setI s (2 + k) (qI s (2 + k) ++ [id])) w')) := by
    intro W k hk hb
    obtain ⟨arr, v, h'⟩ := h.later hb
    refine (h'.put (2 + k) (by omega) (by omega) id ht).mono ?_
    rintro e w' ⟨rfl, hq⟩
    exact ⟨rfl, LpTo.above hb hq⟩
  unfold taskD
  by_cases hw : 0 ≤ src ∧ src < 8
  · have hwt : wrongT src = false := by
      unfold wrongT
      rw [decide_eq_false (by omega), decide_eq_false (by omega)]
      rfl
    obtain ⟨k, rfl⟩ : ∃ k : Nat, src = (k : Int) := ⟨src.toNat, by omega⟩
    have hk : k < 8 := by omega
    rw [hwt] at hA ⊢
    have e1 : ((k : Int)).toNat = k := by omega
    rw [e1]
    have d1 : decide ((k : Int) < 0) = false := decide_eq_false (by omega)
    have d2 : decide ((k : Int) ≥ 8) = false := decide_eq_false (by omega)
    by_cases hz : againstE s false = 0
    · rw [if_pos hz, hz]
      rw [hz] at hA
      clear hz h ht HT hwt hw e1
      go_enter Try.func10, Try.ntmps10
      go_wp2_with (first
        | (go_at_call 31; refine (HP.out _ k hk HB2.out).mono ?_; rintro e w3 ⟨rfl, HQ⟩)
        | (go_at_call 30; refine hA.mono ?_; rintro e w2 ⟨rfl, hb⟩; have HB2 := hid hb; clear hb))
      go_ret
      exact ⟨rfl, HQ.out⟩
    · rw [if_neg hz]
      clear h ht HP hwt hw e1
      have hd : (againstE s false == 0) = false := beq_eq_false_iff_ne.2 hz
      generalize againstE s false = E at *
      clear hz
      go_enter Try.func10, Try.ntmps10
      go_wp2_with (go_at_call 30; refine hA.mono ?_; rintro e w2 ⟨rfl, hb⟩; have HB2 := hid hb; clear hb)
      go_ret
      exact ⟨rfl, HT.out _ HB2.out⟩
  · have hwt : wrongT src = true := by
      unfold wrongT
      by_cases hn : src < 0
      · rw [decide_eq_true hn]
        rfl
      · rw [decide_eq_true (show 8 ≤ src by omega), Bool.or_true]
    have hnz : againstE s true ≠ 0 := by
      unfold againstE
      split
      · decide
      · rw [if_pos rfl]
        decide
    rw [hwt] at hA ⊢
    rw [if_neg hnz]
    have hd : (againstE s true == 0) = false := beq_eq_false_iff_ne.2 hnz
    generalize againstE s true = E at *
    clear hnz h ht HP hwt
    by_cases hn : src < 0
    · have d1 : decide (src < 0) = true := decide_eq_true hn
      clear hw hn
      go_enter Try.func10, Try.ntmps10
      go_wp2_with (go_at_call 30; refine hA.mono ?_; rintro e w2 ⟨rfl, hb⟩; have HB2 := hid hb; clear hb)
      go_ret
      exact ⟨rfl, HT.out _ HB2.out⟩
    · have d1 : decide (src < 0) = false := decide_eq_false hn
      have d2 : decide (src ≥ 8) = true := decide_eq_true (by omega)
      clear hw hn
      go_enter Try.func10, Try.ntmps10
      go_wp2_with (go_at_call 30; refine hA.mono ?_; rintro e w2 ⟨rfl, hb⟩; have HB2 := hid hb; clear hb)
      go_ret
      exact ⟨rfl, HT.out _ HB2.out⟩
def clearD (s : LpD) (n : Int) : LpD := { s with tms := s.tms.eraseP (isN n) }
set_option maxRecDepth 100000 in
set_option maxHeartbeats 2000000 in
theorem clear_any (F : Nat → Prop) (B : Nat) (s : LpD) (n : Int) (V : World) (h : LpAt V F B s) (ht : totD s ≤ 1048576) :
    Calls Try.prog 22 #[.pointer (some ⟨B, 0, none⟩), .int .i64 n] V fun e w' => e = .returned (.bool (s.tms.any (isN n))) ∧ LpTo V F B (clearD s n) w' := by
  have hb : Below V.heap.size V (V.alloc (.cells #[.int .i64 n] 3)) := (Below.refl _ V).alloc (Nat.le_refl _) _
  have hC : Calls Try.prog 43 #[.pointer (some ⟨B, 10, none⟩), .func (.func 44) #[] #[.pointer (some ⟨V.heap.size, 0, none⟩)]] (V.alloc (.cells #[.int .i64 n] 3)) fun e w' => e = .returned (.bool (s.tms.any (isN n))) ∧ Hid (LpTo V F B (clearD s n) w') := by
    obtain ⟨arr, v, h'⟩ := h.later hb
    refine (h'.drop n V.heap.size (heap_new V _) ht).mono ?_
    rintro e w' ⟨rfl, hq⟩
    exact ⟨rfl, LpTo.above hb hq⟩
  generalize s.tms.any (isN n) = R at *
  clear h ht hb
  have hmf : ∀ (fn : Fn) (first cap : Array Value) (w : World), (Instr.makeFunc fn first cap).run Try.prog w = .ok (.func fn first cap) w := fun _ _ _ _ => rfl
  go_enter Try.func22, Try.ntmps22
  go_wp2_with (go_at_call 43; refine hC.mono ?_; rintro e w2 ⟨rfl, HQ⟩)
  go_ret
  exact ⟨rfl, HQ.out⟩
end Go.Proofs.Ytaliecmdkloceaa
