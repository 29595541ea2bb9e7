/- loop: Advance. -/
import Derived.Test.YtaliecmdkloceaaLpM
namespace Go.Proofs.Ytaliecmdkloceaa
open Go.RowKit Go.Lib Go.Shelf

theorem sumL_set : ∀ (l : List (List Int)) (k : Nat) (a : List Int), k < l.length → sumL (l.set k a) + (l.getD k []).length = sumL l + a.length
  | [], _, _, h => by cases h
  | x :: r, 0, a, _ => by
    unfold sumL
    show (((a :: r).map List.length).sum) + x.length = _
    rw [List.map_cons, List.sum_cons, List.map_cons, List.sum_cons]
    omega
  | x :: r, k + 1, a, h => by
    have := sumL_set r k a (by simpa using h)
    unfold sumL at this ⊢
    show (((x :: r.set k a).map List.length).sum) + (r.getD k []).length = _
    rw [List.map_cons, List.sum_cons, List.map_cons, List.sum_cons]
    omega
theorem tot_setI (s : LpD) (i : Nat) (l : List Int) (h1 : 1 ≤ i) (h2 : i < 10) (h : s.tks.length = 8) : totD (setI s i l) + (qI s i).length = totD s + l.length := by
  unfold totD tasksD setI qI
  by_cases hi : i = 1
  · rw [if_pos hi, if_pos hi]
    dsimp only
    omega
  · rw [if_neg hi, if_neg hi]
    dsimp only
    have := sumL_set s.tks (i - 2) l (by omega)
    omega
/-- The first timer becomes a task. -/
def mv1 (s : LpD) : LpD := match s.tms with
  | [] => s
  | x :: r => setI { s with tms := r } 2 (qI s 2 ++ [x.id])
def mvN : Nat → LpD → LpD
  | 0, s => s
  | k + 1, s => mv1 (mvN k s)
theorem mv1_cons {s : LpD} {x : AlD} {r : List AlD} (h : s.tms = x :: r) : mv1 s = setI { s with tms := r } 2 (qI s 2 ++ [x.id]) := by unfold mv1; rw [h]
theorem mv1_facts (s : LpD) (h8 : s.tks.length = 8) : (mv1 s).tms = s.tms.drop 1 ∧ (mv1 s).tks.length = 8 ∧ totD (mv1 s) = totD s ∧ (mv1 s).now = s.now ∧ (mv1 s).giv = s.giv ∧ (mv1 s).cls = s.cls ∧ (mv1 s).mic = s.mic := by
  cases h : s.tms with
  | nil =>
    have : mv1 s = s := by unfold mv1; rw [h]
    rw [this]
    exact ⟨by rw [h]; rfl, h8, rfl, rfl, rfl, rfl, rfl⟩
  | cons x r =>
    rw [mv1_cons h]
    obtain ⟨e1, e2, e3, e4⟩ := setI_rest { s with tms := r } 2 (qI s 2 ++ [x.id])
    refine ⟨by rw [e2]; rfl, setI_len _ _ _ h8, ?_, e1, e3, e4, rfl⟩
    have ht := tot_setI { s with tms := r } 2 (qI s 2 ++ [x.id]) (by omega) (by omega) h8
    have hq : qI { s with tms := r } 2 = qI s 2 := rfl
    rw [hq, List.length_append] at ht
    have : totD s = totD { s with tms := r } + 1 := by
      unfold totD tasksD
      rw [h, List.length_cons]
      dsimp only
      omega
    simp only [List.length_cons, List.length_nil] at ht
    omega
theorem mvN_facts (s : LpD) (h8 : s.tks.length = 8) : ∀ k, (mvN k s).tms = s.tms.drop k ∧ (mvN k s).tks.length = 8 ∧ totD (mvN k s) = totD s ∧ (mvN k s).now = s.now ∧ (mvN k s).giv = s.giv ∧ (mvN k s).cls = s.cls ∧ (mvN k s).mic = s.mic
  | 0 => ⟨by rw [List.drop_zero]; rfl, h8, rfl, rfl, rfl, rfl, rfl⟩
  | k + 1 => by
    obtain ⟨a1, a2, a3, a4, a5, a6, a7⟩ := mvN_facts s h8 k
    obtain ⟨b1, b2, b3, b4, b5, b6, b7⟩ := mv1_facts (mvN k s) a2
    refine ⟨?_, b2, b3.trans a3, b4.trans a4, b5.trans a5, b6.trans a6, b7.trans a7⟩
    show (mv1 (mvN k s)).tms = _
    rw [b1, a1, List.drop_drop]
def advE (s : LpD) (ms : Int) : Int := if s.cls = true then 15 else if ms < 0 ∨ 1125899906842624 - s.now < ms then 2 else 0
def onD (s : LpD) (ms : Int) : LpD := { s with now := s.now + ms }
def advD (s : LpD) (ms : Int) : LpD := if advE s ms = 0 then mvN (cntD s.tms (s.now + ms)) (onD s ms) else s
def advN (s : LpD) (ms : Int) : Nat := if advE s ms = 0 then cntD s.tms (s.now + ms) else 0
theorem LpV.setNow {V : World} {F : Nat → Prop} {B : Nat} {s : LpD} {arr : Array Value} {v : Nat → Value} (h : LpV V F B s arr v) (x : Int) : LpV (V.setCell ⟨B, 0, none⟩ (.int .i64 x)) F B { s with now := x } (arr.setIfInBounds 0 (.int .i64 x)) v := by
  have hk : ∀ g, g ≠ B → (V.setCell ⟨B, 0, none⟩ (.int .i64 x)).heap[g]? = V.heap[g]? := fun g hg => Below.heap_setCell _ _ _ g hg
  refine ⟨set_boxQ h.box _, ⟨get_set_same h.arr.now, fun i h1 h2 => get_set (h.arr.q i h1 h2) (by omega), get_set h.arr.giv (by omega), get_set h.arr.done (by omega), get_set h.arr.mu (by omega), get_set h.arr.sem (by omega), get_set h.arr.cls (by omega), by rw [Array.size_setIfInBounds]; exact h.arr.sz⟩,
    fun i h1 h2 => (h.rowI i h1 h2).kept fun g hg => hk g (h.own i h1 (by omega) g hg).2, h.rowT.kept fun g hg => hk g (h.own 10 (by omega) (by omega) g hg).2, h.own, h.apart, h.self, fun k hk => ?_, h.len⟩
  show k < (V.heap.modify _ _).size
  rw [Array.size_modify]
  exact h.low k hk
theorem LpV.setGiv {V : World} {F : Nat → Prop} {B : Nat} {s : LpD} {arr : Array Value} {v : Nat → Value} (h : LpV V F B s arr v) (x : Int) : LpV (V.setCell ⟨B, 11, none⟩ (.int .i64 x)) F B { s with giv := x } (arr.setIfInBounds 11 (.int .i64 x)) v := by
  have hk : ∀ g, g ≠ B → (V.setCell ⟨B, 11, none⟩ (.int .i64 x)).heap[g]? = V.heap[g]? := fun g hg => Below.heap_setCell _ _ _ g hg
  refine ⟨set_boxQ h.box _, ⟨get_set h.arr.now (by omega), fun i h1 h2 => get_set (h.arr.q i h1 h2) (by omega), get_set_same h.arr.giv, get_set h.arr.done (by omega), get_set h.arr.mu (by omega), get_set h.arr.sem (by omega), get_set h.arr.cls (by omega), by rw [Array.size_setIfInBounds]; exact h.arr.sz⟩,
    fun i h1 h2 => (h.rowI i h1 h2).kept fun g hg => hk g (h.own i h1 (by omega) g hg).2, h.rowT.kept fun g hg => hk g (h.own 10 (by omega) (by omega) g hg).2, h.own, h.apart, h.self, fun k hk => ?_, h.len⟩
  show k < (V.heap.modify _ _).size
  rw [Array.size_modify]
  exact h.low k hk
theorem fr_set {V : World} {F : Nat → Prop} {B : Nat} (hB : F B) (j : Nat) (u : Value) : Fr F V (V.setCell ⟨B, j, none⟩ u) :=
  ⟨rfl, rfl, rfl, by show _ ≤ (V.heap.modify _ _).size; rw [Array.size_modify]; exact Nat.le_refl _, fun k _ hn => Below.heap_setCell _ _ _ k (fun e => hn (by rw [show k = B from e]; exact hB))⟩
/-- One timer becomes a task, in memory. -/
theorem LpTo.move {V W : World} {F : Nat → Prop} {B : Nat} {s : LpD} (h : LpTo V F B s W) {x : AlD} {r : List AlD} (hx : s.tms = x :: r) (ht : totD s ≤ 1048576) :
    ∀ U, Below W.heap.size W U → Calls Try.prog 40 #[.pointer (some ⟨B, 10, none⟩)] U fun e w' => e = .returned (alV x) ∧
      Hid (Calls Try.prog 31 #[.pointer (some ⟨B, 2, none⟩), .int .i64 x.id] w' fun e w2 => e = .returned (.tuple #[]) ∧ Hid (LpTo V F B (mv1 s) w2)) := by
  intro U hU
  obtain ⟨h1, F1, h2, h3⟩ := h.below hU
  obtain ⟨arr, v, h4⟩ := h2
  refine (h4.takeT hx).mono ?_
  rintro e w' ⟨rfl, h5⟩
  refine ⟨rfl, ?_⟩
  have h6 := LpTo.trans h1 h3 h5
  obtain ⟨k1, F2, ⟨arr2, v2, k2⟩, k3⟩ := h6
  refine (k2.put 2 (by omega) (by omega) x.id ?_).mono ?_
  · unfold totD tasksD at ht ⊢
    rw [hx, List.length_cons] at ht
    dsimp only
    omega
  · rintro e w2 ⟨rfl, h7⟩
    refine ⟨rfl, ?_⟩
    rw [mv1_cons hx]
    exact LpTo.trans k1 k3 h7
theorem fld_id (a b c : Int) (W : World) : Sem.run Try.prog (Instr.field 99 (.agg #[.int .i64 a, .int .i64 b, .int .i64 c]) 2) W = .ok (.int .i64 c) W := by kernel_rfl
set_option maxRecDepth 100000 in
set_option maxHeartbeats 1000000 in
theorem advance_any (F : Nat → Prop) (B : Nat) (s : LpD) (ms : Int) (V : World) (h : LpAt V F B s) (ht : totD s ≤ 4096) (hs : Sorted s.tms) (hn0 : 0 ≤ s.now) (hn1 : s.now ≤ 1125899906842624) :
    Calls Try.prog 14 #[.pointer (some ⟨B, 0, none⟩), .int .i64 ms] V fun e w' => e = .returned (.tuple #[.int .i64 (advN s ms : Nat), .int .i64 (advE s ms)]) ∧ LpTo V F B (advD s ms) w' := by
  obtain ⟨arr, v, h1⟩ := h
  have c15 := h1.cs.cls
  have c0 := h1.cs.now
  have f0 := h1.cs.fz 0
  have hT : LpTo V F B s V := LpTo.of_below ⟨arr, v, h1⟩ (Below.refl _ _)
  by_cases hc : s.cls = true
  · have e1 : advE s ms = 15 := by unfold advE; rw [if_pos hc]
    have e2 : advN s ms = 0 := by unfold advN; rw [e1]; rfl
    have e3 : advD s ms = s := by unfold advD; rw [e1]; rfl
    rw [e1, e2, e3]
    rw [hc] at c15
    have HT := hid hT
    clear e1 e2 e3 hc h1 hT hs ht
    go_enter Try.func14, Try.ntmps14
    go_wp2
    refine bodyPost_ret (v := .tuple #[.int .i64 0, .int .i64 15]) (by simp [results, Try.results14, go_sem]) rfl ?_
    exact ⟨rfl, HT.out⟩
  · have hcf : s.cls = false := by simpa using hc
    rw [hcf] at c15
    have hw : IntKind.i64.wrap (1125899906842624 - s.now) = 1125899906842624 - s.now := by rw [IntKind.wrap_i64]; omega
    by_cases hr : ms < 0 ∨ 1125899906842624 - s.now < ms
    · have e1 : advE s ms = 2 := by unfold advE; rw [if_neg hc, if_pos hr]
      have e2 : advN s ms = 0 := by unfold advN; rw [e1]; rfl
      have e3 : advD s ms = s := by unfold advD; rw [e1]; rfl
      rw [e1, e2, e3]
      have HT := hid hT
      clear e1 e2 e3 h1 hT hs ht hc hcf
      generalize s.now = now at *
      by_cases hn : ms < 0
      · have d1 : decide (ms < 0) = true := decide_eq_true hn
        clear hr
        go_enter Try.func14, Try.ntmps14
        go_wp2
        refine bodyPost_ret (v := .tuple #[.int .i64 0, .int .i64 2]) (by simp [results, Try.results14, go_sem]) rfl ?_
        exact ⟨rfl, HT.out⟩
      · have d1 : decide (ms < 0) = false := decide_eq_false hn
        have d2 : decide (ms > 1125899906842624 - now) = true := decide_eq_true (by omega)
        clear hr
        go_enter Try.func14, Try.ntmps14
        go_wp2
        refine bodyPost_ret (v := .tuple #[.int .i64 0, .int .i64 2]) (by simp [results, Try.results14, go_sem]) rfl ?_
        exact ⟨rfl, HT.out⟩
    · have e1 : advE s ms = 0 := by unfold advE; rw [if_neg hc, if_neg hr]
      have e2 : advN s ms = cntD s.tms (s.now + ms) := by unfold advN; rw [e1]; rfl
      have e3 : advD s ms = mvN (cntD s.tms (s.now + ms)) (onD s ms) := by unfold advD; rw [e1]; rfl
      rw [e1, e2, e3]
      have h2 := h1.setNow (s.now + ms)
      have hfr : Fr F V (V.setCell ⟨B, 0, none⟩ (.int .i64 (s.now + ms))) := fr_set h1.self 0 _
      obtain ⟨o2, c2, hv, t0⟩ := h1.tcell
      have hA := h2.rowT.rdA
      rw [hv] at hA
      have HD : Hid (∀ W, Below (V.setCell ⟨B, 0, none⟩ (.int .i64 (s.now + ms))).heap.size (V.setCell ⟨B, 0, none⟩ (.int .i64 (s.now + ms))) W → Calls Try.prog 35 #[.agg #[.slice o2 s.tms.length c2], .int .i64 (s.now + ms)] W fun e w' => e = .returned (.int .i64 (cntD s.tms (s.now + ms) : Nat)) ∧ Hid (LpTo V F B (mvN 0 (onD s ms)) w') ∧ Below W.heap.size W w') := by
        intro W hW
        refine (dueBy_any _ s.tms (s.now + ms) W (hA.later hW) (by unfold totD at ht; omega) hs).mono ?_
        rintro e w' ⟨rfl, hb⟩
        exact ⟨rfl, LpTo.trans hfr (fun k hk => .inl hk) (LpTo.of_below ⟨_, _, h2⟩ (hW.trans (hb.mono hW.size))), hb⟩
      have hN : cntD s.tms (s.now + ms) ≤ s.tms.length := List.length_filter_le _ _
      have HM : Hid (∀ (k : Nat) (W : World), k < cntD s.tms (s.now + ms) → LpTo V F B (mvN k (onD s ms)) W → ∃ x : AlD, ∀ U, Below W.heap.size W U → Calls Try.prog 40 #[.pointer (some ⟨B, 10, none⟩)] U fun e w' => e = .returned (alV x) ∧
          Hid (Calls Try.prog 31 #[.pointer (some ⟨B, 2, none⟩), .int .i64 x.id] w' fun e w2 => e = .returned (.tuple #[]) ∧ Hid (LpTo V F B (mvN (k + 1) (onD s ms)) w2))) := by
        intro k W hk hW
        obtain ⟨a1, a2, a3, _⟩ := mvN_facts (onD s ms) h1.len k
        cases hx : (mvN k (onD s ms)).tms with
        | nil =>
          rw [a1] at hx
          have := congrArg List.length hx
          rw [List.length_drop] at this
          have e : (onD s ms).tms = s.tms := rfl
          rw [e, List.length_nil] at this
          omega
        | cons x r =>
          refine ⟨x, hW.move hx ?_⟩
          have e : totD (onD s ms) = totD s := rfl
          rw [a3, e]
          omega
      have w1 : IntKind.i64.wrap (s.now + ms) = s.now + ms := by rw [IntKind.wrap_i64]; omega
      have C0 : Hid ((V.setCell ⟨B, 0, none⟩ (.int .i64 (s.now + ms))).cell? ⟨B, 0, none⟩ = some (.int .i64 (s.now + ms))) := h2.cs.now
      have T0 : Hid ((V.setCell ⟨B, 0, none⟩ (.int .i64 (s.now + ms))).cell? ⟨B, 10, none⟩ = some (.slice o2 s.tms.length c2)) := by
        obtain ⟨o3, c3, hv3, t3⟩ := h2.tcell
        rw [hv] at hv3
        rw [t3]
        injection hv3 with a1 a2 a3
        rw [a1, a3]
        rfl
      have hBz : Hid (B < (V.setCell ⟨B, 0, none⟩ (.int .i64 (s.now + ms))).heap.size) := h2.lt
      have HTT := ht
      clear e1 e2 e3 h1 h2 hT hA hv hfr hs ht hc hcf
      have d1 : decide (ms < 0) = false := decide_eq_false (by omega)
      have d2 : decide (ms > 1125899906842624 - s.now) = false := decide_eq_false (by omega)
      have hn3 : cntD s.tms (s.now + ms) ≤ 4096 := by unfold totD at HTT; omega
      generalize cntD s.tms (s.now + ms) = n at *
      clear HTT
      generalize s.tms.length = TL at *
      generalize s.now = now at *
      clear hr
      go_enter Try.func14, Try.ntmps14
      go_upto_region 8 with fail
      generalize V.setCell ⟨B, 0, none⟩ (.int .i64 (now + ms)) = Wz at *
      have hBz2 := hBz.out
      refine wp_region_held_drew (S := fun V => Below Wz.heap.size Wz V) (by kernel_rfl) ((Below.refl _ _).drew) (fun hHeld => ?_)
      have HB_V0 := hid hHeld
      have HS_V0 := hid hHeld.size
      generalize Wz.drew = V0 at *
      refine wpAnyH_one 0 35 (.pointer (some ⟨B, 0, none⟩)) hHeld rfl rfl (by kernel_rfl) (fun _ _ _ _ _ h => h) (by kernel_rfl) (by kernel_rfl) (by rfl) ?_ ?_
      · intro V hSw; (try dsimp only at hSw); go_simp
      simp only [Act.put, List.setIfInBounds_toArray, List.set_cons_zero, List.set_cons_succ]
      refine wpAnyH_one 1 36 (.pointer (some ⟨B, 0, none⟩)) hHeld rfl rfl (by kernel_rfl) (fun _ _ _ _ _ h => h) (by kernel_rfl) (by kernel_rfl) (by rfl) ?_ ?_
      · intro V hSw; (try dsimp only at hSw); go_simp
      simp only [Act.put, List.setIfInBounds_toArray, List.set_cons_zero, List.set_cons_succ]
      refine wpAnyH_one 2 37 (.pointer (some ⟨B, 10, none⟩)) hHeld rfl rfl (by kernel_rfl) (fun _ _ _ _ _ h => h) (by kernel_rfl) (by kernel_rfl) (by rfl) ?_ ?_
      · intro V hSw; (try dsimp only at hSw); go_simp
      simp only [Act.put, List.setIfInBounds_toArray, List.set_cons_zero, List.set_cons_succ]
      refine wpAnyH_one 3 38 (.agg #[.slice o2 TL c2]) hHeld rfl rfl (by kernel_rfl) (fun _ _ _ _ _ h => h) (by kernel_rfl) (by kernel_rfl) (by rfl) ?_ ?_
      · intro V hSw; (try dsimp only at hSw); have k0 := cellLater (B := B) hSw (by omega) T0.out; go_simp
      simp only [Act.put, List.setIfInBounds_toArray, List.set_cons_zero, List.set_cons_succ]
      refine wpAnyH_one 4 39 (.pointer (some ⟨B, 0, none⟩)) hHeld rfl rfl (by kernel_rfl) (fun _ _ _ _ _ h => h) (by kernel_rfl) (by kernel_rfl) (by rfl) ?_ ?_
      · intro V hSw; (try dsimp only at hSw); go_simp
      simp only [Act.put, List.setIfInBounds_toArray, List.set_cons_zero, List.set_cons_succ]
      refine wpAnyH_one 5 40 (.pointer (some ⟨B, 0, none⟩)) hHeld rfl rfl (by kernel_rfl) (fun _ _ _ _ _ h => h) (by kernel_rfl) (by kernel_rfl) (by rfl) ?_ ?_
      · intro V hSw; (try dsimp only at hSw); go_simp
      simp only [Act.put, List.setIfInBounds_toArray, List.set_cons_zero, List.set_cons_succ]
      refine wpAnyH_one 6 41 (.pointer (some ⟨B, 0, none⟩)) hHeld rfl rfl (by kernel_rfl) (fun _ _ _ _ _ h => h) (by kernel_rfl) (by kernel_rfl) (by rfl) ?_ ?_
      · intro V hSw; (try dsimp only at hSw); go_simp
      simp only [Act.put, List.setIfInBounds_toArray, List.set_cons_zero, List.set_cons_succ]
      refine wpAnyH_one 7 42 (.int .i64 (now + ms)) hHeld rfl rfl (by kernel_rfl) (fun _ _ _ _ _ h => h) (by kernel_rfl) (by kernel_rfl) (by rfl) ?_ ?_
      · intro V hSw; (try dsimp only at hSw); have k0 := cellLater (B := B) hSw (by omega) C0.out; go_simp
      simp only [Act.put, List.setIfInBounds_toArray, List.set_cons_zero, List.set_cons_succ]
      refine wpAnyH_ready (rs := [8]) (by kernel_rfl) (by simp) ?_
      refine AllReadyH.cons rfl (fun K hK => ?_) AllReadyH.nil
      go_simp
      go_wp2_with (go_at_call 35; refine (HD.out V0 HB_V0.out).mono ?_; rintro e V1 ⟨rfl, HQ, hb⟩; have HB_V1 := hid (HB_V0.out.trans (hb.mono HB_V0.out.size)); have HS_V1 := hid (HB_V1.out.size))
      refine hK.out _ _ HB_V1.out (fun hHeld => ?_)
      clear hK K
      refine wpAnyH_one 9 6 (.int .i64 n) hHeld rfl rfl (by kernel_rfl) (fun _ _ _ _ _ h => h) (by kernel_rfl) (by kernel_rfl) (by rfl) ?_ ?_
      · intro V hSw; (try dsimp only at hSw); go_simp
      simp only [Act.put, List.setIfInBounds_toArray, List.set_cons_zero, List.set_cons_succ]
      refine wpAnyH_done (by kernel_rfl) ?_ _
      clear T0 C0 hBz HD hBz2 HB_V0 HS_V0 HB_V1 HS_V1 hHeld
      have HQ1 := HQ
      clear HQ
      go_wp2
      go_loopw [45] (fun t wr => ∃ k : Nat, k ≤ n ∧ t = .int .i64 k ∧ Hid (LpTo V F B (mvN k (onD s ms)) wr)) (fun t _ => n - (RowKit.intOf t).toNat)
      case atStart => exact ⟨0, Nat.zero_le _, rfl, HQ1⟩
      case round =>
        obtain ⟨k, hk, rfl, hT⟩ := hrel
        by_cases hlt : k < n
        · obtain ⟨⟨xd, xn, xi⟩, hx⟩ := HM.out k wr hlt hT.out
          unfold alV at hx
          dsimp only at hx
          have HX := hid hx
          have hfl := fld_id xd xn xi
          have q1 : decide ((k : Int) < (n : Int)) = true := decide_eq_true (by omega)
          clear hx hT HM
          go_upto_region 11 with fail
          go_region_with (first | (go_at_call 31; refine HC.out.mono ?_; rintro e w4 ⟨rfl, HQ2⟩) | (go_at_call 40; refine (HX.out _ ((Below.refl _ _).drew)).mono ?_; rintro e w3 ⟨rfl, HC⟩))
          all_goals
            go_wp2
            go_roundw
            case rel => exact ⟨k + 1, by omega, by go_num, HQ2⟩
            case measure => simp [RowKit.intOf]; omega
        · have hkn : k = n := by omega
          subst hkn
          have q1 : decide ((k : Int) < (k : Int)) = false := decide_eq_false (by omega)
          go_wp2
          refine bodyPost_ret (v := .tuple #[.int .i64 (k : Nat), .int .i64 0]) (by simp [results, Try.results14, go_sem]) rfl ?_
          exact ⟨rfl, hT.out⟩
end Go.Proofs.Ytaliecmdkloceaa
