/- loop: the law LoopCalls. -/
import Derived.Test.YtnbkoobkfbcabaaLpDD
import Derived.Test.YtnbkoobkfbcabaaLpV
namespace Go.Proofs.Ytnbkoobkfbcabaa
open Go.RowKit Go.Lib Go.Shelf

theorem Pair.low {n0 n1 : Nat} {Z : Nat → Prop} {W : World} {A B : Nat} {s t : LpD} (h : Pair n1 Z W A B s t) (hn : n0 ≤ n1) : Pair n0 Z W A B s t := by
  obtain ⟨F, G, h1, h2, h3, h4, h5⟩ := h
  exact ⟨F, G, h1, h2, h3, fun k hk => ⟨Nat.le_trans hn (h4 k hk).1, (h4 k hk).2⟩, fun k hk => ⟨Nat.le_trans hn (h5 k hk).1, (h5 k hk).2⟩⟩
def turnO (t : TurnD) : Obj := .cells #[.int .u8 t.kind, .int .i64 t.src, .int .i64 t.id] 37
theorem alloc_size (W : World) (o : Obj) : (W.alloc o).heap.size = W.heap.size + 1 := by simp
/-- A step's box, then the one's answer, then the other's. -/
theorem both_one {n0 : Nat} {Z : Nat → Prop} {wr : World} {A B : Nat} {s : LpD} (h : Pair n0 Z wr A B s s) (hn : n0 ≤ wr.heap.size) (hz : ∀ k, Z k → k < wr.heap.size) (ho : OkD s) (hg : s.giv < 4611686018427387904) (x : StepD) :
    Calls Try.prog 14 #[.pointer (some ⟨A, 0, none⟩), stepV x] (wr.alloc (stepO x)) fun e w' => e = .returned (ansV (doD s x)) ∧ Hid (Pair n0 (fun k => Z k ∨ k = wr.heap.size) w' A B (doD s x).st s) ∧ Hid (Kept n0 (fun k => Z k ∨ k = wr.heap.size) (wr.alloc (stepO x)) w') :=
  (h.more (stepO x)).callStep (by rw [alloc_size]; omega) (by rw [alloc_size]; rintro k (hk | rfl); · have := hz k hk; omega
                                                              · omega) ho hg x
theorem both_do {n0 : Nat} {Z : Nat → Prop} {wr : World} {A B : Nat} {s : LpD} (h : Pair n0 Z wr A B s s) (hn : n0 ≤ wr.heap.size) (hz : ∀ k, Z k → k < wr.heap.size) (ho : OkD s) (hg : s.giv < 4611686018427387904) (x : StepD) :
    Calls Try.prog 12 #[.pointer (some ⟨A, 0, none⟩), stepV x] (wr.alloc (stepO x)) fun e w' => e = .returned (ansV (doD s x)) ∧ Hid (Pair n0 (fun k => Z k ∨ k = wr.heap.size) w' A B (doD s x).st s) ∧ Hid (Kept n0 (fun k => Z k ∨ k = wr.heap.size) (wr.alloc (stepO x)) w') :=
  (h.more (stepO x)).doStep (by rw [alloc_size]; omega) (by rw [alloc_size]; rintro k (hk | rfl); · have := hz k hk; omega
                                                            · omega) ho hg x
/-- What stands behind the first answer. -/
theorem both_mid {n0 : Nat} {Z : Nat → Prop} {wr w1 : World} {A B : Nat} {s s' : LpD} {x : StepD} {o : Obj} (hn : n0 ≤ wr.heap.size) (hz : ∀ k, Z k → k < wr.heap.size) (hp : Pair n0 (fun k => Z k ∨ k = wr.heap.size) w1 A B s' s) (hk : Kept n0 (fun k => Z k ∨ k = wr.heap.size) (wr.alloc (stepO x)) w1) (ho : OkD s) (hg : s.giv < 4611686018427387904) :
    StCells (w1.alloc o) wr.heap.size 0 x ∧
    Calls Try.prog 12 #[.pointer (some ⟨B, 0, none⟩), stepV x] (w1.alloc o) fun e w' => e = .returned (ansV (doD s x)) ∧ Hid (Pair n0 (fun k => (Z k ∨ k = wr.heap.size) ∨ k = w1.heap.size) w' B A (doD s x).st s') ∧ Hid (Kept n0 (fun k => (Z k ∨ k = wr.heap.size) ∨ k = w1.heap.size) (w1.alloc o) w') := by
  have hs := hk.bel.size
  rw [alloc_size] at hs
  refine ⟨step_cells ?_, (hp.more o).swap.doStep (by rw [alloc_size]; omega) ?_ ho hg x⟩
  · have h1 := hk.block (.inr rfl) (heap_new wr (stepO x))
    exact (Below.heap_alloc _ _ _ (Array.getElem?_eq_some_iff.1 h1).1).trans h1
  · rw [alloc_size]
    rintro k ((hk' | rfl) | rfl)
    · have := hz k hk'
      omega
    · omega
    · omega
/-- What stands behind the second. -/
theorem both_end {n0 : Nat} {Z : Nat → Prop} {wr w1 w2 : World} {A B : Nat} {s' s'' : LpD} {x : StepD} {o o2 : Obj} (hk : Kept n0 (fun k => Z k ∨ k = wr.heap.size) (wr.alloc (stepO x)) w1) (hn : n0 ≤ wr.heap.size)
    (hp2 : Pair n0 (fun k => (Z k ∨ k = wr.heap.size) ∨ k = w1.heap.size) w2 B A s'' s') (hk2 : Kept n0 (fun k => (Z k ∨ k = wr.heap.size) ∨ k = w1.heap.size) (w1.alloc o) w2) :
    (w2.alloc o2).heap[w1.heap.size]? = some o ∧ (w2.alloc o2).heap[w2.heap.size]? = some o2 ∧ Pair n0 Z (w2.alloc o2) A B s' s'' ∧ Kept n0 Z wr (w2.alloc o2) := by
  have hs := hk.bel.size
  have hs2 := hk2.bel.size
  rw [alloc_size] at hs hs2
  have h1 := hk2.block (.inr rfl) (heap_new w1 o)
  refine ⟨(Below.heap_alloc _ _ _ (by omega)).trans h1, heap_new w2 o2, ((hp2.more o2).swap).mono (fun k hk => .inl (.inl (.inl hk))), ?_, fun k hlt hZ => ?_⟩
  · exact ((((Below.refl n0 wr).alloc hn (stepO x)).trans hk.bel).trans (((Below.refl n0 w1).alloc (by omega) o).trans hk2.bel)).alloc (by omega) o2
  · have a1 : w1.heap[k]? = (wr.alloc (stepO x)).heap[k]? := hk.kept k (by rw [alloc_size]; omega) (.inl hZ)
    have a2 : w2.heap[k]? = (w1.alloc o).heap[k]? := hk2.kept k (by rw [alloc_size]; omega) (.inl (.inl hZ))
    rw [Below.heap_alloc _ _ _ (by omega), a2, Below.heap_alloc _ _ _ (by omega), a1, Below.heap_alloc _ _ _ hlt]
set_option maxRecDepth 100000 in
set_option maxHeartbeats 4000000 in
theorem loopCalls_law (v0 : Value) (ls : List StepD) (v1 : Value) (ms : List StepD) (W : World) (hr0 : RdSt W v0 ls) (hl0 : ls.length ≤ 1048576) (hr1 : RdSt W v1 ms) (hl1 : ms.length ≤ 1048576) :
    Calls Try.prog 4 #[v0, v1] W fun e w' => e = .returned (.bool true) ∧ Below W.heap.size W w' := by
  have hLi := hid (lives27_any W)
  obtain ⟨o0, cap0, rfl, hcap0, hg0⟩ := hr0
  obtain ⟨o1, cap1, rfl, hcap1, hg1⟩ := hr1
  have HG0 := hid hg0
  have HG1 := hid hg1
  clear hg0 hg1
  go_enter Try.func4, Try.ntmps4
  go_upto_region 3 with (go_at_call 8; refine hLi.out.mono ?_; rintro e w2 ⟨rfl, hb⟩; have H2 := hid hb; clear hb)
  go_upto_region 4 with (first
    | (go_at_call 9; refine (new_any u1).mono ?_; rintro e u2 ⟨rfl, hb, hz, hq⟩; have HN2 := hid (And.intro hb hq); clear hb hz hq)
    | (go_at_call 9; refine (new_any w2).mono ?_; rintro e u1 ⟨rfl, hb, hz, hq⟩; have HN1 := hid (And.intro hb hq); clear hb hz hq))
  have HB0 : Hid (Below W.heap.size W u2) := (H2.out.trans (HN1.out.1.mono H2.out.size)).trans (HN2.out.1.mono (Nat.le_trans H2.out.size HN1.out.1.size))
  have HP0 : Hid (Pair W.heap.size (fun _ => False) u2 w2.heap.size u1.heap.size newD newD) := (pair_new HN1.out.1 HN1.out.2 HN2.out.1 HN2.out.2).low H2.out.size
  clear HN1 HN2 H2 hLi
  generalize w2.heap.size = A at *
  generalize u1.heap.size = B at *
  go_upto_region 5 with fail
  go_loopw [37] (fun t wr => ∃ (k : Nat) (s : LpD), k ≤ ls.length ∧ t = .int .i64 k ∧ Hid (OkD s ∧ Emp s ∧ s.giv ≤ k) ∧ Hid (Pair W.heap.size (fun _ => False) wr A B s s) ∧ Hid (Below W.heap.size W wr)) (fun t _ => ls.length - (RowKit.intOf t).toNat)
  case atStart => exact ⟨0, newD, Nat.zero_le _, rfl, ⟨ok_new, emp_new, Int.le_refl _⟩, HP0, HB0⟩
  case round =>
    obtain ⟨k, s, hk, rfl, hS, hP, hB⟩ := hrel
    by_cases hlt : k < ls.length
    · obtain ⟨b, off, rfl, hbl, ha⟩ := HG0.out (by omega)
      have hst := (ha k hlt).later hbl hB.out
      have hg : s.giv < 4611686018427387904 := by have := hS.out.2.2; omega
      have HC1 := hid (both_one hP.out hB.out.size (fun _ h => h.elim) hS.out.1 hg ls[k])
      have HMid := hid (fun w1 o (hp : Hid (Pair W.heap.size (fun j => False ∨ j = wr.heap.size) w1 A B (doD s ls[k]).st s)) (hk : Hid (Kept W.heap.size (fun j => False ∨ j = wr.heap.size) (wr.alloc (stepO ls[k])) w1)) => both_mid (o := o) hB.out.size (fun _ h => h.elim) hp.out hk.out hS.out.1 hg)
      have HEnd := hid (fun w1 w2 o o2 (hk : Hid (Kept W.heap.size (fun j => False ∨ j = wr.heap.size) (wr.alloc (stepO ls[k])) w1)) (hp2 : Hid (Pair W.heap.size (fun j => (False ∨ j = wr.heap.size) ∨ j = w1.heap.size) w2 B A (doD s ls[k]).st (doD s ls[k]).st)) (hk2 : Hid (Kept W.heap.size (fun j => (False ∨ j = wr.heap.size) ∨ j = w1.heap.size) (w1.alloc o) w2)) => both_end (o2 := o2) hk.out hB.out.size hp2.out hk2.out)
      have hS2 : Hid (OkD (doD s ls[k]).st ∧ Emp (doD s ls[k]).st ∧ (doD s ls[k]).st.giv ≤ ((k + 1 : Nat) : Int)) := ⟨ok_do hS.out.1 _, emp_do hS.out.1 hS.out.2.1 _, by have := giv_do s ls[k] hS.out.1; have := hS.out.2.2; omega⟩
      have q1 : (0 : Int) ≤ (k : Int) := by omega
      have q2 : (k : Int) < (ls.length : Int) := by omega
      have hcs := step_cells (heap_new wr (stepO ls[k]))
      clear ha hP hS
      generalize (doD s ls[k]).st = S2 at *
      generalize doD s ls[k] = D at *
      generalize ls[k] = y at *
      obtain ⟨yk, ys, yi, ym, yl, yt⟩ := y
      obtain ⟨s0, s1, s2, s3, s4, s5⟩ := hst
      obtain ⟨t0, t1, t2, t3, t4, t5⟩ := hcs
      obtain ⟨a1, a2, ⟨tk, ts, ti⟩, a4⟩ := D
      unfold ansV turnV at HC1 HMid
      unfold stepV at HC1 HMid
      unfold stepO at *
      dsimp only at *
      go_upto_region 8 with (go_at_call 14; refine HC1.out.mono ?_; rintro e w3 ⟨rfl, HP3, HK3⟩)
      obtain ⟨hc3, hd3⟩ := HMid.out w3 (.cells #[.int .u8 tk, .int .i64 ts, .int .i64 ti] 37) HP3 HK3
      obtain ⟨r0, r1, r2, r3, r4, r5⟩ := hc3
      dsimp only at *
      have HD3 := hid hd3
      clear hd3
      go_upto_region 9 with (go_at_call 12; refine HD3.out.mono ?_; rintro e w4 ⟨rfl, HP4, HK4⟩)
      obtain ⟨m1, m2, HP5, HK5⟩ := HEnd.out w3 w4 _ (.cells #[.int .u8 tk, .int .i64 ts, .int .i64 ti] 37) HK3 HP4 HK4
      have HP5 := hid HP5
      have HB5 : Hid (Below W.heap.size W (w4.alloc (.cells #[.int .u8 tk, .int .i64 ts, .int .i64 ti] 37))) := hB.out.trans HK5.bel
      clear HK5 HP4 HK4 HP3 HK3 HD3 HMid HEnd HC1
      have b0 := (cell_of_heap m1 0).trans rfl
      have b1 := (cell_of_heap m1 1).trans rfl
      have b2 := (cell_of_heap m1 2).trans rfl
      have c0 := (cell_of_heap m2 0).trans rfl
      have c1 := (cell_of_heap m2 1).trans rfl
      have c2 := (cell_of_heap m2 2).trans rfl
      clear m1 m2
      generalize w4.alloc (.cells #[.int .u8 tk, .int .i64 ts, .int .i64 ti] 37) = W5 at *
      go_wp2
      go_roundw
      case rel => exact ⟨k + 1, S2, by omega, by go_num, hS2, HP5, HB5⟩
      case measure => simp [RowKit.intOf]; omega
    · have hkn : k = ls.length := by omega
      subst hkn
      have HF := hid (hP.out.fork hB.out.size hS.out.1 hS.out.2.1)
      clear HG0 hP
      go_upto_region 13 with (go_at_call 15; refine HF.out.mono ?_; rintro e f1 ⟨g, rfl, HX, HK1⟩)
      have HB1 : Hid (Below W.heap.size W f1) := hB.out.trans HK1.out
      obtain ⟨FA, hA1, hlow, hp1⟩ := HX.out
      have HA1 := hid hA1
      have HP1 := hid hp1
      clear HX HF HK1 hB hA1 hlow hp1
      have HNow := hid (fun U (h : Hid (LpAt U FA A s)) => now_any FA A s U h.out)
      have HWai := hid (fun U (h : Hid (LpAt U FA A s)) => waiting_any FA A s U h.out (tot_small hS.out.1))
      generalize tasksD s = TD at *
      generalize s.mic.length = MC at *
      generalize s.tms.length = TC at *
      generalize s.now = NOW at *
      go_upto_region 16 with (go_at_call 16; refine (HNow.out _ HA1).mono ?_; rintro e f2 ⟨rfl, rfl⟩)
      go_upto_region 17 with (go_at_call 17; refine (HWai.out _ HA1).mono ?_; rintro e f3 ⟨rfl, hb⟩; have HA3 : Hid (LpAt f3 FA A s) := hid (HA1.out.later hb); have HP3 := hid (HP1.out.later hb); have HB3 : Hid (Below W.heap.size W f3) := hid (HB1.out.trans (hb.mono HB1.out.size)); clear hb)
      go_upto_region 18 with fail
      clear HA1 HP1 HB1
      go_loopw [83] (fun t wr => ∃ (k : Nat) (q : LpD), k ≤ ms.length ∧ t = .int .i64 k ∧ Hid (OkD q ∧ Emp q ∧ q.giv ≤ (ls.length : Int) + k) ∧ Hid (Pair W.heap.size FA wr g B q q) ∧ Hid (LpAt wr FA A s) ∧ Hid (Below W.heap.size W wr)) (fun t _ => ms.length - (RowKit.intOf t).toNat)
      case atStart => exact ⟨0, s, Nat.zero_le _, rfl, ⟨hS.out.1, hS.out.2.1, by have := hS.out.2.2; omega⟩, HP3, HA3, HB3⟩
      case round =>
        obtain ⟨k, q, hk, rfl, hS, hP, hA, hB⟩ := hrel
        by_cases hlt : k < ms.length
        · obtain ⟨b, off, rfl, hbl, ha⟩ := HG1.out (by omega)
          have hst := (ha k hlt).later hbl hB.out
          have hFlt : ∀ j, FA j → j < wr.heap.size := LpV.notF hA.out
          have hg : q.giv < 4611686018427387904 := by have := hS.out.2.2; omega
          have HC1 := hid (both_do hP.out hB.out.size hFlt hS.out.1 hg ms[k])
          have HMid := hid (fun w1 o (hp : Hid (Pair W.heap.size (fun j => FA j ∨ j = wr.heap.size) w1 g B (doD q ms[k]).st q)) (hk : Hid (Kept W.heap.size (fun j => FA j ∨ j = wr.heap.size) (wr.alloc (stepO ms[k])) w1)) => both_mid (o := o) hB.out.size hFlt hp.out hk.out hS.out.1 hg)
          have HEnd := hid (fun w1 w2 o o2 (hk : Hid (Kept W.heap.size (fun j => FA j ∨ j = wr.heap.size) (wr.alloc (stepO ms[k])) w1)) (hp2 : Hid (Pair W.heap.size (fun j => (FA j ∨ j = wr.heap.size) ∨ j = w1.heap.size) w2 B g (doD q ms[k]).st (doD q ms[k]).st)) (hk2 : Hid (Kept W.heap.size (fun j => (FA j ∨ j = wr.heap.size) ∨ j = w1.heap.size) (w1.alloc o) w2)) => both_end (o2 := o2) hk.out hB.out.size hp2.out hk2.out)
          have hS2 : Hid (OkD (doD q ms[k]).st ∧ Emp (doD q ms[k]).st ∧ (doD q ms[k]).st.giv ≤ (ls.length : Int) + ((k + 1 : Nat) : Int)) := ⟨ok_do hS.out.1 _, emp_do hS.out.1 hS.out.2.1 _, by have := giv_do q ms[k] hS.out.1; have := hS.out.2.2; omega⟩
          have q1 : (0 : Int) ≤ (k : Int) := by omega
          have q2 : (k : Int) < (ms.length : Int) := by omega
          have hcs := step_cells (heap_new wr (stepO ms[k]))
          clear ha hP hS
          generalize (doD q ms[k]).st = S2 at *
          generalize doD q ms[k] = D at *
          generalize ms[k] = y at *
          obtain ⟨yk, ys, yi, ym, yl, yt⟩ := y
          obtain ⟨s0, s1, s2, s3, s4, s5⟩ := hst
          obtain ⟨t0, t1, t2, t3, t4, t5⟩ := hcs
          obtain ⟨a1, a2, ⟨tk, ts, ti⟩, a4⟩ := D
          unfold ansV turnV at HC1 HMid
          unfold stepV at HC1 HMid
          unfold stepO at *
          dsimp only at *
          go_upto_region 21 with (go_at_call 12; refine HC1.out.mono ?_; rintro e w3 ⟨rfl, HP3, HK3⟩)
          obtain ⟨hc3, hd3⟩ := HMid.out w3 (.cells #[.int .u8 tk, .int .i64 ts, .int .i64 ti] 37) HP3 HK3
          obtain ⟨r0, r1, r2, r3, r4, r5⟩ := hc3
          dsimp only at *
          have HD3 := hid hd3
          clear hd3
          go_upto_region 22 with (go_at_call 12; refine HD3.out.mono ?_; rintro e w4 ⟨rfl, HP4, HK4⟩)
          obtain ⟨m1, m2, HP5, HK5⟩ := HEnd.out w3 w4 _ (.cells #[.int .u8 tk, .int .i64 ts, .int .i64 ti] 37) HK3 HP4 HK4
          have HP5 := hid HP5
          have HA5 : Hid (LpAt (w4.alloc (.cells #[.int .u8 tk, .int .i64 ts, .int .i64 ti] 37)) FA A s) := HK5.at hA.out (fun _ h => h) HK5.bel.size
          have HB5 : Hid (Below W.heap.size W (w4.alloc (.cells #[.int .u8 tk, .int .i64 ts, .int .i64 ti] 37))) := hB.out.trans HK5.bel
          clear HK5 HP4 HK4 HP3 HK3 HD3 HMid HEnd HC1
          have b0 := (cell_of_heap m1 0).trans rfl
          have b1 := (cell_of_heap m1 1).trans rfl
          have b2 := (cell_of_heap m1 2).trans rfl
          have c0 := (cell_of_heap m2 0).trans rfl
          have c1 := (cell_of_heap m2 1).trans rfl
          have c2 := (cell_of_heap m2 2).trans rfl
          clear m1 m2
          generalize w4.alloc (.cells #[.int .u8 tk, .int .i64 ts, .int .i64 ti] 37) = W5 at *
          go_wp2
          go_roundw
          case rel => exact ⟨k + 1, S2, by omega, by go_num, hS2, HP5, HA5, HB5⟩
          case measure => simp [RowKit.intOf]; omega
        · have hkn : k = ms.length := by omega
          subst hkn
          clear HG1 hP HP3 HA3 HB3
          go_wp2_with (first
            | (go_at_call 16; refine (HNow.out _ hA2).mono ?_; rintro e f5 ⟨rfl, rfl⟩)
            | (go_at_call 17; refine (HWai.out _ hA).mono ?_; rintro e f4 ⟨rfl, hb⟩; have hA2 : Hid (LpAt f4 FA A s) := hid (hA.out.later hb); have HB4 : Hid (Below W.heap.size W f4) := hid (hB.out.trans (hb.mono hB.out.size)); clear hb))
          go_ret
          exact ⟨rfl, HB4.out⟩
end Go.Proofs.Ytnbkoobkfbcabaa
