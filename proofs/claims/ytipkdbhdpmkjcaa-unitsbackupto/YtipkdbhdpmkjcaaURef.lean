/- The walks of the reference's Units and Of, and of units.Compare. -/
import Derived.Test.YtipkdbhdpmkjcaaULives
namespace Go.Proofs.Ytipkdbhdpmkjcaa
open Go.RowKit Go.Lib

set_option maxRecDepth 100000 in
set_option maxHeartbeats 1000000 in
theorem runits_any (s : ByteArray) (w : World) (hs : s.size ≤ 17592186044416) : Calls Try.prog 23 #[.string s] w fun e w' => ∃ v, e = .returned v ∧ w'.ownsRow w.heap.size 47 1 v (unD s.data.toList).length ((unD s.data.toList).map unitV) ∧ Below w.heap.size w w' := by
  generalize hU : unD s.data.toList = U
  have HU : Hid (unD s.data.toList = U) := hU
  clear hU
  obtain ⟨i0, hi, hz0, hz1, hz2⟩ := info_parts Try.infoUnit
  go_enter Try.func23, Try.ntmps23
  go_wp2
  go_loopw [3] (fun v wr => ∃ (pos : Nat) (done : List Nat), pos ≤ s.size ∧ wr.heap[w.heap.size]? = some (.stringIter s pos) ∧ wr.ownsRow (w.heap.size + 1) 47 1 v done.length (done.map unitV) ∧ Below w.heap.size w wr ∧
      done.length ≤ 2 * pos ∧ Hid (done ++ unD (s.data.toList.drop pos) = U)) (fun _ wr => s.size - wr.iterPos w.heap.size)
  case atStart => exact ⟨0, [], Nat.zero_le _, World.iter_heap w s 0, World.ownsRow_nil _ _ _ _, (Below.refl _ w).alloc (Nat.le_refl _) _, by simp, HU.out⟩
  case round =>
    obtain ⟨pos, done, hpos, hit, hown, hbw, hd, hu⟩ := hrel
    have hkl : w.heap.size < wr.heap.size := (Array.getElem?_eq_some_iff.1 hit).1
    by_cases hlt : pos < s.size
    · have hnx := fun ty => run_next_any_at (P := Try.prog) wr w.heap.size s pos ty hit hlt
      have hw := width_pos s pos
      have hfit := decode_fits s pos hlt
      have hle := rune_le s pos
      have hit' := iterAt_heap wr w.heap.size s pos (pos + (Utf8.decode s pos).2) hit
      have hbi := below_iterAt hbw (k := w.heap.size) (Nat.le_refl _) s (pos + (Utf8.decode s pos).2)
      have hsi := iterAt_size wr w.heap.size s (pos + (Utf8.decode s pos).2)
      have hown2 := ownsRow_iterAt hown (k := w.heap.size) (by omega) s (pos + (Utf8.decode s pos).2)
      have hn : Hid ((done ++ unitsR (Utf8.decode s pos).1) ++ unD (s.data.toList.drop (pos + (Utf8.decode s pos).2)) = U) := by
        have h := hu.out
        rw [unD_step _ (drop_ne s pos hlt), Lib.decodeL_drop, List.drop_drop] at h
        show _ = _
        rw [List.append_assoc]
        exact h
      clear hu
      generalize wr.iterAt w.heap.size s (pos + (Utf8.decode s pos).2) = wi at *
      replace hsi : wr.heap.size ≤ wi.heap.size := by omega
      generalize (Utf8.decode s pos).2 = wd at *
      generalize (Utf8.decode s pos).1 = r at *
      by_cases hr : r < 65536
      · have e1 : unitsR r = [r] := if_pos hr
        rw [e1] at hn
        have h1 : (r : Int) < 65536 := by omega
        go_wp2_with (at_builtin; refine wpList_append_own _ rfl _ _ 23 rfl (w.heap.size + 1) 47 i0 (.int .u16 0) 1 2 Try.underlying23 hi hz0 hz1 hz2 rfl (by decide) _ _ _ rfl (hown2.alloc _) ⟨wi.heap.size, 0, none⟩ 1 1 [unitV r] rfl rfl ?c1 ?c2 ?c3 ?c4 ?c5 ?_)
        case c1 =>
          intro j u hj
          match j, hj with
          | 0, hj => simp at hj; subst hj; simp [Addr.add, unitV]
        case c2 => intro u hu; simp at hu; subst hu; rfl
        case c3 => unfold maxLen; omega
        case c4 => omega
        case c5 => simp; omega
        intro v' w1 hown' hgrow _
        have hb1 : Below (w.heap.size + 1) wi w1 := ((Below.refl _ wi).alloc (by omega) _).grown hgrow (by simp; omega) (fun j hj => (hown2.lt j hj).1)
        go_wp2
        go_roundw
        case rel => exact ⟨pos + wd, done ++ [r], hfit, (hb1.block _ (by omega)).trans hit', by simpa using hown', hbi.trans (hb1.mono (by omega)), by simp; omega, hn⟩
        case measure => simp only [World.iterPos, (hb1.block _ (by omega)).trans hit', hit]; omega
      · obtain ⟨x, hx⟩ : ∃ x, 55296 + (r - 65536) / 1024 = x := ⟨_, rfl⟩
        obtain ⟨y, hy⟩ : ∃ y, 56320 + (r - 65536) % 1024 = y := ⟨_, rfl⟩
        have e1 : unitsR r = [x, y] := by rw [← hx, ← hy]; exact if_neg hr
        rw [e1] at hn
        have h1 : ¬ (r : Int) < 65536 := by omega
        go_wp2_with (at_builtin; refine wpList_append_own _ rfl _ _ 23 rfl (w.heap.size + 1) 47 i0 (.int .u16 0) 1 2 Try.underlying23 hi hz0 hz1 hz2 rfl (by decide) _ _ _ rfl (hown2.alloc _) ⟨wi.heap.size, 0, none⟩ 2 2 [unitV x, unitV y] rfl rfl ?c1 ?c2 ?c3 ?c4 ?c5 ?_)
        case c1 =>
          intro j u hj
          match j, hj with
          | 0, hj => simp at hj; subst hj; simp [unitV]; omega
          | 1, hj => simp at hj; subst hj; simp [unitV]; omega
        case c2 => exact ⟨rfl, rfl⟩
        case c3 => unfold maxLen; omega
        case c4 => omega
        case c5 => omega
        intro v' w1 hown' hgrow _
        have hb1 : Below (w.heap.size + 1) wi w1 := ((Below.refl _ wi).alloc (by omega) _).grown hgrow (by simp; omega) (fun j hj => (hown2.lt j hj).1)
        go_wp2
        go_roundw
        case rel => exact ⟨pos + wd, done ++ [x, y], hfit, (hb1.block _ (by omega)).trans hit', by simpa using hown', hbi.trans (hb1.mono (by omega)), by simp; omega, hn⟩
        case measure => simp only [World.iterPos, (hb1.block _ (by omega)).trans hit', hit]; omega
    · have hnx := fun ty => run_next_end_at (P := Try.prog) wr w.heap.size s pos ty hit hlt
      have hnil : s.data.toList.drop pos = [] := List.drop_eq_nil_of_le (by rw [← Lib.size_eq]; omega)
      have hUd : U = done := by rw [← hu.out, hnil, unD_nil, List.append_nil]
      subst hUd
      clear hu hnil
      go_wp2
      go_ret
      exact ⟨_, rfl, Go.Joins.ownsRow_le hown (by omega), hbw⟩

theorem rof_any (s : ByteArray) (w : World) (hs : s.size ≤ 17592186044416) : Calls Try.prog 8 #[.string s] w (OfPost w (unD s.data.toList)) := by
  have hU := runits_any s w hs
  generalize unD s.data.toList = U at *
  by_cases hb : 16384 < U.length
  · go_enter Try.func8, Try.ntmps8
    go_wp2_with (go_at_call 23; refine hU.mono ?_; rintro e w1 ⟨v, rfl, hown, hb1⟩; obtain ⟨g, cap, rfl⟩ := Go.Joins.ownsRow_form hown (by omega))
    go_ret2
    exact ⟨hb1, .inl ⟨hb, rfl⟩⟩
  · have hb' : U.length ≤ 16384 := by omega
    go_enter Try.func8, Try.ntmps8
    go_wp2_with fail
    refine hU.mono ?_
    rintro e w1 ⟨v, rfl, hown, hb1⟩
    have hpost : OfPost w U (.returned (.tuple #[v, .int .i64 0])) w1 := ⟨hb1, .inr ⟨hb', v, rfl, hown⟩⟩
    rcases Go.Joins.ownsRow_forms hown with ⟨rfl, h0⟩ | ⟨g, cap, rfl⟩
    · go_wp2
      go_ret2
      exact hpost
    · go_wp2
      go_ret2
      exact hpost

theorem isNaN_any (x : Nat) (w : World) : Calls Try.prog 51 #[unitV x] w fun e w' => e = .returned (.bool false) ∧ w' = w := by
  have h : ((x : Int) == (x : Int)) = true := by simp
  unfold unitV
  go_enter Try.func51, Try.ntmps51
  go_wp2
  go_ret
  exact ⟨rfl, rfl⟩

def cmp1 (x y : Nat) : Int := if x < y then -1 else if y < x then 1 else 0
theorem ccmp_any (x y : Nat) (w : World) : Calls Try.prog 45 #[unitV x, unitV y] w fun e w' => e = .returned (.int .i64 (cmp1 x y)) ∧ w' = w := by
  have h1 := isNaN_any x w
  have h2 := isNaN_any y w
  unfold unitV at *
  unfold cmp1
  by_cases a : x < y
  · have a' : (x : Int) < (y : Int) := by omega
    rw [if_pos a]
    go_enter Try.func45, Try.ntmps45
    go_wp2_with fail
    refine h1.mono ?_
    rintro e w' ⟨rfl, rfl⟩
    go_wp2_with fail
    refine h2.mono ?_
    rintro e w' ⟨rfl, rfl⟩
    go_wp2
    go_ret
    exact ⟨rfl, rfl⟩
  · have a' : ¬ (x : Int) < (y : Int) := by omega
    rw [if_neg a]
    by_cases b : y < x
    · have b' : (y : Int) < (x : Int) := by omega
      rw [if_pos b]
      go_enter Try.func45, Try.ntmps45
      go_wp2_with fail
      refine h1.mono ?_
      rintro e w' ⟨rfl, rfl⟩
      go_wp2_with fail
      refine h2.mono ?_
      rintro e w' ⟨rfl, rfl⟩
      go_wp2
      go_ret
      exact ⟨rfl, rfl⟩
    · have b' : ¬ (y : Int) < (x : Int) := by omega
      rw [if_neg b]
      go_enter Try.func45, Try.ntmps45
      go_wp2_with fail
      refine h1.mono ?_
      rintro e w' ⟨rfl, rfl⟩
      go_wp2_with fail
      refine h2.mono ?_
      rintro e w' ⟨rfl, rfl⟩
      go_wp2
      go_ret
      exact ⟨rfl, rfl⟩

theorem cmp1_step (x y : Nat) (c : Int) : (if x < y then (-1 : Int) else if y < x then 1 else c) = if cmp1 x y = 0 then c else cmp1 x y := by
  unfold cmp1
  by_cases a : x < y
  · simp [a]
  · by_cases b : y < x
    · simp [a, b]
    · simp [a, b]

set_option maxRecDepth 100000 in
set_option maxHeartbeats 1000000 in
theorem scmp_any (v1 v2 : Value) (us vs : List Nat) (w : World) (h1 : RdU w v1 us) (h2 : RdU w v2 vs) (hn1 : us.length ≤ 140737488355328) :
    Calls Try.prog 34 #[v1, v2] w fun e w' => e = .returned (.int .i64 (cmpU us vs)) ∧ w' = w := by
  obtain ⟨o1, c1, rfl, g1⟩ := h1.form
  obtain ⟨o2, c2, rfl, g2⟩ := h2.form
  obtain ⟨R, hR⟩ : ∃ R, cmpU us vs = R := ⟨_, rfl⟩
  rw [hR]
  have HR : Hid (cmpU us vs = R) := hR
  clear hR h1 h2
  go_enter Try.func34, Try.ntmps34
  go_wp2
  go_loopw [11] (fun i wr => ∃ k : Nat, k ≤ us.length ∧ k ≤ vs.length ∧ i = .int .i64 k ∧ wr = w ∧ Hid (cmpU (us.drop k) (vs.drop k) = R)) (fun i _ => us.length - (RowKit.intOf i).toNat)
  case atStart => exact ⟨0, Nat.zero_le _, Nat.zero_le _, rfl, rfl, HR.out⟩
  case round =>
    obtain ⟨k, hk1, hk2, rfl, rfl, hr⟩ := hrel
    by_cases hlt1 : k < us.length
    · have q1 : (k : Int) < (us.length : Int) := by omega
      obtain ⟨a1, rfl, ha1, _, _, hc1⟩ := g1 (by omega)
      have hx := hc1 k hlt1
      by_cases hlt2 : k < vs.length
      · have q2 : ¬ (vs.length : Int) ≤ (k : Int) := by omega
        have q3 : (k : Int) < (vs.length : Int) := by omega
        obtain ⟨a2, rfl, ha2, _, _, hc2⟩ := g2 (by omega)
        have hy := hc2 k hlt2
        have hs := cmpU_step us vs k hlt1 hlt2
        rw [cmp1_step] at hs
        have hr' := hr.out
        rw [hs] at hr'
        have hC := ccmp_any us[k] vs[k] wr
        unfold unitV at hx hy hC
        generalize cmp1 us[k] vs[k] = c at *
        generalize us[k] = x at *
        generalize vs[k] = y at *
        clear hs hr
        by_cases hc0 : c = 0
        · subst hc0
          rw [if_pos rfl] at hr'
          go_wp2_with (go_at_call 45; refine hC.mono ?_; rintro e w' ⟨rfl, rfl⟩)
          go_roundw
          case rel => exact ⟨k + 1, by omega, by omega, by go_num, trivial, hr'⟩
          case measure => simp [RowKit.intOf]; omega
        · rw [if_neg hc0] at hr'
          subst hr'
          have hcb : (c == 0) = false := beq_eq_false_iff_ne.2 hc0
          go_wp2_with (go_at_call 45; refine hC.mono ?_; rintro e w' ⟨rfl, rfl⟩)
          go_ret
          exact ⟨rfl, rfl⟩
      · have q2 : (vs.length : Int) ≤ (k : Int) := by omega
        have hr' := hr.out
        rw [cmpU_end us vs k hk1 hk2 (by omega), if_neg (by omega), if_pos (by omega)] at hr'
        subst hr'
        clear hr
        unfold unitV at hx
        go_wp2
        go_ret
        exact ⟨rfl, rfl⟩
    · have q1 : ¬ (k : Int) < (us.length : Int) := by omega
      have hr' := hr.out
      rw [cmpU_end us vs k hk1 hk2 (by omega)] at hr'
      clear hr
      by_cases hle : us.length < vs.length
      · have q3 : (us.length : Int) < (vs.length : Int) := by omega
        rw [if_pos hle] at hr'
        subst hr'
        go_wp2
        go_ret
        exact ⟨rfl, rfl⟩
      · have q3 : ¬ (us.length : Int) < (vs.length : Int) := by omega
        rw [if_neg hle, if_neg (by omega)] at hr'
        subst hr'
        go_wp2
        go_ret
        exact ⟨rfl, rfl⟩

theorem ucmp_any (v1 v2 : Value) (us vs : List Nat) (w : World) (h1 : RdU w v1 us) (h2 : RdU w v2 vs) (hn1 : us.length ≤ 140737488355328) :
    Calls Try.prog 13 #[v1, v2] w fun e w' => e = .returned (.int .i64 (cmpU us vs)) ∧ w' = w := by
  have hC := scmp_any v1 v2 us vs w h1 h2 hn1
  go_enter Try.func13, Try.ntmps13
  go_wp2_with (go_at_call 34; refine hC.mono ?_; rintro e w' ⟨rfl, rfl⟩)
  go_ret
  exact ⟨rfl, rfl⟩

theorem rhigh_any (x : Nat) (w : World) : Calls Try.prog 29 #[unitV x] w fun e w' => e = .returned (.bool (hiB x)) ∧ w' = w := by
  unfold hiB unitV
  by_cases h1 : 55296 ≤ x
  · by_cases h2 : x < 56320
    · have g1 : (55296 : Int) ≤ (x : Int) := by omega
      have g2 : (x : Int) < 56320 := by omega
      rw [decide_eq_true ⟨h1, h2⟩]
      go_enter Try.func29, Try.ntmps29
      go_wp2
      go_ret
      exact ⟨rfl, rfl⟩
    · have g1 : (55296 : Int) ≤ (x : Int) := by omega
      have g2 : ¬ (x : Int) < 56320 := by omega
      rw [decide_eq_false (fun h => h2 h.2)]
      go_enter Try.func29, Try.ntmps29
      go_wp2
      go_ret
      exact ⟨rfl, rfl⟩
  · have g1 : ¬ (55296 : Int) ≤ (x : Int) := by omega
    rw [decide_eq_false (fun h => h1 h.1)]
    go_enter Try.func29, Try.ntmps29
    go_wp2
    go_ret
    exact ⟨rfl, rfl⟩
theorem rlow_any (x : Nat) (w : World) : Calls Try.prog 30 #[unitV x] w fun e w' => e = .returned (.bool (loB x)) ∧ w' = w := by
  unfold loB unitV
  by_cases h1 : 56320 ≤ x
  · by_cases h2 : x < 57344
    · have g1 : (56320 : Int) ≤ (x : Int) := by omega
      have g2 : (x : Int) < 57344 := by omega
      rw [decide_eq_true ⟨h1, h2⟩]
      go_enter Try.func30, Try.ntmps30
      go_wp2
      go_ret
      exact ⟨rfl, rfl⟩
    · have g1 : (56320 : Int) ≤ (x : Int) := by omega
      have g2 : ¬ (x : Int) < 57344 := by omega
      rw [decide_eq_false (fun h => h2 h.2)]
      go_enter Try.func30, Try.ntmps30
      go_wp2
      go_ret
      exact ⟨rfl, rfl⟩
  · have g1 : ¬ (56320 : Int) ≤ (x : Int) := by omega
    rw [decide_eq_false (fun h => h1 h.1)]
    go_enter Try.func30, Try.ntmps30
    go_wp2
    go_ret
    exact ⟨rfl, rfl⟩
end Go.Proofs.Ytipkdbhdpmkjcaa
