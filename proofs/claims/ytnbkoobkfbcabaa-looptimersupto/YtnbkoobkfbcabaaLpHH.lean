/- loop: the law LoopTimers. -/
import Derived.Test.YtnbkoobkfbcabaaLpGG
namespace Go.Proofs.Ytnbkoobkfbcabaa
open Go.RowKit Go.Lib Go.Shelf

/-- The timer that was answered before the j-th. -/
def befD (L : List AlD) : Nat → AlD
  | 0 => ⟨-1, 0, -1⟩
  | j + 1 => L.getD j ⟨-1, 0, -1⟩
theorem bef_ahead {ws : List Int} {n : Nat} {C : Nat → Bool} {x : Int} {l : List AlD} (h : DueL ws n C x l) {j : Nat} (hj : j < l.length) : Ahead (befD l j) l[j] := by
  obtain ⟨i, _, e, _, _, _, ha⟩ := due_step h hj
  cases j with
  | zero =>
    have : l[0].due = max (ws.getD i 0) 0 := by rw [e]; rfl
    exact .inl (by show (-1 : Int) < _; omega)
  | succ j =>
    have := ha (by omega)
    show Ahead (l.getD j _) _
    rw [List.getD_eq_getElem?_getD, List.getElem?_eq_getElem (by omega)]
    exact this
theorem bef_succ (L : List AlD) {j : Nat} (hj : j < L.length) : befD L (j + 1) = L[j] := by
  show L.getD j _ = _
  rw [List.getD_eq_getElem?_getD, List.getElem?_eq_getElem hj]
  rfl
theorem Solo.after {n0 : Nat} {Z : Nat → Prop} {W : World} {A : Nat} {s : LpD} (h : Solo n0 Z W A s) (hn : n0 ≤ W.heap.size) (hz : ∀ k, Z k → k < W.heap.size) (ho : OkD s) (hg : s.giv < 4611686018427387904) (ms i : Int) :
    Calls Try.prog 18 #[.pointer (some ⟨A, 0, none⟩), .int .i64 ms, .int .i64 0, .int .i64 i] W fun e w' => e = .returned (.tuple #[.int .i64 (afterN s ms 0), .int .i64 (afterE s ms 0)]) ∧ Hid (Solo n0 Z w' A (afterD s ms 0 i)) ∧ Hid (Kept n0 Z W w') :=
  h.call (fn := 18) (r := .tuple #[.int .i64 (afterN s ms 0), .int .i64 (afterE s ms 0)]) (s' := afterD s ms 0 i) hn hz (fun F' h' => after_any F' A s ms 0 i W h' ho hg)
theorem Solo.clear {n0 : Nat} {Z : Nat → Prop} {W : World} {A : Nat} {s : LpD} (h : Solo n0 Z W A s) (hn : n0 ≤ W.heap.size) (hz : ∀ k, Z k → k < W.heap.size) (ho : OkD s) (n : Int) :
    Calls Try.prog 19 #[.pointer (some ⟨A, 0, none⟩), .int .i64 n] W fun e w' => e = .returned (.bool (s.tms.any (isN n))) ∧ Hid (Solo n0 Z w' A (clearD s n)) ∧ Hid (Kept n0 Z W w') :=
  h.call (fn := 19) (r := .bool (s.tms.any (isN n))) (s' := clearD s n) hn hz (fun F' h' => clear_any F' A s n W h' (tot_small ho))
theorem Solo.adv {n0 : Nat} {Z : Nat → Prop} {W : World} {A : Nat} {s : LpD} (h : Solo n0 Z W A s) (hn : n0 ≤ W.heap.size) (hz : ∀ k, Z k → k < W.heap.size) (ho : OkD s) (ms : Int) :
    Calls Try.prog 20 #[.pointer (some ⟨A, 0, none⟩), .int .i64 ms] W fun e w' => e = .returned (.tuple #[.int .i64 (advN s ms : Nat), .int .i64 (advE s ms)]) ∧ Hid (Solo n0 Z w' A (advD s ms)) ∧ Hid (Kept n0 Z W w') :=
  h.call (fn := 20) (r := .tuple #[.int .i64 (advN s ms : Nat), .int .i64 (advE s ms)]) (s' := advD s ms) hn hz (fun F' h' => advance_any F' A s ms W h' ho.tot ho.srt ho.n0 ho.n1)
theorem Solo.next {n0 : Nat} {Z : Nat → Prop} {W : World} {A : Nat} {s : LpD} (h : Solo n0 Z W A s) (hn : n0 ≤ W.heap.size) (hz : ∀ k, Z k → k < W.heap.size) :
    Calls Try.prog 21 #[.pointer (some ⟨A, 0, none⟩), .int .i64 0] W fun e w' => e = .returned (turnV (nextD s 0).2) ∧ Hid (Solo n0 Z w' A (nextD s 0).1) ∧ Hid (Kept n0 Z W w') :=
  h.call (fn := 21) (r := turnV (nextD s 0).2) (s' := (nextD s 0).1) hn hz (fun F' h' => next_any F' A s 0 W h')
set_option maxRecDepth 100000 in
set_option maxHeartbeats 4000000 in
theorem loopTimers_law (v0 : Value) (ws : List Int) (v1 : Value) (gs : List Int) (x : Int) (W : World) (hr0 : RdI W v0 ws) (hl0 : ws.length ≤ 1048576) (hr1 : RdI W v1 gs) (hl1 : gs.length ≤ 1048576) :
    Calls Try.prog 6 #[v0, v1, .int .i64 x] W fun e w' => e = .returned (.bool true) ∧ Below W.heap.size W w' := by
  have hLi := hid (lives27_any W)
  obtain ⟨o0, cap0, rfl, hcap0, hg0⟩ := hr0
  obtain ⟨o1, cap1, rfl, hcap1, hg1⟩ := hr1
  have HG0 := hid hg0
  have HG1 := hid hg1
  have hmk := make_bools27 ws.length (by omega)
  clear hg0 hg1
  go_enter Try.func6, Try.ntmps6
  go_upto_region 3 with (go_at_call 8; refine hLi.out.mono ?_; rintro e w2 ⟨rfl, hb⟩; have H2 := hid hb; clear hb)
  go_upto_region 4 with (go_at_call 9; refine (new_any w2).mono ?_; rintro e u1 ⟨rfl, hb, hz, hq⟩; have HN1 := hid (And.intro hb hq); clear hb hz hq)
  have HB0 : Hid (Below W.heap.size W u1) := H2.out.trans (HN1.out.1.mono H2.out.size)
  have HP0 : Hid (Solo W.heap.size (fun _ => False) u1 w2.heap.size newD) := ⟨_, HN1.out.2, fun k hk => ⟨by have := H2.out.size; omega, fun h => h⟩⟩
  clear HN1 H2 hLi
  generalize w2.heap.size = A at *
  go_upto_region 5 with fail
  go_loopw [30] (fun t wr => ∃ (k : Nat) (s : LpD), k ≤ ws.length ∧ t = .int .i64 k ∧ Hid (TmS ws k (fun _ => false) s ∧ s.giv = (k : Int) ∧ s.tms.length = k) ∧ Hid (Solo W.heap.size (fun _ => False) wr A s) ∧ Hid (Below W.heap.size W wr)) (fun t _ => ws.length - (RowKit.intOf t).toNat)
  case atStart => exact ⟨0, newD, Nat.zero_le _, rfl, ⟨tms_new ws, rfl, rfl⟩, HP0, HB0⟩
  case round =>
    obtain ⟨k, s, hk, rfl, hS, hP, hB⟩ := hrel
    by_cases hlt : k < ws.length
    · obtain ⟨b, off, rfl, hbl, ha⟩ := HG0.out (by omega)
      have hst := (hB.out.cell (p := ⟨b, off + k, none⟩) hbl).trans (ha k hlt)
      have HA := hid (hP.out.after hB.out.size (fun _ h => h.elim) hS.out.1.ok (by have := hS.out.2.1; omega) ws[k] (k : Int))
      have HE := hid (after_word hS.out.1 ws[k])
      have HT := hid (fun (h1 : ws[k] ≤ 1125899906842624) (h2 : k < 4096) => after_tms hS.out.1 hS.out.2.1 hS.out.2.2 hlt h1 h2)
      have q1 : (0 : Int) ≤ (k : Int) := by omega
      have q2 : (k : Int) < (ws.length : Int) := by omega
      have hN : afterN s ws[k] 0 = if afterE s ws[k] 0 = 0 then (k : Int) + 1 else 0 := by unfold afterN; rw [hS.out.2.1]
      have HSl := hid hS.out.2.2
      rw [HSl.out] at HE
      clear ha hP hS
      generalize afterD s ws[k] 0 (k : Int) = S2 at *
      rw [hN] at HA
      clear hN
      rw [HE.out] at HA
      clear HE HSl
      generalize ws[k] = m at *
      by_cases hm : 1125899906842624 < m
      · have d1 : decide (m > 1125899906842624) = true := decide_eq_true hm
        rw [if_pos hm, if_neg (by omega)] at HA
        clear HT
        go_wp2_with (go_at_call 18; refine HA.out.mono ?_; rintro e w3 ⟨rfl, _, HK3⟩)
        go_ret
        exact ⟨rfl, hB.out.trans HK3.out.bel⟩
      · rw [if_neg hm] at HA
        by_cases h4 : 4096 ≤ k
        · have d1 : decide ((k : Int) ≥ 4096) = true := decide_eq_true (by omega)
          rw [if_pos h4, if_neg (by omega)] at HA
          clear HT
          go_wp2_with (go_at_call 18; refine HA.out.mono ?_; rintro e w3 ⟨rfl, _, HK3⟩)
          go_ret
          exact ⟨rfl, hB.out.trans HK3.out.bel⟩
        · rw [if_neg h4, if_pos rfl] at HA
          have HS2 := hid (HT.out (by omega) (by omega))
          clear HT
          go_wp2_with (go_at_call 18; refine HA.out.mono ?_; rintro e w3 ⟨rfl, HP3, HK3⟩; have HB3 : Hid (Below W.heap.size W w3) := hid (hB.out.trans HK3.out.bel))
          go_roundw
          case rel => exact ⟨k + 1, S2, by omega, by go_num, HS2, HP3, HB3⟩
          case measure => simp [RowKit.intOf]; omega
    · have hkn : k = ws.length := by omega
      subst hkn
      have HBl := hid (bls_made wr ws.length)
      have HNB := hid hB.out.size
      have HP1 : Hid (Solo W.heap.size (fun j => j = wr.heap.size) (wr.alloc (.cells (madeCells #[.bool false] ws.length) 4)) A s) := hid (hP.out.more _)
      have HB1 : Hid (Below W.heap.size W (wr.alloc (.cells (madeCells #[.bool false] ws.length) 4))) := hid (hB.out.alloc hB.out.size _)
      have HS1 : Hid (TmS ws ws.length (fun _ => false) s) := hS.out.1
      clear hP hB hS
      go_upto_region 14 with fail
      generalize wr.alloc (.cells (madeCells #[.bool false] ws.length) 4) = W1 at *
      generalize wr.heap.size = b1 at *
      clear hmk
      go_upto_region 15 with fail
      go_loopw [68] (fun t wr => ∃ (k : Nat) (C : Nat → Bool) (s : LpD), k ≤ gs.length ∧ t = .int .i64 k ∧ Hid (TmS ws ws.length C s) ∧ Hid (Solo W.heap.size (fun j => j = b1) wr A s) ∧ Hid (BlsAt wr b1 ws.length C) ∧ Hid (Below W.heap.size W wr)) (fun t _ => gs.length - (RowKit.intOf t).toNat)
      case atStart => exact ⟨0, _, s, Nat.zero_le _, rfl, HS1, HP1, HBl, HB1⟩
      case round =>
        obtain ⟨k, C, s, hk, rfl, hS, hP, hC, hB⟩ := hrel
        by_cases hlt : k < gs.length
        · obtain ⟨b, off, rfl, hbl, ha⟩ := HG1.out (by omega)
          have hst := (hB.out.cell (p := ⟨b, off + k, none⟩) hbl).trans (ha k hlt)
          have q1 : (0 : Int) ≤ (k : Int) := by omega
          have q2 : (k : Int) < (gs.length : Int) := by omega
          have HA := hid (hP.out.clear hB.out.size (by rintro _ rfl; exact hC.out.lt) hS.out.ok gs[k])
          have hany := tm_any hS.out.tm gs[k]
          have HAny := hid hany
          rw [hany] at HA
          clear hany ha HS1 HP1 HBl HB1
          generalize gs[k] = g at *
          by_cases h1 : 1 ≤ g
          · by_cases h2 : g ≤ (ws.length : Int)
            · obtain ⟨j, rfl, hj⟩ : ∃ j : Nat, g = (j : Int) + 1 ∧ j < ws.length := ⟨(g - 1).toNat, by omega, by omega⟩
              have hcell := hC.out.cell hj
              have hfz := hC.out.fz j
              have d1 : decide ((j : Int) + 1 ≥ 1) = true := decide_eq_true (by omega)
              have d2 : decide ((j : Int) + 1 ≤ (ws.length : Int)) = true := decide_eq_true h2
              have q3 : (0 : Int) ≤ (j : Int) := by omega
              have q4 : (j : Int) < (ws.length : Int) := by omega
              rw [decide_eq_true h1, d2, show ((j : Int) + 1 - 1).toNat = j by omega] at HA HAny
              cases hc : C j with
              | true =>
                rw [hc] at HA HAny hcell
                have HS2 := hid (clear_same hS.out HAny.out)
                have HB2 := hid (fun w3 (h : Hid (Kept W.heap.size (fun j => j = b1) wr w3)) => And.intro (hC.out.kept h.out) (hB.out.trans h.out.bel))
                clear HAny hP hC hS
                go_wp2_with (go_at_call 19; refine HA.out.mono ?_; rintro e w3 ⟨rfl, HP3, HK3⟩)
                go_roundw
                case rel => exact ⟨k + 1, C, _, by omega, by go_num, HS2, HP3, (HB2.out _ HK3).1, (HB2.out _ HK3).2⟩
                case measure => simp [RowKit.intOf]; omega
              | false =>
                rw [hc] at HA HAny hcell
                have HS2 := hid (clear_tms hS.out j)
                have HB2 := hid (fun w3 (h : Hid (Kept W.heap.size (fun j => j = b1) wr w3)) => And.intro (hC.out.kept h.out) (hB.out.trans h.out.bel))
                clear HAny hP hC hS
                go_wp2_with (go_at_call 19; refine HA.out.mono ?_; rintro e w3 ⟨rfl, HP3, HK3⟩; have hc3 := (HB2.out _ HK3).1.cell hj; rw [hc] at hc3; have hz3 := (HB2.out _ HK3).1.fz j)
                go_roundw
                case rel => exact ⟨k + 1, mark C j, _, by omega, by go_num, HS2, HP3.out.store, (HB2.out _ HK3).1.set j, (HB2.out _ HK3).2.setCell (p := ⟨b1, j, none⟩) HNB.out _⟩
                case measure => simp [RowKit.intOf]; omega
            · have d1 : decide (g ≥ 1) = true := decide_eq_true h1
              have d2 : decide (g ≤ (ws.length : Int)) = false := decide_eq_false h2
              rw [decide_eq_true h1, d2] at HA HAny
              have HS2 := hid (clear_same hS.out HAny.out)
              have HB2 := hid (fun w3 (h : Hid (Kept W.heap.size (fun j => j = b1) wr w3)) => And.intro (hC.out.kept h.out) (hB.out.trans h.out.bel))
              clear HAny hP hC hS
              go_wp2_with (go_at_call 19; refine HA.out.mono ?_; rintro e w3 ⟨rfl, HP3, HK3⟩)
              go_roundw
              case rel => exact ⟨k + 1, C, _, by omega, by go_num, HS2, HP3, (HB2.out _ HK3).1, (HB2.out _ HK3).2⟩
              case measure => simp [RowKit.intOf]; omega
          · have d1 : decide (g ≥ 1) = false := decide_eq_false h1
            rw [decide_eq_false h1] at HA HAny
            have HS2 := hid (clear_same hS.out HAny.out)
            have HB2 := hid (fun w3 (h : Hid (Kept W.heap.size (fun j => j = b1) wr w3)) => And.intro (hC.out.kept h.out) (hB.out.trans h.out.bel))
            clear HAny hP hC hS
            go_wp2_with (go_at_call 19; refine HA.out.mono ?_; rintro e w3 ⟨rfl, HP3, HK3⟩)
            go_roundw
            case rel => exact ⟨k + 1, C, _, by omega, by go_num, HS2, HP3, (HB2.out _ HK3).1, (HB2.out _ HK3).2⟩
            case measure => simp [RowKit.intOf]; omega
        · have hkn : k = gs.length := by omega
          subst hkn
          have HA := hid (hP.out.adv hB.out.size (by rintro _ rfl; exact hC.out.lt) hS.out.ok x)
          have HE := hid (adv_word hS.out x)
          have HO := hid (fun h => adv_only (x := x) hS.out h)
          have HDue := hid (due_tms hS.out x)
          have HLl : Hid ((dueL s x).length ≤ 4096) := hid (by have h1 := hS.out.ok.tot; have h2 := only_tot hS.out.only; unfold dueL; rw [List.length_take]; omega)
          have HB2 := hid (fun w3 (h : Hid (Kept W.heap.size (fun j => j = b1) wr w3)) => And.intro (hC.out.kept h.out) (hB.out.trans h.out.bel))
          clear HS1 HP1 HBl HB1 hP hC hS HG1
          by_cases hx : x < 0 ∨ 1125899906842624 < x
          · have hN : (advN s x : Nat) = 0 := by
              unfold advN
              rw [HE.out, if_pos hx]
              rfl
            rw [hN, HE.out, if_pos hx] at HA
            clear HE HO HDue hN
            by_cases hx0 : x < 0
            · have d1 : decide (x < 0) = true := decide_eq_true hx0
              go_wp2_with (go_at_call 20; refine HA.out.mono ?_; rintro e w3 ⟨rfl, _, HK3⟩)
              go_ret
              exact ⟨rfl, (HB2.out _ HK3).2⟩
            · have d1 : decide (x < 0) = false := decide_eq_false hx0
              have d2 : decide (x > 1125899906842624) = true := decide_eq_true (by omega)
              go_wp2_with (go_at_call 20; refine HA.out.mono ?_; rintro e w3 ⟨rfl, _, HK3⟩)
              go_ret
              exact ⟨rfl, (HB2.out _ HK3).2⟩
          · have hE0 : advE s x = 0 := by rw [HE.out, if_neg hx]
            have HO2 := hid (HO.out hE0)
            have hLl := HLl.out
            rw [HO2.out.2, hE0] at HA
            generalize dueL s x = L at *
            generalize advD s x = S2 at *
            clear HE HO hE0
            go_upto_region 24 with (go_at_call 20; refine HA.out.mono ?_; rintro e w3 ⟨rfl, HP3, HK3⟩)
            have HC3 := hid ((HB2.out _ HK3).1)
            have HB3 := hid ((HB2.out _ HK3).2)
            clear HB2 HK3 HA hB
            go_upto_region 28 with fail
            go_loopw [20, 18, 19] (fun t u v wr => ∃ (j : Nat) (s : LpD), j ≤ L.length ∧ t = .int .i64 j ∧ u = .int .i64 (befD L j).due ∧ v = .int .i64 (befD L j).id ∧ Hid (Only s ((L.drop j).map AlD.id)) ∧ Hid (Solo W.heap.size (fun j => j = b1) wr A s) ∧ Hid (BlsAt wr b1 ws.length (doneC C (L.take j))) ∧ Hid (Below W.heap.size W wr)) (fun t _ _ _ => L.length - (RowKit.intOf t).toNat)
            case atStart => exact ⟨0, S2, Nat.zero_le _, rfl, rfl, rfl, HO2.out.1, HP3, HC3.out.ext (fun i _ => (done_nil C i).symm), HB3⟩
            case round =>
              obtain ⟨j, s, hj, rfl, rfl, rfl, hO, hP, hC, hB⟩ := hrel
              by_cases hlt : j < L.length
              · obtain ⟨i, hi, e, hdc, hdue, hmark, _⟩ := due_step HDue.out hlt
                have hah := bef_ahead HDue.out hlt
                obtain ⟨b, off, rfl, hbl, ha⟩ := HG0.out (by omega)
                have HM := hid hmark
                have HBS := hid (bef_succ L hlt)
                have hid1 : L[j].id = (i : Int) := by rw [e]; rfl
                have hdu1 : L[j].due = max ws[i] 0 := by rw [e]; show max (ws.getD i 0) 0 = _; rw [List.getD_eq_getElem?_getD, List.getElem?_eq_getElem hi]; rfl
                have hO1 : Only s ((i : Int) :: (L.drop (j + 1)).map AlD.id) := by
                  have := hO.out
                  rw [List.drop_eq_getElem_cons hlt, List.map_cons, hid1] at this
                  exact this
                obtain ⟨n1, n2, _⟩ := only_next s _ _ hO1
                have HA := hid (hP.out.next hB.out.size (by rintro _ rfl; exact hC.out.lt))
                rw [n1] at HA
                have HO5 := hid n2
                have HW := hid (fun w3 o (h : Hid (Kept W.heap.size (fun j => j = b1) wr w3)) => (show BlsAt (w3.alloc o) b1 ws.length (doneC C (L.take j)) ∧ (Below W.heap.size W (w3.alloc o)) ∧ b1 < w3.heap.size from
                  ⟨(hC.out.kept h.out).later ((Below.refl _ _).alloc (Nat.le_refl _) _), (hB.out.trans h.out.bel).alloc (by have := hB.out.size; have := h.out.bel.size; omega) _, by have := hC.out.lt; have := h.out.bel.size; omega⟩))
                have q1 : (0 : Int) ≤ (j : Int) := by omega
                have q2 : decide ((j : Int) < (L.length : Int)) = true := decide_eq_true (by omega)
                have q3 : (0 : Int) ≤ (i : Int) := by omega
                have q4 : (i : Int) < (ws.length : Int) := by omega
                have d3 : decide ((i : Int) < 0) = false := decide_eq_false (by omega)
                have d4 : decide ((i : Int) ≥ (ws.length : Int)) = false := decide_eq_false (by omega)
                have hai := ha i hi
                have HI := hid hi
                have HDC := hid hdc
                have HBD : Hid ((befD L (j + 1)).due = max ws[i] 0 ∧ (befD L (j + 1)).id = (i : Int)) := ⟨by rw [HBS.out]; exact hdu1, by rw [HBS.out]; exact hid1⟩
                unfold Ahead at hah
                rw [hdu1, hid1] at hah
                rw [hdu1] at hdue
                clear n1 n2 hO hO1 hP hC hmark e ha HO2 HP3 HC3 HB3 HBS hid1 hdu1 hdc
                generalize (befD L j).due = la at *
                generalize (befD L j).id = lt at *
                generalize (nextD s 0).1 = S5 at *
                generalize ws[i] = m at *
                have d5 : decide (max m 0 > x) = false := decide_eq_false (by omega)
                have d6 : decide (max m 0 < la) = false := decide_eq_false (by omega)
                unfold turnV at HA
                dsimp only at HA
                go_upto_region 31 with (go_at_call 21; refine HA.out.mono ?_; rintro e w4 ⟨rfl, HP4, HK4⟩)
                have HP5 : Hid (Solo W.heap.size (fun j => j = b1) (w4.alloc (.cells #[.int .u8 2, .int .i64 0, .int .i64 i] 37)) A S5) := hid (HP4.out.later ((Below.refl _ _).alloc (Nat.le_refl _) _))
                have h9 := HW.out w4 (.cells #[.int .u8 2, .int .i64 0, .int .i64 i] 37) HK4
                have HC5 := hid h9.1
                have HB5 := hid h9.2.1
                have hx5 := heap_new w4 (.cells #[.int .u8 2, .int .i64 0, .int .i64 i] 37)
                have HLB : Hid (w4.heap.size ≠ b1) := hid (by have := h9.2.2; omega)
                generalize w4.alloc (.cells #[.int .u8 2, .int .i64 0, .int .i64 i] 37) = W5 at *
                generalize w4.heap.size = g5 at *
                have x0 := (cell_of_heap hx5 0).trans rfl
                have x1 := (cell_of_heap hx5 1).trans rfl
                have x2 := (cell_of_heap hx5 2).trans rfl
                have y1 := HC5.out.cell HI.out
                rw [HDC.out] at y1
                have y2 := HC5.out.fz i
                have z1 := (HB5.out.cell (p := ⟨b, off + i, none⟩) hbl).trans hai
                have HX2 : Hid ((W5.setCell ⟨b1, i, none⟩ (.bool true)).cell? ⟨g5, 2, none⟩ = some (.int .i64 i)) := hid ((World.cell?_of_block (w := W5) (w' := W5.setCell ⟨b1, i, none⟩ (.bool true)) (a := ⟨g5, 2, none⟩) (Below.heap_setCell _ _ _ g5 HLB.out)).trans x2)
                have HC6 : Hid (BlsAt (W5.setCell ⟨b1, i, none⟩ (.bool true)) b1 ws.length (doneC C (L.take (j + 1)))) := hid ((HC5.out.set i).ext HM.out)
                have HP6 : Hid (Solo W.heap.size (fun j => j = b1) (W5.setCell ⟨b1, i, none⟩ (.bool true)) A S5) := hid HP5.out.store
                have HB6 : Hid (Below W.heap.size W (W5.setCell ⟨b1, i, none⟩ (.bool true))) := hid (HB5.out.setCell (p := ⟨b1, i, none⟩) HNB.out _)
                clear h9 hx5 HP4 HK4 HA HW hB HC5 HP5 HB5 HLB HM
                by_cases hq : max m 0 = la
                · have d7 : decide (max m 0 = la) = true := decide_eq_true hq
                  have d8 : decide ((i : Int) < lt) = false := decide_eq_false (by omega)
                  have HL2 : Hid (la = (befD L (j + 1)).due) := hid (by rw [HBD.out.1, hq])
                  go_upto_region 37 with fail
                  have x3 := HX2.out
                  clear HX2
                  generalize W5.setCell ⟨b1, i, none⟩ (.bool true) = W6 at *
                  have HP7 : Hid (Solo W.heap.size (fun j => j = b1) W6.drew A S5) := hid (HP6.out.later (Below.refl _ _).drew)
                  have HC7 : Hid (BlsAt W6.drew b1 ws.length (doneC C (L.take (j + 1)))) := hid (HC6.out.later (Below.refl _ _).drew)
                  have HB7 : Hid (Below W.heap.size W W6.drew) := hid HB6.out.drew
                  clear x0 x1 x2 y1 y2 z1 hq d7 d8
                  go_region
                  all_goals
                    go_wp2
                    go_roundw
                    case rel => exact ⟨j + 1, S5, by omega, by go_num, by rw [HL2.out], by rw [HBD.out.2], HO5, HP7, HC7, HB7⟩
                    case measure => simp [RowKit.intOf]; omega
                · have d7 : decide (max m 0 = la) = false := decide_eq_false hq
                  have HL2 : Hid (max m 0 = (befD L (j + 1)).due) := hid HBD.out.1.symm
                  go_upto_region 37 with fail
                  have x3 := HX2.out
                  clear HX2
                  generalize W5.setCell ⟨b1, i, none⟩ (.bool true) = W6 at *
                  have HP7 : Hid (Solo W.heap.size (fun j => j = b1) W6.drew A S5) := hid (HP6.out.later (Below.refl _ _).drew)
                  have HC7 : Hid (BlsAt W6.drew b1 ws.length (doneC C (L.take (j + 1)))) := hid (HC6.out.later (Below.refl _ _).drew)
                  have HB7 : Hid (Below W.heap.size W W6.drew) := hid HB6.out.drew
                  clear x0 x1 x2 y1 y2 z1 hq d7
                  go_region
                  all_goals
                    go_wp2
                    go_roundw
                    case rel => exact ⟨j + 1, S5, by omega, by go_num, by rw [HL2.out], by rw [HBD.out.2], HO5, HP7, HC7, HB7⟩
                    case measure => simp [RowKit.intOf]; omega
              · have hjl : j = L.length := by omega
                subst hjl
                have hO0 : Only s [] := by
                  have := hO.out
                  rw [List.drop_length] at this
                  exact this
                have HC7 : Hid (BlsAt wr b1 ws.length (doneC C L)) := hid (by
                  have := hC.out
                  rw [List.take_length] at this
                  exact this)
                have HA := hid (hP.out.next hB.out.size (by rintro _ rfl; exact hC.out.lt))
                rw [only_none s hO0] at HA
                have HEnd := hid (fun i (h1 : i < ws.length) (h2 : doneC C L i = false) => due_end HDue.out h1 h2)
                have q2 : decide ((L.length : Int) < (L.length : Int)) = false := decide_eq_false (by omega)
                clear hO hO0 hP hC HO2 HP3 HC3 HB3 HDue
                go_upto_region 39 with fail
                go_loopw [185] (fun t wx => ∃ k : Nat, k ≤ ws.length ∧ t = .int .i64 k ∧ wr = wx) (fun t _ => ws.length - (RowKit.intOf t).toNat)
                case atStart => exact ⟨0, Nat.zero_le _, rfl, rfl⟩
                case round =>
                  obtain ⟨k, hk, rfl, rfl⟩ := hrel
                  by_cases hlt : k < ws.length
                  · obtain ⟨b, off, rfl, hbl, ha⟩ := HG0.out (by omega)
                    have hst := (hB.out.cell (p := ⟨b, off + k, none⟩) hbl).trans (ha k hlt)
                    have hcell := HC7.out.cell hlt
                    have q1 : (0 : Int) ≤ (k : Int) := by omega
                    have q3 : (k : Int) < (ws.length : Int) := by omega
                    have HE := hid (fun h => HEnd.out k hlt h)
                    have HGet : Hid (ws.getD k 0 = ws[k]) := hid (by rw [List.getD_eq_getElem?_getD, List.getElem?_eq_getElem hlt]; rfl)
                    rw [HGet.out] at HE
                    clear ha HA HGet
                    generalize ws[k] = m at *
                    cases hc : doneC C L k with
                    | true =>
                      rw [hc] at hcell
                      go_wp2
                      go_roundw
                      case rel => exact ⟨k + 1, by omega, by go_num, trivial⟩
                      case measure => simp [RowKit.intOf]; omega
                    | false =>
                      rw [hc] at hcell
                      have hx0 := HE.out hc
                      have d1 : decide (max m 0 ≤ x) = false := decide_eq_false (by omega)
                      go_wp2
                      go_roundw
                      case rel => exact ⟨k + 1, by omega, by go_num, trivial⟩
                      case measure => simp [RowKit.intOf]; omega
                  · have hkn : k = ws.length := by omega
                    subst hkn
                    unfold turnV noTurn at HA
                    dsimp only at HA
                    have HB2 := hid (fun w9 (h : Hid (Kept W.heap.size (fun j => j = b1) wr w9)) => hB.out.trans h.out.bel)
                    clear HC7 HEnd hB HG0
                    go_wp2_with (go_at_call 21; refine HA.out.mono ?_; rintro e w9 ⟨rfl, _, HK9⟩)
                    go_ret
                    exact ⟨rfl, HB2.out _ HK9⟩
end Go.Proofs.Ytnbkoobkfbcabaa
