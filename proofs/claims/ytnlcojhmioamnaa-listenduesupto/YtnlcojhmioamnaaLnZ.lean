/- The reference of listen: Due. -/
import Derived.Test.YtnlcojhmioamnaaLnI
import Derived.Test.YtnlcojhmioamnaaLnY
namespace Go.Proofs.Ytnlcojhmioamnaa
open Go.RowKit Go.Lib Go.Shelf

set_option maxRecDepth 100000 in
set_option maxHeartbeats 4000000 in
theorem refDue_bad (v : Value) (ls : List LstD) (next n : Int) (k : ByteArray) (ph : Nat) (capt : Bool) (w : World) (hr : RdL w v ls) (hl : ls.length ≤ 1099511627775) (hc : checkD ls next = false) :
    Calls Try.prog 23 #[.agg #[v, .int .i64 next], .int .i64 n, .string k, .int .u8 (ph : Int), .bool capt] w fun e w' => e = .returned (.tuple #[.slice none 0 0, .int .i64 2]) ∧ Below w.heap.size w w' := by
  have hb : Below w.heap.size w (w.alloc (.cells #[v, .int .i64 next] 24)) := (Below.refl _ w).alloc (Nat.le_refl _) _
  have hC := refCheck_any v ls next _ (hr.later hb) (by omega)
  rw [hc] at hC
  replace hC : Calls _ _ _ _ fun e w' => e = .returned (.int .i64 2) ∧ _ := hC
  obtain ⟨o, cap, rfl, _, _⟩ := hr
  have HB := hid hb
  clear hb hc
  go_enter Try.func23, Try.ntmps23
  go_wp2_with (go_at_call 13; refine hC.mono ?_; rintro e w2 ⟨rfl, hb⟩; have HB2 := hid (HB.out.trans (hb.mono HB.out.size)); clear hb)
  go_ret2
  exact ⟨rfl, HB2.out⟩
set_option maxRecDepth 100000 in
set_option maxHeartbeats 4000000 in
theorem refDue_type (v : Value) (ls : List LstD) (next n : Int) (k : ByteArray) (ph : Nat) (capt : Bool) (w : World) (hr : RdL w v ls) (hl : ls.length ≤ 1099511627775) (hc : checkD ls next = true) (hp : phaseD ph = false) :
    Calls Try.prog 23 #[.agg #[v, .int .i64 next], .int .i64 n, .string k, .int .u8 (ph : Int), .bool capt] w fun e w' => e = .returned (.tuple #[.slice none 0 0, .int .i64 23]) ∧ Below w.heap.size w w' := by
  have hb : Below w.heap.size w (w.alloc (.cells #[v, .int .i64 next] 24)) := (Below.refl _ w).alloc (Nat.le_refl _) _
  have hC := refCheck_any v ls next _ (hr.later hb) (by omega)
  rw [hc] at hC
  replace hC : Calls _ _ _ _ fun e w' => e = .returned (.int .i64 0) ∧ _ := hC
  unfold phaseD at hp
  simp only [Bool.or_eq_false_iff, beq_eq_false_iff_ne, ne_eq] at hp
  have p1 : decide ((ph : Int) < 1) = true ∨ (decide ((ph : Int) < 1) = false ∧ decide ((ph : Int) > 3) = true) := by
    by_cases h : ph < 1
    · exact .inl (decide_eq_true (by omega))
    · exact .inr ⟨decide_eq_false (by omega), decide_eq_true (by omega)⟩
  obtain ⟨o, cap, rfl, _, _⟩ := hr
  have HB := hid hb
  clear hb hc hp
  rcases p1 with p1 | ⟨p1, p2⟩
  all_goals
    go_enter Try.func23, Try.ntmps23
    go_wp2_with (go_at_call 13; refine hC.mono ?_; rintro e w2 ⟨rfl, hb⟩; have HB2 := hid (HB.out.trans (hb.mono HB.out.size)); clear hb)
    go_ret2
    exact ⟨rfl, HB2.out⟩
set_option maxRecDepth 100000 in
set_option maxHeartbeats 4000000 in
theorem refDue_ok (v : Value) (ls : List LstD) (next n : Int) (k : ByteArray) (ph : Nat) (capt : Bool) (w : World) (hr : RdL w v ls) (hl : ls.length ≤ 1099511627775) (hc : checkD ls next = true) (hp : phaseD ph = true) :
    Calls Try.prog 23 #[.agg #[v, .int .i64 next], .int .i64 n, .string k, .int .u8 (ph : Int), .bool capt] w fun e w' => ∃ o c, e = .returned (.tuple #[.slice o (dueL ls n k (dueCap ph capt)).length c, .int .i64 0]) ∧ w'.ownsRow w.heap.size 3 1 (.slice o (dueL ls n k (dueCap ph capt)).length c) (dueL ls n k (dueCap ph capt)).length ((dueL ls n k (dueCap ph capt)).map (Value.int .i64)) ∧ Below w.heap.size w w' := by
  have hb : Below w.heap.size w (w.alloc (.cells #[v, .int .i64 next] 24)) := (Below.refl _ w).alloc (Nat.le_refl _) _
  have hC := refCheck_any v ls next _ (hr.later hb) (by omega)
  rw [hc] at hC
  replace hC : Calls _ _ _ _ fun e w' => e = .returned (.int .i64 0) ∧ _ := hC
  have hbx := heap_new w (.cells #[v, .int .i64 next] 24)
  obtain ⟨C, hCc⟩ : ∃ C, dueCap ph capt = C := ⟨_, rfl⟩
  rw [hCc]
  obtain ⟨D, hD⟩ : ∃ D, dueL ls n k C = D := ⟨_, rfl⟩
  rw [hD]
  have HD := hid hD
  obtain ⟨o, cap, rfl, hcap, g⟩ := hr
  have HB := hid hb
  have HBx := hid hbx
  have G := hid g
  unfold phaseD at hp
  unfold dueCap at hCc
  clear hb hc hbx hD g
  have hph : (ph = 1 ∧ true = C) ∨ (ph = 3 ∧ false = C) ∨ (ph = 2 ∧ capt = C) := by
    by_cases h1 : ph = 1
    · subst h1; exact .inl ⟨rfl, hCc⟩
    · by_cases h3 : ph = 3
      · subst h3; exact .inr (.inl ⟨rfl, hCc⟩)
      · have e1 : (ph == 1) = false := beq_eq_false_iff_ne.2 h1
        have e3 : (ph == 3) = false := beq_eq_false_iff_ne.2 h3
        rw [e1, e3, Bool.false_or, Bool.false_or, beq_iff_eq] at hp
        rw [e1, e3] at hCc
        exact .inr (.inr ⟨hp, hCc⟩)
  clear hp hCc
  rcases hph with ⟨rfl, rfl⟩ | ⟨rfl, rfl⟩ | ⟨rfl, rfl⟩
  case' inr.inr => cases capt
  · go_enter Try.func23, Try.ntmps23
    go_wp2_with (go_at_call 13; refine hC.mono ?_; rintro e w3 ⟨rfl, hb⟩; have HB3 := hid (HB.out.trans (hb.mono HB.out.size)); obtain ⟨b0, b1, b2, b3⟩ := box_cells (blkLater hb HBx.out); clear hb)
    clear hC HBx
    go_loopw [34, 12] (fun t u wr => ∃ (j : Nat) (o2 : Option Addr) (c2 : Nat) (DD : List Int), j ≤ ls.length ∧ t = .int .i64 j ∧ u = .slice o2 DD.length c2 ∧ Hid (DD = dueL (ls.take j) n k false) ∧ Hid (wr.ownsRow w3.heap.size 3 1 (.slice o2 DD.length c2) DD.length (DD.map (Value.int .i64))) ∧ Hid (Below w3.heap.size w3 wr)) (fun t _ _ => ls.length - (RowKit.intOf t).toNat)
    case atStart => exact ⟨0, none, 0, [], Nat.zero_le _, rfl, rfl, rfl, own_nil _ _ _, Below.refl _ _⟩
    case round =>
      obtain ⟨j, o2, c2, DD, hj, rfl, rfl, hDD, hO, hBB⟩ := hrel
      by_cases hlt : j < ls.length
      · obtain ⟨b, off, rfl, hlt1, ha⟩ := G.out (by omega)
        obtain ⟨x0, x1, x2, x3, x4, x5, x6, x7⟩ := (ha j hlt).later hlt1 (HB3.out.trans (hBB.out.mono HB3.out.size))
        have q1 : (0 : Int) ≤ (j : Int) := by omega
        have q2 : (j : Int) < (ls.length : Int) := by omega
        have hds := due_step ls n k false j hlt
        rw [← hDD.out] at hds
        have Hds := hid hds
        have hdl : DD.length + 1 ≤ 1099511627776 := by
          rw [hDD.out]
          unfold dueL
          rw [List.length_map]
          have := List.length_filter_le (dueP n k false) (ls.take j)
          rw [List.length_take] at this
          omega
        clear ha G hds hDD
        generalize ls[j] = x at *
        have hb1 : Below wr.heap.size wr (wr.alloc (lstO x)) := (Below.refl _ wr).alloc (Nat.le_refl _) _
        have hBB1 := hBB.out.trans (hb1.mono hBB.out.size)
        have hO1 := own_later hO.out hb1
        obtain ⟨y0, y1, y2, y3, y4, y5, y6, y7⟩ := lst_cells (heap_new wr (lstO x))
        have HAp : Hid (∃ o4 c4 V4, _) := run_appendI (wr.alloc (lstO x)) w3.heap.size o2 c2 DD x.id hO1 hBB1.size hdl
        rw [World.size_alloc] at HAp
        have HO1 := hid hO1
        have HBB1 := hid hBB1
        clear hO hBB hb1 hBB1 hO1 hdl
        unfold dueP atD at Hds
        obtain ⟨xi, xn, xk, xc, xp, xo, xs, xg⟩ := x
        unfold lstO at *
        dsimp only at *
        cases h1 : (xn == n) with
        | false =>
          rw [h1, Bool.false_and, Bool.false_and, if_neg Bool.false_ne_true, List.append_nil] at Hds
          clear HAp
          go_wp2
          go_roundw
          case rel => exact ⟨j + 1, o2, c2, DD, by omega, by go_num, rfl, Hds.out.symm, HO1, HBB1⟩
          case measure => simp [RowKit.intOf]; omega
        | true =>
          cases h2 : (xk.toList == k.toList) with
          | false =>
            rw [h1, h2, Bool.and_false, Bool.false_and, if_neg Bool.false_ne_true, List.append_nil] at Hds
            clear HAp
            go_wp2
            go_roundw
            case rel => exact ⟨j + 1, o2, c2, DD, by omega, by go_num, rfl, Hds.out.symm, HO1, HBB1⟩
            case measure => simp [RowKit.intOf]; omega
          | true =>
            rw [h1, h2, Bool.and_self, Bool.true_and] at Hds
            cases xp with
            | true =>
              rw [if_neg (by decide), List.append_nil] at Hds
              clear HAp
              go_wp2
              go_roundw
              case rel => exact ⟨j + 1, o2, c2, DD, by omega, by go_num, rfl, Hds.out.symm, HO1, HBB1⟩
              case measure => simp [RowKit.intOf]; omega
            | false =>
              rw [if_pos (by decide)] at Hds
              obtain ⟨o4, c4, V4, hap, hown4, hbl4⟩ := HAp.out
              have HA4 := hid hap
              have HO4 := hid hown4
              have HBL := hid hbl4
              clear hap hown4 hbl4 HAp
              go_wp2_with (at_builtin; refine wpList_append_run _ rfl _ _ 43 43 rfl _ _ rfl rfl _ _ HA4.out ?_)
              go_roundw
              case rel => exact ⟨j + 1, o4, c4, DD ++ [xi], by omega, by go_num, by rw [List.length_append]; rfl, Hds.out.symm, HO4, HBB1.out.trans HBL.out⟩
              case measure => simp [RowKit.intOf]; omega
      · have hDk : DD = D := by
          rw [hDD.out, List.take_of_length_le (by omega), HD.out]
        subst hDk
        clear G hDD
        go_wp2
        go_ret2
        exact ⟨o2, c2, rfl, own_base HB3.out.size hO.out, HB3.out.trans (hBB.out.mono HB3.out.size)⟩
  · go_enter Try.func23, Try.ntmps23
    go_wp2_with (go_at_call 13; refine hC.mono ?_; rintro e w3 ⟨rfl, hb⟩; have HB3 := hid (HB.out.trans (hb.mono HB.out.size)); obtain ⟨b0, b1, b2, b3⟩ := box_cells (blkLater hb HBx.out); clear hb)
    clear hC HBx
    go_loopw [34, 12] (fun t u wr => ∃ (j : Nat) (o2 : Option Addr) (c2 : Nat) (DD : List Int), j ≤ ls.length ∧ t = .int .i64 j ∧ u = .slice o2 DD.length c2 ∧ Hid (DD = dueL (ls.take j) n k true) ∧ Hid (wr.ownsRow w3.heap.size 3 1 (.slice o2 DD.length c2) DD.length (DD.map (Value.int .i64))) ∧ Hid (Below w3.heap.size w3 wr)) (fun t _ _ => ls.length - (RowKit.intOf t).toNat)
    case atStart => exact ⟨0, none, 0, [], Nat.zero_le _, rfl, rfl, rfl, own_nil _ _ _, Below.refl _ _⟩
    case round =>
      obtain ⟨j, o2, c2, DD, hj, rfl, rfl, hDD, hO, hBB⟩ := hrel
      by_cases hlt : j < ls.length
      · obtain ⟨b, off, rfl, hlt1, ha⟩ := G.out (by omega)
        obtain ⟨x0, x1, x2, x3, x4, x5, x6, x7⟩ := (ha j hlt).later hlt1 (HB3.out.trans (hBB.out.mono HB3.out.size))
        have q1 : (0 : Int) ≤ (j : Int) := by omega
        have q2 : (j : Int) < (ls.length : Int) := by omega
        have hds := due_step ls n k true j hlt
        rw [← hDD.out] at hds
        have Hds := hid hds
        have hdl : DD.length + 1 ≤ 1099511627776 := by
          rw [hDD.out]
          unfold dueL
          rw [List.length_map]
          have := List.length_filter_le (dueP n k true) (ls.take j)
          rw [List.length_take] at this
          omega
        clear ha G hds hDD
        generalize ls[j] = x at *
        have hb1 : Below wr.heap.size wr (wr.alloc (lstO x)) := (Below.refl _ wr).alloc (Nat.le_refl _) _
        have hBB1 := hBB.out.trans (hb1.mono hBB.out.size)
        have hO1 := own_later hO.out hb1
        obtain ⟨y0, y1, y2, y3, y4, y5, y6, y7⟩ := lst_cells (heap_new wr (lstO x))
        have HAp : Hid (∃ o4 c4 V4, _) := run_appendI (wr.alloc (lstO x)) w3.heap.size o2 c2 DD x.id hO1 hBB1.size hdl
        rw [World.size_alloc] at HAp
        have HO1 := hid hO1
        have HBB1 := hid hBB1
        clear hO hBB hb1 hBB1 hO1 hdl
        unfold dueP atD at Hds
        obtain ⟨xi, xn, xk, xc, xp, xo, xs, xg⟩ := x
        unfold lstO at *
        dsimp only at *
        cases h1 : (xn == n) with
        | false =>
          rw [h1, Bool.false_and, Bool.false_and, if_neg Bool.false_ne_true, List.append_nil] at Hds
          clear HAp
          go_wp2
          go_roundw
          case rel => exact ⟨j + 1, o2, c2, DD, by omega, by go_num, rfl, Hds.out.symm, HO1, HBB1⟩
          case measure => simp [RowKit.intOf]; omega
        | true =>
          cases h2 : (xk.toList == k.toList) with
          | false =>
            rw [h1, h2, Bool.and_false, Bool.false_and, if_neg Bool.false_ne_true, List.append_nil] at Hds
            clear HAp
            go_wp2
            go_roundw
            case rel => exact ⟨j + 1, o2, c2, DD, by omega, by go_num, rfl, Hds.out.symm, HO1, HBB1⟩
            case measure => simp [RowKit.intOf]; omega
          | true =>
            rw [h1, h2, Bool.and_self, Bool.true_and] at Hds
            cases xp with
            | false =>
              rw [if_neg (by decide), List.append_nil] at Hds
              clear HAp
              go_wp2
              go_roundw
              case rel => exact ⟨j + 1, o2, c2, DD, by omega, by go_num, rfl, Hds.out.symm, HO1, HBB1⟩
              case measure => simp [RowKit.intOf]; omega
            | true =>
              rw [if_pos (by decide)] at Hds
              obtain ⟨o4, c4, V4, hap, hown4, hbl4⟩ := HAp.out
              have HA4 := hid hap
              have HO4 := hid hown4
              have HBL := hid hbl4
              clear hap hown4 hbl4 HAp
              go_wp2_with (at_builtin; refine wpList_append_run _ rfl _ _ 43 43 rfl _ _ rfl rfl _ _ HA4.out ?_)
              go_roundw
              case rel => exact ⟨j + 1, o4, c4, DD ++ [xi], by omega, by go_num, by rw [List.length_append]; rfl, Hds.out.symm, HO4, HBB1.out.trans HBL.out⟩
              case measure => simp [RowKit.intOf]; omega
      · have hDk : DD = D := by
          rw [hDD.out, List.take_of_length_le (by omega), HD.out]
        subst hDk
        clear G hDD
        go_wp2
        go_ret2
        exact ⟨o2, c2, rfl, own_base HB3.out.size hO.out, HB3.out.trans (hBB.out.mono HB3.out.size)⟩
  · go_enter Try.func23, Try.ntmps23
    go_wp2_with (go_at_call 13; refine hC.mono ?_; rintro e w3 ⟨rfl, hb⟩; have HB3 := hid (HB.out.trans (hb.mono HB.out.size)); obtain ⟨b0, b1, b2, b3⟩ := box_cells (blkLater hb HBx.out); clear hb)
    clear hC HBx
    go_loopw [34, 12] (fun t u wr => ∃ (j : Nat) (o2 : Option Addr) (c2 : Nat) (DD : List Int), j ≤ ls.length ∧ t = .int .i64 j ∧ u = .slice o2 DD.length c2 ∧ Hid (DD = dueL (ls.take j) n k true) ∧ Hid (wr.ownsRow w3.heap.size 3 1 (.slice o2 DD.length c2) DD.length (DD.map (Value.int .i64))) ∧ Hid (Below w3.heap.size w3 wr)) (fun t _ _ => ls.length - (RowKit.intOf t).toNat)
    case atStart => exact ⟨0, none, 0, [], Nat.zero_le _, rfl, rfl, rfl, own_nil _ _ _, Below.refl _ _⟩
    case round =>
      obtain ⟨j, o2, c2, DD, hj, rfl, rfl, hDD, hO, hBB⟩ := hrel
      by_cases hlt : j < ls.length
      · obtain ⟨b, off, rfl, hlt1, ha⟩ := G.out (by omega)
        obtain ⟨x0, x1, x2, x3, x4, x5, x6, x7⟩ := (ha j hlt).later hlt1 (HB3.out.trans (hBB.out.mono HB3.out.size))
        have q1 : (0 : Int) ≤ (j : Int) := by omega
        have q2 : (j : Int) < (ls.length : Int) := by omega
        have hds := due_step ls n k true j hlt
        rw [← hDD.out] at hds
        have Hds := hid hds
        have hdl : DD.length + 1 ≤ 1099511627776 := by
          rw [hDD.out]
          unfold dueL
          rw [List.length_map]
          have := List.length_filter_le (dueP n k true) (ls.take j)
          rw [List.length_take] at this
          omega
        clear ha G hds hDD
        generalize ls[j] = x at *
        have hb1 : Below wr.heap.size wr (wr.alloc (lstO x)) := (Below.refl _ wr).alloc (Nat.le_refl _) _
        have hBB1 := hBB.out.trans (hb1.mono hBB.out.size)
        have hO1 := own_later hO.out hb1
        obtain ⟨y0, y1, y2, y3, y4, y5, y6, y7⟩ := lst_cells (heap_new wr (lstO x))
        have HAp : Hid (∃ o4 c4 V4, _) := run_appendI (wr.alloc (lstO x)) w3.heap.size o2 c2 DD x.id hO1 hBB1.size hdl
        rw [World.size_alloc] at HAp
        have HO1 := hid hO1
        have HBB1 := hid hBB1
        clear hO hBB hb1 hBB1 hO1 hdl
        unfold dueP atD at Hds
        obtain ⟨xi, xn, xk, xc, xp, xo, xs, xg⟩ := x
        unfold lstO at *
        dsimp only at *
        cases h1 : (xn == n) with
        | false =>
          rw [h1, Bool.false_and, Bool.false_and, if_neg Bool.false_ne_true, List.append_nil] at Hds
          clear HAp
          go_wp2
          go_roundw
          case rel => exact ⟨j + 1, o2, c2, DD, by omega, by go_num, rfl, Hds.out.symm, HO1, HBB1⟩
          case measure => simp [RowKit.intOf]; omega
        | true =>
          cases h2 : (xk.toList == k.toList) with
          | false =>
            rw [h1, h2, Bool.and_false, Bool.false_and, if_neg Bool.false_ne_true, List.append_nil] at Hds
            clear HAp
            go_wp2
            go_roundw
            case rel => exact ⟨j + 1, o2, c2, DD, by omega, by go_num, rfl, Hds.out.symm, HO1, HBB1⟩
            case measure => simp [RowKit.intOf]; omega
          | true =>
            rw [h1, h2, Bool.and_self, Bool.true_and] at Hds
            cases xp with
            | false =>
              rw [if_neg (by decide), List.append_nil] at Hds
              clear HAp
              go_wp2
              go_roundw
              case rel => exact ⟨j + 1, o2, c2, DD, by omega, by go_num, rfl, Hds.out.symm, HO1, HBB1⟩
              case measure => simp [RowKit.intOf]; omega
            | true =>
              rw [if_pos (by decide)] at Hds
              obtain ⟨o4, c4, V4, hap, hown4, hbl4⟩ := HAp.out
              have HA4 := hid hap
              have HO4 := hid hown4
              have HBL := hid hbl4
              clear hap hown4 hbl4 HAp
              go_wp2_with (at_builtin; refine wpList_append_run _ rfl _ _ 43 43 rfl _ _ rfl rfl _ _ HA4.out ?_)
              go_roundw
              case rel => exact ⟨j + 1, o4, c4, DD ++ [xi], by omega, by go_num, by rw [List.length_append]; rfl, Hds.out.symm, HO4, HBB1.out.trans HBL.out⟩
              case measure => simp [RowKit.intOf]; omega
      · have hDk : DD = D := by
          rw [hDD.out, List.take_of_length_le (by omega), HD.out]
        subst hDk
        clear G hDD
        go_wp2
        go_ret2
        exact ⟨o2, c2, rfl, own_base HB3.out.size hO.out, HB3.out.trans (hBB.out.mono HB3.out.size)⟩
  · go_enter Try.func23, Try.ntmps23
    go_wp2_with (go_at_call 13; refine hC.mono ?_; rintro e w3 ⟨rfl, hb⟩; have HB3 := hid (HB.out.trans (hb.mono HB.out.size)); obtain ⟨b0, b1, b2, b3⟩ := box_cells (blkLater hb HBx.out); clear hb)
    clear hC HBx
    go_loopw [34, 12] (fun t u wr => ∃ (j : Nat) (o2 : Option Addr) (c2 : Nat) (DD : List Int), j ≤ ls.length ∧ t = .int .i64 j ∧ u = .slice o2 DD.length c2 ∧ Hid (DD = dueL (ls.take j) n k false) ∧ Hid (wr.ownsRow w3.heap.size 3 1 (.slice o2 DD.length c2) DD.length (DD.map (Value.int .i64))) ∧ Hid (Below w3.heap.size w3 wr)) (fun t _ _ => ls.length - (RowKit.intOf t).toNat)
    case atStart => exact ⟨0, none, 0, [], Nat.zero_le _, rfl, rfl, rfl, own_nil _ _ _, Below.refl _ _⟩
    case round =>
      obtain ⟨j, o2, c2, DD, hj, rfl, rfl, hDD, hO, hBB⟩ := hrel
      by_cases hlt : j < ls.length
      · obtain ⟨b, off, rfl, hlt1, ha⟩ := G.out (by omega)
        obtain ⟨x0, x1, x2, x3, x4, x5, x6, x7⟩ := (ha j hlt).later hlt1 (HB3.out.trans (hBB.out.mono HB3.out.size))
        have q1 : (0 : Int) ≤ (j : Int) := by omega
        have q2 : (j : Int) < (ls.length : Int) := by omega
        have hds := due_step ls n k false j hlt
        rw [← hDD.out] at hds
        have Hds := hid hds
        have hdl : DD.length + 1 ≤ 1099511627776 := by
          rw [hDD.out]
          unfold dueL
          rw [List.length_map]
          have := List.length_filter_le (dueP n k false) (ls.take j)
          rw [List.length_take] at this
          omega
        clear ha G hds hDD
        generalize ls[j] = x at *
        have hb1 : Below wr.heap.size wr (wr.alloc (lstO x)) := (Below.refl _ wr).alloc (Nat.le_refl _) _
        have hBB1 := hBB.out.trans (hb1.mono hBB.out.size)
        have hO1 := own_later hO.out hb1
        obtain ⟨y0, y1, y2, y3, y4, y5, y6, y7⟩ := lst_cells (heap_new wr (lstO x))
        have HAp : Hid (∃ o4 c4 V4, _) := run_appendI (wr.alloc (lstO x)) w3.heap.size o2 c2 DD x.id hO1 hBB1.size hdl
        rw [World.size_alloc] at HAp
        have HO1 := hid hO1
        have HBB1 := hid hBB1
        clear hO hBB hb1 hBB1 hO1 hdl
        unfold dueP atD at Hds
        obtain ⟨xi, xn, xk, xc, xp, xo, xs, xg⟩ := x
        unfold lstO at *
        dsimp only at *
        cases h1 : (xn == n) with
        | false =>
          rw [h1, Bool.false_and, Bool.false_and, if_neg Bool.false_ne_true, List.append_nil] at Hds
          clear HAp
          go_wp2
          go_roundw
          case rel => exact ⟨j + 1, o2, c2, DD, by omega, by go_num, rfl, Hds.out.symm, HO1, HBB1⟩
          case measure => simp [RowKit.intOf]; omega
        | true =>
          cases h2 : (xk.toList == k.toList) with
          | false =>
            rw [h1, h2, Bool.and_false, Bool.false_and, if_neg Bool.false_ne_true, List.append_nil] at Hds
            clear HAp
            go_wp2
            go_roundw
            case rel => exact ⟨j + 1, o2, c2, DD, by omega, by go_num, rfl, Hds.out.symm, HO1, HBB1⟩
            case measure => simp [RowKit.intOf]; omega
          | true =>
            rw [h1, h2, Bool.and_self, Bool.true_and] at Hds
            cases xp with
            | true =>
              rw [if_neg (by decide), List.append_nil] at Hds
              clear HAp
              go_wp2
              go_roundw
              case rel => exact ⟨j + 1, o2, c2, DD, by omega, by go_num, rfl, Hds.out.symm, HO1, HBB1⟩
              case measure => simp [RowKit.intOf]; omega
            | false =>
              rw [if_pos (by decide)] at Hds
              obtain ⟨o4, c4, V4, hap, hown4, hbl4⟩ := HAp.out
              have HA4 := hid hap
              have HO4 := hid hown4
              have HBL := hid hbl4
              clear hap hown4 hbl4 HAp
              go_wp2_with (at_builtin; refine wpList_append_run _ rfl _ _ 43 43 rfl _ _ rfl rfl _ _ HA4.out ?_)
              go_roundw
              case rel => exact ⟨j + 1, o4, c4, DD ++ [xi], by omega, by go_num, by rw [List.length_append]; rfl, Hds.out.symm, HO4, HBB1.out.trans HBL.out⟩
              case measure => simp [RowKit.intOf]; omega
      · have hDk : DD = D := by
          rw [hDD.out, List.take_of_length_le (by omega), HD.out]
        subst hDk
        clear G hDD
        go_wp2
        go_ret2
        exact ⟨o2, c2, rfl, own_base HB3.out.size hO.out, HB3.out.trans (hBB.out.mono HB3.out.size)⟩
end Go.Proofs.Ytnlcojhmioamnaa
