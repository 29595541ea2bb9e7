/- The law ListenDues: those that are called at a phase are those that the document says. -/
import Derived.Test.YtnlcojhmioamnaaLnP
import Derived.Test.YtnlcojhmioamnaaLnS
import Derived.Test.YtnlcojhmioamnaaLnZ
namespace Go.Proofs.Ytnlcojhmioamnaa
open Go.RowKit Go.Lib Go.Shelf

theorem any_step (ls : List LstD) (n : Int) (k : ByteArray) (j : Nat) (h : j < ls.length) : hasD (ls.take (j + 1)) n k = (hasD (ls.take j) n k || (ls[j].kind.toList == k.toList && ls[j].node == n)) := by
  unfold hasD
  rw [take_step ls j h, List.any_append, List.any_cons, List.any_nil, Bool.or_false]
  congr 1
  unfold atD
  exact Bool.and_comm _ _
set_option maxRecDepth 100000 in
set_option maxHeartbeats 4000000 in
theorem dues_walk (v : Value) (ls : List LstD) (next n : Int) (k : ByteArray) (ph : Nat) (capt : Bool) (w : World) (hr : RdL w v ls) (hl : ls.length ≤ 1048576) (E : Int) (D : List Int) (hD : D.length ≤ 1048576)
    (h1 : ∀ V : World, RdL V v ls → Calls Try.prog 22 #[.agg #[v, .int .i64 next], .int .i64 n, .string k, .int .u8 (ph : Int), .bool capt] V fun e w' => ∃ o c, e = .returned (.tuple #[.slice o D.length c, .int .i64 E]) ∧ RdI w' (.slice o D.length c) D ∧ Below V.heap.size V w')
    (h2 : ∀ V : World, RdL V v ls → Calls Try.prog 23 #[.agg #[v, .int .i64 next], .int .i64 n, .string k, .int .u8 (ph : Int), .bool capt] V fun e w' => ∃ o c, e = .returned (.tuple #[.slice o D.length c, .int .i64 E]) ∧ RdI w' (.slice o D.length c) D ∧ Below V.heap.size V w') :
    Calls Try.prog 5 #[.agg #[v, .int .i64 next], .int .i64 n, .string k, .int .u8 (ph : Int), .bool capt] w fun e w' => e = .returned (.bool true) ∧ Below w.heap.size w w' := by
  have hb : Below w.heap.size w (w.alloc (.cells #[v, .int .i64 next] 24)) := (Below.refl _ w).alloc (Nat.le_refl _) _
  have HL0 : Hid (RowB w.heap.size v ls next _) := ⟨heap_new w _, hr.later hb⟩
  have HB0 := hid hb
  have H1 := hid h1
  have H2 := hid h2
  have HI : Hid (∀ (V : World) (v1 v2 : Value), RdI V v1 D → RdI V v2 D → _) := fun V v1 v2 a b => ints3_any v1 v2 D D V a b (by omega)
  rw [show (D == D) = true from beq_self_eq_true D] at HI
  have HH : Hid (∀ V : World, RdL V v ls → _) := fun V hV => has_any v ls next n k V hV (by omega)
  obtain ⟨HS, hHS⟩ : ∃ HS, hasD ls n k = HS := ⟨_, rfl⟩
  rw [hHS] at HH
  have HHs := hid hHS
  obtain ⟨ov, cv, rfl, _, _⟩ := hr
  clear hb h1 h2 hHS
  obtain ⟨l0, l1, l2, l3⟩ := box_cells HL0.out.box
  go_enter Try.func5, Try.ntmps5
  go_wp2_with (first
    | (go_at_call 22; refine (H1.out _ HL0.out.rd).mono ?_; rintro e w1 ⟨o1, c1, rfl, hd, hb⟩; have HL1 := hid (HL0.out.later hb); have HB1 := hid (HB0.out.trans (hb.mono HB0.out.size)); have HD1 := hid hd; obtain ⟨m0, m1, m2, m3⟩ := box_cells HL1.out.box; clear hb hd)
    | (go_at_call 23; refine (H2.out _ HL1.out.rd).mono ?_; rintro e w2 ⟨o2, c2, rfl, hd, hb⟩; have HL2 := hid (HL1.out.later hb); have HB2 := hid (HB1.out.trans (hb.mono HB1.out.size)); have HD2 := hid (HD1.out.later hb); have HE2 := hid hd; obtain ⟨p0, p1, p2, p3⟩ := box_cells HL2.out.box; clear hb hd))
  obtain ⟨ov2, cv2, hve, _, gv⟩ := HL2.out.rd
  simp only [Value.slice.injEq] at hve
  obtain ⟨rfl, _, rfl⟩ := hve
  have GV := hid gv
  clear gv l0 l1 l2 l3 m0 m1 m2 m3 H1 H2 HL0 HL1 HB0 HB1 HD1
  go_loopw [39, 15] (fun t u wr => ∃ (j : Nat) (S : Bool), j ≤ ls.length ∧ t = .int .i64 j ∧ u = .bool S ∧ Hid (hasD (ls.take j) n k = S) ∧ Hid (Below w2.heap.size w2 wr)) (fun t _ _ => ls.length - (RowKit.intOf t).toNat)
  case atStart => exact ⟨0, false, Nat.zero_le _, rfl, rfl, rfl, Below.refl _ _⟩
  case round =>
    obtain ⟨j, S, hj, rfl, rfl, hS, hBB⟩ := hrel
    by_cases hlt : j < ls.length
    · obtain ⟨b, off, rfl, hlt1, ha⟩ := GV.out (by omega)
      obtain ⟨y0, y1, y2, y3, y4, y5, y6, y7⟩ := (ha j hlt).later hlt1 hBB.out
      have q1 : (0 : Int) ≤ (j : Int) := by omega
      have q2 : (j : Int) < (ls.length : Int) := by omega
      have hst := any_step ls n k j hlt
      rw [hS.out] at hst
      have Hst := hid hst
      have hb1 : Below wr.heap.size wr (wr.alloc (lstO ls[j])) := (Below.refl _ wr).alloc (Nat.le_refl _) _
      have HBB1 := hid (hBB.out.trans (hb1.mono hBB.out.size))
      obtain ⟨z0, z1, z2, z3, z4, z5, z6, z7⟩ := lst_cells (heap_new wr (lstO ls[j]))
      clear ha GV hb1 hst hS hBB
      generalize ls[j] = x at *
      unfold lstO at *
      cases S with
      | true =>
        go_wp2
        go_roundw
        case rel => exact ⟨j + 1, true, by omega, by go_num, rfl, Hst, HBB1⟩
        case measure => simp [RowKit.intOf]; omega
      | false =>
        rw [Bool.false_or] at Hst
        cases h1 : (x.kind.toList == k.toList) with
        | false =>
          rw [h1, Bool.false_and] at Hst
          go_wp2
          go_roundw
          case rel => exact ⟨j + 1, false, by omega, by go_num, rfl, Hst, HBB1⟩
          case measure => simp [RowKit.intOf]; omega
        | true =>
          rw [h1, Bool.true_and] at Hst
          cases h2 : (x.node == n)
          all_goals
            rw [h2] at Hst
            go_wp2
            go_roundw
            case rel => exact ⟨j + 1, _, by omega, by go_num, rfl, Hst, HBB1⟩
            case measure => simp [RowKit.intOf]; omega
    · have hSk : S = HS := by rw [← hS.out, List.take_of_length_le (by omega), HHs.out]
      subst hSk
      have HL3 := hid (HL2.out.later hBB.out)
      have HB3 := hid (HB2.out.trans (hBB.out.mono HB2.out.size))
      have HD3 := hid (HD2.out.later hBB.out)
      have HE3 := hid (HE2.out.later hBB.out)
      clear hS GV HHs HL2 HB2 HD2 HE2 hBB
      go_wp2_with (first
        | (go_at_call 10; refine (lives_any _).mono ?_; rintro e w4 ⟨rfl, hb⟩; have HL4 := hid (HL3.out.later hb); have HB4 := hid (HB3.out.trans (hb.mono HB3.out.size)); have HD4 := hid (HD3.out.later hb); have HE4 := hid (HE3.out.later hb); clear hb)
        | (go_at_call 24; refine (HI.out _ _ _ HD4.out HE4.out).mono ?_; rintro e w5 ⟨rfl, hb⟩; have HL5 := hid (HL4.out.later hb); have HB5 := hid (HB4.out.trans (hb.mono HB4.out.size)); obtain ⟨t0, t1, t2, t3⟩ := box_cells HL5.out.box; clear hb)
        | (go_at_call 25; refine (HH.out _ HL5.out.rd).mono ?_; rintro e w6 ⟨rfl, hb⟩; have HB6 := hid (HB5.out.trans (hb.mono HB5.out.size)); clear hb))
      go_ret
      exact ⟨by simp, HB6.out⟩
theorem listenDues_law (v : Value) (ls : List LstD) (next n : Int) (k : ByteArray) (ph : Nat) (capt : Bool) (w : World) (hr : RdL w v ls) (hw : ∀ x ∈ ls, WfL x) (hl : ls.length ≤ 1048576) :
    Calls Try.prog 5 #[.agg #[v, .int .i64 next], .int .i64 n, .string k, .int .u8 (ph : Int), .bool capt] w fun e w' => e = .returned (.bool true) ∧ Below w.heap.size w w' := by
  have hnil : ∀ V : World, RdI V (.slice none 0 0) [] := fun V => ⟨none, 0, rfl, Nat.le_refl _, fun h => absurd h (Nat.lt_irrefl _)⟩
  cases hc : checkD ls next with
  | false =>
    refine dues_walk v ls next n k ph capt w hr hl 2 [] (by decide) (fun V hV => (due_bad v ls next n k ph capt V hV hw (by omega) hc).mono ?_) (fun V hV => (refDue_bad v ls next n k ph capt V hV (by omega) hc).mono ?_)
    · rintro e w' ⟨rfl, hb⟩
      exact ⟨none, 0, rfl, hnil _, hb⟩
    · rintro e w' ⟨rfl, hb⟩
      exact ⟨none, 0, rfl, hnil _, hb⟩
  | true =>
    cases hp : phaseD ph with
    | false =>
      refine dues_walk v ls next n k ph capt w hr hl 23 [] (by decide) (fun V hV => (due_type v ls next n k ph capt V hV hw (by omega) hc hp).mono ?_) (fun V hV => (refDue_type v ls next n k ph capt V hV (by omega) hc hp).mono ?_)
      · rintro e w' ⟨rfl, hb⟩
        exact ⟨none, 0, rfl, hnil _, hb⟩
      · rintro e w' ⟨rfl, hb⟩
        exact ⟨none, 0, rfl, hnil _, hb⟩
    | true =>
      have hD : (dueL ls n k (dueCap ph capt)).length ≤ 1048576 := by
        unfold dueL
        rw [List.length_map]
        exact Nat.le_trans (List.length_filter_le _ _) hl
      refine dues_walk v ls next n k ph capt w hr hl 0 (dueL ls n k (dueCap ph capt)) hD (fun V hV => (due_ok v ls next n k ph capt V hV hw (by omega) hc hp).mono ?_) (fun V hV => (refDue_ok v ls next n k ph capt V hV (by omega) hc hp).mono ?_)
      · rintro e w' ⟨o, c, rfl, ho, hb⟩
        exact ⟨o, c, rfl, own_rdI ho, hb⟩
      · rintro e w' ⟨o, c, rfl, ho, hb⟩
        exact ⟨o, c, rfl, own_rdI ho, hb⟩
end Go.Proofs.Ytnlcojhmioamnaa
