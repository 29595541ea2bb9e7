/- listen: Has, Due. -/
import Derived.Test.YtgelclbjbjpacaaLnE
import Derived.Test.YtgelclbjbjpacaaLnG
import Derived.Test.YtgelclbjbjpacaaLnH
namespace Go.Proofs.Ytgelclbjbjpacaa
open Go.RowKit Go.Lib Go.Shelf

def atD (n : Int) (k : ByteArray) (x : LstD) : Bool := x.node == n && x.kind.toList == k.toList
def hasD (ls : List LstD) (n : Int) (k : ByteArray) : Bool := ls.any (atD n k)
set_option maxRecDepth 100000 in
set_option maxHeartbeats 2000000 in
theorem has_any (v : Value) (ls : List LstD) (next n : Int) (k : ByteArray) (w : World) (hr : RdL w v ls) (hl : ls.length ≤ 1099511627776) :
    Calls Try.prog 25 #[.agg #[v, .int .i64 next], .int .i64 n, .string k] w fun e w' => e = .returned (.bool (hasD ls n k)) ∧ Below w.heap.size w w' := by
  obtain ⟨R, hR⟩ : ∃ R, hasD ls n k = R := ⟨_, rfl⟩
  rw [hR]
  have hb : Below w.heap.size w (w.alloc (.cells #[v, .int .i64 next] 24)) := (Below.refl _ w).alloc (Nat.le_refl _) _
  have hr1 := hr.later hb
  have HCf : Hid (∀ V : World, Below (w.alloc (.cells #[v, .int .i64 next] 24)).heap.size (w.alloc (.cells #[v, .int .i64 next] 24)) V → ∀ f, Which V f (atD n k) → _) := fun V hV f hf => containsL_any v f ls (atD n k) V (hr1.later hV) hl hf
  have hR2 : ls.any (atD n k) = R := hR
  rw [hR2] at HCf
  have c0 := (box_cells (heap_new w (.cells #[v, .int .i64 next] 24))).1
  have hlB : w.heap.size < (w.alloc (.cells #[v, .int .i64 next] 24)).heap.size := by simp
  obtain ⟨o, cap, rfl, _, _⟩ := hr
  have HB := hid hb
  clear hb hr1 hR hR2
  go_enter Try.func25, Try.ntmps25
  go_upto_region 1 with fail
  generalize w.alloc (.cells #[.slice o ls.length cap, .int .i64 next] 24) = W0 at *
  refine wp_region_held_drew (S := fun V => Below W0.heap.size W0 V) (by kernel_rfl) ((Below.refl _ _).drew) (fun hHeld => ?_)
  have HB_V0 := hid hHeld
  have HS_V0 := hid hHeld.size
  generalize W0.drew = V0 at *
  refine wpAnyH_one 0 7 (.pointer (some ⟨w.heap.size, 0, none⟩)) hHeld rfl rfl (by kernel_rfl) (fun _ _ _ _ _ h => h) (by kernel_rfl) (by kernel_rfl) (by rfl) ?_ ?_
  · intro V hSw; (try dsimp only at hSw); go_simp
  simp only [Act.put, List.setIfInBounds_toArray, List.set_cons_zero, List.set_cons_succ]
  refine wpAnyH_one 1 8 (.slice o ls.length cap) hHeld rfl rfl (by kernel_rfl) (fun _ _ _ _ _ h => h) (by kernel_rfl) (by kernel_rfl) (by rfl) ?_ ?_
  · intro V hSw; (try dsimp only at hSw); have k0 := cellLater (B := w.heap.size) hSw (by omega) c0; go_simp
  simp only [Act.put, List.setIfInBounds_toArray, List.set_cons_zero, List.set_cons_succ]
  refine wpAnyH_one 2 9 (.int .i64 n) hHeld rfl rfl (by kernel_rfl) (fun _ _ _ _ _ h => h) (by kernel_rfl) (by kernel_rfl) (by rfl) ?_ ?_
  · intro V hSw; (try dsimp only at hSw); go_simp
  simp only [Act.put, List.setIfInBounds_toArray, List.set_cons_zero, List.set_cons_succ]
  refine wpAnyH_one 3 10 (.string k) hHeld rfl rfl (by kernel_rfl) (fun _ _ _ _ _ h => h) (by kernel_rfl) (by kernel_rfl) (by rfl) ?_ ?_
  · intro V hSw; (try dsimp only at hSw); go_simp
  simp only [Act.put, List.setIfInBounds_toArray, List.set_cons_zero, List.set_cons_succ]
  refine wpAnyH_ready (rs := [4]) (by kernel_rfl) (by simp) ?_
  refine AllReadyH.cons rfl (fun K hK => ?_) AllReadyH.nil
  go_simp
  go_wp2_with (go_at_call 42; refine (of_any n k V0).mono ?_; rintro e V1 ⟨g, rfl, hgl, h0, h1, hb⟩; have HB_V1 := hid (HB_V0.out.trans (hb.mono HB_V0.out.size)); have HS_V1 := hid (HB_V1.out.size); have HWh := hid (which_of h0 h1); clear h0 h1 hgl)
  refine hK.out _ _ HB_V1.out (fun hHeld => ?_)
  clear hK K
  refine wpAnyH_ready (rs := [5]) (by kernel_rfl) (by simp) ?_
  refine AllReadyH.cons rfl (fun K hK => ?_) AllReadyH.nil
  go_simp
  go_wp2_with (go_at_call 29; refine (HCf.out V1 HB_V1.out _ HWh.out).mono ?_; rintro e V2 ⟨rfl, hb⟩; have HB_V2 := hid (HB_V1.out.trans (hb.mono HB_V1.out.size)); have HS_V2 := hid (HB_V2.out.size))
  refine hK.out _ _ HB_V2.out (fun hHeld => ?_)
  clear hK K
  refine wpAnyH_one 6 6 (.bool R) hHeld rfl rfl (by kernel_rfl) (fun _ _ _ _ _ h => h) (by kernel_rfl) (by kernel_rfl) (by rfl) ?_ ?_
  · intro V hSw; (try dsimp only at hSw); go_simp
  simp only [Act.put, List.setIfInBounds_toArray, List.set_cons_zero, List.set_cons_succ]
  refine wpAnyH_done (by kernel_rfl) ?_ _
  go_wp2
  go_ret
  exact ⟨rfl, HB.out.trans (HB_V2.out.mono HB.out.size)⟩

/-- Which are called at a phase; 23: no phase. -/
def dueCap (ph : Nat) (capt : Bool) : Bool := if (ph == 1) = true then true else if (ph == 3) = true then false else capt
def phaseD (ph : Nat) : Bool := ph == 1 || (ph == 3 || ph == 2)
def dueP (n : Int) (k : ByteArray) (c : Bool) (x : LstD) : Bool := atD n k x && x.cap == c
def dueL (ls : List LstD) (n : Int) (k : ByteArray) (c : Bool) : List Int := (ls.filter (dueP n k c)).map (·.id)
theorem due_step (ls : List LstD) (n : Int) (k : ByteArray) (c : Bool) (j : Nat) (h : j < ls.length) : dueL (ls.take (j + 1)) n k c = dueL (ls.take j) n k c ++ (if dueP n k c ls[j] = true then [ls[j].id] else []) := by
  unfold dueL
  rw [filter_step _ ls j h, List.map_append]
  split <;> rfl
theorem info_int : (Try.prog.info? 3).map (fun i => (i.zero, i.size, i.bytes)) = some (some (.int .i64 0), 1, 8) := by kernel_rfl
/-- One more number is put behind a row of the call's own. -/
theorem run_appendI (V : World) (B : Nat) (o : Option Addr) (c : Nat) (l : List Int) (x : Int) (hown : V.ownsRow B 3 1 (.slice o l.length c) l.length (l.map (Value.int .i64))) (hB : B ≤ V.heap.size) (hn : l.length + 1 ≤ 1099511627776) :
    ∃ o2 c2 V2, (Builtin.append_ #[43, 43] 43 #[.slice o l.length c, .slice (some ⟨V.heap.size, 0, none⟩) 1 1]).run Try.prog (V.alloc (.cells #[.int .i64 x] 3)) = .ok (.slice o2 (l ++ [x]).length c2) V2 ∧ V2.ownsRow B 3 1 (.slice o2 (l ++ [x]).length c2) (l ++ [x]).length ((l ++ [x]).map (Value.int .i64)) ∧ Below B V V2 := by
  obtain ⟨i0, hi, hz0, hz1, hz2⟩ := info_parts info_int
  have hb : Below V.heap.size V (V.alloc (.cells #[.int .i64 x] 3)) := (Below.refl _ V).alloc (Nat.le_refl _) _
  have h1 := own_later hown hb
  obtain ⟨v', V2, hr, ho, hg, _⟩ := run_append_own (P := Try.prog) (V.alloc (.cells #[.int .i64 x] 3)) B 43 43 3 i0 _ 1 8 Try.underlying43 hi hz0 hz1 hz2 rfl (by decide) _ l.length _ h1 ⟨V.heap.size, 0, none⟩ 1 1 [.int .i64 x] rfl (fun j u hj => by
    match j, hj with
    | 0, hj =>
      cases hj
      exact box1 (heap_new V _)) (by simp [Value.oneCell']) (by unfold maxLen; omega) (by omega) (Nat.le_trans hB hb.size)
  obtain ⟨o2, c2, rfl⟩ := own_shape ho
  have he : (l ++ [x]).length = l.length + 1 := by simp
  refine ⟨o2, c2, V2, by rw [he]; exact hr, by rw [he, List.map_append]; exact ho, ((Below.refl B V).alloc hB _).grown hg (Nat.le_trans hB hb.size) (fun j hj => (h1.lt j hj).1)⟩

set_option maxRecDepth 100000 in
set_option maxHeartbeats 4000000 in
theorem due_bad (v : Value) (ls : List LstD) (next n : Int) (k : ByteArray) (ph : Nat) (capt : Bool) (w : World) (hr : RdL w v ls) (hw : ∀ x ∈ ls, WfL x) (hl : ls.length ≤ 1099511627775) (hc : checkD ls next = false) :
    Calls Try.prog 22 #[.agg #[v, .int .i64 next], .int .i64 n, .string k, .int .u8 (ph : Int), .bool capt] w fun e w' => e = .returned (.tuple #[.slice none 0 0, .int .i64 2]) ∧ Below w.heap.size w w' := by
  have hb : Below w.heap.size w (w.alloc (.cells #[v, .int .i64 next] 24)) := (Below.refl _ w).alloc (Nat.le_refl _) _
  have hC := check_any v ls next _ (hr.later hb) hw (by omega)
  rw [hc] at hC
  replace hC : Calls _ _ _ _ fun e w' => e = .returned (.int .i64 2) ∧ _ := hC
  obtain ⟨o, cap, rfl, _, _⟩ := hr
  have HB := hid hb
  clear hb hc
  go_enter Try.func22, Try.ntmps22
  go_wp2_with (go_at_call 12; refine hC.mono ?_; rintro e w2 ⟨rfl, hb⟩; have HB2 := hid (HB.out.trans (hb.mono HB.out.size)); clear hb)
  go_ret2
  exact ⟨rfl, HB2.out⟩
set_option maxRecDepth 100000 in
set_option maxHeartbeats 4000000 in
theorem due_type (v : Value) (ls : List LstD) (next n : Int) (k : ByteArray) (ph : Nat) (capt : Bool) (w : World) (hr : RdL w v ls) (hw : ∀ x ∈ ls, WfL x) (hl : ls.length ≤ 1099511627775) (hc : checkD ls next = true) (hp : phaseD ph = false) :
    Calls Try.prog 22 #[.agg #[v, .int .i64 next], .int .i64 n, .string k, .int .u8 (ph : Int), .bool capt] w fun e w' => e = .returned (.tuple #[.slice none 0 0, .int .i64 23]) ∧ Below w.heap.size w w' := by
  have hb : Below w.heap.size w (w.alloc (.cells #[v, .int .i64 next] 24)) := (Below.refl _ w).alloc (Nat.le_refl _) _
  have hC := check_any v ls next _ (hr.later hb) hw (by omega)
  rw [hc] at hC
  replace hC : Calls _ _ _ _ fun e w' => e = .returned (.int .i64 0) ∧ _ := hC
  unfold phaseD at hp
  simp only [Bool.or_eq_false_iff, beq_eq_false_iff_ne, ne_eq] at hp
  have p1 : ((ph : Int) == 1) = false := beq_eq_false_iff_ne.2 (by omega)
  have p2 : ((ph : Int) == 2) = false := beq_eq_false_iff_ne.2 (by omega)
  have p3 : ((ph : Int) == 3) = false := beq_eq_false_iff_ne.2 (by omega)
  obtain ⟨o, cap, rfl, _, _⟩ := hr
  have HB := hid hb
  clear hb hc hp
  go_enter Try.func22, Try.ntmps22
  go_wp2_with (go_at_call 12; refine hC.mono ?_; rintro e w2 ⟨rfl, hb⟩; have HB2 := hid (HB.out.trans (hb.mono HB.out.size)); clear hb)
  go_ret2
  exact ⟨rfl, HB2.out⟩
set_option maxRecDepth 100000 in
set_option maxHeartbeats 4000000 in
theorem due_ok (v : Value) (ls : List LstD) (next n : Int) (k : ByteArray) (ph : Nat) (capt : Bool) (w : World) (hr : RdL w v ls) (hw : ∀ x ∈ ls, WfL x) (hl : ls.length ≤ 1099511627775) (hc : checkD ls next = true) (hp : phaseD ph = true) :
    Calls Try.prog 22 #[.agg #[v, .int .i64 next], .int .i64 n, .string k, .int .u8 (ph : Int), .bool capt] w fun e w' => ∃ o c, e = .returned (.tuple #[.slice o (dueL ls n k (dueCap ph capt)).length c, .int .i64 0]) ∧ w'.ownsRow w.heap.size 3 1 (.slice o (dueL ls n k (dueCap ph capt)).length c) (dueL ls n k (dueCap ph capt)).length ((dueL ls n k (dueCap ph capt)).map (Value.int .i64)) ∧ Below w.heap.size w w' := by
  have hb : Below w.heap.size w (w.alloc (.cells #[v, .int .i64 next] 24)) := (Below.refl _ w).alloc (Nat.le_refl _) _
  have hC := check_any v ls next _ (hr.later hb) hw (by omega)
  rw [hc] at hC
  replace hC : Calls _ _ _ _ fun e w' => e = .returned (.int .i64 0) ∧ _ := hC
  have hbx := heap_new w (.cells #[v, .int .i64 next] 24)
  obtain ⟨C, hCc⟩ : ∃ C, dueCap ph capt = C := ⟨_, rfl⟩
  rw [hCc]
  obtain ⟨D, hD⟩ : ∃ D, dueL ls n k C = D := ⟨_, rfl⟩
  rw [hD]
  have HD := hid hD
  obtain ⟨o, cap, rfl, hcap, g⟩ := hr
  have HB := hid hb
  have HBx := hid hbx
  have G := hid g
  have HOf : Hid (∀ V : World, _) := fun V => of_any n k V
  unfold phaseD at hp
  unfold dueCap at hCc
  clear hb hc hbx hw hD g
  have hph : (((ph : Int) == 1) = true ∧ true = C) ∨ (((ph : Int) == 1) = false ∧ ((ph : Int) == 3) = true ∧ false = C) ∨ (((ph : Int) == 1) = false ∧ ((ph : Int) == 3) = false ∧ ((ph : Int) == 2) = true ∧ capt = C) := by
    by_cases h1 : ph = 1
    · subst h1; exact .inl ⟨rfl, hCc⟩
    · by_cases h3 : ph = 3
      · subst h3; exact .inr (.inl ⟨rfl, rfl, hCc⟩)
      · have e1 : (ph == 1) = false := beq_eq_false_iff_ne.2 h1
        have e3 : (ph == 3) = false := beq_eq_false_iff_ne.2 h3
        rw [e1, e3, Bool.false_or, Bool.false_or, beq_iff_eq] at hp
        rw [e1, e3] at hCc
        subst hp
        exact .inr (.inr ⟨rfl, rfl, rfl, hCc⟩)
  clear hp hCc
  rcases hph with ⟨p1, rfl⟩ | ⟨p1, p3, rfl⟩ | ⟨p1, p3, p2, rfl⟩
  case' inr.inr => cases capt
  · go_enter Try.func22, Try.ntmps22
    go_wp2_with (first
      | (go_at_call 12; refine hC.mono ?_; rintro e w2 ⟨rfl, hb⟩; have HB2 := hid (HB.out.trans (hb.mono HB.out.size)); have HBx2 := hid (blkLater hb HBx.out); clear hb)
      | (go_at_call 42; refine (HOf.out _).mono ?_; rintro e w3 ⟨g1, rfl, hgl, h0, h1, hb⟩; have HB3 := hid (HB2.out.trans (hb.mono HB2.out.size)); obtain ⟨fn, lb, hfe, eg, hfc⟩ := (which_of h0 h1).is; simp only [Value.func.injEq, Fn.func.injEq, true_and] at hfe; obtain ⟨rfl, rfl⟩ := hfe; have HFc := hid hfc; obtain ⟨b0, b1, b2, b3⟩ := box_cells (blkLater hb HBx2.out); clear hb h0 h1 hgl hfc))
    clear hC HBx HBx2 HOf p1
    try clear p3
    try clear p2
    go_loopw [35, 14] (fun t u wr => ∃ (j : Nat) (o2 : Option Addr) (c2 : Nat) (DD : List Int), j ≤ ls.length ∧ t = .int .i64 j ∧ u = .slice o2 DD.length c2 ∧ Hid (DD = dueL (ls.take j) n k false) ∧ Hid (wr.ownsRow w3.heap.size 3 1 (.slice o2 DD.length c2) DD.length (DD.map (Value.int .i64))) ∧ Hid (Below w3.heap.size w3 wr)) (fun t _ _ => ls.length - (RowKit.intOf t).toNat)
    case atStart => exact ⟨0, none, 0, [], Nat.zero_le _, rfl, rfl, rfl, own_nil _ _ _, Below.refl _ _⟩
    case round =>
      obtain ⟨j, o2, c2, DD, hj, rfl, rfl, hDD, hO, hBB⟩ := hrel
      by_cases hlt : j < ls.length
      · obtain ⟨b, off, rfl, hlt1, ha⟩ := G.out (by omega)
        obtain ⟨x0, x1, x2, x3, x4, x5, x6, x7⟩ := (ha j hlt).later hlt1 (HB3.out.trans (hBB.out.mono HB3.out.size))
        have q1 : (0 : Int) ≤ (j : Int) := by omega
        have q2 : (j : Int) < (ls.length : Int) := by omega
        have hds := due_step ls n k false j hlt
        rw [← hDD.out] at hds
        have Hds := hid hds
        have hdl : DD.length + 1 ≤ 1099511627776 := by
          rw [hDD.out]
          unfold dueL
          rw [List.length_map]
          have := List.length_filter_le (dueP n k false) (ls.take j)
          rw [List.length_take] at this
          omega
        have HFk : Hid (∀ V, Below w3.heap.size w3 V → _) := fun V hV => HFc.out ls[j] V hV
        clear ha G HFc hds hDD
        generalize ls[j] = x at *
        have hb1 : Below wr.heap.size wr (wr.alloc (lstO x)) := (Below.refl _ wr).alloc (Nat.le_refl _) _
        have hBB1 := hBB.out.trans (hb1.mono hBB.out.size)
        obtain ⟨y0, y1, y2, y3, y4, y5, y6, y7⟩ := lst_cells (heap_new wr (lstO x))
        have HXb := hid (heap_new wr (lstO x))
        have hcl := HFk.out _ hBB1
        have HO1 := hid (own_later hO.out hb1)
        have HBB1 := hid hBB1
        clear hO hBB hb1 hBB1 HFk
        unfold lstV at hcl
        unfold dueP atD at Hds
        obtain ⟨xi, xn, xk, xc, xp, xo, xs, xg⟩ := x
        simp only at Hds hcl x0 x1 x2 x3 x4 x5 x6 x7 y0 y1 y2 y3 y4 y5 y6 y7
        generalize hpx : (xn == n && xk.toList == k.toList) = P1 at *
        cases P1 with
        | false =>
          rw [Bool.false_and, if_neg Bool.false_ne_true, List.append_nil] at Hds
          clear hdl
          unfold lstO at *
          go_wp2_with (go_at_fn 46; refine hcl.mono ?_; rintro e w4 ⟨rfl, hb⟩; have HO2 := hid (own_later HO1.out hb); have HBB2 := hid (HBB1.out.trans (hb.mono HBB1.out.size)); clear hb)
          go_roundw
          case rel => exact ⟨j + 1, o2, c2, DD, by omega, by go_num, rfl, Hds.out.symm, HO2, HBB2⟩
          case measure => simp [RowKit.intOf]; omega
        | true =>
          rw [Bool.true_and] at Hds
          cases xp with
          | true =>
            rw [if_neg (by decide), List.append_nil] at Hds
            clear hdl
            unfold lstO at *
            go_wp2_with (go_at_fn 46; refine hcl.mono ?_; rintro e w4 ⟨rfl, hb⟩; have HO2 := hid (own_later HO1.out hb); have HBB2 := hid (HBB1.out.trans (hb.mono HBB1.out.size)); obtain ⟨z0, z1, z2, z3, z4, z5, z6, z7⟩ := lst_cells (blkLater hb HXb.out); clear hb)
            go_roundw
            case rel => exact ⟨j + 1, o2, c2, DD, by omega, by go_num, rfl, Hds.out.symm, HO2, HBB2⟩
            case measure => simp [RowKit.intOf]; omega
          | false =>
            rw [if_pos (by decide)] at Hds
            unfold lstO at *
            go_wp2_with (first
              | (go_at_fn 46; refine hcl.mono ?_; rintro e w4 ⟨rfl, hb⟩; have HO2 := hid (own_later HO1.out hb); have HBB2 := hid (HBB1.out.trans (hb.mono HBB1.out.size)); obtain ⟨z0, z1, z2, z3, z4, z5, z6, z7⟩ := lst_cells (blkLater hb HXb.out); obtain ⟨o4, c4, V4, hap, hown4, hbl4⟩ := run_appendI w4 w3.heap.size o2 c2 DD xi HO2.out HBB2.out.size hdl; have HAp := hid hap; have HO4 := hid hown4; have HBL := hid hbl4; clear hb hap hown4 hbl4)
              | (at_builtin; refine wpList_append_run _ rfl _ _ 43 43 rfl _ _ rfl rfl _ _ HAp.out ?_))
            go_roundw
            case rel => exact ⟨j + 1, o4, c4, DD ++ [xi], by omega, by go_num, by rw [List.length_append]; rfl, Hds.out.symm, HO4, HBB2.out.trans HBL.out⟩
            case measure => simp [RowKit.intOf]; omega
      · have hDk : DD = D := by
          rw [hDD.out, List.take_of_length_le (by omega), HD.out]
        subst hDk
        clear G HFc hDD
        go_wp2
        go_ret2
        exact ⟨o2, c2, rfl, own_base HB3.out.size hO.out, HB3.out.trans (hBB.out.mono HB3.out.size)⟩
  · go_enter Try.func22, Try.ntmps22
    go_wp2_with (first
      | (go_at_call 12; refine hC.mono ?_; rintro e w2 ⟨rfl, hb⟩; have HB2 := hid (HB.out.trans (hb.mono HB.out.size)); have HBx2 := hid (blkLater hb HBx.out); clear hb)
      | (go_at_call 42; refine (HOf.out _).mono ?_; rintro e w3 ⟨g1, rfl, hgl, h0, h1, hb⟩; have HB3 := hid (HB2.out.trans (hb.mono HB2.out.size)); obtain ⟨fn, lb, hfe, eg, hfc⟩ := (which_of h0 h1).is; simp only [Value.func.injEq, Fn.func.injEq, true_and] at hfe; obtain ⟨rfl, rfl⟩ := hfe; have HFc := hid hfc; obtain ⟨b0, b1, b2, b3⟩ := box_cells (blkLater hb HBx2.out); clear hb h0 h1 hgl hfc))
    clear hC HBx HBx2 HOf p1
    try clear p3
    try clear p2
    go_loopw [35, 14] (fun t u wr => ∃ (j : Nat) (o2 : Option Addr) (c2 : Nat) (DD : List Int), j ≤ ls.length ∧ t = .int .i64 j ∧ u = .slice o2 DD.length c2 ∧ Hid (DD = dueL (ls.take j) n k true) ∧ Hid (wr.ownsRow w3.heap.size 3 1 (.slice o2 DD.length c2) DD.length (DD.map (Value.int .i64))) ∧ Hid (Below w3.heap.size w3 wr)) (fun t _ _ => ls.length - (RowKit.intOf t).toNat)
    case atStart => exact ⟨0, none, 0, [], Nat.zero_le _, rfl, rfl, rfl, own_nil _ _ _, Below.refl _ _⟩
    case round =>
      obtain ⟨j, o2, c2, DD, hj, rfl, rfl, hDD, hO, hBB⟩ := hrel
      by_cases hlt : j < ls.length
      · obtain ⟨b, off, rfl, hlt1, ha⟩ := G.out (by omega)
        obtain ⟨x0, x1, x2, x3, x4, x5, x6, x7⟩ := (ha j hlt).later hlt1 (HB3.out.trans (hBB.out.mono HB3.out.size))
        have q1 : (0 : Int) ≤ (j : Int) := by omega
        have q2 : (j : Int) < (ls.length : Int) := by omega
        have hds := due_step ls n k true j hlt
        rw [← hDD.out] at hds
        have Hds := hid hds
        have hdl : DD.length + 1 ≤ 1099511627776 := by
          rw [hDD.out]
          unfold dueL
          rw [List.length_map]
          have := List.length_filter_le (dueP n k true) (ls.take j)
          rw [List.length_take] at this
          omega
        have HFk : Hid (∀ V, Below w3.heap.size w3 V → _) := fun V hV => HFc.out ls[j] V hV
        clear ha G HFc hds hDD
        generalize ls[j] = x at *
        have hb1 : Below wr.heap.size wr (wr.alloc (lstO x)) := (Below.refl _ wr).alloc (Nat.le_refl _) _
        have hBB1 := hBB.out.trans (hb1.mono hBB.out.size)
        obtain ⟨y0, y1, y2, y3, y4, y5, y6, y7⟩ := lst_cells (heap_new wr (lstO x))
        have HXb := hid (heap_new wr (lstO x))
        have hcl := HFk.out _ hBB1
        have HO1 := hid (own_later hO.out hb1)
        have HBB1 := hid hBB1
        clear hO hBB hb1 hBB1 HFk
        unfold lstV at hcl
        unfold dueP atD at Hds
        obtain ⟨xi, xn, xk, xc, xp, xo, xs, xg⟩ := x
        simp only at Hds hcl x0 x1 x2 x3 x4 x5 x6 x7 y0 y1 y2 y3 y4 y5 y6 y7
        generalize hpx : (xn == n && xk.toList == k.toList) = P1 at *
        cases P1 with
        | false =>
          rw [Bool.false_and, if_neg Bool.false_ne_true, List.append_nil] at Hds
          clear hdl
          unfold lstO at *
          go_wp2_with (go_at_fn 46; refine hcl.mono ?_; rintro e w4 ⟨rfl, hb⟩; have HO2 := hid (own_later HO1.out hb); have HBB2 := hid (HBB1.out.trans (hb.mono HBB1.out.size)); clear hb)
          go_roundw
          case rel => exact ⟨j + 1, o2, c2, DD, by omega, by go_num, rfl, Hds.out.symm, HO2, HBB2⟩
          case measure => simp [RowKit.intOf]; omega
        | true =>
          rw [Bool.true_and] at Hds
          cases xp with
          | false =>
            rw [if_neg (by decide), List.append_nil] at Hds
            clear hdl
            unfold lstO at *
            go_wp2_with (go_at_fn 46; refine hcl.mono ?_; rintro e w4 ⟨rfl, hb⟩; have HO2 := hid (own_later HO1.out hb); have HBB2 := hid (HBB1.out.trans (hb.mono HBB1.out.size)); obtain ⟨z0, z1, z2, z3, z4, z5, z6, z7⟩ := lst_cells (blkLater hb HXb.out); clear hb)
            go_roundw
            case rel => exact ⟨j + 1, o2, c2, DD, by omega, by go_num, rfl, Hds.out.symm, HO2, HBB2⟩
            case measure => simp [RowKit.intOf]; omega
          | true =>
            rw [if_pos (by decide)] at Hds
            unfold lstO at *
            go_wp2_with (first
              | (go_at_fn 46; refine hcl.mono ?_; rintro e w4 ⟨rfl, hb⟩; have HO2 := hid (own_later HO1.out hb); have HBB2 := hid (HBB1.out.trans (hb.mono HBB1.out.size)); obtain ⟨z0, z1, z2, z3, z4, z5, z6, z7⟩ := lst_cells (blkLater hb HXb.out); obtain ⟨o4, c4, V4, hap, hown4, hbl4⟩ := run_appendI w4 w3.heap.size o2 c2 DD xi HO2.out HBB2.out.size hdl; have HAp := hid hap; have HO4 := hid hown4; have HBL := hid hbl4; clear hb hap hown4 hbl4)
              | (at_builtin; refine wpList_append_run _ rfl _ _ 43 43 rfl _ _ rfl rfl _ _ HAp.out ?_))
            go_roundw
            case rel => exact ⟨j + 1, o4, c4, DD ++ [xi], by omega, by go_num, by rw [List.length_append]; rfl, Hds.out.symm, HO4, HBB2.out.trans HBL.out⟩
            case measure => simp [RowKit.intOf]; omega
      · have hDk : DD = D := by
          rw [hDD.out, List.take_of_length_le (by omega), HD.out]
        subst hDk
        clear G HFc hDD
        go_wp2
        go_ret2
        exact ⟨o2, c2, rfl, own_base HB3.out.size hO.out, HB3.out.trans (hBB.out.mono HB3.out.size)⟩
  · go_enter Try.func22, Try.ntmps22
    go_wp2_with (first
      | (go_at_call 12; refine hC.mono ?_; rintro e w2 ⟨rfl, hb⟩; have HB2 := hid (HB.out.trans (hb.mono HB.out.size)); have HBx2 := hid (blkLater hb HBx.out); clear hb)
      | (go_at_call 42; refine (HOf.out _).mono ?_; rintro e w3 ⟨g1, rfl, hgl, h0, h1, hb⟩; have HB3 := hid (HB2.out.trans (hb.mono HB2.out.size)); obtain ⟨fn, lb, hfe, eg, hfc⟩ := (which_of h0 h1).is; simp only [Value.func.injEq, Fn.func.injEq, true_and] at hfe; obtain ⟨rfl, rfl⟩ := hfe; have HFc := hid hfc; obtain ⟨b0, b1, b2, b3⟩ := box_cells (blkLater hb HBx2.out); clear hb h0 h1 hgl hfc))
    clear hC HBx HBx2 HOf p1
    try clear p3
    try clear p2
    go_loopw [35, 14] (fun t u wr => ∃ (j : Nat) (o2 : Option Addr) (c2 : Nat) (DD : List Int), j ≤ ls.length ∧ t = .int .i64 j ∧ u = .slice o2 DD.length c2 ∧ Hid (DD = dueL (ls.take j) n k true) ∧ Hid (wr.ownsRow w3.heap.size 3 1 (.slice o2 DD.length c2) DD.length (DD.map (Value.int .i64))) ∧ Hid (Below w3.heap.size w3 wr)) (fun t _ _ => ls.length - (RowKit.intOf t).toNat)
    case atStart => exact ⟨0, none, 0, [], Nat.zero_le _, rfl, rfl, rfl, own_nil _ _ _, Below.refl _ _⟩
    case round =>
      obtain ⟨j, o2, c2, DD, hj, rfl, rfl, hDD, hO, hBB⟩ := hrel
      by_cases hlt : j < ls.length
      · obtain ⟨b, off, rfl, hlt1, ha⟩ := G.out (by omega)
        obtain ⟨x0, x1, x2, x3, x4, x5, x6, x7⟩ := (ha j hlt).later hlt1 (HB3.out.trans (hBB.out.mono HB3.out.size))
        have q1 : (0 : Int) ≤ (j : Int) := by omega
        have q2 : (j : Int) < (ls.length : Int) := by omega
        have hds := due_step ls n k true j hlt
        rw [← hDD.out] at hds
        have Hds := hid hds
        have hdl : DD.length + 1 ≤ 1099511627776 := by
          rw [hDD.out]
          unfold dueL
          rw [List.length_map]
          have := List.length_filter_le (dueP n k true) (ls.take j)
          rw [List.length_take] at this
          omega
        have HFk : Hid (∀ V, Below w3.heap.size w3 V → _) := fun V hV => HFc.out ls[j] V hV
        clear ha G HFc hds hDD
        generalize ls[j] = x at *
        have hb1 : Below wr.heap.size wr (wr.alloc (lstO x)) := (Below.refl _ wr).alloc (Nat.le_refl _) _
        have hBB1 := hBB.out.trans (hb1.mono hBB.out.size)
        obtain ⟨y0, y1, y2, y3, y4, y5, y6, y7⟩ := lst_cells (heap_new wr (lstO x))
        have HXb := hid (heap_new wr (lstO x))
        have hcl := HFk.out _ hBB1
        have HO1 := hid (own_later hO.out hb1)
        have HBB1 := hid hBB1
        clear hO hBB hb1 hBB1 HFk
        unfold lstV at hcl
        unfold dueP atD at Hds
        obtain ⟨xi, xn, xk, xc, xp, xo, xs, xg⟩ := x
        simp only at Hds hcl x0 x1 x2 x3 x4 x5 x6 x7 y0 y1 y2 y3 y4 y5 y6 y7
        generalize hpx : (xn == n && xk.toList == k.toList) = P1 at *
        cases P1 with
        | false =>
          rw [Bool.false_and, if_neg Bool.false_ne_true, List.append_nil] at Hds
          clear hdl
          unfold lstO at *
          go_wp2_with (go_at_fn 46; refine hcl.mono ?_; rintro e w4 ⟨rfl, hb⟩; have HO2 := hid (own_later HO1.out hb); have HBB2 := hid (HBB1.out.trans (hb.mono HBB1.out.size)); clear hb)
          go_roundw
          case rel => exact ⟨j + 1, o2, c2, DD, by omega, by go_num, rfl, Hds.out.symm, HO2, HBB2⟩
          case measure => simp [RowKit.intOf]; omega
        | true =>
          rw [Bool.true_and] at Hds
          cases xp with
          | false =>
            rw [if_neg (by decide), List.append_nil] at Hds
            clear hdl
            unfold lstO at *
            go_wp2_with (go_at_fn 46; refine hcl.mono ?_; rintro e w4 ⟨rfl, hb⟩; have HO2 := hid (own_later HO1.out hb); have HBB2 := hid (HBB1.out.trans (hb.mono HBB1.out.size)); obtain ⟨z0, z1, z2, z3, z4, z5, z6, z7⟩ := lst_cells (blkLater hb HXb.out); clear hb)
            go_roundw
            case rel => exact ⟨j + 1, o2, c2, DD, by omega, by go_num, rfl, Hds.out.symm, HO2, HBB2⟩
            case measure => simp [RowKit.intOf]; omega
          | true =>
            rw [if_pos (by decide)] at Hds
            unfold lstO at *
            go_wp2_with (first
              | (go_at_fn 46; refine hcl.mono ?_; rintro e w4 ⟨rfl, hb⟩; have HO2 := hid (own_later HO1.out hb); have HBB2 := hid (HBB1.out.trans (hb.mono HBB1.out.size)); obtain ⟨z0, z1, z2, z3, z4, z5, z6, z7⟩ := lst_cells (blkLater hb HXb.out); obtain ⟨o4, c4, V4, hap, hown4, hbl4⟩ := run_appendI w4 w3.heap.size o2 c2 DD xi HO2.out HBB2.out.size hdl; have HAp := hid hap; have HO4 := hid hown4; have HBL := hid hbl4; clear hb hap hown4 hbl4)
              | (at_builtin; refine wpList_append_run _ rfl _ _ 43 43 rfl _ _ rfl rfl _ _ HAp.out ?_))
            go_roundw
            case rel => exact ⟨j + 1, o4, c4, DD ++ [xi], by omega, by go_num, by rw [List.length_append]; rfl, Hds.out.symm, HO4, HBB2.out.trans HBL.out⟩
            case measure => simp [RowKit.intOf]; omega
      · have hDk : DD = D := by
          rw [hDD.out, List.take_of_length_le (by omega), HD.out]
        subst hDk
        clear G HFc hDD
        go_wp2
        go_ret2
        exact ⟨o2, c2, rfl, own_base HB3.out.size hO.out, HB3.out.trans (hBB.out.mono HB3.out.size)⟩
  · go_enter Try.func22, Try.ntmps22
    go_wp2_with (first
      | (go_at_call 12; refine hC.mono ?_; rintro e w2 ⟨rfl, hb⟩; have HB2 := hid (HB.out.trans (hb.mono HB.out.size)); have HBx2 := hid (blkLater hb HBx.out); clear hb)
      | (go_at_call 42; refine (HOf.out _).mono ?_; rintro e w3 ⟨g1, rfl, hgl, h0, h1, hb⟩; have HB3 := hid (HB2.out.trans (hb.mono HB2.out.size)); obtain ⟨fn, lb, hfe, eg, hfc⟩ := (which_of h0 h1).is; simp only [Value.func.injEq, Fn.func.injEq, true_and] at hfe; obtain ⟨rfl, rfl⟩ := hfe; have HFc := hid hfc; obtain ⟨b0, b1, b2, b3⟩ := box_cells (blkLater hb HBx2.out); clear hb h0 h1 hgl hfc))
    clear hC HBx HBx2 HOf p1
    try clear p3
    try clear p2
    go_loopw [35, 14] (fun t u wr => ∃ (j : Nat) (o2 : Option Addr) (c2 : Nat) (DD : List Int), j ≤ ls.length ∧ t = .int .i64 j ∧ u = .slice o2 DD.length c2 ∧ Hid (DD = dueL (ls.take j) n k false) ∧ Hid (wr.ownsRow w3.heap.size 3 1 (.slice o2 DD.length c2) DD.length (DD.map (Value.int .i64))) ∧ Hid (Below w3.heap.size w3 wr)) (fun t _ _ => ls.length - (RowKit.intOf t).toNat)
    case atStart => exact ⟨0, none, 0, [], Nat.zero_le _, rfl, rfl, rfl, own_nil _ _ _, Below.refl _ _⟩
    case round =>
      obtain ⟨j, o2, c2, DD, hj, rfl, rfl, hDD, hO, hBB⟩ := hrel
      by_cases hlt : j < ls.length
      · obtain ⟨b, off, rfl, hlt1, ha⟩ := G.out (by omega)
        obtain ⟨x0, x1, x2, x3, x4, x5, x6, x7⟩ := (ha j hlt).later hlt1 (HB3.out.trans (hBB.out.mono HB3.out.size))
        have q1 : (0 : Int) ≤ (j : Int) := by omega
        have q2 : (j : Int) < (ls.length : Int) := by omega
        have hds := due_step ls n k false j hlt
        rw [← hDD.out] at hds
        have Hds := hid hds
        have hdl : DD.length + 1 ≤ 1099511627776 := by
          rw [hDD.out]
          unfold dueL
          rw [List.length_map]
          have := List.length_filter_le (dueP n k false) (ls.take j)
          rw [List.length_take] at this
          omega
        have HFk : Hid (∀ V, Below w3.heap.size w3 V → _) := fun V hV => HFc.out ls[j] V hV
        clear ha G HFc hds hDD
        generalize ls[j] = x at *
        have hb1 : Below wr.heap.size wr (wr.alloc (lstO x)) := (Below.refl _ wr).alloc (Nat.le_refl _) _
        have hBB1 := hBB.out.trans (hb1.mono hBB.out.size)
        obtain ⟨y0, y1, y2, y3, y4, y5, y6, y7⟩ := lst_cells (heap_new wr (lstO x))
        have HXb := hid (heap_new wr (lstO x))
        have hcl := HFk.out _ hBB1
        have HO1 := hid (own_later hO.out hb1)
        have HBB1 := hid hBB1
        clear hO hBB hb1 hBB1 HFk
        unfold lstV at hcl
        unfold dueP atD at Hds
        obtain ⟨xi, xn, xk, xc, xp, xo, xs, xg⟩ := x
        simp only at Hds hcl x0 x1 x2 x3 x4 x5 x6 x7 y0 y1 y2 y3 y4 y5 y6 y7
        generalize hpx : (xn == n && xk.toList == k.toList) = P1 at *
        cases P1 with
        | false =>
          rw [Bool.false_and, if_neg Bool.false_ne_true, List.append_nil] at Hds
          clear hdl
          unfold lstO at *
          go_wp2_with (go_at_fn 46; refine hcl.mono ?_; rintro e w4 ⟨rfl, hb⟩; have HO2 := hid (own_later HO1.out hb); have HBB2 := hid (HBB1.out.trans (hb.mono HBB1.out.size)); clear hb)
          go_roundw
          case rel => exact ⟨j + 1, o2, c2, DD, by omega, by go_num, rfl, Hds.out.symm, HO2, HBB2⟩
          case measure => simp [RowKit.intOf]; omega
        | true =>
          rw [Bool.true_and] at Hds
          cases xp with
          | true =>
            rw [if_neg (by decide), List.append_nil] at Hds
            clear hdl
            unfold lstO at *
            go_wp2_with (go_at_fn 46; refine hcl.mono ?_; rintro e w4 ⟨rfl, hb⟩; have HO2 := hid (own_later HO1.out hb); have HBB2 := hid (HBB1.out.trans (hb.mono HBB1.out.size)); obtain ⟨z0, z1, z2, z3, z4, z5, z6, z7⟩ := lst_cells (blkLater hb HXb.out); clear hb)
            go_roundw
            case rel => exact ⟨j + 1, o2, c2, DD, by omega, by go_num, rfl, Hds.out.symm, HO2, HBB2⟩
            case measure => simp [RowKit.intOf]; omega
          | false =>
            rw [if_pos (by decide)] at Hds
            unfold lstO at *
            go_wp2_with (first
              | (go_at_fn 46; refine hcl.mono ?_; rintro e w4 ⟨rfl, hb⟩; have HO2 := hid (own_later HO1.out hb); have HBB2 := hid (HBB1.out.trans (hb.mono HBB1.out.size)); obtain ⟨z0, z1, z2, z3, z4, z5, z6, z7⟩ := lst_cells (blkLater hb HXb.out); obtain ⟨o4, c4, V4, hap, hown4, hbl4⟩ := run_appendI w4 w3.heap.size o2 c2 DD xi HO2.out HBB2.out.size hdl; have HAp := hid hap; have HO4 := hid hown4; have HBL := hid hbl4; clear hb hap hown4 hbl4)
              | (at_builtin; refine wpList_append_run _ rfl _ _ 43 43 rfl _ _ rfl rfl _ _ HAp.out ?_))
            go_roundw
            case rel => exact ⟨j + 1, o4, c4, DD ++ [xi], by omega, by go_num, by rw [List.length_append]; rfl, Hds.out.symm, HO4, HBB2.out.trans HBL.out⟩
            case measure => simp [RowKit.intOf]; omega
      · have hDk : DD = D := by
          rw [hDD.out, List.take_of_length_le (by omega), HD.out]
        subst hDk
        clear G HFc hDD
        go_wp2
        go_ret2
        exact ⟨o2, c2, rfl, own_base HB3.out.size hO.out, HB3.out.trans (hBB.out.mono HB3.out.size)⟩
end Go.Proofs.Ytgelclbjbjpacaa
