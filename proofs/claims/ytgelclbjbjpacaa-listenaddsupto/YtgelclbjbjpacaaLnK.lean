/- listen: Add, where nothing is refused ahead. -/
import Derived.Test.YtgelclbjbjpacaaLnJ
namespace Go.Proofs.Ytgelclbjbjpacaa
open Go.RowKit Go.Lib Go.Shelf

theorem wrapL {z : Int} (h0 : 0 ≤ z) (h1 : z ≤ 2199023255552) : IntKind.i64.wrap z = z := by
  simp only [IntKind.wrap, IntKind.bits, IntKind.signed]
  simp
  omega
theorem lst_thaw {W : World} {B : Nat} {x : LstD} (h : W.heap[B]? = some (lstO x)) : W.frozen? ⟨B, 0, none⟩ = false ∧ W.frozen? ⟨B, 6, none⟩ = false := by
  unfold lstO at h
  constructor <;> simp [World.frozen?, h]
/-- A row of one's own that begins behind a block leaves it as it is. -/
theorem own_row_x {W w1 : World} {base size n k : Nat} {e : TypeId} {v : Value} {xs : List Value} {ob : Obj} (h : W.ownsRow base e size v n xs) (hk : k < base) (hb : W.heap[k]? = some ob) (hg : W.grownBy w1 v.ownBlock) : w1.heap[k]? = some ob :=
  heap_grow hb hg (fun e => by have := (h.lt k e).1; omega)
theorem step_appendL {P : Program} (w : World) {ops : Array Oper} {o : Oper} {a : Act} {K : Act → World → Prop} {Q : Exit → Act → World → Prop} {E : Prop} (hgd : o.guard = none) (s x : Operand) (t tn : TypeId)
    (ho : o.op = .call { callee := .builtin .append, args := #[s, x], argTypes := #[t, tn] }) (vs vx : Value) (hs : a.eval s = vs) (hx : a.eval x = vx) (v' : Value) (w' : World) (hr : (Builtin.append_ #[t, tn] o.type #[vs, vx]).run P w = .ok v' w') (dd : Option Nat) (hdd : o.dst = dd) (h : K (a.put dd v') w') :
    if Region.wanted o (yielded ops a.tmps) = true then Oper.wp P o a w K Q else E := by
  have hw : Region.wanted o (yielded ops a.tmps) = true := by simp [Region.wanted, hgd]
  rw [if_pos hw]
  rw [← hdd] at h
  exact wp_append_run w s x t tn ho vs vx hs hx v' w' hr h
set_option maxRecDepth 100000 in
set_option maxHeartbeats 4000000 in
theorem add_aborted (v : Value) (ls : List LstD) (next : Int) (x : LstD) (root aborted : Bool) (w : World) (hr : RdL w v ls) (hw : ∀ x ∈ ls, WfL x) (hl : ls.length ≤ 1099511627775) (he : orD (errC (checkD ls next)) (refusedD x) = 0) (hs : aborted = true) :
    Calls Try.prog 8 #[.agg #[v, .int .i64 next], lstV x, .bool root, .bool aborted] w fun e w' => ∃ o c, e = .returned (.tuple #[.agg #[.slice o ls.length c, .int .i64 next], .int .i64 0, .int .i64 0]) ∧ w'.ownsRow w.heap.size 27 8 (.slice o ls.length c) ls.length (rowL ls) ∧ Below w.heap.size w w' := by
  subst hs
  obtain ⟨xi, xn, xk, xc, xp, xo, xs, xg⟩ := x
  have h3n := three_new w (.cells #[v, .int .i64 next] 24) (.cells #[.int .i64 xi, .int .i64 xn, .string xk, .int .i64 xc, .bool xp, .bool xo, .int .u8 (xs : Int), .int .i64 xg] 27) (.cells #[.slice none 0 0, .int .i64 0] 24)
  have hr3 := hr.later h3n.1
  have HCk : Hid (∀ V : World, Below _ _ V → _) := fun V hV => check_any v ls next V (hr3.later hV) hw (by omega)
  have HRf : Hid (∀ V : World, _) := fun V => refused_any ⟨xi, xn, xk, xc, xp, xo, xs, xg⟩ V
  have HRd := hid hr3
  have HBn := hid h3n.1
  have HLb := hid h3n.2.1
  have HXb := hid h3n.2.2.1
  have HRb := hid h3n.2.2.2.1
  have hsz := h3n.2.2.2.2
  obtain ⟨l0, l1, lf0, lf1⟩ := box_cells h3n.2.1
  obtain ⟨k0, k1, k2, k3, k4, k5, k6, k7⟩ := lst_cells (x := ⟨xi, xn, xk, xc, xp, xo, xs, xg⟩) h3n.2.2.1
  obtain ⟨o, cap, rfl, hcap, _⟩ := hr
  clear h3n hr3
  have hc1 : errC (checkD ls next) = 0 := by unfold orD at he; cases h : checkD ls next with
    | true => rfl
    | false =>
      rw [h] at he
      replace he : (2 : Int) = 0 := he
      exact absurd he (by decide)
  rw [hc1] at he
  replace he : refusedD _ = 0 := he
  have HMk : Hid (∀ V : World, _) := fun V => markOf_any ⟨xi, xn, xk, xc, xp, xo, xs, xg⟩ V
  have HLk : Hid (∀ V : World, _) := fun V => like_any ⟨xi, xn, xk, xc, xp, xo, xs, xg⟩ V
  rw [hc1] at HCk
  rw [he] at HRf
  have HOr : Hid (∀ V g, _ → _) := fun V g h => or_any 0 0 g V h
  replace HOr : Hid (∀ (V : World) (g : Nat), V.heap[g]? = some (.cells #[.int .i64 0, .int .i64 0] 28) → Calls Try.prog 27 #[.slice (some ⟨g, 0, none⟩) 2 2] V fun e w' => e = .returned (.int .i64 0) ∧ Below V.heap.size V w') := HOr
  clear hc1 he
  unfold lstV at HRf ⊢
  simp only at HRf k0 k1 k2 k3 k4 k5 k6 k7 ⊢
  go_enter Try.func8, Try.ntmps8
  go_upto_region 1 with fail
  generalize ((w.alloc (.cells #[.slice o ls.length cap, .int .i64 next] 24)).alloc (.cells #[.int .i64 xi, .int .i64 xn, .string xk, .int .i64 xc, .bool xp, .bool xo, .int .u8 (xs : Int), .int .i64 xg] 27)).alloc (.cells #[.slice none 0 0, .int .i64 0] 24) = W0 at *
  generalize hN : w.heap.size = N at *
  have HN := hid hN
  clear hN
  refine wp_region_held_drew (S := fun V => Below W0.heap.size W0 V) (by kernel_rfl) ((Below.refl _ _).drew) (fun hHeld => ?_)
  have HB_V0 := hid hHeld
  have HS_V0 := hid hHeld.size
  generalize W0.drew = V0 at *
  refine wpAnyH_one 0 13 (.agg #[.slice o ls.length cap, .int .i64 next]) hHeld rfl rfl (by kernel_rfl) (fun _ _ _ _ _ h => h) (by kernel_rfl) (by kernel_rfl) (by rfl) ?_ ?_
  · intro V hSw; (try dsimp only at hSw); have k0 := cellLater (B := N) hSw (by omega) l0; have k1 := cellLater (B := N) hSw (by omega) l1; go_simp
  simp only [Act.put, List.setIfInBounds_toArray, List.set_cons_zero, List.set_cons_succ]
  refine wpAnyH_one 2 15 (.agg #[.int .i64 xi, .int .i64 xn, .string xk, .int .i64 xc, .bool xp, .bool xo, .int .u8 (xs : Int), .int .i64 xg]) hHeld rfl rfl (by kernel_rfl) (fun _ _ _ _ _ h => h) (by kernel_rfl) (by kernel_rfl) (by rfl) ?_ ?_
  · intro V hSw; (try dsimp only at hSw); have k0 := cellLater (B := N + 1) hSw (by omega) k0; have k1 := cellLater (B := N + 1) hSw (by omega) k1; have k2 := cellLater (B := N + 1) hSw (by omega) k2; have k3 := cellLater (B := N + 1) hSw (by omega) k3; have k4 := cellLater (B := N + 1) hSw (by omega) k4; have k5 := cellLater (B := N + 1) hSw (by omega) k5; have k6 := cellLater (B := N + 1) hSw (by omega) k6; have k7 := cellLater (B := N + 1) hSw (by omega) k7; go_simp
  simp only [Act.put, List.setIfInBounds_toArray, List.set_cons_zero, List.set_cons_succ]
  refine wpAnyH_ready (rs := [1]) (by kernel_rfl) (by simp) ?_
  refine AllReadyH.cons rfl (fun K hK => ?_) AllReadyH.nil
  go_simp
  go_wp2_with (go_at_call 12; refine (HCk.out V0 HB_V0.out).mono ?_; rintro e V1 ⟨rfl, hb⟩; have HB_V1 := hid (HB_V0.out.trans (hb.mono HB_V0.out.size)); have HS_V1 := hid (HB_V1.out.size))
  refine hK.out _ _ HB_V1.out (fun hHeld => ?_)
  clear hK K
  refine wpAnyH_ready (rs := [3]) (by kernel_rfl) (by simp) ?_
  refine AllReadyH.cons rfl (fun K hK => ?_) AllReadyH.nil
  go_simp
  go_wp2_with (go_at_call 28; refine (HRf.out V1).mono ?_; rintro e V2 ⟨rfl, hb⟩; have HB_V2 := hid (HB_V1.out.trans (hb.mono HB_V1.out.size)); have HS_V2 := hid (HB_V2.out.size))
  refine hK.out _ _ HB_V2.out (fun hHeld => ?_)
  clear hK K
  refine wpAnyH_ready (rs := [4]) (by kernel_rfl) (by simp) ?_
  refine AllReadyH.cons rfl (fun K hK => ?_) AllReadyH.nil
  go_simp
  have hnw := heap_new V2 (.cells #[.int .i64 0, .int .i64 0] 28)
  have hb : Below V2.heap.size V2 (V2.alloc (.cells #[.int .i64 0, .int .i64 0] 28)) := (Below.refl _ V2).alloc (Nat.le_refl _) _
  generalize V2.alloc (.cells #[.int .i64 0, .int .i64 0] 28) = V3 at *
  have HB_V3 := hid (HB_V2.out.trans (hb.mono HB_V2.out.size))
  have HS_V3 := hid (HB_V3.out.size)
  refine hK.out _ _ HB_V3.out (fun hHeld => ?_)
  clear hK K hb
  refine wpAnyH_ready (rs := [5]) (by kernel_rfl) (by simp) ?_
  refine AllReadyH.cons rfl (fun K hK => ?_) AllReadyH.nil
  go_simp
  go_wp2_with (go_at_call 27; refine (HOr.out V3 _ hnw).mono ?_; rintro e V4 ⟨rfl, hb⟩; have HB_V4 := hid (HB_V3.out.trans (hb.mono HB_V3.out.size)); have HS_V4 := hid (HB_V4.out.size))
  refine hK.out _ _ HB_V4.out (fun hHeld => ?_)
  clear hK K
  refine wpAnyH_one 6 11 (.int .i64 0) hHeld rfl rfl (by kernel_rfl) (fun _ _ _ _ _ h => h) (by kernel_rfl) (by kernel_rfl) (by rfl) ?_ ?_
  · intro V hSw; (try dsimp only at hSw); go_simp
  simp only [Act.put, List.setIfInBounds_toArray, List.set_cons_zero, List.set_cons_succ]
  refine wpAnyH_done (by kernel_rfl) ?_ _
  have L4 := blkLater HB_V4.out HLb.out
  have X4 := blkLater HB_V4.out HXb.out
  have R4 := blkLater HB_V4.out HRb.out
  have HBn4 := hid (HBn.out.trans (HB_V4.out.mono (by omega)))
  have HRd4 := hid (HRd.out.later HB_V4.out)
  have hs4 : N + 1 + 1 < V4.heap.size := (Array.getElem?_eq_some_iff.1 R4).1
  clear HBn HLb HXb HRb HRd HCk HRf HOr l0 l1 lf0 lf1 k0 k1 k2 k3 k4 k5 k6 k7 hnw HB_V0 HB_V1 HB_V2 HB_V3 HB_V4 HS_V0 HS_V1 HS_V2 HS_V3 HS_V4
  obtain ⟨l0, l1, lf0, lf1⟩ := box_cells L4
  obtain ⟨k0, k1, k2, k3, k4, k5, k6, k7⟩ := lst_cells (x := ⟨xi, xn, xk, xc, xp, xo, xs, xg⟩) X4
  simp only at k0 k1 k2 k3 k4 k5 k6 k7
  have HL4 := hid L4
  have HX4 := hid X4
  have HR4 := hid R4
  clear L4 X4 R4 hsz
  go_upto_region 4 with fail
  refine wp_region_held_drew (S := fun V => Below V4.heap.size V4 V) (by kernel_rfl) ((Below.refl _ _).drew) (fun hHeld => ?_)
  have HB_U0 := hid hHeld
  have HS_U0 := hid hHeld.size
  generalize V4.drew = U0 at *
  refine wpAnyH_one 0 23 (.bool true) hHeld rfl rfl (by kernel_rfl) (fun _ _ _ _ _ h => h) (by kernel_rfl) (by kernel_rfl) (by rfl) ?_ ?_
  · intro V hSw; (try dsimp only at hSw); go_simp
  simp only [Act.put, List.setIfInBounds_toArray, List.set_cons_zero, List.set_cons_succ]
  refine wpAnyH_one 1 24 (.bool true) hHeld rfl rfl (by kernel_rfl) (fun _ _ _ _ _ h => h) (by kernel_rfl) (by kernel_rfl) (by rfl) ?_ ?_
  · intro V hSw; (try dsimp only at hSw); go_simp
  simp only [Act.put, List.setIfInBounds_toArray, List.set_cons_zero, List.set_cons_succ]
  refine wpAnyH_skips [(2, 25), (3, 26), (4, 27)] 9 hHeld (by kernel_rfl) (fun _ _ _ _ _ h => h) (by kernel_rfl) (by kernel_rfl) ?_
  simp only [actAfter, listedAfter, Act.put, List.setIfInBounds_toArray, List.set_cons_zero, List.set_cons_succ]
  refine wpAnyH_one 5 28 (.bool true) hHeld rfl rfl (by kernel_rfl) (fun _ _ _ _ _ h => h) (by kernel_rfl) (by kernel_rfl) (by rfl) ?_ ?_
  · intro V hSw; (try dsimp only at hSw); go_simp
  simp only [Act.put, List.setIfInBounds_toArray, List.set_cons_zero, List.set_cons_succ]
  refine wpAnyH_one 6 29 (.bool true) hHeld rfl rfl (by kernel_rfl) (fun _ _ _ _ _ h => h) (by kernel_rfl) (by kernel_rfl) (by rfl) ?_ ?_
  · intro V hSw; (try dsimp only at hSw); go_simp
  simp only [Act.put, List.setIfInBounds_toArray, List.set_cons_zero, List.set_cons_succ]
  refine wpAnyH_skips [(7, 30), (8, 31), (9, 32), (10, 33), (11, 34), (12, 35)] 1 hHeld (by kernel_rfl) (fun _ _ _ _ _ h => h) (by kernel_rfl) (by kernel_rfl) ?_
  simp only [actAfter, listedAfter, Act.put, List.setIfInBounds_toArray, List.set_cons_zero, List.set_cons_succ]
  refine wpAnyH_one 13 36 (.bool true) hHeld rfl rfl (by kernel_rfl) (fun _ _ _ _ _ h => h) (by kernel_rfl) (by kernel_rfl) (by rfl) ?_ ?_
  · intro V hSw; (try dsimp only at hSw); go_simp
  simp only [Act.put, List.setIfInBounds_toArray, List.set_cons_zero, List.set_cons_succ]
  refine wpAnyH_done (by kernel_rfl) ?_ _
  have LU := blkLater HB_U0.out HL4.out
  have XU := blkLater HB_U0.out HX4.out
  have RU := blkLater HB_U0.out HR4.out
  have HBU := hid (HBn4.out.trans (HB_U0.out.mono (by omega)))
  have hsU : N + 1 + 1 < U0.heap.size := by have := HB_U0.out.size; omega
  have HRdU := hid (HRd4.out.later HB_U0.out)
  clear HBn4 HRd4 HL4 HX4 HR4 l0 l1 lf0 lf1 k0 k1 k2 k3 k4 k5 k6 k7
  obtain ⟨l0, l1, lf0, lf1⟩ := box_cells LU
  obtain ⟨k0, k1, k2, k3, k4, k5, k6, k7⟩ := lst_cells (x := ⟨xi, xn, xk, xc, xp, xo, xs, xg⟩) XU
  simp only at k0 k1 k2 k3 k4 k5 k6 k7
  obtain ⟨rr0, rr1, rf0, rf1⟩ := box_cells RU
  have HLU := hid LU
  have HXU := hid XU
  have HRU := hid RU
  clear LU XU RU
  have HKp := kept_any _ _ ls (fun _ => true) next U0 HRdU.out hl (which_all U0)
  rw [List.filter_eq_self.2 (fun _ _ => rfl)] at HKp
  go_wp2_with (go_at_call 32; refine HKp.mono ?_; rintro e w9 ⟨o2, c2, rfl, hown, hb⟩; have HB9 := hid (HBU.out.trans (hb.mono (by omega))); have HR9 := hid (blkLater hb HRU.out); have HOw := hid hown; obtain ⟨v0, v1, vf0, vf1⟩ := box_cells HR9.out; clear hb hown)
  have e0 := set_box (k := 0) (v := .slice o2 ls.length c2) HR9.out
  have e1 := set_box (k := 1) (v := .int .i64 next) e0
  obtain ⟨r0, r1, r2, r3⟩ := box_cells e1
  have hN := HN.out
  subst hN
  exact bodyPost_ret (v := .tuple #[.agg #[.slice o2 ls.length c2, .int .i64 next], .int .i64 0, .int .i64 0]) (by simp [results, Try.results8, go_sem, r0, r1]) rfl ⟨o2, c2, rfl, own_base HBU.out.size (own_set (own_set HOw.out HR9.out (by decide) _) e0 (by decide) _), (HB9.out.setCell (p := ⟨w.heap.size + 1 + 1, 0, none⟩) (by show _ ≤ w.heap.size + 1 + 1; omega) _).setCell (p := ⟨w.heap.size + 1 + 1, 1, none⟩) (by show _ ≤ w.heap.size + 1 + 1; omega) _⟩
set_option maxRecDepth 100000 in
set_option maxHeartbeats 4000000 in
theorem add_cb (v : Value) (ls : List LstD) (next : Int) (x : LstD) (root aborted : Bool) (w : World) (hr : RdL w v ls) (hw : ∀ x ∈ ls, WfL x) (hl : ls.length ≤ 1099511627775) (he : orD (errC (checkD ls next)) (refusedD x) = 0) (ha : aborted = false) (hs : (x.cb == 0) = true) :
    Calls Try.prog 8 #[.agg #[v, .int .i64 next], lstV x, .bool root, .bool aborted] w fun e w' => ∃ o c, e = .returned (.tuple #[.agg #[.slice o ls.length c, .int .i64 next], .int .i64 0, .int .i64 0]) ∧ w'.ownsRow w.heap.size 27 8 (.slice o ls.length c) ls.length (rowL ls) ∧ Below w.heap.size w w' := by
  subst ha
  obtain ⟨xi, xn, xk, xc, xp, xo, xs, xg⟩ := x
  have h3n := three_new w (.cells #[v, .int .i64 next] 24) (.cells #[.int .i64 xi, .int .i64 xn, .string xk, .int .i64 xc, .bool xp, .bool xo, .int .u8 (xs : Int), .int .i64 xg] 27) (.cells #[.slice none 0 0, .int .i64 0] 24)
  have hr3 := hr.later h3n.1
  have HCk : Hid (∀ V : World, Below _ _ V → _) := fun V hV => check_any v ls next V (hr3.later hV) hw (by omega)
  have HRf : Hid (∀ V : World, _) := fun V => refused_any ⟨xi, xn, xk, xc, xp, xo, xs, xg⟩ V
  have HRd := hid hr3
  have HBn := hid h3n.1
  have HLb := hid h3n.2.1
  have HXb := hid h3n.2.2.1
  have HRb := hid h3n.2.2.2.1
  have hsz := h3n.2.2.2.2
  obtain ⟨l0, l1, lf0, lf1⟩ := box_cells h3n.2.1
  obtain ⟨k0, k1, k2, k3, k4, k5, k6, k7⟩ := lst_cells (x := ⟨xi, xn, xk, xc, xp, xo, xs, xg⟩) h3n.2.2.1
  obtain ⟨o, cap, rfl, hcap, _⟩ := hr
  clear h3n hr3
  have hc1 : errC (checkD ls next) = 0 := by unfold orD at he; cases h : checkD ls next with
    | true => rfl
    | false =>
      rw [h] at he
      replace he : (2 : Int) = 0 := he
      exact absurd he (by decide)
  rw [hc1] at he
  replace he : refusedD _ = 0 := he
  have HMk : Hid (∀ V : World, _) := fun V => markOf_any ⟨xi, xn, xk, xc, xp, xo, xs, xg⟩ V
  have HLk : Hid (∀ V : World, _) := fun V => like_any ⟨xi, xn, xk, xc, xp, xo, xs, xg⟩ V
  rw [hc1] at HCk
  rw [he] at HRf
  have HOr : Hid (∀ V g, _ → _) := fun V g h => or_any 0 0 g V h
  replace HOr : Hid (∀ (V : World) (g : Nat), V.heap[g]? = some (.cells #[.int .i64 0, .int .i64 0] 28) → Calls Try.prog 27 #[.slice (some ⟨g, 0, none⟩) 2 2] V fun e w' => e = .returned (.int .i64 0) ∧ Below V.heap.size V w') := HOr
  clear hc1 he
  unfold lstV at HRf ⊢
  simp only at HRf k0 k1 k2 k3 k4 k5 k6 k7 ⊢
  go_enter Try.func8, Try.ntmps8
  go_upto_region 1 with fail
  generalize ((w.alloc (.cells #[.slice o ls.length cap, .int .i64 next] 24)).alloc (.cells #[.int .i64 xi, .int .i64 xn, .string xk, .int .i64 xc, .bool xp, .bool xo, .int .u8 (xs : Int), .int .i64 xg] 27)).alloc (.cells #[.slice none 0 0, .int .i64 0] 24) = W0 at *
  generalize hN : w.heap.size = N at *
  have HN := hid hN
  clear hN
  refine wp_region_held_drew (S := fun V => Below W0.heap.size W0 V) (by kernel_rfl) ((Below.refl _ _).drew) (fun hHeld => ?_)
  have HB_V0 := hid hHeld
  have HS_V0 := hid hHeld.size
  generalize W0.drew = V0 at *
  refine wpAnyH_one 0 13 (.agg #[.slice o ls.length cap, .int .i64 next]) hHeld rfl rfl (by kernel_rfl) (fun _ _ _ _ _ h => h) (by kernel_rfl) (by kernel_rfl) (by rfl) ?_ ?_
  · intro V hSw; (try dsimp only at hSw); have k0 := cellLater (B := N) hSw (by omega) l0; have k1 := cellLater (B := N) hSw (by omega) l1; go_simp
  simp only [Act.put, List.setIfInBounds_toArray, List.set_cons_zero, List.set_cons_succ]
  refine wpAnyH_one 2 15 (.agg #[.int .i64 xi, .int .i64 xn, .string xk, .int .i64 xc, .bool xp, .bool xo, .int .u8 (xs : Int), .int .i64 xg]) hHeld rfl rfl (by kernel_rfl) (fun _ _ _ _ _ h => h) (by kernel_rfl) (by kernel_rfl) (by rfl) ?_ ?_
  · intro V hSw; (try dsimp only at hSw); have k0 := cellLater (B := N + 1) hSw (by omega) k0; have k1 := cellLater (B := N + 1) hSw (by omega) k1; have k2 := cellLater (B := N + 1) hSw (by omega) k2; have k3 := cellLater (B := N + 1) hSw (by omega) k3; have k4 := cellLater (B := N + 1) hSw (by omega) k4; have k5 := cellLater (B := N + 1) hSw (by omega) k5; have k6 := cellLater (B := N + 1) hSw (by omega) k6; have k7 := cellLater (B := N + 1) hSw (by omega) k7; go_simp
  simp only [Act.put, List.setIfInBounds_toArray, List.set_cons_zero, List.set_cons_succ]
  refine wpAnyH_ready (rs := [1]) (by kernel_rfl) (by simp) ?_
  refine AllReadyH.cons rfl (fun K hK => ?_) AllReadyH.nil
  go_simp
  go_wp2_with (go_at_call 12; refine (HCk.out V0 HB_V0.out).mono ?_; rintro e V1 ⟨rfl, hb⟩; have HB_V1 := hid (HB_V0.out.trans (hb.mono HB_V0.out.size)); have HS_V1 := hid (HB_V1.out.size))
  refine hK.out _ _ HB_V1.out (fun hHeld => ?_)
  clear hK K
  refine wpAnyH_ready (rs := [3]) (by kernel_rfl) (by simp) ?_
  refine AllReadyH.cons rfl (fun K hK => ?_) AllReadyH.nil
  go_simp
  go_wp2_with (go_at_call 28; refine (HRf.out V1).mono ?_; rintro e V2 ⟨rfl, hb⟩; have HB_V2 := hid (HB_V1.out.trans (hb.mono HB_V1.out.size)); have HS_V2 := hid (HB_V2.out.size))
  refine hK.out _ _ HB_V2.out (fun hHeld => ?_)
  clear hK K
  refine wpAnyH_ready (rs := [4]) (by kernel_rfl) (by simp) ?_
  refine AllReadyH.cons rfl (fun K hK => ?_) AllReadyH.nil
  go_simp
  have hnw := heap_new V2 (.cells #[.int .i64 0, .int .i64 0] 28)
  have hb : Below V2.heap.size V2 (V2.alloc (.cells #[.int .i64 0, .int .i64 0] 28)) := (Below.refl _ V2).alloc (Nat.le_refl _) _
  generalize V2.alloc (.cells #[.int .i64 0, .int .i64 0] 28) = V3 at *
  have HB_V3 := hid (HB_V2.out.trans (hb.mono HB_V2.out.size))
  have HS_V3 := hid (HB_V3.out.size)
  refine hK.out _ _ HB_V3.out (fun hHeld => ?_)
  clear hK K hb
  refine wpAnyH_ready (rs := [5]) (by kernel_rfl) (by simp) ?_
  refine AllReadyH.cons rfl (fun K hK => ?_) AllReadyH.nil
  go_simp
  go_wp2_with (go_at_call 27; refine (HOr.out V3 _ hnw).mono ?_; rintro e V4 ⟨rfl, hb⟩; have HB_V4 := hid (HB_V3.out.trans (hb.mono HB_V3.out.size)); have HS_V4 := hid (HB_V4.out.size))
  refine hK.out _ _ HB_V4.out (fun hHeld => ?_)
  clear hK K
  refine wpAnyH_one 6 11 (.int .i64 0) hHeld rfl rfl (by kernel_rfl) (fun _ _ _ _ _ h => h) (by kernel_rfl) (by kernel_rfl) (by rfl) ?_ ?_
  · intro V hSw; (try dsimp only at hSw); go_simp
  simp only [Act.put, List.setIfInBounds_toArray, List.set_cons_zero, List.set_cons_succ]
  refine wpAnyH_done (by kernel_rfl) ?_ _
  have L4 := blkLater HB_V4.out HLb.out
  have X4 := blkLater HB_V4.out HXb.out
  have R4 := blkLater HB_V4.out HRb.out
  have HBn4 := hid (HBn.out.trans (HB_V4.out.mono (by omega)))
  have HRd4 := hid (HRd.out.later HB_V4.out)
  have hs4 : N + 1 + 1 < V4.heap.size := (Array.getElem?_eq_some_iff.1 R4).1
  clear HBn HLb HXb HRb HRd HCk HRf HOr l0 l1 lf0 lf1 k0 k1 k2 k3 k4 k5 k6 k7 hnw HB_V0 HB_V1 HB_V2 HB_V3 HB_V4 HS_V0 HS_V1 HS_V2 HS_V3 HS_V4
  obtain ⟨l0, l1, lf0, lf1⟩ := box_cells L4
  obtain ⟨k0, k1, k2, k3, k4, k5, k6, k7⟩ := lst_cells (x := ⟨xi, xn, xk, xc, xp, xo, xs, xg⟩) X4
  simp only at k0 k1 k2 k3 k4 k5 k6 k7
  have HL4 := hid L4
  have HX4 := hid X4
  have HR4 := hid R4
  clear L4 X4 R4 hsz
  go_upto_region 4 with fail
  refine wp_region_held_drew (S := fun V => Below V4.heap.size V4 V) (by kernel_rfl) ((Below.refl _ _).drew) (fun hHeld => ?_)
  have HB_U0 := hid hHeld
  have HS_U0 := hid hHeld.size
  generalize V4.drew = U0 at *
  refine wpAnyH_one 0 23 (.bool false) hHeld rfl rfl (by kernel_rfl) (fun _ _ _ _ _ h => h) (by kernel_rfl) (by kernel_rfl) (by rfl) ?_ ?_
  · intro V hSw; (try dsimp only at hSw); go_simp
  simp only [Act.put, List.setIfInBounds_toArray, List.set_cons_zero, List.set_cons_succ]
  refine wpAnyH_one 1 24 (.bool false) hHeld rfl rfl (by kernel_rfl) (fun _ _ _ _ _ h => h) (by kernel_rfl) (by kernel_rfl) (by rfl) ?_ ?_
  · intro V hSw; (try dsimp only at hSw); go_simp
  simp only [Act.put, List.setIfInBounds_toArray, List.set_cons_zero, List.set_cons_succ]
  refine wpAnyH_one 2 25 (.pointer (some ⟨N + 1, 3, none⟩)) hHeld rfl rfl (by kernel_rfl) (fun _ _ _ _ _ h => h) (by kernel_rfl) (by kernel_rfl) (by rfl) ?_ ?_
  · intro V hSw; (try dsimp only at hSw); go_simp
  simp only [Act.put, List.setIfInBounds_toArray, List.set_cons_zero, List.set_cons_succ]
  refine wpAnyH_one 3 26 (.int .i64 xc) hHeld rfl rfl (by kernel_rfl) (fun _ _ _ _ _ h => h) (by kernel_rfl) (by kernel_rfl) (by rfl) ?_ ?_
  · intro V hSw; (try dsimp only at hSw); have k0 := cellLater (B := N + 1) hSw (by omega) k3; go_simp
  simp only [Act.put, List.setIfInBounds_toArray, List.set_cons_zero, List.set_cons_succ]
  refine wpAnyH_one 4 27 (.bool true) hHeld rfl rfl (by kernel_rfl) (fun _ _ _ _ _ h => h) (by kernel_rfl) (by kernel_rfl) (by rfl) ?_ ?_
  · intro V hSw; (try dsimp only at hSw); go_simp
  simp only [Act.put, List.setIfInBounds_toArray, List.set_cons_zero, List.set_cons_succ]
  refine wpAnyH_one 5 28 (.bool true) hHeld rfl rfl (by kernel_rfl) (fun _ _ _ _ _ h => h) (by kernel_rfl) (by kernel_rfl) (by rfl) ?_ ?_
  · intro V hSw; (try dsimp only at hSw); go_simp
  simp only [Act.put, List.setIfInBounds_toArray, List.set_cons_zero, List.set_cons_succ]
  refine wpAnyH_one 6 29 (.bool true) hHeld rfl rfl (by kernel_rfl) (fun _ _ _ _ _ h => h) (by kernel_rfl) (by kernel_rfl) (by rfl) ?_ ?_
  · intro V hSw; (try dsimp only at hSw); go_simp
  simp only [Act.put, List.setIfInBounds_toArray, List.set_cons_zero, List.set_cons_succ]
  refine wpAnyH_skips [(7, 30), (8, 31), (9, 32), (10, 33), (11, 34), (12, 35)] 1 hHeld (by kernel_rfl) (fun _ _ _ _ _ h => h) (by kernel_rfl) (by kernel_rfl) ?_
  simp only [actAfter, listedAfter, Act.put, List.setIfInBounds_toArray, List.set_cons_zero, List.set_cons_succ]
  refine wpAnyH_one 13 36 (.bool true) hHeld rfl rfl (by kernel_rfl) (fun _ _ _ _ _ h => h) (by kernel_rfl) (by kernel_rfl) (by rfl) ?_ ?_
  · intro V hSw; (try dsimp only at hSw); go_simp
  simp only [Act.put, List.setIfInBounds_toArray, List.set_cons_zero, List.set_cons_succ]
  refine wpAnyH_done (by kernel_rfl) ?_ _
  have LU := blkLater HB_U0.out HL4.out
  have XU := blkLater HB_U0.out HX4.out
  have RU := blkLater HB_U0.out HR4.out
  have HBU := hid (HBn4.out.trans (HB_U0.out.mono (by omega)))
  have hsU : N + 1 + 1 < U0.heap.size := by have := HB_U0.out.size; omega
  have HRdU := hid (HRd4.out.later HB_U0.out)
  clear HBn4 HRd4 HL4 HX4 HR4 l0 l1 lf0 lf1 k0 k1 k2 k3 k4 k5 k6 k7
  obtain ⟨l0, l1, lf0, lf1⟩ := box_cells LU
  obtain ⟨k0, k1, k2, k3, k4, k5, k6, k7⟩ := lst_cells (x := ⟨xi, xn, xk, xc, xp, xo, xs, xg⟩) XU
  simp only at k0 k1 k2 k3 k4 k5 k6 k7
  obtain ⟨rr0, rr1, rf0, rf1⟩ := box_cells RU
  have HLU := hid LU
  have HXU := hid XU
  have HRU := hid RU
  clear LU XU RU
  have HKp := kept_any _ _ ls (fun _ => true) next U0 HRdU.out hl (which_all U0)
  rw [List.filter_eq_self.2 (fun _ _ => rfl)] at HKp
  go_wp2_with (go_at_call 32; refine HKp.mono ?_; rintro e w9 ⟨o2, c2, rfl, hown, hb⟩; have HB9 := hid (HBU.out.trans (hb.mono (by omega))); have HR9 := hid (blkLater hb HRU.out); have HOw := hid hown; obtain ⟨v0, v1, vf0, vf1⟩ := box_cells HR9.out; clear hb hown)
  have e0 := set_box (k := 0) (v := .slice o2 ls.length c2) HR9.out
  have e1 := set_box (k := 1) (v := .int .i64 next) e0
  obtain ⟨r0, r1, r2, r3⟩ := box_cells e1
  have hN := HN.out
  subst hN
  exact bodyPost_ret (v := .tuple #[.agg #[.slice o2 ls.length c2, .int .i64 next], .int .i64 0, .int .i64 0]) (by simp [results, Try.results8, go_sem, r0, r1]) rfl ⟨o2, c2, rfl, own_base HBU.out.size (own_set (own_set HOw.out HR9.out (by decide) _) e0 (by decide) _), (HB9.out.setCell (p := ⟨w.heap.size + 1 + 1, 0, none⟩) (by show _ ≤ w.heap.size + 1 + 1; omega) _).setCell (p := ⟨w.heap.size + 1 + 1, 1, none⟩) (by show _ ≤ w.heap.size + 1 + 1; omega) _⟩
set_option maxRecDepth 100000 in
set_option maxHeartbeats 4000000 in
theorem add_like (v : Value) (ls : List LstD) (next : Int) (x : LstD) (root aborted : Bool) (w : World) (hr : RdL w v ls) (hw : ∀ x ∈ ls, WfL x) (hl : ls.length ≤ 1099511627775) (he : orD (errC (checkD ls next)) (refusedD x) = 0) (ha : aborted = false) (hz : (x.cb == 0) = false) (hs : ls.any (fun z => markEq z x) = true) :
    Calls Try.prog 8 #[.agg #[v, .int .i64 next], lstV x, .bool root, .bool aborted] w fun e w' => ∃ o c, e = .returned (.tuple #[.agg #[.slice o ls.length c, .int .i64 next], .int .i64 0, .int .i64 0]) ∧ w'.ownsRow w.heap.size 27 8 (.slice o ls.length c) ls.length (rowL ls) ∧ Below w.heap.size w w' := by
  subst ha
  obtain ⟨xi, xn, xk, xc, xp, xo, xs, xg⟩ := x
  have h3n := three_new w (.cells #[v, .int .i64 next] 24) (.cells #[.int .i64 xi, .int .i64 xn, .string xk, .int .i64 xc, .bool xp, .bool xo, .int .u8 (xs : Int), .int .i64 xg] 27) (.cells #[.slice none 0 0, .int .i64 0] 24)
  have hr3 := hr.later h3n.1
  have HCk : Hid (∀ V : World, Below _ _ V → _) := fun V hV => check_any v ls next V (hr3.later hV) hw (by omega)
  have HRf : Hid (∀ V : World, _) := fun V => refused_any ⟨xi, xn, xk, xc, xp, xo, xs, xg⟩ V
  have HRd := hid hr3
  have HBn := hid h3n.1
  have HLb := hid h3n.2.1
  have HXb := hid h3n.2.2.1
  have HRb := hid h3n.2.2.2.1
  have hsz := h3n.2.2.2.2
  obtain ⟨l0, l1, lf0, lf1⟩ := box_cells h3n.2.1
  obtain ⟨k0, k1, k2, k3, k4, k5, k6, k7⟩ := lst_cells (x := ⟨xi, xn, xk, xc, xp, xo, xs, xg⟩) h3n.2.2.1
  obtain ⟨o, cap, rfl, hcap, _⟩ := hr
  clear h3n hr3
  have hc1 : errC (checkD ls next) = 0 := by unfold orD at he; cases h : checkD ls next with
    | true => rfl
    | false =>
      rw [h] at he
      replace he : (2 : Int) = 0 := he
      exact absurd he (by decide)
  rw [hc1] at he
  replace he : refusedD _ = 0 := he
  have HMk : Hid (∀ V : World, _) := fun V => markOf_any ⟨xi, xn, xk, xc, xp, xo, xs, xg⟩ V
  have HLk : Hid (∀ V : World, _) := fun V => like_any ⟨xi, xn, xk, xc, xp, xo, xs, xg⟩ V
  rw [hc1] at HCk
  rw [he] at HRf
  have HOr : Hid (∀ V g, _ → _) := fun V g h => or_any 0 0 g V h
  replace HOr : Hid (∀ (V : World) (g : Nat), V.heap[g]? = some (.cells #[.int .i64 0, .int .i64 0] 28) → Calls Try.prog 27 #[.slice (some ⟨g, 0, none⟩) 2 2] V fun e w' => e = .returned (.int .i64 0) ∧ Below V.heap.size V w') := HOr
  clear hc1 he
  unfold lstV at HRf ⊢
  simp only at HRf k0 k1 k2 k3 k4 k5 k6 k7 ⊢
  go_enter Try.func8, Try.ntmps8
  go_upto_region 1 with fail
  generalize ((w.alloc (.cells #[.slice o ls.length cap, .int .i64 next] 24)).alloc (.cells #[.int .i64 xi, .int .i64 xn, .string xk, .int .i64 xc, .bool xp, .bool xo, .int .u8 (xs : Int), .int .i64 xg] 27)).alloc (.cells #[.slice none 0 0, .int .i64 0] 24) = W0 at *
  generalize hN : w.heap.size = N at *
  have HN := hid hN
  clear hN
  refine wp_region_held_drew (S := fun V => Below W0.heap.size W0 V) (by kernel_rfl) ((Below.refl _ _).drew) (fun hHeld => ?_)
  have HB_V0 := hid hHeld
  have HS_V0 := hid hHeld.size
  generalize W0.drew = V0 at *
  refine wpAnyH_one 0 13 (.agg #[.slice o ls.length cap, .int .i64 next]) hHeld rfl rfl (by kernel_rfl) (fun _ _ _ _ _ h => h) (by kernel_rfl) (by kernel_rfl) (by rfl) ?_ ?_
  · intro V hSw; (try dsimp only at hSw); have k0 := cellLater (B := N) hSw (by omega) l0; have k1 := cellLater (B := N) hSw (by omega) l1; go_simp
  simp only [Act.put, List.setIfInBounds_toArray, List.set_cons_zero, List.set_cons_succ]
  refine wpAnyH_one 2 15 (.agg #[.int .i64 xi, .int .i64 xn, .string xk, .int .i64 xc, .bool xp, .bool xo, .int .u8 (xs : Int), .int .i64 xg]) hHeld rfl rfl (by kernel_rfl) (fun _ _ _ _ _ h => h) (by kernel_rfl) (by kernel_rfl) (by rfl) ?_ ?_
  · intro V hSw; (try dsimp only at hSw); have k0 := cellLater (B := N + 1) hSw (by omega) k0; have k1 := cellLater (B := N + 1) hSw (by omega) k1; have k2 := cellLater (B := N + 1) hSw (by omega) k2; have k3 := cellLater (B := N + 1) hSw (by omega) k3; have k4 := cellLater (B := N + 1) hSw (by omega) k4; have k5 := cellLater (B := N + 1) hSw (by omega) k5; have k6 := cellLater (B := N + 1) hSw (by omega) k6; have k7 := cellLater (B := N + 1) hSw (by omega) k7; go_simp
  simp only [Act.put, List.setIfInBounds_toArray, List.set_cons_zero, List.set_cons_succ]
  refine wpAnyH_ready (rs := [1]) (by kernel_rfl) (by simp) ?_
  refine AllReadyH.cons rfl (fun K hK => ?_) AllReadyH.nil
  go_simp
  go_wp2_with (go_at_call 12; refine (HCk.out V0 HB_V0.out).mono ?_; rintro e V1 ⟨rfl, hb⟩; have HB_V1 := hid (HB_V0.out.trans (hb.mono HB_V0.out.size)); have HS_V1 := hid (HB_V1.out.size))
  refine hK.out _ _ HB_V1.out (fun hHeld => ?_)
  clear hK K
  refine wpAnyH_ready (rs := [3]) (by kernel_rfl) (by simp) ?_
  refine AllReadyH.cons rfl (fun K hK => ?_) AllReadyH.nil
  go_simp
  go_wp2_with (go_at_call 28; refine (HRf.out V1).mono ?_; rintro e V2 ⟨rfl, hb⟩; have HB_V2 := hid (HB_V1.out.trans (hb.mono HB_V1.out.size)); have HS_V2 := hid (HB_V2.out.size))
  refine hK.out _ _ HB_V2.out (fun hHeld => ?_)
  clear hK K
  refine wpAnyH_ready (rs := [4]) (by kernel_rfl) (by simp) ?_
  refine AllReadyH.cons rfl (fun K hK => ?_) AllReadyH.nil
  go_simp
  have hnw := heap_new V2 (.cells #[.int .i64 0, .int .i64 0] 28)
  have hb : Below V2.heap.size V2 (V2.alloc (.cells #[.int .i64 0, .int .i64 0] 28)) := (Below.refl _ V2).alloc (Nat.le_refl _) _
  generalize V2.alloc (.cells #[.int .i64 0, .int .i64 0] 28) = V3 at *
  have HB_V3 := hid (HB_V2.out.trans (hb.mono HB_V2.out.size))
  have HS_V3 := hid (HB_V3.out.size)
  refine hK.out _ _ HB_V3.out (fun hHeld => ?_)
  clear hK K hb
  refine wpAnyH_ready (rs := [5]) (by kernel_rfl) (by simp) ?_
  refine AllReadyH.cons rfl (fun K hK => ?_) AllReadyH.nil
  go_simp
  go_wp2_with (go_at_call 27; refine (HOr.out V3 _ hnw).mono ?_; rintro e V4 ⟨rfl, hb⟩; have HB_V4 := hid (HB_V3.out.trans (hb.mono HB_V3.out.size)); have HS_V4 := hid (HB_V4.out.size))
  refine hK.out _ _ HB_V4.out (fun hHeld => ?_)
  clear hK K
  refine wpAnyH_one 6 11 (.int .i64 0) hHeld rfl rfl (by kernel_rfl) (fun _ _ _ _ _ h => h) (by kernel_rfl) (by kernel_rfl) (by rfl) ?_ ?_
  · intro V hSw; (try dsimp only at hSw); go_simp
  simp only [Act.put, List.setIfInBounds_toArray, List.set_cons_zero, List.set_cons_succ]
  refine wpAnyH_done (by kernel_rfl) ?_ _
  have L4 := blkLater HB_V4.out HLb.out
  have X4 := blkLater HB_V4.out HXb.out
  have R4 := blkLater HB_V4.out HRb.out
  have HBn4 := hid (HBn.out.trans (HB_V4.out.mono (by omega)))
  have HRd4 := hid (HRd.out.later HB_V4.out)
  have hs4 : N + 1 + 1 < V4.heap.size := (Array.getElem?_eq_some_iff.1 R4).1
  clear HBn HLb HXb HRb HRd HCk HRf HOr l0 l1 lf0 lf1 k0 k1 k2 k3 k4 k5 k6 k7 hnw HB_V0 HB_V1 HB_V2 HB_V3 HB_V4 HS_V0 HS_V1 HS_V2 HS_V3 HS_V4
  obtain ⟨l0, l1, lf0, lf1⟩ := box_cells L4
  obtain ⟨k0, k1, k2, k3, k4, k5, k6, k7⟩ := lst_cells (x := ⟨xi, xn, xk, xc, xp, xo, xs, xg⟩) X4
  simp only at k0 k1 k2 k3 k4 k5 k6 k7
  have HL4 := hid L4
  have HX4 := hid X4
  have HR4 := hid R4
  clear L4 X4 R4 hsz
  go_upto_region 4 with fail
  have HCf : Hid (∀ V : World, Below V4.heap.size V4 V → ∀ f, Which V f (fun z => markEq z ⟨xi, xn, xk, xc, xp, xo, xs, xg⟩) → _) := fun V hV f hf => containsL_any _ f ls _ V (HRd4.out.later hV) (by omega) hf
  rw [hs] at HCf
  unfold lstV at HMk
  unfold markV at HMk HLk
  simp only at HMk HLk
  refine wp_region_held_drew (S := fun V => Below V4.heap.size V4 V) (by kernel_rfl) ((Below.refl _ _).drew) (fun hHeld => ?_)
  have HB_U0 := hid hHeld
  have HS_U0 := hid hHeld.size
  generalize V4.drew = U0 at *
  refine wpAnyH_one 0 23 (.bool false) hHeld rfl rfl (by kernel_rfl) (fun _ _ _ _ _ h => h) (by kernel_rfl) (by kernel_rfl) (by rfl) ?_ ?_
  · intro V hSw; (try dsimp only at hSw); go_simp
  simp only [Act.put, List.setIfInBounds_toArray, List.set_cons_zero, List.set_cons_succ]
  refine wpAnyH_one 1 24 (.bool false) hHeld rfl rfl (by kernel_rfl) (fun _ _ _ _ _ h => h) (by kernel_rfl) (by kernel_rfl) (by rfl) ?_ ?_
  · intro V hSw; (try dsimp only at hSw); go_simp
  simp only [Act.put, List.setIfInBounds_toArray, List.set_cons_zero, List.set_cons_succ]
  refine wpAnyH_one 2 25 (.pointer (some ⟨N + 1, 3, none⟩)) hHeld rfl rfl (by kernel_rfl) (fun _ _ _ _ _ h => h) (by kernel_rfl) (by kernel_rfl) (by rfl) ?_ ?_
  · intro V hSw; (try dsimp only at hSw); go_simp
  simp only [Act.put, List.setIfInBounds_toArray, List.set_cons_zero, List.set_cons_succ]
  refine wpAnyH_one 3 26 (.int .i64 xc) hHeld rfl rfl (by kernel_rfl) (fun _ _ _ _ _ h => h) (by kernel_rfl) (by kernel_rfl) (by rfl) ?_ ?_
  · intro V hSw; (try dsimp only at hSw); have k0 := cellLater (B := N + 1) hSw (by omega) k3; go_simp
  simp only [Act.put, List.setIfInBounds_toArray, List.set_cons_zero, List.set_cons_succ]
  refine wpAnyH_one 4 27 (.bool false) hHeld rfl rfl (by kernel_rfl) (fun _ _ _ _ _ h => h) (by kernel_rfl) (by kernel_rfl) (by rfl) ?_ ?_
  · intro V hSw; (try dsimp only at hSw); go_simp
  simp only [Act.put, List.setIfInBounds_toArray, List.set_cons_zero, List.set_cons_succ]
  refine wpAnyH_one 5 28 (.bool false) hHeld rfl rfl (by kernel_rfl) (fun _ _ _ _ _ h => h) (by kernel_rfl) (by kernel_rfl) (by rfl) ?_ ?_
  · intro V hSw; (try dsimp only at hSw); go_simp
  simp only [Act.put, List.setIfInBounds_toArray, List.set_cons_zero, List.set_cons_succ]
  refine wpAnyH_one 6 29 (.bool false) hHeld rfl rfl (by kernel_rfl) (fun _ _ _ _ _ h => h) (by kernel_rfl) (by kernel_rfl) (by rfl) ?_ ?_
  · intro V hSw; (try dsimp only at hSw); go_simp
  simp only [Act.put, List.setIfInBounds_toArray, List.set_cons_zero, List.set_cons_succ]
  refine wpAnyH_one 7 30 (.pointer (some ⟨N, 0, none⟩)) hHeld rfl rfl (by kernel_rfl) (fun _ _ _ _ _ h => h) (by kernel_rfl) (by kernel_rfl) (by rfl) ?_ ?_
  · intro V hSw; (try dsimp only at hSw); go_simp
  simp only [Act.put, List.setIfInBounds_toArray, List.set_cons_zero, List.set_cons_succ]
  refine wpAnyH_one 8 31 (.slice o ls.length cap) hHeld rfl rfl (by kernel_rfl) (fun _ _ _ _ _ h => h) (by kernel_rfl) (by kernel_rfl) (by rfl) ?_ ?_
  · intro V hSw; (try dsimp only at hSw); have k0 := cellLater (B := N) hSw (by omega) l0; go_simp
  simp only [Act.put, List.setIfInBounds_toArray, List.set_cons_zero, List.set_cons_succ]
  refine wpAnyH_one 9 32 (.agg #[.int .i64 xi, .int .i64 xn, .string xk, .int .i64 xc, .bool xp, .bool xo, .int .u8 (xs : Int), .int .i64 xg]) hHeld rfl rfl (by kernel_rfl) (fun _ _ _ _ _ h => h) (by kernel_rfl) (by kernel_rfl) (by rfl) ?_ ?_
  · intro V hSw; (try dsimp only at hSw); have k0 := cellLater (B := N + 1) hSw (by omega) k0; have k1 := cellLater (B := N + 1) hSw (by omega) k1; have k2 := cellLater (B := N + 1) hSw (by omega) k2; have k3 := cellLater (B := N + 1) hSw (by omega) k3; have k4 := cellLater (B := N + 1) hSw (by omega) k4; have k5 := cellLater (B := N + 1) hSw (by omega) k5; have k6 := cellLater (B := N + 1) hSw (by omega) k6; have k7 := cellLater (B := N + 1) hSw (by omega) k7; go_simp
  simp only [Act.put, List.setIfInBounds_toArray, List.set_cons_zero, List.set_cons_succ]
  refine wpAnyH_ready (rs := [10]) (by kernel_rfl) (by simp) ?_
  refine AllReadyH.cons rfl (fun K hK => ?_) AllReadyH.nil
  go_simp
  go_wp2_with (go_at_call 31; refine (HMk.out U0).mono ?_; rintro e U1 ⟨rfl, hb⟩; have HB_U1 := hid (HB_U0.out.trans (hb.mono HB_U0.out.size)); have HS_U1 := hid (HB_U1.out.size))
  refine hK.out _ _ HB_U1.out (fun hHeld => ?_)
  clear hK K
  refine wpAnyH_ready (rs := [11]) (by kernel_rfl) (by simp) ?_
  refine AllReadyH.cons rfl (fun K hK => ?_) AllReadyH.nil
  go_simp
  go_wp2_with (go_at_call 30; refine (HLk.out U1).mono ?_; rintro e U2 ⟨gl, rfl, hgl, h0, hb⟩; have HB_U2 := hid (HB_U1.out.trans (hb.mono HB_U1.out.size)); have HS_U2 := hid (HB_U2.out.size); have HWh := hid (which_like (y := ⟨xi, xn, xk, xc, xp, xo, xs, xg⟩) h0); clear h0 hgl)
  refine hK.out _ _ HB_U2.out (fun hHeld => ?_)
  clear hK K
  refine wpAnyH_ready (rs := [12]) (by kernel_rfl) (by simp) ?_
  refine AllReadyH.cons rfl (fun K hK => ?_) AllReadyH.nil
  go_simp
  go_wp2_with (go_at_call 29; refine (HCf.out U2 HB_U2.out _ HWh.out).mono ?_; rintro e U3 ⟨rfl, hb⟩; have HB_U3 := hid (HB_U2.out.trans (hb.mono HB_U2.out.size)); have HS_U3 := hid (HB_U3.out.size))
  refine hK.out _ _ HB_U3.out (fun hHeld => ?_)
  clear hK K
  refine wpAnyH_one 13 36 (.bool true) hHeld rfl rfl (by kernel_rfl) (fun _ _ _ _ _ h => h) (by kernel_rfl) (by kernel_rfl) (by rfl) ?_ ?_
  · intro V hSw; (try dsimp only at hSw); go_simp
  simp only [Act.put, List.setIfInBounds_toArray, List.set_cons_zero, List.set_cons_succ]
  refine wpAnyH_done (by kernel_rfl) ?_ _
  have LU := blkLater HB_U3.out HL4.out
  have XU := blkLater HB_U3.out HX4.out
  have RU := blkLater HB_U3.out HR4.out
  have HBU := hid (HBn4.out.trans (HB_U3.out.mono (by omega)))
  have hsU : N + 1 + 1 < U3.heap.size := by have := HB_U3.out.size; omega
  have HRdU := hid (HRd4.out.later HB_U3.out)
  clear HBn4 HRd4 HL4 HX4 HR4 l0 l1 lf0 lf1 k0 k1 k2 k3 k4 k5 k6 k7
  obtain ⟨l0, l1, lf0, lf1⟩ := box_cells LU
  obtain ⟨k0, k1, k2, k3, k4, k5, k6, k7⟩ := lst_cells (x := ⟨xi, xn, xk, xc, xp, xo, xs, xg⟩) XU
  simp only at k0 k1 k2 k3 k4 k5 k6 k7
  obtain ⟨rr0, rr1, rf0, rf1⟩ := box_cells RU
  have HLU := hid LU
  have HXU := hid XU
  have HRU := hid RU
  clear LU XU RU
  have HKp := kept_any _ _ ls (fun _ => true) next U3 HRdU.out hl (which_all U3)
  rw [List.filter_eq_self.2 (fun _ _ => rfl)] at HKp
  go_wp2_with (go_at_call 32; refine HKp.mono ?_; rintro e w9 ⟨o2, c2, rfl, hown, hb⟩; have HB9 := hid (HBU.out.trans (hb.mono (by omega))); have HR9 := hid (blkLater hb HRU.out); have HOw := hid hown; obtain ⟨v0, v1, vf0, vf1⟩ := box_cells HR9.out; clear hb hown)
  have e0 := set_box (k := 0) (v := .slice o2 ls.length c2) HR9.out
  have e1 := set_box (k := 1) (v := .int .i64 next) e0
  obtain ⟨r0, r1, r2, r3⟩ := box_cells e1
  have hN := HN.out
  subst hN
  exact bodyPost_ret (v := .tuple #[.agg #[.slice o2 ls.length c2, .int .i64 next], .int .i64 0, .int .i64 0]) (by simp [results, Try.results8, go_sem, r0, r1]) rfl ⟨o2, c2, rfl, own_base HBU.out.size (own_set (own_set HOw.out HR9.out (by decide) _) e0 (by decide) _), (HB9.out.setCell (p := ⟨w.heap.size + 1 + 1, 0, none⟩) (by show _ ≤ w.heap.size + 1 + 1; omega) _).setCell (p := ⟨w.heap.size + 1 + 1, 1, none⟩) (by show _ ≤ w.heap.size + 1 + 1; omega) _⟩
set_option maxRecDepth 100000 in
set_option maxHeartbeats 4000000 in
theorem add_full (v : Value) (ls : List LstD) (next : Int) (x : LstD) (root aborted : Bool) (w : World) (hr : RdL w v ls) (hw : ∀ x ∈ ls, WfL x) (hl : ls.length ≤ 1099511627775) (he : orD (errC (checkD ls next)) (refusedD x) = 0) (ha : aborted = false) (hz : (x.cb == 0) = false) (hs : ls.any (fun z => markEq z x) = false) (hf : ((ls.length : Int) == 1024) = true ∨ ((ls.length : Int) == 1024) = false ∧ (next == 1099511627776) = true) :
    Calls Try.prog 8 #[.agg #[v, .int .i64 next], lstV x, .bool root, .bool aborted] w fun e w' => e = .returned (.tuple #[.agg #[.slice none 0 0, .int .i64 0], .int .i64 0, .int .i64 3]) ∧ Below w.heap.size w w' := by
  subst ha
  obtain ⟨xi, xn, xk, xc, xp, xo, xs, xg⟩ := x
  have h3n := three_new w (.cells #[v, .int .i64 next] 24) (.cells #[.int .i64 xi, .int .i64 xn, .string xk, .int .i64 xc, .bool xp, .bool xo, .int .u8 (xs : Int), .int .i64 xg] 27) (.cells #[.slice none 0 0, .int .i64 0] 24)
  have hr3 := hr.later h3n.1
  have HCk : Hid (∀ V : World, Below _ _ V → _) := fun V hV => check_any v ls next V (hr3.later hV) hw (by omega)
  have HRf : Hid (∀ V : World, _) := fun V => refused_any ⟨xi, xn, xk, xc, xp, xo, xs, xg⟩ V
  have HRd := hid hr3
  have HBn := hid h3n.1
  have HLb := hid h3n.2.1
  have HXb := hid h3n.2.2.1
  have HRb := hid h3n.2.2.2.1
  have hsz := h3n.2.2.2.2
  obtain ⟨l0, l1, lf0, lf1⟩ := box_cells h3n.2.1
  obtain ⟨k0, k1, k2, k3, k4, k5, k6, k7⟩ := lst_cells (x := ⟨xi, xn, xk, xc, xp, xo, xs, xg⟩) h3n.2.2.1
  obtain ⟨o, cap, rfl, hcap, _⟩ := hr
  clear h3n hr3
  have hc1 : errC (checkD ls next) = 0 := by unfold orD at he; cases h : checkD ls next with
    | true => rfl
    | false =>
      rw [h] at he
      replace he : (2 : Int) = 0 := he
      exact absurd he (by decide)
  rw [hc1] at he
  replace he : refusedD _ = 0 := he
  have HMk : Hid (∀ V : World, _) := fun V => markOf_any ⟨xi, xn, xk, xc, xp, xo, xs, xg⟩ V
  have HLk : Hid (∀ V : World, _) := fun V => like_any ⟨xi, xn, xk, xc, xp, xo, xs, xg⟩ V
  rw [hc1] at HCk
  rw [he] at HRf
  have HOr : Hid (∀ V g, _ → _) := fun V g h => or_any 0 0 g V h
  replace HOr : Hid (∀ (V : World) (g : Nat), V.heap[g]? = some (.cells #[.int .i64 0, .int .i64 0] 28) → Calls Try.prog 27 #[.slice (some ⟨g, 0, none⟩) 2 2] V fun e w' => e = .returned (.int .i64 0) ∧ Below V.heap.size V w') := HOr
  clear hc1 he
  unfold lstV at HRf ⊢
  simp only at HRf k0 k1 k2 k3 k4 k5 k6 k7 ⊢
  go_enter Try.func8, Try.ntmps8
  go_upto_region 1 with fail
  generalize ((w.alloc (.cells #[.slice o ls.length cap, .int .i64 next] 24)).alloc (.cells #[.int .i64 xi, .int .i64 xn, .string xk, .int .i64 xc, .bool xp, .bool xo, .int .u8 (xs : Int), .int .i64 xg] 27)).alloc (.cells #[.slice none 0 0, .int .i64 0] 24) = W0 at *
  generalize hN : w.heap.size = N at *
  have HN := hid hN
  clear hN
  refine wp_region_held_drew (S := fun V => Below W0.heap.size W0 V) (by kernel_rfl) ((Below.refl _ _).drew) (fun hHeld => ?_)
  have HB_V0 := hid hHeld
  have HS_V0 := hid hHeld.size
  generalize W0.drew = V0 at *
  refine wpAnyH_one 0 13 (.agg #[.slice o ls.length cap, .int .i64 next]) hHeld rfl rfl (by kernel_rfl) (fun _ _ _ _ _ h => h) (by kernel_rfl) (by kernel_rfl) (by rfl) ?_ ?_
  · intro V hSw; (try dsimp only at hSw); have k0 := cellLater (B := N) hSw (by omega) l0; have k1 := cellLater (B := N) hSw (by omega) l1; go_simp
  simp only [Act.put, List.setIfInBounds_toArray, List.set_cons_zero, List.set_cons_succ]
  refine wpAnyH_one 2 15 (.agg #[.int .i64 xi, .int .i64 xn, .string xk, .int .i64 xc, .bool xp, .bool xo, .int .u8 (xs : Int), .int .i64 xg]) hHeld rfl rfl (by kernel_rfl) (fun _ _ _ _ _ h => h) (by kernel_rfl) (by kernel_rfl) (by rfl) ?_ ?_
  · intro V hSw; (try dsimp only at hSw); have k0 := cellLater (B := N + 1) hSw (by omega) k0; have k1 := cellLater (B := N + 1) hSw (by omega) k1; have k2 := cellLater (B := N + 1) hSw (by omega) k2; have k3 := cellLater (B := N + 1) hSw (by omega) k3; have k4 := cellLater (B := N + 1) hSw (by omega) k4; have k5 := cellLater (B := N + 1) hSw (by omega) k5; have k6 := cellLater (B := N + 1) hSw (by omega) k6; have k7 := cellLater (B := N + 1) hSw (by omega) k7; go_simp
  simp only [Act.put, List.setIfInBounds_toArray, List.set_cons_zero, List.set_cons_succ]
  refine wpAnyH_ready (rs := [1]) (by kernel_rfl) (by simp) ?_
  refine AllReadyH.cons rfl (fun K hK => ?_) AllReadyH.nil
  go_simp
  go_wp2_with (go_at_call 12; refine (HCk.out V0 HB_V0.out).mono ?_; rintro e V1 ⟨rfl, hb⟩; have HB_V1 := hid (HB_V0.out.trans (hb.mono HB_V0.out.size)); have HS_V1 := hid (HB_V1.out.size))
  refine hK.out _ _ HB_V1.out (fun hHeld => ?_)
  clear hK K
  refine wpAnyH_ready (rs := [3]) (by kernel_rfl) (by simp) ?_
  refine AllReadyH.cons rfl (fun K hK => ?_) AllReadyH.nil
  go_simp
  go_wp2_with (go_at_call 28; refine (HRf.out V1).mono ?_; rintro e V2 ⟨rfl, hb⟩; have HB_V2 := hid (HB_V1.out.trans (hb.mono HB_V1.out.size)); have HS_V2 := hid (HB_V2.out.size))
  refine hK.out _ _ HB_V2.out (fun hHeld => ?_)
  clear hK K
  refine wpAnyH_ready (rs := [4]) (by kernel_rfl) (by simp) ?_
  refine AllReadyH.cons rfl (fun K hK => ?_) AllReadyH.nil
  go_simp
  have hnw := heap_new V2 (.cells #[.int .i64 0, .int .i64 0] 28)
  have hb : Below V2.heap.size V2 (V2.alloc (.cells #[.int .i64 0, .int .i64 0] 28)) := (Below.refl _ V2).alloc (Nat.le_refl _) _
  generalize V2.alloc (.cells #[.int .i64 0, .int .i64 0] 28) = V3 at *
  have HB_V3 := hid (HB_V2.out.trans (hb.mono HB_V2.out.size))
  have HS_V3 := hid (HB_V3.out.size)
  refine hK.out _ _ HB_V3.out (fun hHeld => ?_)
  clear hK K hb
  refine wpAnyH_ready (rs := [5]) (by kernel_rfl) (by simp) ?_
  refine AllReadyH.cons rfl (fun K hK => ?_) AllReadyH.nil
  go_simp
  go_wp2_with (go_at_call 27; refine (HOr.out V3 _ hnw).mono ?_; rintro e V4 ⟨rfl, hb⟩; have HB_V4 := hid (HB_V3.out.trans (hb.mono HB_V3.out.size)); have HS_V4 := hid (HB_V4.out.size))
  refine hK.out _ _ HB_V4.out (fun hHeld => ?_)
  clear hK K
  refine wpAnyH_one 6 11 (.int .i64 0) hHeld rfl rfl (by kernel_rfl) (fun _ _ _ _ _ h => h) (by kernel_rfl) (by kernel_rfl) (by rfl) ?_ ?_
  · intro V hSw; (try dsimp only at hSw); go_simp
  simp only [Act.put, List.setIfInBounds_toArray, List.set_cons_zero, List.set_cons_succ]
  refine wpAnyH_done (by kernel_rfl) ?_ _
  have L4 := blkLater HB_V4.out HLb.out
  have X4 := blkLater HB_V4.out HXb.out
  have R4 := blkLater HB_V4.out HRb.out
  have HBn4 := hid (HBn.out.trans (HB_V4.out.mono (by omega)))
  have HRd4 := hid (HRd.out.later HB_V4.out)
  have hs4 : N + 1 + 1 < V4.heap.size := (Array.getElem?_eq_some_iff.1 R4).1
  clear HBn HLb HXb HRb HRd HCk HRf HOr l0 l1 lf0 lf1 k0 k1 k2 k3 k4 k5 k6 k7 hnw HB_V0 HB_V1 HB_V2 HB_V3 HB_V4 HS_V0 HS_V1 HS_V2 HS_V3 HS_V4
  obtain ⟨l0, l1, lf0, lf1⟩ := box_cells L4
  obtain ⟨k0, k1, k2, k3, k4, k5, k6, k7⟩ := lst_cells (x := ⟨xi, xn, xk, xc, xp, xo, xs, xg⟩) X4
  simp only at k0 k1 k2 k3 k4 k5 k6 k7
  have HL4 := hid L4
  have HX4 := hid X4
  have HR4 := hid R4
  clear L4 X4 R4 hsz
  go_upto_region 4 with fail
  have HCf : Hid (∀ V : World, Below V4.heap.size V4 V → ∀ f, Which V f (fun z => markEq z ⟨xi, xn, xk, xc, xp, xo, xs, xg⟩) → _) := fun V hV f hf => containsL_any _ f ls _ V (HRd4.out.later hV) (by omega) hf
  rw [hs] at HCf
  unfold lstV at HMk
  unfold markV at HMk HLk
  simp only at HMk HLk
  refine wp_region_held_drew (S := fun V => Below V4.heap.size V4 V) (by kernel_rfl) ((Below.refl _ _).drew) (fun hHeld => ?_)
  have HB_U0 := hid hHeld
  have HS_U0 := hid hHeld.size
  generalize V4.drew = U0 at *
  refine wpAnyH_one 0 23 (.bool false) hHeld rfl rfl (by kernel_rfl) (fun _ _ _ _ _ h => h) (by kernel_rfl) (by kernel_rfl) (by rfl) ?_ ?_
  · intro V hSw; (try dsimp only at hSw); go_simp
  simp only [Act.put, List.setIfInBounds_toArray, List.set_cons_zero, List.set_cons_succ]
  refine wpAnyH_one 1 24 (.bool false) hHeld rfl rfl (by kernel_rfl) (fun _ _ _ _ _ h => h) (by kernel_rfl) (by kernel_rfl) (by rfl) ?_ ?_
  · intro V hSw; (try dsimp only at hSw); go_simp
  simp only [Act.put, List.setIfInBounds_toArray, List.set_cons_zero, List.set_cons_succ]
  refine wpAnyH_one 2 25 (.pointer (some ⟨N + 1, 3, none⟩)) hHeld rfl rfl (by kernel_rfl) (fun _ _ _ _ _ h => h) (by kernel_rfl) (by kernel_rfl) (by rfl) ?_ ?_
  · intro V hSw; (try dsimp only at hSw); go_simp
  simp only [Act.put, List.setIfInBounds_toArray, List.set_cons_zero, List.set_cons_succ]
  refine wpAnyH_one 3 26 (.int .i64 xc) hHeld rfl rfl (by kernel_rfl) (fun _ _ _ _ _ h => h) (by kernel_rfl) (by kernel_rfl) (by rfl) ?_ ?_
  · intro V hSw; (try dsimp only at hSw); have k0 := cellLater (B := N + 1) hSw (by omega) k3; go_simp
  simp only [Act.put, List.setIfInBounds_toArray, List.set_cons_zero, List.set_cons_succ]
  refine wpAnyH_one 4 27 (.bool false) hHeld rfl rfl (by kernel_rfl) (fun _ _ _ _ _ h => h) (by kernel_rfl) (by kernel_rfl) (by rfl) ?_ ?_
  · intro V hSw; (try dsimp only at hSw); go_simp
  simp only [Act.put, List.setIfInBounds_toArray, List.set_cons_zero, List.set_cons_succ]
  refine wpAnyH_one 5 28 (.bool false) hHeld rfl rfl (by kernel_rfl) (fun _ _ _ _ _ h => h) (by kernel_rfl) (by kernel_rfl) (by rfl) ?_ ?_
  · intro V hSw; (try dsimp only at hSw); go_simp
  simp only [Act.put, List.setIfInBounds_toArray, List.set_cons_zero, List.set_cons_succ]
  refine wpAnyH_one 6 29 (.bool false) hHeld rfl rfl (by kernel_rfl) (fun _ _ _ _ _ h => h) (by kernel_rfl) (by kernel_rfl) (by rfl) ?_ ?_
  · intro V hSw; (try dsimp only at hSw); go_simp
  simp only [Act.put, List.setIfInBounds_toArray, List.set_cons_zero, List.set_cons_succ]
  refine wpAnyH_one 7 30 (.pointer (some ⟨N, 0, none⟩)) hHeld rfl rfl (by kernel_rfl) (fun _ _ _ _ _ h => h) (by kernel_rfl) (by kernel_rfl) (by rfl) ?_ ?_
  · intro V hSw; (try dsimp only at hSw); go_simp
  simp only [Act.put, List.setIfInBounds_toArray, List.set_cons_zero, List.set_cons_succ]
  refine wpAnyH_one 8 31 (.slice o ls.length cap) hHeld rfl rfl (by kernel_rfl) (fun _ _ _ _ _ h => h) (by kernel_rfl) (by kernel_rfl) (by rfl) ?_ ?_
  · intro V hSw; (try dsimp only at hSw); have k0 := cellLater (B := N) hSw (by omega) l0; go_simp
  simp only [Act.put, List.setIfInBounds_toArray, List.set_cons_zero, List.set_cons_succ]
  refine wpAnyH_one 9 32 (.agg #[.int .i64 xi, .int .i64 xn, .string xk, .int .i64 xc, .bool xp, .bool xo, .int .u8 (xs : Int), .int .i64 xg]) hHeld rfl rfl (by kernel_rfl) (fun _ _ _ _ _ h => h) (by kernel_rfl) (by kernel_rfl) (by rfl) ?_ ?_
  · intro V hSw; (try dsimp only at hSw); have k0 := cellLater (B := N + 1) hSw (by omega) k0; have k1 := cellLater (B := N + 1) hSw (by omega) k1; have k2 := cellLater (B := N + 1) hSw (by omega) k2; have k3 := cellLater (B := N + 1) hSw (by omega) k3; have k4 := cellLater (B := N + 1) hSw (by omega) k4; have k5 := cellLater (B := N + 1) hSw (by omega) k5; have k6 := cellLater (B := N + 1) hSw (by omega) k6; have k7 := cellLater (B := N + 1) hSw (by omega) k7; go_simp
  simp only [Act.put, List.setIfInBounds_toArray, List.set_cons_zero, List.set_cons_succ]
  refine wpAnyH_ready (rs := [10]) (by kernel_rfl) (by simp) ?_
  refine AllReadyH.cons rfl (fun K hK => ?_) AllReadyH.nil
  go_simp
  go_wp2_with (go_at_call 31; refine (HMk.out U0).mono ?_; rintro e U1 ⟨rfl, hb⟩; have HB_U1 := hid (HB_U0.out.trans (hb.mono HB_U0.out.size)); have HS_U1 := hid (HB_U1.out.size))
  refine hK.out _ _ HB_U1.out (fun hHeld => ?_)
  clear hK K
  refine wpAnyH_ready (rs := [11]) (by kernel_rfl) (by simp) ?_
  refine AllReadyH.cons rfl (fun K hK => ?_) AllReadyH.nil
  go_simp
  go_wp2_with (go_at_call 30; refine (HLk.out U1).mono ?_; rintro e U2 ⟨gl, rfl, hgl, h0, hb⟩; have HB_U2 := hid (HB_U1.out.trans (hb.mono HB_U1.out.size)); have HS_U2 := hid (HB_U2.out.size); have HWh := hid (which_like (y := ⟨xi, xn, xk, xc, xp, xo, xs, xg⟩) h0); clear h0 hgl)
  refine hK.out _ _ HB_U2.out (fun hHeld => ?_)
  clear hK K
  refine wpAnyH_ready (rs := [12]) (by kernel_rfl) (by simp) ?_
  refine AllReadyH.cons rfl (fun K hK => ?_) AllReadyH.nil
  go_simp
  go_wp2_with (go_at_call 29; refine (HCf.out U2 HB_U2.out _ HWh.out).mono ?_; rintro e U3 ⟨rfl, hb⟩; have HB_U3 := hid (HB_U2.out.trans (hb.mono HB_U2.out.size)); have HS_U3 := hid (HB_U3.out.size))
  refine hK.out _ _ HB_U3.out (fun hHeld => ?_)
  clear hK K
  refine wpAnyH_one 13 36 (.bool false) hHeld rfl rfl (by kernel_rfl) (fun _ _ _ _ _ h => h) (by kernel_rfl) (by kernel_rfl) (by rfl) ?_ ?_
  · intro V hSw; (try dsimp only at hSw); go_simp
  simp only [Act.put, List.setIfInBounds_toArray, List.set_cons_zero, List.set_cons_succ]
  refine wpAnyH_done (by kernel_rfl) ?_ _
  have LU := blkLater HB_U3.out HL4.out
  have XU := blkLater HB_U3.out HX4.out
  have RU := blkLater HB_U3.out HR4.out
  have HBU := hid (HBn4.out.trans (HB_U3.out.mono (by omega)))
  have hsU : N + 1 + 1 < U3.heap.size := by have := HB_U3.out.size; omega
  have HRdU := hid (HRd4.out.later HB_U3.out)
  clear HBn4 HRd4 HL4 HX4 HR4 l0 l1 lf0 lf1 k0 k1 k2 k3 k4 k5 k6 k7
  obtain ⟨l0, l1, lf0, lf1⟩ := box_cells LU
  obtain ⟨k0, k1, k2, k3, k4, k5, k6, k7⟩ := lst_cells (x := ⟨xi, xn, xk, xc, xp, xo, xs, xg⟩) XU
  simp only at k0 k1 k2 k3 k4 k5 k6 k7
  obtain ⟨rr0, rr1, rf0, rf1⟩ := box_cells RU
  have HLU := hid LU
  have HXU := hid XU
  have HRU := hid RU
  clear LU XU RU
  rcases hf with hf | ⟨hf, hf2⟩
  all_goals
    go_wp2
    have e0 := set_box (k := 0) (v := .slice none 0 0) HRU.out
    have e1 := set_box (k := 1) (v := .int .i64 0) e0
    obtain ⟨r0, r1, r2, r3⟩ := box_cells e1
    have hN := HN.out
    subst hN
    exact bodyPost_ret (v := .tuple #[.agg #[.slice none 0 0, .int .i64 0], .int .i64 0, .int .i64 3]) (by simp [results, Try.results8, go_sem, r0, r1]) rfl ⟨rfl, (HBU.out.setCell (p := ⟨w.heap.size + 1 + 1, 0, none⟩) (by show _ ≤ w.heap.size + 1 + 1; omega) _).setCell (p := ⟨w.heap.size + 1 + 1, 1, none⟩) (by show _ ≤ w.heap.size + 1 + 1; omega) _⟩
end Go.Proofs.Ytgelclbjbjpacaa
