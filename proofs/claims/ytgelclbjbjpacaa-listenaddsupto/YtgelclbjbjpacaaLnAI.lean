/- The reference of listen: Add, where one is added. -/
import Derived.Test.YtgelclbjbjpacaaLnAH
namespace Go.Proofs.Ytgelclbjbjpacaa
open Go.RowKit Go.Lib Go.Shelf

set_option maxRecDepth 100000 in
set_option maxHeartbeats 4000000 in
theorem refAdd_more0 (v : Value) (ls : List LstD) (next : Int) (x : LstD) (root aborted : Bool) (w : World) (hr : RdL w v ls) (hl : ls.length ≤ 1099511627775) (hc : checkD ls next = true) (h1 : decide ((x.kind.size : Int) > 1024) = false) (h2 : decide (x.node < 1) = false) (h3 : decide ((x.pas : Int) ≥ 3) = false) (ha : aborted = false) (hz : (x.cb == 0) = false) (hs : ls.any (markEq x) = false) (hf : decide ((ls.length : Int) ≥ 1024) = false) (hf2 : decide (idD next ≥ 1099511627776) = false) (hx0 : (((x.pas : Nat) : Int) == 0) = true) :
    Calls Try.prog 9 #[.agg #[v, .int .i64 next], lstV x, .bool root, .bool aborted] w fun e w' => ∃ o c, e = .returned (.tuple #[.agg #[.slice o (ls ++ [{ x with id := idD next, pas := passD x.kind root }]).length c, .int .i64 (idD next + 1)], .int .i64 (idD next), .int .i64 0]) ∧ w'.ownsRow w.heap.size 27 8 (.slice o (ls ++ [{ x with id := idD next, pas := passD x.kind root }]).length c) (ls ++ [{ x with id := idD next, pas := passD x.kind root }]).length (rowL (ls ++ [{ x with id := idD next, pas := passD x.kind root }])) ∧ Below w.heap.size w w' := by
  subst ha
  obtain ⟨xi, xn, xk, xc, xp, xo, xs, xg⟩ := x
  have h3n := three_new w (.cells #[v, .int .i64 next] 24) (.cells #[.int .i64 xi, .int .i64 xn, .string xk, .int .i64 xc, .bool xp, .bool xo, .int .u8 (xs : Int), .int .i64 xg] 27) (.cells #[.slice none 0 0, .int .i64 0] 24)
  have hC := refCheck_any v ls next _ (hr.later h3n.1) (by omega)
  rw [hc] at hC
  replace hC : Calls _ _ _ _ fun e w' => e = .returned (.int .i64 0) ∧ _ := hC
  have HBn := hid h3n.1
  have HLb := hid h3n.2.1
  have HXb := hid h3n.2.2.1
  have HRb := hid h3n.2.2.2.1
  obtain ⟨l0, l1, lf0, lf1⟩ := box_cells h3n.2.1
  have HF : Hid (∀ V : World, Below w.heap.size w V → _) := fun V hV => find_any v ls ⟨xi, xn, xk, xc, xp, xo, xs, xg⟩ V (hr.later hV) (by omega)
  have HW : Hid (∀ V : World, Below w.heap.size w V → _) := fun V hV => copyL_any v ls next V (hr.later hV) hl
  have hsz := h3n.2.2.2.2
  obtain ⟨NX, hNX⟩ : ∃ NX, idD next = NX := ⟨_, rfl⟩
  rw [hNX] at HW
  rw [hNX] at hf2 ⊢
  unfold lstV at HF
  rw [first_no _ ls 0 hs] at HF
  clear hs
  have hnx1 : 1 ≤ NX := by rw [← hNX]; unfold idD; split <;> omega
  have hnx2 : NX < 1099511627776 := by have := of_decide_eq_false hf2; omega
  have HPs : Hid (∀ V : World, _) := fun V => refPassive_any xk root V
  dsimp only
  generalize passD xk root = PP at *
  obtain ⟨LL, hLL⟩ : ∃ LL, (ls ++ [(⟨NX, xn, xk, xc, xp, xo, PP, xg⟩ : LstD)]).length = LL := ⟨_, rfl⟩
  try dsimp only
  rw [hLL]
  have HLL := hid hLL
  clear hLL
  unfold lstV
  dsimp only at *
  obtain ⟨o, cap, rfl, _, g⟩ := hr
  clear h3n g hc
  go_enter Try.func9, Try.ntmps9
  go_upto_region 8 with (first
    | (go_at_call 13; refine hC.mono ?_; rintro e w4 ⟨rfl, hb⟩; have HB4 := hid (HBn.out.trans (hb.mono HBn.out.size)); have HR4 := hid (blkLater hb HRb.out); have HL4 := hid (blkLater hb HLb.out); have HX4 := hid (blkLater hb HXb.out); obtain ⟨l0, l1, lf0, lf1⟩ := box_cells HL4.out; obtain ⟨k0, k1, k2, k3, k4, k5, k6, k7⟩ := lst_cells (x := ⟨xi, xn, xk, xc, xp, xo, xs, xg⟩) HX4.out; dsimp only at k0 k1 k2 k3 k4 k5 k6 k7; obtain ⟨u0, u1, u2, u3⟩ := box_cells HR4.out; clear hb)
    | (go_at_call 34; refine (HW.out _ HB4.out).mono ?_; rintro e w5 ⟨o2, c2, rfl, hown, hb⟩; have HL5 := hid (blkLater hb HL4.out); have HX5 := hid (blkLater hb HX4.out); have HB5 := hid (HB4.out.trans (hb.mono HB4.out.size)); have HR5 := hid (blkLater hb HR4.out); have HO5 := hid hown; have hs5 := hb.size; clear hb hown))
  have hba : Below w5.heap.size w5 (w5.alloc (.cells #[.slice o2 ls.length c2, .int .i64 NX] 24)) := (Below.refl _ w5).alloc (Nat.le_refl _) _
  have HLa := hid (blkLater hba HL5.out)
  have HXa := hid (blkLater hba HX5.out)
  have HRa := hid (blkLater hba HR5.out)
  have HOa := hid (own_base HB4.out.size (own_later HO5.out hba))
  have HOb := hid (own_later HO5.out hba)
  have HMa := hid (heap_new w5 (.cells #[.slice o2 ls.length c2, .int .i64 NX] 24))
  have HBa := hid (HB5.out.trans (hba.mono HB5.out.size))
  have hsN : w.heap.size + 1 + 1 < w4.heap.size := (Array.getElem?_eq_some_iff.1 HR4.out).1
  have hsa : (w5.alloc (.cells #[.slice o2 ls.length c2, .int .i64 NX] 24)).heap.size = w5.heap.size + 1 := by simp
  clear hba HL5 HX5 HR5 HO5 HB5 HL4 HX4 HR4 HB4 HBn HLb HXb HRb hC HW l0 l1 lf0 lf1 k0 k1 k2 k3 k4 k5 k6 k7 u0 u1 u2 u3
  generalize w5.alloc (.cells #[.slice o2 ls.length c2, .int .i64 NX] 24) = Z at *
  generalize hMe : w5.heap.size = M at *
  have hNM : w.heap.size + 1 + 1 < M := by omega
  obtain ⟨l0, l1, lf0, lf1⟩ := box_cells HLa.out
  obtain ⟨k0, k1, k2, k3, k4, k5, k6, k7⟩ := lst_cells (x := ⟨xi, xn, xk, xc, xp, xo, xs, xg⟩) HXa.out
  dsimp only at k0 k1 k2 k3 k4 k5 k6 k7
  obtain ⟨u0, u1, u2, u3⟩ := box_cells HRa.out
  obtain ⟨m0, m1, mf0, mf1⟩ := box_cells HMa.out
  go_upto_region 14 with (first
    | (go_at_call 35; refine (HF.out _ HBa.out).mono ?_; rintro e w6 ⟨rfl, hb⟩; have HL6 := hid (blkLater hb HLa.out); have HX6 := hid (blkLater hb HXa.out); have HR6 := hid (blkLater hb HRa.out); have HM6 := hid (blkLater hb HMa.out); have HO6 := hid (own_later HOa.out hb); have HQ6 := hid (own_later HOb.out hb); have HB6 := hid (HBa.out.trans (hb.mono HBa.out.size)); have hs6 := hb.size; obtain ⟨l0, l1, lf0, lf1⟩ := box_cells HL6.out; obtain ⟨k0, k1, k2, k3, k4, k5, k6, k7⟩ := lst_cells (x := ⟨xi, xn, xk, xc, xp, xo, xs, xg⟩) HX6.out; dsimp only at k0 k1 k2 k3 k4 k5 k6 k7; obtain ⟨u0, u1, u2, u3⟩ := box_cells HR6.out; obtain ⟨m0, m1, mf0, mf1⟩ := box_cells HM6.out; clear hb)
    | (go_at_call 15; refine (HPs.out _).mono ?_; rintro e w6 ⟨rfl, rfl⟩; obtain ⟨t0, t6⟩ := lst_thaw (x := ⟨xi, xn, xk, xc, xp, xo, xs, xg⟩) HX6.out))
  have h7 := set_box (k := 6) (v := .int .u8 (PP : Int)) HX6.out
  have HX7 : Hid ((w6.setCell ⟨w.heap.size + 1, 6, none⟩ (.int .u8 (PP : Int))).heap[w.heap.size + 1]? = some (.cells #[.int .i64 xi, .int .i64 xn, .string xk, .int .i64 xc, .bool xp, .bool xo, .int .u8 (PP : Int), .int .i64 xg] 27)) := h7
  clear h7
  have HB7 := hid (HB6.out.setCell (p := ⟨w.heap.size + 1, 6, none⟩) (by show _ ≤ w.heap.size + 1; omega) (.int .u8 (PP : Int)))
  have HR7 := hid ((Below.heap_setCell w6 ⟨w.heap.size + 1, 6, none⟩ (.int .u8 (PP : Int)) _ (by show _ ≠ w.heap.size + 1; omega)).trans HR6.out)
  have HM7 := hid ((Below.heap_setCell w6 ⟨w.heap.size + 1, 6, none⟩ (.int .u8 (PP : Int)) _ (by show _ ≠ w.heap.size + 1; omega)).trans HM6.out)
  have HO7 := hid (ownsRow_setCell_below (a := ⟨w.heap.size + 1, 6, none⟩) HQ6.out (by show w.heap.size + 1 < _; omega) (.int .u8 (PP : Int)))
  generalize w6.setCell ⟨w.heap.size + 1, 6, none⟩ (.int .u8 (PP : Int)) = W7 at *
  obtain ⟨m0, m1, mf0, mf1⟩ := box_cells HM7.out
  obtain ⟨t0, t6⟩ := lst_thaw (x := ⟨xi, xn, xk, xc, xp, xo, PP, xg⟩) HX7.out
  obtain ⟨k0, k1, k2, k3, k4, k5, k6, k7⟩ := lst_cells (x := ⟨xi, xn, xk, xc, xp, xo, PP, xg⟩) HX7.out
  dsimp only at k0 k1 k2 k3 k4 k5 k6 k7
  have h8 := set_box (k := 0) (v := .int .i64 NX) HX7.out
  have HX8 : Hid ((W7.setCell ⟨w.heap.size + 1, 0, none⟩ (.int .i64 NX)).heap[w.heap.size + 1]? = some (.cells #[.int .i64 NX, .int .i64 xn, .string xk, .int .i64 xc, .bool xp, .bool xo, .int .u8 (PP : Int), .int .i64 xg] 27)) := h8
  clear h8
  have HB8 := hid (HB7.out.setCell (p := ⟨w.heap.size + 1, 0, none⟩) (by show _ ≤ w.heap.size + 1; omega) (.int .i64 NX))
  have HR8 := hid ((Below.heap_setCell W7 ⟨w.heap.size + 1, 0, none⟩ (.int .i64 NX) _ (by show _ ≠ w.heap.size + 1; omega)).trans HR7.out)
  have HM8 := hid ((Below.heap_setCell W7 ⟨w.heap.size + 1, 0, none⟩ (.int .i64 NX) _ (by show _ ≠ w.heap.size + 1; omega)).trans HM7.out)
  have HO8 := hid (ownsRow_setCell_below (a := ⟨w.heap.size + 1, 0, none⟩) HO7.out (by show w.heap.size + 1 < _; omega) (.int .i64 NX))
  go_upto_region 15 with fail
  clear HX7 HB7 HR7 HM7 HO7 m0 m1 mf0 mf1 t0 t6 k0 k1 k2 k3 k4 k5 k6 k7 HL6 HLa HXa HRa HOa HMa HBa l0 l1 lf0 lf1 u0 u1 u2 u3 HF HO6 HQ6 HOb
  generalize W7.setCell ⟨w.heap.size + 1, 0, none⟩ (.int .i64 NX) = W8 at *
  obtain ⟨m0, m1, mf0, mf1⟩ := box_cells HM8.out
  obtain ⟨k0, k1, k2, k3, k4, k5, k6, k7⟩ := lst_cells (x := (⟨NX, xn, xk, xc, xp, xo, PP, xg⟩ : LstD)) HX8.out
  dsimp only at k0 k1 k2 k3 k4 k5 k6 k7
  have hsM := (Array.getElem?_eq_some_iff.1 HM8.out).1
  have hb1 : Below W8.heap.size W8 (W8.alloc (lstO (⟨NX, xn, xk, xc, xp, xo, PP, xg⟩ : LstD))) := (Below.refl _ W8).alloc (Nat.le_refl _) _
  have HX9 := hid (blkLater hb1 HX8.out)
  have HR9 := hid (blkLater hb1 HR8.out)
  have HO9 := hid (own_later HO8.out hb1)
  have HM9 := hid (blkLater hb1 HM8.out)
  have HB9 := hid (HB8.out.trans (hb1.mono HB8.out.size))
  obtain ⟨v2, Y2, hap, ho2, hg2⟩ := run_appendL (W8.alloc (lstO (⟨NX, xn, xk, xc, xp, xo, PP, xg⟩ : LstD))) w4.heap.size (.slice o2 ls.length c2) (.slice (some ⟨W8.heap.size, 0, none⟩) 1 1) ls [(⟨NX, xn, xk, xc, xp, xo, PP, xg⟩ : LstD)] 22 HO9.out (by have := HO9.out; have := hb1.size; omega) (one_rdL (heap_new W8 _)) (by simp; omega)
  have HX10 := hid (heap_grow HX9.out hg2 (fun e => by have := (HO9.out.lt _ e).1; omega))
  have HR10 := hid (heap_grow HR9.out hg2 (own_not HO9.out HR9.out (by decide)))
  have HM10 := hid (heap_grow HM9.out hg2 (own_not HO9.out HM9.out (by decide)))
  have HB10 := hid (HB9.out.grown hg2 (by have := HB9.out.size; omega) (fun j hj => by have := (HO9.out.lt j hj).1; omega))
  obtain ⟨o3, c3, rfl⟩ := own_shape ho2
  rw [HLL.out] at hap ho2
  have HAp := hid hap
  have HO10 := hid ho2
  clear hap ho2 hg2 hb1
  unfold lstO at *
  dsimp only at HAp HX9 HX10
  obtain ⟨n0, n1, nf0, nf1⟩ := box_cells HM10.out
  have hwr : IntKind.i64.wrap (NX + 1) = NX + 1 := wrapL (by omega) (by omega)
  go_upto_region 17 with (at_builtin; refine wpList_append_run _ rfl _ _ 22 22 rfl _ _ rfl rfl _ _ HAp.out ?_)
  have HX11 := hid ((Below.heap_setCell (Y2.setCell ⟨M, 0, none⟩ (.slice o3 LL c3)) ⟨M, 1, none⟩ (.int .i64 (NX + 1)) _ (by show _ ≠ M; omega)).trans ((Below.heap_setCell Y2 ⟨M, 0, none⟩ (.slice o3 LL c3) _ (by show _ ≠ M; omega)).trans HX10.out))
  have HR11 := hid ((Below.heap_setCell (Y2.setCell ⟨M, 0, none⟩ (.slice o3 LL c3)) ⟨M, 1, none⟩ (.int .i64 (NX + 1)) _ (by show _ ≠ M; omega)).trans ((Below.heap_setCell Y2 ⟨M, 0, none⟩ (.slice o3 LL c3) _ (by show _ ≠ M; omega)).trans HR10.out))
  have a0 := set_box (k := 0) (v := .slice o3 LL c3) HM10.out
  have a1 := set_box (k := 1) (v := .int .i64 (NX + 1)) a0
  have HM11 : Hid (((Y2.setCell ⟨M, 0, none⟩ (.slice o3 LL c3)).setCell ⟨M, 1, none⟩ (.int .i64 (NX + 1))).heap[M]? = some (.cells #[.slice o3 LL c3, .int .i64 (NX + 1)] 24)) := a1
  have HO11 := hid (own_set (o := 1) (own_set (o := 0) HO10.out HM10.out (by decide) (.slice o3 LL c3)) a0 (by decide) (.int .i64 (NX + 1)))
  have HB11 := hid ((HB10.out.setCell (p := ⟨M, 0, none⟩) (by show _ ≤ M; omega) (.slice o3 LL c3)).setCell (p := ⟨M, 1, none⟩) (by show _ ≤ M; omega) (.int .i64 (NX + 1)))
  have hsz11 := (Array.getElem?_eq_some_iff.1 HM11.out).1
  clear a0 a1 HX8 HR8 HO8 HM8 HB8 HX9 HR9 HO9 HM9 HB9 HX10 HR10 HM10 HB10 HO10 HAp m0 m1 mf0 mf1 n0 n1 nf0 nf1 k0 k1 k2 k3 k4 k5 k6 k7
  generalize ((Y2.setCell ⟨M, 0, none⟩ (.slice o3 LL c3)).setCell ⟨M, 1, none⟩ (.int .i64 (NX + 1))) = Z9 at *
  generalize hN : w.heap.size = N at *
  have HN := hid hN
  clear hN
  refine wp_region_held_drew (S := fun V => V.heap[N + 1]? = some (.cells #[.int .i64 NX, .int .i64 xn, .string xk, .int .i64 xc, .bool xp, .bool xo, .int .u8 (PP : Int), .int .i64 xg] 27) ∧ V.heap[M]? = some (.cells #[.slice o3 LL c3, .int .i64 (NX + 1)] 24)) (by kernel_rfl) ⟨HX11.out, HM11.out⟩ (fun hHeld => ?_)
  have HB_Z0 : Below Z9.heap.size Z9 Z9.drew := (Below.refl _ _).drew
  have HX6b := hid (blkLater HB_Z0 HX11.out)
  have HR6b := hid (blkLater HB_Z0 HR11.out)
  have HO6b := hid (own_later HO11.out HB_Z0)
  have HM6b := hid (blkLater HB_Z0 HM11.out)
  have HB6b := hid (HB11.out.trans (HB_Z0.mono (by omega)))
  clear HB_Z0 HX11 HR11 HO11 HM11 HB11
  generalize Z9.drew = Z0 at *
  refine wpAnyH_one 0 82 (.agg #[.slice o3 LL c3, .int .i64 (NX + 1)]) hHeld rfl rfl (by kernel_rfl) (fun _ _ _ _ _ h => h) (by kernel_rfl) (by kernel_rfl) (by rfl) ?_ ?_
  · intro V hSw; (try dsimp only at hSw); obtain ⟨j0, j1, j2, j3⟩ := box_cells hSw.2; go_simp
  simp only [Act.put, List.setIfInBounds_toArray, List.set_cons_zero, List.set_cons_succ]
  refine wpAnyH_one 1 83 (.pointer (some ⟨N + 1, 0, none⟩)) hHeld rfl rfl (by kernel_rfl) (fun _ _ _ _ _ h => h) (by kernel_rfl) (by kernel_rfl) (by rfl) ?_ ?_
  · intro V hSw; (try dsimp only at hSw); go_simp
  simp only [Act.put, List.setIfInBounds_toArray, List.set_cons_zero, List.set_cons_succ]
  refine wpAnyH_one 2 84 (.int .i64 NX) hHeld rfl rfl (by kernel_rfl) (fun _ _ _ _ _ h => h) (by kernel_rfl) (by kernel_rfl) (by rfl) ?_ ?_
  · intro V hSw; (try dsimp only at hSw); obtain ⟨k0, k1, k2, k3, k4, k5, k6, k7⟩ := lst_cells (x := (⟨NX, xn, xk, xc, xp, xo, PP, xg⟩ : LstD)) hSw.1; go_simp
  simp only [Act.put, List.setIfInBounds_toArray, List.set_cons_zero, List.set_cons_succ]
  obtain ⟨q0, q1, qf0, qf1⟩ := box_cells HR6b.out
  have e0 := set_box (k := 0) (v := .slice o3 LL c3) HR6b.out
  have e1 := set_box (k := 1) (v := .int .i64 (NX + 1)) e0
  have HX7 := hid ((Below.heap_setCell (Z0.setCell ⟨N + 1 + 1, 0, none⟩ (.slice o3 LL c3)) ⟨N + 1 + 1, 1, none⟩ (.int .i64 (NX + 1)) _ (by show _ ≠ N + 1 + 1; omega)).trans ((Below.heap_setCell Z0 ⟨N + 1 + 1, 0, none⟩ (.slice o3 LL c3) _ (by show _ ≠ N + 1 + 1; omega)).trans HX6b.out))
  have HM7 := hid ((Below.heap_setCell (Z0.setCell ⟨N + 1 + 1, 0, none⟩ (.slice o3 LL c3)) ⟨N + 1 + 1, 1, none⟩ (.int .i64 (NX + 1)) _ (by show _ ≠ N + 1 + 1; omega)).trans ((Below.heap_setCell Z0 ⟨N + 1 + 1, 0, none⟩ (.slice o3 LL c3) _ (by show _ ≠ N + 1 + 1; omega)).trans HM6b.out))
  have HE0 := hid e0
  have HE1 := hid e1
  clear e0 e1
  refine wpAnyH_ready (rs := [3]) (by kernel_rfl) (by simp) ?_
  refine AllReadyH.cons rfl (fun K hK => ?_) AllReadyH.nil
  go_simp
  refine hK.out _ _ ⟨HX7.out, HM7.out⟩ (fun hHeld => ?_)
  clear hK K
  refine wpAnyH_one 4 9 (.int .i64 NX) hHeld rfl rfl (by kernel_rfl) (fun _ _ _ _ _ h => h) (by kernel_rfl) (by kernel_rfl) (by rfl) ?_ ?_
  · intro V hSw; (try dsimp only at hSw); go_simp
  simp only [Act.put, List.setIfInBounds_toArray, List.set_cons_zero, List.set_cons_succ]
  refine wpAnyH_one 5 10 (.int .i64 0) hHeld rfl rfl (by kernel_rfl) (fun _ _ _ _ _ h => h) (by kernel_rfl) (by kernel_rfl) (by rfl) ?_ ?_
  · intro V hSw; (try dsimp only at hSw); go_simp
  simp only [Act.put, List.setIfInBounds_toArray, List.set_cons_zero, List.set_cons_succ]
  refine wpAnyH_done (by kernel_rfl) ?_ _
  go_wp2
  obtain ⟨r0, r1, r2, r3⟩ := box_cells HE1.out
  have hN := HN.out
  subst hN
  refine bodyPost_ret (v := .tuple #[.agg #[.slice o3 LL c3, .int .i64 (NX + 1)], .int .i64 NX, .int .i64 0]) (by simp [results, Try.results9, go_sem, r0, r1]) rfl ?_
  exact ⟨o3, c3, rfl, own_base (base := w4.heap.size) (base' := w.heap.size) (by omega) (own_set (o := 1) (own_set (o := 0) HO6b.out HR6b.out (by decide) _) HE0.out (by decide) _), (HB6b.out.setCell (p := ⟨w.heap.size + 1 + 1, 0, none⟩) (by show _ ≤ w.heap.size + 1 + 1; omega) _).setCell (p := ⟨w.heap.size + 1 + 1, 1, none⟩) (by show _ ≤ w.heap.size + 1 + 1; omega) _⟩
set_option maxRecDepth 100000 in
set_option maxHeartbeats 4000000 in
theorem refAdd_more1 (v : Value) (ls : List LstD) (next : Int) (x : LstD) (root aborted : Bool) (w : World) (hr : RdL w v ls) (hl : ls.length ≤ 1099511627775) (hc : checkD ls next = true) (h1 : decide ((x.kind.size : Int) > 1024) = false) (h2 : decide (x.node < 1) = false) (h3 : decide ((x.pas : Int) ≥ 3) = false) (ha : aborted = false) (hz : (x.cb == 0) = false) (hs : ls.any (markEq x) = false) (hf : decide ((ls.length : Int) ≥ 1024) = false) (hf2 : decide (idD next ≥ 1099511627776) = false) (hx0 : (((x.pas : Nat) : Int) == 0) = false) :
    Calls Try.prog 9 #[.agg #[v, .int .i64 next], lstV x, .bool root, .bool aborted] w fun e w' => ∃ o c, e = .returned (.tuple #[.agg #[.slice o (ls ++ [{ x with id := idD next, pas := x.pas }]).length c, .int .i64 (idD next + 1)], .int .i64 (idD next), .int .i64 0]) ∧ w'.ownsRow w.heap.size 27 8 (.slice o (ls ++ [{ x with id := idD next, pas := x.pas }]).length c) (ls ++ [{ x with id := idD next, pas := x.pas }]).length (rowL (ls ++ [{ x with id := idD next, pas := x.pas }])) ∧ Below w.heap.size w w' := by
  subst ha
  obtain ⟨xi, xn, xk, xc, xp, xo, xs, xg⟩ := x
  have h3n := three_new w (.cells #[v, .int .i64 next] 24) (.cells #[.int .i64 xi, .int .i64 xn, .string xk, .int .i64 xc, .bool xp, .bool xo, .int .u8 (xs : Int), .int .i64 xg] 27) (.cells #[.slice none 0 0, .int .i64 0] 24)
  have hC := refCheck_any v ls next _ (hr.later h3n.1) (by omega)
  rw [hc] at hC
  replace hC : Calls _ _ _ _ fun e w' => e = .returned (.int .i64 0) ∧ _ := hC
  have HBn := hid h3n.1
  have HLb := hid h3n.2.1
  have HXb := hid h3n.2.2.1
  have HRb := hid h3n.2.2.2.1
  obtain ⟨l0, l1, lf0, lf1⟩ := box_cells h3n.2.1
  have HF : Hid (∀ V : World, Below w.heap.size w V → _) := fun V hV => find_any v ls ⟨xi, xn, xk, xc, xp, xo, xs, xg⟩ V (hr.later hV) (by omega)
  have HW : Hid (∀ V : World, Below w.heap.size w V → _) := fun V hV => copyL_any v ls next V (hr.later hV) hl
  have hsz := h3n.2.2.2.2
  obtain ⟨NX, hNX⟩ : ∃ NX, idD next = NX := ⟨_, rfl⟩
  rw [hNX] at HW
  rw [hNX] at hf2 ⊢
  unfold lstV at HF
  rw [first_no _ ls 0 hs] at HF
  clear hs
  have hnx1 : 1 ≤ NX := by rw [← hNX]; unfold idD; split <;> omega
  have hnx2 : NX < 1099511627776 := by have := of_decide_eq_false hf2; omega
  obtain ⟨LL, hLL⟩ : ∃ LL, (ls ++ [(⟨NX, xn, xk, xc, xp, xo, xs, xg⟩ : LstD)]).length = LL := ⟨_, rfl⟩
  try dsimp only
  rw [hLL]
  have HLL := hid hLL
  clear hLL
  unfold lstV
  dsimp only at *
  obtain ⟨o, cap, rfl, _, g⟩ := hr
  clear h3n g hc
  go_enter Try.func9, Try.ntmps9
  go_upto_region 8 with (first
    | (go_at_call 13; refine hC.mono ?_; rintro e w4 ⟨rfl, hb⟩; have HB4 := hid (HBn.out.trans (hb.mono HBn.out.size)); have HR4 := hid (blkLater hb HRb.out); have HL4 := hid (blkLater hb HLb.out); have HX4 := hid (blkLater hb HXb.out); obtain ⟨l0, l1, lf0, lf1⟩ := box_cells HL4.out; obtain ⟨k0, k1, k2, k3, k4, k5, k6, k7⟩ := lst_cells (x := ⟨xi, xn, xk, xc, xp, xo, xs, xg⟩) HX4.out; dsimp only at k0 k1 k2 k3 k4 k5 k6 k7; obtain ⟨u0, u1, u2, u3⟩ := box_cells HR4.out; clear hb)
    | (go_at_call 34; refine (HW.out _ HB4.out).mono ?_; rintro e w5 ⟨o2, c2, rfl, hown, hb⟩; have HL5 := hid (blkLater hb HL4.out); have HX5 := hid (blkLater hb HX4.out); have HB5 := hid (HB4.out.trans (hb.mono HB4.out.size)); have HR5 := hid (blkLater hb HR4.out); have HO5 := hid hown; have hs5 := hb.size; clear hb hown))
  have hba : Below w5.heap.size w5 (w5.alloc (.cells #[.slice o2 ls.length c2, .int .i64 NX] 24)) := (Below.refl _ w5).alloc (Nat.le_refl _) _
  have HLa := hid (blkLater hba HL5.out)
  have HXa := hid (blkLater hba HX5.out)
  have HRa := hid (blkLater hba HR5.out)
  have HOa := hid (own_base HB4.out.size (own_later HO5.out hba))
  have HOb := hid (own_later HO5.out hba)
  have HMa := hid (heap_new w5 (.cells #[.slice o2 ls.length c2, .int .i64 NX] 24))
  have HBa := hid (HB5.out.trans (hba.mono HB5.out.size))
  have hsN : w.heap.size + 1 + 1 < w4.heap.size := (Array.getElem?_eq_some_iff.1 HR4.out).1
  have hsa : (w5.alloc (.cells #[.slice o2 ls.length c2, .int .i64 NX] 24)).heap.size = w5.heap.size + 1 := by simp
  clear hba HL5 HX5 HR5 HO5 HB5 HL4 HX4 HR4 HB4 HBn HLb HXb HRb hC HW l0 l1 lf0 lf1 k0 k1 k2 k3 k4 k5 k6 k7 u0 u1 u2 u3
  generalize w5.alloc (.cells #[.slice o2 ls.length c2, .int .i64 NX] 24) = Z at *
  generalize hMe : w5.heap.size = M at *
  have hNM : w.heap.size + 1 + 1 < M := by omega
  obtain ⟨l0, l1, lf0, lf1⟩ := box_cells HLa.out
  obtain ⟨k0, k1, k2, k3, k4, k5, k6, k7⟩ := lst_cells (x := ⟨xi, xn, xk, xc, xp, xo, xs, xg⟩) HXa.out
  dsimp only at k0 k1 k2 k3 k4 k5 k6 k7
  obtain ⟨u0, u1, u2, u3⟩ := box_cells HRa.out
  obtain ⟨m0, m1, mf0, mf1⟩ := box_cells HMa.out
  go_upto_region 14 with (go_at_call 35; refine (HF.out _ HBa.out).mono ?_; rintro e w6 ⟨rfl, hb⟩; have HL6 := hid (blkLater hb HLa.out); have HX6 := hid (blkLater hb HXa.out); have HR6 := hid (blkLater hb HRa.out); have HM6 := hid (blkLater hb HMa.out); have HO6 := hid (own_later HOa.out hb); have HQ6 := hid (own_later HOb.out hb); have HB6 := hid (HBa.out.trans (hb.mono HBa.out.size)); have hs6 := hb.size; obtain ⟨l0, l1, lf0, lf1⟩ := box_cells HL6.out; obtain ⟨k0, k1, k2, k3, k4, k5, k6, k7⟩ := lst_cells (x := ⟨xi, xn, xk, xc, xp, xo, xs, xg⟩) HX6.out; dsimp only at k0 k1 k2 k3 k4 k5 k6 k7; obtain ⟨u0, u1, u2, u3⟩ := box_cells HR6.out; obtain ⟨m0, m1, mf0, mf1⟩ := box_cells HM6.out; clear hb)
  have HX7 := HX6
  have HB7 := HB6
  have HR7 := HR6
  have HM7 := HM6
  have HO7 := HQ6
  generalize w6 = W7 at *
  obtain ⟨m0, m1, mf0, mf1⟩ := box_cells HM7.out
  obtain ⟨t0, t6⟩ := lst_thaw (x := ⟨xi, xn, xk, xc, xp, xo, xs, xg⟩) HX7.out
  obtain ⟨k0, k1, k2, k3, k4, k5, k6, k7⟩ := lst_cells (x := ⟨xi, xn, xk, xc, xp, xo, xs, xg⟩) HX7.out
  dsimp only at k0 k1 k2 k3 k4 k5 k6 k7
  have h8 := set_box (k := 0) (v := .int .i64 NX) HX7.out
  have HX8 : Hid ((W7.setCell ⟨w.heap.size + 1, 0, none⟩ (.int .i64 NX)).heap[w.heap.size + 1]? = some (.cells #[.int .i64 NX, .int .i64 xn, .string xk, .int .i64 xc, .bool xp, .bool xo, .int .u8 (xs : Int), .int .i64 xg] 27)) := h8
  clear h8
  have HB8 := hid (HB7.out.setCell (p := ⟨w.heap.size + 1, 0, none⟩) (by show _ ≤ w.heap.size + 1; omega) (.int .i64 NX))
  have HR8 := hid ((Below.heap_setCell W7 ⟨w.heap.size + 1, 0, none⟩ (.int .i64 NX) _ (by show _ ≠ w.heap.size + 1; omega)).trans HR7.out)
  have HM8 := hid ((Below.heap_setCell W7 ⟨w.heap.size + 1, 0, none⟩ (.int .i64 NX) _ (by show _ ≠ w.heap.size + 1; omega)).trans HM7.out)
  have HO8 := hid (ownsRow_setCell_below (a := ⟨w.heap.size + 1, 0, none⟩) HO7.out (by show w.heap.size + 1 < _; omega) (.int .i64 NX))
  go_upto_region 15 with fail
  clear HX7 HB7 HR7 HM7 HO7 m0 m1 mf0 mf1 t0 t6 k0 k1 k2 k3 k4 k5 k6 k7 HL6 HLa HXa HRa HOa HMa HBa l0 l1 lf0 lf1 u0 u1 u2 u3 HF HO6 HQ6 HOb
  generalize W7.setCell ⟨w.heap.size + 1, 0, none⟩ (.int .i64 NX) = W8 at *
  obtain ⟨m0, m1, mf0, mf1⟩ := box_cells HM8.out
  obtain ⟨k0, k1, k2, k3, k4, k5, k6, k7⟩ := lst_cells (x := (⟨NX, xn, xk, xc, xp, xo, xs, xg⟩ : LstD)) HX8.out
  dsimp only at k0 k1 k2 k3 k4 k5 k6 k7
  have hsM := (Array.getElem?_eq_some_iff.1 HM8.out).1
  have hb1 : Below W8.heap.size W8 (W8.alloc (lstO (⟨NX, xn, xk, xc, xp, xo, xs, xg⟩ : LstD))) := (Below.refl _ W8).alloc (Nat.le_refl _) _
  have HX9 := hid (blkLater hb1 HX8.out)
  have HR9 := hid (blkLater hb1 HR8.out)
  have HO9 := hid (own_later HO8.out hb1)
  have HM9 := hid (blkLater hb1 HM8.out)
  have HB9 := hid (HB8.out.trans (hb1.mono HB8.out.size))
  obtain ⟨v2, Y2, hap, ho2, hg2⟩ := run_appendL (W8.alloc (lstO (⟨NX, xn, xk, xc, xp, xo, xs, xg⟩ : LstD))) w4.heap.size (.slice o2 ls.length c2) (.slice (some ⟨W8.heap.size, 0, none⟩) 1 1) ls [(⟨NX, xn, xk, xc, xp, xo, xs, xg⟩ : LstD)] 22 HO9.out (by have := HO9.out; have := hb1.size; omega) (one_rdL (heap_new W8 _)) (by simp; omega)
  have HX10 := hid (heap_grow HX9.out hg2 (fun e => by have := (HO9.out.lt _ e).1; omega))
  have HR10 := hid (heap_grow HR9.out hg2 (own_not HO9.out HR9.out (by decide)))
  have HM10 := hid (heap_grow HM9.out hg2 (own_not HO9.out HM9.out (by decide)))
  have HB10 := hid (HB9.out.grown hg2 (by have := HB9.out.size; omega) (fun j hj => by have := (HO9.out.lt j hj).1; omega))
  obtain ⟨o3, c3, rfl⟩ := own_shape ho2
  rw [HLL.out] at hap ho2
  have HAp := hid hap
  have HO10 := hid ho2
  clear hap ho2 hg2 hb1
  unfold lstO at *
  dsimp only at HAp HX9 HX10
  obtain ⟨n0, n1, nf0, nf1⟩ := box_cells HM10.out
  have hwr : IntKind.i64.wrap (NX + 1) = NX + 1 := wrapL (by omega) (by omega)
  go_upto_region 17 with (at_builtin; refine wpList_append_run _ rfl _ _ 22 22 rfl _ _ rfl rfl _ _ HAp.out ?_)
  have HX11 := hid ((Below.heap_setCell (Y2.setCell ⟨M, 0, none⟩ (.slice o3 LL c3)) ⟨M, 1, none⟩ (.int .i64 (NX + 1)) _ (by show _ ≠ M; omega)).trans ((Below.heap_setCell Y2 ⟨M, 0, none⟩ (.slice o3 LL c3) _ (by show _ ≠ M; omega)).trans HX10.out))
  have HR11 := hid ((Below.heap_setCell (Y2.setCell ⟨M, 0, none⟩ (.slice o3 LL c3)) ⟨M, 1, none⟩ (.int .i64 (NX + 1)) _ (by show _ ≠ M; omega)).trans ((Below.heap_setCell Y2 ⟨M, 0, none⟩ (.slice o3 LL c3) _ (by show _ ≠ M; omega)).trans HR10.out))
  have a0 := set_box (k := 0) (v := .slice o3 LL c3) HM10.out
  have a1 := set_box (k := 1) (v := .int .i64 (NX + 1)) a0
  have HM11 : Hid (((Y2.setCell ⟨M, 0, none⟩ (.slice o3 LL c3)).setCell ⟨M, 1, none⟩ (.int .i64 (NX + 1))).heap[M]? = some (.cells #[.slice o3 LL c3, .int .i64 (NX + 1)] 24)) := a1
  have HO11 := hid (own_set (o := 1) (own_set (o := 0) HO10.out HM10.out (by decide) (.slice o3 LL c3)) a0 (by decide) (.int .i64 (NX + 1)))
  have HB11 := hid ((HB10.out.setCell (p := ⟨M, 0, none⟩) (by show _ ≤ M; omega) (.slice o3 LL c3)).setCell (p := ⟨M, 1, none⟩) (by show _ ≤ M; omega) (.int .i64 (NX + 1)))
  have hsz11 := (Array.getElem?_eq_some_iff.1 HM11.out).1
  clear a0 a1 HX8 HR8 HO8 HM8 HB8 HX9 HR9 HO9 HM9 HB9 HX10 HR10 HM10 HB10 HO10 HAp m0 m1 mf0 mf1 n0 n1 nf0 nf1 k0 k1 k2 k3 k4 k5 k6 k7
  generalize ((Y2.setCell ⟨M, 0, none⟩ (.slice o3 LL c3)).setCell ⟨M, 1, none⟩ (.int .i64 (NX + 1))) = Z9 at *
  generalize hN : w.heap.size = N at *
  have HN := hid hN
  clear hN
  refine wp_region_held_drew (S := fun V => V.heap[N + 1]? = some (.cells #[.int .i64 NX, .int .i64 xn, .string xk, .int .i64 xc, .bool xp, .bool xo, .int .u8 (xs : Int), .int .i64 xg] 27) ∧ V.heap[M]? = some (.cells #[.slice o3 LL c3, .int .i64 (NX + 1)] 24)) (by kernel_rfl) ⟨HX11.out, HM11.out⟩ (fun hHeld => ?_)
  have HB_Z0 : Below Z9.heap.size Z9 Z9.drew := (Below.refl _ _).drew
  have HX6b := hid (blkLater HB_Z0 HX11.out)
  have HR6b := hid (blkLater HB_Z0 HR11.out)
  have HO6b := hid (own_later HO11.out HB_Z0)
  have HM6b := hid (blkLater HB_Z0 HM11.out)
  have HB6b := hid (HB11.out.trans (HB_Z0.mono (by omega)))
  clear HB_Z0 HX11 HR11 HO11 HM11 HB11
  generalize Z9.drew = Z0 at *
  refine wpAnyH_one 0 82 (.agg #[.slice o3 LL c3, .int .i64 (NX + 1)]) hHeld rfl rfl (by kernel_rfl) (fun _ _ _ _ _ h => h) (by kernel_rfl) (by kernel_rfl) (by rfl) ?_ ?_
  · intro V hSw; (try dsimp only at hSw); obtain ⟨j0, j1, j2, j3⟩ := box_cells hSw.2; go_simp
  simp only [Act.put, List.setIfInBounds_toArray, List.set_cons_zero, List.set_cons_succ]
  refine wpAnyH_one 1 83 (.pointer (some ⟨N + 1, 0, none⟩)) hHeld rfl rfl (by kernel_rfl) (fun _ _ _ _ _ h => h) (by kernel_rfl) (by kernel_rfl) (by rfl) ?_ ?_
  · intro V hSw; (try dsimp only at hSw); go_simp
  simp only [Act.put, List.setIfInBounds_toArray, List.set_cons_zero, List.set_cons_succ]
  refine wpAnyH_one 2 84 (.int .i64 NX) hHeld rfl rfl (by kernel_rfl) (fun _ _ _ _ _ h => h) (by kernel_rfl) (by kernel_rfl) (by rfl) ?_ ?_
  · intro V hSw; (try dsimp only at hSw); obtain ⟨k0, k1, k2, k3, k4, k5, k6, k7⟩ := lst_cells (x := (⟨NX, xn, xk, xc, xp, xo, xs, xg⟩ : LstD)) hSw.1; go_simp
  simp only [Act.put, List.setIfInBounds_toArray, List.set_cons_zero, List.set_cons_succ]
  obtain ⟨q0, q1, qf0, qf1⟩ := box_cells HR6b.out
  have e0 := set_box (k := 0) (v := .slice o3 LL c3) HR6b.out
  have e1 := set_box (k := 1) (v := .int .i64 (NX + 1)) e0
  have HX7 := hid ((Below.heap_setCell (Z0.setCell ⟨N + 1 + 1, 0, none⟩ (.slice o3 LL c3)) ⟨N + 1 + 1, 1, none⟩ (.int .i64 (NX + 1)) _ (by show _ ≠ N + 1 + 1; omega)).trans ((Below.heap_setCell Z0 ⟨N + 1 + 1, 0, none⟩ (.slice o3 LL c3) _ (by show _ ≠ N + 1 + 1; omega)).trans HX6b.out))
  have HM7 := hid ((Below.heap_setCell (Z0.setCell ⟨N + 1 + 1, 0, none⟩ (.slice o3 LL c3)) ⟨N + 1 + 1, 1, none⟩ (.int .i64 (NX + 1)) _ (by show _ ≠ N + 1 + 1; omega)).trans ((Below.heap_setCell Z0 ⟨N + 1 + 1, 0, none⟩ (.slice o3 LL c3) _ (by show _ ≠ N + 1 + 1; omega)).trans HM6b.out))
  have HE0 := hid e0
  have HE1 := hid e1
  clear e0 e1
  refine wpAnyH_ready (rs := [3]) (by kernel_rfl) (by simp) ?_
  refine AllReadyH.cons rfl (fun K hK => ?_) AllReadyH.nil
  go_simp
  refine hK.out _ _ ⟨HX7.out, HM7.out⟩ (fun hHeld => ?_)
  clear hK K
  refine wpAnyH_one 4 9 (.int .i64 NX) hHeld rfl rfl (by kernel_rfl) (fun _ _ _ _ _ h => h) (by kernel_rfl) (by kernel_rfl) (by rfl) ?_ ?_
  · intro V hSw; (try dsimp only at hSw); go_simp
  simp only [Act.put, List.setIfInBounds_toArray, List.set_cons_zero, List.set_cons_succ]
  refine wpAnyH_one 5 10 (.int .i64 0) hHeld rfl rfl (by kernel_rfl) (fun _ _ _ _ _ h => h) (by kernel_rfl) (by kernel_rfl) (by rfl) ?_ ?_
  · intro V hSw; (try dsimp only at hSw); go_simp
  simp only [Act.put, List.setIfInBounds_toArray, List.set_cons_zero, List.set_cons_succ]
  refine wpAnyH_done (by kernel_rfl) ?_ _
  go_wp2
  obtain ⟨r0, r1, r2, r3⟩ := box_cells HE1.out
  have hN := HN.out
  subst hN
  refine bodyPost_ret (v := .tuple #[.agg #[.slice o3 LL c3, .int .i64 (NX + 1)], .int .i64 NX, .int .i64 0]) (by simp [results, Try.results9, go_sem, r0, r1]) rfl ?_
  exact ⟨o3, c3, rfl, own_base (base := w4.heap.size) (base' := w.heap.size) (by omega) (own_set (o := 1) (own_set (o := 0) HO6b.out HR6b.out (by decide) _) HE0.out (by decide) _), (HB6b.out.setCell (p := ⟨w.heap.size + 1 + 1, 0, none⟩) (by show _ ≤ w.heap.size + 1 + 1; omega) _).setCell (p := ⟨w.heap.size + 1 + 1, 1, none⟩) (by show _ ≤ w.heap.size + 1 + 1; omega) _⟩
end Go.Proofs.Ytgelclbjbjpacaa
