/- The reference of listen: Add. -/
import Derived.Test.YtgelclbjbjpacaaLnY
import Derived.Test.YtgelclbjbjpacaaLnAC
namespace Go.Proofs.Ytgelclbjbjpacaa
open Go.RowKit Go.Lib Go.Shelf

set_option maxRecDepth 100000 in
set_option maxHeartbeats 4000000 in
theorem refAdd_bad (v : Value) (ls : List LstD) (next : Int) (x : LstD) (root aborted : Bool) (w : World) (hr : RdL w v ls) (hl : ls.length ≤ 1099511627775) (hc : checkD ls next = false) :
    Calls Try.prog 9 #[.agg #[v, .int .i64 next], lstV x, .bool root, .bool aborted] w fun e w' => e = .returned (.tuple #[.agg #[.slice none 0 0, .int .i64 0], .int .i64 0, .int .i64 2]) ∧ Below w.heap.size w w' := by
  obtain ⟨xi, xn, xk, xc, xp, xo, xs, xg⟩ := x
  have h3n := three_new w (.cells #[v, .int .i64 next] 24) (.cells #[.int .i64 xi, .int .i64 xn, .string xk, .int .i64 xc, .bool xp, .bool xo, .int .u8 (xs : Int), .int .i64 xg] 27) (.cells #[.slice none 0 0, .int .i64 0] 24)
  have hC := refCheck_any v ls next _ (hr.later h3n.1) (by omega)
  rw [hc] at hC
  replace hC : Calls _ _ _ _ fun e w' => e = .returned (.int .i64 2) ∧ _ := hC
  have HBn := hid h3n.1
  have HLb := hid h3n.2.1
  have HXb := hid h3n.2.2.1
  have HRb := hid h3n.2.2.2.1
  obtain ⟨l0, l1, lf0, lf1⟩ := box_cells h3n.2.1
  unfold lstV
  dsimp only at *
  obtain ⟨o, cap, rfl, _, g⟩ := hr
  clear h3n g hc
  go_enter Try.func9, Try.ntmps9
  go_wp2_with (go_at_call 13; refine hC.mono ?_; rintro e w4 ⟨rfl, hb⟩; have HB4 := hid (HBn.out.trans (hb.mono HBn.out.size)); have HR4 := hid (blkLater hb HRb.out); have HL4 := hid (blkLater hb HLb.out); have HX4 := hid (blkLater hb HXb.out); obtain ⟨l0, l1, lf0, lf1⟩ := box_cells HL4.out; obtain ⟨k0, k1, k2, k3, k4, k5, k6, k7⟩ := lst_cells (x := ⟨xi, xn, xk, xc, xp, xo, xs, xg⟩) HX4.out; dsimp only at k0 k1 k2 k3 k4 k5 k6 k7; obtain ⟨u0, u1, u2, u3⟩ := box_cells HR4.out; clear hb)
  have e0 := set_box (k := 0) (v := .slice none 0 0) HR4.out
  have e1 := set_box (k := 1) (v := .int .i64 0) e0
  obtain ⟨r0, r1, r2, r3⟩ := box_cells e1
  exact bodyPost_ret (v := .tuple #[.agg #[.slice none 0 0, .int .i64 0], .int .i64 0, .int .i64 2]) (by simp [results, Try.results9, go_sem, r0, r1]) rfl ⟨rfl, (HB4.out.setCell (p := ⟨w.heap.size + 1 + 1, 0, none⟩) (by show _ ≤ w.heap.size + 1 + 1; omega) _).setCell (p := ⟨w.heap.size + 1 + 1, 1, none⟩) (by show _ ≤ w.heap.size + 1 + 1; omega) _⟩
set_option maxRecDepth 100000 in
set_option maxHeartbeats 4000000 in
theorem refAdd_long (v : Value) (ls : List LstD) (next : Int) (x : LstD) (root aborted : Bool) (w : World) (hr : RdL w v ls) (hl : ls.length ≤ 1099511627775) (hc : checkD ls next = true) (h1 : decide ((x.kind.size : Int) > 1024) = true) :
    Calls Try.prog 9 #[.agg #[v, .int .i64 next], lstV x, .bool root, .bool aborted] w fun e w' => e = .returned (.tuple #[.agg #[.slice none 0 0, .int .i64 0], .int .i64 0, .int .i64 4]) ∧ Below w.heap.size w w' := by
  obtain ⟨xi, xn, xk, xc, xp, xo, xs, xg⟩ := x
  have h3n := three_new w (.cells #[v, .int .i64 next] 24) (.cells #[.int .i64 xi, .int .i64 xn, .string xk, .int .i64 xc, .bool xp, .bool xo, .int .u8 (xs : Int), .int .i64 xg] 27) (.cells #[.slice none 0 0, .int .i64 0] 24)
  have hC := refCheck_any v ls next _ (hr.later h3n.1) (by omega)
  rw [hc] at hC
  replace hC : Calls _ _ _ _ fun e w' => e = .returned (.int .i64 0) ∧ _ := hC
  have HBn := hid h3n.1
  have HLb := hid h3n.2.1
  have HXb := hid h3n.2.2.1
  have HRb := hid h3n.2.2.2.1
  obtain ⟨l0, l1, lf0, lf1⟩ := box_cells h3n.2.1
  unfold lstV
  dsimp only at *
  obtain ⟨o, cap, rfl, _, g⟩ := hr
  clear h3n g hc
  go_enter Try.func9, Try.ntmps9
  go_wp2_with (go_at_call 13; refine hC.mono ?_; rintro e w4 ⟨rfl, hb⟩; have HB4 := hid (HBn.out.trans (hb.mono HBn.out.size)); have HR4 := hid (blkLater hb HRb.out); have HL4 := hid (blkLater hb HLb.out); have HX4 := hid (blkLater hb HXb.out); obtain ⟨l0, l1, lf0, lf1⟩ := box_cells HL4.out; obtain ⟨k0, k1, k2, k3, k4, k5, k6, k7⟩ := lst_cells (x := ⟨xi, xn, xk, xc, xp, xo, xs, xg⟩) HX4.out; dsimp only at k0 k1 k2 k3 k4 k5 k6 k7; obtain ⟨u0, u1, u2, u3⟩ := box_cells HR4.out; clear hb)
  have e0 := set_box (k := 0) (v := .slice none 0 0) HR4.out
  have e1 := set_box (k := 1) (v := .int .i64 0) e0
  obtain ⟨r0, r1, r2, r3⟩ := box_cells e1
  exact bodyPost_ret (v := .tuple #[.agg #[.slice none 0 0, .int .i64 0], .int .i64 0, .int .i64 4]) (by simp [results, Try.results9, go_sem, r0, r1]) rfl ⟨rfl, (HB4.out.setCell (p := ⟨w.heap.size + 1 + 1, 0, none⟩) (by show _ ≤ w.heap.size + 1 + 1; omega) _).setCell (p := ⟨w.heap.size + 1 + 1, 1, none⟩) (by show _ ≤ w.heap.size + 1 + 1; omega) _⟩
set_option maxRecDepth 100000 in
set_option maxHeartbeats 4000000 in
theorem refAdd_node (v : Value) (ls : List LstD) (next : Int) (x : LstD) (root aborted : Bool) (w : World) (hr : RdL w v ls) (hl : ls.length ≤ 1099511627775) (hc : checkD ls next = true) (h1 : decide ((x.kind.size : Int) > 1024) = false) (h2 : decide (x.node < 1) = true) :
    Calls Try.prog 9 #[.agg #[v, .int .i64 next], lstV x, .bool root, .bool aborted] w fun e w' => e = .returned (.tuple #[.agg #[.slice none 0 0, .int .i64 0], .int .i64 0, .int .i64 2]) ∧ Below w.heap.size w w' := by
  obtain ⟨xi, xn, xk, xc, xp, xo, xs, xg⟩ := x
  have h3n := three_new w (.cells #[v, .int .i64 next] 24) (.cells #[.int .i64 xi, .int .i64 xn, .string xk, .int .i64 xc, .bool xp, .bool xo, .int .u8 (xs : Int), .int .i64 xg] 27) (.cells #[.slice none 0 0, .int .i64 0] 24)
  have hC := refCheck_any v ls next _ (hr.later h3n.1) (by omega)
  rw [hc] at hC
  replace hC : Calls _ _ _ _ fun e w' => e = .returned (.int .i64 0) ∧ _ := hC
  have HBn := hid h3n.1
  have HLb := hid h3n.2.1
  have HXb := hid h3n.2.2.1
  have HRb := hid h3n.2.2.2.1
  obtain ⟨l0, l1, lf0, lf1⟩ := box_cells h3n.2.1
  unfold lstV
  dsimp only at *
  obtain ⟨o, cap, rfl, _, g⟩ := hr
  clear h3n g hc
  go_enter Try.func9, Try.ntmps9
  go_wp2_with (go_at_call 13; refine hC.mono ?_; rintro e w4 ⟨rfl, hb⟩; have HB4 := hid (HBn.out.trans (hb.mono HBn.out.size)); have HR4 := hid (blkLater hb HRb.out); have HL4 := hid (blkLater hb HLb.out); have HX4 := hid (blkLater hb HXb.out); obtain ⟨l0, l1, lf0, lf1⟩ := box_cells HL4.out; obtain ⟨k0, k1, k2, k3, k4, k5, k6, k7⟩ := lst_cells (x := ⟨xi, xn, xk, xc, xp, xo, xs, xg⟩) HX4.out; dsimp only at k0 k1 k2 k3 k4 k5 k6 k7; obtain ⟨u0, u1, u2, u3⟩ := box_cells HR4.out; clear hb)
  have e0 := set_box (k := 0) (v := .slice none 0 0) HR4.out
  have e1 := set_box (k := 1) (v := .int .i64 0) e0
  obtain ⟨r0, r1, r2, r3⟩ := box_cells e1
  exact bodyPost_ret (v := .tuple #[.agg #[.slice none 0 0, .int .i64 0], .int .i64 0, .int .i64 2]) (by simp [results, Try.results9, go_sem, r0, r1]) rfl ⟨rfl, (HB4.out.setCell (p := ⟨w.heap.size + 1 + 1, 0, none⟩) (by show _ ≤ w.heap.size + 1 + 1; omega) _).setCell (p := ⟨w.heap.size + 1 + 1, 1, none⟩) (by show _ ≤ w.heap.size + 1 + 1; omega) _⟩
set_option maxRecDepth 100000 in
set_option maxHeartbeats 4000000 in
theorem refAdd_pas (v : Value) (ls : List LstD) (next : Int) (x : LstD) (root aborted : Bool) (w : World) (hr : RdL w v ls) (hl : ls.length ≤ 1099511627775) (hc : checkD ls next = true) (h1 : decide ((x.kind.size : Int) > 1024) = false) (h2 : decide (x.node < 1) = false) (h3 : decide ((x.pas : Int) ≥ 3) = true) :
    Calls Try.prog 9 #[.agg #[v, .int .i64 next], lstV x, .bool root, .bool aborted] w fun e w' => e = .returned (.tuple #[.agg #[.slice none 0 0, .int .i64 0], .int .i64 0, .int .i64 2]) ∧ Below w.heap.size w w' := by
  obtain ⟨xi, xn, xk, xc, xp, xo, xs, xg⟩ := x
  have h3n := three_new w (.cells #[v, .int .i64 next] 24) (.cells #[.int .i64 xi, .int .i64 xn, .string xk, .int .i64 xc, .bool xp, .bool xo, .int .u8 (xs : Int), .int .i64 xg] 27) (.cells #[.slice none 0 0, .int .i64 0] 24)
  have hC := refCheck_any v ls next _ (hr.later h3n.1) (by omega)
  rw [hc] at hC
  replace hC : Calls _ _ _ _ fun e w' => e = .returned (.int .i64 0) ∧ _ := hC
  have HBn := hid h3n.1
  have HLb := hid h3n.2.1
  have HXb := hid h3n.2.2.1
  have HRb := hid h3n.2.2.2.1
  obtain ⟨l0, l1, lf0, lf1⟩ := box_cells h3n.2.1
  unfold lstV
  dsimp only at *
  obtain ⟨o, cap, rfl, _, g⟩ := hr
  clear h3n g hc
  go_enter Try.func9, Try.ntmps9
  go_wp2_with (go_at_call 13; refine hC.mono ?_; rintro e w4 ⟨rfl, hb⟩; have HB4 := hid (HBn.out.trans (hb.mono HBn.out.size)); have HR4 := hid (blkLater hb HRb.out); have HL4 := hid (blkLater hb HLb.out); have HX4 := hid (blkLater hb HXb.out); obtain ⟨l0, l1, lf0, lf1⟩ := box_cells HL4.out; obtain ⟨k0, k1, k2, k3, k4, k5, k6, k7⟩ := lst_cells (x := ⟨xi, xn, xk, xc, xp, xo, xs, xg⟩) HX4.out; dsimp only at k0 k1 k2 k3 k4 k5 k6 k7; obtain ⟨u0, u1, u2, u3⟩ := box_cells HR4.out; clear hb)
  have e0 := set_box (k := 0) (v := .slice none 0 0) HR4.out
  have e1 := set_box (k := 1) (v := .int .i64 0) e0
  obtain ⟨r0, r1, r2, r3⟩ := box_cells e1
  exact bodyPost_ret (v := .tuple #[.agg #[.slice none 0 0, .int .i64 0], .int .i64 0, .int .i64 2]) (by simp [results, Try.results9, go_sem, r0, r1]) rfl ⟨rfl, (HB4.out.setCell (p := ⟨w.heap.size + 1 + 1, 0, none⟩) (by show _ ≤ w.heap.size + 1 + 1; omega) _).setCell (p := ⟨w.heap.size + 1 + 1, 1, none⟩) (by show _ ≤ w.heap.size + 1 + 1; omega) _⟩
set_option maxRecDepth 100000 in
set_option maxHeartbeats 4000000 in
theorem refAdd_aborted (v : Value) (ls : List LstD) (next : Int) (x : LstD) (root aborted : Bool) (w : World) (hr : RdL w v ls) (hl : ls.length ≤ 1099511627775) (hc : checkD ls next = true) (h1 : decide ((x.kind.size : Int) > 1024) = false) (h2 : decide (x.node < 1) = false) (h3 : decide ((x.pas : Int) ≥ 3) = false) (ha : aborted = true) :
    Calls Try.prog 9 #[.agg #[v, .int .i64 next], lstV x, .bool root, .bool aborted] w fun e w' => ∃ o c, e = .returned (.tuple #[.agg #[.slice o ls.length c, .int .i64 (idD next)], .int .i64 0, .int .i64 0]) ∧ w'.ownsRow w.heap.size 27 8 (.slice o ls.length c) ls.length (rowL ls) ∧ Below w.heap.size w w' := by
  subst ha
  obtain ⟨xi, xn, xk, xc, xp, xo, xs, xg⟩ := x
  have h3n := three_new w (.cells #[v, .int .i64 next] 24) (.cells #[.int .i64 xi, .int .i64 xn, .string xk, .int .i64 xc, .bool xp, .bool xo, .int .u8 (xs : Int), .int .i64 xg] 27) (.cells #[.slice none 0 0, .int .i64 0] 24)
  have hC := refCheck_any v ls next _ (hr.later h3n.1) (by omega)
  rw [hc] at hC
  replace hC : Calls _ _ _ _ fun e w' => e = .returned (.int .i64 0) ∧ _ := hC
  have HBn := hid h3n.1
  have HLb := hid h3n.2.1
  have HXb := hid h3n.2.2.1
  have HRb := hid h3n.2.2.2.1
  obtain ⟨l0, l1, lf0, lf1⟩ := box_cells h3n.2.1
  have HF : Hid (∀ V : World, Below w.heap.size w V → _) := fun V hV => find_any v ls ⟨xi, xn, xk, xc, xp, xo, xs, xg⟩ V (hr.later hV) (by omega)
  have HW : Hid (∀ V : World, Below w.heap.size w V → _) := fun V hV => copyL_any v ls next V (hr.later hV) hl
  have hsz := h3n.2.2.2.2
  obtain ⟨NX, hNX⟩ : ∃ NX, idD next = NX := ⟨_, rfl⟩
  rw [hNX] at HW
  rw [hNX]
  unfold lstV at HF
  unfold lstV
  dsimp only at *
  obtain ⟨o, cap, rfl, _, g⟩ := hr
  clear h3n g hc
  go_enter Try.func9, Try.ntmps9
  go_upto_region 8 with (first
    | (go_at_call 13; refine hC.mono ?_; rintro e w4 ⟨rfl, hb⟩; have HB4 := hid (HBn.out.trans (hb.mono HBn.out.size)); have HR4 := hid (blkLater hb HRb.out); have HL4 := hid (blkLater hb HLb.out); have HX4 := hid (blkLater hb HXb.out); obtain ⟨l0, l1, lf0, lf1⟩ := box_cells HL4.out; obtain ⟨k0, k1, k2, k3, k4, k5, k6, k7⟩ := lst_cells (x := ⟨xi, xn, xk, xc, xp, xo, xs, xg⟩) HX4.out; dsimp only at k0 k1 k2 k3 k4 k5 k6 k7; obtain ⟨u0, u1, u2, u3⟩ := box_cells HR4.out; clear hb)
    | (go_at_call 34; refine (HW.out _ HB4.out).mono ?_; rintro e w5 ⟨o2, c2, rfl, hown, hb⟩; have HL5 := hid (blkLater hb HL4.out); have HX5 := hid (blkLater hb HX4.out); have HB5 := hid (HB4.out.trans (hb.mono HB4.out.size)); have HR5 := hid (blkLater hb HR4.out); have HO5 := hid hown; have hs5 := hb.size; clear hb hown))
  have hba : Below w5.heap.size w5 (w5.alloc (.cells #[.slice o2 ls.length c2, .int .i64 NX] 24)) := (Below.refl _ w5).alloc (Nat.le_refl _) _
  have HLa := hid (blkLater hba HL5.out)
  have HXa := hid (blkLater hba HX5.out)
  have HRa := hid (blkLater hba HR5.out)
  have HOa := hid (own_base HB4.out.size (own_later HO5.out hba))
  have HOb := hid (own_later HO5.out hba)
  have HMa := hid (heap_new w5 (.cells #[.slice o2 ls.length c2, .int .i64 NX] 24))
  have HBa := hid (HB5.out.trans (hba.mono HB5.out.size))
  have hsN : w.heap.size + 1 + 1 < w4.heap.size := (Array.getElem?_eq_some_iff.1 HR4.out).1
  have hsa : (w5.alloc (.cells #[.slice o2 ls.length c2, .int .i64 NX] 24)).heap.size = w5.heap.size + 1 := by simp
  clear hba HL5 HX5 HR5 HO5 HB5 HL4 HX4 HR4 HB4 HBn HLb HXb HRb hC HW l0 l1 lf0 lf1 k0 k1 k2 k3 k4 k5 k6 k7 u0 u1 u2 u3
  generalize w5.alloc (.cells #[.slice o2 ls.length c2, .int .i64 NX] 24) = Z at *
  generalize hMe : w5.heap.size = M at *
  have hNM : w.heap.size + 1 + 1 < M := by omega
  obtain ⟨l0, l1, lf0, lf1⟩ := box_cells HLa.out
  obtain ⟨k0, k1, k2, k3, k4, k5, k6, k7⟩ := lst_cells (x := ⟨xi, xn, xk, xc, xp, xo, xs, xg⟩) HXa.out
  dsimp only at k0 k1 k2 k3 k4 k5 k6 k7
  obtain ⟨u0, u1, u2, u3⟩ := box_cells HRa.out
  obtain ⟨m0, m1, mf0, mf1⟩ := box_cells HMa.out
  clear HF
  go_wp2
  have e0 := set_box (k := 0) (v := .slice o2 ls.length c2) HRa.out
  have e1 := set_box (k := 1) (v := .int .i64 NX) e0
  obtain ⟨r0, r1, r2, r3⟩ := box_cells e1
  exact bodyPost_ret (v := .tuple #[.agg #[.slice o2 ls.length c2, .int .i64 NX], .int .i64 0, .int .i64 0]) (by simp [results, Try.results9, go_sem, r0, r1]) rfl ⟨o2, c2, rfl, own_set (o := 1) (own_set (o := 0) HOa.out HRa.out (by decide) _) e0 (by decide) _, (HBa.out.setCell (p := ⟨w.heap.size + 1 + 1, 0, none⟩) (by show _ ≤ w.heap.size + 1 + 1; omega) _).setCell (p := ⟨w.heap.size + 1 + 1, 1, none⟩) (by show _ ≤ w.heap.size + 1 + 1; omega) _⟩
set_option maxRecDepth 100000 in
set_option maxHeartbeats 4000000 in
theorem refAdd_cb (v : Value) (ls : List LstD) (next : Int) (x : LstD) (root aborted : Bool) (w : World) (hr : RdL w v ls) (hl : ls.length ≤ 1099511627775) (hc : checkD ls next = true) (h1 : decide ((x.kind.size : Int) > 1024) = false) (h2 : decide (x.node < 1) = false) (h3 : decide ((x.pas : Int) ≥ 3) = false) (ha : aborted = false) (hz : (x.cb == 0) = true) :
    Calls Try.prog 9 #[.agg #[v, .int .i64 next], lstV x, .bool root, .bool aborted] w fun e w' => ∃ o c, e = .returned (.tuple #[.agg #[.slice o ls.length c, .int .i64 (idD next)], .int .i64 0, .int .i64 0]) ∧ w'.ownsRow w.heap.size 27 8 (.slice o ls.length c) ls.length (rowL ls) ∧ Below w.heap.size w w' := by
  subst ha
  obtain ⟨xi, xn, xk, xc, xp, xo, xs, xg⟩ := x
  have h3n := three_new w (.cells #[v, .int .i64 next] 24) (.cells #[.int .i64 xi, .int .i64 xn, .string xk, .int .i64 xc, .bool xp, .bool xo, .int .u8 (xs : Int), .int .i64 xg] 27) (.cells #[.slice none 0 0, .int .i64 0] 24)
  have hC := refCheck_any v ls next _ (hr.later h3n.1) (by omega)
  rw [hc] at hC
  replace hC : Calls _ _ _ _ fun e w' => e = .returned (.int .i64 0) ∧ _ := hC
  have HBn := hid h3n.1
  have HLb := hid h3n.2.1
  have HXb := hid h3n.2.2.1
  have HRb := hid h3n.2.2.2.1
  obtain ⟨l0, l1, lf0, lf1⟩ := box_cells h3n.2.1
  have HF : Hid (∀ V : World, Below w.heap.size w V → _) := fun V hV => find_any v ls ⟨xi, xn, xk, xc, xp, xo, xs, xg⟩ V (hr.later hV) (by omega)
  have HW : Hid (∀ V : World, Below w.heap.size w V → _) := fun V hV => copyL_any v ls next V (hr.later hV) hl
  have hsz := h3n.2.2.2.2
  obtain ⟨NX, hNX⟩ : ∃ NX, idD next = NX := ⟨_, rfl⟩
  rw [hNX] at HW
  rw [hNX]
  unfold lstV at HF
  unfold lstV
  dsimp only at *
  obtain ⟨o, cap, rfl, _, g⟩ := hr
  clear h3n g hc
  go_enter Try.func9, Try.ntmps9
  go_upto_region 8 with (first
    | (go_at_call 13; refine hC.mono ?_; rintro e w4 ⟨rfl, hb⟩; have HB4 := hid (HBn.out.trans (hb.mono HBn.out.size)); have HR4 := hid (blkLater hb HRb.out); have HL4 := hid (blkLater hb HLb.out); have HX4 := hid (blkLater hb HXb.out); obtain ⟨l0, l1, lf0, lf1⟩ := box_cells HL4.out; obtain ⟨k0, k1, k2, k3, k4, k5, k6, k7⟩ := lst_cells (x := ⟨xi, xn, xk, xc, xp, xo, xs, xg⟩) HX4.out; dsimp only at k0 k1 k2 k3 k4 k5 k6 k7; obtain ⟨u0, u1, u2, u3⟩ := box_cells HR4.out; clear hb)
    | (go_at_call 34; refine (HW.out _ HB4.out).mono ?_; rintro e w5 ⟨o2, c2, rfl, hown, hb⟩; have HL5 := hid (blkLater hb HL4.out); have HX5 := hid (blkLater hb HX4.out); have HB5 := hid (HB4.out.trans (hb.mono HB4.out.size)); have HR5 := hid (blkLater hb HR4.out); have HO5 := hid hown; have hs5 := hb.size; clear hb hown))
  have hba : Below w5.heap.size w5 (w5.alloc (.cells #[.slice o2 ls.length c2, .int .i64 NX] 24)) := (Below.refl _ w5).alloc (Nat.le_refl _) _
  have HLa := hid (blkLater hba HL5.out)
  have HXa := hid (blkLater hba HX5.out)
  have HRa := hid (blkLater hba HR5.out)
  have HOa := hid (own_base HB4.out.size (own_later HO5.out hba))
  have HOb := hid (own_later HO5.out hba)
  have HMa := hid (heap_new w5 (.cells #[.slice o2 ls.length c2, .int .i64 NX] 24))
  have HBa := hid (HB5.out.trans (hba.mono HB5.out.size))
  have hsN : w.heap.size + 1 + 1 < w4.heap.size := (Array.getElem?_eq_some_iff.1 HR4.out).1
  have hsa : (w5.alloc (.cells #[.slice o2 ls.length c2, .int .i64 NX] 24)).heap.size = w5.heap.size + 1 := by simp
  clear hba HL5 HX5 HR5 HO5 HB5 HL4 HX4 HR4 HB4 HBn HLb HXb HRb hC HW l0 l1 lf0 lf1 k0 k1 k2 k3 k4 k5 k6 k7 u0 u1 u2 u3
  generalize w5.alloc (.cells #[.slice o2 ls.length c2, .int .i64 NX] 24) = Z at *
  generalize hMe : w5.heap.size = M at *
  have hNM : w.heap.size + 1 + 1 < M := by omega
  obtain ⟨l0, l1, lf0, lf1⟩ := box_cells HLa.out
  obtain ⟨k0, k1, k2, k3, k4, k5, k6, k7⟩ := lst_cells (x := ⟨xi, xn, xk, xc, xp, xo, xs, xg⟩) HXa.out
  dsimp only at k0 k1 k2 k3 k4 k5 k6 k7
  obtain ⟨u0, u1, u2, u3⟩ := box_cells HRa.out
  obtain ⟨m0, m1, mf0, mf1⟩ := box_cells HMa.out
  clear HF
  go_wp2
  have e0 := set_box (k := 0) (v := .slice o2 ls.length c2) HRa.out
  have e1 := set_box (k := 1) (v := .int .i64 NX) e0
  obtain ⟨r0, r1, r2, r3⟩ := box_cells e1
  exact bodyPost_ret (v := .tuple #[.agg #[.slice o2 ls.length c2, .int .i64 NX], .int .i64 0, .int .i64 0]) (by simp [results, Try.results9, go_sem, r0, r1]) rfl ⟨o2, c2, rfl, own_set (o := 1) (own_set (o := 0) HOa.out HRa.out (by decide) _) e0 (by decide) _, (HBa.out.setCell (p := ⟨w.heap.size + 1 + 1, 0, none⟩) (by show _ ≤ w.heap.size + 1 + 1; omega) _).setCell (p := ⟨w.heap.size + 1 + 1, 1, none⟩) (by show _ ≤ w.heap.size + 1 + 1; omega) _⟩
set_option maxRecDepth 100000 in
set_option maxHeartbeats 4000000 in
theorem refAdd_like (v : Value) (ls : List LstD) (next : Int) (x : LstD) (root aborted : Bool) (w : World) (hr : RdL w v ls) (hl : ls.length ≤ 1099511627775) (hc : checkD ls next = true) (h1 : decide ((x.kind.size : Int) > 1024) = false) (h2 : decide (x.node < 1) = false) (h3 : decide ((x.pas : Int) ≥ 3) = false) (ha : aborted = false) (hz : (x.cb == 0) = false) (hs : ls.any (markEq x) = true) :
    Calls Try.prog 9 #[.agg #[v, .int .i64 next], lstV x, .bool root, .bool aborted] w fun e w' => ∃ o c, e = .returned (.tuple #[.agg #[.slice o ls.length c, .int .i64 (idD next)], .int .i64 0, .int .i64 0]) ∧ w'.ownsRow w.heap.size 27 8 (.slice o ls.length c) ls.length (rowL ls) ∧ Below w.heap.size w w' := by
  subst ha
  obtain ⟨xi, xn, xk, xc, xp, xo, xs, xg⟩ := x
  have h3n := three_new w (.cells #[v, .int .i64 next] 24) (.cells #[.int .i64 xi, .int .i64 xn, .string xk, .int .i64 xc, .bool xp, .bool xo, .int .u8 (xs : Int), .int .i64 xg] 27) (.cells #[.slice none 0 0, .int .i64 0] 24)
  have hC := refCheck_any v ls next _ (hr.later h3n.1) (by omega)
  rw [hc] at hC
  replace hC : Calls _ _ _ _ fun e w' => e = .returned (.int .i64 0) ∧ _ := hC
  have HBn := hid h3n.1
  have HLb := hid h3n.2.1
  have HXb := hid h3n.2.2.1
  have HRb := hid h3n.2.2.2.1
  obtain ⟨l0, l1, lf0, lf1⟩ := box_cells h3n.2.1
  have HF : Hid (∀ V : World, Below w.heap.size w V → _) := fun V hV => find_any v ls ⟨xi, xn, xk, xc, xp, xo, xs, xg⟩ V (hr.later hV) (by omega)
  have HW : Hid (∀ V : World, Below w.heap.size w V → _) := fun V hV => copyL_any v ls next V (hr.later hV) hl
  have hsz := h3n.2.2.2.2
  obtain ⟨NX, hNX⟩ : ∃ NX, idD next = NX := ⟨_, rfl⟩
  rw [hNX] at HW
  rw [hNX]
  unfold lstV at HF
  obtain ⟨j, hj, hf, _, _⟩ := first_at _ ls 0 hs
  rw [Nat.zero_add] at hf
  replace hf : firstL _ ls 0 = (j : Int) := hf
  rw [hf] at HF
  have hj0 : decide ((j : Int) ≥ 0) = true := decide_eq_true (by omega)
  clear hf hs
  unfold lstV
  dsimp only at *
  obtain ⟨o, cap, rfl, _, g⟩ := hr
  clear h3n g hc
  go_enter Try.func9, Try.ntmps9
  go_upto_region 8 with (first
    | (go_at_call 13; refine hC.mono ?_; rintro e w4 ⟨rfl, hb⟩; have HB4 := hid (HBn.out.trans (hb.mono HBn.out.size)); have HR4 := hid (blkLater hb HRb.out); have HL4 := hid (blkLater hb HLb.out); have HX4 := hid (blkLater hb HXb.out); obtain ⟨l0, l1, lf0, lf1⟩ := box_cells HL4.out; obtain ⟨k0, k1, k2, k3, k4, k5, k6, k7⟩ := lst_cells (x := ⟨xi, xn, xk, xc, xp, xo, xs, xg⟩) HX4.out; dsimp only at k0 k1 k2 k3 k4 k5 k6 k7; obtain ⟨u0, u1, u2, u3⟩ := box_cells HR4.out; clear hb)
    | (go_at_call 34; refine (HW.out _ HB4.out).mono ?_; rintro e w5 ⟨o2, c2, rfl, hown, hb⟩; have HL5 := hid (blkLater hb HL4.out); have HX5 := hid (blkLater hb HX4.out); have HB5 := hid (HB4.out.trans (hb.mono HB4.out.size)); have HR5 := hid (blkLater hb HR4.out); have HO5 := hid hown; have hs5 := hb.size; clear hb hown))
  have hba : Below w5.heap.size w5 (w5.alloc (.cells #[.slice o2 ls.length c2, .int .i64 NX] 24)) := (Below.refl _ w5).alloc (Nat.le_refl _) _
  have HLa := hid (blkLater hba HL5.out)
  have HXa := hid (blkLater hba HX5.out)
  have HRa := hid (blkLater hba HR5.out)
  have HOa := hid (own_base HB4.out.size (own_later HO5.out hba))
  have HOb := hid (own_later HO5.out hba)
  have HMa := hid (heap_new w5 (.cells #[.slice o2 ls.length c2, .int .i64 NX] 24))
  have HBa := hid (HB5.out.trans (hba.mono HB5.out.size))
  have hsN : w.heap.size + 1 + 1 < w4.heap.size := (Array.getElem?_eq_some_iff.1 HR4.out).1
  have hsa : (w5.alloc (.cells #[.slice o2 ls.length c2, .int .i64 NX] 24)).heap.size = w5.heap.size + 1 := by simp
  clear hba HL5 HX5 HR5 HO5 HB5 HL4 HX4 HR4 HB4 HBn HLb HXb HRb hC HW l0 l1 lf0 lf1 k0 k1 k2 k3 k4 k5 k6 k7 u0 u1 u2 u3
  generalize w5.alloc (.cells #[.slice o2 ls.length c2, .int .i64 NX] 24) = Z at *
  generalize hMe : w5.heap.size = M at *
  have hNM : w.heap.size + 1 + 1 < M := by omega
  obtain ⟨l0, l1, lf0, lf1⟩ := box_cells HLa.out
  obtain ⟨k0, k1, k2, k3, k4, k5, k6, k7⟩ := lst_cells (x := ⟨xi, xn, xk, xc, xp, xo, xs, xg⟩) HXa.out
  dsimp only at k0 k1 k2 k3 k4 k5 k6 k7
  obtain ⟨u0, u1, u2, u3⟩ := box_cells HRa.out
  obtain ⟨m0, m1, mf0, mf1⟩ := box_cells HMa.out
  go_wp2_with (go_at_call 35; refine (HF.out _ HBa.out).mono ?_; rintro e w6 ⟨rfl, hb⟩; have HL6 := hid (blkLater hb HLa.out); have HX6 := hid (blkLater hb HXa.out); have HR6 := hid (blkLater hb HRa.out); have HM6 := hid (blkLater hb HMa.out); have HO6 := hid (own_later HOa.out hb); have HQ6 := hid (own_later HOb.out hb); have HB6 := hid (HBa.out.trans (hb.mono HBa.out.size)); have hs6 := hb.size; obtain ⟨l0, l1, lf0, lf1⟩ := box_cells HL6.out; obtain ⟨k0, k1, k2, k3, k4, k5, k6, k7⟩ := lst_cells (x := ⟨xi, xn, xk, xc, xp, xo, xs, xg⟩) HX6.out; dsimp only at k0 k1 k2 k3 k4 k5 k6 k7; obtain ⟨u0, u1, u2, u3⟩ := box_cells HR6.out; obtain ⟨m0, m1, mf0, mf1⟩ := box_cells HM6.out; clear hb)
  have e0 := set_box (k := 0) (v := .slice o2 ls.length c2) HR6.out
  have e1 := set_box (k := 1) (v := .int .i64 NX) e0
  obtain ⟨r0, r1, r2, r3⟩ := box_cells e1
  exact bodyPost_ret (v := .tuple #[.agg #[.slice o2 ls.length c2, .int .i64 NX], .int .i64 0, .int .i64 0]) (by simp [results, Try.results9, go_sem, r0, r1]) rfl ⟨o2, c2, rfl, own_set (o := 1) (own_set (o := 0) HO6.out HR6.out (by decide) _) e0 (by decide) _, (HB6.out.setCell (p := ⟨w.heap.size + 1 + 1, 0, none⟩) (by show _ ≤ w.heap.size + 1 + 1; omega) _).setCell (p := ⟨w.heap.size + 1 + 1, 1, none⟩) (by show _ ≤ w.heap.size + 1 + 1; omega) _⟩
set_option maxRecDepth 100000 in
set_option maxHeartbeats 4000000 in
theorem refAdd_full (v : Value) (ls : List LstD) (next : Int) (x : LstD) (root aborted : Bool) (w : World) (hr : RdL w v ls) (hl : ls.length ≤ 1099511627775) (hc : checkD ls next = true) (h1 : decide ((x.kind.size : Int) > 1024) = false) (h2 : decide (x.node < 1) = false) (h3 : decide ((x.pas : Int) ≥ 3) = false) (ha : aborted = false) (hz : (x.cb == 0) = false) (hs : ls.any (markEq x) = false) (hf : decide ((ls.length : Int) ≥ 1024) = true ∨ decide ((ls.length : Int) ≥ 1024) = false ∧ decide (idD next ≥ 1099511627776) = true) :
    Calls Try.prog 9 #[.agg #[v, .int .i64 next], lstV x, .bool root, .bool aborted] w fun e w' => e = .returned (.tuple #[.agg #[.slice none 0 0, .int .i64 0], .int .i64 0, .int .i64 3]) ∧ Below w.heap.size w w' := by
  subst ha
  obtain ⟨xi, xn, xk, xc, xp, xo, xs, xg⟩ := x
  have h3n := three_new w (.cells #[v, .int .i64 next] 24) (.cells #[.int .i64 xi, .int .i64 xn, .string xk, .int .i64 xc, .bool xp, .bool xo, .int .u8 (xs : Int), .int .i64 xg] 27) (.cells #[.slice none 0 0, .int .i64 0] 24)
  have hC := refCheck_any v ls next _ (hr.later h3n.1) (by omega)
  rw [hc] at hC
  replace hC : Calls _ _ _ _ fun e w' => e = .returned (.int .i64 0) ∧ _ := hC
  have HBn := hid h3n.1
  have HLb := hid h3n.2.1
  have HXb := hid h3n.2.2.1
  have HRb := hid h3n.2.2.2.1
  obtain ⟨l0, l1, lf0, lf1⟩ := box_cells h3n.2.1
  have HF : Hid (∀ V : World, Below w.heap.size w V → _) := fun V hV => find_any v ls ⟨xi, xn, xk, xc, xp, xo, xs, xg⟩ V (hr.later hV) (by omega)
  have HW : Hid (∀ V : World, Below w.heap.size w V → _) := fun V hV => copyL_any v ls next V (hr.later hV) hl
  have hsz := h3n.2.2.2.2
  obtain ⟨NX, hNX⟩ : ∃ NX, idD next = NX := ⟨_, rfl⟩
  rw [hNX] at HW
  rw [hNX] at hf
  unfold lstV at HF
  rw [first_no _ ls 0 hs] at HF
  clear hs
  unfold lstV
  dsimp only at *
  obtain ⟨o, cap, rfl, _, g⟩ := hr
  clear h3n g hc
  go_enter Try.func9, Try.ntmps9
  go_upto_region 8 with (first
    | (go_at_call 13; refine hC.mono ?_; rintro e w4 ⟨rfl, hb⟩; have HB4 := hid (HBn.out.trans (hb.mono HBn.out.size)); have HR4 := hid (blkLater hb HRb.out); have HL4 := hid (blkLater hb HLb.out); have HX4 := hid (blkLater hb HXb.out); obtain ⟨l0, l1, lf0, lf1⟩ := box_cells HL4.out; obtain ⟨k0, k1, k2, k3, k4, k5, k6, k7⟩ := lst_cells (x := ⟨xi, xn, xk, xc, xp, xo, xs, xg⟩) HX4.out; dsimp only at k0 k1 k2 k3 k4 k5 k6 k7; obtain ⟨u0, u1, u2, u3⟩ := box_cells HR4.out; clear hb)
    | (go_at_call 34; refine (HW.out _ HB4.out).mono ?_; rintro e w5 ⟨o2, c2, rfl, hown, hb⟩; have HL5 := hid (blkLater hb HL4.out); have HX5 := hid (blkLater hb HX4.out); have HB5 := hid (HB4.out.trans (hb.mono HB4.out.size)); have HR5 := hid (blkLater hb HR4.out); have HO5 := hid hown; have hs5 := hb.size; clear hb hown))
  have hba : Below w5.heap.size w5 (w5.alloc (.cells #[.slice o2 ls.length c2, .int .i64 NX] 24)) := (Below.refl _ w5).alloc (Nat.le_refl _) _
  have HLa := hid (blkLater hba HL5.out)
  have HXa := hid (blkLater hba HX5.out)
  have HRa := hid (blkLater hba HR5.out)
  have HOa := hid (own_base HB4.out.size (own_later HO5.out hba))
  have HOb := hid (own_later HO5.out hba)
  have HMa := hid (heap_new w5 (.cells #[.slice o2 ls.length c2, .int .i64 NX] 24))
  have HBa := hid (HB5.out.trans (hba.mono HB5.out.size))
  have hsN : w.heap.size + 1 + 1 < w4.heap.size := (Array.getElem?_eq_some_iff.1 HR4.out).1
  have hsa : (w5.alloc (.cells #[.slice o2 ls.length c2, .int .i64 NX] 24)).heap.size = w5.heap.size + 1 := by simp
  clear hba HL5 HX5 HR5 HO5 HB5 HL4 HX4 HR4 HB4 HBn HLb HXb HRb hC HW l0 l1 lf0 lf1 k0 k1 k2 k3 k4 k5 k6 k7 u0 u1 u2 u3
  generalize w5.alloc (.cells #[.slice o2 ls.length c2, .int .i64 NX] 24) = Z at *
  generalize hMe : w5.heap.size = M at *
  have hNM : w.heap.size + 1 + 1 < M := by omega
  obtain ⟨l0, l1, lf0, lf1⟩ := box_cells HLa.out
  obtain ⟨k0, k1, k2, k3, k4, k5, k6, k7⟩ := lst_cells (x := ⟨xi, xn, xk, xc, xp, xo, xs, xg⟩) HXa.out
  dsimp only at k0 k1 k2 k3 k4 k5 k6 k7
  obtain ⟨u0, u1, u2, u3⟩ := box_cells HRa.out
  obtain ⟨m0, m1, mf0, mf1⟩ := box_cells HMa.out
  rcases hf with hf | ⟨hf, hf2⟩
  all_goals
    go_wp2_with (go_at_call 35; refine (HF.out _ HBa.out).mono ?_; rintro e w6 ⟨rfl, hb⟩; have HL6 := hid (blkLater hb HLa.out); have HX6 := hid (blkLater hb HXa.out); have HR6 := hid (blkLater hb HRa.out); have HM6 := hid (blkLater hb HMa.out); have HO6 := hid (own_later HOa.out hb); have HQ6 := hid (own_later HOb.out hb); have HB6 := hid (HBa.out.trans (hb.mono HBa.out.size)); have hs6 := hb.size; obtain ⟨l0, l1, lf0, lf1⟩ := box_cells HL6.out; obtain ⟨k0, k1, k2, k3, k4, k5, k6, k7⟩ := lst_cells (x := ⟨xi, xn, xk, xc, xp, xo, xs, xg⟩) HX6.out; dsimp only at k0 k1 k2 k3 k4 k5 k6 k7; obtain ⟨u0, u1, u2, u3⟩ := box_cells HR6.out; obtain ⟨m0, m1, mf0, mf1⟩ := box_cells HM6.out; clear hb)
    have e0 := set_box (k := 0) (v := .slice none 0 0) HR6.out
    have e1 := set_box (k := 1) (v := .int .i64 0) e0
    obtain ⟨r0, r1, r2, r3⟩ := box_cells e1
    exact bodyPost_ret (v := .tuple #[.agg #[.slice none 0 0, .int .i64 0], .int .i64 0, .int .i64 3]) (by simp [results, Try.results9, go_sem, r0, r1]) rfl ⟨rfl, (HB6.out.setCell (p := ⟨w.heap.size + 1 + 1, 0, none⟩) (by show _ ≤ w.heap.size + 1 + 1; omega) _).setCell (p := ⟨w.heap.size + 1 + 1, 1, none⟩) (by show _ ≤ w.heap.size + 1 + 1; omega) _⟩
end Go.Proofs.Ytgelclbjbjpacaa
