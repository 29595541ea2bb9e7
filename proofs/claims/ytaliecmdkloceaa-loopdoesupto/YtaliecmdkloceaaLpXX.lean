/- loop: the reference: next. -/
import Derived.Test.YtaliecmdkloceaaLpWW
namespace Go.Proofs.Ytaliecmdkloceaa
open Go.RowKit Go.Lib Go.Shelf

/-- What next answers. -/
structure NextR (V : World) (n0 : Nat) (r' : LpD) (t : TurnD) (B c : Nat) (e : Ending) (w' : World) : Prop where
  ex : ∃ v' tv', e = .returned (.tuple #[stR r' B c (v' 8) tv', turnV t]) ∧ RfO w' n0 r' B c v' tv'
  bel : Keep n0 V w'
def tnW (W : World) (N : Nat) (x y z : Value) : World := ((W.setCell ⟨N, 0, none⟩ x).setCell ⟨N, 1, none⟩ y).setCell ⟨N, 2, none⟩ z
theorem tn_other {W : World} {N k : Nat} (hk : k ≠ N) (x y z : Value) : (tnW W N x y z).heap[k]? = W.heap[k]? := by
  unfold tnW
  rw [Below.heap_setCell _ _ _ k hk, Below.heap_setCell _ _ _ k hk, Below.heap_setCell _ _ _ k hk]
theorem tn_world {W : World} {N : Nat} {a b c : Value} {T : TypeId} (h : W.heap[N]? = some (.cells #[a, b, c] T)) (x y z : Value) : (tnW W N x y z).heap[N]? = some (.cells #[x, y, z] T) := set_boxQ (set_boxQ (set_boxQ h x) y) z
theorem tn_rf {W : World} {n0 N : Nat} {r : LpD} {B c : Nat} {v : Nat → Value} {tv : Value} {arr : Array Value} (h : RfO W n0 r B c v tv) (hN : W.heap[N]? = some (.cells arr 37)) (x y z : Value) : RfO (tnW W N x y z) n0 r B c v tv :=
  h.keep fun k _ S hk hS => tn_other (ty_ne hk hN (by rcases hS with rfl | rfl | rfl <;> decide)) _ _ _
theorem Keep.tn {n0 N : Nat} {V W : World} (h : Keep n0 V W) (hN : V.heap.size ≤ N) (hn : n0 ≤ V.heap.size) (x y z : Value) : Keep n0 V (tnW W N x y z) := ((h.setN hN hn x).setN hN hn y).setN hN hn z
theorem tn_below {n : Nat} {V W : World} {N : Nat} (h : Below n V W) (hN : n ≤ N) (x y z : Value) : Below n V (tnW W N x y z) :=
  ((h.setCell (p := ⟨N, 0, none⟩) hN _).setCell (p := ⟨N, 1, none⟩) hN _).setCell (p := ⟨N, 2, none⟩) hN _
set_option linter.unusedSimpArgs false in
set_option maxRecDepth 100000 in
set_option maxHeartbeats 4000000 in
theorem next_micR (V : World) (n0 : Nat) (now giv : Int) (mic : List Int) (tks : List (List Int)) (tms : List AlD) (cls : Bool) (B c : Nat) (v : Nat → Value) (tv : Value) (h : RfO V n0 ⟨now, mic, tks, tms, giv, cls⟩ B c v tv) (hn : n0 ≤ V.heap.size) (pick : Int) (x : Int) (q : List Int) (hm : mic = x :: q) :
    Calls Try.prog 19 #[stR ⟨now, mic, tks, tms, giv, cls⟩ B c (v 8) tv, .int .i64 pick] V fun e w' => NextR V n0 ⟨now, q, tks, tms, giv, cls⟩ ⟨1, 0, x⟩ B c e w' := by
  obtain ⟨⟨o8, c8, e8⟩, ot, ct, et⟩ := h.shape
  obtain ⟨U1, hU1⟩ : ∃ U1, U1 = ((V.alloc (.cells #[.bool cls, .int .i64 now, .int .i64 giv, .slice o8 mic.length c8, .slice (some ⟨B, 0, none⟩) 8 c, .slice ot tms.length ct] 30)).alloc zS).alloc zT := ⟨_, rfl⟩
  obtain ⟨hb1, hn1, hn2, hn3, hs1⟩ := three_al V (.cells #[.bool cls, .int .i64 now, .int .i64 giv, .slice o8 mic.length c8, .slice (some ⟨B, 0, none⟩) 8 c, .slice ot tms.length ct] 30) zS zT
  rw [← hU1] at hb1 hn1 hn2 hn3 hs1
  have HO : Hid (RfO U1 n0 ⟨now, mic, tks, tms, giv, cls⟩ B c v tv) := h.later hb1
  have HBn : Hid (Keep n0 V U1) := hid (Keep.of hb1 hn)
  have HNU : Hid (n0 ≤ U1.heap.size) := hid (Nat.le_trans hn hb1.size)
  unfold zS at hn2 hU1
  unfold zT at hn3 hU1
  have HM : Hid (v 8 = .slice o8 mic.length c8) := e8
  have HTV : Hid (tv = .slice ot tms.length ct) := et
  have HHN := hid hn
  have HS1 := hid hs1
  have HU1 := hid hU1
  unfold stR at *
  rw [HM.out, HTV.out]
  dsimp only
  subst hm
  generalize hLL : tms.length = L at *
  have hrow := HO.out.row 8 (by omega)
  have tq : tabL ⟨now, x :: q, tks, tms, giv, cls⟩ 8 = x :: q := rfl
  rw [tq] at hrow
  obtain ⟨g, off, cc, hv, hx⟩ := rdN_head hrow
  rw [HM.out] at hv
  injection hv with hv1 _ hv3
  subst hv1 hv3
  rw [HM.out] at hrow
  have hcap := hrow.cap_le
  have hT := hrow.tail
  have hown8 : (v 8).ownBlock = some g := by rw [HM.out]; rfl
  have hO1 := HO.out.mic_set (l' := q) (x := .slice (some (if c8 = 1 then ⟨g, off, none⟩ else ⟨g, off + 1, none⟩)) q.length (c8 - 1)) HNU.out (Below.refl _ U1) ⟨rfl, rfl, rfl, Nat.le_refl _, fun _ _ _ => rfl⟩ hT (fun k hk => .inl (by rw [hown8, ← hk]; split <;> rfl))
  have hql : (x :: q).length = q.length + 1 := rfl
  rw [hql] at HM hrow hn1 HU1 hcap ⊢
  clear hU1 hql h hb1
  generalize hMM : q.length = M at *
  by_cases hc1 : c8 = 1
  · subst hc1
    rw [if_pos rfl] at hO1 hT
    have hM0 : M = 0 := by omega
    subst hM0
    have hpos : decide ((1 : Int) > 0) = true := rfl
    obtain ⟨W7, hW7⟩ : ∃ W7, W7 = U1.setCell ⟨V.heap.size, 3, none⟩ (.slice (some ⟨g, off, none⟩) 0 0) := ⟨_, rfl⟩
    have ha : W7.heap[V.heap.size]? = some (.cells #[.bool cls, .int .i64 now, .int .i64 giv, .slice (some ⟨g, off, none⟩) 0 0, .slice (some ⟨B, 0, none⟩) 8 c, .slice ot L ct] 30) := by rw [hW7]; exact set_boxQ hn1 _
    have hb_ : W7.heap[V.heap.size + 1]? = some (.cells #[.bool false, .int .i64 0, .int .i64 0, .slice none 0 0, .slice none 0 0, .slice none 0 0] 30) := by rw [hW7]; exact blk_set hn2 (by omega) _
    have hc : W7.heap[V.heap.size + 1 + 1]? = some (.cells #[.int .u8 0, .int .i64 0, .int .i64 0] 37) := by rw [hW7]; exact blk_set hn3 (by omega) _
    have ho : RfO W7 n0 ⟨now, q, tks, tms, giv, cls⟩ B c (putV2 v 8 (.slice (some ⟨g, off, none⟩) 0 0)) tv := by rw [hW7]; exact hO1.set hn1 (by decide) (by decide) (by decide) _
    have hbe : Keep n0 V W7 := by rw [hW7]; exact HBn.out.setN (Nat.le_refl _) HHN.out _
    have HW7 := hid hW7
    have y0 : U1.cell? ⟨V.heap.size, 3, none⟩ = some (.slice (some ⟨g, off, none⟩) (0 + 1) 1) := (cell_of_heap hn1 3).trans rfl
    have y1 := box_fz hn1 3
    have hst := st_world hb_ (.bool cls) (.int .i64 now) (.int .i64 giv) (.slice (some ⟨g, off, none⟩) 0 0) (.slice (some ⟨B, 0, none⟩) 8 c) (.slice ot L ct)
    have hcc := (st3_other hc (N := V.heap.size + 1) (by omega) (.bool cls) (.int .i64 now) (.int .i64 giv) (.slice (some ⟨g, off, none⟩) 0 0) (.slice (some ⟨B, 0, none⟩) 8 c) (.slice ot L ct))
    have htn := tn_world hcc (.int .u8 1) (.int .i64 0) (.int .i64 x)
    have hss := (tn_other (N := V.heap.size + 1 + 1) (k := V.heap.size + 1) (by omega) (.int .u8 1) (.int .i64 0) (.int .i64 x)).trans hst
    have HEND : Hid (NextR V n0 ⟨now, q, tks, tms, giv, cls⟩ ⟨1, 0, x⟩ B c (.returned (.tuple #[.agg #[.bool cls, .int .i64 now, .int .i64 giv, .slice (some ⟨g, off, none⟩) 0 0, .slice (some ⟨B, 0, none⟩) 8 c, .slice ot L ct], .agg #[.int .u8 1, .int .i64 0, .int .i64 x]])) (tnW (stW W7 (V.heap.size + 1) (.bool cls) (.int .i64 now) (.int .i64 giv) (.slice (some ⟨g, off, none⟩) 0 0) (.slice (some ⟨B, 0, none⟩) 8 c) (.slice ot L ct)) (V.heap.size + 1 + 1) (.int .u8 1) (.int .i64 0) (.int .i64 x))) := ⟨⟨putV2 v 8 (.slice (some ⟨g, off, none⟩) 0 0), tv, by rw [HTV.out]; rfl, tn_rf (st_rf ho hb_ _ _ _ _ _ _) hcc _ _ _⟩, ((hbe).st (by omega) HHN.out _ _ _ _ _ _).tn (by omega) HHN.out _ _ _⟩
    have g0 := (cell_of_heap ha 0).trans rfl
    have g1 := (cell_of_heap ha 1).trans rfl
    have g2 := (cell_of_heap ha 2).trans rfl
    have g3 := (cell_of_heap ha 3).trans rfl
    have g4 := (cell_of_heap ha 4).trans rfl
    have g5 := (cell_of_heap ha 5).trans rfl
    have s0 := (cell_of_heap hb_ 0).trans rfl
    have s1 := (cell_of_heap hb_ 1).trans rfl
    have s2 := (cell_of_heap hb_ 2).trans rfl
    have s3 := (cell_of_heap hb_ 3).trans rfl
    have s4 := (cell_of_heap hb_ 4).trans rfl
    have s5 := (cell_of_heap hb_ 5).trans rfl
    have z0 := box_fz hb_ 0
    have z1 := box_fz hb_ 1
    have z2 := box_fz hb_ 2
    have z3 := box_fz hb_ 3
    have z4 := box_fz hb_ 4
    have z5 := box_fz hb_ 5
    have k0 := (cell_of_heap hss 0).trans rfl
    have k1 := (cell_of_heap hss 1).trans rfl
    have k2 := (cell_of_heap hss 2).trans rfl
    have k3 := (cell_of_heap hss 3).trans rfl
    have k4 := (cell_of_heap hss 4).trans rfl
    have k5 := (cell_of_heap hss 5).trans rfl
    have tz0 := box_fz hcc 0
    have tz1 := box_fz hcc 1
    have tz2 := box_fz hcc 2
    have ts0 := (cell_of_heap hcc 0).trans rfl
    have ts1 := (cell_of_heap hcc 1).trans rfl
    have ts2 := (cell_of_heap hcc 2).trans rfl
    have j0 := (cell_of_heap htn 0).trans rfl
    have j1 := (cell_of_heap htn 1).trans rfl
    have j2 := (cell_of_heap htn 2).trans rfl
    unfold tnW stW at HEND
    unfold tnW stW at k0 k1 k2 k3 k4 k5 j0 j1 j2
    unfold stW at tz0 tz1 tz2 ts0 ts1 ts2
    clear hst hcc htn hss
    clear ha hb_ hc ho hbe hW7 hO1 hT hrow hn1 hn2 hn3 hs1 hn
    go_enter Try.func19, Try.ntmps19
    go_upto_region 1 with fail
    rw [← HU1.out]
    skip
    go_upto_region 4 with fail
    rw [← HW7.out]
    go_wp2
    refine bodyPost_ret (v := .tuple #[.agg #[.bool cls, .int .i64 now, .int .i64 giv, .slice (some ⟨g, off, none⟩) 0 0, .slice (some ⟨B, 0, none⟩) 8 c, .slice ot L ct], .agg #[.int .u8 1, .int .i64 0, .int .i64 x]]) (by simp [results, Try.results19, go_sem, k0, k1, k2, k3, k4, k5, j0, j1, j2]) rfl ?_
    exact HEND.out
  · rw [if_neg hc1] at hO1 hT
    obtain ⟨W7, hW7⟩ : ∃ W7, W7 = U1.setCell ⟨V.heap.size, 3, none⟩ (.slice (some ⟨g, off + 1, none⟩) M (c8 - 1)) := ⟨_, rfl⟩
    have ha : W7.heap[V.heap.size]? = some (.cells #[.bool cls, .int .i64 now, .int .i64 giv, .slice (some ⟨g, off + 1, none⟩) M (c8 - 1), .slice (some ⟨B, 0, none⟩) 8 c, .slice ot L ct] 30) := by rw [hW7]; exact set_boxQ hn1 _
    have hb_ : W7.heap[V.heap.size + 1]? = some (.cells #[.bool false, .int .i64 0, .int .i64 0, .slice none 0 0, .slice none 0 0, .slice none 0 0] 30) := by rw [hW7]; exact blk_set hn2 (by omega) _
    have hc : W7.heap[V.heap.size + 1 + 1]? = some (.cells #[.int .u8 0, .int .i64 0, .int .i64 0] 37) := by rw [hW7]; exact blk_set hn3 (by omega) _
    have ho : RfO W7 n0 ⟨now, q, tks, tms, giv, cls⟩ B c (putV2 v 8 (.slice (some ⟨g, off + 1, none⟩) M (c8 - 1))) tv := by rw [hW7]; exact hO1.set hn1 (by decide) (by decide) (by decide) _
    have hbe : Keep n0 V W7 := by rw [hW7]; exact HBn.out.setN (Nat.le_refl _) HHN.out _
    have HW7 := hid hW7
    have y0 : U1.cell? ⟨V.heap.size, 3, none⟩ = some (.slice (some ⟨g, off, none⟩) (M + 1) c8) := (cell_of_heap hn1 3).trans rfl
    have y1 := box_fz hn1 3
    have hst := st_world hb_ (.bool cls) (.int .i64 now) (.int .i64 giv) (.slice (some ⟨g, off + 1, none⟩) M (c8 - 1)) (.slice (some ⟨B, 0, none⟩) 8 c) (.slice ot L ct)
    have hcc := (st3_other hc (N := V.heap.size + 1) (by omega) (.bool cls) (.int .i64 now) (.int .i64 giv) (.slice (some ⟨g, off + 1, none⟩) M (c8 - 1)) (.slice (some ⟨B, 0, none⟩) 8 c) (.slice ot L ct))
    have htn := tn_world hcc (.int .u8 1) (.int .i64 0) (.int .i64 x)
    have hss := (tn_other (N := V.heap.size + 1 + 1) (k := V.heap.size + 1) (by omega) (.int .u8 1) (.int .i64 0) (.int .i64 x)).trans hst
    have HEND : Hid (NextR V n0 ⟨now, q, tks, tms, giv, cls⟩ ⟨1, 0, x⟩ B c (.returned (.tuple #[.agg #[.bool cls, .int .i64 now, .int .i64 giv, .slice (some ⟨g, off + 1, none⟩) M (c8 - 1), .slice (some ⟨B, 0, none⟩) 8 c, .slice ot L ct], .agg #[.int .u8 1, .int .i64 0, .int .i64 x]])) (tnW (stW W7 (V.heap.size + 1) (.bool cls) (.int .i64 now) (.int .i64 giv) (.slice (some ⟨g, off + 1, none⟩) M (c8 - 1)) (.slice (some ⟨B, 0, none⟩) 8 c) (.slice ot L ct)) (V.heap.size + 1 + 1) (.int .u8 1) (.int .i64 0) (.int .i64 x))) := ⟨⟨putV2 v 8 (.slice (some ⟨g, off + 1, none⟩) M (c8 - 1)), tv, by rw [HTV.out]; rfl, tn_rf (st_rf ho hb_ _ _ _ _ _ _) hcc _ _ _⟩, ((hbe).st (by omega) HHN.out _ _ _ _ _ _).tn (by omega) HHN.out _ _ _⟩
    have g0 := (cell_of_heap ha 0).trans rfl
    have g1 := (cell_of_heap ha 1).trans rfl
    have g2 := (cell_of_heap ha 2).trans rfl
    have g3 := (cell_of_heap ha 3).trans rfl
    have g4 := (cell_of_heap ha 4).trans rfl
    have g5 := (cell_of_heap ha 5).trans rfl
    have s0 := (cell_of_heap hb_ 0).trans rfl
    have s1 := (cell_of_heap hb_ 1).trans rfl
    have s2 := (cell_of_heap hb_ 2).trans rfl
    have s3 := (cell_of_heap hb_ 3).trans rfl
    have s4 := (cell_of_heap hb_ 4).trans rfl
    have s5 := (cell_of_heap hb_ 5).trans rfl
    have z0 := box_fz hb_ 0
    have z1 := box_fz hb_ 1
    have z2 := box_fz hb_ 2
    have z3 := box_fz hb_ 3
    have z4 := box_fz hb_ 4
    have z5 := box_fz hb_ 5
    have k0 := (cell_of_heap hss 0).trans rfl
    have k1 := (cell_of_heap hss 1).trans rfl
    have k2 := (cell_of_heap hss 2).trans rfl
    have k3 := (cell_of_heap hss 3).trans rfl
    have k4 := (cell_of_heap hss 4).trans rfl
    have k5 := (cell_of_heap hss 5).trans rfl
    have tz0 := box_fz hcc 0
    have tz1 := box_fz hcc 1
    have tz2 := box_fz hcc 2
    have ts0 := (cell_of_heap hcc 0).trans rfl
    have ts1 := (cell_of_heap hcc 1).trans rfl
    have ts2 := (cell_of_heap hcc 2).trans rfl
    have j0 := (cell_of_heap htn 0).trans rfl
    have j1 := (cell_of_heap htn 1).trans rfl
    have j2 := (cell_of_heap htn 2).trans rfl
    unfold tnW stW at HEND
    unfold tnW stW at k0 k1 k2 k3 k4 k5 j0 j1 j2
    unfold stW at tz0 tz1 tz2 ts0 ts1 ts2
    clear hst hcc htn hss
    clear ha hb_ hc ho hbe hW7 hO1 hT hrow hn1 hn2 hn3 hs1 hn
    have d1 : decide (((M : Int) + 1) > 0) = true := decide_eq_true (by omega)
    go_enter Try.func19, Try.ntmps19
    go_upto_region 1 with fail
    rw [← HU1.out]
    skip
    go_upto_region 4 with fail
    rw [← HW7.out]
    go_wp2
    refine bodyPost_ret (v := .tuple #[.agg #[.bool cls, .int .i64 now, .int .i64 giv, .slice (some ⟨g, off + 1, none⟩) M (c8 - 1), .slice (some ⟨B, 0, none⟩) 8 c, .slice ot L ct], .agg #[.int .u8 1, .int .i64 0, .int .i64 x]]) (by simp [results, Try.results19, go_sem, k0, k1, k2, k3, k4, k5, j0, j1, j2]) rfl ?_
    exact HEND.out
end Go.Proofs.Ytaliecmdkloceaa
