/- loop: the reference: clearOne. -/
import Derived.Test.YtaliecmdkloceaaLpSS
namespace Go.Proofs.Ytaliecmdkloceaa
open Go.RowKit Go.Lib Go.Shelf

theorem step_append27R {P : Program} (w : World) {ops : Array Oper} {o : Oper} {a : Act} {K : Act → World → Prop} {Q : Exit → Act → World → Prop} {E : Prop} (hgd : o.guard = none) (s x : Operand) (t tn : TypeId)
    (ho : o.op = .call { callee := .builtin .append, args := #[s, x], argTypes := #[t, tn] }) (vs vx : Value) (hs : a.eval s = vs) (hx : a.eval x = vx) (v' : Value) (w' : World) (hr : (Builtin.append_ #[t, tn] o.type #[vs, vx]).run P w = .ok v' w') (dd : Option Nat) (hdd : o.dst = dd) (h : K (a.put dd v') w') :
    if Region.wanted o (yielded ops a.tmps) = true then Oper.wp P o a w K Q else E := by
  have hw : Region.wanted o (yielded ops a.tmps) = true := by simp [Region.wanted, hgd]
  rw [if_pos hw]
  rw [← hdd] at h
  exact wp_append_run w s x t tn ho vs vx hs hx v' w' hr h
theorem first_is (n : Int) : ∀ (l : List AlD) (k : Nat), k < l.length → (∀ j, j < k → (tmD l j).num ≠ n) → (tmD l k).num = n → l.eraseP (isN n) = l.eraseIdx k ∧ l.any (isN n) = true
  | [], _, h, _, _ => absurd h (Nat.not_lt_zero _)
  | a :: t, 0, _, _, h0 => by
    have h1 : isN n a = true := by
      have : a.num = n := h0
      unfold isN
      rw [this]
      simp
    rw [List.eraseP_cons_of_pos h1, List.any_cons, h1]
    exact ⟨rfl, rfl⟩
  | a :: t, k + 1, hk, hj, h0 => by
    have h1 : isN n a = false := by
      have : a.num ≠ n := hj 0 (Nat.succ_pos _)
      unfold isN
      simpa using this
    obtain ⟨e1, e2⟩ := first_is n t k (by simpa using hk) (fun j hjk => hj (j + 1) (Nat.succ_lt_succ hjk)) h0
    rw [List.eraseP_cons_of_neg (by rw [h1]; decide), List.any_cons, h1, e1, e2]
    exact ⟨rfl, rfl⟩
theorem none_is {n : Int} {l : List AlD} (h : ∀ j, j < l.length → (tmD l j).num ≠ n) : l.eraseP (isN n) = l ∧ l.any (isN n) = false := by
  have h2 : ∀ x ∈ l, isN n x = false := fun x hx => by
    obtain ⟨j, hj, rfl⟩ := List.mem_iff_getElem.1 hx
    have := h j hj
    rw [tmD_at hj] at this
    unfold isN
    simpa using this
  exact ⟨List.eraseP_of_forall_not (fun x hx => by rw [h2 x hx]; decide), by rw [List.any_eq_false]; exact fun x hx => by rw [h2 x hx]; decide⟩
theorem RfO.shape {W : World} {n0 : Nat} {r : LpD} {B c : Nat} {v : Nat → Value} {tv : Value} (h : RfO W n0 r B c v tv) : (∃ o8 c8, v 8 = .slice o8 r.mic.length c8) ∧ ∃ ot ct, tv = .slice ot r.tms.length ct := h.rd.shape
set_option linter.unusedSimpArgs false in
set_option maxRecDepth 100000 in
set_option maxHeartbeats 4000000 in
theorem refClear_any (V : World) (n0 : Nat) (r : LpD) (B c : Nat) (v : Nat → Value) (tv : Value) (h : RfO V n0 r B c v tv) (hn : n0 ≤ V.heap.size) (timer : Int) (hK : r.tms.length ≤ 1048576) :
    Calls Try.prog 17 #[stR r B c (v 8) tv, .int .i64 timer] V fun e w' => ∃ tv', e = .returned (.tuple #[stR (clearD r timer) B c (v 8) tv', .int .i64 (oneD (r.tms.any (isN timer)))]) ∧ RfO w' n0 (clearD r timer) B c v tv' ∧ Keep n0 V w' := by
  obtain ⟨⟨o8, c8, e8⟩, ot, ct, et⟩ := h.shape
  obtain ⟨U1, hU1⟩ : ∃ U1, U1 = (V.alloc (.cells #[.bool r.cls, .int .i64 r.now, .int .i64 r.giv, .slice o8 r.mic.length c8, .slice (some ⟨B, 0, none⟩) 8 c, .slice ot r.tms.length ct] 30)).alloc zS := ⟨_, rfl⟩
  obtain ⟨hb1, hn1, hn2, hs1⟩ := two_new V (.cells #[.bool r.cls, .int .i64 r.now, .int .i64 r.giv, .slice o8 r.mic.length c8, .slice (some ⟨B, 0, none⟩) 8 c, .slice ot r.tms.length ct] 30) zS
  rw [← hU1] at hb1 hn1 hn2 hs1
  have hO := h.later hb1
  have HT := hid (hO.rd.tms)
  rw [et] at HT
  have HO : Hid (RfO U1 n0 r B c v (.slice ot r.tms.length ct)) := by rw [← et]; exact hO
  have HB1 := hid hb1
  have HN1 := hid hn1
  have HN2 := hid hn2
  have HU1 := hid hU1
  have g5 : U1.cell? ⟨V.heap.size, 5, none⟩ = some (.slice ot r.tms.length ct) := (cell_of_heap hn1 5).trans rfl
  have E8 := hid e8
  unfold stR
  rw [e8, et]
  unfold zS at *
  generalize hL : r.tms.length = L at *
  have HL := hid hL
  have HS1 := hid hs1
  clear h hb1 hn1 hn2 hs1 hU1 hO e8 et hL
  go_enter Try.func17, Try.ntmps17
  go_upto_region 1 with fail
  rw [← HU1.out]
  go_upto_region 2 with fail
  go_loopw [11] (fun u wr => ∃ (k : Nat), k ≤ L ∧ u = .int .i64 k ∧ Hid (∀ j, j < k → (tmD r.tms j).num ≠ timer) ∧ Hid (Below U1.heap.size U1 wr)) (fun u _ => L - (RowKit.intOf u).toNat)
  case atStart => exact ⟨0, by omega, rfl, fun j hj => absurd hj (Nat.not_lt_zero _), Below.refl _ _⟩
  case round =>
    obtain ⟨k, hk, rfl, hF, hB⟩ := hrel
    have hVl : V.heap.size + 1 < wr.heap.size := by have := HS1.out; have := hB.out.size; omega
    have hvar := blkLater hB.out HN1.out
    have hres := blkLater hB.out HN2.out
    by_cases hlt : k < L
    · have d1 : decide ((k : Int) < (L : Int)) = true := decide_eq_true (by omega)
      have q1 : (0 : Int) ≤ (k : Int) := by omega
      have q2 : (k : Int) < (L : Int) := by omega
      obtain ⟨eL, hct, hg⟩ := HT.out.at_
      have EL := hid eL
      obtain ⟨b, off, rfl, hbl, ha⟩ := hg (by omega)
      have hx := ha k (by omega)
      have cx0 := (hB.out.cell (p := ⟨b, off + k * 3, none⟩) hbl).trans hx.1
      have cx1 := (hB.out.cell (p := ⟨b, off + k * 3 + 1, none⟩) hbl).trans hx.2.1
      have cx2 := (hB.out.cell (p := ⟨b, off + k * 3 + 2, none⟩) hbl).trans hx.2.2
      clear hx ha hg g5 eL
      rw [← EL.out] at hct
      go_upto_region 4 with fail
      have hnw := heap_new wr (.cells #[.int .i64 (tmD r.tms k).due, .int .i64 (tmD r.tms k).num, .int .i64 (tmD r.tms k).id] 92)
      have hb5 : Below wr.heap.size wr (wr.alloc (.cells #[.int .i64 (tmD r.tms k).due, .int .i64 (tmD r.tms k).num, .int .i64 (tmD r.tms k).id] 92)) := (Below.refl _ wr).alloc (Nat.le_refl _) _
      have HB5 := hid (hB.out.alloc hB.out.size (.cells #[.int .i64 (tmD r.tms k).due, .int .i64 (tmD r.tms k).num, .int .i64 (tmD r.tms k).id] 92))
      have hvar5 := blkLater hb5 hvar
      have hres5 := blkLater hb5 hres
      clear hb5 cx0 cx1 cx2 hvar hres
      generalize (wr.alloc _) = W5 at *
      generalize wr.heap.size = N5 at *
      generalize hX : tmD r.tms k = X at *
      have p1 := (cell_of_heap hnw 1).trans rfl
      obtain ⟨xd, xn, xi⟩ := X
      dsimp only at p1 hnw
      have HXn : Hid ((tmD r.tms k).num = xn) := by rw [hX]; exact rfl
      clear hnw hX
      by_cases hxn : xn = timer
      · subst hxn
        have d2 : ((xn : Int) == xn) = true := beq_self_eq_true _
        obtain ⟨ee1, ee2⟩ := first_is xn r.tms k (by rw [← EL.out]; exact hlt) hF.out HXn.out
        go_upto_region 5 with fail
        refine wp_region_held_drew (S := fun _ => True) (by kernel_rfl) trivial (fun hHeld => ?_)
        have HBD : Hid (Below U1.heap.size U1 W5.drew) := hid HB5.out.drew
        have hvarD : W5.drew.heap[V.heap.size]? = some (.cells #[.bool r.cls, .int .i64 r.now, .int .i64 r.giv, .slice o8 r.mic.length c8, .slice (some ⟨B, 0, none⟩) 8 c, .slice (some ⟨b, off, none⟩) L ct] 30) := hvar5
        have hresD : W5.drew.heap[V.heap.size + 1]? = some (.cells #[.bool false, .int .i64 0, .int .i64 0, .slice none 0 0, .slice none 0 0, .slice none 0 0] 30) := hres5
        clear hvar5 hres5 HB5 p1
        generalize W5.drew = D at *
        have hO5 := HO.out.later HBD.out
        have hq5 := hO5.tm
        rw [EL.out] at hO5 hq5
        obtain ⟨o', c', w', r1, r2, r3, r4⟩ := cut_tm (i := k) hq5 (by rw [← EL.out]; exact hlt) (by rw [← EL.out]; exact hK) 28
        rw [← EL.out] at r1 r2 r4
        have hcut := RfO.cut (i := k) hO5 (Nat.le_trans hn (Nat.le_trans HB1.out.size HBD.out.size)) (Below.refl _ D) r3 r2 r4
        have hv5 := (cell_of_heap hvarD 5).trans rfl
        have hbb : ∀ (g : Nat) (a : Array Value) (T : TypeId), D.heap[g]? = some (Obj.cells a T) → T ≠ 92 → w'.heap[g]? = some (Obj.cells a T) := fun g a T hgg hT => by
          have hgl := (Array.getElem?_eq_some_iff.1 hgg).1
          obtain ⟨a2, ha2⟩ := hq5.ty (g := b) rfl
          rw [r3.block g hgl (fun e => by
            have e' := Option.some.inj e
            exact ty_ne hgg ha2 hT e'), hgg]
        have hvar6 := hbb _ _ _ hvarD (by decide)
        have hres6 := hbb _ _ _ hresD (by decide)
        have zv5 := (cell_of_heap hvar6 5).trans rfl
        have fz5 := box_fz hvar6 5
        obtain ⟨W7, hW7⟩ : ∃ W7, W7 = w'.setCell ⟨V.heap.size, 5, none⟩ (.slice o' (L - 1) c') := ⟨_, rfl⟩
        have hvar7 : W7.heap[V.heap.size]? = some (.cells #[.bool r.cls, .int .i64 r.now, .int .i64 r.giv, .slice o8 r.mic.length c8, .slice (some ⟨B, 0, none⟩) 8 c, .slice o' (L - 1) c'] 30) := by rw [hW7]; exact set_boxQ hvar6 _
        have hres7 : W7.heap[V.heap.size + 1]? = some (.cells #[.bool false, .int .i64 0, .int .i64 0, .slice none 0 0, .slice none 0 0, .slice none 0 0] 30) := by rw [hW7, Below.heap_setCell _ _ _ _ (by show V.heap.size + 1 ≠ V.heap.size; omega)]; exact hres6
        have hO7 : RfO W7 n0 { r with tms := r.tms.eraseIdx k } B c v (.slice o' (L - 1) c') := by rw [hW7]; exact hcut.set hvar6 (by decide) (by decide) (by decide) _
        have hB7 : Keep n0 V W7 := by
          rw [hW7]
          exact ((((Keep.of HB1.out hn).later (Nat.le_trans hn HB1.out.size) HBD.out).grow (v := .slice (some ⟨b, off, none⟩) r.tms.length ct) r3 (Nat.le_trans hn (Nat.le_trans HB1.out.size HBD.out.size)) (RowOf.tm hO5.tm (fun j hj => hO5.lowT j hj))).setN (Nat.le_refl _) hn _)
        have hfin := st_world hres7 (.bool r.cls) (.int .i64 r.now) (.int .i64 r.giv) (.slice o8 r.mic.length c8) (.slice (some ⟨B, 0, none⟩) 8 c) (.slice o' (L - 1) c')
        have hEND : (Ending.returned (.tuple #[.agg #[.bool r.cls, .int .i64 r.now, .int .i64 r.giv, .slice o8 r.mic.length c8, .slice (some ⟨B, 0, none⟩) 8 c, .slice o' (L - 1) c'], .int .i64 1]) = Ending.returned (.tuple #[.agg #[.bool (clearD r xn).cls, .int .i64 (clearD r xn).now, .int .i64 (clearD r xn).giv, .slice o8 r.mic.length c8, .slice (some ⟨B, 0, none⟩) 8 c, .slice o' (L - 1) c'], .int .i64 (oneD (r.tms.any (isN xn)))])) ∧ RfO (stW W7 (V.heap.size + 1) (.bool r.cls) (.int .i64 r.now) (.int .i64 r.giv) (.slice o8 r.mic.length c8) (.slice (some ⟨B, 0, none⟩) 8 c) (.slice o' (L - 1) c')) n0 (clearD r xn) B c v (.slice o' (L - 1) c') ∧ Keep n0 V (stW W7 (V.heap.size + 1) (.bool r.cls) (.int .i64 r.now) (.int .i64 r.giv) (.slice o8 r.mic.length c8) (.slice (some ⟨B, 0, none⟩) 8 c) (.slice o' (L - 1) c')) := by
          refine ⟨by rw [ee2]; rfl, ?_, hB7.st (by omega) hn _ _ _ _ _ _⟩
          unfold clearD
          rw [ee1]
          exact st_rf hO7 hres7 _ _ _ _ _ _
        have g0 := (cell_of_heap hvar7 0).trans rfl
        have g1 := (cell_of_heap hvar7 1).trans rfl
        have g2 := (cell_of_heap hvar7 2).trans rfl
        have g3 := (cell_of_heap hvar7 3).trans rfl
        have g4 := (cell_of_heap hvar7 4).trans rfl
        have g5 := (cell_of_heap hvar7 5).trans rfl
        have s0 := (cell_of_heap hres7 0).trans rfl
        have s1 := (cell_of_heap hres7 1).trans rfl
        have s2 := (cell_of_heap hres7 2).trans rfl
        have s3 := (cell_of_heap hres7 3).trans rfl
        have s4 := (cell_of_heap hres7 4).trans rfl
        have s5 := (cell_of_heap hres7 5).trans rfl
        have z0 := box_fz hres7 0
        have z1 := box_fz hres7 1
        have z2 := box_fz hres7 2
        have z3 := box_fz hres7 3
        have z4 := box_fz hres7 4
        have z5 := box_fz hres7 5
        have k0 := (cell_of_heap hfin 0).trans rfl
        have k1 := (cell_of_heap hfin 1).trans rfl
        have k2 := (cell_of_heap hfin 2).trans rfl
        have k3 := (cell_of_heap hfin 3).trans rfl
        have k4 := (cell_of_heap hfin 4).trans rfl
        have k5 := (cell_of_heap hfin 5).trans rfl
        unfold stW at k0 k1 k2 k3 k4 k5 hEND
        have HAp := hid r1
        have q3 : IntKind.i64.wrap ((k : Int) + 1) = (k : Int) + 1 := by rw [IntKind.wrap_i64]; omega
        have q4 : (0 : Int) ≤ (k : Int) + 1 := by omega
        have q5 : (k : Int) + 1 ≤ (L : Int) := by omega
        have q6 : (k : Int) ≤ (ct : Int) := by omega
        have q7 : ((k : Int) + 1).toNat = k + 1 := by omega
        have q8 : (L : Int) ≤ (ct : Int) := by omega
        have n1 : ¬ ((ct : Int) < (k : Int)) := by omega
        have n2 : ¬ ((L : Int) < (k : Int) + 1) := by omega
        have n4 : ¬ ((k : Int) + 1 < (k : Int)) := by omega
        have n5 : ¬ ((k : Int) + 1 < (L : Int)) ∨ (k : Int) + 1 < (L : Int) := by omega
        have HEND := hid hEND
        have HW7 := hid hW7
        clear hEND r1 r2 r3 r4 hcut hO5 hq5 hbb hvar6 hres6 hvar7 hres7 hO7 hB7 hfin hvarD hresD ee1 ee2 hW7
        by_cases hct1 : k + 1 = ct
        · subst hct1
          rw [if_pos rfl, Nat.sub_self, show L - (k + 1) = 0 by omega] at HAp
          refine wpAnyH_one 0 20 (.pointer (some ⟨V.heap.size, 5, none⟩)) hHeld rfl rfl (by kernel_rfl) (fun _ _ _ _ _ h => h) (by kernel_rfl) (by kernel_rfl) (by rfl) ?_ ?_
          · intro V hSw; (try dsimp only at hSw); go_simp
          simp only [Act.put, List.setIfInBounds_toArray, List.set_cons_zero, List.set_cons_succ]
          refine wpAnyH_one 2 22 (.int .i64 (k : Int)) hHeld rfl rfl (by kernel_rfl) (fun _ _ _ _ _ h => h) (by kernel_rfl) (by kernel_rfl) (by rfl) ?_ ?_
          · intro V hSw; (try dsimp only at hSw); go_simp
          simp only [Act.put, List.setIfInBounds_toArray, List.set_cons_zero, List.set_cons_succ]
          refine wpAnyH_one 4 24 (.pointer (some ⟨V.heap.size, 5, none⟩)) hHeld rfl rfl (by kernel_rfl) (fun _ _ _ _ _ h => h) (by kernel_rfl) (by kernel_rfl) (by rfl) ?_ ?_
          · intro V hSw; (try dsimp only at hSw); go_simp
          simp only [Act.put, List.setIfInBounds_toArray, List.set_cons_zero, List.set_cons_succ]
          refine wpAnyH_one 6 26 (.int .i64 (k : Int)) hHeld rfl rfl (by kernel_rfl) (fun _ _ _ _ _ h => h) (by kernel_rfl) (by kernel_rfl) (by rfl) ?_ ?_
          · intro V hSw; (try dsimp only at hSw); go_simp
          simp only [Act.put, List.setIfInBounds_toArray, List.set_cons_zero, List.set_cons_succ]
          refine wpAnyH_one 7 27 (.int .i64 ((k : Int) + 1)) hHeld rfl rfl (by kernel_rfl) (fun _ _ _ _ _ h => h) (by kernel_rfl) (by kernel_rfl) (by rfl) ?_ ?_
          · intro V hSw; (try dsimp only at hSw); go_simp
          simp only [Act.put, List.setIfInBounds_toArray, List.set_cons_zero, List.set_cons_succ]
          refine wpAnyH_ready (rs := [1, 5]) (by kernel_rfl) (by simp) ?_
          refine AllReadyH.cons rfl (fun K hK => ?_) (AllReadyH.cons rfl (fun K hK => ?_) AllReadyH.nil)
          · go_simp
            refine hK.out _ _ trivial (fun hHeld => ?_)
            clear hK K
            refine wpAnyH_one 3 23 (.slice (some ⟨b, off, none⟩) k (k + 1)) hHeld rfl rfl (by kernel_rfl) (fun _ _ _ _ _ h => h) (by kernel_rfl) (by kernel_rfl) (by rfl) ?_ ?_
            · intro V hSw; (try dsimp only at hSw); go_simp
            simp only [Act.put, List.setIfInBounds_toArray, List.set_cons_zero, List.set_cons_succ]
            refine wpAnyH_ready (rs := [5]) (by kernel_rfl) (by simp) ?_
            refine AllReadyH.cons rfl (fun K hK => ?_) AllReadyH.nil
            go_simp
            refine hK.out _ _ trivial (fun hHeld => ?_)
            clear hK K
            refine wpAnyH_one 8 28 (.slice (some ⟨b, off, none⟩) 0 0) hHeld rfl rfl (by kernel_rfl) (fun _ _ _ _ _ h => h) (by kernel_rfl) (by kernel_rfl) (by rfl) ?_ ?_
            · intro V hSw; (try dsimp only at hSw); go_simp
            simp only [Act.put, List.setIfInBounds_toArray, List.set_cons_zero, List.set_cons_succ]
            refine wpAnyH_ready (rs := [9]) (by kernel_rfl) (by simp) ?_
            refine AllReadyH.cons rfl (fun K hK => ?_) AllReadyH.nil
            refine step_append27R _ rfl _ _ 28 28 rfl _ _ rfl rfl _ _ HAp.out _ rfl ?_
            simp only [Act.put, List.setIfInBounds_toArray]
            refine hK.out _ _ trivial (fun hHeld => ?_)
            clear hK K
            refine wpAnyH_one 10 30 (.pointer (some ⟨V.heap.size, 5, none⟩)) hHeld rfl rfl (by kernel_rfl) (fun _ _ _ _ _ h => h) (by kernel_rfl) (by kernel_rfl) (by rfl) ?_ ?_
            · intro V hSw; (try dsimp only at hSw); go_simp
            simp only [Act.put, List.setIfInBounds_toArray, List.set_cons_zero, List.set_cons_succ]
            refine wpAnyH_ready (rs := [11]) (by kernel_rfl) (by simp) ?_
            refine AllReadyH.cons rfl (fun K hK => ?_) AllReadyH.nil
            go_simp
            refine hK.out _ _ trivial (fun hHeld => ?_)
            clear hK K
            refine wpAnyH_done (by kernel_rfl) ?_ _
            rw [← HW7.out]
            go_wp2
            refine bodyPost_ret (v := .tuple #[.agg #[.bool r.cls, .int .i64 r.now, .int .i64 r.giv, .slice o8 r.mic.length c8, .slice (some ⟨B, 0, none⟩) 8 c, (.slice o' (L - 1) c')], .int .i64 1]) (by simp [results, Try.results17, go_sem, k0, k1, k2, k3, k4, k5]) rfl ?_
            exact ⟨.slice o' (L - 1) c', HEND.out.1, HEND.out.2⟩
          · go_simp
            refine hK.out _ _ trivial (fun hHeld => ?_)
            clear hK K
            refine wpAnyH_one 8 28 (.slice (some ⟨b, off, none⟩) 0 0) hHeld rfl rfl (by kernel_rfl) (fun _ _ _ _ _ h => h) (by kernel_rfl) (by kernel_rfl) (by rfl) ?_ ?_
            · intro V hSw; (try dsimp only at hSw); go_simp
            simp only [Act.put, List.setIfInBounds_toArray, List.set_cons_zero, List.set_cons_succ]
            refine wpAnyH_ready (rs := [1]) (by kernel_rfl) (by simp) ?_
            refine AllReadyH.cons rfl (fun K hK => ?_) AllReadyH.nil
            go_simp
            refine hK.out _ _ trivial (fun hHeld => ?_)
            clear hK K
            refine wpAnyH_one 3 23 (.slice (some ⟨b, off, none⟩) k (k + 1)) hHeld rfl rfl (by kernel_rfl) (fun _ _ _ _ _ h => h) (by kernel_rfl) (by kernel_rfl) (by rfl) ?_ ?_
            · intro V hSw; (try dsimp only at hSw); go_simp
            simp only [Act.put, List.setIfInBounds_toArray, List.set_cons_zero, List.set_cons_succ]
            refine wpAnyH_ready (rs := [9]) (by kernel_rfl) (by simp) ?_
            refine AllReadyH.cons rfl (fun K hK => ?_) AllReadyH.nil
            refine step_append27R _ rfl _ _ 28 28 rfl _ _ rfl rfl _ _ HAp.out _ rfl ?_
            simp only [Act.put, List.setIfInBounds_toArray]
            refine hK.out _ _ trivial (fun hHeld => ?_)
            clear hK K
            refine wpAnyH_one 10 30 (.pointer (some ⟨V.heap.size, 5, none⟩)) hHeld rfl rfl (by kernel_rfl) (fun _ _ _ _ _ h => h) (by kernel_rfl) (by kernel_rfl) (by rfl) ?_ ?_
            · intro V hSw; (try dsimp only at hSw); go_simp
            simp only [Act.put, List.setIfInBounds_toArray, List.set_cons_zero, List.set_cons_succ]
            refine wpAnyH_ready (rs := [11]) (by kernel_rfl) (by simp) ?_
            refine AllReadyH.cons rfl (fun K hK => ?_) AllReadyH.nil
            go_simp
            refine hK.out _ _ trivial (fun hHeld => ?_)
            clear hK K
            refine wpAnyH_done (by kernel_rfl) ?_ _
            rw [← HW7.out]
            go_wp2
            refine bodyPost_ret (v := .tuple #[.agg #[.bool r.cls, .int .i64 r.now, .int .i64 r.giv, .slice o8 r.mic.length c8, .slice (some ⟨B, 0, none⟩) 8 c, (.slice o' (L - 1) c')], .int .i64 1]) (by simp [results, Try.results17, go_sem, k0, k1, k2, k3, k4, k5]) rfl ?_
            exact ⟨.slice o' (L - 1) c', HEND.out.1, HEND.out.2⟩
        · rw [if_neg hct1] at HAp
          have hct2 : ¬ ct = k + 1 := fun e => hct1 e.symm
          have q10 : ¬ ((k : Int) + 1 = (ct : Int)) := by omega
          refine wpAnyH_one 0 20 (.pointer (some ⟨V.heap.size, 5, none⟩)) hHeld rfl rfl (by kernel_rfl) (fun _ _ _ _ _ h => h) (by kernel_rfl) (by kernel_rfl) (by rfl) ?_ ?_
          · intro V hSw; (try dsimp only at hSw); go_simp
          simp only [Act.put, List.setIfInBounds_toArray, List.set_cons_zero, List.set_cons_succ]
          refine wpAnyH_one 2 22 (.int .i64 (k : Int)) hHeld rfl rfl (by kernel_rfl) (fun _ _ _ _ _ h => h) (by kernel_rfl) (by kernel_rfl) (by rfl) ?_ ?_
          · intro V hSw; (try dsimp only at hSw); go_simp
          simp only [Act.put, List.setIfInBounds_toArray, List.set_cons_zero, List.set_cons_succ]
          refine wpAnyH_one 4 24 (.pointer (some ⟨V.heap.size, 5, none⟩)) hHeld rfl rfl (by kernel_rfl) (fun _ _ _ _ _ h => h) (by kernel_rfl) (by kernel_rfl) (by rfl) ?_ ?_
          · intro V hSw; (try dsimp only at hSw); go_simp
          simp only [Act.put, List.setIfInBounds_toArray, List.set_cons_zero, List.set_cons_succ]
          refine wpAnyH_one 6 26 (.int .i64 (k : Int)) hHeld rfl rfl (by kernel_rfl) (fun _ _ _ _ _ h => h) (by kernel_rfl) (by kernel_rfl) (by rfl) ?_ ?_
          · intro V hSw; (try dsimp only at hSw); go_simp
          simp only [Act.put, List.setIfInBounds_toArray, List.set_cons_zero, List.set_cons_succ]
          refine wpAnyH_one 7 27 (.int .i64 ((k : Int) + 1)) hHeld rfl rfl (by kernel_rfl) (fun _ _ _ _ _ h => h) (by kernel_rfl) (by kernel_rfl) (by rfl) ?_ ?_
          · intro V hSw; (try dsimp only at hSw); go_simp
          simp only [Act.put, List.setIfInBounds_toArray, List.set_cons_zero, List.set_cons_succ]
          refine wpAnyH_ready (rs := [1, 5]) (by kernel_rfl) (by simp) ?_
          refine AllReadyH.cons rfl (fun K hK => ?_) (AllReadyH.cons rfl (fun K hK => ?_) AllReadyH.nil)
          · go_simp
            refine hK.out _ _ trivial (fun hHeld => ?_)
            clear hK K
            refine wpAnyH_one 3 23 (.slice (some ⟨b, off, none⟩) k ct) hHeld rfl rfl (by kernel_rfl) (fun _ _ _ _ _ h => h) (by kernel_rfl) (by kernel_rfl) (by rfl) ?_ ?_
            · intro V hSw; (try dsimp only at hSw); go_simp
            simp only [Act.put, List.setIfInBounds_toArray, List.set_cons_zero, List.set_cons_succ]
            refine wpAnyH_ready (rs := [5]) (by kernel_rfl) (by simp) ?_
            refine AllReadyH.cons rfl (fun K hK => ?_) AllReadyH.nil
            go_simp
            refine hK.out _ _ trivial (fun hHeld => ?_)
            clear hK K
            refine wpAnyH_one 8 28 (.slice (some ⟨b, off + (k + 1) * 3, none⟩) (L - (k + 1)) (ct - (k + 1))) hHeld rfl rfl (by kernel_rfl) (fun _ _ _ _ _ h => h) (by kernel_rfl) (by kernel_rfl) (by rfl) ?_ ?_
            · intro V hSw; (try dsimp only at hSw); go_simp
            simp only [Act.put, List.setIfInBounds_toArray, List.set_cons_zero, List.set_cons_succ]
            refine wpAnyH_ready (rs := [9]) (by kernel_rfl) (by simp) ?_
            refine AllReadyH.cons rfl (fun K hK => ?_) AllReadyH.nil
            refine step_append27R _ rfl _ _ 28 28 rfl _ _ rfl rfl _ _ HAp.out _ rfl ?_
            simp only [Act.put, List.setIfInBounds_toArray]
            refine hK.out _ _ trivial (fun hHeld => ?_)
            clear hK K
            refine wpAnyH_one 10 30 (.pointer (some ⟨V.heap.size, 5, none⟩)) hHeld rfl rfl (by kernel_rfl) (fun _ _ _ _ _ h => h) (by kernel_rfl) (by kernel_rfl) (by rfl) ?_ ?_
            · intro V hSw; (try dsimp only at hSw); go_simp
            simp only [Act.put, List.setIfInBounds_toArray, List.set_cons_zero, List.set_cons_succ]
            refine wpAnyH_ready (rs := [11]) (by kernel_rfl) (by simp) ?_
            refine AllReadyH.cons rfl (fun K hK => ?_) AllReadyH.nil
            go_simp
            refine hK.out _ _ trivial (fun hHeld => ?_)
            clear hK K
            refine wpAnyH_done (by kernel_rfl) ?_ _
            rw [← HW7.out]
            go_wp2
            refine bodyPost_ret (v := .tuple #[.agg #[.bool r.cls, .int .i64 r.now, .int .i64 r.giv, .slice o8 r.mic.length c8, .slice (some ⟨B, 0, none⟩) 8 c, (.slice o' (L - 1) c')], .int .i64 1]) (by simp [results, Try.results17, go_sem, k0, k1, k2, k3, k4, k5]) rfl ?_
            exact ⟨.slice o' (L - 1) c', HEND.out.1, HEND.out.2⟩
          · go_simp
            refine hK.out _ _ trivial (fun hHeld => ?_)
            clear hK K
            refine wpAnyH_one 8 28 (.slice (some ⟨b, off + (k + 1) * 3, none⟩) (L - (k + 1)) (ct - (k + 1))) hHeld rfl rfl (by kernel_rfl) (fun _ _ _ _ _ h => h) (by kernel_rfl) (by kernel_rfl) (by rfl) ?_ ?_
            · intro V hSw; (try dsimp only at hSw); go_simp
            simp only [Act.put, List.setIfInBounds_toArray, List.set_cons_zero, List.set_cons_succ]
            refine wpAnyH_ready (rs := [1]) (by kernel_rfl) (by simp) ?_
            refine AllReadyH.cons rfl (fun K hK => ?_) AllReadyH.nil
            go_simp
            refine hK.out _ _ trivial (fun hHeld => ?_)
            clear hK K
            refine wpAnyH_one 3 23 (.slice (some ⟨b, off, none⟩) k ct) hHeld rfl rfl (by kernel_rfl) (fun _ _ _ _ _ h => h) (by kernel_rfl) (by kernel_rfl) (by rfl) ?_ ?_
            · intro V hSw; (try dsimp only at hSw); go_simp
            simp only [Act.put, List.setIfInBounds_toArray, List.set_cons_zero, List.set_cons_succ]
            refine wpAnyH_ready (rs := [9]) (by kernel_rfl) (by simp) ?_
            refine AllReadyH.cons rfl (fun K hK => ?_) AllReadyH.nil
            refine step_append27R _ rfl _ _ 28 28 rfl _ _ rfl rfl _ _ HAp.out _ rfl ?_
            simp only [Act.put, List.setIfInBounds_toArray]
            refine hK.out _ _ trivial (fun hHeld => ?_)
            clear hK K
            refine wpAnyH_one 10 30 (.pointer (some ⟨V.heap.size, 5, none⟩)) hHeld rfl rfl (by kernel_rfl) (fun _ _ _ _ _ h => h) (by kernel_rfl) (by kernel_rfl) (by rfl) ?_ ?_
            · intro V hSw; (try dsimp only at hSw); go_simp
            simp only [Act.put, List.setIfInBounds_toArray, List.set_cons_zero, List.set_cons_succ]
            refine wpAnyH_ready (rs := [11]) (by kernel_rfl) (by simp) ?_
            refine AllReadyH.cons rfl (fun K hK => ?_) AllReadyH.nil
            go_simp
            refine hK.out _ _ trivial (fun hHeld => ?_)
            clear hK K
            refine wpAnyH_done (by kernel_rfl) ?_ _
            rw [← HW7.out]
            go_wp2
            refine bodyPost_ret (v := .tuple #[.agg #[.bool r.cls, .int .i64 r.now, .int .i64 r.giv, .slice o8 r.mic.length c8, .slice (some ⟨B, 0, none⟩) 8 c, (.slice o' (L - 1) c')], .int .i64 1]) (by simp [results, Try.results17, go_sem, k0, k1, k2, k3, k4, k5]) rfl ?_
            exact ⟨.slice o' (L - 1) c', HEND.out.1, HEND.out.2⟩
      · have d2 : ((xn : Int) == timer) = false := beq_eq_false_iff_ne.2 hxn
        have HF2 : Hid (∀ j, j < k + 1 → (tmD r.tms j).num ≠ timer) := fun j hj => by
          by_cases hjk : j = k
          · subst hjk; rw [HXn.out]; exact hxn
          · exact hF.out j (by omega)
        clear hvar5 hres5
        go_wp2
        go_roundw
        case rel => exact ⟨k + 1, by omega, by go_num, HF2, HB5⟩
        case measure => simp [RowKit.intOf]; omega
    · have hkL : k = L := by omega
      subst hkL
      have eL := HT.out.at_.1
      obtain ⟨ee1, ee2⟩ := none_is (n := timer) (l := r.tms) (fun j hj => hF.out j (by omega))
      have hO5 := HO.out.later hB.out
      have d1 : decide ((k : Int) < (k : Int)) = false := decide_eq_false (by omega)
      have hfin := st_world hres (.bool r.cls) (.int .i64 r.now) (.int .i64 r.giv) (.slice o8 r.mic.length c8) (.slice (some ⟨B, 0, none⟩) 8 c) (.slice ot k ct)
      have hEND : (Ending.returned (.tuple #[.agg #[.bool r.cls, .int .i64 r.now, .int .i64 r.giv, .slice o8 r.mic.length c8, .slice (some ⟨B, 0, none⟩) 8 c, .slice ot k ct], .int .i64 0]) = Ending.returned (.tuple #[.agg #[.bool (clearD r timer).cls, .int .i64 (clearD r timer).now, .int .i64 (clearD r timer).giv, .slice o8 r.mic.length c8, .slice (some ⟨B, 0, none⟩) 8 c, .slice ot k ct], .int .i64 (oneD (r.tms.any (isN timer)))])) ∧ RfO (stW wr (V.heap.size + 1) (.bool r.cls) (.int .i64 r.now) (.int .i64 r.giv) (.slice o8 r.mic.length c8) (.slice (some ⟨B, 0, none⟩) 8 c) (.slice ot k ct)) n0 (clearD r timer) B c v (.slice ot k ct) ∧ Keep n0 V (stW wr (V.heap.size + 1) (.bool r.cls) (.int .i64 r.now) (.int .i64 r.giv) (.slice o8 r.mic.length c8) (.slice (some ⟨B, 0, none⟩) 8 c) (.slice ot k ct)) := by
        refine ⟨by rw [ee2]; rfl, ?_, ((Keep.of HB1.out hn).later (Nat.le_trans hn HB1.out.size) hB.out).st (by omega) hn _ _ _ _ _ _⟩
        unfold clearD
        rw [ee1]
        exact st_rf hO5 hres _ _ _ _ _ _
      have g0 := (cell_of_heap hvar 0).trans rfl
      have g1 := (cell_of_heap hvar 1).trans rfl
      have g2 := (cell_of_heap hvar 2).trans rfl
      have g3 := (cell_of_heap hvar 3).trans rfl
      have g4 := (cell_of_heap hvar 4).trans rfl
      have g5 := (cell_of_heap hvar 5).trans rfl
      have s0 := (cell_of_heap hres 0).trans rfl
      have s1 := (cell_of_heap hres 1).trans rfl
      have s2 := (cell_of_heap hres 2).trans rfl
      have s3 := (cell_of_heap hres 3).trans rfl
      have s4 := (cell_of_heap hres 4).trans rfl
      have s5 := (cell_of_heap hres 5).trans rfl
      have z0 := box_fz hres 0
      have z1 := box_fz hres 1
      have z2 := box_fz hres 2
      have z3 := box_fz hres 3
      have z4 := box_fz hres 4
      have z5 := box_fz hres 5
      have k0 := (cell_of_heap hfin 0).trans rfl
      have k1 := (cell_of_heap hfin 1).trans rfl
      have k2 := (cell_of_heap hfin 2).trans rfl
      have k3 := (cell_of_heap hfin 3).trans rfl
      have k4 := (cell_of_heap hfin 4).trans rfl
      have k5 := (cell_of_heap hfin 5).trans rfl
      unfold stW at k0 k1 k2 k3 k4 k5 hEND
      have HEND := hid hEND
      clear hEND hO5 ee1 ee2 eL hfin hres hvar
      go_wp2
      refine bodyPost_ret (v := .tuple #[.agg #[.bool r.cls, .int .i64 r.now, .int .i64 r.giv, .slice o8 r.mic.length c8, .slice (some ⟨B, 0, none⟩) 8 c, .slice ot k ct], .int .i64 0]) (by simp [results, Try.results17, go_sem, k0, k1, k2, k3, k4, k5]) rfl ?_
      exact ⟨_, HEND.out.1, HEND.out.2⟩
end Go.Proofs.Ytaliecmdkloceaa
