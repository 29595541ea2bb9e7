/- abort.grown, New. -/
import Derived.Test.YtlibjjmaicgemaaAbL
namespace Go.Proofs.Ytlibjjmaicgemaa
open Go.RowKit Go.Lib Go.Shelf

theorem step_appendA {P : Program} (w : World) {ops : Array Oper} {o : Oper} {a : Act} {K : Act → World → Prop} {Q : Exit → Act → World → Prop} {E : Prop} (hgd : o.guard = none) (s x : Operand) (t tn : TypeId)
    (ho : o.op = .call { callee := .builtin .append, args := #[s, x], argTypes := #[t, tn] }) (vs vx : Value) (hs : a.eval s = vs) (hx : a.eval x = vx) (v' : Value) (w' : World) (hr : (Builtin.append_ #[t, tn] o.type #[vs, vx]).run P w = .ok v' w') (dd : Option Nat) (hdd : o.dst = dd) (h : K (a.put dd v') w') :
    if Region.wanted o (yielded ops a.tmps) = true then Oper.wp P o a w K Q else E := by
  have hw : Region.wanted o (yielded ops a.tmps) = true := by simp [Region.wanted, hgd]
  rw [if_pos hw]
  rw [← hdd] at h
  exact wp_append_run w s x t tn ho vs vx hs hx v' w' hr h
/-- One more signal, without lists. -/
theorem more_run {W w0 : World} {base : Nat} {v : Value} {l : List SigV} (h : OwnS W w0 base v l l.length) (hB : base ≤ W.heap.size) (x : SigD) (hx1 : x.src = []) (hx2 : x.dts = []) (D : Nat) (hD : W.heap[D]? = some (.cells #[.bool x.ab, .int .i64 x.re, .bool x.dep, .slice none 0 0, .slice none 0 0] 42)) (hn : l.length ≤ 1099511627775) :
    ∃ o c W', (Builtin.append_ #[22, 22] 22 #[v, .slice (some ⟨D, 0, none⟩) 1 1]).run Try.prog W = .ok (.slice o (l.length + 1) c) W' ∧ OwnS W' w0 base (.slice o (l.length + 1) c) (l ++ [(x, Value.slice none 0 0, Value.slice none 0 0)]) (l ++ [(x, Value.slice none 0 0, Value.slice none 0 0)]).length ∧ Below base W W' ∧ ∀ (k : Nat) (ob : Obj), k < base → W.heap[k]? = some ob → W'.heap[k]? = some ob := by
  obtain ⟨v', W', hr, ho, hg⟩ := run_appendS W base v (some ⟨D, 0, none⟩) 1 l [(x, Value.slice none 0 0, Value.slice none 0 0)] 22 h.row hB (fun p hp => by
    have : p = (x, .slice none 0 0, .slice none 0 0) := by simpa using hp
    subst this
    exact ⟨⟨_, _, _, rfl⟩, ⟨_, _, _, rfl⟩⟩) (fun _ => ⟨D, 0, rfl, fun j u hj => by
    rw [Addr.add_lit, Nat.zero_add]
    have hjl : j < 5 := by have := (List.getElem?_eq_some_iff.1 hj).1; rw [rowS_len] at this; simpa using this
    rw [cell_of_heap hD]
    match j, hjl, hj with
    | 0, _, hj => exact hj
    | 1, _, hj => exact hj
    | 2, _, hj => exact hj
    | 3, _, hj => exact hj
    | 4, _, hj => exact hj⟩) (by simp; omega)
  obtain ⟨o, c, rfl⟩ := own_shape ho
  have hl1 : (l ++ [(x, Value.slice none 0 0, Value.slice none 0 0)]).length = l.length + 1 := by simp
  rw [hl1] at hr ho
  have keep : ∀ {y : Value} {n : Nat} {ys : List Value}, W.ownsRow base 3 1 y n ys → W'.ownsRow base 3 1 y n ys := fun {y n ys} hy => by
    refine hy.kept hg ?_
    rcases h.row.2 with ⟨hv, _⟩ | ⟨g, cap, cur, hv, _, hh, _⟩
    · rw [hv]
      cases hyb : y.ownBlock with
      | none => exact .inl rfl
      | some q => exact .inr (fun e => by cases e)
    · rw [hv]
      exact .inr (own_not hy hh (by decide))
  refine ⟨o, c, W', hr, ⟨by rw [hl1]; exact ho, fun j hj _ => ?_, fun j hj hk => by omega, fun j j' hj hj' _ _ b b' hne q hq => ?_⟩, below_own h.row hB hg, fun k ob hk hob => heap_grow hob hg (fun e => by have := (h.row.lt k e).1; omega)⟩
  · by_cases e : j < l.length
    · rw [List.getElem_append_left e]
      exact ⟨keep (h.own j e e).1, keep (h.own j e e).2⟩
    · have : j = l.length := by omega
      subst this
      rw [List.getElem_append_right (Nat.le_refl _)]
      simp only [Nat.sub_self, List.getElem_cons_zero, hx1, hx2]
      exact ⟨World.ownsRow_nil _ _ _ _, World.ownsRow_nil _ _ _ _⟩
  · by_cases e : j < l.length
    · by_cases e' : j' < l.length
      · rw [List.getElem_append_left e] at hq
        rw [List.getElem_append_left e']
        exact h.apart j j' e e' e e' b b' hne q hq
      · have : j' = l.length := by omega
        subst this
        rw [List.getElem_append_right (Nat.le_refl _)]
        simp only [Nat.sub_self, List.getElem_cons_zero]
        cases b' <;> (intro hx; cases hx)
    · have : j = l.length := by omega
      subst this
      rw [List.getElem_append_right (Nat.le_refl _)] at hq
      simp only [Nat.sub_self, List.getElem_cons_zero] at hq
      cases b <;> cases hq
set_option maxRecDepth 100000 in
set_option maxHeartbeats 4000000 in
theorem grown_any (v : Value) (ls : List SigD) (xa : Bool) (xr : Int) (xd : Bool) (w : World) (hr : RdS w v ls) (hn : ls.length ≤ 1024) (hsm : SmallS ls) :
    Calls Try.prog 22 #[v, .agg #[.bool xa, .int .i64 xr, .bool xd, .slice none 0 0, .slice none 0 0]] w fun e w' => ∃ o c l, e = .returned (.tuple #[.slice o (ls.length + 1) c, .int .i64 ((ls.length : Int) + 1)]) ∧ l.map (·.1) = ls ++ [⟨xa, xr, xd, [], []⟩] ∧ OwnS w' w' w.heap.size (.slice o (ls.length + 1) c) l l.length ∧ Below w.heap.size w w' := by
  have HCp : Hid (∀ V : World, Below w.heap.size w V → _) := fun V hV => copied_any v ls V (hr.later hV) hn hsm
  have HX0 := hid (heap_new w (.cells #[.bool xa, .int .i64 xr, .bool xd, .slice none 0 0, .slice none 0 0] 42))
  have HB0 : Hid (Below w.heap.size w (w.alloc (.cells #[.bool xa, .int .i64 xr, .bool xd, .slice none 0 0, .slice none 0 0] 42))) := (Below.refl _ w).alloc (Nat.le_refl _) _
  obtain ⟨o, c, rfl, _, g⟩ := hr
  clear g hsm
  go_enter Try.func22, Try.ntmps22
  go_upto_region 1 with fail
  generalize w.alloc (.cells #[.bool xa, .int .i64 xr, .bool xd, .slice none 0 0, .slice none 0 0] 42) = W0 at *
  refine wp_region_held_drew (S := fun V => V.heap[w.heap.size]? = some (.cells #[.bool xa, .int .i64 xr, .bool xd, .slice none 0 0, .slice none 0 0] 42)) (by kernel_rfl) HX0.out (fun hHeld => ?_)
  have HB_Y0 : Below W0.heap.size W0 W0.drew := (Below.refl _ _).drew
  have HX1 := hid (blkLater HB_Y0 HX0.out)
  have HB1 := hid (HB0.out.trans (HB_Y0.mono HB0.out.size))
  have hs0 := HB_Y0.size
  have hN1 := (Array.getElem?_eq_some_iff.1 HX1.out).1
  clear HB_Y0 HX0 HB0
  generalize W0.drew = Y0 at *
  refine wpAnyH_one 0 7 (.slice o ls.length c) hHeld rfl rfl (by kernel_rfl) (fun _ _ _ _ _ h => h) (by kernel_rfl) (by kernel_rfl) (by rfl) ?_ ?_
  · intro V hSw; (try dsimp only at hSw); go_simp
  simp only [Act.put, List.setIfInBounds_toArray, List.set_cons_zero, List.set_cons_succ]
  refine wpAnyH_one 2 9 (.agg #[.bool xa, .int .i64 xr, .bool xd, .slice none 0 0, .slice none 0 0]) hHeld rfl rfl (by kernel_rfl) (fun _ _ _ _ _ h => h) (by kernel_rfl) (by kernel_rfl) (by rfl) ?_ ?_
  · intro V hSw; (try dsimp only at hSw); have j0 := (cell_of_heap hSw 0).trans (show _ = some (.bool xa) from rfl); have j1 := (cell_of_heap hSw 1).trans (show _ = some (.int .i64 xr) from rfl); have j2 := (cell_of_heap hSw 2).trans (show _ = some (.bool xd) from rfl); have j3 := (cell_of_heap hSw 3).trans (show _ = some (.slice none 0 0) from rfl); have j4 := (cell_of_heap hSw 4).trans (show _ = some (.slice none 0 0) from rfl); go_simp
  simp only [Act.put, List.setIfInBounds_toArray, List.set_cons_zero, List.set_cons_succ]
  refine wpAnyH_ready (rs := [1, 3]) (by kernel_rfl) (by simp) ?_
  refine AllReadyH.cons rfl (fun K hK => ?_) (AllReadyH.cons rfl (fun K hK => ?_) AllReadyH.nil)
  · go_simp
    go_wp2_with (go_at_call 33; refine (HCp.out _ HB1.out).mono ?_; rintro e Y1 ⟨o2, c2, l, rfl, hm2, hO2, hb⟩; have HM := hid hm2; have HO2 := hid hO2; have HBc := hid hb; clear hm2 hO2 hb)
    have HX2 := hid (blkLater HBc.out HX1.out)
    have HB2 := hid (HB1.out.trans (HBc.out.mono HB1.out.size))
    have hs1 := HBc.out.size
    refine hK.out _ _ HX2.out (fun hHeld => ?_)
    clear hK K
    refine wpAnyH_ready (rs := [3]) (by kernel_rfl) (by simp) ?_
    refine AllReadyH.cons rfl (fun K hK => ?_) AllReadyH.nil
    go_simp
    have hba : Below Y1.heap.size Y1 (Y1.alloc (.cells #[.bool xa, .int .i64 xr, .bool xd, .slice none 0 0, .slice none 0 0] 42)) := (Below.refl _ Y1).alloc (Nat.le_refl _) _
    have HDv := hid (heap_new Y1 (.cells #[.bool xa, .int .i64 xr, .bool xd, .slice none 0 0, .slice none 0 0] 42))
    have HX3 := hid (blkLater hba HX2.out)
    have HOv := hid (HO2.out.later hba)
    have HB3 := hid (HB2.out.trans (hba.mono HB2.out.size))
    have hs2 := hba.size
    clear hba HO2
    generalize Y1.alloc (.cells #[.bool xa, .int .i64 xr, .bool xd, .slice none 0 0, .slice none 0 0] 42) = Y2 at *
    refine hK.out _ _ HX3.out (fun hHeld => ?_)
    clear hK K
    have hll : l.length = ls.length := by rw [← HM.out]; simp
    obtain ⟨o4, c4, V4, hap, hO4, hb4, hkp⟩ := more_run HOv.out (by omega) ⟨xa, xr, xd, [], []⟩ rfl rfl Y1.heap.size HDv.out (by omega)
    have HX4 := hid (hkp w.heap.size _ (by omega) HX3.out)
    rw [hll] at hap hO4
    have HAp := hid hap
    have HO4 := hid hO4
    have HB4 := hid (HB3.out.trans (hb4.mono (by have := HB1.out.size; omega)))
    have Hll := hid hll
    clear hap hO4 hb4 hkp hll
    refine wpAnyH_ready (rs := [4]) (by kernel_rfl) (by simp) ?_
    refine AllReadyH.cons rfl (fun K hK => ?_) AllReadyH.nil
    refine step_appendA _ rfl (.tmp 8) (.tmp 10) 22 22 rfl _ _ rfl rfl _ _ HAp.out (some 11) rfl ?_
    refine hK.out _ _ HX4.out (fun hHeld => ?_)
    clear hK K
    simp only [Act.put, List.setIfInBounds_toArray, List.set_cons_zero, List.set_cons_succ]
    refine wpAnyH_one 5 6 (.slice o4 (ls.length + 1) c4) hHeld rfl rfl (by kernel_rfl) (fun _ _ _ _ _ h => h) (by kernel_rfl) (by kernel_rfl) (by rfl) ?_ ?_
    · intro V hSw; (try dsimp only at hSw); go_simp
    simp only [Act.put, List.setIfInBounds_toArray, List.set_cons_zero, List.set_cons_succ]
    refine wpAnyH_done (by kernel_rfl) ?_ _
    go_wp2
    have hnl : ((ls.length + 1 : Nat) : Int) = (ls.length : Int) + 1 := by omega
    refine bodyPost_ret (v := .tuple #[.slice o4 (ls.length + 1) c4, .int .i64 ((ls.length : Int) + 1)]) (by simp [results, Try.results22, go_sem]) rfl ?_
    exact ⟨o4, c4, _, rfl, by rw [List.map_append, HM.out]; rfl, HO4.out.base (by have := HB1.out.size; omega), HB4.out⟩
  · go_simp
    have hba : Below Y0.heap.size Y0 (Y0.alloc (.cells #[.bool xa, .int .i64 xr, .bool xd, .slice none 0 0, .slice none 0 0] 42)) := (Below.refl _ Y0).alloc (Nat.le_refl _) _
    have HDz := hid (heap_new Y0 (.cells #[.bool xa, .int .i64 xr, .bool xd, .slice none 0 0, .slice none 0 0] 42))
    have HX2 := hid (blkLater hba HX1.out)
    have HB2 := hid (HB1.out.trans (hba.mono HB1.out.size))
    have hs1 := hba.size
    clear hba
    generalize Y0.alloc (.cells #[.bool xa, .int .i64 xr, .bool xd, .slice none 0 0, .slice none 0 0] 42) = Y1 at *
    refine hK.out _ _ HX2.out (fun hHeld => ?_)
    clear hK K
    refine wpAnyH_ready (rs := [1]) (by kernel_rfl) (by simp) ?_
    refine AllReadyH.cons rfl (fun K hK => ?_) AllReadyH.nil
    go_simp
    go_wp2_with (go_at_call 33; refine (HCp.out _ HB2.out).mono ?_; rintro e Y2 ⟨o2, c2, l, rfl, hm2, hO2, hb⟩; have HM := hid hm2; have HO2 := hid hO2; have HBc := hid hb; clear hm2 hO2 hb)
    have HX3 := hid (blkLater HBc.out HX2.out)
    have HB3 := hid (HB2.out.trans (HBc.out.mono HB2.out.size))
    have HDv := hid (blkLater HBc.out HDz.out)
    have HOv := HO2
    have hs2 := HBc.out.size
    refine hK.out _ _ HX3.out (fun hHeld => ?_)
    clear hK K
    have hll : l.length = ls.length := by rw [← HM.out]; simp
    obtain ⟨o4, c4, V4, hap, hO4, hb4, hkp⟩ := more_run HOv.out (by omega) ⟨xa, xr, xd, [], []⟩ rfl rfl Y0.heap.size HDv.out (by omega)
    have HX4 := hid (hkp w.heap.size _ (by omega) HX3.out)
    rw [hll] at hap hO4
    have HAp := hid hap
    have HO4 := hid hO4
    have HB4 := hid (HB3.out.trans (hb4.mono (by have := HB1.out.size; omega)))
    have Hll := hid hll
    clear hap hO4 hb4 hkp hll
    refine wpAnyH_ready (rs := [4]) (by kernel_rfl) (by simp) ?_
    refine AllReadyH.cons rfl (fun K hK => ?_) AllReadyH.nil
    refine step_appendA _ rfl (.tmp 8) (.tmp 10) 22 22 rfl _ _ rfl rfl _ _ HAp.out (some 11) rfl ?_
    refine hK.out _ _ HX4.out (fun hHeld => ?_)
    clear hK K
    simp only [Act.put, List.setIfInBounds_toArray, List.set_cons_zero, List.set_cons_succ]
    refine wpAnyH_one 5 6 (.slice o4 (ls.length + 1) c4) hHeld rfl rfl (by kernel_rfl) (fun _ _ _ _ _ h => h) (by kernel_rfl) (by kernel_rfl) (by rfl) ?_ ?_
    · intro V hSw; (try dsimp only at hSw); go_simp
    simp only [Act.put, List.setIfInBounds_toArray, List.set_cons_zero, List.set_cons_succ]
    refine wpAnyH_done (by kernel_rfl) ?_ _
    go_wp2
    have hnl : ((ls.length + 1 : Nat) : Int) = (ls.length : Int) + 1 := by omega
    refine bodyPost_ret (v := .tuple #[.slice o4 (ls.length + 1) c4, .int .i64 ((ls.length : Int) + 1)]) (by simp [results, Try.results22, go_sem]) rfl ?_
    exact ⟨o4, c4, _, rfl, by rw [List.map_append, HM.out]; rfl, HO4.out.base (by have := HB1.out.size; omega), HB4.out⟩
set_option maxRecDepth 100000 in
set_option maxHeartbeats 4000000 in
theorem newS_err (v : Value) (ls : List SigD) (re : Int) (w : World) (hv : RdS w v ls) (hl : ls.length ≤ 1099511627776) (hs : SmallS ls) (he : (fullE ls != 0) = true) :
    Calls Try.prog 8 #[v, .int .i64 re] w fun e w' => e = .returned (.tuple #[.slice none 0 0, .int .i64 0, .int .i64 (fullE ls)]) ∧ Below w.heap.size w w' := by
  have hC := full_any v ls w hv hl hs
  obtain ⟨o, c, rfl, _, g⟩ := hv
  clear hs g
  generalize fullE ls = E at *
  go_enter Try.func8, Try.ntmps8
  go_wp2_with (go_at_call 21; refine hC.mono ?_; rintro e w2 ⟨rfl, hb⟩; have HB := hid hb; clear hb)
  refine bodyPost_ret (v := .tuple #[.slice none 0 0, .int .i64 0, .int .i64 E]) (by simp [results, Try.results8, go_sem]) rfl ?_
  exact ⟨rfl, HB.out⟩
set_option maxRecDepth 100000 in
set_option maxHeartbeats 4000000 in
theorem newS_ok (v : Value) (ls : List SigD) (re : Int) (w : World) (hv : RdS w v ls) (hl : ls.length ≤ 1024) (hs : SmallS ls) (he : fullE ls = 0) :
    Calls Try.prog 8 #[v, .int .i64 re] w fun e w' => ∃ o c l, e = .returned (.tuple #[.slice o (ls.length + 1) c, .int .i64 ((ls.length : Int) + 1), .int .i64 0]) ∧ l.map (·.1) = ls ++ [⟨re != 0, re, false, [], []⟩] ∧ OwnS w' w' w.heap.size (.slice o (ls.length + 1) c) l l.length ∧ Below w.heap.size w w' := by
  have hC := full_any v ls w hv (by omega) hs
  rw [he] at hC
  have HG : Hid (∀ V : World, Below w.heap.size w V → _) := fun V hV => grown_any v ls (re != 0) re false V (hv.later hV) hl hs
  obtain ⟨o, c, rfl, _, g⟩ := hv
  clear hs g he
  go_enter Try.func8, Try.ntmps8
  go_wp2_with (first
    | (go_at_call 21; refine hC.mono ?_; rintro e w2 ⟨rfl, hb⟩; have HB := hid hb; clear hb)
    | (go_at_call 22; refine (HG.out _ HB.out).mono ?_; rintro e w3 ⟨o3, c3, l, rfl, hm, hO, hb⟩; have HM := hid hm; have HO := hid hO; have HB3 := hid (HB.out.trans (hb.mono HB.out.size)); clear hm hO hb))
  refine bodyPost_ret (v := .tuple #[.slice o3 (ls.length + 1) c3, .int .i64 ((ls.length : Int) + 1), .int .i64 0]) (by simp [results, Try.results8, go_sem]) rfl ?_
  exact ⟨o3, c3, l, rfl, HM.out, HO.out.base HB.out.size, HB3.out⟩
end Go.Proofs.Ytlibjjmaicgemaa
