/- knot.tie. -/
import Derived.Test.YtlibjjmaicgemaaAbQ
namespace Go.Proofs.Ytlibjjmaicgemaa
open Go.RowKit Go.Lib Go.Shelf

set_option maxRecDepth 100000 in
set_option maxHeartbeats 16000000 in
theorem tie_any (g c q p : Nat) (l0 : List SigV) (W w0 : World) (base : Nat) (hO : OwnS W w0 base (.slice (some ⟨g, 0, none⟩) l0.length c) l0 l0.length) (hB : base ≤ W.heap.size) (hqn : l0.length = q + 1) (hn : l0.length ≤ 1025) (hpq0 : p < q) (hpl : p < l0.length) (hql : q < l0.length) (hd : l0[p].1.dts.length ≤ 4194304) (hs : l0[q].1.src.length ≤ 4194304) :
    Calls Try.prog 27 #[.agg #[.slice (some ⟨g, 0, none⟩) l0.length c, .int .i64 ((q : Int) + 1)], .int .i64 ((p : Int) + 1)] W fun e w' => e = .returned (.tuple #[]) ∧ ∃ l, l.map (·.1) = tieS (l0.map (·.1)) p q ∧ l.length = l0.length ∧ OwnS w' w0 base (.slice (some ⟨g, 0, none⟩) l0.length c) l l0.length ∧ Below base W w' ∧ ∀ (j : Nat) (hj : j < l.length) (hj0 : j < l0.length), j ≠ q → l[j].2.1 = l0[j].2.1 := by
  have hpq : p ≠ q := by omega
  have hb0 : Below W.heap.size W (W.alloc (.cells #[.slice (some ⟨g, 0, none⟩) l0.length c, .int .i64 ((q : Int) + 1)] 51)) := (Below.refl _ W).alloc (Nat.le_refl _) _
  have HX0 := hid (heap_new W (.cells #[.slice (some ⟨g, 0, none⟩) l0.length c, .int .i64 ((q : Int) + 1)] 51))
  have HO0 := hid (hO.later hb0)
  have HB0 := hid ((Below.refl base W).trans (hb0.mono hB))
  have k0 := (cell_of_heap HX0.out 0).trans (show _ = some (.slice (some ⟨g, 0, none⟩) l0.length c) from rfl)
  have k1 := (cell_of_heap HX0.out 1).trans (show _ = some (.int .i64 ((q : Int) + 1)) from rfl)
  have q1 : (0 : Int) ≤ (p : Int) := by omega
  have q2 : (p : Int) < (l0.length : Int) := by omega
  have q3 : (0 : Int) ≤ (q : Int) := by omega
  have q4 : (q : Int) < (l0.length : Int) := by omega
  have hwp : IntKind.i64.wrap (p : Int) = (p : Int) := wrapA (by omega) (by omega)
  have hwq : IntKind.i64.wrap (q : Int) = (q : Int) := wrapA (by omega) (by omega)
  have hs0 := hb0.size
  obtain ⟨o1, c1, hv1⟩ := own_shape (hO.own p hpl hpl).2
  obtain ⟨o3, c3, hv3⟩ := own_shape (hO.own q hql hql).1
  obtain ⟨n1, hn1⟩ : ∃ n1, l0[p].1.dts.length = n1 := ⟨_, rfl⟩
  obtain ⟨n3, hn3⟩ : ∃ n3, l0[q].1.src.length = n3 := ⟨_, rfl⟩
  rw [hn1] at hv1 hd
  rw [hn3] at hv3 hs
  have HV1 := hid hv1
  have HV3 := hid hv3
  have HN1 := hid hn1
  have HN3 := hid hn3
  have hlow0 : base ≤ W.heap.size := hB
  clear hb0 hqn hO hv1 hv3 hn1 hn3
  go_enter Try.func27, Try.ntmps27
  go_upto_region 1 with fail
  go_quiet (fail)
  have hdr : Below (W.alloc (.cells #[.slice (some ⟨g, 0, none⟩) l0.length c, .int .i64 ((q : Int) + 1)] 51)).heap.size (W.alloc (.cells #[.slice (some ⟨g, 0, none⟩) l0.length c, .int .i64 ((q : Int) + 1)] 51)) ((W.alloc (.cells #[.slice (some ⟨g, 0, none⟩) l0.length c, .int .i64 ((q : Int) + 1)] 51)).drewN nq) := drewN_below _ _ _
  have HX1 := hid (blkLater hdr HX0.out)
  have HO1 := hid (HO0.out.later hdr)
  have HB1 := hid (HB0.out.trans (hdr.mono (by omega)))
  have hlow1 : base ≤ ((W.alloc (.cells #[.slice (some ⟨g, 0, none⟩) l0.length c, .int .i64 ((q : Int) + 1)] 51)).drewN nq).heap.size := Nat.le_trans hlow0 (Nat.le_trans hs0 hdr.size)
  clear hdr HX0 HO0 HB0 k0 k1 hs0
  generalize (W.alloc (.cells #[.slice (some ⟨g, 0, none⟩) l0.length c, .int .i64 ((q : Int) + 1)] 51)).drewN nq = W1 at *
  generalize W.heap.size = Kb at *
  have k1 := (cell_of_heap HX1.out 1).trans (show _ = some (.int .i64 ((q : Int) + 1)) from rfl)
  obtain ⟨g', c', cur, hv, hbg, hh, hnc, hcc⟩ := own_blk HO1.out.row (by omega)
  injection hv with e1 e2 e3
  injection e1 with e1
  injection e1 with e1
  subst e1
  clear e2 e3
  have cA := hcc (p * 5 + 4) (.slice o1 n1 c1) ((rowS_get l0 p 4 hpl (by decide)).trans (congrArg some HV1.out))
  clear hcc hnc hh
  go_upto_region 3 with fail
  go_cut [37] (fun t wc => t = .bool (lastIs l0[p].1.dts ((q : Int) + 1)) ∧ Hid (wc.heap[Kb]? = some (.cells #[.slice (some ⟨g, 0, none⟩) l0.length c, .int .i64 ((q : Int) + 1)] 51)) ∧ Hid (OwnS wc w0 base (.slice (some ⟨g, 0, none⟩) l0.length c) l0 l0.length) ∧ Hid (Below base W wc) ∧ Hid (base ≤ wc.heap.size))
  case first =>
    have hRd : RdI W1 (.slice o1 n1 c1) l0[p].1.dts := by
      have h := own_rdI (HO1.out.own p hpl hpl).2
      rw [HV1.out] at h
      exact h
    have HDr : Hid (∀ m, Below W1.heap.size W1 (W1.drewN m)) := fun m => drewN_below _ _ _
    rcases Nat.eq_zero_or_pos n1 with hz | hpz
    · have hla : lastIs l0[p].1.dts ((q : Int) + 1) = false := by
        unfold lastIs
        rw [HN1.out, hz]
        rfl
      have Hla := hid hla
      subst hz
      clear hRd hla
      go_quiet (fail)
      go_wp2_with fail
      go_meet
      exact ⟨by rw [Hla.out], blkLater (HDr.out _) HX1.out, HO1.out.later (HDr.out _), HB1.out.trans ((HDr.out _).mono hlow1), Nat.le_trans hlow1 (HDr.out _).size⟩
    · obtain ⟨r, rfl⟩ : ∃ r, n1 = r + 1 := ⟨n1 - 1, by omega⟩
      have hdl : l0[p].1.dts.length = r + 1 := HN1.out
      obtain ⟨o1', c1', he, _, hg1⟩ := hRd
      injection he with e1 e2 e3
      subst e1
      obtain ⟨rb, roff, rfl, hrlt, hra⟩ := hg1 (by omega)
      have c0 := hra r (by omega)
      have hlq : lastIs l0[p].1.dts ((q : Int) + 1) = (l0[p].1.dts[r]'(by omega) == (q : Int) + 1) := by
        unfold lastIs
        rw [decide_eq_true (by omega), Bool.true_and, List.getD_eq_getElem?_getD, List.getElem?_eq_getElem (by omega)]
        congr 1
        simp only [hdl, Nat.add_sub_cancel, Option.getD_some]
      generalize l0[p].1.dts[r]'(by omega) = z at c0 hlq
      have r3 : (0 : Int) ≤ (r : Int) := by omega
      have r4 : (r : Int) < ((r + 1 : Nat) : Int) := by omega
      have r5 : (r : Int) < (r : Int) + 1 := by omega
      have hwr : IntKind.i64.wrap (r : Int) = (r : Int) := wrapA (by omega) (by omega)
      have d1 : decide (((r + 1 : Nat) : Int) > 0) = true := decide_eq_true (by omega)
      have d2 : decide ((r : Int) + 1 > 0) = true := decide_eq_true (by omega)
      clear e2 e3 hra hg1 hdl hpz
      have Hlq := hid hlq
      clear hlq
      go_quiet (fail)
      go_wp2_with fail
      go_meet
      exact ⟨by rw [Hlq.out], blkLater (HDr.out _) HX1.out, HO1.out.later (HDr.out _), HB1.out.trans ((HDr.out _).mono hlow1), Nat.le_trans hlow1 (HDr.out _).size⟩
  case rest =>
    obtain ⟨rfl, HXc, HOc, HBc, hlowc⟩ := hcut
    clear HX1 HO1 HB1 hlow1 k1 cA
    cases hla0 : lastIs l0[p].1.dts ((q : Int) + 1) with
    | true =>
      have hts : tieS (l0.map (·.1)) p q = l0.map (·.1) := by
        unfold tieS
        rw [List.getElem?_map, List.getElem?_eq_getElem hpl]
        show (if lastIs l0[p].1.dts ((q : Int) + 1) = true then _ else _) = _
        rw [hla0, if_pos rfl]
      have Hts := hid hts
      clear hts hla0
      go_wp2
      refine bodyPost_ret (results_none rfl _ _ _) rfl ?_
      exact ⟨rfl, l0, Hts.out.symm, rfl, HOc.out, HBc.out, fun _ _ _ _ => rfl⟩
    | false =>
    have hla := hid hla0
    clear hla0
    have hts : tieS (l0.map (·.1)) p q = ((l0.map (·.1)).modify p (fun x => { x with dts := x.dts ++ [(q : Int) + 1] })).modify q (fun x => { x with src := x.src ++ [(p : Int) + 1] }) := by
      unfold tieS
      rw [List.getElem?_map, List.getElem?_eq_getElem hpl]
      show (if lastIs l0[p].1.dts ((q : Int) + 1) = true then _ else _) = _
      rw [hla.out, if_neg Bool.false_ne_true]
    have HRet : Hid (∀ (V : World) (v1 v2 : Value), OwnS V w0 base (.slice (some ⟨g, 0, none⟩) l0.length c) ((l0.set p (putL l0[p] ((q : Int) + 1) v1 true)).set q (putL l0[q] ((p : Int) + 1) v2 false)) l0.length ∧ Below base W V → (∃ l, l.map (·.1) = tieS (l0.map (·.1)) p q ∧ l.length = l0.length ∧ OwnS V w0 base (.slice (some ⟨g, 0, none⟩) l0.length c) l l0.length ∧ Below base W V ∧ ∀ (j : Nat) (hj : j < l.length) (hj0 : j < l0.length), j ≠ q → l[j].2.1 = l0[j].2.1)) := fun V v1 v2 h => ⟨_, (map_tie l0 p q hpl hql hpq _ _ v1 v2).trans hts.symm, by simp, h.1, h.2, fun j hj hj0 hne => by
      rw [List.getElem_set_ne (fun e => hne e.symm)]
      by_cases e : p = j
      · subst e
        rw [List.getElem_set_self]
        rfl
      · rw [List.getElem_set_ne e]⟩
    clear hts hla
    go_upto_region 4 with fail
    refine wp_region_held_drew (S := fun V => V.heap[Kb]? = some (.cells #[.slice (some ⟨g, 0, none⟩) l0.length c, .int .i64 ((q : Int) + 1)] 51)) (by kernel_rfl) HXc.out (fun hHeld => ?_)
    have hdr : Below wc.heap.size wc wc.drew := (Below.refl _ _).drew
    have HT0 : Hid (TieAt W wc.drew base (.slice (some ⟨g, 0, none⟩) l0.length c) l0 l0 Kb #[.slice (some ⟨g, 0, none⟩) l0.length c, .int .i64 ((q : Int) + 1)]) := ⟨blkLater hdr HXc.out, own_later HOc.out.row hdr, (HOc.out.later hdr).lists, HBc.out.trans (hdr.mono hlowc.out), Nat.le_trans hlowc.out hdr.size⟩
    clear hdr HXc HOc HBc hlowc
    generalize wc.drew = V0 at *
    have hb1 : (numsOf l0[p] true).length + 1 ≤ 1099511627776 := by show l0[p].1.dts.length + 1 ≤ _; rw [HN1.out]; omega
    have hb3 : (numsOf l0[q] false).length + 1 ≤ 1099511627776 := by show l0[q].1.src.length + 1 ≤ _; rw [HN3.out]; omega
    refine wpAnyH_one 0 38 (.pointer (some ⟨g, p * 5, none⟩)) hHeld rfl rfl (by kernel_rfl) (fun _ _ _ _ _ h => h) (by kernel_rfl) (by kernel_rfl) (by rfl) ?_ ?_
    · intro V hSw; (try dsimp only at hSw); go_simp
    simp only [Act.put, List.setIfInBounds_toArray, List.set_cons_zero, List.set_cons_succ]
    refine wpAnyH_one 1 39 (.pointer (some ⟨g, q * 5, none⟩)) hHeld rfl rfl (by kernel_rfl) (fun _ _ _ _ _ h => h) (by kernel_rfl) (by kernel_rfl) (by rfl) ?_ ?_
    · intro V hSw; (try dsimp only at hSw); go_simp
    simp only [Act.put, List.setIfInBounds_toArray, List.set_cons_zero, List.set_cons_succ]
    refine wpAnyH_one 2 40 (.pointer (some ⟨g, p * 5, none⟩)) hHeld rfl rfl (by kernel_rfl) (fun _ _ _ _ _ h => h) (by kernel_rfl) (by kernel_rfl) (by rfl) ?_ ?_
    · intro V hSw; (try dsimp only at hSw); go_simp
    simp only [Act.put, List.setIfInBounds_toArray, List.set_cons_zero, List.set_cons_succ]
    refine wpAnyH_one 3 41 (.pointer (some ⟨g, p * 5, none⟩)) hHeld rfl rfl (by kernel_rfl) (fun _ _ _ _ _ h => h) (by kernel_rfl) (by kernel_rfl) (by rfl) ?_ ?_
    · intro V hSw; (try dsimp only at hSw); go_simp
    simp only [Act.put, List.setIfInBounds_toArray, List.set_cons_zero, List.set_cons_succ]
    refine wpAnyH_one 4 42 (.pointer (some ⟨g, p * 5 + 4, none⟩)) hHeld rfl rfl (by kernel_rfl) (fun _ _ _ _ _ h => h) (by kernel_rfl) (by kernel_rfl) (by rfl) ?_ ?_
    · intro V hSw; (try dsimp only at hSw); go_simp
    simp only [Act.put, List.setIfInBounds_toArray, List.set_cons_zero, List.set_cons_succ]
    refine wpAnyH_one 6 44 (.pointer (some ⟨Kb, 1, none⟩)) hHeld rfl rfl (by kernel_rfl) (fun _ _ _ _ _ h => h) (by kernel_rfl) (by kernel_rfl) (by rfl) ?_ ?_
    · intro V hSw; (try dsimp only at hSw); go_simp
    simp only [Act.put, List.setIfInBounds_toArray, List.set_cons_zero, List.set_cons_succ]
    refine wpAnyH_one 7 45 (.int .i64 ((q : Int) + 1)) hHeld rfl rfl (by kernel_rfl) (fun _ _ _ _ _ h => h) (by kernel_rfl) (by kernel_rfl) (by rfl) ?_ ?_
    · intro V hSw; (try dsimp only at hSw); have j1 := (cell_of_heap hSw 1).trans (show _ = some (.int .i64 ((q : Int) + 1)) from rfl); go_simp
    simp only [Act.put, List.setIfInBounds_toArray, List.set_cons_zero, List.set_cons_succ]
    refine wpAnyH_one 10 48 (.pointer (some ⟨g, q * 5, none⟩)) hHeld rfl rfl (by kernel_rfl) (fun _ _ _ _ _ h => h) (by kernel_rfl) (by kernel_rfl) (by rfl) ?_ ?_
    · intro V hSw; (try dsimp only at hSw); go_simp
    simp only [Act.put, List.setIfInBounds_toArray, List.set_cons_zero, List.set_cons_succ]
    refine wpAnyH_one 11 49 (.pointer (some ⟨g, q * 5, none⟩)) hHeld rfl rfl (by kernel_rfl) (fun _ _ _ _ _ h => h) (by kernel_rfl) (by kernel_rfl) (by rfl) ?_ ?_
    · intro V hSw; (try dsimp only at hSw); go_simp
    simp only [Act.put, List.setIfInBounds_toArray, List.set_cons_zero, List.set_cons_succ]
    refine wpAnyH_one 12 50 (.pointer (some ⟨g, q * 5 + 3, none⟩)) hHeld rfl rfl (by kernel_rfl) (fun _ _ _ _ _ h => h) (by kernel_rfl) (by kernel_rfl) (by rfl) ?_ ?_
    · intro V hSw; (try dsimp only at hSw); go_simp
    simp only [Act.put, List.setIfInBounds_toArray, List.set_cons_zero, List.set_cons_succ]
    refine wpAnyH_one 14 52 (.int .i64 ((p : Int) + 1)) hHeld rfl rfl (by kernel_rfl) (fun _ _ _ _ _ h => h) (by kernel_rfl) (by kernel_rfl) (by rfl) ?_ ?_
    · intro V hSw; (try dsimp only at hSw); go_simp
    simp only [Act.put, List.setIfInBounds_toArray, List.set_cons_zero, List.set_cons_succ]
    refine wpAnyH_ready (rs := [5, 8, 13, 15]) (by kernel_rfl) (by simp) ?_
    refine AllReadyH.cons rfl (fun K hK => ?_) (AllReadyH.cons rfl (fun K hK => ?_) (AllReadyH.cons rfl (fun K hK => ?_) (AllReadyH.cons rfl (fun K hK => ?_) (AllReadyH.nil))))
    · have cA := (HT0.out.cell p hpl 4  (by decide) (.slice o1 n1 c1) (by show some _ = _; exact congrArg some HV1.out)).1
      go_simp
      refine hK.out _ _ HT0.out.box (fun hHeld => ?_)
      clear hK K cA
      refine wpAnyH_ready (rs := [8, 13, 15]) (by kernel_rfl) (by simp) ?_
      refine AllReadyH.cons rfl (fun K hK => ?_) (AllReadyH.cons rfl (fun K hK => ?_) (AllReadyH.cons rfl (fun K hK => ?_) (AllReadyH.nil)))
      · go_simp
        have hba : Below V0.heap.size V0 (V0.alloc (.cells #[.int .i64 ((q : Int) + 1)] 3)) := (Below.refl _ V0).alloc (Nat.le_refl _) _
        have HT1 := hid (HT0.out.later hba)
        have HD1_1 := hid (HT0.out.lst.fresh ((q : Int) + 1))
        clear hba
        generalize V0.alloc (.cells #[.int .i64 ((q : Int) + 1)] 3) = V1 at *
        generalize V0.heap.size = D1 at *
        refine hK.out _ _ HT1.out.box (fun hHeld => ?_)
        clear hK K
        refine wpAnyH_ready (rs := [9, 13, 15]) (by kernel_rfl) (by simp) ?_
        refine AllReadyH.cons rfl (fun K hK => ?_) (AllReadyH.cons rfl (fun K hK => ?_) (AllReadyH.cons rfl (fun K hK => ?_) (AllReadyH.nil)))
        · obtain ⟨o5, c5, V2, hap, hT, hd⟩ := HT1.out.put p hpl true _ D1 HD1_1.out hb1
          have HT2 := hid hT
          have hs1 : side l0[p] true = .slice o1 n1 c1 := HV1.out
          have hn1 : (numsOf l0[p] true).length = n1 := HN1.out
          simp only [hs1, hn1] at hap HT2
          have HAp := hid hap
          clear hap hT hd hs1 hn1
          refine step_appendA _ rfl (.tmp 43) (.tmp 46) 23 23 rfl _ _ rfl rfl _ _ HAp.out (some 47) rfl ?_
          refine hK.out _ _ HT2.out.box (fun hHeld => ?_)
          clear hK K HAp
          simp only [Act.put, List.setIfInBounds_toArray, List.set_cons_zero, List.set_cons_succ]
          refine wpAnyH_ready (rs := [13, 15]) (by kernel_rfl) (by simp) ?_
          refine AllReadyH.cons rfl (fun K hK => ?_) (AllReadyH.cons rfl (fun K hK => ?_) (AllReadyH.nil))
          · have cA := (HT2.out.cell q hql 3  (by decide) (.slice o3 n3 c3) (by show some _ = _; exact congrArg some HV3.out)).1
            go_simp
            refine hK.out _ _ HT2.out.box (fun hHeld => ?_)
            clear hK K cA
            refine wpAnyH_ready (rs := [15]) (by kernel_rfl) (by simp) ?_
            refine AllReadyH.cons rfl (fun K hK => ?_) (AllReadyH.nil)
            go_simp
            have hba : Below V2.heap.size V2 (V2.alloc (.cells #[.int .i64 ((p : Int) + 1)] 3)) := (Below.refl _ V2).alloc (Nat.le_refl _) _
            have HT3 := hid (HT2.out.later hba)
            have HD2_3 := hid (HT2.out.lst.fresh ((p : Int) + 1))
            clear hba
            generalize V2.alloc (.cells #[.int .i64 ((p : Int) + 1)] 3) = V3 at *
            generalize V2.heap.size = D2 at *
            refine hK.out _ _ HT3.out.box (fun hHeld => ?_)
            clear hK K
            refine wpAnyH_ready (rs := [16]) (by kernel_rfl) (by simp) ?_
            refine AllReadyH.cons rfl (fun K hK => ?_) (AllReadyH.nil)
            have hLq : (l0.set p (putL l0[p] ((q : Int) + 1) (.slice o5 (n1 + 1) c5) true))[q]'(by simpa using hql) = l0[q] := List.getElem_set_ne hpq _
            obtain ⟨o6, c6, V4, hap, hT, hd⟩ := HT3.out.put q (by simpa using hql) false _ D2 HD2_3.out (by rw [hLq]; exact hb3)
            have HT4 := hid hT
            have hs1 : side l0[q] false = .slice o3 n3 c3 := HV3.out
            have hn1 : (numsOf l0[q] false).length = n3 := HN3.out
            simp only [hLq, hs1, hn1] at hap HT4
            have HAp := hid hap
            clear hap hT hd hs1 hn1 hLq
            refine step_appendA _ rfl (.tmp 51) (.tmp 53) 23 23 rfl _ _ rfl rfl _ _ HAp.out (some 54) rfl ?_
            refine hK.out _ _ HT4.out.box (fun hHeld => ?_)
            clear hK K HAp
            simp only [Act.put, List.setIfInBounds_toArray, List.set_cons_zero, List.set_cons_succ]
            obtain ⟨⟨u1, s1⟩, s2, s3, ⟨u2, s4⟩, s5, s6⟩ := tie_store hpl hql HT4.out (.slice o5 (n1 + 1) c5) (.slice o6 (n3 + 1) c6)
            have hfin := tie_done (w0 := w0) hpl hql hpq HT4.out
            have HFin := hid hfin
            have S3 := hid s3
            have S6 := hid s6
            clear hfin s3 s6
            refine wpAnyH_one 17 55 (.pointer (some ⟨g, p * 5, none⟩)) hHeld rfl rfl (by kernel_rfl) (fun _ _ _ _ _ h => h) (by kernel_rfl) (by kernel_rfl) (by rfl) ?_ ?_
            · intro V hSw; (try dsimp only at hSw); go_simp
            simp only [Act.put, List.setIfInBounds_toArray, List.set_cons_zero, List.set_cons_succ]
            refine wpAnyH_one 18 56 (.pointer (some ⟨g, p * 5 + 4, none⟩)) hHeld rfl rfl (by kernel_rfl) (fun _ _ _ _ _ h => h) (by kernel_rfl) (by kernel_rfl) (by rfl) ?_ ?_
            · intro V hSw; (try dsimp only at hSw); go_simp
            simp only [Act.put, List.setIfInBounds_toArray, List.set_cons_zero, List.set_cons_succ]
            refine wpAnyH_ready (rs := [19]) (by kernel_rfl) (by simp) ?_
            refine AllReadyH.cons rfl (fun K hK => ?_) AllReadyH.nil
            go_simp
            refine hK.out _ _ S3.out (fun hHeld => ?_)
            clear hK K
            refine wpAnyH_one 20 57 (.pointer (some ⟨g, q * 5, none⟩)) hHeld rfl rfl (by kernel_rfl) (fun _ _ _ _ _ h => h) (by kernel_rfl) (by kernel_rfl) (by rfl) ?_ ?_
            · intro V hSw; (try dsimp only at hSw); go_simp
            simp only [Act.put, List.setIfInBounds_toArray, List.set_cons_zero, List.set_cons_succ]
            refine wpAnyH_one 21 58 (.pointer (some ⟨g, q * 5 + 3, none⟩)) hHeld rfl rfl (by kernel_rfl) (fun _ _ _ _ _ h => h) (by kernel_rfl) (by kernel_rfl) (by rfl) ?_ ?_
            · intro V hSw; (try dsimp only at hSw); go_simp
            simp only [Act.put, List.setIfInBounds_toArray, List.set_cons_zero, List.set_cons_succ]
            refine wpAnyH_ready (rs := [22]) (by kernel_rfl) (by simp) ?_
            refine AllReadyH.cons rfl (fun K hK => ?_) AllReadyH.nil
            go_simp
            refine hK.out _ _ S6.out (fun hHeld => ?_)
            clear hK K
            refine wpAnyH_done (by kernel_rfl) ?_ _
            go_wp2
            (try simp only [Exit.inBlock, Exit.then])
            refine bodyPost_end (results_none rfl _ _ _) rfl ?_
            exact ⟨rfl, HRet.out _ _ _ HFin.out⟩
          · go_simp
            have hba : Below V2.heap.size V2 (V2.alloc (.cells #[.int .i64 ((p : Int) + 1)] 3)) := (Below.refl _ V2).alloc (Nat.le_refl _) _
            have HT3 := hid (HT2.out.later hba)
            have HD2_3 := hid (HT2.out.lst.fresh ((p : Int) + 1))
            clear hba
            generalize V2.alloc (.cells #[.int .i64 ((p : Int) + 1)] 3) = V3 at *
            generalize V2.heap.size = D2 at *
            refine hK.out _ _ HT3.out.box (fun hHeld => ?_)
            clear hK K
            refine wpAnyH_ready (rs := [13]) (by kernel_rfl) (by simp) ?_
            refine AllReadyH.cons rfl (fun K hK => ?_) (AllReadyH.nil)
            have cA := (HT3.out.cell q hql 3  (by decide) (.slice o3 n3 c3) (by show some _ = _; exact congrArg some HV3.out)).1
            go_simp
            refine hK.out _ _ HT3.out.box (fun hHeld => ?_)
            clear hK K cA
            refine wpAnyH_ready (rs := [16]) (by kernel_rfl) (by simp) ?_
            refine AllReadyH.cons rfl (fun K hK => ?_) (AllReadyH.nil)
            have hLq : (l0.set p (putL l0[p] ((q : Int) + 1) (.slice o5 (n1 + 1) c5) true))[q]'(by simpa using hql) = l0[q] := List.getElem_set_ne hpq _
            obtain ⟨o6, c6, V4, hap, hT, hd⟩ := HT3.out.put q (by simpa using hql) false _ D2 HD2_3.out (by rw [hLq]; exact hb3)
            have HT4 := hid hT
            have hs1 : side l0[q] false = .slice o3 n3 c3 := HV3.out
            have hn1 : (numsOf l0[q] false).length = n3 := HN3.out
            simp only [hLq, hs1, hn1] at hap HT4
            have HAp := hid hap
            clear hap hT hd hs1 hn1 hLq
            refine step_appendA _ rfl (.tmp 51) (.tmp 53) 23 23 rfl _ _ rfl rfl _ _ HAp.out (some 54) rfl ?_
            refine hK.out _ _ HT4.out.box (fun hHeld => ?_)
            clear hK K HAp
            simp only [Act.put, List.setIfInBounds_toArray, List.set_cons_zero, List.set_cons_succ]
            obtain ⟨⟨u1, s1⟩, s2, s3, ⟨u2, s4⟩, s5, s6⟩ := tie_store hpl hql HT4.out (.slice o5 (n1 + 1) c5) (.slice o6 (n3 + 1) c6)
            have hfin := tie_done (w0 := w0) hpl hql hpq HT4.out
            have HFin := hid hfin
            have S3 := hid s3
            have S6 := hid s6
            clear hfin s3 s6
            refine wpAnyH_one 17 55 (.pointer (some ⟨g, p * 5, none⟩)) hHeld rfl rfl (by kernel_rfl) (fun _ _ _ _ _ h => h) (by kernel_rfl) (by kernel_rfl) (by rfl) ?_ ?_
            · intro V hSw; (try dsimp only at hSw); go_simp
            simp only [Act.put, List.setIfInBounds_toArray, List.set_cons_zero, List.set_cons_succ]
            refine wpAnyH_one 18 56 (.pointer (some ⟨g, p * 5 + 4, none⟩)) hHeld rfl rfl (by kernel_rfl) (fun _ _ _ _ _ h => h) (by kernel_rfl) (by kernel_rfl) (by rfl) ?_ ?_
            · intro V hSw; (try dsimp only at hSw); go_simp
            simp only [Act.put, List.setIfInBounds_toArray, List.set_cons_zero, List.set_cons_succ]
            refine wpAnyH_ready (rs := [19]) (by kernel_rfl) (by simp) ?_
            refine AllReadyH.cons rfl (fun K hK => ?_) AllReadyH.nil
            go_simp
            refine hK.out _ _ S3.out (fun hHeld => ?_)
            clear hK K
            refine wpAnyH_one 20 57 (.pointer (some ⟨g, q * 5, none⟩)) hHeld rfl rfl (by kernel_rfl) (fun _ _ _ _ _ h => h) (by kernel_rfl) (by kernel_rfl) (by rfl) ?_ ?_
            · intro V hSw; (try dsimp only at hSw); go_simp
            simp only [Act.put, List.setIfInBounds_toArray, List.set_cons_zero, List.set_cons_succ]
            refine wpAnyH_one 21 58 (.pointer (some ⟨g, q * 5 + 3, none⟩)) hHeld rfl rfl (by kernel_rfl) (fun _ _ _ _ _ h => h) (by kernel_rfl) (by kernel_rfl) (by rfl) ?_ ?_
            · intro V hSw; (try dsimp only at hSw); go_simp
            simp only [Act.put, List.setIfInBounds_toArray, List.set_cons_zero, List.set_cons_succ]
            refine wpAnyH_ready (rs := [22]) (by kernel_rfl) (by simp) ?_
            refine AllReadyH.cons rfl (fun K hK => ?_) AllReadyH.nil
            go_simp
            refine hK.out _ _ S6.out (fun hHeld => ?_)
            clear hK K
            refine wpAnyH_done (by kernel_rfl) ?_ _
            go_wp2
            (try simp only [Exit.inBlock, Exit.then])
            refine bodyPost_end (results_none rfl _ _ _) rfl ?_
            exact ⟨rfl, HRet.out _ _ _ HFin.out⟩
        · have cA := (HT1.out.cell q hql 3  (by decide) (.slice o3 n3 c3) (by show some _ = _; exact congrArg some HV3.out)).1
          go_simp
          refine hK.out _ _ HT1.out.box (fun hHeld => ?_)
          clear hK K cA
          refine wpAnyH_ready (rs := [9, 15]) (by kernel_rfl) (by simp) ?_
          refine AllReadyH.cons rfl (fun K hK => ?_) (AllReadyH.cons rfl (fun K hK => ?_) (AllReadyH.nil))
          · obtain ⟨o5, c5, V2, hap, hT, hd⟩ := HT1.out.put p hpl true _ D1 HD1_1.out hb1
            have HT2 := hid hT
            have hs1 : side l0[p] true = .slice o1 n1 c1 := HV1.out
            have hn1 : (numsOf l0[p] true).length = n1 := HN1.out
            simp only [hs1, hn1] at hap HT2
            have HAp := hid hap
            clear hap hT hd hs1 hn1
            refine step_appendA _ rfl (.tmp 43) (.tmp 46) 23 23 rfl _ _ rfl rfl _ _ HAp.out (some 47) rfl ?_
            refine hK.out _ _ HT2.out.box (fun hHeld => ?_)
            clear hK K HAp
            simp only [Act.put, List.setIfInBounds_toArray, List.set_cons_zero, List.set_cons_succ]
            refine wpAnyH_ready (rs := [15]) (by kernel_rfl) (by simp) ?_
            refine AllReadyH.cons rfl (fun K hK => ?_) (AllReadyH.nil)
            go_simp
            have hba : Below V2.heap.size V2 (V2.alloc (.cells #[.int .i64 ((p : Int) + 1)] 3)) := (Below.refl _ V2).alloc (Nat.le_refl _) _
            have HT3 := hid (HT2.out.later hba)
            have HD2_3 := hid (HT2.out.lst.fresh ((p : Int) + 1))
            clear hba
            generalize V2.alloc (.cells #[.int .i64 ((p : Int) + 1)] 3) = V3 at *
            generalize V2.heap.size = D2 at *
            refine hK.out _ _ HT3.out.box (fun hHeld => ?_)
            clear hK K
            refine wpAnyH_ready (rs := [16]) (by kernel_rfl) (by simp) ?_
            refine AllReadyH.cons rfl (fun K hK => ?_) (AllReadyH.nil)
            have hLq : (l0.set p (putL l0[p] ((q : Int) + 1) (.slice o5 (n1 + 1) c5) true))[q]'(by simpa using hql) = l0[q] := List.getElem_set_ne hpq _
            obtain ⟨o6, c6, V4, hap, hT, hd⟩ := HT3.out.put q (by simpa using hql) false _ D2 HD2_3.out (by rw [hLq]; exact hb3)
            have HT4 := hid hT
            have hs1 : side l0[q] false = .slice o3 n3 c3 := HV3.out
            have hn1 : (numsOf l0[q] false).length = n3 := HN3.out
            simp only [hLq, hs1, hn1] at hap HT4
            have HAp := hid hap
            clear hap hT hd hs1 hn1 hLq
            refine step_appendA _ rfl (.tmp 51) (.tmp 53) 23 23 rfl _ _ rfl rfl _ _ HAp.out (some 54) rfl ?_
            refine hK.out _ _ HT4.out.box (fun hHeld => ?_)
            clear hK K HAp
            simp only [Act.put, List.setIfInBounds_toArray, List.set_cons_zero, List.set_cons_succ]
            obtain ⟨⟨u1, s1⟩, s2, s3, ⟨u2, s4⟩, s5, s6⟩ := tie_store hpl hql HT4.out (.slice o5 (n1 + 1) c5) (.slice o6 (n3 + 1) c6)
            have hfin := tie_done (w0 := w0) hpl hql hpq HT4.out
            have HFin := hid hfin
            have S3 := hid s3
            have S6 := hid s6
            clear hfin s3 s6
            refine wpAnyH_one 17 55 (.pointer (some ⟨g, p * 5, none⟩)) hHeld rfl rfl (by kernel_rfl) (fun _ _ _ _ _ h => h) (by kernel_rfl) (by kernel_rfl) (by rfl) ?_ ?_
            · intro V hSw; (try dsimp only at hSw); go_simp
            simp only [Act.put, List.setIfInBounds_toArray, List.set_cons_zero, List.set_cons_succ]
            refine wpAnyH_one 18 56 (.pointer (some ⟨g, p * 5 + 4, none⟩)) hHeld rfl rfl (by kernel_rfl) (fun _ _ _ _ _ h => h) (by kernel_rfl) (by kernel_rfl) (by rfl) ?_ ?_
            · intro V hSw; (try dsimp only at hSw); go_simp
            simp only [Act.put, List.setIfInBounds_toArray, List.set_cons_zero, List.set_cons_succ]
            refine wpAnyH_ready (rs := [19]) (by kernel_rfl) (by simp) ?_
            refine AllReadyH.cons rfl (fun K hK => ?_) AllReadyH.nil
            go_simp
            refine hK.out _ _ S3.out (fun hHeld => ?_)
            clear hK K
            refine wpAnyH_one 20 57 (.pointer (some ⟨g, q * 5, none⟩)) hHeld rfl rfl (by kernel_rfl) (fun _ _ _ _ _ h => h) (by kernel_rfl) (by kernel_rfl) (by rfl) ?_ ?_
            · intro V hSw; (try dsimp only at hSw); go_simp
            simp only [Act.put, List.setIfInBounds_toArray, List.set_cons_zero, List.set_cons_succ]
            refine wpAnyH_one 21 58 (.pointer (some ⟨g, q * 5 + 3, none⟩)) hHeld rfl rfl (by kernel_rfl) (fun _ _ _ _ _ h => h) (by kernel_rfl) (by kernel_rfl) (by rfl) ?_ ?_
            · intro V hSw; (try dsimp only at hSw); go_simp
            simp only [Act.put, List.setIfInBounds_toArray, List.set_cons_zero, List.set_cons_succ]
            refine wpAnyH_ready (rs := [22]) (by kernel_rfl) (by simp) ?_
            refine AllReadyH.cons rfl (fun K hK => ?_) AllReadyH.nil
            go_simp
            refine hK.out _ _ S6.out (fun hHeld => ?_)
            clear hK K
            refine wpAnyH_done (by kernel_rfl) ?_ _
            go_wp2
            (try simp only [Exit.inBlock, Exit.then])
            refine bodyPost_end (results_none rfl _ _ _) rfl ?_
            exact ⟨rfl, HRet.out _ _ _ HFin.out⟩
          · go_simp
            have hba : Below V1.heap.size V1 (V1.alloc (.cells #[.int .i64 ((p : Int) + 1)] 3)) := (Below.refl _ V1).alloc (Nat.le_refl _) _
            have HT2 := hid (HT1.out.later hba)
            have HD2_2 := hid (HT1.out.lst.fresh ((p : Int) + 1))
            have HD1_2 := hid (HD1_1.out.later hba)
            clear hba
            generalize V1.alloc (.cells #[.int .i64 ((p : Int) + 1)] 3) = V2 at *
            generalize V1.heap.size = D2 at *
            refine hK.out _ _ HT2.out.box (fun hHeld => ?_)
            clear hK K
            refine wpAnyH_ready (rs := [9]) (by kernel_rfl) (by simp) ?_
            refine AllReadyH.cons rfl (fun K hK => ?_) (AllReadyH.nil)
            obtain ⟨o5, c5, V3, hap, hT, hd⟩ := HT2.out.put p hpl true _ D1 HD1_2.out hb1
            have HT3 := hid hT
            have HD2_3 := hid (hd D2 _ HD2_2.out)
            have hs1 : side l0[p] true = .slice o1 n1 c1 := HV1.out
            have hn1 : (numsOf l0[p] true).length = n1 := HN1.out
            simp only [hs1, hn1] at hap HT3 HD2_3
            have HAp := hid hap
            clear hap hT hd hs1 hn1
            refine step_appendA _ rfl (.tmp 43) (.tmp 46) 23 23 rfl _ _ rfl rfl _ _ HAp.out (some 47) rfl ?_
            refine hK.out _ _ HT3.out.box (fun hHeld => ?_)
            clear hK K HAp
            simp only [Act.put, List.setIfInBounds_toArray, List.set_cons_zero, List.set_cons_succ]
            refine wpAnyH_ready (rs := [16]) (by kernel_rfl) (by simp) ?_
            refine AllReadyH.cons rfl (fun K hK => ?_) (AllReadyH.nil)
            have hLq : (l0.set p (putL l0[p] ((q : Int) + 1) (.slice o5 (n1 + 1) c5) true))[q]'(by simpa using hql) = l0[q] := List.getElem_set_ne hpq _
            obtain ⟨o6, c6, V4, hap, hT, hd⟩ := HT3.out.put q (by simpa using hql) false _ D2 HD2_3.out (by rw [hLq]; exact hb3)
            have HT4 := hid hT
            have hs1 : side l0[q] false = .slice o3 n3 c3 := HV3.out
            have hn1 : (numsOf l0[q] false).length = n3 := HN3.out
            simp only [hLq, hs1, hn1] at hap HT4
            have HAp := hid hap
            clear hap hT hd hs1 hn1 hLq
            refine step_appendA _ rfl (.tmp 51) (.tmp 53) 23 23 rfl _ _ rfl rfl _ _ HAp.out (some 54) rfl ?_
            refine hK.out _ _ HT4.out.box (fun hHeld => ?_)
            clear hK K HAp
            simp only [Act.put, List.setIfInBounds_toArray, List.set_cons_zero, List.set_cons_succ]
            obtain ⟨⟨u1, s1⟩, s2, s3, ⟨u2, s4⟩, s5, s6⟩ := tie_store hpl hql HT4.out (.slice o5 (n1 + 1) c5) (.slice o6 (n3 + 1) c6)
            have hfin := tie_done (w0 := w0) hpl hql hpq HT4.out
            have HFin := hid hfin
            have S3 := hid s3
            have S6 := hid s6
            clear hfin s3 s6
            refine wpAnyH_one 17 55 (.pointer (some ⟨g, p * 5, none⟩)) hHeld rfl rfl (by kernel_rfl) (fun _ _ _ _ _ h => h) (by kernel_rfl) (by kernel_rfl) (by rfl) ?_ ?_
            · intro V hSw; (try dsimp only at hSw); go_simp
            simp only [Act.put, List.setIfInBounds_toArray, List.set_cons_zero, List.set_cons_succ]
            refine wpAnyH_one 18 56 (.pointer (some ⟨g, p * 5 + 4, none⟩)) hHeld rfl rfl (by kernel_rfl) (fun _ _ _ _ _ h => h) (by kernel_rfl) (by kernel_rfl) (by rfl) ?_ ?_
            · intro V hSw; (try dsimp only at hSw); go_simp
            simp only [Act.put, List.setIfInBounds_toArray, List.set_cons_zero, List.set_cons_succ]
            refine wpAnyH_ready (rs := [19]) (by kernel_rfl) (by simp) ?_
            refine AllReadyH.cons rfl (fun K hK => ?_) AllReadyH.nil
            go_simp
            refine hK.out _ _ S3.out (fun hHeld => ?_)
            clear hK K
            refine wpAnyH_one 20 57 (.pointer (some ⟨g, q * 5, none⟩)) hHeld rfl rfl (by kernel_rfl) (fun _ _ _ _ _ h => h) (by kernel_rfl) (by kernel_rfl) (by rfl) ?_ ?_
            · intro V hSw; (try dsimp only at hSw); go_simp
            simp only [Act.put, List.setIfInBounds_toArray, List.set_cons_zero, List.set_cons_succ]
            refine wpAnyH_one 21 58 (.pointer (some ⟨g, q * 5 + 3, none⟩)) hHeld rfl rfl (by kernel_rfl) (fun _ _ _ _ _ h => h) (by kernel_rfl) (by kernel_rfl) (by rfl) ?_ ?_
            · intro V hSw; (try dsimp only at hSw); go_simp
            simp only [Act.put, List.setIfInBounds_toArray, List.set_cons_zero, List.set_cons_succ]
            refine wpAnyH_ready (rs := [22]) (by kernel_rfl) (by simp) ?_
            refine AllReadyH.cons rfl (fun K hK => ?_) AllReadyH.nil
            go_simp
            refine hK.out _ _ S6.out (fun hHeld => ?_)
            clear hK K
            refine wpAnyH_done (by kernel_rfl) ?_ _
            go_wp2
            (try simp only [Exit.inBlock, Exit.then])
            refine bodyPost_end (results_none rfl _ _ _) rfl ?_
            exact ⟨rfl, HRet.out _ _ _ HFin.out⟩
        · go_simp
          have hba : Below V1.heap.size V1 (V1.alloc (.cells #[.int .i64 ((p : Int) + 1)] 3)) := (Below.refl _ V1).alloc (Nat.le_refl _) _
          have HT2 := hid (HT1.out.later hba)
          have HD2_2 := hid (HT1.out.lst.fresh ((p : Int) + 1))
          have HD1_2 := hid (HD1_1.out.later hba)
          clear hba
          generalize V1.alloc (.cells #[.int .i64 ((p : Int) + 1)] 3) = V2 at *
          generalize V1.heap.size = D2 at *
          refine hK.out _ _ HT2.out.box (fun hHeld => ?_)
          clear hK K
          refine wpAnyH_ready (rs := [9, 13]) (by kernel_rfl) (by simp) ?_
          refine AllReadyH.cons rfl (fun K hK => ?_) (AllReadyH.cons rfl (fun K hK => ?_) (AllReadyH.nil))
          · obtain ⟨o5, c5, V3, hap, hT, hd⟩ := HT2.out.put p hpl true _ D1 HD1_2.out hb1
            have HT3 := hid hT
            have HD2_3 := hid (hd D2 _ HD2_2.out)
            have hs1 : side l0[p] true = .slice o1 n1 c1 := HV1.out
            have hn1 : (numsOf l0[p] true).length = n1 := HN1.out
            simp only [hs1, hn1] at hap HT3 HD2_3
            have HAp := hid hap
            clear hap hT hd hs1 hn1
            refine step_appendA _ rfl (.tmp 43) (.tmp 46) 23 23 rfl _ _ rfl rfl _ _ HAp.out (some 47) rfl ?_
            refine hK.out _ _ HT3.out.box (fun hHeld => ?_)
            clear hK K HAp
            simp only [Act.put, List.setIfInBounds_toArray, List.set_cons_zero, List.set_cons_succ]
            refine wpAnyH_ready (rs := [13]) (by kernel_rfl) (by simp) ?_
            refine AllReadyH.cons rfl (fun K hK => ?_) (AllReadyH.nil)
            have cA := (HT3.out.cell q hql 3  (by decide) (.slice o3 n3 c3) (by show some _ = _; exact congrArg some HV3.out)).1
            go_simp
            refine hK.out _ _ HT3.out.box (fun hHeld => ?_)
            clear hK K cA
            refine wpAnyH_ready (rs := [16]) (by kernel_rfl) (by simp) ?_
            refine AllReadyH.cons rfl (fun K hK => ?_) (AllReadyH.nil)
            have hLq : (l0.set p (putL l0[p] ((q : Int) + 1) (.slice o5 (n1 + 1) c5) true))[q]'(by simpa using hql) = l0[q] := List.getElem_set_ne hpq _
            obtain ⟨o6, c6, V4, hap, hT, hd⟩ := HT3.out.put q (by simpa using hql) false _ D2 HD2_3.out (by rw [hLq]; exact hb3)
            have HT4 := hid hT
            have hs1 : side l0[q] false = .slice o3 n3 c3 := HV3.out
            have hn1 : (numsOf l0[q] false).length = n3 := HN3.out
            simp only [hLq, hs1, hn1] at hap HT4
            have HAp := hid hap
            clear hap hT hd hs1 hn1 hLq
            refine step_appendA _ rfl (.tmp 51) (.tmp 53) 23 23 rfl _ _ rfl rfl _ _ HAp.out (some 54) rfl ?_
            refine hK.out _ _ HT4.out.box (fun hHeld => ?_)
            clear hK K HAp
            simp only [Act.put, List.setIfInBounds_toArray, List.set_cons_zero, List.set_cons_succ]
            obtain ⟨⟨u1, s1⟩, s2, s3, ⟨u2, s4⟩, s5, s6⟩ := tie_store hpl hql HT4.out (.slice o5 (n1 + 1) c5) (.slice o6 (n3 + 1) c6)
            have hfin := tie_done (w0 := w0) hpl hql hpq HT4.out
            have HFin := hid hfin
            have S3 := hid s3
            have S6 := hid s6
            clear hfin s3 s6
            refine wpAnyH_one 17 55 (.pointer (some ⟨g, p * 5, none⟩)) hHeld rfl rfl (by kernel_rfl) (fun _ _ _ _ _ h => h) (by kernel_rfl) (by kernel_rfl) (by rfl) ?_ ?_
            · intro V hSw; (try dsimp only at hSw); go_simp
            simp only [Act.put, List.setIfInBounds_toArray, List.set_cons_zero, List.set_cons_succ]
            refine wpAnyH_one 18 56 (.pointer (some ⟨g, p * 5 + 4, none⟩)) hHeld rfl rfl (by kernel_rfl) (fun _ _ _ _ _ h => h) (by kernel_rfl) (by kernel_rfl) (by rfl) ?_ ?_
            · intro V hSw; (try dsimp only at hSw); go_simp
            simp only [Act.put, List.setIfInBounds_toArray, List.set_cons_zero, List.set_cons_succ]
            refine wpAnyH_ready (rs := [19]) (by kernel_rfl) (by simp) ?_
            refine AllReadyH.cons rfl (fun K hK => ?_) AllReadyH.nil
            go_simp
            refine hK.out _ _ S3.out (fun hHeld => ?_)
            clear hK K
            refine wpAnyH_one 20 57 (.pointer (some ⟨g, q * 5, none⟩)) hHeld rfl rfl (by kernel_rfl) (fun _ _ _ _ _ h => h) (by kernel_rfl) (by kernel_rfl) (by rfl) ?_ ?_
            · intro V hSw; (try dsimp only at hSw); go_simp
            simp only [Act.put, List.setIfInBounds_toArray, List.set_cons_zero, List.set_cons_succ]
            refine wpAnyH_one 21 58 (.pointer (some ⟨g, q * 5 + 3, none⟩)) hHeld rfl rfl (by kernel_rfl) (fun _ _ _ _ _ h => h) (by kernel_rfl) (by kernel_rfl) (by rfl) ?_ ?_
            · intro V hSw; (try dsimp only at hSw); go_simp
            simp only [Act.put, List.setIfInBounds_toArray, List.set_cons_zero, List.set_cons_succ]
            refine wpAnyH_ready (rs := [22]) (by kernel_rfl) (by simp) ?_
            refine AllReadyH.cons rfl (fun K hK => ?_) AllReadyH.nil
            go_simp
            refine hK.out _ _ S6.out (fun hHeld => ?_)
            clear hK K
            refine wpAnyH_done (by kernel_rfl) ?_ _
            go_wp2
            (try simp only [Exit.inBlock, Exit.then])
            refine bodyPost_end (results_none rfl _ _ _) rfl ?_
            exact ⟨rfl, HRet.out _ _ _ HFin.out⟩
          · have cA := (HT2.out.cell q hql 3  (by decide) (.slice o3 n3 c3) (by show some _ = _; exact congrArg some HV3.out)).1
            go_simp
            refine hK.out _ _ HT2.out.box (fun hHeld => ?_)
            clear hK K cA
            refine wpAnyH_ready (rs := [9]) (by kernel_rfl) (by simp) ?_
            refine AllReadyH.cons rfl (fun K hK => ?_) (AllReadyH.nil)
            obtain ⟨o5, c5, V3, hap, hT, hd⟩ := HT2.out.put p hpl true _ D1 HD1_2.out hb1
            have HT3 := hid hT
            have HD2_3 := hid (hd D2 _ HD2_2.out)
            have hs1 : side l0[p] true = .slice o1 n1 c1 := HV1.out
            have hn1 : (numsOf l0[p] true).length = n1 := HN1.out
            simp only [hs1, hn1] at hap HT3 HD2_3
            have HAp := hid hap
            clear hap hT hd hs1 hn1
            refine step_appendA _ rfl (.tmp 43) (.tmp 46) 23 23 rfl _ _ rfl rfl _ _ HAp.out (some 47) rfl ?_
            refine hK.out _ _ HT3.out.box (fun hHeld => ?_)
            clear hK K HAp
            simp only [Act.put, List.setIfInBounds_toArray, List.set_cons_zero, List.set_cons_succ]
            refine wpAnyH_ready (rs := [16]) (by kernel_rfl) (by simp) ?_
            refine AllReadyH.cons rfl (fun K hK => ?_) (AllReadyH.nil)
            have hLq : (l0.set p (putL l0[p] ((q : Int) + 1) (.slice o5 (n1 + 1) c5) true))[q]'(by simpa using hql) = l0[q] := List.getElem_set_ne hpq _
            obtain ⟨o6, c6, V4, hap, hT, hd⟩ := HT3.out.put q (by simpa using hql) false _ D2 HD2_3.out (by rw [hLq]; exact hb3)
            have HT4 := hid hT
            have hs1 : side l0[q] false = .slice o3 n3 c3 := HV3.out
            have hn1 : (numsOf l0[q] false).length = n3 := HN3.out
            simp only [hLq, hs1, hn1] at hap HT4
            have HAp := hid hap
            clear hap hT hd hs1 hn1 hLq
            refine step_appendA _ rfl (.tmp 51) (.tmp 53) 23 23 rfl _ _ rfl rfl _ _ HAp.out (some 54) rfl ?_
            refine hK.out _ _ HT4.out.box (fun hHeld => ?_)
            clear hK K HAp
            simp only [Act.put, List.setIfInBounds_toArray, List.set_cons_zero, List.set_cons_succ]
            obtain ⟨⟨u1, s1⟩, s2, s3, ⟨u2, s4⟩, s5, s6⟩ := tie_store hpl hql HT4.out (.slice o5 (n1 + 1) c5) (.slice o6 (n3 + 1) c6)
            have hfin := tie_done (w0 := w0) hpl hql hpq HT4.out
            have HFin := hid hfin
            have S3 := hid s3
            have S6 := hid s6
            clear hfin s3 s6
            refine wpAnyH_one 17 55 (.pointer (some ⟨g, p * 5, none⟩)) hHeld rfl rfl (by kernel_rfl) (fun _ _ _ _ _ h => h) (by kernel_rfl) (by kernel_rfl) (by rfl) ?_ ?_
            · intro V hSw; (try dsimp only at hSw); go_simp
            simp only [Act.put, List.setIfInBounds_toArray, List.set_cons_zero, List.set_cons_succ]
            refine wpAnyH_one 18 56 (.pointer (some ⟨g, p * 5 + 4, none⟩)) hHeld rfl rfl (by kernel_rfl) (fun _ _ _ _ _ h => h) (by kernel_rfl) (by kernel_rfl) (by rfl) ?_ ?_
            · intro V hSw; (try dsimp only at hSw); go_simp
            simp only [Act.put, List.setIfInBounds_toArray, List.set_cons_zero, List.set_cons_succ]
            refine wpAnyH_ready (rs := [19]) (by kernel_rfl) (by simp) ?_
            refine AllReadyH.cons rfl (fun K hK => ?_) AllReadyH.nil
            go_simp
            refine hK.out _ _ S3.out (fun hHeld => ?_)
            clear hK K
            refine wpAnyH_one 20 57 (.pointer (some ⟨g, q * 5, none⟩)) hHeld rfl rfl (by kernel_rfl) (fun _ _ _ _ _ h => h) (by kernel_rfl) (by kernel_rfl) (by rfl) ?_ ?_
            · intro V hSw; (try dsimp only at hSw); go_simp
            simp only [Act.put, List.setIfInBounds_toArray, List.set_cons_zero, List.set_cons_succ]
            refine wpAnyH_one 21 58 (.pointer (some ⟨g, q * 5 + 3, none⟩)) hHeld rfl rfl (by kernel_rfl) (fun _ _ _ _ _ h => h) (by kernel_rfl) (by kernel_rfl) (by rfl) ?_ ?_
            · intro V hSw; (try dsimp only at hSw); go_simp
            simp only [Act.put, List.setIfInBounds_toArray, List.set_cons_zero, List.set_cons_succ]
            refine wpAnyH_ready (rs := [22]) (by kernel_rfl) (by simp) ?_
            refine AllReadyH.cons rfl (fun K hK => ?_) AllReadyH.nil
            go_simp
            refine hK.out _ _ S6.out (fun hHeld => ?_)
            clear hK K
            refine wpAnyH_done (by kernel_rfl) ?_ _
            go_wp2
            (try simp only [Exit.inBlock, Exit.then])
            refine bodyPost_end (results_none rfl _ _ _) rfl ?_
            exact ⟨rfl, HRet.out _ _ _ HFin.out⟩
      · have cA := (HT0.out.cell q hql 3  (by decide) (.slice o3 n3 c3) (by show some _ = _; exact congrArg some HV3.out)).1
        go_simp
        refine hK.out _ _ HT0.out.box (fun hHeld => ?_)
        clear hK K cA
        refine wpAnyH_ready (rs := [8, 15]) (by kernel_rfl) (by simp) ?_
        refine AllReadyH.cons rfl (fun K hK => ?_) (AllReadyH.cons rfl (fun K hK => ?_) (AllReadyH.nil))
        · go_simp
          have hba : Below V0.heap.size V0 (V0.alloc (.cells #[.int .i64 ((q : Int) + 1)] 3)) := (Below.refl _ V0).alloc (Nat.le_refl _) _
          have HT1 := hid (HT0.out.later hba)
          have HD1_1 := hid (HT0.out.lst.fresh ((q : Int) + 1))
          clear hba
          generalize V0.alloc (.cells #[.int .i64 ((q : Int) + 1)] 3) = V1 at *
          generalize V0.heap.size = D1 at *
          refine hK.out _ _ HT1.out.box (fun hHeld => ?_)
          clear hK K
          refine wpAnyH_ready (rs := [9, 15]) (by kernel_rfl) (by simp) ?_
          refine AllReadyH.cons rfl (fun K hK => ?_) (AllReadyH.cons rfl (fun K hK => ?_) (AllReadyH.nil))
          · obtain ⟨o5, c5, V2, hap, hT, hd⟩ := HT1.out.put p hpl true _ D1 HD1_1.out hb1
            have HT2 := hid hT
            have hs1 : side l0[p] true = .slice o1 n1 c1 := HV1.out
            have hn1 : (numsOf l0[p] true).length = n1 := HN1.out
            simp only [hs1, hn1] at hap HT2
            have HAp := hid hap
            clear hap hT hd hs1 hn1
            refine step_appendA _ rfl (.tmp 43) (.tmp 46) 23 23 rfl _ _ rfl rfl _ _ HAp.out (some 47) rfl ?_
            refine hK.out _ _ HT2.out.box (fun hHeld => ?_)
            clear hK K HAp
            simp only [Act.put, List.setIfInBounds_toArray, List.set_cons_zero, List.set_cons_succ]
            refine wpAnyH_ready (rs := [15]) (by kernel_rfl) (by simp) ?_
            refine AllReadyH.cons rfl (fun K hK => ?_) (AllReadyH.nil)
            go_simp
            have hba : Below V2.heap.size V2 (V2.alloc (.cells #[.int .i64 ((p : Int) + 1)] 3)) := (Below.refl _ V2).alloc (Nat.le_refl _) _
            have HT3 := hid (HT2.out.later hba)
            have HD2_3 := hid (HT2.out.lst.fresh ((p : Int) + 1))
            clear hba
            generalize V2.alloc (.cells #[.int .i64 ((p : Int) + 1)] 3) = V3 at *
            generalize V2.heap.size = D2 at *
            refine hK.out _ _ HT3.out.box (fun hHeld => ?_)
            clear hK K
            refine wpAnyH_ready (rs := [16]) (by kernel_rfl) (by simp) ?_
            refine AllReadyH.cons rfl (fun K hK => ?_) (AllReadyH.nil)
            have hLq : (l0.set p (putL l0[p] ((q : Int) + 1) (.slice o5 (n1 + 1) c5) true))[q]'(by simpa using hql) = l0[q] := List.getElem_set_ne hpq _
            obtain ⟨o6, c6, V4, hap, hT, hd⟩ := HT3.out.put q (by simpa using hql) false _ D2 HD2_3.out (by rw [hLq]; exact hb3)
            have HT4 := hid hT
            have hs1 : side l0[q] false = .slice o3 n3 c3 := HV3.out
            have hn1 : (numsOf l0[q] false).length = n3 := HN3.out
            simp only [hLq, hs1, hn1] at hap HT4
            have HAp := hid hap
            clear hap hT hd hs1 hn1 hLq
            refine step_appendA _ rfl (.tmp 51) (.tmp 53) 23 23 rfl _ _ rfl rfl _ _ HAp.out (some 54) rfl ?_
            refine hK.out _ _ HT4.out.box (fun hHeld => ?_)
            clear hK K HAp
            simp only [Act.put, List.setIfInBounds_toArray, List.set_cons_zero, List.set_cons_succ]
            obtain ⟨⟨u1, s1⟩, s2, s3, ⟨u2, s4⟩, s5, s6⟩ := tie_store hpl hql HT4.out (.slice o5 (n1 + 1) c5) (.slice o6 (n3 + 1) c6)
            have hfin := tie_done (w0 := w0) hpl hql hpq HT4.out
            have HFin := hid hfin
            have S3 := hid s3
            have S6 := hid s6
            clear hfin s3 s6
            refine wpAnyH_one 17 55 (.pointer (some ⟨g, p * 5, none⟩)) hHeld rfl rfl (by kernel_rfl) (fun _ _ _ _ _ h => h) (by kernel_rfl) (by kernel_rfl) (by rfl) ?_ ?_
            · intro V hSw; (try dsimp only at hSw); go_simp
            simp only [Act.put, List.setIfInBounds_toArray, List.set_cons_zero, List.set_cons_succ]
            refine wpAnyH_one 18 56 (.pointer (some ⟨g, p * 5 + 4, none⟩)) hHeld rfl rfl (by kernel_rfl) (fun _ _ _ _ _ h => h) (by kernel_rfl) (by kernel_rfl) (by rfl) ?_ ?_
            · intro V hSw; (try dsimp only at hSw); go_simp
            simp only [Act.put, List.setIfInBounds_toArray, List.set_cons_zero, List.set_cons_succ]
            refine wpAnyH_ready (rs := [19]) (by kernel_rfl) (by simp) ?_
            refine AllReadyH.cons rfl (fun K hK => ?_) AllReadyH.nil
            go_simp
            refine hK.out _ _ S3.out (fun hHeld => ?_)
            clear hK K
            refine wpAnyH_one 20 57 (.pointer (some ⟨g, q * 5, none⟩)) hHeld rfl rfl (by kernel_rfl) (fun _ _ _ _ _ h => h) (by kernel_rfl) (by kernel_rfl) (by rfl) ?_ ?_
            · intro V hSw; (try dsimp only at hSw); go_simp
            simp only [Act.put, List.setIfInBounds_toArray, List.set_cons_zero, List.set_cons_succ]
            refine wpAnyH_one 21 58 (.pointer (some ⟨g, q * 5 + 3, none⟩)) hHeld rfl rfl (by kernel_rfl) (fun _ _ _ _ _ h => h) (by kernel_rfl) (by kernel_rfl) (by rfl) ?_ ?_
            · intro V hSw; (try dsimp only at hSw); go_simp
            simp only [Act.put, List.setIfInBounds_toArray, List.set_cons_zero, List.set_cons_succ]
            refine wpAnyH_ready (rs := [22]) (by kernel_rfl) (by simp) ?_
            refine AllReadyH.cons rfl (fun K hK => ?_) AllReadyH.nil
            go_simp
            refine hK.out _ _ S6.out (fun hHeld => ?_)
            clear hK K
            refine wpAnyH_done (by kernel_rfl) ?_ _
            go_wp2
            (try simp only [Exit.inBlock, Exit.then])
            refine bodyPost_end (results_none rfl _ _ _) rfl ?_
            exact ⟨rfl, HRet.out _ _ _ HFin.out⟩
          · go_simp
            have hba : Below V1.heap.size V1 (V1.alloc (.cells #[.int .i64 ((p : Int) + 1)] 3)) := (Below.refl _ V1).alloc (Nat.le_refl _) _
            have HT2 := hid (HT1.out.later hba)
            have HD2_2 := hid (HT1.out.lst.fresh ((p : Int) + 1))
            have HD1_2 := hid (HD1_1.out.later hba)
            clear hba
            generalize V1.alloc (.cells #[.int .i64 ((p : Int) + 1)] 3) = V2 at *
            generalize V1.heap.size = D2 at *
            refine hK.out _ _ HT2.out.box (fun hHeld => ?_)
            clear hK K
            refine wpAnyH_ready (rs := [9]) (by kernel_rfl) (by simp) ?_
            refine AllReadyH.cons rfl (fun K hK => ?_) (AllReadyH.nil)
            obtain ⟨o5, c5, V3, hap, hT, hd⟩ := HT2.out.put p hpl true _ D1 HD1_2.out hb1
            have HT3 := hid hT
            have HD2_3 := hid (hd D2 _ HD2_2.out)
            have hs1 : side l0[p] true = .slice o1 n1 c1 := HV1.out
            have hn1 : (numsOf l0[p] true).length = n1 := HN1.out
            simp only [hs1, hn1] at hap HT3 HD2_3
            have HAp := hid hap
            clear hap hT hd hs1 hn1
            refine step_appendA _ rfl (.tmp 43) (.tmp 46) 23 23 rfl _ _ rfl rfl _ _ HAp.out (some 47) rfl ?_
            refine hK.out _ _ HT3.out.box (fun hHeld => ?_)
            clear hK K HAp
            simp only [Act.put, List.setIfInBounds_toArray, List.set_cons_zero, List.set_cons_succ]
            refine wpAnyH_ready (rs := [16]) (by kernel_rfl) (by simp) ?_
            refine AllReadyH.cons rfl (fun K hK => ?_) (AllReadyH.nil)
            have hLq : (l0.set p (putL l0[p] ((q : Int) + 1) (.slice o5 (n1 + 1) c5) true))[q]'(by simpa using hql) = l0[q] := List.getElem_set_ne hpq _
            obtain ⟨o6, c6, V4, hap, hT, hd⟩ := HT3.out.put q (by simpa using hql) false _ D2 HD2_3.out (by rw [hLq]; exact hb3)
            have HT4 := hid hT
            have hs1 : side l0[q] false = .slice o3 n3 c3 := HV3.out
            have hn1 : (numsOf l0[q] false).length = n3 := HN3.out
            simp only [hLq, hs1, hn1] at hap HT4
            have HAp := hid hap
            clear hap hT hd hs1 hn1 hLq
            refine step_appendA _ rfl (.tmp 51) (.tmp 53) 23 23 rfl _ _ rfl rfl _ _ HAp.out (some 54) rfl ?_
            refine hK.out _ _ HT4.out.box (fun hHeld => ?_)
            clear hK K HAp
            simp only [Act.put, List.setIfInBounds_toArray, List.set_cons_zero, List.set_cons_succ]
            obtain ⟨⟨u1, s1⟩, s2, s3, ⟨u2, s4⟩, s5, s6⟩ := tie_store hpl hql HT4.out (.slice o5 (n1 + 1) c5) (.slice o6 (n3 + 1) c6)
            have hfin := tie_done (w0 := w0) hpl hql hpq HT4.out
            have HFin := hid hfin
            have S3 := hid s3
            have S6 := hid s6
            clear hfin s3 s6
            refine wpAnyH_one 17 55 (.pointer (some ⟨g, p * 5, none⟩)) hHeld rfl rfl (by kernel_rfl) (fun _ _ _ _ _ h => h) (by kernel_rfl) (by kernel_rfl) (by rfl) ?_ ?_
            · intro V hSw; (try dsimp only at hSw); go_simp
            simp only [Act.put, List.setIfInBounds_toArray, List.set_cons_zero, List.set_cons_succ]
            refine wpAnyH_one 18 56 (.pointer (some ⟨g, p * 5 + 4, none⟩)) hHeld rfl rfl (by kernel_rfl) (fun _ _ _ _ _ h => h) (by kernel_rfl) (by kernel_rfl) (by rfl) ?_ ?_
            · intro V hSw; (try dsimp only at hSw); go_simp
            simp only [Act.put, List.setIfInBounds_toArray, List.set_cons_zero, List.set_cons_succ]
            refine wpAnyH_ready (rs := [19]) (by kernel_rfl) (by simp) ?_
            refine AllReadyH.cons rfl (fun K hK => ?_) AllReadyH.nil
            go_simp
            refine hK.out _ _ S3.out (fun hHeld => ?_)
            clear hK K
            refine wpAnyH_one 20 57 (.pointer (some ⟨g, q * 5, none⟩)) hHeld rfl rfl (by kernel_rfl) (fun _ _ _ _ _ h => h) (by kernel_rfl) (by kernel_rfl) (by rfl) ?_ ?_
            · intro V hSw; (try dsimp only at hSw); go_simp
            simp only [Act.put, List.setIfInBounds_toArray, List.set_cons_zero, List.set_cons_succ]
            refine wpAnyH_one 21 58 (.pointer (some ⟨g, q * 5 + 3, none⟩)) hHeld rfl rfl (by kernel_rfl) (fun _ _ _ _ _ h => h) (by kernel_rfl) (by kernel_rfl) (by rfl) ?_ ?_
            · intro V hSw; (try dsimp only at hSw); go_simp
            simp only [Act.put, List.setIfInBounds_toArray, List.set_cons_zero, List.set_cons_succ]
            refine wpAnyH_ready (rs := [22]) (by kernel_rfl) (by simp) ?_
            refine AllReadyH.cons rfl (fun K hK => ?_) AllReadyH.nil
            go_simp
            refine hK.out _ _ S6.out (fun hHeld => ?_)
            clear hK K
            refine wpAnyH_done (by kernel_rfl) ?_ _
            go_wp2
            (try simp only [Exit.inBlock, Exit.then])
            refine bodyPost_end (results_none rfl _ _ _) rfl ?_
            exact ⟨rfl, HRet.out _ _ _ HFin.out⟩
        · go_simp
          have hba : Below V0.heap.size V0 (V0.alloc (.cells #[.int .i64 ((p : Int) + 1)] 3)) := (Below.refl _ V0).alloc (Nat.le_refl _) _
          have HT1 := hid (HT0.out.later hba)
          have HD2_1 := hid (HT0.out.lst.fresh ((p : Int) + 1))
          clear hba
          generalize V0.alloc (.cells #[.int .i64 ((p : Int) + 1)] 3) = V1 at *
          generalize V0.heap.size = D2 at *
          refine hK.out _ _ HT1.out.box (fun hHeld => ?_)
          clear hK K
          refine wpAnyH_ready (rs := [8]) (by kernel_rfl) (by simp) ?_
          refine AllReadyH.cons rfl (fun K hK => ?_) (AllReadyH.nil)
          go_simp
          have hba : Below V1.heap.size V1 (V1.alloc (.cells #[.int .i64 ((q : Int) + 1)] 3)) := (Below.refl _ V1).alloc (Nat.le_refl _) _
          have HT2 := hid (HT1.out.later hba)
          have HD1_2 := hid (HT1.out.lst.fresh ((q : Int) + 1))
          have HD2_2 := hid (HD2_1.out.later hba)
          clear hba
          generalize V1.alloc (.cells #[.int .i64 ((q : Int) + 1)] 3) = V2 at *
          generalize V1.heap.size = D1 at *
          refine hK.out _ _ HT2.out.box (fun hHeld => ?_)
          clear hK K
          refine wpAnyH_ready (rs := [9]) (by kernel_rfl) (by simp) ?_
          refine AllReadyH.cons rfl (fun K hK => ?_) (AllReadyH.nil)
          obtain ⟨o5, c5, V3, hap, hT, hd⟩ := HT2.out.put p hpl true _ D1 HD1_2.out hb1
          have HT3 := hid hT
          have HD2_3 := hid (hd D2 _ HD2_2.out)
          have hs1 : side l0[p] true = .slice o1 n1 c1 := HV1.out
          have hn1 : (numsOf l0[p] true).length = n1 := HN1.out
          simp only [hs1, hn1] at hap HT3 HD2_3
          have HAp := hid hap
          clear hap hT hd hs1 hn1
          refine step_appendA _ rfl (.tmp 43) (.tmp 46) 23 23 rfl _ _ rfl rfl _ _ HAp.out (some 47) rfl ?_
          refine hK.out _ _ HT3.out.box (fun hHeld => ?_)
          clear hK K HAp
          simp only [Act.put, List.setIfInBounds_toArray, List.set_cons_zero, List.set_cons_succ]
          refine wpAnyH_ready (rs := [16]) (by kernel_rfl) (by simp) ?_
          refine AllReadyH.cons rfl (fun K hK => ?_) (AllReadyH.nil)
          have hLq : (l0.set p (putL l0[p] ((q : Int) + 1) (.slice o5 (n1 + 1) c5) true))[q]'(by simpa using hql) = l0[q] := List.getElem_set_ne hpq _
          obtain ⟨o6, c6, V4, hap, hT, hd⟩ := HT3.out.put q (by simpa using hql) false _ D2 HD2_3.out (by rw [hLq]; exact hb3)
          have HT4 := hid hT
          have hs1 : side l0[q] false = .slice o3 n3 c3 := HV3.out
          have hn1 : (numsOf l0[q] false).length = n3 := HN3.out
          simp only [hLq, hs1, hn1] at hap HT4
          have HAp := hid hap
          clear hap hT hd hs1 hn1 hLq
          refine step_appendA _ rfl (.tmp 51) (.tmp 53) 23 23 rfl _ _ rfl rfl _ _ HAp.out (some 54) rfl ?_
          refine hK.out _ _ HT4.out.box (fun hHeld => ?_)
          clear hK K HAp
          simp only [Act.put, List.setIfInBounds_toArray, List.set_cons_zero, List.set_cons_succ]
          obtain ⟨⟨u1, s1⟩, s2, s3, ⟨u2, s4⟩, s5, s6⟩ := tie_store hpl hql HT4.out (.slice o5 (n1 + 1) c5) (.slice o6 (n3 + 1) c6)
          have hfin := tie_done (w0 := w0) hpl hql hpq HT4.out
          have HFin := hid hfin
          have S3 := hid s3
          have S6 := hid s6
          clear hfin s3 s6
          refine wpAnyH_one 17 55 (.pointer (some ⟨g, p * 5, none⟩)) hHeld rfl rfl (by kernel_rfl) (fun _ _ _ _ _ h => h) (by kernel_rfl) (by kernel_rfl) (by rfl) ?_ ?_
          · intro V hSw; (try dsimp only at hSw); go_simp
          simp only [Act.put, List.setIfInBounds_toArray, List.set_cons_zero, List.set_cons_succ]
          refine wpAnyH_one 18 56 (.pointer (some ⟨g, p * 5 + 4, none⟩)) hHeld rfl rfl (by kernel_rfl) (fun _ _ _ _ _ h => h) (by kernel_rfl) (by kernel_rfl) (by rfl) ?_ ?_
          · intro V hSw; (try dsimp only at hSw); go_simp
          simp only [Act.put, List.setIfInBounds_toArray, List.set_cons_zero, List.set_cons_succ]
          refine wpAnyH_ready (rs := [19]) (by kernel_rfl) (by simp) ?_
          refine AllReadyH.cons rfl (fun K hK => ?_) AllReadyH.nil
          go_simp
          refine hK.out _ _ S3.out (fun hHeld => ?_)
          clear hK K
          refine wpAnyH_one 20 57 (.pointer (some ⟨g, q * 5, none⟩)) hHeld rfl rfl (by kernel_rfl) (fun _ _ _ _ _ h => h) (by kernel_rfl) (by kernel_rfl) (by rfl) ?_ ?_
          · intro V hSw; (try dsimp only at hSw); go_simp
          simp only [Act.put, List.setIfInBounds_toArray, List.set_cons_zero, List.set_cons_succ]
          refine wpAnyH_one 21 58 (.pointer (some ⟨g, q * 5 + 3, none⟩)) hHeld rfl rfl (by kernel_rfl) (fun _ _ _ _ _ h => h) (by kernel_rfl) (by kernel_rfl) (by rfl) ?_ ?_
          · intro V hSw; (try dsimp only at hSw); go_simp
          simp only [Act.put, List.setIfInBounds_toArray, List.set_cons_zero, List.set_cons_succ]
          refine wpAnyH_ready (rs := [22]) (by kernel_rfl) (by simp) ?_
          refine AllReadyH.cons rfl (fun K hK => ?_) AllReadyH.nil
          go_simp
          refine hK.out _ _ S6.out (fun hHeld => ?_)
          clear hK K
          refine wpAnyH_done (by kernel_rfl) ?_ _
          go_wp2
          (try simp only [Exit.inBlock, Exit.then])
          refine bodyPost_end (results_none rfl _ _ _) rfl ?_
          exact ⟨rfl, HRet.out _ _ _ HFin.out⟩
      · go_simp
        have hba : Below V0.heap.size V0 (V0.alloc (.cells #[.int .i64 ((p : Int) + 1)] 3)) := (Below.refl _ V0).alloc (Nat.le_refl _) _
        have HT1 := hid (HT0.out.later hba)
        have HD2_1 := hid (HT0.out.lst.fresh ((p : Int) + 1))
        clear hba
        generalize V0.alloc (.cells #[.int .i64 ((p : Int) + 1)] 3) = V1 at *
        generalize V0.heap.size = D2 at *
        refine hK.out _ _ HT1.out.box (fun hHeld => ?_)
        clear hK K
        refine wpAnyH_ready (rs := [8, 13]) (by kernel_rfl) (by simp) ?_
        refine AllReadyH.cons rfl (fun K hK => ?_) (AllReadyH.cons rfl (fun K hK => ?_) (AllReadyH.nil))
        · go_simp
          have hba : Below V1.heap.size V1 (V1.alloc (.cells #[.int .i64 ((q : Int) + 1)] 3)) := (Below.refl _ V1).alloc (Nat.le_refl _) _
          have HT2 := hid (HT1.out.later hba)
          have HD1_2 := hid (HT1.out.lst.fresh ((q : Int) + 1))
          have HD2_2 := hid (HD2_1.out.later hba)
          clear hba
          generalize V1.alloc (.cells #[.int .i64 ((q : Int) + 1)] 3) = V2 at *
          generalize V1.heap.size = D1 at *
          refine hK.out _ _ HT2.out.box (fun hHeld => ?_)
          clear hK K
          refine wpAnyH_ready (rs := [9, 13]) (by kernel_rfl) (by simp) ?_
          refine AllReadyH.cons rfl (fun K hK => ?_) (AllReadyH.cons rfl (fun K hK => ?_) (AllReadyH.nil))
          · obtain ⟨o5, c5, V3, hap, hT, hd⟩ := HT2.out.put p hpl true _ D1 HD1_2.out hb1
            have HT3 := hid hT
            have HD2_3 := hid (hd D2 _ HD2_2.out)
            have hs1 : side l0[p] true = .slice o1 n1 c1 := HV1.out
            have hn1 : (numsOf l0[p] true).length = n1 := HN1.out
            simp only [hs1, hn1] at hap HT3 HD2_3
            have HAp := hid hap
            clear hap hT hd hs1 hn1
            refine step_appendA _ rfl (.tmp 43) (.tmp 46) 23 23 rfl _ _ rfl rfl _ _ HAp.out (some 47) rfl ?_
            refine hK.out _ _ HT3.out.box (fun hHeld => ?_)
            clear hK K HAp
            simp only [Act.put, List.setIfInBounds_toArray, List.set_cons_zero, List.set_cons_succ]
            refine wpAnyH_ready (rs := [13]) (by kernel_rfl) (by simp) ?_
            refine AllReadyH.cons rfl (fun K hK => ?_) (AllReadyH.nil)
            have cA := (HT3.out.cell q hql 3  (by decide) (.slice o3 n3 c3) (by show some _ = _; exact congrArg some HV3.out)).1
            go_simp
            refine hK.out _ _ HT3.out.box (fun hHeld => ?_)
            clear hK K cA
            refine wpAnyH_ready (rs := [16]) (by kernel_rfl) (by simp) ?_
            refine AllReadyH.cons rfl (fun K hK => ?_) (AllReadyH.nil)
            have hLq : (l0.set p (putL l0[p] ((q : Int) + 1) (.slice o5 (n1 + 1) c5) true))[q]'(by simpa using hql) = l0[q] := List.getElem_set_ne hpq _
            obtain ⟨o6, c6, V4, hap, hT, hd⟩ := HT3.out.put q (by simpa using hql) false _ D2 HD2_3.out (by rw [hLq]; exact hb3)
            have HT4 := hid hT
            have hs1 : side l0[q] false = .slice o3 n3 c3 := HV3.out
            have hn1 : (numsOf l0[q] false).length = n3 := HN3.out
            simp only [hLq, hs1, hn1] at hap HT4
            have HAp := hid hap
            clear hap hT hd hs1 hn1 hLq
            refine step_appendA _ rfl (.tmp 51) (.tmp 53) 23 23 rfl _ _ rfl rfl _ _ HAp.out (some 54) rfl ?_
            refine hK.out _ _ HT4.out.box (fun hHeld => ?_)
            clear hK K HAp
            simp only [Act.put, List.setIfInBounds_toArray, List.set_cons_zero, List.set_cons_succ]
            obtain ⟨⟨u1, s1⟩, s2, s3, ⟨u2, s4⟩, s5, s6⟩ := tie_store hpl hql HT4.out (.slice o5 (n1 + 1) c5) (.slice o6 (n3 + 1) c6)
            have hfin := tie_done (w0 := w0) hpl hql hpq HT4.out
            have HFin := hid hfin
            have S3 := hid s3
            have S6 := hid s6
            clear hfin s3 s6
            refine wpAnyH_one 17 55 (.pointer (some ⟨g, p * 5, none⟩)) hHeld rfl rfl (by kernel_rfl) (fun _ _ _ _ _ h => h) (by kernel_rfl) (by kernel_rfl) (by rfl) ?_ ?_
            · intro V hSw; (try dsimp only at hSw); go_simp
            simp only [Act.put, List.setIfInBounds_toArray, List.set_cons_zero, List.set_cons_succ]
            refine wpAnyH_one 18 56 (.pointer (some ⟨g, p * 5 + 4, none⟩)) hHeld rfl rfl (by kernel_rfl) (fun _ _ _ _ _ h => h) (by kernel_rfl) (by kernel_rfl) (by rfl) ?_ ?_
            · intro V hSw; (try dsimp only at hSw); go_simp
            simp only [Act.put, List.setIfInBounds_toArray, List.set_cons_zero, List.set_cons_succ]
            refine wpAnyH_ready (rs := [19]) (by kernel_rfl) (by simp) ?_
            refine AllReadyH.cons rfl (fun K hK => ?_) AllReadyH.nil
            go_simp
            refine hK.out _ _ S3.out (fun hHeld => ?_)
            clear hK K
            refine wpAnyH_one 20 57 (.pointer (some ⟨g, q * 5, none⟩)) hHeld rfl rfl (by kernel_rfl) (fun _ _ _ _ _ h => h) (by kernel_rfl) (by kernel_rfl) (by rfl) ?_ ?_
            · intro V hSw; (try dsimp only at hSw); go_simp
            simp only [Act.put, List.setIfInBounds_toArray, List.set_cons_zero, List.set_cons_succ]
            refine wpAnyH_one 21 58 (.pointer (some ⟨g, q * 5 + 3, none⟩)) hHeld rfl rfl (by kernel_rfl) (fun _ _ _ _ _ h => h) (by kernel_rfl) (by kernel_rfl) (by rfl) ?_ ?_
            · intro V hSw; (try dsimp only at hSw); go_simp
            simp only [Act.put, List.setIfInBounds_toArray, List.set_cons_zero, List.set_cons_succ]
            refine wpAnyH_ready (rs := [22]) (by kernel_rfl) (by simp) ?_
            refine AllReadyH.cons rfl (fun K hK => ?_) AllReadyH.nil
            go_simp
            refine hK.out _ _ S6.out (fun hHeld => ?_)
            clear hK K
            refine wpAnyH_done (by kernel_rfl) ?_ _
            go_wp2
            (try simp only [Exit.inBlock, Exit.then])
            refine bodyPost_end (results_none rfl _ _ _) rfl ?_
            exact ⟨rfl, HRet.out _ _ _ HFin.out⟩
          · have cA := (HT2.out.cell q hql 3  (by decide) (.slice o3 n3 c3) (by show some _ = _; exact congrArg some HV3.out)).1
            go_simp
            refine hK.out _ _ HT2.out.box (fun hHeld => ?_)
            clear hK K cA
            refine wpAnyH_ready (rs := [9]) (by kernel_rfl) (by simp) ?_
            refine AllReadyH.cons rfl (fun K hK => ?_) (AllReadyH.nil)
            obtain ⟨o5, c5, V3, hap, hT, hd⟩ := HT2.out.put p hpl true _ D1 HD1_2.out hb1
            have HT3 := hid hT
            have HD2_3 := hid (hd D2 _ HD2_2.out)
            have hs1 : side l0[p] true = .slice o1 n1 c1 := HV1.out
            have hn1 : (numsOf l0[p] true).length = n1 := HN1.out
            simp only [hs1, hn1] at hap HT3 HD2_3
            have HAp := hid hap
            clear hap hT hd hs1 hn1
            refine step_appendA _ rfl (.tmp 43) (.tmp 46) 23 23 rfl _ _ rfl rfl _ _ HAp.out (some 47) rfl ?_
            refine hK.out _ _ HT3.out.box (fun hHeld => ?_)
            clear hK K HAp
            simp only [Act.put, List.setIfInBounds_toArray, List.set_cons_zero, List.set_cons_succ]
            refine wpAnyH_ready (rs := [16]) (by kernel_rfl) (by simp) ?_
            refine AllReadyH.cons rfl (fun K hK => ?_) (AllReadyH.nil)
            have hLq : (l0.set p (putL l0[p] ((q : Int) + 1) (.slice o5 (n1 + 1) c5) true))[q]'(by simpa using hql) = l0[q] := List.getElem_set_ne hpq _
            obtain ⟨o6, c6, V4, hap, hT, hd⟩ := HT3.out.put q (by simpa using hql) false _ D2 HD2_3.out (by rw [hLq]; exact hb3)
            have HT4 := hid hT
            have hs1 : side l0[q] false = .slice o3 n3 c3 := HV3.out
            have hn1 : (numsOf l0[q] false).length = n3 := HN3.out
            simp only [hLq, hs1, hn1] at hap HT4
            have HAp := hid hap
            clear hap hT hd hs1 hn1 hLq
            refine step_appendA _ rfl (.tmp 51) (.tmp 53) 23 23 rfl _ _ rfl rfl _ _ HAp.out (some 54) rfl ?_
            refine hK.out _ _ HT4.out.box (fun hHeld => ?_)
            clear hK K HAp
            simp only [Act.put, List.setIfInBounds_toArray, List.set_cons_zero, List.set_cons_succ]
            obtain ⟨⟨u1, s1⟩, s2, s3, ⟨u2, s4⟩, s5, s6⟩ := tie_store hpl hql HT4.out (.slice o5 (n1 + 1) c5) (.slice o6 (n3 + 1) c6)
            have hfin := tie_done (w0 := w0) hpl hql hpq HT4.out
            have HFin := hid hfin
            have S3 := hid s3
            have S6 := hid s6
            clear hfin s3 s6
            refine wpAnyH_one 17 55 (.pointer (some ⟨g, p * 5, none⟩)) hHeld rfl rfl (by kernel_rfl) (fun _ _ _ _ _ h => h) (by kernel_rfl) (by kernel_rfl) (by rfl) ?_ ?_
            · intro V hSw; (try dsimp only at hSw); go_simp
            simp only [Act.put, List.setIfInBounds_toArray, List.set_cons_zero, List.set_cons_succ]
            refine wpAnyH_one 18 56 (.pointer (some ⟨g, p * 5 + 4, none⟩)) hHeld rfl rfl (by kernel_rfl) (fun _ _ _ _ _ h => h) (by kernel_rfl) (by kernel_rfl) (by rfl) ?_ ?_
            · intro V hSw; (try dsimp only at hSw); go_simp
            simp only [Act.put, List.setIfInBounds_toArray, List.set_cons_zero, List.set_cons_succ]
            refine wpAnyH_ready (rs := [19]) (by kernel_rfl) (by simp) ?_
            refine AllReadyH.cons rfl (fun K hK => ?_) AllReadyH.nil
            go_simp
            refine hK.out _ _ S3.out (fun hHeld => ?_)
            clear hK K
            refine wpAnyH_one 20 57 (.pointer (some ⟨g, q * 5, none⟩)) hHeld rfl rfl (by kernel_rfl) (fun _ _ _ _ _ h => h) (by kernel_rfl) (by kernel_rfl) (by rfl) ?_ ?_
            · intro V hSw; (try dsimp only at hSw); go_simp
            simp only [Act.put, List.setIfInBounds_toArray, List.set_cons_zero, List.set_cons_succ]
            refine wpAnyH_one 21 58 (.pointer (some ⟨g, q * 5 + 3, none⟩)) hHeld rfl rfl (by kernel_rfl) (fun _ _ _ _ _ h => h) (by kernel_rfl) (by kernel_rfl) (by rfl) ?_ ?_
            · intro V hSw; (try dsimp only at hSw); go_simp
            simp only [Act.put, List.setIfInBounds_toArray, List.set_cons_zero, List.set_cons_succ]
            refine wpAnyH_ready (rs := [22]) (by kernel_rfl) (by simp) ?_
            refine AllReadyH.cons rfl (fun K hK => ?_) AllReadyH.nil
            go_simp
            refine hK.out _ _ S6.out (fun hHeld => ?_)
            clear hK K
            refine wpAnyH_done (by kernel_rfl) ?_ _
            go_wp2
            (try simp only [Exit.inBlock, Exit.then])
            refine bodyPost_end (results_none rfl _ _ _) rfl ?_
            exact ⟨rfl, HRet.out _ _ _ HFin.out⟩
        · have cA := (HT1.out.cell q hql 3  (by decide) (.slice o3 n3 c3) (by show some _ = _; exact congrArg some HV3.out)).1
          go_simp
          refine hK.out _ _ HT1.out.box (fun hHeld => ?_)
          clear hK K cA
          refine wpAnyH_ready (rs := [8]) (by kernel_rfl) (by simp) ?_
          refine AllReadyH.cons rfl (fun K hK => ?_) (AllReadyH.nil)
          go_simp
          have hba : Below V1.heap.size V1 (V1.alloc (.cells #[.int .i64 ((q : Int) + 1)] 3)) := (Below.refl _ V1).alloc (Nat.le_refl _) _
          have HT2 := hid (HT1.out.later hba)
          have HD1_2 := hid (HT1.out.lst.fresh ((q : Int) + 1))
          have HD2_2 := hid (HD2_1.out.later hba)
          clear hba
          generalize V1.alloc (.cells #[.int .i64 ((q : Int) + 1)] 3) = V2 at *
          generalize V1.heap.size = D1 at *
          refine hK.out _ _ HT2.out.box (fun hHeld => ?_)
          clear hK K
          refine wpAnyH_ready (rs := [9]) (by kernel_rfl) (by simp) ?_
          refine AllReadyH.cons rfl (fun K hK => ?_) (AllReadyH.nil)
          obtain ⟨o5, c5, V3, hap, hT, hd⟩ := HT2.out.put p hpl true _ D1 HD1_2.out hb1
          have HT3 := hid hT
          have HD2_3 := hid (hd D2 _ HD2_2.out)
          have hs1 : side l0[p] true = .slice o1 n1 c1 := HV1.out
          have hn1 : (numsOf l0[p] true).length = n1 := HN1.out
          simp only [hs1, hn1] at hap HT3 HD2_3
          have HAp := hid hap
          clear hap hT hd hs1 hn1
          refine step_appendA _ rfl (.tmp 43) (.tmp 46) 23 23 rfl _ _ rfl rfl _ _ HAp.out (some 47) rfl ?_
          refine hK.out _ _ HT3.out.box (fun hHeld => ?_)
          clear hK K HAp
          simp only [Act.put, List.setIfInBounds_toArray, List.set_cons_zero, List.set_cons_succ]
          refine wpAnyH_ready (rs := [16]) (by kernel_rfl) (by simp) ?_
          refine AllReadyH.cons rfl (fun K hK => ?_) (AllReadyH.nil)
          have hLq : (l0.set p (putL l0[p] ((q : Int) + 1) (.slice o5 (n1 + 1) c5) true))[q]'(by simpa using hql) = l0[q] := List.getElem_set_ne hpq _
          obtain ⟨o6, c6, V4, hap, hT, hd⟩ := HT3.out.put q (by simpa using hql) false _ D2 HD2_3.out (by rw [hLq]; exact hb3)
          have HT4 := hid hT
          have hs1 : side l0[q] false = .slice o3 n3 c3 := HV3.out
          have hn1 : (numsOf l0[q] false).length = n3 := HN3.out
          simp only [hLq, hs1, hn1] at hap HT4
          have HAp := hid hap
          clear hap hT hd hs1 hn1 hLq
          refine step_appendA _ rfl (.tmp 51) (.tmp 53) 23 23 rfl _ _ rfl rfl _ _ HAp.out (some 54) rfl ?_
          refine hK.out _ _ HT4.out.box (fun hHeld => ?_)
          clear hK K HAp
          simp only [Act.put, List.setIfInBounds_toArray, List.set_cons_zero, List.set_cons_succ]
          obtain ⟨⟨u1, s1⟩, s2, s3, ⟨u2, s4⟩, s5, s6⟩ := tie_store hpl hql HT4.out (.slice o5 (n1 + 1) c5) (.slice o6 (n3 + 1) c6)
          have hfin := tie_done (w0 := w0) hpl hql hpq HT4.out
          have HFin := hid hfin
          have S3 := hid s3
          have S6 := hid s6
          clear hfin s3 s6
          refine wpAnyH_one 17 55 (.pointer (some ⟨g, p * 5, none⟩)) hHeld rfl rfl (by kernel_rfl) (fun _ _ _ _ _ h => h) (by kernel_rfl) (by kernel_rfl) (by rfl) ?_ ?_
          · intro V hSw; (try dsimp only at hSw); go_simp
          simp only [Act.put, List.setIfInBounds_toArray, List.set_cons_zero, List.set_cons_succ]
          refine wpAnyH_one 18 56 (.pointer (some ⟨g, p * 5 + 4, none⟩)) hHeld rfl rfl (by kernel_rfl) (fun _ _ _ _ _ h => h) (by kernel_rfl) (by kernel_rfl) (by rfl) ?_ ?_
          · intro V hSw; (try dsimp only at hSw); go_simp
          simp only [Act.put, List.setIfInBounds_toArray, List.set_cons_zero, List.set_cons_succ]
          refine wpAnyH_ready (rs := [19]) (by kernel_rfl) (by simp) ?_
          refine AllReadyH.cons rfl (fun K hK => ?_) AllReadyH.nil
          go_simp
          refine hK.out _ _ S3.out (fun hHeld => ?_)
          clear hK K
          refine wpAnyH_one 20 57 (.pointer (some ⟨g, q * 5, none⟩)) hHeld rfl rfl (by kernel_rfl) (fun _ _ _ _ _ h => h) (by kernel_rfl) (by kernel_rfl) (by rfl) ?_ ?_
          · intro V hSw; (try dsimp only at hSw); go_simp
          simp only [Act.put, List.setIfInBounds_toArray, List.set_cons_zero, List.set_cons_succ]
          refine wpAnyH_one 21 58 (.pointer (some ⟨g, q * 5 + 3, none⟩)) hHeld rfl rfl (by kernel_rfl) (fun _ _ _ _ _ h => h) (by kernel_rfl) (by kernel_rfl) (by rfl) ?_ ?_
          · intro V hSw; (try dsimp only at hSw); go_simp
          simp only [Act.put, List.setIfInBounds_toArray, List.set_cons_zero, List.set_cons_succ]
          refine wpAnyH_ready (rs := [22]) (by kernel_rfl) (by simp) ?_
          refine AllReadyH.cons rfl (fun K hK => ?_) AllReadyH.nil
          go_simp
          refine hK.out _ _ S6.out (fun hHeld => ?_)
          clear hK K
          refine wpAnyH_done (by kernel_rfl) ?_ _
          go_wp2
          (try simp only [Exit.inBlock, Exit.then])
          refine bodyPost_end (results_none rfl _ _ _) rfl ?_
          exact ⟨rfl, HRet.out _ _ _ HFin.out⟩
    · go_simp
      have hba : Below V0.heap.size V0 (V0.alloc (.cells #[.int .i64 ((q : Int) + 1)] 3)) := (Below.refl _ V0).alloc (Nat.le_refl _) _
      have HT1 := hid (HT0.out.later hba)
      have HD1_1 := hid (HT0.out.lst.fresh ((q : Int) + 1))
      clear hba
      generalize V0.alloc (.cells #[.int .i64 ((q : Int) + 1)] 3) = V1 at *
      generalize V0.heap.size = D1 at *
      refine hK.out _ _ HT1.out.box (fun hHeld => ?_)
      clear hK K
      refine wpAnyH_ready (rs := [5, 13, 15]) (by kernel_rfl) (by simp) ?_
      refine AllReadyH.cons rfl (fun K hK => ?_) (AllReadyH.cons rfl (fun K hK => ?_) (AllReadyH.cons rfl (fun K hK => ?_) (AllReadyH.nil)))
      · have cA := (HT1.out.cell p hpl 4  (by decide) (.slice o1 n1 c1) (by show some _ = _; exact congrArg some HV1.out)).1
        go_simp
        refine hK.out _ _ HT1.out.box (fun hHeld => ?_)
        clear hK K cA
        refine wpAnyH_ready (rs := [9, 13, 15]) (by kernel_rfl) (by simp) ?_
        refine AllReadyH.cons rfl (fun K hK => ?_) (AllReadyH.cons rfl (fun K hK => ?_) (AllReadyH.cons rfl (fun K hK => ?_) (AllReadyH.nil)))
        · obtain ⟨o5, c5, V2, hap, hT, hd⟩ := HT1.out.put p hpl true _ D1 HD1_1.out hb1
          have HT2 := hid hT
          have hs1 : side l0[p] true = .slice o1 n1 c1 := HV1.out
          have hn1 : (numsOf l0[p] true).length = n1 := HN1.out
          simp only [hs1, hn1] at hap HT2
          have HAp := hid hap
          clear hap hT hd hs1 hn1
          refine step_appendA _ rfl (.tmp 43) (.tmp 46) 23 23 rfl _ _ rfl rfl _ _ HAp.out (some 47) rfl ?_
          refine hK.out _ _ HT2.out.box (fun hHeld => ?_)
          clear hK K HAp
          simp only [Act.put, List.setIfInBounds_toArray, List.set_cons_zero, List.set_cons_succ]
          refine wpAnyH_ready (rs := [13, 15]) (by kernel_rfl) (by simp) ?_
          refine AllReadyH.cons rfl (fun K hK => ?_) (AllReadyH.cons rfl (fun K hK => ?_) (AllReadyH.nil))
          · have cA := (HT2.out.cell q hql 3  (by decide) (.slice o3 n3 c3) (by show some _ = _; exact congrArg some HV3.out)).1
            go_simp
            refine hK.out _ _ HT2.out.box (fun hHeld => ?_)
            clear hK K cA
            refine wpAnyH_ready (rs := [15]) (by kernel_rfl) (by simp) ?_
            refine AllReadyH.cons rfl (fun K hK => ?_) (AllReadyH.nil)
            go_simp
            have hba : Below V2.heap.size V2 (V2.alloc (.cells #[.int .i64 ((p : Int) + 1)] 3)) := (Below.refl _ V2).alloc (Nat.le_refl _) _
            have HT3 := hid (HT2.out.later hba)
            have HD2_3 := hid (HT2.out.lst.fresh ((p : Int) + 1))
            clear hba
            generalize V2.alloc (.cells #[.int .i64 ((p : Int) + 1)] 3) = V3 at *
            generalize V2.heap.size = D2 at *
            refine hK.out _ _ HT3.out.box (fun hHeld => ?_)
            clear hK K
            refine wpAnyH_ready (rs := [16]) (by kernel_rfl) (by simp) ?_
            refine AllReadyH.cons rfl (fun K hK => ?_) (AllReadyH.nil)
            have hLq : (l0.set p (putL l0[p] ((q : Int) + 1) (.slice o5 (n1 + 1) c5) true))[q]'(by simpa using hql) = l0[q] := List.getElem_set_ne hpq _
            obtain ⟨o6, c6, V4, hap, hT, hd⟩ := HT3.out.put q (by simpa using hql) false _ D2 HD2_3.out (by rw [hLq]; exact hb3)
            have HT4 := hid hT
            have hs1 : side l0[q] false = .slice o3 n3 c3 := HV3.out
            have hn1 : (numsOf l0[q] false).length = n3 := HN3.out
            simp only [hLq, hs1, hn1] at hap HT4
            have HAp := hid hap
            clear hap hT hd hs1 hn1 hLq
            refine step_appendA _ rfl (.tmp 51) (.tmp 53) 23 23 rfl _ _ rfl rfl _ _ HAp.out (some 54) rfl ?_
            refine hK.out _ _ HT4.out.box (fun hHeld => ?_)
            clear hK K HAp
            simp only [Act.put, List.setIfInBounds_toArray, List.set_cons_zero, List.set_cons_succ]
            obtain ⟨⟨u1, s1⟩, s2, s3, ⟨u2, s4⟩, s5, s6⟩ := tie_store hpl hql HT4.out (.slice o5 (n1 + 1) c5) (.slice o6 (n3 + 1) c6)
            have hfin := tie_done (w0 := w0) hpl hql hpq HT4.out
            have HFin := hid hfin
            have S3 := hid s3
            have S6 := hid s6
            clear hfin s3 s6
            refine wpAnyH_one 17 55 (.pointer (some ⟨g, p * 5, none⟩)) hHeld rfl rfl (by kernel_rfl) (fun _ _ _ _ _ h => h) (by kernel_rfl) (by kernel_rfl) (by rfl) ?_ ?_
            · intro V hSw; (try dsimp only at hSw); go_simp
            simp only [Act.put, List.setIfInBounds_toArray, List.set_cons_zero, List.set_cons_succ]
            refine wpAnyH_one 18 56 (.pointer (some ⟨g, p * 5 + 4, none⟩)) hHeld rfl rfl (by kernel_rfl) (fun _ _ _ _ _ h => h) (by kernel_rfl) (by kernel_rfl) (by rfl) ?_ ?_
            · intro V hSw; (try dsimp only at hSw); go_simp
            simp only [Act.put, List.setIfInBounds_toArray, List.set_cons_zero, List.set_cons_succ]
            refine wpAnyH_ready (rs := [19]) (by kernel_rfl) (by simp) ?_
            refine AllReadyH.cons rfl (fun K hK => ?_) AllReadyH.nil
            go_simp
            refine hK.out _ _ S3.out (fun hHeld => ?_)
            clear hK K
            refine wpAnyH_one 20 57 (.pointer (some ⟨g, q * 5, none⟩)) hHeld rfl rfl (by kernel_rfl) (fun _ _ _ _ _ h => h) (by kernel_rfl) (by kernel_rfl) (by rfl) ?_ ?_
            · intro V hSw; (try dsimp only at hSw); go_simp
            simp only [Act.put, List.setIfInBounds_toArray, List.set_cons_zero, List.set_cons_succ]
            refine wpAnyH_one 21 58 (.pointer (some ⟨g, q * 5 + 3, none⟩)) hHeld rfl rfl (by kernel_rfl) (fun _ _ _ _ _ h => h) (by kernel_rfl) (by kernel_rfl) (by rfl) ?_ ?_
            · intro V hSw; (try dsimp only at hSw); go_simp
            simp only [Act.put, List.setIfInBounds_toArray, List.set_cons_zero, List.set_cons_succ]
            refine wpAnyH_ready (rs := [22]) (by kernel_rfl) (by simp) ?_
            refine AllReadyH.cons rfl (fun K hK => ?_) AllReadyH.nil
            go_simp
            refine hK.out _ _ S6.out (fun hHeld => ?_)
            clear hK K
            refine wpAnyH_done (by kernel_rfl) ?_ _
            go_wp2
            (try simp only [Exit.inBlock, Exit.then])
            refine bodyPost_end (results_none rfl _ _ _) rfl ?_
            exact ⟨rfl, HRet.out _ _ _ HFin.out⟩
          · go_simp
            have hba : Below V2.heap.size V2 (V2.alloc (.cells #[.int .i64 ((p : Int) + 1)] 3)) := (Below.refl _ V2).alloc (Nat.le_refl _) _
            have HT3 := hid (HT2.out.later hba)
            have HD2_3 := hid (HT2.out.lst.fresh ((p : Int) + 1))
            clear hba
            generalize V2.alloc (.cells #[.int .i64 ((p : Int) + 1)] 3) = V3 at *
            generalize V2.heap.size = D2 at *
            refine hK.out _ _ HT3.out.box (fun hHeld => ?_)
            clear hK K
            refine wpAnyH_ready (rs := [13]) (by kernel_rfl) (by simp) ?_
            refine AllReadyH.cons rfl (fun K hK => ?_) (AllReadyH.nil)
            have cA := (HT3.out.cell q hql 3  (by decide) (.slice o3 n3 c3) (by show some _ = _; exact congrArg some HV3.out)).1
            go_simp
            refine hK.out _ _ HT3.out.box (fun hHeld => ?_)
            clear hK K cA
            refine wpAnyH_ready (rs := [16]) (by kernel_rfl) (by simp) ?_
            refine AllReadyH.cons rfl (fun K hK => ?_) (AllReadyH.nil)
            have hLq : (l0.set p (putL l0[p] ((q : Int) + 1) (.slice o5 (n1 + 1) c5) true))[q]'(by simpa using hql) = l0[q] := List.getElem_set_ne hpq _
            obtain ⟨o6, c6, V4, hap, hT, hd⟩ := HT3.out.put q (by simpa using hql) false _ D2 HD2_3.out (by rw [hLq]; exact hb3)
            have HT4 := hid hT
            have hs1 : side l0[q] false = .slice o3 n3 c3 := HV3.out
            have hn1 : (numsOf l0[q] false).length = n3 := HN3.out
            simp only [hLq, hs1, hn1] at hap HT4
            have HAp := hid hap
            clear hap hT hd hs1 hn1 hLq
            refine step_appendA _ rfl (.tmp 51) (.tmp 53) 23 23 rfl _ _ rfl rfl _ _ HAp.out (some 54) rfl ?_
            refine hK.out _ _ HT4.out.box (fun hHeld => ?_)
            clear hK K HAp
            simp only [Act.put, List.setIfInBounds_toArray, List.set_cons_zero, List.set_cons_succ]
            obtain ⟨⟨u1, s1⟩, s2, s3, ⟨u2, s4⟩, s5, s6⟩ := tie_store hpl hql HT4.out (.slice o5 (n1 + 1) c5) (.slice o6 (n3 + 1) c6)
            have hfin := tie_done (w0 := w0) hpl hql hpq HT4.out
            have HFin := hid hfin
            have S3 := hid s3
            have S6 := hid s6
            clear hfin s3 s6
            refine wpAnyH_one 17 55 (.pointer (some ⟨g, p * 5, none⟩)) hHeld rfl rfl (by kernel_rfl) (fun _ _ _ _ _ h => h) (by kernel_rfl) (by kernel_rfl) (by rfl) ?_ ?_
            · intro V hSw; (try dsimp only at hSw); go_simp
            simp only [Act.put, List.setIfInBounds_toArray, List.set_cons_zero, List.set_cons_succ]
            refine wpAnyH_one 18 56 (.pointer (some ⟨g, p * 5 + 4, none⟩)) hHeld rfl rfl (by kernel_rfl) (fun _ _ _ _ _ h => h) (by kernel_rfl) (by kernel_rfl) (by rfl) ?_ ?_
            · intro V hSw; (try dsimp only at hSw); go_simp
            simp only [Act.put, List.setIfInBounds_toArray, List.set_cons_zero, List.set_cons_succ]
            refine wpAnyH_ready (rs := [19]) (by kernel_rfl) (by simp) ?_
            refine AllReadyH.cons rfl (fun K hK => ?_) AllReadyH.nil
            go_simp
            refine hK.out _ _ S3.out (fun hHeld => ?_)
            clear hK K
            refine wpAnyH_one 20 57 (.pointer (some ⟨g, q * 5, none⟩)) hHeld rfl rfl (by kernel_rfl) (fun _ _ _ _ _ h => h) (by kernel_rfl) (by kernel_rfl) (by rfl) ?_ ?_
            · intro V hSw; (try dsimp only at hSw); go_simp
            simp only [Act.put, List.setIfInBounds_toArray, List.set_cons_zero, List.set_cons_succ]
            refine wpAnyH_one 21 58 (.pointer (some ⟨g, q * 5 + 3, none⟩)) hHeld rfl rfl (by kernel_rfl) (fun _ _ _ _ _ h => h) (by kernel_rfl) (by kernel_rfl) (by rfl) ?_ ?_
            · intro V hSw; (try dsimp only at hSw); go_simp
            simp only [Act.put, List.setIfInBounds_toArray, List.set_cons_zero, List.set_cons_succ]
            refine wpAnyH_ready (rs := [22]) (by kernel_rfl) (by simp) ?_
            refine AllReadyH.cons rfl (fun K hK => ?_) AllReadyH.nil
            go_simp
            refine hK.out _ _ S6.out (fun hHeld => ?_)
            clear hK K
            refine wpAnyH_done (by kernel_rfl) ?_ _
            go_wp2
            (try simp only [Exit.inBlock, Exit.then])
            refine bodyPost_end (results_none rfl _ _ _) rfl ?_
            exact ⟨rfl, HRet.out _ _ _ HFin.out⟩
        · have cA := (HT1.out.cell q hql 3  (by decide) (.slice o3 n3 c3) (by show some _ = _; exact congrArg some HV3.out)).1
          go_simp
          refine hK.out _ _ HT1.out.box (fun hHeld => ?_)
          clear hK K cA
          refine wpAnyH_ready (rs := [9, 15]) (by kernel_rfl) (by simp) ?_
          refine AllReadyH.cons rfl (fun K hK => ?_) (AllReadyH.cons rfl (fun K hK => ?_) (AllReadyH.nil))
          · obtain ⟨o5, c5, V2, hap, hT, hd⟩ := HT1.out.put p hpl true _ D1 HD1_1.out hb1
            have HT2 := hid hT
            have hs1 : side l0[p] true = .slice o1 n1 c1 := HV1.out
            have hn1 : (numsOf l0[p] true).length = n1 := HN1.out
            simp only [hs1, hn1] at hap HT2
            have HAp := hid hap
            clear hap hT hd hs1 hn1
            refine step_appendA _ rfl (.tmp 43) (.tmp 46) 23 23 rfl _ _ rfl rfl _ _ HAp.out (some 47) rfl ?_
            refine hK.out _ _ HT2.out.box (fun hHeld => ?_)
            clear hK K HAp
            simp only [Act.put, List.setIfInBounds_toArray, List.set_cons_zero, List.set_cons_succ]
            refine wpAnyH_ready (rs := [15]) (by kernel_rfl) (by simp) ?_
            refine AllReadyH.cons rfl (fun K hK => ?_) (AllReadyH.nil)
            go_simp
            have hba : Below V2.heap.size V2 (V2.alloc (.cells #[.int .i64 ((p : Int) + 1)] 3)) := (Below.refl _ V2).alloc (Nat.le_refl _) _
            have HT3 := hid (HT2.out.later hba)
            have HD2_3 := hid (HT2.out.lst.fresh ((p : Int) + 1))
            clear hba
            generalize V2.alloc (.cells #[.int .i64 ((p : Int) + 1)] 3) = V3 at *
            generalize V2.heap.size = D2 at *
            refine hK.out _ _ HT3.out.box (fun hHeld => ?_)
            clear hK K
            refine wpAnyH_ready (rs := [16]) (by kernel_rfl) (by simp) ?_
            refine AllReadyH.cons rfl (fun K hK => ?_) (AllReadyH.nil)
            have hLq : (l0.set p (putL l0[p] ((q : Int) + 1) (.slice o5 (n1 + 1) c5) true))[q]'(by simpa using hql) = l0[q] := List.getElem_set_ne hpq _
            obtain ⟨o6, c6, V4, hap, hT, hd⟩ := HT3.out.put q (by simpa using hql) false _ D2 HD2_3.out (by rw [hLq]; exact hb3)
            have HT4 := hid hT
            have hs1 : side l0[q] false = .slice o3 n3 c3 := HV3.out
            have hn1 : (numsOf l0[q] false).length = n3 := HN3.out
            simp only [hLq, hs1, hn1] at hap HT4
            have HAp := hid hap
            clear hap hT hd hs1 hn1 hLq
            refine step_appendA _ rfl (.tmp 51) (.tmp 53) 23 23 rfl _ _ rfl rfl _ _ HAp.out (some 54) rfl ?_
            refine hK.out _ _ HT4.out.box (fun hHeld => ?_)
            clear hK K HAp
            simp only [Act.put, List.setIfInBounds_toArray, List.set_cons_zero, List.set_cons_succ]
            obtain ⟨⟨u1, s1⟩, s2, s3, ⟨u2, s4⟩, s5, s6⟩ := tie_store hpl hql HT4.out (.slice o5 (n1 + 1) c5) (.slice o6 (n3 + 1) c6)
            have hfin := tie_done (w0 := w0) hpl hql hpq HT4.out
            have HFin := hid hfin
            have S3 := hid s3
            have S6 := hid s6
            clear hfin s3 s6
            refine wpAnyH_one 17 55 (.pointer (some ⟨g, p * 5, none⟩)) hHeld rfl rfl (by kernel_rfl) (fun _ _ _ _ _ h => h) (by kernel_rfl) (by kernel_rfl) (by rfl) ?_ ?_
            · intro V hSw; (try dsimp only at hSw); go_simp
            simp only [Act.put, List.setIfInBounds_toArray, List.set_cons_zero, List.set_cons_succ]
            refine wpAnyH_one 18 56 (.pointer (some ⟨g, p * 5 + 4, none⟩)) hHeld rfl rfl (by kernel_rfl) (fun _ _ _ _ _ h => h) (by kernel_rfl) (by kernel_rfl) (by rfl) ?_ ?_
            · intro V hSw; (try dsimp only at hSw); go_simp
            simp only [Act.put, List.setIfInBounds_toArray, List.set_cons_zero, List.set_cons_succ]
            refine wpAnyH_ready (rs := [19]) (by kernel_rfl) (by simp) ?_
            refine AllReadyH.cons rfl (fun K hK => ?_) AllReadyH.nil
            go_simp
            refine hK.out _ _ S3.out (fun hHeld => ?_)
            clear hK K
            refine wpAnyH_one 20 57 (.pointer (some ⟨g, q * 5, none⟩)) hHeld rfl rfl (by kernel_rfl) (fun _ _ _ _ _ h => h) (by kernel_rfl) (by kernel_rfl) (by rfl) ?_ ?_
            · intro V hSw; (try dsimp only at hSw); go_simp
            simp only [Act.put, List.setIfInBounds_toArray, List.set_cons_zero, List.set_cons_succ]
            refine wpAnyH_one 21 58 (.pointer (some ⟨g, q * 5 + 3, none⟩)) hHeld rfl rfl (by kernel_rfl) (fun _ _ _ _ _ h => h) (by kernel_rfl) (by kernel_rfl) (by rfl) ?_ ?_
            · intro V hSw; (try dsimp only at hSw); go_simp
            simp only [Act.put, List.setIfInBounds_toArray, List.set_cons_zero, List.set_cons_succ]
            refine wpAnyH_ready (rs := [22]) (by kernel_rfl) (by simp) ?_
            refine AllReadyH.cons rfl (fun K hK => ?_) AllReadyH.nil
            go_simp
            refine hK.out _ _ S6.out (fun hHeld => ?_)
            clear hK K
            refine wpAnyH_done (by kernel_rfl) ?_ _
            go_wp2
            (try simp only [Exit.inBlock, Exit.then])
            refine bodyPost_end (results_none rfl _ _ _) rfl ?_
            exact ⟨rfl, HRet.out _ _ _ HFin.out⟩
          · go_simp
            have hba : Below V1.heap.size V1 (V1.alloc (.cells #[.int .i64 ((p : Int) + 1)] 3)) := (Below.refl _ V1).alloc (Nat.le_refl _) _
            have HT2 := hid (HT1.out.later hba)
            have HD2_2 := hid (HT1.out.lst.fresh ((p : Int) + 1))
            have HD1_2 := hid (HD1_1.out.later hba)
            clear hba
            generalize V1.alloc (.cells #[.int .i64 ((p : Int) + 1)] 3) = V2 at *
            generalize V1.heap.size = D2 at *
            refine hK.out _ _ HT2.out.box (fun hHeld => ?_)
            clear hK K
            refine wpAnyH_ready (rs := [9]) (by kernel_rfl) (by simp) ?_
            refine AllReadyH.cons rfl (fun K hK => ?_) (AllReadyH.nil)
            obtain ⟨o5, c5, V3, hap, hT, hd⟩ := HT2.out.put p hpl true _ D1 HD1_2.out hb1
            have HT3 := hid hT
            have HD2_3 := hid (hd D2 _ HD2_2.out)
            have hs1 : side l0[p] true = .slice o1 n1 c1 := HV1.out
            have hn1 : (numsOf l0[p] true).length = n1 := HN1.out
            simp only [hs1, hn1] at hap HT3 HD2_3
            have HAp := hid hap
            clear hap hT hd hs1 hn1
            refine step_appendA _ rfl (.tmp 43) (.tmp 46) 23 23 rfl _ _ rfl rfl _ _ HAp.out (some 47) rfl ?_
            refine hK.out _ _ HT3.out.box (fun hHeld => ?_)
            clear hK K HAp
            simp only [Act.put, List.setIfInBounds_toArray, List.set_cons_zero, List.set_cons_succ]
            refine wpAnyH_ready (rs := [16]) (by kernel_rfl) (by simp) ?_
            refine AllReadyH.cons rfl (fun K hK => ?_) (AllReadyH.nil)
            have hLq : (l0.set p (putL l0[p] ((q : Int) + 1) (.slice o5 (n1 + 1) c5) true))[q]'(by simpa using hql) = l0[q] := List.getElem_set_ne hpq _
            obtain ⟨o6, c6, V4, hap, hT, hd⟩ := HT3.out.put q (by simpa using hql) false _ D2 HD2_3.out (by rw [hLq]; exact hb3)
            have HT4 := hid hT
            have hs1 : side l0[q] false = .slice o3 n3 c3 := HV3.out
            have hn1 : (numsOf l0[q] false).length = n3 := HN3.out
            simp only [hLq, hs1, hn1] at hap HT4
            have HAp := hid hap
            clear hap hT hd hs1 hn1 hLq
            refine step_appendA _ rfl (.tmp 51) (.tmp 53) 23 23 rfl _ _ rfl rfl _ _ HAp.out (some 54) rfl ?_
            refine hK.out _ _ HT4.out.box (fun hHeld => ?_)
            clear hK K HAp
            simp only [Act.put, List.setIfInBounds_toArray, List.set_cons_zero, List.set_cons_succ]
            obtain ⟨⟨u1, s1⟩, s2, s3, ⟨u2, s4⟩, s5, s6⟩ := tie_store hpl hql HT4.out (.slice o5 (n1 + 1) c5) (.slice o6 (n3 + 1) c6)
            have hfin := tie_done (w0 := w0) hpl hql hpq HT4.out
            have HFin := hid hfin
            have S3 := hid s3
            have S6 := hid s6
            clear hfin s3 s6
            refine wpAnyH_one 17 55 (.pointer (some ⟨g, p * 5, none⟩)) hHeld rfl rfl (by kernel_rfl) (fun _ _ _ _ _ h => h) (by kernel_rfl) (by kernel_rfl) (by rfl) ?_ ?_
            · intro V hSw; (try dsimp only at hSw); go_simp
            simp only [Act.put, List.setIfInBounds_toArray, List.set_cons_zero, List.set_cons_succ]
            refine wpAnyH_one 18 56 (.pointer (some ⟨g, p * 5 + 4, none⟩)) hHeld rfl rfl (by kernel_rfl) (fun _ _ _ _ _ h => h) (by kernel_rfl) (by kernel_rfl) (by rfl) ?_ ?_
            · intro V hSw; (try dsimp only at hSw); go_simp
            simp only [Act.put, List.setIfInBounds_toArray, List.set_cons_zero, List.set_cons_succ]
            refine wpAnyH_ready (rs := [19]) (by kernel_rfl) (by simp) ?_
            refine AllReadyH.cons rfl (fun K hK => ?_) AllReadyH.nil
            go_simp
            refine hK.out _ _ S3.out (fun hHeld => ?_)
            clear hK K
            refine wpAnyH_one 20 57 (.pointer (some ⟨g, q * 5, none⟩)) hHeld rfl rfl (by kernel_rfl) (fun _ _ _ _ _ h => h) (by kernel_rfl) (by kernel_rfl) (by rfl) ?_ ?_
            · intro V hSw; (try dsimp only at hSw); go_simp
            simp only [Act.put, List.setIfInBounds_toArray, List.set_cons_zero, List.set_cons_succ]
            refine wpAnyH_one 21 58 (.pointer (some ⟨g, q * 5 + 3, none⟩)) hHeld rfl rfl (by kernel_rfl) (fun _ _ _ _ _ h => h) (by kernel_rfl) (by kernel_rfl) (by rfl) ?_ ?_
            · intro V hSw; (try dsimp only at hSw); go_simp
            simp only [Act.put, List.setIfInBounds_toArray, List.set_cons_zero, List.set_cons_succ]
            refine wpAnyH_ready (rs := [22]) (by kernel_rfl) (by simp) ?_
            refine AllReadyH.cons rfl (fun K hK => ?_) AllReadyH.nil
            go_simp
            refine hK.out _ _ S6.out (fun hHeld => ?_)
            clear hK K
            refine wpAnyH_done (by kernel_rfl) ?_ _
            go_wp2
            (try simp only [Exit.inBlock, Exit.then])
            refine bodyPost_end (results_none rfl _ _ _) rfl ?_
            exact ⟨rfl, HRet.out _ _ _ HFin.out⟩
        · go_simp
          have hba : Below V1.heap.size V1 (V1.alloc (.cells #[.int .i64 ((p : Int) + 1)] 3)) := (Below.refl _ V1).alloc (Nat.le_refl _) _
          have HT2 := hid (HT1.out.later hba)
          have HD2_2 := hid (HT1.out.lst.fresh ((p : Int) + 1))
          have HD1_2 := hid (HD1_1.out.later hba)
          clear hba
          generalize V1.alloc (.cells #[.int .i64 ((p : Int) + 1)] 3) = V2 at *
          generalize V1.heap.size = D2 at *
          refine hK.out _ _ HT2.out.box (fun hHeld => ?_)
          clear hK K
          refine wpAnyH_ready (rs := [9, 13]) (by kernel_rfl) (by simp) ?_
          refine AllReadyH.cons rfl (fun K hK => ?_) (AllReadyH.cons rfl (fun K hK => ?_) (AllReadyH.nil))
          · obtain ⟨o5, c5, V3, hap, hT, hd⟩ := HT2.out.put p hpl true _ D1 HD1_2.out hb1
            have HT3 := hid hT
            have HD2_3 := hid (hd D2 _ HD2_2.out)
            have hs1 : side l0[p] true = .slice o1 n1 c1 := HV1.out
            have hn1 : (numsOf l0[p] true).length = n1 := HN1.out
            simp only [hs1, hn1] at hap HT3 HD2_3
            have HAp := hid hap
            clear hap hT hd hs1 hn1
            refine step_appendA _ rfl (.tmp 43) (.tmp 46) 23 23 rfl _ _ rfl rfl _ _ HAp.out (some 47) rfl ?_
            refine hK.out _ _ HT3.out.box (fun hHeld => ?_)
            clear hK K HAp
            simp only [Act.put, List.setIfInBounds_toArray, List.set_cons_zero, List.set_cons_succ]
            refine wpAnyH_ready (rs := [13]) (by kernel_rfl) (by simp) ?_
            refine AllReadyH.cons rfl (fun K hK => ?_) (AllReadyH.nil)
            have cA := (HT3.out.cell q hql 3  (by decide) (.slice o3 n3 c3) (by show some _ = _; exact congrArg some HV3.out)).1
            go_simp
            refine hK.out _ _ HT3.out.box (fun hHeld => ?_)
            clear hK K cA
            refine wpAnyH_ready (rs := [16]) (by kernel_rfl) (by simp) ?_
            refine AllReadyH.cons rfl (fun K hK => ?_) (AllReadyH.nil)
            have hLq : (l0.set p (putL l0[p] ((q : Int) + 1) (.slice o5 (n1 + 1) c5) true))[q]'(by simpa using hql) = l0[q] := List.getElem_set_ne hpq _
            obtain ⟨o6, c6, V4, hap, hT, hd⟩ := HT3.out.put q (by simpa using hql) false _ D2 HD2_3.out (by rw [hLq]; exact hb3)
            have HT4 := hid hT
            have hs1 : side l0[q] false = .slice o3 n3 c3 := HV3.out
            have hn1 : (numsOf l0[q] false).length = n3 := HN3.out
            simp only [hLq, hs1, hn1] at hap HT4
            have HAp := hid hap
            clear hap hT hd hs1 hn1 hLq
            refine step_appendA _ rfl (.tmp 51) (.tmp 53) 23 23 rfl _ _ rfl rfl _ _ HAp.out (some 54) rfl ?_
            refine hK.out _ _ HT4.out.box (fun hHeld => ?_)
            clear hK K HAp
            simp only [Act.put, List.setIfInBounds_toArray, List.set_cons_zero, List.set_cons_succ]
            obtain ⟨⟨u1, s1⟩, s2, s3, ⟨u2, s4⟩, s5, s6⟩ := tie_store hpl hql HT4.out (.slice o5 (n1 + 1) c5) (.slice o6 (n3 + 1) c6)
            have hfin := tie_done (w0 := w0) hpl hql hpq HT4.out
            have HFin := hid hfin
            have S3 := hid s3
            have S6 := hid s6
            clear hfin s3 s6
            refine wpAnyH_one 17 55 (.pointer (some ⟨g, p * 5, none⟩)) hHeld rfl rfl (by kernel_rfl) (fun _ _ _ _ _ h => h) (by kernel_rfl) (by kernel_rfl) (by rfl) ?_ ?_
            · intro V hSw; (try dsimp only at hSw); go_simp
            simp only [Act.put, List.setIfInBounds_toArray, List.set_cons_zero, List.set_cons_succ]
            refine wpAnyH_one 18 56 (.pointer (some ⟨g, p * 5 + 4, none⟩)) hHeld rfl rfl (by kernel_rfl) (fun _ _ _ _ _ h => h) (by kernel_rfl) (by kernel_rfl) (by rfl) ?_ ?_
            · intro V hSw; (try dsimp only at hSw); go_simp
            simp only [Act.put, List.setIfInBounds_toArray, List.set_cons_zero, List.set_cons_succ]
            refine wpAnyH_ready (rs := [19]) (by kernel_rfl) (by simp) ?_
            refine AllReadyH.cons rfl (fun K hK => ?_) AllReadyH.nil
            go_simp
            refine hK.out _ _ S3.out (fun hHeld => ?_)
            clear hK K
            refine wpAnyH_one 20 57 (.pointer (some ⟨g, q * 5, none⟩)) hHeld rfl rfl (by kernel_rfl) (fun _ _ _ _ _ h => h) (by kernel_rfl) (by kernel_rfl) (by rfl) ?_ ?_
            · intro V hSw; (try dsimp only at hSw); go_simp
            simp only [Act.put, List.setIfInBounds_toArray, List.set_cons_zero, List.set_cons_succ]
            refine wpAnyH_one 21 58 (.pointer (some ⟨g, q * 5 + 3, none⟩)) hHeld rfl rfl (by kernel_rfl) (fun _ _ _ _ _ h => h) (by kernel_rfl) (by kernel_rfl) (by rfl) ?_ ?_
            · intro V hSw; (try dsimp only at hSw); go_simp
            simp only [Act.put, List.setIfInBounds_toArray, List.set_cons_zero, List.set_cons_succ]
            refine wpAnyH_ready (rs := [22]) (by kernel_rfl) (by simp) ?_
            refine AllReadyH.cons rfl (fun K hK => ?_) AllReadyH.nil
            go_simp
            refine hK.out _ _ S6.out (fun hHeld => ?_)
            clear hK K
            refine wpAnyH_done (by kernel_rfl) ?_ _
            go_wp2
            (try simp only [Exit.inBlock, Exit.then])
            refine bodyPost_end (results_none rfl _ _ _) rfl ?_
            exact ⟨rfl, HRet.out _ _ _ HFin.out⟩
          · have cA := (HT2.out.cell q hql 3  (by decide) (.slice o3 n3 c3) (by show some _ = _; exact congrArg some HV3.out)).1
            go_simp
            refine hK.out _ _ HT2.out.box (fun hHeld => ?_)
            clear hK K cA
            refine wpAnyH_ready (rs := [9]) (by kernel_rfl) (by simp) ?_
            refine AllReadyH.cons rfl (fun K hK => ?_) (AllReadyH.nil)
            obtain ⟨o5, c5, V3, hap, hT, hd⟩ := HT2.out.put p hpl true _ D1 HD1_2.out hb1
            have HT3 := hid hT
            have HD2_3 := hid (hd D2 _ HD2_2.out)
            have hs1 : side l0[p] true = .slice o1 n1 c1 := HV1.out
            have hn1 : (numsOf l0[p] true).length = n1 := HN1.out
            simp only [hs1, hn1] at hap HT3 HD2_3
            have HAp := hid hap
            clear hap hT hd hs1 hn1
            refine step_appendA _ rfl (.tmp 43) (.tmp 46) 23 23 rfl _ _ rfl rfl _ _ HAp.out (some 47) rfl ?_
            refine hK.out _ _ HT3.out.box (fun hHeld => ?_)
            clear hK K HAp
            simp only [Act.put, List.setIfInBounds_toArray, List.set_cons_zero, List.set_cons_succ]
            refine wpAnyH_ready (rs := [16]) (by kernel_rfl) (by simp) ?_
            refine AllReadyH.cons rfl (fun K hK => ?_) (AllReadyH.nil)
            have hLq : (l0.set p (putL l0[p] ((q : Int) + 1) (.slice o5 (n1 + 1) c5) true))[q]'(by simpa using hql) = l0[q] := List.getElem_set_ne hpq _
            obtain ⟨o6, c6, V4, hap, hT, hd⟩ := HT3.out.put q (by simpa using hql) false _ D2 HD2_3.out (by rw [hLq]; exact hb3)
            have HT4 := hid hT
            have hs1 : side l0[q] false = .slice o3 n3 c3 := HV3.out
            have hn1 : (numsOf l0[q] false).length = n3 := HN3.out
            simp only [hLq, hs1, hn1] at hap HT4
            have HAp := hid hap
            clear hap hT hd hs1 hn1 hLq
            refine step_appendA _ rfl (.tmp 51) (.tmp 53) 23 23 rfl _ _ rfl rfl _ _ HAp.out (some 54) rfl ?_
            refine hK.out _ _ HT4.out.box (fun hHeld => ?_)
            clear hK K HAp
            simp only [Act.put, List.setIfInBounds_toArray, List.set_cons_zero, List.set_cons_succ]
            obtain ⟨⟨u1, s1⟩, s2, s3, ⟨u2, s4⟩, s5, s6⟩ := tie_store hpl hql HT4.out (.slice o5 (n1 + 1) c5) (.slice o6 (n3 + 1) c6)
            have hfin := tie_done (w0 := w0) hpl hql hpq HT4.out
            have HFin := hid hfin
            have S3 := hid s3
            have S6 := hid s6
            clear hfin s3 s6
            refine wpAnyH_one 17 55 (.pointer (some ⟨g, p * 5, none⟩)) hHeld rfl rfl (by kernel_rfl) (fun _ _ _ _ _ h => h) (by kernel_rfl) (by kernel_rfl) (by rfl) ?_ ?_
            · intro V hSw; (try dsimp only at hSw); go_simp
            simp only [Act.put, List.setIfInBounds_toArray, List.set_cons_zero, List.set_cons_succ]
            refine wpAnyH_one 18 56 (.pointer (some ⟨g, p * 5 + 4, none⟩)) hHeld rfl rfl (by kernel_rfl) (fun _ _ _ _ _ h => h) (by kernel_rfl) (by kernel_rfl) (by rfl) ?_ ?_
            · intro V hSw; (try dsimp only at hSw); go_simp
            simp only [Act.put, List.setIfInBounds_toArray, List.set_cons_zero, List.set_cons_succ]
            refine wpAnyH_ready (rs := [19]) (by kernel_rfl) (by simp) ?_
            refine AllReadyH.cons rfl (fun K hK => ?_) AllReadyH.nil
            go_simp
            refine hK.out _ _ S3.out (fun hHeld => ?_)
            clear hK K
            refine wpAnyH_one 20 57 (.pointer (some ⟨g, q * 5, none⟩)) hHeld rfl rfl (by kernel_rfl) (fun _ _ _ _ _ h => h) (by kernel_rfl) (by kernel_rfl) (by rfl) ?_ ?_
            · intro V hSw; (try dsimp only at hSw); go_simp
            simp only [Act.put, List.setIfInBounds_toArray, List.set_cons_zero, List.set_cons_succ]
            refine wpAnyH_one 21 58 (.pointer (some ⟨g, q * 5 + 3, none⟩)) hHeld rfl rfl (by kernel_rfl) (fun _ _ _ _ _ h => h) (by kernel_rfl) (by kernel_rfl) (by rfl) ?_ ?_
            · intro V hSw; (try dsimp only at hSw); go_simp
            simp only [Act.put, List.setIfInBounds_toArray, List.set_cons_zero, List.set_cons_succ]
            refine wpAnyH_ready (rs := [22]) (by kernel_rfl) (by simp) ?_
            refine AllReadyH.cons rfl (fun K hK => ?_) AllReadyH.nil
            go_simp
            refine hK.out _ _ S6.out (fun hHeld => ?_)
            clear hK K
            refine wpAnyH_done (by kernel_rfl) ?_ _
            go_wp2
            (try simp only [Exit.inBlock, Exit.then])
            refine bodyPost_end (results_none rfl _ _ _) rfl ?_
            exact ⟨rfl, HRet.out _ _ _ HFin.out⟩
      · have cA := (HT1.out.cell q hql 3  (by decide) (.slice o3 n3 c3) (by show some _ = _; exact congrArg some HV3.out)).1
        go_simp
        refine hK.out _ _ HT1.out.box (fun hHeld => ?_)
        clear hK K cA
        refine wpAnyH_ready (rs := [5, 15]) (by kernel_rfl) (by simp) ?_
        refine AllReadyH.cons rfl (fun K hK => ?_) (AllReadyH.cons rfl (fun K hK => ?_) (AllReadyH.nil))
        · have cA := (HT1.out.cell p hpl 4  (by decide) (.slice o1 n1 c1) (by show some _ = _; exact congrArg some HV1.out)).1
          go_simp
          refine hK.out _ _ HT1.out.box (fun hHeld => ?_)
          clear hK K cA
          refine wpAnyH_ready (rs := [9, 15]) (by kernel_rfl) (by simp) ?_
          refine AllReadyH.cons rfl (fun K hK => ?_) (AllReadyH.cons rfl (fun K hK => ?_) (AllReadyH.nil))
          · obtain ⟨o5, c5, V2, hap, hT, hd⟩ := HT1.out.put p hpl true _ D1 HD1_1.out hb1
            have HT2 := hid hT
            have hs1 : side l0[p] true = .slice o1 n1 c1 := HV1.out
            have hn1 : (numsOf l0[p] true).length = n1 := HN1.out
            simp only [hs1, hn1] at hap HT2
            have HAp := hid hap
            clear hap hT hd hs1 hn1
            refine step_appendA _ rfl (.tmp 43) (.tmp 46) 23 23 rfl _ _ rfl rfl _ _ HAp.out (some 47) rfl ?_
            refine hK.out _ _ HT2.out.box (fun hHeld => ?_)
            clear hK K HAp
            simp only [Act.put, List.setIfInBounds_toArray, List.set_cons_zero, List.set_cons_succ]
            refine wpAnyH_ready (rs := [15]) (by kernel_rfl) (by simp) ?_
            refine AllReadyH.cons rfl (fun K hK => ?_) (AllReadyH.nil)
            go_simp
            have hba : Below V2.heap.size V2 (V2.alloc (.cells #[.int .i64 ((p : Int) + 1)] 3)) := (Below.refl _ V2).alloc (Nat.le_refl _) _
            have HT3 := hid (HT2.out.later hba)
            have HD2_3 := hid (HT2.out.lst.fresh ((p : Int) + 1))
            clear hba
            generalize V2.alloc (.cells #[.int .i64 ((p : Int) + 1)] 3) = V3 at *
            generalize V2.heap.size = D2 at *
            refine hK.out _ _ HT3.out.box (fun hHeld => ?_)
            clear hK K
            refine wpAnyH_ready (rs := [16]) (by kernel_rfl) (by simp) ?_
            refine AllReadyH.cons rfl (fun K hK => ?_) (AllReadyH.nil)
            have hLq : (l0.set p (putL l0[p] ((q : Int) + 1) (.slice o5 (n1 + 1) c5) true))[q]'(by simpa using hql) = l0[q] := List.getElem_set_ne hpq _
            obtain ⟨o6, c6, V4, hap, hT, hd⟩ := HT3.out.put q (by simpa using hql) false _ D2 HD2_3.out (by rw [hLq]; exact hb3)
            have HT4 := hid hT
            have hs1 : side l0[q] false = .slice o3 n3 c3 := HV3.out
            have hn1 : (numsOf l0[q] false).length = n3 := HN3.out
            simp only [hLq, hs1, hn1] at hap HT4
            have HAp := hid hap
            clear hap hT hd hs1 hn1 hLq
            refine step_appendA _ rfl (.tmp 51) (.tmp 53) 23 23 rfl _ _ rfl rfl _ _ HAp.out (some 54) rfl ?_
            refine hK.out _ _ HT4.out.box (fun hHeld => ?_)
            clear hK K HAp
            simp only [Act.put, List.setIfInBounds_toArray, List.set_cons_zero, List.set_cons_succ]
            obtain ⟨⟨u1, s1⟩, s2, s3, ⟨u2, s4⟩, s5, s6⟩ := tie_store hpl hql HT4.out (.slice o5 (n1 + 1) c5) (.slice o6 (n3 + 1) c6)
            have hfin := tie_done (w0 := w0) hpl hql hpq HT4.out
            have HFin := hid hfin
            have S3 := hid s3
            have S6 := hid s6
            clear hfin s3 s6
            refine wpAnyH_one 17 55 (.pointer (some ⟨g, p * 5, none⟩)) hHeld rfl rfl (by kernel_rfl) (fun _ _ _ _ _ h => h) (by kernel_rfl) (by kernel_rfl) (by rfl) ?_ ?_
            · intro V hSw; (try dsimp only at hSw); go_simp
            simp only [Act.put, List.setIfInBounds_toArray, List.set_cons_zero, List.set_cons_succ]
            refine wpAnyH_one 18 56 (.pointer (some ⟨g, p * 5 + 4, none⟩)) hHeld rfl rfl (by kernel_rfl) (fun _ _ _ _ _ h => h) (by kernel_rfl) (by kernel_rfl) (by rfl) ?_ ?_
            · intro V hSw; (try dsimp only at hSw); go_simp
            simp only [Act.put, List.setIfInBounds_toArray, List.set_cons_zero, List.set_cons_succ]
            refine wpAnyH_ready (rs := [19]) (by kernel_rfl) (by simp) ?_
            refine AllReadyH.cons rfl (fun K hK => ?_) AllReadyH.nil
            go_simp
            refine hK.out _ _ S3.out (fun hHeld => ?_)
            clear hK K
            refine wpAnyH_one 20 57 (.pointer (some ⟨g, q * 5, none⟩)) hHeld rfl rfl (by kernel_rfl) (fun _ _ _ _ _ h => h) (by kernel_rfl) (by kernel_rfl) (by rfl) ?_ ?_
            · intro V hSw; (try dsimp only at hSw); go_simp
            simp only [Act.put, List.setIfInBounds_toArray, List.set_cons_zero, List.set_cons_succ]
            refine wpAnyH_one 21 58 (.pointer (some ⟨g, q * 5 + 3, none⟩)) hHeld rfl rfl (by kernel_rfl) (fun _ _ _ _ _ h => h) (by kernel_rfl) (by kernel_rfl) (by rfl) ?_ ?_
            · intro V hSw; (try dsimp only at hSw); go_simp
            simp only [Act.put, List.setIfInBounds_toArray, List.set_cons_zero, List.set_cons_succ]
            refine wpAnyH_ready (rs := [22]) (by kernel_rfl) (by simp) ?_
            refine AllReadyH.cons rfl (fun K hK => ?_) AllReadyH.nil
            go_simp
            refine hK.out _ _ S6.out (fun hHeld => ?_)
            clear hK K
            refine wpAnyH_done (by kernel_rfl) ?_ _
            go_wp2
            (try simp only [Exit.inBlock, Exit.then])
            refine bodyPost_end (results_none rfl _ _ _) rfl ?_
            exact ⟨rfl, HRet.out _ _ _ HFin.out⟩
          · go_simp
            have hba : Below V1.heap.size V1 (V1.alloc (.cells #[.int .i64 ((p : Int) + 1)] 3)) := (Below.refl _ V1).alloc (Nat.le_refl _) _
            have HT2 := hid (HT1.out.later hba)
            have HD2_2 := hid (HT1.out.lst.fresh ((p : Int) + 1))
            have HD1_2 := hid (HD1_1.out.later hba)
            clear hba
            generalize V1.alloc (.cells #[.int .i64 ((p : Int) + 1)] 3) = V2 at *
            generalize V1.heap.size = D2 at *
            refine hK.out _ _ HT2.out.box (fun hHeld => ?_)
            clear hK K
            refine wpAnyH_ready (rs := [9]) (by kernel_rfl) (by simp) ?_
            refine AllReadyH.cons rfl (fun K hK => ?_) (AllReadyH.nil)
            obtain ⟨o5, c5, V3, hap, hT, hd⟩ := HT2.out.put p hpl true _ D1 HD1_2.out hb1
            have HT3 := hid hT
            have HD2_3 := hid (hd D2 _ HD2_2.out)
            have hs1 : side l0[p] true = .slice o1 n1 c1 := HV1.out
            have hn1 : (numsOf l0[p] true).length = n1 := HN1.out
            simp only [hs1, hn1] at hap HT3 HD2_3
            have HAp := hid hap
            clear hap hT hd hs1 hn1
            refine step_appendA _ rfl (.tmp 43) (.tmp 46) 23 23 rfl _ _ rfl rfl _ _ HAp.out (some 47) rfl ?_
            refine hK.out _ _ HT3.out.box (fun hHeld => ?_)
            clear hK K HAp
            simp only [Act.put, List.setIfInBounds_toArray, List.set_cons_zero, List.set_cons_succ]
            refine wpAnyH_ready (rs := [16]) (by kernel_rfl) (by simp) ?_
            refine AllReadyH.cons rfl (fun K hK => ?_) (AllReadyH.nil)
            have hLq : (l0.set p (putL l0[p] ((q : Int) + 1) (.slice o5 (n1 + 1) c5) true))[q]'(by simpa using hql) = l0[q] := List.getElem_set_ne hpq _
            obtain ⟨o6, c6, V4, hap, hT, hd⟩ := HT3.out.put q (by simpa using hql) false _ D2 HD2_3.out (by rw [hLq]; exact hb3)
            have HT4 := hid hT
            have hs1 : side l0[q] false = .slice o3 n3 c3 := HV3.out
            have hn1 : (numsOf l0[q] false).length = n3 := HN3.out
            simp only [hLq, hs1, hn1] at hap HT4
            have HAp := hid hap
            clear hap hT hd hs1 hn1 hLq
            refine step_appendA _ rfl (.tmp 51) (.tmp 53) 23 23 rfl _ _ rfl rfl _ _ HAp.out (some 54) rfl ?_
            refine hK.out _ _ HT4.out.box (fun hHeld => ?_)
            clear hK K HAp
            simp only [Act.put, List.setIfInBounds_toArray, List.set_cons_zero, List.set_cons_succ]
            obtain ⟨⟨u1, s1⟩, s2, s3, ⟨u2, s4⟩, s5, s6⟩ := tie_store hpl hql HT4.out (.slice o5 (n1 + 1) c5) (.slice o6 (n3 + 1) c6)
            have hfin := tie_done (w0 := w0) hpl hql hpq HT4.out
            have HFin := hid hfin
            have S3 := hid s3
            have S6 := hid s6
            clear hfin s3 s6
            refine wpAnyH_one 17 55 (.pointer (some ⟨g, p * 5, none⟩)) hHeld rfl rfl (by kernel_rfl) (fun _ _ _ _ _ h => h) (by kernel_rfl) (by kernel_rfl) (by rfl) ?_ ?_
            · intro V hSw; (try dsimp only at hSw); go_simp
            simp only [Act.put, List.setIfInBounds_toArray, List.set_cons_zero, List.set_cons_succ]
            refine wpAnyH_one 18 56 (.pointer (some ⟨g, p * 5 + 4, none⟩)) hHeld rfl rfl (by kernel_rfl) (fun _ _ _ _ _ h => h) (by kernel_rfl) (by kernel_rfl) (by rfl) ?_ ?_
            · intro V hSw; (try dsimp only at hSw); go_simp
            simp only [Act.put, List.setIfInBounds_toArray, List.set_cons_zero, List.set_cons_succ]
            refine wpAnyH_ready (rs := [19]) (by kernel_rfl) (by simp) ?_
            refine AllReadyH.cons rfl (fun K hK => ?_) AllReadyH.nil
            go_simp
            refine hK.out _ _ S3.out (fun hHeld => ?_)
            clear hK K
            refine wpAnyH_one 20 57 (.pointer (some ⟨g, q * 5, none⟩)) hHeld rfl rfl (by kernel_rfl) (fun _ _ _ _ _ h => h) (by kernel_rfl) (by kernel_rfl) (by rfl) ?_ ?_
            · intro V hSw; (try dsimp only at hSw); go_simp
            simp only [Act.put, List.setIfInBounds_toArray, List.set_cons_zero, List.set_cons_succ]
            refine wpAnyH_one 21 58 (.pointer (some ⟨g, q * 5 + 3, none⟩)) hHeld rfl rfl (by kernel_rfl) (fun _ _ _ _ _ h => h) (by kernel_rfl) (by kernel_rfl) (by rfl) ?_ ?_
            · intro V hSw; (try dsimp only at hSw); go_simp
            simp only [Act.put, List.setIfInBounds_toArray, List.set_cons_zero, List.set_cons_succ]
            refine wpAnyH_ready (rs := [22]) (by kernel_rfl) (by simp) ?_
            refine AllReadyH.cons rfl (fun K hK => ?_) AllReadyH.nil
            go_simp
            refine hK.out _ _ S6.out (fun hHeld => ?_)
            clear hK K
            refine wpAnyH_done (by kernel_rfl) ?_ _
            go_wp2
            (try simp only [Exit.inBlock, Exit.then])
            refine bodyPost_end (results_none rfl _ _ _) rfl ?_
            exact ⟨rfl, HRet.out _ _ _ HFin.out⟩
        · go_simp
          have hba : Below V1.heap.size V1 (V1.alloc (.cells #[.int .i64 ((p : Int) + 1)] 3)) := (Below.refl _ V1).alloc (Nat.le_refl _) _
          have HT2 := hid (HT1.out.later hba)
          have HD2_2 := hid (HT1.out.lst.fresh ((p : Int) + 1))
          have HD1_2 := hid (HD1_1.out.later hba)
          clear hba
          generalize V1.alloc (.cells #[.int .i64 ((p : Int) + 1)] 3) = V2 at *
          generalize V1.heap.size = D2 at *
          refine hK.out _ _ HT2.out.box (fun hHeld => ?_)
          clear hK K
          refine wpAnyH_ready (rs := [5]) (by kernel_rfl) (by simp) ?_
          refine AllReadyH.cons rfl (fun K hK => ?_) (AllReadyH.nil)
          have cA := (HT2.out.cell p hpl 4  (by decide) (.slice o1 n1 c1) (by show some _ = _; exact congrArg some HV1.out)).1
          go_simp
          refine hK.out _ _ HT2.out.box (fun hHeld => ?_)
          clear hK K cA
          refine wpAnyH_ready (rs := [9]) (by kernel_rfl) (by simp) ?_
          refine AllReadyH.cons rfl (fun K hK => ?_) (AllReadyH.nil)
          obtain ⟨o5, c5, V3, hap, hT, hd⟩ := HT2.out.put p hpl true _ D1 HD1_2.out hb1
          have HT3 := hid hT
          have HD2_3 := hid (hd D2 _ HD2_2.out)
          have hs1 : side l0[p] true = .slice o1 n1 c1 := HV1.out
          have hn1 : (numsOf l0[p] true).length = n1 := HN1.out
          simp only [hs1, hn1] at hap HT3 HD2_3
          have HAp := hid hap
          clear hap hT hd hs1 hn1
          refine step_appendA _ rfl (.tmp 43) (.tmp 46) 23 23 rfl _ _ rfl rfl _ _ HAp.out (some 47) rfl ?_
          refine hK.out _ _ HT3.out.box (fun hHeld => ?_)
          clear hK K HAp
          simp only [Act.put, List.setIfInBounds_toArray, List.set_cons_zero, List.set_cons_succ]
          refine wpAnyH_ready (rs := [16]) (by kernel_rfl) (by simp) ?_
          refine AllReadyH.cons rfl (fun K hK => ?_) (AllReadyH.nil)
          have hLq : (l0.set p (putL l0[p] ((q : Int) + 1) (.slice o5 (n1 + 1) c5) true))[q]'(by simpa using hql) = l0[q] := List.getElem_set_ne hpq _
          obtain ⟨o6, c6, V4, hap, hT, hd⟩ := HT3.out.put q (by simpa using hql) false _ D2 HD2_3.out (by rw [hLq]; exact hb3)
          have HT4 := hid hT
          have hs1 : side l0[q] false = .slice o3 n3 c3 := HV3.out
          have hn1 : (numsOf l0[q] false).length = n3 := HN3.out
          simp only [hLq, hs1, hn1] at hap HT4
          have HAp := hid hap
          clear hap hT hd hs1 hn1 hLq
          refine step_appendA _ rfl (.tmp 51) (.tmp 53) 23 23 rfl _ _ rfl rfl _ _ HAp.out (some 54) rfl ?_
          refine hK.out _ _ HT4.out.box (fun hHeld => ?_)
          clear hK K HAp
          simp only [Act.put, List.setIfInBounds_toArray, List.set_cons_zero, List.set_cons_succ]
          obtain ⟨⟨u1, s1⟩, s2, s3, ⟨u2, s4⟩, s5, s6⟩ := tie_store hpl hql HT4.out (.slice o5 (n1 + 1) c5) (.slice o6 (n3 + 1) c6)
          have hfin := tie_done (w0 := w0) hpl hql hpq HT4.out
          have HFin := hid hfin
          have S3 := hid s3
          have S6 := hid s6
          clear hfin s3 s6
          refine wpAnyH_one 17 55 (.pointer (some ⟨g, p * 5, none⟩)) hHeld rfl rfl (by kernel_rfl) (fun _ _ _ _ _ h => h) (by kernel_rfl) (by kernel_rfl) (by rfl) ?_ ?_
          · intro V hSw; (try dsimp only at hSw); go_simp
          simp only [Act.put, List.setIfInBounds_toArray, List.set_cons_zero, List.set_cons_succ]
          refine wpAnyH_one 18 56 (.pointer (some ⟨g, p * 5 + 4, none⟩)) hHeld rfl rfl (by kernel_rfl) (fun _ _ _ _ _ h => h) (by kernel_rfl) (by kernel_rfl) (by rfl) ?_ ?_
          · intro V hSw; (try dsimp only at hSw); go_simp
          simp only [Act.put, List.setIfInBounds_toArray, List.set_cons_zero, List.set_cons_succ]
          refine wpAnyH_ready (rs := [19]) (by kernel_rfl) (by simp) ?_
          refine AllReadyH.cons rfl (fun K hK => ?_) AllReadyH.nil
          go_simp
          refine hK.out _ _ S3.out (fun hHeld => ?_)
          clear hK K
          refine wpAnyH_one 20 57 (.pointer (some ⟨g, q * 5, none⟩)) hHeld rfl rfl (by kernel_rfl) (fun _ _ _ _ _ h => h) (by kernel_rfl) (by kernel_rfl) (by rfl) ?_ ?_
          · intro V hSw; (try dsimp only at hSw); go_simp
          simp only [Act.put, List.setIfInBounds_toArray, List.set_cons_zero, List.set_cons_succ]
          refine wpAnyH_one 21 58 (.pointer (some ⟨g, q * 5 + 3, none⟩)) hHeld rfl rfl (by kernel_rfl) (fun _ _ _ _ _ h => h) (by kernel_rfl) (by kernel_rfl) (by rfl) ?_ ?_
          · intro V hSw; (try dsimp only at hSw); go_simp
          simp only [Act.put, List.setIfInBounds_toArray, List.set_cons_zero, List.set_cons_succ]
          refine wpAnyH_ready (rs := [22]) (by kernel_rfl) (by simp) ?_
          refine AllReadyH.cons rfl (fun K hK => ?_) AllReadyH.nil
          go_simp
          refine hK.out _ _ S6.out (fun hHeld => ?_)
          clear hK K
          refine wpAnyH_done (by kernel_rfl) ?_ _
          go_wp2
          (try simp only [Exit.inBlock, Exit.then])
          refine bodyPost_end (results_none rfl _ _ _) rfl ?_
          exact ⟨rfl, HRet.out _ _ _ HFin.out⟩
      · go_simp
        have hba : Below V1.heap.size V1 (V1.alloc (.cells #[.int .i64 ((p : Int) + 1)] 3)) := (Below.refl _ V1).alloc (Nat.le_refl _) _
        have HT2 := hid (HT1.out.later hba)
        have HD2_2 := hid (HT1.out.lst.fresh ((p : Int) + 1))
        have HD1_2 := hid (HD1_1.out.later hba)
        clear hba
        generalize V1.alloc (.cells #[.int .i64 ((p : Int) + 1)] 3) = V2 at *
        generalize V1.heap.size = D2 at *
        refine hK.out _ _ HT2.out.box (fun hHeld => ?_)
        clear hK K
        refine wpAnyH_ready (rs := [5, 13]) (by kernel_rfl) (by simp) ?_
        refine AllReadyH.cons rfl (fun K hK => ?_) (AllReadyH.cons rfl (fun K hK => ?_) (AllReadyH.nil))
        · have cA := (HT2.out.cell p hpl 4  (by decide) (.slice o1 n1 c1) (by show some _ = _; exact congrArg some HV1.out)).1
          go_simp
          refine hK.out _ _ HT2.out.box (fun hHeld => ?_)
          clear hK K cA
          refine wpAnyH_ready (rs := [9, 13]) (by kernel_rfl) (by simp) ?_
          refine AllReadyH.cons rfl (fun K hK => ?_) (AllReadyH.cons rfl (fun K hK => ?_) (AllReadyH.nil))
          · obtain ⟨o5, c5, V3, hap, hT, hd⟩ := HT2.out.put p hpl true _ D1 HD1_2.out hb1
            have HT3 := hid hT
            have HD2_3 := hid (hd D2 _ HD2_2.out)
            have hs1 : side l0[p] true = .slice o1 n1 c1 := HV1.out
            have hn1 : (numsOf l0[p] true).length = n1 := HN1.out
            simp only [hs1, hn1] at hap HT3 HD2_3
            have HAp := hid hap
            clear hap hT hd hs1 hn1
            refine step_appendA _ rfl (.tmp 43) (.tmp 46) 23 23 rfl _ _ rfl rfl _ _ HAp.out (some 47) rfl ?_
            refine hK.out _ _ HT3.out.box (fun hHeld => ?_)
            clear hK K HAp
            simp only [Act.put, List.setIfInBounds_toArray, List.set_cons_zero, List.set_cons_succ]
            refine wpAnyH_ready (rs := [13]) (by kernel_rfl) (by simp) ?_
            refine AllReadyH.cons rfl (fun K hK => ?_) (AllReadyH.nil)
            have cA := (HT3.out.cell q hql 3  (by decide) (.slice o3 n3 c3) (by show some _ = _; exact congrArg some HV3.out)).1
            go_simp
            refine hK.out _ _ HT3.out.box (fun hHeld => ?_)
            clear hK K cA
            refine wpAnyH_ready (rs := [16]) (by kernel_rfl) (by simp) ?_
            refine AllReadyH.cons rfl (fun K hK => ?_) (AllReadyH.nil)
            have hLq : (l0.set p (putL l0[p] ((q : Int) + 1) (.slice o5 (n1 + 1) c5) true))[q]'(by simpa using hql) = l0[q] := List.getElem_set_ne hpq _
            obtain ⟨o6, c6, V4, hap, hT, hd⟩ := HT3.out.put q (by simpa using hql) false _ D2 HD2_3.out (by rw [hLq]; exact hb3)
            have HT4 := hid hT
            have hs1 : side l0[q] false = .slice o3 n3 c3 := HV3.out
            have hn1 : (numsOf l0[q] false).length = n3 := HN3.out
            simp only [hLq, hs1, hn1] at hap HT4
            have HAp := hid hap
            clear hap hT hd hs1 hn1 hLq
            refine step_appendA _ rfl (.tmp 51) (.tmp 53) 23 23 rfl _ _ rfl rfl _ _ HAp.out (some 54) rfl ?_
            refine hK.out _ _ HT4.out.box (fun hHeld => ?_)
            clear hK K HAp
            simp only [Act.put, List.setIfInBounds_toArray, List.set_cons_zero, List.set_cons_succ]
            obtain ⟨⟨u1, s1⟩, s2, s3, ⟨u2, s4⟩, s5, s6⟩ := tie_store hpl hql HT4.out (.slice o5 (n1 + 1) c5) (.slice o6 (n3 + 1) c6)
            have hfin := tie_done (w0 := w0) hpl hql hpq HT4.out
            have HFin := hid hfin
            have S3 := hid s3
            have S6 := hid s6
            clear hfin s3 s6
            refine wpAnyH_one 17 55 (.pointer (some ⟨g, p * 5, none⟩)) hHeld rfl rfl (by kernel_rfl) (fun _ _ _ _ _ h => h) (by kernel_rfl) (by kernel_rfl) (by rfl) ?_ ?_
            · intro V hSw; (try dsimp only at hSw); go_simp
            simp only [Act.put, List.setIfInBounds_toArray, List.set_cons_zero, List.set_cons_succ]
            refine wpAnyH_one 18 56 (.pointer (some ⟨g, p * 5 + 4, none⟩)) hHeld rfl rfl (by kernel_rfl) (fun _ _ _ _ _ h => h) (by kernel_rfl) (by kernel_rfl) (by rfl) ?_ ?_
            · intro V hSw; (try dsimp only at hSw); go_simp
            simp only [Act.put, List.setIfInBounds_toArray, List.set_cons_zero, List.set_cons_succ]
            refine wpAnyH_ready (rs := [19]) (by kernel_rfl) (by simp) ?_
            refine AllReadyH.cons rfl (fun K hK => ?_) AllReadyH.nil
            go_simp
            refine hK.out _ _ S3.out (fun hHeld => ?_)
            clear hK K
            refine wpAnyH_one 20 57 (.pointer (some ⟨g, q * 5, none⟩)) hHeld rfl rfl (by kernel_rfl) (fun _ _ _ _ _ h => h) (by kernel_rfl) (by kernel_rfl) (by rfl) ?_ ?_
            · intro V hSw; (try dsimp only at hSw); go_simp
            simp only [Act.put, List.setIfInBounds_toArray, List.set_cons_zero, List.set_cons_succ]
            refine wpAnyH_one 21 58 (.pointer (some ⟨g, q * 5 + 3, none⟩)) hHeld rfl rfl (by kernel_rfl) (fun _ _ _ _ _ h => h) (by kernel_rfl) (by kernel_rfl) (by rfl) ?_ ?_
            · intro V hSw; (try dsimp only at hSw); go_simp
            simp only [Act.put, List.setIfInBounds_toArray, List.set_cons_zero, List.set_cons_succ]
            refine wpAnyH_ready (rs := [22]) (by kernel_rfl) (by simp) ?_
            refine AllReadyH.cons rfl (fun K hK => ?_) AllReadyH.nil
            go_simp
            refine hK.out _ _ S6.out (fun hHeld => ?_)
            clear hK K
            refine wpAnyH_done (by kernel_rfl) ?_ _
            go_wp2
            (try simp only [Exit.inBlock, Exit.then])
            refine bodyPost_end (results_none rfl _ _ _) rfl ?_
            exact ⟨rfl, HRet.out _ _ _ HFin.out⟩
          · have cA := (HT2.out.cell q hql 3  (by decide) (.slice o3 n3 c3) (by show some _ = _; exact congrArg some HV3.out)).1
            go_simp
            refine hK.out _ _ HT2.out.box (fun hHeld => ?_)
            clear hK K cA
            refine wpAnyH_ready (rs := [9]) (by kernel_rfl) (by simp) ?_
            refine AllReadyH.cons rfl (fun K hK => ?_) (AllReadyH.nil)
            obtain ⟨o5, c5, V3, hap, hT, hd⟩ := HT2.out.put p hpl true _ D1 HD1_2.out hb1
            have HT3 := hid hT
            have HD2_3 := hid (hd D2 _ HD2_2.out)
            have hs1 : side l0[p] true = .slice o1 n1 c1 := HV1.out
            have hn1 : (numsOf l0[p] true).length = n1 := HN1.out
            simp only [hs1, hn1] at hap HT3 HD2_3
            have HAp := hid hap
            clear hap hT hd hs1 hn1
            refine step_appendA _ rfl (.tmp 43) (.tmp 46) 23 23 rfl _ _ rfl rfl _ _ HAp.out (some 47) rfl ?_
            refine hK.out _ _ HT3.out.box (fun hHeld => ?_)
            clear hK K HAp
            simp only [Act.put, List.setIfInBounds_toArray, List.set_cons_zero, List.set_cons_succ]
            refine wpAnyH_ready (rs := [16]) (by kernel_rfl) (by simp) ?_
            refine AllReadyH.cons rfl (fun K hK => ?_) (AllReadyH.nil)
            have hLq : (l0.set p (putL l0[p] ((q : Int) + 1) (.slice o5 (n1 + 1) c5) true))[q]'(by simpa using hql) = l0[q] := List.getElem_set_ne hpq _
            obtain ⟨o6, c6, V4, hap, hT, hd⟩ := HT3.out.put q (by simpa using hql) false _ D2 HD2_3.out (by rw [hLq]; exact hb3)
            have HT4 := hid hT
            have hs1 : side l0[q] false = .slice o3 n3 c3 := HV3.out
            have hn1 : (numsOf l0[q] false).length = n3 := HN3.out
            simp only [hLq, hs1, hn1] at hap HT4
            have HAp := hid hap
            clear hap hT hd hs1 hn1 hLq
            refine step_appendA _ rfl (.tmp 51) (.tmp 53) 23 23 rfl _ _ rfl rfl _ _ HAp.out (some 54) rfl ?_
            refine hK.out _ _ HT4.out.box (fun hHeld => ?_)
            clear hK K HAp
            simp only [Act.put, List.setIfInBounds_toArray, List.set_cons_zero, List.set_cons_succ]
            obtain ⟨⟨u1, s1⟩, s2, s3, ⟨u2, s4⟩, s5, s6⟩ := tie_store hpl hql HT4.out (.slice o5 (n1 + 1) c5) (.slice o6 (n3 + 1) c6)
            have hfin := tie_done (w0 := w0) hpl hql hpq HT4.out
            have HFin := hid hfin
            have S3 := hid s3
            have S6 := hid s6
            clear hfin s3 s6
            refine wpAnyH_one 17 55 (.pointer (some ⟨g, p * 5, none⟩)) hHeld rfl rfl (by kernel_rfl) (fun _ _ _ _ _ h => h) (by kernel_rfl) (by kernel_rfl) (by rfl) ?_ ?_
            · intro V hSw; (try dsimp only at hSw); go_simp
            simp only [Act.put, List.setIfInBounds_toArray, List.set_cons_zero, List.set_cons_succ]
            refine wpAnyH_one 18 56 (.pointer (some ⟨g, p * 5 + 4, none⟩)) hHeld rfl rfl (by kernel_rfl) (fun _ _ _ _ _ h => h) (by kernel_rfl) (by kernel_rfl) (by rfl) ?_ ?_
            · intro V hSw; (try dsimp only at hSw); go_simp
            simp only [Act.put, List.setIfInBounds_toArray, List.set_cons_zero, List.set_cons_succ]
            refine wpAnyH_ready (rs := [19]) (by kernel_rfl) (by simp) ?_
            refine AllReadyH.cons rfl (fun K hK => ?_) AllReadyH.nil
            go_simp
            refine hK.out _ _ S3.out (fun hHeld => ?_)
            clear hK K
            refine wpAnyH_one 20 57 (.pointer (some ⟨g, q * 5, none⟩)) hHeld rfl rfl (by kernel_rfl) (fun _ _ _ _ _ h => h) (by kernel_rfl) (by kernel_rfl) (by rfl) ?_ ?_
            · intro V hSw; (try dsimp only at hSw); go_simp
            simp only [Act.put, List.setIfInBounds_toArray, List.set_cons_zero, List.set_cons_succ]
            refine wpAnyH_one 21 58 (.pointer (some ⟨g, q * 5 + 3, none⟩)) hHeld rfl rfl (by kernel_rfl) (fun _ _ _ _ _ h => h) (by kernel_rfl) (by kernel_rfl) (by rfl) ?_ ?_
            · intro V hSw; (try dsimp only at hSw); go_simp
            simp only [Act.put, List.setIfInBounds_toArray, List.set_cons_zero, List.set_cons_succ]
            refine wpAnyH_ready (rs := [22]) (by kernel_rfl) (by simp) ?_
            refine AllReadyH.cons rfl (fun K hK => ?_) AllReadyH.nil
            go_simp
            refine hK.out _ _ S6.out (fun hHeld => ?_)
            clear hK K
            refine wpAnyH_done (by kernel_rfl) ?_ _
            go_wp2
            (try simp only [Exit.inBlock, Exit.then])
            refine bodyPost_end (results_none rfl _ _ _) rfl ?_
            exact ⟨rfl, HRet.out _ _ _ HFin.out⟩
        · have cA := (HT2.out.cell q hql 3  (by decide) (.slice o3 n3 c3) (by show some _ = _; exact congrArg some HV3.out)).1
          go_simp
          refine hK.out _ _ HT2.out.box (fun hHeld => ?_)
          clear hK K cA
          refine wpAnyH_ready (rs := [5]) (by kernel_rfl) (by simp) ?_
          refine AllReadyH.cons rfl (fun K hK => ?_) (AllReadyH.nil)
          have cA := (HT2.out.cell p hpl 4  (by decide) (.slice o1 n1 c1) (by show some _ = _; exact congrArg some HV1.out)).1
          go_simp
          refine hK.out _ _ HT2.out.box (fun hHeld => ?_)
          clear hK K cA
          refine wpAnyH_ready (rs := [9]) (by kernel_rfl) (by simp) ?_
          refine AllReadyH.cons rfl (fun K hK => ?_) (AllReadyH.nil)
          obtain ⟨o5, c5, V3, hap, hT, hd⟩ := HT2.out.put p hpl true _ D1 HD1_2.out hb1
          have HT3 := hid hT
          have HD2_3 := hid (hd D2 _ HD2_2.out)
          have hs1 : side l0[p] true = .slice o1 n1 c1 := HV1.out
          have hn1 : (numsOf l0[p] true).length = n1 := HN1.out
          simp only [hs1, hn1] at hap HT3 HD2_3
          have HAp := hid hap
          clear hap hT hd hs1 hn1
          refine step_appendA _ rfl (.tmp 43) (.tmp 46) 23 23 rfl _ _ rfl rfl _ _ HAp.out (some 47) rfl ?_
          refine hK.out _ _ HT3.out.box (fun hHeld => ?_)
          clear hK K HAp
          simp only [Act.put, List.setIfInBounds_toArray, List.set_cons_zero, List.set_cons_succ]
          refine wpAnyH_ready (rs := [16]) (by kernel_rfl) (by simp) ?_
          refine AllReadyH.cons rfl (fun K hK => ?_) (AllReadyH.nil)
          have hLq : (l0.set p (putL l0[p] ((q : Int) + 1) (.slice o5 (n1 + 1) c5) true))[q]'(by simpa using hql) = l0[q] := List.getElem_set_ne hpq _
          obtain ⟨o6, c6, V4, hap, hT, hd⟩ := HT3.out.put q (by simpa using hql) false _ D2 HD2_3.out (by rw [hLq]; exact hb3)
          have HT4 := hid hT
          have hs1 : side l0[q] false = .slice o3 n3 c3 := HV3.out
          have hn1 : (numsOf l0[q] false).length = n3 := HN3.out
          simp only [hLq, hs1, hn1] at hap HT4
          have HAp := hid hap
          clear hap hT hd hs1 hn1 hLq
          refine step_appendA _ rfl (.tmp 51) (.tmp 53) 23 23 rfl _ _ rfl rfl _ _ HAp.out (some 54) rfl ?_
          refine hK.out _ _ HT4.out.box (fun hHeld => ?_)
          clear hK K HAp
          simp only [Act.put, List.setIfInBounds_toArray, List.set_cons_zero, List.set_cons_succ]
          obtain ⟨⟨u1, s1⟩, s2, s3, ⟨u2, s4⟩, s5, s6⟩ := tie_store hpl hql HT4.out (.slice o5 (n1 + 1) c5) (.slice o6 (n3 + 1) c6)
          have hfin := tie_done (w0 := w0) hpl hql hpq HT4.out
          have HFin := hid hfin
          have S3 := hid s3
          have S6 := hid s6
          clear hfin s3 s6
          refine wpAnyH_one 17 55 (.pointer (some ⟨g, p * 5, none⟩)) hHeld rfl rfl (by kernel_rfl) (fun _ _ _ _ _ h => h) (by kernel_rfl) (by kernel_rfl) (by rfl) ?_ ?_
          · intro V hSw; (try dsimp only at hSw); go_simp
          simp only [Act.put, List.setIfInBounds_toArray, List.set_cons_zero, List.set_cons_succ]
          refine wpAnyH_one 18 56 (.pointer (some ⟨g, p * 5 + 4, none⟩)) hHeld rfl rfl (by kernel_rfl) (fun _ _ _ _ _ h => h) (by kernel_rfl) (by kernel_rfl) (by rfl) ?_ ?_
          · intro V hSw; (try dsimp only at hSw); go_simp
          simp only [Act.put, List.setIfInBounds_toArray, List.set_cons_zero, List.set_cons_succ]
          refine wpAnyH_ready (rs := [19]) (by kernel_rfl) (by simp) ?_
          refine AllReadyH.cons rfl (fun K hK => ?_) AllReadyH.nil
          go_simp
          refine hK.out _ _ S3.out (fun hHeld => ?_)
          clear hK K
          refine wpAnyH_one 20 57 (.pointer (some ⟨g, q * 5, none⟩)) hHeld rfl rfl (by kernel_rfl) (fun _ _ _ _ _ h => h) (by kernel_rfl) (by kernel_rfl) (by rfl) ?_ ?_
          · intro V hSw; (try dsimp only at hSw); go_simp
          simp only [Act.put, List.setIfInBounds_toArray, List.set_cons_zero, List.set_cons_succ]
          refine wpAnyH_one 21 58 (.pointer (some ⟨g, q * 5 + 3, none⟩)) hHeld rfl rfl (by kernel_rfl) (fun _ _ _ _ _ h => h) (by kernel_rfl) (by kernel_rfl) (by rfl) ?_ ?_
          · intro V hSw; (try dsimp only at hSw); go_simp
          simp only [Act.put, List.setIfInBounds_toArray, List.set_cons_zero, List.set_cons_succ]
          refine wpAnyH_ready (rs := [22]) (by kernel_rfl) (by simp) ?_
          refine AllReadyH.cons rfl (fun K hK => ?_) AllReadyH.nil
          go_simp
          refine hK.out _ _ S6.out (fun hHeld => ?_)
          clear hK K
          refine wpAnyH_done (by kernel_rfl) ?_ _
          go_wp2
          (try simp only [Exit.inBlock, Exit.then])
          refine bodyPost_end (results_none rfl _ _ _) rfl ?_
          exact ⟨rfl, HRet.out _ _ _ HFin.out⟩
    · have cA := (HT0.out.cell q hql 3  (by decide) (.slice o3 n3 c3) (by show some _ = _; exact congrArg some HV3.out)).1
      go_simp
      refine hK.out _ _ HT0.out.box (fun hHeld => ?_)
      clear hK K cA
      refine wpAnyH_ready (rs := [5, 8, 15]) (by kernel_rfl) (by simp) ?_
      refine AllReadyH.cons rfl (fun K hK => ?_) (AllReadyH.cons rfl (fun K hK => ?_) (AllReadyH.cons rfl (fun K hK => ?_) (AllReadyH.nil)))
      · have cA := (HT0.out.cell p hpl 4  (by decide) (.slice o1 n1 c1) (by show some _ = _; exact congrArg some HV1.out)).1
        go_simp
        refine hK.out _ _ HT0.out.box (fun hHeld => ?_)
        clear hK K cA
        refine wpAnyH_ready (rs := [8, 15]) (by kernel_rfl) (by simp) ?_
        refine AllReadyH.cons rfl (fun K hK => ?_) (AllReadyH.cons rfl (fun K hK => ?_) (AllReadyH.nil))
        · go_simp
          have hba : Below V0.heap.size V0 (V0.alloc (.cells #[.int .i64 ((q : Int) + 1)] 3)) := (Below.refl _ V0).alloc (Nat.le_refl _) _
          have HT1 := hid (HT0.out.later hba)
          have HD1_1 := hid (HT0.out.lst.fresh ((q : Int) + 1))
          clear hba
          generalize V0.alloc (.cells #[.int .i64 ((q : Int) + 1)] 3) = V1 at *
          generalize V0.heap.size = D1 at *
          refine hK.out _ _ HT1.out.box (fun hHeld => ?_)
          clear hK K
          refine wpAnyH_ready (rs := [9, 15]) (by kernel_rfl) (by simp) ?_
          refine AllReadyH.cons rfl (fun K hK => ?_) (AllReadyH.cons rfl (fun K hK => ?_) (AllReadyH.nil))
          · obtain ⟨o5, c5, V2, hap, hT, hd⟩ := HT1.out.put p hpl true _ D1 HD1_1.out hb1
            have HT2 := hid hT
            have hs1 : side l0[p] true = .slice o1 n1 c1 := HV1.out
            have hn1 : (numsOf l0[p] true).length = n1 := HN1.out
            simp only [hs1, hn1] at hap HT2
            have HAp := hid hap
            clear hap hT hd hs1 hn1
            refine step_appendA _ rfl (.tmp 43) (.tmp 46) 23 23 rfl _ _ rfl rfl _ _ HAp.out (some 47) rfl ?_
            refine hK.out _ _ HT2.out.box (fun hHeld => ?_)
            clear hK K HAp
            simp only [Act.put, List.setIfInBounds_toArray, List.set_cons_zero, List.set_cons_succ]
            refine wpAnyH_ready (rs := [15]) (by kernel_rfl) (by simp) ?_
            refine AllReadyH.cons rfl (fun K hK => ?_) (AllReadyH.nil)
            go_simp
            have hba : Below V2.heap.size V2 (V2.alloc (.cells #[.int .i64 ((p : Int) + 1)] 3)) := (Below.refl _ V2).alloc (Nat.le_refl _) _
            have HT3 := hid (HT2.out.later hba)
            have HD2_3 := hid (HT2.out.lst.fresh ((p : Int) + 1))
            clear hba
            generalize V2.alloc (.cells #[.int .i64 ((p : Int) + 1)] 3) = V3 at *
            generalize V2.heap.size = D2 at *
            refine hK.out _ _ HT3.out.box (fun hHeld => ?_)
            clear hK K
            refine wpAnyH_ready (rs := [16]) (by kernel_rfl) (by simp) ?_
            refine AllReadyH.cons rfl (fun K hK => ?_) (AllReadyH.nil)
            have hLq : (l0.set p (putL l0[p] ((q : Int) + 1) (.slice o5 (n1 + 1) c5) true))[q]'(by simpa using hql) = l0[q] := List.getElem_set_ne hpq _
            obtain ⟨o6, c6, V4, hap, hT, hd⟩ := HT3.out.put q (by simpa using hql) false _ D2 HD2_3.out (by rw [hLq]; exact hb3)
            have HT4 := hid hT
            have hs1 : side l0[q] false = .slice o3 n3 c3 := HV3.out
            have hn1 : (numsOf l0[q] false).length = n3 := HN3.out
            simp only [hLq, hs1, hn1] at hap HT4
            have HAp := hid hap
            clear hap hT hd hs1 hn1 hLq
            refine step_appendA _ rfl (.tmp 51) (.tmp 53) 23 23 rfl _ _ rfl rfl _ _ HAp.out (some 54) rfl ?_
            refine hK.out _ _ HT4.out.box (fun hHeld => ?_)
            clear hK K HAp
            simp only [Act.put, List.setIfInBounds_toArray, List.set_cons_zero, List.set_cons_succ]
            obtain ⟨⟨u1, s1⟩, s2, s3, ⟨u2, s4⟩, s5, s6⟩ := tie_store hpl hql HT4.out (.slice o5 (n1 + 1) c5) (.slice o6 (n3 + 1) c6)
            have hfin := tie_done (w0 := w0) hpl hql hpq HT4.out
            have HFin := hid hfin
            have S3 := hid s3
            have S6 := hid s6
            clear hfin s3 s6
            refine wpAnyH_one 17 55 (.pointer (some ⟨g, p * 5, none⟩)) hHeld rfl rfl (by kernel_rfl) (fun _ _ _ _ _ h => h) (by kernel_rfl) (by kernel_rfl) (by rfl) ?_ ?_
            · intro V hSw; (try dsimp only at hSw); go_simp
            simp only [Act.put, List.setIfInBounds_toArray, List.set_cons_zero, List.set_cons_succ]
            refine wpAnyH_one 18 56 (.pointer (some ⟨g, p * 5 + 4, none⟩)) hHeld rfl rfl (by kernel_rfl) (fun _ _ _ _ _ h => h) (by kernel_rfl) (by kernel_rfl) (by rfl) ?_ ?_
            · intro V hSw; (try dsimp only at hSw); go_simp
            simp only [Act.put, List.setIfInBounds_toArray, List.set_cons_zero, List.set_cons_succ]
            refine wpAnyH_ready (rs := [19]) (by kernel_rfl) (by simp) ?_
            refine AllReadyH.cons rfl (fun K hK => ?_) AllReadyH.nil
            go_simp
            refine hK.out _ _ S3.out (fun hHeld => ?_)
            clear hK K
            refine wpAnyH_one 20 57 (.pointer (some ⟨g, q * 5, none⟩)) hHeld rfl rfl (by kernel_rfl) (fun _ _ _ _ _ h => h) (by kernel_rfl) (by kernel_rfl) (by rfl) ?_ ?_
            · intro V hSw; (try dsimp only at hSw); go_simp
            simp only [Act.put, List.setIfInBounds_toArray, List.set_cons_zero, List.set_cons_succ]
            refine wpAnyH_one 21 58 (.pointer (some ⟨g, q * 5 + 3, none⟩)) hHeld rfl rfl (by kernel_rfl) (fun _ _ _ _ _ h => h) (by kernel_rfl) (by kernel_rfl) (by rfl) ?_ ?_
            · intro V hSw; (try dsimp only at hSw); go_simp
            simp only [Act.put, List.setIfInBounds_toArray, List.set_cons_zero, List.set_cons_succ]
            refine wpAnyH_ready (rs := [22]) (by kernel_rfl) (by simp) ?_
            refine AllReadyH.cons rfl (fun K hK => ?_) AllReadyH.nil
            go_simp
            refine hK.out _ _ S6.out (fun hHeld => ?_)
            clear hK K
            refine wpAnyH_done (by kernel_rfl) ?_ _
            go_wp2
            (try simp only [Exit.inBlock, Exit.then])
            refine bodyPost_end (results_none rfl _ _ _) rfl ?_
            exact ⟨rfl, HRet.out _ _ _ HFin.out⟩
          · go_simp
            have hba : Below V1.heap.size V1 (V1.alloc (.cells #[.int .i64 ((p : Int) + 1)] 3)) := (Below.refl _ V1).alloc (Nat.le_refl _) _
            have HT2 := hid (HT1.out.later hba)
            have HD2_2 := hid (HT1.out.lst.fresh ((p : Int) + 1))
            have HD1_2 := hid (HD1_1.out.later hba)
            clear hba
            generalize V1.alloc (.cells #[.int .i64 ((p : Int) + 1)] 3) = V2 at *
            generalize V1.heap.size = D2 at *
            refine hK.out _ _ HT2.out.box (fun hHeld => ?_)
            clear hK K
            refine wpAnyH_ready (rs := [9]) (by kernel_rfl) (by simp) ?_
            refine AllReadyH.cons rfl (fun K hK => ?_) (AllReadyH.nil)
            obtain ⟨o5, c5, V3, hap, hT, hd⟩ := HT2.out.put p hpl true _ D1 HD1_2.out hb1
            have HT3 := hid hT
            have HD2_3 := hid (hd D2 _ HD2_2.out)
            have hs1 : side l0[p] true = .slice o1 n1 c1 := HV1.out
            have hn1 : (numsOf l0[p] true).length = n1 := HN1.out
            simp only [hs1, hn1] at hap HT3 HD2_3
            have HAp := hid hap
            clear hap hT hd hs1 hn1
            refine step_appendA _ rfl (.tmp 43) (.tmp 46) 23 23 rfl _ _ rfl rfl _ _ HAp.out (some 47) rfl ?_
            refine hK.out _ _ HT3.out.box (fun hHeld => ?_)
            clear hK K HAp
            simp only [Act.put, List.setIfInBounds_toArray, List.set_cons_zero, List.set_cons_succ]
            refine wpAnyH_ready (rs := [16]) (by kernel_rfl) (by simp) ?_
            refine AllReadyH.cons rfl (fun K hK => ?_) (AllReadyH.nil)
            have hLq : (l0.set p (putL l0[p] ((q : Int) + 1) (.slice o5 (n1 + 1) c5) true))[q]'(by simpa using hql) = l0[q] := List.getElem_set_ne hpq _
            obtain ⟨o6, c6, V4, hap, hT, hd⟩ := HT3.out.put q (by simpa using hql) false _ D2 HD2_3.out (by rw [hLq]; exact hb3)
            have HT4 := hid hT
            have hs1 : side l0[q] false = .slice o3 n3 c3 := HV3.out
            have hn1 : (numsOf l0[q] false).length = n3 := HN3.out
            simp only [hLq, hs1, hn1] at hap HT4
            have HAp := hid hap
            clear hap hT hd hs1 hn1 hLq
            refine step_appendA _ rfl (.tmp 51) (.tmp 53) 23 23 rfl _ _ rfl rfl _ _ HAp.out (some 54) rfl ?_
            refine hK.out _ _ HT4.out.box (fun hHeld => ?_)
            clear hK K HAp
            simp only [Act.put, List.setIfInBounds_toArray, List.set_cons_zero, List.set_cons_succ]
            obtain ⟨⟨u1, s1⟩, s2, s3, ⟨u2, s4⟩, s5, s6⟩ := tie_store hpl hql HT4.out (.slice o5 (n1 + 1) c5) (.slice o6 (n3 + 1) c6)
            have hfin := tie_done (w0 := w0) hpl hql hpq HT4.out
            have HFin := hid hfin
            have S3 := hid s3
            have S6 := hid s6
            clear hfin s3 s6
            refine wpAnyH_one 17 55 (.pointer (some ⟨g, p * 5, none⟩)) hHeld rfl rfl (by kernel_rfl) (fun _ _ _ _ _ h => h) (by kernel_rfl) (by kernel_rfl) (by rfl) ?_ ?_
            · intro V hSw; (try dsimp only at hSw); go_simp
            simp only [Act.put, List.setIfInBounds_toArray, List.set_cons_zero, List.set_cons_succ]
            refine wpAnyH_one 18 56 (.pointer (some ⟨g, p * 5 + 4, none⟩)) hHeld rfl rfl (by kernel_rfl) (fun _ _ _ _ _ h => h) (by kernel_rfl) (by kernel_rfl) (by rfl) ?_ ?_
            · intro V hSw; (try dsimp only at hSw); go_simp
            simp only [Act.put, List.setIfInBounds_toArray, List.set_cons_zero, List.set_cons_succ]
            refine wpAnyH_ready (rs := [19]) (by kernel_rfl) (by simp) ?_
            refine AllReadyH.cons rfl (fun K hK => ?_) AllReadyH.nil
            go_simp
            refine hK.out _ _ S3.out (fun hHeld => ?_)
            clear hK K
            refine wpAnyH_one 20 57 (.pointer (some ⟨g, q * 5, none⟩)) hHeld rfl rfl (by kernel_rfl) (fun _ _ _ _ _ h => h) (by kernel_rfl) (by kernel_rfl) (by rfl) ?_ ?_
            · intro V hSw; (try dsimp only at hSw); go_simp
            simp only [Act.put, List.setIfInBounds_toArray, List.set_cons_zero, List.set_cons_succ]
            refine wpAnyH_one 21 58 (.pointer (some ⟨g, q * 5 + 3, none⟩)) hHeld rfl rfl (by kernel_rfl) (fun _ _ _ _ _ h => h) (by kernel_rfl) (by kernel_rfl) (by rfl) ?_ ?_
            · intro V hSw; (try dsimp only at hSw); go_simp
            simp only [Act.put, List.setIfInBounds_toArray, List.set_cons_zero, List.set_cons_succ]
            refine wpAnyH_ready (rs := [22]) (by kernel_rfl) (by simp) ?_
            refine AllReadyH.cons rfl (fun K hK => ?_) AllReadyH.nil
            go_simp
            refine hK.out _ _ S6.out (fun hHeld => ?_)
            clear hK K
            refine wpAnyH_done (by kernel_rfl) ?_ _
            go_wp2
            (try simp only [Exit.inBlock, Exit.then])
            refine bodyPost_end (results_none rfl _ _ _) rfl ?_
            exact ⟨rfl, HRet.out _ _ _ HFin.out⟩
        · go_simp
          have hba : Below V0.heap.size V0 (V0.alloc (.cells #[.int .i64 ((p : Int) + 1)] 3)) := (Below.refl _ V0).alloc (Nat.le_refl _) _
          have HT1 := hid (HT0.out.later hba)
          have HD2_1 := hid (HT0.out.lst.fresh ((p : Int) + 1))
          clear hba
          generalize V0.alloc (.cells #[.int .i64 ((p : Int) + 1)] 3) = V1 at *
          generalize V0.heap.size = D2 at *
          refine hK.out _ _ HT1.out.box (fun hHeld => ?_)
          clear hK K
          refine wpAnyH_ready (rs := [8]) (by kernel_rfl) (by simp) ?_
          refine AllReadyH.cons rfl (fun K hK => ?_) (AllReadyH.nil)
          go_simp
          have hba : Below V1.heap.size V1 (V1.alloc (.cells #[.int .i64 ((q : Int) + 1)] 3)) := (Below.refl _ V1).alloc (Nat.le_refl _) _
          have HT2 := hid (HT1.out.later hba)
          have HD1_2 := hid (HT1.out.lst.fresh ((q : Int) + 1))
          have HD2_2 := hid (HD2_1.out.later hba)
          clear hba
          generalize V1.alloc (.cells #[.int .i64 ((q : Int) + 1)] 3) = V2 at *
          generalize V1.heap.size = D1 at *
          refine hK.out _ _ HT2.out.box (fun hHeld => ?_)
          clear hK K
          refine wpAnyH_ready (rs := [9]) (by kernel_rfl) (by simp) ?_
          refine AllReadyH.cons rfl (fun K hK => ?_) (AllReadyH.nil)
          obtain ⟨o5, c5, V3, hap, hT, hd⟩ := HT2.out.put p hpl true _ D1 HD1_2.out hb1
          have HT3 := hid hT
          have HD2_3 := hid (hd D2 _ HD2_2.out)
          have hs1 : side l0[p] true = .slice o1 n1 c1 := HV1.out
          have hn1 : (numsOf l0[p] true).length = n1 := HN1.out
          simp only [hs1, hn1] at hap HT3 HD2_3
          have HAp := hid hap
          clear hap hT hd hs1 hn1
          refine step_appendA _ rfl (.tmp 43) (.tmp 46) 23 23 rfl _ _ rfl rfl _ _ HAp.out (some 47) rfl ?_
          refine hK.out _ _ HT3.out.box (fun hHeld => ?_)
          clear hK K HAp
          simp only [Act.put, List.setIfInBounds_toArray, List.set_cons_zero, List.set_cons_succ]
          refine wpAnyH_ready (rs := [16]) (by kernel_rfl) (by simp) ?_
          refine AllReadyH.cons rfl (fun K hK => ?_) (AllReadyH.nil)
          have hLq : (l0.set p (putL l0[p] ((q : Int) + 1) (.slice o5 (n1 + 1) c5) true))[q]'(by simpa using hql) = l0[q] := List.getElem_set_ne hpq _
          obtain ⟨o6, c6, V4, hap, hT, hd⟩ := HT3.out.put q (by simpa using hql) false _ D2 HD2_3.out (by rw [hLq]; exact hb3)
          have HT4 := hid hT
          have hs1 : side l0[q] false = .slice o3 n3 c3 := HV3.out
          have hn1 : (numsOf l0[q] false).length = n3 := HN3.out
          simp only [hLq, hs1, hn1] at hap HT4
          have HAp := hid hap
          clear hap hT hd hs1 hn1 hLq
          refine step_appendA _ rfl (.tmp 51) (.tmp 53) 23 23 rfl _ _ rfl rfl _ _ HAp.out (some 54) rfl ?_
          refine hK.out _ _ HT4.out.box (fun hHeld => ?_)
          clear hK K HAp
          simp only [Act.put, List.setIfInBounds_toArray, List.set_cons_zero, List.set_cons_succ]
          obtain ⟨⟨u1, s1⟩, s2, s3, ⟨u2, s4⟩, s5, s6⟩ := tie_store hpl hql HT4.out (.slice o5 (n1 + 1) c5) (.slice o6 (n3 + 1) c6)
          have hfin := tie_done (w0 := w0) hpl hql hpq HT4.out
          have HFin := hid hfin
          have S3 := hid s3
          have S6 := hid s6
          clear hfin s3 s6
          refine wpAnyH_one 17 55 (.pointer (some ⟨g, p * 5, none⟩)) hHeld rfl rfl (by kernel_rfl) (fun _ _ _ _ _ h => h) (by kernel_rfl) (by kernel_rfl) (by rfl) ?_ ?_
          · intro V hSw; (try dsimp only at hSw); go_simp
          simp only [Act.put, List.setIfInBounds_toArray, List.set_cons_zero, List.set_cons_succ]
          refine wpAnyH_one 18 56 (.pointer (some ⟨g, p * 5 + 4, none⟩)) hHeld rfl rfl (by kernel_rfl) (fun _ _ _ _ _ h => h) (by kernel_rfl) (by kernel_rfl) (by rfl) ?_ ?_
          · intro V hSw; (try dsimp only at hSw); go_simp
          simp only [Act.put, List.setIfInBounds_toArray, List.set_cons_zero, List.set_cons_succ]
          refine wpAnyH_ready (rs := [19]) (by kernel_rfl) (by simp) ?_
          refine AllReadyH.cons rfl (fun K hK => ?_) AllReadyH.nil
          go_simp
          refine hK.out _ _ S3.out (fun hHeld => ?_)
          clear hK K
          refine wpAnyH_one 20 57 (.pointer (some ⟨g, q * 5, none⟩)) hHeld rfl rfl (by kernel_rfl) (fun _ _ _ _ _ h => h) (by kernel_rfl) (by kernel_rfl) (by rfl) ?_ ?_
          · intro V hSw; (try dsimp only at hSw); go_simp
          simp only [Act.put, List.setIfInBounds_toArray, List.set_cons_zero, List.set_cons_succ]
          refine wpAnyH_one 21 58 (.pointer (some ⟨g, q * 5 + 3, none⟩)) hHeld rfl rfl (by kernel_rfl) (fun _ _ _ _ _ h => h) (by kernel_rfl) (by kernel_rfl) (by rfl) ?_ ?_
          · intro V hSw; (try dsimp only at hSw); go_simp
          simp only [Act.put, List.setIfInBounds_toArray, List.set_cons_zero, List.set_cons_succ]
          refine wpAnyH_ready (rs := [22]) (by kernel_rfl) (by simp) ?_
          refine AllReadyH.cons rfl (fun K hK => ?_) AllReadyH.nil
          go_simp
          refine hK.out _ _ S6.out (fun hHeld => ?_)
          clear hK K
          refine wpAnyH_done (by kernel_rfl) ?_ _
          go_wp2
          (try simp only [Exit.inBlock, Exit.then])
          refine bodyPost_end (results_none rfl _ _ _) rfl ?_
          exact ⟨rfl, HRet.out _ _ _ HFin.out⟩
      · go_simp
        have hba : Below V0.heap.size V0 (V0.alloc (.cells #[.int .i64 ((q : Int) + 1)] 3)) := (Below.refl _ V0).alloc (Nat.le_refl _) _
        have HT1 := hid (HT0.out.later hba)
        have HD1_1 := hid (HT0.out.lst.fresh ((q : Int) + 1))
        clear hba
        generalize V0.alloc (.cells #[.int .i64 ((q : Int) + 1)] 3) = V1 at *
        generalize V0.heap.size = D1 at *
        refine hK.out _ _ HT1.out.box (fun hHeld => ?_)
        clear hK K
        refine wpAnyH_ready (rs := [5, 15]) (by kernel_rfl) (by simp) ?_
        refine AllReadyH.cons rfl (fun K hK => ?_) (AllReadyH.cons rfl (fun K hK => ?_) (AllReadyH.nil))
        · have cA := (HT1.out.cell p hpl 4  (by decide) (.slice o1 n1 c1) (by show some _ = _; exact congrArg some HV1.out)).1
          go_simp
          refine hK.out _ _ HT1.out.box (fun hHeld => ?_)
          clear hK K cA
          refine wpAnyH_ready (rs := [9, 15]) (by kernel_rfl) (by simp) ?_
          refine AllReadyH.cons rfl (fun K hK => ?_) (AllReadyH.cons rfl (fun K hK => ?_) (AllReadyH.nil))
          · obtain ⟨o5, c5, V2, hap, hT, hd⟩ := HT1.out.put p hpl true _ D1 HD1_1.out hb1
            have HT2 := hid hT
            have hs1 : side l0[p] true = .slice o1 n1 c1 := HV1.out
            have hn1 : (numsOf l0[p] true).length = n1 := HN1.out
            simp only [hs1, hn1] at hap HT2
            have HAp := hid hap
            clear hap hT hd hs1 hn1
            refine step_appendA _ rfl (.tmp 43) (.tmp 46) 23 23 rfl _ _ rfl rfl _ _ HAp.out (some 47) rfl ?_
            refine hK.out _ _ HT2.out.box (fun hHeld => ?_)
            clear hK K HAp
            simp only [Act.put, List.setIfInBounds_toArray, List.set_cons_zero, List.set_cons_succ]
            refine wpAnyH_ready (rs := [15]) (by kernel_rfl) (by simp) ?_
            refine AllReadyH.cons rfl (fun K hK => ?_) (AllReadyH.nil)
            go_simp
            have hba : Below V2.heap.size V2 (V2.alloc (.cells #[.int .i64 ((p : Int) + 1)] 3)) := (Below.refl _ V2).alloc (Nat.le_refl _) _
            have HT3 := hid (HT2.out.later hba)
            have HD2_3 := hid (HT2.out.lst.fresh ((p : Int) + 1))
            clear hba
            generalize V2.alloc (.cells #[.int .i64 ((p : Int) + 1)] 3) = V3 at *
            generalize V2.heap.size = D2 at *
            refine hK.out _ _ HT3.out.box (fun hHeld => ?_)
            clear hK K
            refine wpAnyH_ready (rs := [16]) (by kernel_rfl) (by simp) ?_
            refine AllReadyH.cons rfl (fun K hK => ?_) (AllReadyH.nil)
            have hLq : (l0.set p (putL l0[p] ((q : Int) + 1) (.slice o5 (n1 + 1) c5) true))[q]'(by simpa using hql) = l0[q] := List.getElem_set_ne hpq _
            obtain ⟨o6, c6, V4, hap, hT, hd⟩ := HT3.out.put q (by simpa using hql) false _ D2 HD2_3.out (by rw [hLq]; exact hb3)
            have HT4 := hid hT
            have hs1 : side l0[q] false = .slice o3 n3 c3 := HV3.out
            have hn1 : (numsOf l0[q] false).length = n3 := HN3.out
            simp only [hLq, hs1, hn1] at hap HT4
            have HAp := hid hap
            clear hap hT hd hs1 hn1 hLq
            refine step_appendA _ rfl (.tmp 51) (.tmp 53) 23 23 rfl _ _ rfl rfl _ _ HAp.out (some 54) rfl ?_
            refine hK.out _ _ HT4.out.box (fun hHeld => ?_)
            clear hK K HAp
            simp only [Act.put, List.setIfInBounds_toArray, List.set_cons_zero, List.set_cons_succ]
            obtain ⟨⟨u1, s1⟩, s2, s3, ⟨u2, s4⟩, s5, s6⟩ := tie_store hpl hql HT4.out (.slice o5 (n1 + 1) c5) (.slice o6 (n3 + 1) c6)
            have hfin := tie_done (w0 := w0) hpl hql hpq HT4.out
            have HFin := hid hfin
            have S3 := hid s3
            have S6 := hid s6
            clear hfin s3 s6
            refine wpAnyH_one 17 55 (.pointer (some ⟨g, p * 5, none⟩)) hHeld rfl rfl (by kernel_rfl) (fun _ _ _ _ _ h => h) (by kernel_rfl) (by kernel_rfl) (by rfl) ?_ ?_
            · intro V hSw; (try dsimp only at hSw); go_simp
            simp only [Act.put, List.setIfInBounds_toArray, List.set_cons_zero, List.set_cons_succ]
            refine wpAnyH_one 18 56 (.pointer (some ⟨g, p * 5 + 4, none⟩)) hHeld rfl rfl (by kernel_rfl) (fun _ _ _ _ _ h => h) (by kernel_rfl) (by kernel_rfl) (by rfl) ?_ ?_
            · intro V hSw; (try dsimp only at hSw); go_simp
            simp only [Act.put, List.setIfInBounds_toArray, List.set_cons_zero, List.set_cons_succ]
            refine wpAnyH_ready (rs := [19]) (by kernel_rfl) (by simp) ?_
            refine AllReadyH.cons rfl (fun K hK => ?_) AllReadyH.nil
            go_simp
            refine hK.out _ _ S3.out (fun hHeld => ?_)
            clear hK K
            refine wpAnyH_one 20 57 (.pointer (some ⟨g, q * 5, none⟩)) hHeld rfl rfl (by kernel_rfl) (fun _ _ _ _ _ h => h) (by kernel_rfl) (by kernel_rfl) (by rfl) ?_ ?_
            · intro V hSw; (try dsimp only at hSw); go_simp
            simp only [Act.put, List.setIfInBounds_toArray, List.set_cons_zero, List.set_cons_succ]
            refine wpAnyH_one 21 58 (.pointer (some ⟨g, q * 5 + 3, none⟩)) hHeld rfl rfl (by kernel_rfl) (fun _ _ _ _ _ h => h) (by kernel_rfl) (by kernel_rfl) (by rfl) ?_ ?_
            · intro V hSw; (try dsimp only at hSw); go_simp
            simp only [Act.put, List.setIfInBounds_toArray, List.set_cons_zero, List.set_cons_succ]
            refine wpAnyH_ready (rs := [22]) (by kernel_rfl) (by simp) ?_
            refine AllReadyH.cons rfl (fun K hK => ?_) AllReadyH.nil
            go_simp
            refine hK.out _ _ S6.out (fun hHeld => ?_)
            clear hK K
            refine wpAnyH_done (by kernel_rfl) ?_ _
            go_wp2
            (try simp only [Exit.inBlock, Exit.then])
            refine bodyPost_end (results_none rfl _ _ _) rfl ?_
            exact ⟨rfl, HRet.out _ _ _ HFin.out⟩
          · go_simp
            have hba : Below V1.heap.size V1 (V1.alloc (.cells #[.int .i64 ((p : Int) + 1)] 3)) := (Below.refl _ V1).alloc (Nat.le_refl _) _
            have HT2 := hid (HT1.out.later hba)
            have HD2_2 := hid (HT1.out.lst.fresh ((p : Int) + 1))
            have HD1_2 := hid (HD1_1.out.later hba)
            clear hba
            generalize V1.alloc (.cells #[.int .i64 ((p : Int) + 1)] 3) = V2 at *
            generalize V1.heap.size = D2 at *
            refine hK.out _ _ HT2.out.box (fun hHeld => ?_)
            clear hK K
            refine wpAnyH_ready (rs := [9]) (by kernel_rfl) (by simp) ?_
            refine AllReadyH.cons rfl (fun K hK => ?_) (AllReadyH.nil)
            obtain ⟨o5, c5, V3, hap, hT, hd⟩ := HT2.out.put p hpl true _ D1 HD1_2.out hb1
            have HT3 := hid hT
            have HD2_3 := hid (hd D2 _ HD2_2.out)
            have hs1 : side l0[p] true = .slice o1 n1 c1 := HV1.out
            have hn1 : (numsOf l0[p] true).length = n1 := HN1.out
            simp only [hs1, hn1] at hap HT3 HD2_3
            have HAp := hid hap
            clear hap hT hd hs1 hn1
            refine step_appendA _ rfl (.tmp 43) (.tmp 46) 23 23 rfl _ _ rfl rfl _ _ HAp.out (some 47) rfl ?_
            refine hK.out _ _ HT3.out.box (fun hHeld => ?_)
            clear hK K HAp
            simp only [Act.put, List.setIfInBounds_toArray, List.set_cons_zero, List.set_cons_succ]
            refine wpAnyH_ready (rs := [16]) (by kernel_rfl) (by simp) ?_
            refine AllReadyH.cons rfl (fun K hK => ?_) (AllReadyH.nil)
            have hLq : (l0.set p (putL l0[p] ((q : Int) + 1) (.slice o5 (n1 + 1) c5) true))[q]'(by simpa using hql) = l0[q] := List.getElem_set_ne hpq _
            obtain ⟨o6, c6, V4, hap, hT, hd⟩ := HT3.out.put q (by simpa using hql) false _ D2 HD2_3.out (by rw [hLq]; exact hb3)
            have HT4 := hid hT
            have hs1 : side l0[q] false = .slice o3 n3 c3 := HV3.out
            have hn1 : (numsOf l0[q] false).length = n3 := HN3.out
            simp only [hLq, hs1, hn1] at hap HT4
            have HAp := hid hap
            clear hap hT hd hs1 hn1 hLq
            refine step_appendA _ rfl (.tmp 51) (.tmp 53) 23 23 rfl _ _ rfl rfl _ _ HAp.out (some 54) rfl ?_
            refine hK.out _ _ HT4.out.box (fun hHeld => ?_)
            clear hK K HAp
            simp only [Act.put, List.setIfInBounds_toArray, List.set_cons_zero, List.set_cons_succ]
            obtain ⟨⟨u1, s1⟩, s2, s3, ⟨u2, s4⟩, s5, s6⟩ := tie_store hpl hql HT4.out (.slice o5 (n1 + 1) c5) (.slice o6 (n3 + 1) c6)
            have hfin := tie_done (w0 := w0) hpl hql hpq HT4.out
            have HFin := hid hfin
            have S3 := hid s3
            have S6 := hid s6
            clear hfin s3 s6
            refine wpAnyH_one 17 55 (.pointer (some ⟨g, p * 5, none⟩)) hHeld rfl rfl (by kernel_rfl) (fun _ _ _ _ _ h => h) (by kernel_rfl) (by kernel_rfl) (by rfl) ?_ ?_
            · intro V hSw; (try dsimp only at hSw); go_simp
            simp only [Act.put, List.setIfInBounds_toArray, List.set_cons_zero, List.set_cons_succ]
            refine wpAnyH_one 18 56 (.pointer (some ⟨g, p * 5 + 4, none⟩)) hHeld rfl rfl (by kernel_rfl) (fun _ _ _ _ _ h => h) (by kernel_rfl) (by kernel_rfl) (by rfl) ?_ ?_
            · intro V hSw; (try dsimp only at hSw); go_simp
            simp only [Act.put, List.setIfInBounds_toArray, List.set_cons_zero, List.set_cons_succ]
            refine wpAnyH_ready (rs := [19]) (by kernel_rfl) (by simp) ?_
            refine AllReadyH.cons rfl (fun K hK => ?_) AllReadyH.nil
            go_simp
            refine hK.out _ _ S3.out (fun hHeld => ?_)
            clear hK K
            refine wpAnyH_one 20 57 (.pointer (some ⟨g, q * 5, none⟩)) hHeld rfl rfl (by kernel_rfl) (fun _ _ _ _ _ h => h) (by kernel_rfl) (by kernel_rfl) (by rfl) ?_ ?_
            · intro V hSw; (try dsimp only at hSw); go_simp
            simp only [Act.put, List.setIfInBounds_toArray, List.set_cons_zero, List.set_cons_succ]
            refine wpAnyH_one 21 58 (.pointer (some ⟨g, q * 5 + 3, none⟩)) hHeld rfl rfl (by kernel_rfl) (fun _ _ _ _ _ h => h) (by kernel_rfl) (by kernel_rfl) (by rfl) ?_ ?_
            · intro V hSw; (try dsimp only at hSw); go_simp
            simp only [Act.put, List.setIfInBounds_toArray, List.set_cons_zero, List.set_cons_succ]
            refine wpAnyH_ready (rs := [22]) (by kernel_rfl) (by simp) ?_
            refine AllReadyH.cons rfl (fun K hK => ?_) AllReadyH.nil
            go_simp
            refine hK.out _ _ S6.out (fun hHeld => ?_)
            clear hK K
            refine wpAnyH_done (by kernel_rfl) ?_ _
            go_wp2
            (try simp only [Exit.inBlock, Exit.then])
            refine bodyPost_end (results_none rfl _ _ _) rfl ?_
            exact ⟨rfl, HRet.out _ _ _ HFin.out⟩
        · go_simp
          have hba : Below V1.heap.size V1 (V1.alloc (.cells #[.int .i64 ((p : Int) + 1)] 3)) := (Below.refl _ V1).alloc (Nat.le_refl _) _
          have HT2 := hid (HT1.out.later hba)
          have HD2_2 := hid (HT1.out.lst.fresh ((p : Int) + 1))
          have HD1_2 := hid (HD1_1.out.later hba)
          clear hba
          generalize V1.alloc (.cells #[.int .i64 ((p : Int) + 1)] 3) = V2 at *
          generalize V1.heap.size = D2 at *
          refine hK.out _ _ HT2.out.box (fun hHeld => ?_)
          clear hK K
          refine wpAnyH_ready (rs := [5]) (by kernel_rfl) (by simp) ?_
          refine AllReadyH.cons rfl (fun K hK => ?_) (AllReadyH.nil)
          have cA := (HT2.out.cell p hpl 4  (by decide) (.slice o1 n1 c1) (by show some _ = _; exact congrArg some HV1.out)).1
          go_simp
          refine hK.out _ _ HT2.out.box (fun hHeld => ?_)
          clear hK K cA
          refine wpAnyH_ready (rs := [9]) (by kernel_rfl) (by simp) ?_
          refine AllReadyH.cons rfl (fun K hK => ?_) (AllReadyH.nil)
          obtain ⟨o5, c5, V3, hap, hT, hd⟩ := HT2.out.put p hpl true _ D1 HD1_2.out hb1
          have HT3 := hid hT
          have HD2_3 := hid (hd D2 _ HD2_2.out)
          have hs1 : side l0[p] true = .slice o1 n1 c1 := HV1.out
          have hn1 : (numsOf l0[p] true).length = n1 := HN1.out
          simp only [hs1, hn1] at hap HT3 HD2_3
          have HAp := hid hap
          clear hap hT hd hs1 hn1
          refine step_appendA _ rfl (.tmp 43) (.tmp 46) 23 23 rfl _ _ rfl rfl _ _ HAp.out (some 47) rfl ?_
          refine hK.out _ _ HT3.out.box (fun hHeld => ?_)
          clear hK K HAp
          simp only [Act.put, List.setIfInBounds_toArray, List.set_cons_zero, List.set_cons_succ]
          refine wpAnyH_ready (rs := [16]) (by kernel_rfl) (by simp) ?_
          refine AllReadyH.cons rfl (fun K hK => ?_) (AllReadyH.nil)
          have hLq : (l0.set p (putL l0[p] ((q : Int) + 1) (.slice o5 (n1 + 1) c5) true))[q]'(by simpa using hql) = l0[q] := List.getElem_set_ne hpq _
          obtain ⟨o6, c6, V4, hap, hT, hd⟩ := HT3.out.put q (by simpa using hql) false _ D2 HD2_3.out (by rw [hLq]; exact hb3)
          have HT4 := hid hT
          have hs1 : side l0[q] false = .slice o3 n3 c3 := HV3.out
          have hn1 : (numsOf l0[q] false).length = n3 := HN3.out
          simp only [hLq, hs1, hn1] at hap HT4
          have HAp := hid hap
          clear hap hT hd hs1 hn1 hLq
          refine step_appendA _ rfl (.tmp 51) (.tmp 53) 23 23 rfl _ _ rfl rfl _ _ HAp.out (some 54) rfl ?_
          refine hK.out _ _ HT4.out.box (fun hHeld => ?_)
          clear hK K HAp
          simp only [Act.put, List.setIfInBounds_toArray, List.set_cons_zero, List.set_cons_succ]
          obtain ⟨⟨u1, s1⟩, s2, s3, ⟨u2, s4⟩, s5, s6⟩ := tie_store hpl hql HT4.out (.slice o5 (n1 + 1) c5) (.slice o6 (n3 + 1) c6)
          have hfin := tie_done (w0 := w0) hpl hql hpq HT4.out
          have HFin := hid hfin
          have S3 := hid s3
          have S6 := hid s6
          clear hfin s3 s6
          refine wpAnyH_one 17 55 (.pointer (some ⟨g, p * 5, none⟩)) hHeld rfl rfl (by kernel_rfl) (fun _ _ _ _ _ h => h) (by kernel_rfl) (by kernel_rfl) (by rfl) ?_ ?_
          · intro V hSw; (try dsimp only at hSw); go_simp
          simp only [Act.put, List.setIfInBounds_toArray, List.set_cons_zero, List.set_cons_succ]
          refine wpAnyH_one 18 56 (.pointer (some ⟨g, p * 5 + 4, none⟩)) hHeld rfl rfl (by kernel_rfl) (fun _ _ _ _ _ h => h) (by kernel_rfl) (by kernel_rfl) (by rfl) ?_ ?_
          · intro V hSw; (try dsimp only at hSw); go_simp
          simp only [Act.put, List.setIfInBounds_toArray, List.set_cons_zero, List.set_cons_succ]
          refine wpAnyH_ready (rs := [19]) (by kernel_rfl) (by simp) ?_
          refine AllReadyH.cons rfl (fun K hK => ?_) AllReadyH.nil
          go_simp
          refine hK.out _ _ S3.out (fun hHeld => ?_)
          clear hK K
          refine wpAnyH_one 20 57 (.pointer (some ⟨g, q * 5, none⟩)) hHeld rfl rfl (by kernel_rfl) (fun _ _ _ _ _ h => h) (by kernel_rfl) (by kernel_rfl) (by rfl) ?_ ?_
          · intro V hSw; (try dsimp only at hSw); go_simp
          simp only [Act.put, List.setIfInBounds_toArray, List.set_cons_zero, List.set_cons_succ]
          refine wpAnyH_one 21 58 (.pointer (some ⟨g, q * 5 + 3, none⟩)) hHeld rfl rfl (by kernel_rfl) (fun _ _ _ _ _ h => h) (by kernel_rfl) (by kernel_rfl) (by rfl) ?_ ?_
          · intro V hSw; (try dsimp only at hSw); go_simp
          simp only [Act.put, List.setIfInBounds_toArray, List.set_cons_zero, List.set_cons_succ]
          refine wpAnyH_ready (rs := [22]) (by kernel_rfl) (by simp) ?_
          refine AllReadyH.cons rfl (fun K hK => ?_) AllReadyH.nil
          go_simp
          refine hK.out _ _ S6.out (fun hHeld => ?_)
          clear hK K
          refine wpAnyH_done (by kernel_rfl) ?_ _
          go_wp2
          (try simp only [Exit.inBlock, Exit.then])
          refine bodyPost_end (results_none rfl _ _ _) rfl ?_
          exact ⟨rfl, HRet.out _ _ _ HFin.out⟩
      · go_simp
        have hba : Below V0.heap.size V0 (V0.alloc (.cells #[.int .i64 ((p : Int) + 1)] 3)) := (Below.refl _ V0).alloc (Nat.le_refl _) _
        have HT1 := hid (HT0.out.later hba)
        have HD2_1 := hid (HT0.out.lst.fresh ((p : Int) + 1))
        clear hba
        generalize V0.alloc (.cells #[.int .i64 ((p : Int) + 1)] 3) = V1 at *
        generalize V0.heap.size = D2 at *
        refine hK.out _ _ HT1.out.box (fun hHeld => ?_)
        clear hK K
        refine wpAnyH_ready (rs := [5, 8]) (by kernel_rfl) (by simp) ?_
        refine AllReadyH.cons rfl (fun K hK => ?_) (AllReadyH.cons rfl (fun K hK => ?_) (AllReadyH.nil))
        · have cA := (HT1.out.cell p hpl 4  (by decide) (.slice o1 n1 c1) (by show some _ = _; exact congrArg some HV1.out)).1
          go_simp
          refine hK.out _ _ HT1.out.box (fun hHeld => ?_)
          clear hK K cA
          refine wpAnyH_ready (rs := [8]) (by kernel_rfl) (by simp) ?_
          refine AllReadyH.cons rfl (fun K hK => ?_) (AllReadyH.nil)
          go_simp
          have hba : Below V1.heap.size V1 (V1.alloc (.cells #[.int .i64 ((q : Int) + 1)] 3)) := (Below.refl _ V1).alloc (Nat.le_refl _) _
          have HT2 := hid (HT1.out.later hba)
          have HD1_2 := hid (HT1.out.lst.fresh ((q : Int) + 1))
          have HD2_2 := hid (HD2_1.out.later hba)
          clear hba
          generalize V1.alloc (.cells #[.int .i64 ((q : Int) + 1)] 3) = V2 at *
          generalize V1.heap.size = D1 at *
          refine hK.out _ _ HT2.out.box (fun hHeld => ?_)
          clear hK K
          refine wpAnyH_ready (rs := [9]) (by kernel_rfl) (by simp) ?_
          refine AllReadyH.cons rfl (fun K hK => ?_) (AllReadyH.nil)
          obtain ⟨o5, c5, V3, hap, hT, hd⟩ := HT2.out.put p hpl true _ D1 HD1_2.out hb1
          have HT3 := hid hT
          have HD2_3 := hid (hd D2 _ HD2_2.out)
          have hs1 : side l0[p] true = .slice o1 n1 c1 := HV1.out
          have hn1 : (numsOf l0[p] true).length = n1 := HN1.out
          simp only [hs1, hn1] at hap HT3 HD2_3
          have HAp := hid hap
          clear hap hT hd hs1 hn1
          refine step_appendA _ rfl (.tmp 43) (.tmp 46) 23 23 rfl _ _ rfl rfl _ _ HAp.out (some 47) rfl ?_
          refine hK.out _ _ HT3.out.box (fun hHeld => ?_)
          clear hK K HAp
          simp only [Act.put, List.setIfInBounds_toArray, List.set_cons_zero, List.set_cons_succ]
          refine wpAnyH_ready (rs := [16]) (by kernel_rfl) (by simp) ?_
          refine AllReadyH.cons rfl (fun K hK => ?_) (AllReadyH.nil)
          have hLq : (l0.set p (putL l0[p] ((q : Int) + 1) (.slice o5 (n1 + 1) c5) true))[q]'(by simpa using hql) = l0[q] := List.getElem_set_ne hpq _
          obtain ⟨o6, c6, V4, hap, hT, hd⟩ := HT3.out.put q (by simpa using hql) false _ D2 HD2_3.out (by rw [hLq]; exact hb3)
          have HT4 := hid hT
          have hs1 : side l0[q] false = .slice o3 n3 c3 := HV3.out
          have hn1 : (numsOf l0[q] false).length = n3 := HN3.out
          simp only [hLq, hs1, hn1] at hap HT4
          have HAp := hid hap
          clear hap hT hd hs1 hn1 hLq
          refine step_appendA _ rfl (.tmp 51) (.tmp 53) 23 23 rfl _ _ rfl rfl _ _ HAp.out (some 54) rfl ?_
          refine hK.out _ _ HT4.out.box (fun hHeld => ?_)
          clear hK K HAp
          simp only [Act.put, List.setIfInBounds_toArray, List.set_cons_zero, List.set_cons_succ]
          obtain ⟨⟨u1, s1⟩, s2, s3, ⟨u2, s4⟩, s5, s6⟩ := tie_store hpl hql HT4.out (.slice o5 (n1 + 1) c5) (.slice o6 (n3 + 1) c6)
          have hfin := tie_done (w0 := w0) hpl hql hpq HT4.out
          have HFin := hid hfin
          have S3 := hid s3
          have S6 := hid s6
          clear hfin s3 s6
          refine wpAnyH_one 17 55 (.pointer (some ⟨g, p * 5, none⟩)) hHeld rfl rfl (by kernel_rfl) (fun _ _ _ _ _ h => h) (by kernel_rfl) (by kernel_rfl) (by rfl) ?_ ?_
          · intro V hSw; (try dsimp only at hSw); go_simp
          simp only [Act.put, List.setIfInBounds_toArray, List.set_cons_zero, List.set_cons_succ]
          refine wpAnyH_one 18 56 (.pointer (some ⟨g, p * 5 + 4, none⟩)) hHeld rfl rfl (by kernel_rfl) (fun _ _ _ _ _ h => h) (by kernel_rfl) (by kernel_rfl) (by rfl) ?_ ?_
          · intro V hSw; (try dsimp only at hSw); go_simp
          simp only [Act.put, List.setIfInBounds_toArray, List.set_cons_zero, List.set_cons_succ]
          refine wpAnyH_ready (rs := [19]) (by kernel_rfl) (by simp) ?_
          refine AllReadyH.cons rfl (fun K hK => ?_) AllReadyH.nil
          go_simp
          refine hK.out _ _ S3.out (fun hHeld => ?_)
          clear hK K
          refine wpAnyH_one 20 57 (.pointer (some ⟨g, q * 5, none⟩)) hHeld rfl rfl (by kernel_rfl) (fun _ _ _ _ _ h => h) (by kernel_rfl) (by kernel_rfl) (by rfl) ?_ ?_
          · intro V hSw; (try dsimp only at hSw); go_simp
          simp only [Act.put, List.setIfInBounds_toArray, List.set_cons_zero, List.set_cons_succ]
          refine wpAnyH_one 21 58 (.pointer (some ⟨g, q * 5 + 3, none⟩)) hHeld rfl rfl (by kernel_rfl) (fun _ _ _ _ _ h => h) (by kernel_rfl) (by kernel_rfl) (by rfl) ?_ ?_
          · intro V hSw; (try dsimp only at hSw); go_simp
          simp only [Act.put, List.setIfInBounds_toArray, List.set_cons_zero, List.set_cons_succ]
          refine wpAnyH_ready (rs := [22]) (by kernel_rfl) (by simp) ?_
          refine AllReadyH.cons rfl (fun K hK => ?_) AllReadyH.nil
          go_simp
          refine hK.out _ _ S6.out (fun hHeld => ?_)
          clear hK K
          refine wpAnyH_done (by kernel_rfl) ?_ _
          go_wp2
          (try simp only [Exit.inBlock, Exit.then])
          refine bodyPost_end (results_none rfl _ _ _) rfl ?_
          exact ⟨rfl, HRet.out _ _ _ HFin.out⟩
        · go_simp
          have hba : Below V1.heap.size V1 (V1.alloc (.cells #[.int .i64 ((q : Int) + 1)] 3)) := (Below.refl _ V1).alloc (Nat.le_refl _) _
          have HT2 := hid (HT1.out.later hba)
          have HD1_2 := hid (HT1.out.lst.fresh ((q : Int) + 1))
          have HD2_2 := hid (HD2_1.out.later hba)
          clear hba
          generalize V1.alloc (.cells #[.int .i64 ((q : Int) + 1)] 3) = V2 at *
          generalize V1.heap.size = D1 at *
          refine hK.out _ _ HT2.out.box (fun hHeld => ?_)
          clear hK K
          refine wpAnyH_ready (rs := [5]) (by kernel_rfl) (by simp) ?_
          refine AllReadyH.cons rfl (fun K hK => ?_) (AllReadyH.nil)
          have cA := (HT2.out.cell p hpl 4  (by decide) (.slice o1 n1 c1) (by show some _ = _; exact congrArg some HV1.out)).1
          go_simp
          refine hK.out _ _ HT2.out.box (fun hHeld => ?_)
          clear hK K cA
          refine wpAnyH_ready (rs := [9]) (by kernel_rfl) (by simp) ?_
          refine AllReadyH.cons rfl (fun K hK => ?_) (AllReadyH.nil)
          obtain ⟨o5, c5, V3, hap, hT, hd⟩ := HT2.out.put p hpl true _ D1 HD1_2.out hb1
          have HT3 := hid hT
          have HD2_3 := hid (hd D2 _ HD2_2.out)
          have hs1 : side l0[p] true = .slice o1 n1 c1 := HV1.out
          have hn1 : (numsOf l0[p] true).length = n1 := HN1.out
          simp only [hs1, hn1] at hap HT3 HD2_3
          have HAp := hid hap
          clear hap hT hd hs1 hn1
          refine step_appendA _ rfl (.tmp 43) (.tmp 46) 23 23 rfl _ _ rfl rfl _ _ HAp.out (some 47) rfl ?_
          refine hK.out _ _ HT3.out.box (fun hHeld => ?_)
          clear hK K HAp
          simp only [Act.put, List.setIfInBounds_toArray, List.set_cons_zero, List.set_cons_succ]
          refine wpAnyH_ready (rs := [16]) (by kernel_rfl) (by simp) ?_
          refine AllReadyH.cons rfl (fun K hK => ?_) (AllReadyH.nil)
          have hLq : (l0.set p (putL l0[p] ((q : Int) + 1) (.slice o5 (n1 + 1) c5) true))[q]'(by simpa using hql) = l0[q] := List.getElem_set_ne hpq _
          obtain ⟨o6, c6, V4, hap, hT, hd⟩ := HT3.out.put q (by simpa using hql) false _ D2 HD2_3.out (by rw [hLq]; exact hb3)
          have HT4 := hid hT
          have hs1 : side l0[q] false = .slice o3 n3 c3 := HV3.out
          have hn1 : (numsOf l0[q] false).length = n3 := HN3.out
          simp only [hLq, hs1, hn1] at hap HT4
          have HAp := hid hap
          clear hap hT hd hs1 hn1 hLq
          refine step_appendA _ rfl (.tmp 51) (.tmp 53) 23 23 rfl _ _ rfl rfl _ _ HAp.out (some 54) rfl ?_
          refine hK.out _ _ HT4.out.box (fun hHeld => ?_)
          clear hK K HAp
          simp only [Act.put, List.setIfInBounds_toArray, List.set_cons_zero, List.set_cons_succ]
          obtain ⟨⟨u1, s1⟩, s2, s3, ⟨u2, s4⟩, s5, s6⟩ := tie_store hpl hql HT4.out (.slice o5 (n1 + 1) c5) (.slice o6 (n3 + 1) c6)
          have hfin := tie_done (w0 := w0) hpl hql hpq HT4.out
          have HFin := hid hfin
          have S3 := hid s3
          have S6 := hid s6
          clear hfin s3 s6
          refine wpAnyH_one 17 55 (.pointer (some ⟨g, p * 5, none⟩)) hHeld rfl rfl (by kernel_rfl) (fun _ _ _ _ _ h => h) (by kernel_rfl) (by kernel_rfl) (by rfl) ?_ ?_
          · intro V hSw; (try dsimp only at hSw); go_simp
          simp only [Act.put, List.setIfInBounds_toArray, List.set_cons_zero, List.set_cons_succ]
          refine wpAnyH_one 18 56 (.pointer (some ⟨g, p * 5 + 4, none⟩)) hHeld rfl rfl (by kernel_rfl) (fun _ _ _ _ _ h => h) (by kernel_rfl) (by kernel_rfl) (by rfl) ?_ ?_
          · intro V hSw; (try dsimp only at hSw); go_simp
          simp only [Act.put, List.setIfInBounds_toArray, List.set_cons_zero, List.set_cons_succ]
          refine wpAnyH_ready (rs := [19]) (by kernel_rfl) (by simp) ?_
          refine AllReadyH.cons rfl (fun K hK => ?_) AllReadyH.nil
          go_simp
          refine hK.out _ _ S3.out (fun hHeld => ?_)
          clear hK K
          refine wpAnyH_one 20 57 (.pointer (some ⟨g, q * 5, none⟩)) hHeld rfl rfl (by kernel_rfl) (fun _ _ _ _ _ h => h) (by kernel_rfl) (by kernel_rfl) (by rfl) ?_ ?_
          · intro V hSw; (try dsimp only at hSw); go_simp
          simp only [Act.put, List.setIfInBounds_toArray, List.set_cons_zero, List.set_cons_succ]
          refine wpAnyH_one 21 58 (.pointer (some ⟨g, q * 5 + 3, none⟩)) hHeld rfl rfl (by kernel_rfl) (fun _ _ _ _ _ h => h) (by kernel_rfl) (by kernel_rfl) (by rfl) ?_ ?_
          · intro V hSw; (try dsimp only at hSw); go_simp
          simp only [Act.put, List.setIfInBounds_toArray, List.set_cons_zero, List.set_cons_succ]
          refine wpAnyH_ready (rs := [22]) (by kernel_rfl) (by simp) ?_
          refine AllReadyH.cons rfl (fun K hK => ?_) AllReadyH.nil
          go_simp
          refine hK.out _ _ S6.out (fun hHeld => ?_)
          clear hK K
          refine wpAnyH_done (by kernel_rfl) ?_ _
          go_wp2
          (try simp only [Exit.inBlock, Exit.then])
          refine bodyPost_end (results_none rfl _ _ _) rfl ?_
          exact ⟨rfl, HRet.out _ _ _ HFin.out⟩
    · go_simp
      have hba : Below V0.heap.size V0 (V0.alloc (.cells #[.int .i64 ((p : Int) + 1)] 3)) := (Below.refl _ V0).alloc (Nat.le_refl _) _
      have HT1 := hid (HT0.out.later hba)
      have HD2_1 := hid (HT0.out.lst.fresh ((p : Int) + 1))
      clear hba
      generalize V0.alloc (.cells #[.int .i64 ((p : Int) + 1)] 3) = V1 at *
      generalize V0.heap.size = D2 at *
      refine hK.out _ _ HT1.out.box (fun hHeld => ?_)
      clear hK K
      refine wpAnyH_ready (rs := [5, 8, 13]) (by kernel_rfl) (by simp) ?_
      refine AllReadyH.cons rfl (fun K hK => ?_) (AllReadyH.cons rfl (fun K hK => ?_) (AllReadyH.cons rfl (fun K hK => ?_) (AllReadyH.nil)))
      · have cA := (HT1.out.cell p hpl 4  (by decide) (.slice o1 n1 c1) (by show some _ = _; exact congrArg some HV1.out)).1
        go_simp
        refine hK.out _ _ HT1.out.box (fun hHeld => ?_)
        clear hK K cA
        refine wpAnyH_ready (rs := [8, 13]) (by kernel_rfl) (by simp) ?_
        refine AllReadyH.cons rfl (fun K hK => ?_) (AllReadyH.cons rfl (fun K hK => ?_) (AllReadyH.nil))
        · go_simp
          have hba : Below V1.heap.size V1 (V1.alloc (.cells #[.int .i64 ((q : Int) + 1)] 3)) := (Below.refl _ V1).alloc (Nat.le_refl _) _
          have HT2 := hid (HT1.out.later hba)
          have HD1_2 := hid (HT1.out.lst.fresh ((q : Int) + 1))
          have HD2_2 := hid (HD2_1.out.later hba)
          clear hba
          generalize V1.alloc (.cells #[.int .i64 ((q : Int) + 1)] 3) = V2 at *
          generalize V1.heap.size = D1 at *
          refine hK.out _ _ HT2.out.box (fun hHeld => ?_)
          clear hK K
          refine wpAnyH_ready (rs := [9, 13]) (by kernel_rfl) (by simp) ?_
          refine AllReadyH.cons rfl (fun K hK => ?_) (AllReadyH.cons rfl (fun K hK => ?_) (AllReadyH.nil))
          · obtain ⟨o5, c5, V3, hap, hT, hd⟩ := HT2.out.put p hpl true _ D1 HD1_2.out hb1
            have HT3 := hid hT
            have HD2_3 := hid (hd D2 _ HD2_2.out)
            have hs1 : side l0[p] true = .slice o1 n1 c1 := HV1.out
            have hn1 : (numsOf l0[p] true).length = n1 := HN1.out
            simp only [hs1, hn1] at hap HT3 HD2_3
            have HAp := hid hap
            clear hap hT hd hs1 hn1
            refine step_appendA _ rfl (.tmp 43) (.tmp 46) 23 23 rfl _ _ rfl rfl _ _ HAp.out (some 47) rfl ?_
            refine hK.out _ _ HT3.out.box (fun hHeld => ?_)
            clear hK K HAp
            simp only [Act.put, List.setIfInBounds_toArray, List.set_cons_zero, List.set_cons_succ]
            refine wpAnyH_ready (rs := [13]) (by kernel_rfl) (by simp) ?_
            refine AllReadyH.cons rfl (fun K hK => ?_) (AllReadyH.nil)
            have cA := (HT3.out.cell q hql 3  (by decide) (.slice o3 n3 c3) (by show some _ = _; exact congrArg some HV3.out)).1
            go_simp
            refine hK.out _ _ HT3.out.box (fun hHeld => ?_)
            clear hK K cA
            refine wpAnyH_ready (rs := [16]) (by kernel_rfl) (by simp) ?_
            refine AllReadyH.cons rfl (fun K hK => ?_) (AllReadyH.nil)
            have hLq : (l0.set p (putL l0[p] ((q : Int) + 1) (.slice o5 (n1 + 1) c5) true))[q]'(by simpa using hql) = l0[q] := List.getElem_set_ne hpq _
            obtain ⟨o6, c6, V4, hap, hT, hd⟩ := HT3.out.put q (by simpa using hql) false _ D2 HD2_3.out (by rw [hLq]; exact hb3)
            have HT4 := hid hT
            have hs1 : side l0[q] false = .slice o3 n3 c3 := HV3.out
            have hn1 : (numsOf l0[q] false).length = n3 := HN3.out
            simp only [hLq, hs1, hn1] at hap HT4
            have HAp := hid hap
            clear hap hT hd hs1 hn1 hLq
            refine step_appendA _ rfl (.tmp 51) (.tmp 53) 23 23 rfl _ _ rfl rfl _ _ HAp.out (some 54) rfl ?_
            refine hK.out _ _ HT4.out.box (fun hHeld => ?_)
            clear hK K HAp
            simp only [Act.put, List.setIfInBounds_toArray, List.set_cons_zero, List.set_cons_succ]
            obtain ⟨⟨u1, s1⟩, s2, s3, ⟨u2, s4⟩, s5, s6⟩ := tie_store hpl hql HT4.out (.slice o5 (n1 + 1) c5) (.slice o6 (n3 + 1) c6)
            have hfin := tie_done (w0 := w0) hpl hql hpq HT4.out
            have HFin := hid hfin
            have S3 := hid s3
            have S6 := hid s6
            clear hfin s3 s6
            refine wpAnyH_one 17 55 (.pointer (some ⟨g, p * 5, none⟩)) hHeld rfl rfl (by kernel_rfl) (fun _ _ _ _ _ h => h) (by kernel_rfl) (by kernel_rfl) (by rfl) ?_ ?_
            · intro V hSw; (try dsimp only at hSw); go_simp
            simp only [Act.put, List.setIfInBounds_toArray, List.set_cons_zero, List.set_cons_succ]
            refine wpAnyH_one 18 56 (.pointer (some ⟨g, p * 5 + 4, none⟩)) hHeld rfl rfl (by kernel_rfl) (fun _ _ _ _ _ h => h) (by kernel_rfl) (by kernel_rfl) (by rfl) ?_ ?_
            · intro V hSw; (try dsimp only at hSw); go_simp
            simp only [Act.put, List.setIfInBounds_toArray, List.set_cons_zero, List.set_cons_succ]
            refine wpAnyH_ready (rs := [19]) (by kernel_rfl) (by simp) ?_
            refine AllReadyH.cons rfl (fun K hK => ?_) AllReadyH.nil
            go_simp
            refine hK.out _ _ S3.out (fun hHeld => ?_)
            clear hK K
            refine wpAnyH_one 20 57 (.pointer (some ⟨g, q * 5, none⟩)) hHeld rfl rfl (by kernel_rfl) (fun _ _ _ _ _ h => h) (by kernel_rfl) (by kernel_rfl) (by rfl) ?_ ?_
            · intro V hSw; (try dsimp only at hSw); go_simp
            simp only [Act.put, List.setIfInBounds_toArray, List.set_cons_zero, List.set_cons_succ]
            refine wpAnyH_one 21 58 (.pointer (some ⟨g, q * 5 + 3, none⟩)) hHeld rfl rfl (by kernel_rfl) (fun _ _ _ _ _ h => h) (by kernel_rfl) (by kernel_rfl) (by rfl) ?_ ?_
            · intro V hSw; (try dsimp only at hSw); go_simp
            simp only [Act.put, List.setIfInBounds_toArray, List.set_cons_zero, List.set_cons_succ]
            refine wpAnyH_ready (rs := [22]) (by kernel_rfl) (by simp) ?_
            refine AllReadyH.cons rfl (fun K hK => ?_) AllReadyH.nil
            go_simp
            refine hK.out _ _ S6.out (fun hHeld => ?_)
            clear hK K
            refine wpAnyH_done (by kernel_rfl) ?_ _
            go_wp2
            (try simp only [Exit.inBlock, Exit.then])
            refine bodyPost_end (results_none rfl _ _ _) rfl ?_
            exact ⟨rfl, HRet.out _ _ _ HFin.out⟩
          · have cA := (HT2.out.cell q hql 3  (by decide) (.slice o3 n3 c3) (by show some _ = _; exact congrArg some HV3.out)).1
            go_simp
            refine hK.out _ _ HT2.out.box (fun hHeld => ?_)
            clear hK K cA
            refine wpAnyH_ready (rs := [9]) (by kernel_rfl) (by simp) ?_
            refine AllReadyH.cons rfl (fun K hK => ?_) (AllReadyH.nil)
            obtain ⟨o5, c5, V3, hap, hT, hd⟩ := HT2.out.put p hpl true _ D1 HD1_2.out hb1
            have HT3 := hid hT
            have HD2_3 := hid (hd D2 _ HD2_2.out)
            have hs1 : side l0[p] true = .slice o1 n1 c1 := HV1.out
            have hn1 : (numsOf l0[p] true).length = n1 := HN1.out
            simp only [hs1, hn1] at hap HT3 HD2_3
            have HAp := hid hap
            clear hap hT hd hs1 hn1
            refine step_appendA _ rfl (.tmp 43) (.tmp 46) 23 23 rfl _ _ rfl rfl _ _ HAp.out (some 47) rfl ?_
            refine hK.out _ _ HT3.out.box (fun hHeld => ?_)
            clear hK K HAp
            simp only [Act.put, List.setIfInBounds_toArray, List.set_cons_zero, List.set_cons_succ]
            refine wpAnyH_ready (rs := [16]) (by kernel_rfl) (by simp) ?_
            refine AllReadyH.cons rfl (fun K hK => ?_) (AllReadyH.nil)
            have hLq : (l0.set p (putL l0[p] ((q : Int) + 1) (.slice o5 (n1 + 1) c5) true))[q]'(by simpa using hql) = l0[q] := List.getElem_set_ne hpq _
            obtain ⟨o6, c6, V4, hap, hT, hd⟩ := HT3.out.put q (by simpa using hql) false _ D2 HD2_3.out (by rw [hLq]; exact hb3)
            have HT4 := hid hT
            have hs1 : side l0[q] false = .slice o3 n3 c3 := HV3.out
            have hn1 : (numsOf l0[q] false).length = n3 := HN3.out
            simp only [hLq, hs1, hn1] at hap HT4
            have HAp := hid hap
            clear hap hT hd hs1 hn1 hLq
            refine step_appendA _ rfl (.tmp 51) (.tmp 53) 23 23 rfl _ _ rfl rfl _ _ HAp.out (some 54) rfl ?_
            refine hK.out _ _ HT4.out.box (fun hHeld => ?_)
            clear hK K HAp
            simp only [Act.put, List.setIfInBounds_toArray, List.set_cons_zero, List.set_cons_succ]
            obtain ⟨⟨u1, s1⟩, s2, s3, ⟨u2, s4⟩, s5, s6⟩ := tie_store hpl hql HT4.out (.slice o5 (n1 + 1) c5) (.slice o6 (n3 + 1) c6)
            have hfin := tie_done (w0 := w0) hpl hql hpq HT4.out
            have HFin := hid hfin
            have S3 := hid s3
            have S6 := hid s6
            clear hfin s3 s6
            refine wpAnyH_one 17 55 (.pointer (some ⟨g, p * 5, none⟩)) hHeld rfl rfl (by kernel_rfl) (fun _ _ _ _ _ h => h) (by kernel_rfl) (by kernel_rfl) (by rfl) ?_ ?_
            · intro V hSw; (try dsimp only at hSw); go_simp
            simp only [Act.put, List.setIfInBounds_toArray, List.set_cons_zero, List.set_cons_succ]
            refine wpAnyH_one 18 56 (.pointer (some ⟨g, p * 5 + 4, none⟩)) hHeld rfl rfl (by kernel_rfl) (fun _ _ _ _ _ h => h) (by kernel_rfl) (by kernel_rfl) (by rfl) ?_ ?_
            · intro V hSw; (try dsimp only at hSw); go_simp
            simp only [Act.put, List.setIfInBounds_toArray, List.set_cons_zero, List.set_cons_succ]
            refine wpAnyH_ready (rs := [19]) (by kernel_rfl) (by simp) ?_
            refine AllReadyH.cons rfl (fun K hK => ?_) AllReadyH.nil
            go_simp
            refine hK.out _ _ S3.out (fun hHeld => ?_)
            clear hK K
            refine wpAnyH_one 20 57 (.pointer (some ⟨g, q * 5, none⟩)) hHeld rfl rfl (by kernel_rfl) (fun _ _ _ _ _ h => h) (by kernel_rfl) (by kernel_rfl) (by rfl) ?_ ?_
            · intro V hSw; (try dsimp only at hSw); go_simp
            simp only [Act.put, List.setIfInBounds_toArray, List.set_cons_zero, List.set_cons_succ]
            refine wpAnyH_one 21 58 (.pointer (some ⟨g, q * 5 + 3, none⟩)) hHeld rfl rfl (by kernel_rfl) (fun _ _ _ _ _ h => h) (by kernel_rfl) (by kernel_rfl) (by rfl) ?_ ?_
            · intro V hSw; (try dsimp only at hSw); go_simp
            simp only [Act.put, List.setIfInBounds_toArray, List.set_cons_zero, List.set_cons_succ]
            refine wpAnyH_ready (rs := [22]) (by kernel_rfl) (by simp) ?_
            refine AllReadyH.cons rfl (fun K hK => ?_) AllReadyH.nil
            go_simp
            refine hK.out _ _ S6.out (fun hHeld => ?_)
            clear hK K
            refine wpAnyH_done (by kernel_rfl) ?_ _
            go_wp2
            (try simp only [Exit.inBlock, Exit.then])
            refine bodyPost_end (results_none rfl _ _ _) rfl ?_
            exact ⟨rfl, HRet.out _ _ _ HFin.out⟩
        · have cA := (HT1.out.cell q hql 3  (by decide) (.slice o3 n3 c3) (by show some _ = _; exact congrArg some HV3.out)).1
          go_simp
          refine hK.out _ _ HT1.out.box (fun hHeld => ?_)
          clear hK K cA
          refine wpAnyH_ready (rs := [8]) (by kernel_rfl) (by simp) ?_
          refine AllReadyH.cons rfl (fun K hK => ?_) (AllReadyH.nil)
          go_simp
          have hba : Below V1.heap.size V1 (V1.alloc (.cells #[.int .i64 ((q : Int) + 1)] 3)) := (Below.refl _ V1).alloc (Nat.le_refl _) _
          have HT2 := hid (HT1.out.later hba)
          have HD1_2 := hid (HT1.out.lst.fresh ((q : Int) + 1))
          have HD2_2 := hid (HD2_1.out.later hba)
          clear hba
          generalize V1.alloc (.cells #[.int .i64 ((q : Int) + 1)] 3) = V2 at *
          generalize V1.heap.size = D1 at *
          refine hK.out _ _ HT2.out.box (fun hHeld => ?_)
          clear hK K
          refine wpAnyH_ready (rs := [9]) (by kernel_rfl) (by simp) ?_
          refine AllReadyH.cons rfl (fun K hK => ?_) (AllReadyH.nil)
          obtain ⟨o5, c5, V3, hap, hT, hd⟩ := HT2.out.put p hpl true _ D1 HD1_2.out hb1
          have HT3 := hid hT
          have HD2_3 := hid (hd D2 _ HD2_2.out)
          have hs1 : side l0[p] true = .slice o1 n1 c1 := HV1.out
          have hn1 : (numsOf l0[p] true).length = n1 := HN1.out
          simp only [hs1, hn1] at hap HT3 HD2_3
          have HAp := hid hap
          clear hap hT hd hs1 hn1
          refine step_appendA _ rfl (.tmp 43) (.tmp 46) 23 23 rfl _ _ rfl rfl _ _ HAp.out (some 47) rfl ?_
          refine hK.out _ _ HT3.out.box (fun hHeld => ?_)
          clear hK K HAp
          simp only [Act.put, List.setIfInBounds_toArray, List.set_cons_zero, List.set_cons_succ]
          refine wpAnyH_ready (rs := [16]) (by kernel_rfl) (by simp) ?_
          refine AllReadyH.cons rfl (fun K hK => ?_) (AllReadyH.nil)
          have hLq : (l0.set p (putL l0[p] ((q : Int) + 1) (.slice o5 (n1 + 1) c5) true))[q]'(by simpa using hql) = l0[q] := List.getElem_set_ne hpq _
          obtain ⟨o6, c6, V4, hap, hT, hd⟩ := HT3.out.put q (by simpa using hql) false _ D2 HD2_3.out (by rw [hLq]; exact hb3)
          have HT4 := hid hT
          have hs1 : side l0[q] false = .slice o3 n3 c3 := HV3.out
          have hn1 : (numsOf l0[q] false).length = n3 := HN3.out
          simp only [hLq, hs1, hn1] at hap HT4
          have HAp := hid hap
          clear hap hT hd hs1 hn1 hLq
          refine step_appendA _ rfl (.tmp 51) (.tmp 53) 23 23 rfl _ _ rfl rfl _ _ HAp.out (some 54) rfl ?_
          refine hK.out _ _ HT4.out.box (fun hHeld => ?_)
          clear hK K HAp
          simp only [Act.put, List.setIfInBounds_toArray, List.set_cons_zero, List.set_cons_succ]
          obtain ⟨⟨u1, s1⟩, s2, s3, ⟨u2, s4⟩, s5, s6⟩ := tie_store hpl hql HT4.out (.slice o5 (n1 + 1) c5) (.slice o6 (n3 + 1) c6)
          have hfin := tie_done (w0 := w0) hpl hql hpq HT4.out
          have HFin := hid hfin
          have S3 := hid s3
          have S6 := hid s6
          clear hfin s3 s6
          refine wpAnyH_one 17 55 (.pointer (some ⟨g, p * 5, none⟩)) hHeld rfl rfl (by kernel_rfl) (fun _ _ _ _ _ h => h) (by kernel_rfl) (by kernel_rfl) (by rfl) ?_ ?_
          · intro V hSw; (try dsimp only at hSw); go_simp
          simp only [Act.put, List.setIfInBounds_toArray, List.set_cons_zero, List.set_cons_succ]
          refine wpAnyH_one 18 56 (.pointer (some ⟨g, p * 5 + 4, none⟩)) hHeld rfl rfl (by kernel_rfl) (fun _ _ _ _ _ h => h) (by kernel_rfl) (by kernel_rfl) (by rfl) ?_ ?_
          · intro V hSw; (try dsimp only at hSw); go_simp
          simp only [Act.put, List.setIfInBounds_toArray, List.set_cons_zero, List.set_cons_succ]
          refine wpAnyH_ready (rs := [19]) (by kernel_rfl) (by simp) ?_
          refine AllReadyH.cons rfl (fun K hK => ?_) AllReadyH.nil
          go_simp
          refine hK.out _ _ S3.out (fun hHeld => ?_)
          clear hK K
          refine wpAnyH_one 20 57 (.pointer (some ⟨g, q * 5, none⟩)) hHeld rfl rfl (by kernel_rfl) (fun _ _ _ _ _ h => h) (by kernel_rfl) (by kernel_rfl) (by rfl) ?_ ?_
          · intro V hSw; (try dsimp only at hSw); go_simp
          simp only [Act.put, List.setIfInBounds_toArray, List.set_cons_zero, List.set_cons_succ]
          refine wpAnyH_one 21 58 (.pointer (some ⟨g, q * 5 + 3, none⟩)) hHeld rfl rfl (by kernel_rfl) (fun _ _ _ _ _ h => h) (by kernel_rfl) (by kernel_rfl) (by rfl) ?_ ?_
          · intro V hSw; (try dsimp only at hSw); go_simp
          simp only [Act.put, List.setIfInBounds_toArray, List.set_cons_zero, List.set_cons_succ]
          refine wpAnyH_ready (rs := [22]) (by kernel_rfl) (by simp) ?_
          refine AllReadyH.cons rfl (fun K hK => ?_) AllReadyH.nil
          go_simp
          refine hK.out _ _ S6.out (fun hHeld => ?_)
          clear hK K
          refine wpAnyH_done (by kernel_rfl) ?_ _
          go_wp2
          (try simp only [Exit.inBlock, Exit.then])
          refine bodyPost_end (results_none rfl _ _ _) rfl ?_
          exact ⟨rfl, HRet.out _ _ _ HFin.out⟩
      · go_simp
        have hba : Below V1.heap.size V1 (V1.alloc (.cells #[.int .i64 ((q : Int) + 1)] 3)) := (Below.refl _ V1).alloc (Nat.le_refl _) _
        have HT2 := hid (HT1.out.later hba)
        have HD1_2 := hid (HT1.out.lst.fresh ((q : Int) + 1))
        have HD2_2 := hid (HD2_1.out.later hba)
        clear hba
        generalize V1.alloc (.cells #[.int .i64 ((q : Int) + 1)] 3) = V2 at *
        generalize V1.heap.size = D1 at *
        refine hK.out _ _ HT2.out.box (fun hHeld => ?_)
        clear hK K
        refine wpAnyH_ready (rs := [5, 13]) (by kernel_rfl) (by simp) ?_
        refine AllReadyH.cons rfl (fun K hK => ?_) (AllReadyH.cons rfl (fun K hK => ?_) (AllReadyH.nil))
        · have cA := (HT2.out.cell p hpl 4  (by decide) (.slice o1 n1 c1) (by show some _ = _; exact congrArg some HV1.out)).1
          go_simp
          refine hK.out _ _ HT2.out.box (fun hHeld => ?_)
          clear hK K cA
          refine wpAnyH_ready (rs := [9, 13]) (by kernel_rfl) (by simp) ?_
          refine AllReadyH.cons rfl (fun K hK => ?_) (AllReadyH.cons rfl (fun K hK => ?_) (AllReadyH.nil))
          · obtain ⟨o5, c5, V3, hap, hT, hd⟩ := HT2.out.put p hpl true _ D1 HD1_2.out hb1
            have HT3 := hid hT
            have HD2_3 := hid (hd D2 _ HD2_2.out)
            have hs1 : side l0[p] true = .slice o1 n1 c1 := HV1.out
            have hn1 : (numsOf l0[p] true).length = n1 := HN1.out
            simp only [hs1, hn1] at hap HT3 HD2_3
            have HAp := hid hap
            clear hap hT hd hs1 hn1
            refine step_appendA _ rfl (.tmp 43) (.tmp 46) 23 23 rfl _ _ rfl rfl _ _ HAp.out (some 47) rfl ?_
            refine hK.out _ _ HT3.out.box (fun hHeld => ?_)
            clear hK K HAp
            simp only [Act.put, List.setIfInBounds_toArray, List.set_cons_zero, List.set_cons_succ]
            refine wpAnyH_ready (rs := [13]) (by kernel_rfl) (by simp) ?_
            refine AllReadyH.cons rfl (fun K hK => ?_) (AllReadyH.nil)
            have cA := (HT3.out.cell q hql 3  (by decide) (.slice o3 n3 c3) (by show some _ = _; exact congrArg some HV3.out)).1
            go_simp
            refine hK.out _ _ HT3.out.box (fun hHeld => ?_)
            clear hK K cA
            refine wpAnyH_ready (rs := [16]) (by kernel_rfl) (by simp) ?_
            refine AllReadyH.cons rfl (fun K hK => ?_) (AllReadyH.nil)
            have hLq : (l0.set p (putL l0[p] ((q : Int) + 1) (.slice o5 (n1 + 1) c5) true))[q]'(by simpa using hql) = l0[q] := List.getElem_set_ne hpq _
            obtain ⟨o6, c6, V4, hap, hT, hd⟩ := HT3.out.put q (by simpa using hql) false _ D2 HD2_3.out (by rw [hLq]; exact hb3)
            have HT4 := hid hT
            have hs1 : side l0[q] false = .slice o3 n3 c3 := HV3.out
            have hn1 : (numsOf l0[q] false).length = n3 := HN3.out
            simp only [hLq, hs1, hn1] at hap HT4
            have HAp := hid hap
            clear hap hT hd hs1 hn1 hLq
            refine step_appendA _ rfl (.tmp 51) (.tmp 53) 23 23 rfl _ _ rfl rfl _ _ HAp.out (some 54) rfl ?_
            refine hK.out _ _ HT4.out.box (fun hHeld => ?_)
            clear hK K HAp
            simp only [Act.put, List.setIfInBounds_toArray, List.set_cons_zero, List.set_cons_succ]
            obtain ⟨⟨u1, s1⟩, s2, s3, ⟨u2, s4⟩, s5, s6⟩ := tie_store hpl hql HT4.out (.slice o5 (n1 + 1) c5) (.slice o6 (n3 + 1) c6)
            have hfin := tie_done (w0 := w0) hpl hql hpq HT4.out
            have HFin := hid hfin
            have S3 := hid s3
            have S6 := hid s6
            clear hfin s3 s6
            refine wpAnyH_one 17 55 (.pointer (some ⟨g, p * 5, none⟩)) hHeld rfl rfl (by kernel_rfl) (fun _ _ _ _ _ h => h) (by kernel_rfl) (by kernel_rfl) (by rfl) ?_ ?_
            · intro V hSw; (try dsimp only at hSw); go_simp
            simp only [Act.put, List.setIfInBounds_toArray, List.set_cons_zero, List.set_cons_succ]
            refine wpAnyH_one 18 56 (.pointer (some ⟨g, p * 5 + 4, none⟩)) hHeld rfl rfl (by kernel_rfl) (fun _ _ _ _ _ h => h) (by kernel_rfl) (by kernel_rfl) (by rfl) ?_ ?_
            · intro V hSw; (try dsimp only at hSw); go_simp
            simp only [Act.put, List.setIfInBounds_toArray, List.set_cons_zero, List.set_cons_succ]
            refine wpAnyH_ready (rs := [19]) (by kernel_rfl) (by simp) ?_
            refine AllReadyH.cons rfl (fun K hK => ?_) AllReadyH.nil
            go_simp
            refine hK.out _ _ S3.out (fun hHeld => ?_)
            clear hK K
            refine wpAnyH_one 20 57 (.pointer (some ⟨g, q * 5, none⟩)) hHeld rfl rfl (by kernel_rfl) (fun _ _ _ _ _ h => h) (by kernel_rfl) (by kernel_rfl) (by rfl) ?_ ?_
            · intro V hSw; (try dsimp only at hSw); go_simp
            simp only [Act.put, List.setIfInBounds_toArray, List.set_cons_zero, List.set_cons_succ]
            refine wpAnyH_one 21 58 (.pointer (some ⟨g, q * 5 + 3, none⟩)) hHeld rfl rfl (by kernel_rfl) (fun _ _ _ _ _ h => h) (by kernel_rfl) (by kernel_rfl) (by rfl) ?_ ?_
            · intro V hSw; (try dsimp only at hSw); go_simp
            simp only [Act.put, List.setIfInBounds_toArray, List.set_cons_zero, List.set_cons_succ]
            refine wpAnyH_ready (rs := [22]) (by kernel_rfl) (by simp) ?_
            refine AllReadyH.cons rfl (fun K hK => ?_) AllReadyH.nil
            go_simp
            refine hK.out _ _ S6.out (fun hHeld => ?_)
            clear hK K
            refine wpAnyH_done (by kernel_rfl) ?_ _
            go_wp2
            (try simp only [Exit.inBlock, Exit.then])
            refine bodyPost_end (results_none rfl _ _ _) rfl ?_
            exact ⟨rfl, HRet.out _ _ _ HFin.out⟩
          · have cA := (HT2.out.cell q hql 3  (by decide) (.slice o3 n3 c3) (by show some _ = _; exact congrArg some HV3.out)).1
            go_simp
            refine hK.out _ _ HT2.out.box (fun hHeld => ?_)
            clear hK K cA
            refine wpAnyH_ready (rs := [9]) (by kernel_rfl) (by simp) ?_
            refine AllReadyH.cons rfl (fun K hK => ?_) (AllReadyH.nil)
            obtain ⟨o5, c5, V3, hap, hT, hd⟩ := HT2.out.put p hpl true _ D1 HD1_2.out hb1
            have HT3 := hid hT
            have HD2_3 := hid (hd D2 _ HD2_2.out)
            have hs1 : side l0[p] true = .slice o1 n1 c1 := HV1.out
            have hn1 : (numsOf l0[p] true).length = n1 := HN1.out
            simp only [hs1, hn1] at hap HT3 HD2_3
            have HAp := hid hap
            clear hap hT hd hs1 hn1
            refine step_appendA _ rfl (.tmp 43) (.tmp 46) 23 23 rfl _ _ rfl rfl _ _ HAp.out (some 47) rfl ?_
            refine hK.out _ _ HT3.out.box (fun hHeld => ?_)
            clear hK K HAp
            simp only [Act.put, List.setIfInBounds_toArray, List.set_cons_zero, List.set_cons_succ]
            refine wpAnyH_ready (rs := [16]) (by kernel_rfl) (by simp) ?_
            refine AllReadyH.cons rfl (fun K hK => ?_) (AllReadyH.nil)
            have hLq : (l0.set p (putL l0[p] ((q : Int) + 1) (.slice o5 (n1 + 1) c5) true))[q]'(by simpa using hql) = l0[q] := List.getElem_set_ne hpq _
            obtain ⟨o6, c6, V4, hap, hT, hd⟩ := HT3.out.put q (by simpa using hql) false _ D2 HD2_3.out (by rw [hLq]; exact hb3)
            have HT4 := hid hT
            have hs1 : side l0[q] false = .slice o3 n3 c3 := HV3.out
            have hn1 : (numsOf l0[q] false).length = n3 := HN3.out
            simp only [hLq, hs1, hn1] at hap HT4
            have HAp := hid hap
            clear hap hT hd hs1 hn1 hLq
            refine step_appendA _ rfl (.tmp 51) (.tmp 53) 23 23 rfl _ _ rfl rfl _ _ HAp.out (some 54) rfl ?_
            refine hK.out _ _ HT4.out.box (fun hHeld => ?_)
            clear hK K HAp
            simp only [Act.put, List.setIfInBounds_toArray, List.set_cons_zero, List.set_cons_succ]
            obtain ⟨⟨u1, s1⟩, s2, s3, ⟨u2, s4⟩, s5, s6⟩ := tie_store hpl hql HT4.out (.slice o5 (n1 + 1) c5) (.slice o6 (n3 + 1) c6)
            have hfin := tie_done (w0 := w0) hpl hql hpq HT4.out
            have HFin := hid hfin
            have S3 := hid s3
            have S6 := hid s6
            clear hfin s3 s6
            refine wpAnyH_one 17 55 (.pointer (some ⟨g, p * 5, none⟩)) hHeld rfl rfl (by kernel_rfl) (fun _ _ _ _ _ h => h) (by kernel_rfl) (by kernel_rfl) (by rfl) ?_ ?_
            · intro V hSw; (try dsimp only at hSw); go_simp
            simp only [Act.put, List.setIfInBounds_toArray, List.set_cons_zero, List.set_cons_succ]
            refine wpAnyH_one 18 56 (.pointer (some ⟨g, p * 5 + 4, none⟩)) hHeld rfl rfl (by kernel_rfl) (fun _ _ _ _ _ h => h) (by kernel_rfl) (by kernel_rfl) (by rfl) ?_ ?_
            · intro V hSw; (try dsimp only at hSw); go_simp
            simp only [Act.put, List.setIfInBounds_toArray, List.set_cons_zero, List.set_cons_succ]
            refine wpAnyH_ready (rs := [19]) (by kernel_rfl) (by simp) ?_
            refine AllReadyH.cons rfl (fun K hK => ?_) AllReadyH.nil
            go_simp
            refine hK.out _ _ S3.out (fun hHeld => ?_)
            clear hK K
            refine wpAnyH_one 20 57 (.pointer (some ⟨g, q * 5, none⟩)) hHeld rfl rfl (by kernel_rfl) (fun _ _ _ _ _ h => h) (by kernel_rfl) (by kernel_rfl) (by rfl) ?_ ?_
            · intro V hSw; (try dsimp only at hSw); go_simp
            simp only [Act.put, List.setIfInBounds_toArray, List.set_cons_zero, List.set_cons_succ]
            refine wpAnyH_one 21 58 (.pointer (some ⟨g, q * 5 + 3, none⟩)) hHeld rfl rfl (by kernel_rfl) (fun _ _ _ _ _ h => h) (by kernel_rfl) (by kernel_rfl) (by rfl) ?_ ?_
            · intro V hSw; (try dsimp only at hSw); go_simp
            simp only [Act.put, List.setIfInBounds_toArray, List.set_cons_zero, List.set_cons_succ]
            refine wpAnyH_ready (rs := [22]) (by kernel_rfl) (by simp) ?_
            refine AllReadyH.cons rfl (fun K hK => ?_) AllReadyH.nil
            go_simp
            refine hK.out _ _ S6.out (fun hHeld => ?_)
            clear hK K
            refine wpAnyH_done (by kernel_rfl) ?_ _
            go_wp2
            (try simp only [Exit.inBlock, Exit.then])
            refine bodyPost_end (results_none rfl _ _ _) rfl ?_
            exact ⟨rfl, HRet.out _ _ _ HFin.out⟩
        · have cA := (HT2.out.cell q hql 3  (by decide) (.slice o3 n3 c3) (by show some _ = _; exact congrArg some HV3.out)).1
          go_simp
          refine hK.out _ _ HT2.out.box (fun hHeld => ?_)
          clear hK K cA
          refine wpAnyH_ready (rs := [5]) (by kernel_rfl) (by simp) ?_
          refine AllReadyH.cons rfl (fun K hK => ?_) (AllReadyH.nil)
          have cA := (HT2.out.cell p hpl 4  (by decide) (.slice o1 n1 c1) (by show some _ = _; exact congrArg some HV1.out)).1
          go_simp
          refine hK.out _ _ HT2.out.box (fun hHeld => ?_)
          clear hK K cA
          refine wpAnyH_ready (rs := [9]) (by kernel_rfl) (by simp) ?_
          refine AllReadyH.cons rfl (fun K hK => ?_) (AllReadyH.nil)
          obtain ⟨o5, c5, V3, hap, hT, hd⟩ := HT2.out.put p hpl true _ D1 HD1_2.out hb1
          have HT3 := hid hT
          have HD2_3 := hid (hd D2 _ HD2_2.out)
          have hs1 : side l0[p] true = .slice o1 n1 c1 := HV1.out
          have hn1 : (numsOf l0[p] true).length = n1 := HN1.out
          simp only [hs1, hn1] at hap HT3 HD2_3
          have HAp := hid hap
          clear hap hT hd hs1 hn1
          refine step_appendA _ rfl (.tmp 43) (.tmp 46) 23 23 rfl _ _ rfl rfl _ _ HAp.out (some 47) rfl ?_
          refine hK.out _ _ HT3.out.box (fun hHeld => ?_)
          clear hK K HAp
          simp only [Act.put, List.setIfInBounds_toArray, List.set_cons_zero, List.set_cons_succ]
          refine wpAnyH_ready (rs := [16]) (by kernel_rfl) (by simp) ?_
          refine AllReadyH.cons rfl (fun K hK => ?_) (AllReadyH.nil)
          have hLq : (l0.set p (putL l0[p] ((q : Int) + 1) (.slice o5 (n1 + 1) c5) true))[q]'(by simpa using hql) = l0[q] := List.getElem_set_ne hpq _
          obtain ⟨o6, c6, V4, hap, hT, hd⟩ := HT3.out.put q (by simpa using hql) false _ D2 HD2_3.out (by rw [hLq]; exact hb3)
          have HT4 := hid hT
          have hs1 : side l0[q] false = .slice o3 n3 c3 := HV3.out
          have hn1 : (numsOf l0[q] false).length = n3 := HN3.out
          simp only [hLq, hs1, hn1] at hap HT4
          have HAp := hid hap
          clear hap hT hd hs1 hn1 hLq
          refine step_appendA _ rfl (.tmp 51) (.tmp 53) 23 23 rfl _ _ rfl rfl _ _ HAp.out (some 54) rfl ?_
          refine hK.out _ _ HT4.out.box (fun hHeld => ?_)
          clear hK K HAp
          simp only [Act.put, List.setIfInBounds_toArray, List.set_cons_zero, List.set_cons_succ]
          obtain ⟨⟨u1, s1⟩, s2, s3, ⟨u2, s4⟩, s5, s6⟩ := tie_store hpl hql HT4.out (.slice o5 (n1 + 1) c5) (.slice o6 (n3 + 1) c6)
          have hfin := tie_done (w0 := w0) hpl hql hpq HT4.out
          have HFin := hid hfin
          have S3 := hid s3
          have S6 := hid s6
          clear hfin s3 s6
          refine wpAnyH_one 17 55 (.pointer (some ⟨g, p * 5, none⟩)) hHeld rfl rfl (by kernel_rfl) (fun _ _ _ _ _ h => h) (by kernel_rfl) (by kernel_rfl) (by rfl) ?_ ?_
          · intro V hSw; (try dsimp only at hSw); go_simp
          simp only [Act.put, List.setIfInBounds_toArray, List.set_cons_zero, List.set_cons_succ]
          refine wpAnyH_one 18 56 (.pointer (some ⟨g, p * 5 + 4, none⟩)) hHeld rfl rfl (by kernel_rfl) (fun _ _ _ _ _ h => h) (by kernel_rfl) (by kernel_rfl) (by rfl) ?_ ?_
          · intro V hSw; (try dsimp only at hSw); go_simp
          simp only [Act.put, List.setIfInBounds_toArray, List.set_cons_zero, List.set_cons_succ]
          refine wpAnyH_ready (rs := [19]) (by kernel_rfl) (by simp) ?_
          refine AllReadyH.cons rfl (fun K hK => ?_) AllReadyH.nil
          go_simp
          refine hK.out _ _ S3.out (fun hHeld => ?_)
          clear hK K
          refine wpAnyH_one 20 57 (.pointer (some ⟨g, q * 5, none⟩)) hHeld rfl rfl (by kernel_rfl) (fun _ _ _ _ _ h => h) (by kernel_rfl) (by kernel_rfl) (by rfl) ?_ ?_
          · intro V hSw; (try dsimp only at hSw); go_simp
          simp only [Act.put, List.setIfInBounds_toArray, List.set_cons_zero, List.set_cons_succ]
          refine wpAnyH_one 21 58 (.pointer (some ⟨g, q * 5 + 3, none⟩)) hHeld rfl rfl (by kernel_rfl) (fun _ _ _ _ _ h => h) (by kernel_rfl) (by kernel_rfl) (by rfl) ?_ ?_
          · intro V hSw; (try dsimp only at hSw); go_simp
          simp only [Act.put, List.setIfInBounds_toArray, List.set_cons_zero, List.set_cons_succ]
          refine wpAnyH_ready (rs := [22]) (by kernel_rfl) (by simp) ?_
          refine AllReadyH.cons rfl (fun K hK => ?_) AllReadyH.nil
          go_simp
          refine hK.out _ _ S6.out (fun hHeld => ?_)
          clear hK K
          refine wpAnyH_done (by kernel_rfl) ?_ _
          go_wp2
          (try simp only [Exit.inBlock, Exit.then])
          refine bodyPost_end (results_none rfl _ _ _) rfl ?_
          exact ⟨rfl, HRet.out _ _ _ HFin.out⟩
      · have cA := (HT1.out.cell q hql 3  (by decide) (.slice o3 n3 c3) (by show some _ = _; exact congrArg some HV3.out)).1
        go_simp
        refine hK.out _ _ HT1.out.box (fun hHeld => ?_)
        clear hK K cA
        refine wpAnyH_ready (rs := [5, 8]) (by kernel_rfl) (by simp) ?_
        refine AllReadyH.cons rfl (fun K hK => ?_) (AllReadyH.cons rfl (fun K hK => ?_) (AllReadyH.nil))
        · have cA := (HT1.out.cell p hpl 4  (by decide) (.slice o1 n1 c1) (by show some _ = _; exact congrArg some HV1.out)).1
          go_simp
          refine hK.out _ _ HT1.out.box (fun hHeld => ?_)
          clear hK K cA
          refine wpAnyH_ready (rs := [8]) (by kernel_rfl) (by simp) ?_
          refine AllReadyH.cons rfl (fun K hK => ?_) (AllReadyH.nil)
          go_simp
          have hba : Below V1.heap.size V1 (V1.alloc (.cells #[.int .i64 ((q : Int) + 1)] 3)) := (Below.refl _ V1).alloc (Nat.le_refl _) _
          have HT2 := hid (HT1.out.later hba)
          have HD1_2 := hid (HT1.out.lst.fresh ((q : Int) + 1))
          have HD2_2 := hid (HD2_1.out.later hba)
          clear hba
          generalize V1.alloc (.cells #[.int .i64 ((q : Int) + 1)] 3) = V2 at *
          generalize V1.heap.size = D1 at *
          refine hK.out _ _ HT2.out.box (fun hHeld => ?_)
          clear hK K
          refine wpAnyH_ready (rs := [9]) (by kernel_rfl) (by simp) ?_
          refine AllReadyH.cons rfl (fun K hK => ?_) (AllReadyH.nil)
          obtain ⟨o5, c5, V3, hap, hT, hd⟩ := HT2.out.put p hpl true _ D1 HD1_2.out hb1
          have HT3 := hid hT
          have HD2_3 := hid (hd D2 _ HD2_2.out)
          have hs1 : side l0[p] true = .slice o1 n1 c1 := HV1.out
          have hn1 : (numsOf l0[p] true).length = n1 := HN1.out
          simp only [hs1, hn1] at hap HT3 HD2_3
          have HAp := hid hap
          clear hap hT hd hs1 hn1
          refine step_appendA _ rfl (.tmp 43) (.tmp 46) 23 23 rfl _ _ rfl rfl _ _ HAp.out (some 47) rfl ?_
          refine hK.out _ _ HT3.out.box (fun hHeld => ?_)
          clear hK K HAp
          simp only [Act.put, List.setIfInBounds_toArray, List.set_cons_zero, List.set_cons_succ]
          refine wpAnyH_ready (rs := [16]) (by kernel_rfl) (by simp) ?_
          refine AllReadyH.cons rfl (fun K hK => ?_) (AllReadyH.nil)
          have hLq : (l0.set p (putL l0[p] ((q : Int) + 1) (.slice o5 (n1 + 1) c5) true))[q]'(by simpa using hql) = l0[q] := List.getElem_set_ne hpq _
          obtain ⟨o6, c6, V4, hap, hT, hd⟩ := HT3.out.put q (by simpa using hql) false _ D2 HD2_3.out (by rw [hLq]; exact hb3)
          have HT4 := hid hT
          have hs1 : side l0[q] false = .slice o3 n3 c3 := HV3.out
          have hn1 : (numsOf l0[q] false).length = n3 := HN3.out
          simp only [hLq, hs1, hn1] at hap HT4
          have HAp := hid hap
          clear hap hT hd hs1 hn1 hLq
          refine step_appendA _ rfl (.tmp 51) (.tmp 53) 23 23 rfl _ _ rfl rfl _ _ HAp.out (some 54) rfl ?_
          refine hK.out _ _ HT4.out.box (fun hHeld => ?_)
          clear hK K HAp
          simp only [Act.put, List.setIfInBounds_toArray, List.set_cons_zero, List.set_cons_succ]
          obtain ⟨⟨u1, s1⟩, s2, s3, ⟨u2, s4⟩, s5, s6⟩ := tie_store hpl hql HT4.out (.slice o5 (n1 + 1) c5) (.slice o6 (n3 + 1) c6)
          have hfin := tie_done (w0 := w0) hpl hql hpq HT4.out
          have HFin := hid hfin
          have S3 := hid s3
          have S6 := hid s6
          clear hfin s3 s6
          refine wpAnyH_one 17 55 (.pointer (some ⟨g, p * 5, none⟩)) hHeld rfl rfl (by kernel_rfl) (fun _ _ _ _ _ h => h) (by kernel_rfl) (by kernel_rfl) (by rfl) ?_ ?_
          · intro V hSw; (try dsimp only at hSw); go_simp
          simp only [Act.put, List.setIfInBounds_toArray, List.set_cons_zero, List.set_cons_succ]
          refine wpAnyH_one 18 56 (.pointer (some ⟨g, p * 5 + 4, none⟩)) hHeld rfl rfl (by kernel_rfl) (fun _ _ _ _ _ h => h) (by kernel_rfl) (by kernel_rfl) (by rfl) ?_ ?_
          · intro V hSw; (try dsimp only at hSw); go_simp
          simp only [Act.put, List.setIfInBounds_toArray, List.set_cons_zero, List.set_cons_succ]
          refine wpAnyH_ready (rs := [19]) (by kernel_rfl) (by simp) ?_
          refine AllReadyH.cons rfl (fun K hK => ?_) AllReadyH.nil
          go_simp
          refine hK.out _ _ S3.out (fun hHeld => ?_)
          clear hK K
          refine wpAnyH_one 20 57 (.pointer (some ⟨g, q * 5, none⟩)) hHeld rfl rfl (by kernel_rfl) (fun _ _ _ _ _ h => h) (by kernel_rfl) (by kernel_rfl) (by rfl) ?_ ?_
          · intro V hSw; (try dsimp only at hSw); go_simp
          simp only [Act.put, List.setIfInBounds_toArray, List.set_cons_zero, List.set_cons_succ]
          refine wpAnyH_one 21 58 (.pointer (some ⟨g, q * 5 + 3, none⟩)) hHeld rfl rfl (by kernel_rfl) (fun _ _ _ _ _ h => h) (by kernel_rfl) (by kernel_rfl) (by rfl) ?_ ?_
          · intro V hSw; (try dsimp only at hSw); go_simp
          simp only [Act.put, List.setIfInBounds_toArray, List.set_cons_zero, List.set_cons_succ]
          refine wpAnyH_ready (rs := [22]) (by kernel_rfl) (by simp) ?_
          refine AllReadyH.cons rfl (fun K hK => ?_) AllReadyH.nil
          go_simp
          refine hK.out _ _ S6.out (fun hHeld => ?_)
          clear hK K
          refine wpAnyH_done (by kernel_rfl) ?_ _
          go_wp2
          (try simp only [Exit.inBlock, Exit.then])
          refine bodyPost_end (results_none rfl _ _ _) rfl ?_
          exact ⟨rfl, HRet.out _ _ _ HFin.out⟩
        · go_simp
          have hba : Below V1.heap.size V1 (V1.alloc (.cells #[.int .i64 ((q : Int) + 1)] 3)) := (Below.refl _ V1).alloc (Nat.le_refl _) _
          have HT2 := hid (HT1.out.later hba)
          have HD1_2 := hid (HT1.out.lst.fresh ((q : Int) + 1))
          have HD2_2 := hid (HD2_1.out.later hba)
          clear hba
          generalize V1.alloc (.cells #[.int .i64 ((q : Int) + 1)] 3) = V2 at *
          generalize V1.heap.size = D1 at *
          refine hK.out _ _ HT2.out.box (fun hHeld => ?_)
          clear hK K
          refine wpAnyH_ready (rs := [5]) (by kernel_rfl) (by simp) ?_
          refine AllReadyH.cons rfl (fun K hK => ?_) (AllReadyH.nil)
          have cA := (HT2.out.cell p hpl 4  (by decide) (.slice o1 n1 c1) (by show some _ = _; exact congrArg some HV1.out)).1
          go_simp
          refine hK.out _ _ HT2.out.box (fun hHeld => ?_)
          clear hK K cA
          refine wpAnyH_ready (rs := [9]) (by kernel_rfl) (by simp) ?_
          refine AllReadyH.cons rfl (fun K hK => ?_) (AllReadyH.nil)
          obtain ⟨o5, c5, V3, hap, hT, hd⟩ := HT2.out.put p hpl true _ D1 HD1_2.out hb1
          have HT3 := hid hT
          have HD2_3 := hid (hd D2 _ HD2_2.out)
          have hs1 : side l0[p] true = .slice o1 n1 c1 := HV1.out
          have hn1 : (numsOf l0[p] true).length = n1 := HN1.out
          simp only [hs1, hn1] at hap HT3 HD2_3
          have HAp := hid hap
          clear hap hT hd hs1 hn1
          refine step_appendA _ rfl (.tmp 43) (.tmp 46) 23 23 rfl _ _ rfl rfl _ _ HAp.out (some 47) rfl ?_
          refine hK.out _ _ HT3.out.box (fun hHeld => ?_)
          clear hK K HAp
          simp only [Act.put, List.setIfInBounds_toArray, List.set_cons_zero, List.set_cons_succ]
          refine wpAnyH_ready (rs := [16]) (by kernel_rfl) (by simp) ?_
          refine AllReadyH.cons rfl (fun K hK => ?_) (AllReadyH.nil)
          have hLq : (l0.set p (putL l0[p] ((q : Int) + 1) (.slice o5 (n1 + 1) c5) true))[q]'(by simpa using hql) = l0[q] := List.getElem_set_ne hpq _
          obtain ⟨o6, c6, V4, hap, hT, hd⟩ := HT3.out.put q (by simpa using hql) false _ D2 HD2_3.out (by rw [hLq]; exact hb3)
          have HT4 := hid hT
          have hs1 : side l0[q] false = .slice o3 n3 c3 := HV3.out
          have hn1 : (numsOf l0[q] false).length = n3 := HN3.out
          simp only [hLq, hs1, hn1] at hap HT4
          have HAp := hid hap
          clear hap hT hd hs1 hn1 hLq
          refine step_appendA _ rfl (.tmp 51) (.tmp 53) 23 23 rfl _ _ rfl rfl _ _ HAp.out (some 54) rfl ?_
          refine hK.out _ _ HT4.out.box (fun hHeld => ?_)
          clear hK K HAp
          simp only [Act.put, List.setIfInBounds_toArray, List.set_cons_zero, List.set_cons_succ]
          obtain ⟨⟨u1, s1⟩, s2, s3, ⟨u2, s4⟩, s5, s6⟩ := tie_store hpl hql HT4.out (.slice o5 (n1 + 1) c5) (.slice o6 (n3 + 1) c6)
          have hfin := tie_done (w0 := w0) hpl hql hpq HT4.out
          have HFin := hid hfin
          have S3 := hid s3
          have S6 := hid s6
          clear hfin s3 s6
          refine wpAnyH_one 17 55 (.pointer (some ⟨g, p * 5, none⟩)) hHeld rfl rfl (by kernel_rfl) (fun _ _ _ _ _ h => h) (by kernel_rfl) (by kernel_rfl) (by rfl) ?_ ?_
          · intro V hSw; (try dsimp only at hSw); go_simp
          simp only [Act.put, List.setIfInBounds_toArray, List.set_cons_zero, List.set_cons_succ]
          refine wpAnyH_one 18 56 (.pointer (some ⟨g, p * 5 + 4, none⟩)) hHeld rfl rfl (by kernel_rfl) (fun _ _ _ _ _ h => h) (by kernel_rfl) (by kernel_rfl) (by rfl) ?_ ?_
          · intro V hSw; (try dsimp only at hSw); go_simp
          simp only [Act.put, List.setIfInBounds_toArray, List.set_cons_zero, List.set_cons_succ]
          refine wpAnyH_ready (rs := [19]) (by kernel_rfl) (by simp) ?_
          refine AllReadyH.cons rfl (fun K hK => ?_) AllReadyH.nil
          go_simp
          refine hK.out _ _ S3.out (fun hHeld => ?_)
          clear hK K
          refine wpAnyH_one 20 57 (.pointer (some ⟨g, q * 5, none⟩)) hHeld rfl rfl (by kernel_rfl) (fun _ _ _ _ _ h => h) (by kernel_rfl) (by kernel_rfl) (by rfl) ?_ ?_
          · intro V hSw; (try dsimp only at hSw); go_simp
          simp only [Act.put, List.setIfInBounds_toArray, List.set_cons_zero, List.set_cons_succ]
          refine wpAnyH_one 21 58 (.pointer (some ⟨g, q * 5 + 3, none⟩)) hHeld rfl rfl (by kernel_rfl) (fun _ _ _ _ _ h => h) (by kernel_rfl) (by kernel_rfl) (by rfl) ?_ ?_
          · intro V hSw; (try dsimp only at hSw); go_simp
          simp only [Act.put, List.setIfInBounds_toArray, List.set_cons_zero, List.set_cons_succ]
          refine wpAnyH_ready (rs := [22]) (by kernel_rfl) (by simp) ?_
          refine AllReadyH.cons rfl (fun K hK => ?_) AllReadyH.nil
          go_simp
          refine hK.out _ _ S6.out (fun hHeld => ?_)
          clear hK K
          refine wpAnyH_done (by kernel_rfl) ?_ _
          go_wp2
          (try simp only [Exit.inBlock, Exit.then])
          refine bodyPost_end (results_none rfl _ _ _) rfl ?_
          exact ⟨rfl, HRet.out _ _ _ HFin.out⟩
end Go.Proofs.Ytlibjjmaicgemaa
