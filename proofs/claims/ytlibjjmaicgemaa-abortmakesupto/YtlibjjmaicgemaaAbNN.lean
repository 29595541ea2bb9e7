/- The reference of abort: depend. -/
import Derived.Test.YtlibjjmaicgemaaAbJJ
import Derived.Test.YtlibjjmaicgemaaAbQ
namespace Go.Proofs.Ytlibjjmaicgemaa
open Go.RowKit Go.Lib Go.Shelf

/-- A number more in one list of signals of one's own: the append, and the store behind it. -/
theorem put_one {W w0 : World} {base g c : Nat} {l : List SigV} (h : OwnS W w0 base (.slice (some ⟨g, 0, none⟩) l.length c) l l.length) (hB : base ≤ W.heap.size) (k : Nat) (hk : k < l.length) (b : Bool) (ci : Nat) (hci : ci = if b = true then 4 else 3) (x : Int) (hn : (numsOf l[k] b).length + 1 ≤ 1099511627776) :
    ∃ o c2 V2, (Builtin.append_ #[23, 23] 23 #[side l[k] b, .slice (some ⟨W.heap.size, 0, none⟩) 1 1]).run Try.prog (W.alloc (.cells #[.int .i64 x] 3)) = .ok (.slice o ((numsOf l[k] b).length + 1) c2) V2 ∧ (∃ u, V2.cell? ⟨g, k * 5 + ci, none⟩ = some u) ∧ V2.frozen? ⟨g, k * 5 + ci, none⟩ = false ∧
      OwnS (V2.setCell ⟨g, k * 5 + ci, none⟩ (.slice o ((numsOf l[k] b).length + 1) c2)) w0 base (.slice (some ⟨g, 0, none⟩) l.length c) (l.set k (putL l[k] x (.slice o ((numsOf l[k] b).length + 1) c2) b)) l.length ∧ Below base W (V2.setCell ⟨g, k * 5 + ci, none⟩ (.slice o ((numsOf l[k] b).length + 1) c2)) := by
  have hba : Below W.heap.size W (W.alloc (.cells #[.int .i64 x] 3)) := (Below.refl _ W).alloc (Nat.le_refl _) _
  have hL := h.lists.later hba
  have hB2 : base ≤ (W.alloc (.cells #[.int .i64 x] 3)).heap.size := Nat.le_trans hB hba.size
  obtain ⟨o, c2, V2, hr, hL2, hg, _⟩ := hL.put hB2 k hk b x W.heap.size (h.lists.fresh x) hn
  have hown := hL.own k hk b
  have hrow := (own_later h.row hba).kept hg (by
    rcases (own_later h.row hba).2 with ⟨hv, _⟩ | ⟨g', cap, cur, hv, _, hh, _⟩
    · cases hv
    · refine .inr (fun e => ?_)
      rw [hv] at e
      exact own_not hown hh (by decide) e.symm)
  have hbel : Below base W V2 := (hba.mono hB).trans (below_own hown hB2 hg)
  obtain ⟨g', c', cur, hv, hbg, hh, hnc, hcc⟩ := own_blk hrow (by omega)
  injection hv with e1 _ _
  injection e1 with e1
  injection e1 with e1
  subst e1
  have hci5 : ci < 5 := by subst hci; split <;> omega
  obtain ⟨u, hu⟩ : ∃ u, (sigC l[k])[ci]? = some u := ⟨(sigC l[k])[ci]'(by simp [sigC]; omega), List.getElem?_eq_getElem _⟩
  have hset : rowS (l.set k (putL l[k] x (.slice o ((numsOf l[k] b).length + 1) c2) b)) = (rowS l).set (k * 5 + ci) (.slice o ((numsOf l[k] b).length + 1) c2) := by
    rw [rowS_put _ ci hci5 (putL l[k] x (.slice o ((numsOf l[k] b).length + 1) c2) b) l k hk (by subst hci; cases b <;> rfl)]
  refine ⟨o, c2, V2, hr, ⟨u, hcc _ u ((rowS_get l k ci hk hci5).trans hu)⟩, by simp [World.frozen?, hh], ⟨?_, fun j hj hj2 => ?_, fun j hj hj2 => ?_, fun j j' hj hj' _ _ b1 b2 hne q hq => hL2.apart j j' hj hj' b1 b2 hne q hq⟩, hbel.setCell (p := ⟨g, k * 5 + ci, none⟩) (by show _ ≤ g; exact hbg) _⟩
  · rw [hset, List.length_set]
    exact own_put hrow _
  · exact ⟨own_set (hL2.own j hj false) hh (by decide) _, own_set (hL2.own j hj true) hh (by decide) _⟩
  · rw [List.length_set] at hj
    omega
/-- Signals behind a dependence of the last one on the one at p. -/
def depS (ls : List SigD) (p q : Nat) : List SigD := if ((ls[q]?.map (fun x => x.src.contains ((p : Int) + 1))).getD true) = true then ls else (ls.modify q (fun x => { x with src := x.src ++ [(p : Int) + 1] })).modify p (fun x => { x with dts := x.dts ++ [(q : Int) + 1] })
theorem map_put (l0 : List SigV) (k : Nat) (hk : k < l0.length) (x : Int) (v : Value) (b : Bool) : (l0.set k (putL l0[k] x v b)).map (·.1) = (l0.map (·.1)).modify k (fun y => if b = true then { y with dts := y.dts ++ [x] } else { y with src := y.src ++ [x] }) := by
  refine List.ext_getElem (by simp) (fun j h1 h2 => ?_)
  rw [List.getElem_map, List.getElem_modify]
  by_cases e : k = j
  · subst e
    rw [List.getElem_set_self, if_pos rfl, List.getElem_map]
    cases b <;> rfl
  · rw [List.getElem_set_ne e, if_neg e, List.getElem_map]
set_option maxRecDepth 100000 in
set_option maxHeartbeats 8000000 in
theorem dependR_any (g c q p : Nat) (l0 : List SigV) (W w0 : World) (base : Nat) (hO : OwnS W w0 base (.slice (some ⟨g, 0, none⟩) l0.length c) l0 l0.length) (hB : base ≤ W.heap.size) (hqn : l0.length = q + 1) (hn : l0.length ≤ 1025) (hpq0 : p < q) (hpl : p < l0.length) (hql : q < l0.length) (hd : l0[p].1.dts.length ≤ 4194304) (hs : l0[q].1.src.length ≤ 4194304) :
    Calls Try.prog 29 #[.slice (some ⟨g, 0, none⟩) l0.length c, .int .i64 ((p : Int) + 1)] W fun e w' => e = .returned (.tuple #[]) ∧ ∃ l, l.map (·.1) = depS (l0.map (·.1)) p q ∧ l.length = l0.length ∧ OwnS w' w0 base (.slice (some ⟨g, 0, none⟩) l0.length c) l l0.length ∧ Below base W w' := by
  have hgq : (l0.map (·.1))[q]? = some l0[q].1 := by rw [List.getElem?_map, List.getElem?_eq_getElem hql]; rfl
  obtain ⟨g', c', cur, hv, hbg, hh, hnc, hcc⟩ := own_blk hO.row (by omega)
  injection hv with e1 e2 e3
  injection e1 with e1
  injection e1 with e1
  subst e1
  clear e2 e3
  obtain ⟨os, cs, hsv⟩ := own_shape (hO.own q hql hql).1
  have x0 := hcc (q * 5 + 3) _ ((rowS_get l0 q 3 hql (by decide)).trans rfl)
  rw [hsv] at x0
  have q1 : (0 : Int) ≤ (q : Int) := by omega
  have q2 : (q : Int) < (l0.length : Int) := by omega
  have q3 : (0 : Int) ≤ (p : Int) := by omega
  have q4 : (p : Int) < (l0.length : Int) := by omega
  have hwq : IntKind.i64.wrap (q : Int) = (q : Int) := wrapA (by omega) (by omega)
  have hwp : IntKind.i64.wrap (p : Int) = (p : Int) := wrapA (by omega) (by omega)
  have hlq : (l0.length : Int) - 1 = (q : Int) := by omega
  have HH : Hid (Calls Try.prog 37 #[.slice os l0[q].1.src.length cs, .int .i64 ((p : Int) + 1)] W fun e w' => e = .returned (.bool (l0[q].1.src.contains ((p : Int) + 1))) ∧ Below W.heap.size W w') := by
    have h := hasR_any _ l0[q].1.src ((p : Int) + 1) W (own_rdI (hO.own q hql hql).1) (by omega)
    rw [hsv] at h
    exact h
  have HO := hid hO
  have Hsv := hid hsv
  cases hR : l0[q].1.src.contains ((p : Int) + 1) with
  | true =>
    rw [hR] at HH
    have hdep : depS (l0.map (·.1)) p q = l0.map (·.1) := by
      unfold depS
      rw [hgq]
      show (if l0[q].1.src.contains ((p : Int) + 1) = true then _ else _) = _
      rw [hR, if_pos rfl]
    rw [hdep]
    clear hgq hO hh hcc hnc hdep hR hsv
    generalize l0[q].1.src.length = ns at *
    have Hqn := hid hqn
    clear hqn
    go_enter Try.func29, Try.ntmps29
    go_wp2_with (go_at_call 37; refine HH.out.mono ?_; rintro e w2 ⟨rfl, hb⟩; have HB2 := hid hb; clear hb)
    refine bodyPost_ret (results_none rfl _ _ _) rfl ?_
    exact ⟨rfl, l0, rfl, rfl, HO.out.later HB2.out, HB2.out.mono hB⟩
  | false =>
    rw [hR] at HH
    have hdep : depS (l0.map (·.1)) p q = ((l0.map (·.1)).modify q (fun x => { x with src := x.src ++ [(p : Int) + 1] })).modify p (fun x => { x with dts := x.dts ++ [(q : Int) + 1] }) := by
      unfold depS
      rw [hgq]
      show (if l0[q].1.src.contains ((p : Int) + 1) = true then _ else _) = _
      rw [hR, if_neg Bool.false_ne_true]
    rw [hdep]
    obtain ⟨od, cd, hdv⟩ := own_shape (hO.own p hpl hpl).2
    have x1 := hcc (p * 5 + 4) _ ((rowS_get l0 p 4 hpl (by decide)).trans rfl)
    rw [hdv] at x1
    have Hqn := hid hqn
    have HQ1 : Hid ((q : Int) + 1 = (l0.length : Int)) := by
      show _ = _
      omega
    obtain ⟨ns, hns⟩ : ∃ ns, l0[q].1.src.length = ns := ⟨_, rfl⟩
    obtain ⟨nd, hnd⟩ : ∃ nd, l0[p].1.dts.length = nd := ⟨_, rfl⟩
    rw [hns] at x0 HH hs hsv Hsv
    rw [hnd] at x1 hd hdv
    have Hns := hid hns
    have Hnd := hid hnd
    have Hdv := hid hdv
    clear hgq hO hh hcc hnc hdep hR hsv hdv hqn hns hnd x1
    go_enter Try.func29, Try.ntmps29
    go_upto_region 2 with (go_at_call 37; refine HH.out.mono ?_; rintro e w2 ⟨rfl, hb⟩; have HB2 := hid hb; clear hb)
    clear x0 HH
    have hO2 := HO.out.later HB2.out
    have hBs := HB2.out.size
    obtain ⟨o3, c3, V2, hap, ⟨u3, hu3⟩, hf3, hO3, hb3⟩ := put_one hO2 (by omega) q hql false 3 rfl ((p : Int) + 1) (by show l0[q].1.src.length + 1 ≤ _; have := Hns.out; omega)
    have hnq : (numsOf l0[q] false).length = ns := Hns.out
    rw [hnq, show side l0[q] false = .slice os ns cs from Hsv.out] at hap
    rw [hnq] at hO3 hb3
    have HA3 := hid hap
    have x0 : (w2.alloc (.cells #[.int .i64 ((p : Int) + 1)] 3)).cell? ⟨g, q * 5 + 3, none⟩ = some (.slice os ns cs) := by
      obtain ⟨g', c', cur, hv, hbg, hh, hnc, hcc⟩ := own_blk (own_later hO2.row ((Below.refl _ w2).alloc (o := .cells #[.int .i64 ((p : Int) + 1)] 3) (Nat.le_refl _))) (by omega)
      injection hv with e1 _ _
      injection e1 with e1
      injection e1 with e1
      subst e1
      exact hcc (q * 5 + 3) _ ((rowS_get l0 q 3 hql (by decide)).trans (congrArg some Hsv.out))
    have x1 : w2.cell? ⟨g, q * 5 + 3, none⟩ = some (.slice os ns cs) := by
      obtain ⟨g', c', cur, hv, hbg, hh, hnc, hcc⟩ := own_blk hO2.row (by omega)
      injection hv with e1 _ _
      injection e1 with e1
      injection e1 with e1
      subst e1
      exact hcc (q * 5 + 3) _ ((rowS_get l0 q 3 hql (by decide)).trans (congrArg some Hsv.out))
    obtain ⟨l1, hl1⟩ : ∃ l1, l0.set q (putL l0[q] ((p : Int) + 1) (.slice o3 (ns + 1) c3) false) = l1 := ⟨_, rfl⟩
    have hm1 := map_put l0 q hql ((p : Int) + 1) (.slice o3 (ns + 1) c3) false
    rw [hl1] at hm1 hO3
    have hlen1 : l1.length = l0.length := by rw [← hl1]; simp
    have hpl1 : p < l1.length := by omega
    have hp1 : l1[p] = l0[p] := by
      subst hl1
      rw [List.getElem_set_ne (by omega)]
    have HM1 := hid hm1
    have HO3 := hid hO3
    have HB3 := hid hb3
    have HL1 := hid hlen1
    have HP1 := hid hp1
    clear hap hO3 hb3 hl1 hm1 hlen1 hp1 hnq hO2
    go_upto_region 3 with (at_builtin; refine wpList_append_run _ rfl _ _ 23 23 rfl _ _ rfl rfl _ _ HA3.out ?_)
    clear x0 x1 hu3 hf3 HA3
    generalize V2.setCell ⟨g, q * 5 + 3, none⟩ (.slice o3 (ns + 1) c3) = U at *
    have hO3 := HO3.out
    rw [← HL1.out] at hO3
    have hBU := HB3.out.size
    obtain ⟨o4, c4, V4, hap, ⟨u4, hu4⟩, hf4, hO4, hb4⟩ := put_one hO3 (by omega) p hpl1 true 4 rfl (l0.length : Int) (by show l1[p].1.dts.length + 1 ≤ _; rw [HP1.out]; have := Hnd.out; omega)
    have hnp : (numsOf l1[p] true).length = nd := by
      show l1[p].1.dts.length = nd
      rw [HP1.out]
      exact Hnd.out
    have hsp : side l1[p] true = .slice od nd cd := by
      show l1[p].2.2 = _
      rw [HP1.out]
      exact Hdv.out
    rw [hnp, hsp] at hap
    rw [hnp] at hO4 hb4
    rw [HL1.out] at hO4
    have HA4 := hid hap
    have x0 : ∀ V : World, Below U.heap.size U V → V.cell? ⟨g, p * 5 + 4, none⟩ = some (.slice od nd cd) := fun V hV => by
      obtain ⟨g', c', cur, hv, hbg, hh, hnc, hcc⟩ := own_blk (own_later hO3.row hV) (by omega)
      injection hv with e1 _ _
      injection e1 with e1
      injection e1 with e1
      subst e1
      exact hcc (p * 5 + 4) _ ((rowS_get l1 p 4 hpl1 (by decide)).trans (congrArg some hsp))
    have x1 := x0 U (Below.refl _ _)
    have x2 := x0 (U.alloc (.cells #[.int .i64 (l0.length : Int)] 3)) ((Below.refl _ U).alloc (Nat.le_refl _) _)
    have HM4 : Hid ((l1.set p (putL l1[p] (l0.length : Int) (.slice o4 (nd + 1) c4) true)).map (·.1) = ((l0.map (·.1)).modify q (fun x => { x with src := x.src ++ [(p : Int) + 1] })).modify p (fun x => { x with dts := x.dts ++ [(q : Int) + 1] })) := by
      show _ = _
      rw [map_put l1 p hpl1, HM1.out, HQ1.out]
      rfl
    have HO4 := hid hO4
    have HB4 := hid ((HB2.out.mono hB).trans (HB3.out.trans hb4))
    have HL4 : Hid ((l1.set p (putL l1[p] (l0.length : Int) (.slice o4 (nd + 1) c4) true)).length = l0.length) := by
      show _ = _
      rw [List.length_set]
      exact HL1.out
    clear hap hO4 hb4 hnp hsp hO3 x0
    go_wp2_with (at_builtin; refine wpList_append_run _ rfl _ _ 23 23 rfl _ _ rfl rfl _ _ HA4.out ?_)
    refine bodyPost_end (results_none rfl _ _ _) rfl ?_
    exact ⟨rfl, _, HM4.out, HL4.out, HO4.out, HB4.out⟩
end Go.Proofs.Ytlibjjmaicgemaa
