/- Signals of one's own; abort.copied. -/
import Derived.Test.YtlibjjmaicgemaaAbG
namespace Go.Proofs.Ytlibjjmaicgemaa
open Go.RowKit Go.Lib Go.Shelf

theorem own_put {W : World} {base size n cap g j : Nat} {e : TypeId} {xs : List Value} (h : W.ownsRow base e size (.slice (some ⟨g, 0, none⟩) n cap) n xs) (u : Value) : (W.setCell ⟨g, j, none⟩ u).ownsRow base e size (.slice (some ⟨g, 0, none⟩) n cap) n (xs.set j u) := by
  obtain ⟨hl, h⟩ := h
  rcases h with ⟨h0, _⟩ | ⟨g', cap', cur, hv, hb, hh, hn, hm, hs, ht⟩
  · cases h0
  · injection hv with h1 _ h3
    injection h1 with h1
    injection h1 with h1
    subst h1
    subst h3
    exact ⟨by simp [hl], .inr ⟨g, cap, cur.setIfInBounds j u, rfl, hb, set_boxA hh, hn, hm, by simp [hs], by rw [Array.toList_setIfInBounds, List.take_set, ht]⟩⟩
def side (p : SigV) : Bool → Value
  | false => p.2.1
  | true => p.2.2
/-- Signals in a row of one's own; the lists of the first k are one's own too, each for itself; those of the others lie where they lay. -/
structure OwnS (W w0 : World) (base : Nat) (v : Value) (l : List SigV) (k : Nat) : Prop where
  row : W.ownsRow base 42 5 v l.length (rowS l)
  own : ∀ (j : Nat) (h : j < l.length), j < k → W.ownsRow base 3 1 l[j].2.1 l[j].1.src.length (l[j].1.src.map (Value.int .i64)) ∧ W.ownsRow base 3 1 l[j].2.2 l[j].1.dts.length (l[j].1.dts.map (Value.int .i64))
  old : ∀ (j : Nat) (h : j < l.length), k ≤ j → RdI w0 l[j].2.1 l[j].1.src ∧ RdI w0 l[j].2.2 l[j].1.dts
  apart : ∀ (j j' : Nat) (h : j < l.length) (h' : j' < l.length), j < k → j' < k → ∀ (b b' : Bool), ¬(j = j' ∧ b = b') → ∀ q, (side l[j] b).ownBlock = some q → (side l[j'] b').ownBlock ≠ some q
theorem OwnS.later {W V w0 : World} {base : Nat} {v : Value} {l : List SigV} {k : Nat} (h : OwnS W w0 base v l k) (hb : Below W.heap.size W V) : OwnS V w0 base v l k :=
  ⟨own_later h.row hb, fun j hj hk => ⟨own_later (h.own j hj hk).1 hb, own_later (h.own j hj hk).2 hb⟩, h.old, h.apart⟩
theorem OwnS.lt {W w0 : World} {base : Nat} {v : Value} {l : List SigV} {k : Nat} (h : OwnS W w0 base v l k) (j : Nat) (hj : j < l.length) (hk : j < k) (b : Bool) (q : Nat) (hq : (side l[j] b).ownBlock = some q) : base ≤ q ∧ q < W.heap.size := by
  cases b with
  | false => exact (h.own j hj hk).1.lt q hq
  | true => exact (h.own j hj hk).2.lt q hq
theorem own_blk {W : World} {base size n : Nat} {e : TypeId} {v : Value} {xs : List Value} (h : W.ownsRow base e size v n xs) (hn : 0 < n) : ∃ g c cur, v = .slice (some ⟨g, 0, none⟩) n c ∧ base ≤ g ∧ W.heap[g]? = some (.cells cur e) ∧ n ≤ c ∧ ∀ (i : Nat) (u : Value), xs[i]? = some u → W.cell? ⟨g, i, none⟩ = some u := by
  rcases h.2 with ⟨_, h0⟩ | ⟨g, cap, cur, hv, hb, hh, hn, hm, hs, ht⟩
  · omega
  · refine ⟨g, cap, cur, hv, hb, hh, hn, fun i u hi => ?_⟩
    have := h.cells (g := g) (by rw [hv]; rfl) i u hi
    rw [Addr.add_lit, Nat.zero_add] at this
    exact this
theorem OwnS.read {W w0 : World} {base : Nat} {v : Value} {l : List SigV} (h : OwnS W w0 base v l l.length) : RdS W v (l.map (·.1)) := by
  obtain ⟨o, c, rfl⟩ := own_shape h.row
  by_cases h0 : 0 < l.length
  · obtain ⟨g, c', cur, hv, hb, hh, hn, hc⟩ := own_blk h.row h0
    injection hv with h1 _ h3
    subst h1
    subst h3
    refine ⟨_, c, by rw [List.length_map], by simpa using hn, fun _ => ⟨g, 0, rfl, (Array.getElem?_eq_some_iff.1 hh).1, fun j hj => ?_⟩⟩
    have hj' : j < l.length := by simpa using hj
    have hg : ∀ i, i < 5 → ∀ u, (sigC l[j])[i]? = some u → W.cell? ⟨g, 0 + j * 5 + i, none⟩ = some u := fun i hi u hu => by
      rw [Nat.zero_add]
      exact hc _ u ((rowS_get l j i hj' hi).trans hu)
    refine ⟨l[j].2.1, l[j].2.2, ⟨?_, ?_, ?_, ?_, ?_⟩, ?_, ?_⟩
    · rw [List.getElem_map]; exact hg 0 (by decide) _ rfl
    · rw [List.getElem_map]; exact hg 1 (by decide) _ rfl
    · rw [List.getElem_map]; exact hg 2 (by decide) _ rfl
    · exact hg 3 (by decide) _ rfl
    · exact hg 4 (by decide) _ rfl
    · rw [List.getElem_map]; exact own_rdI (h.own j hj' hj').1
    · rw [List.getElem_map]; exact own_rdI (h.own j hj' hj').2
  · have : l = [] := List.eq_nil_of_length_eq_zero (by omega)
    subst this
    have hc : (0 : Nat) ≤ c := Nat.zero_le _
    exact ⟨o, c, rfl, hc, fun h => absurd h (Nat.lt_irrefl _)⟩
theorem own_step {W w0 : World} {base g c : Nat} {l : List SigV} {k N1 N2 : Nat} (h : OwnS W w0 base (.slice (some ⟨g, 0, none⟩) l.length c) l k) (hk : k < l.length) (sv dv : Value)
    (hs : W.ownsRow base 3 1 sv l[k].1.src.length (l[k].1.src.map (Value.int .i64))) (hd : W.ownsRow base 3 1 dv l[k].1.dts.length (l[k].1.dts.map (Value.int .i64)))
    (hN : N1 ≤ N2) (hold : ∀ (j : Nat) (hj : j < l.length), j < k → ∀ b q, (side l[j] b).ownBlock = some q → q < N1) (hs1 : ∀ q, sv.ownBlock = some q → N1 ≤ q ∧ q < N2) (hd1 : ∀ q, dv.ownBlock = some q → N2 ≤ q) :
    OwnS ((W.setCell ⟨g, k * 5 + 3, none⟩ sv).setCell ⟨g, k * 5 + 4, none⟩ dv) w0 base (.slice (some ⟨g, 0, none⟩) l.length c) (l.set k (l[k].1, sv, dv)) (k + 1) := by
  obtain ⟨g', c', cur, hv, hbg, hh, hnc, hcc⟩ := own_blk h.row (by omega)
  injection hv with e1 _ e3
  injection e1 with e1
  injection e1 with e1
  subst e1
  have hh1 := set_boxA (k := k * 5 + 3) (v := sv) hh
  have keep : ∀ {x : Value} {n : Nat} {ys : List Value}, W.ownsRow base 3 1 x n ys → ((W.setCell ⟨g, k * 5 + 3, none⟩ sv).setCell ⟨g, k * 5 + 4, none⟩ dv).ownsRow base 3 1 x n ys := fun hx => own_set (own_set hx hh (by decide) _) hh1 (by decide) _
  have hr : rowS (l.set k (l[k].1, sv, dv)) = ((rowS l).set (k * 5 + 3) sv).set (k * 5 + 4) dv := by
    rw [rowS_put sv 3 (by decide) (l[k].1, sv, l[k].2.2) l k hk rfl, rowS_put dv 4 (by decide) (l[k].1, sv, dv) (l.set k (l[k].1, sv, l[k].2.2)) k (by simpa using hk) (by rw [List.getElem_set_self]; rfl), List.set_set]
  refine ⟨?_, fun j hj hjk => ?_, fun j hj hjk => ?_, fun j j' hj hj' hjk hjk' b b' hne q hq => ?_⟩
  · rw [hr, List.length_set]
    exact own_put (own_put h.row sv) dv
  · rw [List.length_set] at hj
    by_cases e : j = k
    · subst e
      rw [List.getElem_set_self]
      exact ⟨keep hs, keep hd⟩
    · rw [List.getElem_set_ne (fun x => e x.symm)]
      have := h.own j hj (by omega)
      exact ⟨keep this.1, keep this.2⟩
  · rw [List.length_set] at hj
    rw [List.getElem_set_ne (by omega)]
    exact h.old j hj (by omega)
  · have hjl : j < l.length := by simpa using hj
    have hjl' : j' < l.length := by simpa using hj'
    by_cases e : j = k
    · subst e
      rw [List.getElem_set_self] at hq
      by_cases e' : j' = j
      · subst e'
        rw [List.getElem_set_self]
        cases b <;> cases b'
        · exact absurd ⟨rfl, rfl⟩ hne
        · intro hq'; have := hs1 q hq; have := hd1 q hq'; omega
        · intro hq'; have := hd1 q hq; have := hs1 q hq'; omega
        · exact absurd ⟨rfl, rfl⟩ hne
      · rw [List.getElem_set_ne (fun x => e' x.symm)]
        intro hq'
        have h1 := hold j' hjl' (by omega) b' q hq'
        cases b
        · have := hs1 q hq; omega
        · have := hd1 q hq; omega
    · rw [List.getElem_set_ne (fun x => e x.symm)] at hq
      by_cases e' : j' = k
      · subst e'
        rw [List.getElem_set_self]
        intro hq'
        have h1 := hold j hjl (by omega) b q hq
        cases b'
        · have := hs1 q hq'; omega
        · have := hd1 q hq'; omega
      · rw [List.getElem_set_ne (fun x => e' x.symm)]
        exact h.apart j j' hjl hjl' (by omega) (by omega) b b' hne q hq
theorem map_set_one (l : List SigV) (k : Nat) (hk : k < l.length) (sv dv : Value) : (l.set k (l[k].1, sv, dv)).map (·.1) = l.map (·.1) := by
  rw [List.map_set]
  refine List.ext_getElem (by simp) (fun j h1 h2 => ?_)
  by_cases e : k = j
  · subst e
    rw [List.getElem_set_self, List.getElem_map]
  · rw [List.getElem_set_ne e]

set_option maxRecDepth 100000 in
set_option maxHeartbeats 4000000 in
theorem copied_any (v : Value) (ls : List SigD) (w : World) (hr : RdS w v ls) (hn : ls.length ≤ 1024) (hsm : SmallS ls) :
    Calls Try.prog 33 #[v] w fun e w' => ∃ o c l, e = .returned (.slice o ls.length c) ∧ l.map (·.1) = ls ∧ OwnS w' w w.heap.size (.slice o ls.length c) l l.length ∧ Below w.heap.size w w' := by
  have hC := cloneS_any v ls w hr (by omega)
  obtain ⟨o0, c0, rfl, _, g0⟩ := hr
  clear g0
  have HSm := hid hsm
  clear hsm
  go_enter Try.func33, Try.ntmps33
  go_upto_region 2 with (go_at_call 41; refine hC.mono ?_; rintro e w2 ⟨o2, c2, l0, rfl, hm0, hp0, ho0, hb⟩; have HB2 := hid hb; have HM0 := hid hm0; have hll : l0.length = ls.length := (by rw [← hm0]; simp); have HS2 : Hid (OwnS w2 w w.heap.size (.slice o2 ls.length c2) l0 0) := ⟨by rw [hll]; exact ho0, fun j _ h => absurd h (Nat.not_lt_zero _), fun j hj _ => hp0 _ (List.getElem_mem hj), fun j j' _ _ h => absurd h (Nat.not_lt_zero _)⟩; clear hb hm0 hp0 ho0)
  clear hC
  go_wp2
  go_loopw [10] (fun t wr => ∃ (k : Nat) (l : List SigV), k ≤ ls.length ∧ t = .int .i64 k ∧ Hid (l.map (·.1) = ls) ∧ Hid (OwnS wr w w.heap.size (.slice o2 ls.length c2) l k) ∧ Hid (Below w.heap.size w wr)) (fun t _ => ls.length - (RowKit.intOf t).toNat)
  case atStart => exact ⟨0, l0, Nat.zero_le _, rfl, HM0, HS2, HB2⟩
  case round =>
    obtain ⟨k, l, hk, rfl, hM, hS, hB⟩ := hrel
    clear HM0 HS2 HB2 hll
    have hll : l.length = ls.length := by rw [← hM.out]; simp
    by_cases hlt : k < ls.length
    · have hkl : k < l.length := by omega
      obtain ⟨g, c', cur, hv, hbg, hh, hnc, hcc⟩ := own_blk hS.out.row (by omega)
      injection hv with e1 e2 e3
      subst e1
      clear e2 e3
      have Hll := hid hll
      clear hll
      obtain ⟨⟨os, cs, hsv, hcs, gs⟩, ⟨od, cd, hdv, hcd, gd⟩⟩ := hS.out.old k hkl (Nat.le_refl _)
      have hsl : l[k].1.src.length ≤ 1099511627776 ∧ l[k].1.dts.length ≤ 1099511627776 := HSm.out _ (by rw [← hM.out]; exact List.mem_map.2 ⟨l[k], List.getElem_mem hkl, rfl⟩)
      have HC1 : Hid (∀ V : World, Below w.heap.size w V → _) := fun V hV => cloneI_any _ l[k].1.src V ((hS.out.old k hkl (Nat.le_refl _)).1.later hV) hsl.1
      have HC2 : Hid (∀ V : World, Below w.heap.size w V → _) := fun V hV => cloneI_any _ l[k].1.dts V ((hS.out.old k hkl (Nat.le_refl _)).2.later hV) hsl.2
      rw [hsv] at HC1
      rw [hdv] at HC2
      have x0 := hcc (k * 5) _ ((rowS_get l k 0 hkl (by decide)).trans rfl)
      have x1 := hcc (k * 5 + 1) _ ((rowS_get l k 1 hkl (by decide)).trans rfl)
      have x2 := hcc (k * 5 + 2) _ ((rowS_get l k 2 hkl (by decide)).trans rfl)
      have x3 := hcc (k * 5 + 3) _ ((rowS_get l k 3 hkl (by decide)).trans (congrArg some hsv))
      have x4 := hcc (k * 5 + 4) _ ((rowS_get l k 4 hkl (by decide)).trans (congrArg some hdv))
      have q1 : (0 : Int) ≤ (k : Int) := by omega
      have q2 : (k : Int) < (ls.length : Int) := by omega
      have HgB : Hid (wr.heap.size ≠ g) := fun e => by have := (Array.getElem?_eq_some_iff.1 hh).1; omega
      clear gs gd hcs hcd hcc hh hbg hnc hsl
      obtain ⟨xa, hxa⟩ : ∃ xa, l[k].1.ab = xa := ⟨_, rfl⟩
      obtain ⟨xr, hxr⟩ : ∃ xr, l[k].1.re = xr := ⟨_, rfl⟩
      obtain ⟨xd, hxd⟩ : ∃ xd, l[k].1.dep = xd := ⟨_, rfl⟩
      obtain ⟨ns, hns⟩ : ∃ ns, l[k].1.src.length = ns := ⟨_, rfl⟩
      obtain ⟨nt, hnt⟩ : ∃ nt, l[k].1.dts.length = nt := ⟨_, rfl⟩
      rw [hxa] at x0
      rw [hxr] at x1
      rw [hxd] at x2
      rw [hns] at x3 HC1
      rw [hnt] at x4 HC2
      have Hxe := hid hns
      have Hye := hid hnt
      have Hsv := hid hsv
      have Hdv := hid hdv
      clear hxa hxr hxd hns hnt hsv hdv
      have hba : Below wr.heap.size wr (wr.alloc (.cells #[.bool xa, .int .i64 xr, .bool xd, .slice os ns cs, .slice od nt cd] 42)) := (Below.refl _ wr).alloc (Nat.le_refl _) _
      have HBx := hid (heap_new wr (.cells #[.bool xa, .int .i64 xr, .bool xd, .slice os ns cs, .slice od nt cd] 42))
      have HBk := hid (hB.out.trans (hba.mono hB.out.size))
      have HSk := hid (hS.out.later hba)
      clear hba hB hS
      go_upto_region 5 with fail
      generalize wr.alloc (.cells #[.bool xa, .int .i64 xr, .bool xd, .slice os ns cs, .slice od nt cd] 42) = Wk at *
      generalize wr.heap.size = Bb at *
      clear x0 x1 x2 x3 x4
      refine wp_region_held_drew (S := fun V => V.heap[Bb]? = some (.cells #[.bool xa, .int .i64 xr, .bool xd, .slice os ns cs, .slice od nt cd] 42)) (by kernel_rfl) HBx.out (fun hHeld => ?_)
      have HB_Y0 : Below Wk.heap.size Wk Wk.drew := (Below.refl _ _).drew
      have HX0 := hid (blkLater HB_Y0 HBx.out)
      have HS0 := hid (HSk.out.later HB_Y0)
      have HB0 := hid (HBk.out.trans (HB_Y0.mono HBk.out.size))
      clear HB_Y0 HBx HSk HBk
      generalize Wk.drew = Y0 at *
      refine wpAnyH_one 0 15 (.slice (some ⟨g, 0, none⟩) ls.length c2) hHeld rfl rfl (by kernel_rfl) (fun _ _ _ _ _ h => h) (by kernel_rfl) (by kernel_rfl) (by rfl) ?_ ?_
      · intro V hSw; (try dsimp only at hSw); go_simp
      simp only [Act.put, List.setIfInBounds_toArray, List.set_cons_zero, List.set_cons_succ]
      refine wpAnyH_one 1 16 (.int .i64 (k : Int)) hHeld rfl rfl (by kernel_rfl) (fun _ _ _ _ _ h => h) (by kernel_rfl) (by kernel_rfl) (by rfl) ?_ ?_
      · intro V hSw; (try dsimp only at hSw); go_simp
      simp only [Act.put, List.setIfInBounds_toArray, List.set_cons_zero, List.set_cons_succ]
      refine wpAnyH_one 2 17 (.slice (some ⟨g, 0, none⟩) ls.length c2) hHeld rfl rfl (by kernel_rfl) (fun _ _ _ _ _ h => h) (by kernel_rfl) (by kernel_rfl) (by rfl) ?_ ?_
      · intro V hSw; (try dsimp only at hSw); go_simp
      simp only [Act.put, List.setIfInBounds_toArray, List.set_cons_zero, List.set_cons_succ]
      refine wpAnyH_one 3 18 (.int .i64 (k : Int)) hHeld rfl rfl (by kernel_rfl) (fun _ _ _ _ _ h => h) (by kernel_rfl) (by kernel_rfl) (by rfl) ?_ ?_
      · intro V hSw; (try dsimp only at hSw); go_simp
      simp only [Act.put, List.setIfInBounds_toArray, List.set_cons_zero, List.set_cons_succ]
      refine wpAnyH_one 4 19 (.pointer (some ⟨Bb, 3, none⟩)) hHeld rfl rfl (by kernel_rfl) (fun _ _ _ _ _ h => h) (by kernel_rfl) (by kernel_rfl) (by rfl) ?_ ?_
      · intro V hSw; (try dsimp only at hSw); go_simp
      simp only [Act.put, List.setIfInBounds_toArray, List.set_cons_zero, List.set_cons_succ]
      refine wpAnyH_one 5 20 (.slice os ns cs) hHeld rfl rfl (by kernel_rfl) (fun _ _ _ _ _ h => h) (by kernel_rfl) (by kernel_rfl) (by rfl) ?_ ?_
      · intro V hSw; (try dsimp only at hSw); have j3 := (cell_of_heap hSw 3).trans (show _ = some (.slice os ns cs) from rfl); have j4 := (cell_of_heap hSw 4).trans (show _ = some (.slice od nt cd) from rfl); go_simp
      simp only [Act.put, List.setIfInBounds_toArray, List.set_cons_zero, List.set_cons_succ]
      refine wpAnyH_one 7 22 (.pointer (some ⟨Bb, 4, none⟩)) hHeld rfl rfl (by kernel_rfl) (fun _ _ _ _ _ h => h) (by kernel_rfl) (by kernel_rfl) (by rfl) ?_ ?_
      · intro V hSw; (try dsimp only at hSw); go_simp
      simp only [Act.put, List.setIfInBounds_toArray, List.set_cons_zero, List.set_cons_succ]
      refine wpAnyH_one 8 23 (.slice od nt cd) hHeld rfl rfl (by kernel_rfl) (fun _ _ _ _ _ h => h) (by kernel_rfl) (by kernel_rfl) (by rfl) ?_ ?_
      · intro V hSw; (try dsimp only at hSw); have j3 := (cell_of_heap hSw 3).trans (show _ = some (.slice os ns cs) from rfl); have j4 := (cell_of_heap hSw 4).trans (show _ = some (.slice od nt cd) from rfl); go_simp
      simp only [Act.put, List.setIfInBounds_toArray, List.set_cons_zero, List.set_cons_succ]
      refine wpAnyH_ready (rs := [6]) (by kernel_rfl) (by simp) ?_
      refine AllReadyH.cons rfl (fun K hK => ?_) AllReadyH.nil
      go_simp
      go_wp2_with (go_at_call 42; refine (HC1.out Y0 HB0.out).mono ?_; rintro e Y1 ⟨o3, c3, rfl, ho3, hb⟩; have HO1 := hid ho3; have HX1 := hid (blkLater hb HX0.out); have HS1 := hid (HS0.out.later hb); have HB1 := hid (HB0.out.trans (hb.mono HB0.out.size)); have hs1 := hb.size; clear hb ho3)
      refine hK.out _ _ HX1.out (fun hHeld => ?_)
      clear hK K
      refine wpAnyH_ready (rs := [9]) (by kernel_rfl) (by simp) ?_
      refine AllReadyH.cons rfl (fun K hK => ?_) AllReadyH.nil
      go_simp
      go_wp2_with (go_at_call 42; refine (HC2.out Y1 HB1.out).mono ?_; rintro e Y2 ⟨o4, c4, rfl, ho4, hb⟩; have HO2 := hid (own_later HO1.out hb); have HD2 := hid ho4; have HX2 := hid (blkLater hb HX1.out); have HS2 := hid (HS1.out.later hb); have HB2 := hid (HB1.out.trans (hb.mono HB1.out.size)); have hs2 := hb.size; clear hb ho4)
      refine hK.out _ _ HX2.out (fun hHeld => ?_)
      clear hK K
      refine wpAnyH_one 10 25 (.pointer (some ⟨g, k * 5, none⟩)) hHeld rfl rfl (by kernel_rfl) (fun _ _ _ _ _ h => h) (by kernel_rfl) (by kernel_rfl) (by rfl) ?_ ?_
      · intro V hSw; (try dsimp only at hSw); go_simp
      simp only [Act.put, List.setIfInBounds_toArray, List.set_cons_zero, List.set_cons_succ]
      refine wpAnyH_one 11 26 (.pointer (some ⟨g, k * 5 + 3, none⟩)) hHeld rfl rfl (by kernel_rfl) (fun _ _ _ _ _ h => h) (by kernel_rfl) (by kernel_rfl) (by rfl) ?_ ?_
      · intro V hSw; (try dsimp only at hSw); go_simp
      simp only [Act.put, List.setIfInBounds_toArray, List.set_cons_zero, List.set_cons_succ]
      obtain ⟨g9, c9, cur9, hv9, hbg9, hh9, hnc9, hcc9⟩ := own_blk HS2.out.row (by have := Hll.out; omega)
      injection hv9 with e9 e10 e11
      injection e9 with e9
      injection e9 with e9
      subst e9
      clear e10 e11
      have hll := Hll.out
      have hgB : Bb ≠ g := fun e => HgB.out e
      have u3 := hcc9 (k * 5 + 3) _ ((rowS_get l k 3 hkl (by decide)).trans rfl)
      have f3 : Y2.frozen? ⟨g, k * 5 + 3, none⟩ = false := by simp [World.frozen?, hh9]
      have hh10 := set_boxA (k := k * 5 + 3) (v := .slice o3 ns c3) hh9
      have u4 := hcc9 (k * 5 + 4) _ ((rowS_get l k 4 hkl (by decide)).trans rfl)
      have v4 : (Y2.setCell ⟨g, k * 5 + 3, none⟩ (.slice o3 ns c3)).cell? ⟨g, k * 5 + 4, none⟩ = some l[k].2.2 := (World.cell?_setCell_other _ _ _ _ (by intro h; injection h with _ h2; omega)).trans u4
      have f4 : (Y2.setCell ⟨g, k * 5 + 3, none⟩ (.slice o3 ns c3)).frozen? ⟨g, k * 5 + 4, none⟩ = false := by simp [World.frozen?, hh10]
      have HX3 := hid ((Below.heap_setCell Y2 ⟨g, k * 5 + 3, none⟩ (.slice o3 ns c3) Bb (by show Bb ≠ g; exact hgB)).trans HX2.out)
      have HX4 := hid ((Below.heap_setCell (Y2.setCell ⟨g, k * 5 + 3, none⟩ (.slice o3 ns c3)) ⟨g, k * 5 + 4, none⟩ (.slice o4 nt c4) Bb (by show Bb ≠ g; exact hgB)).trans HX3.out)
      have HS2b : OwnS Y2 w w.heap.size (.slice (some ⟨g, 0, none⟩) l.length c2) l k := by rw [hll]; exact HS2.out
      have HS4 := hid (own_step (N1 := Y0.heap.size) (N2 := Y1.heap.size) HS2b hkl (.slice o3 ns c3) (.slice o4 nt c4) (by have := HO2.out; rw [← Hxe.out] at this; rw [← Hxe.out]; exact own_base HB0.out.size this) (by have := HD2.out; rw [← Hye.out] at this; rw [← Hye.out]; exact own_base HB1.out.size this) hs1 (fun j hj hjk b q hq => (HS0.out.lt j hj hjk b q hq).2) (fun q hq => HO1.out.lt q hq) (fun q hq => (HD2.out.lt q hq).1))
      rw [hll] at HS4
      clear HS2b
      have HB4 := hid ((HB2.out.setCell (p := ⟨g, k * 5 + 3, none⟩) (by show _ ≤ g; exact hbg9) (.slice o3 ns c3)).setCell (p := ⟨g, k * 5 + 4, none⟩) (by show _ ≤ g; exact hbg9) (.slice o4 nt c4))
      clear hh10 hcc9 hll
      refine wpAnyH_ready (rs := [12]) (by kernel_rfl) (by simp) ?_
      refine AllReadyH.cons rfl (fun K hK => ?_) AllReadyH.nil
      go_simp
      refine hK.out _ _ HX3.out (fun hHeld => ?_)
      clear hK K
      refine wpAnyH_one 13 27 (.pointer (some ⟨g, k * 5, none⟩)) hHeld rfl rfl (by kernel_rfl) (fun _ _ _ _ _ h => h) (by kernel_rfl) (by kernel_rfl) (by rfl) ?_ ?_
      · intro V hSw; (try dsimp only at hSw); go_simp
      simp only [Act.put, List.setIfInBounds_toArray, List.set_cons_zero, List.set_cons_succ]
      refine wpAnyH_one 14 28 (.pointer (some ⟨g, k * 5 + 4, none⟩)) hHeld rfl rfl (by kernel_rfl) (fun _ _ _ _ _ h => h) (by kernel_rfl) (by kernel_rfl) (by rfl) ?_ ?_
      · intro V hSw; (try dsimp only at hSw); go_simp
      simp only [Act.put, List.setIfInBounds_toArray, List.set_cons_zero, List.set_cons_succ]
      refine wpAnyH_ready (rs := [15]) (by kernel_rfl) (by simp) ?_
      refine AllReadyH.cons rfl (fun K hK => ?_) AllReadyH.nil
      go_simp
      refine hK.out _ _ HX4.out (fun hHeld => ?_)
      clear hK K
      refine wpAnyH_done (by kernel_rfl) ?_ _
      go_wp2
      go_roundw
      case rel => exact ⟨k + 1, _, by omega, by go_num, (map_set_one l k hkl _ _).trans hM.out, HS4, HB4⟩
      case measure => simp [RowKit.intOf]; omega
    · have hkl : k = l.length := by omega
      have HSf : Hid (OwnS wr w w.heap.size (.slice o2 ls.length c2) l l.length) := by
        have := hS.out
        rw [hkl] at this
        exact this
      clear hS
      go_wp2
      go_ret
      exact ⟨o2, c2, l, rfl, hM.out, HSf.out, hB.out⟩
end Go.Proofs.Ytlibjjmaicgemaa
