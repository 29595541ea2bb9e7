/- abort.Abort, where a signal is aborted. -/
import Derived.Test.YtlibjjmaicgemaaAbK
namespace Go.Proofs.Ytlibjjmaicgemaa
open Go.RowKit Go.Lib Go.Shelf

theorem own_keepB {W V : World} {B base size n : Nat} {e : TypeId} {v : Value} {xs : List Value} (h : W.ownsRow base e size v n xs) (hlt : ∀ q, v.ownBlock = some q → q < B) (hb : Below B W V) : V.ownsRow base e size v n xs := by
  obtain ⟨h1, h2⟩ := h
  refine ⟨h1, ?_⟩
  rcases h2 with h2 | ⟨g, cap, cur, rfl, hg, hh, r⟩
  · exact .inl h2
  · exact .inr ⟨g, cap, cur, rfl, hg, (hb.block g (hlt g rfl)).trans hh, r⟩
/-- All that signals of one's own lie in is below B. -/
structure LowS (B : Nat) (v : Value) (l : List SigV) : Prop where
  row : ∀ q, v.ownBlock = some q → q < B
  side : ∀ (j : Nat) (h : j < l.length) (b : Bool) (q : Nat), (side l[j] b).ownBlock = some q → q < B
theorem OwnS.keepB {W V w0 : World} {base B : Nat} {v : Value} {l : List SigV} (h : OwnS W w0 base v l l.length) (hl : LowS B v l) (hb : Below B W V) : OwnS V w0 base v l l.length :=
  ⟨own_keepB h.row hl.row hb, fun j hj hk => ⟨own_keepB (h.own j hj hk).1 (hl.side j hj false) hb, own_keepB (h.own j hj hk).2 (hl.side j hj true) hb⟩, h.old, h.apart⟩
theorem OwnS.low {W w0 : World} {base : Nat} {v : Value} {l : List SigV} (h : OwnS W w0 base v l l.length) : LowS W.heap.size v l :=
  ⟨fun q hq => (h.row.lt q hq).2, fun j hj b q hq => (h.lt j hj hj b q hq).2⟩
theorem LowS.mono {B B' : Nat} {v : Value} {l : List SigV} (h : LowS B v l) (hb : B ≤ B') : LowS B' v l :=
  ⟨fun q hq => Nat.lt_of_lt_of_le (h.row q hq) hb, fun j hj b q hq => Nat.lt_of_lt_of_le (h.side j hj b q hq) hb⟩
theorem LowS.hit {B : Nat} {v : Value} {l : List SigV} {m : Nat} {x : SigD} (h : LowS B v l) (hm : m < l.length) : LowS B v (l.set m (x, l[m].2)) :=
  ⟨h.row, fun j hj b q hq => by
    have hj' : j < l.length := by simpa using hj
    refine h.side j hj' b q ?_
    rw [← hq]
    by_cases e : m = j
    · subst e
      rw [List.getElem_set_self]
      cases b <;> rfl
    · rw [List.getElem_set_ne e]⟩
theorem cat_two (a b : Value) (x : Int) (r : List Int) : catL [(a, [x]), (b, r)] = x :: r := by simp [catL]
set_option maxRecDepth 100000 in
set_option maxHeartbeats 8000000 in
theorem abortS_ok (v : Value) (ls : List SigD) (m : Nat) (re : Int) (w : World) (hv : RdS w v ls) (hl : ls.length ≤ 1024) (hs : SmallS ls) (hm : m < ls.length) (he : knownE ls ((m : Int) + 1) = 0) (hd : ls[m].dep = false) (hab : ls[m].ab = false)
    (hdt : ∀ h ∈ ls[m].dts, outD ls.length h = false) (hdl : ls[m].dts.length ≤ 1024) :
    Calls Try.prog 16 #[v, .int .i64 ((m : Int) + 1), .int .i64 re] w fun e w' => ∃ o c l o2 c2, e = .returned (.tuple #[.slice o ls.length c, .slice o2 (hitAll (reasonD re) (((m : Int) + 1) :: ls[m].dts) ls []).2.length c2, .int .i64 0]) ∧ l.map (·.1) = (hitAll (reasonD re) (((m : Int) + 1) :: ls[m].dts) ls []).1 ∧ OwnS w' w' w.heap.size (.slice o ls.length c) l l.length ∧ w'.ownsRow w.heap.size 3 1 (.slice o2 (hitAll (reasonD re) (((m : Int) + 1) :: ls[m].dts) ls []).2.length c2) (hitAll (reasonD re) (((m : Int) + 1) :: ls[m].dts) ls []).2.length ((hitAll (reasonD re) (((m : Int) + 1) :: ls[m].dts) ls []).2.map (Value.int .i64)) ∧ Below w.heap.size w w' := by
  have hC := known_any v ls ((m : Int) + 1) w hv (by omega) hs
  rw [he] at hC
  have HCp : Hid (∀ V : World, Below w.heap.size w V → _) := fun V hV => copied_any v ls V (hv.later hV) hl hs
  obtain ⟨o, c, rfl, _, g⟩ := hv
  obtain ⟨b, off, rfl, hlt, ha⟩ := g (by omega)
  obtain ⟨sv, dv, hcs, ⟨os, cs, rfl, hz1, hz2⟩, hdv⟩ := ha m hm
  have HDv := hid hdv
  obtain ⟨od, cd, rfl, hz3, hz4⟩ := hdv
  have q1 : (0 : Int) ≤ (m : Int) := by omega
  have q2 : (m : Int) < (ls.length : Int) := by omega
  have hwi : IntKind.i64.wrap (m : Int) = (m : Int) := wrapA (by omega) (by omega)
  have HCs := hid hcs
  have hin : ∀ h ∈ ((m : Int) + 1) :: ls[m].dts, outD ls.length h = false := fun h hh => by
    rcases List.mem_cons.1 hh with rfl | hh
    · unfold outD
      rw [decide_eq_false (by omega), decide_eq_false (by omega)]
      rfl
    · exact hdt h hh
  have Hin := hid hin
  clear hs he g ha hcs hz1 hz2 hz3 hz4 hdt hin
  generalize ls[m] = x at *
  obtain ⟨xa, xr, xd, xs, xt⟩ := x
  dsimp only at *
  subst hd
  subst hab
  generalize xs.length = ns at *
  have Hdl := hid hdl
  obtain ⟨HS, hHS⟩ : ∃ HS, ((m : Int) + 1) :: xt = HS := ⟨_, rfl⟩
  rw [hHS] at Hin ⊢
  obtain ⟨R, hR⟩ : ∃ R, hitAll (reasonD re) HS ls [] = R := ⟨_, rfl⟩
  rw [hR]
  have HHS := hid hHS
  have hHL : HS.length ≤ 1025 := by rw [← hHS, List.length_cons]; omega
  have HR : Hid (hitAll (reasonD re) (HS.drop 0) ls [] = R) := hR
  clear hHS hR hdl
  generalize hnt : xt.length = nt at *
  have Hnt := hid hnt
  clear hnt
  have hre2 : (re == 0) = true ∧ reasonD re = 21 ∨ (re == 0) = false ∧ reasonD re = re := by
    cases hz : (re == 0) with
    | true => exact .inl ⟨rfl, by unfold reasonD; rw [hz]; rfl⟩
    | false => exact .inr ⟨rfl, by unfold reasonD; rw [hz]; rfl⟩
  obtain ⟨RE, hRE⟩ : ∃ RE, reasonD re = RE := ⟨_, rfl⟩
  rw [hRE] at hre2 HR
  clear hRE
  rcases hre2 with ⟨h1, rfl⟩ | ⟨h1, rfl⟩
  · go_enter Try.func16, Try.ntmps16
    go_upto_region 13 with (first
      | (go_at_call 32; refine hC.mono ?_; rintro e w2 ⟨rfl, hb⟩; obtain ⟨a0, a1, a2, a3, a4⟩ := HCs.out.later hlt hb; dsimp only at a0 a1 a2 a3 a4; have hba : Below w2.heap.size w2 (w2.alloc (.cells #[.bool false, .int .i64 xr, .bool false, .slice os ns cs, .slice od nt cd] 42)) := (Below.refl _ w2).alloc (Nat.le_refl _) _; have HBa := hid (hb.trans (hba.mono hb.size)); clear hb hba)
      | (go_at_call 33; refine (HCp.out _ HBa.out).mono ?_; rintro e w3 ⟨o3, c3, l0, rfl, hm3, ho3, hb⟩; have HM := hid hm3; have HO := hid (ho3.base (w1 := w) HBa.out.size); have HB3 := hid (HBa.out.trans (hb.mono HBa.out.size)); clear hm3 ho3 hb))
    clear a0 a1 a2 a3 a4 HBa HCp hC
    have h2n := two_new w3 (.cells #[.int .i64 ((m : Int) + 1)] 3) (.cells #[.slice (some ⟨w3.heap.size, 0, none⟩) 1 1, .slice od nt cd] 23)
    have hb1 : Below w3.heap.size w3 (w3.alloc (.cells #[.int .i64 ((m : Int) + 1)] 3)) := (Below.refl _ w3).alloc (Nat.le_refl _) _
    have a4 := ((HB3.out.trans (hb1.mono HB3.out.size)).cell (p := ⟨b, off + m * 5 + 4, none⟩) hlt).trans HCs.out.dts
    have hB5 := HB3.out.trans (h2n.1.mono HB3.out.size)
    have HD5 := hid (HDv.out.later hB5)
    have hCat := concat_any (w3.heap.size + 1) 2 [(.slice (some ⟨w3.heap.size, 0, none⟩) 1 1, [(m : Int) + 1]), (.slice od nt cd, xt)] _ (by rw [h2n.2.2.2]; omega) (fun j hj => by
      match j, hj with
      | 0, _ => exact ⟨(cell_of_heap h2n.2.2.1 0).trans rfl, one_rdI h2n.2.1⟩
      | 1, _ => exact ⟨(cell_of_heap h2n.2.2.1 1).trans rfl, HD5.out⟩) (by simp) (by have := Hdl.out; have := Hnt.out; simp [sumL]; omega)
    rw [cat_two, HHS.out] at hCat
    have HO5 := hid (HO.out.later h2n.1)
    have HB5 := hid hB5
    have HCat := hid hCat
    clear h2n hb1 hB5 hCat HO HB3
    go_upto_region 14 with (go_at_call 34; refine HCat.out.mono ?_; rintro e w6 ⟨vc, rfl, hoc, hb⟩; obtain ⟨oc, cc, rfl⟩ := own_shape hoc; have HOc := hid hoc; have HO6 := hid (HO5.out.later hb); have HB6 := hid (HB5.out.trans (hb.mono HB5.out.size)); clear hoc hb)
    have hll0 : l0.length = ls.length := by rw [← HM.out]; simp
    obtain ⟨gc, cc', curc, hvc, hbc, hhc, hnc, hcc⟩ := own_blk HOc.out (by rw [← HHS.out]; simp)
    injection hvc with e1 e2 e3
    subst e1
    subst e3
    clear e2
    obtain ⟨g, c9, cur9, hv9, hbg9, hh9, hnc9, hcc9⟩ := own_blk HO6.out.row (by omega)
    injection hv9 with e1 e2 e3
    subst e1
    clear e2 e3
    have Hcc : Hid (∀ (j : Nat) (hj : j < HS.length), w6.cell? ⟨gc, j, none⟩ = some (.int .i64 HS[j])) := fun j hj => hcc j _ (by rw [List.getElem?_map, List.getElem?_eq_getElem hj]; rfl)
    have hgc : gc ≠ g := fun e => by
      rw [e, hh9] at hhc
      have h1 := Option.some.inj hhc
      injection h1 with _ h2
      exact absurd h2 (by decide)
    have hcl := (Array.getElem?_eq_some_iff.1 hhc).1
    have HLo := hid HO6.out.low
    have HT0 : Hid (w6.ownsRow w6.heap.size 3 1 (.slice none 0 0) ([] : List Int).length (([] : List Int).map (Value.int .i64))) := World.ownsRow_nil _ _ _ _
    have hlw : w.heap.size ≤ w6.heap.size := HB6.out.size
    clear hcc hhc hnc hbc hh9 hnc9 hcc9 HOc HCat HO5 HB5 HD5 a4 HDv HCs
    go_wp2
    go_loopw [12, 50] (fun t u wr => ∃ (j : Nat) (lsj : List SigD) (told : List Int) (o2 : Option Addr) (c2 : Nat) (l : List SigV), j ≤ HS.length ∧ u = .int .i64 j ∧ t = .slice o2 told.length c2 ∧ told.length ≤ j ∧ lsj.length = ls.length ∧ Hid (l.map (·.1) = lsj) ∧ Hid (OwnS wr w w.heap.size (.slice (some ⟨g, 0, none⟩) ls.length c3) l l.length) ∧ Hid (LowS w6.heap.size (.slice (some ⟨g, 0, none⟩) ls.length c3) l) ∧ Hid (wr.ownsRow w6.heap.size 3 1 (.slice o2 told.length c2) told.length (told.map (Value.int .i64))) ∧ Hid (Below w.heap.size w wr) ∧ Hid (w6.heap.size ≤ wr.heap.size) ∧ Hid (∀ (j : Nat) (hj : j < HS.length), wr.cell? ⟨gc, j, none⟩ = some (.int .i64 HS[j])) ∧ Hid (hitAll 21 (HS.drop j) lsj told = R)) (fun _ u _ => HS.length - (RowKit.intOf u).toNat)
    case atStart => exact ⟨0, ls, [], none, 0, l0, Nat.zero_le _, rfl, rfl, Nat.le_refl _, rfl, HM, HO6, HLo, HT0, HB6, Nat.le_refl _, Hcc, HR⟩
    case round =>
      obtain ⟨j, lsj, told, o2, c2, l, hj, rfl, rfl, htl, hln, hM, hO, hLo, hT, hB, hsz, hcc, hK⟩ := hrel
      clear HM HO6 HLo HT0 HB6 Hcc HR hll0
      by_cases hjl : j < HS.length
      · have z0 := hcc.out j hjl
        have hoj := Hin.out HS[j] (List.getElem_mem hjl)
        have hk := hK.out
        rw [List.drop_eq_getElem_cons hjl, hitAll] at hk
        have r1 : (0 : Int) ≤ (j : Int) := by omega
        have r2 : (j : Int) < (HS.length : Int) := by omega
        clear hK Hin
        generalize HS[j] = h at *
        obtain ⟨m2, rfl, hm2⟩ := out_no hoj
        have hll : l.length = ls.length := by rw [← hln, ← hM.out]; simp
        have hml : m2 < l.length := by omega
        have hab2 : (lsj[m2]?.map SigD.ab).getD true = l[m2].1.ab := by
          rw [← hM.out, List.getElem?_map, List.getElem?_eq_getElem hml]
          rfl
        rw [show ((m2 : Int) + 1).toNat - 1 = m2 by omega, hab2] at hk
        obtain ⟨g', c', cur', hv', hbg', hh', hnc', hcells⟩ := own_blk hO.out.row (by omega)
        injection hv' with e1 e2 e3
        injection e1 with e1
        injection e1 with e1
        subst e1
        clear e2 e3 hab2 hoj
        have y0 := hcells (m2 * 5) _ ((rowS_get l m2 0 hml (by decide)).trans rfl)
        have y1 := hcells (m2 * 5 + 1) _ ((rowS_get l m2 1 hml (by decide)).trans rfl)
        have s1 : (0 : Int) ≤ (m2 : Int) := by omega
        have s2 : (m2 : Int) < (ls.length : Int) := by omega
        have hw2 : IntKind.i64.wrap (m2 : Int) = (m2 : Int) := wrapA (by omega) (by omega)
        have Hk := hid hk
        have Hll := hid hll
        clear hk hcells hnc' hll
        cases hab3 : l[m2].1.ab with
        | true =>
          have Hn : Hid (hitAll 21 (HS.drop (j + 1)) lsj told = R) := by
            have h := Hk.out
            rw [hab3, if_pos rfl] at h
            exact h
          rw [hab3] at y0
          clear Hk hab3 hh' hbg' y1
          go_wp2
          go_roundw
          case rel => exact ⟨j + 1, lsj, told, o2, c2, l, by omega, by go_num, rfl, by omega, hln, hM, hO, hLo, hT, hB, hsz, hcc, Hn⟩
          case measure => simp [RowKit.intOf]; omega
        | false =>
          have Hn : Hid (hitAll 21 (HS.drop (j + 1)) (lsj.modify m2 (hitD 21)) (told ++ [(m2 : Int) + 1]) = R) := by
            have h := Hk.out
            rw [hab3, if_neg Bool.false_ne_true] at h
            exact h
          rw [hab3] at y0
          have hh1 := set_boxA (k := m2 * 5) (v := .bool true) hh'
          have f0 : wr.frozen? ⟨g, m2 * 5, none⟩ = false := by simp [World.frozen?, hh']
          have f1 : (wr.setCell ⟨g, m2 * 5, none⟩ (.bool true)).frozen? ⟨g, m2 * 5 + 1, none⟩ = false := by simp [World.frozen?, hh1]
          have z1 : (wr.setCell ⟨g, m2 * 5, none⟩ (.bool true)).cell? ⟨g, m2 * 5 + 1, none⟩ = some (.int .i64 l[m2].1.re) := (World.cell?_setCell_other _ _ _ _ (by intro h; injection h with _ h2; omega)).trans y1
          have hT2 := own_set (o := m2 * 5 + 1) (own_set (o := m2 * 5) hT.out hh' (by decide) (.bool true)) hh1 (by decide) (.int .i64 21)
          have hO2 : OwnS ((wr.setCell ⟨g, m2 * 5, none⟩ (.bool true)).setCell ⟨g, m2 * 5 + 1, none⟩ (.int .i64 21)) w w.heap.size (.slice (some ⟨g, 0, none⟩) ls.length c3) (l.set m2 (hitD 21 l[m2].1, l[m2].2)) (l.set m2 (hitD 21 l[m2].1, l[m2].2)).length := by
            have h := hO.out
            rw [← Hll.out] at h
            have := h.hit hml 21
            rw [Hll.out] at this
            rw [List.length_set, Hll.out]
            exact this
          have hLo2 : LowS w6.heap.size (.slice (some ⟨g, 0, none⟩) ls.length c3) (l.set m2 (hitD 21 l[m2].1, l[m2].2)) := hLo.out.hit hml
          have hB2 := (hB.out.setCell (p := ⟨g, m2 * 5, none⟩) (by show _ ≤ g; exact hbg') (.bool true)).setCell (p := ⟨g, m2 * 5 + 1, none⟩) (by show _ ≤ g; exact hbg') (.int .i64 21)
          have hcc2 : ∀ (j : Nat) (hj : j < HS.length), ((wr.setCell ⟨g, m2 * 5, none⟩ (.bool true)).setCell ⟨g, m2 * 5 + 1, none⟩ (.int .i64 21)).cell? ⟨gc, j, none⟩ = some (.int .i64 HS[j]) := fun j hj => (World.cell?_setCell_far _ ⟨g, m2 * 5 + 1, none⟩ ⟨gc, j, none⟩ _ (fun e => hgc e.symm)).trans ((World.cell?_setCell_far _ ⟨g, m2 * 5, none⟩ ⟨gc, j, none⟩ _ (fun e => hgc e.symm)).trans (hcc.out j hj))
          have hsz2 : w6.heap.size ≤ ((wr.setCell ⟨g, m2 * 5, none⟩ (.bool true)).setCell ⟨g, m2 * 5 + 1, none⟩ (.int .i64 21)).heap.size := by have := hsz.out; simpa using this
          obtain ⟨o4, c4, V2, hap, hT4, hg4, _⟩ := run_appendW _ w6.heap.size _ told ((m2 : Int) + 1) hT2 hsz2 (by omega)
          have hb4 := (Below.refl w6.heap.size _).grown hg4 hsz2 (fun q hq => (hT2.lt q hq).1)
          have HO4 := hid (hO2.keepB hLo2 hb4)
          have HLo2 := hid hLo2
          have HT4 := hid hT4
          have HB4 := hid (hB2.trans (hb4.mono hlw))
          have HS4 := hid (Nat.le_trans hsz2 hb4.size)
          have HC4 : Hid (∀ (j : Nat) (hj : j < HS.length), V2.cell? ⟨gc, j, none⟩ = some (.int .i64 HS[j])) := fun j hj => (hb4.cell (p := ⟨gc, j, none⟩) hcl).trans (hcc2 j hj)
          have HM4 : Hid ((l.set m2 (hitD 21 l[m2].1, l[m2].2)).map (·.1) = lsj.modify m2 (hitD 21)) := by
            show _ = _
            rw [map_hit l m2 hml 21, hM.out]
          have hLe : (told ++ [(m2 : Int) + 1]).length ≤ j + 1 := by simp; omega
          generalize hLN : (told ++ [(m2 : Int) + 1]).length = LN at *
          have HLN := hid hLN
          have HAp := hid hap
          have HLe := hid hLe
          clear hLN hap hLe hT4 hg4 hb4 hB2 hcc2 hsz2 hLo2 hO2 hT2 hh' hh1 Hk hab3 hB hO hLo hT hcc hsz hM
          go_upto_region 19 with fail
          clear y0 y1 z0 z1 f0 f1
          generalize (wr.setCell ⟨g, m2 * 5, none⟩ (.bool true)).setCell ⟨g, m2 * 5 + 1, none⟩ (.int .i64 21) = U2 at *
          go_wp2_with (at_builtin; refine wpList_append_run _ rfl _ _ 23 23 rfl _ _ rfl rfl _ _ HAp.out ?_)
          go_roundw
          case rel => exact ⟨j + 1, _, told ++ [(m2 : Int) + 1], o4, c4, _, by omega, by go_num, by rw [HLN.out], by rw [HLN.out]; exact HLe.out, by rw [List.length_modify]; exact hln, HM4, HO4, HLo2, by have h := HT4; rw [← HLN.out] at h; exact h, HB4, HS4, HC4, Hn⟩
          case measure => simp [RowKit.intOf]; omega
      · have hRe : (lsj, told) = R := by
          rw [← hK.out, List.drop_eq_nil_of_le (by omega)]
          rfl
        subst hRe
        clear hK hcc hLo
        go_wp2
        refine bodyPost_ret (v := .tuple #[.slice (some ⟨g, 0, none⟩) ls.length c3, .slice o2 told.length c2, .int .i64 0]) (by simp [results, Try.results16, go_sem]) rfl ?_
        exact ⟨_, c3, l, o2, c2, rfl, hM.out, hO.out.base (Nat.le_refl _), own_base hlw hT.out, hB.out⟩
  · go_enter Try.func16, Try.ntmps16
    go_upto_region 13 with (first
      | (go_at_call 32; refine hC.mono ?_; rintro e w2 ⟨rfl, hb⟩; obtain ⟨a0, a1, a2, a3, a4⟩ := HCs.out.later hlt hb; dsimp only at a0 a1 a2 a3 a4; have hba : Below w2.heap.size w2 (w2.alloc (.cells #[.bool false, .int .i64 xr, .bool false, .slice os ns cs, .slice od nt cd] 42)) := (Below.refl _ w2).alloc (Nat.le_refl _) _; have HBa := hid (hb.trans (hba.mono hb.size)); clear hb hba)
      | (go_at_call 33; refine (HCp.out _ HBa.out).mono ?_; rintro e w3 ⟨o3, c3, l0, rfl, hm3, ho3, hb⟩; have HM := hid hm3; have HO := hid (ho3.base (w1 := w) HBa.out.size); have HB3 := hid (HBa.out.trans (hb.mono HBa.out.size)); clear hm3 ho3 hb))
    clear a0 a1 a2 a3 a4 HBa HCp hC
    have h2n := two_new w3 (.cells #[.int .i64 ((m : Int) + 1)] 3) (.cells #[.slice (some ⟨w3.heap.size, 0, none⟩) 1 1, .slice od nt cd] 23)
    have hb1 : Below w3.heap.size w3 (w3.alloc (.cells #[.int .i64 ((m : Int) + 1)] 3)) := (Below.refl _ w3).alloc (Nat.le_refl _) _
    have a4 := ((HB3.out.trans (hb1.mono HB3.out.size)).cell (p := ⟨b, off + m * 5 + 4, none⟩) hlt).trans HCs.out.dts
    have hB5 := HB3.out.trans (h2n.1.mono HB3.out.size)
    have HD5 := hid (HDv.out.later hB5)
    have hCat := concat_any (w3.heap.size + 1) 2 [(.slice (some ⟨w3.heap.size, 0, none⟩) 1 1, [(m : Int) + 1]), (.slice od nt cd, xt)] _ (by rw [h2n.2.2.2]; omega) (fun j hj => by
      match j, hj with
      | 0, _ => exact ⟨(cell_of_heap h2n.2.2.1 0).trans rfl, one_rdI h2n.2.1⟩
      | 1, _ => exact ⟨(cell_of_heap h2n.2.2.1 1).trans rfl, HD5.out⟩) (by simp) (by have := Hdl.out; have := Hnt.out; simp [sumL]; omega)
    rw [cat_two, HHS.out] at hCat
    have HO5 := hid (HO.out.later h2n.1)
    have HB5 := hid hB5
    have HCat := hid hCat
    clear h2n hb1 hB5 hCat HO HB3
    go_upto_region 14 with (go_at_call 34; refine HCat.out.mono ?_; rintro e w6 ⟨vc, rfl, hoc, hb⟩; obtain ⟨oc, cc, rfl⟩ := own_shape hoc; have HOc := hid hoc; have HO6 := hid (HO5.out.later hb); have HB6 := hid (HB5.out.trans (hb.mono HB5.out.size)); clear hoc hb)
    have hll0 : l0.length = ls.length := by rw [← HM.out]; simp
    obtain ⟨gc, cc', curc, hvc, hbc, hhc, hnc, hcc⟩ := own_blk HOc.out (by rw [← HHS.out]; simp)
    injection hvc with e1 e2 e3
    subst e1
    subst e3
    clear e2
    obtain ⟨g, c9, cur9, hv9, hbg9, hh9, hnc9, hcc9⟩ := own_blk HO6.out.row (by omega)
    injection hv9 with e1 e2 e3
    subst e1
    clear e2 e3
    have Hcc : Hid (∀ (j : Nat) (hj : j < HS.length), w6.cell? ⟨gc, j, none⟩ = some (.int .i64 HS[j])) := fun j hj => hcc j _ (by rw [List.getElem?_map, List.getElem?_eq_getElem hj]; rfl)
    have hgc : gc ≠ g := fun e => by
      rw [e, hh9] at hhc
      have h1 := Option.some.inj hhc
      injection h1 with _ h2
      exact absurd h2 (by decide)
    have hcl := (Array.getElem?_eq_some_iff.1 hhc).1
    have HLo := hid HO6.out.low
    have HT0 : Hid (w6.ownsRow w6.heap.size 3 1 (.slice none 0 0) ([] : List Int).length (([] : List Int).map (Value.int .i64))) := World.ownsRow_nil _ _ _ _
    have hlw : w.heap.size ≤ w6.heap.size := HB6.out.size
    clear hcc hhc hnc hbc hh9 hnc9 hcc9 HOc HCat HO5 HB5 HD5 a4 HDv HCs
    go_wp2
    go_loopw [12, 50] (fun t u wr => ∃ (j : Nat) (lsj : List SigD) (told : List Int) (o2 : Option Addr) (c2 : Nat) (l : List SigV), j ≤ HS.length ∧ u = .int .i64 j ∧ t = .slice o2 told.length c2 ∧ told.length ≤ j ∧ lsj.length = ls.length ∧ Hid (l.map (·.1) = lsj) ∧ Hid (OwnS wr w w.heap.size (.slice (some ⟨g, 0, none⟩) ls.length c3) l l.length) ∧ Hid (LowS w6.heap.size (.slice (some ⟨g, 0, none⟩) ls.length c3) l) ∧ Hid (wr.ownsRow w6.heap.size 3 1 (.slice o2 told.length c2) told.length (told.map (Value.int .i64))) ∧ Hid (Below w.heap.size w wr) ∧ Hid (w6.heap.size ≤ wr.heap.size) ∧ Hid (∀ (j : Nat) (hj : j < HS.length), wr.cell? ⟨gc, j, none⟩ = some (.int .i64 HS[j])) ∧ Hid (hitAll RE (HS.drop j) lsj told = R)) (fun _ u _ => HS.length - (RowKit.intOf u).toNat)
    case atStart => exact ⟨0, ls, [], none, 0, l0, Nat.zero_le _, rfl, rfl, Nat.le_refl _, rfl, HM, HO6, HLo, HT0, HB6, Nat.le_refl _, Hcc, HR⟩
    case round =>
      obtain ⟨j, lsj, told, o2, c2, l, hj, rfl, rfl, htl, hln, hM, hO, hLo, hT, hB, hsz, hcc, hK⟩ := hrel
      clear HM HO6 HLo HT0 HB6 Hcc HR hll0
      by_cases hjl : j < HS.length
      · have z0 := hcc.out j hjl
        have hoj := Hin.out HS[j] (List.getElem_mem hjl)
        have hk := hK.out
        rw [List.drop_eq_getElem_cons hjl, hitAll] at hk
        have r1 : (0 : Int) ≤ (j : Int) := by omega
        have r2 : (j : Int) < (HS.length : Int) := by omega
        clear hK Hin
        generalize HS[j] = h at *
        obtain ⟨m2, rfl, hm2⟩ := out_no hoj
        have hll : l.length = ls.length := by rw [← hln, ← hM.out]; simp
        have hml : m2 < l.length := by omega
        have hab2 : (lsj[m2]?.map SigD.ab).getD true = l[m2].1.ab := by
          rw [← hM.out, List.getElem?_map, List.getElem?_eq_getElem hml]
          rfl
        rw [show ((m2 : Int) + 1).toNat - 1 = m2 by omega, hab2] at hk
        obtain ⟨g', c', cur', hv', hbg', hh', hnc', hcells⟩ := own_blk hO.out.row (by omega)
        injection hv' with e1 e2 e3
        injection e1 with e1
        injection e1 with e1
        subst e1
        clear e2 e3 hab2 hoj
        have y0 := hcells (m2 * 5) _ ((rowS_get l m2 0 hml (by decide)).trans rfl)
        have y1 := hcells (m2 * 5 + 1) _ ((rowS_get l m2 1 hml (by decide)).trans rfl)
        have s1 : (0 : Int) ≤ (m2 : Int) := by omega
        have s2 : (m2 : Int) < (ls.length : Int) := by omega
        have hw2 : IntKind.i64.wrap (m2 : Int) = (m2 : Int) := wrapA (by omega) (by omega)
        have Hk := hid hk
        have Hll := hid hll
        clear hk hcells hnc' hll
        cases hab3 : l[m2].1.ab with
        | true =>
          have Hn : Hid (hitAll RE (HS.drop (j + 1)) lsj told = R) := by
            have h := Hk.out
            rw [hab3, if_pos rfl] at h
            exact h
          rw [hab3] at y0
          clear Hk hab3 hh' hbg' y1
          go_wp2
          go_roundw
          case rel => exact ⟨j + 1, lsj, told, o2, c2, l, by omega, by go_num, rfl, by omega, hln, hM, hO, hLo, hT, hB, hsz, hcc, Hn⟩
          case measure => simp [RowKit.intOf]; omega
        | false =>
          have Hn : Hid (hitAll RE (HS.drop (j + 1)) (lsj.modify m2 (hitD RE)) (told ++ [(m2 : Int) + 1]) = R) := by
            have h := Hk.out
            rw [hab3, if_neg Bool.false_ne_true] at h
            exact h
          rw [hab3] at y0
          have hh1 := set_boxA (k := m2 * 5) (v := .bool true) hh'
          have f0 : wr.frozen? ⟨g, m2 * 5, none⟩ = false := by simp [World.frozen?, hh']
          have f1 : (wr.setCell ⟨g, m2 * 5, none⟩ (.bool true)).frozen? ⟨g, m2 * 5 + 1, none⟩ = false := by simp [World.frozen?, hh1]
          have z1 : (wr.setCell ⟨g, m2 * 5, none⟩ (.bool true)).cell? ⟨g, m2 * 5 + 1, none⟩ = some (.int .i64 l[m2].1.re) := (World.cell?_setCell_other _ _ _ _ (by intro h; injection h with _ h2; omega)).trans y1
          have hT2 := own_set (o := m2 * 5 + 1) (own_set (o := m2 * 5) hT.out hh' (by decide) (.bool true)) hh1 (by decide) (.int .i64 RE)
          have hO2 : OwnS ((wr.setCell ⟨g, m2 * 5, none⟩ (.bool true)).setCell ⟨g, m2 * 5 + 1, none⟩ (.int .i64 RE)) w w.heap.size (.slice (some ⟨g, 0, none⟩) ls.length c3) (l.set m2 (hitD RE l[m2].1, l[m2].2)) (l.set m2 (hitD RE l[m2].1, l[m2].2)).length := by
            have h := hO.out
            rw [← Hll.out] at h
            have := h.hit hml RE
            rw [Hll.out] at this
            rw [List.length_set, Hll.out]
            exact this
          have hLo2 : LowS w6.heap.size (.slice (some ⟨g, 0, none⟩) ls.length c3) (l.set m2 (hitD RE l[m2].1, l[m2].2)) := hLo.out.hit hml
          have hB2 := (hB.out.setCell (p := ⟨g, m2 * 5, none⟩) (by show _ ≤ g; exact hbg') (.bool true)).setCell (p := ⟨g, m2 * 5 + 1, none⟩) (by show _ ≤ g; exact hbg') (.int .i64 RE)
          have hcc2 : ∀ (j : Nat) (hj : j < HS.length), ((wr.setCell ⟨g, m2 * 5, none⟩ (.bool true)).setCell ⟨g, m2 * 5 + 1, none⟩ (.int .i64 RE)).cell? ⟨gc, j, none⟩ = some (.int .i64 HS[j]) := fun j hj => (World.cell?_setCell_far _ ⟨g, m2 * 5 + 1, none⟩ ⟨gc, j, none⟩ _ (fun e => hgc e.symm)).trans ((World.cell?_setCell_far _ ⟨g, m2 * 5, none⟩ ⟨gc, j, none⟩ _ (fun e => hgc e.symm)).trans (hcc.out j hj))
          have hsz2 : w6.heap.size ≤ ((wr.setCell ⟨g, m2 * 5, none⟩ (.bool true)).setCell ⟨g, m2 * 5 + 1, none⟩ (.int .i64 RE)).heap.size := by have := hsz.out; simpa using this
          obtain ⟨o4, c4, V2, hap, hT4, hg4, _⟩ := run_appendW _ w6.heap.size _ told ((m2 : Int) + 1) hT2 hsz2 (by omega)
          have hb4 := (Below.refl w6.heap.size _).grown hg4 hsz2 (fun q hq => (hT2.lt q hq).1)
          have HO4 := hid (hO2.keepB hLo2 hb4)
          have HLo2 := hid hLo2
          have HT4 := hid hT4
          have HB4 := hid (hB2.trans (hb4.mono hlw))
          have HS4 := hid (Nat.le_trans hsz2 hb4.size)
          have HC4 : Hid (∀ (j : Nat) (hj : j < HS.length), V2.cell? ⟨gc, j, none⟩ = some (.int .i64 HS[j])) := fun j hj => (hb4.cell (p := ⟨gc, j, none⟩) hcl).trans (hcc2 j hj)
          have HM4 : Hid ((l.set m2 (hitD RE l[m2].1, l[m2].2)).map (·.1) = lsj.modify m2 (hitD RE)) := by
            show _ = _
            rw [map_hit l m2 hml RE, hM.out]
          have hLe : (told ++ [(m2 : Int) + 1]).length ≤ j + 1 := by simp; omega
          generalize hLN : (told ++ [(m2 : Int) + 1]).length = LN at *
          have HLN := hid hLN
          have HAp := hid hap
          have HLe := hid hLe
          clear hLN hap hLe hT4 hg4 hb4 hB2 hcc2 hsz2 hLo2 hO2 hT2 hh' hh1 Hk hab3 hB hO hLo hT hcc hsz hM
          go_upto_region 19 with fail
          clear y0 y1 z0 z1 f0 f1
          generalize (wr.setCell ⟨g, m2 * 5, none⟩ (.bool true)).setCell ⟨g, m2 * 5 + 1, none⟩ (.int .i64 RE) = U2 at *
          go_wp2_with (at_builtin; refine wpList_append_run _ rfl _ _ 23 23 rfl _ _ rfl rfl _ _ HAp.out ?_)
          go_roundw
          case rel => exact ⟨j + 1, _, told ++ [(m2 : Int) + 1], o4, c4, _, by omega, by go_num, by rw [HLN.out], by rw [HLN.out]; exact HLe.out, by rw [List.length_modify]; exact hln, HM4, HO4, HLo2, by have h := HT4; rw [← HLN.out] at h; exact h, HB4, HS4, HC4, Hn⟩
          case measure => simp [RowKit.intOf]; omega
      · have hRe : (lsj, told) = R := by
          rw [← hK.out, List.drop_eq_nil_of_le (by omega)]
          rfl
        subst hRe
        clear hK hcc hLo
        go_wp2
        refine bodyPost_ret (v := .tuple #[.slice (some ⟨g, 0, none⟩) ls.length c3, .slice o2 told.length c2, .int .i64 0]) (by simp [results, Try.results16, go_sem]) rfl ?_
        exact ⟨_, c3, l, o2, c2, rfl, hM.out, hO.out.base (Nat.le_refl _), own_base hlw hT.out, hB.out⟩
end Go.Proofs.Ytlibjjmaicgemaa
