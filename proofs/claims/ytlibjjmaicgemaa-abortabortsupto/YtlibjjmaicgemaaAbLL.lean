/- The reference of abort: Abort, where a signal is aborted. -/
import Derived.Test.YtlibjjmaicgemaaAbKK
namespace Go.Proofs.Ytlibjjmaicgemaa
open Go.RowKit Go.Lib Go.Shelf

theorem own_oneI {W : World} {g : Nat} {x : Int} (h : W.heap[g]? = some (.cells #[.int .i64 x] 3)) (base : Nat) (hb : base ≤ g) : W.ownsRow base 3 1 (.slice (some ⟨g, 0, none⟩) 1 1) [x].length ([x].map (Value.int .i64)) :=
  ⟨rfl, .inr ⟨g, 1, #[.int .i64 x], rfl, hb, h, Nat.le_refl _, by unfold maxLen; omega, rfl, rfl⟩⟩
set_option maxRecDepth 100000 in
set_option maxHeartbeats 8000000 in
theorem AbortR_ok (v : Value) (ls : List SigD) (m : Nat) (re : Int) (w : World) (hv : RdS w v ls) (hl : ls.length ≤ 1024) (hs : SmallS ls) (hm : m < ls.length) (he : knownE ls ((m : Int) + 1) = 0) (hd : ls[m].dep = false) (hab : ls[m].ab = false)
    (hdt : ∀ h ∈ ls[m].dts, outD ls.length h = false) (hdl : ls[m].dts.length ≤ 1024) :
    Calls Try.prog 17 #[v, .int .i64 ((m : Int) + 1), .int .i64 re] w fun e w' => ∃ o c l o2 c2, e = .returned (.tuple #[.slice o ls.length c, .slice o2 (hitAll (reasonD re) (((m : Int) + 1) :: ls[m].dts) ls []).2.length c2, .int .i64 0]) ∧ l.map (·.1) = (hitAll (reasonD re) (((m : Int) + 1) :: ls[m].dts) ls []).1 ∧ OwnS w' w' w.heap.size (.slice o ls.length c) l l.length ∧ w'.ownsRow w.heap.size 3 1 (.slice o2 (hitAll (reasonD re) (((m : Int) + 1) :: ls[m].dts) ls []).2.length c2) (hitAll (reasonD re) (((m : Int) + 1) :: ls[m].dts) ls []).2.length ((hitAll (reasonD re) (((m : Int) + 1) :: ls[m].dts) ls []).2.map (Value.int .i64)) ∧ Below w.heap.size w w' := by
  have hC := checkR_all v ls w hv (by omega) hs
  have hE0 : checkS ls = 0 := by
    obtain ⟨h1, h2, _⟩ := known_parts he
    unfold checkS
    rw [if_neg (by omega), if_pos h1]
  rw [hE0] at hC
  have HO : Hid (∀ V : World, Below w.heap.size w V → _) := fun V hV => ofR_yes _ ls m V (hv.later hV) (by omega) hm
  have HCp : Hid (∀ V : World, Below w.heap.size w V → _) := fun V hV => copyR_any v ls V (hv.later hV) (by omega) hs
  obtain ⟨o, c, rfl, _, g⟩ := hv
  have q1 : (0 : Int) ≤ (m : Int) := by omega
  have q2 : (m : Int) < (ls.length : Int) := by omega
  have hwi : IntKind.i64.wrap (m : Int) = (m : Int) := wrapA (by omega) (by omega)
  have hfirst : hitAll (reasonD re) (((m : Int) + 1) :: ls[m].dts) ls [] = hitAll (reasonD re) ls[m].dts (ls.modify m (hitD (reasonD re))) [(m : Int) + 1] := by
    rw [hitAll, show ((m : Int) + 1).toNat - 1 = m by omega, List.getElem?_eq_getElem hm]
    show (if ls[m].ab = true then _ else _) = _
    rw [hab, if_neg Bool.false_ne_true, List.nil_append]
  rw [hfirst]
  obtain ⟨R, hR⟩ : ∃ R, hitAll (reasonD re) ls[m].dts (ls.modify m (hitD (reasonD re))) [(m : Int) + 1] = R := ⟨_, rfl⟩
  rw [hR]
  have Hin := hid hdt
  clear hs he g hE0 hfirst hdt
  generalize ls[m] = a at *
  obtain ⟨ab, re', dep, src, dts⟩ := a
  dsimp only at *
  subst hd
  subst hab
  have HR : Hid (hitAll (reasonD re) (dts.drop 0) (ls.modify m (hitD (reasonD re))) [(m : Int) + 1] = R) := hR
  clear hR
  have hre2 : (re == 0) = true ∧ reasonD re = 21 ∨ (re == 0) = false ∧ reasonD re = re := by
    cases hz : (re == 0) with
    | true => exact .inl ⟨rfl, by unfold reasonD; rw [hz]; rfl⟩
    | false => exact .inr ⟨rfl, by unfold reasonD; rw [hz]; rfl⟩
  obtain ⟨RE, hRE⟩ : ∃ RE, reasonD re = RE := ⟨_, rfl⟩
  rw [hRE] at hre2 HR
  clear hRE
  have Hdl := hid hdl

  rcases hre2 with ⟨h1, rfl⟩ | ⟨h1, rfl⟩
  · go_enter Try.func17, Try.ntmps17
    go_upto_region 9 with (first | (go_at_call 28; refine (HO.out w2 HB.out).mono ?_; rintro e w3 ⟨so, sc, sd, dc, rfl, hrs, hrd, hb⟩; have HB2 := hid (HB.out.trans (hb.mono HB.out.size)); have hba : Below w3.heap.size w3 (w3.alloc (.cells #[.bool false, .int .i64 re', .bool false, .slice so src.length sc, .slice sd dts.length dc] 42)) := (Below.refl _ w3).alloc (Nat.le_refl _) _; have HB3 := hid (HB2.out.trans (hba.mono HB2.out.size)); have HX := hid (heap_new w3 (.cells #[.bool false, .int .i64 re', .bool false, .slice so src.length sc, .slice sd dts.length dc] 42)); have HRD := hid (hrd.later (hb.trans (hba.mono hb.size))); clear hb hba hrs hrd) | (go_at_call 15; refine hC.mono ?_; rintro e w2 ⟨rfl, hb⟩; have HB := hid hb; clear hb))
    clear HB HB2 hC HO
    have HBb := hid (Array.getElem?_eq_some_iff.1 HX.out).1
    generalize w3.alloc (.cells #[.bool false, .int .i64 re', .bool false, .slice so src.length sc, .slice sd dts.length dc] 42) = V0 at *
    generalize w3.heap.size = Bb at *
    go_upto_region 14 with (go_at_call 7; refine (HCp.out _ HB3.out).mono ?_; rintro e w4 ⟨o4, c4, l0, rfl, hm4, ho4, hb⟩; have HM := hid hm4; have HOc := hid ho4; have HB4 := hid hb; have HX4 := hid (blkLater hb HX.out); have S3 := sig_cells (x := ⟨false, re', false, src, dts⟩) HX4.out; have z0 := S3.ab; dsimp only at z0; clear hm4 ho4 hb S3)
    clear z0 HCp
    have hll0 : l0.length = ls.length := by rw [← HM.out]; simp
    have hml0 : m < l0.length := by omega
    have hb5 : Below w4.heap.size w4 (w4.alloc (.cells #[.int .i64 ((m : Int) + 1)] 3)) := (Below.refl _ w4).alloc (Nat.le_refl _) _
    have HT := hid (own_oneI (heap_new w4 (.cells #[.int .i64 ((m : Int) + 1)] 3)) w4.heap.size (Nat.le_refl _))
    have HLo := hid (HOc.out.low.hit (x := hitD 21 l0[m].1) hml0)
    have HO5 := hid (HOc.out.later hb5)
    have HX5 := hid (blkLater hb5 HX4.out)
    have HB5 := hid (HB4.out.trans (hb5.mono HB4.out.size))
    have HS5 := hid hb5.size
    obtain ⟨g, c9, cur9, hv9, hbg9, hh9, hnc9, hcc9⟩ := own_blk HO5.out.row (by omega)
    injection hv9 with e1 e2 e3
    subst e1
    clear e2 e3
    have Hll0 := hid hll0
    clear hb5 HOc HX4 hll0 hnc9
    go_upto_region 15 with fail
    generalize w4.alloc (.cells #[.int .i64 ((m : Int) + 1)] 3) = W5 at *
    have y0 := hcc9 (m * 5) _ ((rowS_get l0 m 0 hml0 (by decide)).trans rfl)
    have y1 := hcc9 (m * 5 + 1) _ ((rowS_get l0 m 1 hml0 (by decide)).trans rfl)
    have hh1 := set_boxA (k := m * 5) (v := .bool true) hh9
    have f0 : W5.frozen? ⟨g, m * 5, none⟩ = false := by simp [World.frozen?, hh9]
    have f1 : (W5.setCell ⟨g, m * 5, none⟩ (.bool true)).frozen? ⟨g, m * 5 + 1, none⟩ = false := by simp [World.frozen?, hh1]
    have z1 : (W5.setCell ⟨g, m * 5, none⟩ (.bool true)).cell? ⟨g, m * 5 + 1, none⟩ = some (.int .i64 l0[m].1.re) := (World.cell?_setCell_other _ _ _ _ (by intro h; injection h with _ h2; omega)).trans y1
    have HT6 := hid (own_set (o := m * 5 + 1) (own_set (o := m * 5) HT.out hh9 (by decide) (.bool true)) hh1 (by decide) (.int .i64 21))
    have HO6 : Hid (OwnS ((W5.setCell ⟨g, m * 5, none⟩ (.bool true)).setCell ⟨g, m * 5 + 1, none⟩ (.int .i64 21)) V0 V0.heap.size (.slice (some ⟨g, 0, none⟩) ls.length c4) (l0.set m (hitD 21 l0[m].1, l0[m].2)) (l0.set m (hitD 21 l0[m].1, l0[m].2)).length) := by
      have h := HO5.out
      rw [← Hll0.out] at h
      have := h.hit hml0 21
      rw [Hll0.out] at this
      show OwnS _ _ _ _ _ _
      rw [List.length_set, Hll0.out]
      exact this
    have HB6 := hid ((HB5.out.setCell (p := ⟨g, m * 5, none⟩) (by show _ ≤ g; exact hbg9) (.bool true)).setCell (p := ⟨g, m * 5 + 1, none⟩) (by show _ ≤ g; exact hbg9) (.int .i64 21))
    have hgB : Bb ≠ g := fun e => by have := HBb.out; omega
    have HX6 := hid ((Below.heap_setCell (W5.setCell ⟨g, m * 5, none⟩ (.bool true)) ⟨g, m * 5 + 1, none⟩ (.int .i64 21) Bb hgB).trans ((Below.heap_setCell W5 ⟨g, m * 5, none⟩ (.bool true) Bb hgB).trans HX5.out))
    have HS6 : Hid (w4.heap.size ≤ ((W5.setCell ⟨g, m * 5, none⟩ (.bool true)).setCell ⟨g, m * 5 + 1, none⟩ (.int .i64 21)).heap.size) := by
      show _ ≤ _
      rw [size_setS, size_setS]
      exact HS5.out
    have HM6 : Hid ((l0.set m (hitD 21 l0[m].1, l0[m].2)).map (·.1) = ls.modify m (hitD 21)) := by
      show _ = _
      rw [map_hit l0 m hml0 21, HM.out]
    clear hh9 hh1 hcc9 hbg9 HT HO5 HX5 HB5 HS5 HM
    go_upto_region 16 with fail
    clear y0 y1 z1 f0 f1
    generalize (W5.setCell ⟨g, m * 5, none⟩ (.bool true)).setCell ⟨g, m * 5 + 1, none⟩ (.int .i64 21) = U at *
    have z4 := (sig_cells (x := ⟨false, re', false, src, dts⟩) HX6.out).dts
    have hlw : V0.heap.size ≤ w4.heap.size := HB4.out.size
    go_wp2
    clear z4
    go_loopw [13, 57] (fun t u wr => ∃ (j : Nat) (lsj : List SigD) (told : List Int) (o2 : Option Addr) (c2 : Nat) (l : List SigV), j ≤ dts.length ∧ u = .int .i64 j ∧ t = .slice o2 told.length c2 ∧ told.length ≤ j + 1 ∧ lsj.length = ls.length ∧ Hid (l.map (·.1) = lsj) ∧ Hid (OwnS wr V0 V0.heap.size (.slice (some ⟨g, 0, none⟩) ls.length c4) l l.length) ∧ Hid (LowS w4.heap.size (.slice (some ⟨g, 0, none⟩) ls.length c4) l) ∧ Hid (wr.ownsRow w4.heap.size 3 1 (.slice o2 told.length c2) told.length (told.map (Value.int .i64))) ∧ Hid (Below V0.heap.size V0 wr) ∧ Hid (w4.heap.size ≤ wr.heap.size) ∧ Hid (hitAll 21 (dts.drop j) lsj told = R)) (fun _ u _ => dts.length - (RowKit.intOf u).toNat)
    case atStart => exact ⟨0, _, [(m : Int) + 1], _, 1, _, Nat.zero_le _, rfl, rfl, Nat.le_refl _, by simp, HM6, HO6, HLo, HT6, HB6, HS6, HR⟩
    case round =>
      obtain ⟨j, lsj, told, o2, c2, l, hj, rfl, rfl, htl, hln, hM, hO, hLo, hT, hB, hsz, hK⟩ := hrel
      clear HM6 HO6 HLo HT6 HB6 HS6 HR HX6 Hll0
      by_cases hjl : j < dts.length
      · obtain ⟨od, cd, ed, _, gd⟩ := HRD.out
        injection ed with e1 e2 e3
        subst e1
        subst e3
        clear e2
        obtain ⟨bd, offd, rfl, hltd, had⟩ := gd (by omega)
        have z0 := (hB.out.cell (p := ⟨bd, offd + j, none⟩) hltd).trans (had j hjl)
        have hoj := Hin.out dts[j] (List.getElem_mem hjl)
        have hk := hK.out
        rw [List.drop_eq_getElem_cons hjl, hitAll] at hk
        have r1 : (0 : Int) ≤ (j : Int) := by omega
        have r2 : (j : Int) < (dts.length : Int) := by omega
        clear hK Hin gd had
        generalize dts[j] = h at *
        obtain ⟨m2, rfl, hm2⟩ := out_no hoj
        have hll : l.length = ls.length := by rw [← hln, ← hM.out]; simp
        have hml : m2 < l.length := by omega
        have hab2 : (lsj[m2]?.map SigD.ab).getD true = l[m2].1.ab := by
          rw [← hM.out, List.getElem?_map, List.getElem?_eq_getElem hml]
          rfl
        rw [show ((m2 : Int) + 1).toNat - 1 = m2 by omega, hab2] at hk
        obtain ⟨g', c', cur', hv', hbg', hh', hnc', hcells⟩ := own_blk hO.out.row (by omega)
        injection hv' with e1 e2 e3
        injection e1 with e1
        injection e1 with e1
        subst e1
        clear e2 e3 hab2 hoj
        have y0 := hcells (m2 * 5) _ ((rowS_get l m2 0 hml (by decide)).trans rfl)
        have y1 := hcells (m2 * 5 + 1) _ ((rowS_get l m2 1 hml (by decide)).trans rfl)
        have s1 : (0 : Int) ≤ (m2 : Int) := by omega
        have s2 : (m2 : Int) < (ls.length : Int) := by omega
        have hw2 : IntKind.i64.wrap (m2 : Int) = (m2 : Int) := wrapA (by omega) (by omega)
        have Hk := hid hk
        have Hll := hid hll
        clear hk hcells hnc' hll
        cases hab3 : l[m2].1.ab with
        | true =>
          have Hn : Hid (hitAll 21 (dts.drop (j + 1)) lsj told = R) := by
            have h := Hk.out
            rw [hab3, if_pos rfl] at h
            exact h
          rw [hab3] at y0
          clear Hk hab3 hh' hbg' y1
          go_wp2
          go_roundw
          case rel => exact ⟨j + 1, lsj, told, o2, c2, l, by omega, by go_num, rfl, by omega, hln, hM, hO, hLo, hT, hB, hsz, Hn⟩
          case measure => simp [RowKit.intOf]; omega
        | false =>
          have Hn : Hid (hitAll 21 (dts.drop (j + 1)) (lsj.modify m2 (hitD 21)) (told ++ [(m2 : Int) + 1]) = R) := by
            have h := Hk.out
            rw [hab3, if_neg Bool.false_ne_true] at h
            exact h
          rw [hab3] at y0
          have hh1 := set_boxA (k := m2 * 5) (v := .bool true) hh'
          have f0 : wr.frozen? ⟨g, m2 * 5, none⟩ = false := by simp [World.frozen?, hh']
          have f1 : (wr.setCell ⟨g, m2 * 5, none⟩ (.bool true)).frozen? ⟨g, m2 * 5 + 1, none⟩ = false := by simp [World.frozen?, hh1]
          have z1 : (wr.setCell ⟨g, m2 * 5, none⟩ (.bool true)).cell? ⟨g, m2 * 5 + 1, none⟩ = some (.int .i64 l[m2].1.re) := (World.cell?_setCell_other _ _ _ _ (by intro h; injection h with _ h2; omega)).trans y1
          have hT2 := own_set (o := m2 * 5 + 1) (own_set (o := m2 * 5) hT.out hh' (by decide) (.bool true)) hh1 (by decide) (.int .i64 21)
          have hO2 : OwnS ((wr.setCell ⟨g, m2 * 5, none⟩ (.bool true)).setCell ⟨g, m2 * 5 + 1, none⟩ (.int .i64 21)) V0 V0.heap.size (.slice (some ⟨g, 0, none⟩) ls.length c4) (l.set m2 (hitD 21 l[m2].1, l[m2].2)) (l.set m2 (hitD 21 l[m2].1, l[m2].2)).length := by
            have h := hO.out
            rw [← Hll.out] at h
            have := h.hit hml 21
            rw [Hll.out] at this
            rw [List.length_set, Hll.out]
            exact this
          have hLo2 : LowS w4.heap.size (.slice (some ⟨g, 0, none⟩) ls.length c4) (l.set m2 (hitD 21 l[m2].1, l[m2].2)) := hLo.out.hit hml
          have hB2 := (hB.out.setCell (p := ⟨g, m2 * 5, none⟩) (by show _ ≤ g; exact hbg') (.bool true)).setCell (p := ⟨g, m2 * 5 + 1, none⟩) (by show _ ≤ g; exact hbg') (.int .i64 21)
          have hsz2 : w4.heap.size ≤ ((wr.setCell ⟨g, m2 * 5, none⟩ (.bool true)).setCell ⟨g, m2 * 5 + 1, none⟩ (.int .i64 21)).heap.size := by have := hsz.out; simpa using this

          obtain ⟨o5, c5, V2, hap, hT4, hg4, _⟩ := run_appendW _ w4.heap.size _ told ((m2 : Int) + 1) hT2 hsz2 (by omega)
          have hb4 := (Below.refl w4.heap.size _).grown hg4 hsz2 (fun q hq => (hT2.lt q hq).1)
          have HO4 := hid (hO2.keepB hLo2 hb4)
          have HLo2 := hid hLo2
          have HT4 := hid hT4
          have HB7 := hid (hB2.trans (hb4.mono hlw))
          have HS4 := hid (Nat.le_trans hsz2 hb4.size)
          have HM4 : Hid ((l.set m2 (hitD 21 l[m2].1, l[m2].2)).map (·.1) = lsj.modify m2 (hitD 21)) := by
            show _ = _
            rw [map_hit l m2 hml 21, hM.out]
          have hLe : (told ++ [(m2 : Int) + 1]).length ≤ j + 1 + 1 := by simp; omega
          generalize hLN : (told ++ [(m2 : Int) + 1]).length = LN at *
          have HLN := hid hLN
          have HAp := hid hap
          have HLe := hid hLe
          clear hLN hap hLe hT4 hg4 hb4 hB2 hsz2 hLo2 hO2 hT2 hh' hh1 Hk hab3 hB hO hLo hT hsz hM
          go_upto_region 21 with fail
          clear y0 y1 z0 z1 f0 f1
          generalize (wr.setCell ⟨g, m2 * 5, none⟩ (.bool true)).setCell ⟨g, m2 * 5 + 1, none⟩ (.int .i64 21) = U2 at *
          go_wp2_with (at_builtin; refine wpList_append_run _ rfl _ _ 23 23 rfl _ _ rfl rfl _ _ HAp.out ?_)
          go_roundw
          case rel => exact ⟨j + 1, _, told ++ [(m2 : Int) + 1], o5, c5, _, by omega, by go_num, by rw [HLN.out], by rw [HLN.out]; exact HLe.out, by rw [List.length_modify]; exact hln, HM4, HO4, HLo2, by have h := HT4; rw [← HLN.out] at h; exact h, HB7, HS4, Hn⟩
          case measure => simp [RowKit.intOf]; omega
      · have hRe : (lsj, told) = R := by
          rw [← hK.out, List.drop_eq_nil_of_le (by omega)]
          rfl
        subst hRe
        clear hK hLo
        go_wp2
        refine bodyPost_ret (v := .tuple #[.slice (some ⟨g, 0, none⟩) ls.length c4, .slice o2 told.length c2, .int .i64 0]) (by simp [results, Try.results17, go_sem]) rfl ?_
        exact ⟨_, c4, l, o2, c2, rfl, hM.out, hO.out.base HB3.out.size, own_base (Nat.le_trans HB3.out.size hlw) hT.out, HB3.out.trans (hB.out.mono HB3.out.size)⟩
  · go_enter Try.func17, Try.ntmps17
    go_upto_region 9 with (first | (go_at_call 28; refine (HO.out w2 HB.out).mono ?_; rintro e w3 ⟨so, sc, sd, dc, rfl, hrs, hrd, hb⟩; have HB2 := hid (HB.out.trans (hb.mono HB.out.size)); have hba : Below w3.heap.size w3 (w3.alloc (.cells #[.bool false, .int .i64 re', .bool false, .slice so src.length sc, .slice sd dts.length dc] 42)) := (Below.refl _ w3).alloc (Nat.le_refl _) _; have HB3 := hid (HB2.out.trans (hba.mono HB2.out.size)); have HX := hid (heap_new w3 (.cells #[.bool false, .int .i64 re', .bool false, .slice so src.length sc, .slice sd dts.length dc] 42)); have HRD := hid (hrd.later (hb.trans (hba.mono hb.size))); clear hb hba hrs hrd) | (go_at_call 15; refine hC.mono ?_; rintro e w2 ⟨rfl, hb⟩; have HB := hid hb; clear hb))
    clear HB HB2 hC HO
    have HBb := hid (Array.getElem?_eq_some_iff.1 HX.out).1
    generalize w3.alloc (.cells #[.bool false, .int .i64 re', .bool false, .slice so src.length sc, .slice sd dts.length dc] 42) = V0 at *
    generalize w3.heap.size = Bb at *
    go_upto_region 14 with (go_at_call 7; refine (HCp.out _ HB3.out).mono ?_; rintro e w4 ⟨o4, c4, l0, rfl, hm4, ho4, hb⟩; have HM := hid hm4; have HOc := hid ho4; have HB4 := hid hb; have HX4 := hid (blkLater hb HX.out); have S3 := sig_cells (x := ⟨false, re', false, src, dts⟩) HX4.out; have z0 := S3.ab; dsimp only at z0; clear hm4 ho4 hb S3)
    clear z0 HCp
    have hll0 : l0.length = ls.length := by rw [← HM.out]; simp
    have hml0 : m < l0.length := by omega
    have hb5 : Below w4.heap.size w4 (w4.alloc (.cells #[.int .i64 ((m : Int) + 1)] 3)) := (Below.refl _ w4).alloc (Nat.le_refl _) _
    have HT := hid (own_oneI (heap_new w4 (.cells #[.int .i64 ((m : Int) + 1)] 3)) w4.heap.size (Nat.le_refl _))
    have HLo := hid (HOc.out.low.hit (x := hitD RE l0[m].1) hml0)
    have HO5 := hid (HOc.out.later hb5)
    have HX5 := hid (blkLater hb5 HX4.out)
    have HB5 := hid (HB4.out.trans (hb5.mono HB4.out.size))
    have HS5 := hid hb5.size
    obtain ⟨g, c9, cur9, hv9, hbg9, hh9, hnc9, hcc9⟩ := own_blk HO5.out.row (by omega)
    injection hv9 with e1 e2 e3
    subst e1
    clear e2 e3
    have Hll0 := hid hll0
    clear hb5 HOc HX4 hll0 hnc9
    go_upto_region 15 with fail
    generalize w4.alloc (.cells #[.int .i64 ((m : Int) + 1)] 3) = W5 at *
    have y0 := hcc9 (m * 5) _ ((rowS_get l0 m 0 hml0 (by decide)).trans rfl)
    have y1 := hcc9 (m * 5 + 1) _ ((rowS_get l0 m 1 hml0 (by decide)).trans rfl)
    have hh1 := set_boxA (k := m * 5) (v := .bool true) hh9
    have f0 : W5.frozen? ⟨g, m * 5, none⟩ = false := by simp [World.frozen?, hh9]
    have f1 : (W5.setCell ⟨g, m * 5, none⟩ (.bool true)).frozen? ⟨g, m * 5 + 1, none⟩ = false := by simp [World.frozen?, hh1]
    have z1 : (W5.setCell ⟨g, m * 5, none⟩ (.bool true)).cell? ⟨g, m * 5 + 1, none⟩ = some (.int .i64 l0[m].1.re) := (World.cell?_setCell_other _ _ _ _ (by intro h; injection h with _ h2; omega)).trans y1
    have HT6 := hid (own_set (o := m * 5 + 1) (own_set (o := m * 5) HT.out hh9 (by decide) (.bool true)) hh1 (by decide) (.int .i64 RE))
    have HO6 : Hid (OwnS ((W5.setCell ⟨g, m * 5, none⟩ (.bool true)).setCell ⟨g, m * 5 + 1, none⟩ (.int .i64 RE)) V0 V0.heap.size (.slice (some ⟨g, 0, none⟩) ls.length c4) (l0.set m (hitD RE l0[m].1, l0[m].2)) (l0.set m (hitD RE l0[m].1, l0[m].2)).length) := by
      have h := HO5.out
      rw [← Hll0.out] at h
      have := h.hit hml0 RE
      rw [Hll0.out] at this
      show OwnS _ _ _ _ _ _
      rw [List.length_set, Hll0.out]
      exact this
    have HB6 := hid ((HB5.out.setCell (p := ⟨g, m * 5, none⟩) (by show _ ≤ g; exact hbg9) (.bool true)).setCell (p := ⟨g, m * 5 + 1, none⟩) (by show _ ≤ g; exact hbg9) (.int .i64 RE))
    have hgB : Bb ≠ g := fun e => by have := HBb.out; omega
    have HX6 := hid ((Below.heap_setCell (W5.setCell ⟨g, m * 5, none⟩ (.bool true)) ⟨g, m * 5 + 1, none⟩ (.int .i64 RE) Bb hgB).trans ((Below.heap_setCell W5 ⟨g, m * 5, none⟩ (.bool true) Bb hgB).trans HX5.out))
    have HS6 : Hid (w4.heap.size ≤ ((W5.setCell ⟨g, m * 5, none⟩ (.bool true)).setCell ⟨g, m * 5 + 1, none⟩ (.int .i64 RE)).heap.size) := by
      show _ ≤ _
      rw [size_setS, size_setS]
      exact HS5.out
    have HM6 : Hid ((l0.set m (hitD RE l0[m].1, l0[m].2)).map (·.1) = ls.modify m (hitD RE)) := by
      show _ = _
      rw [map_hit l0 m hml0 RE, HM.out]
    clear hh9 hh1 hcc9 hbg9 HT HO5 HX5 HB5 HS5 HM
    go_upto_region 16 with fail
    clear y0 y1 z1 f0 f1
    generalize (W5.setCell ⟨g, m * 5, none⟩ (.bool true)).setCell ⟨g, m * 5 + 1, none⟩ (.int .i64 RE) = U at *
    have z4 := (sig_cells (x := ⟨false, re', false, src, dts⟩) HX6.out).dts
    have hlw : V0.heap.size ≤ w4.heap.size := HB4.out.size
    go_wp2
    clear z4
    go_loopw [13, 57] (fun t u wr => ∃ (j : Nat) (lsj : List SigD) (told : List Int) (o2 : Option Addr) (c2 : Nat) (l : List SigV), j ≤ dts.length ∧ u = .int .i64 j ∧ t = .slice o2 told.length c2 ∧ told.length ≤ j + 1 ∧ lsj.length = ls.length ∧ Hid (l.map (·.1) = lsj) ∧ Hid (OwnS wr V0 V0.heap.size (.slice (some ⟨g, 0, none⟩) ls.length c4) l l.length) ∧ Hid (LowS w4.heap.size (.slice (some ⟨g, 0, none⟩) ls.length c4) l) ∧ Hid (wr.ownsRow w4.heap.size 3 1 (.slice o2 told.length c2) told.length (told.map (Value.int .i64))) ∧ Hid (Below V0.heap.size V0 wr) ∧ Hid (w4.heap.size ≤ wr.heap.size) ∧ Hid (hitAll RE (dts.drop j) lsj told = R)) (fun _ u _ => dts.length - (RowKit.intOf u).toNat)
    case atStart => exact ⟨0, _, [(m : Int) + 1], _, 1, _, Nat.zero_le _, rfl, rfl, Nat.le_refl _, by simp, HM6, HO6, HLo, HT6, HB6, HS6, HR⟩
    case round =>
      obtain ⟨j, lsj, told, o2, c2, l, hj, rfl, rfl, htl, hln, hM, hO, hLo, hT, hB, hsz, hK⟩ := hrel
      clear HM6 HO6 HLo HT6 HB6 HS6 HR HX6 Hll0
      by_cases hjl : j < dts.length
      · obtain ⟨od, cd, ed, _, gd⟩ := HRD.out
        injection ed with e1 e2 e3
        subst e1
        subst e3
        clear e2
        obtain ⟨bd, offd, rfl, hltd, had⟩ := gd (by omega)
        have z0 := (hB.out.cell (p := ⟨bd, offd + j, none⟩) hltd).trans (had j hjl)
        have hoj := Hin.out dts[j] (List.getElem_mem hjl)
        have hk := hK.out
        rw [List.drop_eq_getElem_cons hjl, hitAll] at hk
        have r1 : (0 : Int) ≤ (j : Int) := by omega
        have r2 : (j : Int) < (dts.length : Int) := by omega
        clear hK Hin gd had
        generalize dts[j] = h at *
        obtain ⟨m2, rfl, hm2⟩ := out_no hoj
        have hll : l.length = ls.length := by rw [← hln, ← hM.out]; simp
        have hml : m2 < l.length := by omega
        have hab2 : (lsj[m2]?.map SigD.ab).getD true = l[m2].1.ab := by
          rw [← hM.out, List.getElem?_map, List.getElem?_eq_getElem hml]
          rfl
        rw [show ((m2 : Int) + 1).toNat - 1 = m2 by omega, hab2] at hk
        obtain ⟨g', c', cur', hv', hbg', hh', hnc', hcells⟩ := own_blk hO.out.row (by omega)
        injection hv' with e1 e2 e3
        injection e1 with e1
        injection e1 with e1
        subst e1
        clear e2 e3 hab2 hoj
        have y0 := hcells (m2 * 5) _ ((rowS_get l m2 0 hml (by decide)).trans rfl)
        have y1 := hcells (m2 * 5 + 1) _ ((rowS_get l m2 1 hml (by decide)).trans rfl)
        have s1 : (0 : Int) ≤ (m2 : Int) := by omega
        have s2 : (m2 : Int) < (ls.length : Int) := by omega
        have hw2 : IntKind.i64.wrap (m2 : Int) = (m2 : Int) := wrapA (by omega) (by omega)
        have Hk := hid hk
        have Hll := hid hll
        clear hk hcells hnc' hll
        cases hab3 : l[m2].1.ab with
        | true =>
          have Hn : Hid (hitAll RE (dts.drop (j + 1)) lsj told = R) := by
            have h := Hk.out
            rw [hab3, if_pos rfl] at h
            exact h
          rw [hab3] at y0
          clear Hk hab3 hh' hbg' y1
          go_wp2
          go_roundw
          case rel => exact ⟨j + 1, lsj, told, o2, c2, l, by omega, by go_num, rfl, by omega, hln, hM, hO, hLo, hT, hB, hsz, Hn⟩
          case measure => simp [RowKit.intOf]; omega
        | false =>
          have Hn : Hid (hitAll RE (dts.drop (j + 1)) (lsj.modify m2 (hitD RE)) (told ++ [(m2 : Int) + 1]) = R) := by
            have h := Hk.out
            rw [hab3, if_neg Bool.false_ne_true] at h
            exact h
          rw [hab3] at y0
          have hh1 := set_boxA (k := m2 * 5) (v := .bool true) hh'
          have f0 : wr.frozen? ⟨g, m2 * 5, none⟩ = false := by simp [World.frozen?, hh']
          have f1 : (wr.setCell ⟨g, m2 * 5, none⟩ (.bool true)).frozen? ⟨g, m2 * 5 + 1, none⟩ = false := by simp [World.frozen?, hh1]
          have z1 : (wr.setCell ⟨g, m2 * 5, none⟩ (.bool true)).cell? ⟨g, m2 * 5 + 1, none⟩ = some (.int .i64 l[m2].1.re) := (World.cell?_setCell_other _ _ _ _ (by intro h; injection h with _ h2; omega)).trans y1
          have hT2 := own_set (o := m2 * 5 + 1) (own_set (o := m2 * 5) hT.out hh' (by decide) (.bool true)) hh1 (by decide) (.int .i64 RE)
          have hO2 : OwnS ((wr.setCell ⟨g, m2 * 5, none⟩ (.bool true)).setCell ⟨g, m2 * 5 + 1, none⟩ (.int .i64 RE)) V0 V0.heap.size (.slice (some ⟨g, 0, none⟩) ls.length c4) (l.set m2 (hitD RE l[m2].1, l[m2].2)) (l.set m2 (hitD RE l[m2].1, l[m2].2)).length := by
            have h := hO.out
            rw [← Hll.out] at h
            have := h.hit hml RE
            rw [Hll.out] at this
            rw [List.length_set, Hll.out]
            exact this
          have hLo2 : LowS w4.heap.size (.slice (some ⟨g, 0, none⟩) ls.length c4) (l.set m2 (hitD RE l[m2].1, l[m2].2)) := hLo.out.hit hml
          have hB2 := (hB.out.setCell (p := ⟨g, m2 * 5, none⟩) (by show _ ≤ g; exact hbg') (.bool true)).setCell (p := ⟨g, m2 * 5 + 1, none⟩) (by show _ ≤ g; exact hbg') (.int .i64 RE)
          have hsz2 : w4.heap.size ≤ ((wr.setCell ⟨g, m2 * 5, none⟩ (.bool true)).setCell ⟨g, m2 * 5 + 1, none⟩ (.int .i64 RE)).heap.size := by have := hsz.out; simpa using this

          obtain ⟨o5, c5, V2, hap, hT4, hg4, _⟩ := run_appendW _ w4.heap.size _ told ((m2 : Int) + 1) hT2 hsz2 (by omega)
          have hb4 := (Below.refl w4.heap.size _).grown hg4 hsz2 (fun q hq => (hT2.lt q hq).1)
          have HO4 := hid (hO2.keepB hLo2 hb4)
          have HLo2 := hid hLo2
          have HT4 := hid hT4
          have HB7 := hid (hB2.trans (hb4.mono hlw))
          have HS4 := hid (Nat.le_trans hsz2 hb4.size)
          have HM4 : Hid ((l.set m2 (hitD RE l[m2].1, l[m2].2)).map (·.1) = lsj.modify m2 (hitD RE)) := by
            show _ = _
            rw [map_hit l m2 hml RE, hM.out]
          have hLe : (told ++ [(m2 : Int) + 1]).length ≤ j + 1 + 1 := by simp; omega
          generalize hLN : (told ++ [(m2 : Int) + 1]).length = LN at *
          have HLN := hid hLN
          have HAp := hid hap
          have HLe := hid hLe
          clear hLN hap hLe hT4 hg4 hb4 hB2 hsz2 hLo2 hO2 hT2 hh' hh1 Hk hab3 hB hO hLo hT hsz hM
          go_upto_region 21 with fail
          clear y0 y1 z0 z1 f0 f1
          generalize (wr.setCell ⟨g, m2 * 5, none⟩ (.bool true)).setCell ⟨g, m2 * 5 + 1, none⟩ (.int .i64 RE) = U2 at *
          go_wp2_with (at_builtin; refine wpList_append_run _ rfl _ _ 23 23 rfl _ _ rfl rfl _ _ HAp.out ?_)
          go_roundw
          case rel => exact ⟨j + 1, _, told ++ [(m2 : Int) + 1], o5, c5, _, by omega, by go_num, by rw [HLN.out], by rw [HLN.out]; exact HLe.out, by rw [List.length_modify]; exact hln, HM4, HO4, HLo2, by have h := HT4; rw [← HLN.out] at h; exact h, HB7, HS4, Hn⟩
          case measure => simp [RowKit.intOf]; omega
      · have hRe : (lsj, told) = R := by
          rw [← hK.out, List.drop_eq_nil_of_le (by omega)]
          rfl
        subst hRe
        clear hK hLo
        go_wp2
        refine bodyPost_ret (v := .tuple #[.slice (some ⟨g, 0, none⟩) ls.length c4, .slice o2 told.length c2, .int .i64 0]) (by simp [results, Try.results17, go_sem]) rfl ?_
        exact ⟨_, c4, l, o2, c2, rfl, hM.out, hO.out.base HB3.out.size, own_base (Nat.le_trans HB3.out.size hlw) hT.out, HB3.out.trans (hB.out.mono HB3.out.size)⟩
end Go.Proofs.Ytlibjjmaicgemaa
