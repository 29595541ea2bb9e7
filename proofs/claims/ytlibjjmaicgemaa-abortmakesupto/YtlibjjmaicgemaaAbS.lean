/- abort.lead. -/
import Derived.Test.YtlibjjmaicgemaaAbP
namespace Go.Proofs.Ytlibjjmaicgemaa
open Go.RowKit Go.Lib Go.Shelf

theorem out_sub {n : Nat} {h : Int} (ho : outD n h = false) : ∃ p : Nat, h = (p : Int) + 1 ∧ p < n := out_no ho
/-- What lead starts from. -/
structure LeadOk (q : Nat) (l0 : List SigV) (is : List Int) : Prop where
  len : l0.length = q + 1
  many : l0.length ≤ 1025
  ins : ∀ h ∈ is, outD q h = false
  inl : is.length ≤ 1024
  srcs : ∀ (j : Nat) (hj : j < l0.length), l0[j].1.dep = true → ∀ s ∈ l0[j].1.src, outD q s = false
  small : ∀ (j : Nat) (hj : j < l0.length), l0[j].1.src.length ≤ 1024 ∧ l0[j].1.dts.length ≤ 1024
/-- How it stands within lead. -/
structure LeadAt (W0 V w0 : World) (base g c q t : Nat) (l0 l : List SigV) : Prop where
  own : OwnS V w0 base (.slice (some ⟨g, 0, none⟩) l0.length c) l l0.length
  len : l.length = l0.length
  bel : Below base W0 V
  low : base ≤ V.heap.size
  tied : Tied q t (l0.map (·.1)) (l.map (·.1))
  same : ∀ (j : Nat) (hj : j < l.length) (hj0 : j < l0.length), j ≠ q → l[j].2.1 = l0[j].2.1
theorem LeadAt.at_ {W0 V w0 : World} {base g c q t : Nat} {l0 l : List SigV} (h : LeadAt W0 V w0 base g c q t l0 l) (p : Nat) (hp : p < l.length) (hp0 : p < l0.length) (hpq : p ≠ q) : l[p].1.dep = l0[p].1.dep ∧ l[p].1.src = l0[p].1.src ∧ l[p].1.dts.length ≤ l0[p].1.dts.length + t := by
  obtain ⟨d, h1, h2⟩ := h.tied.get p (by simpa using hp0) hpq
  rw [List.getElem?_map, List.getElem?_eq_getElem hp] at h1
  have h1 := Option.some.inj h1
  simp only [List.getElem_map] at h1 h2
  rw [h1]
  exact ⟨rfl, rfl, h2⟩
theorem LeadAt.last {W0 V w0 : World} {base g c q t : Nat} {l0 l : List SigV} (h : LeadAt W0 V w0 base g c q t l0 l) (hq : q < l.length) (hq0 : q < l0.length) : l[q].1.src.length ≤ l0[q].1.src.length + t := by
  obtain ⟨s, h1, h2⟩ := h.tied.last (by simpa using hq0)
  rw [List.getElem?_map, List.getElem?_eq_getElem hq] at h1
  have h1 := Option.some.inj h1
  simp only [List.getElem_map] at h1 h2
  rw [h1]
  exact h2
/-- A tie, from there on. -/
theorem LeadAt.tie (hT : Ties) {W0 V w0 : World} {base g c q t : Nat} {l0 l : List SigV} {is : List Int} (hk : LeadOk q l0 is) (h : LeadAt W0 V w0 base g c q t l0 l) (ht : t ≤ 2097152) (p : Nat) (hp : p < q) :
    Calls Try.prog 27 #[.agg #[.slice (some ⟨g, 0, none⟩) l0.length c, .int .i64 ((q : Int) + 1)], .int .i64 ((p : Int) + 1)] V fun e w' => e = .returned (.tuple #[]) ∧ ∃ l2, LeadAt W0 w' w0 base g c q (t + 1) l0 l2 ∧ l2.map (·.1) = tieS (l.map (·.1)) p q := by
  have hlen := hk.len
  have hl := h.len
  have hpl : p < l.length := by omega
  have hql : q < l.length := by omega
  have ho := h.own
  have hsm := hk.small p (by omega)
  have hsq := hk.small q (by omega)
  rw [← hl] at ho
  have hd := (h.at_ p hpl (by omega) (by omega)).2.2
  have hs := h.last hql (by omega)
  have h1 : Calls Try.prog 27 #[.agg #[.slice (some ⟨g, 0, none⟩) l.length c, .int .i64 ((q : Int) + 1)], .int .i64 ((p : Int) + 1)] V fun e w' => e = .returned (.tuple #[]) ∧ ∃ l2, LeadAt W0 w' w0 base g c q (t + 1) l0 l2 ∧ l2.map (·.1) = tieS (l.map (·.1)) p q := (hT g c q p l V w0 base ho h.low (by omega) (by have := hk.many; omega) hp hpl hql (by omega) (by omega)).mono (by
    rintro e w' ⟨he, l2, hm, hl2, hO2, hb2, hsame⟩
    rw [hl] at hO2 hl2
    refine ⟨he, l2, ⟨hO2, hl2, h.bel.trans hb2, Nat.le_trans h.low hb2.size, ?_, fun j hj hj0 hne => (hsame j hj (by omega) hne).trans (h.same j (by omega) hj0 hne)⟩, hm⟩
    rw [hm]
    exact h.tied.step (by omega))
  rw [hl] at h1
  exact h1
set_option maxRecDepth 100000 in
set_option maxHeartbeats 8000000 in
theorem lead_any (hT : Ties) (g c q : Nat) (l0 : List SigV) (iv : Value) (is : List Int) (W w0 : World) (base : Nat) (hO : OwnS W w0 base (.slice (some ⟨g, 0, none⟩) l0.length c) l0 l0.length) (hB : base ≤ W.heap.size) (hk : LeadOk q l0 is) (hir : ∀ V, Below base W V → RdI V iv is) :
    Calls Try.prog 26 #[.slice (some ⟨g, 0, none⟩) l0.length c, iv, .func (.func 27) #[.agg #[.slice (some ⟨g, 0, none⟩) l0.length c, .int .i64 ((q : Int) + 1)]] #[]] W fun e w' => e = .returned (.tuple #[]) ∧ ∃ l, l.map (·.1) = tiesS q (ledBy (l0.map (·.1)) is) (l0.map (·.1)) ∧ l.length = l0.length ∧ OwnS w' w0 base (.slice (some ⟨g, 0, none⟩) l0.length c) l l0.length ∧ Below base W w' := by
  have eg : ∀ args w, (callFunc 27 args).run Try.prog w = .ok (.enter 27 args) w := enters_of Try.func27 (by kernel_rfl) rfl
  obtain ⟨io, ic, rfl, _, _⟩ := hir W (Below.refl _ _)
  obtain ⟨R, hR⟩ : ∃ R, tiesS q (ledBy (l0.map (·.1)) is) (l0.map (·.1)) = R := ⟨_, rfl⟩
  rw [hR]
  have HR : Hid (tiesS q (ledBy (l0.map (·.1)) (is.drop 0)) (l0.map (·.1)) = R) := hR
  have HA0 : Hid (LeadAt W W w0 base g c q 0 l0 l0) := ⟨hO, rfl, Below.refl _ _, hB, Tied.refl _ _, fun _ _ _ _ => rfl⟩
  have Hir := hid hir
  have HK := hid hk
  have HT := hid hT
  have hn := hk.many
  have hil := hk.inl
  clear hO hk hir hT hR hB
  go_enter Try.func26, Try.ntmps26
  go_wp2
  go_loopw [12] (fun u wr => ∃ (i t : Nat) (l : List SigV), i ≤ is.length ∧ u = .int .i64 i ∧ t ≤ i * 1024 ∧ Hid (LeadAt W wr w0 base g c q t l0 l) ∧ Hid (tiesS q (ledBy (l0.map (·.1)) (is.drop i)) (l.map (·.1)) = R)) (fun u _ => is.length - (RowKit.intOf u).toNat)
  case atStart => exact ⟨0, 0, l0, Nat.zero_le _, rfl, Nat.zero_le _, HA0, HR⟩
  case round =>
    obtain ⟨i, t, l, hi, rfl, ht, hA, hK⟩ := hrel
    clear HA0 HR
    by_cases hlt : i < is.length
    · obtain ⟨_, _, he, _, hg⟩ := Hir.out wr hA.out.bel
      injection he with e1 e2 e3
      obtain ⟨ib, ioff, hio, hibl, hic⟩ := hg (by omega)
      rw [← e1] at hio
      subst hio
      have z0 := hic i hlt
      have hoi := HK.out.ins is[i] (List.getElem_mem hlt)
      have hkk := hK.out
      rw [List.drop_eq_getElem_cons hlt, ledBy] at hkk
      have r1 : (0 : Int) ≤ (i : Int) := by omega
      have r2 : (i : Int) < (is.length : Int) := by omega
      clear e1 e2 e3 hg hic hibl hK
      generalize is[i] = h at *
      obtain ⟨p, rfl, hp⟩ := out_sub hoi
      have hl0 := HK.out.len
      have hll := hA.out.len
      have hp0 : p < l0.length := by omega
      have hpl : p < l.length := by omega
      rw [show ((p : Int) + 1).toNat - 1 = p by omega, List.getElem?_map, List.getElem?_eq_getElem hp0] at hkk
      replace hkk : tiesS q ((if l0[p].1.dep = true then l0[p].1.src else [(p : Int) + 1]) ++ ledBy (l0.map (·.1)) (is.drop (i + 1))) (l.map (·.1)) = R := hkk
      rw [ties_append] at hkk
      obtain ⟨hde, hsr, _⟩ := hA.out.at_ p hpl hp0 (by omega)
      have hsd := hA.out.same p hpl hp0 (by omega)
      obtain ⟨g', c', cur, hv, hbg, hh, hnc, hcc⟩ := own_blk hA.out.own.row (by omega)
      injection hv with e1 e2 e3
      injection e1 with e1
      injection e1 with e1
      subst e1
      have y2 := hcc (p * 5 + 2) (.bool l0[p].1.dep) ((rowS_get l p 2 hpl (by decide)).trans (congrArg (fun b => some (Value.bool b)) hde))
      have hpi : (p : Int) < (l0.length : Int) := by omega
      have hp1 : (0 : Int) ≤ (p : Int) := by omega
      have hwp : IntKind.i64.wrap (p : Int) = (p : Int) := wrapA (by omega) (by omega)
      clear e2 e3 hoi
      cases hdp : l0[p].1.dep with
      | false =>
        have Hn : Hid (tiesS q (ledBy (l0.map (·.1)) (is.drop (i + 1))) (tieS (l.map (·.1)) p q) = R) := by
          have h := hkk
          rw [hdp, if_neg Bool.false_ne_true] at h
          exact h
        have hTie := hA.out.tie HT.out HK.out (by omega) p hp
        rw [hdp] at y2
        have HTie := hid hTie
        clear hTie hkk hcc hh hnc hbg hsd hsr hde hdp hll hl0
        go_wp2_with (go_at_fn 27; refine HTie.out.mono ?_; rintro e w2 ⟨rfl, l2, hA2, hm2⟩; have HA2 := hid hA2; have HM2 := hid hm2; clear hA2 hm2)
        go_roundw
        case rel => exact ⟨i + 1, t + 1, l2, by omega, by go_num, by omega, HA2, by have h := Hn; rw [← HM2.out] at h; exact h⟩
        case measure => simp [RowKit.intOf]; omega
      | true =>
        have hsm := (HK.out.small p hp0).1
        have hins := HK.out.srcs p hp0 hdp
        obtain ⟨os, cs, hsh⟩ := own_shape (hA.out.own.own p hpl hp0).1
        rw [hsr] at hsh
        have y3 := hcc (p * 5 + 3) (.slice os l0[p].1.src.length cs) ((rowS_get l p 3 hpl (by decide)).trans (congrArg some hsh))
        have hsh0 : l0[p].2.1 = .slice os l0[p].1.src.length cs := hsd.symm.trans hsh
        rw [hdp] at y2
        obtain ⟨T, hTq⟩ : ∃ T, tiesS q l0[p].1.src (l.map (·.1)) = T := ⟨_, rfl⟩
        have Hn : Hid (tiesS q (ledBy (l0.map (·.1)) (is.drop (i + 1))) T = R) := by
          have h := hkk
          rw [hdp, if_pos rfl, hTq] at h
          exact h
        have HTq : Hid (tiesS q (l0[p].1.src.drop 0) (l.map (·.1)) = T) := hTq
        have Hsr : Hid (∀ (V : World) (t2 : Nat) (l2 : List SigV), LeadAt W V w0 base g c q t2 l0 l2 → RdI V (.slice os l0[p].1.src.length cs) l0[p].1.src) := fun V t2 l2 h2 => by
          have hl2 := h2.len
          have hp2 : p < l2.length := by omega
          have h3 := own_rdI (h2.own.own p hp2 hp0).1
          rw [(h2.at_ p hp2 hp0 (by omega)).2.1, h2.same p hp2 hp0 (by omega), hsh0] at h3
          exact h3
        have Hins := hid hins
        have hsm2 := hsm
        clear hkk hcc hh hnc hbg hsd hsr hde hdp hll hl0 hsh hsh0 hTq hins
        generalize l0[p].1.src = SS at *
        go_wp2
        go_loopw [33] (fun u wq => ∃ (j t2 : Nat) (l2 : List SigV), j ≤ SS.length ∧ u = .int .i64 j ∧ t2 ≤ i * 1024 + j ∧ Hid (LeadAt W wq w0 base g c q t2 l0 l2) ∧ Hid (tiesS q (SS.drop j) (l2.map (·.1)) = T)) (fun u _ => SS.length - (RowKit.intOf u).toNat)
        case atStart => exact ⟨0, t, l, Nat.zero_le _, rfl, by omega, hA, HTq⟩
        case round =>
          obtain ⟨j, t2, l2, hj, rfl, ht2, hA2, hK2⟩ := hrel
          clear HTq hA
          by_cases hjl : j < SS.length
          · obtain ⟨_, _, he, _, hg⟩ := Hsr.out _ _ _ hA2.out
            injection he with e1 e2 e3
            obtain ⟨sb, soff, hso, _, hsc⟩ := hg (by omega)
            rw [← e1] at hso
            subst hso
            have z1 := hsc j hjl
            have hos := Hins.out SS[j] (List.getElem_mem hjl)
            have hk2 := hK2.out
            rw [List.drop_eq_getElem_cons hjl, tiesS] at hk2
            have s1 : (0 : Int) ≤ (j : Int) := by omega
            have s2 : (j : Int) < (SS.length : Int) := by omega
            clear e1 e2 e3 hg hsc hK2 Hins
            generalize SS[j] = h2 at *
            obtain ⟨p2, rfl, hp2⟩ := out_sub hos
            rw [show ((p2 : Int) + 1).toNat - 1 = p2 by omega] at hk2
            have hTie := hA2.out.tie HT.out HK.out (by omega) p2 hp2
            have HTie := hid hTie
            have Hk2 := hid hk2
            clear hTie hk2 hos Hsr
            go_wp2_with (go_at_fn 27; refine HTie.out.mono ?_; rintro e w2 ⟨rfl, l3, hA3, hm3⟩; have HA3 := hid hA3; have HM3 := hid hm3; clear hA3 hm3)
            go_roundw
            case rel => exact ⟨j + 1, t2 + 1, l3, by omega, by go_num, by omega, HA3, by have h := Hk2; rw [← HM3.out] at h; exact h⟩
            case measure => simp [RowKit.intOf]; omega
          · have hTe : l2.map (·.1) = T := by
              rw [← hK2.out, List.drop_eq_nil_of_le (by omega)]
              rfl
            have Hn2 : Hid (tiesS q (ledBy (l0.map (·.1)) (is.drop (i + 1))) (l2.map (·.1)) = R) := by
              have h := Hn
              rw [← hTe] at h
              exact h
            clear hK2 Hsr Hins hTe Hn
            go_wp2
            go_roundw
            case rel => exact ⟨i + 1, t2, l2, by omega, by go_num, by omega, hA2, Hn2⟩
            case measure => simp [RowKit.intOf]; omega
    · have hRe : l.map (·.1) = R := by
        rw [← hK.out, List.drop_eq_nil_of_le (by omega)]
        rfl
      have HRe := hid hRe
      clear hK hRe
      go_wp2
      (try simp only [Exit.inBlock, Exit.then])
      refine bodyPost_end (results_none rfl _ _ _) rfl ?_
      exact ⟨rfl, l, HRe.out, hA.out.len, hA.out.own, hA.out.bel⟩
end Go.Proofs.Ytlibjjmaicgemaa
