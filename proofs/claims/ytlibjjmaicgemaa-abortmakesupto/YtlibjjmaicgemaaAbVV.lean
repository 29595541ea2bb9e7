/- The reference of abort: Any, where none of the sources is aborted. -/
import Derived.Test.YtlibjjmaicgemaaAbTT
import Derived.Test.YtlibjjmaicgemaaAbUU
namespace Go.Proofs.Ytlibjjmaicgemaa
open Go.RowKit Go.Lib Go.Shelf

set_option maxRecDepth 100000 in
set_option maxHeartbeats 8000000 in
theorem anyR_dep (v iv : Value) (ls : List SigD) (is : List Int) (w : World) (hv : RdS w v ls) (hi : RdI w iv is) (hs : SmallS ls) (hro : RightOk ls) (hf : fullE ls = 0) (hil : is.length ≤ 1024) (hth : ∀ h ∈ is, outD ls.length h = false) (hna : is.any (abH ls) = false) :
    Calls Try.prog 11 #[v, iv] w fun e w' => ∃ o c l, e = .returned (.tuple #[.slice o (ls.length + 1) c, .int .i64 ((ls.length : Int) + 1), .int .i64 0]) ∧ l.map (·.1) = anyL ls is ∧ OwnS w' w' w.heap.size (.slice o (ls.length + 1) c) l l.length ∧ Below w.heap.size w w' := by
  have Hna : Hid (∀ h ∈ is, abH ls h = false) := fun h hh => by
    have := (List.any_eq_false.1 hna) h hh
    simpa using this
  have Hro := hid hro
  obtain ⟨hE, hlt0⟩ := full_zero hf
  have hC := checkR_all v ls w hv (by omega) hs
  rw [hE] at hC
  have HV := hid hv
  have HTh := hid hth
  have HCp : Hid (∀ V : World, Below w.heap.size w V → _) := fun V hV => copyR_any v ls V (hv.later hV) (by omega) hs
  have d1 : decide ((ls.length : Int) ≥ 1024) = false := decide_eq_false (by omega)
  have d2 : decide ((is.length : Int) > 1024) = false := decide_eq_false (by omega)
  obtain ⟨R, hR⟩ : ∃ R, anyL ls is = R := ⟨_, rfl⟩
  rw [hR]
  have HR : Hid (tiesS ls.length (ledBy (ls ++ [⟨false, 0, true, [], []⟩]) (is.drop 0)) (ls ++ [⟨false, 0, true, [], []⟩]) = R) := hR
  obtain ⟨o, c, rfl, _, g⟩ := hv
  obtain ⟨io, ic, rfl, _, gi⟩ := hi
  have GI := hid gi
  have G := hid g
  clear hs g gi hf hE hna hth hro hR
  go_enter Try.func11, Try.ntmps11
  go_wp2_with (go_at_call 15; refine hC.mono ?_; rintro e w2 ⟨rfl, hb⟩; have HB := hid hb; clear hb)
  go_loopw [7, 35] (fun y t wr => ∃ k : Nat, k ≤ is.length ∧ y = .int .i64 0 ∧ t = .int .i64 k ∧ Hid (Below w.heap.size w wr)) (fun _ t _ => is.length - (RowKit.intOf t).toNat)
  case atStart => exact ⟨0, Nat.zero_le _, rfl, rfl, HB⟩
  case round =>
    obtain ⟨k, k1, rfl, rfl, hB⟩ := hrel
    clear HB
    by_cases hlt : k < is.length
    · obtain ⟨ib, ioff, rfl, hibl, hia⟩ := GI.out (by omega)
      have x0 := (hB.out.cell (p := ⟨ib, ioff + k, none⟩) hibl).trans (hia k hlt)
      have q1 : (0 : Int) ≤ (k : Int) := by omega
      have q2 : (k : Int) < (is.length : Int) := by omega
      obtain ⟨p, hpe, hp⟩ := out_no (HTh.out is[k] (List.getElem_mem hlt))
      have HO : Hid (∀ V : World, Below w.heap.size w V → _) := fun V hV => ofR_yes _ ls p V (HV.out.later hV) (by omega) hp
      rw [hpe] at x0
      clear HV hpe hia GI HTh HCp Hna Hro HR G d1 d2 hC
      generalize ls[p] = a at *
      obtain ⟨ab, re', dep, src, dts⟩ := a
      dsimp only at *
      go_wp2_with (go_at_call 28; refine (HO.out wr hB.out).mono ?_; rintro e w3 ⟨so, sc, sd, dc, rfl, hrs, hrd, hb⟩; have HB2 := hid (hB.out.trans (hb.mono hB.out.size)); have HB3 := hid (HB2.out.trans (((Below.refl _ w3).alloc (o := .cells #[.bool ab, .int .i64 re', .bool dep, .slice so src.length sc, .slice sd dts.length dc] 42) (Nat.le_refl _)).mono HB2.out.size)); clear hb hrs hrd)
      go_roundw
      case rel => exact ⟨k + 1, by omega, rfl, by go_num, HB3⟩
      case measure => simp [RowKit.intOf]; omega
    · have hke : k = is.length := by omega
      subst hke
      clear k1
      clear hC d1 d2 hlt
      go_wp2
      go_loopw [57] (fun t wr => ∃ k : Nat, k ≤ is.length ∧ t = .int .i64 k ∧ Hid (Below w.heap.size w wr)) (fun t _ => is.length - (RowKit.intOf t).toNat)
      case atStart => exact ⟨0, Nat.zero_le _, rfl, hB⟩
      case round =>
        obtain ⟨k, k1, rfl, hB2⟩ := hrel
        clear hB
        have hB := hB2
        clear hB2
        by_cases hlt : k < is.length
        · obtain ⟨ib, ioff, rfl, hibl, hia⟩ := GI.out (by omega)
          have x0 := (hB.out.cell (p := ⟨ib, ioff + k, none⟩) hibl).trans (hia k hlt)
          have q1 : (0 : Int) ≤ (k : Int) := by omega
          have q2 : (k : Int) < (is.length : Int) := by omega
          obtain ⟨p, hpe, hp⟩ := out_no (HTh.out is[k] (List.getElem_mem hlt))
          have hpa := Hna.out _ (List.getElem_mem hlt)
          rw [hpe, abH_at hp] at hpa
          rw [hpe] at x0
          obtain ⟨b, off, rfl, hbl, ha⟩ := G.out (by omega)
          obtain ⟨_, _, Y, _, _⟩ := ha p hp
          have y0 := (Y.later hbl hB.out).ab
          rw [hpa] at y0
          have p1 : (0 : Int) ≤ (p : Int) := by omega
          have p2 : (p : Int) < (ls.length : Int) := by omega
          have hwp : IntKind.i64.wrap (p : Int) = (p : Int) := wrapA (by omega) (by omega)
          clear hpa hpe HCp Hna HTh hia GI Hro HR G ha Y HV
          go_wp2
          go_roundw
          case rel => exact ⟨k + 1, by omega, by go_num, hB⟩
          case measure => simp [RowKit.intOf]; omega
        · have hke : k = is.length := by omega
          subst hke
          clear k1 hlt Hna
          go_upto_region 19 with fail
          generalize wr = U0 at *
          go_upto_region 20 with (first
            | (at_builtin; refine wpList_append_run _ rfl _ _ 22 22 rfl _ _ rfl rfl _ _ HA.out ?_)
            | (go_at_call 7; refine (HCp.out U0 hB.out).mono ?_; rintro e w3 ⟨o3, c3, l0, rfl, hm3, ho3, hb⟩; have hll : l0.length = ls.length := (by rw [← hm3]; simp); obtain ⟨o4, c4, W4, hap, hO4, hb4⟩ := more_new ho3 hb.size false 0 true (by omega); rw [hll] at hap hO4; have HA := hid hap; have hm4 : (l0 ++ [((⟨false, 0, true, [], []⟩ : SigD), Value.slice none 0 0, Value.slice none 0 0)]).map (·.1) = ls ++ [⟨false, 0, true, [], []⟩] := (by rw [List.map_append, hm3]; rfl); have hl4 : (l0 ++ [((⟨false, 0, true, [], []⟩ : SigD), Value.slice none 0 0, Value.slice none 0 0)]).length = ls.length + 1 := (by simp [hll]); have HM4 := hid hm4; have HL4 := hid hl4; have HO4 := hid hO4; have HB4 := hid (hb.trans hb4); clear hap hO4 hb4 hb ho3 hm3 hll hm4 hl4))
          clear HA HCp
          obtain ⟨L0, hL0⟩ : ∃ L0, l0 ++ [((⟨false, 0, true, [], []⟩ : SigD), Value.slice none 0 0, Value.slice none 0 0)] = L0 := ⟨_, rfl⟩
          rw [hL0] at HM4 HL4 HO4
          clear hL0
          obtain ⟨g, c9, cur9, hv9, hbg9, hh9, hnc9, hcc9⟩ := own_blk HO4.out.row (by rw [HL4.out]; omega)
          injection hv9 with e1 e2 e3
          subst e1
          clear e2 e3 hbg9 hh9 hnc9 hcc9
          have HD0 : Hid (DepAt U0 W4 g c4 ls L0) := ⟨HO4.out, HL4.out, HB4.out, [], by rw [HM4.out]; exact Knit.start ls, fun x hx => by cases hx⟩
          have HR0 : Hid (tiesS ls.length (ledBy (ls ++ [⟨false, 0, true, [], []⟩]) (is.drop 0)) (L0.map (·.1)) = R) := by
            show _ = _
            rw [HM4.out]
            exact HR.out
          have HSt : Hid (∀ (V : World) (l : List SigV), DepAt U0 V g c4 ls l → ∀ (p : Nat), p < ls.length → _) := fun V l h p hp => h.step (by omega) (fun j hj y hy => by
            obtain ⟨p', rfl, hp'⟩ := out_no (Hro.out.dts j hj y hy)
            omega) (fun j hj => (Hro.out.small j hj).2) p hp
          clear HM4 HL4 HO4 HB4 HR
          go_wp2
          go_loopw [89] (fun u wr => ∃ (i : Nat) (l : List SigV), i ≤ is.length ∧ u = .int .i64 i ∧ Hid (DepAt U0 wr g c4 ls l) ∧ Hid (tiesS ls.length (ledBy (ls ++ [⟨false, 0, true, [], []⟩]) (is.drop i)) (l.map (·.1)) = R)) (fun u _ => is.length - (RowKit.intOf u).toNat)
          case atStart => exact ⟨0, L0, Nat.zero_le _, rfl, HD0, HR0⟩
          case round =>
            obtain ⟨i, l, hi, rfl, hD, hK⟩ := hrel
            clear HD0 HR0
            by_cases hlt : i < is.length
            · obtain ⟨ib, ioff, rfl, hibl, hia⟩ := GI.out (by omega)
              have hBr := hB.out.trans (hD.out.bel.mono hB.out.size)
              have x0 := (hBr.cell (p := ⟨ib, ioff + i, none⟩) hibl).trans (hia i hlt)
              have q1 : (0 : Int) ≤ (i : Int) := by omega
              have q2 : (i : Int) < (is.length : Int) := by omega
              obtain ⟨p, hpe, hp⟩ := out_no (HTh.out is[i] (List.getElem_mem hlt))
              have hkk := hK.out
              rw [List.drop_eq_getElem_cons hlt, hpe, led_cons hp, ties_append] at hkk
              rw [hpe] at x0
              obtain ⟨b, off, rfl, hbl, ha⟩ := G.out (by omega)
              obtain ⟨sv, dv, Y, rs, _⟩ := ha p hp
              have RS := hid rs
              obtain ⟨so, sc, rfl, _⟩ := rs
              have y2 := (Y.later hbl hBr).dep
              have y3 := (Y.later hbl hBr).src
              have p1 : (0 : Int) ≤ (p : Int) := by omega
              have p2 : (p : Int) < (ls.length : Int) := by omega
              have hwp : IntKind.i64.wrap (p : Int) = (p : Int) := wrapA (by omega) (by omega)
              have Hsrc := hid (Hro.out.srcs p hp)
              have Hsm := (Hro.out.small p hp).1
              have HTie := hid (HSt.out wr l hD.out p hp)
              clear hK hpe hia ha Y hBr
              generalize ls[p] = a at *
              obtain ⟨ab, re', dep, src, dts⟩ := a
              dsimp only at *
              cases dep with
              | false =>
                have Hn : Hid (tiesS ls.length (ledBy (ls ++ [⟨false, 0, true, [], []⟩]) (is.drop (i + 1))) (tieS (l.map (·.1)) p ls.length) = R) := by
                  have h := hkk
                  rw [if_neg Bool.false_ne_true, tiesS, tiesS, show ((p : Int) + 1).toNat - 1 = p by omega] at h
                  exact h
                clear hkk RS Hsrc HSt Hro y3 HTh GI G HV hD
                go_wp2_with (go_at_call 29; refine HTie.out.mono ?_; rintro e w5 ⟨rfl, l2, hD2, hm2⟩; have HD2 := hid hD2; have HM2 := hid hm2; clear hD2 hm2)
                go_roundw
                case rel => exact ⟨i + 1, l2, by omega, by go_num, HD2, by have h := Hn; rw [← HM2.out] at h; exact h⟩
                case measure => simp [RowKit.intOf]; omega
              | true =>
                obtain ⟨T, hTq⟩ : ∃ T, tiesS ls.length src (l.map (·.1)) = T := ⟨_, rfl⟩
                have Hn : Hid (tiesS ls.length (ledBy (ls ++ [⟨false, 0, true, [], []⟩]) (is.drop (i + 1))) T = R) := by
                  have h := hkk
                  rw [if_pos rfl, hTq] at h
                  exact h
                have HTq : Hid (tiesS ls.length (src.drop 0) (l.map (·.1)) = T) := hTq
                have Hsv : Hid (∀ h ∈ src, outD ls.length h = false) := Hsrc.out rfl
                clear hkk Hsrc HTie Hro HTh GI G HV hTq
                go_wp2
                clear y2 y3 x0
                go_loopw [110] (fun u wr => ∃ (j : Nat) (l2 : List SigV), j ≤ src.length ∧ u = .int .i64 j ∧ Hid (DepAt U0 wr g c4 ls l2) ∧ Hid (tiesS ls.length (src.drop j) (l2.map (·.1)) = T)) (fun u _ => src.length - (RowKit.intOf u).toNat)
                case atStart => exact ⟨0, l, Nat.zero_le _, rfl, hD, HTq⟩
                case round =>
                  obtain ⟨j, l2, hj, rfl, hD2, hK2⟩ := hrel
                  clear HTq hD
                  by_cases hjl : j < src.length
                  · obtain ⟨os, cs, es, _, gs⟩ := RS.out
                    injection es with e1 e2 e3
                    subst e1
                    subst e3
                    clear e2
                    obtain ⟨sb, soff, rfl, hsl, hsa⟩ := gs (by omega)
                    have z1 := ((hB.out.trans (hD2.out.bel.mono hB.out.size)).cell (p := ⟨sb, soff + j, none⟩) hsl).trans (hsa j hjl)
                    obtain ⟨p2', hpe2, hp2⟩ := out_no (Hsv.out src[j] (List.getElem_mem hjl))
                    have hk2 := hK2.out
                    rw [List.drop_eq_getElem_cons hjl, hpe2, tiesS, show ((p2' : Int) + 1).toNat - 1 = p2' by omega] at hk2
                    rw [hpe2] at z1
                    have s1 : (0 : Int) ≤ (j : Int) := by omega
                    have s2 : (j : Int) < (src.length : Int) := by omega
                    have HTie := hid (HSt.out wr l2 hD2.out p2' hp2)
                    have Hk2 := hid hk2
                    clear hk2 hpe2 hK2 gs hsa Hsv RS HSt
                    go_wp2_with (go_at_call 29; refine HTie.out.mono ?_; rintro e w5 ⟨rfl, l3, hD3, hm3⟩; have HD3 := hid hD3; have HM3 := hid hm3; clear hD3 hm3)
                    go_roundw
                    case rel => exact ⟨j + 1, l3, by omega, by go_num, HD3, by have h := Hk2; rw [← HM3.out] at h; exact h⟩
                    case measure => simp [RowKit.intOf]; omega
                  · have hTe : l2.map (·.1) = T := by
                      rw [← hK2.out, List.drop_eq_nil_of_le (by omega)]
                      rfl
                    have Hn2 : Hid (tiesS ls.length (ledBy (ls ++ [⟨false, 0, true, [], []⟩]) (is.drop (i + 1))) (l2.map (·.1)) = R) := by
                      have h := Hn
                      rw [← hTe] at h
                      exact h
                    clear hK2 Hsv RS hTe Hn HSt
                    go_wp2
                    go_roundw
                    case rel => exact ⟨i + 1, l2, by omega, by go_num, hD2, Hn2⟩
                    case measure => simp [RowKit.intOf]; omega
            · have hRe : l.map (·.1) = R := by
                rw [← hK.out, List.drop_eq_nil_of_le (by omega)]
                rfl
              have HRe := hid hRe
              clear hK hRe GI G HTh HSt Hro
              go_wp2
              refine bodyPost_ret (v := .tuple #[.slice (some ⟨g, 0, none⟩) (ls.length + 1) c4, .int .i64 ((ls.length : Int) + 1), .int .i64 0]) (by simp [results, Try.results11, go_sem]) rfl ?_
              exact ⟨_, c4, l, rfl, HRe.out, hD.out.own.base hB.out.size, hB.out.trans (hD.out.bel.mono hB.out.size)⟩
end Go.Proofs.Ytlibjjmaicgemaa
