/- The law AbortAny. -/
import Derived.Test.YtbidfebnkdiabaaAbCC
import Derived.Test.YtbidfebnkdiabaaAbZ
namespace Go.Proofs.Ytbidfebnkdiabaa
open Go.RowKit Go.Lib Go.Shelf

set_option maxRecDepth 100000 in
set_option maxHeartbeats 4000000 in
theorem any_no (v iv : Value) (ls : List SigD) (is : List Int) (h re : Int) (w : World) (hv : RdS w v ls) (hi : RdI w iv is) (E : Int) (hE : (E != 0) = true)
    (hA : ∀ V, RdS V v ls → RdI V iv is → Calls Try.prog 10 #[v, iv] V fun e w' => e = .returned (.tuple #[.slice none 0 0, .int .i64 0, .int .i64 E]) ∧ Below V.heap.size V w') :
    Calls Try.prog 5 #[v, iv, .int .i64 h, .int .i64 re] w fun e w' => e = .returned (.bool true) ∧ Below w.heap.size w w' := by
  have HV := hid hv
  have HI := hid hi
  have HA := hid hA
  obtain ⟨o, c, rfl, _, _⟩ := hv
  obtain ⟨io, ic, rfl, _, _⟩ := hi
  clear hA
  go_enter Try.func5, Try.ntmps5
  go_wp2_with (first
    | (go_at_call 10; refine (HA.out w1 (HV.out.later HB1.out) (HI.out.later HB1.out)).mono ?_; rintro e w2 ⟨rfl, hb⟩; have HB2 := hid (HB1.out.trans (hb.mono HB1.out.size)); clear hb)
    | (go_at_call 12; refine (livesA_any w).mono ?_; rintro e w1 ⟨rfl, hb⟩; have HB1 := hid hb; clear hb))
  go_ret
  exact ⟨rfl, HB2.out⟩
theorem check_zero {ls : List SigD} (hr : rightD ls = true) (hl : ls.length ≤ 1024) : checkS ls = 0 := by
  unfold checkS
  rw [if_neg (by omega), if_pos hr]
set_option maxRecDepth 100000 in
set_option maxHeartbeats 4000000 in
theorem any_yes (v iv : Value) (ls : List SigD) (is : List Int) (h re : Int) (w : World) (hv : RdS w v ls) (hi : RdI w iv is) (hs : SmallS ls) (hf : fullE ls = 0) (hil : is.length ≤ 1024) (hth : ∀ h ∈ is, outD ls.length h = false) :
    Calls Try.prog 5 #[v, iv, .int .i64 h, .int .i64 re] w fun e w' => e = .returned (.bool true) ∧ Below w.heap.size w w' := by
  have HV := hid hv
  have HI := hid hi
  have HTh := hid hth
  obtain ⟨hr, hl⟩ := full_parts hf
  have HA1 : Hid (∀ V, RdS V v ls → RdI V iv is → _) := fun V hV hI => any_ok v iv ls is V hV hI hs hf hil hth
  have HOf1 : Hid (∀ (V : World) (p : Nat) (hp : p < ls.length), RdS V v ls → _) := fun V p hp hV => ofS_ok v ls p V hV (by omega) hs hp (known_at hr (by omega) hp)
  obtain ⟨o, c, rfl, _, _⟩ := hv
  obtain ⟨io, ic, rfl, _, gi⟩ := hi
  have GI := hid gi
  clear hf gi hth
  go_enter Try.func5, Try.ntmps5
  go_upto_region 6 with (first
    | (go_at_call 10; refine (HA1.out w1 (HV.out.later HB1.out) (HI.out.later HB1.out)).mono ?_; rintro e w2 ⟨oa, ca, A, rfl, hra, had, hb⟩; have HRA := hid hra; have HAD := hid had; have HB2 := hid (HB1.out.trans (hb.mono HB1.out.size)); clear hb hra had)
    | (go_at_call 12; refine (livesA_any w).mono ?_; rintro e w1 ⟨rfl, hb⟩; have HB1 := hid hb; clear hb))
  have hAl : A.length = ls.length + 1 := HAD.out.len
  have HSA := hid (right_small HAD.out.right (by omega))
  clear HA1
  go_wp2
  go_loopw [55, 12] (fun t u wr => ∃ (k : Nat) (P : Bool), k ≤ is.length ∧ t = .int .i64 k ∧ u = .bool P ∧ Hid (P = (is.take k).any (abH ls)) ∧ Hid (Below w2.heap.size w2 wr)) (fun t _ _ => is.length - (RowKit.intOf t).toNat)
  case atStart => exact ⟨0, false, Nat.zero_le _, rfl, rfl, rfl, Below.refl _ _⟩
  case round =>
    obtain ⟨k, P, k1, rfl, rfl, hP, HBr⟩ := hrel
    by_cases hlt : k < is.length
    · obtain ⟨ib, ioff, rfl, hibl, hia⟩ := GI.out (by omega)
      have xk := ((HB2.out.trans (HBr.out.mono HB2.out.size)).cell (p := ⟨ib, ioff + k, none⟩) hibl).trans (hia k hlt)
      obtain ⟨p, hxp, hp⟩ := out_no (HTh.out is[k] (List.getElem_mem hlt))
      have hn : (P || abH ls is[k]) = (is.take (k + 1)).any (abH ls) := by
        rw [hP.out, List.take_succ_eq_append_getElem hlt, List.any_append, List.any_cons, List.any_nil, Bool.or_false]
      have hp2 : p < ls.length := by omega
      rw [hxp, abH_at hp2] at hn
      have Hn := hid hn
      rw [hxp] at xk
      have q1 : (0 : Int) ≤ (k : Int) := by omega
      have q2 : (k : Int) < (is.length : Int) := by omega
      have HO1 : Hid (∀ V, RdS V (.slice o ls.length c) ls → _) := fun V hV => HOf1.out V p hp2 hV
      clear hn hxp hia
      generalize ls[p].ab = x at *
      generalize ls[p].re = y at *
      cases P <;> cases x
      all_goals
        go_wp2_with (go_at_call 18; refine (HO1.out wr (HV.out.later (HB2.out.trans (HBr.out.mono HB2.out.size)))).mono ?_; rintro e w6 ⟨rfl, hb⟩; have HB6 := hid (HBr.out.trans (hb.mono HBr.out.size)); clear hb)
        go_roundw
        case rel => exact ⟨k + 1, _, by omega, by go_num, rfl, Hn, HB6⟩
        case measure => simp [RowKit.intOf]; omega
    · obtain rfl : k = is.length := by omega
      replace hP : Hid (P = is.any (abH ls)) := by
        have h := hP.out
        rw [List.take_length] at h
        exact h
      have hnA : ls.length < A.length := by omega
      have HOx : Hid (∀ V, RdS V (.slice oa (ls.length + 1) ca) A → _) := fun V hV => ofS_ok (.slice oa (ls.length + 1) ca) A ls.length V hV (by omega) HSA.out hnA (known_at HAD.out.right (by omega) hnA)
      have hAn : A[ls.length].ab = P := by rw [HAD.out.last hnA, hP.out]
      rw [hAn] at HOx
      have HCk : Hid (∀ V, RdS V (.slice oa (ls.length + 1) ca) A → _) := fun V hV => check_all (.slice oa (ls.length + 1) ca) A V hV (by omega) HSA.out
      rw [check_zero HAD.out.right (by omega)] at HCk
      have hpt := abort_parts (.slice oa (ls.length + 1) ca) A h re (by omega) HSA.out
      have HAn := hid hAn
      generalize A[ls.length].re = ar at *
      clear hAn HOf1
      go_upto_region 16 with (first
        | (go_at_call 14; refine (HCk.out w7 (HRA.out.later HB7.out)).mono ?_; rintro e w8 ⟨rfl, hb⟩; have HB8 := hid (HB7.out.trans (hb.mono HB7.out.size)); clear hb)
        | (go_at_call 18; refine (HOx.out wr (HRA.out.later HBr.out)).mono ?_; rintro e w7 ⟨rfl, hb⟩; have HB7 := hid (HBr.out.trans (hb.mono HBr.out.size)); clear hb))
      clear HOx HCk
      rcases hpt with ⟨E, hE, hA⟩ | ⟨m, hm, rfl, hk, hd⟩
      · have HA := hid hA
        clear hA
        go_wp2_with (go_at_call 16; refine (HA.out w8 (HRA.out.later HB8.out)).mono ?_; rintro e w9 ⟨rfl, hb⟩; have HB9 := hid (HB8.out.trans (hb.mono HB8.out.size)); clear hb)
        go_ret
        exact ⟨rfl, HB2.out.trans (HB9.out.mono HB2.out.size)⟩
      · have HA : Hid (∀ V, RdS V (.slice oa (ls.length + 1) ca) A → _) := fun V hV => abort_two (.slice oa (ls.length + 1) ca) A m re V hV HSA.out hm hk hd
        rw [hAl] at HA
        have HD := hid hd
        clear hk hd
        go_upto_region 19 with (go_at_call 16; refine (HA.out w8 (HRA.out.later HB8.out)).mono ?_; rintro e w9 ⟨ob, cb, ot, ct, B, T, rfl, hrb, hrt, hbd, hbx, hb⟩; have HRB := hid hrb; have HRT := hid hrt; have HBD := hid hbd; have HBX := hid hbx; have HB9 := hid (HB2.out.trans ((HB8.out.trans (hb.mono HB8.out.size)).mono HB2.out.size)); clear hb hrb hrt hbd hbx)
        have hBl : B.length = A.length := HBD.out.len
        have HSB := hid (right_small HBD.out.right (by omega))
        have HOf2 : Hid (∀ (V : World) (p : Nat) (hp : p < B.length), RdS V (.slice ob (ls.length + 1) cb) B → _) := fun V p hp hV => ofS_ok (.slice ob (ls.length + 1) cb) B p V hV (by omega) HSB.out hp (known_at HBD.out.right (by omega) hp)
        clear HA hP HBr
        go_wp2
        go_loopw [109, 12] (fun t u wr => ∃ (k : Nat) (P : Bool), k ≤ is.length ∧ t = .int .i64 k ∧ u = .bool P ∧ Hid (P = (is.take k).any (abH B)) ∧ Hid (Below w9.heap.size w9 wr)) (fun t _ _ => is.length - (RowKit.intOf t).toNat)
        case atStart => exact ⟨0, false, Nat.zero_le _, rfl, rfl, rfl, Below.refl _ _⟩
        case round =>
          obtain ⟨k, P2, k1, rfl, rfl, hP, HBr⟩ := hrel
          by_cases hlt : k < is.length
          · obtain ⟨ib, ioff, rfl, hibl, hia⟩ := GI.out (by omega)
            have xk := ((HB9.out.trans (HBr.out.mono HB9.out.size)).cell (p := ⟨ib, ioff + k, none⟩) hibl).trans (hia k hlt)
            obtain ⟨p, hxp, hp⟩ := out_no (HTh.out is[k] (List.getElem_mem hlt))
            have hn : (P2 || abH B is[k]) = (is.take (k + 1)).any (abH B) := by
              rw [hP.out, List.take_succ_eq_append_getElem hlt, List.any_append, List.any_cons, List.any_nil, Bool.or_false]
            have hp2 : p < B.length := by omega
            rw [hxp, abH_at hp2] at hn
            have Hn := hid hn
            rw [hxp] at xk
            have q1 : (0 : Int) ≤ (k : Int) := by omega
            have q2 : (k : Int) < (is.length : Int) := by omega
            have HO1 : Hid (∀ V, RdS V (.slice ob (ls.length + 1) cb) B → _) := fun V hV => HOf2.out V p hp2 hV
            clear hn hxp hia
            generalize B[p].ab = x at *
            generalize B[p].re = y at *
            cases P2 <;> cases x
            all_goals
              go_wp2_with (go_at_call 18; refine (HO1.out wr (HRB.out.later HBr.out)).mono ?_; rintro e w6 ⟨rfl, hb⟩; have HB6 := hid (HBr.out.trans (hb.mono HBr.out.size)); clear hb)
              go_roundw
              case rel => exact ⟨k + 1, _, by omega, by go_num, rfl, Hn, HB6⟩
              case measure => simp [RowKit.intOf]; omega
          · obtain rfl : k = is.length := by omega
            replace hP : Hid (P2 = is.any (abH B)) := by
              have h := hP.out
              rw [List.take_length] at h
              exact h
            have hnB : ls.length < B.length := by omega
            have hmB : m < B.length := by omega
            obtain ⟨ht1, ht2⟩ := any_then HAD.out HTh.out hm HD.out HBD.out HBX.out hnA hnB hmB
            rw [← hP.out] at ht1
            rw [HAn.out] at ht2
            rw [ht1] at ht2
            have HOx : Hid (∀ V, RdS V (.slice ob (ls.length + 1) cb) B → _) := fun V hV => HOf2.out V ls.length hnB hV
            rw [ht1] at HOx
            have HOm : Hid (∀ V, RdS V (.slice ob (ls.length + 1) cb) B → _) := fun V hV => HOf2.out V m hmB hV
            have HCk : Hid (∀ V, RdS V (.slice ob (ls.length + 1) cb) B → _) := fun V hV => check_all (.slice ob (ls.length + 1) cb) B V hV (by omega) HSB.out
            rw [check_zero HBD.out.right (by omega)] at HCk
            generalize B[ls.length].re = r1 at *
            generalize B[m].re = r2 at *
            generalize B[m].ab = ab2 at *
            clear HOf2 ht1 HAn hP HTh
            rcases ht2 with rfl | rfl | ⟨rfl, hT1, hT0⟩
            · cases P2
              all_goals
                go_wp2_with (first
                  | (go_at_call 14; refine (HCk.out w7 (HRB.out.later HB7.out)).mono ?_; rintro e w8 ⟨rfl, hb⟩; have HB8 := hid (HB7.out.trans (hb.mono HB7.out.size)); skip; clear hb)
                  | (go_at_call 18; refine (HOm.out w6 (HRB.out.later HB6.out)).mono ?_; rintro e w7 ⟨rfl, hb⟩; have HB7 := hid (HB6.out.trans (hb.mono HB6.out.size)); clear hb)
                  | (go_at_call 18; refine (HOx.out wr (HRB.out.later HBr.out)).mono ?_; rintro e w6 ⟨rfl, hb⟩; have HB6 := hid (HBr.out.trans (hb.mono HBr.out.size)); clear hb))
                go_ret
                exact ⟨rfl, HB9.out.trans (HB8.out.mono HB9.out.size)⟩
            · cases P
              all_goals
                go_wp2_with (first
                  | (go_at_call 14; refine (HCk.out w7 (HRB.out.later HB7.out)).mono ?_; rintro e w8 ⟨rfl, hb⟩; have HB8 := hid (HB7.out.trans (hb.mono HB7.out.size)); skip; clear hb)
                  | (go_at_call 18; refine (HOm.out w6 (HRB.out.later HB6.out)).mono ?_; rintro e w7 ⟨rfl, hb⟩; have HB7 := hid (HB6.out.trans (hb.mono HB6.out.size)); clear hb)
                  | (go_at_call 18; refine (HOx.out wr (HRB.out.later HBr.out)).mono ?_; rintro e w6 ⟨rfl, hb⟩; have HB6 := hid (HBr.out.trans (hb.mono HBr.out.size)); clear hb))
                go_ret
                exact ⟨rfl, HB9.out.trans (HB8.out.mono HB9.out.size)⟩
            · obtain ⟨_, _, hsl, _, hat⟩ := HRT.out
              obtain ⟨tb, toff, rfl, htb, htc⟩ := hat (by omega)
              injection hsl with e1 e2 e3
              subst e1
              clear e2 e3
              have hz := htc 0 (by omega)
              rw [List.getElem?_eq_getElem (by omega)] at hT0
              rw [Option.some.inj hT0, Nat.add_zero] at hz
              have HZ := hid hz
              have z1 : decide ((T.length : Int) > 1) = true := decide_eq_true (by omega)
              have z2 : (0 : Int) < (T.length : Int) := by omega
              clear hz hat htc hT0
              cases P <;> cases P2
              all_goals
                go_wp2_with (first
                  | (go_at_call 14; refine (HCk.out w7 (HRB.out.later HB7.out)).mono ?_; rintro e w8 ⟨rfl, hb⟩; have HB8 := hid (HB7.out.trans (hb.mono HB7.out.size)); have z0 := (HB8.out.cell (p := ⟨tb, toff, none⟩) htb).trans HZ.out; clear hb)
                  | (go_at_call 18; refine (HOm.out w6 (HRB.out.later HB6.out)).mono ?_; rintro e w7 ⟨rfl, hb⟩; have HB7 := hid (HB6.out.trans (hb.mono HB6.out.size)); clear hb)
                  | (go_at_call 18; refine (HOx.out wr (HRB.out.later HBr.out)).mono ?_; rintro e w6 ⟨rfl, hb⟩; have HB6 := hid (HBr.out.trans (hb.mono HBr.out.size)); clear hb))
                go_ret
                exact ⟨rfl, HB9.out.trans (HB8.out.mono HB9.out.size)⟩
theorem abortAny_law (v iv : Value) (ls : List SigD) (is : List Int) (h re : Int) (w : World) (hv : RdS w v ls) (hl : ls.length ≤ 1099511627776) (hs : SmallS ls) (hi : RdI w iv is) (hil : is.length ≤ 1099511627776) :
    Calls Try.prog 5 #[v, iv, .int .i64 h, .int .i64 re] w fun e w' => e = .returned (.bool true) ∧ Below w.heap.size w w' := by
  rcases any_parts v iv ls is hl hil hs with ⟨E, hE, hA⟩ | ⟨hf, hil2, hth⟩
  · exact any_no v iv ls is h re w hv hi E hE hA
  · exact any_yes v iv ls is h re w hv hi hs hf hil2 hth
end Go.Proofs.Ytbidfebnkdiabaa
