/- The law AbortAborts. -/
import Derived.Test.YtlibjjmaicgemaaAbLL
import Derived.Test.YtlibjjmaicgemaaAbY
namespace Go.Proofs.Ytlibjjmaicgemaa
open Go.RowKit Go.Lib Go.Shelf

theorem bl {x y z : World} (a : Below x.heap.size x y) (b : Below y.heap.size y z) : Below x.heap.size x z := a.trans (b.mono a.size)
/-- What a call that aborts answers. -/
def AbortsTo (fn : Nat) (ls : List SigD) (h re : Int) (A : List SigD) (T : List Int) (E : Int) : Prop :=
  ∀ (V : World) (v : Value), RdS V v ls → Calls Try.prog fn #[v, .int .i64 h, .int .i64 re] V fun e w' => ∃ o c o2 c2, e = .returned (.tuple #[.slice o A.length c, .slice o2 T.length c2, .int .i64 E]) ∧ RdS w' (.slice o A.length c) A ∧ RdI w' (.slice o2 T.length c2) T ∧ Below V.heap.size V w'
def OfTo (fn : Nat) (ls : List SigD) (h : Int) (b : Bool) (r E : Int) : Prop :=
  ∀ (V : World) (v : Value), RdS V v ls → Calls Try.prog fn #[v, .int .i64 h] V fun e w' => e = .returned (.tuple #[.bool b, .int .i64 r, .int .i64 E]) ∧ Below V.heap.size V w'
set_option maxRecDepth 100000 in
set_option maxHeartbeats 8000000 in
theorem aborts_walk (v : Value) (ls : List SigD) (h re : Int) (w : World) (hv : RdS w v ls) (hl : ls.length ≤ 1099511627776) (hs : SmallS ls) (A : List SigD) (T : List Int) (E : Int) (b : Bool) (r E2 : Int)
    (hP : AbortsTo 16 ls h re A T E) (hR : AbortsTo 17 ls h re A T E) (hPo : OfTo 18 ls h b r E2) (hRo : OfTo 19 ls h b r E2)
    (hAl : A.length ≤ 1099511627776) (hAs : SmallS A) (hTl : T.length ≤ 1099511627776) :
    Calls Try.prog 4 #[v, .int .i64 h, .int .i64 re] w fun e w' => e = .returned (.bool true) ∧ Below w.heap.size w w' := by
  have hC := copyR_any v ls w hv hl hs
  have HV := hid hv
  have HP := hid hP
  have HR := hid hR
  have HPo := hid hPo
  have HRo := hid hRo
  have HAs := hid hAs
  have HSm := hid hs
  have eT : (T == T) = true := by simp
  obtain ⟨o, c, rfl, _, _⟩ := hv
  clear hP hR hPo hRo hAs hs
  go_enter Try.func4, Try.ntmps4
  go_upto_region 2 with (go_at_call 7; refine hC.mono ?_; rintro e w1 ⟨o1, c1, l1, rfl, hm1, ho1, hb⟩; have HB1 := hid hb; have hg := ho1.read; rw [hm1] at hg; have HG := hid hg; clear hb hm1 ho1 hg)
  clear hC
  go_upto_region 3 with (go_at_call 16; refine (HP.out w1 _ HG.out).mono ?_; rintro e w2 ⟨o2, c2, o3, c3, rfl, hra, hrt, hb⟩; have H12 := hid hb; have HA := hid hra; have HT := hid hrt; clear hb hra hrt)
  go_upto_region 4 with (go_at_call 17; refine (HR.out w2 _ (HV.out.later (bl HB1.out H12.out))).mono ?_; rintro e w3 ⟨o4, c4, o5, c5, rfl, hra, hrt, hb⟩; have H23 := hid hb; have HA2 := hid hra; have HT2 := hid hrt; clear hb hra hrt)
  go_upto_region 5 with (go_at_call 18; refine (HPo.out w3 _ (HG.out.later (bl H12.out H23.out))).mono ?_; rintro e w4 ⟨rfl, hb⟩; have H34 := hid hb; clear hb)
  go_upto_region 6 with (go_at_call 19; refine (HRo.out w4 _ (HV.out.later (bl (bl HB1.out H12.out) (bl H23.out H34.out)))).mono ?_; rintro e w5 ⟨rfl, hb⟩; have H45 := hid hb; clear hb)
  clear HP HR HPo HRo
  have H15 := hid (bl (bl H12.out H23.out) (bl H34.out H45.out))
  go_wp2_with (first
    | (go_at_call 13; refine (sameS_eq _ _ ls w8 (HG.out.later (bl H15.out H58.out)) (HV.out.later (bl HB1.out (bl H15.out H58.out))) hl HSm.out).mono ?_; rintro e w9 ⟨rfl, hb⟩; have H59 := hid (bl H58.out hb); clear hb)
    | (go_at_call 20; refine (ints3_any _ _ T T w7 (HT.out.later (bl (bl H23.out (bl H34.out H45.out)) H57.out)) (HT2.out.later (bl (bl H34.out H45.out) H57.out)) hTl).mono ?_; rintro e w8 ⟨rfl, hb⟩; rw [eT]; have H58 := hid (bl H57.out hb); clear hb)
    | (go_at_call 13; refine (sameS_eq _ _ A w6 (HA.out.later (bl (bl H23.out (bl H34.out H45.out)) H56.out)) (HA2.out.later (bl (bl H34.out H45.out) H56.out)) hAl HAs.out).mono ?_; rintro e w7 ⟨rfl, hb⟩; have H57 := hid (bl H56.out hb); clear hb)
    | (go_at_call 12; refine (livesA_any w5).mono ?_; rintro e w6 ⟨rfl, hb⟩; have H56 := hid hb; clear hb))
  go_ret
  exact ⟨rfl, bl HB1.out (bl H15.out H59.out)⟩
theorem abortAborts_law (v : Value) (ls : List SigD) (h re : Int) (w : World) (hv : RdS w v ls) (hl : ls.length ≤ 1099511627776) (hs : SmallS ls) :
    Calls Try.prog 4 #[v, .int .i64 h, .int .i64 re] w fun e w' => e = .returned (.bool true) ∧ Below w.heap.size w w' := by
  have sn : SmallS [] := fun s hx => by cases hx
  by_cases hk : knownE ls h = 0
  · obtain ⟨hr, hl2, ho⟩ := known_parts hk
    obtain ⟨m, rfl, hm⟩ := out_no ho
    have hPo : OfTo 18 ls ((m : Int) + 1) ls[m].ab ls[m].re 0 := fun V v hV => ofS_ok v ls m V hV hl hs hm hk
    have hRo : OfTo 19 ls ((m : Int) + 1) ls[m].ab ls[m].re 0 := fun V v hV => OfR_ok v ls m V hV hl hs hm hk
    cases hd : ls[m].dep with
    | true =>
      refine aborts_walk v ls _ re w hv hl hs [] [] 15 _ _ 0 (fun V v hV => ?_) (fun V v hV => ?_) hPo hRo (by simp) sn (by simp)
      · refine (abortS_dep v ls m re V hV hl hs hm hk hd).mono ?_
        rintro e w' ⟨rfl, hb⟩
        exact ⟨none, 0, none, 0, rfl, RdS.nil _, RdI.nil _, hb⟩
      · refine (AbortR_dep v ls m re V hV hl hs hm hk hd).mono ?_
        rintro e w' ⟨rfl, hb⟩
        exact ⟨none, 0, none, 0, rfl, RdS.nil _, RdI.nil _, hb⟩
    | false =>
      cases ha : ls[m].ab with
      | true =>
        refine aborts_walk v ls _ re w hv hl hs ls [] 0 _ _ 0 (fun V v hV => ?_) (fun V v hV => ?_) hPo hRo hl hs (by simp)
        · refine (abortS_was v ls m re V hV hl2 hs hm hk hd ha).mono ?_
          rintro e w' ⟨o, c, l, rfl, hm2, hO, hb⟩
          have h := hO.read
          rw [hm2] at h
          exact ⟨o, c, none, 0, rfl, h, RdI.nil _, hb⟩
        · refine (AbortR_was v ls m re V hV hl hs hm hk hd ha).mono ?_
          rintro e w' ⟨o, c, l, rfl, hm2, hO, hb⟩
          have h := hO.read
          rw [hm2] at h
          exact ⟨o, c, none, 0, rfl, h, RdI.nil _, hb⟩
      | false =>
        have hA := aborted_ok hr hl2 hm hd ha (reasonD re) (reason_ne re)
        have hlen : (hitAll (reasonD re) (((m : Int) + 1) :: ls[m].dts) ls []).1.length = ls.length := hA.len
        refine aborts_walk v ls _ re w hv hl hs _ _ 0 _ _ 0 (fun V v hV => ?_) (fun V v hV => ?_) hPo hRo (by rw [hlen]; exact hl) (right_small hA.right (by rw [hlen]; exact hl2)) hA.short
        · refine (abortS_ok v ls m re V hV hl2 hs hm hk hd ha ((right_ok hr hl2).dts m hm) ((right_ok hr hl2).small m hm).2).mono ?_
          rintro e w' ⟨o, c, l, o2, c2, rfl, hm2, hO, hT, hb⟩
          have h := hO.read
          rw [hm2] at h
          exact ⟨o, c, o2, c2, by rw [hlen], by rw [hlen]; exact h, own_rdI hT, hb⟩
        · refine (AbortR_ok v ls m re V hV hl2 hs hm hk hd ha ((right_ok hr hl2).dts m hm) ((right_ok hr hl2).small m hm).2).mono ?_
          rintro e w' ⟨o, c, l, o2, c2, rfl, hm2, hO, hT, hb⟩
          have h := hO.read
          rw [hm2] at h
          exact ⟨o, c, o2, c2, by rw [hlen], by rw [hlen]; exact h, own_rdI hT, hb⟩
  · have hne : (knownE ls h != 0) = true := by simp [hk]
    refine aborts_walk v ls _ re w hv hl hs [] [] (knownE ls h) _ _ (knownE ls h) (fun V v hV => ?_) (fun V v hV => ?_) (fun V v hV => ofS_err v ls h V hV hl hs hne) (fun V v hV => OfR_err v ls h V hV hl hs hne) (by simp) sn (by simp)
    · refine (abortS_err v ls h re V hV hl hs hne).mono ?_
      rintro e w' ⟨rfl, hb⟩
      exact ⟨none, 0, none, 0, rfl, RdS.nil _, RdI.nil _, hb⟩
    · refine (AbortR_err v ls h re V hV hl hs hne).mono ?_
      rintro e w' ⟨rfl, hb⟩
      exact ⟨none, 0, none, 0, rfl, RdS.nil _, RdI.nil _, hb⟩
end Go.Proofs.Ytlibjjmaicgemaa
