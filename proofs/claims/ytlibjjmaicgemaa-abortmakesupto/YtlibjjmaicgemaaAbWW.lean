/- The law AbortMakes. -/
import Derived.Test.YtlibjjmaicgemaaAbVV
import Derived.Test.YtlibjjmaicgemaaAbCC
namespace Go.Proofs.Ytlibjjmaicgemaa
open Go.RowKit Go.Lib Go.Shelf

theorem bm {x y z : World} (a : Below x.heap.size x y) (b : Below y.heap.size y z) : Below x.heap.size x z := a.trans (b.mono a.size)
/-- What a call that makes a signal answers. -/
def NewTo (fn : Nat) (ls : List SigD) (re : Int) (A : List SigD) (h E : Int) : Prop :=
  ∀ (V : World) (v : Value), RdS V v ls → Calls Try.prog fn #[v, .int .i64 re] V fun e w' => ∃ o c, e = .returned (.tuple #[.slice o A.length c, .int .i64 h, .int .i64 E]) ∧ RdS w' (.slice o A.length c) A ∧ Below V.heap.size V w'
def AnyTo (fn : Nat) (ls : List SigD) (is : List Int) (A : List SigD) (h E : Int) : Prop :=
  ∀ (V : World) (v iv : Value), RdS V v ls → RdI V iv is → Calls Try.prog fn #[v, iv] V fun e w' => ∃ o c, e = .returned (.tuple #[.slice o A.length c, .int .i64 h, .int .i64 E]) ∧ RdS w' (.slice o A.length c) A ∧ Below V.heap.size V w'
set_option maxRecDepth 100000 in
set_option maxHeartbeats 8000000 in
theorem makes_walk (v iv : Value) (ls : List SigD) (re : Int) (is : List Int) (w : World) (hv : RdS w v ls) (hi : RdI w iv is) (hl : ls.length ≤ 1099511627776) (hs : SmallS ls) (A B : List SigD) (h E k F : Int)
    (hP : NewTo 8 ls re A h E) (hR : NewTo 9 ls re A h E) (hQ : AnyTo 10 ls is B k F) (hS : AnyTo 11 ls is B k F)
    (hAl : A.length ≤ 1099511627776) (hAs : SmallS A) (hBl : B.length ≤ 1099511627776) (hBs : SmallS B) :
    Calls Try.prog 3 #[v, .int .i64 re, iv] w fun e w' => e = .returned (.bool true) ∧ Below w.heap.size w w' := by
  have hC := copyR_any v ls w hv hl hs
  have HV := hid hv
  have HI := hid hi
  have HP := hid hP
  have HR := hid hR
  have HQ := hid hQ
  have HS := hid hS
  have HAs := hid hAs
  have HBs := hid hBs
  have HSm := hid hs
  obtain ⟨o, c, rfl, _, _⟩ := hv
  obtain ⟨io, ic, rfl, _, _⟩ := hi
  clear hP hR hQ hS hAs hBs hs
  go_enter Try.func3, Try.ntmps3
  go_upto_region 2 with (go_at_call 7; refine hC.mono ?_; rintro e w1 ⟨o1, c1, l1, rfl, hm1, ho1, hb⟩; have HB1 := hid hb; have hg := ho1.read; rw [hm1] at hg; have HG := hid hg; clear hb hm1 ho1 hg)
  clear hC
  go_upto_region 3 with (go_at_call 8; refine (HP.out w1 _ HG.out).mono ?_; rintro e w2 ⟨o2, c2, rfl, hra, hb⟩; have H12 := hid hb; have HA := hid hra; clear hb hra)
  go_upto_region 4 with (go_at_call 9; refine (HR.out w2 _ (HV.out.later (bm HB1.out H12.out))).mono ?_; rintro e w3 ⟨o4, c4, rfl, hra, hb⟩; have H23 := hid hb; have HA2 := hid hra; clear hb hra)
  have H13 := hid (bm H12.out H23.out)
  have H03 := hid (bm HB1.out H13.out)
  go_upto_region 5 with (go_at_call 10; refine (HQ.out w3 _ _ (HG.out.later H13.out) (HI.out.later H03.out)).mono ?_; rintro e w4 ⟨o5, c5, rfl, hra, hb⟩; have H34 := hid hb; have HD := hid hra; clear hb hra)
  go_upto_region 6 with (go_at_call 11; refine (HS.out w4 _ _ (HV.out.later (bm H03.out H34.out)) (HI.out.later (bm H03.out H34.out))).mono ?_; rintro e w5 ⟨o6, c6, rfl, hra, hb⟩; have H45 := hid hb; have HD2 := hid hra; clear hb hra)
  clear HP HR HQ HS
  have H35 := hid (bm H34.out H45.out)
  have H25 := hid (bm H23.out H35.out)
  have H15 := hid (bm H13.out H35.out)
  have H05 := hid (bm H03.out H35.out)
  go_wp2_with (first
    | (go_at_call 15; refine (checkR_all _ ls w10 (HV.out.later (bm H05.out H5t.out)) hl HSm.out).mono ?_; rintro e w11 ⟨rfl, hb⟩; have H5u := hid (bm H5t.out hb); clear hb)
    | (go_at_call 14; refine (check_all _ ls w9 (HV.out.later (bm H05.out H59.out)) hl HSm.out).mono ?_; rintro e w10 ⟨rfl, hb⟩; have H5t := hid (bm H59.out hb); clear hb)
    | (go_at_call 13; refine (sameS_eq _ _ ls w8 (HG.out.later (bm H15.out H58.out)) (HV.out.later (bm H05.out H58.out)) hl HSm.out).mono ?_; rintro e w9 ⟨rfl, hb⟩; have H59 := hid (bm H58.out hb); clear hb)
    | (go_at_call 13; refine (sameS_eq _ _ B w7 (HD.out.later (bm H45.out H57.out)) (HD2.out.later H57.out) hBl HBs.out).mono ?_; rintro e w8 ⟨rfl, hb⟩; have H58 := hid (bm H57.out hb); clear hb)
    | (go_at_call 13; refine (sameS_eq _ _ A w6 (HA.out.later (bm H25.out H56.out)) (HA2.out.later (bm H35.out H56.out)) hAl HAs.out).mono ?_; rintro e w7 ⟨rfl, hb⟩; have H57 := hid (bm H56.out hb); clear hb)
    | (go_at_call 12; refine (livesA_any w5).mono ?_; rintro e w6 ⟨rfl, hb⟩; have H56 := hid hb; clear hb))
  go_ret
  exact ⟨rfl, bm H05.out H5u.out⟩
theorem small_snoc {ls : List SigD} (hs : SmallS ls) (a : Bool) (r : Int) (d : Bool) : SmallS (ls ++ [⟨a, r, d, [], []⟩]) := fun s hx => by
  rcases List.mem_append.1 hx with hx | hx
  · exact hs s hx
  · rw [List.mem_singleton] at hx
    subst hx
    exact ⟨Nat.zero_le _, Nat.zero_le _⟩
theorem any_zero {ls : List SigD} {is : List Int} (hk : anyE ls is = 0) : fullE ls = 0 ∧ is.length ≤ 1024 ∧ ∀ h ∈ is, outD ls.length h = false := by
  unfold anyE at hk
  by_cases h1 : fullE ls = 0
  · simp only [h1, beq_self_eq_true, if_true] at hk
    by_cases h2 : 1024 < is.length
    · rw [if_pos h2] at hk
      cases hk
    · rw [if_neg h2] at hk
      by_cases h3 : is.any (outD ls.length) = true
      · rw [if_pos h3] at hk
        cases hk
      · refine ⟨h1, by omega, fun h hh => ?_⟩
        have h3' : is.any (outD ls.length) = false := by simpa using h3
        have := (List.any_eq_false.1 h3') h hh
        simpa using this
  · have : (fullE ls == 0) = false := by simpa using h1
    rw [this, if_neg Bool.false_ne_true] at hk
    exact absurd hk h1
theorem abortMakes_law (v : Value) (ls : List SigD) (re : Int) (iv : Value) (is : List Int) (w : World) (hv : RdS w v ls) (hl : ls.length ≤ 1099511627776) (hs : SmallS ls) (hi : RdI w iv is) (hil : is.length ≤ 1099511627776) :
    Calls Try.prog 3 #[v, .int .i64 re, iv] w fun e w' => e = .returned (.bool true) ∧ Below w.heap.size w w' := by
  have sn : SmallS [] := fun s hx => by cases hx
  obtain ⟨A, h, E, hAl, hAs, hP, hR⟩ : ∃ (A : List SigD) (h E : Int), A.length ≤ 1099511627776 ∧ SmallS A ∧ NewTo 8 ls re A h E ∧ NewTo 9 ls re A h E := by
    by_cases hf : fullE ls = 0
    · have hlt := (full_zero hf).2
      have hlen : (ls ++ [(⟨re != 0, re, false, [], []⟩ : SigD)]).length = ls.length + 1 := by simp
      refine ⟨ls ++ [⟨re != 0, re, false, [], []⟩], (ls.length : Int) + 1, 0, by rw [hlen]; omega, small_snoc hs _ _ _, fun V v hV => ?_, fun V v hV => ?_⟩
      · refine (newS_ok v ls re V hV (by omega) hs hf).mono ?_
        rintro e w' ⟨o, c, l, rfl, hm, hO, hb⟩
        have h := hO.read
        rw [hm] at h
        exact ⟨o, c, by rw [hlen], by rw [hlen]; exact h, hb⟩
      · refine (newR_ok v ls re V hV hs hf).mono ?_
        rintro e w' ⟨o, c, l, rfl, hm, hO, hb⟩
        have h := hO.read
        rw [hm] at h
        exact ⟨o, c, by rw [hlen], by rw [hlen]; exact h, hb⟩
    · have hne : (fullE ls != 0) = true := by simp [hf]
      refine ⟨[], 0, fullE ls, by simp, sn, fun V v hV => ?_, fun V v hV => ?_⟩
      · refine (newS_err v ls re V hV hl hs hne).mono ?_
        rintro e w' ⟨rfl, hb⟩
        exact ⟨none, 0, rfl, RdS.nil _, hb⟩
      · refine (newR_err v ls re V hV hl hs hne).mono ?_
        rintro e w' ⟨rfl, hb⟩
        exact ⟨none, 0, rfl, RdS.nil _, hb⟩
  obtain ⟨B, k, F, hBl, hBs, hQ, hS⟩ : ∃ (B : List SigD) (k F : Int), B.length ≤ 1099511627776 ∧ SmallS B ∧ AnyTo 10 ls is B k F ∧ AnyTo 11 ls is B k F := by
    by_cases hf : anyE ls is = 0
    · obtain ⟨hz, hil2, hth⟩ : fullE ls = 0 ∧ is.length ≤ 1024 ∧ ∀ h ∈ is, outD ls.length h = false := any_zero hf
      obtain ⟨hc, hlt⟩ := full_zero hz
      obtain ⟨hr, hlr⟩ := full_parts hz
      cases ha : is.any (abH ls) with
      | true =>
        obtain ⟨j, hj, hfi, hpj, _⟩ := first_spec (abH ls) is 0 ha
        rw [Nat.zero_add] at hfi
        obtain ⟨m, hjm, hm⟩ := out_no (hth is[j] (List.getElem_mem hj))
        have huniq : ∀ (m' : Nat), (∃ (j' : Nat) (hj' : j' < is.length), firstI (abH ls) is 0 = (j' : Int) ∧ is[j'] = (m' : Int) + 1) → m' = m := by
          rintro m' ⟨j', hj', h1, h2⟩
          have e : ((j' : Nat) : Int) = (j : Int) := h1.symm.trans hfi
          have e' : j' = j := by omega
          subst e'
          rw [hjm] at h2
          omega
        have hlen : (ls ++ [(⟨true, ls[m].re, false, [], []⟩ : SigD)]).length = ls.length + 1 := by simp
        refine ⟨ls ++ [⟨true, ls[m].re, false, [], []⟩], (ls.length : Int) + 1, 0, by rw [hlen]; omega, small_snoc hs _ _ _, fun V v iv hV hI => ?_, fun V v iv hV hI => ?_⟩
        · refine (anyS_ab v iv ls is V hV hI (by omega) hs hz hil2 hth ha).mono ?_
          rintro e w' ⟨m', hm', o, c, l, hj', _, rfl, hm2, hO, hb⟩
          have := huniq m' hj'
          subst this
          have h := hO.read
          rw [hm2] at h
          exact ⟨o, c, by rw [hlen], by rw [hlen]; exact h, hb⟩
        · refine (anyR_ab v iv ls is V hV hI hs hz hil2 hth ha).mono ?_
          rintro e w' ⟨m', hm', o, c, l, hj', _, rfl, hm2, hO, hb⟩
          have := huniq m' hj'
          subst this
          have h := hO.read
          rw [hm2] at h
          exact ⟨o, c, by rw [hlen], by rw [hlen]; exact h, hb⟩
      | false =>
        have hD := any_dep hr (by omega) hth ha
        have hlen : (anyL ls is).length = ls.length + 1 := hD.len
        refine ⟨anyL ls is, (ls.length : Int) + 1, 0, by rw [hlen]; omega, right_small hD.right (by rw [hlen]; omega), fun V v iv hV hI => ?_, fun V v iv hV hI => ?_⟩
        · refine (anyS_dep ties_all v iv ls is V hV hI (by omega) hs (right_ok hr (by omega)) hz hil2 hth ha).mono ?_
          rintro e w' ⟨o, c, l, rfl, hm2, hO, hb⟩
          have h := hO.read
          rw [hm2] at h
          exact ⟨o, c, by rw [hlen], by rw [hlen]; exact h, hb⟩
        · refine (anyR_dep v iv ls is V hV hI hs (right_ok hr (by omega)) hz hil2 hth ha).mono ?_
          rintro e w' ⟨o, c, l, rfl, hm2, hO, hb⟩
          have h := hO.read
          rw [hm2] at h
          exact ⟨o, c, by rw [hlen], by rw [hlen]; exact h, hb⟩
    · have hne : (anyE ls is != 0) = true := by simp [hf]
      refine ⟨[], 0, anyE ls is, by simp, sn, fun V v iv hV hI => ?_, fun V v iv hV hI => ?_⟩
      · refine (anyS_err v iv ls is V hV hI hl hil hs hne).mono ?_
        rintro e w' ⟨rfl, hb⟩
        exact ⟨none, 0, rfl, RdS.nil _, hb⟩
      · refine (anyR_err v iv ls is V hV hI hl hil hs hne).mono ?_
        rintro e w' ⟨rfl, hb⟩
        exact ⟨none, 0, rfl, RdS.nil _, hb⟩
  exact makes_walk v iv ls re is w hv hi hl hs A B h E k F hP hR hQ hS hAl hAs hBl hBs
end Go.Proofs.Ytlibjjmaicgemaa
