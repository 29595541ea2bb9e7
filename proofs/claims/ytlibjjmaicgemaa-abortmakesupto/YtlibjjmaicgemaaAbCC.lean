/- Any and Abort, in plain words: for AbortAny. -/
import Derived.Test.YtlibjjmaicgemaaAbBB
import Derived.Test.YtlibjjmaicgemaaAbY
namespace Go.Proofs.Ytlibjjmaicgemaa
open Go.RowKit Go.Lib Go.Shelf

theorem full_parts {ls : List SigD} (h : fullE ls = 0) : rightD ls = true ∧ ls.length < 1024 := by
  unfold fullE checkS at h
  by_cases h1 : 1024 < ls.length
  · simp [h1] at h
  · cases h2 : rightD ls with
    | false => simp [h1, h2] at h
    | true =>
      simp [h1, h2] at h
      exact ⟨rfl, by omega⟩
structure AnyD (ls : List SigD) (is : List Int) (A : List SigD) : Prop where
  len : A.length = ls.length + 1
  right : rightD A = true
  last : ∀ h : ls.length < A.length, A[ls.length].ab = is.any (abH ls)
  old : ∀ (j : Nat) (_ : j < ls.length) (h' : j < A.length), A[j].ab = ls[j].ab
  how : is.any (abH ls) = true ∨ ∀ h : ls.length < A.length, A[ls.length].dep = true ∧ ∀ (m : Nat) (_ : m < ls.length) (hm' : m < A.length), A[m].dep = false → ((m : Int) + 1 ∈ A[ls.length].src ↔ ∃ (p : Nat) (hp : p < A.length), p < ls.length ∧ (p : Int) + 1 ∈ is ∧ (p = m ∨ (A[p].dep = true ∧ (m : Int) + 1 ∈ A[p].src)))
theorem any_ab {ls : List SigD} {is : List Int} (hr : rightD ls = true) (re : Int) (hre : re ≠ 0) (ha : is.any (abH ls) = true) : AnyD ls is (ls ++ [⟨true, re, false, [], []⟩]) := by
  have hri := (right_iff ls).1 hr
  have hlen : (ls ++ [(⟨true, re, false, [], []⟩ : SigD)]).length = ls.length + 1 := by simp
  have hold : ∀ (j : Nat) (h : j < ls.length) (h' : j < (ls ++ [(⟨true, re, false, [], []⟩ : SigD)]).length), (ls ++ [(⟨true, re, false, [], []⟩ : SigD)])[j] = ls[j] := fun j h h' => List.getElem_append_left h
  have hlast : ∀ h : ls.length < (ls ++ [(⟨true, re, false, [], []⟩ : SigD)]).length, (ls ++ [(⟨true, re, false, [], []⟩ : SigD)])[ls.length] = ⟨true, re, false, [], []⟩ := fun h => by
    rw [List.getElem_append_right (Nat.le_refl _)]
    simp
  generalize ls ++ [(⟨true, re, false, [], []⟩ : SigD)] = A at *
  have hnA : ls.length < A.length := by omega
  have hrows : ∀ k, rowsUp A ls.length k = rowsUp ls ls.length k := fun k => by
    unfold rowsUp
    congr 1
    refine List.filter_congr (fun i hi => ?_)
    have hi' := List.mem_range.1 hi
    unfold saysD
    rw [List.getElem?_eq_getElem hi', List.getElem?_eq_getElem (by omega), hold i hi' (by omega)]
  refine ⟨hlen, (right_iff A).2 (fun k hk => ?_), fun h => by rw [hlast h, ha], fun j h h' => by rw [hold j h h'], .inl ha⟩
  by_cases hkn : k < ls.length
  · obtain ⟨c, o, pm⟩ := hri k hkn
    rw [hold k hkn hk]
    refine ⟨fun hdk => ?_, o, ?_⟩
    · obtain ⟨c1, c2⟩ := c hdk
      refine ⟨c1, fun s hs => ?_⟩
      obtain ⟨d1, d2⟩ := c2 s hs
      obtain ⟨p, rfl, hp⟩ := out_no d1
      refine ⟨by rw [hlen]; exact out_mono d1, fun hx => d2 ?_⟩
      rw [abH_at (by omega), hold p hp (by omega)] at hx
      rw [abH_at hp]
      exact hx
    · rw [hlen, rows_step A ls.length k hnA, hrows, hlast hnA, if_neg (fun x => by cases x.1), List.append_nil]
      exact pm
  · obtain rfl : k = ls.length := by omega
    rw [hlast hk]
    refine ⟨fun hx => by (cases hx), ?_, ?_⟩
    · unfold oddD
      have : (re != 0) = true := by simpa using hre
      rw [this]
      rfl
    · have : rowsUp A A.length ls.length = [] := List.eq_nil_iff_forall_not_mem.2 (fun y hy => by
        obtain ⟨i, hi, _, _, hdi, hsi⟩ := (rows_mem (Nat.le_refl _)).1 hy
        by_cases hin : i < ls.length
        · rw [hold i hin hi] at hdi hsi
          obtain ⟨p, e, hp⟩ := out_no (((hri i hin).1 hdi).2 _ hsi).1
          omega
        · obtain rfl : i = ls.length := by omega
          rw [hlast hi] at hdi
          cases hdi)
      rw [this]
theorem any_dep {ls : List SigD} {is : List Int} (hr : rightD ls = true) (hl : ls.length ≤ 1024) (hth : ∀ h ∈ is, outD ls.length h = false) (ha : is.any (abH ls) = false) : AnyD ls is (anyL ls is) := by
  have hri := (right_iff ls).1 hr
  have hok := right_ok hr hl
  have hna : ∀ (p : Nat) (hp : p < ls.length), (p : Int) + 1 ∈ is → ls[p].ab = false := fun p hp hx => by
    have := (List.any_eq_false.1 ha) _ hx
    rw [abH_at hp] at this
    simpa using this
  have hSm := led_mem is hth
  have hSrc : ∀ x ∈ ledBy (ls ++ [⟨false, 0, true, [], []⟩]) is, ∃ (p : Nat) (hp : p < ls.length), x = (p : Int) + 1 ∧ ls[p].dep = false ∧ ls[p].ab = false := fun x hx => by
    obtain ⟨p, hp, hpi, h | h⟩ := (hSm x).1 hx
    · obtain ⟨c1, c2⟩ := (hri p hp).1 h.1
      obtain ⟨d1, d2⟩ := c2 x h.2
      obtain ⟨q, rfl, hq⟩ := out_no d1
      have hqr : (p : Int) + 1 ∈ ls[q].dts := (hri q hq).2.2.mem_iff.2 ((rows_mem (Nat.le_refl _)).2 ⟨p, hp, hp, rfl, h.1, h.2⟩)
      refine ⟨q, hq, rfl, ?_, ?_⟩
      · cases hdq : ls[q].dep with
        | false => rfl
        | true =>
          rw [(odd_parts (hri q hq).2.1).2.1 hdq] at hqr
          cases hqr
      · cases haq : ls[q].ab with
        | false => rfl
        | true =>
          have := d2 (by rw [abH_at hq]; exact haq)
          rw [hna p hp hpi] at this
          cases this
    · exact ⟨p, hp, h.2, h.1, hna p hp hpi⟩
  obtain ⟨S, hK, hm⟩ := Knit.ties (fun j hj y hy => by
    obtain ⟨p, rfl, hp⟩ := out_no (hok.dts j hj y hy)
    omega) (ledBy (ls ++ [⟨false, 0, true, [], []⟩]) is) [] _ (Knit.start ls) (fun h hh => by
    obtain ⟨p, hp, rfl, _⟩ := hSrc h hh
    unfold outD
    rw [decide_eq_false (by omega), decide_eq_false (by omega)]
    rfl)
  have hm' : ∀ x, x ∈ S ↔ x ∈ ledBy (ls ++ [⟨false, 0, true, [], []⟩]) is := fun x => by rw [hm]; simp
  change Knit ls S (anyL ls is) at hK
  generalize anyL ls is = A at *
  have hlen := hK.len
  refine ⟨hlen, right_knit hr hl hK (fun x hx => hSrc x ((hm' x).1 hx)), fun h => by rw [hK.last h, ha], fun j h h' => by rw [hK.get j h h'], .inr (fun h => ⟨by rw [hK.last h], fun m hm0 hm1 hdm => ?_⟩)⟩
  rw [hK.get m hm0 hm1] at hdm
  rw [hK.last h]
  show (m : Int) + 1 ∈ S ↔ _
  rw [hm', hSm]
  constructor
  · rintro ⟨p, hp, hpi, h1 | h1⟩
    · refine ⟨p, by omega, hp, hpi, .inr ?_⟩
      rw [hK.get p hp (by omega)]
      exact h1
    · exact ⟨p, by omega, hp, hpi, .inl (by have := h1.2; omega)⟩
  · rintro ⟨p, hpA, hp, hpi, rfl | h1⟩
    · exact ⟨p, hp, hpi, .inr ⟨hdm, rfl⟩⟩
    · rw [hK.get p hp hpA] at h1
      exact ⟨p, hp, hpi, .inl h1⟩
/-- What Abort does to signals: just that. -/
def AbortX (A B : List SigD) (m : Nat) (T : List Int) : Prop :=
  ∃ hm : m < A.length, (A[m].ab = true ∧ B = A ∧ T = []) ∨ (A[m].ab = false ∧ ∃ re : Int, T = (((m : Int) + 1) :: A[m].dts).filter (fun h => !abH A h) ∧ ∀ (j : Nat) (hj : j < A.length) (hj' : j < B.length), B[j] = if (j : Int) + 1 ∈ ((m : Int) + 1) :: A[m].dts ∧ A[j].ab = false then hitD re A[j] else A[j])
theorem abort_two (v : Value) (ls : List SigD) (m : Nat) (re : Int) (w : World) (hv : RdS w v ls) (hs : SmallS ls) (hm : m < ls.length) (hk : knownE ls ((m : Int) + 1) = 0) (hd : ls[m].dep = false) :
    Calls Try.prog 16 #[v, .int .i64 ((m : Int) + 1), .int .i64 re] w fun e w' => ∃ o c o2 c2 A T, e = .returned (.tuple #[.slice o ls.length c, .slice o2 T.length c2, .int .i64 0]) ∧ RdS w' (.slice o ls.length c) A ∧ RdI w' (.slice o2 T.length c2) T ∧ AbortedD ls A m T ∧ AbortX ls A m T ∧ Below w.heap.size w w' := by
  obtain ⟨hr, hl, _⟩ := known_parts hk
  cases ha : ls[m].ab with
  | true =>
    refine (abortS_was v ls m re w hv hl hs hm hk hd ha).mono ?_
    rintro e w' ⟨o, c, l, rfl, hm2, hO, hb⟩
    refine ⟨o, c, none, 0, ls, [], rfl, ?_, RdI.nil _, aborted_was hr hm hd ha, ⟨hm, .inl ⟨ha, rfl, rfl⟩⟩, hb⟩
    have h := hO.read
    rw [hm2] at h
    exact h
  | false =>
    refine (abortS_ok v ls m re w hv hl hs hm hk hd ha ((right_ok hr hl).dts m hm) ((right_ok hr hl).small m hm).2).mono ?_
    rintro e w' ⟨o, c, l, o2, c2, rfl, hm2, hO, hT, hb⟩
    have hsp := hit_spec (reasonD re) (((m : Int) + 1) :: ls[m].dts) ls [] (hits_nodup hr hm hd) (fun h hh => by
      rcases List.mem_cons.1 hh with rfl | hh
      · unfold outD
        rw [decide_eq_false (by omega), decide_eq_false (by omega)]
        rfl
      · exact (right_ok hr hl).dts m hm h hh)
    refine ⟨o, c, o2, c2, _, _, rfl, ?_, own_rdI hT, aborted_ok hr hl hm hd ha (reasonD re) (reason_ne re), ⟨hm, .inr ⟨ha, reasonD re, by rw [hsp.1, List.nil_append], hsp.2⟩⟩, hb⟩
    have h := hO.read
    rw [hm2] at h
    exact h
theorem any_then {ls A B : List SigD} {is T : List Int} {m : Nat} (hA : AnyD ls is A) (hth : ∀ h ∈ is, outD ls.length h = false) (hm : m < A.length) (hd : A[m].dep = false) (hB : AbortedD A B m T) (hX : AbortX A B m T) (hn : ls.length < A.length) (hnB : ls.length < B.length) (hmB : m < B.length) :
    B[ls.length].ab = is.any (abH B) ∧ (A[ls.length].ab = true ∨ B[ls.length].ab = false ∨ (B[ls.length].re = B[m].re ∧ 1 < T.length ∧ T[0]? = some ((m : Int) + 1))) := by
  have hlB := hB.len
  have hlA := hA.len
  rcases hA.how with ha | hw
  · have hnA : A[ls.length].ab = true := by rw [hA.last hn, ha]
    refine ⟨?_, .inl hnA⟩
    rw [(hB.kept _ hn hnB hnA).1]
    obtain ⟨x, hx, hab⟩ := List.any_eq_true.1 ha
    obtain ⟨p, rfl, hp⟩ := out_no (hth x hx)
    refine (List.any_eq_true.2 ⟨_, hx, ?_⟩).symm
    rw [abH_at hp] at hab
    rw [abH_at (by omega)]
    exact (hB.kept p (by omega) (by omega) (by rw [hA.old p hp]; exact hab)).1
  · obtain ⟨hdn, hiff⟩ := hw hn
    cases ha : is.any (abH ls) with
    | true =>
      have hnA : A[ls.length].ab = true := by rw [hA.last hn, ha]
      refine ⟨?_, .inl hnA⟩
      rw [(hB.kept _ hn hnB hnA).1]
      obtain ⟨x, hx, hab⟩ := List.any_eq_true.1 ha
      obtain ⟨p, rfl, hp⟩ := out_no (hth x hx)
      refine (List.any_eq_true.2 ⟨_, hx, ?_⟩).symm
      rw [abH_at hp] at hab
      rw [abH_at (by omega)]
      exact (hB.kept p (by omega) (by omega) (by rw [hA.old p hp]; exact hab)).1
    | false =>
      have hnf : A[ls.length].ab = false := by rw [hA.last hn, ha]
      have hna : ∀ (p : Nat) (hp : p < ls.length) (hp' : p < A.length), (p : Int) + 1 ∈ is → A[p].ab = false := fun p hp hp' hx => by
        have := (List.any_eq_false.1 ha) _ hx
        rw [abH_at hp] at this
        rw [hA.old p hp]
        simpa using this
      obtain ⟨_, ⟨_, rfl, rfl⟩ | ⟨hmf, re, hT, hg⟩⟩ := hX
      · refine ⟨?_, .inr (.inl hnf)⟩
        rw [hnf]
        refine (List.any_eq_false.2 (fun x hx => ?_)).symm
        obtain ⟨p, rfl, hp⟩ := out_no (hth x hx)
        rw [abH_at (by omega), hna p hp (by omega) hx]
        exact Bool.false_ne_true
      · have hmn : m ≠ ls.length := fun e => by
          subst e
          rw [hdn] at hd
          cases hd
        have hri := (right_iff A).1 hA.right
        have hdt : ∀ (p : Nat) (hp : p < A.length), (p : Int) + 1 ∈ A[m].dts ↔ (A[p].dep = true ∧ (m : Int) + 1 ∈ A[p].src) := fun p hp => by
          rw [(hri m hm).2.2.mem_iff, rows_mem (Nat.le_refl _)]
          constructor
          · rintro ⟨k, hk, _, e, h1, h2⟩
            have : k = p := by omega
            subst this
            exact ⟨h1, h2⟩
          · rintro ⟨h1, h2⟩
            exact ⟨p, hp, hp, rfl, h1, h2⟩
        have hBab : ∀ (p : Nat) (hp : p < A.length) (hp' : p < B.length), A[p].ab = false → (B[p].ab = true ↔ (p = m ∨ (A[p].dep = true ∧ (m : Int) + 1 ∈ A[p].src))) := fun p hp hp' hpf => by
          have e1 : ((p : Int) + 1 ∈ ((m : Int) + 1) :: A[m].dts) ↔ (p = m ∨ (A[p].dep = true ∧ (m : Int) + 1 ∈ A[p].src)) := by
            rw [List.mem_cons, hdt p hp]
            constructor
            · rintro (h | h)
              · exact .inl (by omega)
              · exact .inr h
            · rintro (h | h)
              · exact .inl (by omega)
              · exact .inr h
          rw [hg p hp hp', ← e1]
          by_cases hx : (p : Int) + 1 ∈ ((m : Int) + 1) :: A[m].dts
          · rw [if_pos ⟨hx, hpf⟩]
            exact ⟨fun _ => hx, fun _ => rfl⟩
          · rw [if_neg (fun y => hx y.1), hpf]
            exact ⟨fun h => (by cases h), fun h => absurd h hx⟩
        have hN := hBab ls.length hn hnB hnf
        refine ⟨?_, ?_⟩
        · rw [Bool.eq_iff_iff, hN, List.any_eq_true]
          constructor
          · rintro (h | h)
            · exact absurd h.symm hmn
            · obtain ⟨p, hpA, hp, hpi, h1⟩ := (hiff m (by omega) hm hd).1 h.2
              refine ⟨_, hpi, ?_⟩
              rw [abH_at (by omega)]
              exact (hBab p hpA (by omega) (hna p hp hpA hpi)).2 h1
          · rintro ⟨x, hx, hab⟩
            obtain ⟨p, rfl, hp⟩ := out_no (hth x hx)
            rw [abH_at (by omega)] at hab
            have hpA : p < A.length := by omega
            exact .inr ⟨hdn, (hiff m (by omega) hm hd).2 ⟨p, hpA, hp, hx, (hBab p hpA (by omega) (hna p hp hpA hx)).1 hab⟩⟩
        · cases hbn : B[ls.length].ab with
          | false => exact .inr (.inl rfl)
          | true =>
            right; right
            have hmem : ((ls.length : Nat) : Int) + 1 ∈ A[m].dts := by
              rcases hN.1 hbn with h | h
              · exact absurd h.symm hmn
              · exact (hdt _ hn).2 h
            refine ⟨?_, ?_, ?_⟩
            · rw [hg _ hn hnB, if_pos ⟨List.mem_cons_of_mem _ hmem, hnf⟩, hg m hm hmB, if_pos ⟨List.mem_cons_self .., hmf⟩]
              rfl
            · rw [hT, List.filter_cons_of_pos (by rw [abH_at hm, hmf]; rfl), List.length_cons]
              have : ((ls.length : Nat) : Int) + 1 ∈ A[m].dts.filter (fun h => !abH A h) := List.mem_filter.2 ⟨hmem, by rw [abH_at hn, hnf]; rfl⟩
              have := List.length_pos_of_mem this
              omega
            · rw [hT, List.filter_cons_of_pos (by rw [abH_at hm, hmf]; rfl)]
              rfl
theorem any_parts (v iv : Value) (ls : List SigD) (is : List Int) (hl : ls.length ≤ 1099511627776) (hil : is.length ≤ 1099511627776) (hs : SmallS ls) :
    (∃ E : Int, (E != 0) = true ∧ ∀ V, RdS V v ls → RdI V iv is → Calls Try.prog 10 #[v, iv] V fun e w' => e = .returned (.tuple #[.slice none 0 0, .int .i64 0, .int .i64 E]) ∧ Below V.heap.size V w') ∨
    (fullE ls = 0 ∧ is.length ≤ 1024 ∧ ∀ h ∈ is, outD ls.length h = false) := by
  by_cases hk : anyE ls is = 0
  · right
    unfold anyE at hk
    by_cases h1 : fullE ls = 0
    · simp only [h1, beq_self_eq_true, if_true] at hk
      by_cases h2 : 1024 < is.length
      · rw [if_pos h2] at hk
        cases hk
      · rw [if_neg h2] at hk
        by_cases h3 : is.any (outD ls.length) = true
        · rw [if_pos h3] at hk
          cases hk
        · refine ⟨h1, by omega, fun h hh => ?_⟩
          have h3' : is.any (outD ls.length) = false := by simpa using h3
          have := (List.any_eq_false.1 h3') h hh
          simpa using this
    · have : (fullE ls == 0) = false := by simpa using h1
      rw [this, if_neg Bool.false_ne_true] at hk
      exact absurd hk h1
  · have hne : (anyE ls is != 0) = true := by simp [hk]
    exact .inl ⟨anyE ls is, hne, fun V hV hI => anyS_err v iv ls is V hV hI hl hil hs hne⟩
theorem any_ok (v iv : Value) (ls : List SigD) (is : List Int) (w : World) (hv : RdS w v ls) (hi : RdI w iv is) (hs : SmallS ls) (hf : fullE ls = 0) (hil : is.length ≤ 1024) (hth : ∀ h ∈ is, outD ls.length h = false) :
    Calls Try.prog 10 #[v, iv] w fun e w' => ∃ o c A, e = .returned (.tuple #[.slice o (ls.length + 1) c, .int .i64 ((ls.length : Int) + 1), .int .i64 0]) ∧ RdS w' (.slice o (ls.length + 1) c) A ∧ AnyD ls is A ∧ Below w.heap.size w w' := by
  obtain ⟨hr, hl⟩ := full_parts hf
  cases ha : is.any (abH ls) with
  | true =>
    refine (anyS_ab v iv ls is w hv hi (by omega) hs hf hil hth ha).mono ?_
    rintro e w' ⟨m, hm, o, c, l, _, hab, rfl, hm2, hO, hb⟩
    have hre : ls[m].re ≠ 0 := ((odd_parts ((right_iff ls).1 hr m hm).2.1).1).1 hab
    refine ⟨o, c, _, rfl, ?_, any_ab hr ls[m].re hre ha, hb⟩
    have h := hO.read
    rw [hm2] at h
    exact h
  | false =>
    refine (anyS_dep ties_all v iv ls is w hv hi (by omega) hs (right_ok hr (by omega)) hf hil hth ha).mono ?_
    rintro e w' ⟨o, c, l, rfl, hm2, hO, hb⟩
    refine ⟨o, c, _, rfl, ?_, any_dep hr (by omega) hth ha, hb⟩
    have h := hO.read
    rw [hm2] at h
    exact h
end Go.Proofs.Ytlibjjmaicgemaa
