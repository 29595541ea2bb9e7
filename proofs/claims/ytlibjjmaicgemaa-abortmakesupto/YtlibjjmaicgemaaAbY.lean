/- What Abort answers, in plain words: for AbortOnce. -/
import Derived.Test.YtlibjjmaicgemaaAbU
import Derived.Test.YtlibjjmaicgemaaAbW
import Derived.Test.YtlibjjmaicgemaaAbX
namespace Go.Proofs.Ytlibjjmaicgemaa
open Go.RowKit Go.Lib Go.Shelf

/-- A, told T, is what signals are behind Abort of the one at m. -/
structure AbortedD (ls A : List SigD) (m : Nat) (T : List Int) : Prop where
  len : A.length = ls.length
  right : rightD A = true
  nodup : T.Nodup
  short : T.length ≤ 1099511627776
  told : ∀ x ∈ T, ∃ p : Nat, x = (p : Int) + 1 ∧ ∃ (h : p < ls.length) (h' : p < A.length), ls[p].ab = false ∧ A[p].ab = true
  dep : ∀ hm : m < A.length, A[m].dep = false
  ab : ∀ hm : m < A.length, A[m].ab = true
  kept : ∀ (j : Nat) (h : j < ls.length) (h' : j < A.length), ls[j].ab = true → A[j].ab = true ∧ A[j].re = ls[j].re
theorem right_small {ls : List SigD} (hr : rightD ls = true) (hl : ls.length ≤ 1024) : SmallS ls := fun s hs => by
  obtain ⟨j, hj, rfl⟩ := List.getElem_of_mem hs
  have h := (right_ok hr hl).small j hj
  exact ⟨by omega, by omega⟩
theorem aborted_was {ls : List SigD} {m : Nat} (hr : rightD ls = true) (hm : m < ls.length) (hd : ls[m].dep = false) (ha : ls[m].ab = true) : AbortedD ls ls m [] :=
  ⟨rfl, hr, List.nodup_nil, Nat.zero_le _, fun _ hx => absurd hx (List.not_mem_nil), fun _ => hd, fun _ => ha, fun _ _ _ e => ⟨e, rfl⟩⟩
theorem aborted_ok {ls : List SigD} {m : Nat} (hr : rightD ls = true) (hl : ls.length ≤ 1024) (hm : m < ls.length) (hd : ls[m].dep = false) (ha : ls[m].ab = false) (re : Int) (hre : re ≠ 0) :
    AbortedD ls (hitAll re (((m : Int) + 1) :: ls[m].dts) ls []).1 m (hitAll re (((m : Int) + 1) :: ls[m].dts) ls []).2 := by
  have hnd := hits_nodup hr hm hd
  have hin : ∀ h ∈ ((m : Int) + 1) :: ls[m].dts, outD ls.length h = false := fun h hh => by
    rcases List.mem_cons.1 hh with rfl | hh
    · unfold outD; simp; omega
    · exact (right_ok hr hl).dts m hm h hh
  obtain ⟨h1, h2⟩ := hit_spec re (((m : Int) + 1) :: ls[m].dts) ls [] hnd hin
  have hlen := hit_len re (((m : Int) + 1) :: ls[m].dts) ls []
  have hrt := right_hit hr hl hm hd re hre
  generalize hitAll re (((m : Int) + 1) :: ls[m].dts) ls [] = R at *
  obtain ⟨A, T⟩ := R
  dsimp only at *
  rw [List.nil_append] at h1
  have hAm : ∀ hm' : m < A.length, A[m] = hitD re ls[m] := fun hm' => by
    rw [h2 m hm hm', if_pos ⟨List.mem_cons_self .., ha⟩]
  refine ⟨hlen, hrt, ?_, ?_, ?_, ?_, ?_, ?_⟩
  · rw [h1]; exact hnd.filter _
  · have hb : T.length ≤ (((m : Int) + 1) :: ls[m].dts).length := by rw [h1]; exact List.length_filter_le _ _
    have hs := ((right_ok hr hl).small m hm).2
    simp only [List.length_cons] at hb
    omega
  · intro x hx
    rw [h1] at hx
    obtain ⟨hx1, hx2⟩ := List.mem_filter.1 hx
    obtain ⟨p, rfl, hp⟩ := out_no (hin x hx1)
    have hpa : ls[p].ab = false := by
      rw [abH_at hp] at hx2
      simpa using hx2
    refine ⟨p, rfl, hp, by omega, hpa, ?_⟩
    rw [h2 p hp (by omega), if_pos ⟨hx1, hpa⟩]
    rfl
  · intro hm'
    rw [hAm hm']
    exact hd
  · intro hm'
    rw [hAm hm']
    rfl
  · intro j h h' e
    rw [h2 j h h', if_neg (fun q => by rw [e] at q; exact absurd q.2 (by decide))]
    exact ⟨e, rfl⟩
theorem abort_any (v : Value) (ls : List SigD) (m : Nat) (re : Int) (w : World) (hv : RdS w v ls) (hs : SmallS ls) (hm : m < ls.length) (hk : knownE ls ((m : Int) + 1) = 0) (hd : ls[m].dep = false) :
    Calls Try.prog 16 #[v, .int .i64 ((m : Int) + 1), .int .i64 re] w fun e w' => ∃ o c o2 c2 A T, e = .returned (.tuple #[.slice o ls.length c, .slice o2 T.length c2, .int .i64 0]) ∧ RdS w' (.slice o ls.length c) A ∧ RdI w' (.slice o2 T.length c2) T ∧ AbortedD ls A m T ∧ Below w.heap.size w w' := by
  obtain ⟨hr, hl, _⟩ := known_parts hk
  cases ha : ls[m].ab with
  | true =>
    refine (abortS_was v ls m re w hv hl hs hm hk hd ha).mono ?_
    rintro e w' ⟨o, c, l, rfl, hm2, hO, hb⟩
    refine ⟨o, c, none, 0, ls, [], rfl, ?_, RdI.nil _, aborted_was hr hm hd ha, hb⟩
    have h := hO.read
    rw [hm2] at h
    exact h
  | false =>
    refine (abortS_ok v ls m re w hv hl hs hm hk hd ha ((right_ok hr hl).dts m hm) ((right_ok hr hl).small m hm).2).mono ?_
    rintro e w' ⟨o, c, l, o2, c2, rfl, hm2, hO, hT, hb⟩
    refine ⟨o, c, o2, c2, _, _, rfl, ?_, own_rdI hT, aborted_ok hr hl hm hd ha (reasonD re) (reason_ne re), hb⟩
    have h := hO.read
    rw [hm2] at h
    exact h
/-- Abort refuses, or the handle is one of a signal that depends on none. -/
theorem abort_parts (v : Value) (ls : List SigD) (h re : Int) (hl : ls.length ≤ 1099511627776) (hs : SmallS ls) :
    (∃ E : Int, (E != 0) = true ∧ ∀ V, RdS V v ls → Calls Try.prog 16 #[v, .int .i64 h, .int .i64 re] V fun e w' => e = .returned (.tuple #[.slice none 0 0, .slice none 0 0, .int .i64 E]) ∧ Below V.heap.size V w') ∨
    ∃ (m : Nat) (hm : m < ls.length), h = (m : Int) + 1 ∧ knownE ls ((m : Int) + 1) = 0 ∧ ls[m].dep = false := by
  by_cases hk : knownE ls h = 0
  · obtain ⟨m, rfl, hm⟩ := out_no (known_parts hk).2.2
    cases hd : ls[m].dep with
    | true => exact .inl ⟨15, rfl, fun V hV => abortS_dep v ls m re V hV hl hs hm hk hd⟩
    | false => exact .inr ⟨m, hm, rfl, hk, hd⟩
  · have hne : (knownE ls h != 0) = true := by simp [hk]
    exact .inl ⟨knownE ls h, hne, fun V hV => abortS_err v ls h re V hV hl hs hne⟩
end Go.Proofs.Ytlibjjmaicgemaa
