/- What it says that signals are right. -/
import Derived.Test.YtlibjjmaicgemaaAbU
namespace Go.Proofs.Ytlibjjmaicgemaa
open Go.RowKit Go.Lib Go.Shelf

theorem tie_spec (ls : List SigD) (i : Nat) (a : Bool) : ∀ (srcs : List Int) (said said' : List (List Int)), said.length = ls.length → tieD ls i a srcs said = some said' →
    said'.length = ls.length ∧ (∀ (j : Nat) (h : j < said.length) (h' : j < said'.length), said'[j] = said[j] ++ (if (j : Int) + 1 ∈ srcs then [(i : Int) + 1] else [])) ∧ srcs.Nodup ∧ (∀ s ∈ srcs, outD ls.length s = false ∧ (abH ls s = true → a = true)) ∧ (∀ (j : Nat) (h : j < said.length), (j : Int) + 1 ∈ srcs → lastIs said[j] ((i : Int) + 1) = false)
  | [], said, said', hl, h => by
    have : said = said' := Option.some.inj h
    subst this
    exact ⟨hl, (fun j _ _ => by simp), List.nodup_nil, (fun s hs => by cases hs), (fun j _ hs => by cases hs)⟩
  | h :: r, said, said', hl, ht => by
    rw [tieD] at ht
    cases ho : outD ls.length h with
    | true => rw [ho, if_pos rfl] at ht; cases ht
    | false =>
      obtain ⟨p, rfl, hp⟩ := out_no ho
      have hps : p < said.length := by omega
      rw [ho, if_neg Bool.false_ne_true, show ((p : Int) + 1).toNat - 1 = p by omega] at ht
      cases hb : (abAt ls p && !a) with
      | true => rw [hb, if_pos rfl] at ht; cases ht
      | false =>
        rw [hb, if_neg Bool.false_ne_true, row_at hps] at ht
        cases hla : lastIs said[p] ((i : Int) + 1) with
        | true => rw [hla, if_pos rfl] at ht; cases ht
        | false =>
          rw [hla, if_neg Bool.false_ne_true] at ht
          obtain ⟨h1, h2, h3, h4, h5⟩ := tie_spec ls i a r _ said' (by simpa using hl) ht
          have hnr : (p : Int) + 1 ∉ r := fun hm => by
            have := h5 p (by simpa using hps) hm
            rw [List.getElem_set_self, lastIs_snoc] at this
            simp at this
          refine ⟨h1, fun j hj hj' => ?_, List.nodup_cons.2 ⟨hnr, h3⟩, fun s hs => ?_, fun j hj hm => ?_⟩
          · rw [h2 j (by simpa using hj) hj']
            by_cases e : p = j
            · subst e
              rw [List.getElem_set_self, if_neg hnr, if_pos (List.mem_cons_self ..), List.append_nil]
            · rw [List.getElem_set_ne e]
              have : ((j : Int) + 1 ∈ ((p : Int) + 1) :: r) ↔ (j : Int) + 1 ∈ r := by
                rw [List.mem_cons]
                constructor
                · rintro (h | h)
                  · omega
                  · exact h
                · exact .inr
              by_cases hm : (j : Int) + 1 ∈ r
              · rw [if_pos hm, if_pos (this.2 hm)]
              · rw [if_neg hm, if_neg (fun x => hm (this.1 x))]
          · rcases List.mem_cons.1 hs with rfl | hs
            · refine ⟨ho, fun hab => ?_⟩
              unfold abH at hab
              rw [show ((p : Int) + 1).toNat - 1 = p by omega] at hab
              rw [hab] at hb
              cases a
              · cases hb
              · rfl
            · exact h4 s hs
          · by_cases e : p = j
            · subst e
              exact hla
            · have hm' : (j : Int) + 1 ∈ r := by
                rcases List.mem_cons.1 hm with h | h
                · omega
                · exact h
              have := h5 j (by simpa using hj) hm'
              rw [List.getElem_set_ne e] at this
              exact this
theorem tie_some (ls : List SigD) (i : Nat) (a : Bool) : ∀ (srcs : List Int) (said : List (List Int)), said.length = ls.length → srcs.Nodup → (∀ s ∈ srcs, outD ls.length s = false ∧ (abH ls s = true → a = true)) → (∀ (j : Nat) (h : j < said.length), (j : Int) + 1 ∈ srcs → lastIs said[j] ((i : Int) + 1) = false) → ∃ said', tieD ls i a srcs said = some said'
  | [], said, _, _, _, _ => ⟨said, rfl⟩
  | h :: r, said, hl, hn, hs, hla => by
    obtain ⟨ho, hab⟩ := hs h (List.mem_cons_self ..)
    obtain ⟨p, rfl, hp⟩ := out_no ho
    have hps : p < said.length := by omega
    obtain ⟨hnr, hn'⟩ := List.nodup_cons.1 hn
    have hb : (abAt ls p && !a) = false := by
      unfold abH at hab
      rw [show ((p : Int) + 1).toNat - 1 = p by omega] at hab
      cases hx : abAt ls p with
      | false => rfl
      | true => rw [hab hx]; rfl
    rw [tieD, ho, if_neg Bool.false_ne_true, show ((p : Int) + 1).toNat - 1 = p by omega, hb, if_neg Bool.false_ne_true, row_at hps, hla p hps (List.mem_cons_self ..), if_neg Bool.false_ne_true]
    refine tie_some ls i a r _ (by simpa using hl) hn' (fun s hs' => hs s (List.mem_cons_of_mem _ hs')) (fun j hj hm => ?_)
    have hjp : p ≠ j := fun e => hnr (by rw [e]; exact hm)
    rw [List.getElem_set_ne hjp]
    exact hla j (by simpa using hj) (List.mem_cons_of_mem _ hm)
/-- Is the signal at k one that says to depend on the one at j? -/
def saysD (ls : List SigD) (j k : Nat) : Bool := (ls[k]?.map (fun x => x.dep && x.src.contains ((j : Int) + 1))).getD false
/-- Who says so, among the first i. -/
def rowsUp (ls : List SigD) (i j : Nat) : List Int := ((List.range i).filter (saysD ls j)).map (fun k : Nat => (k : Int) + 1)
theorem rows_step (ls : List SigD) (i j : Nat) (hi : i < ls.length) : rowsUp ls (i + 1) j = rowsUp ls i j ++ (if ls[i].dep = true ∧ (j : Int) + 1 ∈ ls[i].src then [(i : Int) + 1] else []) := by
  unfold rowsUp
  rw [List.range_succ, List.filter_append, List.map_append]
  congr 1
  have : saysD ls j i = (ls[i].dep && ls[i].src.contains ((j : Int) + 1)) := by
    unfold saysD
    rw [List.getElem?_eq_getElem hi]
    rfl
  by_cases h : ls[i].dep = true ∧ (j : Int) + 1 ∈ ls[i].src
  · rw [if_pos h, List.filter_cons_of_pos (by rw [this, h.1]; simpa using h.2)]
    rfl
  · rw [if_neg h, List.filter_cons_of_neg (by
      rw [this]
      intro hx
      rw [Bool.and_eq_true] at hx
      exact h ⟨hx.1, by simpa using hx.2⟩)]
    rfl
theorem rows_le (ls : List SigD) (i j : Nat) : ∀ y ∈ rowsUp ls i j, 1 ≤ y ∧ y ≤ (i : Int) := fun y hy => by
  unfold rowsUp at hy
  obtain ⟨k, hk, rfl⟩ := List.mem_map.1 hy
  have := List.mem_range.1 (List.mem_filter.1 hk).1
  omega
theorem rows_last (ls : List SigD) (i j : Nat) : lastIs (rowsUp ls i j) ((i : Int) + 1) = false := by
  rcases List.eq_nil_or_concat (rowsUp ls i j) with h | ⟨q, y, h⟩
  · rw [h]; rfl
  · rw [h, List.concat_eq_append, lastIs_snoc, beq_eq_false_iff_ne]
    have := (rows_le ls i j y (by rw [h]; simp)).2
    omega
/-- What sources must be. -/
def CondAt (ls : List SigD) (x : SigD) : Prop := x.dep = true → x.src.Nodup ∧ ∀ s ∈ x.src, outD ls.length s = false ∧ (abH ls s = true → x.ab = true)
theorem from_spec (ls : List SigD) : ∀ (n i : Nat) (said said' : List (List Int)), i + n = ls.length → said.length = ls.length → (∀ (j : Nat) (h : j < said.length), said[j] = rowsUp ls i j) → saidFrom ls i (ls.drop i) said = some said' → said'.length = ls.length ∧ (∀ (j : Nat) (h : j < said'.length), said'[j] = rowsUp ls ls.length j) ∧ ∀ (k : Nat) (h : k < ls.length), i ≤ k → CondAt ls ls[k]
  | 0, i, said, said', hi, hl, hr, h => by
    rw [List.drop_eq_nil_of_le (by omega)] at h
    have : said = said' := Option.some.inj h
    subst this
    have hi' : i = ls.length := by omega
    subst hi'
    exact ⟨hl, hr, fun k hk hik => by omega⟩
  | n + 1, i, said, said', hi, hl, hr, h => by
    have hil : i < ls.length := by omega
    rw [List.drop_eq_getElem_cons hil, saidFrom] at h
    cases hd : ls[i].dep with
    | false =>
      rw [hd, if_neg Bool.false_ne_true] at h
      obtain ⟨h1, h2, h3⟩ := from_spec ls n (i + 1) said said' (by omega) hl (fun j hj => by
        rw [rows_step ls i j hil, hr j hj, if_neg (fun x => by rw [hd] at x; cases x.1), List.append_nil]) h
      refine ⟨h1, h2, fun k hk hik => ?_⟩
      by_cases e : k = i
      · subst e
        intro hx
        rw [hd] at hx
        cases hx
      · exact h3 k hk (by omega)
    | true =>
      rw [hd, if_pos rfl] at h
      cases ht : tieD ls i ls[i].ab ls[i].src said with
      | none => rw [ht] at h; cases h
      | some s1 =>
        rw [ht] at h
        obtain ⟨t1, t2, t3, t4, _⟩ := tie_spec ls i ls[i].ab ls[i].src said s1 hl ht
        obtain ⟨h1, h2, h3⟩ := from_spec ls n (i + 1) s1 said' (by omega) t1 (fun j hj => by
          rw [t2 j (by omega) hj, rows_step ls i j hil, hr j (by omega)]
          by_cases hm : (j : Int) + 1 ∈ ls[i].src
          · rw [if_pos hm, if_pos ⟨hd, hm⟩]
          · rw [if_neg hm, if_neg (fun x => hm x.2)]) h
        refine ⟨h1, h2, fun k hk hik => ?_⟩
        by_cases e : k = i
        · subst e
          exact fun _ => ⟨t3, t4⟩
        · exact h3 k hk (by omega)
theorem from_some (ls : List SigD) (hc : ∀ (k : Nat) (h : k < ls.length), CondAt ls ls[k]) : ∀ (n i : Nat) (said : List (List Int)), i + n = ls.length → said.length = ls.length → (∀ (j : Nat) (h : j < said.length), said[j] = rowsUp ls i j) → ∃ said', saidFrom ls i (ls.drop i) said = some said'
  | 0, i, said, hi, _, _ => ⟨said, by rw [List.drop_eq_nil_of_le (by omega)]; rfl⟩
  | n + 1, i, said, hi, hl, hr => by
    have hil : i < ls.length := by omega
    rw [List.drop_eq_getElem_cons hil, saidFrom]
    cases hd : ls[i].dep with
    | false =>
      rw [if_neg Bool.false_ne_true]
      exact from_some ls hc n (i + 1) said (by omega) hl (fun j hj => by
        rw [rows_step ls i j hil, hr j hj, if_neg (fun x => by rw [hd] at x; cases x.1), List.append_nil])
    | true =>
      rw [if_pos rfl]
      obtain ⟨c1, c2⟩ := hc i hil hd
      obtain ⟨s1, ht⟩ := tie_some ls i ls[i].ab ls[i].src said hl c1 c2 (fun j hj _ => by rw [hr j hj]; exact rows_last ls i j)
      obtain ⟨t1, t2, _, _, _⟩ := tie_spec ls i ls[i].ab ls[i].src said s1 hl ht
      rw [ht]
      exact from_some ls hc n (i + 1) s1 (by omega) t1 (fun j hj => by
        rw [t2 j (by omega) hj, rows_step ls i j hil, hr j (by omega)]
        by_cases hm : (j : Int) + 1 ∈ ls[i].src
        · rw [if_pos hm, if_pos ⟨hd, hm⟩]
        · rw [if_neg hm, if_neg (fun x => hm x.2)])
theorem said_spec {ls : List SigD} {said : List (List Int)} (h : saidD ls = some said) : said.length = ls.length ∧ (∀ (j : Nat) (h : j < said.length), said[j] = rowsUp ls ls.length j) ∧ ∀ (k : Nat) (h : k < ls.length), CondAt ls ls[k] := by
  obtain ⟨h1, h2, h3⟩ := from_spec ls ls.length 0 (List.replicate ls.length []) said (by omega) (by simp) (fun j hj => by rw [List.getElem_replicate]; rfl) h
  exact ⟨h1, h2, fun k hk => h3 k hk (Nat.zero_le _)⟩
theorem said_some {ls : List SigD} (hc : ∀ (k : Nat) (h : k < ls.length), CondAt ls ls[k]) : ∃ said, saidD ls = some said :=
  from_some ls hc ls.length 0 (List.replicate ls.length []) (by omega) (by simp) (fun j hj => by rw [List.getElem_replicate]; rfl)
theorem fits_iff : ∀ (ls : List SigD) (rs : List (List Int)), rs.length = ls.length → (fitsD ls rs = true ↔ ∀ (j : Nat) (h : j < ls.length) (h' : j < rs.length), fitD ls[j] rs[j] = true)
  | [], rs, _ => ⟨(fun _ j h _ => by cases h), fun _ => rfl⟩
  | s :: r, [], h => by cases h
  | s :: r, x :: rs, h => by
    rw [fitsD, Bool.and_eq_true, List.headD_cons, List.tail_cons, fits_iff r rs (by simpa using h)]
    constructor
    · rintro ⟨h1, h2⟩ j hj hj'
      match j, hj, hj' with
      | 0, _, _ => exact h1
      | j + 1, hj, hj' => exact h2 j (by simpa using hj) (by simpa using hj')
    · intro h1
      exact ⟨h1 0 (by simp) (by simp), fun j hj hj' => h1 (j + 1) (by simpa using hj) (by simpa using hj')⟩
theorem rows_pair (ls : List SigD) (i j : Nat) : (rowsUp ls i j).Pairwise (· < ·) := by
  unfold rowsUp
  rw [List.pairwise_map]
  exact (List.pairwise_lt_range.filter _).imp (fun h => by omega)
theorem fit_iff (s : SigD) (row : List Int) (hp : row.Pairwise (· < ·)) : fitD s row = true ↔ oddD s = false ∧ s.dts.Perm row := by
  unfold fitD
  rw [Bool.and_eq_true, Bool.and_eq_true, Bool.not_eq_true', decide_eq_true_eq, beq_iff_eq]
  constructor
  · rintro ⟨h1, _, h3⟩
    exact ⟨h1, (h3 ▸ sort_perm s.dts).symm⟩
  · rintro ⟨h1, h2⟩
    refine ⟨h1, h2.length_eq, ?_⟩
    have hp2 : (sortI s.dts).Perm row := (sort_perm s.dts).trans h2
    exact hp2.eq_of_pairwise (fun a b _ _ hab hba => by omega) (sort_pair s.dts) (hp.imp (fun h => by omega))
/-- Signals are right, in plain words. -/
theorem right_iff (ls : List SigD) : rightD ls = true ↔ ∀ (k : Nat) (h : k < ls.length), CondAt ls ls[k] ∧ oddD ls[k] = false ∧ ls[k].dts.Perm (rowsUp ls ls.length k) := by
  unfold rightD
  constructor
  · intro h
    cases hs : saidD ls with
    | none => rw [hs] at h; cases h
    | some said =>
      rw [hs] at h
      obtain ⟨h1, h2, h3⟩ := said_spec hs
      have hf := (fits_iff ls said h1).1 h
      intro k hk
      have := hf k hk (by omega)
      rw [h2 k (by omega)] at this
      exact ⟨h3 k hk, (fit_iff _ _ (rows_pair ls _ k)).1 this⟩
  · intro h
    obtain ⟨said, hs⟩ := said_some (fun k hk => (h k hk).1)
    obtain ⟨h1, h2, _⟩ := said_spec hs
    rw [hs]
    refine (fits_iff ls said h1).2 (fun j hj hj' => ?_)
    rw [h2 j hj']
    exact (fit_iff _ _ (rows_pair ls _ j)).2 (h j hj).2
end Go.Proofs.Ytlibjjmaicgemaa
