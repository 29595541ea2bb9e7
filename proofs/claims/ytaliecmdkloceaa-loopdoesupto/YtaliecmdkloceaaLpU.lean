/- loop: what is done keeps a loop as it may be. -/
import Derived.Test.YtaliecmdkloceaaLpS
namespace Go.Proofs.Ytaliecmdkloceaa
open Go.RowKit Go.Lib Go.Shelf

theorem against_zero {s : LpD} {w : Bool} (h : againstE s w = 0) : s.cls = false ∧ w = false ∧ totD s < 4096 := by
  unfold againstE at h
  split at h
  · cases h
  · rename_i h1
    split at h
    · cases h
    · rename_i h2
      split at h
      · cases h
      · rename_i h3
        exact ⟨by simpa using h1, by simpa using h2, by omega⟩
theorem ok_setI {s : LpD} (ho : OkD s) (i : Nat) (l : List Int) (h1 : 1 ≤ i) (h2 : i < 10) (ht : totD s + l.length ≤ 4096 + (qI s i).length) : OkD (setI s i l) := by
  obtain ⟨e1, e2, e3, e4⟩ := setI_rest s i l
  have := tot_setI s i l h1 h2 ho.len
  exact ⟨by omega, by rw [e2]; exact ho.srt, by rw [e1]; exact ho.n0, by rw [e1]; exact ho.n1, by rw [e3]; exact ho.g0, setI_len s i l ho.len⟩
theorem wrongT_lim {src : Int} (h : wrongT src = false) : 0 ≤ src ∧ src < 8 := by
  unfold wrongT at h
  rw [Bool.or_eq_false_iff] at h
  have a := of_decide_eq_false h.1
  have b := of_decide_eq_false h.2
  omega
theorem ok_task {s : LpD} (ho : OkD s) (src id : Int) : OkD (taskD s src id) := by
  unfold taskD
  split
  · rename_i h
    obtain ⟨_, hw, ht⟩ := against_zero h
    have := wrongT_lim hw
    refine ok_setI ho _ _ (by omega) (by omega) ?_
    rw [List.length_append, List.length_singleton]
    omega
  · exact ho
theorem ok_micro {s : LpD} (ho : OkD s) (id : Int) : OkD (microD s id) := by
  unfold microD
  split
  · rename_i h
    obtain ⟨_, _, ht⟩ := against_zero h
    refine ok_setI ho _ _ (by omega) (by omega) ?_
    rw [List.length_append, List.length_singleton, qI_mic]
    omega
  · exact ho
theorem sorted_ins {l : List AlD} (h : Sorted l) (x : AlD) : Sorted (l.take (cntD l x.due) ++ x :: l.drop (cntD l x.due)) := by
  have hc : ∀ (k : Nat) (hk : k < l.length), (k < cntD l x.due → l[k].due ≤ x.due) ∧ (cntD l x.due ≤ k → x.due ≤ l[k].due) := by
    -- the place is where those that are due end
    have : ∀ l : List AlD, Sorted l → ∃ i, i ≤ l.length ∧ (∀ (k : Nat) (hk : k < l.length), k < i → l[k].due ≤ x.due) ∧ ∀ (k : Nat) (hk : k < l.length), i ≤ k → x.due < l[k].due := by
      intro l
      induction l with
      | nil => exact fun _ => ⟨0, Nat.le_refl _, fun k hk => absurd hk (Nat.not_lt_zero _), fun k hk => absurd hk (Nat.not_lt_zero _)⟩
      | cons a r ih =>
        intro hs
        obtain ⟨h1, h2⟩ := List.pairwise_cons.1 hs
        obtain ⟨i, hi, p, q⟩ := ih h2
        by_cases ha : a.due ≤ x.due
        · refine ⟨i + 1, by simpa using hi, fun k hk hki => ?_, fun k hk hki => ?_⟩
          · cases k with
            | zero => exact ha
            | succ k => exact p k (by simpa using hk) (by omega)
          · cases k with
            | zero => omega
            | succ k => exact q k (by simpa using hk) (by omega)
        · refine ⟨0, Nat.zero_le _, fun k hk hki => by omega, fun k hk _ => ?_⟩
          cases k with
          | zero => show x.due < a.due; omega
          | succ k =>
            have hk' : k < r.length := by simpa using hk
            have := h1 r[k] (List.getElem_mem hk')
            show x.due < r[k].due
            omega
    obtain ⟨i, hi, p, q⟩ := this l h
    have e := cnt_eq hi p q
    intro k hk
    rw [e]
    exact ⟨fun hki => p k hk hki, fun hki => Int.le_of_lt (q k hk hki)⟩
  refine List.pairwise_append.2 ⟨h.sublist (List.take_sublist _ _), List.pairwise_cons.2 ⟨fun z hz => ?_, h.sublist (List.drop_sublist _ _)⟩, fun a ha b hb => ?_⟩
  · obtain ⟨k, hk, rfl⟩ := List.getElem_of_mem hz
    rw [List.length_drop] at hk
    rw [List.getElem_drop]
    exact (hc _ (by omega)).2 (Nat.le_add_right _ _)
  · obtain ⟨k, hk, rfl⟩ := List.getElem_of_mem ha
    rw [List.length_take] at hk
    rw [List.getElem_take]
    have h1 := (hc k (by omega)).1 (by omega)
    rcases List.mem_cons.1 hb with rfl | hb
    · exact h1
    · obtain ⟨j, hj, rfl⟩ := List.getElem_of_mem hb
      rw [List.length_drop] at hj
      rw [List.getElem_drop]
      have h2 := (hc (cntD l x.due + j) (by omega)).2 (Nat.le_add_right _ _)
      omega
theorem ok_after {s : LpD} (ho : OkD s) (ms level id : Int) : OkD (afterD s ms level id) := by
  unfold afterD
  split
  · rename_i h
    obtain ⟨_, _, ht⟩ := against_zero h
    have hg := ho.g0
    refine ⟨?_, sorted_ins ho.srt _, ho.n0, ho.n1, ?_, ho.len⟩
    · unfold insD totD tasksD at *
      dsimp only
      have hl : (s.tms.take (cntD s.tms (afterX s ms level id).due) ++ afterX s ms level id :: s.tms.drop (cntD s.tms (afterX s ms level id).due)).length = s.tms.length + 1 := by rw [List.length_append, List.length_take, List.length_cons, List.length_drop]; omega
      omega
    · unfold insD
      dsimp only
      omega
  · exact ho
theorem ok_clear {s : LpD} (ho : OkD s) (n : Int) : OkD (clearD s n) := by
  have hl : (s.tms.eraseP (isN n)).length ≤ s.tms.length := List.length_eraseP_le
  have ht := ho.tot
  refine ⟨?_, ho.srt.sublist List.eraseP_sublist, ho.n0, ho.n1, ho.g0, ho.len⟩
  unfold clearD totD tasksD at *
  dsimp only
  omega
theorem ok_adv {s : LpD} (ho : OkD s) (ms : Int) : OkD (advD s ms) := by
  unfold advD
  split
  · rename_i h
    unfold advE at h
    split at h
    · cases h
    · split at h
      · cases h
      · rename_i h2
        obtain ⟨a1, a2, a3, a4, a5, _⟩ := mvN_facts (onD s ms) ho.len (cntD s.tms (s.now + ms))
        have hn0 := ho.n0
        have hn : (onD s ms).now = s.now + ms := rfl
        refine ⟨by rw [a3]; exact ho.tot, by rw [a1]; exact ho.srt.sublist (List.drop_sublist _ _), by rw [a4, hn]; omega, by rw [a4, hn]; omega, by rw [a5]; exact ho.g0, a2⟩
  · exact ho
theorem ok_next {s : LpD} (ho : OkD s) (pick : Int) : OkD (nextD s pick).1 := by
  have ht := ho.tot
  unfold nextD
  cases hm : s.mic with
  | cons x r =>
    refine ok_setI ho 1 r (by omega) (by omega) ?_
    rw [qI_mic, hm, List.length_cons]
    omega
  | nil =>
    dsimp only
    by_cases hs : (srcs s 8).length = 0
    · rw [if_pos hs]
      exact ho
    · rw [if_neg hs]
      obtain ⟨k, hk8, hk, x, r, hq⟩ := next_src s pick (by omega)
      rw [hk, show ((k : Int)).toNat = k by omega, hq]
      refine ok_setI ho (2 + k) r (by omega) (by omega) ?_
      rw [hq, List.length_cons]
      omega
theorem ok_close {s : LpD} (ho : OkD s) : OkD (closeD s) := by
  unfold closeD
  split
  · exact ho
  · exact ⟨by show 0 ≤ 4096; omega, List.Pairwise.nil, ho.n0, ho.n1, ho.g0, rfl⟩
theorem ok_do {s : LpD} (ho : OkD s) (x : StepD) : OkD (doD s x).st := by
  unfold doD
  split
  · exact ok_task ho _ _
  split
  · exact ok_micro ho _
  split
  · exact ok_after ho _ _ _
  split
  · exact ok_clear ho _
  split
  · exact ok_adv ho _
  split
  · exact ok_next ho _
  split
  · exact ok_close ho
  · exact ho
theorem ok_new : OkD newD := ⟨by show 0 ≤ 4096; omega, List.Pairwise.nil, by show (0 : Int) ≤ 0; omega, by show (0 : Int) ≤ _; omega, by show (0 : Int) ≤ 0; omega, rfl⟩
/-- No step gives more than one timer. -/
theorem giv_do (s : LpD) (x : StepD) (ho : OkD s) : (doD s x).st.giv ≤ s.giv + 1 := by
  unfold doD
  split
  · show (taskD s _ _).giv ≤ _
    unfold taskD
    split
    · rw [(setI_rest _ _ _).2.2.1]; omega
    · omega
  split
  · show (microD s _).giv ≤ _
    unfold microD
    split
    · rw [(setI_rest _ _ _).2.2.1]; omega
    · omega
  split
  · show (afterD s _ _ _).giv ≤ _
    unfold afterD
    split
    · exact Int.le_refl _
    · omega
  split
  · show s.giv ≤ _; omega
  split
  · show (advD s _).giv ≤ _
    unfold advD
    split
    · rw [(mvN_facts (onD s _) ho.len _).2.2.2.2.1]; show s.giv ≤ _; omega
    · omega
  split
  · show (nextD s _).1.giv ≤ _
    unfold nextD
    cases hm : s.mic with
    | cons y r => dsimp only; rw [(setI_rest _ _ _).2.2.1]; omega
    | nil =>
      dsimp only
      split
      · show s.giv ≤ _; omega
      · split
        · rw [(setI_rest _ _ _).2.2.1]; omega
        · show s.giv ≤ _; omega
  split
  · show (closeD s).giv ≤ _
    unfold closeD
    split
    · omega
    · show s.giv ≤ _; omega
  · show s.giv ≤ _; omega
end Go.Proofs.Ytaliecmdkloceaa
