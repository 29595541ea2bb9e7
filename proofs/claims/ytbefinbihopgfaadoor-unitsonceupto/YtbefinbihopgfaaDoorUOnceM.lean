/- Plain facts: words byte by byte; what is put together of words is cut into the same words; once is enough. -/
import Derived.Test.YtbefinbihopgfaaDoorUWJoin
import Derived.Test.YtbefinbihopgfaaDoorUFold
namespace Go.Proofs.YtbefinbihopgfaaDoor
open Go.RowKit Go.Lib

/-- Is a byte whitespace? -/
def bk (b : UInt8) : Bool := blankB b.toNat
/-- The words of bytes, behind some of one. -/
def fieldsL (cur : List UInt8) : List UInt8 → List (List UInt8)
  | [] => if cur = [] then [] else [cur]
  | b :: t => if bk b then (if cur = [] then fieldsL [] t else cur :: fieldsL [] t) else fieldsL (cur ++ [b]) t

theorem fieldsL_words : ∀ (t cur : List UInt8), (∀ b ∈ cur, bk b = false) → ∀ x ∈ fieldsL cur t, x ≠ [] ∧ ∀ b ∈ x, bk b = false
  | [], cur, hc, x, hx => by
    unfold fieldsL at hx
    split at hx
    · simp at hx
    · rename_i h
      rw [List.mem_singleton.1 hx]
      exact ⟨h, hc⟩
  | b :: t, cur, hc, x, hx => by
    unfold fieldsL at hx
    by_cases hb : bk b = true
    · rw [if_pos hb] at hx
      split at hx
      · exact fieldsL_words t [] (by simp) x hx
      · rename_i h
        rcases List.mem_cons.1 hx with rfl | hx
        · exact ⟨h, hc⟩
        · exact fieldsL_words t [] (by simp) x hx
    · rw [if_neg hb] at hx
      refine fieldsL_words t (cur ++ [b]) (fun y hy => ?_) x hx
      rcases List.mem_append.1 hy with h | h
      · exact hc y h
      · rw [List.mem_singleton.1 h]
        simpa using hb
theorem fieldsL_skip : ∀ (w cur t : List UInt8), (∀ b ∈ w, bk b = false) → fieldsL cur (w ++ t) = fieldsL (cur ++ w) t
  | [], cur, t, _ => by simp
  | b :: w, cur, t, h => by
    rw [List.cons_append]
    conv => lhs; unfold fieldsL
    rw [if_neg (by rw [h b (by simp)]; decide), fieldsL_skip w _ t (fun y hy => h y (by simp [hy]))]
    simp
theorem fieldsL_len : ∀ (t cur : List UInt8), lens (fieldsL cur t) + (fieldsL cur t).length ≤ cur.length + t.length + 1
  | [], cur => by
    unfold fieldsL
    split
    · simp [lens]
    · simp [lens]
  | b :: t, cur => by
    unfold fieldsL
    split
    · have ih := fieldsL_len t []
      split
      · rw [List.length_cons]; simp at ih; omega
      · unfold lens at ih ⊢
        rw [List.map_cons, List.sum_cons, List.length_cons, List.length_cons]
        simp at ih
        omega
    · have ih := fieldsL_len t (cur ++ [b])
      rw [List.length_append] at ih
      rw [List.length_cons]
      simp at ih
      omega
theorem join_two (x y : List UInt8) (r : List (List UInt8)) (sep : List UInt8) : join (x :: y :: r) sep = x ++ (sep ++ join (y :: r) sep) := by
  rw [join_cons, join_cons]
  simp [joinTail]
theorem fieldsL_join : ∀ (ws : List (List UInt8)), (∀ x ∈ ws, x ≠ [] ∧ ∀ b ∈ x, bk b = false) → fieldsL [] (join ws [32]) = ws
  | [], _ => by rw [join_nil]; rfl
  | [x], h => by
    obtain ⟨h1, h2⟩ := h x (by simp)
    rw [join_one]
    have := fieldsL_skip x [] [] h2
    rw [List.append_nil, List.nil_append] at this
    rw [this]
    unfold fieldsL
    rw [if_neg h1]
  | x :: y :: r, h => by
    obtain ⟨h1, h2⟩ := h x (by simp)
    rw [join_two, fieldsL_skip x _ _ h2, List.nil_append, List.singleton_append]
    conv => lhs; unfold fieldsL
    rw [if_pos (by decide), if_neg h1, fieldsL_join (y :: r) (fun z hz => h z (by simp at hz ⊢; right; exact hz))]

theorem bk_at (s : ByteArray) (i : Nat) (h : i < s.size) : bk (s.data.toList[i]'(by rw [← Lib.size_eq]; exact h)) = blk s i := by
  unfold bk blk
  rw [List.getD_eq_getElem?_getD, List.getElem?_eq_getElem (by rw [← Lib.size_eq]; exact h)]
  rfl
theorem cut_one (s : ByteArray) (a i : Nat) (ha : a ≤ i) (h : i < s.size) : (s.extract a (i + 1)).data.toList = (s.extract a i).data.toList ++ [s.data.toList[i]'(by rw [← Lib.size_eq]; exact h)] := by
  rw [ut_cut, ut_cut]
  rw [List.take_succ_eq_append_getElem (by rw [← Lib.size_eq]; exact h)]
  rw [List.drop_append_of_le_length (by rw [List.length_take, ← Lib.size_eq]; omega)]
theorem cut_nil (s : ByteArray) (a i : Nat) (ha : a ≤ i) (h : i ≤ s.size) : ((s.extract a i).data.toList = []) ↔ ¬ a < i := by
  rw [ut_cut]
  constructor
  · intro e hlt
    have := congrArg List.length e
    rw [List.length_drop, List.length_take, ← Lib.size_eq] at this
    simp at this
    omega
  · intro hn
    exact List.drop_eq_nil_of_le (by rw [List.length_take]; omega)
theorem words_fields (s : ByteArray) : ∀ (d i : Nat), i + d = s.size → (wordsOf s).map (·.data.toList) = (wordsTo s i).map (·.data.toList) ++ fieldsL (s.extract (spB s i).2 i).data.toList (s.data.toList.drop i)
  | 0, i, h => by
    have hi : i = s.size := by omega
    subst hi
    have hle := spB_le s s.size
    have hn := cut_nil s (spB s s.size).2 s.size hle (Nat.le_refl _)
    rw [List.drop_eq_nil_of_le (by rw [← Lib.size_eq]; exact Nat.le_refl _)]
    unfold wordsOf fieldsL
    rw [words_eqB]
    by_cases hl : (spB s s.size).2 < s.size
    · rw [if_pos hl, if_neg (fun e => (hn.1 e) hl), List.map_append]
      rfl
    · rw [if_neg hl, if_pos (hn.2 hl), List.append_nil]
  | d + 1, i, h => by
    have hi : i < s.size := by omega
    have hle := spB_le s i
    have hn := cut_nil s (spB s i).2 i hle (by omega)
    rw [words_fields s d (i + 1) (by omega)]
    rw [List.drop_eq_getElem_cons (i := i) (by rw [← Lib.size_eq]; exact hi)]
    conv => rhs; unfold fieldsL
    rw [bk_at s i hi]
    cases hb : blk s i with
    | false =>
      obtain ⟨e1, e2⟩ := words_skip s i hb
      rw [e1, e2, cut_one s _ i hle hi]
      simp
    | true =>
      obtain ⟨e1, e2⟩ := words_gap s i hb
      have e3 : (s.extract (spB s (i + 1)).2 (i + 1)).data.toList = [] := by
        rw [e1]
        exact (cut_nil s (i + 1) (i + 1) (Nat.le_refl _) (by omega)).2 (by omega)
      rw [e3, e2]
      by_cases hl : (spB s i).2 < i
      · rw [if_pos hl, if_pos rfl, if_neg (fun e => (hn.1 e) hl), List.map_append]
        simp
      · rw [if_neg hl, if_pos rfl, if_pos (hn.2 hl)]
theorem words_of (s : ByteArray) : (wordsOf s).map (·.data.toList) = fieldsL [] s.data.toList := by
  have h := words_fields s s.size 0 (by omega)
  have e1 : (s.extract (spB s 0).2 0).data.toList = [] := (cut_nil s _ 0 (spB_le s 0) (by omega)).2 (by omega)
  have e2 : wordsTo s 0 = [] := rfl
  rw [e1, e2] at h
  simpa using h

theorem map_data_inj : ∀ (a b : List ByteArray), a.map (·.data.toList) = b.map (·.data.toList) → a = b
  | [], [], _ => rfl
  | [], _ :: _, h => by simp at h
  | _ :: _, [], h => by simp at h
  | x :: a, y :: b, h => by
    rw [List.map_cons, List.map_cons, List.cons.injEq] at h
    rw [ut_ext h.1, map_data_inj a b h.2]

theorem word_plain (s x : ByteArray) (hx : x ∈ wordsOf s) : x.data.toList ≠ [] ∧ ∀ b ∈ x.data.toList, bk b = false := by
  have hm : x.data.toList ∈ fieldsL [] s.data.toList := by
    rw [← words_of]
    exact List.mem_map_of_mem (f := fun y : ByteArray => y.data.toList) hx
  exact fieldsL_words _ [] (by simp) _ hm
theorem flat_data (s : ByteArray) : (flatD s).data.toList = join ((wordsOf s).map (·.data.toList)) [32] := rfl
theorem flat_words (s : ByteArray) : wordsOf (flatD s) = wordsOf s := by
  apply map_data_inj
  rw [words_of, flat_data, fieldsL_join]
  intro x hx
  obtain ⟨y, hy, rfl⟩ := List.mem_map.1 hx
  exact word_plain s y hy
theorem flat_flat (s : ByteArray) : flatD (flatD s) = flatD s := by
  have e : flatD (flatD s) = ⟨(joinS (wordsOf (flatD s)) ⟨#[32]⟩).toArray⟩ := rfl
  rw [e, flat_words]
  rfl
theorem flat_size (s : ByteArray) : (joinS (wordsOf s) ⟨#[32]⟩).length ≤ s.size + 1 := by
  have h := fieldsL_len s.data.toList []
  rw [← words_of, ← Lib.size_eq] at h
  unfold joinS
  cases hw : wordsOf s with
  | nil => simp [join_nil]
  | cons a t =>
    rw [hw, List.map_cons] at h
    rw [List.map_cons, join_length]
    simp only [List.length_cons, List.length_map, List.length_nil] at h ⊢
    omega
theorem flat_sizeD (s : ByteArray) : (flatD s).size ≤ s.size + 1 := by
  rw [Lib.size_eq, flat_data]
  exact flat_size s

theorem join_ends : ∀ (ws : List (List UInt8)), (∀ x ∈ ws, x ≠ [] ∧ ∀ b ∈ x, bk b = false) → join ws [32] ≠ [] → bk ((join ws [32]).getD 0 0) = false ∧ bk ((join ws [32]).getD ((join ws [32]).length - 1) 0) = false
  | [], _, hne => absurd join_nil (by intro _; exact hne (join_nil _))
  | [x], h, _ => by
    obtain ⟨h1, h2⟩ := h x (by simp)
    rw [join_one]
    have hl : 0 < x.length := List.length_pos_iff.2 h1
    refine ⟨?_, ?_⟩
    · rw [List.getD_eq_getElem?_getD, List.getElem?_eq_getElem hl]
      exact h2 _ (List.getElem_mem _)
    · rw [List.getD_eq_getElem?_getD, List.getElem?_eq_getElem (by omega)]
      exact h2 _ (List.getElem_mem _)
  | x :: y :: r, h, _ => by
    obtain ⟨h1, h2⟩ := h x (by simp)
    have hl : 0 < x.length := List.length_pos_iff.2 h1
    have hr : ∀ z ∈ y :: r, z ≠ [] ∧ ∀ b ∈ z, bk b = false := fun z hz => h z (by simp at hz ⊢; right; exact hz)
    have hne : join (y :: r) [32] ≠ [] := by
      rw [join_cons]
      have := (hr y (by simp)).1
      simp [this]
    have ih := join_ends (y :: r) hr hne
    rw [join_two]
    have hl2 : 0 < (join (y :: r) [32]).length := List.length_pos_iff.2 hne
    refine ⟨?_, ?_⟩
    · rw [List.getD_eq_getElem?_getD, List.getElem?_append_left hl, List.getElem?_eq_getElem hl]
      exact h2 _ (List.getElem_mem _)
    · have e : (x ++ ([32] ++ join (y :: r) [32])).length - 1 = x.length + (1 + ((join (y :: r) [32]).length - 1)) := by
        simp only [List.length_append, List.length_cons, List.length_nil]
        omega
      rw [e, List.getD_eq_getElem?_getD, List.getElem?_append_right (by omega), Nat.add_sub_cancel_left, List.getElem?_append_right (by simp), ← List.getD_eq_getElem?_getD]
      simp only [List.length_cons, List.length_nil, Nat.zero_add, Nat.add_sub_cancel_left]
      exact ih.2
theorem flat_strip (s : ByteArray) : trimF blankB (flatD s) = flatD s := by
  refine strip_one (trim_is (flatD s)) ⟨0, (flatD s).size, Nat.zero_le _, Nat.le_refl _, ?_, fun j h => by omega, fun j h1 h2 => by omega, fun hp => ?_⟩
  · apply ut_ext
    rw [ut_cut, List.drop_zero, List.take_of_length_le (by rw [← Lib.size_eq]; exact Nat.le_refl _)]
  · have hne : join ((wordsOf s).map (·.data.toList)) [32] ≠ [] := by
      intro e
      rw [Lib.size_eq, flat_data, e] at hp
      simp at hp
    have h := join_ends _ (fun x hx => by obtain ⟨y, hy, rfl⟩ := List.mem_map.1 hx; exact word_plain s y hy) hne
    rw [← flat_data, ← Lib.size_eq] at h
    exact h

theorem lowB_lowB (b : UInt8) : lowB (lowB b) = lowB b := by
  by_cases h : 65 ≤ b.toNat ∧ b.toNat ≤ 90
  · have := lowB_up b h.1 h.2
    exact lowB_same _ (by omega)
  · rw [lowB_same b h, lowB_same b h]
theorem lowD_lowD (l : List UInt8) : lowD (lowD l) = lowD l := by
  unfold lowD
  rw [List.map_map]
  exact List.map_congr_left (fun b _ => lowB_lowB b)

theorem hasS_mem (l : List ByteArray) (x : ByteArray) : hasS l x = true ↔ x ∈ l := by
  unfold hasS
  rw [List.any_eq_true]
  constructor
  · rintro ⟨y, hy, e⟩
    have e2 : y = x := ut_ext (by simpa using e)
    rw [← e2]
    exact hy
  · intro h
    exact ⟨x, h, by simp⟩
theorem addS_mem (l : List ByteArray) (x y : ByteArray) : y ∈ addS l x ↔ y ∈ l ∨ y = x := by
  unfold addS
  split
  · rename_i h
    constructor
    · exact .inl
    · rintro (h' | rfl)
      · exact h'
      · exact (hasS_mem _ _).1 h
  · simp
theorem fold_mem : ∀ (ws acc : List ByteArray) (y : ByteArray), y ∈ ws.foldl addS acc ↔ y ∈ acc ∨ y ∈ ws
  | [], acc, y => by simp
  | x :: t, acc, y => by
    rw [List.foldl_cons, fold_mem t, addS_mem, List.mem_cons]
    constructor
    · rintro ((h | h) | h)
      · exact .inl h
      · exact .inr (.inl h)
      · exact .inr (.inr h)
    · rintro (h | h | h)
      · exact .inl (.inl h)
      · exact .inl (.inr h)
      · exact .inr h
theorem set_has (ws : List ByteArray) (x : ByteArray) (h : x ∈ ws) : hasS (setS ws) x = true :=
  (hasS_mem _ _).2 ((fold_mem ws [] x).2 (.inr h))
theorem fold_nodup : ∀ (ws acc : List ByteArray), acc.Nodup → (ws.foldl addS acc).Nodup
  | [], acc, h => h
  | x :: t, acc, h => by
    rw [List.foldl_cons]
    refine fold_nodup t _ ?_
    unfold addS
    split
    · exact h
    · rename_i hn
      rw [List.nodup_append]
      refine ⟨h, by simp, fun a ha b hb => ?_⟩
      rw [List.mem_singleton.1 hb]
      intro e
      exact hn ((hasS_mem _ _).2 (e ▸ ha))
theorem fold_same : ∀ (ws acc : List ByteArray), (acc ++ ws).Nodup → ws.foldl addS acc = acc ++ ws
  | [], acc, _ => by simp
  | x :: t, acc, h => by
    have hx : ¬ hasS acc x = true := fun e => by
      have := (hasS_mem _ _).1 e
      rw [List.nodup_append] at h
      exact h.2.2 x this x (by simp) rfl
    have e : addS acc x = acc ++ [x] := by unfold addS; rw [if_neg hx]
    rw [List.foldl_cons, e, fold_same t _ (by simpa using h)]
    simp
theorem set_set (ws : List ByteArray) : setS (setS ws) = setS ws := by
  have h : (setS ws).Nodup := fold_nodup ws [] (by simp)
  have e : setS (setS ws) = (setS ws).foldl addS [] := rfl
  rw [e, fold_same (setS ws) [] (by simpa using h)]
  simp
end Go.Proofs.YtbefinbihopgfaaDoor
