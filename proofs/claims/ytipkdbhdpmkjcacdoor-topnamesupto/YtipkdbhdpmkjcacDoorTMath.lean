/- Plain facts: a name has no whitespace in it; small letters make no name of what is none, and none of what is one. No program in this text. -/
import Derived.Test.YtipkdbhdpmkjcacDoorKinds
import Derived.Test.YtipkdbhdpmkjcacDoorUPlain
import Derived.Shelf.GgClosure.StringsTrimFunc
import Derived.Lib.FieldsP
import Derived.Lib.TrimAscii
import Derived.Lib.MapLaws
import Derived.Lib.Split
import Derived.Lib.IndexLaws
namespace Go.Proofs.YtipkdbhdpmkjcacDoor
open Go.RowKit Go.Lib

theorem bytes_ext {a b : ByteArray} (h : a.data.toList = b.data.toList) : a = b := by
  cases a; cases b
  simp only at h
  rw [ByteArray.mk.injEq]
  exact Array.toList_inj.1 h
theorem extract_all (s : ByteArray) : s.extract 0 s.size = s := by
  apply bytes_ext
  rw [Lib.extract_from_zero, List.take_of_length_le (by rw [Lib.size_eq]; exact Nat.le_refl _)]

theorem start_part (r : Int) (h : startB r = true) : partB r = true := by
  unfold startB at h
  unfold partB
  cases e : spanIn r spanTab == ((0, 0, false) : Int × Int × Bool) with
  | false => rfl
  | true =>
    rw [eq_of_beq e] at h
    cases h
theorem name_all (l : List UInt8) (h : nameB l = true) : l ≠ [] ∧ allR partB l = true := by
  unfold nameB runsB at h
  simp only [Bool.and_eq_true] at h
  obtain ⟨h0, _, h2, h3⟩ := h
  have hne : l ≠ [] := by
    intro e
    subst e
    simp at h0
  refine ⟨hne, ?_⟩
  rw [allR_step partB l hne, start_part _ h2, h3]
  rfl

/-- What a decoder makes of bytes below 128 is that byte; of the others no rune below 128. -/
theorem decode_small (l : List UInt8) (hne : l ≠ []) (h : (decodeL l).1 < 128) : (l.getD 0 0).toNat = (decodeL l).1 := by
  have hl : 0 < l.length := List.length_pos_iff.2 hne
  rw [decodeL_N] at h ⊢
  rcases decodeN_shape l.length (l.getD 0 0).toNat (l.getD 1 0).toNat (l.getD 2 0).toNat (l.getD 3 0).toNat with ⟨c, e⟩ | ⟨c1, c2, c3, cv, e⟩ | ⟨c1, c2, c3, c4, cv, cs, e⟩ | ⟨c1, c2, c3, c4, c5, cv, cw, e⟩ | e
  · rw [e]
  · rw [e] at h; exfalso; dsimp only at h; omega
  · rw [e] at h; exfalso; dsimp only at h; omega
  · rw [e] at h; exfalso; dsimp only at h; omega
  · rw [e] at h; exact absurd h (by decide)
theorem take_small (l : List UInt8) (hne : l ≠ []) : ∀ b ∈ l.take (decodeL l).2, b.toNat < 128 → (decodeL l).1 = b.toNat := by
  have hl : 0 < l.length := List.length_pos_iff.2 hne
  intro b hb hb8
  by_cases h0 : (l.getD 0 0).toNat < 128
  · obtain ⟨x, t, rfl⟩ : ∃ x t, l = x :: t := by
      cases l with
      | nil => exact absurd rfl hne
      | cons x t => exact ⟨x, t, rfl⟩
    have hx : x.toNat < 128 := by simpa using h0
    rw [decodeL_ascii x t hx] at hb ⊢
    simp at hb
    rw [hb]
  · exfalso
    rw [decodeL_N] at hb
    rcases decodeN_shape l.length (l.getD 0 0).toNat (l.getD 1 0).toNat (l.getD 2 0).toNat (l.getD 3 0).toNat with ⟨c, e⟩ | ⟨c1, c2, c3, cv, e⟩ | ⟨c1, c2, c3, c4, cv, cs, e⟩ | ⟨c1, c2, c3, c4, c5, cv, cw, e⟩ | e
    · omega
    · rw [e, takeB l c2] at hb
      simp only [List.mem_cons, List.mem_nil_iff, or_false] at hb
      rcases hb with rfl | rfl <;> omega
    · rw [e, takeC l c2] at hb
      simp only [List.mem_cons, List.mem_nil_iff, or_false] at hb
      rcases hb with rfl | rfl | rfl <;> omega
    · rw [e, takeD l c2] at hb
      simp only [List.mem_cons, List.mem_nil_iff, or_false] at hb
      rcases hb with rfl | rfl | rfl | rfl <;> omega
    · rw [e, takeA l hl] at hb
      simp only [List.mem_cons, List.mem_nil_iff, or_false] at hb
      subst hb
      omega
theorem allR_ascii (q : Int → Bool) : ∀ (n : Nat) (l : List UInt8), l.length ≤ n → allR q l = true → ∀ b ∈ l, b.toNat < 128 → q (b.toNat : Int) = true
  | 0, l, hn, _ => by
    have : l = [] := List.eq_nil_of_length_eq_zero (by omega)
    subst this
    intro b hb
    simp at hb
  | n + 1, l, hn, h => by
    by_cases hne : l = []
    · subst hne
      intro b hb
      simp at hb
    · have hw := decodeL_width l
      intro b hb h8
      rw [allR_step q l hne, Bool.and_eq_true] at h
      rw [← List.take_append_drop (decodeL l).2 l] at hb
      rcases List.mem_append.1 hb with hb | hb
      · rw [← take_small l hne b hb h8]
        exact h.1
      · exact allR_ascii q n _ (by rw [List.length_drop]; omega) h.2 b hb h8

theorem blank_cases (x : Nat) (h : blankB x = true) : x = 9 ∨ x = 10 ∨ x = 12 ∨ x = 13 ∨ x = 32 := by
  simpa [blankB, or_assoc] using h
/-- A name has no whitespace in it. -/
theorem no_blank (l : List UInt8) (h : nameB l = true) : ∀ b ∈ l, blankB b.toNat = false := by
  intro b hb
  cases e : blankB b.toNat with
  | false => rfl
  | true =>
    have hc := blank_cases _ e
    have hp := allR_ascii partB l.length l (Nat.le_refl _) (name_all l h).2 b hb (by omega)
    rcases hc with hc | hc | hc | hc | hc <;> (rw [hc] at hp; exact absurd hp (by decide))

theorem getD_mem (l : List UInt8) (hne : l ≠ []) : l.getD 0 0 ∈ l := by
  cases l with
  | nil => exact absurd rfl hne
  | cons x t => simp
theorem rune_blank (l : List UInt8) (hne : l ≠ []) (h : blankB (decodeL l).1 = true) : ∃ b ∈ l, blankB b.toNat = true := by
  have hc := blank_cases _ h
  refine ⟨l.getD 0 0, getD_mem l hne, ?_⟩
  rw [decode_small l hne (by omega)]
  exact h

theorem drop_ne' (s : ByteArray) (pos : Nat) (h : pos < s.size) : s.data.toList.drop pos ≠ [] := by
  intro e
  have := congrArg List.length e
  rw [List.length_drop, ← Lib.size_eq] at this
  simp at this
  omega
theorem runes_plain (s : ByteArray) (h : ∀ b ∈ s.data.toList, blankB b.toNat = false) (pos : Nat) (hp : pos < s.size) : blankB (Utf8.decode s pos).1 = false := by
  cases e : blankB (Utf8.decode s pos).1 with
  | false => rfl
  | true =>
    rw [← Lib.decodeL_drop] at e
    obtain ⟨b, hb, hb2⟩ := rune_blank _ (drop_ne' s pos hp) e
    rw [h b (List.mem_of_mem_drop hb)] at hb2
    cases hb2

theorem spans_on (s : ByteArray) (h : ∀ b ∈ s.data.toList, blankB b.toNat = false) (a : Nat) (acc : List (Nat × Nat)) : ∀ (f pos : Nat), spansFromP blankB s f pos (some a) acc = (acc, some a)
  | 0, _ => rfl
  | f + 1, pos => by
    unfold spansFromP
    by_cases hp : pos < s.size
    · rw [if_pos hp, if_neg (by rw [runes_plain s h pos hp]; decide)]
      exact spans_on s h a acc f _
    · rw [if_neg hp]
/-- A text without whitespace is one word. -/
theorem words_one (s : ByteArray) (hne : s.data.toList ≠ []) (h : ∀ b ∈ s.data.toList, blankB b.toNat = false) : goFieldsP blankB s = [s] := by
  have hp : 0 < s.size := by rw [Lib.size_eq]; exact List.length_pos_iff.2 hne
  obtain ⟨f, hf⟩ : ∃ f, s.size = f + 1 := ⟨s.size - 1, by omega⟩
  have e : spansFromP blankB s s.size 0 none [] = ([], some 0) := by
    rw [hf]
    unfold spansFromP
    rw [if_pos (by omega), if_neg (by rw [runes_plain s h 0 hp]; decide)]
    exact spans_on s h 0 [] f _
  unfold goFieldsP spansOfP
  rw [e]
  show [s.extract 0 s.size] = [s]
  rw [extract_all]

theorem last_plain (l : List UInt8) (hne : l ≠ []) (h : ∀ b ∈ l, blankB b.toNat = false) : blankB (decodeLastL l).1 = false := by
  have hl : 0 < l.length := List.length_pos_iff.2 hne
  unfold decodeLastL
  rw [if_neg hne]
  by_cases h8 : (l.getD (l.length - 1) 0).toNat < 128
  · rw [if_pos h8]
    refine h _ ?_
    rw [List.getD_eq_getElem?_getD, List.getElem?_eq_getElem (by omega)]
    exact List.getElem_mem _
  · rw [if_neg h8]
    have hls := lastStart_lt' l hne
    have hd : l.drop (lastStart l) ≠ [] := by
      intro e
      have := congrArg List.length e
      rw [List.length_drop] at this
      simp at this
      omega
    dsimp only
    split
    · cases e : blankB (decodeL (l.drop (lastStart l))).1 with
      | false => rfl
      | true =>
        obtain ⟨b, hb, hb2⟩ := rune_blank _ hd e
        rw [h b (List.mem_of_mem_drop hb)] at hb2
        cases hb2
    · rfl
theorem goB_drop (s : ByteArray) (i : Nat) (hi : i < s.size) : decodeGoB (s.extract i s.size) = decodeL (s.data.toList.drop i) := by
  have e : (s.extract i s.size).data.toList = s.data.toList.drop i := Lib.extract_to_end s i
  have hz : (s.extract i s.size).size ≠ 0 := by
    rw [Lib.size_eq, e, List.length_drop, ← Lib.size_eq]
    omega
  unfold decodeGoB
  rw [if_neg hz]
  have h := Lib.decodeL_drop (s.extract i s.size) 0
  rw [List.drop_zero, e] at h
  exact h.symm
theorem one_width (s : ByteArray) (hp : 0 < s.size) : (decodeL (s.data.toList.drop (s.size - 1))).2 = 1 := by
  have hne := drop_ne' s (s.size - 1) (by omega)
  have h1 := decodeL_width (s.data.toList.drop (s.size - 1))
  have h2 := decodeL_le _ hne
  rw [List.length_drop, ← Lib.size_eq] at h2
  omega
theorem last_width (s : ByteArray) (hne : s.data.toList ≠ []) : (s.size - (decodeLastL s.data.toList).2) + (decodeGoB (s.extract (s.size - (decodeLastL s.data.toList).2) s.size)).2 = s.size ∧ 1 ≤ (decodeLastL s.data.toList).2 ∧ (decodeLastL s.data.toList).2 ≤ s.size := by
  have hp : 0 < s.size := by rw [Lib.size_eq]; exact List.length_pos_iff.2 hne
  have hw := decodeLastL_width s.data.toList (List.length_pos_iff.2 hne)
  rw [← Lib.size_eq] at hw
  refine ⟨?_, hw⟩
  rw [goB_drop s _ (by omega)]
  have hone := one_width s hp
  have hls := lastStart_lt' s.data.toList hne
  rw [← Lib.size_eq] at hls
  unfold decodeLastL
  rw [if_neg hne]
  by_cases h8 : (s.data.toList.getD (s.data.toList.length - 1) 0).toNat < 128
  · rw [if_pos h8]
    dsimp only
    rw [hone]
    omega
  · rw [if_neg h8]
    dsimp only
    by_cases he : lastStart s.data.toList + (decodeL (s.data.toList.drop (lastStart s.data.toList))).2 = s.data.toList.length
    · rw [if_pos he]
      rw [← Lib.size_eq] at he
      have e2 : s.size - (decodeL (s.data.toList.drop (lastStart s.data.toList))).2 = lastStart s.data.toList := by omega
      rw [e2]
      exact he
    · rw [if_neg he]
      dsimp only
      rw [hone]
      omega
/-- A text without whitespace has none at its ends. -/
theorem trim_plain (s : ByteArray) (hne : s.data.toList ≠ []) (h : ∀ b ∈ s.data.toList, blankB b.toNat = false) : trimF blankB s = s := by
  have hp : 0 < s.size := by rw [Lib.size_eq]; exact List.length_pos_iff.2 hne
  obtain ⟨f, hf⟩ : ∃ f, s.size = f + 1 := ⟨s.size - 1, by omega⟩
  have e1 : idxFunc blankB false s = 0 := by
    unfold idxFunc
    rw [hf]
    unfold idxFuncFrom
    rw [if_pos (by omega), if_pos (runes_plain s h 0 hp)]
    rfl
  have e2 : trimLeftF blankB s = s := by
    unfold trimLeftF
    rw [e1, if_neg (by decide)]
    exact extract_all s
  have hlw := last_width s hne
  have e3 : lastIdxFunc blankB false s = ((s.size - (decodeLastL s.data.toList).2 : Nat) : Int) := by
    unfold lastIdxFunc
    conv => lhs; rw [hf]
    unfold lastIdxFuncFrom
    rw [if_pos (by omega), ← hf, List.take_of_length_le (by rw [Lib.size_eq]; exact Nat.le_refl _), if_pos (last_plain _ hne h)]
  unfold trimF
  rw [e2]
  unfold trimRightF rightEndF
  rw [e3, if_pos (by omega), Int.toNat_natCast, hlw.1, extract_all]

/-- Small letters: what a decoder makes of them. -/
theorem low_small (b : UInt8) : (lowB b).toNat < 128 ↔ b.toNat < 128 := by
  unfold lowB
  split
  · rename_i hc
    have : (UInt8.ofNat (b.toNat + 32)).toNat = b.toNat + 32 := by simp; omega
    rw [this]
    omega
  · exact Iff.rfl
theorem low_big (b : UInt8) (h : ¬ b.toNat < 128) : lowB b = b := by
  unfold lowB
  rw [if_neg (by omega)]
theorem low_getD (l : List UInt8) (i : Nat) : (lowD l).getD i 0 = lowB (l.getD i 0) := by
  unfold lowD
  rw [List.getD_eq_getElem?_getD, List.getD_eq_getElem?_getD, List.getElem?_map]
  cases l[i]? with
  | none => decide
  | some b => rfl
theorem low_cont (b : UInt8) : ((lowB b).toNat / 64 = 2) = (b.toNat / 64 = 2) := by
  by_cases h : b.toNat < 128
  · have h2 := (low_small b).2 h
    exact propext ⟨fun e => by omega, fun e => by omega⟩
  · rw [low_big b h]
theorem low_mod (b : UInt8) (h : b.toNat / 64 = 2) : lowB b = b := low_big b (by omega)
theorem decode_low (l : List UInt8) : (decodeL (lowD l)).2 = (decodeL l).2 ∧ ((decodeL (lowD l)).1 = (decodeL l).1 ∨ (65 ≤ (decodeL l).1 ∧ (decodeL l).1 ≤ 90 ∧ (decodeL (lowD l)).1 = (decodeL l).1 + 32)) := by
  have hlen : (lowD l).length = l.length := by simp [lowD]
  rw [decodeL_N, decodeL_N, hlen, low_getD, low_getD, low_getD, low_getD]
  by_cases h0 : (l.getD 0 0).toNat < 128
  · have h0' := (low_small (l.getD 0 0)).2 h0
    unfold decodeN
    rw [if_pos h0, if_pos h0']
    refine ⟨rfl, ?_⟩
    dsimp only
    unfold lowB
    split
    · rename_i hc
      right
      generalize l.getD 0 0 = x at *
      have : (UInt8.ofNat (x.toNat + 32)).toNat = x.toNat + 32 := by simp; omega
      rw [this]
      omega
    · left; rfl
  · rw [low_big _ h0]
    have e : decodeN l.length (l.getD 0 0).toNat (lowB (l.getD 1 0)).toNat (lowB (l.getD 2 0)).toNat (lowB (l.getD 3 0)).toNat = decodeN l.length (l.getD 0 0).toNat (l.getD 1 0).toNat (l.getD 2 0).toNat (l.getD 3 0).toNat := by
      generalize l.getD 0 0 = a at *
      generalize l.getD 1 0 = b at *
      generalize l.getD 2 0 = c at *
      generalize l.getD 3 0 = d at *
      have cb := low_cont b; have cc := low_cont c; have cd := low_cont d
      by_cases hb : b.toNat / 64 = 2
      · rw [low_mod b hb]
        by_cases hc : c.toNat / 64 = 2
        · rw [low_mod c hc]
          by_cases hd : d.toNat / 64 = 2
          · rw [low_mod d hd]
          · have hd' : ¬ (lowB d).toNat / 64 = 2 := by rw [cd]; exact hd
            simp only [decodeN, hd, hd', and_false, if_false]
        · have hc' : ¬ (lowB c).toNat / 64 = 2 := by rw [cc]; exact hc
          simp only [decodeN, hc, hc', and_false, false_and, if_false]
      · have hb' : ¬ (lowB b).toNat / 64 = 2 := by rw [cb]; exact hb
        simp only [decodeN, hb, hb', and_false, false_and, if_false]
    rw [e]
    exact ⟨rfl, .inl rfl⟩

theorem low_drop (l : List UInt8) (n : Nat) : (lowD l).drop n = lowD (l.drop n) := by
  unfold lowD
  rw [List.map_drop]
theorem low_nil (l : List UInt8) : lowD l = [] ↔ l = [] := by
  unfold lowD
  exact List.map_eq_nil_iff
theorem letters : ∀ k : Nat, k < 26 → startB ((65 + k : Nat) : Int) = true ∧ startB ((65 + k + 32 : Nat) : Int) = true ∧ partB ((65 + k : Nat) : Int) = true ∧ partB ((65 + k + 32 : Nat) : Int) = true := by decide +kernel
theorem low_rune (l : List UInt8) : startB ((decodeL (lowD l)).1 : Int) = startB ((decodeL l).1 : Int) ∧ partB ((decodeL (lowD l)).1 : Int) = partB ((decodeL l).1 : Int) := by
  rcases (decode_low l).2 with e | ⟨h1, h2, e⟩
  · rw [e]
    exact ⟨rfl, rfl⟩
  · rw [e]
    generalize (decodeL l).1 = r at *
    obtain ⟨k, rfl⟩ : ∃ k, r = 65 + k := ⟨r - 65, by omega⟩
    obtain ⟨a, b, c, d⟩ := letters k (by omega)
    rw [a, b, c, d]
    exact ⟨rfl, rfl⟩
theorem low_bad (l : List UInt8) : ((decodeL (lowD l)).1 = 65533 ∧ (decodeL (lowD l)).2 = 1) = ((decodeL l).1 = 65533 ∧ (decodeL l).2 = 1) := by
  obtain ⟨e2, e1⟩ := decode_low l
  rw [e2]
  refine propext ⟨fun h => ⟨by omega, h.2⟩, fun h => ⟨by omega, h.2⟩⟩
theorem low_valid : ∀ (n : Nat) (l : List UInt8), l.length ≤ n → validD (lowD l) = validD l
  | 0, l, hn => by
    have : l = [] := List.eq_nil_of_length_eq_zero (by omega)
    subst this
    rfl
  | n + 1, l, hn => by
    by_cases hne : l = []
    · subst hne
      rfl
    · have hw := decodeL_width l
      have hl : 0 < l.length := List.length_pos_iff.2 hne
      rw [validD_step l hne, validD_step (lowD l) (fun e => hne ((low_nil l).1 e)), low_drop, (decode_low l).1, low_valid n _ (by rw [List.length_drop]; omega)]
      have hb := low_bad l
      rw [(decode_low l).1] at hb
      simp only [hb]
theorem low_all : ∀ (n : Nat) (l : List UInt8), l.length ≤ n → allR partB (lowD l) = allR partB l
  | 0, l, hn => by
    have : l = [] := List.eq_nil_of_length_eq_zero (by omega)
    subst this
    rfl
  | n + 1, l, hn => by
    by_cases hne : l = []
    · subst hne
      rfl
    · have hw := decodeL_width l
      have hl : 0 < l.length := List.length_pos_iff.2 hne
      rw [allR_step _ l hne, allR_step _ (lowD l) (fun e => hne ((low_nil l).1 e)), low_drop, (decode_low l).1, (low_rune l).2, low_all n _ (by rw [List.length_drop]; omega)]
/-- Small letters make no name of what is none, and none of what is one. -/
theorem name_low (l : List UInt8) : nameB (lowD l) = nameB l := by
  unfold nameB runsB
  rw [low_valid l.length l (Nat.le_refl _), (low_rune l).1, low_drop, (decode_low l).1, low_all _ _ (Nat.le_refl _)]
  congr 1
  cases l <;> rfl
/-- What the law asks of a name: it is one word, and is its own when stripped. -/
theorem name_words (s : ByteArray) (h : nameB s.data.toList = true) : goFieldsP blankB s = [s] ∧ trimF blankB s = s :=
  ⟨words_one s (name_all _ h).1 (no_blank _ h), trim_plain s (name_all _ h).1 (no_blank _ h)⟩

end Go.Proofs.YtipkdbhdpmkjcacDoor
