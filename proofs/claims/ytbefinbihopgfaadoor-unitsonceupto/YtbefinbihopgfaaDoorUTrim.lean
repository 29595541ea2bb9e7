/- Plain facts: what is left when ASCII whitespace is taken away at both ends, rune by rune and byte by byte. No program in this text. -/
import Derived.Test.YtbefinbihopgfaaDoorUPlain
import Derived.Shelf.GgClosure.StringsTrimFunc
import Derived.Lib.TrimAscii
import Derived.Lib.MapLaws
import Derived.Lib.Split
import Derived.Lib.IndexLaws
namespace Go.Proofs.YtbefinbihopgfaaDoor
open Go.RowKit Go.Lib

/-- The byte at a place is ASCII whitespace. -/
def blk (s : ByteArray) (j : Nat) : Bool := blankB (s.data.toList.getD j 0).toNat
/-- What is left of a text whose ends are taken away. -/
def IsStrip (s r : ByteArray) : Prop := ∃ k m, k ≤ m ∧ m ≤ s.size ∧ r = s.extract k m ∧ (∀ j, j < k → blk s j = true) ∧ (∀ j, m ≤ j → j < s.size → blk s j = true) ∧ (k < m → blk s k = false ∧ blk s (m - 1) = false)

theorem ut_ext {a b : ByteArray} (h : a.data.toList = b.data.toList) : a = b := by
  cases a; cases b
  simp only at h
  rw [ByteArray.mk.injEq]
  exact Array.toList_inj.1 h
theorem ut_cut (s : ByteArray) (k m : Nat) : (s.extract k m).data.toList = (s.data.toList.take m).drop k := by
  rw [ByteArray.data_extract, Array.toList_extract]
  simp [List.drop_take]
theorem strip_one {s r r' : ByteArray} (h : IsStrip s r) (h' : IsStrip s r') : r = r' := by
  obtain ⟨k, m, a1, a2, rfl, a3, a4, a5⟩ := h
  obtain ⟨k', m', b1, b2, rfl, b3, b4, b5⟩ := h'
  by_cases hk : k < m
  · by_cases hk' : k' < m'
    · have e1 : k = k' := by
        rcases Nat.lt_trichotomy k k' with h | h | h
        · have := b3 k h; rw [(a5 hk).1] at this; cases this
        · exact h
        · have := a3 k' h; rw [(b5 hk').1] at this; cases this
      have e2 : m = m' := by
        rcases Nat.lt_trichotomy m m' with h | h | h
        · have := a4 (m' - 1) (by omega) (by omega); rw [(b5 hk').2] at this; cases this
        · exact h
        · have := b4 (m - 1) (by omega) (by omega); rw [(a5 hk).2] at this; cases this
      rw [e1, e2]
    · exfalso
      have e : k' = m' := by omega
      rcases Nat.lt_or_ge k k' with h | h
      · have := b3 k h; rw [(a5 hk).1] at this; cases this
      · have := b4 k (by omega) (by omega); rw [(a5 hk).1] at this; cases this
  · have e : k = m := by omega
    have e' : ¬ k' < m' := fun hk' => by
      rcases Nat.lt_or_ge k' k with h | h
      · have := a3 k' h; rw [(b5 hk').1] at this; cases this
      · have := a4 k' (by omega) (by omega); rw [(b5 hk').1] at this; cases this
    apply ut_ext
    rw [ut_cut, ut_cut, List.drop_eq_nil_of_le (by rw [List.length_take]; omega), List.drop_eq_nil_of_le (by rw [List.length_take]; omega)]

theorem ut_big (x : Nat) (h : ¬ x < 128) : blankB x = false := by
  unfold blankB
  simp
  omega
theorem ut_cases (x : Nat) (h : blankB x = true) : x < 128 := by
  by_cases hx : x < 128
  · exact hx
  · rw [ut_big x hx] at h; cases h
/-- A decoder's rune is whitespace just if its first byte is. -/
theorem ut_head (l : List UInt8) (hne : l ≠ []) : blankB (decodeL l).1 = blankB (l.getD 0 0).toNat ∧ (blankB (l.getD 0 0).toNat = true → (decodeL l).2 = 1) := by
  obtain ⟨x, t, rfl⟩ : ∃ x t, l = x :: t := by
    cases l with
    | nil => exact absurd rfl hne
    | cons x t => exact ⟨x, t, rfl⟩
  show blankB (decodeL (x :: t)).1 = blankB x.toNat ∧ (blankB x.toNat = true → (decodeL (x :: t)).2 = 1)
  by_cases hx : x.toNat < 128
  · rw [decodeL_ascii x t hx]
    exact ⟨rfl, fun _ => rfl⟩
  · rw [ut_big _ hx]
    refine ⟨?_, fun h => by cases h⟩
    apply ut_big
    rw [decodeL_N]
    have h0 : ((x :: t).getD 0 0).toNat = x.toNat := rfl
    rw [h0]
    generalize ((x :: t).getD 1 0).toNat = b1
    generalize ((x :: t).getD 2 0).toNat = b2
    generalize ((x :: t).getD 3 0).toNat = b3
    generalize (x :: t).length = n
    generalize x.toNat = b0 at *
    rcases decodeN_shape n b0 b1 b2 b3 with ⟨c, e⟩ | ⟨c1, c2, c3, cv, e⟩ | ⟨c1, c2, c3, c4, cv, cs, e⟩ | ⟨c1, c2, c3, c4, c5, cv, cw, e⟩ | e
    · omega
    all_goals (rw [e]; dsimp only; omega)
theorem ut_drop (s : ByteArray) (i : Nat) (h : i < s.size) : s.data.toList.drop i ≠ [] := by
  intro e
  have := congrArg List.length e
  rw [List.length_drop, ← Lib.size_eq] at this
  simp at this
  omega
theorem ut_getD (l : List UInt8) (i j : Nat) : (l.drop i).getD j 0 = l.getD (i + j) 0 := by
  rw [List.getD_eq_getElem?_getD, List.getD_eq_getElem?_getD, List.getElem?_drop]
theorem ut_at (s : ByteArray) (i : Nat) (h : i < s.size) : blankB (Utf8.decode s i).1 = blk s i ∧ (blk s i = true → (Utf8.decode s i).2 = 1) := by
  have := ut_head _ (ut_drop s i h)
  rw [Lib.decodeL_drop, ut_getD, Nat.add_zero] at this
  exact this

/-- Where the first rune that is no whitespace stands. -/
theorem ut_first (s : ByteArray) : ∀ (f pos : Nat), s.size ≤ pos + f → (idxFuncFrom blankB false s f pos = -1 ∧ ∀ j, pos ≤ j → j < s.size → blk s j = true) ∨ (∃ k : Nat, idxFuncFrom blankB false s f pos = (k : Int) ∧ pos ≤ k ∧ k < s.size ∧ (∀ j, pos ≤ j → j < k → blk s j = true) ∧ blk s k = false)
  | 0, pos, h => .inl ⟨rfl, fun j _ _ => by omega⟩
  | f + 1, pos, h => by
    unfold idxFuncFrom
    by_cases hp : pos < s.size
    · rw [if_pos hp]
      have hd := ut_at s pos hp
      cases hb : blk s pos with
      | false =>
        rw [if_pos (by rw [hd.1, hb])]
        exact .inr ⟨pos, rfl, Nat.le_refl _, hp, fun j _ _ => by omega, hb⟩
      | true =>
        rw [if_neg (by rw [hd.1, hb]; decide), hd.2 hb]
        rcases ut_first s f (pos + 1) (by omega) with ⟨e, g⟩ | ⟨k, e, g1, g2, g3, g4⟩
        · refine .inl ⟨e, fun j h1 h2 => ?_⟩
          by_cases hj : j = pos
          · rw [hj]; exact hb
          · exact g j (by omega) h2
        · refine .inr ⟨k, e, by omega, g2, fun j h1 h2 => ?_, g4⟩
          by_cases hj : j = pos
          · rw [hj]; exact hb
          · exact g3 j (by omega) h2
    · rw [if_neg hp]
      exact .inl ⟨rfl, fun j _ _ => by omega⟩

/-- What stands behind a byte below 128 is of no rune ahead of it. -/
theorem ut_stop (a : List UInt8) (b : UInt8) (t : List UInt8) (hne : a ≠ []) (hb : b.toNat < 128) : decodeL (a ++ b :: t) = decodeL a := by
  have hb' : ¬ b.toNat / 64 = 2 := by omega
  rw [decodeL_N, decodeL_N]
  match a, hne with
  | [x], _ => simp [decodeN, hb']
  | [x, y], _ => simp [decodeN, hb']
  | [x, y, z], _ => simp [decodeN, hb']
  | x :: y :: z :: v :: r, _ =>
    have h1 : 1 < (x :: y :: z :: v :: r ++ b :: t).length ∧ 1 < (x :: y :: z :: v :: r).length := by simp
    have h2 : 2 < (x :: y :: z :: v :: r ++ b :: t).length ∧ 2 < (x :: y :: z :: v :: r).length := by simp
    have h3 : 3 < (x :: y :: z :: v :: r ++ b :: t).length ∧ 3 < (x :: y :: z :: v :: r).length := by simp
    have e0 : (x :: y :: z :: v :: r ++ b :: t).getD 0 0 = (x :: y :: z :: v :: r).getD 0 0 := rfl
    have e1 : (x :: y :: z :: v :: r ++ b :: t).getD 1 0 = (x :: y :: z :: v :: r).getD 1 0 := rfl
    have e2 : (x :: y :: z :: v :: r ++ b :: t).getD 2 0 = (x :: y :: z :: v :: r).getD 2 0 := rfl
    have e3 : (x :: y :: z :: v :: r ++ b :: t).getD 3 0 = (x :: y :: z :: v :: r).getD 3 0 := rfl
    rw [e0, e1, e2, e3]
    unfold decodeN
    simp only [h1.1, h1.2, h2.1, h2.2, h3.1, h3.2, true_and]

theorem ut_take (l : List UInt8) (i j : Nat) (h : j < i) : (l.take i).getD j 0 = l.getD j 0 := by
  rw [List.getD_eq_getElem?_getD, List.getD_eq_getElem?_getD, List.getElem?_take, if_pos h]
theorem ut_lastU (l : List UInt8) (hne : l ≠ []) : blankB (decodeLastL l).1 = blankB (l.getD (l.length - 1) 0).toNat ∧ (blankB (l.getD (l.length - 1) 0).toNat = true → (decodeLastL l).2 = 1) := by
  have hl : 0 < l.length := List.length_pos_iff.2 hne
  unfold decodeLastL
  rw [if_neg hne]
  by_cases h8 : (l.getD (l.length - 1) 0).toNat < 128
  · rw [if_pos h8]
    exact ⟨rfl, fun _ => rfl⟩
  · rw [if_neg h8, ut_big _ h8]
    refine ⟨?_, fun h => by cases h⟩
    have hls := lastStart_lt' l hne
    have hd : l.drop (lastStart l) ≠ [] := by
      intro e
      have := congrArg List.length e
      rw [List.length_drop] at this
      simp at this
      omega
    have hh := ut_head _ hd
    dsimp only
    split
    · rename_i he
      cases hb : blankB (decodeL (l.drop (lastStart l))).1 with
      | false => rfl
      | true =>
        exfalso
        have hb0 := hh.1.symm.trans hb
        rw [hh.2 hb0] at he
        rw [ut_getD, Nat.add_zero] at hb0
        have e1 : lastStart l = l.length - 1 := by omega
        rw [e1, ut_big _ h8] at hb0
        cases hb0
    · exact ut_big _ (by decide)
theorem ut_last (s : ByteArray) (i : Nat) (h0 : 0 < i) (hi : i ≤ s.size) : blankB (decodeLastL (s.data.toList.take i)).1 = blk s (i - 1) ∧ (blk s (i - 1) = true → (decodeLastL (s.data.toList.take i)).2 = 1) := by
  have hl : (s.data.toList.take i).length = i := by rw [List.length_take, ← Lib.size_eq]; omega
  have := ut_lastU (s.data.toList.take i) (fun e => by rw [e] at hl; simp at hl; omega)
  rw [hl, ut_take _ _ _ (by omega)] at this
  exact this
/-- Where the last rune that is no whitespace ends. -/
theorem ut_lastly (s : ByteArray) : ∀ (f i : Nat), i ≤ f → i ≤ s.size → (lastIdxFuncFrom blankB false s f i = -1 ∧ ∀ j, j < i → blk s j = true) ∨ (∃ m : Nat, lastIdxFuncFrom blankB false s f i = ((m - (decodeLastL (s.data.toList.take m)).2 : Nat) : Int) ∧ 0 < m ∧ m ≤ i ∧ blk s (m - 1) = false ∧ ∀ j, m ≤ j → j < i → blk s j = true)
  | 0, i, h, _ => .inl ⟨rfl, fun j _ => by omega⟩
  | f + 1, i, h, hi => by
    unfold lastIdxFuncFrom
    by_cases hp : 0 < i
    · rw [if_pos hp]
      have hd := ut_last s i hp hi
      cases hb : blk s (i - 1) with
      | false =>
        rw [if_pos (by rw [hd.1, hb])]
        exact .inr ⟨i, rfl, hp, Nat.le_refl _, hb, fun j _ _ => by omega⟩
      | true =>
        rw [if_neg (by rw [hd.1, hb]; decide), hd.2 hb]
        rcases ut_lastly s f (i - 1) (by omega) (by omega) with ⟨e, g⟩ | ⟨m, e, g1, g2, g3, g4⟩
        · refine .inl ⟨e, fun j h1 => ?_⟩
          by_cases hj : j = i - 1
          · rw [hj]; exact hb
          · exact g j (by omega)
        · refine .inr ⟨m, e, g1, by omega, g3, fun j h1 h2 => ?_⟩
          by_cases hj : j = i - 1
          · rw [hj]; exact hb
          · exact g4 j h1 (by omega)
    · rw [if_neg hp]
      exact .inl ⟨rfl, fun j _ => by omega⟩

theorem ut_wide (p : List UInt8) (hne : p ≠ []) : 1 ≤ (decodeLastL p).2 ∧ (decodeLastL p).2 ≤ p.length ∧ (p.length - (decodeLastL p).2) + (decodeL (p.drop (p.length - (decodeLastL p).2))).2 = p.length := by
  have hp : 0 < p.length := List.length_pos_iff.2 hne
  have hw := decodeLastL_width p hp
  refine ⟨hw.1, hw.2, ?_⟩
  have hone : (decodeL (p.drop (p.length - 1))).2 = 1 := by
    have h2 : (p.drop (p.length - 1)).length = 1 := by rw [List.length_drop]; omega
    have hn : p.drop (p.length - 1) ≠ [] := fun e => by rw [e] at h2; simp at h2
    have h3 := decodeL_le _ hn
    have h1 := decodeL_width (p.drop (p.length - 1))
    omega
  have hls := lastStart_lt' p hne
  unfold decodeLastL
  rw [if_neg hne]
  by_cases h8 : (p.getD (p.length - 1) 0).toNat < 128
  · rw [if_pos h8]
    dsimp only
    rw [hone]
    omega
  · rw [if_neg h8]
    dsimp only
    by_cases he : lastStart p + (decodeL (p.drop (lastStart p))).2 = p.length
    · rw [if_pos he]
      have e2 : p.length - (decodeL (p.drop (lastStart p))).2 = lastStart p := by omega
      rw [e2]
      exact he
    · rw [if_neg he]
      dsimp only
      rw [hone]
      omega
theorem ut_goB (s : ByteArray) (i : Nat) (hi : i < s.size) : decodeGoB (s.extract i s.size) = decodeL (s.data.toList.drop i) := by
  have e : (s.extract i s.size).data.toList = s.data.toList.drop i := Lib.extract_to_end s i
  have hz : (s.extract i s.size).size ≠ 0 := by
    rw [Lib.size_eq, e, List.length_drop, ← Lib.size_eq]
    omega
  unfold decodeGoB
  rw [if_neg hz]
  have h := Lib.decodeL_drop (s.extract i s.size) 0
  rw [List.drop_zero, e] at h
  exact h.symm
theorem ut_width (s : ByteArray) (m : Nat) (h0 : 0 < m) (hm : m ≤ s.size) (hs : m = s.size ∨ blk s m = true) : (m - (decodeLastL (s.data.toList.take m)).2) + (decodeGoB (s.extract (m - (decodeLastL (s.data.toList.take m)).2) s.size)).2 = m := by
  have hl : (s.data.toList.take m).length = m := by rw [List.length_take, ← Lib.size_eq]; omega
  have hne : s.data.toList.take m ≠ [] := fun e => by rw [e] at hl; simp at hl; omega
  obtain ⟨w1, w2, w3⟩ := ut_wide _ hne
  rw [hl] at w2 w3
  rw [ut_goB s _ (by omega)]
  generalize (decodeLastL (s.data.toList.take m)).2 = n at *
  have e : s.data.toList.drop (m - n) = (s.data.toList.take m).drop (m - n) ++ s.data.toList.drop m := by
    conv => lhs; rw [← List.take_append_drop m s.data.toList]
    rw [List.drop_append_of_le_length (by omega)]
  have ha : (s.data.toList.take m).drop (m - n) ≠ [] := by
    intro e
    have := congrArg List.length e
    rw [List.length_drop, hl] at this
    simp at this
    omega
  have e2 : decodeL (s.data.toList.drop (m - n)) = decodeL ((s.data.toList.take m).drop (m - n)) := by
    rw [e]
    rcases Nat.lt_or_ge m s.size with h | h
    · have hb : blk s m = true := hs.resolve_left (by omega)
      have hx := ut_drop s m h
      obtain ⟨b, t, hbt⟩ : ∃ b t, s.data.toList.drop m = b :: t := by
        cases hd : s.data.toList.drop m with
        | nil => exact absurd hd hx
        | cons b t => exact ⟨b, t, rfl⟩
      rw [hbt]
      refine ut_stop _ b t ha ?_
      have : (s.data.toList.drop m).getD 0 0 = b := by rw [hbt]; rfl
      rw [ut_getD, Nat.add_zero] at this
      rw [← this]
      exact ut_cases _ hb
    · have hnil : s.data.toList.drop m = [] := List.drop_eq_nil_of_le (by rw [← Lib.size_eq]; omega)
      rw [hnil, List.append_nil]
  rw [e2]
  exact w3

/-- Rune by rune: what strings.TrimFunc leaves. -/
theorem trim_is (s : ByteArray) : IsStrip s (trimF blankB s) := by
  unfold trimF
  rcases ut_first s s.size 0 (by omega) with ⟨e, g⟩ | ⟨k, e, _, g2, g3, g4⟩
  · have e1 : trimLeftF blankB s = ⟨#[]⟩ := by unfold trimLeftF idxFunc; rw [if_pos e]
    rw [e1]
    refine ⟨0, 0, Nat.le_refl _, Nat.zero_le _, ?_, fun j h => by omega, fun j _ h => g j (Nat.zero_le _) h, fun h => by omega⟩
    apply ut_ext
    unfold trimRightF
    rw [ut_cut, ut_cut]
    simp
  · have e1 : trimLeftF blankB s = s.extract k s.size := by
      unfold trimLeftF idxFunc
      rw [e, if_neg (by omega), Int.toNat_natCast]
    rw [e1]
    have hu : (s.extract k s.size).data.toList = s.data.toList.drop k := Lib.extract_to_end s k
    have hus : (s.extract k s.size).size = s.size - k := by rw [Lib.size_eq, hu, List.length_drop, ← Lib.size_eq]
    have hub : ∀ j, blk (s.extract k s.size) j = blk s (k + j) := fun j => by unfold blk; rw [hu, ut_getD]
    have hcut : ∀ m, (s.extract k s.size).extract 0 m = s.extract k (k + m) := fun m => by
      apply ut_ext
      rw [ut_cut (s.extract k s.size), hu, ut_cut, List.drop_zero, List.take_drop]
    generalize s.extract k s.size = u at *
    rcases ut_lastly u u.size u.size (Nat.le_refl _) (Nat.le_refl _) with ⟨_, g⟩ | ⟨m, e2, h1, h2, h3, h4⟩
    · exfalso
      have := g 0 (by omega)
      rw [hub, Nat.add_zero, g4] at this
      cases this
    · have e3 : rightEndF blankB u = m := by
        unfold rightEndF lastIdxFunc
        rw [e2, if_pos (by omega), Int.toNat_natCast]
        refine ut_width u m h1 h2 ?_
        rcases Nat.lt_or_ge m u.size with h | h
        · exact .inr (h4 m (Nat.le_refl _) h)
        · exact .inl (by omega)
      unfold trimRightF
      rw [e3]
      refine ⟨k, k + m, by omega, by omega, hcut m, fun j h => g3 j (Nat.zero_le _) h, fun j a b => ?_, fun _ => ⟨g4, ?_⟩⟩
      · have := h4 (j - k) (by omega) (by omega)
        rw [hub] at this
        rwa [show k + (j - k) = j by omega] at this
      · rw [hub] at h3
        rwa [show k + (m - 1) = k + m - 1 by omega] at h3
theorem ut_size {s r : ByteArray} (h : IsStrip s r) : r.size ≤ s.size := by
  obtain ⟨k, m, _, _, rfl, _⟩ := h
  rw [ByteArray.size_extract]
  omega
end Go.Proofs.YtbefinbihopgfaaDoor
