/- Plain facts: texts to units and back. No program in this text. -/
import Derived.Test.YtipkdbhdpmkjcaaUEnc
import Derived.Lib.TrimAscii
namespace Go.Proofs.Ytipkdbhdpmkjcaa
open Go.RowKit Go.Lib

def okR (r : Nat) : Prop := r < 55296 ∨ (57344 ≤ r ∧ r ≤ 1114111)

theorem enc1 (r : Nat) (h : r < 128) : encodeRune (r : Int) = [UInt8.ofNat r] := by
  unfold encodeRune
  rw [encodeRuneZ_one (by omega) (by omega), u8eq r (r : Int) rfl]
  rfl
theorem enc2 (r : Nat) (h0 : 128 ≤ r) (h : r < 2048) : encodeRune (r : Int) = [UInt8.ofNat (192 + r / 64), UInt8.ofNat (128 + r % 64)] := by
  unfold encodeRune
  rw [encodeRuneZ_two (by omega) (by omega), u8eq (192 + r / 64) (192 + (r : Int) / 64) (by omega), u8eq (128 + r % 64) (128 + (r : Int) % 64) (by omega)]
  rfl
theorem enc3 (r : Nat) (h0 : 2048 ≤ r) (h : r < 55296 ∨ (57344 ≤ r ∧ r < 65536)) : encodeRune (r : Int) = [UInt8.ofNat (224 + r / 4096), UInt8.ofNat (128 + r / 64 % 64), UInt8.ofNat (128 + r % 64)] := by
  unfold encodeRune
  rw [encodeRuneZ_three (by omega), u8eq (224 + r / 4096) (224 + (r : Int) / 4096) (by omega), u8eq (128 + r / 64 % 64) (128 + (r : Int) / 64 % 64) (by omega), u8eq (128 + r % 64) (128 + (r : Int) % 64) (by omega)]
  rfl
theorem enc4 (r : Nat) (h0 : 65536 ≤ r) (h : r ≤ 1114111) : encodeRune (r : Int) = [UInt8.ofNat (240 + r / 262144), UInt8.ofNat (128 + r / 4096 % 64), UInt8.ofNat (128 + r / 64 % 64), UInt8.ofNat (128 + r % 64)] := by
  unfold encodeRune
  rw [encodeRuneZ_four (by omega) (by omega), u8eq (240 + r / 262144) (240 + (r : Int) / 262144) (by omega), u8eq (128 + r / 4096 % 64) (128 + (r : Int) / 4096 % 64) (by omega), u8eq (128 + r / 64 % 64) (128 + (r : Int) / 64 % 64) (by omega), u8eq (128 + r % 64) (128 + (r : Int) % 64) (by omega)]
  rfl
theorem toNat8 (n : Nat) (h : n < 256) : (UInt8.ofNat n).toNat = n := by
  simp
  omega

theorem decode_encode (r : Nat) (l : List UInt8) (h : okR r) : decodeL (encodeRune (r : Int) ++ l) = (r, (encodeRune (r : Int)).length) := by
  unfold okR at h
  by_cases h1 : r < 128
  · rw [enc1 r h1]
    show decodeL (UInt8.ofNat r :: l) = _
    rw [decodeL_ascii _ _ (by rw [toNat8 r (by omega)]; exact h1), toNat8 r (by omega)]
    rfl
  · by_cases h2 : r < 2048
    · rw [enc2 r (by omega) h2, decodeL_N]
      have t0 := toNat8 (192 + r / 64) (by omega)
      have t1 := toNat8 (128 + r % 64) (by omega)
      show decodeN (l.length + 2) (UInt8.ofNat (192 + r / 64)).toNat (UInt8.ofNat (128 + r % 64)).toNat _ _ = (r, 2)
      rw [t0, t1]
      unfold decodeN
      rw [if_neg (by omega), if_pos (by omega), if_pos (by omega)]
      refine Prod.ext ?_ rfl
      show (192 + r / 64) % 32 * 64 + (128 + r % 64) % 64 = r
      omega
    · by_cases h3 : r < 65536
      · rw [enc3 r (by omega) (by omega), decodeL_N]
        have t0 := toNat8 (224 + r / 4096) (by omega)
        have t1 := toNat8 (128 + r / 64 % 64) (by omega)
        have t2 := toNat8 (128 + r % 64) (by omega)
        show decodeN (l.length + 3) (UInt8.ofNat (224 + r / 4096)).toNat (UInt8.ofNat (128 + r / 64 % 64)).toNat (UInt8.ofNat (128 + r % 64)).toNat _ = (r, 3)
        rw [t0, t1, t2]
        unfold decodeN
        have e : (224 + r / 4096) % 16 * 4096 + (128 + r / 64 % 64) % 64 * 64 + (128 + r % 64) % 64 = r := by omega
        rw [if_neg (by omega), if_neg (by omega), if_pos (by omega), e, if_pos (by omega)]
      · rw [enc4 r (by omega) (by omega), decodeL_N]
        have t0 := toNat8 (240 + r / 262144) (by omega)
        have t1 := toNat8 (128 + r / 4096 % 64) (by omega)
        have t2 := toNat8 (128 + r / 64 % 64) (by omega)
        have t3 := toNat8 (128 + r % 64) (by omega)
        show decodeN (l.length + 4) (UInt8.ofNat (240 + r / 262144)).toNat (UInt8.ofNat (128 + r / 4096 % 64)).toNat (UInt8.ofNat (128 + r / 64 % 64)).toNat (UInt8.ofNat (128 + r % 64)).toNat = (r, 4)
        rw [t0, t1, t2, t3]
        unfold decodeN
        have e : (240 + r / 262144) % 8 * 262144 + (128 + r / 4096 % 64) % 64 * 4096 + (128 + r / 64 % 64) % 64 * 64 + (128 + r % 64) % 64 = r := by omega
        rw [if_neg (by omega), if_neg (by omega), if_neg (by omega), if_pos (by omega), e, if_pos (by omega)]

theorem encode_ne (r : Nat) (h : okR r) (l : List UInt8) : encodeRune (r : Int) ++ l ≠ [] := by
  unfold okR at h
  by_cases h1 : r < 128
  · rw [enc1 r h1]; simp
  · by_cases h2 : r < 2048
    · rw [enc2 r (by omega) h2]; simp
    · by_cases h3 : r < 65536
      · rw [enc3 r (by omega) (by omega)]; simp
      · rw [enc4 r (by omega) (by omega)]; simp

theorem unD_encode (r : Nat) (l : List UInt8) (h : okR r) : unD (encodeRune (r : Int) ++ l) = unitsR r ++ unD l := by
  rw [unD_step _ (encode_ne r h l), decode_encode r l h]
  simp

/-- How many bytes a rune takes. -/
def widthR (r : Nat) : Nat := if r < 128 then 1 else if r < 2048 then 2 else if r < 65536 then 3 else 4
def vlGo : Nat → List UInt8 → Nat
  | 0, _ => 0
  | n + 1, l => if l = [] then 0 else widthR (decodeL l).1 + vlGo n (l.drop (decodeL l).2)
/-- How many bytes a text's runes take. -/
def vlD (l : List UInt8) : Nat := vlGo l.length l
theorem vlGo_nil : ∀ n, vlGo n [] = 0
  | 0 => rfl
  | _ + 1 => by simp [vlGo]
theorem vlGo_fuel : ∀ (n m : Nat) (l : List UInt8), l.length ≤ n → l.length ≤ m → vlGo n l = vlGo m l
  | 0, m, l, h, _ => by
    have : l = [] := List.eq_nil_of_length_eq_zero (by omega)
    subst this
    rw [vlGo_nil, vlGo_nil]
  | n + 1, 0, l, _, h => by
    have : l = [] := List.eq_nil_of_length_eq_zero (by omega)
    subst this
    rw [vlGo_nil, vlGo_nil]
  | n + 1, m + 1, l, h1, h2 => by
    unfold vlGo
    by_cases hne : l = []
    · rw [if_pos hne, if_pos hne]
    · have hw := decodeL_width l
      have hl : 0 < l.length := List.length_pos_iff.2 hne
      rw [if_neg hne, if_neg hne, vlGo_fuel n m _ (by rw [List.length_drop]; omega) (by rw [List.length_drop]; omega)]
theorem vlD_nil : vlD [] = 0 := rfl
theorem vlD_step (l : List UInt8) (hne : l ≠ []) : vlD l = widthR (decodeL l).1 + vlD (l.drop (decodeL l).2) := by
  unfold vlD
  have hw := decodeL_width l
  have hl : 0 < l.length := List.length_pos_iff.2 hne
  obtain ⟨n, hn⟩ : ∃ n, l.length = n + 1 := ⟨l.length - 1, by omega⟩
  rw [hn]
  conv => lhs; unfold vlGo
  rw [if_neg hne, vlGo_fuel n (l.drop (decodeL l).2).length _ (by rw [List.length_drop]; omega) (Nat.le_refl _)]

theorem decode_ok (l : List UInt8) : okR (decodeL l).1 ∧ (decodeL l).2 ≤ widthR (decodeL l).1 ∧ (widthR (decodeL l).1 = (decodeL l).2 → ¬ ((decodeL l).1 = 65533 ∧ (decodeL l).2 = 1)) := by
  rw [decodeL_N]
  have k0 := (l.getD 0 0).toNat_lt
  have k1 := (l.getD 1 0).toNat_lt
  have k2 := (l.getD 2 0).toNat_lt
  have k3 := (l.getD 3 0).toNat_lt
  unfold okR widthR
  rcases decodeN_shape l.length (l.getD 0 0).toNat (l.getD 1 0).toNat (l.getD 2 0).toNat (l.getD 3 0).toNat with ⟨c, e⟩ | ⟨c1, c2, c3, cv, e⟩ | ⟨c1, c2, c3, c4, cv, cs, e⟩ | ⟨c1, c2, c3, c4, c5, cv, cw, e⟩ | e
  all_goals (rw [e]; dsimp only)
  · refine ⟨by omega, ?_, fun _ => by omega⟩
    rw [if_pos c]
    exact Nat.le_refl _
  · refine ⟨by omega, ?_, fun _ => by omega⟩
    rw [if_neg (by omega), if_pos (by omega)]
    exact Nat.le_refl _
  · refine ⟨by omega, ?_, fun _ => by omega⟩
    rw [if_neg (by omega), if_neg (by omega), if_pos (by omega)]
    exact Nat.le_refl _
  · refine ⟨by omega, ?_, fun _ => by omega⟩
    rw [if_neg (by omega), if_neg (by omega), if_neg (by omega)]
    exact Nat.le_refl _
  · refine ⟨by omega, by decide, fun h => absurd h (by decide)⟩

theorem vlD_ge : ∀ (n : Nat) (l : List UInt8), l.length ≤ n → l.length ≤ vlD l
  | 0, l, hn => by omega
  | n + 1, l, hn => by
    by_cases hne : l = []
    · subst hne; simp
    · have hw := decodeL_width l
      have ho := (decode_ok l).2.1
      have hle := decodeL_le l hne
      have ih := vlD_ge n (l.drop (decodeL l).2) (by rw [List.length_drop]; omega)
      rw [vlD_step l hne]
      rw [List.length_drop] at ih
      omega

theorem txD_units (r : Nat) (rest : List Nat) (h : okR r) : txD (unitsR r ++ rest) = (r :: (txD rest).1, (txD rest).2) := by
  unfold okR at h
  by_cases h1 : r < 65536
  · rw [show unitsR r = [r] from if_pos h1]
    have hh : hiB r = false := by simp [hiB]; omega
    have hl : loB r = false := by simp [loB]; omega
    refine txD_plain _ r rest rfl ?_ (by simp [hh, hl])
    cases rest with
    | nil => simp [pairB]
    | cons y t => simp [pairB, hh]
  · rw [show unitsR r = [55296 + (r - 65536) / 1024, 56320 + (r - 65536) % 1024] from if_neg h1]
    have e := txD_pair ([55296 + (r - 65536) / 1024, 56320 + (r - 65536) % 1024] ++ rest) _ _ rest rfl (by simp [hiB]; omega) (by simp [loB]; omega)
    rw [e]
    have : 65536 + (55296 + (r - 65536) / 1024 - 55296) * 1024 + (56320 + (r - 65536) % 1024 - 56320) = r := by omega
    rw [this]

/-- A text whose runes take as many bytes as it has comes back. -/
theorem there_back : ∀ (n : Nat) (l : List UInt8), l.length ≤ n → vlD l = l.length → textR (txD (unD l)).1 = l ∧ (txD (unD l)).2 = false
  | 0, l, hn, _ => by
    have : l = [] := List.eq_nil_of_length_eq_zero (by omega)
    subst this
    exact ⟨rfl, rfl⟩
  | n + 1, l, hn, hv => by
    by_cases hne : l = []
    · subst hne; exact ⟨rfl, rfl⟩
    · have hw := decodeL_width l
      obtain ⟨ho, ho1, ho2⟩ := decode_ok l
      have hle := decodeL_le l hne
      have hge := vlD_ge (l.drop (decodeL l).2).length (l.drop (decodeL l).2) (Nat.le_refl _)
      rw [vlD_step l hne] at hv
      rw [List.length_drop] at hge
      have hwe : widthR (decodeL l).1 = (decodeL l).2 := by omega
      have hgood := ho2 hwe
      have ih := there_back n (l.drop (decodeL l).2) (by rw [List.length_drop]; omega) (by rw [List.length_drop]; omega)
      rw [unD_step l hne, txD_units _ _ ho]
      refine ⟨?_, ih.2⟩
      show encodeRune _ ++ textR _ = l
      rw [ih.1, encode_decode l hne hgood, List.take_append_drop]

/-- Units of which none stands alone come back. -/
theorem back_there : ∀ (n : Nat) (u : List Nat), u.length ≤ n → (∀ x ∈ u, x < 65536) → (txD u).2 = false → unD (textR (txD u).1) = u
  | 0, u, hn, _, _ => by
    have : u = [] := List.eq_nil_of_length_eq_zero (by omega)
    subst this
    rfl
  | n + 1, u, hn, hu, ha => by
    match u, hn, hu, ha with
    | [], _, _, _ => rfl
    | x :: t, hn, hu, ha =>
      have hx := hu x (by simp)
      by_cases hp : pairB (x :: t) = true
      · match t, hp, hn, hu, ha with
        | y :: t', hp, hn, hu, ha =>
          have hy := hu y (by simp)
          have hp2 : hiB x = true ∧ loB y = true := by simpa [pairB] using hp
          have e := txD_pair (x :: y :: t') x y t' rfl hp2.1 hp2.2
          have hxr : 55296 ≤ x ∧ x < 56320 := by simpa [hiB] using hp2.1
          have hyr : 56320 ≤ y ∧ y < 57344 := by simpa [loB] using hp2.2
          rw [e] at ha ⊢
          have ih := back_there n t' (by simp at hn; omega) (fun z hz => hu z (by simp [hz])) ha
          show unD (encodeRune _ ++ textR _) = _
          rw [unD_encode _ _ (Or.inr (by omega)), ih]
          rw [show unitsR (65536 + (x - 55296) * 1024 + (y - 56320)) = [x, y] by
            unfold unitsR
            have e1 : 55296 + (65536 + (x - 55296) * 1024 + (y - 56320) - 65536) / 1024 = x := by omega
            have e2 : 56320 + (65536 + (x - 55296) * 1024 + (y - 56320) - 65536) % 1024 = y := by omega
            rw [if_neg (by omega), e1, e2]]
          rfl
      · by_cases ho : (hiB x || loB x) = true
        · rw [txD_alone (x :: t) x t rfl hp ho] at ha
          cases ha
        · have ho' : (hiB x || loB x) = false := by simpa using ho
          have e := txD_plain (x :: t) x t rfl hp ho'
          rw [e] at ha ⊢
          have ih := back_there n t (by simp at hn; omega) (fun z hz => hu z (by simp [hz])) ha
          simp only [Bool.or_eq_false_iff] at ho'
          have h1 : ¬ (55296 ≤ x ∧ x < 56320) := by simpa [hiB] using ho'.1
          have h2 : ¬ (56320 ≤ x ∧ x < 57344) := by simpa [loB] using ho'.2
          show unD (encodeRune _ ++ textR _) = _
          rw [unD_encode _ _ (show x < 55296 ∨ (57344 ≤ x ∧ x ≤ 1114111) by omega), ih, show unitsR x = [x] from if_pos hx]
          rfl
end Go.Proofs.Ytipkdbhdpmkjcaa
