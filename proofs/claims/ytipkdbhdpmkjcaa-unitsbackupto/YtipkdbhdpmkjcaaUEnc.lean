/- Plain facts on how runes are written: no program in this text. -/
import Derived.Test.YtipkdbhdpmkjcaaUPlain
import Derived.Laws.Cover4
namespace Go.Proofs.Ytipkdbhdpmkjcaa
open Go.RowKit Go.Lib

theorem u8eq (n : Nat) (z : Int) (h : z = (n : Int)) : UInt8.ofNat n = z.toNat.toUInt8 := by
  subst h
  rfl
theorem enc_eq (r : Nat) (h : r ≤ 1114111) : (Utf8.encode (r : Int)).data.toList = encodeRune (r : Int) := by
  unfold Utf8.encode encodeRune
  by_cases hv : Utf8.valid (r : Int) = true
  · simp only [hv, if_true, Int.toNat_natCast]
    have hv' : r < 55296 ∨ 57344 ≤ r := by
      simp [Utf8.valid] at hv
      omega
    by_cases h1 : r < 128
    · rw [encodeRuneZ_one (by omega) (by omega), if_pos h1]
      show [UInt8.ofNat r] = [_]
      rw [u8eq r (r : Int) rfl]
    · by_cases h2 : r < 2048
      · rw [encodeRuneZ_two (by omega) (by omega), if_neg h1, if_pos h2]
        show [UInt8.ofNat _, UInt8.ofNat _] = [_, _]
        rw [u8eq (192 + r / 64) (192 + (r : Int) / 64) (by omega), u8eq (128 + r % 64) (128 + (r : Int) % 64) (by omega)]
      · by_cases h3 : r < 65536
        · rw [encodeRuneZ_three (by omega), if_neg h1, if_neg h2, if_pos h3]
          show [UInt8.ofNat _, UInt8.ofNat _, UInt8.ofNat _] = [_, _, _]
          rw [u8eq (224 + r / 4096) (224 + (r : Int) / 4096) (by omega), u8eq (128 + r / 64 % 64) (128 + (r : Int) / 64 % 64) (by omega), u8eq (128 + r % 64) (128 + (r : Int) % 64) (by omega)]
        · rw [encodeRuneZ_four (by omega) (by omega), if_neg h1, if_neg h2, if_neg h3]
          show [UInt8.ofNat _, UInt8.ofNat _, UInt8.ofNat _, UInt8.ofNat _] = [_, _, _, _]
          rw [u8eq (240 + r / 262144) (240 + (r : Int) / 262144) (by omega), u8eq (128 + r / 4096 % 64) (128 + (r : Int) / 4096 % 64) (by omega), u8eq (128 + r / 64 % 64) (128 + (r : Int) / 64 % 64) (by omega), u8eq (128 + r % 64) (128 + (r : Int) % 64) (by omega)]
  · have hv' : 55296 ≤ r ∧ r ≤ 57343 := by
      simp [Utf8.valid] at hv
      omega
    rw [encodeRuneZ_bad (by omega)]
    simp only [hv, Bool.false_eq_true, if_false]
    decide

theorem foldl_enc : ∀ (l : List Nat) (s : ByteArray), (∀ r ∈ l, r ≤ 1114111) → ((l.map (fun r : Nat => (r : Int))).foldl (fun r n => r ++ Utf8.encode n) s).data.toList = s.data.toList ++ textR l
  | [], s, _ => by simp [textR]
  | x :: t, s, h => by
    rw [List.map_cons, List.foldl_cons, foldl_enc t _ (fun r hr => h r (List.mem_cons_of_mem _ hr))]
    rw [ByteArray.data_append, Array.toList_append, enc_eq x (h x (by simp))]
    simp [textR]
theorem runesBytes_eq (l : List Nat) (h : ∀ r ∈ l, r ≤ 1114111) : runesBytes (l.map (fun r : Nat => (r : Int))) = ⟨(textR l).toArray⟩ := by
  have e := foldl_enc l ByteArray.empty h
  unfold runesBytes
  generalize (l.map (fun r : Nat => (r : Int))).foldl (fun r n => r ++ Utf8.encode n) ByteArray.empty = b at e
  have e0 : ByteArray.empty.data.toList = [] := rfl
  rw [e0, List.nil_append] at e
  rw [← e]

theorem txD_le : ∀ (n : Nat) (u : List Nat), u.length ≤ n → (∀ x ∈ u, x < 65536) → ∀ r ∈ (txD u).1, r ≤ 1114111
  | 0, u, hn, _ => by
    have : u = [] := List.eq_nil_of_length_eq_zero (by omega)
    subst this
    intro r hr
    simp [txD_nil] at hr
  | n + 1, u, hn, hu => by
    by_cases hne : u = []
    · subst hne
      intro r hr
      simp [txD_nil] at hr
    · intro r hr
      have hl := headT_le u hne
      rw [txD_step u hne] at hr
      rcases List.mem_cons.1 hr with e | hr'
      · rw [e]
        match u, hne, hu with
        | [x], _, hu =>
          have := hu x (by simp)
          simp only [headT, pairB]
          by_cases h : (hiB x || loB x) = true
          · simp [h]
          · simp [h]; omega
        | x :: y :: t, _, hu =>
          have h1 := hu x (by simp)
          have h2 := hu y (by simp)
          simp only [headT, pairB]
          by_cases h : (hiB x && loB y) = true
          · simp only [h, if_true, List.headD_cons]
            simp [hiB, loB] at h
            omega
          · by_cases h3 : (hiB x || loB x) = true
            · simp [h, h3]
            · simp [h, h3]; omega
      · exact txD_le n _ (by rw [List.length_drop]; omega) (fun x hx => hu x (List.mem_of_mem_drop hx)) r hr'
end Go.Proofs.Ytipkdbhdpmkjcaa
