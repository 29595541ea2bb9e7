/- Plain facts: a rune put behind a text; two names with a colon between. No walk in this text. -/
import Derived.Test.YtomlbkkoodileacDoorAmong
import Derived.Lib.SmallJoins
namespace Go.Proofs.YtomlbkkoodileacDoor
open Go.RowKit Go.Lib

theorem ofNat_toNat (n : Nat) (h : n < 256) : (UInt8.ofNat n).toNat = n := by simp [UInt8.toNat_ofNat']; omega

set_option maxRecDepth 100000 in
/-- A rune's own bytes are read as that rune, all of them. -/
theorem enc_decode (c : Nat) (h1 : c ≤ 1114111) (h2 : c < 55296 ∨ 57343 < c) :
    decodeL (Utf8.encode (c : Int)).data.toList = (c, (Utf8.encode (c : Int)).data.toList.length) ∧ (Utf8.encode (c : Int)).data.toList ≠ [] ∧ ¬ badStep (Utf8.encode (c : Int)).data.toList := by
  have hv : Utf8.valid (c : Int) = true := by
    unfold Utf8.valid
    simp only [Bool.or_eq_true, Bool.and_eq_true, decide_eq_true_eq]
    omega
  unfold badStep Utf8.encode
  simp only [hv, if_true, Int.toNat_natCast]
  by_cases c1 : c < 128
  · simp only [if_pos c1]
    rw [decodeL_N]
    simp only [List.getD_cons_zero, List.length_cons, List.length_nil]
    rw [ofNat_toNat c (by omega)]
    unfold decodeN
    rw [if_pos c1]
    exact ⟨rfl, by simp, by simp; omega⟩
  · simp only [if_neg c1]
    by_cases c2 : c < 2048
    · simp only [if_pos c2]
      rw [decodeL_N]
      simp only [List.getD_cons_zero, List.getD_cons_succ, List.length_cons, List.length_nil]
      rw [ofNat_toNat _ (by omega), ofNat_toNat _ (by omega)]
      unfold decodeN
      rw [if_neg (by omega), if_pos (by omega), if_pos (by omega)]
      exact ⟨Prod.ext (by dsimp only; omega) rfl, by simp, by simp⟩
    · simp only [if_neg c2]
      by_cases c3 : c < 65536
      · simp only [if_pos c3]
        rw [decodeL_N]
        simp only [List.getD_cons_zero, List.getD_cons_succ, List.length_cons, List.length_nil]
        rw [ofNat_toNat _ (by omega), ofNat_toNat _ (by omega), ofNat_toNat _ (by omega)]
        unfold decodeN
        rw [if_neg (by omega), if_neg (by omega), if_pos (by omega), if_pos (by omega)]
        exact ⟨Prod.ext (by dsimp only; omega) rfl, by simp, by simp⟩
      · simp only [if_neg c3]
        rw [decodeL_N]
        simp only [List.getD_cons_zero, List.getD_cons_succ, List.length_cons, List.length_nil]
        rw [ofNat_toNat _ (by omega), ofNat_toNat _ (by omega), ofNat_toNat _ (by omega), ofNat_toNat _ (by omega)]
        unfold decodeN
        rw [if_neg (by omega), if_neg (by omega), if_neg (by omega), if_pos (by omega), if_pos (by omega)]
        exact ⟨Prod.ext (by dsimp only; omega) rfl, by simp, by simp⟩

theorem enc_valid (c : Nat) (h1 : c ≤ 1114111) (h2 : c < 55296 ∨ 57343 < c) (q : Int → Bool) :
    validD (Utf8.encode (c : Int)).data.toList = true ∧ allR q (Utf8.encode (c : Int)).data.toList = q (c : Int) := by
  obtain ⟨hd, hne, hb⟩ := enc_decode c h1 h2
  have hnb : ¬ ((decodeL (Utf8.encode (c : Int)).data.toList).1 = 65533 ∧ (decodeL (Utf8.encode (c : Int)).data.toList).2 = 1) := hb
  constructor
  · rw [validD_step _ hne, if_neg hnb, hd, List.drop_length]
    rfl
  · rw [allR_step _ _ hne, hd, List.drop_length, allR_nil, Bool.and_true]

theorem name_longer (s : ByteArray) (c : Nat) (h1 : c ≤ 1114111) (h2 : c < 55296 ∨ 57343 < c) (hs : nameB s.data.toList = true) : nameB (s ++ Utf8.encode (c : Int)).data.toList = partB (c : Int) := by
  rw [Joins.data_append]
  unfold nameB at hs ⊢
  rw [runs_app startB partB _ _ hs (enc_valid c h1 h2 partB).1, (enc_valid c h1 h2 partB).2]

theorem index_at (a b : List UInt8) (h : a.contains 58 = false) : Lib.indexByte (a ++ ([58] ++ b)) 58 = (a.length : Int) := by
  have hg := Lib.indexByte_ge (a ++ ([58] ++ b)) 58
  have hat : (a ++ ([58] ++ b))[a.length]? = some 58 := by simp
  rcases (by omega : Lib.indexByte (a ++ ([58] ++ b)) 58 = -1 ∨ 0 ≤ Lib.indexByte (a ++ ([58] ++ b)) 58) with g | g
  · exact absurd hat (Lib.indexByte_none g a.length)
  · obtain ⟨k, hk⟩ := Int.eq_ofNat_of_zero_le g
    obtain ⟨hc, hf⟩ := Lib.indexByte_some hk
    have hle : k ≤ a.length := Nat.le_of_not_lt fun hlt => hf _ hlt hat
    rcases Nat.lt_or_ge k a.length with hlt | hge
    · rw [List.getElem?_append_left hlt] at hc
      have hm : (58 : UInt8) ∈ a := List.mem_of_getElem? hc
      rw [← List.contains_iff_mem, h] at hm
      cases hm
    · rw [hk]; omega

theorem nc_no_colon (l : List UInt8) (h : ncB l = true) : l.contains 58 = false := by
  rw [nc_name, Bool.and_eq_true] at h
  simpa using h.2

theorem qname_two (a b : List UInt8) (h : a.contains 58 = false) : qnameB (a ++ ([58] ++ b)) = (ncB a && ncB b) := by
  rw [qnameB_at _ _ (index_at a b h), List.take_left]
  have : (a ++ ([58] ++ b)).drop (a.length + 1) = b := by
    rw [← List.drop_drop, List.drop_left]
    rfl
  rw [this]

theorem qname_three (a b : List UInt8) (h : a.contains 58 = false) : qnameB (a ++ ([58] ++ (b ++ ([58] ++ a)))) = false := by
  rw [qname_two a _ h]
  have : ncB (b ++ ([58] ++ a)) = false := by
    rw [nc_name]
    have : (b ++ ([58] ++ a)).contains 58 = true := by simp
    rw [this]
    simp
  rw [this]
  simp

theorem sep_data (s t : ByteArray) : (s ++ ⟨#[58]⟩ ++ t).data.toList = s.data.toList ++ ([58] ++ t.data.toList) := by
  rw [Joins.data_append, Joins.data_append, List.append_assoc]
theorem sep3_data (s t : ByteArray) : (s ++ ⟨#[58]⟩ ++ t ++ ⟨#[58]⟩ ++ s).data.toList = s.data.toList ++ ([58] ++ (t.data.toList ++ ([58] ++ s.data.toList))) := by
  rw [Joins.data_append, Joins.data_append, sep_data]
  simp [List.append_assoc]

theorem bytes_ext {a b : ByteArray} (h : a.data.toList = b.data.toList) : a = b := by
  cases a; cases b
  simp only at h
  rw [ByteArray.mk.injEq]
  exact Array.toList_inj.1 h

theorem split_two (s t : ByteArray) (hs : ncB s.data.toList = true) (ht : ncB t.data.toList = true) : splitS (s ++ ⟨#[58]⟩ ++ t) = (s, t) := by
  have hc := nc_no_colon _ hs
  have hi : Lib.indexByte (s ++ ⟨#[58]⟩ ++ t).data.toList 58 = (s.data.toList.length : Int) := by rw [sep_data]; exact index_at _ _ hc
  have htk : (s ++ ⟨#[58]⟩ ++ t).data.toList.take s.data.toList.length = s.data.toList := by rw [sep_data, List.take_left]
  have hdr : (s ++ ⟨#[58]⟩ ++ t).data.toList.drop (s.data.toList.length + 1) = t.data.toList := by
    rw [sep_data, ← List.drop_drop, List.drop_left]; rfl
  unfold splitS
  rw [if_neg (by rw [hi]; omega), hi, Int.toNat_natCast, htk, hdr, hs, ht, Bool.and_self, if_pos rfl]
  refine Prod.ext (bytes_ext ?_) (bytes_ext ?_)
  · show ((s ++ ⟨#[58]⟩ ++ t).extract 0 s.data.toList.length).data.toList = _
    rw [Lib.extract_from_zero, htk]
  · show ((s ++ ⟨#[58]⟩ ++ t).extract (s.data.toList.length + 1) (s ++ ⟨#[58]⟩ ++ t).size).data.toList = _
    rw [Lib.extract_to_end, hdr]
end Go.Proofs.YtomlbkkoodileacDoor
