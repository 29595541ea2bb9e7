/- What is taken apart, put together, is what there was: plain facts. -/
import Derived.Test.YtipkdbhdpmkjcacDoorRight
import Derived.Test.YtipkdbhdpmkjcacDoorConcat
import Derived.Lib.SmallJoins
namespace Go.Proofs.YtipkdbhdpmkjcacDoor
open Go.RowKit Go.Lib

theorem bytes_ext' {a b : ByteArray} (h : a.data.toList = b.data.toList) : a = b := by
  cases a; cases b
  simp only at h
  rw [ByteArray.mk.injEq]
  exact Array.toList_inj.1 h

theorem qual_split (q : ByteArray) (h : validateE q = 0) : qualS (splitS q).1 (splitS q).2 = q := by
  have hq : qnameB q.data.toList = true := by
    unfold validateE at h
    split at h
    · omega
    · split at h
      · assumption
      · omega
  rcases colon_at q with hi | ⟨k, hk, hi⟩
  · have e1 : splitS q = (⟨#[]⟩, q) := if_pos hi
    rw [e1]
    have he : (⟨#[]⟩ : ByteArray).toList.isEmpty = true := by rw [Lib.toList_data]; rfl
    show qualS ⟨#[]⟩ q = q
    unfold qualS
    rw [he, if_pos rfl]
  · rw [qnameB_at _ k hi] at hq
    have e1 : splitS q = (q.extract 0 k, q.extract (k + 1) q.size) := by
      unfold splitS
      rw [if_neg (by rw [hi]; omega), hi, Int.toNat_natCast, if_pos hq]
    rw [e1]
    rw [Bool.and_eq_true] at hq
    have hne : (q.extract 0 k).toList.isEmpty = false := by
      rw [Lib.toList_data, Lib.extract_from_zero]
      have := (runs_valid _ _ _ hq.1).1
      simpa using this
    unfold qualS
    rw [hne, if_neg (by decide)]
    apply bytes_ext'
    rw [Joins.data_append, Joins.data_append, Lib.extract_from_zero, Lib.extract_to_end]
    have hc := (Lib.indexByte_some hi).1
    have hlt := (List.getElem?_eq_some_iff.1 hc).1
    have hck := (List.getElem?_eq_some_iff.1 hc).2
    have hl : q.data.toList = q.data.toList.take k ++ ([58] ++ q.data.toList.drop (k + 1)) := by
      conv => lhs; rw [← List.take_append_drop k q.data.toList]
      rw [List.drop_eq_getElem_cons hlt, hck]
      rfl
    conv => rhs; rw [hl]
    rw [List.append_assoc]

theorem extract_zero (sp q : ByteArray) (h : extractE sp q = 0) : validateE q = 0 := by
  unfold extractE at h
  split at h
  · omega
  · split at h
    · rename_i hv
      exact absurd h hv
    · rename_i hv
      simpa using hv

theorem extractN_zero (sp q : ByteArray) (h : extractE sp q = 0) : extractN sp q = (sp, (splitS q).1, (splitS q).2) := if_pos h
theorem extractN_not (sp q : ByteArray) (h : ¬ extractE sp q = 0) : extractN sp q = (noBytes, noBytes, noBytes) := if_neg h

theorem right_of_extract (sp q : ByteArray) (h : extractE sp q = 0) : rightB sp (splitS q).1 (splitS q).2 = true := by
  unfold rightB
  rw [qual_split q (extract_zero sp q h), extractN_zero sp q h, h]
  simp

theorem split_le (q : ByteArray) : (splitS q).1.size ≤ q.size ∧ (splitS q).2.size ≤ q.size := by
  unfold splitS
  split
  · exact ⟨Nat.zero_le _, Nat.le_refl _⟩
  · split
    · exact ⟨cut_le _ _ _, cut_le _ _ _⟩
    · exact ⟨Nat.zero_le _, Nat.le_refl _⟩
end Go.Proofs.YtipkdbhdpmkjcacDoor
