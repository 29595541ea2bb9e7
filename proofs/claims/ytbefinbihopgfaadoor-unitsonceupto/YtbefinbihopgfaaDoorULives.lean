/- The walk of the law's 'lives'. -/
import Derived.Test.YtbefinbihopgfaaDoorUCmp
namespace Go.Proofs.YtbefinbihopgfaaDoor
open Go.RowKit Go.Lib

theorem own_RdU {w : World} {B n : Nat} {v : Value} {us : List Nat} (h : w.ownsRow B 45 1 v n (us.map unitV)) : RdU w v us := by
  have hl := h.1
  rw [List.length_map, Nat.mul_one] at hl
  rcases h.2 with ⟨hv, h0⟩ | ⟨g, cap, cur, hv, _, hg, hn, hm, hcs, ht⟩
  · left
    refine ⟨none, 0, hv, List.eq_nil_of_length_eq_zero (by omega)⟩
  · right
    rw [Nat.mul_one] at hcs ht
    refine ⟨⟨g, 0, none⟩, cap, by rw [hl]; exact hv, (Array.getElem?_eq_some_iff.1 hg).1, by omega, hm, fun j hj => ?_⟩
    rw [Addr.add_lit, Nat.zero_add, cell_of_heap hg]
    have hj2 : j < n := by omega
    have := congrArg (fun l => l[j]?) ht
    simp only [List.getElem?_take, hj2, if_true, List.getElem?_map, Array.getElem?_toList] at this
    rw [this, List.getElem?_eq_getElem hj]
    rfl

theorem CellsS.rd {w : World} {A : Nat} {ws : List ByteArray} (h : CellsS w A ws) (cap : Nat) : RdS w (.slice (some ⟨A, 0, none⟩) ws.length cap) ws :=
  ⟨_, _, rfl, fun _ => ⟨_, rfl, h.lt, fun j hj => by rw [Addr.add_lit, Nat.zero_add]; exact h.cell j hj⟩⟩

theorem fact_of : unD [97, 240, 159, 152, 128] = [97, 55357, 56832] := by decide +kernel
theorem fact_text : textR (txD [56832, 97]).1 = [239, 191, 189, 97] := by decide +kernel
theorem fact_alone : (txD [56832, 97]).2 = true := by decide +kernel
theorem fact_words : wordsOf ⟨#[32, 97, 32, 32, 98, 9, 99, 32]⟩ = [⟨#[97]⟩, ⟨#[98]⟩, ⟨#[99]⟩] := by decide +kernel
theorem fact_fold : foldB ⟨#[68, 73, 86]⟩ ⟨#[100, 105, 118]⟩ = true := by decide +kernel
theorem fact_nofold : foldB ⟨#[197, 191]⟩ ⟨#[83]⟩ = false := by decide +kernel
theorem fact_strings : sameSd [⟨#[97]⟩, ⟨#[98]⟩, ⟨#[99]⟩] [⟨#[97]⟩, ⟨#[98]⟩, ⟨#[99]⟩] = true := by decide +kernel
theorem fact_wrap : IntKind.u32.wrap (-1) = 4294967295 := by decide +kernel

theorem lives_of (w : World) : Calls Tryd.prog 34 #[.string ⟨#[97, 240, 159, 152, 128]⟩] w fun e w' => ∃ v, e = .returned (.tuple #[v, .int .i64 0]) ∧ RdU w' v [97, 55357, 56832] ∧ Below w.heap.size w w' := by
  refine (of_any ⟨#[97, 240, 159, 152, 128]⟩ w).mono ?_
  rintro e w' ⟨hb, h⟩
  have e1 : unD (⟨#[97, 240, 159, 152, 128]⟩ : ByteArray).data.toList = [97, 55357, 56832] := fact_of
  rw [e1] at h
  rcases h with ⟨h, _⟩ | ⟨_, v, rfl, ho⟩
  · simp at h
  · exact ⟨v, rfl, own_RdU ho, hb⟩

theorem two_RdU (w : World) (t : TypeId) (x y : Nat) : RdU (w.alloc (.cells #[.int .u16 (x : Int), .int .u16 (y : Int)] t)) (.slice (some ⟨w.heap.size, 0, none⟩) 2 2) [x, y] := by
  right
  refine ⟨_, 2, rfl, by simp, Nat.le_refl _, by unfold maxLen; omega, fun j hj => ?_⟩
  rw [Addr.add_lit, Nat.zero_add, cell_of_heap (alloc_at w _)]
  match j, hj with
  | 0, _ => rfl
  | 1, _ => rfl
theorem three_RdU (w : World) (t : TypeId) (x y z : Nat) : RdU (w.alloc (.cells #[.int .u16 (x : Int), .int .u16 (y : Int), .int .u16 (z : Int)] t)) (.slice (some ⟨w.heap.size, 0, none⟩) 3 3) [x, y, z] := by
  right
  refine ⟨_, 3, rfl, by simp, Nat.le_refl _, by unfold maxLen; omega, fun j hj => ?_⟩
  rw [Addr.add_lit, Nat.zero_add, cell_of_heap (alloc_at w _)]
  match j, hj with
  | 0, _ => rfl
  | 1, _ => rfl
  | 2, _ => rfl
theorem three_RdS (w : World) (t : TypeId) (x y z : ByteArray) : RdS (w.alloc (.cells #[.string x, .string y, .string z] t)) (.slice (some ⟨w.heap.size, 0, none⟩) 3 3) [x, y, z] := by
  refine ⟨_, 3, rfl, fun _ => ⟨_, rfl, by simp, fun j hj => ?_⟩⟩
  rw [Addr.add_lit, Nat.zero_add, cell_of_heap (alloc_at w _)]
  match j, hj with
  | 0, _ => rfl
  | 1, _ => rfl
  | 2, _ => rfl

theorem lives_text (w : World) (t : TypeId) : Calls Tryd.prog 35 #[.slice (some ⟨w.heap.size, 0, none⟩) 2 2] (w.alloc (.cells #[.int .u16 56832, .int .u16 97] t)) fun e w' => e = .returned (.tuple #[.string ⟨#[239, 191, 189, 97]⟩, .bool true]) ∧ Below (w.heap.size + 1) (w.alloc (.cells #[.int .u16 56832, .int .u16 97] t)) w' := by
  refine (text_any _ [56832, 97] _ (two_RdU w t 56832 97) (by simp) (by simp)).mono ?_
  rintro e w' ⟨rfl, hb⟩
  rw [fact_text, fact_alone]
  exact ⟨rfl, by simpa using hb⟩

theorem lives_split (w : World) : Calls Tryd.prog 17 #[.string ⟨#[32, 97, 32, 32, 98, 9, 99, 32]⟩] w fun e w' => ∃ v, e = .returned v ∧ RdS w' v [⟨#[97]⟩, ⟨#[98]⟩, ⟨#[99]⟩] ∧ Below w.heap.size w w' := by
  refine (usplit_any _ w (by decide)).mono ?_
  rintro e w' ⟨A, rfl, hA, hc, hb⟩
  have h := hc.rd (wordsOf ⟨#[32, 97, 32, 32, 98, 9, 99, 32]⟩).length
  rw [fact_words] at h ⊢
  exact ⟨_, rfl, h, hb⟩

theorem lives_same (w : World) (v : Value) (t : TypeId) (h : RdU w v [97, 55357, 56832]) : Calls Tryd.prog 36 #[v, .slice (some ⟨w.heap.size, 0, none⟩) 3 3] (w.alloc (.cells #[.int .u16 97, .int .u16 55357, .int .u16 56832] t)) fun e w' => e = .returned (.bool true) ∧ Below w.heap.size w w' := by
  have hb0 : Below w.heap.size w (w.alloc (.cells #[.int .u16 97, .int .u16 55357, .int .u16 56832] t)) := (Below.refl _ w).alloc (Nat.le_refl _) _
  refine (rsame_any _ _ [97, 55357, 56832] [97, 55357, 56832] _ (h.later hb0) (three_RdU w t 97 55357 56832) (by simp) (by simp)).mono ?_
  rintro e w' ⟨rfl, hb⟩
  exact ⟨rfl, hb0.trans (hb.mono hb0.size)⟩
theorem lives_strings (w : World) (v : Value) (t : TypeId) (h : RdS w v [⟨#[97]⟩, ⟨#[98]⟩, ⟨#[99]⟩]) : Calls Tryd.prog 8 #[v, .slice (some ⟨w.heap.size, 0, none⟩) 3 3] (w.alloc (.cells #[.string ⟨#[97]⟩, .string ⟨#[98]⟩, .string ⟨#[99]⟩] t)) fun e w' => e = .returned (.bool true) ∧ Below w.heap.size w w' := by
  have hb0 : Below w.heap.size w (w.alloc (.cells #[.string ⟨#[97]⟩, .string ⟨#[98]⟩, .string ⟨#[99]⟩] t)) := (Below.refl _ w).alloc (Nat.le_refl _) _
  refine (rstrings_any _ _ _ _ _ (h.later hb0) (three_RdS w t ⟨#[97]⟩ ⟨#[98]⟩ ⟨#[99]⟩) (by simp)).mono ?_
  rintro e w' ⟨rfl, hb⟩
  rw [fact_strings]
  exact ⟨rfl, hb0.trans (hb.mono hb0.size)⟩
theorem lives_wrap (w : World) : Calls Tryd.prog 37 #[.int .i64 (-1)] w fun e w' => e = .returned (.int .u32 4294967295) ∧ w' = w := by
  have h := wrap_any (-1) w
  rw [fact_wrap] at h
  exact h
theorem lives_fold (w : World) : Calls Tryd.prog 14 #[.string ⟨#[68, 73, 86]⟩, .string ⟨#[100, 105, 118]⟩] w fun e w' => e = .returned (.bool true) ∧ Below w.heap.size w w' := by
  have h := fold_any ⟨#[68, 73, 86]⟩ ⟨#[100, 105, 118]⟩ w (by decide) (by decide)
  rw [fact_fold] at h
  exact h
theorem lives_nofold (w : World) : Calls Tryd.prog 14 #[.string ⟨#[197, 191]⟩, .string ⟨#[83]⟩] w fun e w' => e = .returned (.bool false) ∧ Below w.heap.size w w' := by
  have h := fold_any ⟨#[197, 191]⟩ ⟨#[83]⟩ w (by decide) (by decide)
  rw [fact_nofold] at h
  exact h

set_option maxRecDepth 100000 in
set_option maxHeartbeats 2000000 in
theorem lives_any (w : World) : Calls Tryd.prog 7 #[] w fun e w' => e = .returned (.bool true) ∧ Below w.heap.size w w' := by
  have HO : Hid (∀ W : World, _) := lives_of
  have HT : Hid (∀ (W : World) (t : TypeId), _) := lives_text
  have HS : Hid (∀ W : World, _) := lives_split
  have HM : Hid (∀ (W : World) (v : Value) (t : TypeId), RdU W v _ → _) := lives_same
  have HG : Hid (∀ (W : World) (v : Value) (t : TypeId), RdS W v _ → _) := lives_strings
  have HW : Hid (∀ (W : World), _) := lives_wrap
  have HF : Hid (∀ (W : World), _) := lives_fold
  have HN : Hid (∀ (W : World), _) := lives_nofold
  go_enter Tryd.func7, Tryd.ntmps7
  go_wp2_with fail
  refine (HO.out _).mono ?_
  rintro e w1 ⟨v1, rfl, r1, b1⟩
  go_wp2_with fail
  refine (HT.out _ _).mono ?_
  rintro e w2 ⟨rfl, b2⟩
  have c2 : Below w1.heap.size w1 w2 := ((Below.refl _ w1).alloc (Nat.le_refl _) _).trans (b2.mono (by omega))
  replace r1 := r1.later c2
  replace b1 := b1.trans (c2.mono b1.size)
  clear b2 c2
  go_wp2_with fail
  refine (HS.out _).mono ?_
  rintro e w3 ⟨v3, rfl, r3, b3⟩
  replace r1 := r1.later b3
  replace b1 := b1.trans (b3.mono b1.size)
  clear b3
  go_wp2_with fail
  refine (HM.out _ _ _ r1).mono ?_
  rintro e w4 ⟨rfl, b4⟩
  replace r3 := r3.later b4
  replace b1 := b1.trans (b4.mono b1.size)
  clear b4 r1
  go_wp2_with fail
  refine (HG.out _ _ _ r3).mono ?_
  rintro e w5 ⟨rfl, b5⟩
  replace b1 := b1.trans (b5.mono b1.size)
  clear b5 r3
  go_wp2_with fail
  refine (HW.out _).mono ?_
  rintro e w6 ⟨rfl, rfl⟩
  go_wp2_with fail
  refine (HF.out _).mono ?_
  rintro e w7 ⟨rfl, b7⟩
  replace b1 := b1.trans (b7.mono b1.size)
  clear b7
  go_wp2_with fail
  refine (HN.out _).mono ?_
  rintro e w8 ⟨rfl, b8⟩
  replace b1 := b1.trans (b8.mono b1.size)
  clear b8
  go_wp2
  go_ret
  exact ⟨rfl, b1⟩
end Go.Proofs.YtbefinbihopgfaaDoor
