/- walk: what a filter says of a node; why it is wrong. -/
import Derived.Test.YteflknfejjdkfaaFWkQ
import Derived.Test.YteflknfejjdkfaaFNodeV
import Derived.Test.YteflknfejjdkfaaFKids
namespace Go.Proofs.Yteflknfejjdkfaa
open Go.RowKit Go.Lib

theorem bne_cast (x n : Nat) : ((x : Int) != (n : Int)) = !(x == n) := by rw [bne, beq_cast]

set_option maxHeartbeats 2000000 in
theorem saysNothing_any (r : RuleD) (w : World) : Calls Try.prog 32 #[ruleV r] w fun e w' => e = .returned (.bool (mute r)) ∧ Below w.heap.size w w' := by
  have e1 : ((r.verdict : Int) != 1) = !(r.verdict == 1) := bne_cast _ 1
  have e2 : ((r.verdict : Int) != 2) = !(r.verdict == 2) := bne_cast _ 2
  have e3 : ((r.verdict : Int) != 3) = !(r.verdict == 3) := bne_cast _ 3
  unfold ruleV mute
  generalize (r.verdict == 1) = b1 at *
  generalize (r.verdict == 2) = b2 at *
  generalize (r.verdict == 3) = b3 at *
  generalize r.verdict = y2 at *
  generalize r.loc = y1 at *
  generalize r.kind = y0 at *
  cases b1 <;> cases b2 <;> cases b3
  all_goals
    simp only [Bool.not_true, Bool.not_false] at e1 e2 e3
    go_enter Try.func32, Try.ntmps32
    go_wp2
    go_ret
    exact ⟨rfl, (Below.refl _ w).alloc (Nat.le_refl _) _⟩

set_option maxHeartbeats 4000000 in
theorem wfits_any (r : RuleD) (n : NodeD) (od oa ok : Option Addr) (nd cd na ca nk ck : Nat) (w : World) : Calls Try.prog 34 #[ruleV r, nodeV n ⟨.slice od nd cd, .slice oa na ca, .slice ok nk ck⟩] w fun e w' => e = .returned (.bool (fitsB r n.kind n.loc)) ∧ Below w.heap.size w w' := by
  have e1 : ((r.kind : Int) == 0) = (r.kind == 0) := beq_cast _ 0
  have e2 : ((r.kind : Int) == (n.kind : Int)) = (r.kind == n.kind) := beq_cast _ _
  have h1 := noneS_toList r.loc; have h1' := noneS_empty r.loc
  have e3 : (r.loc.toList == n.loc.toList) = (r.loc.data.toList == n.loc.data.toList) := by rw [Lib.toList_data, Lib.toList_data]
  unfold ruleV fitsB nodeV
  generalize noneS r.loc = b3 at *
  generalize (r.loc.data.toList == n.loc.data.toList) = b4 at *
  generalize (r.kind == 0) = b1 at *
  generalize (r.kind == n.kind) = b2 at *
  generalize r.verdict = y2 at *
  generalize r.loc = y1 at *
  generalize r.kind = y0 at *
  obtain ⟨n0, n1, n2, n3, n4, n5, n6, n7, n8, n9, n10, n11, n12, n13, n14, n15⟩ := n
  simp only at *
  have hb0 : ∀ o1 o2 : Obj, Below w.heap.size w ((w.alloc o1).alloc o2) := fun o1 o2 => ((Below.refl _ w).alloc (Nat.le_refl _) _).alloc (by simp) _
  cases b1 <;> cases b2 <;> cases b3 <;> cases b4
  all_goals
    go_enter Try.func34, Try.ntmps34
    go_wp2
    go_ret
    exact ⟨rfl, hb0 _ _⟩

theorem known_cases {k : Nat} (h : knownK k = true) : k = 1 ∨ k = 3 ∨ k = 4 ∨ k = 7 ∨ k = 8 ∨ k = 9 ∨ k = 10 ∨ k = 11 ∨ k = 12 := by
  unfold knownK mayHangK mayBeWithinK mayBeTopK hasDataK at h
  simp only [Bool.or_eq_true, beq_iff_eq] at h
  omega

theorem and_bit (sh j : Nat) (hs : sh < 4294967296) (hj : j < 32) : (bits .and .u32 (sh : Int) ((2 ^ j : Nat) : Int) != 0) = Nat.testBit sh j := by
  have hp : 2 ^ j < 4294967296 := by
    have : 2 ^ j < 2 ^ 32 := Nat.pow_lt_pow_right (by decide) hj
    simpa using this
  have ha : sh &&& 2 ^ j < 4294967296 := Nat.lt_of_le_of_lt Nat.and_le_right hp
  have h : bits .and .u32 (sh : Int) ((2 ^ j : Nat) : Int) = ((sh &&& 2 ^ j : Nat) : Int) := by
    have h1 : (BitVec.ofInt 32 (sh : Int)).toNat = sh := by
      rw [BitVec.ofInt_natCast, BitVec.toNat_ofNat]
      exact Nat.mod_eq_of_lt (by omega)
    have h2 : (BitVec.ofInt 32 ((2 ^ j : Nat) : Int)).toNat = 2 ^ j := by
      rw [BitVec.ofInt_natCast, BitVec.toNat_ofNat]
      exact Nat.mod_eq_of_lt (by omega)
    show IntKind.u32.wrap ((BitVec.ofInt 32 (sh : Int) &&& BitVec.ofInt 32 ((2 ^ j : Nat) : Int)).toNat : Int) = _
    rw [BitVec.toNat_and, h1, h2]
    generalize sh &&& 2 ^ j = z at ha
    simp [IntKind.wrap, IntKind.bits, IntKind.signed]
    omega
  rw [h]
  have hb : ((sh &&& 2 ^ j : Nat) : Int) != 0 ↔ Nat.testBit sh j = true := by
    constructor
    · intro hne
      cases ht : Nat.testBit sh j with
      | true => rfl
      | false =>
        have : sh &&& 2 ^ j = 0 := by
          apply Nat.eq_of_testBit_eq
          intro i
          rw [Nat.testBit_and, Nat.testBit_two_pow, Nat.zero_testBit]
          by_cases hi : j = i
          · subst hi; rw [ht]; rfl
          · simp [hi]
        rw [this] at hne
        simp at hne
    · intro ht
      have : (sh &&& 2 ^ j).testBit j = true := by rw [Nat.testBit_and, ht, Nat.testBit_two_pow]; simp
      cases hz : (((sh &&& 2 ^ j : Nat) : Int) != 0) with
      | true => rfl
      | false =>
        have h0 : sh &&& 2 ^ j = 0 := by simpa using hz
        rw [h0, Nat.zero_testBit] at this
        cases this
  cases ht : Nat.testBit sh j with
  | true => exact hb.2 ht
  | false =>
    cases hz : (((sh &&& 2 ^ j : Nat) : Int) != 0) with
    | false => rfl
    | true => rw [hb.1 hz] at ht; cases ht
set_option maxHeartbeats 4000000 in
theorem wshown_any (sh k : Nat) (w : World) (hk : knownK k = true) (hs : sh < 4294967296) : Calls Try.prog 33 #[.int .u32 (sh : Int), .int .u8 (k : Int)] w fun e w' => e = .returned (.bool (shownB sh k)) ∧ w' = w := by
  rcases known_cases hk with rfl | rfl | rfl | rfl | rfl | rfl | rfl | rfl | rfl
  · clear hk
    go_enter Try.func33, Try.ntmps33
    go_wp2
    go_ret
    exact ⟨congrArg (fun b => Ending.returned (Value.bool b)) (and_bit sh 0 hs (by decide)), rfl⟩
  · clear hk
    go_enter Try.func33, Try.ntmps33
    go_wp2
    go_ret
    exact ⟨congrArg (fun b => Ending.returned (Value.bool b)) (and_bit sh 2 hs (by decide)), rfl⟩
  · clear hk
    go_enter Try.func33, Try.ntmps33
    go_wp2
    go_ret
    exact ⟨congrArg (fun b => Ending.returned (Value.bool b)) (and_bit sh 3 hs (by decide)), rfl⟩
  · clear hk
    go_enter Try.func33, Try.ntmps33
    go_wp2
    go_ret
    exact ⟨congrArg (fun b => Ending.returned (Value.bool b)) (and_bit sh 6 hs (by decide)), rfl⟩
  · clear hk
    go_enter Try.func33, Try.ntmps33
    go_wp2
    go_ret
    exact ⟨congrArg (fun b => Ending.returned (Value.bool b)) (and_bit sh 7 hs (by decide)), rfl⟩
  · clear hk
    go_enter Try.func33, Try.ntmps33
    go_wp2
    go_ret
    exact ⟨congrArg (fun b => Ending.returned (Value.bool b)) (and_bit sh 8 hs (by decide)), rfl⟩
  · clear hk
    go_enter Try.func33, Try.ntmps33
    go_wp2
    go_ret
    exact ⟨congrArg (fun b => Ending.returned (Value.bool b)) (and_bit sh 9 hs (by decide)), rfl⟩
  · clear hk
    go_enter Try.func33, Try.ntmps33
    go_wp2
    go_ret
    exact ⟨congrArg (fun b => Ending.returned (Value.bool b)) (and_bit sh 10 hs (by decide)), rfl⟩
  · clear hk
    go_enter Try.func33, Try.ntmps33
    go_wp2
    go_ret
    exact ⟨congrArg (fun b => Ending.returned (Value.bool b)) (and_bit sh 10 hs (by decide)), rfl⟩
end Go.Proofs.Yteflknfejjdkfaa
