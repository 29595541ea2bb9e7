/- loop: the reference: what put, advance and next answer, in one row each. -/
import Derived.Test.YtaliecmdkloceaaLpZC
namespace Go.Proofs.Ytaliecmdkloceaa
open Go.RowKit Go.Lib Go.Shelf

theorem row_le {r : LpD} (ht : totD r ≤ 1048576) (m : Nat) : (r.tks.getD m []).length ≤ 1048576 := by
  have := len_le_sum r.tks m
  unfold totD tasksD at ht
  omega
theorem put1_any (V : World) (n0 : Nat) (r : LpD) (B c : Nat) (v : Nat → Value) (tv : Value) (h : RfO V n0 r B c v tv) (hn : n0 ≤ V.heap.size) (xs xi xm xl xt : Int) (ht : totD r ≤ 1048576) :
    Calls Try.prog 16 #[stR r B c (v 8) tv, stepV ⟨1, xs, xi, xm, xl, xt⟩] V fun e w' => PutR V n0 (taskD r xs xi) 0 (againstE r (wrongT xs)) B c e w' := by
  obtain ⟨now, mic, tks, tms, giv, cls⟩ := r
  cases cls with
  | true => exact put_closed V n0 now giv mic tks tms true B c v tv h hn xs xi xm xl xt ht rfl 1
  | false =>
    by_cases h0 : xs < 0
    · have hw : wrongT xs = true := by unfold wrongT; rw [decide_eq_true h0]; rfl
      unfold taskD
      rw [hw]
      exact put_low V n0 now giv mic tks tms false B c v tv h hn xs xi xm xl xt ht rfl h0
    · by_cases h8 : 8 ≤ xs
      · have hw : wrongT xs = true := by unfold wrongT; rw [decide_eq_true h8, Bool.or_true]
        unfold taskD
        rw [hw]
        exact put_high V n0 now giv mic tks tms false B c v tv h hn xs xi xm xl xt ht rfl h8
      · have hw : wrongT xs = false := by unfold wrongT; rw [decide_eq_false h0, decide_eq_false h8]; rfl
        unfold taskD
        rw [hw]
        by_cases hf : 4096 ≤ (totD ⟨now, mic, tks, tms, giv, false⟩ : Int)
        · have hE : againstE ⟨now, mic, tks, tms, giv, false⟩ false = 3 := by unfold againstE; rw [if_neg Bool.false_ne_true, if_neg Bool.false_ne_true, if_pos hf]
          rw [hE, if_neg (by decide)]
          exact put_many1 V n0 now giv mic tks tms false B c v tv h hn xs xi xm xl xt ht rfl h0 h8 hf
        · have hE : againstE ⟨now, mic, tks, tms, giv, false⟩ false = 0 := by unfold againstE; rw [if_neg Bool.false_ne_true, if_neg Bool.false_ne_true, if_neg hf]
          rw [hE, if_pos rfl]
          obtain ⟨m, rfl, hm⟩ : ∃ m : Nat, xs = (m : Int) ∧ m < 8 := ⟨xs.toNat, by omega, by omega⟩
          have e : setI ⟨now, mic, tks, tms, giv, false⟩ (2 + ((m : Int)).toNat) (qI ⟨now, mic, tks, tms, giv, false⟩ (2 + ((m : Int)).toNat) ++ [xi]) = ⟨now, mic, tks.set m (tks.getD m [] ++ [xi]), tms, giv, false⟩ := by
            rw [show ((m : Int)).toNat = m by omega, qI_task]
            unfold setI
            rw [if_neg (by omega), show 2 + m - 2 = m by omega]
          rw [e]
          exact put_task V n0 now giv mic tks tms false B c v tv h hn (m : Int) xi xm xl xt ht rfl m hm rfl hf (row_le ht m) h0 h8
theorem put2_any (V : World) (n0 : Nat) (r : LpD) (B c : Nat) (v : Nat → Value) (tv : Value) (h : RfO V n0 r B c v tv) (hn : n0 ≤ V.heap.size) (xs xi xm xl xt : Int) (ht : totD r ≤ 1048576) :
    Calls Try.prog 16 #[stR r B c (v 8) tv, stepV ⟨2, xs, xi, xm, xl, xt⟩] V fun e w' => PutR V n0 (microD r xi) 0 (againstE r false) B c e w' := by
  obtain ⟨now, mic, tks, tms, giv, cls⟩ := r
  cases cls with
  | true => exact put_closed V n0 now giv mic tks tms true B c v tv h hn xs xi xm xl xt ht rfl 2
  | false =>
    unfold microD
    by_cases hf : 4096 ≤ (totD ⟨now, mic, tks, tms, giv, false⟩ : Int)
    · have hE : againstE ⟨now, mic, tks, tms, giv, false⟩ false = 3 := by unfold againstE; rw [if_neg Bool.false_ne_true, if_neg Bool.false_ne_true, if_pos hf]
      rw [hE, if_neg (by decide)]
      exact put_many2 V n0 now giv mic tks tms false B c v tv h hn xs xi xm xl xt ht rfl hf
    · have hE : againstE ⟨now, mic, tks, tms, giv, false⟩ false = 0 := by unfold againstE; rw [if_neg Bool.false_ne_true, if_neg Bool.false_ne_true, if_neg hf]
      rw [hE, if_pos rfl]
      exact put_micro V n0 now giv mic tks tms false B c v tv h hn xs xi xm xl xt ht rfl hf (by unfold totD at ht; dsimp only at ht; omega)
theorem put3_any (V : World) (n0 : Nat) (r : LpD) (B c : Nat) (v : Nat → Value) (tv : Value) (h : RfO V n0 r B c v tv) (hn : n0 ≤ V.heap.size) (xs xi xm xl xt : Int) (ht : totD r ≤ 1048576) (hn0 : 0 ≤ r.now) (hn1 : r.now ≤ 1125899906842624) (hg0 : 0 ≤ r.giv) (hg1 : r.giv < 4611686018427387904) :
    Calls Try.prog 16 #[stR r B c (v 8) tv, stepV ⟨3, xs, xi, xm, xl, xt⟩] V fun e w' => PutR V n0 (afterR r xm xl xi) (afterN r xm xl) (afterE r xm xl) B c e w' := by
  obtain ⟨now, mic, tks, tms, giv, cls⟩ := r
  unfold afterR afterN afterE
  cases cls with
  | true => exact put_closed V n0 now giv mic tks tms true B c v tv h hn xs xi xm xl xt ht rfl 3
  | false =>
    by_cases h0 : 1125899906842624 < xm
    · have hw : wrongA xm xl = true := by unfold wrongA; rw [decide_eq_true h0]; rfl
      rw [hw]
      exact put_far V n0 now giv mic tks tms false B c v tv h hn xs xi xm xl xt ht rfl h0
    · by_cases h8 : xl < 0
      · have hw : wrongA xm xl = true := by unfold wrongA; rw [decide_eq_true h8, Bool.or_true]
        rw [hw]
        exact put_deep V n0 now giv mic tks tms false B c v tv h hn xs xi xm xl xt ht rfl h0 h8
      · have hw : wrongA xm xl = false := by unfold wrongA; rw [decide_eq_false h0, decide_eq_false h8]; rfl
        rw [hw]
        by_cases hf : 4096 ≤ (totD ⟨now, mic, tks, tms, giv, false⟩ : Int)
        · have hE : againstE ⟨now, mic, tks, tms, giv, false⟩ false = 3 := by unfold againstE; rw [if_neg Bool.false_ne_true, if_neg Bool.false_ne_true, if_pos hf]
          rw [hE, if_neg (by decide), if_neg (by decide)]
          exact put_many3 V n0 now giv mic tks tms false B c v tv h hn xs xi xm xl xt ht rfl h0 h8 hf
        · have hE : againstE ⟨now, mic, tks, tms, giv, false⟩ false = 0 := by unfold againstE; rw [if_neg Bool.false_ne_true, if_neg Bool.false_ne_true, if_neg hf]
          rw [hE, if_pos rfl, if_pos rfl]
          exact put_timer V n0 now giv mic tks tms false B c v tv h hn xs xi xm xl xt ht rfl hf (by unfold totD at ht; dsimp only at ht; omega) h0 h8 hn0 hn1 hg0 hg1
/-- What advance comes to. -/
def AdvTo (r : LpD) (ms : Int) (n : Nat) (E : Int) (r' : LpD) : Prop := (ms < 0 ∨ 1125899906842624 - r.now < ms) ∧ r' = r ∧ n = 0 ∧ E = 2 ∨ ¬ (ms < 0 ∨ 1125899906842624 - r.now < ms) ∧ E = 0 ∧ StepsR { r with now := r.now + ms } n r' ∧ OverR r'
theorem advR_any (V : World) (n0 : Nat) (r : LpD) (B c : Nat) (v : Nat → Value) (tv : Value) (h : RfO V n0 r B c v tv) (hn : n0 ≤ V.heap.size) (ms : Int) (ht : totD r ≤ 1048576) (hq0 : 0 ≤ r.now) (hq1 : r.now ≤ 1125899906842624) :
    Calls Try.prog 18 #[stR r B c (v 8) tv, .int .i64 ms] V fun e w' => ∃ (n : Nat) (E : Int) (r' : LpD), AdvR V n0 r' n E B c e w' ∧ AdvTo r ms n E r' := by
  by_cases h0 : ms < 0
  · refine (adv_back V n0 r B c v tv h hn ms h0).mono ?_
    intro e w' ha
    exact ⟨0, 2, r, ha, .inl ⟨.inl h0, rfl, rfl, rfl⟩⟩
  · by_cases h1 : 1125899906842624 - r.now < ms
    · refine (adv_far V n0 r B c v tv h hn ms h0 h1 hq0 hq1).mono ?_
      intro e w' ha
      exact ⟨0, 2, r, ha, .inl ⟨.inr h1, rfl, rfl, rfl⟩⟩
    · refine (adv_ok V n0 r B c v tv h hn ms h0 h1 hq0 hq1 ht).mono ?_
      rintro e w' ⟨n, r', ha, h2, h3⟩
      exact ⟨n, 0, r', ha, .inr ⟨by omega, rfl, h2, h3⟩⟩
theorem nextR_any (V : World) (n0 : Nat) (r : LpD) (B c : Nat) (v : Nat → Value) (tv : Value) (h : RfO V n0 r B c v tv) (hn : n0 ≤ V.heap.size) (pick : Int) :
    Calls Try.prog 19 #[stR r B c (v 8) tv, .int .i64 pick] V fun e w' => NextR V n0 (nextD r pick).1 (nextD r pick).2 B c e w' := by
  obtain ⟨now, mic, tks, tms, giv, cls⟩ := r
  cases mic with
  | nil => exact next_nilR V n0 now giv tks tms cls B c v tv h hn pick
  | cons x q => exact next_micR V n0 now giv (x :: q) tks tms cls B c v tv h hn pick x q rfl
theorem clear_out {V : World} {n0 : Nat} {r' : LpD} {num : Int} {B c : Nat} {v : Nat → Value} {e : Ending} {w' : World} (h : ∃ tv', e = .returned (.tuple #[stR r' B c (v 8) tv', .int .i64 num]) ∧ RfO w' n0 r' B c v tv' ∧ Keep n0 V w') : ∃ o p ot ct, e = .returned (.tuple #[.agg #[.bool r'.cls, .int .i64 r'.now, .int .i64 r'.giv, .slice o r'.mic.length p, .slice (some ⟨B, 0, none⟩) 8 c, .slice ot r'.tms.length ct], .int .i64 num]) ∧ Hid (OutR V n0 r' B c (.slice o r'.mic.length p) (.slice ot r'.tms.length ct) w') := by
  obtain ⟨tv', rfl, hO, hK⟩ := h
  obtain ⟨⟨o, p, e1⟩, ot, ct, e2⟩ := hO.shape
  exact ⟨o, p, ot, ct, by unfold stR; rw [e1, e2], ⟨v, tv', e1.symm, e2.symm, hO⟩, hK⟩
end Go.Proofs.Ytaliecmdkloceaa
