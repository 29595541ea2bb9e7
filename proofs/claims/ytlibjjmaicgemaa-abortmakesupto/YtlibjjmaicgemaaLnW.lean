/- Whether two lists of numbers are one (canopyref03.Ints). -/
import Derived.Test.YtlibjjmaicgemaaLnA
import Derived.Deep.DeepCutAuto
import Derived.Deep.CutRange
namespace Go.Proofs.Ytlibjjmaicgemaa
open Go.RowKit Go.Lib Go.Shelf

theorem drewN_below (B q : Nat) (w : World) : Below B w (w.drewN q) := ⟨rfl, rfl, rfl, Nat.le_refl _, fun _ _ => rfl⟩
theorem beq_drop3 (p q : List Int) (k : Nat) (h1 : k < p.length) (h2 : k < q.length) : (p.drop k == q.drop k) = (p[k] == q[k] && (p.drop (k + 1) == q.drop (k + 1))) := by
  rw [List.drop_eq_getElem_cons h1, List.drop_eq_getElem_cons h2]
  rfl
theorem beq_len3 {p q : List Int} (h : p.length ≠ q.length) : (p == q) = false := beq_eq_false_iff_ne.2 (fun e => h (congrArg List.length e))

set_option maxRecDepth 100000 in
set_option maxHeartbeats 4000000 in
theorem ints3_any (v1 v2 : Value) (p q : List Int) (w : World) (hp : RdI w v1 p) (hq : RdI w v2 q) (lp : p.length ≤ 1099511627776) :
    Calls Try.prog 20 #[v1, v2] w fun e w' => e = .returned (.bool (p == q)) ∧ Below w.heap.size w w' := by
  obtain ⟨o1, c1, rfl, hc1, g1⟩ := hp
  obtain ⟨o2, c2, rfl, hc2, g2⟩ := hq
  by_cases hl : p.length = q.length
  · obtain ⟨R, hR⟩ : ∃ R, (p == q) = R := ⟨_, rfl⟩
    rw [hR]
    have HR : Hid ((p.drop 0 == q.drop 0) = R) := hR
    have e1 : ((p.length : Int) != (q.length : Int)) = false := by rw [hl]; simp
    clear hR
    go_enter Try.func20, Try.ntmps20
    go_wp2
    go_loopw [13] (fun t wr => ∃ k m : Nat, k ≤ p.length ∧ t = .int .i64 k ∧ wr = w.drewN m ∧ Hid ((p.drop k == q.drop k) = R)) (fun t _ => p.length - (RowKit.intOf t).toNat)
    case atStart => exact ⟨0, 0, Nat.zero_le _, rfl, rfl, HR⟩
    case round =>
      obtain ⟨k, m, k1, rfl, rfl, hK⟩ := hrel
      clear HR
      by_cases l1 : k < p.length
      · have l2 : k < q.length := by omega
        obtain ⟨b1, off1, rfl, hlt1, ha1⟩ := g1 (by omega)
        obtain ⟨b2, off2, rfl, hlt2, ha2⟩ := g2 (by omega)
        have x1 := ha1 k l1
        have x2 := ha2 k l2
        have Hf := hid (beq_drop3 p q k l1 l2)
        have q1 : (0 : Int) ≤ (k : Int) := by omega
        have q2 : (k : Int) < (p.length : Int) := by omega
        have q3 : (k : Int) < (q.length : Int) := by omega
        clear ha1 ha2 g1 g2
        generalize p[k] = a at *
        generalize q[k] = a2 at *
        cases he : (a == a2) with
        | true =>
          have Hn : Hid ((p.drop (k + 1) == q.drop (k + 1)) = R) := by
            show _ = _
            rw [← hK.out, Hf.out, he, Bool.true_and]
          have hne : (a != a2) = false := by rw [bne, he]; rfl
          clear Hf hK e1 hl
          go_upto_region 6 with fail
          go_quiet (fail)
          go_wp2
          go_roundw
          case rel => exact ⟨k + 1, m + nq, by omega, by go_num, by simp, Hn⟩
          case measure => simp [RowKit.intOf]; omega
        | false =>
          have hRf : R = false := by rw [← hK.out, Hf.out, he, Bool.false_and]
          have hne : (a != a2) = true := by rw [bne, he]; rfl
          subst hRf
          clear Hf hK e1 hl
          go_upto_region 6 with fail
          go_quiet (fail)
          go_wp2
          go_ret
          exact ⟨rfl, (drewN_below _ _ _).trans (drewN_below _ _ _)⟩
      · have hRt : R = true := by
          rw [← hK.out, List.drop_eq_nil_of_le (by omega), List.drop_eq_nil_of_le (by omega)]
          rfl
        subst hRt
        have hkp : k = p.length := by omega
        subst hkp
        have hd : decide (p.length < q.length) = false := decide_eq_false (by omega)
        clear hK g1 g2 e1 hl l1 k1
        go_wp2
        go_ret
        exact ⟨rfl, drewN_below _ _ _⟩
  · rw [beq_len3 hl]
    have e1 : ((p.length : Int) != (q.length : Int)) = true := by rw [bne, beq_eq_false_iff_ne.2 (by omega)]; rfl
    clear g1 g2
    go_enter Try.func20, Try.ntmps20
    go_wp2
    go_ret
    exact ⟨rfl, Below.refl _ _⟩
end Go.Proofs.Ytlibjjmaicgemaa
