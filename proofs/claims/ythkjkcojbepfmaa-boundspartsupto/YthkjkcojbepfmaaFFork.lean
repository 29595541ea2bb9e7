/- How long two paths run together (fork); where a kid stands (indexOf); cmp.Compare. -/
import Derived.Test.YthkjkcojbepfmaaFColl
import Derived.Deep.QuietTactic
import Derived.BigQuiet
namespace Go.Proofs.Ythkjkcojbepfmaa
open Go.RowKit Go.Lib Go.Shelf

theorem forkN_drop (p q : List Int) (k : Nat) (h1 : k < p.length) (h2 : k < q.length) : forkN (p.drop k) (q.drop k) = if p[k] == q[k] then forkN (p.drop (k + 1)) (q.drop (k + 1)) + 1 else 0 := by
  rw [List.drop_eq_getElem_cons h1, List.drop_eq_getElem_cons h2, forkN]
theorem forkN_end (p q : List Int) (k : Nat) (h : ¬ (k < p.length ∧ k < q.length)) : forkN (p.drop k) (q.drop k) = 0 := by
  by_cases h1 : k < p.length
  · have h2 : q.length ≤ k := by omega
    rw [List.drop_eq_nil_of_le h2]
    cases p.drop k <;> rfl
  · rw [List.drop_eq_nil_of_le (by omega : p.length ≤ k)]
    cases q.drop k <;> rfl

set_option maxRecDepth 100000 in
set_option maxHeartbeats 2000000 in
theorem index_any (v : Value) (l : List Int) (x : Int) (w : World) (hv : RdI w v l) (hl : l.length ≤ 1099511627776) :
    Calls Try.prog 34 #[v, .int .i64 x] w fun e w' => e = .returned (.int .i64 (idxI l x 0)) ∧ w' = w := by
  obtain ⟨o, c, rfl, hc, g⟩ := hv
  obtain ⟨N, hN⟩ : ∃ N, idxI l x 0 = N := ⟨_, rfl⟩
  rw [hN]
  have HN : Hid (idxI (l.drop 0) x 0 = N) := hN
  clear hN
  go_enter Try.func34, Try.ntmps34
  go_wp2
  go_loopw [8] (fun t wr => ∃ k : Nat, k ≤ l.length ∧ t = .int .i64 k ∧ wr = w ∧ Hid (idxI (l.drop k) x k = N)) (fun t _ => l.length - (RowKit.intOf t).toNat)
  case atStart => exact ⟨0, Nat.zero_le _, rfl, rfl, HN⟩
  case round =>
    obtain ⟨k, k1, rfl, rfl, hK⟩ := hrel
    by_cases hlt : k < l.length
    · obtain ⟨b, off, rfl, hlt1, ha⟩ := g (by omega)
      have x1 := ha k hlt
      have q1 : (0 : Int) ≤ (k : Int) := by omega
      have q2 : (k : Int) < (l.length : Int) := by omega
      have hk := hK.out
      rw [List.drop_eq_getElem_cons hlt, idxI] at hk
      have Hk := hid hk
      clear hk hK ha g
      generalize l[k] = a at *
      cases he : (a == x) with
      | true =>
        have hNk : N = (k : Int) := by
          rw [← Hk.out, he]
          rfl
        have he2 : (x == a) = true := by rw [eq_of_beq he]; exact beq_self_eq_true x
        subst hNk
        clear Hk he
        go_wp2
        go_ret
        exact ⟨rfl, rfl⟩
      | false =>
        have Hn : Hid (idxI (l.drop (k + 1)) x (k + 1) = N) := by
          have h := Hk.out
          rw [he, if_neg Bool.false_ne_true] at h
          exact h
        have he2 : (x == a) = false := beq_eq_false_iff_ne.2 (fun e => by rw [e, beq_self_eq_true] at he; cases he)
        clear Hk he
        go_wp2
        go_roundw
        case rel => exact ⟨k + 1, by omega, by go_num, trivial, Hn⟩
        case measure => simp [RowKit.intOf]; omega
    · have hNk : N = -1 := by
        rw [← hK.out, List.drop_eq_nil_of_le (by omega)]
        rfl
      subst hNk
      clear hK g
      go_wp2
      go_ret
      exact ⟨rfl, rfl⟩

set_option maxRecDepth 100000 in
set_option maxHeartbeats 2000000 in
theorem kidsOf_any (b off cap i : Nat) (ns : List NodeD) (w : World) (h : FAt w b off cap ns) (hi : i < ns.length) :
    Calls Try.prog 50 #[forestV b off cap ns.length, .int .i64 ((i : Int) + 1)] w fun e w' => ∃ v, e = .returned v ∧ RdI w' v ns[i].kids ∧ Below w.heap.size w w' := by
  have HN : Hid (∀ W : World, _) := fun W => onode_any b off cap ns.length i W hi h.len
  obtain ⟨L, hc, _, _, hk⟩ := h.at_ i hi
  have Hc := hid hc
  have Hk := hid hk
  have hlt := h.lt
  have hle := h.len
  obtain ⟨o, c, hko, _⟩ := hk
  have Hko := hid hko
  clear h hc hko
  unfold forestV at *
  generalize ns[i] = x at *
  go_enter Try.func50, Try.ntmps50
  go_wp2_with fail
  refine (HN.out _).mono ?_
  rintro e v1 ⟨rfl, hb1⟩
  have c0 := (Hc.out.later hlt (box_go hb1)).kids
  rw [Hko.out] at c0
  go_wp2
  go_ret
  exact ⟨_, rfl, by have := Hk.out.later (box_go hb1); rw [Hko.out] at this; exact this, box_go hb1⟩

set_option maxHeartbeats 1000000 in
theorem cmp_any (x y : Int) (w : World) :
    Calls Try.prog 30 #[.int .i64 x, .int .i64 y] w fun e w' => e = .returned (.int .i64 (cmpI x y)) ∧ w' = w := by
  have HN : Hid (∀ (z : Int) (W : World), Calls Try.prog 42 #[.int .i64 z] W fun e w' => e = .returned (.bool false) ∧ w' = W) := fun z W => by
    have hz : (z != z) = false := by rw [bne, beq_self_eq_true]; rfl
    go_enter Try.func42, Try.ntmps42
    go_wp2
    go_ret
    exact ⟨rfl, rfl⟩
  unfold cmpI
  by_cases h1 : x < y
  · have d1 : decide (x < y) = true := decide_eq_true h1
    rw [if_pos h1]
    go_enter Try.func30, Try.ntmps30
    go_wp2_with fail
    refine (HN.out _ _).mono ?_
    rintro e v1 ⟨rfl, rfl⟩
    go_wp2_with fail
    refine (HN.out _ _).mono ?_
    rintro e v1 ⟨rfl, rfl⟩
    go_wp2
    go_ret
    exact ⟨rfl, rfl⟩
  · have d1 : decide (x < y) = false := decide_eq_false h1
    rw [if_neg h1]
    by_cases h2 : y < x
    · have d2 : decide (y < x) = true := decide_eq_true h2
      rw [if_pos h2]
      go_enter Try.func30, Try.ntmps30
      go_wp2_with fail
      refine (HN.out _ _).mono ?_
      rintro e v1 ⟨rfl, rfl⟩
      go_wp2_with fail
      refine (HN.out _ _).mono ?_
      rintro e v1 ⟨rfl, rfl⟩
      go_wp2
      go_ret
      exact ⟨rfl, rfl⟩
    · have d2 : decide (y < x) = false := decide_eq_false h2
      rw [if_neg h2]
      go_enter Try.func30, Try.ntmps30
      go_wp2_with fail
      refine (HN.out _ _).mono ?_
      rintro e v1 ⟨rfl, rfl⟩
      go_wp2_with fail
      refine (HN.out _ _).mono ?_
      rintro e v1 ⟨rfl, rfl⟩
      go_wp2
      go_ret
      exact ⟨rfl, rfl⟩
end Go.Proofs.Ythkjkcojbepfmaa
