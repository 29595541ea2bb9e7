/- The walks of the reference's Compare, Same and Strings. -/
import Derived.Test.YtbefinbihopgfaaDoorUText
import Derived.Test.YtbefinbihopgfaaDoorUSplit
import Derived.Test.YtbefinbihopgfaaDoorUFold
import Derived.Deep.QuietTactic
import Derived.BigQuiet
namespace Go.Proofs.YtbefinbihopgfaaDoor
open Go.RowKit Go.Lib

theorem below_drewN (w : World) : ∀ n, Below w.heap.size w (w.drewN n)
  | 0 => Below.refl _ _
  | n + 1 => (below_drewN w n).drew

theorem RdU.form {w : World} {v : Value} {us : List Nat} (h : RdU w v us) : ∃ o cap, v = .slice o us.length cap ∧ (0 < us.length → ∃ a, o = some a ∧ a.block < w.heap.size ∧ us.length ≤ cap ∧ cap ≤ maxLen ∧ CellsU w a us) := by
  rcases h with ⟨o, cap, rfl, rfl⟩ | ⟨a, cap, rfl, ha, hc, hm, hcs⟩
  · exact ⟨o, cap, rfl, fun h => absurd h (by simp)⟩
  · exact ⟨some a, cap, rfl, fun _ => ⟨a, rfl, ha, hc, hm, hcs⟩⟩
theorem RdU.later {w W : World} {v : Value} {us : List Nat} (h : RdU w v us) (hb : Below w.heap.size w W) : RdU W v us := by
  rcases h with ⟨o, cap, rfl, rfl⟩ | ⟨a, cap, rfl, ha, hc, hm, hcs⟩
  · exact .inl ⟨o, cap, rfl, rfl⟩
  · exact .inr ⟨a, cap, rfl, Nat.lt_of_lt_of_le ha hb.size, hc, hm, hcs.later ha hb⟩

theorem dropNil (l : List Nat) (k : Nat) (h : l.length ≤ k) : l.drop k = [] := List.drop_eq_nil_of_le h
theorem below_n {B : Nat} {w wr : World} (h : Below B w wr) (hB : B ≤ wr.heap.size) (n : Nat) : Below B w (wr.drewN n) := h.trans ((below_drewN wr n).mono hB)
theorem below_nn {B : Nat} {w wr : World} (h : Below B w wr) (hB : B ≤ wr.heap.size) (n m : Nat) : Below B w ((wr.drewN n).drewN m) := below_n (below_n h hB n) hB m
theorem cmpU_step (u v : List Nat) (k : Nat) (h1 : k < u.length) (h2 : k < v.length) : cmpU (u.drop k) (v.drop k) = if u[k] < v[k] then -1 else if v[k] < u[k] then 1 else cmpU (u.drop (k + 1)) (v.drop (k + 1)) := by
  rw [List.drop_eq_getElem_cons h1, List.drop_eq_getElem_cons h2]
  rfl
theorem cmpU_end (u v : List Nat) (k : Nat) (h1 : k ≤ u.length) (h2 : k ≤ v.length) (h : ¬ (k < u.length ∧ k < v.length)) : cmpU (u.drop k) (v.drop k) = if u.length < v.length then -1 else if v.length < u.length then 1 else 0 := by
  by_cases e1 : k < u.length
  · have e2 : k = v.length := by omega
    rw [List.drop_eq_getElem_cons e1, dropNil v k (by omega), if_neg (by omega), if_pos (by omega)]
    rfl
  · by_cases e2 : k < v.length
    · rw [List.drop_eq_getElem_cons e2, dropNil u k (by omega), if_pos (by omega)]
      rfl
    · rw [dropNil u k (by omega), dropNil v k (by omega), if_neg (by omega), if_neg (by omega)]
      rfl

set_option maxRecDepth 100000 in
set_option maxHeartbeats 1000000 in
theorem rcmp_any (v1 v2 : Value) (us vs : List Nat) (w : World) (h1 : RdU w v1 us) (h2 : RdU w v2 vs) (hn1 : us.length ≤ 140737488355328) (hn2 : vs.length ≤ 140737488355328) :
    Calls Tryd.prog 67 #[v1, v2] w fun e w' => e = .returned (.int .i64 (cmpU us vs)) ∧ Below w.heap.size w w' := by
  obtain ⟨o1, c1, rfl, g1⟩ := h1.form
  obtain ⟨o2, c2, rfl, g2⟩ := h2.form
  obtain ⟨R, hR⟩ : ∃ R, cmpU us vs = R := ⟨_, rfl⟩
  rw [hR]
  have HR : Hid (cmpU us vs = R) := hR
  clear hR h1 h2
  go_enter Tryd.func67, Tryd.ntmps67
  go_wp2
  go_loopw [5] (fun i wr => ∃ k : Nat, k ≤ us.length ∧ k ≤ vs.length ∧ i = .int .i64 k ∧ Below w.heap.size w wr ∧ Hid (cmpU (us.drop k) (vs.drop k) = R)) (fun i _ => us.length - (RowKit.intOf i).toNat)
  case atStart => exact ⟨0, Nat.zero_le _, Nat.zero_le _, rfl, Below.refl _ _, HR.out⟩
  case round =>
    obtain ⟨k, hk1, hk2, rfl, hbw, hr⟩ := hrel
    by_cases hlt1 : k < us.length
    · have q1 : (k : Int) < (us.length : Int) := by omega
      by_cases hlt2 : k < vs.length
      · have q2 : (k : Int) < (vs.length : Int) := by omega
        obtain ⟨a1, rfl, ha1, _, _, hc1⟩ := g1 (by omega)
        obtain ⟨a2, rfl, ha2, _, _, hc2⟩ := g2 (by omega)
        have hx := (hc1.later ha1 hbw) k hlt1
        have hy := (hc2.later ha2 hbw) k hlt2
        have hs := cmpU_step us vs k hlt1 hlt2
        have hr' := hr.out
        rw [hs] at hr'
        unfold unitV at hx hy
        generalize us[k] = x at *
        generalize vs[k] = y at *
        clear hs hr
        by_cases hxy : x < y
        · have p1 : (x : Int) < (y : Int) := by omega
          rw [if_pos hxy] at hr'
          subst hr'
          go_wp2
          go_quiet (fail)
          go_wp2
          go_ret
          exact ⟨rfl, hbw.trans ((below_drewN wr _).mono hbw.size)⟩
        · have p1 : ¬ (x : Int) < (y : Int) := by omega
          rw [if_neg hxy] at hr'
          by_cases hyx : y < x
          · have p2 : (y : Int) < (x : Int) := by omega
            rw [if_pos hyx] at hr'
            subst hr'
            go_wp2
            go_quiet (fail)
            go_wp2
            go_quiet (fail)
            go_wp2
            go_ret
            exact ⟨rfl, below_nn hbw hbw.size _ _⟩
          · have p2 : ¬ (y : Int) < (x : Int) := by omega
            rw [if_neg hyx] at hr'
            go_wp2
            go_quiet (fail)
            go_wp2
            go_quiet (fail)
            go_wp2
            go_roundw
            case rel => exact ⟨k + 1, by omega, by omega, by go_num, below_n hbw hbw.size _, hr'⟩
            case measure => simp [RowKit.intOf]; omega
      · have q2 : ¬ (k : Int) < (vs.length : Int) := by omega
        have q3 : ¬ (us.length : Int) < (vs.length : Int) := by omega
        have q4 : (vs.length : Int) < (us.length : Int) := by omega
        have hr' := hr.out
        rw [cmpU_end us vs k hk1 hk2 (by omega), if_neg (by omega), if_pos (by omega)] at hr'
        subst hr'
        clear hr
        go_wp2
        go_ret
        exact ⟨rfl, hbw⟩
    · have q1 : ¬ (k : Int) < (us.length : Int) := by omega
      have hr' := hr.out
      rw [cmpU_end us vs k hk1 hk2 (by omega)] at hr'
      clear hr
      by_cases hle : us.length < vs.length
      · have q3 : (us.length : Int) < (vs.length : Int) := by omega
        rw [if_pos hle] at hr'
        subst hr'
        go_wp2
        go_ret
        exact ⟨rfl, hbw⟩
      · have q3 : ¬ (us.length : Int) < (vs.length : Int) := by omega
        have q4 : ¬ (vs.length : Int) < (us.length : Int) := by omega
        rw [if_neg hle, if_neg (by omega)] at hr'
        subst hr'
        go_wp2
        go_ret
        exact ⟨rfl, hbw⟩

/-- Are two strings of units one? -/
def sameU (us vs : List Nat) : Bool := us == vs
theorem sameU_cmp (us vs : List Nat) : (cmpU us vs == 0) = sameU us vs := by
  unfold sameU
  by_cases h : us = vs
  · subst h; simp [cmpU_self]
  · have h2 : ¬ cmpU us vs = 0 := fun e => h (cmpU_zero us vs e)
    rw [beq_eq_false_iff_ne.2 h, beq_eq_false_iff_ne.2 h2]

theorem rsame_any (v1 v2 : Value) (us vs : List Nat) (w : World) (h1 : RdU w v1 us) (h2 : RdU w v2 vs) (hn1 : us.length ≤ 140737488355328) (hn2 : vs.length ≤ 140737488355328) :
    Calls Tryd.prog 36 #[v1, v2] w fun e w' => e = .returned (.bool (sameU us vs)) ∧ Below w.heap.size w w' := by
  have hC := rcmp_any v1 v2 us vs w h1 h2 hn1 hn2
  rw [← sameU_cmp]
  generalize cmpU us vs = c at *
  go_enter Tryd.func36, Tryd.ntmps36
  go_wp2_with (go_at_call 67; refine hC.mono ?_; rintro e w' ⟨rfl, hb⟩)
  go_ret
  exact ⟨rfl, hb⟩

/-- A slice of texts that is read in a world. -/
def RdS (w : World) (v : Value) (ws : List ByteArray) : Prop :=
  ∃ o cap, v = .slice o ws.length cap ∧ (0 < ws.length → ∃ a, o = some a ∧ a.block < w.heap.size ∧ ∀ (j : Nat) (h : j < ws.length), w.cell? (a.add j) = some (.string ws[j]))
theorem RdS.later {w W : World} {v : Value} {ws : List ByteArray} (h : RdS w v ws) (hb : Below w.heap.size w W) : RdS W v ws := by
  obtain ⟨o, cap, rfl, g⟩ := h
  refine ⟨o, cap, rfl, fun hp => ?_⟩
  obtain ⟨a, rfl, ha, hc⟩ := g hp
  refine ⟨a, rfl, Nat.lt_of_lt_of_le ha hb.size, fun j hj => ?_⟩
  have e : (a.add j).block = a.block := by unfold Addr.add; split <;> rfl
  exact (hb.cell (p := a.add j) (by rw [e]; exact ha)).trans (hc j hj)

def sameSd (ws vs : List ByteArray) : Bool := ws.map (·.toList) == vs.map (·.toList)

set_option maxRecDepth 100000 in
set_option maxHeartbeats 1000000 in
theorem rstrings_any (v1 v2 : Value) (us vs : List ByteArray) (w : World) (h1 : RdS w v1 us) (h2 : RdS w v2 vs) (hn1 : us.length ≤ 140737488355328) :
    Calls Tryd.prog 8 #[v1, v2] w fun e w' => e = .returned (.bool (sameSd us vs)) ∧ Below w.heap.size w w' := by
  obtain ⟨o1, c1, rfl, g1⟩ := h1
  obtain ⟨o2, c2, rfl, g2⟩ := h2
  obtain ⟨R, hR⟩ : ∃ R, sameSd us vs = R := ⟨_, rfl⟩
  rw [hR]
  by_cases hl : us.length = vs.length
  · have HR : Hid (((us.drop 0).map (·.toList) == (vs.drop 0).map (·.toList)) = R) := hR
    clear hR
    have q0 : ((us.length : Int) == (vs.length : Int)) = true := by rw [hl]; simp
    go_enter Tryd.func8, Tryd.ntmps8
    go_wp2
    go_loopw [13] (fun i wr => ∃ k : Nat, k ≤ us.length ∧ i = .int .i64 k ∧ Below w.heap.size w wr ∧ Hid (((us.drop k).map (·.toList) == (vs.drop k).map (·.toList)) = R)) (fun i _ => us.length - (RowKit.intOf i).toNat)
    case atStart => exact ⟨0, Nat.zero_le _, rfl, Below.refl _ _, HR.out⟩
    case round =>
      obtain ⟨k, hk, rfl, hbw, hr⟩ := hrel
      by_cases hlt : k < us.length
      · have hlt2 : k < vs.length := by omega
        have q1 : (k : Int) < (us.length : Int) := by omega
        have q2 : (k : Int) < (vs.length : Int) := by omega
        obtain ⟨a1, rfl, ha1, hc1⟩ := g1 (by omega)
        obtain ⟨a2, rfl, ha2, hc2⟩ := g2 (by omega)
        have e1 : (a1.add k).block = a1.block := by unfold Addr.add; split <;> rfl
        have e2 : (a2.add k).block = a2.block := by unfold Addr.add; split <;> rfl
        have hx := (hbw.cell (p := a1.add k) (by rw [e1]; exact ha1)).trans (hc1 k hlt)
        have hy := (hbw.cell (p := a2.add k) (by rw [e2]; exact ha2)).trans (hc2 k hlt2)
        have hr' := hr.out
        rw [List.drop_eq_getElem_cons hlt, List.drop_eq_getElem_cons hlt2, List.map_cons, List.map_cons, List.cons_beq_cons] at hr'
        generalize us[k] = x at *
        generalize vs[k] = y at *
        clear hr
        cases hxy : (x.toList == y.toList) with
        | false =>
          rw [hxy, Bool.false_and] at hr'
          subst hr'
          go_wp2
          go_quiet (fail)
          go_wp2
          go_ret
          exact ⟨rfl, below_n hbw hbw.size _⟩
        | true =>
          rw [hxy, Bool.true_and] at hr'
          go_wp2
          go_quiet (fail)
          go_wp2
          go_roundw
          case rel => exact ⟨k + 1, by omega, by go_num, below_n hbw hbw.size _, hr'⟩
          case measure => simp [RowKit.intOf]; omega
      · have hRt : R = true := by rw [← hr.out, List.drop_eq_nil_of_le (by omega), List.drop_eq_nil_of_le (by omega)]; rfl
        subst hRt
        clear hr
        go_wp2
        go_ret
        exact ⟨rfl, hbw⟩
  · have q0 : ((us.length : Int) == (vs.length : Int)) = false := beq_eq_false_iff_ne.2 (by omega)
    have hRf : R = false := by
      rw [← hR]
      unfold sameSd
      refine beq_eq_false_iff_ne.2 (fun e => hl ?_)
      have := congrArg List.length e
      simpa using this
    subst hRf
    clear hR
    go_enter Tryd.func8, Tryd.ntmps8
    go_wp2
    go_ret
    exact ⟨rfl, Below.refl _ _⟩

theorem wrap_any (x : Int) (w : World) : Calls Tryd.prog 37 #[.int .i64 x] w fun e w' => e = .returned (.int .u32 (IntKind.u32.wrap x)) ∧ w' = w := by
  go_enter Tryd.func37, Tryd.ntmps37
  go_wp2
  go_ret
  exact ⟨rfl, rfl⟩
end Go.Proofs.YtbefinbihopgfaaDoor
