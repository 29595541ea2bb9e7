/- The reference of abort: has, of. -/
import Derived.Test.YtlibjjmaicgemaaAbC
import Derived.Test.YtlibjjmaicgemaaAbD
import Derived.Deep.DeepCutAuto
import Derived.Deep.CutRange
namespace Go.Proofs.Ytlibjjmaicgemaa
open Go.RowKit Go.Lib Go.Shelf

def atS (ls : List SigD) (k : Int) : SigD := (ls[k.toNat - 1]?).getD ⟨false, 0, false, [], []⟩
theorem atS_at {ls : List SigD} {p : Nat} (hp : p < ls.length) : atS ls ((p : Int) + 1) = ls[p] := by
  unfold atS
  rw [show ((p : Int) + 1).toNat - 1 = p by omega, List.getElem?_eq_getElem hp]
  rfl
/-- The list of a signal that must have the other one. -/
def backD (s : SigD) (dep : Bool) : List Int := if dep = true then s.src else s.dts
/-- One link of the signal h is as it must be. -/
def linkOne (ls : List SigD) (h : Int) (dep : Bool) (before : List Int) (k : Int) : Bool :=
  !outD ls.length k && ((atS ls k).dep == dep && (!before.contains k && (backD (atS ls k) dep).contains h))
def linkD (ls : List SigD) (h : Int) (dep : Bool) : List Int → List Int → Bool
  | _, [] => true
  | b, k :: r => linkOne ls h dep b k && linkD ls h dep (b ++ [k]) r
/-- A source is aborted, and the signal is not. -/
def lateD (ls : List SigD) (s : SigD) : Bool := s.src.any (fun k => abAt ls (k.toNat - 1) && !s.ab)
def sideD (ls : List SigD) (i : Nat) (s : SigD) : Bool :=
  if s.dep = true then (decide (s.dts.length = 0) && linkD ls ((i : Int) + 1) false [] s.src) else (decide (s.src.length = 0) && linkD ls ((i : Int) + 1) true [] s.dts)
def refOne (ls : List SigD) (i : Nat) (s : SigD) : Bool := !((s.re == 0) == s.ab) && (sideD ls i s && !lateD ls s)
def refFrom (ls : List SigD) : Nat → List SigD → Bool
  | _, [] => true
  | i, s :: r => refOne ls i s && refFrom ls (i + 1) r
set_option maxRecDepth 100000 in
set_option maxHeartbeats 2000000 in
theorem hasR_any (v : Value) (l : List Int) (x : Int) (w : World) (hv : RdI w v l) (hl : l.length ≤ 1099511627776) :
    Calls Try.prog 37 #[v, .int .i64 x] w fun e w' => e = .returned (.bool (l.contains x)) ∧ Below w.heap.size w w' := by
  obtain ⟨o, c, rfl, hc, g⟩ := hv
  obtain ⟨N, hN⟩ : ∃ N, l.contains x = N := ⟨_, rfl⟩
  rw [hN]
  have HN : Hid ((l.drop 0).contains x = N) := hN
  have G := hid g
  clear hN g
  go_enter Try.func37, Try.ntmps37
  go_wp2
  go_loopw [9] (fun t wr => ∃ k : Nat, k ≤ l.length ∧ t = .int .i64 k ∧ Hid (Below w.heap.size w wr) ∧ Hid ((l.drop k).contains x = N)) (fun t _ => l.length - (RowKit.intOf t).toNat)
  case atStart => exact ⟨0, Nat.zero_le _, rfl, Below.refl _ _, HN⟩
  case round =>
    obtain ⟨k, k1, rfl, hB, hK⟩ := hrel
    by_cases hlt : k < l.length
    · obtain ⟨b, off, rfl, hlt1, ha⟩ := G.out (by omega)
      have x0 := (hB.out.cell (p := ⟨b, off + k, none⟩) hlt1).trans (ha k hlt)
      have q1 : (0 : Int) ≤ (k : Int) := by omega
      have q2 : (k : Int) < (l.length : Int) := by omega
      have hk := hK.out
      rw [List.drop_eq_getElem_cons hlt, List.contains_cons] at hk
      have Hk := hid hk
      clear hk hK ha G
      generalize l[k] = a at *
      cases he : (a == x) with
      | true =>
        have hNk : N = true := by
          rw [← Hk.out]
          have : (x == a) = true := by rw [beq_iff_eq] at he ⊢; exact he.symm
          rw [this, Bool.true_or]
        subst hNk
        clear Hk
        go_wp2
        go_ret
        exact ⟨rfl, hB.out⟩
      | false =>
        have Hn : Hid ((l.drop (k + 1)).contains x = N) := by
          have h := Hk.out
          have : (x == a) = false := by rw [beq_eq_false_iff_ne] at he ⊢; exact fun e => he e.symm
          rw [this, Bool.false_or] at h
          exact h
        clear Hk
        go_wp2
        go_roundw
        case rel => exact ⟨k + 1, by omega, by go_num, hB, Hn⟩
        case measure => simp [RowKit.intOf]; omega
    · have hNk : N = false := by
        rw [← hK.out, List.drop_eq_nil_of_le (by omega)]
        rfl
      subst hNk
      clear hK G
      go_wp2
      go_ret
      exact ⟨rfl, hB.out⟩
set_option maxRecDepth 100000 in
set_option maxHeartbeats 2000000 in
theorem ofR_no (o : Option Addr) (n c : Nat) (h : Int) (w : World) (ho : outD n h = true) :
    Calls Try.prog 28 #[.slice o n c, .int .i64 h] w fun e w' => e = .returned (.tuple #[.agg #[.bool false, .int .i64 0, .bool false, .slice none 0 0, .slice none 0 0], .bool false]) ∧ Below w.heap.size w w' := by
  have HB : Hid (Below w.heap.size w (w.alloc (.cells #[.bool false, .int .i64 0, .bool false, .slice none 0 0, .slice none 0 0] 42))) := (Below.refl _ w).alloc (Nat.le_refl _) _
  have HN := hid (sig_cells (x := ⟨false, 0, false, [], []⟩) (heap_new w (.cells #[.bool false, .int .i64 0, .bool false, .slice none 0 0, .slice none 0 0] 42)))
  have hgt : decide (h < 1) = false → decide (h > (n : Int)) = true := fun e => by
    unfold outD at ho
    rw [e, Bool.false_or] at ho
    exact ho
  clear ho
  cases h1 : decide (h < 1) with
  | true =>
    clear hgt
    go_enter Try.func28, Try.ntmps28
    go_wp2
    generalize w.alloc (.cells #[.bool false, .int .i64 0, .bool false, .slice none 0 0, .slice none 0 0] 42) = W at *
    have a0 := HN.out.ab
    have a1 := HN.out.re
    have a2 := HN.out.dep
    have a3 := HN.out.src
    have a4 := HN.out.dts
    refine bodyPost_ret (v := .tuple #[.agg #[.bool false, .int .i64 0, .bool false, .slice none 0 0, .slice none 0 0], .bool false]) (by simp [results, Try.results28, go_sem, a0, a1, a2, a3, a4]) rfl ?_
    exact ⟨rfl, HB.out⟩
  | false =>
    have h2 := hgt h1
    clear hgt
    go_enter Try.func28, Try.ntmps28
    go_wp2
    generalize w.alloc (.cells #[.bool false, .int .i64 0, .bool false, .slice none 0 0, .slice none 0 0] 42) = W at *
    have a0 := HN.out.ab
    have a1 := HN.out.re
    have a2 := HN.out.dep
    have a3 := HN.out.src
    have a4 := HN.out.dts
    refine bodyPost_ret (v := .tuple #[.agg #[.bool false, .int .i64 0, .bool false, .slice none 0 0, .slice none 0 0], .bool false]) (by simp [results, Try.results28, go_sem, a0, a1, a2, a3, a4]) rfl ?_
    exact ⟨rfl, HB.out⟩
set_option maxRecDepth 100000 in
set_option maxHeartbeats 2000000 in
theorem ofR_yes (v : Value) (ls : List SigD) (p : Nat) (w : World) (hv : RdS w v ls) (hl : ls.length ≤ 1099511627776) (hp : p < ls.length) :
    Calls Try.prog 28 #[v, .int .i64 ((p : Int) + 1)] w fun e w' => ∃ so sc d dc, e = .returned (.tuple #[.agg #[.bool ls[p].ab, .int .i64 ls[p].re, .bool ls[p].dep, .slice so ls[p].src.length sc, .slice d ls[p].dts.length dc], .bool true]) ∧ RdI w (.slice so ls[p].src.length sc) ls[p].src ∧ RdI w (.slice d ls[p].dts.length dc) ls[p].dts ∧ Below w.heap.size w w' := by
  obtain ⟨o, c, rfl, _, g⟩ := hv
  obtain ⟨b, off, rfl, hlt, ha⟩ := g (by omega)
  obtain ⟨sv, dv, X, rs, rd⟩ := ha p hp
  have RS := hid rs
  have RD := hid rd
  obtain ⟨so, sc, rfl, _⟩ := rs
  obtain ⟨d, dc, rfl, _⟩ := rd
  have hba : Below w.heap.size w (w.alloc (.cells #[.bool false, .int .i64 0, .bool false, .slice none 0 0, .slice none 0 0] 42)) := (Below.refl _ w).alloc (Nat.le_refl _) _
  have HB := hid hba
  have HX := hid (heap_new w (.cells #[.bool false, .int .i64 0, .bool false, .slice none 0 0, .slice none 0 0] 42))
  have X' := X.later hlt hba
  have x0 := X'.ab
  have x1 := X'.re
  have x2 := X'.dep
  have x3 := X'.src
  have x4 := X'.dts
  have h1 : decide ((p : Int) + 1 < 1) = false := decide_eq_false (by omega)
  have h2 : decide ((p : Int) + 1 > (ls.length : Int)) = false := decide_eq_false (by omega)
  have q1 : (0 : Int) ≤ (p : Int) := by omega
  have q2 : (p : Int) < (ls.length : Int) := by omega
  have hw1 : IntKind.i64.wrap (p : Int) = (p : Int) := wrapA (by omega) (by omega)
  clear ha g X X' hba
  generalize ls[p] = a at *
  obtain ⟨ab, re, dep, src, dts⟩ := a
  dsimp only at *
  go_enter Try.func28, Try.ntmps28
  go_wp2
  have HB2 : Hid (Below w.heap.size w (w.alloc (.cells #[.bool ab, .int .i64 re, .bool dep, .slice so src.length sc, .slice d dts.length dc] 42))) := (Below.refl _ w).alloc (Nat.le_refl _) _
  have HN := hid (sig_cells (x := ⟨ab, re, dep, src, dts⟩) (heap_new w (.cells #[.bool ab, .int .i64 re, .bool dep, .slice so src.length sc, .slice d dts.length dc] 42)))
  clear x0 x1 x2 x3 x4 HB HX
  generalize w.alloc (.cells #[.bool ab, .int .i64 re, .bool dep, .slice so src.length sc, .slice d dts.length dc] 42) = W at *
  have a0 := HN.out.ab
  have a1 := HN.out.re
  have a2 := HN.out.dep
  have a3 := HN.out.src
  have a4 := HN.out.dts
  dsimp only at a0 a1 a2
  refine bodyPost_ret (v := .tuple #[.agg #[.bool ab, .int .i64 re, .bool dep, .slice so src.length sc, .slice d dts.length dc], .bool true]) (by simp [results, Try.results28, go_sem, a0, a1, a2, a3, a4]) rfl ?_
  exact ⟨so, sc, d, dc, rfl, RS.out, RD.out, HB2.out⟩
end Go.Proofs.Ytlibjjmaicgemaa
