/- loop: After whole; wide, asNumber; Do. -/
import Derived.Test.YtaliecmdkloceaaLpR
import Derived.Test.YtaliecmdkloceaaLpO
namespace Go.Proofs.Ytaliecmdkloceaa
open Go.RowKit Go.Lib Go.Shelf

/-- A loop as it may be. -/
structure OkD (s : LpD) : Prop where
  tot : totD s ≤ 4096
  srt : Sorted s.tms
  n0 : 0 ≤ s.now
  n1 : s.now ≤ 1125899906842624
  g0 : 0 ≤ s.giv
  len : s.tks.length = 8
set_option maxRecDepth 100000 in
set_option maxHeartbeats 1000000 in
theorem after_err (F : Nat → Prop) (B : Nat) (s : LpD) (ms level id : Int) (V : World) (h : LpAt V F B s) (ht : totD s ≤ 4096) (hE : afterE s ms level ≠ 0) :
    Calls Try.prog 12 #[.pointer (some ⟨B, 0, none⟩), .int .i64 ms, .int .i64 level, .int .i64 id] V fun e w' => e = .returned (.tuple #[.int .i64 0, .int .i64 (afterE s ms level)]) ∧ LpTo V F B s w' := by
  have hA := against_any F B s (wrongA ms level) V h (by omega)
  have HT := hid (fun W (hb : Below V.heap.size V W) => LpTo.of_below h hb)
  unfold afterE at *
  have hd : (againstE s (wrongA ms level) != 0) = true := by simpa using hE
  unfold wrongA at *
  generalize againstE s (decide (1125899906842624 < ms) || decide (level < 0)) = E at *
  clear hE h ht
  by_cases h1 : 1125899906842624 < ms
  · have d1 : decide (ms > 1125899906842624) = true := decide_eq_true h1
    have e1 : (decide (1125899906842624 < ms) || decide (level < 0)) = true := by rw [decide_eq_true h1]; rfl
    rw [e1] at hA
    clear e1 h1
    go_enter Try.func12, Try.ntmps12
    go_wp2_with (go_at_call 30; refine hA.mono ?_; rintro e w2 ⟨rfl, hb⟩; have HB2 := hid hb; clear hb)
    refine bodyPost_ret (v := .tuple #[.int .i64 0, .int .i64 E]) (by simp [results, Try.results12, go_sem]) rfl ?_
    exact ⟨rfl, HT.out _ HB2.out⟩
  · have d1 : decide (ms > 1125899906842624) = false := decide_eq_false h1
    have e1 : (decide (1125899906842624 < ms) || decide (level < 0)) = decide (level < 0) := by rw [decide_eq_false h1]; rfl
    rw [e1] at hA
    clear e1 h1
    go_enter Try.func12, Try.ntmps12
    go_wp2_with (go_at_call 30; refine hA.mono ?_; rintro e w2 ⟨rfl, hb⟩; have HB2 := hid hb; clear hb)
    refine bodyPost_ret (v := .tuple #[.int .i64 0, .int .i64 E]) (by simp [results, Try.results12, go_sem]) rfl ?_
    exact ⟨rfl, HT.out _ HB2.out⟩
theorem after_any (F : Nat → Prop) (B : Nat) (s : LpD) (ms level id : Int) (V : World) (h : LpAt V F B s) (ho : OkD s) (hg1 : s.giv < 4611686018427387904) :
    Calls Try.prog 12 #[.pointer (some ⟨B, 0, none⟩), .int .i64 ms, .int .i64 level, .int .i64 id] V fun e w' => e = .returned (.tuple #[.int .i64 (afterN s ms level), .int .i64 (afterE s ms level)]) ∧ LpTo V F B (afterD s ms level id) w' := by
  unfold afterN afterD
  by_cases hE : afterE s ms level = 0
  · rw [if_pos hE, if_pos hE, hE]
    exact after_ok F B s ms level id V h ho.tot ho.srt ho.n0 ho.n1 ho.g0 hg1 hE
  · rw [if_neg hE, if_neg hE]
    exact after_err F B s ms level id V h ho.tot hE
set_option maxRecDepth 100000 in
set_option maxHeartbeats 1000000 in
theorem wide_any (n why : Int) (V : World) : Calls Try.prog 20 #[.int .i64 n, .int .i64 why] V fun e w' => e = .returned (.tuple #[.int .i64 n, .int .i64 why]) ∧ w' = V := by
  go_enter Try.func20, Try.ntmps20
  go_wp2
  refine bodyPost_ret (v := .tuple #[.int .i64 n, .int .i64 why]) (by simp [results, Try.results20, go_sem]) rfl ?_
  exact ⟨rfl, rfl⟩
def oneD (b : Bool) : Int := if b = true then 1 else 0
set_option maxRecDepth 100000 in
set_option maxHeartbeats 1000000 in
theorem asNumber_any (b : Bool) (V : World) : Calls Try.prog 21 #[.bool b] V fun e w' => e = .returned (.int .i64 (oneD b)) ∧ w' = V := by
  cases b
  all_goals
    go_enter Try.func21, Try.ntmps21
    go_wp2
    go_ret
    exact ⟨rfl, rfl⟩
/-- Something that is done with a loop. -/
structure StepD where
  kind : Nat
  src : Int
  id : Int
  ms : Int
  level : Int
  timer : Int
def stepV (x : StepD) : Value := .agg #[.int .u8 (x.kind : Int), .int .i64 x.src, .int .i64 x.id, .int .i64 x.ms, .int .i64 x.level, .int .i64 x.timer]
def stepO (x : StepD) : Obj := .cells #[.int .u8 (x.kind : Int), .int .i64 x.src, .int .i64 x.id, .int .i64 x.ms, .int .i64 x.level, .int .i64 x.timer] 34
structure AnsD where
  st : LpD
  num : Int
  turn : TurnD
  why : Int
def doD (s : LpD) (x : StepD) : AnsD :=
  if x.kind = 1 then ⟨taskD s x.src x.id, 0, noTurn, againstE s (wrongT x.src)⟩
  else if x.kind = 2 then ⟨microD s x.id, 0, noTurn, againstE s false⟩
  else if x.kind = 3 then ⟨afterD s x.ms x.level x.id, afterN s x.ms x.level, noTurn, afterE s x.ms x.level⟩
  else if x.kind = 4 then ⟨clearD s x.timer, oneD (s.tms.any (isN x.timer)), noTurn, 0⟩
  else if x.kind = 5 then ⟨advD s x.ms, (advN s x.ms : Nat), noTurn, advE s x.ms⟩
  else if x.kind = 6 then ⟨(nextD s x.src).1, 0, (nextD s x.src).2, 0⟩
  else if x.kind = 7 then ⟨closeD s, oneD (!s.cls), noTurn, 0⟩
  else ⟨s, 0, noTurn, 23⟩
def ansV (a : AnsD) : Value := .tuple #[.int .i64 a.num, turnV a.turn, .int .i64 a.why]
/-- The world in which Do asks: its two variables are laid. -/
structure DoW (V V1 : World) (x : StepD) : Prop where
  bel : Below V.heap.size V V1
  size : V1.heap.size = V.heap.size + 1 + 1
  step : V1.heap[V.heap.size]? = some (stepO x)
  turn : V1.heap[V.heap.size + 1]? = some zT
theorem doW_start (V : World) (x : StepD) : DoW V ((V.alloc (stepO x)).alloc zT) x :=
  ⟨(two_new V _ _).1, (two_new V _ _).2.2.2, (two_new V _ _).2.1, (two_new V _ _).2.2.1⟩
/-- A callee's answer, for Do: the turn's cells are there. -/
theorem DoW.ans {V V1 W : World} {x : StepD} {F : Nat → Prop} {B : Nat} {s' : LpD} (h : DoW V V1 x) (hF : ∀ k, F k → k < V.heap.size) (hq : LpTo V1 F B s' W) : W.heap[V.heap.size + 1]? = some zT ∧ ∀ U, But1 (V.heap.size + 1) W U → LpTo V F B s' U := by
  have hs := h.size
  refine ⟨(hq.1.block _ (by omega) (fun hf => by have := hF _ hf; omega)).trans h.turn, fun U hU => hq.res h.bel (by omega) (by omega) hF hU⟩
end Go.Proofs.Ytaliecmdkloceaa
