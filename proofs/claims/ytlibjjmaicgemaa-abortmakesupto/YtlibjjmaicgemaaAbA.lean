/- Signals, plain and as they lie; numbers asked by a function; abort.there. -/
import Derived.Test.YtlibjjmaicgemaaLnW
namespace Go.Proofs.Ytlibjjmaicgemaa
open Go.RowKit Go.Lib Go.Shelf

/-- A signal. -/
structure SigD where
  ab : Bool
  re : Int
  dep : Bool
  src : List Int
  dts : List Int
def sigV (x : SigD) (sv dv : Value) : Value := .agg #[.bool x.ab, .int .i64 x.re, .bool x.dep, sv, dv]
def sigO (x : SigD) (sv dv : Value) : Obj := .cells #[.bool x.ab, .int .i64 x.re, .bool x.dep, sv, dv] 42
structure SCells (w : World) (b o : Nat) (x : SigD) (sv dv : Value) : Prop where
  ab : w.cell? ⟨b, o, none⟩ = some (.bool x.ab)
  re : w.cell? ⟨b, o + 1, none⟩ = some (.int .i64 x.re)
  dep : w.cell? ⟨b, o + 2, none⟩ = some (.bool x.dep)
  src : w.cell? ⟨b, o + 3, none⟩ = some sv
  dts : w.cell? ⟨b, o + 4, none⟩ = some dv
theorem SCells.later {w W : World} {b o : Nat} {x : SigD} {sv dv : Value} {n : Nat} (h : SCells w b o x sv dv) (hlt : b < n) (hb : Below n w W) : SCells W b o x sv dv where
  ab := (hb.cell (p := ⟨b, o, none⟩) hlt).trans h.ab
  re := (hb.cell (p := ⟨b, o + 1, none⟩) hlt).trans h.re
  dep := (hb.cell (p := ⟨b, o + 2, none⟩) hlt).trans h.dep
  src := (hb.cell (p := ⟨b, o + 3, none⟩) hlt).trans h.src
  dts := (hb.cell (p := ⟨b, o + 4, none⟩) hlt).trans h.dts
theorem sig_cells {W : World} {B : Nat} {x : SigD} {sv dv : Value} (h : W.heap[B]? = some (sigO x sv dv)) : SCells W B 0 x sv dv := by
  unfold sigO at h
  refine ⟨?_, ?_, ?_, ?_, ?_⟩ <;> (rw [cell_of_heap h]; rfl)
/-- A signal lies at an address, with its lists. -/
def SigAt (w : World) (b o : Nat) (x : SigD) : Prop := ∃ sv dv, SCells w b o x sv dv ∧ RdI w sv x.src ∧ RdI w dv x.dts
theorem SigAt.later {w W : World} {b o : Nat} {x : SigD} (h : SigAt w b o x) (hlt : b < w.heap.size) (hb : Below w.heap.size w W) : SigAt W b o x := by
  obtain ⟨sv, dv, h1, h2, h3⟩ := h
  exact ⟨sv, dv, h1.later hlt hb, h2.later hb, h3.later hb⟩
/-- Signals that are handed on. -/
def RdS (w : World) (v : Value) (l : List SigD) : Prop :=
  ∃ o cap, v = .slice o l.length cap ∧ l.length ≤ cap ∧ (0 < l.length → ∃ b off, o = some ⟨b, off, none⟩ ∧ b < w.heap.size ∧ ∀ (j : Nat) (h : j < l.length), SigAt w b (off + j * 5) l[j])
theorem RdS.later {w W : World} {v : Value} {l : List SigD} (h : RdS w v l) (hb : Below w.heap.size w W) : RdS W v l := by
  obtain ⟨o, cap, rfl, hc, g⟩ := h
  refine ⟨o, cap, rfl, hc, fun hp => ?_⟩
  obtain ⟨b, off, rfl, hlt, ha⟩ := g hp
  exact ⟨b, off, rfl, Nat.lt_of_lt_of_le hlt hb.size, fun j hj => (ha j hj).later hlt hb⟩
theorem RdI.nil (w : World) : RdI w (.slice none 0 0) [] := ⟨none, 0, rfl, Nat.le_refl _, fun h => absurd h (Nat.lt_irrefl _)⟩
theorem RdS.nil (w : World) : RdS w (.slice none 0 0) [] := ⟨none, 0, rfl, Nat.le_refl _, fun h => absurd h (Nat.lt_irrefl _)⟩
theorem one_rdI {W : World} {B : Nat} {t : TypeId} {x : Int} (h : W.heap[B]? = some (.cells #[.int .i64 x] t)) : RdI W (.slice (some ⟨B, 0, none⟩) 1 1) [x] := by
  refine ⟨_, 1, rfl, by simp, fun _ => ⟨B, 0, rfl, (Array.getElem?_eq_some_iff.1 h).1, fun j hj => ?_⟩⟩
  have h0 : j = 0 := by simp at hj; omega
  subst h0
  exact box1 h

/-- A function that is asked of numbers (those that q lets). -/
structure AskI (W : World) (f : Value) (q p : Int → Bool) : Prop where
  is : ∃ fn lb, f = .func (.func fn) #[] lb ∧ (∀ args w, (callFunc fn args).run Try.prog w = .ok (.enter fn args) w) ∧
    ∀ x V, q x = true → Below W.heap.size W V → Calls Try.prog fn (#[.int .i64 x] ++ lb) V fun e w' => e = .returned (.bool (p x)) ∧ Below V.heap.size V w'
theorem AskI.later {W V : World} {f : Value} {q p : Int → Bool} (h : AskI W f q p) (hb : Below W.heap.size W V) : AskI V f q p := by
  obtain ⟨fn, lb, e, eg, hc⟩ := h.is
  exact ⟨fn, lb, e, eg, fun x U hq hU => hc x U hq (hb.trans (hU.mono hb.size))⟩
/-- The first one that is asked for, counted from k; -1: none. -/
def firstI (p : Int → Bool) : List Int → Int → Int
  | [], _ => -1
  | x :: r, k => if p x = true then k else firstI p r (k + 1)
theorem firstI_any (p : Int → Bool) : ∀ (l : List Int) (k : Int), 0 ≤ k → decide (firstI p l k ≥ 0) = l.any p
  | [], k, _ => by simp [firstI]
  | x :: r, k, hk => by
    rw [firstI, List.any_cons]
    cases hp : p x with
    | true => simp [hk]
    | false =>
      rw [if_neg Bool.false_ne_true, Bool.false_or]
      exact firstI_any p r (k + 1) (by omega)
set_option maxRecDepth 100000 in
set_option maxHeartbeats 2000000 in
theorem indexI_any (v f : Value) (l : List Int) (q p : Int → Bool) (w : World) (hv : RdI w v l) (hl : l.length ≤ 1099511627776) (hf : AskI w f q p) (hq : ∀ x ∈ l, q x = true) :
    Calls Try.prog 24 #[v, f] w fun e w' => e = .returned (.int .i64 (firstI p l 0)) ∧ Below w.heap.size w w' := by
  obtain ⟨o, c, rfl, hc, g⟩ := hv
  obtain ⟨fn, lb, rfl, eg, hp⟩ := hf.is
  obtain ⟨N, hN⟩ : ∃ N, firstI p l 0 = N := ⟨_, rfl⟩
  rw [hN]
  have HN : Hid (firstI p (l.drop 0) 0 = N) := hN
  have HP := hid hp
  have G := hid g
  clear hN hp g hf
  go_enter Try.func24, Try.ntmps24
  go_wp2
  go_loopw [8] (fun t wr => ∃ k : Nat, k ≤ l.length ∧ t = .int .i64 k ∧ Hid (Below w.heap.size w wr) ∧ Hid (firstI p (l.drop k) k = N)) (fun t _ => l.length - (RowKit.intOf t).toNat)
  case atStart => exact ⟨0, Nat.zero_le _, rfl, Below.refl _ _, HN⟩
  case round =>
    obtain ⟨k, k1, rfl, hB, hK⟩ := hrel
    by_cases hlt : k < l.length
    · obtain ⟨b, off, rfl, hlt1, ha⟩ := G.out (by omega)
      have x0 := (hB.out.cell (p := ⟨b, off + k, none⟩) hlt1).trans (ha k hlt)
      have q1 : (0 : Int) ≤ (k : Int) := by omega
      have q2 : (k : Int) < (l.length : Int) := by omega
      have hk := hK.out
      rw [List.drop_eq_getElem_cons hlt, firstI] at hk
      have Hk := hid hk
      have hC := HP.out l[k] wr (hq _ (List.getElem_mem hlt)) hB.out
      clear hk hK ha G HP hq
      generalize l[k] = a at *
      generalize p a = R at *
      cases R with
      | true =>
        have hNk : N = (k : Int) := by rw [← Hk.out]; rfl
        subst hNk
        clear Hk
        go_wp2_with (go_at_fn fn; refine hC.mono ?_; rintro e w2 ⟨rfl, hb⟩; have HB2 := hid (hB.out.trans (hb.mono hB.out.size)); clear hb)
        go_ret
        exact ⟨rfl, HB2.out⟩
      | false =>
        have Hn : Hid (firstI p (l.drop (k + 1)) ((k + 1 : Nat) : Int) = N) := by
          have h := Hk.out
          rw [if_neg Bool.false_ne_true] at h
          exact h
        clear Hk
        go_wp2_with (go_at_fn fn; refine hC.mono ?_; rintro e w2 ⟨rfl, hb⟩; have HB2 := hid (hB.out.trans (hb.mono hB.out.size)); clear hb)
        go_roundw
        case rel => exact ⟨k + 1, by omega, by go_num, HB2, Hn⟩
        case measure => simp [RowKit.intOf]; omega
    · have hNk : N = -1 := by
        rw [← hK.out, List.drop_eq_nil_of_le (by omega)]
        rfl
      subst hNk
      clear hK G HP
      go_wp2
      go_ret
      exact ⟨rfl, hB.out⟩
set_option maxRecDepth 100000 in
set_option maxHeartbeats 2000000 in
theorem containsI_any (v f : Value) (l : List Int) (q p : Int → Bool) (w : World) (hv : RdI w v l) (hl : l.length ≤ 1099511627776) (hf : AskI w f q p) (hq : ∀ x ∈ l, q x = true) :
    Calls Try.prog 35 #[v, f] w fun e w' => e = .returned (.bool (l.any p)) ∧ Below w.heap.size w w' := by
  have hI := indexI_any v f l q p w hv hl hf hq
  have hA := firstI_any p l 0 (by omega)
  rw [← hA]
  obtain ⟨o, c, rfl, hc, g⟩ := hv
  obtain ⟨fn, lb, rfl, eg, hp⟩ := hf.is
  clear hA g hp hf hq
  generalize firstI p l 0 = N at *
  go_enter Try.func35, Try.ntmps35
  go_wp2_with (go_at_call 24; refine hI.mono ?_; rintro e w2 ⟨rfl, hb⟩; have HB2 := hid hb; clear hb)
  go_ret
  exact ⟨rfl, HB2.out⟩

/-- A number that is no handle of n signals. -/
def outD (n : Nat) (h : Int) : Bool := decide (h < 1) || decide ((n : Int) < h)
set_option maxRecDepth 100000 in
set_option maxHeartbeats 1000000 in
theorem thereC_any (x : Int) (o : Option Addr) (n c g : Nat) (w : World) (h0 : w.heap[g]? = some (.cells #[.slice o n c] 22)) :
    Calls Try.prog 36 #[.int .i64 x, .pointer (some ⟨g, 0, none⟩)] w fun e w' => e = .returned (.bool (outD n x)) ∧ Below w.heap.size w w' := by
  have c0 := box1 h0
  unfold outD
  have e2 : decide (x > (n : Int)) = decide ((n : Int) < x) := rfl
  rw [← e2]
  clear h0 e2
  cases h1 : decide (x < 1)
  all_goals
    go_enter Try.func36, Try.ntmps36
    go_wp2
    go_ret
    exact ⟨rfl, Below.refl _ _⟩
theorem ask_there {W : World} {g n c : Nat} {o : Option Addr} (h0 : W.heap[g]? = some (.cells #[.slice o n c] 22)) :
    AskI W (.func (.func 36) #[] #[.pointer (some ⟨g, 0, none⟩)]) (fun _ => true) (outD n) :=
  ⟨_, _, rfl, enters_of Try.func36 (by kernel_rfl) rfl, fun x V _ hV => thereC_any x o n c g V (blkLater hV h0)⟩
set_option maxRecDepth 100000 in
set_option maxHeartbeats 1000000 in
theorem there_any (o : Option Addr) (n c : Nat) (iv : Value) (is : List Int) (w : World) (hi : RdI w iv is) (hl : is.length ≤ 1099511627776) :
    Calls Try.prog 23 #[.slice o n c, iv] w fun e w' => e = .returned (.bool (!is.any (outD n))) ∧ Below w.heap.size w w' := by
  have hb : Below w.heap.size w (w.alloc (.cells #[.slice o n c] 22)) := (Below.refl _ w).alloc (Nat.le_refl _) _
  have hC := containsI_any iv _ is _ _ _ (hi.later hb) hl (ask_there (heap_new w (.cells #[.slice o n c] 22))) (fun _ _ => rfl)
  have HB := hid hb
  obtain ⟨io, ic, rfl, _, _⟩ := hi
  clear hb
  generalize is.any (outD n) = R at *
  go_enter Try.func23, Try.ntmps23
  go_wp2_with (go_at_call 35; refine hC.mono ?_; rintro e w2 ⟨rfl, hb⟩; have HB2 := hid (HB.out.trans (hb.mono HB.out.size)); clear hb)
  go_ret
  exact ⟨rfl, HB2.out⟩
end Go.Proofs.Ytlibjjmaicgemaa
