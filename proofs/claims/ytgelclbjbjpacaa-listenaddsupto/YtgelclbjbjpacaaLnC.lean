/- listen: what the closures answer; refused, Passive. -/
import Derived.Test.YtgelclbjbjpacaaLnB
namespace Go.Proofs.Ytgelclbjbjpacaa
open Go.RowKit Go.Lib Go.Shelf

set_option maxRecDepth 100000 in
set_option maxHeartbeats 1000000 in
theorem ofC_any (x : LstD) (n : Int) (k : ByteArray) (g : Nat) (w : World) (h0 : w.heap[g]? = some (.cells #[.int .i64 n] 3)) (h1 : w.heap[g + 1]? = some (.cells #[.string k] 9)) :
    Calls Try.prog 46 #[lstV x, .pointer (some ⟨g, 0, none⟩), .pointer (some ⟨g + 1, 0, none⟩)] w fun e w' => e = .returned (.bool (x.node == n && x.kind.toList == k.toList)) ∧ Below w.heap.size w w' := by
  unfold lstV
  have l0 := (Array.getElem?_eq_some_iff.1 h0).1
  have l1 := (Array.getElem?_eq_some_iff.1 h1).1
  have hb : Below w.heap.size w (w.alloc (lstO x)) := (Below.refl _ w).alloc (Nat.le_refl _) _
  have c0 := cellLater (o := 0) hb l0 (box1 h0)
  have c1 := cellLater (o := 0) hb l1 (box1 h1)
  have HB := hid hb
  unfold lstO at c0 c1 HB
  clear h0 h1 hb
  obtain ⟨i, xn, xk, c, cp, on, ps, sg⟩ := x
  simp only at c0 c1 HB ⊢
  cases e1 : (xn == n) <;> cases e2 : (xk.toList == k.toList)
  all_goals
    go_enter Try.func46, Try.ntmps46
    go_wp2
    go_ret
    exact ⟨rfl, HB.out⟩
set_option maxRecDepth 100000 in
set_option maxHeartbeats 1000000 in
theorem expireC_any (x : LstD) (n : Int) (g : Nat) (w : World) (h0 : w.heap[g]? = some (.cells #[.int .i64 n] 3)) :
    Calls Try.prog 41 #[lstV x, .pointer (some ⟨g, 0, none⟩)] w fun e w' => e = .returned (.bool (x.id == n)) ∧ Below w.heap.size w w' := by
  unfold lstV
  have l0 := (Array.getElem?_eq_some_iff.1 h0).1
  have hb : Below w.heap.size w (w.alloc (lstO x)) := (Below.refl _ w).alloc (Nat.le_refl _) _
  have c0 := cellLater (o := 0) hb l0 (box1 h0)
  have HB := hid hb
  unfold lstO at c0 HB
  clear h0 hb
  obtain ⟨i, xn, xk, c, cp, on, ps, sg⟩ := x
  simp only at c0 HB ⊢
  go_enter Try.func41, Try.ntmps41
  go_wp2
  go_ret
  exact ⟨rfl, HB.out⟩
set_option maxRecDepth 100000 in
set_option maxHeartbeats 1000000 in
theorem abortC_any (x : LstD) (n : Int) (g : Nat) (w : World) (h0 : w.heap[g]? = some (.cells #[.int .i64 n] 3)) :
    Calls Try.prog 40 #[lstV x, .pointer (some ⟨g, 0, none⟩)] w fun e w' => e = .returned (.bool (n != 0 && x.sig == n)) ∧ Below w.heap.size w w' := by
  unfold lstV
  have l0 := (Array.getElem?_eq_some_iff.1 h0).1
  have hb : Below w.heap.size w (w.alloc (lstO x)) := (Below.refl _ w).alloc (Nat.le_refl _) _
  have c0 := cellLater (o := 0) hb l0 (box1 h0)
  have HB := hid hb
  unfold lstO at c0 HB
  clear h0 hb
  obtain ⟨i, xn, xk, c, cp, on, ps, sg⟩ := x
  simp only at c0 HB ⊢
  cases e1 : (n != 0) <;> cases e2 : (sg == n)
  all_goals
    go_enter Try.func40, Try.ntmps40
    go_wp2
    go_ret
    exact ⟨rfl, HB.out⟩
/-- A function value that tells of listeners, whatever is made behind W. -/
structure Which (W : World) (f : Value) (p : LstD → Bool) : Prop where
  is : ∃ fn lb, f = .func (.func fn) #[] lb ∧ (∀ args w, (callFunc fn args).run Try.prog w = .ok (.enter fn args) w) ∧
    ∀ x V, Below W.heap.size W V → Calls Try.prog fn (#[lstV x] ++ lb) V fun e w' => e = .returned (.bool (p x)) ∧ Below V.heap.size V w'
theorem Which.later {W V : World} {f : Value} {p : LstD → Bool} (h : Which W f p) (hb : Below W.heap.size W V) : Which V f p := by
  obtain ⟨fn, lb, e, eg, hc⟩ := h.is
  exact ⟨fn, lb, e, eg, fun x U hU => hc x U (hb.trans (hU.mono hb.size))⟩
theorem which_all (W : World) : Which W (.func (.func 33) #[] #[]) (fun _ => true) := ⟨_, _, rfl, enters_of Try.func33 (by kernel_rfl) rfl, fun x V _ => all_fn x V⟩
theorem which_of {W : World} {g : Nat} {n : Int} {k : ByteArray} (h0 : W.heap[g]? = some (.cells #[.int .i64 n] 3)) (h1 : W.heap[g + 1]? = some (.cells #[.string k] 9)) :
    Which W (.func (.func 46) #[] #[.pointer (some ⟨g, 0, none⟩), .pointer (some ⟨g + 1, 0, none⟩)]) (fun x => x.node == n && x.kind.toList == k.toList) :=
  ⟨_, _, rfl, enters_of Try.func46 (by kernel_rfl) rfl, fun x V hV => ofC_any x n k g V (blkLater hV h0) (blkLater hV h1)⟩
theorem which_expire {W : World} {g : Nat} {n : Int} (h0 : W.heap[g]? = some (.cells #[.int .i64 n] 3)) :
    Which W (.func (.func 41) #[] #[.pointer (some ⟨g, 0, none⟩)]) (fun x => x.id == n) :=
  ⟨_, _, rfl, enters_of Try.func41 (by kernel_rfl) rfl, fun x V hV => expireC_any x n g V (blkLater hV h0)⟩
theorem which_abort {W : World} {g : Nat} {n : Int} (h0 : W.heap[g]? = some (.cells #[.int .i64 n] 3)) :
    Which W (.func (.func 40) #[] #[.pointer (some ⟨g, 0, none⟩)]) (fun x => n != 0 && x.sig == n) :=
  ⟨_, _, rfl, enters_of Try.func40 (by kernel_rfl) rfl, fun x V hV => abortC_any x n g V (blkLater hV h0)⟩

set_option maxRecDepth 100000 in
set_option maxHeartbeats 1000000 in
theorem butC_any (x : LstD) (f : Value) (p : LstD → Bool) (g : Nat) (W w : World) (hf : Which W f p) (h0 : w.heap[g]? = some (.cells #[f] 57)) (hW : Below W.heap.size W w) :
    Calls Try.prog 45 #[lstV x, .pointer (some ⟨g, 0, none⟩)] w fun e w' => e = .returned (.bool (!p x)) ∧ Below w.heap.size w w' := by
  have l0 := (Array.getElem?_eq_some_iff.1 h0).1
  have hb : Below w.heap.size w (w.alloc (lstO x)) := (Below.refl _ w).alloc (Nat.le_refl _) _
  have c0 := cellLater (o := 0) hb l0 (box1 h0)
  obtain ⟨fn, lb, rfl, eg, hc⟩ := hf.is
  have hC := hc x _ (hW.trans (hb.mono hW.size))
  have HB := hid hb
  unfold lstO at c0 HB hC
  unfold lstV at hC ⊢
  clear h0 hb hc hf
  generalize p x = R at *
  obtain ⟨i, xn, xk, c, cp, on, ps, sg⟩ := x
  simp only at c0 HB hC ⊢
  go_enter Try.func45, Try.ntmps45
  go_wp2_with (go_at_fn fn; refine hC.mono ?_; rintro e w2 ⟨rfl, hb⟩; have HB2 := hid (HB.out.trans (hb.mono HB.out.size)); clear hb)
  go_ret
  exact ⟨rfl, HB2.out⟩
theorem which_but {W V : World} {f : Value} {p : LstD → Bool} {g : Nat} (hf : Which W f p) (hW : Below W.heap.size W V) (h0 : V.heap[g]? = some (.cells #[f] 57)) :
    Which V (.func (.func 45) #[] #[.pointer (some ⟨g, 0, none⟩)]) (fun x => !p x) :=
  ⟨_, _, rfl, enters_of Try.func45 (by kernel_rfl) rfl, fun x U hU => butC_any x f p g W U hf (blkLater hU h0) (hW.trans (hU.mono hW.size))⟩
end Go.Proofs.Ytgelclbjbjpacaa
