/- loop: Close. -/
import Derived.Test.YtaliecmdkloceaaLpQ
namespace Go.Proofs.Ytaliecmdkloceaa
open Go.RowKit Go.Lib Go.Shelf

def closedD (s : LpD) : LpD := ⟨s.now, [], List.replicate 8 [], [], s.giv, true⟩
def closeD (s : LpD) : LpD := if s.cls = true then s else closedD s
theorem Tri.start (V : World) (B : Nat) (arr : Array Value) (hb : V.heap[B]? = some (.cells arr 73)) : Tri ((V.alloc (.cells #[.pointer (some ⟨B, 0, none⟩)] 24)).alloc (.cells #[.bool false] 4)) ((V.alloc (.cells #[.pointer (some ⟨B, 0, none⟩)] 24)).alloc (.cells #[.bool false] 4)) B V.heap.size (V.heap.size + 1) arr false :=
  have h2 := two_new V (.cells #[.pointer (some ⟨B, 0, none⟩)] 24) (.cells #[.bool false] 4)
  ⟨(h2.1.block B (Array.getElem?_eq_some_iff.1 hb).1).trans hb, h2.2.1, h2.2.2.1, rfl, rfl, rfl, rfl, fun _ _ _ => rfl⟩
def endArr (arr : Array Value) : Array Value := ((clsArr (arr.setIfInBounds 13 (.int .i32 1))).setIfInBounds 12 (.int .u32 1)).setIfInBounds 13 (.int .i32 0)
theorem endArr_of {arr : Array Value} {s : LpD} {v : Nat → Value} (h : ArrOf arr s v) : ArrOf (endArr arr) (closedD s) (fun _ => .slice none 0 0) := by
  have hs := h.sz
  have h0 := (Array.getElem?_eq_some_iff.1 h.now).2
  have h11 := (Array.getElem?_eq_some_iff.1 h.giv).2
  have h14 := (Array.getElem?_eq_some_iff.1 h.sem).2
  unfold endArr clsArr closedD
  refine ⟨?_, fun i h1 h2 => ?_, ?_, ?_, ?_, ?_, ?_, ?_⟩
  · simp [hs, h0]
  · rcases (by omega : i = 1 ∨ i = 2 ∨ i = 3 ∨ i = 4 ∨ i = 5 ∨ i = 6 ∨ i = 7 ∨ i = 8 ∨ i = 9 ∨ i = 10) with rfl | rfl | rfl | rfl | rfl | rfl | rfl | rfl | rfl | rfl <;> simp [hs]
  · simp [hs, h11]
  · simp [hs, doneN]
  · simp [hs]
  · simp [hs, h14]
  · simp [hs]
  · simpa using hs
theorem qI_closed (s : LpD) (i : Nat) : qI (closedD s) i = [] := by
  unfold qI closedD
  split
  · rfl
  · dsimp only
    rw [List.getD_eq_getElem?_getD, List.getElem?_replicate]
    split <;> rfl
theorem LpV.closed {V V1 W : World} {F : Nat → Prop} {B : Nat} {s : LpD} {arr : Array Value} {v : Nat → Value} (h : LpV V F B s arr v) (hb : Below V.heap.size V V1) {N1 N2 : Nat} (n2 : V.heap.size ≤ N2) {f : Bool} (hT : Tri V1 W B N1 N2 (endArr arr) f) : LpTo V F B (closedD s) W := by
  refine ⟨⟨hT.os.trans hb.os, hT.tape.trans hb.tape, hT.output.trans hb.output, by rw [hT.size]; exact hb.size, fun k hk hn => ?_⟩, F, ⟨endArr arr, fun _ => .slice none 0 0, hT.box, endArr_of h.arr, fun i h1 h2 => ?_, QR.nil _ _ _, fun i _ _ g hg => (by cases hg), fun i j _ _ _ _ _ g hg => (by cases hg), h.self, fun k hk => ?_, rfl⟩, fun k hk => .inl hk⟩
  · exact (hT.block k (fun e => hn (by rw [e]; exact h.self)) (by omega)).trans (hb.block k hk)
  · rw [qI_closed]
    exact QR.nil _ _ _
  · rw [hT.size]
    exact Nat.lt_of_lt_of_le (h.low k hk) hb.size
set_option maxRecDepth 100000 in
set_option maxHeartbeats 1000000 in
theorem close_any (F : Nat → Prop) (B : Nat) (s : LpD) (V : World) (h : LpAt V F B s) :
    Calls Try.prog 23 #[.pointer (some ⟨B, 0, none⟩)] V fun e w' => e = .returned (.bool (!s.cls)) ∧ LpTo V F B (closeD s) w' := by
  have hat := h
  obtain ⟨arr, v, h1⟩ := h
  have hs := h1.arr.sz
  have h2 := two_new V (.cells #[.pointer (some ⟨B, 0, none⟩)] 24) (.cells #[.bool false] 4)
  have hT := Tri.start V B arr h1.box
  have hlt := h1.lt
  have h3 := (h1.later h2.1).cs
  have hV1 : Hid (∀ W, Below ((V.alloc (.cells #[.pointer (some ⟨B, 0, none⟩)] 24)).alloc (.cells #[.bool false] 4)).heap.size ((V.alloc (.cells #[.pointer (some ⟨B, 0, none⟩)] 24)).alloc (.cells #[.bool false] 4)) W → Below V.heap.size V W) := fun W hW => h2.1.trans (hW.mono h2.1.size)
  have hmf : ∀ (fn : Fn) (first cap : Array Value) (w : World), (Instr.makeFunc fn first cap).run Try.prog w = .ok (.func fn first cap) w := fun _ _ _ _ => rfl
  have p0 : (V.alloc (.cells #[.pointer (some ⟨B, 0, none⟩)] 24)).cell? ⟨V.heap.size, 0, none⟩ = some (.pointer (some ⟨B, 0, none⟩)) := box1 (heap_new V _)
  have p1 := box1 hT.var
  have p2 := box1 hT.first
  unfold closeD
  cases hc : s.cls with
  | true =>
    rw [if_pos rfl]
    have hd := h3.done
    rw [hc] at hd
    have hO := hid (once_done B 12 (.func (.func 46) #[] #[.pointer (some ⟨V.heap.size + 1, 0, none⟩), .pointer (some ⟨V.heap.size, 0, none⟩)]) _ hd)
    have HX := hid (LpTo.of_below hat h2.1)
    clear hT h3 hd h1 hat hc hs h2 hV1
    go_enter Try.func23, Try.ntmps23
    go_wp2_with (go_at_call 45; refine hO.out.mono ?_; rintro e w3 ⟨rfl, rfl⟩)
    go_ret
    exact ⟨rfl, HX.out⟩
  | false =>
    rw [if_neg Bool.false_ne_true]
    have hd := h3.done
    rw [hc] at hd
    have eg : ∀ args w, (callFunc 46 args).run Try.prog w = .ok (.enter 46 args) w := enters_of Try.func46 (by kernel_rfl) rfl
    have n1 : V.heap.size ≠ B := by omega
    have n2 : V.heap.size + 1 ≠ B := by omega
    have n3 : V.heap.size + 1 ≠ V.heap.size := by omega
    have hC := closeC_any _ B V.heap.size (V.heap.size + 1) _ _ (hT.setB n1 n2 13 (.int .i32 1)) (by simpa using hs) n1 n2 n3
    have hO := once_first B 12 _ #[.pointer (some ⟨V.heap.size + 1, 0, none⟩), .pointer (some ⟨V.heap.size, 0, none⟩)] _ _ hd h3.mu (h3.fz 13) eg hC (fun w' hr => by
      have hsz2 : (clsArr (arr.setIfInBounds 13 (.int .i32 1))).size = 16 := by unfold clsArr; simpa using hs
      refine ⟨hr.cell 12 (by omega), box_fz hr.box 12, box_at hr.box ?_, box_fz hr.box 13⟩
      unfold clsArr
      simp [hs])
    have hO2 : Hid (Calls Try.prog 45 #[.pointer (some ⟨B, 12, none⟩), .func (.func 46) #[] #[.pointer (some ⟨V.heap.size + 1, 0, none⟩), .pointer (some ⟨V.heap.size, 0, none⟩)]] ((V.alloc (.cells #[.pointer (some ⟨B, 0, none⟩)] 24)).alloc (.cells #[.bool false] 4)) fun e w' => e = .returned (.tuple #[]) ∧ w'.cell? ⟨V.heap.size + 1, 0, none⟩ = some (.bool true) ∧ Hid (LpTo V F B (closedD s) w')) := by
      refine hO.mono ?_
      rintro e w' ⟨rfl, u, hu, rfl⟩
      have hF := (hu.drew.setB n1 n2 12 (.int .u32 1)).setB n1 n2 13 (.int .i32 0)
      exact ⟨rfl, box1 hF.first, h1.closed h2.1 (Nat.le_succ _) hF⟩
    clear hO hC hT h3 hd h1 hat hc hs h2 hV1 eg
    go_enter Try.func23, Try.ntmps23
    go_wp2_with (go_at_call 45; refine hO2.out.mono ?_; rintro e w3 ⟨rfl, q2, HX⟩)
    go_ret
    exact ⟨rfl, HX.out⟩
end Go.Proofs.Ytaliecmdkloceaa
