/- loop: a queue of timers: insert, drop, take. -/
import Derived.Test.YtaliecmdkloceaaLpF
import Derived.Test.YtaliecmdkloceaaLpD
namespace Go.Proofs.Ytaliecmdkloceaa
open Go.RowKit Go.Lib Go.Shelf

theorem newDr (V : World) (a b : Obj) : Below V.heap.size V (((V.alloc a).alloc b).drew) ∧ (((V.alloc a).alloc b).drew).heap.size = V.heap.size + 2 ∧ (((V.alloc a).alloc b).drew).heap[V.heap.size + 1]? = some b :=
  ⟨(two_new V a b).1.drew, (two_new V a b).2.2.2, (two_new V a b).2.2.1⟩
def alO (x : AlD) : Obj := .cells #[.int .i64 x.due, .int .i64 x.num, .int .i64 x.id] 99
set_option maxRecDepth 1000000 in
set_option maxHeartbeats 4000000 in
theorem qinsert_any (B o : Nat) (arr : Array Value) (T : TypeId) (i : Nat) (x : AlD) (v : Value) (l : List AlD) (V : World) (hb : V.heap[B]? = some (.cells arr T)) (ho : arr[o]? = some v) (hq : QR V 99 3 v l.length (rowA l)) (hne : v.ownBlock ≠ some B) (hi : i ≤ l.length) (hl : l.length ≤ 1048576) :
    Calls Try.prog 34 #[.pointer (some ⟨B, o, none⟩), .int .i64 i, alV x] V fun e w' => e = .returned (.tuple #[]) ∧ QTo V B o v 99 3 (l.length + 1) (rowA (l.take i ++ x :: l.drop i)) w' := by
  have hlt : B < V.heap.size := (Array.getElem?_eq_some_iff.1 hb).1
  have hC : ∀ U : World, Below V.heap.size V U → U.heap.size = V.heap.size + 2 → U.heap[V.heap.size + 1]? = some (alO x) → Calls Try.prog 51 #[v, .int .i64 i, .slice (some ⟨V.heap.size + 1, 0, none⟩) 1 1] U fun e w' => ∃ o1 c1, e = .returned (.slice o1 (l.length + 1) c1) ∧ w'.cell? ⟨B, o, none⟩ = some v ∧ w'.frozen? ⟨B, o, none⟩ = false ∧ Hid (QTo V B o v 99 3 (l.length + 1) (rowA (l.take i ++ x :: l.drop i)) (w'.setCell ⟨B, o, none⟩ (.slice o1 (l.length + 1) c1))) := by
    intro U hU hs hx
    refine (insertA_any v l i (V.heap.size + 1) x U (hq.later hU) hi hl hx (fun h => by have := hq.lt h; omega)).mono ?_
    rintro e w' ⟨o1, c1, rfl, h2, h3, h4⟩
    have hb1 : w'.heap[B]? = some (.cells arr T) := (h3.block B (Nat.lt_of_lt_of_le hlt hU.size) (fun h => hne h.symm)).trans ((hU.block B hlt).trans hb)
    exact ⟨o1, c1, rfl, box_at hb1 ho, box_fz hb1 o, qto_of hU h3 h2 h4 hne hlt⟩
  have c0 := box_at hb ho
  have HB := hid (fun U (h : Below V.heap.size V U) => (h.block B hlt).trans hb)
  have HC := hid hC
  clear hC hb hq hne hi hl
  obtain ⟨xd, xn, xi⟩ := x
  unfold alV alO at *
  dsimp only at *
  have cB : ∀ U, Below V.heap.size V U → U.cell? ⟨B, o, none⟩ = some v := fun U hU => box_at (HB.out U hU) ho
  have b1 : Below V.heap.size V (V.alloc (.cells #[.int .i64 xd, .int .i64 xn, .int .i64 xi] 99)) := (Below.refl _ V).alloc (Nat.le_refl _) _
  have c1 := cB _ b1
  have k0 : (V.alloc (.cells #[.int .i64 xd, .int .i64 xn, .int .i64 xi] 99)).cell? ⟨V.heap.size, 0, none⟩ = some (.int .i64 xd) := (cell_of_heap (heap_new V _) 0).trans rfl
  have k1 : (V.alloc (.cells #[.int .i64 xd, .int .i64 xn, .int .i64 xi] 99)).cell? ⟨V.heap.size, 1, none⟩ = some (.int .i64 xn) := (cell_of_heap (heap_new V _) 1).trans rfl
  have k2 : (V.alloc (.cells #[.int .i64 xd, .int .i64 xn, .int .i64 xi] 99)).cell? ⟨V.heap.size, 2, none⟩ = some (.int .i64 xi) := (cell_of_heap (heap_new V _) 2).trans rfl
  have CB := hid cB
  clear cB
  go_enter Try.func34, Try.ntmps34
  go_wp2_with fail
  go_region_with (go_at_call 51; refine (HC.out _ (newDr _ _ _).1 (newDr _ _ _).2.1 (newDr _ _ _).2.2).mono ?_; rintro e w2 ⟨o2, c2, rfl, d1, d2, HQ⟩)
  all_goals (go_end0; exact ⟨rfl, HQ.out⟩)
end Go.Proofs.Ytaliecmdkloceaa
