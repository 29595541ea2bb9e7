/- The walks of names.spanOf, Start and Part. -/
import Derived.Test.YtbefinbihopgfaaDoorPlain
import Derived.Test.YtbefinbihopgfaaDoorProg
import Derived.WalkKit
import Derived.WalkSpells
import Derived.WalkLawsBesides
import Derived.Laws.StructEq
namespace Go.Proofs
open Go.RowKit

set_option maxRecDepth 100000 in
theorem Tryd.indexSpans (w : World) (k : Nat) (h : k < YtbefinbihopgfaaDoor.spanTab.length) :
    (Instr.index 104 (.agg YtbefinbihopgfaaDoor.spanCells) (.int .i64 k)).run Tryd.prog w = .ok (.agg #[.int .i32 YtbefinbihopgfaaDoor.spanTab[k].1, .int .i32 YtbefinbihopgfaaDoor.spanTab[k].2.1, .bool YtbefinbihopgfaaDoor.spanTab[k].2.2]) w := by
  have h' : k < 21 := h
  rcases (by omega : k = 0 ∨ k = 1 ∨ k = 2 ∨ k = 3 ∨ k = 4 ∨ k = 5 ∨ k = 6 ∨ k = 7 ∨ k = 8 ∨ k = 9 ∨ k = 10 ∨ k = 11 ∨ k = 12 ∨ k = 13 ∨ k = 14 ∨ k = 15 ∨ k = 16 ∨ k = 17 ∨ k = 18 ∨ k = 19 ∨ k = 20) with rfl | rfl | rfl | rfl | rfl | rfl | rfl | rfl | rfl | rfl | rfl | rfl | rfl | rfl | rfl | rfl | rfl | rfl | rfl | rfl | rfl
  all_goals (show _ = _; kernel_rfl)

namespace YtbefinbihopgfaaDoor
set_option maxHeartbeats 400000 in
set_option maxRecDepth 100000 in
theorem spanOf_any (r : Int) (w : World) (tt : TypeId) (fz : Nat × Nat) (hg : w.heap[2]? = some (.cells spanCells tt fz)) :
    Calls Tryd.prog 74 #[.int .i32 r] w fun e w' => e = .returned (.agg #[.int .i32 (spanIn r spanTab).1, .int .i32 (spanIn r spanTab).2.1, .bool (spanIn r spanTab).2.2]) ∧ Below w.heap.size w w' := by
  have hlen : spanTab.length = 21 := rfl
  have hg1 : ∀ o, (w.alloc o).heap[2]? = some (.cells spanCells tt fz) := fun o => by
    rw [Below.heap_alloc _ _ _ (Array.getElem?_eq_some_iff.1 hg).1]; exact hg
  go_enter Tryd.func74, Tryd.ntmps74
  go_wp2_with (refine wpList_load_row rfl 104 _ rfl 2 rfl tt _ fz _ (hg1 _) Tryd.underlying104 rfl (by kernel_rfl) ?_)
  go_loopw [6] (fun i wx => ∃ k : Nat, k ≤ 21 ∧ i = .int .i64 k ∧ Hid (spanIn r (spanTab.drop k) = spanIn r spanTab) ∧ Below (w.heap.size + 1) (w.alloc (.cells #[.int .i32 0, .int .i32 0, .bool false] 86)) wx) (fun i _ => 21 - (intOf i).toNat)
  case atStart => exact ⟨0, by omega, rfl, rfl, Below.refl _ _⟩
  case round =>
    obtain ⟨k, hk, rfl, hs, hb⟩ := hrel
    have hsz := hb.size
    simp only [World.size_alloc] at hsz
    have hlw : w.heap.size < wr.heap.size := by omega
    have hbb : Below w.heap.size w wr := ((Below.refl _ w).alloc (Nat.le_refl _) _).trans (hb.mono (by omega))
    have hc0 : wr.cell? ⟨w.heap.size, 0, none⟩ = some (.int .i32 0) := (hb.cell (p := ⟨w.heap.size, 0, none⟩) (by simp)).trans (by simp)
    have hc1 : wr.cell? ⟨w.heap.size, 1, none⟩ = some (.int .i32 0) := (hb.cell (p := ⟨w.heap.size, 1, none⟩) (by simp)).trans (by simp)
    have hc2 : wr.cell? ⟨w.heap.size, 2, none⟩ = some (.bool false) := (hb.cell (p := ⟨w.heap.size, 2, none⟩) (by simp)).trans (by simp)
    have hf0 : wr.frozen? ⟨w.heap.size, 0, none⟩ = false := (hb.frozen (p := ⟨w.heap.size, 0, none⟩) (by simp)).trans (by simp)
    have hf1 : wr.frozen? ⟨w.heap.size, 1, none⟩ = false := (hb.frozen (p := ⟨w.heap.size, 1, none⟩) (by simp)).trans (by simp)
    have hf2 : wr.frozen? ⟨w.heap.size, 2, none⟩ = false := (hb.frozen (p := ⟨w.heap.size, 2, none⟩) (by simp)).trans (by simp)
    by_cases hlt : k < 21
    · have hlt' : k < spanTab.length := hlt
      have hix := fun W => Tryd.indexSpans W k hlt'
      by_cases h1 : spanTab[k].2.1 < r
      · have hn : Hid (spanIn r (spanTab.drop (k + 1)) = spanIn r spanTab) := (spanIn_last r k hlt' h1).symm.trans hs
        go_wp2
        exact ⟨⟨k + 1, by omega, by go_num, hn, hb.alloc (by omega) _⟩, by simp [intOf]; omega⟩
      · by_cases h2 : spanTab[k].1 ≤ r
        · have hn : Hid (spanTab[k] = spanIn r spanTab) := (spanIn_here r k hlt' h1 h2).symm.trans hs
          go_wp2
          refine bodyPost_ret (v := .agg #[.int .i32 spanTab[k].1, .int .i32 spanTab[k].2.1, .bool spanTab[k].2.2]) (by simp [results, Tryd.results74, go_sem, hlw, hc0, hc1, hc2]) rfl ⟨by rw [hn.out], ?_⟩
          exact (((hbb.setCell (Nat.le_refl _) _).setCell (Nat.le_refl _) _).setCell (Nat.le_refl _) _).alloc (by simp; omega) _
        · have hn : Hid ((0, 0, false) = spanIn r spanTab) := (spanIn_none r k hlt' h1 h2).symm.trans hs
          go_wp2
          refine bodyPost_ret (v := .agg #[.int .i32 0, .int .i32 0, .bool false]) (by simp [results, Tryd.results74, go_sem, hlw, hc0, hc1, hc2]) rfl ⟨by rw [← hn.out], ?_⟩
          exact (((hbb.setCell (Nat.le_refl _) _).setCell (Nat.le_refl _) _).setCell (Nat.le_refl _) _).alloc (by simp; omega) _
    · have hn : Hid ((0, 0, false) = spanIn r spanTab) := by
        have h21 : k = 21 := by omega
        subst h21
        exact hs
      go_wp2
      refine bodyPost_ret (v := .agg #[.int .i32 0, .int .i32 0, .bool false]) (by simp [results, Tryd.results74, go_sem, hc0, hc1, hc2]) rfl ⟨by rw [← hn.out], ?_⟩
      exact ((hbb.setCell (Nat.le_refl _) _).setCell (Nat.le_refl _) _).setCell (Nat.le_refl _) _

set_option maxHeartbeats 400000 in
theorem start_any (r : Int) (w : World) (tt : TypeId) (fz : Nat × Nat) (hg : w.heap[2]? = some (.cells spanCells tt fz)) :
    Calls Tryd.prog 43 #[.int .i32 r] w fun e w' => e = .returned (.bool (startB r)) ∧ Below w.heap.size w w' := by
  have hS := spanOf_any r w tt fz hg
  unfold startB
  generalize spanIn r spanTab = sp at hS ⊢
  obtain ⟨a, b, c⟩ := sp
  have hfd : ∀ W, (Instr.field 86 (.agg #[.int .i32 a, .int .i32 b, .bool c]) 2).run Tryd.prog W = .ok (.bool c) W := fun W => by kernel_rfl
  go_enter Tryd.func43, Tryd.ntmps43
  go_wp2_with (go_at_call 74; refine hS.mono ?_; rintro e w' ⟨rfl, hb⟩)
  go_ret
  exact ⟨rfl, hb⟩

set_option maxHeartbeats 400000 in
theorem part_any (r : Int) (w : World) (tt : TypeId) (fz : Nat × Nat) (hg : w.heap[2]? = some (.cells spanCells tt fz)) :
    Calls Tryd.prog 44 #[.int .i32 r] w fun e w' => e = .returned (.bool (partB r)) ∧ Below w.heap.size w w' := by
  have hS := spanOf_any r w tt fz hg
  unfold partB
  generalize spanIn r spanTab = sp at hS ⊢
  obtain ⟨a, b, c⟩ := sp
  go_enter Tryd.func44, Tryd.ntmps44
  go_wp2_with (go_at_call 74; refine hS.mono ?_; rintro e w' ⟨rfl, hb⟩)
  all_goals (go_ret; exact ⟨by simp_all, hb⟩)
end YtbefinbihopgfaaDoor
end Go.Proofs
