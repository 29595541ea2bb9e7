/- The law ListenTakes: every listener is taken away as the document says. -/
import Derived.Test.YtgelclbjbjpacaaLnQ
import Derived.Test.YtgelclbjbjpacaaLnM
import Derived.Test.YtgelclbjbjpacaaLnN
import Derived.Test.YtgelclbjbjpacaaLnAF
namespace Go.Proofs.Ytgelclbjbjpacaa
open Go.RowKit Go.Lib Go.Shelf

set_option maxRecDepth 100000 in
set_option maxHeartbeats 4000000 in
theorem same_zero (v1 v2 : Value) (w : World) (h1 : RdL w v1 []) (h2 : RdL w v2 []) :
    Calls Try.prog 11 #[.agg #[v1, .int .i64 0], .agg #[v2, .int .i64 1]] w fun e w' => e = .returned (.bool true) ∧ Below w.heap.size w w' := by
  have h2n := two_new w (.cells #[v1, .int .i64 0] 24) (.cells #[v2, .int .i64 1] 24)
  obtain ⟨a0, a1, a2, a3⟩ := box_cells h2n.2.1
  obtain ⟨b0, b1, b2, b3⟩ := box_cells h2n.2.2.1
  have HB := hid h2n.1
  obtain ⟨o1, c1, rfl, hc1, g1⟩ := h1
  obtain ⟨o2, c2, rfl, hc2, g2⟩ := h2
  clear h2n g1 g2
  rw [List.length_nil] at *
  go_enter Try.func11, Try.ntmps11
  go_upto_region 1 with fail
  generalize (w.alloc (.cells #[.slice o1 0 c1, .int .i64 0] 24)).alloc (.cells #[.slice o2 0 c2, .int .i64 1] 24) = W0 at *
  go_wp2
  go_loopw [38] (fun t wr => t = .int .i64 0 ∧ wr = W0) (fun _ _ => 0)
  case atStart => exact ⟨rfl, rfl⟩
  case round =>
    obtain ⟨rfl, rfl⟩ := hrel
    go_wp2
    go_ret
    exact ⟨rfl, HB.out⟩

def Apart (a b : LstD) : Prop := markEq a b = false ∧ a.id < b.id
theorem good_pair (next : Int) : ∀ (l : List LstD) (last : Int) (seen : List LstD), goodD next last seen l = true → l.Pairwise Apart ∧ ∀ a ∈ seen, ∀ b ∈ l, markEq a b = false
  | [], _, _, _ => ⟨List.Pairwise.nil, fun _ _ _ hb => by cases hb⟩
  | x :: r, last, seen, h => by
    have h' := h
    simp only [goodD, Bool.and_eq_true, decide_eq_true_eq, Bool.not_eq_true'] at h'
    obtain ⟨g1, g2, g3, g4, g5⟩ := h'
    have ih := good_pair next r x.id (seen ++ [x]) g5
    have hi := good_ids next r x.id (seen ++ [x]) g5
    refine ⟨List.Pairwise.cons (fun b hb => ⟨ih.2 x (by simp) b hb, (hi b hb).1⟩) ih.1, fun a ha b hb => ?_⟩
    rcases List.mem_cons.1 hb with rfl | hb
    · rw [List.any_eq_false] at g4
      have := g4 a ha
      rw [markEq_comm]
      exact Bool.eq_false_iff.2 this
    · exact ih.2 a (by simp [ha]) b hb
theorem pair_one : ∀ (l : List LstD), l.Pairwise Apart → ∀ x ∈ l, ∀ y ∈ l, (markEq x y = true ∨ x.id = y.id) → x = y
  | [], _, _, hx, _, _, _ => by cases hx
  | a :: r, hp, x, hx, y, hy, h => by
    obtain ⟨h1, h2⟩ := List.pairwise_cons.1 hp
    rcases List.mem_cons.1 hx with ex | hx1
    · rcases List.mem_cons.1 hy with ey | hy1
      · rw [ex, ey]
      · have q := h1 y hy1
        rw [ex] at h
        rcases h with h | h
        · rw [q.1] at h; cases h
        · have := q.2; omega
    · rcases List.mem_cons.1 hy with ey | hy1
      · have q := h1 x hx1
        rw [ey] at h
        rcases h with h | h
        · rw [markEq_comm, q.1] at h; cases h
        · have := q.2; omega
      · exact pair_one r h2 x hx1 y hy1 h
theorem mark_both {x y m : LstD} (h1 : markEq x m = true) (h2 : markEq y m = true) : markEq x y = true := by
  simp only [markEq, Bool.and_eq_true, beq_iff_eq] at *
  exact ⟨h1.1.trans h2.1.symm, h1.2.1.trans h2.2.1.symm, h1.2.2.1.trans h2.2.2.1.symm, h1.2.2.2.trans h2.2.2.2.symm⟩
theorem taken_same {ls : List LstD} {next : Int} (hc : checkD ls next = true) (m : LstD) (j : Nat) (hj : j < ls.length) (hm : markEq ls[j] m = true) : ls.filter (fun z => !markEq z m) = ls.filter (fun z => !(z.id == ls[j].id)) := by
  have hp : ls.Pairwise Apart := by
    rcases check_parts hc with ⟨rfl, _⟩ | ⟨_, _, _, h⟩
    · exact List.Pairwise.nil
    · exact (good_pair next ls 0 [] h).1
  refine List.filter_congr (fun z hz => ?_)
  congr 1
  rw [Bool.eq_iff_iff, beq_iff_eq]
  constructor
  · intro h
    rw [pair_one ls hp z hz ls[j] (List.getElem_mem hj) (.inl (mark_both h hm))]
  · intro h
    rw [pair_one ls hp z hz ls[j] (List.getElem_mem hj) (.inr h)]
    exact hm

theorem removes_both (ls : List LstD) (next : Int) (x : LstD) (hw : ∀ y ∈ ls, WfL y) (hl : ls.length ≤ 1048576) (hc : checkD ls next = true) :
    ∃ (A : List LstD) (I : Int), A.length ≤ ls.length ∧ (∀ (V : World) (va : Value), RdL V va ls → Calls Try.prog 16 #[.agg #[va, .int .i64 next], .int .i64 x.node, .string x.kind, .int .i64 x.cb, .bool x.cap] V fun e w' => ∃ o c, e = .returned (.tuple #[.agg #[.slice o A.length c, .int .i64 next], .int .i64 I, .int .i64 0]) ∧ RdL w' (.slice o A.length c) A ∧ Below V.heap.size V w') ∧ (∀ (V : World) (va : Value), RdL V va ls → Calls Try.prog 17 #[.agg #[va, .int .i64 next], .int .i64 x.node, .string x.kind, .int .i64 x.cb, .bool x.cap] V fun e w' => ∃ o c, e = .returned (.tuple #[.agg #[.slice o A.length c, .int .i64 (idD next)], .int .i64 I, .int .i64 0]) ∧ RdL w' (.slice o A.length c) A ∧ Below V.heap.size V w') := by
  cases hs : ls.any (fun z => markEq z ⟨0, x.node, x.kind, x.cb, x.cap, false, 0, 0⟩) with
  | false =>
    have hs2 : ls.any (markEq ⟨0, x.node, x.kind, x.cb, x.cap, false, 0, 0⟩) = false := by
      rw [← hs]
      congr 1
      exact funext fun z => markEq_comm _ z
    exact ⟨ls, 0, Nat.le_refl _, fun V va hV => (remove_none va ls next x.node x.kind x.cb x.cap V hV hw (by omega) hc hs).mono (by rintro e w' ⟨o, c, rfl, ho, hb⟩; exact ⟨o, c, rfl, own_rdL ho, hb⟩), fun V va hV => (refRemove_none va ls next x.node x.kind x.cb x.cap V hV (by omega) hc hs2).mono (by rintro e w' ⟨o, c, rfl, ho, hb⟩; exact ⟨o, c, rfl, own_rdL ho, hb⟩)⟩
  | true =>
    obtain ⟨j, hj, hf, hm, _⟩ := first_at _ ls 0 hs
    have hf1 : firstL (fun z => markEq z ⟨0, x.node, x.kind, x.cb, x.cap, false, 0, 0⟩) ls 0 = (j : Int) := by
      have := hf
      rw [Nat.zero_add] at this
      exact this
    have hf2 : firstL (markEq ⟨0, x.node, x.kind, x.cb, x.cap, false, 0, 0⟩) ls 0 = (j : Int) := by
      rw [← hf1]
      congr 1
      exact funext fun z => markEq_comm _ z
    have he := taken_same hc ⟨0, x.node, x.kind, x.cb, x.cap, false, 0, 0⟩ j hj hm
    refine ⟨ls.filter (fun z => !markEq z ⟨0, x.node, x.kind, x.cb, x.cap, false, 0, 0⟩), ls[j].id, List.length_filter_le _ _, fun V va hV => (remove_some va ls next x.node x.kind x.cb x.cap V hV hw (by omega) hc j hj hf1).mono (by rintro e w' ⟨o, c, rfl, ho, hb⟩; exact ⟨o, c, rfl, own_rdL ho, hb⟩), fun V va hV => ?_⟩
    rw [he]
    exact (refRemove_some va ls next x.node x.kind x.cb x.cap V hV (by omega) hc j hj hf2).mono (by rintro e w' ⟨o, c, rfl, ho, hb⟩; exact ⟨o, c, rfl, own_rdL ho, hb⟩)

theorem listenTakes_law (v : Value) (ls : List LstD) (next : Int) (x : LstD) (sg : Int) (w : World) (hr : RdL w v ls) (hw : ∀ y ∈ ls, WfL y) (hl : ls.length ≤ 1048576) (_hx : WfL x) :
    Calls Try.prog 4 #[.agg #[v, .int .i64 next], lstV x, .int .i64 sg] w fun e w' => e = .returned (.bool true) ∧ Below w.heap.size w w' := by
  have hnil : ∀ V : World, RdL V (.slice none 0 0) [] := fun V => ⟨none, 0, rfl, Nat.le_refl _, fun h => absurd h (Nat.lt_irrefl _)⟩
  cases hc : checkD ls next with
  | false =>
    refine takes_walk v ls next x sg w hr hl [] [] [] 0 0 0 2 2 2 false (fun V va hV => (remove_bad va ls next x.node x.kind x.cb x.cap V hV hw (by omega) hc).mono (by rintro e w' ⟨rfl, hb⟩; exact ⟨none, 0, rfl, hnil _, hb⟩)) (fun V va hV => (refRemove_bad va ls next x.node x.kind x.cb x.cap V hV (by omega) hc).mono (by rintro e w' ⟨rfl, hb⟩; exact ⟨none, 0, rfl, hnil _, hb⟩)) (fun V va hV => (abort_bad va ls next sg V hV hw (by omega) hc).mono (by rintro e w' ⟨rfl, hb⟩; exact ⟨none, 0, rfl, hnil _, hb⟩)) (fun V va hV => (refAbort_bad va ls next sg V hV (by omega) hc).mono (by rintro e w' ⟨rfl, hb⟩; exact ⟨none, 0, rfl, hnil _, hb⟩)) (fun V va hV => (expire_bad va ls next sg V hV hw (by omega) hc).mono (by rintro e w' ⟨rfl, hb⟩; exact ⟨none, 0, rfl, hnil _, hb⟩)) (fun V va hV => (refExpire_bad va ls next sg V hV (by omega) hc).mono (by rintro e w' ⟨rfl, hb⟩; exact ⟨none, 0, rfl, hnil _, hb⟩)) ?_
    intro V l v1 v2 hl' h1 h2
    have : l = [] := by rcases hl' with h | h | h <;> exact h
    subst this
    exact same_eq v1 v2 [] 0 V h1 h2 (by simp)
  | true =>
    obtain ⟨A, I, hA, hR1, hR2⟩ := removes_both ls next x hw hl hc
    refine takes_walk v ls next x sg w hr hl A (ls.filter (fun z => !(sg != 0 && z.sig == sg))) (ls.filter (fun z => !(z.id == sg))) next (idD next) I 0 0 0 (decide (((ls.filter (fun z => !(z.id == sg))).length : Int) < (ls.length : Int))) hR1 hR2 (fun V va hV => (abort_ok va ls next sg V hV hw (by omega) hc).mono (by rintro e w' ⟨o, c, rfl, ho, hb⟩; exact ⟨o, c, rfl, own_rdL ho, hb⟩)) (fun V va hV => (refAbort_ok va ls next sg V hV (by omega) hc).mono (by rintro e w' ⟨o, c, rfl, ho, hb⟩; exact ⟨o, c, rfl, own_rdL ho, hb⟩)) (fun V va hV => (expire_ok va ls next sg V hV hw (by omega) hc).mono (by rintro e w' ⟨o, c, rfl, ho, hb⟩; exact ⟨o, c, rfl, own_rdL ho, hb⟩)) (fun V va hV => (refExpire_ok va ls next sg V hV (by omega) hc).mono (by rintro e w' ⟨o, c, rfl, ho, hb⟩; exact ⟨o, c, rfl, own_rdL ho, hb⟩)) ?_
    intro V l v1 v2 hl' h1 h2
    have hle : l.length ≤ ls.length := by
      rcases hl' with rfl | rfl | rfl
      · exact hA
      · exact List.length_filter_le _ _
      · exact List.length_filter_le _ _
    rcases check_parts hc with ⟨rfl, rfl⟩ | ⟨hn, _, _, _⟩
    · have : l = [] := List.eq_nil_of_length_eq_zero (by simpa using hle)
      subst this
      exact same_zero v1 v2 V h1 h2
    · have : idD next = next := by unfold idD; rw [if_neg (by omega)]
      rw [this]
      exact same_eq v1 v2 l next V h1 h2 (by omega)
end Go.Proofs.Ytgelclbjbjpacaa
