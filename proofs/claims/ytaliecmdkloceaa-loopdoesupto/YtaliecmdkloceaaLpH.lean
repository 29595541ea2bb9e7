/- loop: a queue of timers: drop, take. -/
import Derived.Test.YtaliecmdkloceaaLpG
namespace Go.Proofs.Ytaliecmdkloceaa
open Go.RowKit Go.Lib Go.Shelf

def isN (n : Int) (x : AlD) : Bool := x.num == n
theorem where_spec (n : Int) : ∀ (l : List AlD) (k : Nat), (whereA n l k = -1 ∧ l.any (isN n) = false) ∨ ∃ i, i < l.length ∧ whereA n l k = ((k + i : Nat) : Int) ∧ l.any (isN n) = true ∧ l.eraseP (isN n) = l.eraseIdx i
  | [], _ => .inl ⟨rfl, rfl⟩
  | x :: r, k => by
    rw [whereA]
    cases h : (x.num == n) with
    | true =>
      have hx : isN n x = true := h
      refine .inr ⟨0, by simp, by rw [if_pos rfl]; rfl, by rw [List.any_cons, hx]; rfl, ?_⟩
      rw [List.eraseP_cons_of_pos hx]
      rfl
    | false =>
      have hx : isN n x = false := h
      rw [if_neg Bool.false_ne_true]
      rcases where_spec n r (k + 1) with ⟨h1, h2⟩ | ⟨i, h1, h2, h3, h4⟩
      · refine .inl ⟨h1, by rw [List.any_cons, hx, h2]; rfl⟩
      · refine .inr ⟨i + 1, by simpa using h1, by show whereA n r (k + 1 : Nat) = _; rw [h2]; congr 1; omega, by rw [List.any_cons, hx, h3]; rfl, ?_⟩
        rw [List.eraseP_cons_of_neg (by rw [hx]; exact Bool.false_ne_true), h4]
        rfl
theorem eraseP_none (n : Int) (l : List AlD) (h : l.any (isN n) = false) : l.eraseP (isN n) = l :=
  List.eraseP_of_forall_not fun x hx => by
    have := List.any_eq_false.1 h x hx
    simpa using this
theorem qto_same {V W : World} {B o : Nat} {arr : Array Value} {T : TypeId} {v : Value} {e : TypeId} {sz n : Nat} {xs : List Value} (hB : Below V.heap.size V W) (hb : V.heap[B]? = some (.cells arr T)) (ho : arr[o]? = some v) (hq : QR V e sz v n xs) : QTo V B o v e sz n xs W := by
  refine ⟨⟨v, fun arr2 T2 hb2 => ?_, hq.later hB, fun g hg => .inl hg⟩, hB.os, hB.tape, hB.output, hB.size, fun k hk _ _ => hB.block k hk⟩
  rw [hb] at hb2
  have h2 := Option.some.inj hb2
  injection h2 with e1 e2
  subst e1 e2
  rw [hB.block B (Array.getElem?_eq_some_iff.1 hb).1, hb]
  congr 2
  apply Array.ext_getElem?
  intro j
  rw [Array.getElem?_setIfInBounds]
  by_cases h : o = j
  · subst h
    have hlt := (Array.getElem?_eq_some_iff.1 ho).1
    rw [if_pos rfl, if_pos hlt, ho]
  · rw [if_neg h]
set_option maxRecDepth 100000 in
set_option maxHeartbeats 2000000 in
theorem drop_any (B o g : Nat) (arr : Array Value) (T : TypeId) (n : Int) (v : Value) (l : List AlD) (V : World) (hb : V.heap[B]? = some (.cells arr T)) (ho : arr[o]? = some v) (hq : QR V 99 3 v l.length (rowA l)) (hne : v.ownBlock ≠ some B) (hl : l.length ≤ 1048576) (h0 : V.heap[g]? = some (.cells #[.int .i64 n] 3)) :
    Calls Try.prog 43 #[.pointer (some ⟨B, o, none⟩), .func (.func 44) #[] #[.pointer (some ⟨g, 0, none⟩)]] V fun e w' => e = .returned (.bool (l.any (isN n))) ∧ QTo V B o v 99 3 (l.eraseP (isN n)).length (rowA (l.eraseP (isN n))) w' := by
  have hlt : B < V.heap.size := (Array.getElem?_eq_some_iff.1 hb).1
  have hI := indexA_any v l n g V hq.rdA hl h0
  have c0 := box_at hb ho
  rcases where_spec n l 0 with ⟨e1, e2⟩ | ⟨i, hi, e1, e2, e3⟩
  · rw [eraseP_none n l e2, e2]
    have e1' : whereA n l 0 = -1 := e1
    rw [e1'] at hI
    have HQ := hid (fun W (h : Below V.heap.size V W) => qto_same h hb ho hq)
    obtain ⟨vo, vc, rfl⟩ := hq.shape
    clear e1 e1' e2 hb ho hq hne hl h0
    go_enter Try.func43, Try.ntmps43
    go_wp2_with (go_at_call 54; refine hI.mono ?_; rintro e w2 ⟨rfl, hb⟩; have HB2 := hid hb; clear hb)
    go_ret
    exact ⟨rfl, HQ.out _ HB2.out⟩
  · rw [e3, e2]
    have e1' : whereA n l 0 = (i : Int) := by
      have h : whereA n l ((0 : Nat) : Int) = _ := e1
      rw [Nat.zero_add] at h
      exact h
    rw [e1'] at hI
    rcases hq.2 with ⟨h, h1⟩ | ⟨g2, off, cap, N, f, rfl, hr, hnc, hcm, hfit, hf⟩
    · omega
    have hD : ∀ U : World, Below V.heap.size V U → U.cell? ⟨B, o, none⟩ = some (.slice (some ⟨g2, off, none⟩) l.length cap) ∧ Calls Try.prog 55 #[.slice (some ⟨g2, off, none⟩) l.length cap, .int .i64 i, .int .i64 ((i : Int) + 1)] U fun e w' => e = .returned (.slice (some ⟨g2, off, none⟩) (l.length - 1) cap) ∧ w'.cell? ⟨B, o, none⟩ = some (.slice (some ⟨g2, off, none⟩) l.length cap) ∧ w'.frozen? ⟨B, o, none⟩ = false ∧ Hid (QTo V B o (.slice (some ⟨g2, off, none⟩) l.length cap) 99 3 (l.eraseIdx i).length (rowA (l.eraseIdx i)) (w'.setCell ⟨B, o, none⟩ (.slice (some ⟨g2, off, none⟩) (l.length - 1) cap))) := by
      intro U hU
      refine ⟨box_at ((hU.block B hlt).trans hb) ho, (deleteA_any g2 off cap i _ l U (hq.later hU) rfl hi hl).mono ?_⟩
      rintro e w' ⟨rfl, h2, h3⟩
      have hb1 : w'.heap[B]? = some (.cells arr T) := (h3.block B (Nat.lt_of_lt_of_le hlt hU.size) (fun h => hne h.symm)).trans ((hU.block B hlt).trans hb)
      refine ⟨rfl, box_at hb1 ho, box_fz hb1 o, ?_⟩
      rw [List.length_eraseIdx_of_lt hi]
      exact qto_of hU h3 h2 (fun g' hg' => .inl hg') hne hlt
    have HD := hid hD
    clear e1 e1' e2 e3 hb ho hq hne hl h0 hr hf hfit hD
    have q1 : ¬ ((i : Int) < 0) := by omega
    have q2 : IntKind.i64.wrap ((i : Int) + 1) = (i : Int) + 1 := by rw [IntKind.wrap_i64]; unfold maxLen at hcm; omega
    clear hcm hnc
    generalize hL : l.length = L at *
    have HL := hid hL
    clear hL
    go_enter Try.func43, Try.ntmps43
    go_wp2_with (first
      | (go_at_call 55; refine (HD.out _ HB2.out).2.mono ?_; rintro e w3 ⟨rfl, d1, d2, HQ⟩)
      | (go_at_call 54; refine hI.mono ?_; rintro e w2 ⟨rfl, hb⟩; have HB2 := hid hb; have d0 := (HD.out _ hb).1; clear hb))
    go_ret
    exact ⟨rfl, HQ.out⟩
theorem grown_new {V W : World} {row : Option Nat} {p : Addr} (h : V.grownBy W row) (hp : V.heap.size ≤ p.block) (u : Value) : V.grownBy (W.setCell p u) row :=
  ⟨h.os, h.tape, h.output, Nat.le_trans h.size (by show _ ≤ (W.heap.modify _ _).size; rw [Array.size_modify]; exact Nat.le_refl _), fun k hk hne => (Below.heap_setCell W p u k (by omega)).trans (h.block k hk hne)⟩
theorem grown_B {V W : World} {B j : Nat} (h : V.grownBy W (some B)) (u : Value) : V.grownBy (W.setCell ⟨B, j, none⟩ u) (some B) :=
  ⟨h.os, h.tape, h.output, Nat.le_trans h.size (by show _ ≤ (W.heap.modify _ _).size; rw [Array.size_modify]; exact Nat.le_refl _), fun k hk hne => (Below.heap_setCell W _ u k (fun e => hne (by rw [e]))).trans (h.block k hk hne)⟩
theorem grown_al {V W : World} {row : Option Nat} (h : V.grownBy W row) (o : Obj) : V.grownBy (W.alloc o) row :=
  ⟨h.os, h.tape, h.output, Nat.le_trans h.size (by simp), fun k hk hne => (Below.heap_alloc W o k (Nat.lt_of_lt_of_le hk h.size)).trans (h.block k hk hne)⟩
theorem grown_refl (V : World) (row : Option Nat) : V.grownBy V row := ⟨rfl, rfl, rfl, Nat.le_refl _, fun _ _ _ => rfl⟩
theorem grown_drew {V W : World} {row : Option Nat} (h : V.grownBy W row) : V.grownBy W.drew row := ⟨h.os, h.tape, h.output, h.size, h.block⟩
/-- A queue whose row stays where it is. -/
theorem qto_old {V W : World} {B o : Nat} {arr : Array Value} {T : TypeId} {v v' : Value} {e : TypeId} {sz n : Nat} {xs : List Value} (hb : V.heap[B]? = some (.cells arr T)) (hW : W.heap[B]? = some (.cells (arr.setIfInBounds o v') T)) (hg : V.grownBy W (some B)) (hq : QR V e sz v' n xs) (hown : ∀ g, v'.ownBlock = some g → v.ownBlock = some g) (hne : v.ownBlock ≠ some B) : QTo V B o v e sz n xs W := by
  refine ⟨⟨v', fun arr2 T2 hb2 => ?_, hq.kept fun g hg' => hg.block g (hq.lt hg') (fun h => hne (by rw [hown g hg', h])), fun g hg' => .inl (hown g hg')⟩, hg.os, hg.tape, hg.output, hg.size, fun k hk hkB _ => hg.block k hk (fun h => hkB (Option.some.inj h))⟩
  rw [hb] at hb2
  have h2 := Option.some.inj hb2
  injection h2 with e1 e2
  subst e1 e2
  exact hW
theorem rdA_head {V : World} {v : Value} {x : AlD} {l : List AlD} (hq : QR V 99 3 v (l.length + 1) (rowA (x :: l))) : ∃ g off c, v = .slice (some ⟨g, off, none⟩) (l.length + 1) c ∧ l.length + 1 ≤ c ∧ g < V.heap.size ∧ ACells V g off x := by
  obtain ⟨o, c, rfl, hc, h⟩ := QR.rdA (l := x :: l) hq
  obtain ⟨g, off, rfl, hlt, ha⟩ := h (by simp)
  have := ha 0 (by simp)
  rw [Nat.zero_mul, Nat.add_zero] at this
  exact ⟨g, off, c, rfl, hc, hlt, this⟩
theorem take_world (V : World) (B o : Nat) (v' : Value) (X : Obj) : (((V.setCell ⟨B, o, none⟩ v').alloc X).alloc X).heap[V.heap.size]? = some X ∧ V.grownBy (((V.setCell ⟨B, o, none⟩ v').alloc X).alloc X) (some B) ∧
    ∀ arr T, V.heap[B]? = some (.cells arr T) → (((V.setCell ⟨B, o, none⟩ v').alloc X).alloc X).heap[B]? = some (.cells (arr.setIfInBounds o v') T) := by
  have hs : (V.setCell ⟨B, o, none⟩ v').heap.size = V.heap.size := by show (V.heap.modify _ _).size = _; rw [Array.size_modify]
  have h2 := two_new (V.setCell ⟨B, o, none⟩ v') X X
  refine ⟨?_, grown_al (grown_al (grown_B (grown_refl V _) v') X) X, fun arr T hb => ?_⟩
  · rw [hs] at h2
    exact h2.2.1
  · exact (h2.1.block B (by rw [hs]; exact (Array.getElem?_eq_some_iff.1 hb).1)).trans (set_boxQ hb v')
set_option maxRecDepth 100000 in
set_option maxHeartbeats 2000000 in
theorem takeA_any (B o : Nat) (arr : Array Value) (T : TypeId) (x : AlD) (v : Value) (l : List AlD) (V : World) (hb : V.heap[B]? = some (.cells arr T)) (ho : arr[o]? = some v) (hq : QR V 99 3 v (l.length + 1) (rowA (x :: l))) (hne : v.ownBlock ≠ some B) :
    Calls Try.prog 40 #[.pointer (some ⟨B, o, none⟩)] V fun e w' => e = .returned (alV x) ∧ QTo V B o v 99 3 l.length (rowA l) w' := by
  have hlt : B < V.heap.size := (Array.getElem?_eq_some_iff.1 hb).1
  obtain ⟨g, off, c, rfl, hcap, hgl, x0, x1, x2⟩ := rdA_head hq
  have hT := hq.tail
  have hd : (rowA (x :: l)).drop 3 = rowA l := by rw [rowA_cons]; rfl
  rw [hd] at hT
  have c0 := box_at hb ho
  have f0 := box_fz hb o
  have HQ : Hid (∀ W : World, V.grownBy W (some B) → W.heap[B]? = some (.cells (arr.setIfInBounds o (.slice (some (if c = 1 then ⟨g, off, none⟩ else ⟨g, off + 3, none⟩)) l.length (c - 1))) T) → QTo V B o (.slice (some ⟨g, off, none⟩) (l.length + 1) c) 99 3 l.length (rowA l) W) :=
    fun W hg hW => qto_old hb hW hg hT (fun g' hg' => by rw [← hg']; split <;> rfl) hne
  have HB := hid hb
  generalize hL : l.length = L at *
  have HL := hid hL
  obtain ⟨xd, xn, xi⟩ := x
  unfold alV
  dsimp only at *
  have a0 : (V.alloc (.cells #[.int .i64 0, .int .i64 0, .int .i64 0] 99)).cell? ⟨B, o, none⟩ = some (.slice (some ⟨g, off, none⟩) (L + 1) c) := cell?_alloc_some _ c0
  have a1 : (V.alloc (.cells #[.int .i64 0, .int .i64 0, .int .i64 0] 99)).cell? ⟨g, off, none⟩ = some (.int .i64 xd) := cell?_alloc_some _ x0
  have a2 : (V.alloc (.cells #[.int .i64 0, .int .i64 0, .int .i64 0] 99)).cell? ⟨g, off + 1, none⟩ = some (.int .i64 xn) := cell?_alloc_some _ x1
  have a3 : (V.alloc (.cells #[.int .i64 0, .int .i64 0, .int .i64 0] 99)).cell? ⟨g, off + 2, none⟩ = some (.int .i64 xi) := cell?_alloc_some _ x2
  have K : ∀ v', Hid ((((V.setCell ⟨B, o, none⟩ v').alloc (.cells #[.int .i64 xd, .int .i64 xn, .int .i64 xi] 99)).alloc (.cells #[.int .i64 xd, .int .i64 xn, .int .i64 xi] 99)).heap[V.heap.size]? = some (.cells #[.int .i64 xd, .int .i64 xn, .int .i64 xi] 99)) := fun v' => (take_world V B o v' _).1
  clear hL hT hb hq hne hd
  by_cases hc : c = 1
  · subst hc
    have hL0 : L = 0 := by omega
    subst hL0
    rw [if_pos rfl] at HQ
    go_enter Try.func40, Try.ntmps40
    go_wp2
    have k0 := (cell_of_heap (K (.slice (some ⟨g, off, none⟩) 0 0)).out 0).trans rfl
    have k1 := (cell_of_heap (K (.slice (some ⟨g, off, none⟩) 0 0)).out 1).trans rfl
    have k2 := (cell_of_heap (K (.slice (some ⟨g, off, none⟩) 0 0)).out 2).trans rfl
    refine bodyPost_ret (v := .agg #[.int .i64 xd, .int .i64 xn, .int .i64 xi]) (by simp [results, Try.results40, go_sem, k0, k1, k2]) rfl ?_
    exact ⟨rfl, HQ.out _ (take_world V B o _ _).2.1 ((take_world V B o _ _).2.2 _ _ HB.out)⟩
  · rw [if_neg hc] at HQ
    go_enter Try.func40, Try.ntmps40
    go_wp2
    have k0 := (cell_of_heap (K (.slice (some ⟨g, off + 3, none⟩) L (c - 1))).out 0).trans rfl
    have k1 := (cell_of_heap (K (.slice (some ⟨g, off + 3, none⟩) L (c - 1))).out 1).trans rfl
    have k2 := (cell_of_heap (K (.slice (some ⟨g, off + 3, none⟩) L (c - 1))).out 2).trans rfl
    refine bodyPost_ret (v := .agg #[.int .i64 xd, .int .i64 xn, .int .i64 xi]) (by simp [results, Try.results40, go_sem, k0, k1, k2]) rfl ?_
    exact ⟨rfl, HQ.out _ (take_world V B o _ _).2.1 ((take_world V B o _ _).2.2 _ _ HB.out)⟩
end Go.Proofs.Ytaliecmdkloceaa
