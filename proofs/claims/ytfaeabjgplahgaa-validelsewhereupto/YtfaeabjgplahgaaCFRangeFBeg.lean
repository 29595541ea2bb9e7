/- A range over a function whose assignment writes a variable that the loop's relation speaks of ('for last = range all'): the relation holds between rounds alone; behind the assignment another one does. -/
/- The last one that an iterator gives (lastOf, rootOf, topOf). -/
/- What lies in a node, in tree order (listOf, whose inner function calls itself). -/
/- What lies in a node (listOf for kids; All). -/
/- The walk of Common. -/
/- What containing goes with: plain. -/
/- Whether two lists of numbers are one (canopyref04.Ints). -/
/- Tree order: where nodes stand in the list of a tree, and what comes next: plain. -/
/- The walk of Contains. -/
/- The small forest of the statements of order. -/
/- The calls of order that ask one handle: Root, Top. -/
/- The calls of order that ask one handle: All. -/
/- The opening test of the statements of order (begins), the reference's word on the small forest a premise. -/
import Derived.RangeFuncNested
import Derived.RangeFuncBound
import Derived.Test.YtfaeabjgplahgaaCFUpFFork
import Derived.Test.YtfaeabjgplahgaaFBelow
import Derived.Laws.EntriesVeiled
import Derived.Test.YtfaeabjgplahgaaCFStandFCmp
import Derived.Test.YtfaeabjgplahgaaFRefK
namespace Go.Proofs.Ytfaeabjgplahgaa
open Go Go.RowKit

/-- The loop never leaves early; C is what holds behind the assignment. -/
theorem range_through {F : Fence} {n : Nat} {P : Program} {α : Type} {g : Operand} {ps : Array Tmp} {assign body : Code} {Q : Exit → Act → World → Prop} {a : Act} {w : World}
    (hro : F.round = none) (h1 : 1 ≤ n) {gf : Nat} {lb : Array Value} (hg : a.eval g = .func (.func gf) #[] lb) (hFg : F.fn gf) (eg : ∀ args w, (callFunc gf args).run P w = .ok (.enter gf args) w)
    {encs : α → Array Value} {n₀ : Nat} {S Sp : List α → Prop} {N : Nat} {w0 : World} (hseq : SeqStopsK F (n - 1) P gf lb encs (Below n₀) S Sp N w0)
    (hn₀ : n₀ ≤ w.heap.size) (hb0 : Below w0.heap.size w0 w) (hps : ∀ x, (encs x).size = ps.size)
    (I : List α → World → Prop) (hI : OwnFrom w.heap.size I) (h0 : I [] w) (C : List α → α → Act → World → Prop) (hC : ∀ pre x a', OwnFrom w.heap.size (fun (_ : Unit) W => C pre x a' W))
    (hassign : ∀ (l : Nat) (pre : List α) (x : α) (W : World) (K : Act → World → Prop), I pre W → pre.length < N → (∀ a' W', KeepsFrom w.heap.size W W' → Below n₀ W W' → C pre x a' W' → K a' W') →
      assign.wpIn (F.inRound l) (n - 1 - 1) P (Exit.then K (fun _ _ _ => False)) { tmps := (ps.zip (encs x)).foldl (fun t (p, v) => t.setIfInBounds p v) a.tmps, defers := [] } W)
    (hbody : ∀ (l : Nat) (pre : List α) (x : α) (a' : Act) (W : World), C pre x a' W → body.wpIn (F.inRound l) (n - 1 - 1) P (fun e _ W' => e = .normal ∧ KeepsFrom w.heap.size W W' ∧ Below n₀ W W' ∧ I (pre ++ [x]) W') a' W)
    (hdone : ∀ (D : Nat) (xs : List α) (W : World), w.heap.size ≤ D → S xs → I xs W → W.heap[D]? = some (.deferred (some [])) → Q .normal { a with defers := { target := .collected D, args := #[] } :: a.defers } W) :
    (Code.rangeFunc g ps assign body).wpIn F n P Q a w := by
  refine wpIn_rangeFunc fun fn hfn => ?_
  rw [hro]
  -- the record of the loop, by its state
  obtain ⟨R, hR⟩ : ∃ R : LoopState → Loop, R = fun st => { state := st, pending := none, fn := fn, tmps := a.tmps, params := ps, assign := assign, body := body, defers := w.heap.size } := ⟨_, rfl⟩
  let V := (w.alloc (.deferred (some []))).alloc (.loop (R .ready))
  have vL : V.heap[w.heap.size + 1]? = some (.loop (R .ready)) := by
    have := World.alloc_heap_new (w.alloc (.deferred (some []))) (.loop (R .ready))
    rwa [World.size_alloc] at this
  have vD : V.heap[w.heap.size]? = some (.deferred (some [])) := (Below.heap_alloc _ _ _ (by simp)).trans (World.alloc_heap_new w _)
  have vI : I [] V := hI.alloc _ (hI.alloc _ h0)
  have vB : Below w0.heap.size w0 V := hb0.trans ((((Below.refl _ w).alloc (Nat.le_refl _) _).alloc (by simp) _).mono hb0.size)
  have vS : V.heap.size = w.heap.size + 2 := by show ((w.alloc _).alloc _).heap.size = _; simp
  refine ⟨w.heap.size + 1, [{ target := .collected w.heap.size, args := #[] }], V, { target := .fn (.func gf) lb, args := #[.func (.yield (w.heap.size + 1)) #[] #[]] }, V, gf, #[.func (.yield (w.heap.size + 1)) #[] #[]] ++ lb, V, ?enter, ?res, ?lead, ?inv, fun _ => h1, ?run⟩
  case enter => show _ = Result.ok _ ((w.alloc _).alloc _); rw [hR]; exact run_enterLoop_outer _ _ _ _ _
  case res => simp only [resolve, hg]; simp [go_sem]
  case lead =>
    intro f' hf'
    simp [Target.leads] at hf'
    subst hf'
    exact hFg
  case inv => simp [invoke, go_sem, eg]
  case run =>
    have turn : ∀ {A : World} {row : Option Nat}, (∀ r, row = some r → V.heap.size ≤ r ∧ ∃ o : Obj, A.heap[r]? = some o ∧ o.isWalk = true) → (∀ r, row = some r → w.heap.size ≤ r ∧ ∃ o : Obj, A.heap[r]? = some o ∧ o.isCells = false) := fun hr r e => by
      obtain ⟨hB, o, ho, hw⟩ := hr r e
      exact ⟨by omega, o, ho, Obj.not_cells_of_walk hw⟩
    refine (hseq (w.heap.size + 1) (fun pre W => I pre W ∧ W.heap[w.heap.size + 1]? = some (.loop (R .ready)) ∧ W.heap[w.heap.size]? = some (.deferred (some []))) (fun _ _ => False) V vB
      (fun s A B row hs hg' hr => ⟨hI s A B row hs.1 hg' (turn hr), (grownBy_keeps hg' (fun r e => (hr r e).2) hs.2.1 rfl).trans hs.2.1, (grownBy_keeps hg' (fun r e => (hr r e).2) hs.2.2 rfl).trans hs.2.2⟩)
      (fun _ _ _ _ hs _ _ => hs) ?round ⟨vI, vL, vD⟩).mono ?behind
    case round =>
      rintro pre x W ⟨hi, hl, hk⟩ hlen
      have hy := run_yield (P := P) (args := encs x) hl (by rw [hR]; exact hps x)
      rw [hR] at hy
      refine ⟨fn, _, assign, body, hy, roundIn_of_wpIn hfn (hassign _ pre x W _ hi hlen ?_)⟩
      clear hy
      intro a' A kA bA cA
      have aL := kA.same _ _ (by omega) hl rfl
      have aD := kA.same _ _ (Nat.le_refl _) hk rfl
      have aS := (Array.getElem?_eq_some_iff.1 aL).1
      refine ⟨_, run_beginRound aL (by rw [hR]), ?_⟩
      have bL : (A.putObj (w.heap.size + 1) (.loop { R .ready with state := .busy })).heap[w.heap.size + 1]? = some (.loop { R .ready with state := .busy }) := World.putObj_heap_same aS
      have bD : (A.putObj (w.heap.size + 1) (.loop { R .ready with state := .busy })).heap[w.heap.size]? = some (.deferred (some [])) := (World.putObj_heap_other (by omega)).trans aD
      have bB := belowK_b hn₀ A (w.heap.size + 1) _ (.loop { R .ready with state := .busy }) (by omega) aL rfl rfl
      refine wpIn_mono (hbody (w.heap.size + 1) pre x a' _ ((hC pre x a').putObj (s := ()) _ cA (by omega) aL rfl)) ?_
      rintro e a3 Z ⟨rfl, kZ, bZ, iZ⟩
      have zL := kZ.same _ _ (by omega) bL rfl
      have zD := kZ.same _ _ (Nat.le_refl _) bD rfl
      have zS := (Array.getElem?_eq_some_iff.1 zL).1
      have hend := run_endRound (P := P) none zL
      have eR : ({ R .ready with state := .ready, pending := none } : Loop) = R .ready := by rw [hR]
      refine ⟨_, _, hend, .inl ⟨rfl, ⟨hI.putObj _ iZ (by omega) zL rfl, ?_, ?_⟩, ?_⟩⟩
      · rw [hR]
        exact World.putObj_heap_same zS
      · exact (World.putObj_heap_other (by omega)).trans zD
      · exact bA.trans (bB.trans (bZ.trans (belowK_b hn₀ Z (w.heap.size + 1) _ _ (by omega) zL rfl rfl)))
    case behind =>
      rintro e Z ⟨⟨v, rfl⟩, ⟨xs, hS, hi, hl, hk⟩ | ⟨_, _, h⟩⟩
      · exact ⟨none, _, by have := run_endLoop (P := P) hl (by rw [hR]; simp); rw [hR] at this; exact this, hdone _ xs _ (Nat.le_refl _) hS (hI.putObj _ hi (by omega) hl rfl) ((World.putObj_heap_other (by omega)).trans hk)⟩
      · exact h.elim
end Go.Proofs.Ytfaeabjgplahgaa

namespace Go.Proofs.Ytfaeabjgplahgaa
open Go.RowKit Go.Lib Go.Shelf
attribute [local go_sem] Oper.semAt_some

/-- The last one; 0: there is none. -/
def lastI (l : List Int) : Int := l.getLastD 0
theorem last_snoc (pre : List Int) (z : Int) : lastI (pre ++ [z]) = z := by simp [lastI, List.getLastD_eq_getLast?]

end Go.Proofs.Ytfaeabjgplahgaa

namespace Go.Proofs.Ytfaeabjgplahgaa
open Go.RowKit Go.Lib Go.Shelf

theorem boxed_later {W V : World} {B : Nat} {t : TypeId} {v : Value} (h : Boxed W B t v) (hb : Below W.heap.size W V) : Boxed V B t v := (hb.block B h.lt).trans h
theorem boxed_beside {W w1 : World} {n₀ B B' : Nat} {t' e : TypeId} {size : Nat} {v v' u : Value} {k : Nat} {xs : List Value} {tmp : Obj} (hu : Boxed W B' t' u) (hte : t' ≠ e) (hne : B' ≠ B) (hrow : W.ownsRow n₀ e size v k xs) (hgrow : (W.alloc tmp).grownBy w1 v.ownBlock) : Boxed (w1.setCell ⟨B, 0, none⟩ v') B' t' u :=
  ((hu.alloc tmp).kept hgrow (hu.not_row hte hrow)).other hne v'
theorem ownsRow_later {W V : World} {base : Nat} {e : TypeId} {size : Nat} {v : Value} {k : Nat} {xs : List Value} (h : W.ownsRow base e size v k xs) (hb : Below W.heap.size W V) : V.ownsRow base e size v k xs := by
  refine h.kept (grown_of_below hb) ?_
  rcases h.2 with ⟨rfl, _⟩ | ⟨g, cap, cur, rfl, _⟩
  · exact .inl rfl
  · exact .inr (by simp [Value.ownBlock])
theorem ownsRow_rdI {W : World} {base : Nat} {e : TypeId} {v : Value} {l : List Int} (h : W.ownsRow base e 1 v l.length (l.map (Value.int .i64))) : RdI W v l := by
  obtain ⟨_, ⟨rfl, h0⟩ | ⟨g, cp, cur, rfl, hg, hh, hnc, hcm, hcs, htk⟩⟩ := h
  · exact ⟨none, 0, by rw [h0], by omega, fun hp => absurd hp (by omega)⟩
  · refine ⟨_, cp, rfl, hnc, fun _ => ⟨g, 0, rfl, (Array.getElem?_eq_some_iff.1 hh).1, fun j hj => ?_⟩⟩
    rw [cell_of_heap hh, Nat.zero_add]
    have h1 : (cur.toList.take (l.length * 1))[j]? = some (.int .i64 l[j]) := by
      rw [htk, List.getElem?_map, List.getElem?_eq_getElem hj]
      rfl
    rw [List.getElem?_take] at h1
    split at h1
    · simpa using h1
    · cases h1

/-- The list that grows. -/
def ListBox (W : World) (base bl : Nat) (l : List Int) : Prop := ∃ v, Boxed W bl 29 v ∧ W.ownsRow base 3 1 v l.length (l.map (Value.int .i64))
theorem ListBox.later {W V : World} {base bl : Nat} {l : List Int} (h : ListBox W base bl l) (hb : Below W.heap.size W V) : ListBox V base bl l := by
  obtain ⟨v, h1, h2⟩ := h
  exact ⟨v, boxed_later h1 hb, ownsRow_later h2 hb⟩

end Go.Proofs.Ytfaeabjgplahgaa

namespace Go.Proofs.Ytfaeabjgplahgaa
open Go.RowKit Go.Lib Go.Shelf

/-- A node and what lies in it, in tree order. -/
def allD (ns : List NodeD) (x : Int) : List Int := belowF (kidsD ns) (ns.length + 1) x

end Go.Proofs.Ytfaeabjgplahgaa

namespace Go.Proofs.Ytfaeabjgplahgaa
open Go.RowKit Go.Lib Go.Shelf

/-- The deepest one that contains both. -/
def commonD (ns : List NodeD) (a b : Int) : Int := if forkN (pathD ns a) (pathD ns b) == 0 then 0 else (pathD ns a).getD (forkN (pathD ns a) (pathD ns b) - 1) 0

end Go.Proofs.Ytfaeabjgplahgaa

namespace Go.Proofs.Ytfaeabjgplahgaa
open Go.RowKit Go.Lib

theorem lastI_append (p q : List Int) (h : q ≠ []) : lastI (p ++ q) = lastI q := by
  unfold lastI
  rw [List.getLastD_eq_getLast?, List.getLastD_eq_getLast?, List.getLast?_append]
  cases hq : q.getLast? with
  | none => exact absurd (List.getLast?_eq_none_iff.1 hq) h
  | some x => rfl
theorem idxI_none : ∀ (l : List Int) (x : Int) (k : Nat), x ∉ l → idxI l x k = -1
  | [], _, _, _ => rfl
  | y :: t, x, k, h => by
    unfold idxI
    rw [beq_eq_false_iff_ne.2 (fun e => h (by rw [e]; simp)), if_neg Bool.false_ne_true]
    exact idxI_none t x (k + 1) (fun hin => h (List.mem_cons_of_mem _ hin))
theorem idxI_in (l : List Int) (x : Int) : decide (0 ≤ idxI l x 0) = decide (x ∈ l) := by
  by_cases h : x ∈ l
  · obtain ⟨j, _, _, e⟩ := idxI_of l x 0 h
    rw [e, decide_eq_true h, decide_eq_true (by omega)]
  · rw [idxI_none l x 0 h, decide_eq_false h]
    rfl
theorem forkN_append : ∀ (u s t : List Int), forkN (u ++ s) (u ++ t) = u.length + forkN s t
  | [], s, t => by simp
  | x :: u, s, t => by
    rw [List.cons_append, List.cons_append, forkN, beq_self_eq_true, if_pos rfl, forkN_append u s t, List.length_cons]
    omega
section
variable {ns : List NodeD} {up : Int → Int} {hang : Int → List Int}
theorem Hangs.drop (h : Hangs ns up hang) : ∀ (j : Nat) (a : Int), thereB ns.length a = true → j < (pathUp ns up a).length → pathUp ns up ((pathUp ns up a).getD j 0) = (pathUp ns up a).drop j
  | 0, a, ha, _ => by
    rw [List.drop_zero]
    conv => lhs; rw [h.head ha]
    rfl
  | j + 1, a, ha, hj => by
    have hh := h.head ha
    rw [hh] at hj ⊢
    simp only [List.length_cons] at hj
    have h0 : up a ≠ 0 := fun e0 => by rw [e0, pathUp_zero] at hj; simp at hj
    have := h.drop j (up a) (h.up_there ha h0) (by omega)
    simpa using this
theorem Hangs.ne_nil (h : Hangs ns up hang) {a : Int} (ha : thereB ns.length a = true) : pathUp ns up a ≠ [] := by rw [h.head ha]; simp
end
theorem contains_mem (ns : List NodeD) (a b : Int) : containsD ns a b = true ↔ a ∈ pathUp ns (parentD ns) b := by
  unfold containsD
  rw [List.contains_eq_mem]
  exact decide_eq_true_iff
/-- What contains has the same root. -/
theorem within_root {ns : List NodeD} (h : RightF ns) {a b : Int} (ha : thereB ns.length a = true) (hb : thereB ns.length b = true) (hc : containsD ns a b = true) : lastI (pathUp ns (parentD ns) a) = lastI (pathUp ns (parentD ns) b) := by
  obtain ⟨pre, hp⟩ := h.kidsHang.suf hb ((contains_mem ns a b).1 hc)
  rw [hp, lastI_append _ _ (h.kidsHang.ne_nil ha)]
/-- What contains has it within. -/
theorem within_all {ns : List NodeD} (h : RightF ns) {a b : Int} (ha : thereB ns.length a = true) (hb : thereB ns.length b = true) : decide (0 ≤ idxI (allD ns a) b 0) = containsD ns a b := by
  rw [idxI_in]
  have hi := h.kidsHang.below_iff (ns.length + 1) a b ha (by omega)
  cases hc : containsD ns a b with
  | true => exact decide_eq_true (hi.2 ⟨hb, (contains_mem ns a b).1 hc⟩)
  | false =>
    refine decide_eq_false (fun hin => ?_)
    have := (contains_mem ns a b).2 (hi.1 hin).2
    rw [hc] at this
    cases this
theorem all_len {ns : List NodeD} (h : RightF ns) {a : Int} (ha : thereB ns.length a = true) : (allD ns a).length ≤ 1099511627776 :=
  Nat.le_trans (h.kidsHang.below_len (ns.length + 1) a ha (by omega)) (Nat.le_trans h.small (by decide))
theorem pathD_head {ns : List NodeD} (h : RightF ns) {a : Int} (ha : thereB ns.length a = true) : ∃ t, pathD ns a = lastI (pathUp ns (parentD ns) a) :: t := by
  unfold pathD
  have hn := h.kidsHang.ne_nil ha
  refine ⟨(pathUp ns (parentD ns) a).dropLast.reverse, ?_⟩
  have h1 := List.dropLast_concat_getLast hn
  have h2 : lastI (pathUp ns (parentD ns) a) = (pathUp ns (parentD ns) a).getLast hn := by
    unfold lastI
    rw [List.getLastD_eq_getLast?, List.getLast?_eq_some_getLast hn]
    rfl
  conv => lhs; rw [← h1]
  rw [List.reverse_append, h2]
  rfl
/-- There is one that contains both just if the roots are one. -/
theorem within_fork {ns : List NodeD} (h : RightF ns) {a b : Int} (ha : thereB ns.length a = true) (hb : thereB ns.length b = true) : (forkN (pathD ns a) (pathD ns b) == 0) = !(lastI (pathUp ns (parentD ns) a) == lastI (pathUp ns (parentD ns) b)) := by
  obtain ⟨t, ht⟩ := pathD_head h ha
  obtain ⟨u, hu⟩ := pathD_head h hb
  rw [ht, hu, forkN]
  cases he : (lastI (pathUp ns (parentD ns) a) == lastI (pathUp ns (parentD ns) b)) with
  | true => rw [if_pos rfl]; simp
  | false => rw [if_neg Bool.false_ne_true]; rfl
/-- The deepest one that contains both. -/
theorem within_common {ns : List NodeD} (h : RightF ns) {a b : Int} (ha : thereB ns.length a = true) (hb : thereB ns.length b = true) (hf : forkN (pathD ns a) (pathD ns b) ≠ 0) :
    thereB ns.length (commonD ns a b) = true ∧ containsD ns (commonD ns a b) a = true ∧ containsD ns (commonD ns a b) b = true ∧ ∀ k ∈ kidsD ns (commonD ns a b), ¬ (containsD ns k a = true ∧ containsD ns k b = true) := by
  have hc : commonD ns a b = (pathD ns a).getD (forkN (pathD ns a) (pathD ns b) - 1) 0 := by
    unfold commonD
    rw [beq_eq_false_iff_ne.2 hf]
    rfl
  obtain ⟨l1, l2⟩ := forkN_le (pathD ns a) (pathD ns b)
  have hs := forkN_same (pathD ns a) (pathD ns b) (forkN (pathD ns a) (pathD ns b) - 1) (by omega)
  have m1 := mem_pathD (getD_mem (pathD ns a) (forkN (pathD ns a) (pathD ns b) - 1) (by omega))
  have m2 := mem_pathD (getD_mem (pathD ns b) (forkN (pathD ns a) (pathD ns b) - 1) (by omega))
  rw [← hs] at m2
  rw [← hc] at m1 m2
  have hH := h.kidsHang
  have hct := (hH.mem ha m1).1
  refine ⟨hct, (contains_mem _ _ _).2 m1, (contains_mem _ _ _).2 m2, ?_⟩
  rintro k hk ⟨k1, k2⟩
  -- how deep it is
  have hla : (pathD ns a).length = (pathUp ns (parentD ns) a).length := by unfold pathD; exact List.length_reverse
  have hd : (pathUp ns (parentD ns) (commonD ns a b)).length = forkN (pathD ns a) (pathD ns b) := by
    have h1 : commonD ns a b = (pathUp ns (parentD ns) a).getD ((pathUp ns (parentD ns) a).length - 1 - (forkN (pathD ns a) (pathD ns b) - 1)) 0 := by
      rw [hc]
      exact getD_rev (pathUp ns (parentD ns) a) _ (by rw [← hla]; omega)
    rw [h1, hH.drop _ a ha (by omega), List.length_drop]
    omega
  obtain ⟨kt, kp⟩ := hH.down _ k hct hk
  obtain ⟨p1, e1⟩ := hH.suf ha ((contains_mem _ _ _).1 k1)
  obtain ⟨p2, e2⟩ := hH.suf hb ((contains_mem _ _ _).1 k2)
  have hf2 : forkN (pathD ns a) (pathD ns b) = (pathD ns k).length + forkN p1.reverse p2.reverse := by
    have d1 : pathD ns a = pathD ns k ++ p1.reverse := by unfold pathD; rw [e1, List.reverse_append]
    have d2 : pathD ns b = pathD ns k ++ p2.reverse := by unfold pathD; rw [e2, List.reverse_append]
    rw [d1, d2, forkN_append]
  have hlk : (pathD ns k).length = (pathUp ns (parentD ns) (commonD ns a b)).length + 1 := by
    unfold pathD
    rw [List.length_reverse]
    exact hH.deep hct hk
  omega
end Go.Proofs.Ytfaeabjgplahgaa

namespace Go.Proofs.Ytfaeabjgplahgaa
open Go.RowKit Go.Lib Go.Shelf

theorem beq_drop (p q : List Int) (k : Nat) (h1 : k < p.length) (h2 : k < q.length) : (p.drop k == q.drop k) = (p[k] == q[k] && (p.drop (k + 1) == q.drop (k + 1))) := by
  rw [List.drop_eq_getElem_cons h1, List.drop_eq_getElem_cons h2]
  rfl
theorem beq_len {p q : List Int} (h : p.length ≠ q.length) : (p == q) = false := beq_eq_false_iff_ne.2 (fun e => h (congrArg List.length e))

end Go.Proofs.Ytfaeabjgplahgaa

namespace Go.Proofs.Ytfaeabjgplahgaa
open Go.RowKit Go.Lib

section
variable {ns : List NodeD} {up : Int → Int} {hang : Int → List Int}
theorem Hangs.stable (h : Hangs ns up hang) : ∀ (f g : Nat) (x : Int), thereB ns.length x = true → ns.length < f + (pathUp ns up x).length → ns.length < g + (pathUp ns up x).length → belowF hang f x = belowF hang g x
  | 0, _, x, hx, hf, _ => by have := h.len hx; omega
  | _ + 1, 0, x, hx, _, hg => by have := h.len hx; omega
  | f + 1, g + 1, x, hx, hf, hg => by
    rw [belowF, belowF]
    congr 1
    rw [List.flatMap_def, List.flatMap_def]
    congr 1
    refine List.map_congr_left fun k hk => ?_
    have hd := h.deep hx hk
    exact h.stable f g k (h.down x k hx hk).1 (by omega) (by omega)
/-- All below, by the kids. -/
theorem Hangs.cons (h : Hangs ns up hang) {x : Int} (hx : thereB ns.length x = true) : belowF hang (ns.length + 1) x = x :: (hang x).flatMap (belowF hang (ns.length + 1)) := by
  rw [belowF]
  congr 1
  rw [List.flatMap_def, List.flatMap_def]
  congr 1
  refine List.map_congr_left fun k hk => ?_
  have hd := h.deep hx hk
  exact h.stable _ _ k (h.down x k hx hk).1 (by omega) (by omega)
end
theorem all_cons {ns : List NodeD} (h : RightF ns) {x : Int} (hx : thereB ns.length x = true) : allD ns x = x :: (kidsD ns x).flatMap (allD ns) := h.kidsHang.cons hx
theorem mem_all {ns : List NodeD} (h : RightF ns) {x : Int} (hx : thereB ns.length x = true) (y : Int) : y ∈ allD ns x ↔ thereB ns.length y = true ∧ x ∈ pathUp ns (parentD ns) y := h.kidsHang.below_iff (ns.length + 1) x y hx (by omega)
theorem all_once {ns : List NodeD} (h : RightF ns) {x : Int} (hx : thereB ns.length x = true) : (allD ns x).Nodup := h.kidsHang.below_once (ns.length + 1) x hx (by omega)
theorem pathD_kid {ns : List NodeD} (h : RightF ns) {x k : Int} (hx : thereB ns.length x = true) (hk : k ∈ kidsD ns x) : pathD ns k = pathD ns x ++ [k] := by
  obtain ⟨a, b⟩ := h.kidsHang.down x k hx hk
  unfold pathD
  rw [h.kidsHang.head a, b, List.reverse_cons]
/-- The path to a node goes through whoever contains it. -/
theorem pathD_in {ns : List NodeD} (h : RightF ns) {x y : Int} (hx : thereB ns.length x = true) (hy : y ∈ allD ns x) : ∃ s, pathD ns y = pathD ns x ++ s := by
  obtain ⟨a, b⟩ := (mem_all h hx y).1 hy
  obtain ⟨pre, hp⟩ := h.kidsHang.suf a b
  exact ⟨pre.reverse, by unfold pathD; rw [hp, List.reverse_append]⟩
theorem cmpI_shift (k a b : Nat) : cmpI ((k + a : Nat) : Int) ((k + b : Nat) : Int) = cmpI (a : Int) (b : Int) := by
  unfold cmpI
  by_cases h1 : (a : Int) < (b : Int)
  · rw [if_pos h1, if_pos (by omega)]
  · rw [if_neg h1, if_neg (by omega)]
    by_cases h2 : (b : Int) < (a : Int)
    · rw [if_pos h2, if_pos (by omega)]
    · rw [if_neg h2, if_neg (by omega)]
theorem cmpI_lt {a b : Int} (h : a < b) : cmpI a b = -1 := by unfold cmpI; rw [if_pos h]
theorem cmpI_gt {a b : Int} (h : b < a) : cmpI a b = 1 := by unfold cmpI; rw [if_neg (by omega), if_pos h]
theorem cmpI_same (a : Int) : cmpI a a = 0 := by unfold cmpI; rw [if_neg (by omega), if_neg (by omega)]
theorem idxI_idx : ∀ (l : List Int) (x : Int) (k : Nat), x ∈ l → idxI l x k = ((k + l.idxOf x : Nat) : Int)
  | [], _, _, h => by cases h
  | y :: t, x, k, h => by
    unfold idxI
    rw [List.idxOf_cons]
    by_cases e : y = x
    · rw [beq_iff_eq.2 e, if_pos rfl]
      simp
    · rw [beq_eq_false_iff_ne.2 e, if_neg Bool.false_ne_true, idxI_idx t x (k + 1) (by
        rcases List.mem_cons.1 h with h | h
        · exact absurd h.symm e
        · exact h)]
      simp
      omega
/-- Of a list of blocks: where one of a block stands. -/
theorem idx_block (b : Int → List Int) (s1 s2 : List Int) (k y : Int) (hy : y ∈ b k) (hn : ∀ j ∈ s1, y ∉ b j) : ((s1 ++ k :: s2).flatMap b).idxOf y = (s1.flatMap b).length + (b k).idxOf y := by
  rw [List.flatMap_append, List.flatMap_cons, List.idxOf_append, if_neg (fun h => by
    obtain ⟨j, hj, hin⟩ := List.mem_flatMap.1 h
    exact hn j hj hin), List.idxOf_append, if_pos hy]
  omega
theorem idx_behind (b : Int → List Int) (s1 s2 : List Int) (k y z : Int) (hy : y ∈ b k) (hn : ∀ j ∈ s1, y ∉ b j) (hm : ∀ j ∈ s1, z ∉ b j) (hk : z ∉ b k) : ((s1 ++ k :: s2).flatMap b).idxOf y < ((s1 ++ k :: s2).flatMap b).idxOf z := by
  rw [idx_block b s1 s2 k y hy hn, List.flatMap_append, List.flatMap_cons, List.idxOf_append, if_neg (fun h => by
    obtain ⟨j, hj, hin⟩ := List.mem_flatMap.1 h
    exact hm j hj hin), List.idxOf_append, if_neg hk]
  have := List.idxOf_lt_length_of_mem hy
  omega
theorem idx_list (s1 s2 : List Int) (k j : Int) (hn : k ∉ s1) (hm : j ∉ s1) (hk : j ≠ k) : (s1 ++ k :: s2).idxOf k < (s1 ++ k :: s2).idxOf j := by
  rw [List.idxOf_append, if_neg hn, List.idxOf_append, if_neg hm, List.idxOf_cons, List.idxOf_cons]
  have e : (k == j) = false := beq_eq_false_iff_ne.2 (fun e => hk e.symm)
  simp [e]
/-- Where two nodes of a tree stand to one another is told by where they stand in its list. -/
theorem stand_idx {ns : List NodeD} (h : RightF ns) : ∀ (f : Nat) (x : Int), thereB ns.length x = true → ns.length < f + (pathUp ns (parentD ns) x).length → ∀ y ∈ allD ns x, ∀ z ∈ allD ns x, standD ns y z = (cmpI ((allD ns x).idxOf y : Int) ((allD ns x).idxOf z : Int), true)
  | 0, x, hx, hf, _, _, _, _ => by have := h.kidsHang.len hx; omega
  | f + 1, x, hx, hf, y, hy, z, hz => by
    have hH := h.kidsHang
    have hlx : 0 < (pathD ns x).length := (pathD_last h hx).1
    -- x against one below it
    have htop : ∀ v, v ∈ allD ns x → v ≠ x → standD ns x v = (-1, true) := fun v hv hne => by
      obtain ⟨s, hs⟩ := pathD_in h hx hv
      have hs0 : s ≠ [] := fun e => by
        rw [e, List.append_nil] at hs
        obtain ⟨_, a⟩ := pathD_last h hx
        obtain ⟨_, b⟩ := pathD_last h ((mem_all h hx v).1 hv).1
        rw [hs, a] at b
        exact hne b.symm
      have hf0 : forkN (pathD ns x) (pathD ns v) = (pathD ns x).length := by
        rw [hs]
        have := forkN_append (pathD ns x) [] s
        rw [List.append_nil] at this
        rw [this]
        rfl
      have hl : (pathD ns x).length < (pathD ns v).length := by
        rw [hs, List.length_append]
        have := List.length_pos_iff.2 hs0
        omega
      unfold standD
      rw [hf0, beq_eq_false_iff_ne.2 (by omega : (pathD ns x).length ≠ 0), if_neg Bool.false_ne_true, beq_self_eq_true, Bool.true_or, if_pos rfl, cmpI_lt (by omega)]
    have hself : standD ns x x = (0, true) := by
      have hf0 : forkN (pathD ns x) (pathD ns x) = (pathD ns x).length := by
        have := forkN_append (pathD ns x) [] []
        rw [List.append_nil] at this
        rw [this]
        rfl
      unfold standD
      rw [hf0, beq_eq_false_iff_ne.2 (by omega : (pathD ns x).length ≠ 0), if_neg Bool.false_ne_true, beq_self_eq_true, Bool.true_or, if_pos rfl, cmpI_same]
    have hc := all_cons h hx
    have hix : (allD ns x).idxOf x = 0 := by rw [hc]; simp
    have hixn : ∀ v, v ≠ x → (allD ns x).idxOf v = 1 + ((kidsD ns x).flatMap (allD ns)).idxOf v := fun v hv => by
      rw [hc, List.idxOf_cons, beq_eq_false_iff_ne.2 (fun e => hv e.symm)]
      simp
      omega
    by_cases ey : y = x
    · subst ey
      by_cases ez : z = y
      · subst ez
        rw [hself, cmpI_same]
      · rw [htop z hz ez, hix, hixn z ez, cmpI_lt (by omega)]
    · by_cases ez : z = x
      · subst ez
        rw [standD_turned, htop y hy ey, hix, hixn y ey, cmpI_gt (by omega)]
        rfl
      · rw [hixn y ey, hixn z ez, cmpI_shift]
        have hy' : y ∈ (kidsD ns x).flatMap (allD ns) := by
          rw [hc] at hy
          rcases List.mem_cons.1 hy with a | a
          · exact absurd a ey
          · exact a
        have hz' : z ∈ (kidsD ns x).flatMap (allD ns) := by
          rw [hc] at hz
          rcases List.mem_cons.1 hz with a | a
          · exact absurd a ez
          · exact a
        obtain ⟨k1, m1, y1⟩ := List.mem_flatMap.1 hy'
        obtain ⟨k2, m2, z2⟩ := List.mem_flatMap.1 hz'
        have ho := hH.once x hx
        have t1 := (hH.down x k1 hx m1).1
        have t2 := (hH.down x k2 hx m2).1
        -- blocks are apart
        have hap : ∀ (v k j : Int), k ∈ kidsD ns x → j ∈ kidsD ns x → v ∈ allD ns k → v ∈ allD ns j → k = j := fun v k j hk hj a b => by
          have a' := (mem_all h (hH.down x k hx hk).1 v).1 a
          have b' := (mem_all h (hH.down x j hx hj).1 v).1 b
          exact hH.level a'.1 a'.2 b'.2 (by rw [hH.deep hx hk, hH.deep hx hj])
        by_cases ek : k1 = k2
        · subst ek
          obtain ⟨s1, s2, hs, hns⟩ := List.append_of_mem m1 |>.elim fun s1 ⟨s2, e⟩ => (⟨s1, s2, e, by
            rw [e] at ho
            intro hin
            exact (List.nodup_append.1 ho).2.2 k1 hin k1 (by simp) rfl⟩ : ∃ s1 s2, kidsD ns x = s1 ++ k1 :: s2 ∧ k1 ∉ s1)
          have hno : ∀ v, v ∈ allD ns k1 → ∀ j ∈ s1, v ∉ allD ns j := fun v hv j hj hin => hns (by
            have := hap v k1 j m1 (by rw [hs]; simp [hj]) hv hin
            rw [this]; exact hj)
          have hd := hH.deep hx m1
          have ih := stand_idx h f k1 t1 (by omega) y y1 z z2
          rw [hs, idx_block (allD ns) s1 s2 k1 y y1 (hno y y1), idx_block (allD ns) s1 s2 k1 z z2 (hno z z2), cmpI_shift]
          exact ih
        · -- the fork is at x
          obtain ⟨u1, e1⟩ := pathD_in h t1 y1
          obtain ⟨u2, e2⟩ := pathD_in h t2 z2
          rw [pathD_kid h hx m1, List.append_assoc] at e1
          rw [pathD_kid h hx m2, List.append_assoc] at e2
          have hfk : forkN (pathD ns y) (pathD ns z) = (pathD ns x).length := by
            rw [e1, e2, forkN_append, List.singleton_append, List.singleton_append, forkN, beq_eq_false_iff_ne.2 ek, if_neg Bool.false_ne_true]
            rfl
          have hst : standD ns y z = (cmpI (indexD ns k1) (indexD ns k2), true) := by
            have g1 : (pathD ns y).getD (pathD ns x).length 0 = k1 := by rw [e1]; simp [List.getD_eq_getElem?_getD]
            have g2 : (pathD ns z).getD (pathD ns x).length 0 = k2 := by rw [e2]; simp [List.getD_eq_getElem?_getD]
            have l1 : (pathD ns x).length ≠ (pathD ns y).length := by rw [e1]; simp
            have l2 : (pathD ns x).length ≠ (pathD ns z).length := by rw [e2]; simp
            unfold standD
            rw [hfk, beq_eq_false_iff_ne.2 (by omega : (pathD ns x).length ≠ 0), if_neg Bool.false_ne_true, beq_eq_false_iff_ne.2 l1, beq_eq_false_iff_ne.2 l2, Bool.or_self, if_neg Bool.false_ne_true, g1, g2]
          have hin : ∀ k, k ∈ kidsD ns x → indexD ns k = ((kidsD ns x).idxOf k : Int) := fun k hk => by
            have hp := (hH.down x k hx hk).2
            unfold indexD
            rw [hp, beq_eq_false_iff_ne.2 (there_ne hx), if_neg Bool.false_ne_true, idxI_idx _ _ _ hk]
            simp
          rw [hst, hin k1 m1, hin k2 m2]
          have hbe : ∀ (k j y z : Int), k ∈ kidsD ns x → j ∈ kidsD ns x → k ≠ j → y ∈ allD ns k → z ∈ allD ns j → (∃ s1 s2, kidsD ns x = s1 ++ k :: s2 ∧ k ∉ s1 ∧ j ∈ s2) → ((kidsD ns x).idxOf k < (kidsD ns x).idxOf j ∧ ((kidsD ns x).flatMap (allD ns)).idxOf y < ((kidsD ns x).flatMap (allD ns)).idxOf z) := by
            rintro k j y z hk hj hkj hy hz ⟨s1, s2, hs, hns, hjs⟩
            have hj1 : j ∉ s1 := fun hin => by
              rw [hs] at ho
              exact (List.nodup_append.1 ho).2.2 j hin j (by simp [hjs]) rfl
            have hno : ∀ i ∈ s1, y ∉ allD ns i := fun i hi hin => hns (by
              have := hap y k i hk (by rw [hs]; simp [hi]) hy hin
              rw [this]; exact hi)
            have hmo : ∀ i ∈ s1, z ∉ allD ns i := fun i hi hin => hj1 (by
              have := hap z j i hj (by rw [hs]; simp [hi]) hz hin
              rw [this]; exact hi)
            have hzk : z ∉ allD ns k := fun hin => hkj (hap z k j hk hj hin hz)
            rw [hs]
            exact ⟨idx_list s1 s2 k j hns hj1 (fun e => hkj e.symm), idx_behind (allD ns) s1 s2 k y z hy hno hmo hzk⟩
          -- one of the two comes first
          obtain ⟨s1, s2, hs⟩ := List.append_of_mem m1
          have hns : k1 ∉ s1 := fun hin => by
            rw [hs] at ho
            exact (List.nodup_append.1 ho).2.2 k1 hin k1 (by simp) rfl
          have hk2 : k2 ∈ s1 ∨ k2 ∈ s2 := by
            rw [hs] at m2
            rcases List.mem_append.1 m2 with a | a
            · exact .inl a
            · rcases List.mem_cons.1 a with b | b
              · exact absurd b.symm ek
              · exact .inr b
          rcases hk2 with a | a
          · obtain ⟨t1', t2', ht⟩ := List.append_of_mem a
            have hks : kidsD ns x = t1' ++ k2 :: (t2' ++ k1 :: s2) := by rw [hs, ht]; simp
            have hn2 : k2 ∉ t1' := fun hin => by
              rw [hks] at ho
              exact (List.nodup_append.1 ho).2.2 k2 hin k2 (by simp) rfl
            obtain ⟨p1, p2⟩ := hbe k2 k1 z y m2 m1 (fun e => ek e.symm) z2 y1 ⟨t1', _, hks, hn2, by simp⟩
            rw [cmpI_gt (by omega), cmpI_gt (by omega)]
          · obtain ⟨p1, p2⟩ := hbe k1 k2 y z m1 m2 ek y1 z2 ⟨s1, s2, hs, hns, a⟩
            rw [cmpI_lt (by omega), cmpI_lt (by omega)]
/-- The sibling right behind; 0: none. -/
def sibD (ns : List NodeD) (x : Int) : Int := if parentD ns x == 0 then 0 else (kidsD ns (parentD ns x)).getD (indexD ns x + 1).toNat 0
/-- The first of some that is not 0. -/
def firstD (g : Int → Int) : List Int → Int
  | [] => 0
  | x :: t => if g x == 0 then firstD g t else g x
/-- The node behind one in the order of its whole tree. -/
def nextD (ns : List NodeD) (x : Int) : Int := match kidsD ns x with
  | k :: _ => k
  | [] => firstD (sibD ns) (pathUp ns (parentD ns) x)
theorem sib_at {ns : List NodeD} (h : RightF ns) {p x : Int} (hp : thereB ns.length p = true) {s1 s2 : List Int} (hs : kidsD ns p = s1 ++ x :: s2) : sibD ns x = s2.headD 0 := by
  have hx : x ∈ kidsD ns p := by rw [hs]; simp
  have hpx := (h.kidsHang.down p x hp hx).2
  have ho := h.kidsHang.once p hp
  have hn : x ∉ s1 := fun hin => by
    rw [hs] at ho
    exact (List.nodup_append.1 ho).2.2 x hin x (by simp) rfl
  have hi : indexD ns x = (s1.length : Int) := by
    unfold indexD
    rw [hpx, beq_eq_false_iff_ne.2 (there_ne hp), if_neg Bool.false_ne_true, idxI_idx _ _ _ hx, hs, List.idxOf_append, if_neg hn, List.idxOf_cons]
    simp
  unfold sibD
  rw [hpx, beq_eq_false_iff_ne.2 (there_ne hp), if_neg Bool.false_ne_true, hi, hs, show ((s1.length : Int) + 1).toNat = s1.length + 1 by omega, List.getD_eq_getElem?_getD, List.getElem?_append_right (by omega), show s1.length + 1 - s1.length = 1 by omega]
  cases s2 <;> rfl
theorem sib_root {ns : List NodeD} {x : Int} (hp : parentD ns x = 0) : sibD ns x = 0 := by unfold sibD; rw [hp]; rfl
/-- A tree's list, parted at what lies within a node; what comes behind that. -/
theorem all_parted {ns : List NodeD} (h : RightF ns) {r : Int} (hr : thereB ns.length r = true) (h0 : parentD ns r = 0) : ∀ (n : Nat) (x : Int), (pathUp ns (parentD ns) x).length ≤ n → thereB ns.length x = true → r ∈ pathUp ns (parentD ns) x → ∃ pre post, allD ns r = pre ++ (allD ns x ++ post) ∧ post.headD 0 = firstD (sibD ns) (pathUp ns (parentD ns) x)
  | 0, x, hn, hx, _ => by rw [h.kidsHang.head hx] at hn; simp at hn
  | n + 1, x, hn, hx, hrx => by
    have hH := h.kidsHang
    by_cases e : x = r
    · subst e
      refine ⟨[], [], by simp, ?_⟩
      rw [hH.head hx, h0, pathUp_zero, firstD, sib_root h0]
      rfl
    · have hh := hH.head hx
      have hrp : r ∈ pathUp ns (parentD ns) (parentD ns x) := by
        rw [hh] at hrx
        rcases List.mem_cons.1 hrx with a | a
        · exact absurd a.symm e
        · exact a
      have hp0 : parentD ns x ≠ 0 := fun e0 => by rw [e0, pathUp_zero] at hrp; cases hrp
      have hpt := hH.up_there hx hp0
      obtain ⟨pre, post, h1, h2⟩ := all_parted h hr h0 n (parentD ns x) (by rw [hh] at hn; simpa using hn) hpt hrp
      obtain ⟨s1, s2, hs⟩ := List.append_of_mem (h.kid hx hp0)
      refine ⟨pre ++ (parentD ns x :: s1.flatMap (allD ns)), s2.flatMap (allD ns) ++ post, ?_, ?_⟩
      · rw [h1, all_cons h hpt, hs]
        simp
      · rw [hh, firstD, sib_at h hpt hs]
        cases hs2 : s2 with
        | nil => simpa using h2
        | cons k t =>
          have hkm : k ∈ kidsD ns (parentD ns x) := by rw [hs, hs2]; simp
          have hkt := (hH.down _ k hpt hkm).1
          have hk0 : (k == 0) = false := beq_eq_false_iff_ne.2 (there_ne hkt)
          rw [List.flatMap_cons, all_cons h hkt]
          simp [hk0]
/-- What comes next in a tree's list. -/
theorem next_parted {ns : List NodeD} (h : RightF ns) {r : Int} (hr : thereB ns.length r = true) (h0 : parentD ns r = 0) {x : Int} (hx : thereB ns.length x = true) (hrx : r ∈ pathUp ns (parentD ns) x) : ∃ pre post, allD ns r = pre ++ x :: post ∧ x ∉ pre ∧ x ∉ post ∧ post.headD 0 = nextD ns x := by
  obtain ⟨pre, post, h1, h2⟩ := all_parted h hr h0 _ x (Nat.le_refl _) hx hrx
  have hc := all_cons h hx
  have ho := all_once h hr
  rw [hc, List.cons_append] at h1
  rw [h1] at ho
  refine ⟨pre, (kidsD ns x).flatMap (allD ns) ++ post, h1, fun hin => ?_, ?_, ?_⟩
  · exact (List.nodup_append.1 ho).2.2 x hin x (by simp) rfl
  · exact (List.nodup_cons.1 (List.nodup_append.1 ho).2.1).1
  · unfold nextD
    cases hk : kidsD ns x with
    | nil => simpa using h2
    | cons k t =>
      have hkt := (h.kidsHang.down x k hx (by rw [hk]; simp)).1
      rw [List.flatMap_cons, all_cons h hkt]
      rfl
/-- A root has no parent. -/
theorem root_up {ns : List NodeD} (h : RightF ns) : ∀ (n : Nat) (x : Int), (pathUp ns (parentD ns) x).length ≤ n → thereB ns.length x = true → thereB ns.length (lastI (pathUp ns (parentD ns) x)) = true ∧ parentD ns (lastI (pathUp ns (parentD ns) x)) = 0 ∧ lastI (pathUp ns (parentD ns) x) ∈ pathUp ns (parentD ns) x
  | 0, x, hn, hx => by rw [h.kidsHang.head hx] at hn; simp at hn
  | n + 1, x, hn, hx => by
    have hh := h.kidsHang.head hx
    by_cases hp : parentD ns x = 0
    · rw [hh, hp, pathUp_zero]
      have e : lastI [x] = x := rfl
      rw [e]
      exact ⟨hx, hp, by simp⟩
    · have hpt := h.kidsHang.up_there hx hp
      obtain ⟨a, b, c⟩ := root_up h n (parentD ns x) (by rw [hh] at hn; simpa using hn) hpt
      have e : lastI (pathUp ns (parentD ns) x) = lastI (pathUp ns (parentD ns) (parentD ns x)) := by
        rw [hh]
        exact lastI_append [x] _ (h.kidsHang.ne_nil hpt)
      rw [e]
      exact ⟨a, b, by rw [hh]; exact List.mem_cons_of_mem _ c⟩
/-- Who lies in the tree of a root. -/
theorem in_tree {ns : List NodeD} (h : RightF ns) {a b : Int} (ha : thereB ns.length a = true) (hb : thereB ns.length b = true) : b ∈ allD ns (lastI (pathUp ns (parentD ns) a)) ↔ lastI (pathUp ns (parentD ns) a) = lastI (pathUp ns (parentD ns) b) := by
  obtain ⟨r1, r2, r3⟩ := root_up h _ a (Nat.le_refl _) ha
  rw [mem_all h r1]
  constructor
  · rintro ⟨_, hin⟩
    obtain ⟨pre, hp⟩ := h.kidsHang.suf hb hin
    rw [hp, lastI_append _ _ (h.kidsHang.ne_nil r1), h.kidsHang.head r1, r2, pathUp_zero]
    rfl
  · intro e
    rw [e]
    exact ⟨hb, (root_up h _ b (Nat.le_refl _) hb).2.2⟩
theorem stand_one {ns : List NodeD} (h : RightF ns) {a b : Int} (ha : thereB ns.length a = true) (hb : thereB ns.length b = true) : (standD ns a b).2 = (lastI (pathUp ns (parentD ns) a) == lastI (pathUp ns (parentD ns) b)) ∧ ((standD ns a b).2 = false → (standD ns a b).1 = 0) := by
  have hw := within_fork h ha hb
  unfold standD
  cases hf : (forkN (pathD ns a) (pathD ns b) == 0) with
  | true =>
    rw [hf] at hw
    rw [if_pos rfl]
    refine ⟨?_, fun _ => rfl⟩
    cases he : (lastI (pathUp ns (parentD ns) a) == lastI (pathUp ns (parentD ns) b)) with
    | false => rfl
    | true => rw [he] at hw; cases hw
  | false =>
    rw [hf] at hw
    have he : (lastI (pathUp ns (parentD ns) a) == lastI (pathUp ns (parentD ns) b)) = true := by
      cases he : (lastI (pathUp ns (parentD ns) a) == lastI (pathUp ns (parentD ns) b)) with
      | true => rfl
      | false => rw [he] at hw; cases hw
    rw [if_neg Bool.false_ne_true, he]
    split <;> exact ⟨rfl, fun hh => by cases hh⟩
end Go.Proofs.Ytfaeabjgplahgaa

namespace Go.Proofs.Ytfaeabjgplahgaa
open Go.RowKit Go.Lib Go.Shelf

end Go.Proofs.Ytfaeabjgplahgaa

namespace Go.Proofs.Ytfaeabjgplahgaa
open Go.RowKit Go.Lib

def blankNode : NodeD := ⟨0, noBytesF, noBytesF, noBytesF, noBytesF, noBytesF, [], [], 0, [], 0, 0, 0, 0, false, false⟩
/-- A document, an element in it, a text in that. -/
def smallNs : List NodeD := [{ blankNode with kind := 9, kids := [2], doc := 1 }, { blankNode with kind := 1, loc := ⟨#[97]⟩, parent := 1, kids := [3], doc := 1 }, { blankNode with kind := 3, data := [65], parent := 2, doc := 1 }]

theorem five_1 (w : World) (a b c d e : Obj) : (((((w.alloc a).alloc b).alloc c).alloc d).alloc e).heap[w.heap.size + 1]? = some b := by
  have h := heap_new (w.alloc a) b
  simp only [World.size_alloc] at h
  rw [Below.heap_alloc _ _ _ (by simp only [World.size_alloc]; omega), Below.heap_alloc _ _ _ (by simp only [World.size_alloc]; omega), Below.heap_alloc _ _ _ (by simp only [World.size_alloc]; omega)]
  exact h
theorem five_2 (w : World) (a b c d e : Obj) : (((((w.alloc a).alloc b).alloc c).alloc d).alloc e).heap[w.heap.size + 1 + 1]? = some c := by
  have h := heap_new ((w.alloc a).alloc b) c
  simp only [World.size_alloc] at h
  rw [Below.heap_alloc _ _ _ (by simp only [World.size_alloc]; omega), Below.heap_alloc _ _ _ (by simp only [World.size_alloc]; omega)]
  exact h
theorem five_3 (w : World) (a b c d e : Obj) : (((((w.alloc a).alloc b).alloc c).alloc d).alloc e).heap[w.heap.size + 1 + 1 + 1]? = some d := by
  have h := heap_new (((w.alloc a).alloc b).alloc c) d
  simp only [World.size_alloc] at h
  rw [Below.heap_alloc _ _ _ (by simp only [World.size_alloc]; omega)]
  exact h
theorem five_4 (w : World) (a b c d e : Obj) : (((((w.alloc a).alloc b).alloc c).alloc d).alloc e).heap[w.heap.size + 1 + 1 + 1 + 1]? = some e := by
  have h := heap_new ((((w.alloc a).alloc b).alloc c).alloc d) e
  simp only [World.size_alloc] at h
  exact h
theorem five_below (w : World) (a b c d e : Obj) : Below w.heap.size w (((((w.alloc a).alloc b).alloc c).alloc d).alloc e) :=
  (((((Below.refl _ w).alloc (Nat.le_refl _) a).alloc (by simp) b).alloc (by simp; omega) c).alloc (by simp; omega) d).alloc (by simp; omega) e
theorem one_rdI' {W : World} {g : Nat} {x : Int} {t : TypeId} (h : W.heap[g]? = some (.cells #[.int .i64 x] t (0, 0))) : RdI W (.slice (some ⟨g, 0, none⟩) 1 1) [x] :=
  ⟨_, 1, rfl, Nat.le_refl _, fun _ => ⟨g, 0, rfl, (Array.getElem?_eq_some_iff.1 h).1, fun j hj => by
    match j, hj with
    | 0, _ => rw [cell_of_heap h]; rfl⟩⟩
theorem one_rdN' {W : World} {g x : Nat} {t : TypeId} (h : W.heap[g]? = some (.cells #[.int .u16 (x : Int)] t (0, 0))) : RdN W (.slice (some ⟨g, 0, none⟩) 1 1) [x] :=
  ⟨_, 1, rfl, Nat.le_refl _, fun _ => ⟨g, 0, rfl, (Array.getElem?_eq_some_iff.1 h).1, fun j hj => by
    match j, hj with
    | 0, _ => rw [cell_of_heap h]; rfl⟩⟩
theorem small_at {W : World} {b g1 g2 g3 : Nat} {t1 t2 t3 t : TypeId} (h1 : W.heap[g1]? = some (.cells #[.int .i64 2] t1 (0, 0))) (h2 : W.heap[g2]? = some (.cells #[.int .i64 3] t2 (0, 0))) (h3 : W.heap[g3]? = some (.cells #[.int .u16 65] t3 (0, 0)))
    (h : W.heap[b]? = some (.cells #[.int .u8 9, .string ⟨#[]⟩, .string ⟨#[]⟩, .string ⟨#[]⟩, .string ⟨#[]⟩, .string ⟨#[]⟩, .slice none 0 0, .slice none 0 0, .int .i64 0, .slice (some ⟨g1, 0, none⟩) 1 1, .int .i64 1, .int .i64 0, .int .i64 0, .int .u8 0, .bool false, .bool false, .int .u8 1, .string ⟨#[]⟩, .string ⟨#[]⟩, .string ⟨#[97]⟩, .string ⟨#[]⟩, .string ⟨#[]⟩, .slice none 0 0, .slice none 0 0, .int .i64 1, .slice (some ⟨g2, 0, none⟩) 1 1, .int .i64 1, .int .i64 0, .int .i64 0, .int .u8 0, .bool false, .bool false, .int .u8 3, .string ⟨#[]⟩, .string ⟨#[]⟩, .string ⟨#[]⟩, .string ⟨#[]⟩, .string ⟨#[]⟩, .slice (some ⟨g3, 0, none⟩) 1 1, .slice none 0 0, .int .i64 2, .slice none 0 0, .int .i64 1, .int .i64 0, .int .i64 0, .int .u8 0, .bool false, .bool false] t (0, 0))) : FAt W b 0 3 smallNs := by
  refine ⟨(Array.getElem?_eq_some_iff.1 h).1, by decide, by decide, fun i hi => ?_⟩
  match i, hi with
  | 0, _ => exact ⟨⟨.slice none 0 0, .slice none 0 0, .slice (some ⟨g1, 0, none⟩) 1 1⟩, by constructor <;> (rw [cell_of_heap h]; rfl), nil_rdN W, nil_rdA W, one_rdI' h1⟩
  | 1, _ => exact ⟨⟨.slice none 0 0, .slice none 0 0, .slice (some ⟨g2, 0, none⟩) 1 1⟩, by constructor <;> (rw [cell_of_heap h]; rfl), nil_rdN W, nil_rdA W, one_rdI' h2⟩
  | 2, _ => exact ⟨⟨.slice (some ⟨g3, 0, none⟩) 1 1, .slice none 0 0, .slice none 0 0⟩, by constructor <;> (rw [cell_of_heap h]; rfl), one_rdN' h3, nil_rdA W, nil_rdI W⟩

theorem small_right : rightD smallNs = true := by decide +kernel
theorem small_answers : positionD smallNs 3 2 = 10 ∧ toldE smallNs [3, 2] = 0 ∧ toldE smallNs [4] = 2 ∧ toldE [{ blankNode with kind := 99 }] [1] = 5 := by decide +kernel
end Go.Proofs.Ytfaeabjgplahgaa

namespace Go.Proofs.Ytfaeabjgplahgaa
open Go.RowKit Go.Lib Go.Shelf

end Go.Proofs.Ytfaeabjgplahgaa

namespace Go.Proofs.Ytfaeabjgplahgaa
open Go.RowKit Go.Lib Go.Shelf

theorem ownsRow_base {W : World} {base base' : Nat} {e : TypeId} {size : Nat} {v : Value} {k : Nat} {xs : List Value} (h : W.ownsRow base e size v k xs) (hb : base' ≤ base) : W.ownsRow base' e size v k xs := by
  refine ⟨h.1, ?_⟩
  rcases h.2 with a | ⟨g, cap, cur, hv, hg, rest⟩
  · exact .inl a
  · exact .inr ⟨g, cap, cur, hv, Nat.le_trans hb hg, rest⟩

end Go.Proofs.Ytfaeabjgplahgaa

namespace Go.Proofs.Ytfaeabjgplahgaa
open Go.RowKit Go.Lib Go.Shelf

def badNs : List NodeD := [{ blankNode with kind := 99 }]
theorem bad_at {W : World} {b : Nat} {t : TypeId} (h : W.heap[b]? = some (.cells #[.int .u8 99, .string ⟨#[]⟩, .string ⟨#[]⟩, .string ⟨#[]⟩, .string ⟨#[]⟩, .string ⟨#[]⟩, .slice none 0 0, .slice none 0 0, .int .i64 0, .slice none 0 0, .int .i64 0, .int .i64 0, .int .i64 0, .int .u8 0, .bool false, .bool false] t (0, 0))) : FAt W b 0 1 badNs := by
  refine ⟨(Array.getElem?_eq_some_iff.1 h).1, by decide, by decide, fun i hi => ?_⟩
  match i, hi with
  | 0, _ => exact ⟨⟨.slice none 0 0, .slice none 0 0, .slice none 0 0⟩, by constructor <;> (rw [cell_of_heap h]; rfl), nil_rdN W, nil_rdA W, nil_rdI W⟩
theorem FAt.rd {w : World} {b off cap : Nat} {ns : List NodeD} (h : FAt w b off cap ns) : FRd w (some ⟨b, off, none⟩) cap ns := ⟨h.len, fun _ => ⟨b, off, rfl, h⟩⟩
theorem all_kids {ns : List NodeD} (h : ns.all (fun n => decide (n.kids.length ≤ 1099511627776)) = true) : ∀ (i : Nat) (hi : i < ns.length), ns[i].kids.length ≤ 1099511627776 := fun i hi => of_decide_eq_true (List.all_eq_true.1 h ns[i] (List.getElem_mem hi))
theorem all_attrs {ns : List NodeD} (h : ns.all (fun n => decide (n.attrs.length ≤ 1099511627776)) = true) : ∀ (i : Nat) (hi : i < ns.length), ns[i].attrs.length ≤ 1099511627776 := fun i hi => of_decide_eq_true (List.all_eq_true.1 h ns[i] (List.getElem_mem hi))
theorem small_more : allD smallNs 1 = [1, 2, 3] ∧ toldE smallNs [1] = 0 ∧ toldE smallNs [3] = 0 ∧ lastI (pathUp smallNs (overD smallNs) 3) = 1 ∧ toldE badNs [1] = 5 := by decide +kernel
theorem three_rdI (W : World) (x y z : Int) (t : TypeId) : RdI (W.alloc (.cells #[.int .i64 x, .int .i64 y, .int .i64 z] t)) (.slice (some ⟨W.heap.size, 0, none⟩) 3 3) [x, y, z] :=
  ⟨_, 3, rfl, Nat.le_refl _, fun _ => ⟨_, _, rfl, by simp, fun j hj => by
    match j, hj with
    | 0, _ => simp
    | 1, _ => simp
    | 2, _ => simp⟩⟩
end Go.Proofs.Ytfaeabjgplahgaa
