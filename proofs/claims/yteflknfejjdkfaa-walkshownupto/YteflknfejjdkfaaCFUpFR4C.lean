/- Going up by a function of the program's own: node, parentOf, overOf; the iterator upBy. -/
/- Whether a node is among those that an iterator gives (has, contains); the last one (lastOf, rootOf, topOf). -/
/- What an iterator gives, collected (slices.Collect); the path to a node (pathOf). -/
/- How long two paths run together (fork); where a kid stands (indexOf); cmp.Compare. -/
/- How two nodes stand to one another (standOf). -/
/- A range over a function whose assignment writes a variable that the loop's relation speaks of ('for last = range all'): the relation holds between rounds alone; behind the assignment another one does. -/
/- The last one that an iterator gives (lastOf, rootOf, topOf). -/
/- What lies in a node, in tree order (listOf, whose inner function calls itself). -/
/- What lies in a node (listOf for kids; All). -/
/- What compareDocumentPosition answers (positionOf, Compare). -/
/- The walk of Compare. -/
/- The walk of Common. -/
/- What containing goes with: plain. -/
/- Whether two lists of numbers are one (canopyref04.Ints). -/
/- The reference of order: Of, Place. -/
/- The reference of order: Root, Ancestors. -/
/- The reference of order: Contains, Common. -/
import Derived.Test.YteflknfejjdkfaaFSurW
import Derived.Test.YteflknfejjdkfaaFOrd2
import Derived.RangeFuncNested
import Derived.RangeFuncBound
import Derived.RangeFuncCalls
import Derived.RangeFuncLeaves
import Derived.Shelf.Abstract
import Derived.Shelf.RegionOpen
import Derived.OwnWalkIn
import Derived.TacticsInMore
import Derived.LoopNIn
import Derived.LoopIn
import Derived.Test.YteflknfejjdkfaaShelf
import Derived.Maps.AppendAt
import Derived.RangeFuncBox
import Derived.Deep.Upon
import Derived.Deep.MidRow
import Derived.Deep.QuietTactic
import Derived.BigQuiet
import Derived.Test.YteflknfejjdkfaaFBelow
import Derived.Laws.EntriesVeiled
import Derived.Test.YteflknfejjdkfaaFCheck
import Derived.Test.YteflknfejjdkfaaFRefN
import Derived.Test.YteflknfejjdkfaaFRefM
namespace Go.Proofs.Yteflknfejjdkfaa
open Go.RowKit Go.Lib Go.Shelf
attribute [local go_sem] Oper.semAt_some

theorem grown_of_below {w w' : World} (h : Below w.heap.size w w') : w.grownBy w' none := ⟨h.os, h.tape, h.output, h.size, fun k hk _ => h.block k hk⟩

end Go.Proofs.Yteflknfejjdkfaa

namespace Go.Proofs.Yteflknfejjdkfaa
open Go.RowKit Go.Lib Go.Shelf
attribute [local go_sem] Oper.semAt_some

theorem box_cell_l {W : World} {B : Nat} {v : Value} {t : TypeId} (h : W.heap[B]? = some (.cells #[v] t (0, 0))) : W.cell? ⟨B, 0, none⟩ = some v ∧ W.frozen? ⟨B, 0, none⟩ = false := by
  constructor <;> simp [World.cell?, World.frozen?, h]
theorem new_cell_l (W : World) (v : Value) (t : TypeId) : (W.alloc (.cells #[v] t)).cell? ⟨W.heap.size, 0, none⟩ = some v ∧ (W.alloc (.cells #[v] t)).frozen? ⟨W.heap.size, 0, none⟩ = false := box_cell_l (heap_new W _)
theorem keep_cell_l {W : World} {a : Addr} {v : Value} (o : Obj) (h : W.cell? a = some v) : (W.alloc o).cell? a = some v := cell_kept h (World.grownBy_alloc W o none) (fun r e => by cases e)
theorem keep_free_l {W : World} {a : Addr} {v : Value} (o : Obj) (h : W.cell? a = some v) (hf : W.frozen? a = false) : (W.alloc o).frozen? a = false := (frozen_kept h (World.grownBy_alloc W o none) (fun r e => by cases e)).trans hf
/-- What upBy has made lies in three boxes. -/
structure UpAt (w : World) (b off cap n k bh bo bf : Nat) (x : Int) : Prop where
  ch : w.cell? ⟨bh, 0, none⟩ = some (.int .i64 x)
  co : w.cell? ⟨bo, 0, none⟩ = some (.func (.func k) #[] #[])
  cf : w.cell? ⟨bf, 0, none⟩ = some (.slice (some ⟨b, off, none⟩) n cap)
  lh : bh < w.heap.size
  lo : bo < w.heap.size
  lf : bf < w.heap.size
theorem UpAt.later {w W : World} {b off cap n k bh bo bf : Nat} {x : Int} (h : UpAt w b off cap n k bh bo bf x) (hb : Below w.heap.size w W) : UpAt W b off cap n k bh bo bf x :=
  ⟨(hb.cell (p := ⟨bh, 0, none⟩) h.lh).trans h.ch, (hb.cell (p := ⟨bo, 0, none⟩) h.lo).trans h.co, (hb.cell (p := ⟨bf, 0, none⟩) h.lf).trans h.cf, Nat.lt_of_lt_of_le h.lh hb.size, Nat.lt_of_lt_of_le h.lo hb.size, Nat.lt_of_lt_of_le h.lf hb.size⟩
/-- What upBy has just made. -/
theorem upAt_new (b off cap n k : Nat) (x : Int) (W : World) :
    UpAt (((W.alloc (.cells #[.slice (some ⟨b, off, none⟩) n cap] 24)).alloc (.cells #[.int .i64 x] 3)).alloc (.cells #[.func (.func k) #[] #[]] 115)) b off cap n k (W.heap.size + 1) (W.heap.size + 1 + 1) W.heap.size x := by
  have c0 := new_cell_l W (.slice (some ⟨b, off, none⟩) n cap) 24
  have c1 := new_cell_l (W.alloc (.cells #[.slice (some ⟨b, off, none⟩) n cap] 24)) (.int .i64 x) 3
  have c2 := new_cell_l ((W.alloc (.cells #[.slice (some ⟨b, off, none⟩) n cap] 24)).alloc (.cells #[.int .i64 x] 3)) (.func (.func k) #[] #[]) 115
  simp only [World.size_alloc] at c1 c2
  exact ⟨keep_cell_l _ c1.1, c2.1, keep_cell_l _ (keep_cell_l _ c0.1), by simp only [World.size_alloc]; omega, by simp only [World.size_alloc]; omega, by simp only [World.size_alloc]; omega⟩
theorem up_below (b off cap n k : Nat) (x : Int) (W : World) :
    Below W.heap.size W (((W.alloc (.cells #[.slice (some ⟨b, off, none⟩) n cap] 24)).alloc (.cells #[.int .i64 x] 3)).alloc (.cells #[.func (.func k) #[] #[]] 115)) :=
  (((Below.refl _ W).alloc (Nat.le_refl _) _).alloc (by simp) _).alloc (by simp; omega) _

end Go.Proofs.Yteflknfejjdkfaa

namespace Go.Proofs.Yteflknfejjdkfaa
open Go.RowKit Go.Lib Go.Shelf
attribute [local go_sem] Oper.semAt_some

theorem info_int : (Try.prog.info? 3).map (fun i => (i.zero, i.size, i.bytes)) = some (some (.int .i64 0), 1, 8) := by kernel_rfl

theorem setCells_below {B : Nat} (g : Nat) (hg : B ≤ g) : ∀ (vs : List Value) (o : Nat) (w : World), Below B w (w.setCells g o vs)
  | [], _, w => Below.refl _ w
  | v :: vs, o, w => ((Below.refl B w).setCell (p := ⟨g, o, none⟩) hg v).trans (setCells_below g hg vs (o + 1) _)
theorem drewN_below (B q : Nat) (w : World) : Below B w (w.drewN q) := ⟨rfl, rfl, rfl, Nat.le_refl _, fun _ _ => rfl⟩
theorem setCells_size (g : Nat) : ∀ (vs : List Value) (o : Nat) (w : World), (w.setCells g o vs).heap.size = w.heap.size
  | [], _, _ => rfl
  | v :: vs, o, w => (setCells_size g vs (o + 1) _).trans (by simp [World.setCell])
theorem reversed_rdI {v : World} {g cp q : Nat} {xs : List Int} (hgl : g < v.heap.size) (hcell : ∀ j, j < xs.length → v.cell? ⟨g, 0 + j, none⟩ = some (.int .i64 (xs.getD j 0))) (hfr : ∀ k, v.frozen? ⟨g, k, none⟩ = false) (hnc : xs.length ≤ cp) :
    RdI ((v.drewN q).setCells g 0 (xs.map (Value.int .i64)).reverse) (.slice (some ⟨g, 0, none⟩) xs.length cp) xs.reverse := by
  rw [← List.map_reverse]
  have hl : xs.reverse.length = xs.length := List.length_reverse
  have hth : (v.drewN q).there g 0 (xs.reverse.map (Value.int .i64)).length := fun j hj => by
    rw [List.length_map, hl] at hj
    refine ⟨?_, hfr _⟩
    have h : (v.drewN q).cell? ⟨g, 0 + j, none⟩ = _ := hcell j hj
    rw [h]
    rfl
  have hrg := World.rangeAt_setCells_same (v.drewN q) g 0 (xs.reverse.map (Value.int .i64)) hth
  refine ⟨some ⟨g, 0, none⟩, cp, by rw [hl], by rw [hl]; exact hnc, fun _ => ⟨g, 0, rfl, by rw [setCells_size]; exact hgl, fun j hj => ?_⟩⟩
  exact hrg j (.int .i64 xs.reverse[j]) (by rw [List.getElem?_map, List.getElem?_eq_getElem hj]; rfl)

end Go.Proofs.Yteflknfejjdkfaa

namespace Go.Proofs.Yteflknfejjdkfaa
open Go.RowKit Go.Lib Go.Shelf

theorem forkN_drop (p q : List Int) (k : Nat) (h1 : k < p.length) (h2 : k < q.length) : forkN (p.drop k) (q.drop k) = if p[k] == q[k] then forkN (p.drop (k + 1)) (q.drop (k + 1)) + 1 else 0 := by
  rw [List.drop_eq_getElem_cons h1, List.drop_eq_getElem_cons h2, forkN]
theorem forkN_end (p q : List Int) (k : Nat) (h : ¬ (k < p.length ∧ k < q.length)) : forkN (p.drop k) (q.drop k) = 0 := by
  by_cases h1 : k < p.length
  · have h2 : q.length ≤ k := by omega
    rw [List.drop_eq_nil_of_le h2]
    cases p.drop k <;> rfl
  · rw [List.drop_eq_nil_of_le (by omega : p.length ≤ k)]
    cases q.drop k <;> rfl

set_option maxRecDepth 100000 in
set_option maxHeartbeats 2000000 in
theorem index_any (v : Value) (l : List Int) (x : Int) (w : World) (hv : RdI w v l) (hl : l.length ≤ 1099511627776) :
    Calls Try.prog 75 #[v, .int .i64 x] w fun e w' => e = .returned (.int .i64 (idxI l x 0)) ∧ w' = w := by
  obtain ⟨o, c, rfl, hc, g⟩ := hv
  obtain ⟨N, hN⟩ : ∃ N, idxI l x 0 = N := ⟨_, rfl⟩
  rw [hN]
  have HN : Hid (idxI (l.drop 0) x 0 = N) := hN
  clear hN
  go_enter Try.func75, Try.ntmps75
  go_wp2
  go_loopw [8] (fun t wr => ∃ k : Nat, k ≤ l.length ∧ t = .int .i64 k ∧ wr = w ∧ Hid (idxI (l.drop k) x k = N)) (fun t _ => l.length - (RowKit.intOf t).toNat)
  case atStart => exact ⟨0, Nat.zero_le _, rfl, rfl, HN⟩
  case round =>
    obtain ⟨k, k1, rfl, rfl, hK⟩ := hrel
    by_cases hlt : k < l.length
    · obtain ⟨b, off, rfl, hlt1, ha⟩ := g (by omega)
      have x1 := ha k hlt
      have q1 : (0 : Int) ≤ (k : Int) := by omega
      have q2 : (k : Int) < (l.length : Int) := by omega
      have hk := hK.out
      rw [List.drop_eq_getElem_cons hlt, idxI] at hk
      have Hk := hid hk
      clear hk hK ha g
      generalize l[k] = a at *
      cases he : (a == x) with
      | true =>
        have hNk : N = (k : Int) := by
          rw [← Hk.out, he]
          rfl
        have he2 : (x == a) = true := by rw [eq_of_beq he]; exact beq_self_eq_true x
        subst hNk
        clear Hk he
        go_wp2
        go_ret
        exact ⟨rfl, rfl⟩
      | false =>
        have Hn : Hid (idxI (l.drop (k + 1)) x (k + 1) = N) := by
          have h := Hk.out
          rw [he, if_neg Bool.false_ne_true] at h
          exact h
        have he2 : (x == a) = false := beq_eq_false_iff_ne.2 (fun e => by rw [e, beq_self_eq_true] at he; cases he)
        clear Hk he
        go_wp2
        go_roundw
        case rel => exact ⟨k + 1, by omega, by go_num, trivial, Hn⟩
        case measure => simp [RowKit.intOf]; omega
    · have hNk : N = -1 := by
        rw [← hK.out, List.drop_eq_nil_of_le (by omega)]
        rfl
      subst hNk
      clear hK g
      go_wp2
      go_ret
      exact ⟨rfl, rfl⟩

end Go.Proofs.Yteflknfejjdkfaa

namespace Go.Proofs.Yteflknfejjdkfaa
open Go.RowKit Go.Lib Go.Shelf

theorem pathD_len {ns : List NodeD} (h : RightF ns) {x : Int} (hx : thereB ns.length x = true) : (pathD ns x).length ≤ 4096 := by
  unfold pathD
  rw [List.length_reverse]
  exact Nat.le_trans (pathUp_len ns _ h.parentOK h.ends x (.inr hx)) h.small
theorem two_cells {W : World} {bs : Nat} {a b : Value} {t : TypeId} (h : W.heap[bs]? = some (.cells #[a, b] t (0, 0))) : W.cell? ⟨bs, 0, none⟩ = some a ∧ W.cell? ⟨bs, 1, none⟩ = some b ∧ W.frozen? ⟨bs, 0, none⟩ = false ∧ W.frozen? ⟨bs, 1, none⟩ = false :=
  ⟨by rw [cell_of_heap h]; rfl, by rw [cell_of_heap h]; rfl, frozen_of_heap h 0, frozen_of_heap h 1⟩

theorem three_later {W V : World} {a1 a2 a3 : Addr} {x1 x2 x3 : Value} (h : W.cell? a1 = some x1 ∧ W.cell? a2 = some x2 ∧ W.cell? a3 = some x3) (l : a1.block < W.heap.size ∧ a2.block < W.heap.size ∧ a3.block < W.heap.size) (hb : Below W.heap.size W V) :
    V.cell? a1 = some x1 ∧ V.cell? a2 = some x2 ∧ V.cell? a3 = some x3 := ⟨(hb.cell l.1).trans h.1, (hb.cell l.2.1).trans h.2.1, (hb.cell l.2.2).trans h.2.2⟩
theorem row_ne {W : World} {b k o : Nat} {z : Int} {t : TypeId} (h : W.heap[k]? = some (.cells #[.int .i64 0, .bool false] t (0, 0))) (hz : z ≠ 0) (hc : W.cell? ⟨b, o, none⟩ = some (.int .i64 z)) : b ≠ k := by
  rintro rfl
  rw [cell_of_heap h] at hc
  match o, hc with
  | 0, hc => simp at hc; exact hz hc.symm
  | 1, hc => simp at hc
  | _ + 2, hc => simp at hc
theorem cell_far {W : World} {a : Addr} {v u : Value} {k o : Nat} (h : W.cell? a = some v) (hne : a.block ≠ k) : (W.setCell ⟨k, o, none⟩ u).cell? a = some v := by
  unfold World.cell? at h ⊢
  have e : (W.setCell ⟨k, o, none⟩ u).heap[a.block]? = W.heap[a.block]? := by simp [World.setCell, Array.getElem?_modify, Ne.symm hne]
  rw [e]
  exact h
theorem three_set {W : World} {a1 a2 a3 : Addr} {x1 x2 x3 u1 u2 : Value} {k o1 o2 : Nat} (h : W.cell? a1 = some x1 ∧ W.cell? a2 = some x2 ∧ W.cell? a3 = some x3) (n : a1.block ≠ k ∧ a2.block ≠ k ∧ a3.block ≠ k) :
    ((W.setCell ⟨k, o1, none⟩ u1).setCell ⟨k, o2, none⟩ u2).cell? a1 = some x1 ∧ ((W.setCell ⟨k, o1, none⟩ u1).setCell ⟨k, o2, none⟩ u2).cell? a2 = some x2 ∧ ((W.setCell ⟨k, o1, none⟩ u1).setCell ⟨k, o2, none⟩ u2).cell? a3 = some x3 :=
  ⟨cell_far (cell_far h.1 n.1) n.1, cell_far (cell_far h.2.1 n.2.1) n.2.1, cell_far (cell_far h.2.2 n.2.2) n.2.2⟩
theorem there_ne {n : Nat} {z : Int} (h : thereB n z = true) : z ≠ 0 := by
  rintro rfl
  unfold thereB at h
  simp at h
theorem three_lt {W V : World} {k1 k2 k3 : Nat} (l : k1 < W.heap.size ∧ k2 < W.heap.size ∧ k3 < W.heap.size) (hb : Below W.heap.size W V) : k1 < V.heap.size ∧ k2 < V.heap.size ∧ k3 < V.heap.size :=
  ⟨Nat.lt_of_lt_of_le l.1 hb.size, Nat.lt_of_lt_of_le l.2.1 hb.size, Nat.lt_of_lt_of_le l.2.2 hb.size⟩

end Go.Proofs.Yteflknfejjdkfaa

namespace Go.Proofs.Yteflknfejjdkfaa
open Go Go.RowKit

/-- The loop never leaves early; C is what holds behind the assignment. -/
theorem range_through {F : Fence} {n : Nat} {P : Program} {α : Type} {g : Operand} {ps : Array Tmp} {assign body : Code} {Q : Exit → Act → World → Prop} {a : Act} {w : World}
    (hro : F.round = none) (h1 : 1 ≤ n) {gf : Nat} {lb : Array Value} (hg : a.eval g = .func (.func gf) #[] lb) (hFg : F.fn gf) (eg : ∀ args w, (callFunc gf args).run P w = .ok (.enter gf args) w)
    {encs : α → Array Value} {n₀ : Nat} {S Sp : List α → Prop} {N : Nat} {w0 : World} (hseq : SeqStopsK F (n - 1) P gf lb encs (Below n₀) S Sp N w0)
    (hn₀ : n₀ ≤ w.heap.size) (hb0 : Below w0.heap.size w0 w) (hps : ∀ x, (encs x).size = ps.size)
    (I : List α → World → Prop) (hI : OwnFrom w.heap.size I) (h0 : I [] w) (C : List α → α → Act → World → Prop) (hC : ∀ pre x a', OwnFrom w.heap.size (fun (_ : Unit) W => C pre x a' W))
    (hassign : ∀ (l : Nat) (pre : List α) (x : α) (W : World) (K : Act → World → Prop), I pre W → pre.length < N → (∀ a' W', KeepsFrom w.heap.size W W' → Below n₀ W W' → C pre x a' W' → K a' W') →
      assign.wpIn (F.inRound l) (n - 1 - 1) P (Exit.then K (fun _ _ _ => False)) { tmps := (ps.zip (encs x)).foldl (fun t (p, v) => t.setIfInBounds p v) a.tmps, defers := [] } W)
    (hbody : ∀ (l : Nat) (pre : List α) (x : α) (a' : Act) (W : World), C pre x a' W → body.wpIn (F.inRound l) (n - 1 - 1) P (fun e _ W' => e = .normal ∧ KeepsFrom w.heap.size W W' ∧ Below n₀ W W' ∧ I (pre ++ [x]) W') a' W)
    (hdone : ∀ (D : Nat) (xs : List α) (W : World), w.heap.size ≤ D → S xs → I xs W → W.heap[D]? = some (.deferred (some [])) → Q .normal { a with defers := { target := .collected D, args := #[] } :: a.defers } W) :
    (Code.rangeFunc g ps assign body).wpIn F n P Q a w := by
  refine wpIn_rangeFunc fun fn hfn => ?_
  rw [hro]
  -- the record of the loop, by its state
  obtain ⟨R, hR⟩ : ∃ R : LoopState → Loop, R = fun st => { state := st, pending := none, fn := fn, tmps := a.tmps, params := ps, assign := assign, body := body, defers := w.heap.size } := ⟨_, rfl⟩
  let V := (w.alloc (.deferred (some []))).alloc (.loop (R .ready))
  have vL : V.heap[w.heap.size + 1]? = some (.loop (R .ready)) := by
    have := World.alloc_heap_new (w.alloc (.deferred (some []))) (.loop (R .ready))
    rwa [World.size_alloc] at this
  have vD : V.heap[w.heap.size]? = some (.deferred (some [])) := (Below.heap_alloc _ _ _ (by simp)).trans (World.alloc_heap_new w _)
  have vI : I [] V := hI.alloc _ (hI.alloc _ h0)
  have vB : Below w0.heap.size w0 V := hb0.trans ((((Below.refl _ w).alloc (Nat.le_refl _) _).alloc (by simp) _).mono hb0.size)
  have vS : V.heap.size = w.heap.size + 2 := by show ((w.alloc _).alloc _).heap.size = _; simp
  refine ⟨w.heap.size + 1, [{ target := .collected w.heap.size, args := #[] }], V, { target := .fn (.func gf) lb, args := #[.func (.yield (w.heap.size + 1)) #[] #[]] }, V, gf, #[.func (.yield (w.heap.size + 1)) #[] #[]] ++ lb, V, ?enter, ?res, ?lead, ?inv, fun _ => h1, ?run⟩
  case enter => show _ = Result.ok _ ((w.alloc _).alloc _); rw [hR]; exact run_enterLoop_outer _ _ _ _ _
  case res => simp only [resolve, hg]; simp [go_sem]
  case lead =>
    intro f' hf'
    simp [Target.leads] at hf'
    subst hf'
    exact hFg
  case inv => simp [invoke, go_sem, eg]
  case run =>
    have turn : ∀ {A : World} {row : Option Nat}, (∀ r, row = some r → V.heap.size ≤ r ∧ ∃ o : Obj, A.heap[r]? = some o ∧ o.isWalk = true) → (∀ r, row = some r → w.heap.size ≤ r ∧ ∃ o : Obj, A.heap[r]? = some o ∧ o.isCells = false) := fun hr r e => by
      obtain ⟨hB, o, ho, hw⟩ := hr r e
      exact ⟨by omega, o, ho, Obj.not_cells_of_walk hw⟩
    refine (hseq (w.heap.size + 1) (fun pre W => I pre W ∧ W.heap[w.heap.size + 1]? = some (.loop (R .ready)) ∧ W.heap[w.heap.size]? = some (.deferred (some []))) (fun _ _ => False) V vB
      (fun s A B row hs hg' hr => ⟨hI s A B row hs.1 hg' (turn hr), (grownBy_keeps hg' (fun r e => (hr r e).2) hs.2.1 rfl).trans hs.2.1, (grownBy_keeps hg' (fun r e => (hr r e).2) hs.2.2 rfl).trans hs.2.2⟩)
      (fun _ _ _ _ hs _ _ => hs) ?round ⟨vI, vL, vD⟩).mono ?behind
    case round =>
      rintro pre x W ⟨hi, hl, hk⟩ hlen
      have hy := run_yield (P := P) (args := encs x) hl (by rw [hR]; exact hps x)
      rw [hR] at hy
      refine ⟨fn, _, assign, body, hy, roundIn_of_wpIn hfn (hassign _ pre x W _ hi hlen ?_)⟩
      clear hy
      intro a' A kA bA cA
      have aL := kA.same _ _ (by omega) hl rfl
      have aD := kA.same _ _ (Nat.le_refl _) hk rfl
      have aS := (Array.getElem?_eq_some_iff.1 aL).1
      refine ⟨_, run_beginRound aL (by rw [hR]), ?_⟩
      have bL : (A.putObj (w.heap.size + 1) (.loop { R .ready with state := .busy })).heap[w.heap.size + 1]? = some (.loop { R .ready with state := .busy }) := World.putObj_heap_same aS
      have bD : (A.putObj (w.heap.size + 1) (.loop { R .ready with state := .busy })).heap[w.heap.size]? = some (.deferred (some [])) := (World.putObj_heap_other (by omega)).trans aD
      have bB := belowK_b hn₀ A (w.heap.size + 1) _ (.loop { R .ready with state := .busy }) (by omega) aL rfl rfl
      refine wpIn_mono (hbody (w.heap.size + 1) pre x a' _ ((hC pre x a').putObj (s := ()) _ cA (by omega) aL rfl)) ?_
      rintro e a3 Z ⟨rfl, kZ, bZ, iZ⟩
      have zL := kZ.same _ _ (by omega) bL rfl
      have zD := kZ.same _ _ (Nat.le_refl _) bD rfl
      have zS := (Array.getElem?_eq_some_iff.1 zL).1
      have hend := run_endRound (P := P) none zL
      have eR : ({ R .ready with state := .ready, pending := none } : Loop) = R .ready := by rw [hR]
      refine ⟨_, _, hend, .inl ⟨rfl, ⟨hI.putObj _ iZ (by omega) zL rfl, ?_, ?_⟩, ?_⟩⟩
      · rw [hR]
        exact World.putObj_heap_same zS
      · exact (World.putObj_heap_other (by omega)).trans zD
      · exact bA.trans (bB.trans (bZ.trans (belowK_b hn₀ Z (w.heap.size + 1) _ _ (by omega) zL rfl rfl)))
    case behind =>
      rintro e Z ⟨⟨v, rfl⟩, ⟨xs, hS, hi, hl, hk⟩ | ⟨_, _, h⟩⟩
      · exact ⟨none, _, by have := run_endLoop (P := P) hl (by rw [hR]; simp); rw [hR] at this; exact this, hdone _ xs _ (Nat.le_refl _) hS (hI.putObj _ hi (by omega) hl rfl) ((World.putObj_heap_other (by omega)).trans hk)⟩
      · exact h.elim
end Go.Proofs.Yteflknfejjdkfaa

namespace Go.Proofs.Yteflknfejjdkfaa
open Go.RowKit Go.Lib Go.Shelf
attribute [local go_sem] Oper.semAt_some

/-- The last one; 0: there is none. -/
def lastI (l : List Int) : Int := l.getLastD 0
theorem last_snoc (pre : List Int) (z : Int) : lastI (pre ++ [z]) = z := by simp [lastI, List.getLastD_eq_getLast?]

end Go.Proofs.Yteflknfejjdkfaa

namespace Go.Proofs.Yteflknfejjdkfaa
open Go.RowKit Go.Lib Go.Shelf

theorem boxed_later {W V : World} {B : Nat} {t : TypeId} {v : Value} (h : Boxed W B t v) (hb : Below W.heap.size W V) : Boxed V B t v := (hb.block B h.lt).trans h
theorem boxed_beside {W w1 : World} {n₀ B B' : Nat} {t' e : TypeId} {size : Nat} {v v' u : Value} {k : Nat} {xs : List Value} {tmp : Obj} (hu : Boxed W B' t' u) (hte : t' ≠ e) (hne : B' ≠ B) (hrow : W.ownsRow n₀ e size v k xs) (hgrow : (W.alloc tmp).grownBy w1 v.ownBlock) : Boxed (w1.setCell ⟨B, 0, none⟩ v') B' t' u :=
  ((hu.alloc tmp).kept hgrow (hu.not_row hte hrow)).other hne v'
theorem ownsRow_later {W V : World} {base : Nat} {e : TypeId} {size : Nat} {v : Value} {k : Nat} {xs : List Value} (h : W.ownsRow base e size v k xs) (hb : Below W.heap.size W V) : V.ownsRow base e size v k xs := by
  refine h.kept (grown_of_below hb) ?_
  rcases h.2 with ⟨rfl, _⟩ | ⟨g, cap, cur, rfl, _⟩
  · exact .inl rfl
  · exact .inr (by simp [Value.ownBlock])
theorem ownsRow_rdI {W : World} {base : Nat} {e : TypeId} {v : Value} {l : List Int} (h : W.ownsRow base e 1 v l.length (l.map (Value.int .i64))) : RdI W v l := by
  obtain ⟨_, ⟨rfl, h0⟩ | ⟨g, cp, cur, rfl, hg, hh, hnc, hcm, hcs, htk⟩⟩ := h
  · exact ⟨none, 0, by rw [h0], by omega, fun hp => absurd hp (by omega)⟩
  · refine ⟨_, cp, rfl, hnc, fun _ => ⟨g, 0, rfl, (Array.getElem?_eq_some_iff.1 hh).1, fun j hj => ?_⟩⟩
    rw [cell_of_heap hh, Nat.zero_add]
    have h1 : (cur.toList.take (l.length * 1))[j]? = some (.int .i64 l[j]) := by
      rw [htk, List.getElem?_map, List.getElem?_eq_getElem hj]
      rfl
    rw [List.getElem?_take] at h1
    split at h1
    · simpa using h1
    · cases h1

/-- The list that grows. -/
def ListBox (W : World) (base bl : Nat) (l : List Int) : Prop := ∃ v, Boxed W bl 40 v ∧ W.ownsRow base 3 1 v l.length (l.map (Value.int .i64))
theorem ListBox.later {W V : World} {base bl : Nat} {l : List Int} (h : ListBox W base bl l) (hb : Below W.heap.size W V) : ListBox V base bl l := by
  obtain ⟨v, h1, h2⟩ := h
  exact ⟨v, boxed_later h1 hb, ownsRow_later h2 hb⟩

end Go.Proofs.Yteflknfejjdkfaa

namespace Go.Proofs.Yteflknfejjdkfaa
open Go.RowKit Go.Lib Go.Shelf

/-- A node and what lies in it, in tree order. -/
def allD (ns : List NodeD) (x : Int) : List Int := belowF (kidsD ns) (ns.length + 1) x

end Go.Proofs.Yteflknfejjdkfaa

namespace Go.Proofs.Yteflknfejjdkfaa
open Go.RowKit Go.Lib Go.Shelf

/-- The error of a call of order, by its forest and its handles. -/
def toldE (ns : List NodeD) (hs : List Int) : Int := if rightD ns then (if hs.all (thereB ns.length) then 0 else 2) else 5
theorem toldE_ok {ns : List NodeD} {hs : List Int} (h1 : rightD ns = true) (h2 : hs.all (thereB ns.length) = true) : toldE ns hs = 0 := by unfold toldE; rw [h1, h2]; rfl

end Go.Proofs.Yteflknfejjdkfaa

namespace Go.Proofs.Yteflknfejjdkfaa
open Go.RowKit Go.Lib Go.Shelf

theorem toldE_zero {ns : List NodeD} {hs : List Int} (h : toldE ns hs = 0) : RightF ns ∧ ∀ x ∈ hs, thereB ns.length x = true := by
  unfold toldE at h
  cases hr : rightD ns with
  | false => rw [hr, if_neg Bool.false_ne_true] at h; omega
  | true =>
    rw [hr, if_pos rfl] at h
    cases ha : hs.all (thereB ns.length) with
    | false => rw [ha, if_neg Bool.false_ne_true] at h; omega
    | true => exact ⟨(rightD_iff ns).1 hr, fun x hx => List.all_eq_true.1 ha x hx⟩

/-- Two numbers in a new row. -/
theorem two_rdI (W : World) (x y : Int) (t : TypeId) : RdI (W.alloc (.cells #[.int .i64 x, .int .i64 y] t)) (.slice (some ⟨W.heap.size, 0, none⟩) 2 2) [x, y] :=
  ⟨_, 2, rfl, Nat.le_refl _, fun _ => ⟨_, _, rfl, by simp, fun j hj => by
    match j, hj with
    | 0, _ => simp
    | 1, _ => simp⟩⟩

end Go.Proofs.Yteflknfejjdkfaa

namespace Go.Proofs.Yteflknfejjdkfaa
open Go.RowKit Go.Lib Go.Shelf

/-- The deepest one that contains both. -/
def commonD (ns : List NodeD) (a b : Int) : Int := if forkN (pathD ns a) (pathD ns b) == 0 then 0 else (pathD ns a).getD (forkN (pathD ns a) (pathD ns b) - 1) 0

end Go.Proofs.Yteflknfejjdkfaa

namespace Go.Proofs.Yteflknfejjdkfaa
open Go.RowKit Go.Lib

theorem lastI_append (p q : List Int) (h : q ≠ []) : lastI (p ++ q) = lastI q := by
  unfold lastI
  rw [List.getLastD_eq_getLast?, List.getLastD_eq_getLast?, List.getLast?_append]
  cases hq : q.getLast? with
  | none => exact absurd (List.getLast?_eq_none_iff.1 hq) h
  | some x => rfl
theorem idxI_none : ∀ (l : List Int) (x : Int) (k : Nat), x ∉ l → idxI l x k = -1
  | [], _, _, _ => rfl
  | y :: t, x, k, h => by
    unfold idxI
    rw [beq_eq_false_iff_ne.2 (fun e => h (by rw [e]; simp)), if_neg Bool.false_ne_true]
    exact idxI_none t x (k + 1) (fun hin => h (List.mem_cons_of_mem _ hin))
theorem idxI_in (l : List Int) (x : Int) : decide (0 ≤ idxI l x 0) = decide (x ∈ l) := by
  by_cases h : x ∈ l
  · obtain ⟨j, _, _, e⟩ := idxI_of l x 0 h
    rw [e, decide_eq_true h, decide_eq_true (by omega)]
  · rw [idxI_none l x 0 h, decide_eq_false h]
    rfl
theorem forkN_append : ∀ (u s t : List Int), forkN (u ++ s) (u ++ t) = u.length + forkN s t
  | [], s, t => by simp
  | x :: u, s, t => by
    rw [List.cons_append, List.cons_append, forkN, beq_self_eq_true, if_pos rfl, forkN_append u s t, List.length_cons]
    omega
section
variable {ns : List NodeD} {up : Int → Int} {hang : Int → List Int}
theorem Hangs.drop (h : Hangs ns up hang) : ∀ (j : Nat) (a : Int), thereB ns.length a = true → j < (pathUp ns up a).length → pathUp ns up ((pathUp ns up a).getD j 0) = (pathUp ns up a).drop j
  | 0, a, ha, _ => by
    rw [List.drop_zero]
    conv => lhs; rw [h.head ha]
    rfl
  | j + 1, a, ha, hj => by
    have hh := h.head ha
    rw [hh] at hj ⊢
    simp only [List.length_cons] at hj
    have h0 : up a ≠ 0 := fun e0 => by rw [e0, pathUp_zero] at hj; simp at hj
    have := h.drop j (up a) (h.up_there ha h0) (by omega)
    simpa using this
theorem Hangs.ne_nil (h : Hangs ns up hang) {a : Int} (ha : thereB ns.length a = true) : pathUp ns up a ≠ [] := by rw [h.head ha]; simp
end
theorem contains_mem (ns : List NodeD) (a b : Int) : containsD ns a b = true ↔ a ∈ pathUp ns (parentD ns) b := by
  unfold containsD
  rw [List.contains_eq_mem]
  exact decide_eq_true_iff
/-- What contains has the same root. -/
theorem within_root {ns : List NodeD} (h : RightF ns) {a b : Int} (ha : thereB ns.length a = true) (hb : thereB ns.length b = true) (hc : containsD ns a b = true) : lastI (pathUp ns (parentD ns) a) = lastI (pathUp ns (parentD ns) b) := by
  obtain ⟨pre, hp⟩ := h.kidsHang.suf hb ((contains_mem ns a b).1 hc)
  rw [hp, lastI_append _ _ (h.kidsHang.ne_nil ha)]
/-- What contains has it within. -/
theorem within_all {ns : List NodeD} (h : RightF ns) {a b : Int} (ha : thereB ns.length a = true) (hb : thereB ns.length b = true) : decide (0 ≤ idxI (allD ns a) b 0) = containsD ns a b := by
  rw [idxI_in]
  have hi := h.kidsHang.below_iff (ns.length + 1) a b ha (by omega)
  cases hc : containsD ns a b with
  | true => exact decide_eq_true (hi.2 ⟨hb, (contains_mem ns a b).1 hc⟩)
  | false =>
    refine decide_eq_false (fun hin => ?_)
    have := (contains_mem ns a b).2 (hi.1 hin).2
    rw [hc] at this
    cases this
theorem all_len {ns : List NodeD} (h : RightF ns) {a : Int} (ha : thereB ns.length a = true) : (allD ns a).length ≤ 1099511627776 :=
  Nat.le_trans (h.kidsHang.below_len (ns.length + 1) a ha (by omega)) (Nat.le_trans h.small (by decide))
theorem pathD_head {ns : List NodeD} (h : RightF ns) {a : Int} (ha : thereB ns.length a = true) : ∃ t, pathD ns a = lastI (pathUp ns (parentD ns) a) :: t := by
  unfold pathD
  have hn := h.kidsHang.ne_nil ha
  refine ⟨(pathUp ns (parentD ns) a).dropLast.reverse, ?_⟩
  have h1 := List.dropLast_concat_getLast hn
  have h2 : lastI (pathUp ns (parentD ns) a) = (pathUp ns (parentD ns) a).getLast hn := by
    unfold lastI
    rw [List.getLastD_eq_getLast?, List.getLast?_eq_some_getLast hn]
    rfl
  conv => lhs; rw [← h1]
  rw [List.reverse_append, h2]
  rfl
/-- There is one that contains both just if the roots are one. -/
theorem within_fork {ns : List NodeD} (h : RightF ns) {a b : Int} (ha : thereB ns.length a = true) (hb : thereB ns.length b = true) : (forkN (pathD ns a) (pathD ns b) == 0) = !(lastI (pathUp ns (parentD ns) a) == lastI (pathUp ns (parentD ns) b)) := by
  obtain ⟨t, ht⟩ := pathD_head h ha
  obtain ⟨u, hu⟩ := pathD_head h hb
  rw [ht, hu, forkN]
  cases he : (lastI (pathUp ns (parentD ns) a) == lastI (pathUp ns (parentD ns) b)) with
  | true => rw [if_pos rfl]; simp
  | false => rw [if_neg Bool.false_ne_true]; rfl
/-- The deepest one that contains both. -/
theorem within_common {ns : List NodeD} (h : RightF ns) {a b : Int} (ha : thereB ns.length a = true) (hb : thereB ns.length b = true) (hf : forkN (pathD ns a) (pathD ns b) ≠ 0) :
    thereB ns.length (commonD ns a b) = true ∧ containsD ns (commonD ns a b) a = true ∧ containsD ns (commonD ns a b) b = true ∧ ∀ k ∈ kidsD ns (commonD ns a b), ¬ (containsD ns k a = true ∧ containsD ns k b = true) := by
  have hc : commonD ns a b = (pathD ns a).getD (forkN (pathD ns a) (pathD ns b) - 1) 0 := by
    unfold commonD
    rw [beq_eq_false_iff_ne.2 hf]
    rfl
  obtain ⟨l1, l2⟩ := forkN_le (pathD ns a) (pathD ns b)
  have hs := forkN_same (pathD ns a) (pathD ns b) (forkN (pathD ns a) (pathD ns b) - 1) (by omega)
  have m1 := mem_pathD (getD_mem (pathD ns a) (forkN (pathD ns a) (pathD ns b) - 1) (by omega))
  have m2 := mem_pathD (getD_mem (pathD ns b) (forkN (pathD ns a) (pathD ns b) - 1) (by omega))
  rw [← hs] at m2
  rw [← hc] at m1 m2
  have hH := h.kidsHang
  have hct := (hH.mem ha m1).1
  refine ⟨hct, (contains_mem _ _ _).2 m1, (contains_mem _ _ _).2 m2, ?_⟩
  rintro k hk ⟨k1, k2⟩
  -- how deep it is
  have hla : (pathD ns a).length = (pathUp ns (parentD ns) a).length := by unfold pathD; exact List.length_reverse
  have hd : (pathUp ns (parentD ns) (commonD ns a b)).length = forkN (pathD ns a) (pathD ns b) := by
    have h1 : commonD ns a b = (pathUp ns (parentD ns) a).getD ((pathUp ns (parentD ns) a).length - 1 - (forkN (pathD ns a) (pathD ns b) - 1)) 0 := by
      rw [hc]
      exact getD_rev (pathUp ns (parentD ns) a) _ (by rw [← hla]; omega)
    rw [h1, hH.drop _ a ha (by omega), List.length_drop]
    omega
  obtain ⟨kt, kp⟩ := hH.down _ k hct hk
  obtain ⟨p1, e1⟩ := hH.suf ha ((contains_mem _ _ _).1 k1)
  obtain ⟨p2, e2⟩ := hH.suf hb ((contains_mem _ _ _).1 k2)
  have hf2 : forkN (pathD ns a) (pathD ns b) = (pathD ns k).length + forkN p1.reverse p2.reverse := by
    have d1 : pathD ns a = pathD ns k ++ p1.reverse := by unfold pathD; rw [e1, List.reverse_append]
    have d2 : pathD ns b = pathD ns k ++ p2.reverse := by unfold pathD; rw [e2, List.reverse_append]
    rw [d1, d2, forkN_append]
  have hlk : (pathD ns k).length = (pathUp ns (parentD ns) (commonD ns a b)).length + 1 := by
    unfold pathD
    rw [List.length_reverse]
    exact hH.deep hct hk
  omega
end Go.Proofs.Yteflknfejjdkfaa

namespace Go.Proofs.Yteflknfejjdkfaa
open Go.RowKit Go.Lib Go.Shelf

theorem beq_drop (p q : List Int) (k : Nat) (h1 : k < p.length) (h2 : k < q.length) : (p.drop k == q.drop k) = (p[k] == q[k] && (p.drop (k + 1) == q.drop (k + 1))) := by
  rw [List.drop_eq_getElem_cons h1, List.drop_eq_getElem_cons h2]
  rfl
theorem beq_len {p q : List Int} (h : p.length ≠ q.length) : (p == q) = false := beq_eq_false_iff_ne.2 (fun e => h (congrArg List.length e))

end Go.Proofs.Yteflknfejjdkfaa

namespace Go.Proofs.Yteflknfejjdkfaa
open Go.RowKit Go.Lib Go.Shelf

set_option maxRecDepth 100000 in
set_option maxHeartbeats 4000000 in
theorem refOf_at (b off cap j : Nat) (ns : List NodeD) (w W : World) (hF : FAt w b off cap ns) (hW : Below w.heap.size w W) (hj : j < ns.length) :
    Calls Try.prog 42 #[.agg #[.slice (some ⟨b, off, none⟩) ns.length cap], .int .i64 ((j : Int) + 1)] W fun e w' => ∃ L : Lists, e = .returned (nodeV ns[j] L) ∧ RdN w L.data ns[j].data ∧ RdA w L.attrs ns[j].attrs ∧ RdI w L.kids ns[j].kids ∧ Below W.heap.size W w' := by
  have hle := hF.len
  obtain ⟨L, hc, hd, ha, hk⟩ := hF.at_ j hj
  have hs := hW.size
  have hB : Below w.heap.size w ((W.alloc (.cells #[.slice (some ⟨b, off, none⟩) ns.length cap] 24)).alloc (.cells #[.int .u8 0, .string ⟨#[]⟩, .string ⟨#[]⟩, .string ⟨#[]⟩, .string ⟨#[]⟩, .string ⟨#[]⟩, .slice none 0 0, .slice none 0 0, .int .i64 0, .slice none 0 0, .int .i64 0, .int .i64 0, .int .i64 0, .int .u8 0, .bool false, .bool false] 64)) := (hW.alloc hs _).alloc (by simp; omega) _
  obtain ⟨c0, c1, c2, c3, c4, c5, c6, c7, c8, c9, c10, c11, c12, c13, c14, c15⟩ := hc.later hF.lt hB
  have Hd := hid hd
  have Ha := hid ha
  have Hk := hid hk
  obtain ⟨D, A, K⟩ := L
  obtain ⟨od, cd, e1, _⟩ := hd
  obtain ⟨oa, ca, e2, _⟩ := ha
  obtain ⟨ok, ck, e3, _⟩ := hk
  simp only at e1 e2 e3
  subst e1 e2 e3
  have q1 : (0 : Int) ≤ (j : Int) := by omega
  have q2 : (j : Int) < (ns.length : Int) := by omega
  clear hF hc hB hW hs
  generalize ns[j] = n at *
  go_enter Try.func42, Try.ntmps42
  go_wp2
  have hB2 : ∀ o2 : Obj, Below W.heap.size W ((W.alloc (.cells #[.slice (some ⟨b, off, none⟩) ns.length cap] 24)).alloc o2) := fun o2 => ((Below.refl _ W).alloc (Nat.le_refl _) _).alloc (by simp) _
  exact bodyPost_ret (v := nodeV n ⟨.slice od n.data.length cd, .slice oa n.attrs.length ca, .slice ok n.kids.length ck⟩) (by simp [results, Try.results42, go_sem, nodeV]) rfl ⟨⟨.slice od n.data.length cd, .slice oa n.attrs.length ca, .slice ok n.kids.length ck⟩, rfl, Hd.out, Ha.out, Hk.out, hB2 _⟩
theorem refOf_any (b off cap j : Nat) (ns : List NodeD) (w : World) (hF : FAt w b off cap ns) (hj : j < ns.length) :
    Calls Try.prog 42 #[.agg #[.slice (some ⟨b, off, none⟩) ns.length cap], .int .i64 ((j : Int) + 1)] w fun e w' => ∃ L : Lists, e = .returned (nodeV ns[j] L) ∧ RdN w' L.data ns[j].data ∧ RdA w' L.attrs ns[j].attrs ∧ RdI w' L.kids ns[j].kids ∧ Below w.heap.size w w' := by
  refine (refOf_at b off cap j ns w w hF (Below.refl _ _) hj).mono ?_
  rintro e w' ⟨L, rfl, h1, h2, h3, hb⟩
  exact ⟨L, rfl, h1.later hb, h2.later hb, h3.later hb, hb⟩

set_option maxRecDepth 100000 in
set_option maxHeartbeats 2000000 in
theorem refPlace_any (v : Value) (l : List Int) (x : Int) (w : World) (hv : RdI w v l) (hl : l.length ≤ 1099511627776) :
    Calls Try.prog 28 #[v, .int .i64 x] w fun e w' => e = .returned (.int .i64 (idxI l x 0)) ∧ w' = w := by
  obtain ⟨o, c, rfl, hc, g⟩ := hv
  obtain ⟨N, hN⟩ : ∃ N, idxI l x 0 = N := ⟨_, rfl⟩
  rw [hN]
  have HN : Hid (idxI (l.drop 0) x 0 = N) := hN
  clear hN
  go_enter Try.func28, Try.ntmps28
  go_wp2
  go_loopw [5] (fun t wr => ∃ k : Nat, k ≤ l.length ∧ t = .int .i64 k ∧ wr = w ∧ Hid (idxI (l.drop k) x k = N)) (fun t _ => l.length - (RowKit.intOf t).toNat)
  case atStart => exact ⟨0, Nat.zero_le _, rfl, rfl, HN⟩
  case round =>
    obtain ⟨k, k1, rfl, rfl, hK⟩ := hrel
    by_cases hlt : k < l.length
    · obtain ⟨b, off, rfl, hlt1, ha⟩ := g (by omega)
      have x1 := ha k hlt
      have q1 : (0 : Int) ≤ (k : Int) := by omega
      have q2 : (k : Int) < (l.length : Int) := by omega
      have hk := hK.out
      rw [List.drop_eq_getElem_cons hlt, idxI] at hk
      have Hk := hid hk
      clear hk hK ha g
      generalize l[k] = a at *
      cases he : (a == x) with
      | true =>
        have hNk : N = (k : Int) := by
          rw [← Hk.out, he]
          rfl
        subst hNk
        clear Hk
        go_wp2
        go_ret
        exact ⟨rfl, rfl⟩
      | false =>
        have Hn : Hid (idxI (l.drop (k + 1)) x (k + 1) = N) := by
          have h := Hk.out
          rw [he, if_neg Bool.false_ne_true] at h
          exact h
        clear Hk
        go_wp2
        go_roundw
        case rel => exact ⟨k + 1, by omega, by go_num, trivial, Hn⟩
        case measure => simp [RowKit.intOf]; omega
    · have hNk : N = -1 := by
        rw [← hK.out, List.drop_eq_nil_of_le (by omega)]
        rfl
      subst hNk
      clear hK g
      go_wp2
      go_ret
      exact ⟨rfl, rfl⟩
end Go.Proofs.Yteflknfejjdkfaa

namespace Go.Proofs.Yteflknfejjdkfaa
open Go.RowKit Go.Lib Go.Shelf

/-- A node's parent, read out of its value. -/
theorem fld_parent (n : NodeD) (D A K : Value) (W : World) : Sem.run Try.prog (Instr.field 64 (.agg #[.int .u8 (n.kind : Int), .string n.space, .string n.pre, .string n.loc, .string n.pub, .string n.sys, D, A, .int .i64 n.parent, K, .int .i64 n.doc, .int .i64 n.host, .int .i64 n.shadow, .int .u8 (n.mode : Int), .bool n.manual, .bool n.html]) 6) W = .ok (.int .i64 n.parent) W := by kernel_rfl
theorem lastI_one (x : Int) : lastI [x] = x := rfl
theorem lastI_cons (x : Int) (l : List Int) (h : l ≠ []) : lastI (x :: l) = lastI l := lastI_append [x] l h

set_option maxRecDepth 100000 in
set_option maxHeartbeats 4000000 in
theorem refAnc_any (b off cap : Nat) (x : Int) (ns : List NodeD) (w : World) (hR : RightF ns) (hF : FAt w b off cap ns) (hx : thereB ns.length x = true) :
    Calls Try.prog 29 #[.agg #[.slice (some ⟨b, off, none⟩) ns.length cap], .int .i64 x] w fun e w' => ∃ v, e = .returned v ∧ RdI w' v (pathUp ns (parentD ns) (parentD ns x)) ∧ Below w.heap.size w w' := by
  obtain ⟨i0, hi, hz0, hz1, hz2⟩ := info_parts info_int
  have HO : Hid (∀ (j : Nat) (hj : j < ns.length) (W : World), Below w.heap.size w W → _) := fun j hj W hW => refOf_any b off cap j ns W (hF.later hW) hj
  have hsmall := hR.small
  have hlen : (pathUp ns (parentD ns) x).length ≤ 4096 := Nat.le_trans (pathUp_len ns _ hR.parentOK hR.ends x (.inr hx)) hR.small
  rw [pathUp_head hR hx, List.length_cons] at hlen
  obtain ⟨P, hP⟩ : ∃ P, pathUp ns (parentD ns) (parentD ns x) = P := ⟨_, rfl⟩
  rw [hP] at hlen ⊢
  have HP : Hid ([] ++ pathUp ns (parentD ns) (parentD ns x) = P) := hP
  clear hP hF
  go_enter Try.func29, Try.ntmps29
  go_wp2
  go_loopw [1, 5] (fun t v wr => ∃ (y : Int) (done : List Int), thereB ns.length y = true ∧ t = .int .i64 y ∧ Below (w.heap.size + 1) (w.alloc (.cells #[.slice (some ⟨b, off, none⟩) ns.length cap] 24)) wr ∧ wr.ownsRow (w.heap.size + 1) 3 1 v done.length (done.map (Value.int .i64)) ∧ Hid (done ++ pathUp ns (parentD ns) (parentD ns y) = P)) (fun t _ _ => (pathUp ns (parentD ns) (RowKit.intOf t)).length)
  case atStart => exact ⟨x, [], hx, rfl, Below.refl _ _, World.ownsRow_nil _ _ _ _, HP⟩
  case round =>
    obtain ⟨y, done, hy, rfl, hB, hown, hr⟩ := hrel
    have hBw := bx_below hB
    have cb : wr.cell? ⟨w.heap.size, 0, none⟩ = some (.slice (some ⟨b, off, none⟩) ns.length cap) := (hB.cell (p := ⟨w.heap.size, 0, none⟩) (by show w.heap.size < w.heap.size + 1; omega)).trans (by simp)
    have hph := pathUp_head hR hy
    obtain ⟨j, hj, rfl⟩ := there_idx hy
    have hpt := hR.parent_there j hj
    rw [parentD_at ns j hj] at hph hr
    have hO := HO.out j hj wr hBw
    have HO2 : Hid (∀ W : World, Below w.heap.size w W → _) := fun W hW => HO.out j hj W hW
    have HPh := hid hph
    have HPt := hid hpt
    have HB := hid hB
    have HBw := hid hBw
    clear hph hpt hB hBw HP
    generalize ns[j] = n at *
    by_cases h0 : n.parent = 0
    · have hRj : P = done := by
        have h1 := hr.out
        rw [h0, pathUp_zero, List.append_nil] at h1
        exact h1.symm
      subst hRj
      have HOw := hid hown
      have hne : (n.parent != 0) = false := by rw [h0]; rfl
      clear hr HPh HPt hown h0
      go_wp2_with fail
      refine hO.mono ?_
      rintro e v1 ⟨L, rfl, h1, h2, h3, hb1⟩
      obtain ⟨od, cd, oa, ca, ok, ck, rfl⟩ := lists_slices h1 h2 h3
      have HB1 := hid (HBw.out.trans (hb1.mono HBw.out.size))
      have HOw1 := hid (ownsRow_later HOw.out hb1)
      clear h1 h2 h3 hb1 hO HOw
      unfold nodeV
      have hfl := fld_parent n (.slice od n.data.length cd) (.slice oa n.attrs.length ca) (.slice ok n.kids.length ck)
      go_wp2
      go_ret
      exact ⟨_, rfl, ownsRow_rdI HOw1.out, HB1.out⟩
    · have hne : (n.parent != 0) = true := by rw [bne, beq_eq_false_iff_ne.2 h0]; rfl
      have hpt : thereB ns.length n.parent = true := HPt.out.resolve_left h0
      have hr2 := hr.out
      rw [pathUp_head hR hpt] at hr2
      have Hn : Hid ((done ++ [n.parent]) ++ pathUp ns (parentD ns) (parentD ns n.parent) = P) := by
        show _ = _
        rw [List.append_assoc]
        exact hr2
      have hdl : done.length + 1 ≤ 4096 := by
        have := congrArg List.length hr2
        rw [List.length_append, List.length_cons] at this
        omega
      have HOw := hid hown
      clear hr hr2 HPt hown
      go_wp2_with fail
      refine hO.mono ?_
      rintro e v1 ⟨L, rfl, h1, h2, h3, hb1⟩
      obtain ⟨od, cd, oa, ca, ok, ck, rfl⟩ := lists_slices h1 h2 h3
      have hs1 := HB.out.size
      simp only [World.size_alloc] at hs1
      have hB1 := HB.out.trans (hb1.mono hs1)
      have cb1 : v1.cell? ⟨w.heap.size, 0, none⟩ = some (.slice (some ⟨b, off, none⟩) ns.length cap) := (hB1.cell (p := ⟨w.heap.size, 0, none⟩) (by show w.heap.size < w.heap.size + 1; omega)).trans (by simp)
      have hO2 := HO2.out v1 (bx_below hB1)
      have HB1 := hid hB1
      have HOw1 := hid (ownsRow_later HOw.out hb1)
      clear h1 h2 h3 hb1 hO hB1 hs1 HOw
      unfold nodeV
      have hfl := fld_parent n (.slice od n.data.length cd) (.slice oa n.attrs.length ca) (.slice ok n.kids.length ck)
      go_wp2_with fail
      refine hO2.mono ?_
      rintro e v2 ⟨L, rfl, h1, h2, h3, hb2⟩
      obtain ⟨od, cd, oa, ca, ok, ck, rfl⟩ := lists_slices h1 h2 h3
      have hs1 := HB1.out.size
      simp only [World.size_alloc] at hs1
      have HB2 := hid (HB1.out.trans (hb2.mono hs1))
      have hs2 := HB2.out.size
      simp only [World.size_alloc] at hs2
      have hown := ownsRow_later HOw1.out hb2
      clear h1 h2 h3 hb2 hO2 hs1 HOw1
      have m1 : done.length + 1 ≤ maxLen := Nat.le_trans hdl (by decide)
      have m2 : (done.length + 1) * 8 ≤ 140737488355328 := by omega
      have m3 : w.heap.size + 1 ≤ (v2.alloc (.cells #[.int .i64 n.parent] 3)).heap.size := by simp; omega
      unfold nodeV
      have hfl := fld_parent n (.slice od n.data.length cd) (.slice oa n.attrs.length ca) (.slice ok n.kids.length ck)
      go_wp2_with (at_builtin; refine wpList_append_own _ rfl _ _ 40 rfl (w.heap.size + 1) 3 i0 (.int .i64 0) 1 8 Try.underlying40 hi hz0 hz1 hz2 rfl (by decide) _ _ _ rfl (hown.alloc _) ⟨v2.heap.size, 0, none⟩ 1 1 [.int .i64 n.parent] rfl rfl (cell_one_new _ _ _) (by simp [Value.oneCell']) m1 m2 m3 ?_; intro v' w1 hown' hgrow _)
      have HB3 : Hid (Below (w.heap.size + 1) v2 w1) := ((Below.refl _ v2).alloc (by omega) _).grown hgrow m3 (fun j hj => (hown.lt j hj).1)
      go_roundw
      case rel => exact ⟨_, done ++ [n.parent], hpt, rfl, HB2.out.trans HB3.out, by simpa using hown', Hn⟩
      case measure =>
        simp only [RowKit.intOf]
        rw [HPh.out]
        simp
end Go.Proofs.Yteflknfejjdkfaa

namespace Go.Proofs.Yteflknfejjdkfaa
open Go.RowKit Go.Lib Go.Shelf

theorem contains_parts {ns : List NodeD} (hR : RightF ns) (a : Int) {b : Int} (hb : thereB ns.length b = true) : containsD ns a b = (a == b || decide (0 ≤ idxI (pathUp ns (parentD ns) (parentD ns b)) a 0)) := by
  unfold containsD
  rw [pathUp_head hR hb, idxI_in, List.contains_cons]
  congr 1
  exact List.contains_eq_mem _ _
theorem forkN_short : ∀ (u t q : List Int), forkN (u ++ t) q ≤ u.length → forkN (u ++ t) q = forkN u q
  | [], t, q, h => by
    have : forkN [] q = 0 := by cases q <;> rfl
    rw [this]
    simpa using h
  | x :: u, t, [], _ => rfl
  | x :: u, t, y :: q, h => by
    rw [List.cons_append, forkN] at h ⊢
    rw [forkN]
    by_cases hxy : (x == y) = true
    · rw [if_pos hxy] at h ⊢
      rw [if_pos hxy]
      rw [List.length_cons] at h
      rw [forkN_short u t q (by omega)]
    · rw [if_neg hxy, if_neg hxy]
theorem pathD_step {ns : List NodeD} (hR : RightF ns) {y : Int} (hy : thereB ns.length y = true) : pathD ns y = pathD ns (parentD ns y) ++ [y] := by
  unfold pathD
  rw [pathUp_head hR hy, List.reverse_cons]
theorem common_here {ns : List NodeD} (hR : RightF ns) {y b : Int} (hy : thereB ns.length y = true) (hb : thereB ns.length b = true) (hc : containsD ns y b = true) : commonD ns y b = y := by
  obtain ⟨pre, hp⟩ := hR.kidsHang.suf hb ((contains_mem ns y b).1 hc)
  have hD : pathD ns b = pathD ns y ++ pre.reverse := by unfold pathD; rw [hp, List.reverse_append]
  obtain ⟨l0, l1⟩ := pathD_last hR hy
  have hf : forkN (pathD ns y) (pathD ns b) = (pathD ns y).length := by
    have := forkN_append (pathD ns y) [] pre.reverse
    rw [List.append_nil] at this
    rw [hD, this]
    have : forkN [] pre.reverse = 0 := by cases pre.reverse <;> rfl
    rw [this, Nat.add_zero]
  unfold commonD
  rw [hf, l1, if_neg]
  intro h
  have := eq_of_beq h
  omega
theorem common_step {ns : List NodeD} (hR : RightF ns) {y b : Int} (hy : thereB ns.length y = true) (hc : containsD ns y b = false) : commonD ns y b = commonD ns (parentD ns y) b := by
  have hs := pathD_step hR hy
  have hlt : forkN (pathD ns y) (pathD ns b) ≤ (pathD ns (parentD ns y)).length := by
    have h1 := (forkN_le (pathD ns y) (pathD ns b)).1
    have h2 : forkN (pathD ns y) (pathD ns b) ≠ (pathD ns y).length := fun h => by
      rw [contains_of_prefix hR hy h] at hc
      cases hc
    have h3 := congrArg List.length hs
    rw [List.length_append, List.length_singleton] at h3
    omega
  have hf : forkN (pathD ns y) (pathD ns b) = forkN (pathD ns (parentD ns y)) (pathD ns b) := by
    rw [hs] at hlt ⊢
    exact forkN_short _ _ _ hlt
  unfold commonD
  rw [hf] at hlt ⊢
  by_cases h0 : forkN (pathD ns (parentD ns y)) (pathD ns b) = 0
  · rw [h0]; rfl
  · rw [if_neg (by simpa using h0), if_neg (by simpa using h0), hs, List.getD_eq_getElem?_getD, List.getElem?_append_left (by omega), ← List.getD_eq_getElem?_getD]
theorem common_none (ns : List NodeD) (b : Int) : commonD ns 0 b = 0 := by
  have h0 : pathD ns 0 = [] := by unfold pathD; rw [pathUp_zero]; rfl
  have : forkN [] (pathD ns b) = 0 := by cases (pathD ns b) <;> rfl
  unfold commonD
  rw [h0, this]
  rfl

set_option maxRecDepth 100000 in
set_option maxHeartbeats 4000000 in
theorem refContains_any (b off cap : Nat) (x y : Int) (ns : List NodeD) (w : World) (hR : RightF ns) (hF : FAt w b off cap ns) (hy : thereB ns.length y = true) :
    Calls Try.prog 18 #[.agg #[.slice (some ⟨b, off, none⟩) ns.length cap], .int .i64 x, .int .i64 y] w fun e w' => e = .returned (.bool (containsD ns x y)) ∧ Below w.heap.size w w' := by
  have HA : Hid (∀ (W : World), Below w.heap.size w W → _) := fun W hW => refAnc_any b off cap y ns W hR (hF.later hW) hy
  have hsm := hR.small
  have hlen : (pathUp ns (parentD ns) y).length ≤ 4096 := Nat.le_trans (pathUp_len ns _ hR.parentOK hR.ends y (.inr hy)) hR.small
  rw [pathUp_head hR hy, List.length_cons] at hlen
  rw [contains_parts hR x hy]
  generalize pathUp ns (parentD ns) (parentD ns y) = P at *
  have hPl : P.length ≤ 1099511627776 := by omega
  have hle := hF.len
  clear hR hF hy hsm hlen
  have hB0 : Below w.heap.size w (w.alloc (.cells #[.slice (some ⟨b, off, none⟩) ns.length cap] 24)) := (Below.refl _ w).alloc (Nat.le_refl _) _
  have hA := HA.out _ hB0
  have HB0 := hid hB0
  clear HA hB0
  cases hxy : (x == y) with
  | true =>
    rw [Bool.true_or]
    clear hA
    go_enter Try.func18, Try.ntmps18
    go_wp2
    go_ret
    exact ⟨rfl, HB0.out⟩
  | false =>
    rw [Bool.false_or]
    obtain ⟨N, hN⟩ : ∃ N, idxI P x 0 = N := ⟨_, rfl⟩
    rw [hN]
    go_enter Try.func18, Try.ntmps18
    go_wp2_with fail
    refine hA.mono ?_
    rintro e v1 ⟨v, rfl, hrd, hb1⟩
    have HB1 := hid (HB0.out.trans (hb1.mono HB0.out.size))
    have hP := refPlace_any v P x v1 hrd hPl
    obtain ⟨o, c, rfl, _⟩ := hrd
    clear hb1 hA
    rw [hN] at hP
    clear hN
    go_wp2_with fail
    refine hP.mono ?_
    rintro e v2 ⟨rfl, rfl⟩
    clear hP
    go_wp2
    go_ret
    exact ⟨rfl, HB1.out⟩

end Go.Proofs.Yteflknfejjdkfaa
