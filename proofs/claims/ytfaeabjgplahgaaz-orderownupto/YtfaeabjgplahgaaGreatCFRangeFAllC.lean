/- A range over a function whose assignment writes a variable that the loop's relation speaks of ('for last = range all'): the relation holds between rounds alone; behind the assignment another one does. -/
/- The last one that an iterator gives (lastOf, rootOf, topOf). -/
/- What lies in a node, in tree order (listOf, whose inner function calls itself). -/
/- What lies in a node (listOf for kids; All). -/
/- The calls of order that ask one handle: Root, Top. -/
/- The calls of order that ask one handle: All. -/
import Derived.RangeFuncNested
import Derived.RangeFuncBound
import Derived.Test.YtfaeabjgplahgaaGreatCFUpFFork
import Derived.Test.YtfaeabjgplahgaaGreatFBelow
import Derived.Laws.EntriesVeiled
import Derived.Test.YtfaeabjgplahgaaGreatCFStandFCmp
namespace Go.Proofs.YtfaeabjgplahgaaGreat
open Go Go.RowKit

/-- The loop never leaves early; C is what holds behind the assignment. -/
theorem range_through {F : Fence} {n : Nat} {P : Program} {α : Type} {g : Operand} {ps : Array Tmp} {assign body : Code} {Q : Exit → Act → World → Prop} {a : Act} {w : World}
    (hro : F.round = none) (h1 : 1 ≤ n) {gf : Nat} {lb : Array Value} (hg : a.eval g = .func (.func gf) #[] lb) (hFg : F.fn gf) (eg : ∀ args w, (callFunc gf args).run P w = .ok (.enter gf args) w)
    {encs : α → Array Value} {n₀ : Nat} {S Sp : List α → Prop} {N : Nat} {w0 : World} (hseq : SeqStopsK F (n - 1) P gf lb encs (Below n₀) S Sp N w0)
    (hn₀ : n₀ ≤ w.heap.size) (hb0 : Below w0.heap.size w0 w) (hps : ∀ x, (encs x).size = ps.size)
    (I : List α → World → Prop) (hI : OwnFrom w.heap.size I) (h0 : I [] w) (C : List α → α → Act → World → Prop) (hC : ∀ pre x a', OwnFrom w.heap.size (fun (_ : Unit) W => C pre x a' W))
    (hassign : ∀ (l : Nat) (pre : List α) (x : α) (W : World) (K : Act → World → Prop), I pre W → pre.length < N → (∀ a' W', KeepsFrom w.heap.size W W' → Below n₀ W W' → C pre x a' W' → K a' W') →
      assign.wpIn (F.inRound l) (n - 1 - 1) P (Exit.then K (fun _ _ _ => False)) { tmps := (ps.zip (encs x)).foldl (fun t (p, v) => t.setIfInBounds p v) a.tmps, defers := [] } W)
    (hbody : ∀ (l : Nat) (pre : List α) (x : α) (a' : Act) (W : World), C pre x a' W → body.wpIn (F.inRound l) (n - 1 - 1) P (fun e _ W' => e = .normal ∧ KeepsFrom w.heap.size W W' ∧ Below n₀ W W' ∧ I (pre ++ [x]) W') a' W)
    (hdone : ∀ (D : Nat) (xs : List α) (W : World), w.heap.size ≤ D → S xs → I xs W → W.heap[D]? = some (.deferred (some [])) → Q .normal { a with defers := { target := .collected D, args := #[] } :: a.defers } W) :
    (Code.rangeFunc g ps assign body).wpIn F n P Q a w := by
  refine wpIn_rangeFunc fun fn hfn => ?_
  rw [hro]
  -- the record of the loop, by its state
  obtain ⟨R, hR⟩ : ∃ R : LoopState → Loop, R = fun st => { state := st, pending := none, fn := fn, tmps := a.tmps, params := ps, assign := assign, body := body, defers := w.heap.size } := ⟨_, rfl⟩
  let V := (w.alloc (.deferred (some []))).alloc (.loop (R .ready))
  have vL : V.heap[w.heap.size + 1]? = some (.loop (R .ready)) := by
    have := World.alloc_heap_new (w.alloc (.deferred (some []))) (.loop (R .ready))
    rwa [World.size_alloc] at this
  have vD : V.heap[w.heap.size]? = some (.deferred (some [])) := (Below.heap_alloc _ _ _ (by simp)).trans (World.alloc_heap_new w _)
  have vI : I [] V := hI.alloc _ (hI.alloc _ h0)
  have vB : Below w0.heap.size w0 V := hb0.trans ((((Below.refl _ w).alloc (Nat.le_refl _) _).alloc (by simp) _).mono hb0.size)
  have vS : V.heap.size = w.heap.size + 2 := by show ((w.alloc _).alloc _).heap.size = _; simp
  refine ⟨w.heap.size + 1, [{ target := .collected w.heap.size, args := #[] }], V, { target := .fn (.func gf) lb, args := #[.func (.yield (w.heap.size + 1)) #[] #[]] }, V, gf, #[.func (.yield (w.heap.size + 1)) #[] #[]] ++ lb, V, ?enter, ?res, ?lead, ?inv, fun _ => h1, ?run⟩
  case enter => show _ = Result.ok _ ((w.alloc _).alloc _); rw [hR]; exact run_enterLoop_outer _ _ _ _ _
  case res => simp only [resolve, hg]; simp [go_sem]
  case lead =>
    intro f' hf'
    simp [Target.leads] at hf'
    subst hf'
    exact hFg
  case inv => simp [invoke, go_sem, eg]
  case run =>
    have turn : ∀ {A : World} {row : Option Nat}, (∀ r, row = some r → V.heap.size ≤ r ∧ ∃ o : Obj, A.heap[r]? = some o ∧ o.isWalk = true) → (∀ r, row = some r → w.heap.size ≤ r ∧ ∃ o : Obj, A.heap[r]? = some o ∧ o.isCells = false) := fun hr r e => by
      obtain ⟨hB, o, ho, hw⟩ := hr r e
      exact ⟨by omega, o, ho, Obj.not_cells_of_walk hw⟩
    refine (hseq (w.heap.size + 1) (fun pre W => I pre W ∧ W.heap[w.heap.size + 1]? = some (.loop (R .ready)) ∧ W.heap[w.heap.size]? = some (.deferred (some []))) (fun _ _ => False) V vB
      (fun s A B row hs hg' hr => ⟨hI s A B row hs.1 hg' (turn hr), (grownBy_keeps hg' (fun r e => (hr r e).2) hs.2.1 rfl).trans hs.2.1, (grownBy_keeps hg' (fun r e => (hr r e).2) hs.2.2 rfl).trans hs.2.2⟩)
      (fun _ _ _ _ hs _ _ => hs) ?round ⟨vI, vL, vD⟩).mono ?behind
    case round =>
      rintro pre x W ⟨hi, hl, hk⟩ hlen
      have hy := run_yield (P := P) (args := encs x) hl (by rw [hR]; exact hps x)
      rw [hR] at hy
      refine ⟨fn, _, assign, body, hy, roundIn_of_wpIn hfn (hassign _ pre x W _ hi hlen ?_)⟩
      clear hy
      intro a' A kA bA cA
      have aL := kA.same _ _ (by omega) hl rfl
      have aD := kA.same _ _ (Nat.le_refl _) hk rfl
      have aS := (Array.getElem?_eq_some_iff.1 aL).1
      refine ⟨_, run_beginRound aL (by rw [hR]), ?_⟩
      have bL : (A.putObj (w.heap.size + 1) (.loop { R .ready with state := .busy })).heap[w.heap.size + 1]? = some (.loop { R .ready with state := .busy }) := World.putObj_heap_same aS
      have bD : (A.putObj (w.heap.size + 1) (.loop { R .ready with state := .busy })).heap[w.heap.size]? = some (.deferred (some [])) := (World.putObj_heap_other (by omega)).trans aD
      have bB := belowK_b hn₀ A (w.heap.size + 1) _ (.loop { R .ready with state := .busy }) (by omega) aL rfl rfl
      refine wpIn_mono (hbody (w.heap.size + 1) pre x a' _ ((hC pre x a').putObj (s := ()) _ cA (by omega) aL rfl)) ?_
      rintro e a3 Z ⟨rfl, kZ, bZ, iZ⟩
      have zL := kZ.same _ _ (by omega) bL rfl
      have zD := kZ.same _ _ (Nat.le_refl _) bD rfl
      have zS := (Array.getElem?_eq_some_iff.1 zL).1
      have hend := run_endRound (P := P) none zL
      have eR : ({ R .ready with state := .ready, pending := none } : Loop) = R .ready := by rw [hR]
      refine ⟨_, _, hend, .inl ⟨rfl, ⟨hI.putObj _ iZ (by omega) zL rfl, ?_, ?_⟩, ?_⟩⟩
      · rw [hR]
        exact World.putObj_heap_same zS
      · exact (World.putObj_heap_other (by omega)).trans zD
      · exact bA.trans (bB.trans (bZ.trans (belowK_b hn₀ Z (w.heap.size + 1) _ _ (by omega) zL rfl rfl)))
    case behind =>
      rintro e Z ⟨⟨v, rfl⟩, ⟨xs, hS, hi, hl, hk⟩ | ⟨_, _, h⟩⟩
      · exact ⟨none, _, by have := run_endLoop (P := P) hl (by rw [hR]; simp); rw [hR] at this; exact this, hdone _ xs _ (Nat.le_refl _) hS (hI.putObj _ hi (by omega) hl rfl) ((World.putObj_heap_other (by omega)).trans hk)⟩
      · exact h.elim
end Go.Proofs.YtfaeabjgplahgaaGreat

namespace Go.Proofs.YtfaeabjgplahgaaGreat
open Go.RowKit Go.Lib Go.Shelf
attribute [local go_sem] Oper.semAt_some

/-- The last one; 0: there is none. -/
def lastI (l : List Int) : Int := l.getLastD 0
theorem last_snoc (pre : List Int) (z : Int) : lastI (pre ++ [z]) = z := by simp [lastI, List.getLastD_eq_getLast?]

set_option maxRecDepth 100000 in
set_option maxHeartbeats 4000000 in
theorem lastP_any (b off cap bh bo bf : Nat) (x : Int) (ns : List NodeD) (w : World) (hR : RightF ns) (hF : FAt w b off cap ns) (hU : UpAt w b off cap ns.length 67 bh bo bf x) (hx : x = 0 ∨ thereB ns.length x = true) :
    Calls Tryz.prog 95 #[upV bh bo bf] w fun e w' => e = .returned (.int .i64 (lastI (pathUp ns (parentD ns) x))) ∧ Below w.heap.size w w' := by
  refine (callsIn_wide (n := 5)).1 ?_
  unfold upV
  refine callsIn_of_wp_marks Tryz.func95 rfl trivial ?_ rfl
  simp only [Tryz.ntmps95, List.size_toArray, List.length_cons, List.length_nil, Nat.reduceAdd, Nat.reduceSub, Array.replicate_succ, Array.replicate_zero, List.push_toArray, List.append_toArray, List.nil_append, List.cons_append]
  gi_wp2
  have c0 := new_cell_l w (.int .i64 0) 3
  have hB0 : Below w.heap.size w (w.alloc (.cells #[.int .i64 0] 3)) := (Below.refl _ w).alloc (Nat.le_refl _) _
  have hU2 := hU.later hB0
  refine range_through rfl (by omega) (gf := 99) (lb := #[.pointer (some ⟨bh, 0, none⟩), .pointer (some ⟨bo, 0, none⟩), .pointer (some ⟨bf, 0, none⟩)]) rfl trivial (enters_of Tryz.func99 (by kernel_rfl) rfl)
    (upP_stops (5 - 1) bh bo bf w.heap.size b off cap (by omega) x ns w _ hR hF (Nat.le_refl _) hB0 (by simp) hU.lh hU.lo hU.lf hU2.ch hU2.co hU2.cf hx) (by simp) (Below.refl _ _) (fun _ => rfl)
    (fun pre W => (W.cell? ⟨w.heap.size, 0, none⟩ = some (.int .i64 (lastI pre)) ∧ W.frozen? ⟨w.heap.size, 0, none⟩ = false) ∧ Below w.heap.size w W)
    (OwnFrom.and (Own.from (fun s A B row hs hg hr => ⟨cell_kept hs.1 hg hr, (frozen_kept hs.1 hg hr).trans hs.2⟩) _) (ownFrom_below (Nat.le_refl _) (by simp)))
    ⟨⟨c0.1, c0.2⟩, hB0⟩
    (fun _ z _ W => (W.cell? ⟨w.heap.size, 0, none⟩ = some (.int .i64 z) ∧ W.frozen? ⟨w.heap.size, 0, none⟩ = false) ∧ Below w.heap.size w W)
    (fun _ _ _ => OwnFrom.and (Own.from (fun s A B row hs hg hr => ⟨cell_kept hs.1 hg hr, (frozen_kept hs.1 hg hr).trans hs.2⟩) _) (ownFrom_below (Nat.le_refl _) (by simp)))
    ?assign ?body ?done
  case assign =>
    rintro l pre z W K ⟨⟨hc, hf⟩, hB⟩ _ hK
    gi_wp2
    refine hK _ _ (KeepsFrom.of_grownBy (grownBy_setCell' W w.heap.size (.int .i64 z)) (fun j e => by cases e; simp)) ((Below.refl _ W).setCell (p := ⟨w.heap.size, 0, none⟩) (Nat.le_refl _) _) ⟨⟨World.cell?_setCell_same' _ _ _ (by rw [hc]; rfl), ?_⟩, hB.setCell (p := ⟨w.heap.size, 0, none⟩) (Nat.le_refl _) _⟩
    simpa using hf
  case body =>
    rintro l pre z a' W ⟨⟨hc, hf⟩, hB⟩
    gi_wp2
    exact ⟨KeepsFrom.refl _ _, Below.refl _ _, (last_snoc pre z).symm⟩
  case done =>
    rintro D ys W hD rfl ⟨⟨hc, hf⟩, hB⟩ hK
    gi_wp2
    refine ⟨by simp, .inl ⟨_, _, rfl, run_takeDeferred hK, ?_⟩⟩
    exact ⟨_, results_tmp rfl _ _ _, rfl, hB.trans (belowK_b (w := w) (Nat.le_refl _) W D _ _ (by simp at hD; omega) hK rfl rfl)⟩

set_option maxRecDepth 100000 in
set_option maxHeartbeats 4000000 in
theorem rootOf_any (b off cap : Nat) (x : Int) (ns : List NodeD) (w : World) (hR : RightF ns) (hF : FAt w b off cap ns) (hx : thereB ns.length x = true) :
    Calls Tryz.prog 61 #[forestV b off cap ns.length, .int .i64 x] w fun e w' => e = .returned (.int .i64 (lastI (pathUp ns (parentD ns) x))) ∧ Below w.heap.size w w' := by
  have HU : Hid (∀ W : World, _) := fun W => upBy_any b off cap ns.length x 67 W
  have HH : Hid (∀ (bh bo bf : Nat) (W : World), Below w.heap.size w W → UpAt W b off cap ns.length 67 bh bo bf x → _) := fun bh bo bf W hW hU => lastP_any b off cap bh bo bf x ns W hR (hF.later hW) hU (.inr hx)
  clear hF hR
  unfold forestV upV at *
  generalize lastI (pathUp ns (parentD ns) x) = R at *
  go_enter Tryz.func61, Tryz.ntmps61
  go_wp2_with fail
  refine (HU.out _).mono ?_
  rintro e v1 ⟨rfl, rfl⟩
  have hA := upAt_new b off cap ns.length 67 x (w.alloc (.cells #[.slice (some ⟨b, off, none⟩) ns.length cap] 24))
  have hB := up_below b off cap ns.length 67 x (w.alloc (.cells #[.slice (some ⟨b, off, none⟩) ns.length cap] 24))
  simp only [World.size_alloc] at hA
  have hBw : Below w.heap.size w _ := ((Below.refl _ w).alloc (Nat.le_refl _) _).trans (hB.mono (by simp))
  have hH := HH.out _ _ _ _ hBw hA
  have HB := hid hBw
  clear hBw hB hA
  go_wp2_with fail
  refine hH.mono ?_
  rintro e v2 ⟨rfl, hb2⟩
  have HB2 := hid (HB.out.trans (hb2.mono HB.out.size))
  clear hb2 HB hH
  go_wp2
  go_ret
  exact ⟨rfl, HB2.out⟩

set_option maxRecDepth 100000 in
set_option maxHeartbeats 4000000 in
theorem lastO_any (b off cap bh bo bf : Nat) (x : Int) (ns : List NodeD) (w : World) (hR : RightF ns) (hF : FAt w b off cap ns) (hU : UpAt w b off cap ns.length 96 bh bo bf x) (hx : x = 0 ∨ thereB ns.length x = true) :
    Calls Tryz.prog 95 #[upV bh bo bf] w fun e w' => e = .returned (.int .i64 (lastI (pathUp ns (overD ns) x))) ∧ Below w.heap.size w w' := by
  refine (callsIn_wide (n := 5)).1 ?_
  unfold upV
  refine callsIn_of_wp_marks Tryz.func95 rfl trivial ?_ rfl
  simp only [Tryz.ntmps95, List.size_toArray, List.length_cons, List.length_nil, Nat.reduceAdd, Nat.reduceSub, Array.replicate_succ, Array.replicate_zero, List.push_toArray, List.append_toArray, List.nil_append, List.cons_append]
  gi_wp2
  have c0 := new_cell_l w (.int .i64 0) 3
  have hB0 : Below w.heap.size w (w.alloc (.cells #[.int .i64 0] 3)) := (Below.refl _ w).alloc (Nat.le_refl _) _
  have hU2 := hU.later hB0
  refine range_through rfl (by omega) (gf := 99) (lb := #[.pointer (some ⟨bh, 0, none⟩), .pointer (some ⟨bo, 0, none⟩), .pointer (some ⟨bf, 0, none⟩)]) rfl trivial (enters_of Tryz.func99 (by kernel_rfl) rfl)
    (upO_stops (5 - 1) bh bo bf w.heap.size b off cap (by omega) x ns w _ hR hF (Nat.le_refl _) hB0 (by simp) hU.lh hU.lo hU.lf hU2.ch hU2.co hU2.cf hx) (by simp) (Below.refl _ _) (fun _ => rfl)
    (fun pre W => (W.cell? ⟨w.heap.size, 0, none⟩ = some (.int .i64 (lastI pre)) ∧ W.frozen? ⟨w.heap.size, 0, none⟩ = false) ∧ Below w.heap.size w W)
    (OwnFrom.and (Own.from (fun s A B row hs hg hr => ⟨cell_kept hs.1 hg hr, (frozen_kept hs.1 hg hr).trans hs.2⟩) _) (ownFrom_below (Nat.le_refl _) (by simp)))
    ⟨⟨c0.1, c0.2⟩, hB0⟩
    (fun _ z _ W => (W.cell? ⟨w.heap.size, 0, none⟩ = some (.int .i64 z) ∧ W.frozen? ⟨w.heap.size, 0, none⟩ = false) ∧ Below w.heap.size w W)
    (fun _ _ _ => OwnFrom.and (Own.from (fun s A B row hs hg hr => ⟨cell_kept hs.1 hg hr, (frozen_kept hs.1 hg hr).trans hs.2⟩) _) (ownFrom_below (Nat.le_refl _) (by simp)))
    ?assign ?body ?done
  case assign =>
    rintro l pre z W K ⟨⟨hc, hf⟩, hB⟩ _ hK
    gi_wp2
    refine hK _ _ (KeepsFrom.of_grownBy (grownBy_setCell' W w.heap.size (.int .i64 z)) (fun j e => by cases e; simp)) ((Below.refl _ W).setCell (p := ⟨w.heap.size, 0, none⟩) (Nat.le_refl _) _) ⟨⟨World.cell?_setCell_same' _ _ _ (by rw [hc]; rfl), ?_⟩, hB.setCell (p := ⟨w.heap.size, 0, none⟩) (Nat.le_refl _) _⟩
    simpa using hf
  case body =>
    rintro l pre z a' W ⟨⟨hc, hf⟩, hB⟩
    gi_wp2
    exact ⟨KeepsFrom.refl _ _, Below.refl _ _, (last_snoc pre z).symm⟩
  case done =>
    rintro D ys W hD rfl ⟨⟨hc, hf⟩, hB⟩ hK
    gi_wp2
    refine ⟨by simp, .inl ⟨_, _, rfl, run_takeDeferred hK, ?_⟩⟩
    exact ⟨_, results_tmp rfl _ _ _, rfl, hB.trans (belowK_b (w := w) (Nat.le_refl _) W D _ _ (by simp at hD; omega) hK rfl rfl)⟩

set_option maxRecDepth 100000 in
set_option maxHeartbeats 4000000 in
theorem topOf_any (b off cap : Nat) (x : Int) (ns : List NodeD) (w : World) (hR : RightF ns) (hF : FAt w b off cap ns) (hx : thereB ns.length x = true) :
    Calls Tryz.prog 59 #[forestV b off cap ns.length, .int .i64 x] w fun e w' => e = .returned (.int .i64 (lastI (pathUp ns (overD ns) x))) ∧ Below w.heap.size w w' := by
  have HU : Hid (∀ W : World, _) := fun W => upBy_any b off cap ns.length x 96 W
  have HH : Hid (∀ (bh bo bf : Nat) (W : World), Below w.heap.size w W → UpAt W b off cap ns.length 96 bh bo bf x → _) := fun bh bo bf W hW hU => lastO_any b off cap bh bo bf x ns W hR (hF.later hW) hU (.inr hx)
  clear hF hR
  unfold forestV upV at *
  generalize lastI (pathUp ns (overD ns) x) = R at *
  go_enter Tryz.func59, Tryz.ntmps59
  go_wp2_with fail
  refine (HU.out _).mono ?_
  rintro e v1 ⟨rfl, rfl⟩
  have hA := upAt_new b off cap ns.length 96 x (w.alloc (.cells #[.slice (some ⟨b, off, none⟩) ns.length cap] 24))
  have hB := up_below b off cap ns.length 96 x (w.alloc (.cells #[.slice (some ⟨b, off, none⟩) ns.length cap] 24))
  simp only [World.size_alloc] at hA
  have hBw : Below w.heap.size w _ := ((Below.refl _ w).alloc (Nat.le_refl _) _).trans (hB.mono (by simp))
  have hH := HH.out _ _ _ _ hBw hA
  have HB := hid hBw
  clear hBw hB hA
  go_wp2_with fail
  refine hH.mono ?_
  rintro e v2 ⟨rfl, hb2⟩
  have HB2 := hid (HB.out.trans (hb2.mono HB.out.size))
  clear hb2 HB hH
  go_wp2
  go_ret
  exact ⟨rfl, HB2.out⟩
end Go.Proofs.YtfaeabjgplahgaaGreat

namespace Go.Proofs.YtfaeabjgplahgaaGreat
open Go.RowKit Go.Lib Go.Shelf

theorem boxed_later {W V : World} {B : Nat} {t : TypeId} {v : Value} (h : Boxed W B t v) (hb : Below W.heap.size W V) : Boxed V B t v := (hb.block B h.lt).trans h
theorem boxed_beside {W w1 : World} {n₀ B B' : Nat} {t' e : TypeId} {size : Nat} {v v' u : Value} {k : Nat} {xs : List Value} {tmp : Obj} (hu : Boxed W B' t' u) (hte : t' ≠ e) (hne : B' ≠ B) (hrow : W.ownsRow n₀ e size v k xs) (hgrow : (W.alloc tmp).grownBy w1 v.ownBlock) : Boxed (w1.setCell ⟨B, 0, none⟩ v') B' t' u :=
  ((hu.alloc tmp).kept hgrow (hu.not_row hte hrow)).other hne v'
theorem ownsRow_later {W V : World} {base : Nat} {e : TypeId} {size : Nat} {v : Value} {k : Nat} {xs : List Value} (h : W.ownsRow base e size v k xs) (hb : Below W.heap.size W V) : V.ownsRow base e size v k xs := by
  refine h.kept (grown_of_below hb) ?_
  rcases h.2 with ⟨rfl, _⟩ | ⟨g, cap, cur, rfl, _⟩
  · exact .inl rfl
  · exact .inr (by simp [Value.ownBlock])
theorem ownsRow_rdI {W : World} {base : Nat} {e : TypeId} {v : Value} {l : List Int} (h : W.ownsRow base e 1 v l.length (l.map (Value.int .i64))) : RdI W v l := by
  obtain ⟨_, ⟨rfl, h0⟩ | ⟨g, cp, cur, rfl, hg, hh, hnc, hcm, hcs, htk⟩⟩ := h
  · exact ⟨none, 0, by rw [h0], by omega, fun hp => absurd hp (by omega)⟩
  · refine ⟨_, cp, rfl, hnc, fun _ => ⟨g, 0, rfl, (Array.getElem?_eq_some_iff.1 hh).1, fun j hj => ?_⟩⟩
    rw [cell_of_heap hh, Nat.zero_add]
    have h1 : (cur.toList.take (l.length * 1))[j]? = some (.int .i64 l[j]) := by
      rw [htk, List.getElem?_map, List.getElem?_eq_getElem hj]
      rfl
    rw [List.getElem?_take] at h1
    split at h1
    · simpa using h1
    · cases h1

/-- The boxes of listOf's inner function. -/
structure VisitAt (W : World) (b off cap n hk bl bh bf bv : Nat) : Prop where
  hang : Boxed W bh 53 (.func (.func hk) #[] #[])
  forest : Boxed W bf 24 (.slice (some ⟨b, off, none⟩) n cap)
  visit : Boxed W bv 75 (.func (.func 63) #[] #[.pointer (some ⟨bl, 0, none⟩), .pointer (some ⟨bh, 0, none⟩), .pointer (some ⟨bf, 0, none⟩), .pointer (some ⟨bv, 0, none⟩)])
theorem VisitAt.later {W V : World} {b off cap n hk bl bh bf bv : Nat} (h : VisitAt W b off cap n hk bl bh bf bv) (hb : Below W.heap.size W V) : VisitAt V b off cap n hk bl bh bf bv := ⟨boxed_later h.hang hb, boxed_later h.forest hb, boxed_later h.visit hb⟩
/-- The list that grows. -/
def ListBox (W : World) (base bl : Nat) (l : List Int) : Prop := ∃ v, Boxed W bl 26 v ∧ W.ownsRow base 3 1 v l.length (l.map (Value.int .i64))
theorem ListBox.later {W V : World} {base bl : Nat} {l : List Int} (h : ListBox W base bl l) (hb : Below W.heap.size W V) : ListBox V base bl l := by
  obtain ⟨v, h1, h2⟩ := h
  exact ⟨v, boxed_later h1 hb, ownsRow_later h2 hb⟩

set_option maxRecDepth 100000 in
set_option maxHeartbeats 2000000 in
theorem kidsOf_at (b off cap i : Nat) (ns : List NodeD) (w W : World) (h : FAt w b off cap ns) (hb : Below w.heap.size w W) (hi : i < ns.length) :
    Calls Tryz.prog 28 #[forestV b off cap ns.length, .int .i64 ((i : Int) + 1)] W fun e w' => ∃ v, e = .returned v ∧ RdI w v ns[i].kids ∧ Below W.heap.size W w' := by
  have HN : Hid (∀ W : World, _) := fun W => onode_any b off cap ns.length i W hi h.len
  obtain ⟨L, hc, _, _, hk⟩ := h.at_ i hi
  have Hc := hid (hc.later h.lt hb)
  have Hk := hid hk
  have hlt := Nat.lt_of_lt_of_le h.lt hb.size
  have hle := h.len
  obtain ⟨o, c, hko, _⟩ := hk
  have Hko := hid hko
  clear h hc hko hb
  unfold forestV at *
  generalize ns[i] = x at *
  go_enter Tryz.func28, Tryz.ntmps28
  go_wp2_with fail
  refine (HN.out _).mono ?_
  rintro e v1 ⟨rfl, hb1⟩
  have c0 := (Hc.out.later hlt (box_go hb1)).kids
  rw [Hko.out] at c0
  go_wp2
  go_ret
  exact ⟨_, rfl, by have := Hk.out; rw [Hko.out] at this; exact this, box_go hb1⟩

set_option maxRecDepth 100000 in
set_option maxHeartbeats 8000000 in
theorem visitK_any (b off cap : Nat) (ns : List NodeD) (w : World) (hR : RightF ns) (hF : FAt w b off cap ns) (hkl : ∀ (i : Nat) (hi : i < ns.length), ns[i].kids.length ≤ 1099511627776) (bl bh bf bv : Nat) (lbl : w.heap.size ≤ bl) (nh : bh ≠ bl) (nf : bf ≠ bl) (nv : bv ≠ bl) :
    ∀ (f : Nat) (x : Int) (pre : List Int) (W : World), thereB ns.length x = true → ns.length < f + (pathUp ns (parentD ns) x).length → pre.length + (belowF (kidsD ns) f x).length ≤ 1099511627776 → VisitAt W b off cap ns.length 28 bl bh bf bv → ListBox W w.heap.size bl pre → Below w.heap.size w W →
      Calls Tryz.prog 63 #[.int .i64 x, .pointer (some ⟨bl, 0, none⟩), .pointer (some ⟨bh, 0, none⟩), .pointer (some ⟨bf, 0, none⟩), .pointer (some ⟨bv, 0, none⟩)] W fun e W' => (∃ v, e = .returned v) ∧ VisitAt W' b off cap ns.length 28 bl bh bf bv ∧ ListBox W' w.heap.size bl (pre ++ belowF (kidsD ns) f x) ∧ Below w.heap.size w W' := by
  obtain ⟨i0, hi, hz0, hz1, hz2⟩ := info_parts info_int
  intro f
  induction f with
  | zero =>
    intro x pre W hx hf _ _ _ _
    have := pathUp_len ns (parentD ns) hR.parentOK hR.ends x (.inr hx)
    omega
  | succ f ih =>
    intro x pre W hx hf hl hV hL hB
    obtain ⟨v, hv, hrow⟩ := hL
    obtain ⟨j, hj, rfl⟩ := there_idx hx
    have hkd : kidsD ns ((j : Int) + 1) = ns[j].kids := by unfold kidsD; rw [nodeOf_at ns j hj]
    have HE : Hid (pre ++ belowF (kidsD ns) (f + 1) ((j : Int) + 1) = (pre ++ [(j : Int) + 1]) ++ (ns[j].kids.drop 0).flatMap (belowF (kidsD ns) f)) := by
      show _ = _
      rw [belowF, hkd, List.append_assoc]
      rfl
    have hlen2 : (pre ++ belowF (kidsD ns) (f + 1) ((j : Int) + 1)).length ≤ 1099511627776 := by rw [List.length_append]; exact hl
    obtain ⟨T, hT⟩ : ∃ T, pre ++ belowF (kidsD ns) (f + 1) ((j : Int) + 1) = T := ⟨_, rfl⟩
    rw [hT] at HE hlen2 ⊢
    have hpl : pre.length + 1 ≤ 1099511627776 := by
      have h := congrArg List.length HE.out
      rw [List.length_append, List.length_append] at h
      simp only [List.length_cons, List.length_nil] at h
      omega
    have HK : Hid (∀ V : World, Below w.heap.size w V → _) := fun V hV => kidsOf_at b off cap j ns w V hF hV hj
    have HIH : Hid (∀ (y : Int) (acc : List Int) (V : World), y ∈ ns[j].kids → acc.length + (belowF (kidsD ns) f y).length ≤ 1099511627776 → VisitAt V b off cap ns.length 28 bl bh bf bv → ListBox V w.heap.size bl acc → Below w.heap.size w V → _) := fun y acc V hy hac hV2 hL2 hB2 => by
      obtain ⟨n, hn, hp⟩ := (hR.kids j hj).1 y hy
      obtain ⟨i, hi2, e, e2⟩ := nodeOf_idx hn
      have hyt : thereB ns.length y = true := by rw [e]; exact thereB_idx _ _ hi2
      have hpy : parentD ns y = (j : Int) + 1 := by rw [e, parentD_at ns i hi2, ← hp, ← e2]
      refine ih y acc V hyt ?_ hac hV2 hL2 hB2
      rw [pathUp_head hR hyt, hpy, List.length_cons]
      omega
    have hkl' := hkl j hj
    clear ih hkl hF hf hl hT hkd hx
    have c1 := hv.cell
    have m1 : pre.length + 1 ≤ maxLen := Nat.le_trans hpl (by decide)
    have m2 : (pre.length + 1) * 8 ≤ 140737488355328 := by omega
    have m3 : w.heap.size ≤ (W.alloc (.cells #[.int .i64 ((j : Int) + 1)] 3)).heap.size := by have := hB.size; simp; omega
    unfold forestV at HK
    generalize ns[j].kids = ks at *
    have HV := hid hV
    have HB := hid hB
    clear hV hB
    go_enter Tryz.func63, Tryz.ntmps63
    go_wp2_with (at_builtin; refine wpList_append_own _ rfl _ _ 26 rfl w.heap.size 3 i0 (.int .i64 0) 1 8 Tryz.underlying26 hi hz0 hz1 hz2 rfl (by decide) _ _ _ rfl (hrow.alloc _) ⟨W.heap.size, 0, none⟩ 1 1 [.int .i64 ((j : Int) + 1)] rfl rfl (cell_one_new _ _ _) (by simp [Value.oneCell']) m1 m2 m3 ?_; intro v' w1 hown' hgrow _; obtain ⟨g', cap', rfl⟩ := ownsRow_succ hown'; obtain ⟨hv1, hv2, hr2, hk2, hb2⟩ := hv.appended (by decide) hrow HB.out.size lbl hown' hgrow; have hc1 := hv1.cell; have hf1 := hv1.frozen; have e1 := (boxed_beside HV.out.hang (B := bl) (v' := .slice (some ⟨g', 0, none⟩) (pre.length + 1) cap') (by decide) nh hrow hgrow).cell; have e2 := (boxed_beside HV.out.forest (B := bl) (v' := .slice (some ⟨g', 0, none⟩) (pre.length + 1) cap') (by decide) nf hrow hgrow).cell)
    have HV2 : Hid (VisitAt (w1.setCell ⟨bl, 0, none⟩ (.slice (some ⟨g', 0, none⟩) (pre.length + 1) cap')) b off cap ns.length 28 bl bh bf bv) := ⟨boxed_beside HV.out.hang (by decide) nh hrow hgrow, boxed_beside HV.out.forest (by decide) nf hrow hgrow, boxed_beside HV.out.visit (by decide) nv hrow hgrow⟩
    have HL2 : Hid (ListBox (w1.setCell ⟨bl, 0, none⟩ (.slice (some ⟨g', 0, none⟩) (pre.length + 1) cap')) w.heap.size bl (pre ++ [(j : Int) + 1])) := ⟨_, hv2, by simpa using hr2⟩
    have HB2 := hid (HB.out.trans hb2)
    have hK := HK.out _ HB2.out
    clear HK HV HB hv hrow hgrow hown' hv1 hv2 hr2 hk2 hb2 hc1 hf1 e1 e2 c1 m1 m2 m3 hi hz0 hz1 hz2
    refine hK.mono ?_
    clear hK
    rintro e v3 ⟨vk, rfl, hrk, hb3⟩
    have HV3 := hid (HV2.out.later hb3)
    have HL3 := hid (HL2.out.later hb3)
    have HB3 := hid (HB2.out.trans (hb3.mono HB2.out.size))
    clear HV2 HL2 HB2 hb3
    obtain ⟨ok, ck, rfl, hck, gk⟩ := hrk
    go_wp2
    go_loopw [17] (fun t wr => ∃ (k : Nat) (acc : List Int), k ≤ ks.length ∧ t = .int .i64 k ∧ Hid (T = acc ++ (ks.drop k).flatMap (belowF (kidsD ns) f)) ∧ Hid (VisitAt wr b off cap ns.length 28 bl bh bf bv) ∧ Hid (ListBox wr w.heap.size bl acc) ∧ Hid (Below w.heap.size w wr)) (fun t _ => ks.length - (RowKit.intOf t).toNat)
    case atStart => exact ⟨0, _, Nat.zero_le _, rfl, HE, HV3, HL3, HB3⟩
    case round =>
      obtain ⟨k, acc, hk, rfl, hE, hV, hL, hB⟩ := hrel
      clear HE HV3 HL3 HB3
      by_cases hlt : k < ks.length
      · obtain ⟨bk, offk, rfl, hltk, hak⟩ := gk (by omega)
        have x1 := (hB.out.cell (p := ⟨bk, offk + k, none⟩) hltk).trans (hak k hlt)
        have cv := hV.out.visit.cell
        have q1 : (0 : Int) ≤ (k : Int) := by omega
        have q2 : (k : Int) < (ks.length : Int) := by omega
        have hE' := hE.out
        rw [List.drop_eq_getElem_cons hlt, List.flatMap_cons, ← List.append_assoc] at hE'
        have hln : acc.length + (belowF (kidsD ns) f ks[k]).length ≤ 1099511627776 := by
          have h := congrArg List.length hE'
          rw [List.length_append, List.length_append] at h
          omega
        have hI := HIH.out ks[k] acc wr (List.getElem_mem hlt) hln hV.out hL.out hB.out
        have HE2 := hid hE'
        clear hE' hE hln HIH gk hak hV hL hB
        generalize ks[k] = y at *
        go_wp2_with fail
        refine hI.mono ?_
        clear hI
        rintro e v4 ⟨⟨u, rfl⟩, hV4, hL4, hB4⟩
        have HV4 := hid hV4
        have HL4 := hid hL4
        have HB4 := hid hB4
        clear hV4 hL4 hB4 cv x1
        go_wp2
        go_roundw
        case rel => exact ⟨k + 1, _, by omega, by go_num, HE2, HV4, HL4, HB4⟩
        case measure => simp [RowKit.intOf]; omega
      · have hT : T = acc := by
          have h := hE.out
          rw [List.drop_eq_nil_of_le (by omega), List.flatMap_nil, List.append_nil] at h
          exact h
        have HL5 : Hid (ListBox wr w.heap.size bl T) := by rw [hT]; exact hL
        clear hE hT hL HIH gk
        go_wp2
        go_end0
        exact ⟨⟨_, rfl⟩, hV.out, HL5.out, hB.out⟩
end Go.Proofs.YtfaeabjgplahgaaGreat

namespace Go.Proofs.YtfaeabjgplahgaaGreat
open Go.RowKit Go.Lib Go.Shelf

/-- A node and what lies in it, in tree order. -/
def allD (ns : List NodeD) (x : Int) : List Int := belowF (kidsD ns) (ns.length + 1) x

set_option maxRecDepth 100000 in
set_option maxHeartbeats 4000000 in
theorem listK_any (b off cap : Nat) (x : Int) (ns : List NodeD) (w : World) (hR : RightF ns) (hF : FAt w b off cap ns) (hx : thereB ns.length x = true) (hkl : ∀ (i : Nat) (hi : i < ns.length), ns[i].kids.length ≤ 1099511627776) (hlen : (allD ns x).length ≤ 1099511627776) :
    Calls Tryz.prog 27 #[forestV b off cap ns.length, .int .i64 x, .func (.func 28) #[] #[]] w fun e w' => ∃ v, e = .returned v ∧ w'.ownsRow w.heap.size 3 1 v (allD ns x).length ((allD ns x).map (Value.int .i64)) ∧ Below w.heap.size w w' := by
  have HV : Hid (∀ W : World, VisitAt W b off cap ns.length 28 (w.heap.size + 1 + 1) (w.heap.size + 1) w.heap.size (w.heap.size + 1 + 1 + 1) → ListBox W w.heap.size (w.heap.size + 1 + 1) [] → Below w.heap.size w W → _) := fun W h1 h2 h3 => visitK_any b off cap ns w hR hF hkl (w.heap.size + 1 + 1) (w.heap.size + 1) w.heap.size (w.heap.size + 1 + 1 + 1) (by omega) (by omega) (by omega) (by omega) (ns.length + 1) x [] W hx (by omega) (by rw [List.length_nil, Nat.zero_add]; exact hlen) h1 h2 h3
  clear hF hR hkl hx
  unfold forestV allD at *
  generalize belowF (kidsD ns) (ns.length + 1) x = T at *
  have b0 := Boxed.new w 24 (.slice (some ⟨b, off, none⟩) ns.length cap)
  have b1 := Boxed.new (w.alloc (.cells #[.slice (some ⟨b, off, none⟩) ns.length cap] 24)) 53 (.func (.func 28) #[] #[])
  have b2 := Boxed.new ((w.alloc (.cells #[.slice (some ⟨b, off, none⟩) ns.length cap] 24)).alloc (.cells #[.func (.func 28) #[] #[]] 53)) 26 (.slice none 0 0)
  have b3 := Boxed.new (((w.alloc (.cells #[.slice (some ⟨b, off, none⟩) ns.length cap] 24)).alloc (.cells #[.func (.func 28) #[] #[]] 53)).alloc (.cells #[.slice none 0 0] 26)) 75 (.func (.func 63) #[] #[.pointer (some ⟨w.heap.size + 1 + 1, 0, none⟩), .pointer (some ⟨w.heap.size + 1, 0, none⟩), .pointer (some ⟨w.heap.size, 0, none⟩), .pointer (some ⟨w.heap.size + 1 + 1 + 1, 0, none⟩)])
  simp only [World.size_alloc] at b1 b2 b3
  have HA : Hid (VisitAt (((((w.alloc (.cells #[.slice (some ⟨b, off, none⟩) ns.length cap] 24)).alloc (.cells #[.func (.func 28) #[] #[]] 53)).alloc (.cells #[.slice none 0 0] 26)).alloc (.cells #[.func (.func 63) #[] #[.pointer (some ⟨w.heap.size + 1 + 1, 0, none⟩), .pointer (some ⟨w.heap.size + 1, 0, none⟩), .pointer (some ⟨w.heap.size, 0, none⟩), .pointer (some ⟨w.heap.size + 1 + 1 + 1, 0, none⟩)]] 75))) b off cap ns.length 28 (w.heap.size + 1 + 1) (w.heap.size + 1) w.heap.size (w.heap.size + 1 + 1 + 1)) :=
    ⟨(b1.alloc _).alloc _, ((b0.alloc _).alloc _).alloc _, b3⟩
  have HL : Hid (ListBox (((((w.alloc (.cells #[.slice (some ⟨b, off, none⟩) ns.length cap] 24)).alloc (.cells #[.func (.func 28) #[] #[]] 53)).alloc (.cells #[.slice none 0 0] 26)).alloc (.cells #[.func (.func 63) #[] #[.pointer (some ⟨w.heap.size + 1 + 1, 0, none⟩), .pointer (some ⟨w.heap.size + 1, 0, none⟩), .pointer (some ⟨w.heap.size, 0, none⟩), .pointer (some ⟨w.heap.size + 1 + 1 + 1, 0, none⟩)]] 75))) w.heap.size (w.heap.size + 1 + 1) []) :=
    ⟨_, b2.alloc _, World.ownsRow_nil _ _ _ _⟩
  have HB : Hid (Below w.heap.size w (((((w.alloc (.cells #[.slice (some ⟨b, off, none⟩) ns.length cap] 24)).alloc (.cells #[.func (.func 28) #[] #[]] 53)).alloc (.cells #[.slice none 0 0] 26)).alloc (.cells #[.func (.func 63) #[] #[.pointer (some ⟨w.heap.size + 1 + 1, 0, none⟩), .pointer (some ⟨w.heap.size + 1, 0, none⟩), .pointer (some ⟨w.heap.size, 0, none⟩), .pointer (some ⟨w.heap.size + 1 + 1 + 1, 0, none⟩)]] 75)))) :=
    (((((Below.refl _ w).alloc (Nat.le_refl _) _).alloc (by simp) _).alloc (by simp; omega) _).alloc (by simp; omega) _)
  have hV := HV.out _ HA.out HL.out HB.out
  clear HV HA HL HB b0 b1 b2 b3
  go_enter Tryz.func27, Tryz.ntmps27
  go_wp2_with fail
  refine hV.mono ?_
  clear hV
  rintro e v1 ⟨⟨u, rfl⟩, hA, ⟨v, hv, hrow⟩, hB⟩
  have c1 := hv.cell
  have HR := hid hrow
  have HB := hid hB
  clear hA hv hrow hB
  go_wp2
  exact bodyPost_ret (v := v) (by simp [results, Tryz.results27, go_sem]) rfl ⟨v, rfl, HR.out, HB.out⟩
end Go.Proofs.YtfaeabjgplahgaaGreat

namespace Go.Proofs.YtfaeabjgplahgaaGreat
open Go.RowKit Go.Lib Go.Shelf

set_option maxRecDepth 100000 in
set_option maxHeartbeats 2000000 in
theorem Root1_any (b off cap u1 u2 : Nat) (x : Int) (ns : List NodeD) (w : World) (hR : RightF ns) (hF : FAt w b off cap ns) (hx : thereB ns.length x = true)
    (c1 : w.cell? ⟨u1, 0, none⟩ = some (.slice (some ⟨b, off, none⟩) ns.length cap)) (c2 : w.cell? ⟨u2, 0, none⟩ = some (.int .i64 x)) :
    Calls Tryz.prog 60 #[.pointer (some ⟨u1, 0, none⟩), .pointer (some ⟨u2, 0, none⟩)] w fun e w' => e = .returned (.int .i64 (lastI (pathUp ns (parentD ns) x))) ∧ Below w.heap.size w w' := by
  have hP := rootOf_any b off cap x ns w hR hF hx
  unfold forestV at hP
  generalize lastI (pathUp ns (parentD ns) x) = P at *
  go_enter Tryz.func60, Tryz.ntmps60
  go_wp2_with fail
  refine hP.mono ?_
  rintro e v1 ⟨rfl, hb1⟩
  have HB := hid hb1
  clear hP hb1
  go_wp2
  go_ret
  exact ⟨rfl, HB.out⟩

set_option maxRecDepth 100000 in
set_option maxHeartbeats 4000000 in
theorem toldRoot_any (o : Option Addr) (cap u1 u2 : Nat) (R : Int) (v : Value) (hs : List Int) (ns : List NodeD) (w : World) (hF : FRd w o cap ns) (hkl : ∀ (i : Nat) (hi : i < ns.length), ns[i].kids.length ≤ 1099511627776) (hal : ∀ (i : Nat) (hi : i < ns.length), ns[i].attrs.length ≤ 1099511627776) (hv : RdI w v hs) (hl : hs.length ≤ 1099511627776)
    (hT : toldE ns hs = 0 → ∀ W : World, Below w.heap.size w W → Calls Tryz.prog 60 #[.pointer (some ⟨u1, 0, none⟩), .pointer (some ⟨u2, 0, none⟩)] W fun e w' => e = .returned (.int .i64 R) ∧ Below W.heap.size W w') :
    Calls Tryz.prog 55 #[.agg #[.slice o ns.length cap], .func (.func 60) #[] #[.pointer (some ⟨u1, 0, none⟩), .pointer (some ⟨u2, 0, none⟩)], v] w fun e w' => e = .returned (.tuple #[.int .i64 (if toldE ns hs = 0 then R else 0), .int .i64 (toldE ns hs)]) ∧ Below w.heap.size w w' := by
  have HC : Hid (∀ W : World, Below w.heap.size w W → _) := fun W hW => Check_any o cap ns W (hF.later hW) hkl hal
  have hle := hF.len
  obtain ⟨o2, c2, rfl, hc2, g2⟩ := hv
  clear hF hkl hal
  generalize checkN ns = CN at *
  cases hr : rightD ns with
  | false =>
    have e0 : toldE ns hs = 5 := by unfold toldE; rw [hr]; rfl
    have e1 : checkE ns = 5 := by unfold checkE; rw [hr]; rfl
    rw [e0, if_neg (by decide)]
    rw [e1] at HC
    clear hT e0 e1 g2
    go_enter Tryz.func55, Tryz.ntmps55
    go_wp2_with fail
    refine (HC.out _ ((Below.refl _ w).alloc (Nat.le_refl _) _)).mono ?_
    rintro e v1 ⟨rfl, hb1⟩
    go_wp2
    go_ret2
    exact ⟨rfl, box_go hb1⟩
  | true =>
    have e1 : checkE ns = 0 := (checkE_right hr).1
    rw [e1] at HC
    obtain ⟨E, hE⟩ : ∃ E, toldE ns hs = E := ⟨_, rfl⟩
    rw [hE] at hT ⊢
    have HE : Hid ((if (hs.drop 0).all (thereB ns.length) then (0 : Int) else 2) = E) := by
      have := hE
      unfold toldE at this
      rw [hr, if_pos rfl] at this
      exact this
    obtain ⟨T, hTe⟩ : ∃ T, (if E = 0 then R else 0) = T := ⟨_, rfl⟩
    rw [hTe]
    have HTe := hid hTe
    have HT := hid hT
    clear hE hT e1 hTe
    go_enter Tryz.func55, Tryz.ntmps55
    go_wp2_with fail
    refine (HC.out _ ((Below.refl _ w).alloc (Nat.le_refl _) _)).mono ?_
    rintro e v1 ⟨rfl, hb1⟩
    have HB1 := hid (box_go hb1)
    have cb := box_forest hb1
    clear hb1 HC
    go_wp2
    go_loopw [24] (fun t wr => ∃ k : Nat, k ≤ hs.length ∧ t = .int .i64 k ∧ wr = v1 ∧ Hid ((if (hs.drop k).all (thereB ns.length) then (0 : Int) else 2) = E)) (fun t _ => hs.length - (RowKit.intOf t).toNat)
    case atStart => exact ⟨0, Nat.zero_le _, rfl, rfl, HE⟩
    case round =>
      obtain ⟨k, k1, rfl, rfl, hK⟩ := hrel
      by_cases hlt : k < hs.length
      · obtain ⟨b, off, rfl, hlt1, ha⟩ := g2 (by omega)
        have x1 := (HB1.out.cell (p := ⟨b, off + k, none⟩) hlt1).trans (ha k hlt)
        have q1 : (0 : Int) ≤ (k : Int) := by omega
        have q2 : (k : Int) < (hs.length : Int) := by omega
        have hk := hK.out
        rw [List.drop_eq_getElem_cons hlt, List.all_cons] at hk
        have Hk := hid hk
        clear hk hK ha g2
        generalize hs[k] = a at *
        by_cases g1 : a < 1
        · have hf : thereB ns.length a = false := by unfold thereB; rw [decide_eq_false (by omega)]; rfl
          have hE2 : E = 2 := by rw [← Hk.out, hf]; rfl
          subst hE2
          have hT0 : T = 0 := by rw [← HTe.out]; rfl
          subst hT0
          have d1 : decide (a < 1) = true := decide_eq_true g1
          clear Hk hf HT
          go_wp2
          go_ret2
          exact ⟨rfl, HB1.out⟩
        · have d1 : decide (a < 1) = false := decide_eq_false g1
          by_cases g3 : (ns.length : Int) < a
          · have hf : thereB ns.length a = false := by unfold thereB; rw [decide_eq_false (p := a ≤ (ns.length : Int)) (by omega), Bool.and_false]
            have hE2 : E = 2 := by rw [← Hk.out, hf]; rfl
            subst hE2
            have hT0 : T = 0 := by rw [← HTe.out]; rfl
            subst hT0
            have d2 : decide ((ns.length : Int) < a) = true := decide_eq_true g3
            clear Hk hf HT
            go_wp2
            go_ret2
            exact ⟨rfl, HB1.out⟩
          · have hf : thereB ns.length a = true := by unfold thereB; rw [decide_eq_true (by omega), decide_eq_true (by omega)]; rfl
            have d2 : decide ((ns.length : Int) < a) = false := decide_eq_false g3
            have Hn : Hid ((if (hs.drop (k + 1)).all (thereB ns.length) then (0 : Int) else 2) = E) := by
              have h := Hk.out
              rw [hf, Bool.true_and] at h
              exact h
            clear Hk hf
            go_wp2
            go_roundw
            case rel => exact ⟨k + 1, by omega, by go_num, trivial, Hn⟩
            case measure => simp [RowKit.intOf]; omega
      · have hE0 : E = 0 := by rw [← hK.out, List.drop_eq_nil_of_le (by omega)]; rfl
        subst hE0
        have hT := HT.out rfl wr HB1.out
        have hT0 : T = R := by rw [← HTe.out]; rfl
        subst hT0
        clear hK g2 HT HTe
        go_wp2_with fail
        refine hT.mono ?_
        rintro e v2 ⟨rfl, hb2⟩
        have HB2 := hid (HB1.out.trans (hb2.mono HB1.out.size))
        clear hT hb2
        go_wp2
        go_ret2
        exact ⟨rfl, HB2.out⟩

set_option maxRecDepth 100000 in
set_option maxHeartbeats 4000000 in
theorem Root_any (o : Option Addr) (cap : Nat) (x : Int) (ns : List NodeD) (w : World) (hF : FRd w o cap ns) (hkl : ∀ (i : Nat) (hi : i < ns.length), ns[i].kids.length ≤ 1099511627776) (hal : ∀ (i : Nat) (hi : i < ns.length), ns[i].attrs.length ≤ 1099511627776) :
    Calls Tryz.prog 23 #[.agg #[.slice o ns.length cap], .int .i64 x] w fun e w' => e = .returned (.tuple #[.int .i64 (if toldE ns [x] = 0 then lastI (pathUp ns (parentD ns) x) else 0), .int .i64 (toldE ns [x])]) ∧ Below w.heap.size w w' := by
  have hB3 : Below w.heap.size w (((w.alloc (.cells #[.slice o ns.length cap] 24)).alloc (.cells #[.int .i64 x] 3)).alloc (.cells #[.int .i64 x] 3)) := (((Below.refl _ w).alloc (Nat.le_refl _) _).alloc (by simp) _).alloc (by simp; omega) _
  have k0 := new_cell_l w (.slice o ns.length cap) 24
  have k1 := new_cell_l (w.alloc (.cells #[.slice o ns.length cap] 24)) (.int .i64 x) 3
  have kr := one_rdI ((w.alloc (.cells #[.slice o ns.length cap] 24)).alloc (.cells #[.int .i64 x] 3)) x 3
  simp only [World.size_alloc] at k1 kr
  have c0 := keep_cell_l (.cells #[.int .i64 x] 3) (keep_cell_l (.cells #[.int .i64 x] 3) k0.1)
  have c1 := keep_cell_l (.cells #[.int .i64 x] 3) k1.1
  have s0 : w.heap.size < (((w.alloc (.cells #[.slice o ns.length cap] 24)).alloc (.cells #[.int .i64 x] 3)).alloc (.cells #[.int .i64 x] 3)).heap.size := by simp only [World.size_alloc]; omega
  have hT := toldRoot_any o cap w.heap.size (w.heap.size + 1) (lastI (pathUp ns (parentD ns) x)) (.slice (some ⟨w.heap.size + 1 + 1, 0, none⟩) 1 1) [x] ns (((w.alloc (.cells #[.slice o ns.length cap] 24)).alloc (.cells #[.int .i64 x] 3)).alloc (.cells #[.int .i64 x] 3)) (hF.later hB3) hkl hal kr (by simp) (fun hE W hW => by
    obtain ⟨hR, hth⟩ := toldE_zero hE
    have hx := hth x (by simp)
    obtain ⟨i, hi, _⟩ := there_idx hx
    obtain ⟨b, off, rfl, hFA⟩ := hF.at_ (by omega)
    have hBW := hB3.trans (hW.mono hB3.size)
    have h1 := Root1_any b off cap w.heap.size (w.heap.size + 1) x ns W hR (hFA.later hBW) hx
      ((hW.cell (p := ⟨w.heap.size, 0, none⟩) s0).trans c0)
      ((hW.cell (p := ⟨w.heap.size + 1, 0, none⟩) (by show w.heap.size + 1 < _; simp only [World.size_alloc]; omega)).trans c1)
    exact h1)
  generalize (if toldE ns [x] = 0 then lastI (pathUp ns (parentD ns) x) else 0) = A at *
  generalize toldE ns [x] = E at *
  have HB3 := hid hB3
  clear k0 k1 kr c0 c1 s0 hF hkl hal hB3
  go_enter Tryz.func23, Tryz.ntmps23
  go_wp2_with fail
  refine hT.mono ?_
  rintro e v1 ⟨rfl, hb1⟩
  have HB := hid (HB3.out.trans (hb1.mono HB3.out.size))
  clear hT hb1 HB3
  go_wp2
  go_ret2
  exact ⟨rfl, HB.out⟩

set_option maxRecDepth 100000 in
set_option maxHeartbeats 2000000 in
theorem Top1_any (b off cap u1 u2 : Nat) (x : Int) (ns : List NodeD) (w : World) (hR : RightF ns) (hF : FAt w b off cap ns) (hx : thereB ns.length x = true)
    (c1 : w.cell? ⟨u1, 0, none⟩ = some (.slice (some ⟨b, off, none⟩) ns.length cap)) (c2 : w.cell? ⟨u2, 0, none⟩ = some (.int .i64 x)) :
    Calls Tryz.prog 58 #[.pointer (some ⟨u1, 0, none⟩), .pointer (some ⟨u2, 0, none⟩)] w fun e w' => e = .returned (.int .i64 (lastI (pathUp ns (overD ns) x))) ∧ Below w.heap.size w w' := by
  have hP := topOf_any b off cap x ns w hR hF hx
  unfold forestV at hP
  generalize lastI (pathUp ns (overD ns) x) = P at *
  go_enter Tryz.func58, Tryz.ntmps58
  go_wp2_with fail
  refine hP.mono ?_
  rintro e v1 ⟨rfl, hb1⟩
  have HB := hid hb1
  clear hP hb1
  go_wp2
  go_ret
  exact ⟨rfl, HB.out⟩

set_option maxRecDepth 100000 in
set_option maxHeartbeats 4000000 in
theorem toldTop_any (o : Option Addr) (cap u1 u2 : Nat) (R : Int) (v : Value) (hs : List Int) (ns : List NodeD) (w : World) (hF : FRd w o cap ns) (hkl : ∀ (i : Nat) (hi : i < ns.length), ns[i].kids.length ≤ 1099511627776) (hal : ∀ (i : Nat) (hi : i < ns.length), ns[i].attrs.length ≤ 1099511627776) (hv : RdI w v hs) (hl : hs.length ≤ 1099511627776)
    (hT : toldE ns hs = 0 → ∀ W : World, Below w.heap.size w W → Calls Tryz.prog 58 #[.pointer (some ⟨u1, 0, none⟩), .pointer (some ⟨u2, 0, none⟩)] W fun e w' => e = .returned (.int .i64 R) ∧ Below W.heap.size W w') :
    Calls Tryz.prog 55 #[.agg #[.slice o ns.length cap], .func (.func 58) #[] #[.pointer (some ⟨u1, 0, none⟩), .pointer (some ⟨u2, 0, none⟩)], v] w fun e w' => e = .returned (.tuple #[.int .i64 (if toldE ns hs = 0 then R else 0), .int .i64 (toldE ns hs)]) ∧ Below w.heap.size w w' := by
  have HC : Hid (∀ W : World, Below w.heap.size w W → _) := fun W hW => Check_any o cap ns W (hF.later hW) hkl hal
  have hle := hF.len
  obtain ⟨o2, c2, rfl, hc2, g2⟩ := hv
  clear hF hkl hal
  generalize checkN ns = CN at *
  cases hr : rightD ns with
  | false =>
    have e0 : toldE ns hs = 5 := by unfold toldE; rw [hr]; rfl
    have e1 : checkE ns = 5 := by unfold checkE; rw [hr]; rfl
    rw [e0, if_neg (by decide)]
    rw [e1] at HC
    clear hT e0 e1 g2
    go_enter Tryz.func55, Tryz.ntmps55
    go_wp2_with fail
    refine (HC.out _ ((Below.refl _ w).alloc (Nat.le_refl _) _)).mono ?_
    rintro e v1 ⟨rfl, hb1⟩
    go_wp2
    go_ret2
    exact ⟨rfl, box_go hb1⟩
  | true =>
    have e1 : checkE ns = 0 := (checkE_right hr).1
    rw [e1] at HC
    obtain ⟨E, hE⟩ : ∃ E, toldE ns hs = E := ⟨_, rfl⟩
    rw [hE] at hT ⊢
    have HE : Hid ((if (hs.drop 0).all (thereB ns.length) then (0 : Int) else 2) = E) := by
      have := hE
      unfold toldE at this
      rw [hr, if_pos rfl] at this
      exact this
    obtain ⟨T, hTe⟩ : ∃ T, (if E = 0 then R else 0) = T := ⟨_, rfl⟩
    rw [hTe]
    have HTe := hid hTe
    have HT := hid hT
    clear hE hT e1 hTe
    go_enter Tryz.func55, Tryz.ntmps55
    go_wp2_with fail
    refine (HC.out _ ((Below.refl _ w).alloc (Nat.le_refl _) _)).mono ?_
    rintro e v1 ⟨rfl, hb1⟩
    have HB1 := hid (box_go hb1)
    have cb := box_forest hb1
    clear hb1 HC
    go_wp2
    go_loopw [24] (fun t wr => ∃ k : Nat, k ≤ hs.length ∧ t = .int .i64 k ∧ wr = v1 ∧ Hid ((if (hs.drop k).all (thereB ns.length) then (0 : Int) else 2) = E)) (fun t _ => hs.length - (RowKit.intOf t).toNat)
    case atStart => exact ⟨0, Nat.zero_le _, rfl, rfl, HE⟩
    case round =>
      obtain ⟨k, k1, rfl, rfl, hK⟩ := hrel
      by_cases hlt : k < hs.length
      · obtain ⟨b, off, rfl, hlt1, ha⟩ := g2 (by omega)
        have x1 := (HB1.out.cell (p := ⟨b, off + k, none⟩) hlt1).trans (ha k hlt)
        have q1 : (0 : Int) ≤ (k : Int) := by omega
        have q2 : (k : Int) < (hs.length : Int) := by omega
        have hk := hK.out
        rw [List.drop_eq_getElem_cons hlt, List.all_cons] at hk
        have Hk := hid hk
        clear hk hK ha g2
        generalize hs[k] = a at *
        by_cases g1 : a < 1
        · have hf : thereB ns.length a = false := by unfold thereB; rw [decide_eq_false (by omega)]; rfl
          have hE2 : E = 2 := by rw [← Hk.out, hf]; rfl
          subst hE2
          have hT0 : T = 0 := by rw [← HTe.out]; rfl
          subst hT0
          have d1 : decide (a < 1) = true := decide_eq_true g1
          clear Hk hf HT
          go_wp2
          go_ret2
          exact ⟨rfl, HB1.out⟩
        · have d1 : decide (a < 1) = false := decide_eq_false g1
          by_cases g3 : (ns.length : Int) < a
          · have hf : thereB ns.length a = false := by unfold thereB; rw [decide_eq_false (p := a ≤ (ns.length : Int)) (by omega), Bool.and_false]
            have hE2 : E = 2 := by rw [← Hk.out, hf]; rfl
            subst hE2
            have hT0 : T = 0 := by rw [← HTe.out]; rfl
            subst hT0
            have d2 : decide ((ns.length : Int) < a) = true := decide_eq_true g3
            clear Hk hf HT
            go_wp2
            go_ret2
            exact ⟨rfl, HB1.out⟩
          · have hf : thereB ns.length a = true := by unfold thereB; rw [decide_eq_true (by omega), decide_eq_true (by omega)]; rfl
            have d2 : decide ((ns.length : Int) < a) = false := decide_eq_false g3
            have Hn : Hid ((if (hs.drop (k + 1)).all (thereB ns.length) then (0 : Int) else 2) = E) := by
              have h := Hk.out
              rw [hf, Bool.true_and] at h
              exact h
            clear Hk hf
            go_wp2
            go_roundw
            case rel => exact ⟨k + 1, by omega, by go_num, trivial, Hn⟩
            case measure => simp [RowKit.intOf]; omega
      · have hE0 : E = 0 := by rw [← hK.out, List.drop_eq_nil_of_le (by omega)]; rfl
        subst hE0
        have hT := HT.out rfl wr HB1.out
        have hT0 : T = R := by rw [← HTe.out]; rfl
        subst hT0
        clear hK g2 HT HTe
        go_wp2_with fail
        refine hT.mono ?_
        rintro e v2 ⟨rfl, hb2⟩
        have HB2 := hid (HB1.out.trans (hb2.mono HB1.out.size))
        clear hT hb2
        go_wp2
        go_ret2
        exact ⟨rfl, HB2.out⟩

set_option maxRecDepth 100000 in
set_option maxHeartbeats 4000000 in
theorem Top_any (o : Option Addr) (cap : Nat) (x : Int) (ns : List NodeD) (w : World) (hF : FRd w o cap ns) (hkl : ∀ (i : Nat) (hi : i < ns.length), ns[i].kids.length ≤ 1099511627776) (hal : ∀ (i : Nat) (hi : i < ns.length), ns[i].attrs.length ≤ 1099511627776) :
    Calls Tryz.prog 22 #[.agg #[.slice o ns.length cap], .int .i64 x] w fun e w' => e = .returned (.tuple #[.int .i64 (if toldE ns [x] = 0 then lastI (pathUp ns (overD ns) x) else 0), .int .i64 (toldE ns [x])]) ∧ Below w.heap.size w w' := by
  have hB3 : Below w.heap.size w (((w.alloc (.cells #[.slice o ns.length cap] 24)).alloc (.cells #[.int .i64 x] 3)).alloc (.cells #[.int .i64 x] 3)) := (((Below.refl _ w).alloc (Nat.le_refl _) _).alloc (by simp) _).alloc (by simp; omega) _
  have k0 := new_cell_l w (.slice o ns.length cap) 24
  have k1 := new_cell_l (w.alloc (.cells #[.slice o ns.length cap] 24)) (.int .i64 x) 3
  have kr := one_rdI ((w.alloc (.cells #[.slice o ns.length cap] 24)).alloc (.cells #[.int .i64 x] 3)) x 3
  simp only [World.size_alloc] at k1 kr
  have c0 := keep_cell_l (.cells #[.int .i64 x] 3) (keep_cell_l (.cells #[.int .i64 x] 3) k0.1)
  have c1 := keep_cell_l (.cells #[.int .i64 x] 3) k1.1
  have s0 : w.heap.size < (((w.alloc (.cells #[.slice o ns.length cap] 24)).alloc (.cells #[.int .i64 x] 3)).alloc (.cells #[.int .i64 x] 3)).heap.size := by simp only [World.size_alloc]; omega
  have hT := toldTop_any o cap w.heap.size (w.heap.size + 1) (lastI (pathUp ns (overD ns) x)) (.slice (some ⟨w.heap.size + 1 + 1, 0, none⟩) 1 1) [x] ns (((w.alloc (.cells #[.slice o ns.length cap] 24)).alloc (.cells #[.int .i64 x] 3)).alloc (.cells #[.int .i64 x] 3)) (hF.later hB3) hkl hal kr (by simp) (fun hE W hW => by
    obtain ⟨hR, hth⟩ := toldE_zero hE
    have hx := hth x (by simp)
    obtain ⟨i, hi, _⟩ := there_idx hx
    obtain ⟨b, off, rfl, hFA⟩ := hF.at_ (by omega)
    have hBW := hB3.trans (hW.mono hB3.size)
    have h1 := Top1_any b off cap w.heap.size (w.heap.size + 1) x ns W hR (hFA.later hBW) hx
      ((hW.cell (p := ⟨w.heap.size, 0, none⟩) s0).trans c0)
      ((hW.cell (p := ⟨w.heap.size + 1, 0, none⟩) (by show w.heap.size + 1 < _; simp only [World.size_alloc]; omega)).trans c1)
    exact h1)
  generalize (if toldE ns [x] = 0 then lastI (pathUp ns (overD ns) x) else 0) = A at *
  generalize toldE ns [x] = E at *
  have HB3 := hid hB3
  clear k0 k1 kr c0 c1 s0 hF hkl hal hB3
  go_enter Tryz.func22, Tryz.ntmps22
  go_wp2_with fail
  refine hT.mono ?_
  rintro e v1 ⟨rfl, hb1⟩
  have HB := hid (HB3.out.trans (hb1.mono HB3.out.size))
  clear hT hb1 HB3
  go_wp2
  go_ret2
  exact ⟨rfl, HB.out⟩
end Go.Proofs.YtfaeabjgplahgaaGreat

namespace Go.Proofs.YtfaeabjgplahgaaGreat
open Go.RowKit Go.Lib Go.Shelf

theorem ownsRow_base {W : World} {base base' : Nat} {e : TypeId} {size : Nat} {v : Value} {k : Nat} {xs : List Value} (h : W.ownsRow base e size v k xs) (hb : base' ≤ base) : W.ownsRow base' e size v k xs := by
  refine ⟨h.1, ?_⟩
  rcases h.2 with a | ⟨g, cap, cur, hv, hg, rest⟩
  · exact .inl a
  · exact .inr ⟨g, cap, cur, hv, Nat.le_trans hb hg, rest⟩

set_option maxRecDepth 100000 in
set_option maxHeartbeats 2000000 in
theorem All1_any (b off cap u1 u2 : Nat) (x : Int) (ns : List NodeD) (w : World) (hR : RightF ns) (hF : FAt w b off cap ns) (hx : thereB ns.length x = true) (hkl : ∀ (i : Nat) (hi : i < ns.length), ns[i].kids.length ≤ 1099511627776) (hlen : (allD ns x).length ≤ 1099511627776)
    (c1 : w.cell? ⟨u1, 0, none⟩ = some (.slice (some ⟨b, off, none⟩) ns.length cap)) (c2 : w.cell? ⟨u2, 0, none⟩ = some (.int .i64 x)) :
    Calls Tryz.prog 26 #[.pointer (some ⟨u1, 0, none⟩), .pointer (some ⟨u2, 0, none⟩)] w fun e w' => ∃ v, e = .returned v ∧ w'.ownsRow w.heap.size 3 1 v (allD ns x).length ((allD ns x).map (Value.int .i64)) ∧ Below w.heap.size w w' := by
  have hP := listK_any b off cap x ns w hR hF hx hkl hlen
  unfold forestV at hP
  generalize allD ns x = P at *
  clear hkl hlen
  go_enter Tryz.func26, Tryz.ntmps26
  go_wp2_with fail
  refine hP.mono ?_
  rintro e v1 ⟨v, rfl, hrow, hb1⟩
  have HRow := hid hrow
  have HB := hid hb1
  clear hP hb1 hrow
  go_wp2
  exact bodyPost_ret (v := v) (by simp [results, Tryz.results26, go_sem]) rfl ⟨v, rfl, HRow.out, HB.out⟩

set_option maxRecDepth 100000 in
set_option maxHeartbeats 4000000 in
theorem toldAll_any (o : Option Addr) (cap u1 u2 : Nat) (R : List Int) (v : Value) (hs : List Int) (ns : List NodeD) (w : World) (hF : FRd w o cap ns) (hkl : ∀ (i : Nat) (hi : i < ns.length), ns[i].kids.length ≤ 1099511627776) (hal : ∀ (i : Nat) (hi : i < ns.length), ns[i].attrs.length ≤ 1099511627776) (hv : RdI w v hs) (hl : hs.length ≤ 1099511627776)
    (hT : toldE ns hs = 0 → ∀ W : World, Below w.heap.size w W → Calls Tryz.prog 26 #[.pointer (some ⟨u1, 0, none⟩), .pointer (some ⟨u2, 0, none⟩)] W fun e w' => ∃ v, e = .returned v ∧ w'.ownsRow w.heap.size 3 1 v R.length (R.map (Value.int .i64)) ∧ Below W.heap.size W w') :
    Calls Tryz.prog 25 #[.agg #[.slice o ns.length cap], .func (.func 26) #[] #[.pointer (some ⟨u1, 0, none⟩), .pointer (some ⟨u2, 0, none⟩)], v] w fun e w' => ∃ v, e = .returned (.tuple #[v, .int .i64 (toldE ns hs)]) ∧ w'.ownsRow w.heap.size 3 1 v (if toldE ns hs = 0 then R else []).length ((if toldE ns hs = 0 then R else []).map (Value.int .i64)) ∧ Below w.heap.size w w' := by
  have HC : Hid (∀ W : World, Below w.heap.size w W → _) := fun W hW => Check_any o cap ns W (hF.later hW) hkl hal
  have hle := hF.len
  obtain ⟨o2, c2, rfl, hc2, g2⟩ := hv
  clear hF hkl hal
  generalize checkN ns = CN at *
  cases hr : rightD ns with
  | false =>
    have e0 : toldE ns hs = 5 := by unfold toldE; rw [hr]; rfl
    have e1 : checkE ns = 5 := by unfold checkE; rw [hr]; rfl
    rw [e0, if_neg (by decide)]
    rw [e1] at HC
    clear hT e0 e1 g2
    go_enter Tryz.func25, Tryz.ntmps25
    go_wp2_with fail
    refine (HC.out _ ((Below.refl _ w).alloc (Nat.le_refl _) _)).mono ?_
    rintro e v1 ⟨rfl, hb1⟩
    go_wp2
    go_ret2
    exact ⟨_, rfl, World.ownsRow_nil _ _ _ _, box_go hb1⟩
  | true =>
    have e1 : checkE ns = 0 := (checkE_right hr).1
    rw [e1] at HC
    obtain ⟨E, hE⟩ : ∃ E, toldE ns hs = E := ⟨_, rfl⟩
    rw [hE] at hT ⊢
    have HE : Hid ((if (hs.drop 0).all (thereB ns.length) then (0 : Int) else 2) = E) := by
      have := hE
      unfold toldE at this
      rw [hr, if_pos rfl] at this
      exact this
    obtain ⟨T, hTe⟩ : ∃ T, (if E = 0 then R else []) = T := ⟨_, rfl⟩
    rw [hTe]
    have HTe := hid hTe
    have HT := hid hT
    clear hE hT e1 hTe
    go_enter Tryz.func25, Tryz.ntmps25
    go_wp2_with fail
    refine (HC.out _ ((Below.refl _ w).alloc (Nat.le_refl _) _)).mono ?_
    rintro e v1 ⟨rfl, hb1⟩
    have HB1 := hid (box_go hb1)
    have cb := box_forest hb1
    clear hb1 HC
    go_wp2
    go_loopw [24] (fun t wr => ∃ k : Nat, k ≤ hs.length ∧ t = .int .i64 k ∧ wr = v1 ∧ Hid ((if (hs.drop k).all (thereB ns.length) then (0 : Int) else 2) = E)) (fun t _ => hs.length - (RowKit.intOf t).toNat)
    case atStart => exact ⟨0, Nat.zero_le _, rfl, rfl, HE⟩
    case round =>
      obtain ⟨k, k1, rfl, rfl, hK⟩ := hrel
      by_cases hlt : k < hs.length
      · obtain ⟨b, off, rfl, hlt1, ha⟩ := g2 (by omega)
        have x1 := (HB1.out.cell (p := ⟨b, off + k, none⟩) hlt1).trans (ha k hlt)
        have q1 : (0 : Int) ≤ (k : Int) := by omega
        have q2 : (k : Int) < (hs.length : Int) := by omega
        have hk := hK.out
        rw [List.drop_eq_getElem_cons hlt, List.all_cons] at hk
        have Hk := hid hk
        clear hk hK ha g2
        generalize hs[k] = a at *
        by_cases g1 : a < 1
        · have hf : thereB ns.length a = false := by unfold thereB; rw [decide_eq_false (by omega)]; rfl
          have hE2 : E = 2 := by rw [← Hk.out, hf]; rfl
          subst hE2
          have hT0 : T = [] := by rw [← HTe.out]; rfl
          subst hT0
          have d1 : decide (a < 1) = true := decide_eq_true g1
          clear Hk hf HT
          go_wp2
          go_ret2
          exact ⟨_, rfl, World.ownsRow_nil _ _ _ _, HB1.out⟩
        · have d1 : decide (a < 1) = false := decide_eq_false g1
          by_cases g3 : (ns.length : Int) < a
          · have hf : thereB ns.length a = false := by unfold thereB; rw [decide_eq_false (p := a ≤ (ns.length : Int)) (by omega), Bool.and_false]
            have hE2 : E = 2 := by rw [← Hk.out, hf]; rfl
            subst hE2
            have hT0 : T = [] := by rw [← HTe.out]; rfl
            subst hT0
            have d2 : decide ((ns.length : Int) < a) = true := decide_eq_true g3
            clear Hk hf HT
            go_wp2
            go_ret2
            exact ⟨_, rfl, World.ownsRow_nil _ _ _ _, HB1.out⟩
          · have hf : thereB ns.length a = true := by unfold thereB; rw [decide_eq_true (by omega), decide_eq_true (by omega)]; rfl
            have d2 : decide ((ns.length : Int) < a) = false := decide_eq_false g3
            have Hn : Hid ((if (hs.drop (k + 1)).all (thereB ns.length) then (0 : Int) else 2) = E) := by
              have h := Hk.out
              rw [hf, Bool.true_and] at h
              exact h
            clear Hk hf
            go_wp2
            go_roundw
            case rel => exact ⟨k + 1, by omega, by go_num, trivial, Hn⟩
            case measure => simp [RowKit.intOf]; omega
      · have hE0 : E = 0 := by rw [← hK.out, List.drop_eq_nil_of_le (by omega)]; rfl
        subst hE0
        have hT := HT.out rfl wr HB1.out
        have hT0 : T = R := by rw [← HTe.out]; rfl
        subst hT0
        clear hK g2 HT HTe
        go_wp2_with fail
        refine hT.mono ?_
        rintro e v2 ⟨vr, rfl, hrow, hb2⟩
        have HB2 := hid (HB1.out.trans (hb2.mono HB1.out.size))
        have HRow := hid hrow
        clear hT hb2 hrow
        go_wp2
        go_ret2
        exact ⟨_, rfl, HRow.out, HB2.out⟩

set_option maxRecDepth 100000 in
set_option maxHeartbeats 4000000 in
theorem All_any (o : Option Addr) (cap : Nat) (x : Int) (ns : List NodeD) (w : World) (hF : FRd w o cap ns) (hkl : ∀ (i : Nat) (hi : i < ns.length), ns[i].kids.length ≤ 1099511627776) (hal : ∀ (i : Nat) (hi : i < ns.length), ns[i].attrs.length ≤ 1099511627776) (hlen : toldE ns [x] = 0 → (allD ns x).length ≤ 1099511627776) :
    Calls Tryz.prog 7 #[.agg #[.slice o ns.length cap], .int .i64 x] w fun e w' => ∃ v, e = .returned (.tuple #[v, .int .i64 (toldE ns [x])]) ∧ w'.ownsRow w.heap.size 3 1 v (if toldE ns [x] = 0 then allD ns x else []).length ((if toldE ns [x] = 0 then allD ns x else []).map (Value.int .i64)) ∧ Below w.heap.size w w' := by
  have hB3 : Below w.heap.size w (((w.alloc (.cells #[.slice o ns.length cap] 24)).alloc (.cells #[.int .i64 x] 3)).alloc (.cells #[.int .i64 x] 3)) := (((Below.refl _ w).alloc (Nat.le_refl _) _).alloc (by simp) _).alloc (by simp; omega) _
  have k0 := new_cell_l w (.slice o ns.length cap) 24
  have k1 := new_cell_l (w.alloc (.cells #[.slice o ns.length cap] 24)) (.int .i64 x) 3
  have kr := one_rdI ((w.alloc (.cells #[.slice o ns.length cap] 24)).alloc (.cells #[.int .i64 x] 3)) x 3
  simp only [World.size_alloc] at k1 kr
  have c0 := keep_cell_l (.cells #[.int .i64 x] 3) (keep_cell_l (.cells #[.int .i64 x] 3) k0.1)
  have c1 := keep_cell_l (.cells #[.int .i64 x] 3) k1.1
  have s0 : w.heap.size < (((w.alloc (.cells #[.slice o ns.length cap] 24)).alloc (.cells #[.int .i64 x] 3)).alloc (.cells #[.int .i64 x] 3)).heap.size := by simp only [World.size_alloc]; omega
  have hT := toldAll_any o cap w.heap.size (w.heap.size + 1) (allD ns x) (.slice (some ⟨w.heap.size + 1 + 1, 0, none⟩) 1 1) [x] ns (((w.alloc (.cells #[.slice o ns.length cap] 24)).alloc (.cells #[.int .i64 x] 3)).alloc (.cells #[.int .i64 x] 3)) (hF.later hB3) hkl hal kr (by simp) (fun hE W hW => by
    obtain ⟨hR, hth⟩ := toldE_zero hE
    have hx := hth x (by simp)
    obtain ⟨i, hi, _⟩ := there_idx hx
    obtain ⟨b, off, rfl, hFA⟩ := hF.at_ (by omega)
    have hBW := hB3.trans (hW.mono hB3.size)
    have h1 := All1_any b off cap w.heap.size (w.heap.size + 1) x ns W hR (hFA.later hBW) hx hkl (hlen hE)
      ((hW.cell (p := ⟨w.heap.size, 0, none⟩) s0).trans c0)
      ((hW.cell (p := ⟨w.heap.size + 1, 0, none⟩) (by show w.heap.size + 1 < _; simp only [World.size_alloc]; omega)).trans c1)
    refine h1.mono ?_
    rintro e w' ⟨v, rfl, hr, hb⟩
    exact ⟨v, rfl, ownsRow_base hr hW.size, hb⟩)
  generalize (if toldE ns [x] = 0 then allD ns x else []) = A at *
  generalize toldE ns [x] = E at *
  have HB3 := hid hB3
  clear k0 k1 kr c0 c1 s0 hF hkl hal hB3 hlen
  go_enter Tryz.func7, Tryz.ntmps7
  go_wp2_with fail
  refine hT.mono ?_
  rintro e v1 ⟨v, rfl, hrow, hb1⟩
  have HRow := hid (ownsRow_base hrow HB3.out.size)
  have HB := hid (HB3.out.trans (hb1.mono HB3.out.size))
  clear hT hb1 HB3 hrow
  go_wp2
  go_ret2
  exact ⟨_, rfl, HRow.out, HB.out⟩
end Go.Proofs.YtfaeabjgplahgaaGreat
