/- Going up by a function of the program's own: node, parentOf, overOf; the iterator upBy. -/
/- Whether a node is among those that an iterator gives (has, contains); the last one (lastOf, rootOf, topOf). -/
/- What an iterator gives, collected (slices.Collect); the path to a node (pathOf). -/
/- How long two paths run together (fork); where a kid stands (indexOf); cmp.Compare. -/
/- How two nodes stand to one another (standOf). -/
import Derived.Test.YticenjhhefiboaaFSurW
import Derived.Test.YticenjhhefiboaaFOrd2
import Derived.RangeFuncNested
import Derived.RangeFuncBound
import Derived.RangeFuncCalls
import Derived.RangeFuncLeaves
import Derived.Shelf.Abstract
import Derived.Shelf.RegionOpen
import Derived.OwnWalkIn
import Derived.TacticsInMore
import Derived.LoopNIn
import Derived.LoopIn
import Derived.Test.YticenjhhefiboaaShelf
import Derived.Maps.AppendAt
import Derived.RangeFuncBox
import Derived.Deep.Upon
import Derived.Deep.MidRow
import Derived.Deep.QuietTactic
import Derived.BigQuiet
namespace Go.Proofs.Yticenjhhefiboaa
open Go.RowKit Go.Lib Go.Shelf
attribute [local go_sem] Oper.semAt_some

theorem grown_of_below {w w' : World} (h : Below w.heap.size w w') : w.grownBy w' none := ⟨h.os, h.tape, h.output, h.size, fun k hk _ => h.block k hk⟩

end Go.Proofs.Yticenjhhefiboaa

namespace Go.Proofs.Yticenjhhefiboaa
open Go.RowKit Go.Lib Go.Shelf
attribute [local go_sem] Oper.semAt_some

theorem box_cell_l {W : World} {B : Nat} {v : Value} {t : TypeId} (h : W.heap[B]? = some (.cells #[v] t (0, 0))) : W.cell? ⟨B, 0, none⟩ = some v ∧ W.frozen? ⟨B, 0, none⟩ = false := by
  constructor <;> simp [World.cell?, World.frozen?, h]
theorem new_cell_l (W : World) (v : Value) (t : TypeId) : (W.alloc (.cells #[v] t)).cell? ⟨W.heap.size, 0, none⟩ = some v ∧ (W.alloc (.cells #[v] t)).frozen? ⟨W.heap.size, 0, none⟩ = false := box_cell_l (heap_new W _)
theorem keep_cell_l {W : World} {a : Addr} {v : Value} (o : Obj) (h : W.cell? a = some v) : (W.alloc o).cell? a = some v := cell_kept h (World.grownBy_alloc W o none) (fun r e => by cases e)
theorem keep_free_l {W : World} {a : Addr} {v : Value} (o : Obj) (h : W.cell? a = some v) (hf : W.frozen? a = false) : (W.alloc o).frozen? a = false := (frozen_kept h (World.grownBy_alloc W o none) (fun r e => by cases e)).trans hf
/-- What upBy has made lies in three boxes. -/
structure UpAt (w : World) (b off cap n k bh bo bf : Nat) (x : Int) : Prop where
  ch : w.cell? ⟨bh, 0, none⟩ = some (.int .i64 x)
  co : w.cell? ⟨bo, 0, none⟩ = some (.func (.func k) #[] #[])
  cf : w.cell? ⟨bf, 0, none⟩ = some (.slice (some ⟨b, off, none⟩) n cap)
  lh : bh < w.heap.size
  lo : bo < w.heap.size
  lf : bf < w.heap.size
theorem UpAt.later {w W : World} {b off cap n k bh bo bf : Nat} {x : Int} (h : UpAt w b off cap n k bh bo bf x) (hb : Below w.heap.size w W) : UpAt W b off cap n k bh bo bf x :=
  ⟨(hb.cell (p := ⟨bh, 0, none⟩) h.lh).trans h.ch, (hb.cell (p := ⟨bo, 0, none⟩) h.lo).trans h.co, (hb.cell (p := ⟨bf, 0, none⟩) h.lf).trans h.cf, Nat.lt_of_lt_of_le h.lh hb.size, Nat.lt_of_lt_of_le h.lo hb.size, Nat.lt_of_lt_of_le h.lf hb.size⟩
/-- What upBy has just made. -/
theorem upAt_new (b off cap n k : Nat) (x : Int) (W : World) :
    UpAt (((W.alloc (.cells #[.slice (some ⟨b, off, none⟩) n cap] 24)).alloc (.cells #[.int .i64 x] 3)).alloc (.cells #[.func (.func k) #[] #[]] 104)) b off cap n k (W.heap.size + 1) (W.heap.size + 1 + 1) W.heap.size x := by
  have c0 := new_cell_l W (.slice (some ⟨b, off, none⟩) n cap) 24
  have c1 := new_cell_l (W.alloc (.cells #[.slice (some ⟨b, off, none⟩) n cap] 24)) (.int .i64 x) 3
  have c2 := new_cell_l ((W.alloc (.cells #[.slice (some ⟨b, off, none⟩) n cap] 24)).alloc (.cells #[.int .i64 x] 3)) (.func (.func k) #[] #[]) 104
  simp only [World.size_alloc] at c1 c2
  exact ⟨keep_cell_l _ c1.1, c2.1, keep_cell_l _ (keep_cell_l _ c0.1), by simp only [World.size_alloc]; omega, by simp only [World.size_alloc]; omega, by simp only [World.size_alloc]; omega⟩
theorem up_below (b off cap n k : Nat) (x : Int) (W : World) :
    Below W.heap.size W (((W.alloc (.cells #[.slice (some ⟨b, off, none⟩) n cap] 24)).alloc (.cells #[.int .i64 x] 3)).alloc (.cells #[.func (.func k) #[] #[]] 104)) :=
  (((Below.refl _ W).alloc (Nat.le_refl _) _).alloc (by simp) _).alloc (by simp; omega) _

end Go.Proofs.Yticenjhhefiboaa

namespace Go.Proofs.Yticenjhhefiboaa
open Go.RowKit Go.Lib Go.Shelf
attribute [local go_sem] Oper.semAt_some

theorem info_int : (Try.prog.info? 3).map (fun i => (i.zero, i.size, i.bytes)) = some (some (.int .i64 0), 1, 8) := by kernel_rfl

theorem setCells_below {B : Nat} (g : Nat) (hg : B ≤ g) : ∀ (vs : List Value) (o : Nat) (w : World), Below B w (w.setCells g o vs)
  | [], _, w => Below.refl _ w
  | v :: vs, o, w => ((Below.refl B w).setCell (p := ⟨g, o, none⟩) hg v).trans (setCells_below g hg vs (o + 1) _)
theorem drewN_below (B q : Nat) (w : World) : Below B w (w.drewN q) := ⟨rfl, rfl, rfl, Nat.le_refl _, fun _ _ => rfl⟩
theorem setCells_size (g : Nat) : ∀ (vs : List Value) (o : Nat) (w : World), (w.setCells g o vs).heap.size = w.heap.size
  | [], _, _ => rfl
  | v :: vs, o, w => (setCells_size g vs (o + 1) _).trans (by simp [World.setCell])
theorem reversed_rdI {v : World} {g cp q : Nat} {xs : List Int} (hgl : g < v.heap.size) (hcell : ∀ j, j < xs.length → v.cell? ⟨g, 0 + j, none⟩ = some (.int .i64 (xs.getD j 0))) (hfr : ∀ k, v.frozen? ⟨g, k, none⟩ = false) (hnc : xs.length ≤ cp) :
    RdI ((v.drewN q).setCells g 0 (xs.map (Value.int .i64)).reverse) (.slice (some ⟨g, 0, none⟩) xs.length cp) xs.reverse := by
  rw [← List.map_reverse]
  have hl : xs.reverse.length = xs.length := List.length_reverse
  have hth : (v.drewN q).there g 0 (xs.reverse.map (Value.int .i64)).length := fun j hj => by
    rw [List.length_map, hl] at hj
    refine ⟨?_, hfr _⟩
    have h : (v.drewN q).cell? ⟨g, 0 + j, none⟩ = _ := hcell j hj
    rw [h]
    rfl
  have hrg := World.rangeAt_setCells_same (v.drewN q) g 0 (xs.reverse.map (Value.int .i64)) hth
  refine ⟨some ⟨g, 0, none⟩, cp, by rw [hl], by rw [hl]; exact hnc, fun _ => ⟨g, 0, rfl, by rw [setCells_size]; exact hgl, fun j hj => ?_⟩⟩
  exact hrg j (.int .i64 xs.reverse[j]) (by rw [List.getElem?_map, List.getElem?_eq_getElem hj]; rfl)

end Go.Proofs.Yticenjhhefiboaa

namespace Go.Proofs.Yticenjhhefiboaa
open Go.RowKit Go.Lib Go.Shelf

theorem forkN_drop (p q : List Int) (k : Nat) (h1 : k < p.length) (h2 : k < q.length) : forkN (p.drop k) (q.drop k) = if p[k] == q[k] then forkN (p.drop (k + 1)) (q.drop (k + 1)) + 1 else 0 := by
  rw [List.drop_eq_getElem_cons h1, List.drop_eq_getElem_cons h2, forkN]
theorem forkN_end (p q : List Int) (k : Nat) (h : ¬ (k < p.length ∧ k < q.length)) : forkN (p.drop k) (q.drop k) = 0 := by
  by_cases h1 : k < p.length
  · have h2 : q.length ≤ k := by omega
    rw [List.drop_eq_nil_of_le h2]
    cases p.drop k <;> rfl
  · rw [List.drop_eq_nil_of_le (by omega : p.length ≤ k)]
    cases q.drop k <;> rfl

set_option maxRecDepth 100000 in
set_option maxHeartbeats 2000000 in
theorem index_any (v : Value) (l : List Int) (x : Int) (w : World) (hv : RdI w v l) (hl : l.length ≤ 1099511627776) :
    Calls Try.prog 42 #[v, .int .i64 x] w fun e w' => e = .returned (.int .i64 (idxI l x 0)) ∧ w' = w := by
  obtain ⟨o, c, rfl, hc, g⟩ := hv
  obtain ⟨N, hN⟩ : ∃ N, idxI l x 0 = N := ⟨_, rfl⟩
  rw [hN]
  have HN : Hid (idxI (l.drop 0) x 0 = N) := hN
  clear hN
  go_enter Try.func42, Try.ntmps42
  go_wp2
  go_loopw [8] (fun t wr => ∃ k : Nat, k ≤ l.length ∧ t = .int .i64 k ∧ wr = w ∧ Hid (idxI (l.drop k) x k = N)) (fun t _ => l.length - (RowKit.intOf t).toNat)
  case atStart => exact ⟨0, Nat.zero_le _, rfl, rfl, HN⟩
  case round =>
    obtain ⟨k, k1, rfl, rfl, hK⟩ := hrel
    by_cases hlt : k < l.length
    · obtain ⟨b, off, rfl, hlt1, ha⟩ := g (by omega)
      have x1 := ha k hlt
      have q1 : (0 : Int) ≤ (k : Int) := by omega
      have q2 : (k : Int) < (l.length : Int) := by omega
      have hk := hK.out
      rw [List.drop_eq_getElem_cons hlt, idxI] at hk
      have Hk := hid hk
      clear hk hK ha g
      generalize l[k] = a at *
      cases he : (a == x) with
      | true =>
        have hNk : N = (k : Int) := by
          rw [← Hk.out, he]
          rfl
        have he2 : (x == a) = true := by rw [eq_of_beq he]; exact beq_self_eq_true x
        subst hNk
        clear Hk he
        go_wp2
        go_ret
        exact ⟨rfl, rfl⟩
      | false =>
        have Hn : Hid (idxI (l.drop (k + 1)) x (k + 1) = N) := by
          have h := Hk.out
          rw [he, if_neg Bool.false_ne_true] at h
          exact h
        have he2 : (x == a) = false := beq_eq_false_iff_ne.2 (fun e => by rw [e, beq_self_eq_true] at he; cases he)
        clear Hk he
        go_wp2
        go_roundw
        case rel => exact ⟨k + 1, by omega, by go_num, trivial, Hn⟩
        case measure => simp [RowKit.intOf]; omega
    · have hNk : N = -1 := by
        rw [← hK.out, List.drop_eq_nil_of_le (by omega)]
        rfl
      subst hNk
      clear hK g
      go_wp2
      go_ret
      exact ⟨rfl, rfl⟩

end Go.Proofs.Yticenjhhefiboaa

namespace Go.Proofs.Yticenjhhefiboaa
open Go.RowKit Go.Lib Go.Shelf

theorem pathD_len {ns : List NodeD} (h : RightF ns) {x : Int} (hx : thereB ns.length x = true) : (pathD ns x).length ≤ 4096 := by
  unfold pathD
  rw [List.length_reverse]
  exact Nat.le_trans (pathUp_len ns _ h.parentOK h.ends x (.inr hx)) h.small
theorem two_cells {W : World} {bs : Nat} {a b : Value} {t : TypeId} (h : W.heap[bs]? = some (.cells #[a, b] t (0, 0))) : W.cell? ⟨bs, 0, none⟩ = some a ∧ W.cell? ⟨bs, 1, none⟩ = some b ∧ W.frozen? ⟨bs, 0, none⟩ = false ∧ W.frozen? ⟨bs, 1, none⟩ = false :=
  ⟨by rw [cell_of_heap h]; rfl, by rw [cell_of_heap h]; rfl, frozen_of_heap h 0, frozen_of_heap h 1⟩

theorem three_later {W V : World} {a1 a2 a3 : Addr} {x1 x2 x3 : Value} (h : W.cell? a1 = some x1 ∧ W.cell? a2 = some x2 ∧ W.cell? a3 = some x3) (l : a1.block < W.heap.size ∧ a2.block < W.heap.size ∧ a3.block < W.heap.size) (hb : Below W.heap.size W V) :
    V.cell? a1 = some x1 ∧ V.cell? a2 = some x2 ∧ V.cell? a3 = some x3 := ⟨(hb.cell l.1).trans h.1, (hb.cell l.2.1).trans h.2.1, (hb.cell l.2.2).trans h.2.2⟩
theorem row_ne {W : World} {b k o : Nat} {z : Int} {t : TypeId} (h : W.heap[k]? = some (.cells #[.int .i64 0, .bool false] t (0, 0))) (hz : z ≠ 0) (hc : W.cell? ⟨b, o, none⟩ = some (.int .i64 z)) : b ≠ k := by
  rintro rfl
  rw [cell_of_heap h] at hc
  match o, hc with
  | 0, hc => simp at hc; exact hz hc.symm
  | 1, hc => simp at hc
  | _ + 2, hc => simp at hc
theorem cell_far {W : World} {a : Addr} {v u : Value} {k o : Nat} (h : W.cell? a = some v) (hne : a.block ≠ k) : (W.setCell ⟨k, o, none⟩ u).cell? a = some v := by
  unfold World.cell? at h ⊢
  have e : (W.setCell ⟨k, o, none⟩ u).heap[a.block]? = W.heap[a.block]? := by simp [World.setCell, Array.getElem?_modify, Ne.symm hne]
  rw [e]
  exact h
theorem three_set {W : World} {a1 a2 a3 : Addr} {x1 x2 x3 u1 u2 : Value} {k o1 o2 : Nat} (h : W.cell? a1 = some x1 ∧ W.cell? a2 = some x2 ∧ W.cell? a3 = some x3) (n : a1.block ≠ k ∧ a2.block ≠ k ∧ a3.block ≠ k) :
    ((W.setCell ⟨k, o1, none⟩ u1).setCell ⟨k, o2, none⟩ u2).cell? a1 = some x1 ∧ ((W.setCell ⟨k, o1, none⟩ u1).setCell ⟨k, o2, none⟩ u2).cell? a2 = some x2 ∧ ((W.setCell ⟨k, o1, none⟩ u1).setCell ⟨k, o2, none⟩ u2).cell? a3 = some x3 :=
  ⟨cell_far (cell_far h.1 n.1) n.1, cell_far (cell_far h.2.1 n.2.1) n.2.1, cell_far (cell_far h.2.2 n.2.2) n.2.2⟩
theorem there_ne {n : Nat} {z : Int} (h : thereB n z = true) : z ≠ 0 := by
  rintro rfl
  unfold thereB at h
  simp at h
theorem three_lt {W V : World} {k1 k2 k3 : Nat} (l : k1 < W.heap.size ∧ k2 < W.heap.size ∧ k3 < W.heap.size) (hb : Below W.heap.size W V) : k1 < V.heap.size ∧ k2 < V.heap.size ∧ k3 < V.heap.size :=
  ⟨Nat.lt_of_lt_of_le l.1 hb.size, Nat.lt_of_lt_of_le l.2.1 hb.size, Nat.lt_of_lt_of_le l.2.2 hb.size⟩

end Go.Proofs.Yticenjhhefiboaa
