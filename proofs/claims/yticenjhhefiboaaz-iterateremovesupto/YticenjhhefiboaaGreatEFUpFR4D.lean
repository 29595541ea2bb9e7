/- Going up by a function of the program's own: node, parentOf, overOf; the iterator upBy. -/
/- Whether a node is among those that an iterator gives (has, contains); the last one (lastOf, rootOf, topOf). -/
/- What an iterator gives, collected (slices.Collect); the path to a node (pathOf). -/
/- How long two paths run together (fork); where a kid stands (indexOf); cmp.Compare. -/
/- How two nodes stand to one another (standOf). -/
/- A range over a function whose assignment writes a variable that the loop's relation speaks of ('for last = range all'): the relation holds between rounds alone; behind the assignment another one does. -/
/- The last one that an iterator gives (lastOf, rootOf, topOf). -/
/- What lies in a node, in tree order (listOf, whose inner function calls itself). -/
/- What lies in a node (listOf for kids; All). -/
/- What compareDocumentPosition answers (positionOf, Compare). -/
/- The walk of Compare. -/
/- The walk of Common. -/
/- What containing goes with: plain. -/
/- Tree order: where nodes stand in the list of a tree, and what comes next: plain. -/
/- Whether two lists of numbers are one (canopyref04.Ints). -/
/- The reference of order: Of, Place. -/
/- The reference of order: Root, Ancestors. -/
/- The reference of order: Contains, Common. -/
/- The reference of order: All. -/
import Derived.Test.YticenjhhefiboaaGreatFSurW
import Derived.Test.YticenjhhefiboaaGreatFOrd2
import Derived.RangeFuncNested
import Derived.RangeFuncBound
import Derived.RangeFuncCalls
import Derived.RangeFuncLeaves
import Derived.Shelf.Abstract
import Derived.Shelf.RegionOpen
import Derived.OwnWalkIn
import Derived.TacticsInMore
import Derived.LoopNIn
import Derived.LoopIn
import Derived.Test.YticenjhhefiboaaGreatShelf
import Derived.Maps.AppendAt
import Derived.RangeFuncBox
import Derived.Deep.Upon
import Derived.Deep.MidRow
import Derived.Deep.QuietTactic
import Derived.BigQuiet
import Derived.Test.YticenjhhefiboaaGreatFBelow
import Derived.Laws.EntriesVeiled
import Derived.Test.YticenjhhefiboaaGreatEFWellFCheck
import Derived.Test.YticenjhhefiboaaGreatFRefN
import Derived.Test.YticenjhhefiboaaGreatFRefM
import Derived.Deep.RegionLaw
namespace Go.Proofs.YticenjhhefiboaaGreat
open Go.RowKit Go.Lib Go.Shelf
attribute [local go_sem] Oper.semAt_some

theorem grown_of_below {w w' : World} (h : Below w.heap.size w w') : w.grownBy w' none := ⟨h.os, h.tape, h.output, h.size, fun k hk _ => h.block k hk⟩

end Go.Proofs.YticenjhhefiboaaGreat

namespace Go.Proofs.YticenjhhefiboaaGreat
open Go.RowKit Go.Lib Go.Shelf
attribute [local go_sem] Oper.semAt_some

theorem box_cell_l {W : World} {B : Nat} {v : Value} {t : TypeId} (h : W.heap[B]? = some (.cells #[v] t (0, 0))) : W.cell? ⟨B, 0, none⟩ = some v ∧ W.frozen? ⟨B, 0, none⟩ = false := by
  constructor <;> simp [World.cell?, World.frozen?, h]
theorem new_cell_l (W : World) (v : Value) (t : TypeId) : (W.alloc (.cells #[v] t)).cell? ⟨W.heap.size, 0, none⟩ = some v ∧ (W.alloc (.cells #[v] t)).frozen? ⟨W.heap.size, 0, none⟩ = false := box_cell_l (heap_new W _)
theorem keep_cell_l {W : World} {a : Addr} {v : Value} (o : Obj) (h : W.cell? a = some v) : (W.alloc o).cell? a = some v := cell_kept h (World.grownBy_alloc W o none) (fun r e => by cases e)
theorem keep_free_l {W : World} {a : Addr} {v : Value} (o : Obj) (h : W.cell? a = some v) (hf : W.frozen? a = false) : (W.alloc o).frozen? a = false := (frozen_kept h (World.grownBy_alloc W o none) (fun r e => by cases e)).trans hf
/-- What upBy has made lies in three boxes. -/
structure UpAt (w : World) (b off cap n k bh bo bf : Nat) (x : Int) : Prop where
  ch : w.cell? ⟨bh, 0, none⟩ = some (.int .i64 x)
  co : w.cell? ⟨bo, 0, none⟩ = some (.func (.func k) #[] #[])
  cf : w.cell? ⟨bf, 0, none⟩ = some (.slice (some ⟨b, off, none⟩) n cap)
  lh : bh < w.heap.size
  lo : bo < w.heap.size
  lf : bf < w.heap.size
theorem UpAt.later {w W : World} {b off cap n k bh bo bf : Nat} {x : Int} (h : UpAt w b off cap n k bh bo bf x) (hb : Below w.heap.size w W) : UpAt W b off cap n k bh bo bf x :=
  ⟨(hb.cell (p := ⟨bh, 0, none⟩) h.lh).trans h.ch, (hb.cell (p := ⟨bo, 0, none⟩) h.lo).trans h.co, (hb.cell (p := ⟨bf, 0, none⟩) h.lf).trans h.cf, Nat.lt_of_lt_of_le h.lh hb.size, Nat.lt_of_lt_of_le h.lo hb.size, Nat.lt_of_lt_of_le h.lf hb.size⟩
end Go.Proofs.YticenjhhefiboaaGreat

namespace Go.Proofs.YticenjhhefiboaaGreat
open Go.RowKit Go.Lib Go.Shelf
attribute [local go_sem] Oper.semAt_some

theorem info_int : (Tryz.prog.info? 3).map (fun i => (i.zero, i.size, i.bytes)) = some (some (.int .i64 0), 1, 8) := by kernel_rfl

theorem drewN_below (B q : Nat) (w : World) : Below B w (w.drewN q) := ⟨rfl, rfl, rfl, Nat.le_refl _, fun _ _ => rfl⟩
end Go.Proofs.YticenjhhefiboaaGreat

namespace Go.Proofs.YticenjhhefiboaaGreat
open Go.RowKit Go.Lib Go.Shelf

set_option maxRecDepth 100000 in
set_option maxHeartbeats 2000000 in
theorem index_any (v : Value) (l : List Int) (x : Int) (w : World) (hv : RdI w v l) (hl : l.length ≤ 1099511627776) :
    Calls Tryz.prog 88 #[v, .int .i64 x] w fun e w' => e = .returned (.int .i64 (idxI l x 0)) ∧ w' = w := by
  obtain ⟨o, c, rfl, hc, g⟩ := hv
  obtain ⟨N, hN⟩ : ∃ N, idxI l x 0 = N := ⟨_, rfl⟩
  rw [hN]
  have HN : Hid (idxI (l.drop 0) x 0 = N) := hN
  clear hN
  go_enter Tryz.func88, Tryz.ntmps88
  go_wp2
  go_loopw [8] (fun t wr => ∃ k : Nat, k ≤ l.length ∧ t = .int .i64 k ∧ wr = w ∧ Hid (idxI (l.drop k) x k = N)) (fun t _ => l.length - (RowKit.intOf t).toNat)
  case atStart => exact ⟨0, Nat.zero_le _, rfl, rfl, HN⟩
  case round =>
    obtain ⟨k, k1, rfl, rfl, hK⟩ := hrel
    by_cases hlt : k < l.length
    · obtain ⟨b, off, rfl, hlt1, ha⟩ := g (by omega)
      have x1 := ha k hlt
      have q1 : (0 : Int) ≤ (k : Int) := by omega
      have q2 : (k : Int) < (l.length : Int) := by omega
      have hk := hK.out
      rw [List.drop_eq_getElem_cons hlt, idxI] at hk
      have Hk := hid hk
      clear hk hK ha g
      generalize l[k] = a at *
      cases he : (a == x) with
      | true =>
        have hNk : N = (k : Int) := by
          rw [← Hk.out, he]
          rfl
        have he2 : (x == a) = true := by rw [eq_of_beq he]; exact beq_self_eq_true x
        subst hNk
        clear Hk he
        go_wp2
        go_ret
        exact ⟨rfl, rfl⟩
      | false =>
        have Hn : Hid (idxI (l.drop (k + 1)) x (k + 1) = N) := by
          have h := Hk.out
          rw [he, if_neg Bool.false_ne_true] at h
          exact h
        have he2 : (x == a) = false := beq_eq_false_iff_ne.2 (fun e => by rw [e, beq_self_eq_true] at he; cases he)
        clear Hk he
        go_wp2
        go_roundw
        case rel => exact ⟨k + 1, by omega, by go_num, trivial, Hn⟩
        case measure => simp [RowKit.intOf]; omega
    · have hNk : N = -1 := by
        rw [← hK.out, List.drop_eq_nil_of_le (by omega)]
        rfl
      subst hNk
      clear hK g
      go_wp2
      go_ret
      exact ⟨rfl, rfl⟩

end Go.Proofs.YticenjhhefiboaaGreat

namespace Go.Proofs.YticenjhhefiboaaGreat
open Go.RowKit Go.Lib Go.Shelf

theorem there_ne {n : Nat} {z : Int} (h : thereB n z = true) : z ≠ 0 := by
  rintro rfl
  unfold thereB at h
  simp at h
end Go.Proofs.YticenjhhefiboaaGreat

namespace Go.Proofs.YticenjhhefiboaaGreat
open Go Go.RowKit

end Go.Proofs.YticenjhhefiboaaGreat

namespace Go.Proofs.YticenjhhefiboaaGreat
open Go.RowKit Go.Lib Go.Shelf
attribute [local go_sem] Oper.semAt_some

/-- The last one; 0: there is none. -/
def lastI (l : List Int) : Int := l.getLastD 0
end Go.Proofs.YticenjhhefiboaaGreat

namespace Go.Proofs.YticenjhhefiboaaGreat
open Go.RowKit Go.Lib Go.Shelf

theorem boxed_later {W V : World} {B : Nat} {t : TypeId} {v : Value} (h : Boxed W B t v) (hb : Below W.heap.size W V) : Boxed V B t v := (hb.block B h.lt).trans h
theorem ownsRow_later {W V : World} {base : Nat} {e : TypeId} {size : Nat} {v : Value} {k : Nat} {xs : List Value} (h : W.ownsRow base e size v k xs) (hb : Below W.heap.size W V) : V.ownsRow base e size v k xs := by
  refine h.kept (grown_of_below hb) ?_
  rcases h.2 with ⟨rfl, _⟩ | ⟨g, cap, cur, rfl, _⟩
  · exact .inl rfl
  · exact .inr (by simp [Value.ownBlock])
theorem ownsRow_rdI {W : World} {base : Nat} {e : TypeId} {v : Value} {l : List Int} (h : W.ownsRow base e 1 v l.length (l.map (Value.int .i64))) : RdI W v l := by
  obtain ⟨_, ⟨rfl, h0⟩ | ⟨g, cp, cur, rfl, hg, hh, hnc, hcm, hcs, htk⟩⟩ := h
  · exact ⟨none, 0, by rw [h0], by omega, fun hp => absurd hp (by omega)⟩
  · refine ⟨_, cp, rfl, hnc, fun _ => ⟨g, 0, rfl, (Array.getElem?_eq_some_iff.1 hh).1, fun j hj => ?_⟩⟩
    rw [cell_of_heap hh, Nat.zero_add]
    have h1 : (cur.toList.take (l.length * 1))[j]? = some (.int .i64 l[j]) := by
      rw [htk, List.getElem?_map, List.getElem?_eq_getElem hj]
      rfl
    rw [List.getElem?_take] at h1
    split at h1
    · simpa using h1
    · cases h1

/-- The boxes of listOf's inner function. -/
structure VisitAt (W : World) (b off cap n hk bl bh bf bv : Nat) : Prop where
  hang : Boxed W bh 62 (.func (.func hk) #[] #[])
  forest : Boxed W bf 24 (.slice (some ⟨b, off, none⟩) n cap)
  visit : Boxed W bv 106 (.func (.func 66) #[] #[.pointer (some ⟨bl, 0, none⟩), .pointer (some ⟨bh, 0, none⟩), .pointer (some ⟨bf, 0, none⟩), .pointer (some ⟨bv, 0, none⟩)])
theorem VisitAt.later {W V : World} {b off cap n hk bl bh bf bv : Nat} (h : VisitAt W b off cap n hk bl bh bf bv) (hb : Below W.heap.size W V) : VisitAt V b off cap n hk bl bh bf bv := ⟨boxed_later h.hang hb, boxed_later h.forest hb, boxed_later h.visit hb⟩
/-- The list that grows. -/
def ListBox (W : World) (base bl : Nat) (l : List Int) : Prop := ∃ v, Boxed W bl 43 v ∧ W.ownsRow base 3 1 v l.length (l.map (Value.int .i64))
theorem ListBox.later {W V : World} {base bl : Nat} {l : List Int} (h : ListBox W base bl l) (hb : Below W.heap.size W V) : ListBox V base bl l := by
  obtain ⟨v, h1, h2⟩ := h
  exact ⟨v, boxed_later h1 hb, ownsRow_later h2 hb⟩

end Go.Proofs.YticenjhhefiboaaGreat

namespace Go.Proofs.YticenjhhefiboaaGreat
open Go.RowKit Go.Lib Go.Shelf

/-- A node and what lies in it, in tree order. -/
def allD (ns : List NodeD) (x : Int) : List Int := belowF (kidsD ns) (ns.length + 1) x

end Go.Proofs.YticenjhhefiboaaGreat

namespace Go.Proofs.YticenjhhefiboaaGreat
open Go.RowKit Go.Lib Go.Shelf

/-- The error of a call of order, by its forest and its handles. -/
def toldE (ns : List NodeD) (hs : List Int) : Int := if rightD ns then (if hs.all (thereB ns.length) then 0 else 2) else 5
end Go.Proofs.YticenjhhefiboaaGreat

namespace Go.Proofs.YticenjhhefiboaaGreat
open Go.RowKit Go.Lib Go.Shelf

end Go.Proofs.YticenjhhefiboaaGreat

namespace Go.Proofs.YticenjhhefiboaaGreat
open Go.RowKit Go.Lib Go.Shelf

end Go.Proofs.YticenjhhefiboaaGreat

namespace Go.Proofs.YticenjhhefiboaaGreat
open Go.RowKit Go.Lib

theorem idxI_none : ∀ (l : List Int) (x : Int) (k : Nat), x ∉ l → idxI l x k = -1
  | [], _, _, _ => rfl
  | y :: t, x, k, h => by
    unfold idxI
    rw [beq_eq_false_iff_ne.2 (fun e => h (by rw [e]; simp)), if_neg Bool.false_ne_true]
    exact idxI_none t x (k + 1) (fun hin => h (List.mem_cons_of_mem _ hin))
theorem idxI_in (l : List Int) (x : Int) : decide (0 ≤ idxI l x 0) = decide (x ∈ l) := by
  by_cases h : x ∈ l
  · obtain ⟨j, _, _, e⟩ := idxI_of l x 0 h
    rw [e, decide_eq_true h, decide_eq_true (by omega)]
  · rw [idxI_none l x 0 h, decide_eq_false h]
    rfl
section
variable {ns : List NodeD} {up : Int → Int} {hang : Int → List Int}
theorem Hangs.drop (h : Hangs ns up hang) : ∀ (j : Nat) (a : Int), thereB ns.length a = true → j < (pathUp ns up a).length → pathUp ns up ((pathUp ns up a).getD j 0) = (pathUp ns up a).drop j
  | 0, a, ha, _ => by
    rw [List.drop_zero]
    conv => lhs; rw [h.head ha]
    rfl
  | j + 1, a, ha, hj => by
    have hh := h.head ha
    rw [hh] at hj ⊢
    simp only [List.length_cons] at hj
    have h0 : up a ≠ 0 := fun e0 => by rw [e0, pathUp_zero] at hj; simp at hj
    have := h.drop j (up a) (h.up_there ha h0) (by omega)
    simpa using this
end
end Go.Proofs.YticenjhhefiboaaGreat

namespace Go.Proofs.YticenjhhefiboaaGreat
open Go.RowKit Go.Lib

section
variable {ns : List NodeD} {up : Int → Int} {hang : Int → List Int}
theorem Hangs.stable (h : Hangs ns up hang) : ∀ (f g : Nat) (x : Int), thereB ns.length x = true → ns.length < f + (pathUp ns up x).length → ns.length < g + (pathUp ns up x).length → belowF hang f x = belowF hang g x
  | 0, _, x, hx, hf, _ => by have := h.len hx; omega
  | _ + 1, 0, x, hx, _, hg => by have := h.len hx; omega
  | f + 1, g + 1, x, hx, hf, hg => by
    rw [belowF, belowF]
    congr 1
    rw [List.flatMap_def, List.flatMap_def]
    congr 1
    refine List.map_congr_left fun k hk => ?_
    have hd := h.deep hx hk
    exact h.stable f g k (h.down x k hx hk).1 (by omega) (by omega)
/-- All below, by the kids. -/
theorem Hangs.cons (h : Hangs ns up hang) {x : Int} (hx : thereB ns.length x = true) : belowF hang (ns.length + 1) x = x :: (hang x).flatMap (belowF hang (ns.length + 1)) := by
  rw [belowF]
  congr 1
  rw [List.flatMap_def, List.flatMap_def]
  congr 1
  refine List.map_congr_left fun k hk => ?_
  have hd := h.deep hx hk
  exact h.stable _ _ k (h.down x k hx hk).1 (by omega) (by omega)
end
theorem all_cons {ns : List NodeD} (h : RightF ns) {x : Int} (hx : thereB ns.length x = true) : allD ns x = x :: (kidsD ns x).flatMap (allD ns) := h.kidsHang.cons hx
end Go.Proofs.YticenjhhefiboaaGreat

namespace Go.Proofs.YticenjhhefiboaaGreat
open Go.RowKit Go.Lib Go.Shelf

end Go.Proofs.YticenjhhefiboaaGreat

namespace Go.Proofs.YticenjhhefiboaaGreat
open Go.RowKit Go.Lib Go.Shelf

set_option maxRecDepth 100000 in
set_option maxHeartbeats 4000000 in
theorem refOf_at (b off cap j : Nat) (ns : List NodeD) (w W : World) (hF : FAt w b off cap ns) (hW : Below w.heap.size w W) (hj : j < ns.length) :
    Calls Tryz.prog 63 #[.agg #[.slice (some ⟨b, off, none⟩) ns.length cap], .int .i64 ((j : Int) + 1)] W fun e w' => ∃ L : Lists, e = .returned (nodeV ns[j] L) ∧ RdN w L.data ns[j].data ∧ RdA w L.attrs ns[j].attrs ∧ RdI w L.kids ns[j].kids ∧ Below W.heap.size W w' := by
  have hle := hF.len
  obtain ⟨L, hc, hd, ha, hk⟩ := hF.at_ j hj
  have hs := hW.size
  have hB : Below w.heap.size w ((W.alloc (.cells #[.slice (some ⟨b, off, none⟩) ns.length cap] 24)).alloc (.cells #[.int .u8 0, .string ⟨#[]⟩, .string ⟨#[]⟩, .string ⟨#[]⟩, .string ⟨#[]⟩, .string ⟨#[]⟩, .slice none 0 0, .slice none 0 0, .int .i64 0, .slice none 0 0, .int .i64 0, .int .i64 0, .int .i64 0, .int .u8 0, .bool false, .bool false] 83)) := (hW.alloc hs _).alloc (by simp; omega) _
  obtain ⟨c0, c1, c2, c3, c4, c5, c6, c7, c8, c9, c10, c11, c12, c13, c14, c15⟩ := hc.later hF.lt hB
  have Hd := hid hd
  have Ha := hid ha
  have Hk := hid hk
  obtain ⟨D, A, K⟩ := L
  obtain ⟨od, cd, e1, _⟩ := hd
  obtain ⟨oa, ca, e2, _⟩ := ha
  obtain ⟨ok, ck, e3, _⟩ := hk
  simp only at e1 e2 e3
  subst e1 e2 e3
  have q1 : (0 : Int) ≤ (j : Int) := by omega
  have q2 : (j : Int) < (ns.length : Int) := by omega
  clear hF hc hB hW hs
  generalize ns[j] = n at *
  go_enter Tryz.func63, Tryz.ntmps63
  go_wp2
  have hB2 : ∀ o2 : Obj, Below W.heap.size W ((W.alloc (.cells #[.slice (some ⟨b, off, none⟩) ns.length cap] 24)).alloc o2) := fun o2 => ((Below.refl _ W).alloc (Nat.le_refl _) _).alloc (by simp) _
  exact bodyPost_ret (v := nodeV n ⟨.slice od n.data.length cd, .slice oa n.attrs.length ca, .slice ok n.kids.length ck⟩) (by simp [results, Tryz.results63, go_sem, nodeV]) rfl ⟨⟨.slice od n.data.length cd, .slice oa n.attrs.length ca, .slice ok n.kids.length ck⟩, rfl, Hd.out, Ha.out, Hk.out, hB2 _⟩
theorem refOf_any (b off cap j : Nat) (ns : List NodeD) (w : World) (hF : FAt w b off cap ns) (hj : j < ns.length) :
    Calls Tryz.prog 63 #[.agg #[.slice (some ⟨b, off, none⟩) ns.length cap], .int .i64 ((j : Int) + 1)] w fun e w' => ∃ L : Lists, e = .returned (nodeV ns[j] L) ∧ RdN w' L.data ns[j].data ∧ RdA w' L.attrs ns[j].attrs ∧ RdI w' L.kids ns[j].kids ∧ Below w.heap.size w w' := by
  refine (refOf_at b off cap j ns w w hF (Below.refl _ _) hj).mono ?_
  rintro e w' ⟨L, rfl, h1, h2, h3, hb⟩
  exact ⟨L, rfl, h1.later hb, h2.later hb, h3.later hb, hb⟩

set_option maxRecDepth 100000 in
set_option maxHeartbeats 2000000 in
theorem refPlace_any (v : Value) (l : List Int) (x : Int) (w : World) (hv : RdI w v l) (hl : l.length ≤ 1099511627776) :
    Calls Tryz.prog 34 #[v, .int .i64 x] w fun e w' => e = .returned (.int .i64 (idxI l x 0)) ∧ w' = w := by
  obtain ⟨o, c, rfl, hc, g⟩ := hv
  obtain ⟨N, hN⟩ : ∃ N, idxI l x 0 = N := ⟨_, rfl⟩
  rw [hN]
  have HN : Hid (idxI (l.drop 0) x 0 = N) := hN
  clear hN
  go_enter Tryz.func34, Tryz.ntmps34
  go_wp2
  go_loopw [5] (fun t wr => ∃ k : Nat, k ≤ l.length ∧ t = .int .i64 k ∧ wr = w ∧ Hid (idxI (l.drop k) x k = N)) (fun t _ => l.length - (RowKit.intOf t).toNat)
  case atStart => exact ⟨0, Nat.zero_le _, rfl, rfl, HN⟩
  case round =>
    obtain ⟨k, k1, rfl, rfl, hK⟩ := hrel
    by_cases hlt : k < l.length
    · obtain ⟨b, off, rfl, hlt1, ha⟩ := g (by omega)
      have x1 := ha k hlt
      have q1 : (0 : Int) ≤ (k : Int) := by omega
      have q2 : (k : Int) < (l.length : Int) := by omega
      have hk := hK.out
      rw [List.drop_eq_getElem_cons hlt, idxI] at hk
      have Hk := hid hk
      clear hk hK ha g
      generalize l[k] = a at *
      cases he : (a == x) with
      | true =>
        have hNk : N = (k : Int) := by
          rw [← Hk.out, he]
          rfl
        subst hNk
        clear Hk
        go_wp2
        go_ret
        exact ⟨rfl, rfl⟩
      | false =>
        have Hn : Hid (idxI (l.drop (k + 1)) x (k + 1) = N) := by
          have h := Hk.out
          rw [he, if_neg Bool.false_ne_true] at h
          exact h
        clear Hk
        go_wp2
        go_roundw
        case rel => exact ⟨k + 1, by omega, by go_num, trivial, Hn⟩
        case measure => simp [RowKit.intOf]; omega
    · have hNk : N = -1 := by
        rw [← hK.out, List.drop_eq_nil_of_le (by omega)]
        rfl
      subst hNk
      clear hK g
      go_wp2
      go_ret
      exact ⟨rfl, rfl⟩
end Go.Proofs.YticenjhhefiboaaGreat

namespace Go.Proofs.YticenjhhefiboaaGreat
open Go.RowKit Go.Lib Go.Shelf

/-- A node's parent, read out of its value. -/
theorem fld_parent (n : NodeD) (D A K : Value) (W : World) : Sem.run Tryz.prog (Instr.field 83 (.agg #[.int .u8 (n.kind : Int), .string n.space, .string n.pre, .string n.loc, .string n.pub, .string n.sys, D, A, .int .i64 n.parent, K, .int .i64 n.doc, .int .i64 n.host, .int .i64 n.shadow, .int .u8 (n.mode : Int), .bool n.manual, .bool n.html]) 6) W = .ok (.int .i64 n.parent) W := by kernel_rfl
set_option maxRecDepth 100000 in
set_option maxHeartbeats 4000000 in
theorem refAnc_any (b off cap : Nat) (x : Int) (ns : List NodeD) (w : World) (hR : RightF ns) (hF : FAt w b off cap ns) (hx : thereB ns.length x = true) :
    Calls Tryz.prog 56 #[.agg #[.slice (some ⟨b, off, none⟩) ns.length cap], .int .i64 x] w fun e w' => ∃ v, e = .returned v ∧ RdI w' v (pathUp ns (parentD ns) (parentD ns x)) ∧ Below w.heap.size w w' := by
  obtain ⟨i0, hi, hz0, hz1, hz2⟩ := info_parts info_int
  have HO : Hid (∀ (j : Nat) (hj : j < ns.length) (W : World), Below w.heap.size w W → _) := fun j hj W hW => refOf_any b off cap j ns W (hF.later hW) hj
  have hsmall := hR.small
  have hlen : (pathUp ns (parentD ns) x).length ≤ 4096 := Nat.le_trans (pathUp_len ns _ hR.parentOK hR.ends x (.inr hx)) hR.small
  rw [pathUp_head hR hx, List.length_cons] at hlen
  obtain ⟨P, hP⟩ : ∃ P, pathUp ns (parentD ns) (parentD ns x) = P := ⟨_, rfl⟩
  rw [hP] at hlen ⊢
  have HP : Hid ([] ++ pathUp ns (parentD ns) (parentD ns x) = P) := hP
  clear hP hF
  go_enter Tryz.func56, Tryz.ntmps56
  go_wp2
  go_loopw [1, 5] (fun t v wr => ∃ (y : Int) (done : List Int), thereB ns.length y = true ∧ t = .int .i64 y ∧ Below (w.heap.size + 1) (w.alloc (.cells #[.slice (some ⟨b, off, none⟩) ns.length cap] 24)) wr ∧ wr.ownsRow (w.heap.size + 1) 3 1 v done.length (done.map (Value.int .i64)) ∧ Hid (done ++ pathUp ns (parentD ns) (parentD ns y) = P)) (fun t _ _ => (pathUp ns (parentD ns) (RowKit.intOf t)).length)
  case atStart => exact ⟨x, [], hx, rfl, Below.refl _ _, World.ownsRow_nil _ _ _ _, HP⟩
  case round =>
    obtain ⟨y, done, hy, rfl, hB, hown, hr⟩ := hrel
    have hBw := bx_below hB
    have cb : wr.cell? ⟨w.heap.size, 0, none⟩ = some (.slice (some ⟨b, off, none⟩) ns.length cap) := (hB.cell (p := ⟨w.heap.size, 0, none⟩) (by show w.heap.size < w.heap.size + 1; omega)).trans (by simp)
    have hph := pathUp_head hR hy
    obtain ⟨j, hj, rfl⟩ := there_idx hy
    have hpt := hR.parent_there j hj
    rw [parentD_at ns j hj] at hph hr
    have hO := HO.out j hj wr hBw
    have HO2 : Hid (∀ W : World, Below w.heap.size w W → _) := fun W hW => HO.out j hj W hW
    have HPh := hid hph
    have HPt := hid hpt
    have HB := hid hB
    have HBw := hid hBw
    clear hph hpt hB hBw HP
    generalize ns[j] = n at *
    by_cases h0 : n.parent = 0
    · have hRj : P = done := by
        have h1 := hr.out
        rw [h0, pathUp_zero, List.append_nil] at h1
        exact h1.symm
      subst hRj
      have HOw := hid hown
      have hne : (n.parent != 0) = false := by rw [h0]; rfl
      clear hr HPh HPt hown h0
      go_wp2_with fail
      refine hO.mono ?_
      rintro e v1 ⟨L, rfl, h1, h2, h3, hb1⟩
      obtain ⟨od, cd, oa, ca, ok, ck, rfl⟩ := lists_slices h1 h2 h3
      have HB1 := hid (HBw.out.trans (hb1.mono HBw.out.size))
      have HOw1 := hid (ownsRow_later HOw.out hb1)
      clear h1 h2 h3 hb1 hO HOw
      unfold nodeV
      have hfl := fld_parent n (.slice od n.data.length cd) (.slice oa n.attrs.length ca) (.slice ok n.kids.length ck)
      go_wp2
      go_ret
      exact ⟨_, rfl, ownsRow_rdI HOw1.out, HB1.out⟩
    · have hne : (n.parent != 0) = true := by rw [bne, beq_eq_false_iff_ne.2 h0]; rfl
      have hpt : thereB ns.length n.parent = true := HPt.out.resolve_left h0
      have hr2 := hr.out
      rw [pathUp_head hR hpt] at hr2
      have Hn : Hid ((done ++ [n.parent]) ++ pathUp ns (parentD ns) (parentD ns n.parent) = P) := by
        show _ = _
        rw [List.append_assoc]
        exact hr2
      have hdl : done.length + 1 ≤ 4096 := by
        have := congrArg List.length hr2
        rw [List.length_append, List.length_cons] at this
        omega
      have HOw := hid hown
      clear hr hr2 HPt hown
      go_wp2_with fail
      refine hO.mono ?_
      rintro e v1 ⟨L, rfl, h1, h2, h3, hb1⟩
      obtain ⟨od, cd, oa, ca, ok, ck, rfl⟩ := lists_slices h1 h2 h3
      have hs1 := HB.out.size
      simp only [World.size_alloc] at hs1
      have hB1 := HB.out.trans (hb1.mono hs1)
      have cb1 : v1.cell? ⟨w.heap.size, 0, none⟩ = some (.slice (some ⟨b, off, none⟩) ns.length cap) := (hB1.cell (p := ⟨w.heap.size, 0, none⟩) (by show w.heap.size < w.heap.size + 1; omega)).trans (by simp)
      have hO2 := HO2.out v1 (bx_below hB1)
      have HB1 := hid hB1
      have HOw1 := hid (ownsRow_later HOw.out hb1)
      clear h1 h2 h3 hb1 hO hB1 hs1 HOw
      unfold nodeV
      have hfl := fld_parent n (.slice od n.data.length cd) (.slice oa n.attrs.length ca) (.slice ok n.kids.length ck)
      go_wp2_with fail
      refine hO2.mono ?_
      rintro e v2 ⟨L, rfl, h1, h2, h3, hb2⟩
      obtain ⟨od, cd, oa, ca, ok, ck, rfl⟩ := lists_slices h1 h2 h3
      have hs1 := HB1.out.size
      simp only [World.size_alloc] at hs1
      have HB2 := hid (HB1.out.trans (hb2.mono hs1))
      have hs2 := HB2.out.size
      simp only [World.size_alloc] at hs2
      have hown := ownsRow_later HOw1.out hb2
      clear h1 h2 h3 hb2 hO2 hs1 HOw1
      have m1 : done.length + 1 ≤ maxLen := Nat.le_trans hdl (by decide)
      have m2 : (done.length + 1) * 8 ≤ 140737488355328 := by omega
      have m3 : w.heap.size + 1 ≤ (v2.alloc (.cells #[.int .i64 n.parent] 3)).heap.size := by simp; omega
      unfold nodeV
      have hfl := fld_parent n (.slice od n.data.length cd) (.slice oa n.attrs.length ca) (.slice ok n.kids.length ck)
      go_wp2_with (at_builtin; refine wpList_append_own _ rfl _ _ 43 rfl (w.heap.size + 1) 3 i0 (.int .i64 0) 1 8 Tryz.underlying43 hi hz0 hz1 hz2 rfl (by decide) _ _ _ rfl (hown.alloc _) ⟨v2.heap.size, 0, none⟩ 1 1 [.int .i64 n.parent] rfl rfl (cell_one_new _ _ _) (by simp [Value.oneCell']) m1 m2 m3 ?_; intro v' w1 hown' hgrow _)
      have HB3 : Hid (Below (w.heap.size + 1) v2 w1) := ((Below.refl _ v2).alloc (by omega) _).grown hgrow m3 (fun j hj => (hown.lt j hj).1)
      go_roundw
      case rel => exact ⟨_, done ++ [n.parent], hpt, rfl, HB2.out.trans HB3.out, by simpa using hown', Hn⟩
      case measure =>
        simp only [RowKit.intOf]
        rw [HPh.out]
        simp
end Go.Proofs.YticenjhhefiboaaGreat

namespace Go.Proofs.YticenjhhefiboaaGreat
open Go.RowKit Go.Lib Go.Shelf

theorem contains_parts {ns : List NodeD} (hR : RightF ns) (a : Int) {b : Int} (hb : thereB ns.length b = true) : containsD ns a b = (a == b || decide (0 ≤ idxI (pathUp ns (parentD ns) (parentD ns b)) a 0)) := by
  unfold containsD
  rw [pathUp_head hR hb, idxI_in, List.contains_cons]
  congr 1
  exact List.contains_eq_mem _ _
set_option maxRecDepth 100000 in
set_option maxHeartbeats 4000000 in
theorem refContains_any (b off cap : Nat) (x y : Int) (ns : List NodeD) (w : World) (hR : RightF ns) (hF : FAt w b off cap ns) (hy : thereB ns.length y = true) :
    Calls Tryz.prog 27 #[.agg #[.slice (some ⟨b, off, none⟩) ns.length cap], .int .i64 x, .int .i64 y] w fun e w' => e = .returned (.bool (containsD ns x y)) ∧ Below w.heap.size w w' := by
  have HA : Hid (∀ (W : World), Below w.heap.size w W → _) := fun W hW => refAnc_any b off cap y ns W hR (hF.later hW) hy
  have hsm := hR.small
  have hlen : (pathUp ns (parentD ns) y).length ≤ 4096 := Nat.le_trans (pathUp_len ns _ hR.parentOK hR.ends y (.inr hy)) hR.small
  rw [pathUp_head hR hy, List.length_cons] at hlen
  rw [contains_parts hR x hy]
  generalize pathUp ns (parentD ns) (parentD ns y) = P at *
  have hPl : P.length ≤ 1099511627776 := by omega
  have hle := hF.len
  clear hR hF hy hsm hlen
  have hB0 : Below w.heap.size w (w.alloc (.cells #[.slice (some ⟨b, off, none⟩) ns.length cap] 24)) := (Below.refl _ w).alloc (Nat.le_refl _) _
  have hA := HA.out _ hB0
  have HB0 := hid hB0
  clear HA hB0
  cases hxy : (x == y) with
  | true =>
    rw [Bool.true_or]
    clear hA
    go_enter Tryz.func27, Tryz.ntmps27
    go_wp2
    go_ret
    exact ⟨rfl, HB0.out⟩
  | false =>
    rw [Bool.false_or]
    obtain ⟨N, hN⟩ : ∃ N, idxI P x 0 = N := ⟨_, rfl⟩
    rw [hN]
    go_enter Tryz.func27, Tryz.ntmps27
    go_wp2_with fail
    refine hA.mono ?_
    rintro e v1 ⟨v, rfl, hrd, hb1⟩
    have HB1 := hid (HB0.out.trans (hb1.mono HB0.out.size))
    have hP := refPlace_any v P x v1 hrd hPl
    obtain ⟨o, c, rfl, _⟩ := hrd
    clear hb1 hA
    rw [hN] at hP
    clear hN
    go_wp2_with fail
    refine hP.mono ?_
    rintro e v2 ⟨rfl, rfl⟩
    clear hP
    go_wp2
    go_ret
    exact ⟨rfl, HB1.out⟩

end Go.Proofs.YticenjhhefiboaaGreat

namespace Go.Proofs.YticenjhhefiboaaGreat
open Go.RowKit Go.Lib Go.Shelf

/-- A call of a function at a step of a region that draws its order. -/
theorem step_call {P : Program} (w : World) {ops : Array Oper} {o : Oper} {a : Act} {K : Act → World → Prop} {Q : Exit → Act → World → Prop} {E : Prop} (hgd : o.guard = none) (s x : Operand) (t tn : TypeId) (f : FuncId)
    (ho : o.op = .call { callee := .value (.func f), args := #[s, x], argTypes := #[t, tn] }) (vs vx : Value) (hs : a.eval s = vs) (hx : a.eval x = vx) (hE : (callFunc f #[vs, vx]).run P w = .ok (.enter f #[vs, vx]) w) (R : Ending → World → Prop)
    (hc : Calls P f #[vs, vx] w R) (h : ∀ e w', R e w' → ∃ v, e = .returned v ∧ K (a.put o.dst v) w') :
    if Region.wanted o (yielded ops a.tmps) = true then Oper.wp P o a w K Q else E := by
  have hw : Region.wanted o (yielded ops a.tmps) = true := by simp [Region.wanted, hgd]
  rw [if_pos hw]
  have hf : a.eval (.func f) = .func (.func f) #[] #[] := rfl
  unfold Oper.wp
  simp [execOp, ho, resolve, invoke, hs, hx, hf, hE, Deferred.ofValue]
  refine hc.mono ?_
  rintro e w' hR
  obtain ⟨v, rfl, hK⟩ := h e w' hR
  exact hK

/-- An append at a step of a region that draws its order. -/
theorem step_append_own {P : Program} (w : World) {ops : Array Oper} {o : Oper} {a : Act} {K : Act → World → Prop} {Q : Exit → Act → World → Prop} {E : Prop} (hgd : o.guard = none) (s x : Operand) (t : TypeId)
    (ho : o.op = .call { callee := .builtin .append, args := #[s, x], argTypes := #[t, t] })
    (base : Nat) (e : TypeId) (i : TypeInfo) (z : Value) (size bytes : Nat) (ht : P.underlying t = some (.slice e)) (hi : P.info? e = some i) (hz : i.zero = some z)
    (hsize : i.size = size) (hby : i.bytes = bytes) (hzs : z.cells.size = size) (hsz : 0 < size)
    (v : Value) (n : Nat) (xs : List Value) (hs : a.eval s = v) (hown : w.ownsRow base e size v n xs)
    (ad : Addr) (m c : Nat) (news : List Value) (hx : a.eval x = .slice (some ad) m c) (hl : news.length = m * size) (hnews : ∀ j u, news[j]? = some u → w.cell? (ad.add j) = some u) (h1 : ∀ u ∈ news, u.oneCell' = true)
    (h63 : n + m ≤ maxLen) (hbytes : (n + m) * bytes ≤ 140737488355328) (hbase : base ≤ w.heap.size)
    (h : ∀ v' w', w'.ownsRow base e size v' (n + m) (xs ++ news) → w.grownBy w' v.ownBlock → (v' = .slice none 0 0 ↔ v = .slice none 0 0 ∧ m = 0) → K (a.put o.dst v') w') :
    if Region.wanted o (yielded ops a.tmps) = true then Oper.wp P o a w K Q else E := by
  have hw : Region.wanted o (yielded ops a.tmps) = true := by simp [Region.wanted, hgd]
  rw [if_pos hw]
  exact wp_append_own w s x t ho base e i z size bytes ht hi hz hsize hby hzs hsz v n xs hs hown ad m c news hx hl hnews h1 h63 hbytes hbase h

/-- A node's kids, read out of its value. -/
theorem fld_kids (n : NodeD) (D A K : Value) (W : World) : Sem.run Tryz.prog (Instr.field 83 (.agg #[.int .u8 (n.kind : Int), .string n.space, .string n.pre, .string n.loc, .string n.pub, .string n.sys, D, A, .int .i64 n.parent, K, .int .i64 n.doc, .int .i64 n.host, .int .i64 n.shadow, .int .u8 (n.mode : Int), .bool n.manual, .bool n.html]) 7) W = .ok K W := by kernel_rfl
theorem enterAll (vs vx : Value) (w : World) : (callFunc 33 #[vs, vx]).run Tryz.prog w = .ok (.enter 33 #[vs, vx]) w := by kernel_rfl
theorem own_one (w : World) (B : Nat) (x : Int) (hB : B ≤ w.heap.size) : (w.alloc (.cells #[.int .i64 x] 3)).ownsRow B 3 1 (.slice (some ⟨w.heap.size, 0, none⟩) 1 1) 1 [Value.int .i64 x] :=
  ⟨rfl, .inr ⟨w.heap.size, 1, #[.int .i64 x], rfl, hB, heap_new w _, Nat.le_refl _, (by decide), rfl, rfl⟩⟩

theorem news_cells {w : World} {b off : Nat} {A : List Int} (h : ∀ (j : Nat) (hj : j < A.length), w.cell? ⟨b, off + j, none⟩ = some (.int .i64 A[j])) : ∀ (j : Nat) (u : Value), (A.map (Value.int .i64))[j]? = some u → w.cell? ((⟨b, off, none⟩ : Addr).add j) = some u := fun j u hj => by
  rw [List.getElem?_map] at hj
  obtain ⟨x, hx, rfl⟩ := Option.map_eq_some_iff.1 hj
  obtain ⟨hj', rfl⟩ := List.getElem?_eq_some_iff.1 hx
  have e : (⟨b, off, none⟩ : Addr).add j = ⟨b, off + j, none⟩ := by simp [Addr.add]
  rw [e]
  exact h j hj'
theorem news_one (A : List Int) : ∀ u ∈ A.map (Value.int .i64), u.oneCell' = true := fun u hu => by
  obtain ⟨x, _, rfl⟩ := List.mem_map.1 hu
  rfl

set_option maxRecDepth 100000 in
set_option maxHeartbeats 4000000 in
theorem refAll_step (b off cap j : Nat) (ns : List NodeD) (w : World) (hR : RightF ns) (hF : FAt w b off cap ns) (hj : j < ns.length) (hkl : ns[j].kids.length ≤ 1099511627776)
    (IH : Hid (∀ y ∈ ns[j].kids, ∀ W : World, Below w.heap.size w W → Calls Tryz.prog 33 #[.agg #[.slice (some ⟨b, off, none⟩) ns.length cap], .int .i64 y] W fun e w' => ∃ v, e = .returned v ∧ RdI w' v (allD ns y) ∧ Below W.heap.size W w')) :
    Calls Tryz.prog 33 #[.agg #[.slice (some ⟨b, off, none⟩) ns.length cap], .int .i64 ((j : Int) + 1)] w fun e w' => ∃ v, e = .returned v ∧ RdI w' v (allD ns ((j : Int) + 1)) ∧ Below w.heap.size w w' := by
  have HO : Hid (∀ (W : World), Below w.heap.size w W → _) := fun W hW => refOf_at b off cap j ns w W hF hW hj
  obtain ⟨i0, hi, hz0, hz1, hz2⟩ := info_parts info_int
  have hx : thereB ns.length ((j : Int) + 1) = true := by
    unfold thereB
    rw [decide_eq_true (by omega), decide_eq_true (by omega)]
    rfl
  have hkd : kidsD ns ((j : Int) + 1) = ns[j].kids := by unfold kidsD; rw [nodeOf_at ns j hj]
  have hT := all_cons hR hx
  rw [hkd] at hT
  have hlen : (allD ns ((j : Int) + 1)).length ≤ 4096 := Nat.le_trans (hR.kidsHang.below_len (ns.length + 1) _ hx (by omega)) hR.small
  have hpos : ∀ y ∈ ns[j].kids, 0 < (allD ns y).length := fun y hy => by
    rw [← hkd] at hy
    rw [all_cons hR (hR.kidsHang.down _ y hx hy).1]
    simp
  obtain ⟨T, hTT⟩ : ∃ T, allD ns ((j : Int) + 1) = T := ⟨_, rfl⟩
  rw [hTT] at hT hlen ⊢
  have HT : Hid ([(j : Int) + 1] ++ (ns[j].kids.drop 0).flatMap (allD ns) = T) := hT.symm
  have HP := hid hpos
  clear hF hT hTT hkd hx hpos hR
  have hB0 : Below w.heap.size w ((w.alloc (.cells #[.slice (some ⟨b, off, none⟩) ns.length cap] 24)).alloc (.cells #[.int .i64 ((j : Int) + 1)] 3)) := ((Below.refl _ w).alloc (Nat.le_refl _) _).alloc (by simp) _
  have hO := HO.out _ hB0
  have hr0 := own_one (w.alloc (.cells #[.slice (some ⟨b, off, none⟩) ns.length cap] 24)) (w.heap.size + 1) ((j : Int) + 1) (by simp)
  simp only [World.size_alloc] at hr0
  have HR0 := hid hr0
  have HB1' : Hid (Below (w.heap.size + 1) (w.alloc (.cells #[.slice (some ⟨b, off, none⟩) ns.length cap] 24)) ((w.alloc (.cells #[.slice (some ⟨b, off, none⟩) ns.length cap] 24)).alloc (.cells #[.int .i64 ((j : Int) + 1)] 3))) := (Below.refl _ _).alloc (by simp) _
  clear HO hB0 hr0
  generalize ns[j] = n at *
  go_enter Tryz.func33, Tryz.ntmps33
  go_wp2_with fail
  refine hO.mono ?_
  rintro e v1 ⟨L, rfl, h1, h2, h3, hb1⟩
  obtain ⟨od, cd, oa, ca, ok, ck, rfl⟩ := lists_slices h1 h2 h3
  have HR1 := hid (ownsRow_later HR0.out hb1)
  have HB1 := hid (HB1'.out.trans (hb1.mono (by simp)))
  have hfl := fld_kids n (.slice od n.data.length cd) (.slice oa n.attrs.length ca) (.slice ok n.kids.length ck)
  clear h1 h2 hb1 hO HR0 HB1'
  unfold nodeV
  obtain ⟨o3, c3, e3, hck, gk⟩ := h3
  simp only [Value.slice.injEq] at e3
  obtain ⟨rfl, -, rfl⟩ := e3
  generalize n.kids = ks at *
  go_wp2
  clear hfl
  go_loopw [5, 7] (fun v t wr => ∃ (k : Nat) (done : List Int), k ≤ ks.length ∧ t = .int .i64 k ∧ Below (w.heap.size + 1) (w.alloc (.cells #[.slice (some ⟨b, off, none⟩) ns.length cap] 24)) wr ∧ wr.ownsRow (w.heap.size + 1) 3 1 v done.length (done.map (Value.int .i64)) ∧ Hid (done ++ (ks.drop k).flatMap (allD ns) = T)) (fun _ t _ => ks.length - (RowKit.intOf t).toNat)
  case atStart => exact ⟨0, [(j : Int) + 1], Nat.zero_le _, rfl, HB1.out, HR1.out, HT⟩
  case round =>
    obtain ⟨k, done, hk, rfl, hB, hown, hr⟩ := hrel
    clear HT HR1 HB1
    have hBw := bx_below hB
    have hsb := bx_size hB
    by_cases hlt : k < ks.length
    · obtain ⟨bk, offk, rfl, hltk, hak⟩ := gk (by omega)
      have x1 := (hBw.cell (p := ⟨bk, offk + k, none⟩) hltk).trans (hak k hlt)
      have cb : wr.cell? ⟨w.heap.size, 0, none⟩ = some (.slice (some ⟨b, off, none⟩) ns.length cap) := (hB.cell (p := ⟨w.heap.size, 0, none⟩) (by show w.heap.size < w.heap.size + 1; omega)).trans (by simp)
      have q1 : (0 : Int) ≤ (k : Int) := by omega
      have q2 : (k : Int) < (ks.length : Int) := by omega
      have hrr := hr.out
      rw [List.drop_eq_getElem_cons hlt, List.flatMap_cons, ← List.append_assoc] at hrr
      have hI := IH.out ks[k] (List.getElem_mem hlt) wr.drew hBw.drew
      have hp1 := HP.out ks[k] (List.getElem_mem hlt)
      have hdl : done.length + (allD ns ks[k]).length ≤ 4096 := by
        have h := congrArg List.length hrr
        rw [List.length_append, List.length_append] at h
        omega
      have Hn := hid hrr
      have HB := hid hB
      have HOw := hid hown
      clear hrr hr hB hBw hak gk HP IH hown
      generalize allD ns ks[k] = A at *
      generalize ks[k] = a at *
      go_upto_region 6 with fail
      go_region_law (first
        | (refine step_call _ rfl (.tmp 21) (.tmp 25) 24 3 33 rfl (.agg #[.slice (some ⟨b, off, none⟩) ns.length cap]) (.int .i64 a) (by simp [Act.eval]) (by simp [Act.eval]) (enterAll _ _ _) _ hI ?_; rintro e v2 ⟨vv, rfl, hrd, hb2⟩; refine ⟨vv, rfl, ?_⟩; obtain ⟨o2, c2, rfl, hc2, g2⟩ := hrd; obtain ⟨b2, off2, rfl, hlt2, ha2⟩ := g2 hp1; have HB2 := hid (HB.out.drew.trans (hb2.mono hsb)); have hown2 := ownsRow_later HOw.out.drew hb2)
        | (refine step_append_own _ rfl (.tmp 20) (.tmp 26) 43 rfl (w.heap.size + 1) 3 i0 (.int .i64 0) 1 8 Tryz.underlying43 hi hz0 hz1 hz2 rfl (by decide) _ done.length (done.map (Value.int .i64)) (by simp [Act.eval]) hown2 ⟨b2, off2, none⟩ A.length c2 (A.map (Value.int .i64)) (by simp [Act.eval]) (by simp) (news_cells ha2) (news_one A) (Nat.le_trans hdl (by decide)) (by omega) (bx_size HB2.out) ?_; intro v' w1 hown' hgrow _))
      all_goals
        have HB3 : Hid (Below (w.heap.size + 1) v2 w1) := (Below.refl _ v2).grown hgrow (bx_size HB2.out) (fun j hj => (hown2.lt j hj).1)
        go_wp2
        go_roundw
        case rel => exact ⟨k + 1, done ++ A, by omega, by go_num, HB2.out.trans HB3.out, by simpa using hown', Hn⟩
        case measure => simp [RowKit.intOf]; omega
    · have hTd : T = done := by
        rw [← hr.out, List.drop_eq_nil_of_le (by omega), List.flatMap_nil, List.append_nil]
      subst hTd
      have HBw := hid hBw
      have HOw := hid hown
      clear hr hB hBw gk HP IH hown
      go_wp2
      go_ret
      exact ⟨_, rfl, ownsRow_rdI HOw.out, HBw.out⟩

theorem refAll_go (ns : List NodeD) (hR : RightF ns) (hkl : ∀ (i : Nat) (hi : i < ns.length), ns[i].kids.length ≤ 1099511627776) (b off cap : Nat) : ∀ (f : Nat) (x : Int) (w : World), FAt w b off cap ns → thereB ns.length x = true → ns.length < f + (pathUp ns (parentD ns) x).length →
    Calls Tryz.prog 33 #[.agg #[.slice (some ⟨b, off, none⟩) ns.length cap], .int .i64 x] w fun e w' => ∃ v, e = .returned v ∧ RdI w' v (allD ns x) ∧ Below w.heap.size w w'
  | 0, x, w, _, hx, hf => by
    have := hR.kidsHang.len hx
    omega
  | f + 1, x, w, hF, hx, hf => by
    obtain ⟨j, hj, rfl⟩ := there_idx hx
    refine refAll_step b off cap j ns w hR hF hj (hkl j hj) (fun y hy W hW => ?_)
    have hkd : kidsD ns ((j : Int) + 1) = ns[j].kids := by unfold kidsD; rw [nodeOf_at ns j hj]
    rw [← hkd] at hy
    refine refAll_go ns hR hkl b off cap f y W (hF.later hW) (hR.kidsHang.down _ y hx hy).1 ?_
    rw [hR.kidsHang.deep hx hy]
    omega
theorem refAll_any (b off cap : Nat) (x : Int) (ns : List NodeD) (w : World) (hR : RightF ns) (hF : FAt w b off cap ns) (hkl : ∀ (i : Nat) (hi : i < ns.length), ns[i].kids.length ≤ 1099511627776) (hx : thereB ns.length x = true) :
    Calls Tryz.prog 33 #[.agg #[.slice (some ⟨b, off, none⟩) ns.length cap], .int .i64 x] w fun e w' => ∃ v, e = .returned v ∧ RdI w' v (allD ns x) ∧ Below w.heap.size w w' := refAll_go ns hR hkl b off cap (ns.length + 1) x w hF hx (by omega)
end Go.Proofs.YticenjhhefiboaaGreat

