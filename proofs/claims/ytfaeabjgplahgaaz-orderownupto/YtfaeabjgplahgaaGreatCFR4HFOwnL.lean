/- OrderWithin's own walk. -/
/- OrderOwn's own walk: lists are written over, and asked for again. -/
/- The reference of order: Index, Data, Length, Beside. -/
/- The reference of order: Beside. -/
/- The walks of 'single' and of OrderOnes. -/
/- OrderOnes, whole. -/
/- OrderOwn, whole. -/
import Derived.Test.YtfaeabjgplahgaaGreatCFConFTree
import Derived.Test.YtfaeabjgplahgaaGreatCFRangeFAllC
import Derived.Deep.DeepCutAuto
import Derived.Test.YtfaeabjgplahgaaGreatCFR4AFR4G
import Derived.Test.YtfaeabjgplahgaaGreatCFOnePFOneE
import Derived.Test.YtfaeabjgplahgaaGreatCFNextFHolds
import Derived.Test.YtfaeabjgplahgaaGreatCFIntsFBegT
import Derived.Test.YtfaeabjgplahgaaGreatCFR4JFDeepC
namespace Go.Proofs.YtfaeabjgplahgaaGreat
open Go.RowKit Go.Lib Go.Shelf

set_option maxRecDepth 100000 in
set_option maxHeartbeats 2000000 in
theorem place_any (v : Value) (l : List Int) (x : Int) (w : World) (hv : RdI w v l) (hl : l.length ≤ 1099511627776) :
    Calls Tryz.prog 10 #[v, .int .i64 x] w fun e w' => e = .returned (.int .i64 (idxI l x 0)) ∧ w' = w := by
  obtain ⟨o, c, rfl, hc, g⟩ := hv
  obtain ⟨N, hN⟩ : ∃ N, idxI l x 0 = N := ⟨_, rfl⟩
  rw [hN]
  have HN : Hid (idxI (l.drop 0) x 0 = N) := hN
  clear hN
  go_enter Tryz.func10, Tryz.ntmps10
  go_wp2
  go_loopw [5] (fun t wr => ∃ k : Nat, k ≤ l.length ∧ t = .int .i64 k ∧ wr = w ∧ Hid (idxI (l.drop k) x k = N)) (fun t _ => l.length - (RowKit.intOf t).toNat)
  case atStart => exact ⟨0, Nat.zero_le _, rfl, rfl, HN⟩
  case round =>
    obtain ⟨k, k1, rfl, rfl, hK⟩ := hrel
    by_cases hlt : k < l.length
    · obtain ⟨b, off, rfl, hlt1, ha⟩ := g (by omega)
      have x1 := ha k hlt
      have q1 : (0 : Int) ≤ (k : Int) := by omega
      have q2 : (k : Int) < (l.length : Int) := by omega
      have hk := hK.out
      rw [List.drop_eq_getElem_cons hlt, idxI] at hk
      have Hk := hid hk
      clear hk hK ha g
      generalize l[k] = a at *
      cases he : (a == x) with
      | true =>
        have hNk : N = (k : Int) := by
          rw [← Hk.out, he]
          rfl
        subst hNk
        clear Hk
        go_wp2
        go_ret
        exact ⟨rfl, rfl⟩
      | false =>
        have Hn : Hid (idxI (l.drop (k + 1)) x (k + 1) = N) := by
          have h := Hk.out
          rw [he, if_neg Bool.false_ne_true] at h
          exact h
        clear Hk
        go_wp2
        go_roundw
        case rel => exact ⟨k + 1, by omega, by go_num, trivial, Hn⟩
        case measure => simp [RowKit.intOf]; omega
    · have hNk : N = -1 := by
        rw [← hK.out, List.drop_eq_nil_of_le (by omega)]
        rfl
      subst hNk
      clear hK g
      go_wp2
      go_ret
      exact ⟨rfl, rfl⟩

end Go.Proofs.YtfaeabjgplahgaaGreat

namespace Go.Proofs.YtfaeabjgplahgaaGreat
open Go.RowKit Go.Lib Go.Shelf

/-- A list that may be written over. -/
def CanW (W : World) (base : Nat) (v : Value) (n : Nat) : Prop := ∃ o c, v = .slice o n c ∧ n ≤ c ∧ (0 < n → ∃ g C, o = some ⟨g, 0, none⟩ ∧ base ≤ g ∧ W.heap[g]? = some (.cells C 3 (0, 0)) ∧ n ≤ C.size)
theorem CanW.of {W : World} {B : Nat} {v : Value} {n : Nat} {xs : List Value} (h : W.ownsRow B 3 1 v n xs) : CanW W B v n := by
  obtain ⟨_, h⟩ := h
  rcases h with ⟨rfl, rfl⟩ | ⟨g, cap, cur, rfl, hb, hh, hn, hm, hcs, ht⟩
  · exact ⟨none, 0, rfl, Nat.le_refl _, fun h => absurd h (Nat.lt_irrefl _)⟩
  · exact ⟨_, cap, rfl, hn, fun _ => ⟨g, cur, rfl, hb, hh, by omega⟩⟩
theorem CanW.put {W : World} {B : Nat} {v : Value} {n : Nat} (h : CanW W B v n) (g k : Nat) (u : Value) : CanW (W.setCell ⟨g, k, none⟩ u) B v n := by
  obtain ⟨o, c, rfl, hc, hf⟩ := h
  refine ⟨o, c, rfl, hc, fun hp => ?_⟩
  obtain ⟨g', C, rfl, hb, hh, hn⟩ := hf hp
  by_cases e : g' = g
  · subst e
    exact ⟨g', _, rfl, hb, heap_setCell_same W g' k C _ u hh, by simpa using hn⟩
  · exact ⟨g', C, rfl, hb, (heap_setCell_other W ⟨g, k, none⟩ g' u e).trans hh, hn⟩
/-- What stays while lists are written over. -/
structure OwnInv (w : World) (nb : Nat) (va vb vc vf : Value) (na nbb nc : Nat) (wr : World) : Prop where
  below : Below w.heap.size w wr
  box : wr.heap[w.heap.size]? = some (.cells #[vf] 24 (0, 0))
  arr : wr.heap[nb]? = some (.cells #[va, vb, vc] 26 (0, 0))
  ca : CanW wr w.heap.size va na
  cb : CanW wr w.heap.size vb nbb
  cc : CanW wr w.heap.size vc nc
theorem OwnInv.put {w wr : World} {nb na nbb nc g k : Nat} {va vb vc vf u : Value} {C : Array Value} (h : OwnInv w nb va vb vc vf na nbb nc wr) (hb : w.heap.size ≤ g) (hg : wr.heap[g]? = some (.cells C 3 (0, 0))) : OwnInv w nb va vb vc vf na nbb nc (wr.setCell ⟨g, k, none⟩ u) := by
  refine ⟨h.below.setCell (p := ⟨g, k, none⟩) hb _, (heap_setCell_other wr ⟨g, k, none⟩ _ u ?_).trans h.box, (heap_setCell_other wr ⟨g, k, none⟩ _ u ?_).trans h.arr, h.ca.put g k u, h.cb.put g k u, h.cc.put g k u⟩
  · intro e
    have e : w.heap.size = g := e
    rw [← e, h.box] at hg
    simp at hg
  · intro e
    have e : nb = g := e
    rw [← e, h.arr] at hg
    simp at hg
theorem OwnInv.pick {w wr : World} {nb na nbb nc : Nat} {va vb vc vf : Value} (h : OwnInv w nb va vb vc vf na nbb nc wr) {M : Nat} (h1 : na ≤ M) (h2 : nbb ≤ M) (h3 : nc ≤ M) (k : Nat) (hk : k < 3) :
    ∃ o n c, n ≤ M ∧ wr.cell? ⟨nb, k, none⟩ = some (.slice o n c) ∧ ∀ wr', OwnInv w nb va vb vc vf na nbb nc wr' → 0 < n → ∃ g C, o = some ⟨g, 0, none⟩ ∧ w.heap.size ≤ g ∧ wr'.heap[g]? = some (.cells C 3 (0, 0)) ∧ n ≤ C.size := by
  have hcell := fun j => cell_of_heap h.arr j
  rcases (by omega : k = 0 ∨ k = 1 ∨ k = 2) with rfl | rfl | rfl
  · obtain ⟨o, c, e, _, _⟩ := h.ca
    refine ⟨o, na, c, h1, (hcell 0).trans (by rw [← e]; rfl), fun wr' h' hp => ?_⟩
    obtain ⟨o', c', e', _, g⟩ := h'.ca
    rw [e] at e'
    simp only [Value.slice.injEq] at e'
    rw [e'.1]
    exact g hp
  · obtain ⟨o, c, e, _, _⟩ := h.cb
    refine ⟨o, nbb, c, h2, (hcell 1).trans (by rw [← e]; rfl), fun wr' h' hp => ?_⟩
    obtain ⟨o', c', e', _, g⟩ := h'.cb
    rw [e] at e'
    simp only [Value.slice.injEq] at e'
    rw [e'.1]
    exact g hp
  · obtain ⟨o, c, e, _, _⟩ := h.cc
    refine ⟨o, nc, c, h3, (hcell 2).trans (by rw [← e]; rfl), fun wr' h' hp => ?_⟩
    obtain ⟨o', c', e', _, g⟩ := h'.cc
    rw [e] at e'
    simp only [Value.slice.injEq] at e'
    rw [e'.1]
    exact g hp
theorem box_heap {w : World} {x : Value} {t : TypeId} {v : World} (hb : Below (w.alloc (.cells #[x] t)).heap.size (w.alloc (.cells #[x] t)) v) : v.heap[w.heap.size]? = some (.cells #[x] t (0, 0)) := (hb.block w.heap.size (by simp)).trans (heap_alloc_new _ _)
theorem put_cell {wr : World} {g n j : Nat} {C : Array Value} (hh : wr.heap[g]? = some (.cells C 3 (0, 0))) (hn : n ≤ C.size) (hj : j < n) : (∃ u, wr.cell? ⟨g, j, none⟩ = some u) ∧ wr.frozen? ⟨g, j, none⟩ = false :=
  ⟨⟨C[j]'(by omega), by rw [cell_of_heap hh, Array.getElem?_eq_getElem (by omega)]⟩, frozen_of_heap hh j⟩

set_option maxRecDepth 100000 in
set_option maxHeartbeats 16000000 in
theorem own_refused (o : Option Addr) (cap : Nat) (x E : Int) (l m d : List Int) (ns : List NodeD) (w : World) (hE : (E != 0) = true) (HBg : Hid (∀ W : World, Calls Tryz.prog 6 #[] W fun e w' => e = .returned (.bool true) ∧ Below W.heap.size W w')) (HA : Hid (∀ W : World, Below w.heap.size w W → Calls Tryz.prog 7 #[.agg #[.slice o ns.length cap], .int .i64 x] W fun e w' => ∃ v, e = .returned (.tuple #[v, .int .i64 E]) ∧ w'.ownsRow W.heap.size 3 1 v l.length (l.map (Value.int .i64)) ∧ Below W.heap.size W w')) (HN : Hid (∀ W : World, Below w.heap.size w W → Calls Tryz.prog 8 #[.agg #[.slice o ns.length cap], .int .i64 x] W fun e w' => ∃ v, e = .returned (.tuple #[v, .int .i64 E]) ∧ w'.ownsRow W.heap.size 3 1 v m.length (m.map (Value.int .i64)) ∧ Below W.heap.size W w')) (HD : Hid (∀ W : World, Below w.heap.size w W → Calls Tryz.prog 9 #[.agg #[.slice o ns.length cap], .int .i64 x] W fun e w' => ∃ v, e = .returned (.tuple #[v, .int .i64 E]) ∧ w'.ownsRow W.heap.size 3 1 v d.length (d.map (Value.int .i64)) ∧ Below W.heap.size W w')) :
    Calls Tryz.prog 3 #[.agg #[.slice o ns.length cap], .int .i64 x] w fun e w' => e = .returned (.bool true) ∧ Below w.heap.size w w' := by
  go_enter Tryz.func3, Tryz.ntmps3
  go_wp2_with fail
  refine (HBg.out _).mono ?_
  rintro e v0 ⟨rfl, hb0⟩
  have HB0 := hid (box_go hb0)
  have cb0 := box_forest hb0
  have hs0 := hb0.size
  simp only [World.size_alloc] at hs0
  clear hb0 HBg
  go_wp2_with fail
  refine (HA.out _ HB0.out).mono ?_
  rintro e v1 ⟨va, rfl, hl, hb⟩
  have HB1 := hid (HB0.out.trans (hb.mono HB0.out.size))
  have cb1 := (hb.cell (p := ⟨w.heap.size, 0, none⟩) (by show w.heap.size < v0.heap.size; omega)).trans cb0
  have hs1 := Nat.le_trans hs0 hb.size
  clear hb cb0 HB0 hs0 HA hl
  go_wp2_with fail
  refine (HN.out _ HB1.out).mono ?_
  rintro e v2 ⟨vb, rfl, hm, hb⟩
  have HB2 := hid (HB1.out.trans (hb.mono HB1.out.size))
  have cb2 := (hb.cell (p := ⟨w.heap.size, 0, none⟩) (by show w.heap.size < v1.heap.size; omega)).trans cb1
  have hs2 := Nat.le_trans hs1 hb.size
  clear hb cb1 HB1 hs1 HN hm
  go_wp2_with fail
  refine (HD.out _ HB2.out).mono ?_
  rintro e v3 ⟨vc, rfl, hd, hb⟩
  have HB3 := hid (HB2.out.trans (hb.mono HB2.out.size))
  clear hb cb2 HB2 hs2 HD hd
  go_wp2
  go_ret
  exact ⟨rfl, HB3.out⟩

set_option maxRecDepth 100000 in
set_option maxHeartbeats 16000000 in
theorem own_main (o : Option Addr) (cap : Nat) (x : Int) (l m d : List Int) (ns : List NodeD) (w : World) (hll : l.length ≤ 1099511627776) (hml : m.length ≤ 1099511627776) (hdl : d.length ≤ 1099511627776) (t : List Int) (hl0 : l = x :: t) (hl7 : idxI l (-7) 0 = -1) (hm7 : idxI m (-7) 0 = -1) (HBg : Hid (∀ W : World, Calls Tryz.prog 6 #[] W fun e w' => e = .returned (.bool true) ∧ Below W.heap.size W w')) (HA : Hid (∀ W : World, Below w.heap.size w W → Calls Tryz.prog 7 #[.agg #[.slice o ns.length cap], .int .i64 x] W fun e w' => ∃ v, e = .returned (.tuple #[v, .int .i64 0]) ∧ w'.ownsRow W.heap.size 3 1 v l.length (l.map (Value.int .i64)) ∧ Below W.heap.size W w')) (HN : Hid (∀ W : World, Below w.heap.size w W → Calls Tryz.prog 8 #[.agg #[.slice o ns.length cap], .int .i64 x] W fun e w' => ∃ v, e = .returned (.tuple #[v, .int .i64 0]) ∧ w'.ownsRow W.heap.size 3 1 v m.length (m.map (Value.int .i64)) ∧ Below W.heap.size W w')) (HD : Hid (∀ W : World, Below w.heap.size w W → Calls Tryz.prog 9 #[.agg #[.slice o ns.length cap], .int .i64 x] W fun e w' => ∃ v, e = .returned (.tuple #[v, .int .i64 0]) ∧ w'.ownsRow W.heap.size 3 1 v d.length (d.map (Value.int .i64)) ∧ Below W.heap.size W w')) (HO : Hid (∀ W : World, Below w.heap.size w W → Calls Tryz.prog 11 #[.agg #[.slice o ns.length cap], .int .i64 x] W fun e w' => e = .returned (.bool true) ∧ Below W.heap.size W w')) :
    Calls Tryz.prog 3 #[.agg #[.slice o ns.length cap], .int .i64 x] w fun e w' => e = .returned (.bool true) ∧ Below w.heap.size w w' := by
  have hlp : 0 < l.length := by rw [hl0]; simp
  have hl0' : l[0] = x := by simp only [hl0, List.getElem_cons_zero]
  have Hl0 := hid hl0'
  have HL7 := hid hl7
  have HM7 := hid hm7
  clear hl0' hl0 hl7 hm7
  go_enter Tryz.func3, Tryz.ntmps3
  go_wp2_with fail
  refine (HBg.out _).mono ?_
  rintro e v0 ⟨rfl, hb0⟩
  have HB0 := hid (box_go hb0)
  have cb0 := box_forest hb0
  have Hx0 := hid (box_heap hb0)
  have hs0 := hb0.size
  simp only [World.size_alloc] at hs0
  clear hb0 HBg
  go_wp2_with fail
  refine (HA.out _ HB0.out).mono ?_
  rintro e v1 ⟨va, rfl, hl, hb⟩
  have HB1 := hid (HB0.out.trans (hb.mono HB0.out.size))
  have cb1 := (hb.cell (p := ⟨w.heap.size, 0, none⟩) (by show w.heap.size < v0.heap.size; omega)).trans cb0
  have Hx1 := hid ((hb.block w.heap.size (by omega)).trans Hx0.out)
  have hs1 := Nat.le_trans hs0 hb.size
  have Hl1 := hid (ownsRow_base hl HB0.out.size)
  clear hb cb0 HB0 hs0 hl Hx0
  go_wp2_with fail
  refine (HN.out _ HB1.out).mono ?_
  rintro e v2 ⟨vb, rfl, hm, hb⟩
  have HB2 := hid (HB1.out.trans (hb.mono HB1.out.size))
  have cb2 := (hb.cell (p := ⟨w.heap.size, 0, none⟩) (by show w.heap.size < v1.heap.size; omega)).trans cb1
  have Hx2 := hid ((hb.block w.heap.size (by omega)).trans Hx1.out)
  have hs2 := Nat.le_trans hs1 hb.size
  have Hl2 := hid (ownsRow_later Hl1.out hb)
  have Hm2 := hid (ownsRow_base hm HB1.out.size)
  clear hb cb1 HB1 hs1 hm Hx1 Hl1
  go_wp2_with fail
  refine (HD.out _ HB2.out).mono ?_
  rintro e v3 ⟨vc, rfl, hd, hb⟩
  have HB3 := hid (HB2.out.trans (hb.mono HB2.out.size))
  have Hx3 := hid ((hb.block w.heap.size (by omega)).trans Hx2.out)
  have hs3 := Nat.le_trans hs2 hb.size
  have Hl3 := hid (ownsRow_later Hl2.out hb)
  have Hm3 := hid (ownsRow_later Hm2.out hb)
  have Hd3 := hid (ownsRow_base hd HB2.out.size)
  clear hb cb2 HB2 hs2 hd Hx2 Hl2 Hm2 HD
  have hba : Below v3.heap.size v3 (v3.alloc (.cells #[va, vb, vc] 26)) := (Below.refl _ v3).alloc (Nat.le_refl _) _
  have HI : Hid (OwnInv w v3.heap.size va vb vc (.slice o ns.length cap) l.length m.length d.length (v3.alloc (.cells #[va, vb, vc] 26))) :=
    ⟨HB3.out.trans (hba.mono HB3.out.size), (hba.block w.heap.size (by omega)).trans Hx3.out, heap_alloc_new _ _, CanW.of (ownsRow_later Hl3.out hba), CanW.of (ownsRow_later Hm3.out hba), CanW.of (ownsRow_later Hd3.out hba)⟩
  obtain ⟨oa, ca, ea, _, _⟩ := CanW.of Hl3.out
  obtain ⟨ob, cb, eb, _, _⟩ := CanW.of Hm3.out
  obtain ⟨oc, cc, ec, _, _⟩ := CanW.of Hd3.out
  subst ea eb ec
  clear hba HB3 Hx3 Hl3 Hm3 Hd3
  have n0 : ((l.length : Int) == 0) = false := beq_eq_false_iff_ne.2 (by omega)
  go_wp2
  go_loopw [57] (fun t wr => ∃ k : Nat, k ≤ 3 ∧ t = .int .i64 k ∧ Hid (OwnInv w v3.heap.size (.slice oa l.length ca) (.slice ob m.length cb) (.slice oc d.length cc) (.slice o ns.length cap) l.length m.length d.length wr)) (fun t _ => 3 - (RowKit.intOf t).toNat)
  case atStart => exact ⟨0, Nat.zero_le _, rfl, HI⟩
  case round =>
    obtain ⟨k, hk, rfl, hI⟩ := hrel
    clear HI
    by_cases hlt : k < 3
    · obtain ⟨oo, nn, co, hnn, hcell, hcan⟩ := hI.out.pick hll hml hdl k hlt
      have HCan := hid hcan
      clear hcan
      have p1 : (0 : Int) ≤ (k : Int) := by omega
      have p2 : (k : Int) < 3 := by omega
      go_wp2
      go_loopw [15] (fun t wr' => ∃ j : Nat, j ≤ nn ∧ t = .int .i64 j ∧ Hid (OwnInv w v3.heap.size (.slice oa l.length ca) (.slice ob m.length cb) (.slice oc d.length cc) (.slice o ns.length cap) l.length m.length d.length wr')) (fun t _ => nn - (RowKit.intOf t).toNat)
      case atStart => exact ⟨0, Nat.zero_le _, rfl, hI⟩
      case round =>
        obtain ⟨j, hj, rfl, hJ⟩ := hrel
        clear hI hcell
        by_cases hjl : j < nn
        · obtain ⟨g, C, rfl, hg, hh, hn⟩ := HCan.out _ hJ.out (by omega)
          obtain ⟨⟨u, hu⟩, hf⟩ := put_cell hh hn hjl
          have HP : Hid (OwnInv w v3.heap.size (.slice oa l.length ca) (.slice ob m.length cb) (.slice oc d.length cc) (.slice o ns.length cap) l.length m.length d.length _) := hJ.out.put (k := j) (u := .int .i64 (-7)) hg hh
          have p3 : (0 : Int) ≤ (j : Int) := by omega
          have p4 : (j : Int) < (nn : Int) := by omega
          clear hh hn hg hJ HCan
          go_wp2
          go_roundw
          case rel => exact ⟨j + 1, by omega, by go_num, HP⟩
          case measure => simp [RowKit.intOf]; omega
        · have p4 : ¬ (j : Int) < (nn : Int) := by omega
          clear HCan
          go_wp2
          go_roundw
          case rel => exact ⟨k + 1, by omega, by go_num, hJ⟩
          case measure => simp [RowKit.intOf]; omega
    · have hk3 : k = 3 := by omega
      subst hk3
      have HB4 := hid hI.out.below
      have cb4 : wr.cell? ⟨w.heap.size, 0, none⟩ = some (.slice o ns.length cap) := (cell_of_heap hI.out.box 0).trans rfl
      have hs4 : w.heap.size < wr.heap.size := (Array.getElem?_eq_some_iff.1 hI.out.box).1
      clear hI
      go_wp2_with fail
      refine (HA.out _ HB4.out).mono ?_
      rintro e v5 ⟨va5, rfl, hl, hb⟩
      have HB5 := hid (HB4.out.trans (hb.mono HB4.out.size))
      have cb5 := (hb.cell (p := ⟨w.heap.size, 0, none⟩) hs4).trans cb4
      have hs5 := Nat.lt_of_lt_of_le hs4 hb.size
      have Hl5 := hid hl
      clear hb cb4 HB4 hs4 HA hl
      go_wp2_with fail
      refine (HN.out _ HB5.out).mono ?_
      rintro e v6 ⟨vb6, rfl, hm, hb⟩
      have HB6 := hid (HB5.out.trans (hb.mono HB5.out.size))
      have cb6 := (hb.cell (p := ⟨w.heap.size, 0, none⟩) hs5).trans cb5
      have hrl := ownsRow_rdI (ownsRow_later Hl5.out hb)
      have hrm := ownsRow_rdI hm
      clear hb cb5 HB5 hs5 HN hm Hl5
      have hP1 := place_any _ l (-7) v6 hrl hll
      have hP2 := place_any _ m (-7) v6 hrm hml
      rw [HL7.out] at hP1
      rw [HM7.out] at hP2
      obtain ⟨ol5, cl5, rfl, _, g5⟩ := hrl
      obtain ⟨om6, cm6, rfl, _, _⟩ := hrm
      obtain ⟨bl, offl, rfl, hltl, ha⟩ := g5 hlp
      have x1 := ha 0 hlp
      rw [Hl0.out, Nat.add_zero] at x1
      have p5 : (0 : Int) < (l.length : Int) := by omega
      have exx : (x == x) = true := beq_self_eq_true x
      have ell : ((l.length : Int) == (l.length : Int)) = true := beq_self_eq_true _
      have emm : ((m.length : Int) == (m.length : Int)) = true := beq_self_eq_true _
      clear g5 ha HL7 HM7 Hl0
      go_wp2_with fail
      refine hP1.mono ?_
      rintro e v7 ⟨rfl, e7⟩
      have e7 := e7.symm
      subst e7
      clear hP1
      go_wp2_with fail
      refine hP2.mono ?_
      rintro e v8 ⟨rfl, e8⟩
      have e8 := e8.symm
      subst e8
      clear hP2
      go_wp2_with fail
      refine (HO.out _ HB6.out).mono ?_
      rintro e v9 ⟨rfl, hb⟩
      have HB9 := hid (HB6.out.trans (hb.mono HB6.out.size))
      clear hb HB6 cb6
      go_wp2
      go_ret
      exact ⟨rfl, HB9.out⟩
end Go.Proofs.YtfaeabjgplahgaaGreat

namespace Go.Proofs.YtfaeabjgplahgaaGreat
open Go.RowKit Go.Lib Go.Shelf

set_option maxRecDepth 100000 in
set_option maxHeartbeats 4000000 in
theorem refIndex_any (b off cap : Nat) (x : Int) (ns : List NodeD) (w : World) (hR : RightF ns) (hF : FAt w b off cap ns) (hx : thereB ns.length x = true) (hkl : ∀ (i : Nat) (hi : i < ns.length), ns[i].kids.length ≤ 1099511627776) :
    Calls Tryz.prog 40 #[.agg #[.slice (some ⟨b, off, none⟩) ns.length cap], .int .i64 x] w fun e w' => e = .returned (.int .i64 (indexD ns x)) ∧ Below w.heap.size w w' := by
  have HX : Hid (∀ v1 : World, Below (w.heap.size + 1) (w.alloc (.cells #[.slice (some ⟨b, off, none⟩) ns.length cap] 24)) v1 → v1.cell? ⟨w.heap.size, 0, none⟩ = some (.slice (some ⟨b, off, none⟩) ns.length cap)) := fun v1 hB1 => (hB1.cell (p := ⟨w.heap.size, 0, none⟩) (by show w.heap.size < w.heap.size + 1; omega)).trans (by simp)
  have hB0 : Below (w.heap.size + 1) (w.alloc (.cells #[.slice (some ⟨b, off, none⟩) ns.length cap] 24)) (w.alloc (.cells #[.slice (some ⟨b, off, none⟩) ns.length cap] 24)) := Below.refl _ _
  have HO : Hid (∀ (k : Nat) (hk : k < ns.length) (W : World), Below w.heap.size w W → _) := fun k hk W hW => refOf_any b off cap k ns W (hF.later hW) hk
  have hpt : parentD ns x = 0 ∨ thereB ns.length (parentD ns x) = true := by
    by_cases hp : parentD ns x = 0
    · exact .inl hp
    · exact .inr (hR.kidsHang.up_there hx hp)
  obtain ⟨j, hj, rfl⟩ := there_idx hx
  have hO := HO.out j hj _ (bx_below hB0)
  unfold indexD
  rw [parentD_at ns j hj] at hpt ⊢
  have HB0 := hid hB0
  clear hF hR hx hB0
  generalize ns[j] = n at *
  by_cases h0 : n.parent = 0
  · rw [h0, show ((0 : Int) == 0) = true from rfl, if_pos rfl]
    have hne : (n.parent == 0) = true := by rw [h0]; rfl
    clear hpt h0
    go_enter Tryz.func40, Tryz.ntmps40
    go_wp2_with fail
    refine hO.mono ?_
    rintro e v1 ⟨L, rfl, h1, h2, h3, hb1⟩
    obtain ⟨od, cd, oa, ca, ok, ck, rfl⟩ := lists_slices h1 h2 h3
    have HB1 := hid (HB0.out.trans (hb1.mono (by simp)))
    clear h1 h2 h3 hb1 hO
    unfold nodeV
    have hfl := fld_parent n (.slice od n.data.length cd) (.slice oa n.attrs.length ca) (.slice ok n.kids.length ck)
    go_wp2
    go_ret
    exact ⟨rfl, bx_below HB1.out⟩
  · have hne : (n.parent == 0) = false := beq_eq_false_iff_ne.2 h0
    rw [hne, if_neg Bool.false_ne_true]
    obtain ⟨i, hi, hpi⟩ := there_idx (hpt.resolve_left h0)
    have hkd : kidsD ns n.parent = ns[i].kids := by rw [hpi]; unfold kidsD; rw [nodeOf_at ns i hi]
    rw [hkd]
    have HO2 : Hid (∀ (W : World), Below w.heap.size w W → _) := fun W hW => HO.out i hi W hW
    have hl := hkl i hi
    clear hkd hpt h0 HO hkl
    generalize ns[i] = n2 at *
    obtain ⟨N, hN⟩ : ∃ N, idxI n2.kids ((j : Int) + 1) 0 = N := ⟨_, rfl⟩
    rw [hN]
    have HN := hid hN
    clear hN
    go_enter Tryz.func40, Tryz.ntmps40
    go_wp2_with fail
    refine hO.mono ?_
    rintro e v1 ⟨L, rfl, h1, h2, h3, hb1⟩
    obtain ⟨od, cd, oa, ca, ok, ck, rfl⟩ := lists_slices h1 h2 h3
    have hB1 := HB0.out.trans (hb1.mono (by simp))
    have cb1 := HX.out v1 hB1
    have hO2 := HO2.out v1 (bx_below hB1)
    have HB1 := hid hB1
    clear h1 h2 h3 hb1 hO hB1 HO2
    unfold nodeV
    have hfl := fld_parent n (.slice od n.data.length cd) (.slice oa n.attrs.length ca) (.slice ok n.kids.length ck)
    rw [hpi] at hfl hne
    go_wp2_with fail
    refine hO2.mono ?_
    rintro e v2 ⟨L, rfl, h1, h2, h3, hb2⟩
    have hP := refPlace_any L.kids n2.kids ((j : Int) + 1) v2 h3 hl
    rw [HN.out] at hP
    obtain ⟨od, cd, oa, ca, ok, ck, rfl⟩ := lists_slices h1 h2 h3
    have HB2 := hid (HB1.out.trans (hb2.mono (bx_size HB1.out)))
    clear h1 h2 h3 hb2 hO2 hfl
    unfold nodeV
    have hfl := fld_kids n2 (.slice od n2.data.length cd) (.slice oa n2.attrs.length ca) (.slice ok n2.kids.length ck)
    go_wp2_with fail
    refine hP.mono ?_
    rintro e v3 ⟨rfl, e3⟩
    have e3 := e3.symm
    subst e3
    clear hP hfl
    go_wp2
    go_ret
    exact ⟨rfl, bx_below HB2.out⟩

set_option maxHeartbeats 2000000 in
theorem refData_any (k : Nat) (w : World) : Calls Tryz.prog 76 #[.int .u8 (k : Int)] w fun e w' => e = .returned (.bool (hasDataK k)) ∧ w' = w := by
  unfold hasDataK
  have e0 : ((k : Int) == 3) = (k == 3) := beq_cast k 3
  have e1 : ((k : Int) == 4) = (k == 4) := beq_cast k 4
  have e2 : ((k : Int) == 7) = (k == 7) := beq_cast k 7
  have e3 : ((k : Int) == 8) = (k == 8) := beq_cast k 8
  generalize (k == 3) = b0 at *
  generalize (k == 4) = b1 at *
  generalize (k == 7) = b2 at *
  generalize (k == 8) = b3 at *
  cases b0 <;> cases b1 <;> cases b2 <;> cases b3
  all_goals
    go_enter Tryz.func76, Tryz.ntmps76
    go_wp2
    go_ret
    exact ⟨rfl, rfl⟩

set_option maxRecDepth 100000 in
set_option maxHeartbeats 4000000 in
theorem refLength_any (b off cap : Nat) (x : Int) (ns : List NodeD) (w : World) (hR : RightF ns) (hF : FAt w b off cap ns) (hx : thereB ns.length x = true) :
    Calls Tryz.prog 41 #[.agg #[.slice (some ⟨b, off, none⟩) ns.length cap], .int .i64 x] w fun e w' => e = .returned (.int .i64 ((lengthD (nodeOrNone ns x) : Nat) : Int)) ∧ Below w.heap.size w w' := by
  have hB0 : Below (w.heap.size + 1) (w.alloc (.cells #[.slice (some ⟨b, off, none⟩) ns.length cap] 24)) (w.alloc (.cells #[.slice (some ⟨b, off, none⟩) ns.length cap] 24)) := Below.refl _ _
  obtain ⟨j, hj, rfl⟩ := there_idx hx
  have hO := refOf_any b off cap j ns _ (hF.later (bx_below hB0)) hj
  have hn : nodeOrNone ns ((j : Int) + 1) = ns[j] := by unfold nodeOrNone; rw [nodeOf_at ns j hj]; rfl
  rw [hn]
  have HD : Hid (∀ (k : Nat) (W : World), _) := fun k W => refData_any k W
  have hbare := (well_parts (hR.well j hj)).2.1
  have HB0 := hid hB0
  clear hF hR hx hB0 hn
  generalize ns[j] = n at *
  cases hk : hasDataK n.kind with
  | true =>
    rw [length_data hbare hk]
    have HDk : Hid (∀ W : World, _) := fun W => HD.out n.kind W
    rw [hk] at HDk
    clear HD hk hbare
    go_enter Tryz.func41, Tryz.ntmps41
    go_wp2_with fail
    refine hO.mono ?_
    rintro e v1 ⟨L, rfl, h1, h2, h3, hb1⟩
    obtain ⟨od, cd, oa, ca, ok, ck, rfl⟩ := lists_slices h1 h2 h3
    have HB1 := hid (HB0.out.trans (hb1.mono (by simp)))
    clear h1 h2 h3 hb1 hO
    unfold nodeV
    go_wp2_with fail
    refine (HDk.out _).mono ?_
    rintro e v2 ⟨rfl, rfl⟩
    go_wp2
    go_ret
    exact ⟨rfl, (bx_below HB1.out).alloc (Nat.le_of_succ_le (bx_size HB1.out)) _⟩
  | false =>
    rw [length_kids hbare hk]
    have HDk : Hid (∀ W : World, _) := fun W => HD.out n.kind W
    rw [hk] at HDk
    clear HD hk hbare
    go_enter Tryz.func41, Tryz.ntmps41
    go_wp2_with fail
    refine hO.mono ?_
    rintro e v1 ⟨L, rfl, h1, h2, h3, hb1⟩
    obtain ⟨od, cd, oa, ca, ok, ck, rfl⟩ := lists_slices h1 h2 h3
    have HB1 := hid (HB0.out.trans (hb1.mono (by simp)))
    clear h1 h2 h3 hb1 hO
    unfold nodeV
    go_wp2_with fail
    refine (HDk.out _).mono ?_
    rintro e v2 ⟨rfl, rfl⟩
    go_wp2
    go_ret
    exact ⟨rfl, (bx_below HB1.out).alloc (Nat.le_of_succ_le (bx_size HB1.out)) _⟩
end Go.Proofs.YtfaeabjgplahgaaGreat

namespace Go.Proofs.YtfaeabjgplahgaaGreat
open Go.RowKit Go.Lib Go.Shelf

set_option maxRecDepth 100000 in
set_option maxHeartbeats 4000000 in
theorem refBeside_any (b off cap : Nat) (x d : Int) (ns : List NodeD) (w : World) (hR : RightF ns) (hF : FAt w b off cap ns) (hkl : ∀ (i : Nat) (hi : i < ns.length), ns[i].kids.length ≤ 1099511627776) (hx : thereB ns.length x = true) (hd1 : -1 ≤ d) (hd2 : d ≤ 1) :
    Calls Tryz.prog 45 #[.agg #[.slice (some ⟨b, off, none⟩) ns.length cap], .int .i64 x, .int .i64 d] w fun e w' => e = .returned (.int .i64 (besideD (allD ns (lastI (pathUp ns (parentD ns) x))) x d)) ∧ Below w.heap.size w w' := by
  obtain ⟨r1, _, _⟩ := root_up hR _ x (Nat.le_refl _) hx
  have HRt : Hid (∀ (W : World), Below w.heap.size w W → _) := fun W hW => refRoot4_any b off cap x ns W hR (hF.later hW) hx
  have HA : Hid (∀ (W : World), Below w.heap.size w W → _) := fun W hW => refAll_any b off cap _ ns W hR (hF.later hW) hkl r1
  have hll := all_len hR r1
  have hin : x ∈ allD ns (lastI (pathUp ns (parentD ns) x)) := (in_tree hR hx hx).2 rfl
  generalize lastI (pathUp ns (parentD ns) x) = RT at *
  generalize allD ns RT = L at *
  have hle := hF.len
  have hB0 : Below (w.heap.size + 1) (w.alloc (.cells #[.slice (some ⟨b, off, none⟩) ns.length cap] 24)) (w.alloc (.cells #[.slice (some ⟨b, off, none⟩) ns.length cap] 24)).drew := (Below.refl _ _).drew
  have hRt := HRt.out _ (bx_below hB0)
  have HB0 := hid hB0
  have HP : Hid (∀ (v : Value) (W : World), RdI W v L → _) := fun v W h => refPlace_any v L x W h hll
  obtain ⟨k, hk1, hk2⟩ : ∃ k : Nat, idxI L x 0 = (k : Int) ∧ k < L.length := ⟨L.idxOf x, by rw [idxI_idx _ _ _ hin, Nat.zero_add], List.idxOf_lt_length_of_mem hin⟩
  unfold besideD
  rw [hk1] at HP ⊢
  obtain ⟨R, hRR⟩ : ∃ R, (if 0 ≤ (k : Int) + d ∧ (k : Int) + d < (L.length : Int) then L.getD ((k : Int) + d).toNat 0 else 0) = R := ⟨_, rfl⟩
  rw [hRR]
  have HRR := hid hRR
  clear HRt hR hF hkl hx r1 hB0 hin hRR hk1
  go_enter Tryz.func45, Tryz.ntmps45
  go_upto_region 1 with fail
  go_cut [7] (fun t wx => RdI wx t L ∧ Below (w.heap.size + 1) (w.alloc (.cells #[.slice (some ⟨b, off, none⟩) ns.length cap] 24)) wx)
  case first =>
    go_region_law (first
      | (refine step_call _ rfl (.tmp 10) (.tmp 11) 24 3 38 rfl (.agg #[.slice (some ⟨b, off, none⟩) ns.length cap]) (.int .i64 x) (by simp [Act.eval]) (by simp [Act.eval]) (enterRoot4 _ _ _) _ hRt ?_; rintro e v1 ⟨rfl, hb1⟩; refine ⟨_, rfl, ?_⟩; have hB1 := HB0.out.trans (hb1.mono (by simp)); have cb1 : v1.cell? ⟨w.heap.size, 0, none⟩ = some (.slice (some ⟨b, off, none⟩) ns.length cap) := (hB1.cell (p := ⟨w.heap.size, 0, none⟩) (by show w.heap.size < w.heap.size + 1; omega)).trans (by simp); have hA := HA.out v1 (bx_below hB1); have HB1 := hid hB1; clear hb1 hB1)
      | (refine step_call _ rfl (.tmp 9) (.tmp 12) 24 3 44 rfl (.agg #[.slice (some ⟨b, off, none⟩) ns.length cap]) (.int .i64 RT) (by simp [Act.eval]) (by simp [Act.eval]) (enterAll _ _ _) _ hA ?_; rintro e v2 ⟨vv, rfl, hrd, hb2⟩; refine ⟨vv, rfl, ?_⟩; have HB2 := hid (HB1.out.trans (hb2.mono (bx_size HB1.out))); have Hrd := hid hrd; clear hb2 hrd))
    all_goals
      go_wp2_with fail
      go_meet
      exact ⟨Hrd.out, HB2.out⟩
  case rest =>
    obtain ⟨hrd, hB2⟩ := hcut
    have hP := HP.out _ _ hrd
    have HB2 := hid (bx_below hB2)
    obtain ⟨o2, c2, rfl, hc2, g2⟩ := hrd
    have hRR := HRR.out
    clear HP hRt HA HB0 hB2 HRR
    obtain ⟨b2, off2, rfl, hlt2, ha2⟩ := g2 (by omega)
    go_wp2_with fail
    refine hP.mono ?_
    rintro e v3 ⟨rfl, e3⟩
    have e3 := e3.symm
    subst e3
    clear hP
    by_cases c1 : (k : Int) + d < 0
    · rw [if_neg (by omega)] at hRR
      subst hRR
      have d1 : decide ((k : Int) + d < 0) = true := decide_eq_true c1
      clear ha2 g2
      go_wp2
      go_ret
      exact ⟨rfl, HB2.out⟩
    · have d1 : decide ((k : Int) + d < 0) = false := decide_eq_false c1
      by_cases c3 : (L.length : Int) ≤ (k : Int) + d
      · rw [if_neg (by omega)] at hRR
        subst hRR
        have d2 : decide ((L.length : Int) ≤ (k : Int) + d) = true := decide_eq_true c3
        clear ha2 g2
        go_wp2
        go_ret
        exact ⟨rfl, HB2.out⟩
      · have d2 : decide ((L.length : Int) ≤ (k : Int) + d) = false := decide_eq_false c3
        obtain ⟨q, hq⟩ : ∃ q : Nat, (k : Int) + d = (q : Int) := ⟨((k : Int) + d).toNat, by omega⟩
        have hql : q < L.length := by omega
        rw [if_pos (by omega), hq, Int.toNat_natCast, List.getD_eq_getElem?_getD, List.getElem?_eq_getElem hql] at hRR
        have x1 := ha2 q hql
        rw [show L[q] = R from hRR] at x1
        obtain rfl : d = (q : Int) - (k : Int) := by omega
        have f0 : IntKind.i64.wrap ((k : Int) + ((q : Int) - (k : Int))) = (q : Int) := by rw [show (k : Int) + ((q : Int) - (k : Int)) = (q : Int) by omega]; exact wrap_small (by omega) (by omega)
        have q1 : (0 : Int) ≤ (q : Int) := by omega
        have q2 : (q : Int) < (L.length : Int) := by omega
        clear ha2 g2 hRR hq d1 d2 c1 c3
        go_wp2
        go_ret
        exact ⟨rfl, HB2.out⟩
end Go.Proofs.YtfaeabjgplahgaaGreat

namespace Go.Proofs.YtfaeabjgplahgaaGreat
open Go.RowKit Go.Lib Go.Shelf

set_option maxRecDepth 100000 in
set_option maxHeartbeats 16000000 in
theorem single_any (o : Option Addr) (cap : Nat) (x E : Int) (ns : List NodeD) (w : World)
    (H1 : Hid (∀ W : World, Below w.heap.size w W → Calls Tryz.prog 23 #[.agg #[.slice o ns.length cap], .int .i64 x] W fun e w' => e = .returned (.tuple #[.int .i64 0, .int .i64 E]) ∧ Below W.heap.size W w'))
    (H2 : Hid (∀ W : World, Below w.heap.size w W → Calls Tryz.prog 8 #[.agg #[.slice o ns.length cap], .int .i64 x] W fun e w' => ∃ v, e = .returned (.tuple #[v, .int .i64 E]) ∧ RdI w' v [] ∧ Below W.heap.size W w'))
    (H3 : Hid (∀ W : World, Below w.heap.size w W → Calls Tryz.prog 36 #[.agg #[.slice o ns.length cap], .int .i64 x] W fun e w' => e = .returned (.tuple #[.int .i64 0, .int .i64 E]) ∧ Below W.heap.size W w'))
    (H4 : Hid (∀ W : World, Below w.heap.size w W → Calls Tryz.prog 37 #[.agg #[.slice o ns.length cap], .int .i64 x] W fun e w' => e = .returned (.tuple #[.int .i64 0, .int .i64 E]) ∧ Below W.heap.size W w'))
    (H5 : Hid (∀ W : World, Below w.heap.size w W → Calls Tryz.prog 7 #[.agg #[.slice o ns.length cap], .int .i64 x] W fun e w' => ∃ v, e = .returned (.tuple #[v, .int .i64 E]) ∧ RdI w' v [] ∧ Below W.heap.size W w'))
    (H6 : Hid (∀ W : World, Below w.heap.size w W → Calls Tryz.prog 42 #[.agg #[.slice o ns.length cap], .int .i64 x] W fun e w' => e = .returned (.tuple #[.int .i64 0, .int .i64 E]) ∧ Below W.heap.size W w'))
    (H7 : Hid (∀ W : World, Below w.heap.size w W → Calls Tryz.prog 43 #[.agg #[.slice o ns.length cap], .int .i64 x] W fun e w' => e = .returned (.tuple #[.int .i64 0, .int .i64 E]) ∧ Below W.heap.size W w'))
    (H8 : Hid (∀ W : World, Below w.heap.size w W → Calls Tryz.prog 22 #[.agg #[.slice o ns.length cap], .int .i64 x] W fun e w' => e = .returned (.tuple #[.int .i64 0, .int .i64 E]) ∧ Below W.heap.size W w'))
    (H9 : Hid (∀ W : World, Below w.heap.size w W → Calls Tryz.prog 9 #[.agg #[.slice o ns.length cap], .int .i64 x] W fun e w' => ∃ v, e = .returned (.tuple #[v, .int .i64 E]) ∧ RdI w' v [] ∧ Below W.heap.size W w'))
    (H10 : Hid (∀ W : World, Below w.heap.size w W → Calls Tryz.prog 69 #[.agg #[.slice o ns.length cap], .int .i64 x] W fun e w' => e = .returned (.tuple #[.bool false, .int .i64 E]) ∧ Below W.heap.size W w')) :
    Calls Tryz.prog 35 #[.agg #[.slice o ns.length cap], .int .i64 x, .int .i64 E] w fun e w' => e = .returned (.bool true) ∧ Below w.heap.size w w' := by
  have hB0 : Below (w.heap.size + 1) (w.alloc (.cells #[.slice o ns.length cap] 24)) (w.alloc (.cells #[.slice o ns.length cap] 24)) := Below.refl _ _
  have HX : Hid (∀ v1 : World, Below (w.heap.size + 1) (w.alloc (.cells #[.slice o ns.length cap] 24)) v1 → v1.cell? ⟨w.heap.size, 0, none⟩ = some (.slice o ns.length cap)) := fun v1 hB1 => (hB1.cell (p := ⟨w.heap.size, 0, none⟩) (by show w.heap.size < w.heap.size + 1; omega)).trans (by simp)
  have HB0 := hid hB0
  clear hB0
  go_enter Tryz.func35, Tryz.ntmps35
  go_wp2_with fail
  refine (H1.out _ (bx_below HB0.out)).mono ?_
  rintro e v1 ⟨rfl, hb1⟩
  have HB1 := hid (HB0.out.trans (hb1.mono (by simp)))
  have cx1 := HX.out v1 HB1.out
  clear hb1 HB0 H1
  go_wp2_with fail
  refine (H2.out _ (bx_below HB1.out)).mono ?_
  rintro e v2 ⟨u2, rfl, hr2, hb2⟩
  obtain ⟨o2, c2, rfl, -, -⟩ := hr2
  rw [List.length_nil]
  have HB2 := hid (HB1.out.trans (hb2.mono (bx_size HB1.out)))
  have cx2 := HX.out v2 HB2.out
  clear hb2 HB1 H2 cx1
  go_wp2_with fail
  refine (H3.out _ (bx_below HB2.out)).mono ?_
  rintro e v3 ⟨rfl, hb3⟩
  have HB3 := hid (HB2.out.trans (hb3.mono (bx_size HB2.out)))
  have cx3 := HX.out v3 HB3.out
  clear hb3 HB2 H3 cx2
  go_wp2_with fail
  refine (H4.out _ (bx_below HB3.out)).mono ?_
  rintro e v4 ⟨rfl, hb4⟩
  have HB4 := hid (HB3.out.trans (hb4.mono (bx_size HB3.out)))
  have cx4 := HX.out v4 HB4.out
  clear hb4 HB3 H4 cx3
  go_wp2_with fail
  refine (H5.out _ (bx_below HB4.out)).mono ?_
  rintro e v5 ⟨u5, rfl, hr5, hb5⟩
  obtain ⟨o5, c5, rfl, -, -⟩ := hr5
  rw [List.length_nil]
  have HB5 := hid (HB4.out.trans (hb5.mono (bx_size HB4.out)))
  have cx5 := HX.out v5 HB5.out
  clear hb5 HB4 H5 cx4
  go_wp2_with fail
  refine (H6.out _ (bx_below HB5.out)).mono ?_
  rintro e v6 ⟨rfl, hb6⟩
  have HB6 := hid (HB5.out.trans (hb6.mono (bx_size HB5.out)))
  have cx6 := HX.out v6 HB6.out
  clear hb6 HB5 H6 cx5
  go_wp2_with fail
  refine (H7.out _ (bx_below HB6.out)).mono ?_
  rintro e v7 ⟨rfl, hb7⟩
  have HB7 := hid (HB6.out.trans (hb7.mono (bx_size HB6.out)))
  have cx7 := HX.out v7 HB7.out
  clear hb7 HB6 H7 cx6
  go_wp2_with fail
  refine (H8.out _ (bx_below HB7.out)).mono ?_
  rintro e v8 ⟨rfl, hb8⟩
  have HB8 := hid (HB7.out.trans (hb8.mono (bx_size HB7.out)))
  have cx8 := HX.out v8 HB8.out
  clear hb8 HB7 H8 cx7
  go_wp2_with fail
  refine (H9.out _ (bx_below HB8.out)).mono ?_
  rintro e v9 ⟨u9, rfl, hr9, hb9⟩
  obtain ⟨o9, c9, rfl, -, -⟩ := hr9
  rw [List.length_nil]
  have HB9 := hid (HB8.out.trans (hb9.mono (bx_size HB8.out)))
  have cx9 := HX.out v9 HB9.out
  clear hb9 HB8 H9 cx8
  go_wp2_with fail
  refine (H10.out _ (bx_below HB9.out)).mono ?_
  rintro e v10 ⟨rfl, hb10⟩
  have HB10 := hid (HB9.out.trans (hb10.mono (bx_size HB9.out)))
  have cx10 := HX.out v10 HB10.out
  clear hb10 HB9 H10 cx9
  go_wp2
  go_ret
  exact ⟨rfl, bx_below HB10.out⟩

set_option maxRecDepth 100000 in
set_option maxHeartbeats 8000000 in
theorem ones_refused (o : Option Addr) (cap : Nat) (x E : Int) (ns : List NodeD) (w : World) (hE : (E != 0) = true)
    (HBg : Hid (∀ W : World, Calls Tryz.prog 6 #[] W fun e w' => e = .returned (.bool true) ∧ Below W.heap.size W w'))
    (HFa : Hid (∀ (v : Value) (W : World), Below w.heap.size w W → RdI W v [x] → Calls Tryz.prog 34 #[.agg #[.slice o ns.length cap], v] W fun e w' => e = .returned (.int .i64 E) ∧ Below W.heap.size W w'))
    (HRe : Hid (∀ (W : World), Below w.heap.size w W → Calls Tryz.prog 35 #[.agg #[.slice o ns.length cap], .int .i64 x, .int .i64 E] W fun e w' => e = .returned (.bool true) ∧ Below W.heap.size W w')) :
    Calls Tryz.prog 11 #[.agg #[.slice o ns.length cap], .int .i64 x] w fun e w' => e = .returned (.bool true) ∧ Below w.heap.size w w' := by
  have hB0 : Below (w.heap.size + 1) (w.alloc (.cells #[.slice o ns.length cap] 24)) (w.alloc (.cells #[.slice o ns.length cap] 24)) := Below.refl _ _
  have HX : Hid (∀ v1 : World, Below (w.heap.size + 1) (w.alloc (.cells #[.slice o ns.length cap] 24)) v1 → v1.cell? ⟨w.heap.size, 0, none⟩ = some (.slice o ns.length cap)) := fun v1 hB1 => (hB1.cell (p := ⟨w.heap.size, 0, none⟩) (by show w.heap.size < w.heap.size + 1; omega)).trans (by simp)
  have HB0 := hid hB0
  clear hB0
  go_enter Tryz.func11, Tryz.ntmps11
  go_wp2_with fail
  refine (HBg.out _).mono ?_
  rintro e v1 ⟨rfl, hb1⟩
  have HB1 := hid (HB0.out.trans (hb1.mono (by simp)))
  have cx1 := HX.out v1 HB1.out
  clear hb1 HB0
  go_wp2_with fail
  have hr2 := one_rdI v1 x 3
  have hBa : Below w.heap.size w (v1.alloc (.cells #[.int .i64 x] 3)) := (bx_below HB1.out).alloc (Nat.le_of_succ_le (bx_size HB1.out)) _
  refine (HFa.out _ _ hBa hr2).mono ?_
  rintro e v2 ⟨rfl, hb2⟩
  have HB2 := hid (chain_alloc HB1.out (bx_size HB1.out) hb2)
  have cx2 := HX.out v2 HB2.out
  clear hb2 HB1 HFa hr2 hBa cx1
  go_wp2_with fail
  refine (HRe.out _ (bx_below HB2.out)).mono ?_
  rintro e v3 ⟨rfl, hb3⟩
  have HB3 := hid (HB2.out.trans (hb3.mono (bx_size HB2.out)))
  clear hb3 HB2 HRe cx2
  go_wp2
  go_ret
  exact ⟨rfl, bx_below HB3.out⟩

set_option maxRecDepth 100000 in
set_option maxHeartbeats 16000000 in
theorem ones_right (o : Option Addr) (cap : Nat) (x RT I Ln NX PV : Int) (AN AL : List Int) (hAN : AN.length ≤ 1099511627776) (hAL : AL.length ≤ 1099511627776) (ns : List NodeD) (w : World)
    (HBg : Hid (∀ W : World, Calls Tryz.prog 6 #[] W fun e w' => e = .returned (.bool true) ∧ Below W.heap.size W w'))
    (HFa : Hid (∀ (v : Value) (W : World), Below w.heap.size w W → RdI W v [x] → Calls Tryz.prog 34 #[.agg #[.slice o ns.length cap], v] W fun e w' => e = .returned (.int .i64 0) ∧ Below W.heap.size W w'))
    (H1 : Hid (∀ W : World, Below w.heap.size w W → Calls Tryz.prog 23 #[.agg #[.slice o ns.length cap], .int .i64 x] W fun e w' => e = .returned (.tuple #[.int .i64 RT, .int .i64 0]) ∧ Below W.heap.size W w'))
    (H2 : Hid (∀ W : World, Below w.heap.size w W → Calls Tryz.prog 8 #[.agg #[.slice o ns.length cap], .int .i64 x] W fun e w' => ∃ v, e = .returned (.tuple #[v, .int .i64 0]) ∧ RdI w' v AN ∧ Below W.heap.size W w'))
    (H3 : Hid (∀ W : World, Below w.heap.size w W → Calls Tryz.prog 36 #[.agg #[.slice o ns.length cap], .int .i64 x] W fun e w' => e = .returned (.tuple #[.int .i64 I, .int .i64 0]) ∧ Below W.heap.size W w'))
    (H4 : Hid (∀ W : World, Below w.heap.size w W → Calls Tryz.prog 37 #[.agg #[.slice o ns.length cap], .int .i64 x] W fun e w' => e = .returned (.tuple #[.int .i64 Ln, .int .i64 0]) ∧ Below W.heap.size W w'))
    (H5 : Hid (∀ W : World, Below w.heap.size w W → Calls Tryz.prog 38 #[.agg #[.slice o ns.length cap], .int .i64 x] W fun e w' => e = .returned (.int .i64 RT) ∧ Below W.heap.size W w'))
    (H6 : Hid (∀ W : World, Below w.heap.size w W → Calls Tryz.prog 39 #[.agg #[.slice o ns.length cap], .int .i64 x] W fun e w' => ∃ v, e = .returned (v) ∧ RdI w' v AN ∧ Below W.heap.size W w'))
    (H7 : Hid (∀ W : World, Below w.heap.size w W → Calls Tryz.prog 40 #[.agg #[.slice o ns.length cap], .int .i64 x] W fun e w' => e = .returned (.int .i64 I) ∧ Below W.heap.size W w'))
    (H8 : Hid (∀ W : World, Below w.heap.size w W → Calls Tryz.prog 41 #[.agg #[.slice o ns.length cap], .int .i64 x] W fun e w' => e = .returned (.int .i64 Ln) ∧ Below W.heap.size W w'))
    (H9 : Hid (∀ W : World, Below w.heap.size w W → Calls Tryz.prog 7 #[.agg #[.slice o ns.length cap], .int .i64 x] W fun e w' => ∃ v, e = .returned (.tuple #[v, .int .i64 0]) ∧ RdI w' v AL ∧ Below W.heap.size W w'))
    (H10 : Hid (∀ W : World, Below w.heap.size w W → Calls Tryz.prog 42 #[.agg #[.slice o ns.length cap], .int .i64 x] W fun e w' => e = .returned (.tuple #[.int .i64 NX, .int .i64 0]) ∧ Below W.heap.size W w'))
    (H11 : Hid (∀ W : World, Below w.heap.size w W → Calls Tryz.prog 43 #[.agg #[.slice o ns.length cap], .int .i64 x] W fun e w' => e = .returned (.tuple #[.int .i64 PV, .int .i64 0]) ∧ Below W.heap.size W w'))
    (H12 : Hid (∀ W : World, Below w.heap.size w W → Calls Tryz.prog 44 #[.agg #[.slice o ns.length cap], .int .i64 x] W fun e w' => ∃ v, e = .returned (v) ∧ RdI w' v AL ∧ Below W.heap.size W w'))
    (H13 : Hid (∀ W : World, Below w.heap.size w W → Calls Tryz.prog 45 #[.agg #[.slice o ns.length cap], .int .i64 x, .int .i64 1] W fun e w' => e = .returned (.int .i64 NX) ∧ Below W.heap.size W w'))
    (H14 : Hid (∀ W : World, Below w.heap.size w W → Calls Tryz.prog 45 #[.agg #[.slice o ns.length cap], .int .i64 x, .int .i64 (-1)] W fun e w' => e = .returned (.int .i64 PV) ∧ Below W.heap.size W w')) :
    Calls Tryz.prog 11 #[.agg #[.slice o ns.length cap], .int .i64 x] w fun e w' => e = .returned (.bool true) ∧ Below w.heap.size w w' := by
  have hB0 : Below (w.heap.size + 1) (w.alloc (.cells #[.slice o ns.length cap] 24)) (w.alloc (.cells #[.slice o ns.length cap] 24)) := Below.refl _ _
  have HX : Hid (∀ v1 : World, Below (w.heap.size + 1) (w.alloc (.cells #[.slice o ns.length cap] 24)) v1 → v1.cell? ⟨w.heap.size, 0, none⟩ = some (.slice o ns.length cap)) := fun v1 hB1 => (hB1.cell (p := ⟨w.heap.size, 0, none⟩) (by show w.heap.size < w.heap.size + 1; omega)).trans (by simp)
  have HB0 := hid hB0
  clear hB0
  go_enter Tryz.func11, Tryz.ntmps11
  go_wp2_with fail
  refine (HBg.out _).mono ?_
  rintro e v1 ⟨rfl, hb1⟩
  have HB1 := hid (HB0.out.trans (hb1.mono (by simp)))
  have cx1 := HX.out v1 HB1.out
  clear hb1 HB0
  go_wp2_with fail
  have hr2 := one_rdI v1 x 3
  have hBa : Below w.heap.size w (v1.alloc (.cells #[.int .i64 x] 3)) := (bx_below HB1.out).alloc (Nat.le_of_succ_le (bx_size HB1.out)) _
  refine (HFa.out _ _ hBa hr2).mono ?_
  rintro e v2 ⟨rfl, hb2⟩
  have HB2 := hid (chain_alloc HB1.out (bx_size HB1.out) hb2)
  have cx2 := HX.out v2 HB2.out
  clear hb2 HB1 HFa hr2 hBa cx1
  go_wp2_with fail
  refine (H1.out _ (bx_below HB2.out)).mono ?_
  rintro e v3 ⟨rfl, hb3⟩
  have HB3 := hid (HB2.out.trans (hb3.mono (bx_size HB2.out)))
  have cx3 := HX.out v3 HB3.out
  clear hb3 HB2 cx2 H1
  go_wp2_with fail
  refine (H2.out _ (bx_below HB3.out)).mono ?_
  rintro e v4 ⟨u4, rfl, hr4, hb4⟩
  have Hr4 := hid hr4
  obtain ⟨o4, c4, rfl, -, -⟩ := hr4
  have HB4 := hid (HB3.out.trans (hb4.mono (bx_size HB3.out)))
  have cx4 := HX.out v4 HB4.out
  clear hb4 HB3 cx3 H2
  go_wp2_with fail
  refine (H3.out _ (bx_below HB4.out)).mono ?_
  rintro e v5 ⟨rfl, hb5⟩
  replace Hr4 := hid (Hr4.out.later hb5)
  have HB5 := hid (HB4.out.trans (hb5.mono (bx_size HB4.out)))
  have cx5 := HX.out v5 HB5.out
  clear hb5 HB4 cx4 H3
  go_wp2_with fail
  refine (H4.out _ (bx_below HB5.out)).mono ?_
  rintro e v6 ⟨rfl, hb6⟩
  replace Hr4 := hid (Hr4.out.later hb6)
  have HB6 := hid (HB5.out.trans (hb6.mono (bx_size HB5.out)))
  have cx6 := HX.out v6 HB6.out
  clear hb6 HB5 cx5 H4
  go_wp2_with fail
  refine (H5.out _ (bx_below HB6.out)).mono ?_
  rintro e v7 ⟨rfl, hb7⟩
  replace Hr4 := hid (Hr4.out.later hb7)
  have HB7 := hid (HB6.out.trans (hb7.mono (bx_size HB6.out)))
  have cx7 := HX.out v7 HB7.out
  clear hb7 HB6 cx6 H5
  go_wp2_with fail
  refine (H6.out _ (bx_below HB7.out)).mono ?_
  rintro e v8 ⟨u8, rfl, hr8, hb8⟩
  replace Hr4 := hid (Hr4.out.later hb8)
  have Hr8 := hid hr8
  obtain ⟨o8, c8, rfl, -, -⟩ := hr8
  have HB8 := hid (HB7.out.trans (hb8.mono (bx_size HB7.out)))
  have cx8 := HX.out v8 HB8.out
  clear hb8 HB7 cx7 H6
  go_wp2_with fail
  refine (ints_any _ _ _ _ _ Hr4.out Hr8.out hAN).mono ?_
  rintro e v9 ⟨rfl, hb9⟩
  rw [beq_self_eq_true]
  replace Hr4 := hid (Hr4.out.later hb9)
  replace Hr8 := hid (Hr8.out.later hb9)
  have HB9 := hid (HB8.out.trans (hb9.mono (bx_size HB8.out)))
  have cx9 := HX.out v9 HB9.out
  clear hb9 HB8 cx8
  clear Hr4 Hr8
  go_wp2_with fail
  refine (H7.out _ (bx_below HB9.out)).mono ?_
  rintro e v10 ⟨rfl, hb10⟩
  have HB10 := hid (HB9.out.trans (hb10.mono (bx_size HB9.out)))
  have cx10 := HX.out v10 HB10.out
  clear hb10 HB9 cx9 H7
  go_wp2_with fail
  refine (H8.out _ (bx_below HB10.out)).mono ?_
  rintro e v11 ⟨rfl, hb11⟩
  have HB11 := hid (HB10.out.trans (hb11.mono (bx_size HB10.out)))
  have cx11 := HX.out v11 HB11.out
  clear hb11 HB10 cx10 H8
  go_wp2_with fail
  refine (H9.out _ (bx_below HB11.out)).mono ?_
  rintro e v12 ⟨u12, rfl, hr12, hb12⟩
  have Hr12 := hid hr12
  obtain ⟨o12, c12, rfl, -, -⟩ := hr12
  have HB12 := hid (HB11.out.trans (hb12.mono (bx_size HB11.out)))
  have cx12 := HX.out v12 HB12.out
  clear hb12 HB11 cx11 H9
  go_wp2_with fail
  refine (H10.out _ (bx_below HB12.out)).mono ?_
  rintro e v13 ⟨rfl, hb13⟩
  replace Hr12 := hid (Hr12.out.later hb13)
  have HB13 := hid (HB12.out.trans (hb13.mono (bx_size HB12.out)))
  have cx13 := HX.out v13 HB13.out
  clear hb13 HB12 cx12 H10
  go_wp2_with fail
  refine (H11.out _ (bx_below HB13.out)).mono ?_
  rintro e v14 ⟨rfl, hb14⟩
  replace Hr12 := hid (Hr12.out.later hb14)
  have HB14 := hid (HB13.out.trans (hb14.mono (bx_size HB13.out)))
  have cx14 := HX.out v14 HB14.out
  clear hb14 HB13 cx13 H11
  go_wp2_with fail
  refine (H12.out _ (bx_below HB14.out)).mono ?_
  rintro e v15 ⟨u15, rfl, hr15, hb15⟩
  replace Hr12 := hid (Hr12.out.later hb15)
  have Hr15 := hid hr15
  obtain ⟨o15, c15, rfl, -, -⟩ := hr15
  have HB15 := hid (HB14.out.trans (hb15.mono (bx_size HB14.out)))
  have cx15 := HX.out v15 HB15.out
  clear hb15 HB14 cx14 H12
  go_wp2_with fail
  refine (ints_any _ _ _ _ _ Hr12.out Hr15.out hAL).mono ?_
  rintro e v16 ⟨rfl, hb16⟩
  rw [beq_self_eq_true]
  replace Hr12 := hid (Hr12.out.later hb16)
  replace Hr15 := hid (Hr15.out.later hb16)
  have HB16 := hid (HB15.out.trans (hb16.mono (bx_size HB15.out)))
  have cx16 := HX.out v16 HB16.out
  clear hb16 HB15 cx15
  clear Hr12 Hr15
  go_wp2_with fail
  refine (H13.out _ (bx_below HB16.out)).mono ?_
  rintro e v17 ⟨rfl, hb17⟩
  have HB17 := hid (HB16.out.trans (hb17.mono (bx_size HB16.out)))
  have cx17 := HX.out v17 HB17.out
  clear hb17 HB16 cx16 H13
  go_wp2_with fail
  refine (H14.out _ (bx_below HB17.out)).mono ?_
  rintro e v18 ⟨rfl, hb18⟩
  have HB18 := hid (HB17.out.trans (hb18.mono (bx_size HB17.out)))
  have cx18 := HX.out v18 HB18.out
  clear hb18 HB17 cx17 H14
  go_wp2
  go_ret
  exact ⟨rfl, bx_below HB18.out⟩
end Go.Proofs.YtfaeabjgplahgaaGreat

namespace Go.Proofs.YtfaeabjgplahgaaGreat
open Go.RowKit Go.Lib Go.Shelf

theorem one_toldE {ns : List NodeD} {x : Int} (hR : RightF ns) (hx : thereB ns.length x = true) : toldE ns [x] = 0 := toldE_ok ((rightD_iff ns).2 hR) (by simp [hx])
theorem list_of {P : Program} {f : FuncId} {args : Array Value} {w : World} {E : Int} {l : List Int} (h : Calls P f args w fun e w' => ∃ v, e = .returned (.tuple #[v, .int .i64 E]) ∧ w'.ownsRow w.heap.size 3 1 v l.length (l.map (Value.int .i64)) ∧ Below w.heap.size w w') :
    Calls P f args w fun e w' => ∃ v, e = .returned (.tuple #[v, .int .i64 E]) ∧ RdI w' v l ∧ Below w.heap.size w w' := by
  refine h.mono ?_
  rintro e w' ⟨v, rfl, hr, hb⟩
  exact ⟨v, rfl, ownsRow_rdI hr, hb⟩

theorem orderOnes_law (o : Option Addr) (cap : Nat) (x : Int) (ns : List NodeD) (w : World) (hF : FRd w o cap ns) (hkl : ∀ (i : Nat) (hi : i < ns.length), ns[i].kids.length ≤ 1099511627776) (hal : ∀ (i : Nat) (hi : i < ns.length), ns[i].attrs.length ≤ 1099511627776) :
    Calls Tryz.prog 11 #[.agg #[.slice o ns.length cap], .int .i64 x] w fun e w' => e = .returned (.bool true) ∧ Below w.heap.size w w' := by
  have H1 : ∀ W : World, Below w.heap.size w W → _ := fun W hW => Root_any o cap x ns W (hF.later hW) hkl hal
  have H2 : ∀ W : World, Below w.heap.size w W → _ := fun W hW => Ancestors_any o cap x ns W (hF.later hW) hkl hal
  have H3 : ∀ W : World, Below w.heap.size w W → _ := fun W hW => Index_any o cap x ns W (hF.later hW) hkl hal
  have H4 : ∀ W : World, Below w.heap.size w W → _ := fun W hW => Length_any o cap x ns W (hF.later hW) hkl hal
  have H5 : ∀ W : World, Below w.heap.size w W → _ := fun W hW => All_any o cap x ns W (hF.later hW) hkl hal (fun hE1 => by
    obtain ⟨hR, hth⟩ := toldE_zero hE1
    exact all_len hR (hth x (by simp)))
  have H6 : ∀ W : World, Below w.heap.size w W → _ := fun W hW => Next_any o cap x ns W (hF.later hW) hkl hal
  have H7 : ∀ W : World, Below w.heap.size w W → _ := fun W hW => Prev_any o cap x ns W (hF.later hW) hkl hal
  have H8 : ∀ W : World, Below w.heap.size w W → _ := fun W hW => Top_any o cap x ns W (hF.later hW) hkl hal
  have HFa : ∀ (v : Value) (W : World), Below w.heap.size w W → RdI W v [x] → _ := fun v W hW hv => refFault_any o cap v [x] ns W (hF.later hW) hkl hal hv (by simp)
  by_cases hE : toldE ns [x] = 0
  · obtain ⟨hR, hth⟩ := toldE_zero hE
    have hx := hth x (by simp)
    obtain ⟨j, hj, _⟩ := there_idx hx
    obtain ⟨b, off, rfl, hFA⟩ := hF.at_ (by omega)
    simp only [hE, if_true] at H1 H2 H3 H4 H5 H6 H7 HFa
    have hlen : (pathUp ns (parentD ns) (parentD ns x)).length ≤ 1099511627776 := by
      have := Nat.le_trans (pathUp_len ns _ hR.parentOK hR.ends x (.inr hx)) hR.small
      rw [pathUp_head hR hx, List.length_cons] at this
      omega
    exact ones_right _ cap x _ _ _ _ _ _ _ hlen (all_len hR hx) ns w (fun W => begins_true W) HFa H1 (fun W hW => list_of (H2 W hW)) H3 H4
      (fun W hW => refRoot4_any b off cap x ns W hR (hFA.later hW) hx) (fun W hW => refAnc_any b off cap x ns W hR (hFA.later hW) hx)
      (fun W hW => refIndex_any b off cap x ns W hR (hFA.later hW) hx hkl) (fun W hW => refLength_any b off cap x ns W hR (hFA.later hW) hx)
      (fun W hW => list_of (H5 W hW)) H6 H7 (fun W hW => refAll_any b off cap x ns W hR (hFA.later hW) hkl hx)
      (fun W hW => by
        have h := refBeside_any b off cap x 1 ns W hR (hFA.later hW) hkl hx (by omega) (by omega)
        rw [beside_next hR hx] at h
        exact h)
      (fun W hW => by
        have h := refBeside_any b off cap x (-1) ns W hR (hFA.later hW) hkl hx (by omega) (by omega)
        rw [beside_prev hR hx] at h
        exact h)
  · have hne : (toldE ns [x] != 0) = true := by rw [bne, beq_eq_false_iff_ne.2 hE]; rfl
    have H9 : ∀ W : World, Below w.heap.size w W → _ := fun W hW => Deep_no o cap x ns W (hF.later hW) hkl hal hE
    have H10 : ∀ W : World, Below w.heap.size w W → _ := fun W hW => Connected_no o cap x ns W (hF.later hW) hkl hal hE
    simp only [if_neg hE] at H1 H2 H3 H4 H5 H6 H7 H8 H9 H10
    generalize toldE ns [x] = E at *
    refine ones_refused o cap x E ns w hne (fun W => begins_true W) HFa (fun W hW => single_any o cap x E ns W (fun V hV => H1 V (hW.trans (hV.mono hW.size))) (fun V hV => list_of (H2 V (hW.trans (hV.mono hW.size)))) (fun V hV => H3 V (hW.trans (hV.mono hW.size))) (fun V hV => H4 V (hW.trans (hV.mono hW.size))) (fun V hV => list_of (H5 V (hW.trans (hV.mono hW.size)))) (fun V hV => H6 V (hW.trans (hV.mono hW.size))) (fun V hV => H7 V (hW.trans (hV.mono hW.size))) (fun V hV => H8 V (hW.trans (hV.mono hW.size))) (fun V hV => list_of (H9 V (hW.trans (hV.mono hW.size)))) (fun V hV => H10 V (hW.trans (hV.mono hW.size))))
end Go.Proofs.YtfaeabjgplahgaaGreat

namespace Go.Proofs.YtfaeabjgplahgaaGreat
open Go.RowKit Go.Lib Go.Shelf
theorem no_seven {ns : List NodeD} (h : thereB ns.length (-7) = true) : False := by
  obtain ⟨j, hj, e⟩ := there_idx h
  omega
theorem orderOwn_law (o : Option Addr) (cap : Nat) (x : Int) (ns : List NodeD) (w : World) (hF : FRd w o cap ns) (hkl : ∀ (i : Nat) (hi : i < ns.length), ns[i].kids.length ≤ 1099511627776) (hal : ∀ (i : Nat) (hi : i < ns.length), ns[i].attrs.length ≤ 1099511627776) :
    Calls Tryz.prog 3 #[.agg #[.slice o ns.length cap], .int .i64 x] w fun e w' => e = .returned (.bool true) ∧ Below w.heap.size w w' := by
  have HA : ∀ W : World, Below w.heap.size w W → _ := fun W hW => All_any o cap x ns W (hF.later hW) hkl hal (fun hE => by obtain ⟨hR, hth⟩ := toldE_zero hE; exact all_len hR (hth x (by simp)))
  have HN : ∀ W : World, Below w.heap.size w W → _ := fun W hW => Ancestors_any o cap x ns W (hF.later hW) hkl hal
  have HD : ∀ W : World, Below w.heap.size w W → _ := fun W hW => Deep_any o cap x ns W (hF.later hW) hkl hal
  by_cases hE : toldE ns [x] = 0
  · obtain ⟨hR, hth⟩ := toldE_zero hE
    have hx := hth x (by simp)
    simp only [hE, if_true] at HA HN HD
    have hm : ∀ y ∈ pathUp ns (parentD ns) (parentD ns x), thereB ns.length y = true := fun y hy => (hR.kidsHang.mem hx (y := y) (by rw [hR.kidsHang.head hx]; exact List.mem_cons_of_mem _ hy)).1
    have hml : (pathUp ns (parentD ns) (parentD ns x)).length ≤ 1099511627776 := by
      have h1 := hR.kidsHang.len hx
      rw [hR.kidsHang.head hx, List.length_cons] at h1
      have := hR.small
      omega
    exact own_main o cap x _ _ _ ns w (all_len hR hx) hml (Nat.le_trans (deep_len hR hx) (by decide)) _ (all_cons hR hx)
      (idxI_none _ _ _ (fun h => no_seven ((mem_all hR hx _).1 h).1)) (idxI_none _ _ _ (fun h => no_seven (hm _ h))) (fun W => begins_true W) HA HN HD
      (fun W hW => orderOnes_law o cap x ns W (hF.later hW) hkl hal)
  · have hne : (toldE ns [x] != 0) = true := by rw [bne, beq_eq_false_iff_ne.2 hE]; rfl
    simp only [if_neg hE] at HA HN HD
    exact own_refused o cap x _ _ _ _ ns w hne (fun W => begins_true W) HA HN HD
end Go.Proofs.YtfaeabjgplahgaaGreat
