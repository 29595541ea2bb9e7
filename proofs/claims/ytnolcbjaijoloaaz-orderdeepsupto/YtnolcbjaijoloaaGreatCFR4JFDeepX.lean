/- OrderTwos' own walk. -/
/- slices.Grow at nothing and slices.Concat, at ints. -/
/- The reference of order: Above, Top, Holds. -/
/- What hangs on a node through shadow trees (plain). -/
/- shadowAndKidsOf. -/
/- What lies in a node, shadow trees too (listOf for shadowAndKidsOf). -/
/- listOf for shadowAndKidsOf. -/
/- Deep. -/
/- The reference of order: Connected; order's own. -/
/- Connected. -/
/- The reference of order: Deep. -/
/- OrderDeeps' own walk. -/
/- OrderDeeps, whole. -/
import Derived.Test.YtnolcbjaijoloaaGreatCFR4AFR4G
import Derived.Test.YtnolcbjaijoloaaGreatCFNextFHolds
import Derived.Test.YtnolcbjaijoloaaGreatCFStandFCmpC
import Derived.Test.YtnolcbjaijoloaaGreatCFIntsFBegT
import Derived.Lib.AppendZerosOnto
import Derived.Deep.AppendSrc
import Derived.Test.YtnolcbjaijoloaaGreatCFConFTree
import Derived.Test.YtnolcbjaijoloaaGreatCFOnePFOneE
import Derived.Test.YtnolcbjaijoloaaGreatCFRootFAllC
import Derived.Test.YtnolcbjaijoloaaGreatCFRangeFAll
import Derived.Maps.AppendAt
import Derived.Laws.EntriesVeiled
namespace Go.Proofs.YtnolcbjaijoloaaGreat
open Go.RowKit Go.Lib Go.Shelf

set_option maxRecDepth 100000 in
set_option maxHeartbeats 8000000 in
theorem refused_any (o : Option Addr) (cap : Nat) (x y E : Int) (ns : List NodeD) (w : World)
    (H1 : Hid (∀ W : World, Below w.heap.size w W → Calls Tryz.prog 24 #[.agg #[.slice o ns.length cap], .int .i64 x, .int .i64 y] W fun e w' => e = .returned (.tuple #[.bool false, .int .i64 E]) ∧ Below W.heap.size W w'))
    (H2 : Hid (∀ W : World, Below w.heap.size w W → Calls Tryz.prog 25 #[.agg #[.slice o ns.length cap], .int .i64 x, .int .i64 y] W fun e w' => e = .returned (.tuple #[.int .i64 0, .int .i64 E]) ∧ Below W.heap.size W w'))
    (H3 : Hid (∀ W : World, Below w.heap.size w W → Calls Tryz.prog 26 #[.agg #[.slice o ns.length cap], .int .i64 x, .int .i64 y] W fun e w' => e = .returned (.tuple #[.int .i64 0, .bool false, .int .i64 E]) ∧ Below W.heap.size W w'))
    (H4 : Hid (∀ W : World, Below w.heap.size w W → Calls Tryz.prog 27 #[.agg #[.slice o ns.length cap], .int .i64 x, .int .i64 y] W fun e w' => e = .returned (.tuple #[.int .i64 0, .int .i64 E]) ∧ Below W.heap.size W w'))
    (H5 : Hid (∀ W : World, Below w.heap.size w W → Calls Tryz.prog 34 #[.agg #[.slice o ns.length cap], .int .i64 x, .int .i64 y] W fun e w' => e = .returned (.tuple #[.bool false, .int .i64 E]) ∧ Below W.heap.size W w')) :
    Calls Tryz.prog 23 #[.agg #[.slice o ns.length cap], .int .i64 x, .int .i64 y, .int .i64 E] w fun e w' => e = .returned (.bool true) ∧ Below w.heap.size w w' := by
  have hB0 : Below (w.heap.size + 1) (w.alloc (.cells #[.slice o ns.length cap] 24)) (w.alloc (.cells #[.slice o ns.length cap] 24)) := Below.refl _ _
  have HX : Hid (∀ v1 : World, Below (w.heap.size + 1) (w.alloc (.cells #[.slice o ns.length cap] 24)) v1 → v1.cell? ⟨w.heap.size, 0, none⟩ = some (.slice o ns.length cap)) := fun v1 hB1 => (hB1.cell (p := ⟨w.heap.size, 0, none⟩) (by show w.heap.size < w.heap.size + 1; omega)).trans (by simp)
  have HB0 := hid hB0
  clear hB0
  go_enter Tryz.func23, Tryz.ntmps23
  go_wp2_with fail
  refine (H1.out _ (bx_below HB0.out)).mono ?_
  rintro e v1 ⟨rfl, hb1⟩
  have HB1 := hid (HB0.out.trans (hb1.mono (by simp)))
  have c1 := HX.out v1 HB1.out
  clear hb1 HB0 H1
  go_wp2_with fail
  refine (H2.out _ (bx_below HB1.out)).mono ?_
  rintro e v2 ⟨rfl, hb2⟩
  have HB2 := hid (HB1.out.trans (hb2.mono (bx_size HB1.out)))
  have c2 := HX.out v2 HB2.out
  clear hb2 HB1 H2 c1
  go_wp2_with fail
  refine (H3.out _ (bx_below HB2.out)).mono ?_
  rintro e v3 ⟨rfl, hb3⟩
  have HB3 := hid (HB2.out.trans (hb3.mono (bx_size HB2.out)))
  have c3 := HX.out v3 HB3.out
  clear hb3 HB2 H3 c2
  go_wp2_with fail
  refine (H4.out _ (bx_below HB3.out)).mono ?_
  rintro e v4 ⟨rfl, hb4⟩
  have HB4 := hid (HB3.out.trans (hb4.mono (bx_size HB3.out)))
  have c4 := HX.out v4 HB4.out
  clear hb4 HB3 H4 c3
  go_wp2_with fail
  refine (H5.out _ (bx_below HB4.out)).mono ?_
  rintro e v5 ⟨rfl, hb5⟩
  have HB5 := hid (HB4.out.trans (hb5.mono (bx_size HB4.out)))
  clear hb5 HB4 H5 c4
  go_wp2
  go_ret
  exact ⟨rfl, bx_below HB5.out⟩

set_option maxRecDepth 100000 in
set_option maxHeartbeats 8000000 in
theorem twos_refused (o : Option Addr) (cap : Nat) (x y E : Int) (ns : List NodeD) (w : World) (hE : (E != 0) = true)
    (HBg : Hid (∀ W : World, Calls Tryz.prog 6 #[] W fun e w' => e = .returned (.bool true) ∧ Below W.heap.size W w'))
    (HFa : Hid (∀ (v : Value) (W : World), Below w.heap.size w W → RdI W v [x, y] → Calls Tryz.prog 7 #[.agg #[.slice o ns.length cap], v] W fun e w' => e = .returned (.int .i64 E) ∧ Below W.heap.size W w'))
    (HRe : Hid (∀ (W : World), Below w.heap.size w W → Calls Tryz.prog 23 #[.agg #[.slice o ns.length cap], .int .i64 x, .int .i64 y, .int .i64 E] W fun e w' => e = .returned (.bool true) ∧ Below W.heap.size W w')) :
    Calls Tryz.prog 4 #[.agg #[.slice o ns.length cap], .int .i64 x, .int .i64 y] w fun e w' => e = .returned (.bool true) ∧ Below w.heap.size w w' := by
  have hB0 : Below (w.heap.size + 1) (w.alloc (.cells #[.slice o ns.length cap] 24)) (w.alloc (.cells #[.slice o ns.length cap] 24)) := Below.refl _ _
  have HX : Hid (∀ v1 : World, Below (w.heap.size + 1) (w.alloc (.cells #[.slice o ns.length cap] 24)) v1 → v1.cell? ⟨w.heap.size, 0, none⟩ = some (.slice o ns.length cap)) := fun v1 hB1 => (hB1.cell (p := ⟨w.heap.size, 0, none⟩) (by show w.heap.size < w.heap.size + 1; omega)).trans (by simp)
  have HB0 := hid hB0
  clear hB0
  go_enter Tryz.func4, Tryz.ntmps4
  go_wp2_with fail
  refine (HBg.out _).mono ?_
  rintro e v1 ⟨rfl, hb1⟩
  have HB1 := hid (HB0.out.trans (hb1.mono (by simp)))
  have c1 := HX.out v1 HB1.out
  clear hb1 HB0
  go_wp2_with fail
  have hr2 := two_rdI v1 x y 3
  have hBa : Below w.heap.size w (v1.alloc (.cells #[.int .i64 x, .int .i64 y] 3)) := (bx_below HB1.out).alloc (Nat.le_of_succ_le (bx_size HB1.out)) _
  refine (HFa.out _ _ hBa hr2).mono ?_
  rintro e v2 ⟨rfl, hb2⟩
  have HB2 := hid (chain_alloc HB1.out (bx_size HB1.out) hb2)
  have c2 := HX.out v2 HB2.out
  clear hb2 HB1 HFa hr2 hBa c1
  go_wp2_with fail
  refine (HRe.out _ (bx_below HB2.out)).mono ?_
  rintro e v3 ⟨rfl, hb3⟩
  have HB3 := hid (HB2.out.trans (hb3.mono (bx_size HB2.out)))
  clear hb3 HB2 HRe c2
  go_wp2
  go_ret
  exact ⟨rfl, bx_below HB3.out⟩

set_option maxRecDepth 100000 in
set_option maxHeartbeats 8000000 in
theorem twos_right (o : Option Addr) (cap : Nat) (x y : Int) (C M : Bool) (K N U : Int) (ns : List NodeD) (w : World)
    (HBg : Hid (∀ W : World, Calls Tryz.prog 6 #[] W fun e w' => e = .returned (.bool true) ∧ Below W.heap.size W w'))
    (HFa : Hid (∀ (v : Value) (W : World), Below w.heap.size w W → RdI W v [x, y] → Calls Tryz.prog 7 #[.agg #[.slice o ns.length cap], v] W fun e w' => e = .returned (.int .i64 0) ∧ Below W.heap.size W w'))
    (H1 : Hid (∀ W : World, Below w.heap.size w W → Calls Tryz.prog 24 #[.agg #[.slice o ns.length cap], .int .i64 x, .int .i64 y] W fun e w' => e = .returned (.tuple #[.bool C, .int .i64 0]) ∧ Below W.heap.size W w'))
    (H2 : Hid (∀ W : World, Below w.heap.size w W → Calls Tryz.prog 25 #[.agg #[.slice o ns.length cap], .int .i64 x, .int .i64 y] W fun e w' => e = .returned (.tuple #[.int .i64 K, .int .i64 0]) ∧ Below W.heap.size W w'))
    (H3 : Hid (∀ W : World, Below w.heap.size w W → Calls Tryz.prog 26 #[.agg #[.slice o ns.length cap], .int .i64 x, .int .i64 y] W fun e w' => e = .returned (.tuple #[.int .i64 N, .bool M, .int .i64 0]) ∧ Below W.heap.size W w'))
    (H4 : Hid (∀ W : World, Below w.heap.size w W → Calls Tryz.prog 27 #[.agg #[.slice o ns.length cap], .int .i64 x, .int .i64 y] W fun e w' => e = .returned (.tuple #[.int .i64 U, .int .i64 0]) ∧ Below W.heap.size W w'))
    (H5 : Hid (∀ W : World, Below w.heap.size w W → Calls Tryz.prog 28 #[.agg #[.slice o ns.length cap], .int .i64 x, .int .i64 y] W fun e w' => e = .returned (.tuple #[.int .i64 N, .bool M]) ∧ Below W.heap.size W w'))
    (H6 : Hid (∀ W : World, Below w.heap.size w W → Calls Tryz.prog 29 #[.agg #[.slice o ns.length cap], .int .i64 x, .int .i64 y] W fun e w' => e = .returned (.bool C) ∧ Below W.heap.size W w'))
    (H7 : Hid (∀ W : World, Below w.heap.size w W → Calls Tryz.prog 30 #[.agg #[.slice o ns.length cap], .int .i64 x, .int .i64 y] W fun e w' => e = .returned (.int .i64 K) ∧ Below W.heap.size W w'))
    (H8 : Hid (∀ W : World, Below w.heap.size w W → Calls Tryz.prog 31 #[.agg #[.slice o ns.length cap], .int .i64 x, .int .i64 y] W fun e w' => e = .returned (.int .i64 U) ∧ Below W.heap.size W w')) :
    Calls Tryz.prog 4 #[.agg #[.slice o ns.length cap], .int .i64 x, .int .i64 y] w fun e w' => e = .returned (.bool true) ∧ Below w.heap.size w w' := by
  have hB0 : Below (w.heap.size + 1) (w.alloc (.cells #[.slice o ns.length cap] 24)) (w.alloc (.cells #[.slice o ns.length cap] 24)) := Below.refl _ _
  have HX : Hid (∀ v1 : World, Below (w.heap.size + 1) (w.alloc (.cells #[.slice o ns.length cap] 24)) v1 → v1.cell? ⟨w.heap.size, 0, none⟩ = some (.slice o ns.length cap)) := fun v1 hB1 => (hB1.cell (p := ⟨w.heap.size, 0, none⟩) (by show w.heap.size < w.heap.size + 1; omega)).trans (by simp)
  have HB0 := hid hB0
  clear hB0
  go_enter Tryz.func4, Tryz.ntmps4
  go_wp2_with fail
  refine (HBg.out _).mono ?_
  rintro e v1 ⟨rfl, hb1⟩
  have HB1 := hid (HB0.out.trans (hb1.mono (by simp)))
  have c1 := HX.out v1 HB1.out
  clear hb1 HB0
  go_wp2_with fail
  have hr2 := two_rdI v1 x y 3
  have hBa : Below w.heap.size w (v1.alloc (.cells #[.int .i64 x, .int .i64 y] 3)) := (bx_below HB1.out).alloc (Nat.le_of_succ_le (bx_size HB1.out)) _
  refine (HFa.out _ _ hBa hr2).mono ?_
  rintro e v2 ⟨rfl, hb2⟩
  have HB2 := hid (chain_alloc HB1.out (bx_size HB1.out) hb2)
  have c2 := HX.out v2 HB2.out
  clear hb2 HB1 HFa hr2 hBa c1
  go_wp2_with fail
  refine (H1.out _ (bx_below HB2.out)).mono ?_
  rintro e v3 ⟨rfl, hb3⟩
  have HB3 := hid (HB2.out.trans (hb3.mono (bx_size HB2.out)))
  have c3 := HX.out v3 HB3.out
  clear hb3 HB2 H1 c2
  go_wp2_with fail
  refine (H2.out _ (bx_below HB3.out)).mono ?_
  rintro e v4 ⟨rfl, hb4⟩
  have HB4 := hid (HB3.out.trans (hb4.mono (bx_size HB3.out)))
  have c4 := HX.out v4 HB4.out
  clear hb4 HB3 H2 c3
  go_wp2_with fail
  refine (H3.out _ (bx_below HB4.out)).mono ?_
  rintro e v5 ⟨rfl, hb5⟩
  have HB5 := hid (HB4.out.trans (hb5.mono (bx_size HB4.out)))
  have c5 := HX.out v5 HB5.out
  clear hb5 HB4 H3 c4
  go_wp2_with fail
  refine (H4.out _ (bx_below HB5.out)).mono ?_
  rintro e v6 ⟨rfl, hb6⟩
  have HB6 := hid (HB5.out.trans (hb6.mono (bx_size HB5.out)))
  have c6 := HX.out v6 HB6.out
  clear hb6 HB5 H4 c5
  go_wp2_with fail
  refine (H5.out _ (bx_below HB6.out)).mono ?_
  rintro e v7 ⟨rfl, hb7⟩
  have HB7 := hid (HB6.out.trans (hb7.mono (bx_size HB6.out)))
  have c7 := HX.out v7 HB7.out
  clear hb7 HB6 H5 c6
  go_wp2_with fail
  refine (H6.out _ (bx_below HB7.out)).mono ?_
  rintro e v8 ⟨rfl, hb8⟩
  have HB8 := hid (HB7.out.trans (hb8.mono (bx_size HB7.out)))
  have c8 := HX.out v8 HB8.out
  clear hb8 HB7 H6 c7
  go_wp2_with fail
  refine (H7.out _ (bx_below HB8.out)).mono ?_
  rintro e v9 ⟨rfl, hb9⟩
  have HB9 := hid (HB8.out.trans (hb9.mono (bx_size HB8.out)))
  have c9 := HX.out v9 HB9.out
  clear hb9 HB8 H7 c8
  go_wp2_with fail
  refine (H8.out _ (bx_below HB9.out)).mono ?_
  rintro e v10 ⟨rfl, hb10⟩
  have HB10 := hid (HB9.out.trans (hb10.mono (bx_size HB9.out)))
  have c10 := HX.out v10 HB10.out
  clear hb10 HB9 H8 c9
  go_wp2
  go_ret
  exact ⟨rfl, bx_below HB10.out⟩
end Go.Proofs.YtnolcbjaijoloaaGreat

namespace Go.Proofs.YtnolcbjaijoloaaGreat
open Go.RowKit Go.Lib Go.Shelf

/-- Units that are put behind a row of the call's own. -/
theorem run_append_rdI (w : World) (B : Nat) (v src : Value) (done us : List Int) (ty : TypeId) (hown : w.ownsRow B 3 1 v done.length (done.map (Value.int .i64))) (hB : B ≤ w.heap.size) (hr : RdI w src us) (hn : done.length + us.length ≤ 4398046511104) :
    ∃ v' w', (Builtin.append_ #[28, 28] ty #[v, src]).run Tryz.prog w = .ok v' w' ∧ w'.ownsRow B 3 1 v' (done ++ us).length ((done ++ us).map (Value.int .i64)) ∧ w.grownBy w' v.ownBlock := by
  obtain ⟨i0, hi, hz0, hz1, hz2⟩ := info_parts info_int
  have hcase : (∃ cap, src = .slice none 0 cap ∧ us = []) ∨ ∃ a cap, src = .slice (some a) us.length cap ∧ (∀ (j : Nat) (h : j < us.length), w.cell? (a.add j) = some (.int .i64 us[j])) := by
    obtain ⟨o, cap, rfl, _, g⟩ := hr
    by_cases h0 : us.length = 0
    · have hn : us = [] := List.eq_nil_of_length_eq_zero h0
      subst hn
      cases o with
      | none => exact .inl ⟨cap, rfl, rfl⟩
      | some a => exact .inr ⟨a, cap, rfl, fun j hj => by simp at hj⟩
    · obtain ⟨b, off, rfl, _, ha⟩ := g (by omega)
      refine .inr ⟨⟨b, off, none⟩, cap, rfl, fun j hj => ?_⟩
      have e : (⟨b, off, none⟩ : Addr).add j = ⟨b, off + j, none⟩ := by simp [Addr.add]
      rw [e]
      exact ha j hj
  rcases hcase with ⟨cap, rfl, rfl⟩ | ⟨a, cap, rfl, hc⟩
  · refine ⟨v, w, ?_, by simpa using hown, ⟨rfl, rfl, rfl, Nat.le_refl _, fun _ _ _ => rfl⟩⟩
    rcases hown.2 with ⟨hv, _⟩ | ⟨g, c, cur, hv, _, hg, hnc, _⟩
    · subst hv
      have hs := Src.ofNil (P := Tryz.prog) w (size := i0.size) Tryz.underlying28 cap
      simp [Builtin.append_, run_underlying Tryz.underlying28, sizeOf, typeInfo, hi, Builtin.lenOf]
      rw [hs.cells]
      rfl
    · subst hv
      have hs := Src.ofNil (P := Tryz.prog) w (size := i0.size) Tryz.underlying28 cap
      have h := run_append_room_src w 28 28 ty 3 i0 Tryz.underlying28 hi g 0 done.length c (.slice none 0 cap) 0 [] hs (by omega) (fun j hj => by simp at hj) (fun j hj => by simp at hj)
      exact h
  · obtain ⟨v', w', h1, h2, h3, _⟩ := run_append_own (P := Tryz.prog) w B 28 ty 3 i0 (.int .i64 0) 1 8 Tryz.underlying28 hi hz0 hz1 hz2 rfl (by decide) v done.length (done.map (Value.int .i64)) hown a us.length cap (us.map (Value.int .i64)) (by simp) (fun j u hj => by
      rw [List.getElem?_map] at hj
      obtain ⟨x, hx, rfl⟩ := Option.map_eq_some_iff.1 hj
      obtain ⟨hj', rfl⟩ := List.getElem?_eq_some_iff.1 hx
      exact hc j hj') (fun u hu => by obtain ⟨x, _, rfl⟩ := List.mem_map.1 hu; rfl) (by unfold maxLen; omega) (by omega) hB
    exact ⟨v', w', h1, by simpa using h2, h3⟩

theorem below_grownI {B : Nat} {w w1 : World} {v : Value} {n : Nat} {xs : List Value} (hown : w.ownsRow B 3 1 v n xs) (hB : B ≤ w.heap.size) (hg : w.grownBy w1 v.ownBlock) : Below B w w1 :=
  (Below.refl B w).grown hg hB (fun j hj => (hown.lt j hj).1)

set_option maxRecDepth 100000 in
set_option maxHeartbeats 1000000 in
theorem grow_nil (n : Nat) (w : World) (hn : n ≤ 1099511627776) :
    Calls Tryz.prog 105 #[.slice none 0 0, .int .i64 n] w fun e w' => ∃ v, e = .returned v ∧ w'.ownsRow w.heap.size 3 1 v 0 (([] : List Int).map (Value.int .i64)) ∧ Below w.heap.size w w' := by
  obtain ⟨i0, hi, hz0, hz1, hz2⟩ := info_parts info_int
  by_cases h0 : n = 0
  · subst h0
    go_enter Tryz.func105, Tryz.ntmps105
    go_wp2
    go_ret
    exact ⟨_, rfl, World.ownsRow_nil _ _ _ _, Below.refl _ _⟩
  · have h1 : ¬ ((n : Int) < 0) := by omega
    have h2 : (0 : Int) < (n : Int) := by omega
    have hold : (Builtin.firstCells i0.size 0 (.slice none 0 0)).run Tryz.prog w.drew = .ok ([] : List Value).toArray w.drew := run_firstCells_none w.drew i0.size 0 0 0
    have hap := fun ty => run_append_grow_zeros (P := Tryz.prog) w 28 3 ty 3 i0 (.int .i64 0) .i64 .i64 Tryz.underlying28 Tryz.underlying3 hi hz0 none 0 0 [] hold n (by omega) (by omega) (by omega) (by omega) (by rw [hz2]; omega) (growslice_fits (by omega) (by rw [hz2]; omega))
    have hge := grownCap_ge w (0 + n) 0 3
    have hlm := grownCap_le_maxLen w (0 + n) 0 3 (by unfold maxLen; omega)
    generalize grownCap w (0 + n) 0 3 = G at *
    have hcs : (([] : List Value).toArray ++ Builtin.zeroCells (Value.int .i64 0).cells n ++ Builtin.zeroCells (Value.int .i64 0).cells (G - (0 + n))).size = G := by
      simp [Builtin.zeroCells, Value.cells]
      omega
    generalize ([] : List Value).toArray ++ Builtin.zeroCells (Value.int .i64 0).cells n ++ Builtin.zeroCells (Value.int .i64 0).cells (G - (0 + n)) = C at *
    have hown : ((w.drew).alloc (.cells C 3)).ownsRow w.heap.size 3 1 (.slice (some ⟨w.heap.size, 0, none⟩) 0 G) 0 (([] : List Int).map (Value.int .i64)) :=
      ⟨rfl, .inr ⟨w.heap.size, G, C, rfl, Nat.le_refl _, heap_new w.drew _, Nat.zero_le _, hlm, by omega, rfl⟩⟩
    simp only [Nat.zero_add] at hap hge
    unfold maxLen at hlm
    go_enter Tryz.func105, Tryz.ntmps105
    go_wp2_with (at_builtin; refine wpList_append_run _ rfl _ _ 28 3 rfl _ _ rfl rfl _ _ (hap _) ?_)
    go_ret
    exact ⟨_, rfl, hown, ((Below.refl _ w).drew).alloc (Nat.le_refl _) _⟩

/-- Strings of units that lie one behind the other. -/
def CellsLI (w : World) (g : Nat) (L : List (Value × List Int)) : Prop := ∀ (j : Nat) (h : j < L.length), w.cell? ⟨g, j, none⟩ = some L[j].1 ∧ RdI w L[j].1 L[j].2
theorem CellsLI.later {w W : World} {g : Nat} {L : List (Value × List Int)} (h : CellsLI w g L) (hg : g < w.heap.size) (hb : Below w.heap.size w W) : CellsLI W g L := fun j hj =>
  ⟨(hb.cell (p := ⟨g, j, none⟩) hg).trans (h j hj).1, (h j hj).2.later hb⟩
def sumL (L : List (Value × List Int)) : Nat := (L.map (·.2.length)).sum
def catL (L : List (Value × List Int)) : List Int := L.flatMap (·.2)
theorem catL_len (L : List (Value × List Int)) : (catL L).length = sumL L := by
  simp [catL, sumL, List.length_flatMap]
theorem take_step (L : List (Value × List Int)) (k : Nat) (h : k < L.length) : L.take (k + 1) = L.take k ++ [L[k]] := by
  rw [List.take_add_one, List.getElem?_eq_getElem h]
  rfl
theorem sum_step (L : List (Value × List Int)) (k : Nat) (h : k < L.length) : sumL (L.take (k + 1)) = sumL (L.take k) + L[k].2.length := by
  unfold sumL
  rw [take_step L k h, List.map_append, List.sum_append, List.map_cons, List.map_nil, List.sum_cons, List.sum_nil, Nat.add_zero]
theorem cat_step (L : List (Value × List Int)) (k : Nat) (h : k < L.length) : catL (L.take (k + 1)) = catL (L.take k) ++ L[k].2 := by
  unfold catL
  rw [take_step L k h, List.flatMap_append, List.flatMap_cons, List.flatMap_nil, List.append_nil]
theorem sum_le (L : List (Value × List Int)) (k : Nat) : sumL (L.take k) ≤ sumL L := by
  have h : sumL L = sumL (L.take k) + sumL (L.drop k) := by
    unfold sumL
    rw [← List.sum_append, ← List.map_append, List.take_append_drop]
  omega

set_option maxRecDepth 100000 in
set_option maxHeartbeats 2000000 in
theorem concat_any (g cap : Nat) (L : List (Value × List Int)) (w : World) (hg : g < w.heap.size) (hc : CellsLI w g L) (hl : L.length ≤ 1000) (hs : sumL L ≤ 1099511627776) :
    Calls Tryz.prog 96 #[.slice (some ⟨g, 0, none⟩) L.length cap] w fun e w' => ∃ v, e = .returned v ∧ w'.ownsRow w.heap.size 3 1 v (catL L).length ((catL L).map (Value.int .i64)) ∧ Below w.heap.size w w' := by
  have HG : Hid (∀ n W, n ≤ 1099511627776 → _) := grow_nil
  go_enter Tryz.func96, Tryz.ntmps96
  go_wp2
  go_loopw [3, 11] (fun sz i wr => ∃ k : Nat, k ≤ L.length ∧ i = .int .i64 k ∧ sz = .int .i64 (sumL (L.take k)) ∧ w = wr) (fun _ i _ => L.length - (RowKit.intOf i).toNat)
  case atStart => exact ⟨0, Nat.zero_le _, rfl, rfl, rfl⟩
  case round =>
    obtain ⟨k, hk, rfl, rfl, rfl⟩ := hrel
    by_cases hlt : k < L.length
    · obtain ⟨hx, hrd⟩ := hc k hlt
      have hst := sum_step L k hlt
      have hle := sum_le L (k + 1)
      obtain ⟨o, c, hv, -⟩ := hrd
      rw [hv] at hx
      generalize L[k].2.length = m at *
      generalize sumL (L.take k) = a at *
      have q : ¬ ((a : Int) + (m : Int) < 0) := by omega
      go_wp2
      go_roundw
      case rel => exact ⟨k + 1, by omega, by go_num, by rw [hst]; go_num, trivial⟩
      case measure => simp [RowKit.intOf]; omega
    · have hkl : k = L.length := by omega
      subst hkl
      rw [List.take_length]
      have hG := HG.out (sumL L) w (by omega)
      go_wp2_with (go_at_call 105; refine hG.mono ?_; rintro e w1 ⟨v1, rfl, ho1, hb1⟩)
      go_loopw [6, 27] (fun v i wr => ∃ k : Nat, k ≤ L.length ∧ i = .int .i64 k ∧ wr.ownsRow w.heap.size 3 1 v (catL (L.take k)).length ((catL (L.take k)).map (Value.int .i64)) ∧ Below w.heap.size w wr) (fun _ i _ => L.length - (RowKit.intOf i).toNat)
      case atStart => exact ⟨0, Nat.zero_le _, rfl, ho1, hb1⟩
      case round =>
        obtain ⟨k, hk, rfl, ho, hb⟩ := hrel
        by_cases hlt : k < L.length
        · obtain ⟨hx, hrd⟩ := hc.later hg hb k hlt
          have hst := cat_step L k hlt
          have hss := sum_step L k hlt
          have hle := sum_le L (k + 1)
          have hcl := catL_len (L.take k)
          obtain ⟨v', w', h1, h2, h3⟩ := run_append_rdI wr w.heap.size _ _ _ _ 28 ho hb.size hrd (by rw [hcl]; omega)
          have hb2 := hb.trans (below_grownI ho hb.size h3)
          rw [← hst] at h2
          generalize L[k].1 = x at *
          go_wp2_with (at_builtin; refine wpList_append_run _ rfl _ _ 28 28 rfl _ _ rfl rfl _ _ h1 ?_)
          go_roundw
          case rel => exact ⟨k + 1, by omega, by go_num, h2, hb2⟩
          case measure => simp [RowKit.intOf]; omega
        · have hkl : k = L.length := by omega
          subst hkl
          rw [List.take_length] at ho
          go_wp2
          go_ret
          exact ⟨_, rfl, ho, hb⟩
end Go.Proofs.YtnolcbjaijoloaaGreat

namespace Go.Proofs.YtnolcbjaijoloaaGreat
open Go.RowKit Go.Lib Go.Shelf

theorem fld_kind (n : NodeD) (D A K : Value) (W : World) : Sem.run Tryz.prog (Instr.field 59 (.agg #[.int .u8 (n.kind : Int), .string n.space, .string n.pre, .string n.loc, .string n.pub, .string n.sys, D, A, .int .i64 n.parent, K, .int .i64 n.doc, .int .i64 n.host, .int .i64 n.shadow, .int .u8 (n.mode : Int), .bool n.manual, .bool n.html]) 0) W = .ok (.int .u8 (n.kind : Int)) W := by kernel_rfl
theorem fld_host (n : NodeD) (D A K : Value) (W : World) : Sem.run Tryz.prog (Instr.field 59 (.agg #[.int .u8 (n.kind : Int), .string n.space, .string n.pre, .string n.loc, .string n.pub, .string n.sys, D, A, .int .i64 n.parent, K, .int .i64 n.doc, .int .i64 n.host, .int .i64 n.shadow, .int .u8 (n.mode : Int), .bool n.manual, .bool n.html]) 9) W = .ok (.int .i64 n.host) W := by kernel_rfl
theorem over_kind {ns : List NodeD} (h : RightF ns) (j : Nat) (hj : j < ns.length) : overD ns ((j : Int) + 1) = if ns[j].kind == 12 then ns[j].host else ns[j].parent := by
  rw [overD_at ns j hj]
  by_cases hk : ns[j].kind = 12
  · have ht := h.host j hj hk
    have hne : ns[j].host ≠ 0 := fun e => by
      rw [e] at ht
      cases ht
    rw [beq_eq_false_iff_ne.2 hne, if_neg Bool.false_ne_true, hk]
    rfl
  · rw [bare_host (well_parts (h.well j hj)).2.1 hk, beq_eq_false_iff_ne.2 hk, if_neg Bool.false_ne_true]
    rfl
theorem over_there {ns : List NodeD} (h : RightF ns) {x : Int} (hx : thereB ns.length x = true) : overD ns x = 0 ∨ thereB ns.length (overD ns x) = true := by
  obtain ⟨j, hj, rfl⟩ := there_idx hx
  rcases h.overOK j hj with e | ⟨_, e⟩
  · exact .inl e
  · exact .inr e
theorem over_head {ns : List NodeD} (h : RightF ns) {x : Int} (hx : thereB ns.length x = true) : pathUp ns (overD ns) x = x :: pathUp ns (overD ns) (overD ns x) := by
  obtain ⟨j, hj, rfl⟩ := there_idx hx
  exact pathUp_cons ns _ h.overOK h.ends j hj

set_option maxRecDepth 100000 in
set_option maxHeartbeats 4000000 in
theorem refAbove4_any (b off cap : Nat) (x : Int) (ns : List NodeD) (w : World) (hR : RightF ns) (hF : FAt w b off cap ns) (hx : thereB ns.length x = true) :
    Calls Tryz.prog 81 #[.agg #[.slice (some ⟨b, off, none⟩) ns.length cap], .int .i64 x] w fun e w' => e = .returned (.int .i64 (overD ns x)) ∧ Below w.heap.size w w' := by
  have HX : Hid (∀ v1 : World, Below (w.heap.size + 1) (w.alloc (.cells #[.slice (some ⟨b, off, none⟩) ns.length cap] 24)) v1 → v1.cell? ⟨w.heap.size, 0, none⟩ = some (.slice (some ⟨b, off, none⟩) ns.length cap)) := fun v1 hB1 => (hB1.cell (p := ⟨w.heap.size, 0, none⟩) (by show w.heap.size < w.heap.size + 1; omega)).trans (by simp)
  have hB0 : Below (w.heap.size + 1) (w.alloc (.cells #[.slice (some ⟨b, off, none⟩) ns.length cap] 24)) (w.alloc (.cells #[.slice (some ⟨b, off, none⟩) ns.length cap] 24)) := Below.refl _ _
  obtain ⟨j, hj, rfl⟩ := there_idx hx
  have HO : Hid (∀ (W : World), Below w.heap.size w W → _) := fun W hW => refOf_any b off cap j ns W (hF.later hW) hj
  rw [over_kind hR j hj]
  have HB0 := hid hB0
  have hO := HO.out _ (bx_below hB0)
  clear hF hR hx hB0
  generalize ns[j] = n at *
  have ek : ((n.kind : Int) == 12) = (n.kind == 12) := beq_cast n.kind 12
  cases hk : (n.kind == 12)
  all_goals
    rw [hk] at ek
    first | rw [if_pos rfl] | rw [if_neg Bool.false_ne_true]
    clear hk
    go_enter Tryz.func81, Tryz.ntmps81
    go_wp2_with fail
    refine hO.mono ?_
    rintro e v1 ⟨L, rfl, h1, h2, h3, hb1⟩
    obtain ⟨od, cd, oa, ca, ok, ck, rfl⟩ := lists_slices h1 h2 h3
    have hB1 := HB0.out.trans (hb1.mono (by simp))
    have cb1 := HX.out v1 hB1
    have hO2 := HO.out v1 (bx_below hB1)
    have HB1 := hid hB1
    clear h1 h2 h3 hb1 hO hB1 HO
    unfold nodeV
    have hfl := fld_kind n (.slice od n.data.length cd) (.slice oa n.attrs.length ca) (.slice ok n.kids.length ck)
    go_wp2_with fail
    refine hO2.mono ?_
    rintro e v2 ⟨L, rfl, h1, h2, h3, hb2⟩
    obtain ⟨od2, cd2, oa2, ca2, ok2, ck2, rfl⟩ := lists_slices h1 h2 h3
    have HB2 := hid (HB1.out.trans (hb2.mono (bx_size HB1.out)))
    clear h1 h2 h3 hb2 hO2 hfl
    unfold nodeV
    have hfh := fld_host n (.slice od2 n.data.length cd2) (.slice oa2 n.attrs.length ca2) (.slice ok2 n.kids.length ck2)
    have hfp := fld_parent n (.slice od2 n.data.length cd2) (.slice oa2 n.attrs.length ca2) (.slice ok2 n.kids.length ck2)
    go_wp2
    go_ret
    exact ⟨rfl, bx_below HB2.out⟩

set_option maxRecDepth 100000 in
set_option maxHeartbeats 4000000 in
theorem refTop_any (b off cap : Nat) (x : Int) (ns : List NodeD) (w : World) (hR : RightF ns) (hF : FAt w b off cap ns) (hx : thereB ns.length x = true) :
    Calls Tryz.prog 36 #[.agg #[.slice (some ⟨b, off, none⟩) ns.length cap], .int .i64 x] w fun e w' => e = .returned (.int .i64 (lastI (pathUp ns (overD ns) x))) ∧ Below w.heap.size w w' := by
  have HA : Hid (∀ (z : Int) (hz : thereB ns.length z = true) (W : World), Below w.heap.size w W → _) := fun z hz W hW => refAbove4_any b off cap z ns W hR (hF.later hW) hz
  obtain ⟨R, hRR⟩ : ∃ R, lastI (pathUp ns (overD ns) x) = R := ⟨_, rfl⟩
  rw [hRR]
  have HR : Hid (lastI (pathUp ns (overD ns) x) = R) := hRR
  clear hRR hF
  go_enter Tryz.func36, Tryz.ntmps36
  go_wp2
  go_loopw [1] (fun t wr => ∃ y : Int, thereB ns.length y = true ∧ t = .int .i64 y ∧ Below (w.heap.size + 1) (w.alloc (.cells #[.slice (some ⟨b, off, none⟩) ns.length cap] 24)) wr ∧ Hid (lastI (pathUp ns (overD ns) y) = R)) (fun t _ => (pathUp ns (overD ns) (RowKit.intOf t)).length)
  case atStart => exact ⟨x, hx, rfl, Below.refl _ _, HR⟩
  case round =>
    obtain ⟨y, hy, rfl, hB, hr⟩ := hrel
    have hBw := bx_below hB
    have cb : wr.cell? ⟨w.heap.size, 0, none⟩ = some (.slice (some ⟨b, off, none⟩) ns.length cap) := (hB.cell (p := ⟨w.heap.size, 0, none⟩) (by show w.heap.size < w.heap.size + 1; omega)).trans (by simp)
    have hph := over_head hR hy
    have hpt := over_there hR hy
    have hA := HA.out y hy wr hBw
    have HA2 : Hid (∀ W : World, Below w.heap.size w W → _) := fun W hW => HA.out y hy W hW
    have HPh := hid hph
    have HPt := hid hpt
    have HB := hid hB
    have HBw := hid hBw
    clear hph hpt hB hBw HR
    generalize overD ns y = p at *
    by_cases h0 : p = 0
    · have hRj : R = y := by
        have h1 := HPh.out
        rw [h0, pathUp_zero] at h1
        rw [← hr.out, h1]
        exact lastI_one _
      subst hRj
      have hne : (p != 0) = false := by rw [h0]; rfl
      clear hr HPh HPt h0
      go_wp2_with fail
      refine hA.mono ?_
      rintro e v1 ⟨rfl, hb1⟩
      have HB1 := hid (HBw.out.trans (hb1.mono HBw.out.size))
      clear hb1 hA
      go_wp2
      go_ret
      exact ⟨rfl, HB1.out⟩
    · have hne : (p != 0) = true := by rw [bne, beq_eq_false_iff_ne.2 h0]; rfl
      have hpt : thereB ns.length p = true := HPt.out.resolve_left h0
      have Hn : Hid (lastI (pathUp ns (overD ns) p) = R) := by
        show _ = _
        rw [← hr.out, HPh.out]
        exact (lastI_cons _ _ (by rw [over_head hR hpt]; simp)).symm
      clear hr HPt
      go_wp2_with fail
      refine hA.mono ?_
      rintro e v1 ⟨rfl, hb1⟩
      have hs1 := bx_size HB.out
      have hB1 := HB.out.trans (hb1.mono hs1)
      have cb1 : v1.cell? ⟨w.heap.size, 0, none⟩ = some (.slice (some ⟨b, off, none⟩) ns.length cap) := (hB1.cell (p := ⟨w.heap.size, 0, none⟩) (by show w.heap.size < w.heap.size + 1; omega)).trans (by simp)
      have hA2 := HA2.out v1 (bx_below hB1)
      have HB1 := hid hB1
      clear hb1 hA hB1 hs1
      go_wp2_with fail
      refine hA2.mono ?_
      rintro e v2 ⟨rfl, hb2⟩
      have HB2 := hid (HB1.out.trans (hb2.mono (bx_size HB1.out)))
      clear hb2 hA2
      go_wp2
      go_roundw
      case rel => exact ⟨_, hpt, rfl, HB2.out, Hn⟩
      case measure =>
        simp only [RowKit.intOf]
        rw [HPh.out]
        simp

theorem holds_here (ns : List NodeD) {a b : Int} (hR : RightF ns) (hb : thereB ns.length b = true) : holdsD ns a b = (b == a || holdsD ns a (overD ns b)) := by
  unfold holdsD
  rw [over_head hR hb, List.contains_cons]
  congr 1
  rw [Bool.eq_iff_iff, beq_iff_eq, beq_iff_eq]
  exact ⟨Eq.symm, Eq.symm⟩
set_option maxRecDepth 100000 in
set_option maxHeartbeats 4000000 in
theorem refHolds_any (b off cap : Nat) (a x : Int) (ns : List NodeD) (w : World) (hR : RightF ns) (hF : FAt w b off cap ns) (ha : thereB ns.length a = true) (hx : thereB ns.length x = true) :
    Calls Tryz.prog 38 #[.agg #[.slice (some ⟨b, off, none⟩) ns.length cap], .int .i64 a, .int .i64 x] w fun e w' => e = .returned (.bool (holdsD ns a x)) ∧ Below w.heap.size w w' := by
  have HA : Hid (∀ (z : Int) (hz : thereB ns.length z = true) (W : World), Below w.heap.size w W → _) := fun z hz W hW => refAbove4_any b off cap z ns W hR (hF.later hW) hz
  obtain ⟨R, hRR⟩ : ∃ R, holdsD ns a x = R := ⟨_, rfl⟩
  rw [hRR]
  have HR : Hid (holdsD ns a x = R) := hRR
  have ha0 := there_ne ha
  clear hRR hF
  go_enter Tryz.func38, Tryz.ntmps38
  go_wp2
  go_loopw [2] (fun t wr => ∃ y : Int, (y = 0 ∨ thereB ns.length y = true) ∧ t = .int .i64 y ∧ Below (w.heap.size + 1) (w.alloc (.cells #[.slice (some ⟨b, off, none⟩) ns.length cap] 24)) wr ∧ Hid (holdsD ns a y = R)) (fun t _ => (pathUp ns (overD ns) (RowKit.intOf t)).length)
  case atStart => exact ⟨x, .inr hx, rfl, Below.refl _ _, HR⟩
  case round =>
    obtain ⟨y, hy, rfl, hB, hr⟩ := hrel
    have hBw := bx_below hB
    have cb : wr.cell? ⟨w.heap.size, 0, none⟩ = some (.slice (some ⟨b, off, none⟩) ns.length cap) := (hB.cell (p := ⟨w.heap.size, 0, none⟩) (by show w.heap.size < w.heap.size + 1; omega)).trans (by simp)
    have HB := hid hB
    have HBw := hid hBw
    clear hB hBw HR
    by_cases hy0 : y = 0
    · have hRf : R = false := by
        rw [← hr.out, hy0]
        unfold holdsD
        rw [pathUp_zero]
        rfl
      subst hRf hy0
      have hne : ((0 : Int) == a) = false := beq_eq_false_iff_ne.2 (fun e => ha0 e.symm)
      clear hr hy
      go_wp2
      go_ret
      exact ⟨rfl, HBw.out⟩
    · have hyt := hy.resolve_left hy0
      have hyn : (y != 0) = true := by rw [bne, beq_eq_false_iff_ne.2 hy0]; rfl
      have hs := holds_here ns (a := a) hR hyt
      cases hya : (y == a) with
      | true =>
        have hRt : R = true := by rw [← hr.out, hs, hya]; rfl
        subst hRt
        have hyb : (y != a) = false := by rw [bne, hya]; rfl
        clear hr hy hs
        go_wp2
        go_ret
        exact ⟨rfl, HBw.out⟩
      | false =>
        have hyb : (y != a) = true := by rw [bne, hya]; rfl
        have Hn : Hid (holdsD ns a (overD ns y) = R) := by
          show _ = _
          rw [← hr.out, hs, hya, Bool.false_or]
        have hA := HA.out y hyt wr HBw.out
        have HPh := hid (over_head hR hyt)
        have HPt := hid (over_there hR hyt)
        clear hr hy hs
        go_wp2_with fail
        refine hA.mono ?_
        rintro e v1 ⟨rfl, hb1⟩
        have HB1 := hid (HB.out.trans (hb1.mono (bx_size HB.out)))
        clear hb1 hA
        go_wp2
        go_roundw
        case rel => exact ⟨_, HPt.out, rfl, HB1.out, Hn⟩
        case measure =>
          simp only [RowKit.intOf]
          rw [HPh.out]
          simp
end Go.Proofs.YtnolcbjaijoloaaGreat

namespace Go.Proofs.YtnolcbjaijoloaaGreat
open Go.RowKit Go.Lib Go.Shelf

def hangD (ns : List NodeD) (x : Int) : List Int := match nodeOf ns x with
  | some n => if n.shadow == 0 then n.kids else n.shadow :: n.kids
  | none => []
theorem hangD_at (ns : List NodeD) (j : Nat) (hj : j < ns.length) : hangD ns ((j : Int) + 1) = if ns[j].shadow == 0 then ns[j].kids else ns[j].shadow :: ns[j].kids := by unfold hangD; rw [nodeOf_at ns j hj]
theorem bare_no_shadow {n : NodeD} (h : bareD n = true) (hk : n.kind ≠ 1) : n.shadow = 0 := by
  unfold bareD at h
  simp only [Bool.and_eq_true] at h
  have h1 := h.1.1.1.1.1.1.1
  rw [beq_eq_false_iff_ne.2 hk] at h1
  simp at h1
  exact h1.2
theorem shadow_down {ns : List NodeD} (h : RightF ns) (j : Nat) (hj : j < ns.length) (h0 : ns[j].shadow ≠ 0) : ∃ (i : Nat) (hi : i < ns.length), ns[j].shadow = (i : Int) + 1 ∧ ns[i].kind = 12 ∧ ns[i].host = (j : Int) + 1 := by
  have hs := h.shadow j hj
  have hb := (well_parts (h.well j hj)).2.1
  have hk : ns[j].kind = 1 := by
    by_cases hk : ns[j].kind = 1
    · exact hk
    · exact absurd (bare_no_shadow hb hk) h0
  unfold rightShadowD at hs
  rw [hk, if_neg (by decide), beq_eq_false_iff_ne.2 h0, Bool.false_or] at hs
  cases hn : nodeOf ns ns[j].shadow with
  | none => rw [hn] at hs; cases hs
  | some u =>
    rw [hn] at hs
    obtain ⟨i, hi, e, e2⟩ := nodeOf_idx hn
    subst e2
    simp only [Bool.and_eq_true, beq_iff_eq] at hs
    exact ⟨i, hi, e, hs.1, hs.2⟩
theorem shadow_back {ns : List NodeD} (h : RightF ns) (j : Nat) (hj : j < ns.length) (hk : ns[j].kind = 12) : ∃ (i : Nat) (hi : i < ns.length), ns[j].host = (i : Int) + 1 ∧ ns[i].shadow = (j : Int) + 1 := by
  have hs := h.shadow j hj
  unfold rightShadowD at hs
  rw [hk, if_pos (by decide)] at hs
  cases hn : nodeOf ns ns[j].host with
  | none => rw [hn] at hs; cases hs
  | some u =>
    rw [hn] at hs
    obtain ⟨i, hi, e, e2⟩ := nodeOf_idx hn
    subst e2
    simp only [Bool.and_eq_true, beq_iff_eq] at hs
    exact ⟨i, hi, e, hs.2⟩
theorem over_kid {ns : List NodeD} (h : RightF ns) {x y : Int} (hx : thereB ns.length x = true) (hy : y ∈ kidsD ns x) : thereB ns.length y = true ∧ overD ns y = x ∧ parentD ns y = x := by
  obtain ⟨ht, hp⟩ := h.kidsHang.down x y hx hy
  refine ⟨ht, ?_, hp⟩
  obtain ⟨i, hi, rfl⟩ := there_idx ht
  rw [parentD_at ns i hi] at hp
  have hk : ns[i].kind ≠ 12 := fun hk => there_ne hx (by rw [← hp]; exact bare_shadow (well_parts (h.well i hi)).2.1 hk)
  rw [over_kind h i hi, beq_eq_false_iff_ne.2 hk, if_neg Bool.false_ne_true, hp]
theorem kidsD_at (ns : List NodeD) (j : Nat) (hj : j < ns.length) : kidsD ns ((j : Int) + 1) = ns[j].kids := by unfold kidsD; rw [nodeOf_at ns j hj]
/-- What hangs on a node, shadow trees too, has it above. -/
theorem RightF.deepHang {ns : List NodeD} (h : RightF ns) : Hangs ns (overD ns) (hangD ns) where
  ok := h.overOK
  ends := h.ends
  down := fun x y hx hy => by
    obtain ⟨j, hj, rfl⟩ := there_idx hx
    rw [hangD_at ns j hj] at hy
    have kid : y ∈ ns[j].kids → thereB ns.length y = true ∧ overD ns y = (j : Int) + 1 := fun hm => by
      have := over_kid h hx (y := y) (by rw [kidsD_at ns j hj]; exact hm)
      exact ⟨this.1, this.2.1⟩
    by_cases h0 : ns[j].shadow = 0
    · rw [h0, show ((0 : Int) == 0) = true from rfl, if_pos rfl] at hy
      exact kid hy
    · rw [beq_eq_false_iff_ne.2 h0, if_neg Bool.false_ne_true] at hy
      rcases List.mem_cons.1 hy with e | hm
      · obtain ⟨i, hi, e1, e2, e3⟩ := shadow_down h j hj h0
        rw [e, e1]
        exact ⟨thereB_idx _ _ hi, by rw [over_kind h i hi, e2, e3]; rfl⟩
      · exact kid hm
  back := fun y hy h0 => by
    obtain ⟨j, hj, rfl⟩ := there_idx hy
    by_cases hk : ns[j].kind = 12
    · have e : overD ns ((j : Int) + 1) = ns[j].host := by rw [over_kind h j hj, hk]; rfl
      obtain ⟨i, hi, e1, e2⟩ := shadow_back h j hj hk
      rw [e, e1, hangD_at ns i hi, e2, if_neg]
      · simp
      · intro hh
        have := eq_of_beq hh
        omega
    · have e : overD ns ((j : Int) + 1) = parentD ns ((j : Int) + 1) := by rw [over_kind h j hj, beq_eq_false_iff_ne.2 hk, if_neg Bool.false_ne_true, parentD_at ns j hj]
      rw [e] at h0 ⊢
      have hm := h.kid hy h0
      obtain ⟨i, hi, e1⟩ := there_idx (h.kidsHang.up_there hy h0)
      rw [e1] at hm ⊢
      rw [kidsD_at ns i hi] at hm
      rw [hangD_at ns i hi]
      split
      · exact hm
      · exact List.mem_cons_of_mem _ hm
  once := fun x hx => by
    have ho := h.kidsHang.once x hx
    obtain ⟨j, hj, rfl⟩ := there_idx hx
    rw [hangD_at ns j hj]
    rw [kidsD_at ns j hj] at ho
    by_cases h0 : ns[j].shadow = 0
    · rw [h0, show ((0 : Int) == 0) = true from rfl, if_pos rfl]
      exact ho
    · rw [beq_eq_false_iff_ne.2 h0, if_neg Bool.false_ne_true]
      refine List.nodup_cons.2 ⟨fun hm => ?_, ho⟩
      obtain ⟨i, hi, e1, e2, e3⟩ := shadow_down h j hj h0
      have hp := (over_kid h hx (y := ns[j].shadow) (by rw [kidsD_at ns j hj]; exact hm)).2.2
      rw [e1, parentD_at ns i hi, bare_shadow (well_parts (h.well i hi)).2.1 e2] at hp
      omega
/-- A node and what lies in it, shadow trees too. -/
def deepD (ns : List NodeD) (x : Int) : List Int := belowF (hangD ns) (ns.length + 1) x
theorem deep_cons {ns : List NodeD} (h : RightF ns) {x : Int} (hx : thereB ns.length x = true) : deepD ns x = x :: (hangD ns x).flatMap (deepD ns) := h.deepHang.cons hx
theorem deep_len {ns : List NodeD} (h : RightF ns) {x : Int} (hx : thereB ns.length x = true) : (deepD ns x).length ≤ 4096 := Nat.le_trans (h.deepHang.below_len (ns.length + 1) x hx (by omega)) h.small
end Go.Proofs.YtnolcbjaijoloaaGreat

namespace Go.Proofs.YtnolcbjaijoloaaGreat
open Go.RowKit Go.Lib Go.Shelf

theorem two_lists {W : World} {g : Nat} {a b : Value} {p q : List Int} {t : TypeId} (h : W.heap[g]? = some (.cells #[a, b] t)) (h1 : RdI W a p) (h2 : RdI W b q) : CellsLI W g [(a, p), (b, q)] := fun j hj => by
  match j, hj with
  | 0, _ => exact ⟨by simp [World.cell?, h], h1⟩
  | 1, _ => exact ⟨by simp [World.cell?, h], h2⟩

set_option maxRecDepth 100000 in
set_option maxHeartbeats 4000000 in
theorem hangOf_at (b off cap j : Nat) (ns : List NodeD) (w0 w : World) (hF0 : FAt w0 b off cap ns) (hW0 : Below w0.heap.size w0 w) (hj : j < ns.length) (hkl : ns[j].kids.length ≤ 1000000000) :
    Calls Tryz.prog 76 #[forestV b off cap ns.length, .int .i64 ((j : Int) + 1)] w fun e w' => ∃ v, e = .returned v ∧ (RdI w0 v (hangD ns ((j : Int) + 1)) ∨ w'.ownsRow w.heap.size 3 1 v (hangD ns ((j : Int) + 1)).length ((hangD ns ((j : Int) + 1)).map (Value.int .i64))) ∧ Below w.heap.size w w' := by
  have hF := hF0.later hW0
  have HX : Hid (∀ v1 : World, Below (w.heap.size + 1) (w.alloc (.cells #[.slice (some ⟨b, off, none⟩) ns.length cap] 24)) v1 → v1.cell? ⟨w.heap.size, 0, none⟩ = some (.slice (some ⟨b, off, none⟩) ns.length cap)) := fun v1 hB1 => (hB1.cell (p := ⟨w.heap.size, 0, none⟩) (by show w.heap.size < w.heap.size + 1; omega)).trans (by simp)
  have hB0 : Below (w.heap.size + 1) (w.alloc (.cells #[.slice (some ⟨b, off, none⟩) ns.length cap] 24)) (w.alloc (.cells #[.slice (some ⟨b, off, none⟩) ns.length cap] 24)) := Below.refl _ _
  have HN : Hid (∀ W : World, _) := fun W => onode_any b off cap ns.length j W hj hF.len
  have HK : Hid (∀ W : World, Below w.heap.size w W → _) := fun W hW => kidsOf_at b off cap j ns w0 W hF0 (hW0.trans (hW.mono hW0.size)) hj
  obtain ⟨L, hc, _⟩ := hF.at_ j hj
  have HC : Hid (∀ W : World, Below w.heap.size w W → W.cell? ⟨b, off + j * 16 + 12, none⟩ = some (.int .i64 ns[j].shadow)) := fun W hW => (hc.later hF.lt hW).shadow
  rw [hangD_at ns j hj]
  have hle := hF.len
  unfold forestV at *
  have HB0 := hid hB0
  have HW0 := hid hW0
  clear hF hF0 hc hB0 hW0
  generalize ns[j] = n at *
  by_cases h0 : n.shadow = 0
  · rw [h0, show ((0 : Int) == 0) = true from rfl, if_pos rfl]
    have hne : (n.shadow != 0) = false := by rw [h0]; rfl
    go_enter Tryz.func76, Tryz.ntmps76
    go_wp2_with fail
    refine (HN.out _).mono ?_
    rintro e v1 ⟨rfl, hb1⟩
    have hB1 := HB0.out.trans (hb1.mono (by simp))
    have cb1 := HX.out v1 hB1
    have cs1 := HC.out v1 (bx_below hB1)
    rw [h0] at cs1
    have HB1 := hid hB1
    clear hb1 hB1
    go_wp2_with fail
    refine (HK.out _ (bx_below HB1.out)).mono ?_
    rintro e v2 ⟨vk, rfl, hrk, hb2⟩
    have HB2 := hid (HB1.out.trans (hb2.mono (bx_size HB1.out)))
    have Hrk := hid hrk
    obtain ⟨ok, ck, rfl, -, -⟩ := hrk
    clear hb2
    go_wp2
    go_ret
    exact ⟨_, rfl, .inl Hrk.out, bx_below HB2.out⟩
  · rw [beq_eq_false_iff_ne.2 h0, if_neg Bool.false_ne_true]
    have hne : (n.shadow != 0) = true := by rw [bne, beq_eq_false_iff_ne.2 h0]; rfl
    go_enter Tryz.func76, Tryz.ntmps76
    go_wp2_with fail
    refine (HN.out _).mono ?_
    rintro e v1 ⟨rfl, hb1⟩
    have hB1 := HB0.out.trans (hb1.mono (by simp))
    have cb1 := HX.out v1 hB1
    have cs1 := HC.out v1 (bx_below hB1)
    have HB1 := hid hB1
    clear hb1 hB1
    have cb1a := keep_cell_l (.cells #[.int .i64 n.shadow] 3) cb1
    have hBa := HB1.out.alloc (bx_size HB1.out) (.cells #[.int .i64 n.shadow] 3)
    have hrw := one_rdI v1 n.shadow 3
    have hK := HK.out _ (bx_below hBa)
    have HBa := hid hBa
    have Hrw := hid hrw
    clear cb1 hBa hrw
    go_wp2_with fail
    refine hK.mono ?_
    rintro e v2 ⟨vk, rfl, hrk, hb2⟩
    have HB2 := hid (HBa.out.trans (hb2.mono (bx_size HBa.out)))
    have Hrk := hid (hrk.later (HW0.out.trans ((bx_below HB2.out).mono HW0.out.size)))
    have Hrw2 := hid (Hrw.out.later hb2)
    obtain ⟨ok, ck, rfl, -, -⟩ := hrk
    have hAl : Below v2.heap.size v2 (v2.alloc (.cells #[.slice (some ⟨v1.heap.size, 0, none⟩) 1 1, .slice ok n.kids.length ck] 28)) := (Below.refl _ _).alloc (Nat.le_refl _) _
    have hC := concat_any v2.heap.size 2 [(.slice (some ⟨v1.heap.size, 0, none⟩) 1 1, [n.shadow]), (.slice ok n.kids.length ck, n.kids)] (v2.alloc (.cells #[.slice (some ⟨v1.heap.size, 0, none⟩) 1 1, .slice ok n.kids.length ck] 28)) (by simp) (two_lists (heap_new v2 _) (Hrw2.out.later hAl) (Hrk.out.later hAl)) (by simp) (by simp [sumL]; omega)
    rw [show catL [((.slice (some ⟨v1.heap.size, 0, none⟩) 1 1 : Value), [n.shadow]), (.slice ok n.kids.length ck, n.kids)] = n.shadow :: n.kids by simp [catL]] at hC
    have HB3 := hid (HB2.out.alloc (bx_size HB2.out) (.cells #[.slice (some ⟨v1.heap.size, 0, none⟩) 1 1, .slice ok n.kids.length ck] 28))
    clear hb2 hAl hK HBa Hrw
    go_wp2_with fail
    refine hC.mono ?_
    rintro e v3 ⟨v, rfl, hrow, hb3⟩
    have HB4 := hid (HB3.out.trans (hb3.mono (bx_size HB3.out)))
    have Hrd := hid (ownsRow_base hrow (bx_below HB3.out).size)
    clear hC hb3 hrow
    go_wp2
    exact bodyPost_ret (v := v) (by simp [results, Tryz.results76, go_sem]) rfl ⟨v, rfl, .inr Hrd.out, bx_below HB4.out⟩
end Go.Proofs.YtnolcbjaijoloaaGreat

namespace Go.Proofs.YtnolcbjaijoloaaGreat
open Go.RowKit Go.Lib Go.Shelf

/-- All blocks stay but a box and a list's own row; the list's row at the end is the one at the start, or new. -/
structure KeptB (W V : World) (bl : Nat) (v v' : Value) : Prop where
  size : W.heap.size ≤ V.heap.size
  block : ∀ k, k < W.heap.size → k ≠ bl → v.ownBlock ≠ some k → V.heap[k]? = W.heap[k]?
  own : ∀ k, v'.ownBlock = some k → v.ownBlock = some k ∨ W.heap.size ≤ k
theorem KeptB.refl (W : World) (bl : Nat) (v : Value) : KeptB W W bl v v := ⟨Nat.le_refl _, fun _ _ _ _ => rfl, fun _ h => .inl h⟩
theorem KeptB.of_below {W V : World} (hb : Below W.heap.size W V) (bl : Nat) (v : Value) : KeptB W V bl v v := ⟨hb.size, fun k hk _ _ => hb.block k hk, fun _ h => .inl h⟩
theorem KeptB.trans {W V U : World} {bl : Nat} {v v' v'' : Value} (h : KeptB W V bl v v') (h2 : KeptB V U bl v' v'') : KeptB W U bl v v'' where
  size := Nat.le_trans h.size h2.size
  block := fun k hk hb hv => by
    refine (h2.block k (Nat.lt_of_lt_of_le hk h.size) hb (fun e => ?_)).trans (h.block k hk hb hv)
    rcases h.own k e with e' | e'
    · exact hv e'
    · omega
  own := fun k e => by
    rcases h2.own k e with e' | e'
    · exact h.own k e'
    · exact .inr (Nat.le_trans h.size e')
theorem KeptB.append {W w1 : World} {bl : Nat} {v v' : Value} {tmp : Obj} (hgrow : (W.alloc tmp).grownBy w1 v.ownBlock) (hat : v'.ownBlock = v.ownBlock ∨ v'.ownBlock = some (W.alloc tmp).heap.size) : KeptB W (w1.setCell ⟨bl, 0, none⟩ v') bl v v' where
  size := by
    have h := hgrow.size
    simp only [World.size_alloc] at h
    simp
    omega
  block := fun k hk hb hv => (Below.heap_setCell w1 ⟨bl, 0, none⟩ v' k hb).trans ((hgrow.block k (by simp; omega) (fun e => hv e.symm)).trans (((Below.refl _ W).alloc (Nat.le_refl _) tmp).block k hk))
  own := fun k e => by
    rcases hat with h | h
    · rw [h] at e
      exact .inl e
    · rw [h] at e
      have := Option.some.inj e
      simp only [World.size_alloc] at this
      exact .inr (by omega)
def ListK (V3 : World) (vA : Value) (W : World) (base bl : Nat) (l : List Int) : Prop := ∃ v, Boxed W bl 28 v ∧ W.ownsRow base 3 1 v l.length (l.map (Value.int .i64)) ∧ KeptB V3 W bl vA v
theorem hang_cells {w v3 : World} {N bl : Nat} {vk vA : Value} {ks : List Int} (h : RdI w vk ks ∨ v3.ownsRow N 3 1 vk ks.length (ks.map (Value.int .i64))) (hbl : bl < N) (hvA : ∀ k, vA.ownBlock = some k → k < N) :
    ∃ o c, vk = .slice o ks.length c ∧ (0 < ks.length → ∃ bk offk, o = some ⟨bk, offk, none⟩ ∧ ∀ (wr : World) (v : Value), Below w.heap.size w wr → KeptB v3 wr bl vA v → ∀ (j : Nat) (hj : j < ks.length), wr.cell? ⟨bk, offk + j, none⟩ = some (.int .i64 ks[j])) := by
  rcases h with ⟨o, c, e, _, g⟩ | h
  · refine ⟨o, c, e, fun hp => ?_⟩
    obtain ⟨bk, offk, rfl, hlt, ha⟩ := g hp
    exact ⟨bk, offk, rfl, fun wr v hb _ j hj => (hb.cell (p := ⟨bk, offk + j, none⟩) hlt).trans (ha j hj)⟩
  · have hrd := ownsRow_rdI h
    obtain ⟨_, ⟨rfl, h0⟩ | ⟨g, cp, cur, rfl, hg, hh, _⟩⟩ := h
    · exact ⟨none, 0, by rw [h0], fun hp => absurd hp (by omega)⟩
    · obtain ⟨o, c, e, _, gg⟩ := hrd
      simp only [Value.slice.injEq] at e
      obtain ⟨rfl, -, rfl⟩ := e
      refine ⟨_, _, rfl, fun hp => ?_⟩
      obtain ⟨bk, offk, eb, hlt, ha⟩ := gg hp
      simp only [Option.some.injEq, Addr.mk.injEq] at eb
      obtain ⟨rfl, rfl, -⟩ := eb
      refine ⟨g, 0, rfl, fun wr v _ hk j hj => ?_⟩
      rw [World.cell?_of_block (w := v3) (hk.block g hlt (by omega) (fun e => by have := hvA g e; omega))]
      exact ha j hj
theorem kids_small {ns : List NodeD} (h : RightF ns) (j : Nat) (hj : j < ns.length) : ns[j].kids.length ≤ 1000000000 := by
  have hx : thereB ns.length ((j : Int) + 1) = true := thereB_idx _ _ hj
  have ho := h.kidsHang.once _ hx
  have hd : ∀ y ∈ kidsD ns ((j : Int) + 1), 1 ≤ y ∧ y ≤ (ns.length : Int) := fun y hy => by
    obtain ⟨i, hi, rfl⟩ := there_idx (h.kidsHang.down _ y hx hy).1
    omega
  have := pigeon ns.length _ ho hd
  rw [kidsD_at ns j hj] at this
  have := h.small
  omega
theorem hang_len {ns : List NodeD} (h : RightF ns) {x : Int} (hx : thereB ns.length x = true) : (hangD ns x).length ≤ 1099511627776 := by
  have ho := h.deepHang.once _ hx
  have hd : ∀ y ∈ hangD ns x, 1 ≤ y ∧ y ≤ (ns.length : Int) := fun y hy => by
    obtain ⟨i, hi, rfl⟩ := there_idx (h.deepHang.down _ y hx hy).1
    omega
  have := pigeon ns.length _ ho hd
  have := h.small
  omega

set_option maxRecDepth 100000 in
set_option maxHeartbeats 8000000 in
theorem visitH_any (b off cap : Nat) (ns : List NodeD) (w : World) (hR : RightF ns) (hF : FAt w b off cap ns) (bl bh bf bv : Nat) (lbl : w.heap.size ≤ bl) (nh : bh ≠ bl) (nf : bf ≠ bl) (nv : bv ≠ bl) :
    ∀ (f : Nat) (x : Int) (pre : List Int) (W : World) (v : Value), thereB ns.length x = true → ns.length < f + (pathUp ns (overD ns) x).length → pre.length + (belowF (hangD ns) f x).length ≤ 1099511627776 → VisitAt W b off cap ns.length 76 bl bh bf bv → Boxed W bl 28 v → W.ownsRow w.heap.size 3 1 v pre.length (pre.map (Value.int .i64)) → Below w.heap.size w W →
      Calls Tryz.prog 89 #[.int .i64 x, .pointer (some ⟨bl, 0, none⟩), .pointer (some ⟨bh, 0, none⟩), .pointer (some ⟨bf, 0, none⟩), .pointer (some ⟨bv, 0, none⟩)] W fun e W' => (∃ v, e = .returned v) ∧ VisitAt W' b off cap ns.length 76 bl bh bf bv ∧ (∃ v', Boxed W' bl 28 v' ∧ W'.ownsRow w.heap.size 3 1 v' (pre ++ belowF (hangD ns) f x).length ((pre ++ belowF (hangD ns) f x).map (Value.int .i64)) ∧ KeptB W W' bl v v') ∧ Below w.heap.size w W' := by
  obtain ⟨i0, hi, hz0, hz1, hz2⟩ := info_parts info_int
  intro f
  induction f with
  | zero =>
    intro x pre W v hx hf _ _ _ _ _
    have := hR.deepHang.len hx
    omega
  | succ f ih =>
    intro x pre W v hx hf hl hV hv hrow hB
    obtain ⟨j, hj, rfl⟩ := there_idx hx
    obtain ⟨ks, hkd⟩ : ∃ ks, hangD ns ((j : Int) + 1) = ks := ⟨_, rfl⟩
    have hkl' : ks.length ≤ 1099511627776 := by rw [← hkd]; exact hang_len hR hx
    have HE : Hid (pre ++ belowF (hangD ns) (f + 1) ((j : Int) + 1) = (pre ++ [(j : Int) + 1]) ++ (ks.drop 0).flatMap (belowF (hangD ns) f)) := by
      show _ = _
      rw [belowF, hkd, List.append_assoc]
      rfl
    have hlen2 : (pre ++ belowF (hangD ns) (f + 1) ((j : Int) + 1)).length ≤ 1099511627776 := by rw [List.length_append]; exact hl
    obtain ⟨T, hT⟩ : ∃ T, pre ++ belowF (hangD ns) (f + 1) ((j : Int) + 1) = T := ⟨_, rfl⟩
    rw [hT] at HE hlen2 ⊢
    have hpl : pre.length + 1 ≤ 1099511627776 := by
      have h := congrArg List.length HE.out
      rw [List.length_append, List.length_append] at h
      simp only [List.length_cons, List.length_nil] at h
      omega
    have HK : Hid (∀ V : World, Below w.heap.size w V → _) := fun V hV => hangOf_at b off cap j ns w V hF hV hj (kids_small hR j hj)
    rw [hkd] at HK
    have HIH : Hid (∀ (y : Int) (acc : List Int) (V : World) (u : Value), y ∈ ks → acc.length + (belowF (hangD ns) f y).length ≤ 1099511627776 → VisitAt V b off cap ns.length 76 bl bh bf bv → Boxed V bl 28 u → V.ownsRow w.heap.size 3 1 u acc.length (acc.map (Value.int .i64)) → Below w.heap.size w V → _) := fun y acc V u hy hac hV2 hu hL2 hB2 => by
      have hyd := hR.deepHang.down _ y hx (by rw [hkd]; exact hy)
      refine ih y acc V u hyd.1 ?_ hac hV2 hu hL2 hB2
      rw [hR.deepHang.deep hx (by rw [hkd]; exact hy)]
      omega
    clear ih hF hf hl hT hkd hx
    have c1 := hv.cell
    have m1 : pre.length + 1 ≤ maxLen := Nat.le_trans hpl (by decide)
    have m2 : (pre.length + 1) * 8 ≤ 140737488355328 := by omega
    have m3 : w.heap.size ≤ (W.alloc (.cells #[.int .i64 ((j : Int) + 1)] 3)).heap.size := by have := hB.size; simp; omega
    unfold forestV at HK
    have HV := hid hV
    have HB := hid hB
    clear hV hB
    go_enter Tryz.func89, Tryz.ntmps89
    go_wp2_with (at_builtin; refine wpList_append_own_at _ rfl _ _ 28 rfl w.heap.size 3 i0 (.int .i64 0) 1 8 Tryz.underlying28 hi hz0 hz1 hz2 rfl (by decide) _ _ _ rfl (hrow.alloc _) ⟨W.heap.size, 0, none⟩ 1 1 [.int .i64 ((j : Int) + 1)] rfl rfl (cell_one_new _ _ _) (by simp [Value.oneCell']) m1 m2 m3 ?_; intro v' w1 hown' hgrow _ hat; obtain ⟨g', cap', rfl⟩ := ownsRow_succ hown'; have HKp := hid (KeptB.append (bl := bl) hgrow hat); obtain ⟨hv1, hv2, hr2, hk2, hb2⟩ := hv.appended (by decide) hrow HB.out.size lbl hown' hgrow; have hc1 := hv1.cell; have hf1 := hv1.frozen; have e1 := (boxed_beside HV.out.hang (B := bl) (v' := .slice (some ⟨g', 0, none⟩) (pre.length + 1) cap') (by decide) nh hrow hgrow).cell; have e2 := (boxed_beside HV.out.forest (B := bl) (v' := .slice (some ⟨g', 0, none⟩) (pre.length + 1) cap') (by decide) nf hrow hgrow).cell)
    have HV2 : Hid (VisitAt (w1.setCell ⟨bl, 0, none⟩ (.slice (some ⟨g', 0, none⟩) (pre.length + 1) cap')) b off cap ns.length 76 bl bh bf bv) := ⟨boxed_beside HV.out.hang (by decide) nh hrow hgrow, boxed_beside HV.out.forest (by decide) nf hrow hgrow, boxed_beside HV.out.visit (by decide) nv hrow hgrow⟩
    have HL2 : Hid (Boxed (w1.setCell ⟨bl, 0, none⟩ (.slice (some ⟨g', 0, none⟩) (pre.length + 1) cap')) bl 28 (.slice (some ⟨g', 0, none⟩) (pre.length + 1) cap') ∧ (w1.setCell ⟨bl, 0, none⟩ (.slice (some ⟨g', 0, none⟩) (pre.length + 1) cap')).ownsRow w.heap.size 3 1 (.slice (some ⟨g', 0, none⟩) (pre.length + 1) cap') (pre ++ [(j : Int) + 1]).length ((pre ++ [(j : Int) + 1]).map (Value.int .i64))) := ⟨hv2, by simpa using hr2⟩
    have HB2 := hid (HB.out.trans hb2)
    have hK := HK.out _ HB2.out
    clear HK HV HB hv hrow hgrow hown' hv1 hv2 hr2 hk2 hb2 hc1 hf1 e1 e2 c1 m1 m2 m3 hi hz0 hz1 hz2
    refine hK.mono ?_
    clear hK
    rintro e v3 ⟨vk, rfl, hrk, hb3⟩
    have HV3 := hid (HV2.out.later hb3)
    have HL3 : Hid (ListK v3 (.slice (some ⟨g', 0, none⟩) (pre.length + 1) cap') v3 w.heap.size bl (pre ++ [(j : Int) + 1])) := ⟨_, boxed_later HL2.out.1 hb3, ownsRow_later HL2.out.2 hb3, KeptB.refl _ _ _⟩
    have HKp3 : Hid (KeptB W v3 bl v (.slice (some ⟨g', 0, none⟩) (pre.length + 1) cap')) := HKp.out.trans (KeptB.of_below hb3 bl _)
    have HG := hid (hang_cells (bl := bl) (vA := (.slice (some ⟨g', 0, none⟩) (pre.length + 1) cap')) hrk HL2.out.1.lt (fun k e => (HL2.out.2.lt k e).2))
    have HB3 := hid (HB2.out.trans (hb3.mono HB2.out.size))
    clear HV2 HL2 HB2 hb3 HKp hrk
    obtain ⟨ok, ck, rfl, gk⟩ := HG.out
    clear HG
    go_wp2
    go_loopw [17] (fun t wr => ∃ (k : Nat) (acc : List Int), k ≤ ks.length ∧ t = .int .i64 k ∧ Hid (T = acc ++ (ks.drop k).flatMap (belowF (hangD ns) f)) ∧ Hid (VisitAt wr b off cap ns.length 76 bl bh bf bv) ∧ Hid (ListK v3 (.slice (some ⟨g', 0, none⟩) (pre.length + 1) cap') wr w.heap.size bl acc) ∧ Hid (Below w.heap.size w wr)) (fun t _ => ks.length - (RowKit.intOf t).toNat)
    case atStart => exact ⟨0, _, Nat.zero_le _, rfl, HE, HV3, HL3, HB3⟩
    case round =>
      obtain ⟨k, acc, hk, rfl, hE, hV, hL, hB⟩ := hrel
      clear HE HV3 HL3 HB3
      by_cases hlt : k < ks.length
      · obtain ⟨bk, offk, rfl, hak⟩ := gk (by omega)
        obtain ⟨u0, hu0, hr0, hk0⟩ := hL.out
        have x1 := hak wr u0 hB.out hk0 k hlt
        have cv := hV.out.visit.cell
        have q1 : (0 : Int) ≤ (k : Int) := by omega
        have q2 : (k : Int) < (ks.length : Int) := by omega
        have hE' := hE.out
        rw [List.drop_eq_getElem_cons hlt, List.flatMap_cons, ← List.append_assoc] at hE'
        have hln : acc.length + (belowF (hangD ns) f ks[k]).length ≤ 1099511627776 := by
          have h := congrArg List.length hE'
          rw [List.length_append, List.length_append] at h
          omega
        have hI := HIH.out ks[k] acc wr u0 (List.getElem_mem hlt) hln hV.out hu0 hr0 hB.out
        have HK0 := hid hk0
        have HE2 := hid hE'
        clear hE' hE hln HIH gk hak hV hL hB hu0 hr0 hk0
        generalize ks[k] = y at *
        go_wp2_with fail
        refine hI.mono ?_
        clear hI
        rintro e v4 ⟨⟨u, rfl⟩, hV4, hL4, hB4⟩
        have HV4 := hid hV4
        obtain ⟨u4, hu4, hr4, hk4⟩ := hL4
        have HL4 : Hid (ListK v3 (.slice (some ⟨g', 0, none⟩) (pre.length + 1) cap') v4 w.heap.size bl _) := ⟨u4, hu4, hr4, HK0.out.trans hk4⟩
        have HB4 := hid hB4
        clear hV4 hB4 cv x1 hu4 hr4 hk4
        go_wp2
        go_roundw
        case rel => exact ⟨k + 1, _, by omega, by go_num, HE2, HV4, HL4, HB4⟩
        case measure => simp [RowKit.intOf]; omega
      · have hT : T = acc := by
          have h := hE.out
          rw [List.drop_eq_nil_of_le (by omega), List.flatMap_nil, List.append_nil] at h
          exact h
        have HL5 : Hid (ListK v3 (.slice (some ⟨g', 0, none⟩) (pre.length + 1) cap') wr w.heap.size bl T) := by rw [hT]; exact hL
        clear hE hT hL HIH gk
        go_wp2
        go_end0
        obtain ⟨u5, hu5, hr5, hk5⟩ := HL5.out
        exact ⟨⟨_, rfl⟩, hV.out, ⟨u5, hu5, hr5, HKp3.out.trans hk5⟩, hB.out⟩
end Go.Proofs.YtnolcbjaijoloaaGreat

namespace Go.Proofs.YtnolcbjaijoloaaGreat
open Go.RowKit Go.Lib Go.Shelf

set_option maxRecDepth 100000 in
set_option maxHeartbeats 4000000 in
theorem listH_any (b off cap : Nat) (x : Int) (ns : List NodeD) (w : World) (hR : RightF ns) (hF : FAt w b off cap ns) (hx : thereB ns.length x = true) :
    Calls Tryz.prog 57 #[forestV b off cap ns.length, .int .i64 x, .func (.func 76) #[] #[]] w fun e w' => ∃ v, e = .returned v ∧ w'.ownsRow w.heap.size 3 1 v (deepD ns x).length ((deepD ns x).map (Value.int .i64)) ∧ Below w.heap.size w w' := by
  have hlen : (deepD ns x).length ≤ 1099511627776 := Nat.le_trans (deep_len hR hx) (by decide)
  have HV : Hid (∀ W : World, VisitAt W b off cap ns.length 76 (w.heap.size + 1 + 1) (w.heap.size + 1) w.heap.size (w.heap.size + 1 + 1 + 1) → Boxed W (w.heap.size + 1 + 1) 28 (.slice none 0 0) → W.ownsRow w.heap.size 3 1 (.slice none 0 0) 0 [] → Below w.heap.size w W → _) := fun W h1 h2 h2b h3 => visitH_any b off cap ns w hR hF (w.heap.size + 1 + 1) (w.heap.size + 1) w.heap.size (w.heap.size + 1 + 1 + 1) (by omega) (by omega) (by omega) (by omega) (ns.length + 1) x [] W (.slice none 0 0) hx (by omega) (by rw [List.length_nil, Nat.zero_add]; exact hlen) h1 h2 h2b h3
  clear hF hR hx hlen
  unfold forestV deepD at *
  rw [List.nil_append] at HV
  generalize belowF (hangD ns) (ns.length + 1) x = T at *
  have b0 := Boxed.new w 24 (.slice (some ⟨b, off, none⟩) ns.length cap)
  have b1 := Boxed.new (w.alloc (.cells #[.slice (some ⟨b, off, none⟩) ns.length cap] 24)) 36 (.func (.func 76) #[] #[])
  have b2 := Boxed.new ((w.alloc (.cells #[.slice (some ⟨b, off, none⟩) ns.length cap] 24)).alloc (.cells #[.func (.func 76) #[] #[]] 36)) 28 (.slice none 0 0)
  have b3 := Boxed.new (((w.alloc (.cells #[.slice (some ⟨b, off, none⟩) ns.length cap] 24)).alloc (.cells #[.func (.func 76) #[] #[]] 36)).alloc (.cells #[.slice none 0 0] 28)) 87 (.func (.func 89) #[] #[.pointer (some ⟨w.heap.size + 1 + 1, 0, none⟩), .pointer (some ⟨w.heap.size + 1, 0, none⟩), .pointer (some ⟨w.heap.size, 0, none⟩), .pointer (some ⟨w.heap.size + 1 + 1 + 1, 0, none⟩)])
  simp only [World.size_alloc] at b1 b2 b3
  have HA : Hid (VisitAt (((((w.alloc (.cells #[.slice (some ⟨b, off, none⟩) ns.length cap] 24)).alloc (.cells #[.func (.func 76) #[] #[]] 36)).alloc (.cells #[.slice none 0 0] 28)).alloc (.cells #[.func (.func 89) #[] #[.pointer (some ⟨w.heap.size + 1 + 1, 0, none⟩), .pointer (some ⟨w.heap.size + 1, 0, none⟩), .pointer (some ⟨w.heap.size, 0, none⟩), .pointer (some ⟨w.heap.size + 1 + 1 + 1, 0, none⟩)]] 87))) b off cap ns.length 76 (w.heap.size + 1 + 1) (w.heap.size + 1) w.heap.size (w.heap.size + 1 + 1 + 1)) :=
    ⟨(b1.alloc _).alloc _, ((b0.alloc _).alloc _).alloc _, b3⟩
  have HL : Hid (Boxed (((((w.alloc (.cells #[.slice (some ⟨b, off, none⟩) ns.length cap] 24)).alloc (.cells #[.func (.func 76) #[] #[]] 36)).alloc (.cells #[.slice none 0 0] 28)).alloc (.cells #[.func (.func 89) #[] #[.pointer (some ⟨w.heap.size + 1 + 1, 0, none⟩), .pointer (some ⟨w.heap.size + 1, 0, none⟩), .pointer (some ⟨w.heap.size, 0, none⟩), .pointer (some ⟨w.heap.size + 1 + 1 + 1, 0, none⟩)]] 87))) (w.heap.size + 1 + 1) 28 (.slice none 0 0)) :=
    b2.alloc _
  have HB : Hid (Below w.heap.size w (((((w.alloc (.cells #[.slice (some ⟨b, off, none⟩) ns.length cap] 24)).alloc (.cells #[.func (.func 76) #[] #[]] 36)).alloc (.cells #[.slice none 0 0] 28)).alloc (.cells #[.func (.func 89) #[] #[.pointer (some ⟨w.heap.size + 1 + 1, 0, none⟩), .pointer (some ⟨w.heap.size + 1, 0, none⟩), .pointer (some ⟨w.heap.size, 0, none⟩), .pointer (some ⟨w.heap.size + 1 + 1 + 1, 0, none⟩)]] 87)))) :=
    (((((Below.refl _ w).alloc (Nat.le_refl _) _).alloc (by simp) _).alloc (by simp; omega) _).alloc (by simp; omega) _)
  have hV := HV.out _ HA.out HL.out (World.ownsRow_nil _ _ _ _) HB.out
  clear HV HA HL HB b0 b1 b2 b3
  go_enter Tryz.func57, Tryz.ntmps57
  go_wp2_with fail
  refine hV.mono ?_
  clear hV
  rintro e v1 ⟨⟨u, rfl⟩, hA, ⟨v, hv, hrow, -⟩, hB⟩
  have c1 := hv.cell
  have HR := hid hrow
  have HB := hid hB
  clear hA hv hrow hB
  go_wp2
  exact bodyPost_ret (v := v) (by simp [results, Tryz.results57, go_sem]) rfl ⟨v, rfl, HR.out, HB.out⟩
end Go.Proofs.YtnolcbjaijoloaaGreat

namespace Go.Proofs.YtnolcbjaijoloaaGreat
open Go.RowKit Go.Lib Go.Shelf

set_option maxRecDepth 100000 in
set_option maxHeartbeats 2000000 in
theorem Deep1_any (b off cap u1 u2 : Nat) (x : Int) (ns : List NodeD) (w : World) (hR : RightF ns) (hF : FAt w b off cap ns) (hx : thereB ns.length x = true)
    (c1 : w.cell? ⟨u1, 0, none⟩ = some (.slice (some ⟨b, off, none⟩) ns.length cap)) (c2 : w.cell? ⟨u2, 0, none⟩ = some (.int .i64 x)) :
    Calls Tryz.prog 75 #[.pointer (some ⟨u1, 0, none⟩), .pointer (some ⟨u2, 0, none⟩)] w fun e w' => ∃ v, e = .returned v ∧ w'.ownsRow w.heap.size 3 1 v (deepD ns x).length ((deepD ns x).map (Value.int .i64)) ∧ Below w.heap.size w w' := by
  have hP := listH_any b off cap x ns w hR hF hx
  unfold forestV at hP
  generalize deepD ns x = P at *
  go_enter Tryz.func75, Tryz.ntmps75
  go_wp2_with fail
  refine hP.mono ?_
  rintro e v1 ⟨v, rfl, hrow, hb1⟩
  have HRow := hid hrow
  have HB := hid hb1
  clear hP hb1 hrow
  go_wp2
  exact bodyPost_ret (v := v) (by simp [results, Tryz.results75, go_sem]) rfl ⟨v, rfl, HRow.out, HB.out⟩

set_option maxRecDepth 100000 in
set_option maxHeartbeats 4000000 in
theorem Deep_any (o : Option Addr) (cap : Nat) (x : Int) (ns : List NodeD) (w : World) (hF : FRd w o cap ns) (hkl : ∀ (i : Nat) (hi : i < ns.length), ns[i].kids.length ≤ 1099511627776) (hal : ∀ (i : Nat) (hi : i < ns.length), ns[i].attrs.length ≤ 1099511627776) :
    Calls Tryz.prog 33 #[.agg #[.slice o ns.length cap], .int .i64 x] w fun e w' => ∃ v, e = .returned (.tuple #[v, .int .i64 (toldE ns [x])]) ∧ w'.ownsRow w.heap.size 3 1 v (if toldE ns [x] = 0 then deepD ns x else []).length ((if toldE ns [x] = 0 then deepD ns x else []).map (Value.int .i64)) ∧ Below w.heap.size w w' := by
  have hB3 : Below w.heap.size w (((w.alloc (.cells #[.slice o ns.length cap] 24)).alloc (.cells #[.int .i64 x] 3)).alloc (.cells #[.int .i64 x] 3)) := (((Below.refl _ w).alloc (Nat.le_refl _) _).alloc (by simp) _).alloc (by simp; omega) _
  have k0 := new_cell_l w (.slice o ns.length cap) 24
  have k1 := new_cell_l (w.alloc (.cells #[.slice o ns.length cap] 24)) (.int .i64 x) 3
  have kr := one_rdI ((w.alloc (.cells #[.slice o ns.length cap] 24)).alloc (.cells #[.int .i64 x] 3)) x 3
  simp only [World.size_alloc] at k1 kr
  have c0 := keep_cell_l (.cells #[.int .i64 x] 3) (keep_cell_l (.cells #[.int .i64 x] 3) k0.1)
  have c1 := keep_cell_l (.cells #[.int .i64 x] 3) k1.1
  have s0 : w.heap.size < (((w.alloc (.cells #[.slice o ns.length cap] 24)).alloc (.cells #[.int .i64 x] 3)).alloc (.cells #[.int .i64 x] 3)).heap.size := by simp only [World.size_alloc]; omega
  have hT := toldDeep_any o cap w.heap.size (w.heap.size + 1) (deepD ns x) (.slice (some ⟨w.heap.size + 1 + 1, 0, none⟩) 1 1) [x] ns (((w.alloc (.cells #[.slice o ns.length cap] 24)).alloc (.cells #[.int .i64 x] 3)).alloc (.cells #[.int .i64 x] 3)) (hF.later hB3) hkl hal kr (by simp) (fun hE W hW => by
    obtain ⟨hR, hth⟩ := toldE_zero hE
    have hx := hth x (by simp)
    obtain ⟨i, hi, _⟩ := there_idx hx
    obtain ⟨b, off, rfl, hFA⟩ := hF.at_ (by omega)
    have hBW := hB3.trans (hW.mono hB3.size)
    have h1 := Deep1_any b off cap w.heap.size (w.heap.size + 1) x ns W hR (hFA.later hBW) hx
      ((hW.cell (p := ⟨w.heap.size, 0, none⟩) s0).trans c0)
      ((hW.cell (p := ⟨w.heap.size + 1, 0, none⟩) (by show w.heap.size + 1 < _; simp only [World.size_alloc]; omega)).trans c1)
    refine h1.mono ?_
    rintro e w' ⟨v, rfl, hr, hb⟩
    exact ⟨v, rfl, ownsRow_base hr hW.size, hb⟩)
  generalize (if toldE ns [x] = 0 then deepD ns x else []) = A at *
  generalize toldE ns [x] = E at *
  have HB3 := hid hB3
  clear k0 k1 kr c0 c1 s0 hF hkl hal hB3
  go_enter Tryz.func33, Tryz.ntmps33
  go_wp2_with fail
  refine hT.mono ?_
  rintro e v1 ⟨v, rfl, hrow, hb1⟩
  have HRow := hid (ownsRow_base hrow HB3.out.size)
  have HB := hid (HB3.out.trans (hb1.mono HB3.out.size))
  clear hT hb1 HB3 hrow
  go_wp2
  go_ret2
  exact ⟨_, rfl, HRow.out, HB.out⟩
end Go.Proofs.YtnolcbjaijoloaaGreat

namespace Go.Proofs.YtnolcbjaijoloaaGreat
open Go.RowKit Go.Lib Go.Shelf

theorem enterTop4 (vs vx : Value) (w : World) : (callFunc 36 #[vs, vx]).run Tryz.prog w = .ok (.enter 36 #[vs, vx]) w := by kernel_rfl
theorem enterOf (vs vx : Value) (w : World) : (callFunc 53 #[vs, vx]).run Tryz.prog w = .ok (.enter 53 #[vs, vx]) w := by kernel_rfl
theorem enterTopOf (vs vx : Value) (w : World) : (callFunc 74 #[vs, vx]).run Tryz.prog w = .ok (.enter 74 #[vs, vx]) w := by kernel_rfl
/-- Is a node's shadow-including root a document? -/
def connD (ns : List NodeD) (x : Int) : Bool := (nodeOrNone ns (lastI (pathUp ns (overD ns) x))).kind == 9
theorem top_there {ns : List NodeD} (h : RightF ns) : ∀ (n : Nat) (x : Int), (pathUp ns (overD ns) x).length ≤ n → thereB ns.length x = true → thereB ns.length (lastI (pathUp ns (overD ns) x)) = true
  | 0, x, hn, hx => by rw [over_head h hx] at hn; simp at hn
  | n + 1, x, hn, hx => by
    have e := over_head h hx
    rcases over_there h hx with h0 | ht
    · rw [e, h0, pathUp_zero]
      exact hx
    · rw [e, lastI_cons _ _ (by rw [over_head h ht]; simp)]
      refine top_there h n _ ?_ ht
      rw [e, List.length_cons] at hn
      omega

set_option maxRecDepth 100000 in
set_option maxHeartbeats 4000000 in
theorem refConn_any (b off cap : Nat) (x : Int) (ns : List NodeD) (w : World) (hR : RightF ns) (hF : FAt w b off cap ns) (hx : thereB ns.length x = true) :
    Calls Tryz.prog 39 #[.agg #[.slice (some ⟨b, off, none⟩) ns.length cap], .int .i64 x] w fun e w' => e = .returned (.bool (connD ns x)) ∧ Below w.heap.size w w' := by
  have htt := top_there hR _ x (Nat.le_refl _) hx
  have HX : Hid (∀ v1 : World, Below (w.heap.size + 1) (w.alloc (.cells #[.slice (some ⟨b, off, none⟩) ns.length cap] 24)) v1 → v1.cell? ⟨w.heap.size, 0, none⟩ = some (.slice (some ⟨b, off, none⟩) ns.length cap)) := fun v1 hB1 => (hB1.cell (p := ⟨w.heap.size, 0, none⟩) (by show w.heap.size < w.heap.size + 1; omega)).trans (by simp)
  have hB0 : Below (w.heap.size + 1) (w.alloc (.cells #[.slice (some ⟨b, off, none⟩) ns.length cap] 24)) (w.alloc (.cells #[.slice (some ⟨b, off, none⟩) ns.length cap] 24)).drew := (Below.refl _ _).drew
  have HT : Hid (∀ (W : World), Below w.heap.size w W → _) := fun W hW => refTop_any b off cap x ns W hR (hF.later hW) hx
  unfold connD
  obtain ⟨j, hj, e⟩ := there_idx htt
  rw [e] at HT ⊢
  have HO : Hid (∀ (W : World), Below w.heap.size w W → _) := fun W hW => refOf_any b off cap j ns W (hF.later hW) hj
  have hn : nodeOrNone ns ((j : Int) + 1) = ns[j] := by unfold nodeOrNone; rw [nodeOf_at ns j hj]; rfl
  rw [hn]
  have hT := HT.out _ (bx_below hB0)
  have HB0 := hid hB0
  clear HT hR hF hx hB0 e hn htt
  generalize ns[j] = n at *
  have ek : ((n.kind : Int) == 9) = (n.kind == 9) := beq_cast n.kind 9
  generalize (n.kind == 9) = KB at *
  go_enter Tryz.func39, Tryz.ntmps39
  go_upto_region 1 with fail
  go_cut [4] (fun t wx => t = .bool KB ∧ Below w.heap.size w wx)
  case first =>
    go_region_law (first
      | (refine step_call _ rfl (.tmp 6) (.tmp 7) 24 3 36 rfl (.agg #[.slice (some ⟨b, off, none⟩) ns.length cap]) (.int .i64 x) (by simp [Act.eval]) (by simp [Act.eval]) (enterTop4 _ _ _) _ hT ?_; rintro e v1 ⟨rfl, hb1⟩; refine ⟨_, rfl, ?_⟩; have hB1 := HB0.out.trans (hb1.mono (by simp)); have cb1 := HX.out v1 hB1; have hO := HO.out v1 (bx_below hB1); have HB1 := hid hB1; clear hb1 hB1)
      | (refine step_call _ rfl (.tmp 5) (.tmp 8) 24 3 53 rfl (.agg #[.slice (some ⟨b, off, none⟩) ns.length cap]) (.int .i64 ((j : Int) + 1)) (by simp [Act.eval]) (by simp [Act.eval]) (enterOf _ _ _) _ hO ?_; rintro e v2 ⟨L, rfl, h1, h2, h3, hb2⟩; refine ⟨_, rfl, ?_⟩; obtain ⟨od, cd, oa, ca, ok, ck, rfl⟩ := lists_slices h1 h2 h3; have hfl := fld_kind n (.slice od n.data.length cd) (.slice oa n.attrs.length ca) (.slice ok n.kids.length ck); have HB2 := hid (HB1.out.trans (hb2.mono (bx_size HB1.out))); clear h1 h2 h3 hb2; unfold nodeV))
    all_goals
      go_wp2_with fail
      go_meet
      exact ⟨rfl, bx_below HB2.out⟩
  case rest =>
    obtain ⟨rfl, hBx⟩ := hcut
    have HBx := hid hBx
    clear hBx
    go_wp2
    go_ret
    exact ⟨rfl, HBx.out⟩

set_option maxRecDepth 100000 in
set_option maxHeartbeats 4000000 in
theorem Connected1_any (b off cap u1 u2 : Nat) (x : Int) (ns : List NodeD) (w : World) (hR : RightF ns) (hF : FAt w b off cap ns) (hx : thereB ns.length x = true)
    (c1 : w.cell? ⟨u1, 0, none⟩ = some (.slice (some ⟨b, off, none⟩) ns.length cap)) (c2 : w.cell? ⟨u2, 0, none⟩ = some (.int .i64 x)) (l1 : u1 < w.heap.size) :
    Calls Tryz.prog 79 #[.pointer (some ⟨u1, 0, none⟩), .pointer (some ⟨u2, 0, none⟩)] w fun e w' => e = .returned (.bool (connD ns x)) ∧ Below w.heap.size w w' := by
  have htt := top_there hR _ x (Nat.le_refl _) hx
  have HT : Hid (∀ (W : World), Below w.heap.size w W → _) := fun W hW => topOf_any b off cap x ns W hR (hF.later hW) hx
  unfold connD
  obtain ⟨j, hj, e⟩ := there_idx htt
  rw [e] at HT ⊢
  have HN : Hid (∀ (W : World), _) := fun W => onode_any b off cap ns.length j W hj hF.len
  obtain ⟨L, hc, _⟩ := hF.at_ j hj
  have HC : Hid (∀ W : World, Below w.heap.size w W → W.cell? ⟨b, off + j * 16, none⟩ = some (.int .u8 (ns[j].kind : Int))) := fun W hW => (hc.later hF.lt hW).kind
  have hn : nodeOrNone ns ((j : Int) + 1) = ns[j] := by unfold nodeOrNone; rw [nodeOf_at ns j hj]; rfl
  rw [hn]
  unfold forestV at *
  have hT := HT.out w.drew (Below.refl _ _).drew
  clear HT hR hF hx e hn htt hc
  generalize ns[j] = n at *
  have ek : ((n.kind : Int) == 9) = (n.kind == 9) := beq_cast n.kind 9
  generalize (n.kind == 9) = KB at *
  go_enter Tryz.func79, Tryz.ntmps79
  go_upto_region 1 with fail
  go_cut [2] (fun t wx => t = .bool KB ∧ Below w.heap.size w wx)
  case first =>
    go_region_law (first
      | (refine step_call _ rfl (.tmp 4) (.tmp 5) 24 3 74 rfl (.agg #[.slice (some ⟨b, off, none⟩) ns.length cap]) (.int .i64 x) (by simp [Act.eval]) (by simp [Act.eval]) (enterTopOf _ _ _) _ hT ?_; rintro e v1 ⟨rfl, hb1⟩; refine ⟨_, rfl, ?_⟩; have hB1 : Below w.heap.size w v1 := (Below.refl _ w).drew.trans hb1; have cb1 := (hB1.cell (p := ⟨u1, 0, none⟩) l1).trans c1; have hN := HN.out v1; have HB1 := hid hB1; clear hb1 hB1)
      | (refine step_call _ rfl (.tmp 3) (.tmp 6) 24 3 80 rfl (.agg #[.slice (some ⟨b, off, none⟩) ns.length cap]) (.int .i64 ((j : Int) + 1)) (by simp [Act.eval]) (by simp [Act.eval]) (enterNode _ _ _) _ hN ?_; rintro e v2 ⟨rfl, hb2⟩; refine ⟨_, rfl, ?_⟩; have hB2 := HB1.out.trans (hb2.mono HB1.out.size); have cb2 := HC.out v2 hB2; have HB2 := hid hB2; clear hb2 hB2))
    all_goals
      go_wp2_with fail
      go_meet
      exact ⟨rfl, HB2.out⟩
  case rest =>
    obtain ⟨rfl, hBx⟩ := hcut
    have HBx := hid hBx
    clear hBx
    go_wp2
    go_ret
    exact ⟨rfl, HBx.out⟩
end Go.Proofs.YtnolcbjaijoloaaGreat

namespace Go.Proofs.YtnolcbjaijoloaaGreat
open Go.RowKit Go.Lib Go.Shelf

set_option maxRecDepth 100000 in
set_option maxHeartbeats 4000000 in
theorem Connected_any (o : Option Addr) (cap : Nat) (x : Int) (ns : List NodeD) (w : World) (hF : FRd w o cap ns) (hkl : ∀ (i : Nat) (hi : i < ns.length), ns[i].kids.length ≤ 1099511627776) (hal : ∀ (i : Nat) (hi : i < ns.length), ns[i].attrs.length ≤ 1099511627776) :
    Calls Tryz.prog 35 #[.agg #[.slice o ns.length cap], .int .i64 x] w fun e w' => e = .returned (.tuple #[.bool (if toldE ns [x] = 0 then connD ns x else false), .int .i64 (toldE ns [x])]) ∧ Below w.heap.size w w' := by
  have hB3 : Below w.heap.size w (((w.alloc (.cells #[.slice o ns.length cap] 24)).alloc (.cells #[.int .i64 x] 3)).alloc (.cells #[.int .i64 x] 3)) := (((Below.refl _ w).alloc (Nat.le_refl _) _).alloc (by simp) _).alloc (by simp; omega) _
  have k0 := new_cell_l w (.slice o ns.length cap) 24
  have k1 := new_cell_l (w.alloc (.cells #[.slice o ns.length cap] 24)) (.int .i64 x) 3
  have kr := one_rdI ((w.alloc (.cells #[.slice o ns.length cap] 24)).alloc (.cells #[.int .i64 x] 3)) x 3
  simp only [World.size_alloc] at k1 kr
  have c0 := keep_cell_l (.cells #[.int .i64 x] 3) (keep_cell_l (.cells #[.int .i64 x] 3) k0.1)
  have c1 := keep_cell_l (.cells #[.int .i64 x] 3) k1.1
  have s0 : w.heap.size < (((w.alloc (.cells #[.slice o ns.length cap] 24)).alloc (.cells #[.int .i64 x] 3)).alloc (.cells #[.int .i64 x] 3)).heap.size := by simp only [World.size_alloc]; omega
  have hT := toldConnected_any o cap w.heap.size (w.heap.size + 1) (connD ns x) (.slice (some ⟨w.heap.size + 1 + 1, 0, none⟩) 1 1) [x] ns (((w.alloc (.cells #[.slice o ns.length cap] 24)).alloc (.cells #[.int .i64 x] 3)).alloc (.cells #[.int .i64 x] 3)) (hF.later hB3) hkl hal kr (by simp) (fun hE W hW => by
    obtain ⟨hR, hth⟩ := toldE_zero hE
    have hx := hth x (by simp)
    obtain ⟨i, hi, _⟩ := there_idx hx
    obtain ⟨b, off, rfl, hFA⟩ := hF.at_ (by omega)
    have hBW := hB3.trans (hW.mono hB3.size)
    have h1 := Connected1_any b off cap w.heap.size (w.heap.size + 1) x ns W hR (hFA.later hBW) hx
      ((hW.cell (p := ⟨w.heap.size, 0, none⟩) s0).trans c0)
      ((hW.cell (p := ⟨w.heap.size + 1, 0, none⟩) (by show w.heap.size + 1 < _; simp only [World.size_alloc]; omega)).trans c1) (Nat.lt_of_lt_of_le s0 hW.size)
    exact h1)
  generalize (if toldE ns [x] = 0 then connD ns x else false) = A at *
  generalize toldE ns [x] = E at *
  have HB3 := hid hB3
  clear k0 k1 kr c0 c1 s0 hF hkl hal hB3
  go_enter Tryz.func35, Tryz.ntmps35
  go_wp2_with fail
  refine hT.mono ?_
  rintro e v1 ⟨rfl, hb1⟩
  have HB := hid (HB3.out.trans (hb1.mono HB3.out.size))
  clear hT hb1 HB3
  go_wp2
  go_ret2
  exact ⟨rfl, HB.out⟩
end Go.Proofs.YtnolcbjaijoloaaGreat

namespace Go.Proofs.YtnolcbjaijoloaaGreat
open Go.RowKit Go.Lib Go.Shelf

theorem enterDeep4 (vs vx : Value) (w : World) : (callFunc 37 #[vs, vx]).run Tryz.prog w = .ok (.enter 37 #[vs, vx]) w := by kernel_rfl
/-- A row of one type isn't a block of another. -/
theorem row_not {W : World} {B : Nat} {e : TypeId} {v : Value} {k : Nat} {xs : List Value} {bn : Nat} {C : Array Value} {t : TypeId} (h : W.ownsRow B e 1 v k xs) (hb : W.heap[bn]? = some (.cells C t)) (ht : t ≠ e) : v.ownBlock ≠ some bn := by
  rcases h.2 with ⟨hv, _⟩ | ⟨g, c, cur, hv, _, hg, _⟩
  · rw [hv]
    intro e
    cases e
  · rw [hv]
    intro e'
    have e2 : g = bn := Option.some.inj e'
    rw [e2, hb] at hg
    have := Option.some.inj hg
    simp only [Obj.cells.injEq] at this
    exact ht this.2.1
theorem ncells {W : World} {bn : Nat} {n : NodeD} {D A K : Value} {t : TypeId} (h : W.heap[bn]? = some (.cells #[.int .u8 (n.kind : Int), .string n.space, .string n.pre, .string n.loc, .string n.pub, .string n.sys, D, A, .int .i64 n.parent, K, .int .i64 n.doc, .int .i64 n.host, .int .i64 n.shadow, .int .u8 (n.mode : Int), .bool n.manual, .bool n.html] t)) : W.cell? ⟨bn, 9, none⟩ = some K ∧ W.cell? ⟨bn, 12, none⟩ = some (.int .i64 n.shadow) := by
  constructor <;> simp [World.cell?, h]

set_option maxRecDepth 100000 in
set_option maxHeartbeats 8000000 in
theorem refDeep_step (b off cap j : Nat) (ns : List NodeD) (w : World) (hR : RightF ns) (hF : FAt w b off cap ns) (hj : j < ns.length) (hkl : ns[j].kids.length ≤ 1099511627776)
    (IH : Hid (∀ y ∈ hangD ns ((j : Int) + 1), ∀ W : World, Below w.heap.size w W → Calls Tryz.prog 37 #[.agg #[.slice (some ⟨b, off, none⟩) ns.length cap], .int .i64 y] W fun e w' => ∃ v, e = .returned v ∧ RdI w' v (deepD ns y) ∧ Below W.heap.size W w')) :
    Calls Tryz.prog 37 #[.agg #[.slice (some ⟨b, off, none⟩) ns.length cap], .int .i64 ((j : Int) + 1)] w fun e w' => ∃ v, e = .returned v ∧ RdI w' v (deepD ns ((j : Int) + 1)) ∧ Below w.heap.size w w' := by
  have HO : Hid (∀ (W : World), Below w.heap.size w W → _) := fun W hW => refOf_at b off cap j ns w W hF hW hj
  obtain ⟨i0, hi, hz0, hz1, hz2⟩ := info_parts info_int
  have hx : thereB ns.length ((j : Int) + 1) = true := thereB_idx _ _ hj
  have hT := deep_cons hR hx
  have hlen := deep_len hR hx
  have hpos : ∀ y ∈ hangD ns ((j : Int) + 1), 0 < (deepD ns y).length := fun y hy => by
    rw [deep_cons hR (hR.deepHang.down _ y hx hy).1]
    simp
  obtain ⟨T, hTT⟩ : ∃ T, deepD ns ((j : Int) + 1) = T := ⟨_, rfl⟩
  rw [hTT] at hT hlen ⊢
  have hat := hangD_at ns j hj
  have HP := hid hpos
  clear hF hTT hx hpos hR
  have hB0 : Below w.heap.size w ((w.alloc (.cells #[.slice (some ⟨b, off, none⟩) ns.length cap] 24)).alloc (.cells #[.int .i64 ((j : Int) + 1)] 3)) := ((Below.refl _ w).alloc (Nat.le_refl _) _).alloc (by simp) _
  have hO := HO.out _ hB0
  have hr0 := own_one (w.alloc (.cells #[.slice (some ⟨b, off, none⟩) ns.length cap] 24)) (w.heap.size + 1) ((j : Int) + 1) (by simp)
  simp only [World.size_alloc] at hr0
  have HR0 := hid hr0
  have HB1' : Hid (Below (w.heap.size + 1) (w.alloc (.cells #[.slice (some ⟨b, off, none⟩) ns.length cap] 24)) ((w.alloc (.cells #[.slice (some ⟨b, off, none⟩) ns.length cap] 24)).alloc (.cells #[.int .i64 ((j : Int) + 1)] 3))) := (Below.refl _ _).alloc (by simp) _
  clear HO hB0 hr0
  generalize ns[j] = n at *
  generalize hangD ns ((j : Int) + 1) = hg at *
  by_cases h0 : n.shadow = 0
  · have hhg : hg = n.kids := by rw [hat, h0]; rfl
    subst hhg
    have HT : Hid ([(j : Int) + 1] ++ (n.kids.drop 0).flatMap (deepD ns) = T) := hT.symm
    have HM : Hid (∀ y ∈ n.kids, y ∈ n.kids) := fun _ h => h
    have hne : (n.shadow != 0) = false := by rw [h0]; rfl
    clear hat hT h0
    go_enter Tryz.func37, Tryz.ntmps37
    go_wp2_with fail
    refine hO.mono ?_
    rintro e v1 ⟨L, rfl, h1, h2, h3, hb1⟩
    obtain ⟨od, cd, oa, ca, ok, ck, rfl⟩ := lists_slices h1 h2 h3
    have hs1 : w.heap.size + 1 ≤ v1.heap.size := by have := hb1.size; simp only [World.size_alloc] at this; omega
    have HR1 := hid ((ownsRow_later HR0.out hb1).alloc (.cells #[.int .u8 (n.kind : Int), .string n.space, .string n.pre, .string n.loc, .string n.pub, .string n.sys, .slice od n.data.length cd, .slice oa n.attrs.length ca, .int .i64 n.parent, .slice ok n.kids.length ck, .int .i64 n.doc, .int .i64 n.host, .int .i64 n.shadow, .int .u8 (n.mode : Int), .bool n.manual, .bool n.html] 59))
    have HB1 := hid ((HB1'.out.trans (hb1.mono (by simp))).alloc hs1 (.cells #[.int .u8 (n.kind : Int), .string n.space, .string n.pre, .string n.loc, .string n.pub, .string n.sys, .slice od n.data.length cd, .slice oa n.attrs.length ca, .int .i64 n.parent, .slice ok n.kids.length ck, .int .i64 n.doc, .int .i64 n.host, .int .i64 n.shadow, .int .u8 (n.mode : Int), .bool n.manual, .bool n.html] 59))
    have HN1 := hid (heap_new v1 (.cells #[.int .u8 (n.kind : Int), .string n.space, .string n.pre, .string n.loc, .string n.pub, .string n.sys, .slice od n.data.length cd, .slice oa n.attrs.length ca, .int .i64 n.parent, .slice ok n.kids.length ck, .int .i64 n.doc, .int .i64 n.host, .int .i64 n.shadow, .int .u8 (n.mode : Int), .bool n.manual, .bool n.html] 59))
    clear h1 h2 hb1 hO HR0 HB1'
    unfold nodeV
    obtain ⟨o3, c3, e3, hck, gk⟩ := h3
    simp only [Value.slice.injEq] at e3
    obtain ⟨rfl, -, rfl⟩ := e3
    go_wp2
    go_loopw [5, 7] (fun v t wr => ∃ (k : Nat) (done : List Int), k ≤ n.kids.length ∧ t = .int .i64 k ∧ Below (w.heap.size + 1) (w.alloc (.cells #[.slice (some ⟨b, off, none⟩) ns.length cap] 24)) wr ∧ Hid (wr.heap[v1.heap.size]? = some (.cells #[.int .u8 (n.kind : Int), .string n.space, .string n.pre, .string n.loc, .string n.pub, .string n.sys, .slice od n.data.length cd, .slice oa n.attrs.length ca, .int .i64 n.parent, .slice ok n.kids.length ck, .int .i64 n.doc, .int .i64 n.host, .int .i64 n.shadow, .int .u8 (n.mode : Int), .bool n.manual, .bool n.html] 59)) ∧ wr.ownsRow (w.heap.size + 1) 3 1 v done.length (done.map (Value.int .i64)) ∧ Hid (done ++ (n.kids.drop k).flatMap (deepD ns) = T)) (fun _ t _ => n.kids.length - (RowKit.intOf t).toNat)
    case atStart => exact ⟨0, [(j : Int) + 1], Nat.zero_le _, rfl, HB1.out, HN1, HR1.out, HT⟩
    case round =>
      obtain ⟨k, done, hk, rfl, hB, hnb, hown, hr⟩ := hrel
      have hBw := bx_below hB
      have hsb := bx_size hB
      have ck9 := (ncells hnb.out).1
      by_cases hlt : k < n.kids.length
      · obtain ⟨bk, offk, rfl, hltk, hak⟩ := gk (by omega)
        have x1 := (hBw.cell (p := ⟨bk, offk + k, none⟩) hltk).trans (hak k hlt)
        have cb : wr.cell? ⟨w.heap.size, 0, none⟩ = some (.slice (some ⟨b, off, none⟩) ns.length cap) := (hB.cell (p := ⟨w.heap.size, 0, none⟩) (by show w.heap.size < w.heap.size + 1; omega)).trans (by simp)
        have q1 : (0 : Int) ≤ (k : Int) := by omega
        have q2 : (k : Int) < (n.kids.length : Int) := by omega
        have hrr := hr.out
        rw [List.drop_eq_getElem_cons hlt, List.flatMap_cons, ← List.append_assoc] at hrr
        have hI := IH.out n.kids[k] (HM.out _ (List.getElem_mem hlt)) wr.drew hBw.drew
        have hp1 := HP.out n.kids[k] (HM.out _ (List.getElem_mem hlt))
        have hdl : done.length + (deepD ns n.kids[k]).length ≤ 4096 := by
          have h := congrArg List.length hrr
          rw [List.length_append, List.length_append] at h
          omega
        have hbl : v1.heap.size < wr.heap.size := (Array.getElem?_eq_some_iff.1 hnb.out).1
        have Hn := hid hrr
        have HB := hid hB
        have HOw := hid hown
        clear hrr hr hB hBw hak gk hown
        generalize deepD ns n.kids[k] = A at *
        generalize n.kids[k] = a at *
        go_upto_region 8 with fail
        go_region_law (first
          | (refine step_call _ rfl (.tmp 30) (.tmp 35) 24 3 37 rfl (.agg #[.slice (some ⟨b, off, none⟩) ns.length cap]) (.int .i64 a) (by first | (simp [Act.eval]; done) | (simp [Act.eval, Act.put]; done)) (by first | (simp [Act.eval]; done) | (simp [Act.eval, Act.put]; done)) (enterDeep4 _ _ _) _ hI ?_; rintro e v2 ⟨vv, rfl, hrd, hb2⟩; refine ⟨vv, rfl, ?_⟩; obtain ⟨o2, c2, rfl, hc2, g2⟩ := hrd; obtain ⟨b2, off2, rfl, hlt2, ha2⟩ := g2 hp1; have HB2 := hid (HB.out.drew.trans (hb2.mono hsb)); have hown2 := ownsRow_later HOw.out.drew hb2; have hnb2 := (hb2.block v1.heap.size hbl).trans hnb.out)
          | (refine step_append_own _ rfl (.tmp 29) (.tmp 36) 28 rfl (w.heap.size + 1) 3 i0 (.int .i64 0) 1 8 Tryz.underlying28 hi hz0 hz1 hz2 rfl (by decide) _ done.length (done.map (Value.int .i64)) (by first | (simp [Act.eval]; done) | (simp [Act.eval, Act.put]; done)) hown2 ⟨b2, off2, none⟩ A.length c2 (A.map (Value.int .i64)) (by first | (simp [Act.eval]; done) | (simp [Act.eval, Act.put]; done)) (by simp) (news_cells ha2) (news_one A) (Nat.le_trans hdl (by decide)) (by omega) (bx_size HB2.out) ?_; intro v' w1 hown' hgrow _))
        all_goals
          have HB3 : Hid (Below (w.heap.size + 1) v2 w1) := (Below.refl _ v2).grown hgrow (bx_size HB2.out) (fun j hj => (hown2.lt j hj).1)
          have HNb := hid ((hgrow.block v1.heap.size (Nat.lt_of_lt_of_le hbl hb2.size) (fun e => row_not hown2 hnb2 (by decide) e.symm)).trans hnb2)
          go_wp2
          go_roundw
          case rel => exact ⟨k + 1, done ++ A, by omega, by go_num, HB2.out.trans HB3.out, HNb, by simpa using hown', Hn⟩
          case measure => simp [RowKit.intOf]; omega
      · have hTd : T = done := by
          rw [← hr.out, List.drop_eq_nil_of_le (by omega), List.flatMap_nil, List.append_nil]
        subst hTd
        have HBw := hid hBw
        have HOw := hid hown
        clear hr hB hBw gk HP IH hown
        go_wp2
        go_ret
        exact ⟨_, rfl, ownsRow_rdI HOw.out, HBw.out⟩
  · have hhg : hg = n.shadow :: n.kids := by rw [hat, beq_eq_false_iff_ne.2 h0, if_neg Bool.false_ne_true]
    subst hhg
    have HT : Hid (([(j : Int) + 1] ++ deepD ns n.shadow) ++ (n.kids.drop 0).flatMap (deepD ns) = T) := by
      show _ = _
      rw [hT, List.drop_zero, List.flatMap_cons]
      simp
    have HM : Hid (∀ y ∈ n.kids, y ∈ n.shadow :: n.kids) := fun _ h => List.mem_cons_of_mem _ h
    have hne : (n.shadow != 0) = true := by rw [bne, beq_eq_false_iff_ne.2 h0]; rfl
    have HIs : Hid (∀ W : World, Below w.heap.size w W → _) := fun W hW => IH.out n.shadow (by simp) W hW
    have hps := HP.out n.shadow (by simp)
    have hds : 1 + (deepD ns n.shadow).length ≤ 4096 := by
      have h := congrArg List.length HT.out
      rw [List.length_append, List.length_append, List.length_singleton] at h
      omega
    clear hat hT h0
    go_enter Tryz.func37, Tryz.ntmps37
    go_wp2_with fail
    refine hO.mono ?_
    rintro e v1 ⟨L, rfl, h1, h2, h3, hb1⟩
    obtain ⟨od, cd, oa, ca, ok, ck, rfl⟩ := lists_slices h1 h2 h3
    have hs1 : w.heap.size + 1 ≤ v1.heap.size := by have := hb1.size; simp only [World.size_alloc] at this; omega
    have HR1 := hid ((ownsRow_later HR0.out hb1).alloc (.cells #[.int .u8 (n.kind : Int), .string n.space, .string n.pre, .string n.loc, .string n.pub, .string n.sys, .slice od n.data.length cd, .slice oa n.attrs.length ca, .int .i64 n.parent, .slice ok n.kids.length ck, .int .i64 n.doc, .int .i64 n.host, .int .i64 n.shadow, .int .u8 (n.mode : Int), .bool n.manual, .bool n.html] 59))
    have HB1 := hid ((HB1'.out.trans (hb1.mono (by simp))).alloc hs1 (.cells #[.int .u8 (n.kind : Int), .string n.space, .string n.pre, .string n.loc, .string n.pub, .string n.sys, .slice od n.data.length cd, .slice oa n.attrs.length ca, .int .i64 n.parent, .slice ok n.kids.length ck, .int .i64 n.doc, .int .i64 n.host, .int .i64 n.shadow, .int .u8 (n.mode : Int), .bool n.manual, .bool n.html] 59))
    have HN1 := hid (heap_new v1 (.cells #[.int .u8 (n.kind : Int), .string n.space, .string n.pre, .string n.loc, .string n.pub, .string n.sys, .slice od n.data.length cd, .slice oa n.attrs.length ca, .int .i64 n.parent, .slice ok n.kids.length ck, .int .i64 n.doc, .int .i64 n.host, .int .i64 n.shadow, .int .u8 (n.mode : Int), .bool n.manual, .bool n.html] 59))
    have cbx : (v1.alloc (.cells #[.int .u8 (n.kind : Int), .string n.space, .string n.pre, .string n.loc, .string n.pub, .string n.sys, .slice od n.data.length cd, .slice oa n.attrs.length ca, .int .i64 n.parent, .slice ok n.kids.length ck, .int .i64 n.doc, .int .i64 n.host, .int .i64 n.shadow, .int .u8 (n.mode : Int), .bool n.manual, .bool n.html] 59)).cell? ⟨w.heap.size, 0, none⟩ = some (.slice (some ⟨b, off, none⟩) ns.length cap) := (HB1.out.cell (p := ⟨w.heap.size, 0, none⟩) (by show w.heap.size < w.heap.size + 1; omega)).trans (by simp)
    have hIs := HIs.out _ (bx_below HB1.out)
    clear h1 h2 hb1 hO HR0 HB1' HIs
    unfold nodeV
    obtain ⟨o3, c3, e3, hck, gk⟩ := h3
    simp only [Value.slice.injEq] at e3
    obtain ⟨rfl, -, rfl⟩ := e3
    go_wp2_with fail
    refine hIs.mono ?_
    rintro e v2 ⟨vv, rfl, hrd, hb2⟩
    obtain ⟨o2, c2, rfl, hc2, g2⟩ := hrd
    obtain ⟨b2, off2, rfl, hlt2, ha2⟩ := g2 hps
    have HB2 := hid (HB1.out.trans (hb2.mono (bx_size HB1.out)))
    have hown2 := ownsRow_later HR1.out hb2
    have hnb2 := (hb2.block v1.heap.size (by simp)).trans HN1.out
    clear hIs cbx HB1 HR1 HN1
    go_wp2_with (at_builtin; refine wpList_append_own _ rfl _ _ 28 rfl (w.heap.size + 1) 3 i0 (.int .i64 0) 1 8 Tryz.underlying28 hi hz0 hz1 hz2 rfl (by decide) _ _ _ rfl hown2 ⟨b2, off2, none⟩ (deepD ns n.shadow).length c2 ((deepD ns n.shadow).map (Value.int .i64)) rfl (by simp) (news_cells ha2) (news_one _) (Nat.le_trans hds (by decide)) (by omega) (bx_size HB2.out) ?_; intro v' w1 hown' hgrow _)
    have HB3 : Hid (Below (w.heap.size + 1) v2 w1) := (Below.refl _ v2).grown hgrow (bx_size HB2.out) (fun j hj => (hown2.lt j hj).1)
    have HNb := hid ((hgrow.block v1.heap.size (by have := hb2.size; simp only [World.size_alloc] at this; omega) (fun e => row_not hown2 hnb2 (by decide) e.symm)).trans hnb2)
    have HRw : Hid (w1.ownsRow (w.heap.size + 1) 3 1 v' ([(j : Int) + 1] ++ deepD ns n.shadow).length (([(j : Int) + 1] ++ deepD ns n.shadow).map (Value.int .i64))) := by
      show World.ownsRow _ _ _ _ _ _ _
      rw [List.length_append, List.map_append]
      exact hown'
    clear hown' hgrow hown2 hnb2 ha2 g2 hb2
    go_wp2
    go_loopw [5, 7] (fun v t wr => ∃ (k : Nat) (done : List Int), k ≤ n.kids.length ∧ t = .int .i64 k ∧ Below (w.heap.size + 1) (w.alloc (.cells #[.slice (some ⟨b, off, none⟩) ns.length cap] 24)) wr ∧ Hid (wr.heap[v1.heap.size]? = some (.cells #[.int .u8 (n.kind : Int), .string n.space, .string n.pre, .string n.loc, .string n.pub, .string n.sys, .slice od n.data.length cd, .slice oa n.attrs.length ca, .int .i64 n.parent, .slice ok n.kids.length ck, .int .i64 n.doc, .int .i64 n.host, .int .i64 n.shadow, .int .u8 (n.mode : Int), .bool n.manual, .bool n.html] 59)) ∧ wr.ownsRow (w.heap.size + 1) 3 1 v done.length (done.map (Value.int .i64)) ∧ Hid (done ++ (n.kids.drop k).flatMap (deepD ns) = T)) (fun _ t _ => n.kids.length - (RowKit.intOf t).toNat)
    case atStart => exact ⟨0, [(j : Int) + 1] ++ deepD ns n.shadow, Nat.zero_le _, rfl, HB2.out.trans HB3.out, HNb, HRw.out, HT⟩
    case round =>
      obtain ⟨k, done, hk, rfl, hB, hnb, hown, hr⟩ := hrel
      have hBw := bx_below hB
      have hsb := bx_size hB
      have ck9 := (ncells hnb.out).1
      by_cases hlt : k < n.kids.length
      · obtain ⟨bk, offk, rfl, hltk, hak⟩ := gk (by omega)
        have x1 := (hBw.cell (p := ⟨bk, offk + k, none⟩) hltk).trans (hak k hlt)
        have cb : wr.cell? ⟨w.heap.size, 0, none⟩ = some (.slice (some ⟨b, off, none⟩) ns.length cap) := (hB.cell (p := ⟨w.heap.size, 0, none⟩) (by show w.heap.size < w.heap.size + 1; omega)).trans (by simp)
        have q1 : (0 : Int) ≤ (k : Int) := by omega
        have q2 : (k : Int) < (n.kids.length : Int) := by omega
        have hrr := hr.out
        rw [List.drop_eq_getElem_cons hlt, List.flatMap_cons, ← List.append_assoc] at hrr
        have hI := IH.out n.kids[k] (HM.out _ (List.getElem_mem hlt)) wr.drew hBw.drew
        have hp1 := HP.out n.kids[k] (HM.out _ (List.getElem_mem hlt))
        have hdl : done.length + (deepD ns n.kids[k]).length ≤ 4096 := by
          have h := congrArg List.length hrr
          rw [List.length_append, List.length_append] at h
          omega
        have hbl : v1.heap.size < wr.heap.size := (Array.getElem?_eq_some_iff.1 hnb.out).1
        have Hn := hid hrr
        have HB := hid hB
        have HOw := hid hown
        clear hrr hr hB hBw hak gk hown
        generalize deepD ns n.kids[k] = A at *
        generalize n.kids[k] = a at *
        go_upto_region 8 with fail
        go_region_law (first
          | (refine step_call _ rfl (.tmp 30) (.tmp 35) 24 3 37 rfl (.agg #[.slice (some ⟨b, off, none⟩) ns.length cap]) (.int .i64 a) (by first | (simp [Act.eval]; done) | (simp [Act.eval, Act.put]; done)) (by first | (simp [Act.eval]; done) | (simp [Act.eval, Act.put]; done)) (enterDeep4 _ _ _) _ hI ?_; rintro e v2 ⟨vv, rfl, hrd, hb2⟩; refine ⟨vv, rfl, ?_⟩; obtain ⟨o2, c2, rfl, hc2, g2⟩ := hrd; obtain ⟨b2, off2, rfl, hlt2, ha2⟩ := g2 hp1; have HB2 := hid (HB.out.drew.trans (hb2.mono hsb)); have hown2 := ownsRow_later HOw.out.drew hb2; have hnb2 := (hb2.block v1.heap.size hbl).trans hnb.out)
          | (refine step_append_own _ rfl (.tmp 29) (.tmp 36) 28 rfl (w.heap.size + 1) 3 i0 (.int .i64 0) 1 8 Tryz.underlying28 hi hz0 hz1 hz2 rfl (by decide) _ done.length (done.map (Value.int .i64)) (by first | (simp [Act.eval]; done) | (simp [Act.eval, Act.put]; done)) hown2 ⟨b2, off2, none⟩ A.length c2 (A.map (Value.int .i64)) (by first | (simp [Act.eval]; done) | (simp [Act.eval, Act.put]; done)) (by simp) (news_cells ha2) (news_one A) (Nat.le_trans hdl (by decide)) (by omega) (bx_size HB2.out) ?_; intro v' w1 hown' hgrow _))
        all_goals
          have HB3 : Hid (Below (w.heap.size + 1) v2 w1) := (Below.refl _ v2).grown hgrow (bx_size HB2.out) (fun j hj => (hown2.lt j hj).1)
          have HNb := hid ((hgrow.block v1.heap.size (Nat.lt_of_lt_of_le hbl hb2.size) (fun e => row_not hown2 hnb2 (by decide) e.symm)).trans hnb2)
          go_wp2
          go_roundw
          case rel => exact ⟨k + 1, done ++ A, by omega, by go_num, HB2.out.trans HB3.out, HNb, by simpa using hown', Hn⟩
          case measure => simp [RowKit.intOf]; omega
      · have hTd : T = done := by
          rw [← hr.out, List.drop_eq_nil_of_le (by omega), List.flatMap_nil, List.append_nil]
        subst hTd
        have HBw := hid hBw
        have HOw := hid hown
        clear hr hB hBw gk HP IH hown
        go_wp2
        go_ret
        exact ⟨_, rfl, ownsRow_rdI HOw.out, HBw.out⟩

theorem refDeep_go (ns : List NodeD) (hR : RightF ns) (hkl : ∀ (i : Nat) (hi : i < ns.length), ns[i].kids.length ≤ 1099511627776) (b off cap : Nat) : ∀ (f : Nat) (x : Int) (w : World), FAt w b off cap ns → thereB ns.length x = true → ns.length < f + (pathUp ns (overD ns) x).length →
    Calls Tryz.prog 37 #[.agg #[.slice (some ⟨b, off, none⟩) ns.length cap], .int .i64 x] w fun e w' => ∃ v, e = .returned v ∧ RdI w' v (deepD ns x) ∧ Below w.heap.size w w'
  | 0, x, w, _, hx, hf => by
    have := hR.deepHang.len hx
    omega
  | f + 1, x, w, hF, hx, hf => by
    obtain ⟨j, hj, rfl⟩ := there_idx hx
    refine refDeep_step b off cap j ns w hR hF hj (hkl j hj) (fun y hy W hW => ?_)
    refine refDeep_go ns hR hkl b off cap f y W (hF.later hW) (hR.deepHang.down _ y hx hy).1 ?_
    rw [hR.deepHang.deep hx hy]
    omega
theorem refDeep_any (b off cap : Nat) (x : Int) (ns : List NodeD) (w : World) (hR : RightF ns) (hF : FAt w b off cap ns) (hkl : ∀ (i : Nat) (hi : i < ns.length), ns[i].kids.length ≤ 1099511627776) (hx : thereB ns.length x = true) :
    Calls Tryz.prog 37 #[.agg #[.slice (some ⟨b, off, none⟩) ns.length cap], .int .i64 x] w fun e w' => ∃ v, e = .returned v ∧ RdI w' v (deepD ns x) ∧ Below w.heap.size w w' := refDeep_go ns hR hkl b off cap (ns.length + 1) x w hF hx (by omega)
end Go.Proofs.YtnolcbjaijoloaaGreat

namespace Go.Proofs.YtnolcbjaijoloaaGreat
open Go.RowKit Go.Lib Go.Shelf

set_option maxRecDepth 100000 in
set_option maxHeartbeats 8000000 in
theorem deeps_refused (o : Option Addr) (cap : Nat) (x y E : Int) (ns : List NodeD) (w : World) (hE : (E != 0) = true)
    (HBg : Hid (∀ W : World, Calls Tryz.prog 6 #[] W fun e w' => e = .returned (.bool true) ∧ Below W.heap.size W w'))
    (HFa : Hid (∀ (v : Value) (W : World), Below w.heap.size w W → RdI W v [x, y] → Calls Tryz.prog 7 #[.agg #[.slice o ns.length cap], v] W fun e w' => e = .returned (.int .i64 E) ∧ Below W.heap.size W w'))
    (HRe : Hid (∀ (W : World), Below w.heap.size w W → Calls Tryz.prog 23 #[.agg #[.slice o ns.length cap], .int .i64 x, .int .i64 y, .int .i64 E] W fun e w' => e = .returned (.bool true) ∧ Below W.heap.size W w')) :
    Calls Tryz.prog 5 #[.agg #[.slice o ns.length cap], .int .i64 x, .int .i64 y] w fun e w' => e = .returned (.bool true) ∧ Below w.heap.size w w' := by
  have hB0 : Below (w.heap.size + 1) (w.alloc (.cells #[.slice o ns.length cap] 24)) (w.alloc (.cells #[.slice o ns.length cap] 24)) := Below.refl _ _
  have HX : Hid (∀ v1 : World, Below (w.heap.size + 1) (w.alloc (.cells #[.slice o ns.length cap] 24)) v1 → v1.cell? ⟨w.heap.size, 0, none⟩ = some (.slice o ns.length cap)) := fun v1 hB1 => (hB1.cell (p := ⟨w.heap.size, 0, none⟩) (by show w.heap.size < w.heap.size + 1; omega)).trans (by simp)
  have HB0 := hid hB0
  clear hB0
  go_enter Tryz.func5, Tryz.ntmps5
  go_wp2_with fail
  refine (HBg.out _).mono ?_
  rintro e v1 ⟨rfl, hb1⟩
  have HB1 := hid (HB0.out.trans (hb1.mono (by simp)))
  have c1 := HX.out v1 HB1.out
  clear hb1 HB0
  go_wp2_with fail
  have hr2 := two_rdI v1 x y 3
  have hBa : Below w.heap.size w (v1.alloc (.cells #[.int .i64 x, .int .i64 y] 3)) := (bx_below HB1.out).alloc (Nat.le_of_succ_le (bx_size HB1.out)) _
  refine (HFa.out _ _ hBa hr2).mono ?_
  rintro e v2 ⟨rfl, hb2⟩
  have HB2 := hid (chain_alloc HB1.out (bx_size HB1.out) hb2)
  have c2 := HX.out v2 HB2.out
  clear hb2 HB1 HFa hr2 hBa c1
  go_wp2_with fail
  refine (HRe.out _ (bx_below HB2.out)).mono ?_
  rintro e v3 ⟨rfl, hb3⟩
  have HB3 := hid (HB2.out.trans (hb3.mono (bx_size HB2.out)))
  clear hb3 HB2 HRe c2
  go_wp2
  go_ret
  exact ⟨rfl, bx_below HB3.out⟩

set_option maxRecDepth 100000 in
set_option maxHeartbeats 16000000 in
theorem deeps_right (o : Option Addr) (cap : Nat) (x y TP : Int) (HO CN : Bool) (DP : List Int) (hDP : DP.length ≤ 1099511627776) (ns : List NodeD) (w : World)
    (HBg : Hid (∀ W : World, Calls Tryz.prog 6 #[] W fun e w' => e = .returned (.bool true) ∧ Below W.heap.size W w'))
    (HFa : Hid (∀ (v : Value) (W : World), Below w.heap.size w W → RdI W v [x, y] → Calls Tryz.prog 7 #[.agg #[.slice o ns.length cap], v] W fun e w' => e = .returned (.int .i64 0) ∧ Below W.heap.size W w'))
    (H1 : Hid (∀ W : World, Below w.heap.size w W → Calls Tryz.prog 32 #[.agg #[.slice o ns.length cap], .int .i64 x] W fun e w' => e = .returned (.tuple #[.int .i64 TP, .int .i64 0]) ∧ Below W.heap.size W w'))
    (H2 : Hid (∀ W : World, Below w.heap.size w W → Calls Tryz.prog 33 #[.agg #[.slice o ns.length cap], .int .i64 x] W fun e w' => ∃ v, e = .returned (.tuple #[v, .int .i64 0]) ∧ RdI w' v DP ∧ Below W.heap.size W w'))
    (H3 : Hid (∀ W : World, Below w.heap.size w W → Calls Tryz.prog 34 #[.agg #[.slice o ns.length cap], .int .i64 x, .int .i64 y] W fun e w' => e = .returned (.tuple #[.bool HO, .int .i64 0]) ∧ Below W.heap.size W w'))
    (H4 : Hid (∀ W : World, Below w.heap.size w W → Calls Tryz.prog 35 #[.agg #[.slice o ns.length cap], .int .i64 x] W fun e w' => e = .returned (.tuple #[.bool CN, .int .i64 0]) ∧ Below W.heap.size W w'))
    (H5 : Hid (∀ W : World, Below w.heap.size w W → Calls Tryz.prog 36 #[.agg #[.slice o ns.length cap], .int .i64 x] W fun e w' => e = .returned (.int .i64 TP) ∧ Below W.heap.size W w'))
    (H6 : Hid (∀ W : World, Below w.heap.size w W → Calls Tryz.prog 37 #[.agg #[.slice o ns.length cap], .int .i64 x] W fun e w' => ∃ v, e = .returned (v) ∧ RdI w' v DP ∧ Below W.heap.size W w'))
    (H7 : Hid (∀ W : World, Below w.heap.size w W → Calls Tryz.prog 38 #[.agg #[.slice o ns.length cap], .int .i64 x, .int .i64 y] W fun e w' => e = .returned (.bool HO) ∧ Below W.heap.size W w'))
    (H8 : Hid (∀ W : World, Below w.heap.size w W → Calls Tryz.prog 39 #[.agg #[.slice o ns.length cap], .int .i64 x] W fun e w' => e = .returned (.bool CN) ∧ Below W.heap.size W w')) :
    Calls Tryz.prog 5 #[.agg #[.slice o ns.length cap], .int .i64 x, .int .i64 y] w fun e w' => e = .returned (.bool true) ∧ Below w.heap.size w w' := by
  have hB0 : Below (w.heap.size + 1) (w.alloc (.cells #[.slice o ns.length cap] 24)) (w.alloc (.cells #[.slice o ns.length cap] 24)) := Below.refl _ _
  have HX : Hid (∀ v1 : World, Below (w.heap.size + 1) (w.alloc (.cells #[.slice o ns.length cap] 24)) v1 → v1.cell? ⟨w.heap.size, 0, none⟩ = some (.slice o ns.length cap)) := fun v1 hB1 => (hB1.cell (p := ⟨w.heap.size, 0, none⟩) (by show w.heap.size < w.heap.size + 1; omega)).trans (by simp)
  have HB0 := hid hB0
  clear hB0
  go_enter Tryz.func5, Tryz.ntmps5
  go_wp2_with fail
  refine (HBg.out _).mono ?_
  rintro e v1 ⟨rfl, hb1⟩
  have HB1 := hid (HB0.out.trans (hb1.mono (by simp)))
  have c1 := HX.out v1 HB1.out
  clear hb1 HB0
  go_wp2_with fail
  have hr2 := two_rdI v1 x y 3
  have hBa : Below w.heap.size w (v1.alloc (.cells #[.int .i64 x, .int .i64 y] 3)) := (bx_below HB1.out).alloc (Nat.le_of_succ_le (bx_size HB1.out)) _
  refine (HFa.out _ _ hBa hr2).mono ?_
  rintro e v2 ⟨rfl, hb2⟩
  have HB2 := hid (chain_alloc HB1.out (bx_size HB1.out) hb2)
  have c2 := HX.out v2 HB2.out
  clear hb2 HB1 HFa hr2 hBa c1
  go_wp2_with fail
  refine (H1.out _ (bx_below HB2.out)).mono ?_
  rintro e v3 ⟨rfl, hb3⟩
  have HB3 := hid (HB2.out.trans (hb3.mono (bx_size HB2.out)))
  have cx3 := HX.out v3 HB3.out
  clear hb3 HB2 H1
  go_wp2_with fail
  refine (H2.out _ (bx_below HB3.out)).mono ?_
  rintro e v4 ⟨u4, rfl, hr4, hb4⟩
  have Hr4 := hid hr4
  obtain ⟨o4, c4, rfl, -, -⟩ := hr4
  have HB4 := hid (HB3.out.trans (hb4.mono (bx_size HB3.out)))
  have cx4 := HX.out v4 HB4.out
  clear hb4 HB3 H2
  go_wp2_with fail
  refine (H3.out _ (bx_below HB4.out)).mono ?_
  rintro e v5 ⟨rfl, hb5⟩
  replace Hr4 := hid (Hr4.out.later hb5)
  have HB5 := hid (HB4.out.trans (hb5.mono (bx_size HB4.out)))
  have cx5 := HX.out v5 HB5.out
  clear hb5 HB4 H3
  go_wp2_with fail
  refine (H4.out _ (bx_below HB5.out)).mono ?_
  rintro e v6 ⟨rfl, hb6⟩
  replace Hr4 := hid (Hr4.out.later hb6)
  have HB6 := hid (HB5.out.trans (hb6.mono (bx_size HB5.out)))
  have cx6 := HX.out v6 HB6.out
  clear hb6 HB5 H4
  go_wp2_with fail
  refine (H5.out _ (bx_below HB6.out)).mono ?_
  rintro e v7 ⟨rfl, hb7⟩
  replace Hr4 := hid (Hr4.out.later hb7)
  have HB7 := hid (HB6.out.trans (hb7.mono (bx_size HB6.out)))
  have cx7 := HX.out v7 HB7.out
  clear hb7 HB6 H5
  go_wp2_with fail
  refine (H6.out _ (bx_below HB7.out)).mono ?_
  rintro e v8 ⟨u8, rfl, hr8, hb8⟩
  replace Hr4 := hid (Hr4.out.later hb8)
  have Hr8 := hid hr8
  obtain ⟨o8, c8, rfl, -, -⟩ := hr8
  have HB8 := hid (HB7.out.trans (hb8.mono (bx_size HB7.out)))
  have cx8 := HX.out v8 HB8.out
  clear hb8 HB7 H6
  go_wp2_with fail
  refine (ints_any _ _ _ _ _ Hr4.out Hr8.out hDP).mono ?_
  rintro e v9 ⟨rfl, hb9⟩
  rw [beq_self_eq_true]
  replace Hr4 := hid (Hr4.out.later hb9)
  replace Hr8 := hid (Hr8.out.later hb9)
  have HB9 := hid (HB8.out.trans (hb9.mono (bx_size HB8.out)))
  have cx9 := HX.out v9 HB9.out
  clear hb9 HB8 
  clear Hr4 Hr8
  go_wp2_with fail
  refine (H7.out _ (bx_below HB9.out)).mono ?_
  rintro e v10 ⟨rfl, hb10⟩
  have HB10 := hid (HB9.out.trans (hb10.mono (bx_size HB9.out)))
  have cx10 := HX.out v10 HB10.out
  clear hb10 HB9 H7
  go_wp2_with fail
  refine (H8.out _ (bx_below HB10.out)).mono ?_
  rintro e v11 ⟨rfl, hb11⟩
  have HB11 := hid (HB10.out.trans (hb11.mono (bx_size HB10.out)))
  have cx11 := HX.out v11 HB11.out
  clear hb11 HB10 H8
  go_wp2
  go_ret
  exact ⟨rfl, bx_below HB11.out⟩
end Go.Proofs.YtnolcbjaijoloaaGreat

namespace Go.Proofs.YtnolcbjaijoloaaGreat
open Go.RowKit Go.Lib Go.Shelf

theorem deeps_list {P : Program} {f : FuncId} {args : Array Value} {w : World} {E : Int} {l : List Int} (h : Calls P f args w fun e w' => ∃ v, e = .returned (.tuple #[v, .int .i64 E]) ∧ w'.ownsRow w.heap.size 3 1 v l.length (l.map (Value.int .i64)) ∧ Below w.heap.size w w') :
    Calls P f args w fun e w' => ∃ v, e = .returned (.tuple #[v, .int .i64 E]) ∧ RdI w' v l ∧ Below w.heap.size w w' := by
  refine h.mono ?_
  rintro e w' ⟨v, rfl, hr, hb⟩
  exact ⟨v, rfl, ownsRow_rdI hr, hb⟩
theorem orderDeeps_law (o : Option Addr) (cap : Nat) (x y : Int) (ns : List NodeD) (w : World) (hF : FRd w o cap ns) (hkl : ∀ (i : Nat) (hi : i < ns.length), ns[i].kids.length ≤ 1099511627776) (hal : ∀ (i : Nat) (hi : i < ns.length), ns[i].attrs.length ≤ 1099511627776) :
    Calls Tryz.prog 5 #[.agg #[.slice o ns.length cap], .int .i64 x, .int .i64 y] w fun e w' => e = .returned (.bool true) ∧ Below w.heap.size w w' := by
  have H1 : ∀ W : World, Below w.heap.size w W → _ := fun W hW => Contains_any o cap x y ns W (hF.later hW) hkl hal
  have H2 : ∀ W : World, Below w.heap.size w W → _ := fun W hW => Common_any o cap x y ns W (hF.later hW) hkl hal
  have H3 : ∀ W : World, Below w.heap.size w W → _ := fun W hW => Cmp_any o cap x y ns W (hF.later hW) hkl hal
  have H4 : ∀ W : World, Below w.heap.size w W → _ := fun W hW => Compare_any o cap x y ns W (hF.later hW) hkl hal
  have H5 : ∀ W : World, Below w.heap.size w W → _ := fun W hW => Holds_any o cap x y ns W (hF.later hW) hkl hal
  have HFa : ∀ (v : Value) (W : World), Below w.heap.size w W → RdI W v [x, y] → _ := fun v W hW hv => refFault_any o cap v [x, y] ns W (hF.later hW) hkl hal hv (by simp)
  by_cases hE : toldE ns [x, y] = 0
  · obtain ⟨hR, hth⟩ := toldE_zero hE
    have hx := hth x (by simp)
    have hy := hth y (by simp)
    have hE1 : toldE ns [x] = 0 := toldE_ok ((rightD_iff ns).2 hR) (by simp [hx])
    have G1 : ∀ W : World, Below w.heap.size w W → _ := fun W hW => Top_any o cap x ns W (hF.later hW) hkl hal
    have G2 : ∀ W : World, Below w.heap.size w W → _ := fun W hW => Deep_any o cap x ns W (hF.later hW) hkl hal
    have G4 : ∀ W : World, Below w.heap.size w W → _ := fun W hW => Connected_any o cap x ns W (hF.later hW) hkl hal
    obtain ⟨j, hj, _⟩ := there_idx hx
    obtain ⟨b, off, rfl, hFA⟩ := hF.at_ (by omega)
    simp only [hE, hE1, if_true] at H5 HFa G1 G2 G4
    exact deeps_right _ cap x y _ _ _ _ (Nat.le_trans (deep_len hR hx) (by decide)) ns w (fun W => begins_true W) HFa G1 (fun W hW => deeps_list (G2 W hW)) H5 G4
      (fun W hW => refTop_any b off cap x ns W hR (hFA.later hW) hx) (fun W hW => refDeep_any b off cap x ns W hR (hFA.later hW) hkl hx)
      (fun W hW => refHolds_any b off cap x y ns W hR (hFA.later hW) hx hy) (fun W hW => refConn_any b off cap x ns W hR (hFA.later hW) hx)
  · have hne : (toldE ns [x, y] != 0) = true := by rw [bne, beq_eq_false_iff_ne.2 hE]; rfl
    simp only [if_neg hE] at H1 H2 H3 H4 H5
    generalize toldE ns [x, y] = E at *
    refine deeps_refused o cap x y E ns w hne (fun W => begins_true W) HFa (fun W hW => refused_any o cap x y E ns W (fun V hV => H1 V (hW.trans (hV.mono hW.size))) (fun V hV => H2 V (hW.trans (hV.mono hW.size))) (fun V hV => H3 V (hW.trans (hV.mono hW.size))) (fun V hV => H4 V (hW.trans (hV.mono hW.size))) (fun V hV => H5 V (hW.trans (hV.mono hW.size))))
end Go.Proofs.YtnolcbjaijoloaaGreat
