/- slices.Grow at nothing and slices.Concat, at ints. -/
import Derived.Test.YtlibjjmaicgemaaAbD
import Derived.Lib.AppendZerosOnto
import Derived.Deep.AppendSrc
namespace Go.Proofs.Ytlibjjmaicgemaa
open Go.RowKit Go.Lib Go.Shelf

/-- Units that are put behind a row of the call's own. -/
theorem run_append_rdI (w : World) (B : Nat) (v src : Value) (done us : List Int) (ty : TypeId) (hown : w.ownsRow B 3 1 v done.length (done.map (Value.int .i64))) (hB : B ≤ w.heap.size) (hr : RdI w src us) (hn : done.length + us.length ≤ 4398046511104) :
    ∃ v' w', (Builtin.append_ #[23, 23] ty #[v, src]).run Try.prog w = .ok v' w' ∧ w'.ownsRow B 3 1 v' (done ++ us).length ((done ++ us).map (Value.int .i64)) ∧ w.grownBy w' v.ownBlock := by
  obtain ⟨i0, hi, hz0, hz1, hz2⟩ := info_parts info_intD
  have hcase : (∃ cap, src = .slice none 0 cap ∧ us = []) ∨ ∃ a cap, src = .slice (some a) us.length cap ∧ (∀ (j : Nat) (h : j < us.length), w.cell? (a.add j) = some (.int .i64 us[j])) := by
    obtain ⟨o, cap, rfl, _, g⟩ := hr
    by_cases h0 : us.length = 0
    · have hn : us = [] := List.eq_nil_of_length_eq_zero h0
      subst hn
      cases o with
      | none => exact .inl ⟨cap, rfl, rfl⟩
      | some a => exact .inr ⟨a, cap, rfl, fun j hj => by simp at hj⟩
    · obtain ⟨b, off, rfl, _, ha⟩ := g (by omega)
      refine .inr ⟨⟨b, off, none⟩, cap, rfl, fun j hj => ?_⟩
      have e : (⟨b, off, none⟩ : Addr).add j = ⟨b, off + j, none⟩ := by simp [Addr.add]
      rw [e]
      exact ha j hj
  rcases hcase with ⟨cap, rfl, rfl⟩ | ⟨a, cap, rfl, hc⟩
  · refine ⟨v, w, ?_, by simpa using hown, ⟨rfl, rfl, rfl, Nat.le_refl _, fun _ _ _ => rfl⟩⟩
    rcases hown.2 with ⟨hv, _⟩ | ⟨g, c, cur, hv, _, hg, hnc, _⟩
    · subst hv
      have hs := Src.ofNil (P := Try.prog) w (size := i0.size) Try.underlying23 cap
      simp [Builtin.append_, run_underlying Try.underlying23, sizeOf, typeInfo, hi, Builtin.lenOf]
      rw [hs.cells]
      rfl
    · subst hv
      have hs := Src.ofNil (P := Try.prog) w (size := i0.size) Try.underlying23 cap
      have h := run_append_room_src w 23 23 ty 3 i0 Try.underlying23 hi g 0 done.length c (.slice none 0 cap) 0 [] hs (by omega) (fun j hj => by simp at hj) (fun j hj => by simp at hj)
      exact h
  · obtain ⟨v', w', h1, h2, h3, _⟩ := run_append_own (P := Try.prog) w B 23 ty 3 i0 (.int .i64 0) 1 8 Try.underlying23 hi hz0 hz1 hz2 rfl (by decide) v done.length (done.map (Value.int .i64)) hown a us.length cap (us.map (Value.int .i64)) (by simp) (fun j u hj => by
      rw [List.getElem?_map] at hj
      obtain ⟨x, hx, rfl⟩ := Option.map_eq_some_iff.1 hj
      obtain ⟨hj', rfl⟩ := List.getElem?_eq_some_iff.1 hx
      exact hc j hj') (fun u hu => by obtain ⟨x, _, rfl⟩ := List.mem_map.1 hu; rfl) (by unfold maxLen; omega) (by omega) hB
    exact ⟨v', w', h1, by simpa using h2, h3⟩

theorem below_grownI {B : Nat} {w w1 : World} {v : Value} {n : Nat} {xs : List Value} (hown : w.ownsRow B 3 1 v n xs) (hB : B ≤ w.heap.size) (hg : w.grownBy w1 v.ownBlock) : Below B w w1 :=
  (Below.refl B w).grown hg hB (fun j hj => (hown.lt j hj).1)

set_option maxRecDepth 100000 in
set_option maxHeartbeats 1000000 in
theorem grow_nil (n : Nat) (w : World) (hn : n ≤ 1099511627776) :
    Calls Try.prog 43 #[.slice none 0 0, .int .i64 n] w fun e w' => ∃ v, e = .returned v ∧ w'.ownsRow w.heap.size 3 1 v 0 (([] : List Int).map (Value.int .i64)) ∧ Below w.heap.size w w' := by
  obtain ⟨i0, hi, hz0, hz1, hz2⟩ := info_parts info_intD
  by_cases h0 : n = 0
  · subst h0
    go_enter Try.func43, Try.ntmps43
    go_wp2
    go_ret
    exact ⟨_, rfl, World.ownsRow_nil _ _ _ _, Below.refl _ _⟩
  · have h1 : ¬ ((n : Int) < 0) := by omega
    have h2 : (0 : Int) < (n : Int) := by omega
    have hold : (Builtin.firstCells i0.size 0 (.slice none 0 0)).run Try.prog w.drew = .ok ([] : List Value).toArray w.drew := run_firstCells_none w.drew i0.size 0 0 0
    have hap := fun ty => run_append_grow_zeros (P := Try.prog) w 23 3 ty 3 i0 (.int .i64 0) .i64 .i64 Try.underlying23 Try.underlying3 hi hz0 none 0 0 [] hold n (by omega) (by omega) (by omega) (by omega) (by rw [hz2]; omega) (growslice_fits (by omega) (by rw [hz2]; omega))
    have hge := grownCap_ge w (0 + n) 0 3
    have hlm := grownCap_le_maxLen w (0 + n) 0 3 (by unfold maxLen; omega)
    generalize grownCap w (0 + n) 0 3 = G at *
    have hcs : (([] : List Value).toArray ++ Builtin.zeroCells (Value.int .i64 0).cells n ++ Builtin.zeroCells (Value.int .i64 0).cells (G - (0 + n))).size = G := by
      simp [Builtin.zeroCells, Value.cells]
      omega
    generalize ([] : List Value).toArray ++ Builtin.zeroCells (Value.int .i64 0).cells n ++ Builtin.zeroCells (Value.int .i64 0).cells (G - (0 + n)) = C at *
    have hown : ((w.drew).alloc (.cells C 3)).ownsRow w.heap.size 3 1 (.slice (some ⟨w.heap.size, 0, none⟩) 0 G) 0 (([] : List Int).map (Value.int .i64)) :=
      ⟨rfl, .inr ⟨w.heap.size, G, C, rfl, Nat.le_refl _, heap_new w.drew _, Nat.zero_le _, hlm, by omega, rfl⟩⟩
    simp only [Nat.zero_add] at hap hge
    unfold maxLen at hlm
    go_enter Try.func43, Try.ntmps43
    go_wp2_with (at_builtin; refine wpList_append_run _ rfl _ _ 23 3 rfl _ _ rfl rfl _ _ (hap _) ?_)
    go_ret
    exact ⟨_, rfl, hown, ((Below.refl _ w).drew).alloc (Nat.le_refl _) _⟩

/-- Strings of units that lie one behind the other. -/
def CellsLI (w : World) (g : Nat) (L : List (Value × List Int)) : Prop := ∀ (j : Nat) (h : j < L.length), w.cell? ⟨g, j, none⟩ = some L[j].1 ∧ RdI w L[j].1 L[j].2
theorem CellsLI.later {w W : World} {g : Nat} {L : List (Value × List Int)} (h : CellsLI w g L) (hg : g < w.heap.size) (hb : Below w.heap.size w W) : CellsLI W g L := fun j hj =>
  ⟨(hb.cell (p := ⟨g, j, none⟩) hg).trans (h j hj).1, (h j hj).2.later hb⟩
def sumL (L : List (Value × List Int)) : Nat := (L.map (·.2.length)).sum
def catL (L : List (Value × List Int)) : List Int := L.flatMap (·.2)
theorem catL_len (L : List (Value × List Int)) : (catL L).length = sumL L := by
  simp [catL, sumL, List.length_flatMap]
theorem take_step (L : List (Value × List Int)) (k : Nat) (h : k < L.length) : L.take (k + 1) = L.take k ++ [L[k]] := by
  rw [List.take_add_one, List.getElem?_eq_getElem h]
  rfl
theorem sum_step (L : List (Value × List Int)) (k : Nat) (h : k < L.length) : sumL (L.take (k + 1)) = sumL (L.take k) + L[k].2.length := by
  unfold sumL
  rw [take_step L k h, List.map_append, List.sum_append, List.map_cons, List.map_nil, List.sum_cons, List.sum_nil, Nat.add_zero]
theorem cat_step (L : List (Value × List Int)) (k : Nat) (h : k < L.length) : catL (L.take (k + 1)) = catL (L.take k) ++ L[k].2 := by
  unfold catL
  rw [take_step L k h, List.flatMap_append, List.flatMap_cons, List.flatMap_nil, List.append_nil]
theorem sum_le (L : List (Value × List Int)) (k : Nat) : sumL (L.take k) ≤ sumL L := by
  have h : sumL L = sumL (L.take k) + sumL (L.drop k) := by
    unfold sumL
    rw [← List.sum_append, ← List.map_append, List.take_append_drop]
  omega

set_option maxRecDepth 100000 in
set_option maxHeartbeats 2000000 in
theorem concat_any (g cap : Nat) (L : List (Value × List Int)) (w : World) (hg : g < w.heap.size) (hc : CellsLI w g L) (hl : L.length ≤ 1000) (hs : sumL L ≤ 1099511627776) :
    Calls Try.prog 34 #[.slice (some ⟨g, 0, none⟩) L.length cap] w fun e w' => ∃ v, e = .returned v ∧ w'.ownsRow w.heap.size 3 1 v (catL L).length ((catL L).map (Value.int .i64)) ∧ Below w.heap.size w w' := by
  have HG : Hid (∀ n W, n ≤ 1099511627776 → _) := grow_nil
  go_enter Try.func34, Try.ntmps34
  go_wp2
  go_loopw [3, 11] (fun sz i wr => ∃ k : Nat, k ≤ L.length ∧ i = .int .i64 k ∧ sz = .int .i64 (sumL (L.take k)) ∧ w = wr) (fun _ i _ => L.length - (RowKit.intOf i).toNat)
  case atStart => exact ⟨0, Nat.zero_le _, rfl, rfl, rfl⟩
  case round =>
    obtain ⟨k, hk, rfl, rfl, rfl⟩ := hrel
    by_cases hlt : k < L.length
    · obtain ⟨hx, hrd⟩ := hc k hlt
      have hst := sum_step L k hlt
      have hle := sum_le L (k + 1)
      obtain ⟨o, c, hv, -⟩ := hrd
      rw [hv] at hx
      generalize L[k].2.length = m at *
      generalize sumL (L.take k) = a at *
      have q : ¬ ((a : Int) + (m : Int) < 0) := by omega
      go_wp2
      go_roundw
      case rel => exact ⟨k + 1, by omega, by go_num, by rw [hst]; go_num, trivial⟩
      case measure => simp [RowKit.intOf]; omega
    · have hkl : k = L.length := by omega
      subst hkl
      rw [List.take_length]
      have hG := HG.out (sumL L) w (by omega)
      go_wp2_with (go_at_call 43; refine hG.mono ?_; rintro e w1 ⟨v1, rfl, ho1, hb1⟩)
      go_loopw [6, 27] (fun v i wr => ∃ k : Nat, k ≤ L.length ∧ i = .int .i64 k ∧ wr.ownsRow w.heap.size 3 1 v (catL (L.take k)).length ((catL (L.take k)).map (Value.int .i64)) ∧ Below w.heap.size w wr) (fun _ i _ => L.length - (RowKit.intOf i).toNat)
      case atStart => exact ⟨0, Nat.zero_le _, rfl, ho1, hb1⟩
      case round =>
        obtain ⟨k, hk, rfl, ho, hb⟩ := hrel
        by_cases hlt : k < L.length
        · obtain ⟨hx, hrd⟩ := hc.later hg hb k hlt
          have hst := cat_step L k hlt
          have hss := sum_step L k hlt
          have hle := sum_le L (k + 1)
          have hcl := catL_len (L.take k)
          obtain ⟨v', w', h1, h2, h3⟩ := run_append_rdI wr w.heap.size _ _ _ _ 23 ho hb.size hrd (by rw [hcl]; omega)
          have hb2 := hb.trans (below_grownI ho hb.size h3)
          rw [← hst] at h2
          generalize L[k].1 = x at *
          go_wp2_with (at_builtin; refine wpList_append_run _ rfl _ _ 23 23 rfl _ _ rfl rfl _ _ h1 ?_)
          go_roundw
          case rel => exact ⟨k + 1, by omega, by go_num, h2, hb2⟩
          case measure => simp [RowKit.intOf]; omega
        · have hkl : k = L.length := by omega
          subst hkl
          rw [List.take_length] at ho
          go_wp2
          go_ret
          exact ⟨_, rfl, ho, hb⟩
end Go.Proofs.Ytlibjjmaicgemaa
