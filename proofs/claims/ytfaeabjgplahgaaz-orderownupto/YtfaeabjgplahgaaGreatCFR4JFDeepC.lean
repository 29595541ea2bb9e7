/- slices.Grow at nothing and slices.Concat, at ints. -/
/- The reference of order: Above, Top, Holds. -/
/- What hangs on a node through shadow trees (plain). -/
/- shadowAndKidsOf. -/
/- What lies in a node, shadow trees too (listOf for shadowAndKidsOf). -/
/- listOf for shadowAndKidsOf. -/
/- Deep. -/
import Derived.Test.YtfaeabjgplahgaaGreatCFR4AFR4G
import Derived.Lib.AppendZerosOnto
import Derived.Deep.AppendSrc
import Derived.Test.YtfaeabjgplahgaaGreatCFNextFHolds
import Derived.Test.YtfaeabjgplahgaaGreatCFConFTree
import Derived.Test.YtfaeabjgplahgaaGreatCFOnePFOneE
import Derived.Test.YtfaeabjgplahgaaGreatCFRangeFAllC
import Derived.Maps.AppendAt
import Derived.Laws.EntriesVeiled
namespace Go.Proofs.YtfaeabjgplahgaaGreat
open Go.RowKit Go.Lib Go.Shelf

/-- Units that are put behind a row of the call's own. -/
theorem run_append_rdI (w : World) (B : Nat) (v src : Value) (done us : List Int) (ty : TypeId) (hown : w.ownsRow B 3 1 v done.length (done.map (Value.int .i64))) (hB : B ≤ w.heap.size) (hr : RdI w src us) (hn : done.length + us.length ≤ 4398046511104) :
    ∃ v' w', (Builtin.append_ #[26, 26] ty #[v, src]).run Tryz.prog w = .ok v' w' ∧ w'.ownsRow B 3 1 v' (done ++ us).length ((done ++ us).map (Value.int .i64)) ∧ w.grownBy w' v.ownBlock := by
  obtain ⟨i0, hi, hz0, hz1, hz2⟩ := info_parts info_int
  have hcase : (∃ cap, src = .slice none 0 cap ∧ us = []) ∨ ∃ a cap, src = .slice (some a) us.length cap ∧ (∀ (j : Nat) (h : j < us.length), w.cell? (a.add j) = some (.int .i64 us[j])) := by
    obtain ⟨o, cap, rfl, _, g⟩ := hr
    by_cases h0 : us.length = 0
    · have hn : us = [] := List.eq_nil_of_length_eq_zero h0
      subst hn
      cases o with
      | none => exact .inl ⟨cap, rfl, rfl⟩
      | some a => exact .inr ⟨a, cap, rfl, fun j hj => by simp at hj⟩
    · obtain ⟨b, off, rfl, _, ha⟩ := g (by omega)
      refine .inr ⟨⟨b, off, none⟩, cap, rfl, fun j hj => ?_⟩
      have e : (⟨b, off, none⟩ : Addr).add j = ⟨b, off + j, none⟩ := by simp [Addr.add]
      rw [e]
      exact ha j hj
  rcases hcase with ⟨cap, rfl, rfl⟩ | ⟨a, cap, rfl, hc⟩
  · refine ⟨v, w, ?_, by simpa using hown, ⟨rfl, rfl, rfl, Nat.le_refl _, fun _ _ _ => rfl⟩⟩
    rcases hown.2 with ⟨hv, _⟩ | ⟨g, c, cur, hv, _, hg, hnc, _⟩
    · subst hv
      have hs := Src.ofNil (P := Tryz.prog) w (size := i0.size) Tryz.underlying26 cap
      simp [Builtin.append_, run_underlying Tryz.underlying26, sizeOf, typeInfo, hi, Builtin.lenOf]
      rw [hs.cells]
      rfl
    · subst hv
      have hs := Src.ofNil (P := Tryz.prog) w (size := i0.size) Tryz.underlying26 cap
      have h := run_append_room_src w 26 26 ty 3 i0 Tryz.underlying26 hi g 0 done.length c (.slice none 0 cap) 0 [] hs (by omega) (fun j hj => by simp at hj) (fun j hj => by simp at hj)
      exact h
  · obtain ⟨v', w', h1, h2, h3, _⟩ := run_append_own (P := Tryz.prog) w B 26 ty 3 i0 (.int .i64 0) 1 8 Tryz.underlying26 hi hz0 hz1 hz2 rfl (by decide) v done.length (done.map (Value.int .i64)) hown a us.length cap (us.map (Value.int .i64)) (by simp) (fun j u hj => by
      rw [List.getElem?_map] at hj
      obtain ⟨x, hx, rfl⟩ := Option.map_eq_some_iff.1 hj
      obtain ⟨hj', rfl⟩ := List.getElem?_eq_some_iff.1 hx
      exact hc j hj') (fun u hu => by obtain ⟨x, _, rfl⟩ := List.mem_map.1 hu; rfl) (by unfold maxLen; omega) (by omega) hB
    exact ⟨v', w', h1, by simpa using h2, h3⟩

theorem below_grownI {B : Nat} {w w1 : World} {v : Value} {n : Nat} {xs : List Value} (hown : w.ownsRow B 3 1 v n xs) (hB : B ≤ w.heap.size) (hg : w.grownBy w1 v.ownBlock) : Below B w w1 :=
  (Below.refl B w).grown hg hB (fun j hj => (hown.lt j hj).1)

set_option maxRecDepth 100000 in
set_option maxHeartbeats 1000000 in
theorem grow_nil (n : Nat) (w : World) (hn : n ≤ 1099511627776) :
    Calls Tryz.prog 100 #[.slice none 0 0, .int .i64 n] w fun e w' => ∃ v, e = .returned v ∧ w'.ownsRow w.heap.size 3 1 v 0 (([] : List Int).map (Value.int .i64)) ∧ Below w.heap.size w w' := by
  obtain ⟨i0, hi, hz0, hz1, hz2⟩ := info_parts info_int
  by_cases h0 : n = 0
  · subst h0
    go_enter Tryz.func100, Tryz.ntmps100
    go_wp2
    go_ret
    exact ⟨_, rfl, World.ownsRow_nil _ _ _ _, Below.refl _ _⟩
  · have h1 : ¬ ((n : Int) < 0) := by omega
    have h2 : (0 : Int) < (n : Int) := by omega
    have hold : (Builtin.firstCells i0.size 0 (.slice none 0 0)).run Tryz.prog w.drew = .ok ([] : List Value).toArray w.drew := run_firstCells_none w.drew i0.size 0 0 0
    have hap := fun ty => run_append_grow_zeros (P := Tryz.prog) w 26 3 ty 3 i0 (.int .i64 0) .i64 .i64 Tryz.underlying26 Tryz.underlying3 hi hz0 none 0 0 [] hold n (by omega) (by omega) (by omega) (by omega) (by rw [hz2]; omega) (growslice_fits (by omega) (by rw [hz2]; omega))
    have hge := grownCap_ge w (0 + n) 0 3
    have hlm := grownCap_le_maxLen w (0 + n) 0 3 (by unfold maxLen; omega)
    generalize grownCap w (0 + n) 0 3 = G at *
    have hcs : (([] : List Value).toArray ++ Builtin.zeroCells (Value.int .i64 0).cells n ++ Builtin.zeroCells (Value.int .i64 0).cells (G - (0 + n))).size = G := by
      simp [Builtin.zeroCells, Value.cells]
      omega
    generalize ([] : List Value).toArray ++ Builtin.zeroCells (Value.int .i64 0).cells n ++ Builtin.zeroCells (Value.int .i64 0).cells (G - (0 + n)) = C at *
    have hown : ((w.drew).alloc (.cells C 3)).ownsRow w.heap.size 3 1 (.slice (some ⟨w.heap.size, 0, none⟩) 0 G) 0 (([] : List Int).map (Value.int .i64)) :=
      ⟨rfl, .inr ⟨w.heap.size, G, C, rfl, Nat.le_refl _, heap_new w.drew _, Nat.zero_le _, hlm, by omega, rfl⟩⟩
    simp only [Nat.zero_add] at hap hge
    unfold maxLen at hlm
    go_enter Tryz.func100, Tryz.ntmps100
    go_wp2_with (at_builtin; refine wpList_append_run _ rfl _ _ 26 3 rfl _ _ rfl rfl _ _ (hap _) ?_)
    go_ret
    exact ⟨_, rfl, hown, ((Below.refl _ w).drew).alloc (Nat.le_refl _) _⟩

/-- Strings of units that lie one behind the other. -/
def CellsLI (w : World) (g : Nat) (L : List (Value × List Int)) : Prop := ∀ (j : Nat) (h : j < L.length), w.cell? ⟨g, j, none⟩ = some L[j].1 ∧ RdI w L[j].1 L[j].2
theorem CellsLI.later {w W : World} {g : Nat} {L : List (Value × List Int)} (h : CellsLI w g L) (hg : g < w.heap.size) (hb : Below w.heap.size w W) : CellsLI W g L := fun j hj =>
  ⟨(hb.cell (p := ⟨g, j, none⟩) hg).trans (h j hj).1, (h j hj).2.later hb⟩
def sumL (L : List (Value × List Int)) : Nat := (L.map (·.2.length)).sum
def catL (L : List (Value × List Int)) : List Int := L.flatMap (·.2)
theorem catL_len (L : List (Value × List Int)) : (catL L).length = sumL L := by
  simp [catL, sumL, List.length_flatMap]
theorem take_step (L : List (Value × List Int)) (k : Nat) (h : k < L.length) : L.take (k + 1) = L.take k ++ [L[k]] := by
  rw [List.take_add_one, List.getElem?_eq_getElem h]
  rfl
theorem sum_step (L : List (Value × List Int)) (k : Nat) (h : k < L.length) : sumL (L.take (k + 1)) = sumL (L.take k) + L[k].2.length := by
  unfold sumL
  rw [take_step L k h, List.map_append, List.sum_append, List.map_cons, List.map_nil, List.sum_cons, List.sum_nil, Nat.add_zero]
theorem cat_step (L : List (Value × List Int)) (k : Nat) (h : k < L.length) : catL (L.take (k + 1)) = catL (L.take k) ++ L[k].2 := by
  unfold catL
  rw [take_step L k h, List.flatMap_append, List.flatMap_cons, List.flatMap_nil, List.append_nil]
theorem sum_le (L : List (Value × List Int)) (k : Nat) : sumL (L.take k) ≤ sumL L := by
  have h : sumL L = sumL (L.take k) + sumL (L.drop k) := by
    unfold sumL
    rw [← List.sum_append, ← List.map_append, List.take_append_drop]
  omega

set_option maxRecDepth 100000 in
set_option maxHeartbeats 2000000 in
theorem concat_any (g cap : Nat) (L : List (Value × List Int)) (w : World) (hg : g < w.heap.size) (hc : CellsLI w g L) (hl : L.length ≤ 1000) (hs : sumL L ≤ 1099511627776) :
    Calls Tryz.prog 68 #[.slice (some ⟨g, 0, none⟩) L.length cap] w fun e w' => ∃ v, e = .returned v ∧ w'.ownsRow w.heap.size 3 1 v (catL L).length ((catL L).map (Value.int .i64)) ∧ Below w.heap.size w w' := by
  have HG : Hid (∀ n W, n ≤ 1099511627776 → _) := grow_nil
  go_enter Tryz.func68, Tryz.ntmps68
  go_wp2
  go_loopw [3, 11] (fun sz i wr => ∃ k : Nat, k ≤ L.length ∧ i = .int .i64 k ∧ sz = .int .i64 (sumL (L.take k)) ∧ w = wr) (fun _ i _ => L.length - (RowKit.intOf i).toNat)
  case atStart => exact ⟨0, Nat.zero_le _, rfl, rfl, rfl⟩
  case round =>
    obtain ⟨k, hk, rfl, rfl, rfl⟩ := hrel
    by_cases hlt : k < L.length
    · obtain ⟨hx, hrd⟩ := hc k hlt
      have hst := sum_step L k hlt
      have hle := sum_le L (k + 1)
      obtain ⟨o, c, hv, -⟩ := hrd
      rw [hv] at hx
      generalize L[k].2.length = m at *
      generalize sumL (L.take k) = a at *
      have q : ¬ ((a : Int) + (m : Int) < 0) := by omega
      go_wp2
      go_roundw
      case rel => exact ⟨k + 1, by omega, by go_num, by rw [hst]; go_num, trivial⟩
      case measure => simp [RowKit.intOf]; omega
    · have hkl : k = L.length := by omega
      subst hkl
      rw [List.take_length]
      have hG := HG.out (sumL L) w (by omega)
      go_wp2_with (go_at_call 100; refine hG.mono ?_; rintro e w1 ⟨v1, rfl, ho1, hb1⟩)
      go_loopw [6, 27] (fun v i wr => ∃ k : Nat, k ≤ L.length ∧ i = .int .i64 k ∧ wr.ownsRow w.heap.size 3 1 v (catL (L.take k)).length ((catL (L.take k)).map (Value.int .i64)) ∧ Below w.heap.size w wr) (fun _ i _ => L.length - (RowKit.intOf i).toNat)
      case atStart => exact ⟨0, Nat.zero_le _, rfl, ho1, hb1⟩
      case round =>
        obtain ⟨k, hk, rfl, ho, hb⟩ := hrel
        by_cases hlt : k < L.length
        · obtain ⟨hx, hrd⟩ := hc.later hg hb k hlt
          have hst := cat_step L k hlt
          have hss := sum_step L k hlt
          have hle := sum_le L (k + 1)
          have hcl := catL_len (L.take k)
          obtain ⟨v', w', h1, h2, h3⟩ := run_append_rdI wr w.heap.size _ _ _ _ 26 ho hb.size hrd (by rw [hcl]; omega)
          have hb2 := hb.trans (below_grownI ho hb.size h3)
          rw [← hst] at h2
          generalize L[k].1 = x at *
          go_wp2_with (at_builtin; refine wpList_append_run _ rfl _ _ 26 26 rfl _ _ rfl rfl _ _ h1 ?_)
          go_roundw
          case rel => exact ⟨k + 1, by omega, by go_num, h2, hb2⟩
          case measure => simp [RowKit.intOf]; omega
        · have hkl : k = L.length := by omega
          subst hkl
          rw [List.take_length] at ho
          go_wp2
          go_ret
          exact ⟨_, rfl, ho, hb⟩
end Go.Proofs.YtfaeabjgplahgaaGreat

namespace Go.Proofs.YtfaeabjgplahgaaGreat
open Go.RowKit Go.Lib Go.Shelf

theorem fld_kind (n : NodeD) (D A K : Value) (W : World) : Sem.run Tryz.prog (Instr.field 49 (.agg #[.int .u8 (n.kind : Int), .string n.space, .string n.pre, .string n.loc, .string n.pub, .string n.sys, D, A, .int .i64 n.parent, K, .int .i64 n.doc, .int .i64 n.host, .int .i64 n.shadow, .int .u8 (n.mode : Int), .bool n.manual, .bool n.html]) 0) W = .ok (.int .u8 (n.kind : Int)) W := by kernel_rfl
theorem fld_host (n : NodeD) (D A K : Value) (W : World) : Sem.run Tryz.prog (Instr.field 49 (.agg #[.int .u8 (n.kind : Int), .string n.space, .string n.pre, .string n.loc, .string n.pub, .string n.sys, D, A, .int .i64 n.parent, K, .int .i64 n.doc, .int .i64 n.host, .int .i64 n.shadow, .int .u8 (n.mode : Int), .bool n.manual, .bool n.html]) 9) W = .ok (.int .i64 n.host) W := by kernel_rfl
theorem over_kind {ns : List NodeD} (h : RightF ns) (j : Nat) (hj : j < ns.length) : overD ns ((j : Int) + 1) = if ns[j].kind == 12 then ns[j].host else ns[j].parent := by
  rw [overD_at ns j hj]
  by_cases hk : ns[j].kind = 12
  · have ht := h.host j hj hk
    have hne : ns[j].host ≠ 0 := fun e => by
      rw [e] at ht
      cases ht
    rw [beq_eq_false_iff_ne.2 hne, if_neg Bool.false_ne_true, hk]
    rfl
  · rw [bare_host (well_parts (h.well j hj)).2.1 hk, beq_eq_false_iff_ne.2 hk, if_neg Bool.false_ne_true]
    rfl
theorem over_there {ns : List NodeD} (h : RightF ns) {x : Int} (hx : thereB ns.length x = true) : overD ns x = 0 ∨ thereB ns.length (overD ns x) = true := by
  obtain ⟨j, hj, rfl⟩ := there_idx hx
  rcases h.overOK j hj with e | ⟨_, e⟩
  · exact .inl e
  · exact .inr e
theorem over_head {ns : List NodeD} (h : RightF ns) {x : Int} (hx : thereB ns.length x = true) : pathUp ns (overD ns) x = x :: pathUp ns (overD ns) (overD ns x) := by
  obtain ⟨j, hj, rfl⟩ := there_idx hx
  exact pathUp_cons ns _ h.overOK h.ends j hj

set_option maxRecDepth 100000 in
set_option maxHeartbeats 4000000 in
theorem refAbove4_any (b off cap : Nat) (x : Int) (ns : List NodeD) (w : World) (hR : RightF ns) (hF : FAt w b off cap ns) (hx : thereB ns.length x = true) :
    Calls Tryz.prog 108 #[.agg #[.slice (some ⟨b, off, none⟩) ns.length cap], .int .i64 x] w fun e w' => e = .returned (.int .i64 (overD ns x)) ∧ Below w.heap.size w w' := by
  have HX : Hid (∀ v1 : World, Below (w.heap.size + 1) (w.alloc (.cells #[.slice (some ⟨b, off, none⟩) ns.length cap] 24)) v1 → v1.cell? ⟨w.heap.size, 0, none⟩ = some (.slice (some ⟨b, off, none⟩) ns.length cap)) := fun v1 hB1 => (hB1.cell (p := ⟨w.heap.size, 0, none⟩) (by show w.heap.size < w.heap.size + 1; omega)).trans (by simp)
  have hB0 : Below (w.heap.size + 1) (w.alloc (.cells #[.slice (some ⟨b, off, none⟩) ns.length cap] 24)) (w.alloc (.cells #[.slice (some ⟨b, off, none⟩) ns.length cap] 24)) := Below.refl _ _
  obtain ⟨j, hj, rfl⟩ := there_idx hx
  have HO : Hid (∀ (W : World), Below w.heap.size w W → _) := fun W hW => refOf_any b off cap j ns W (hF.later hW) hj
  rw [over_kind hR j hj]
  have HB0 := hid hB0
  have hO := HO.out _ (bx_below hB0)
  clear hF hR hx hB0
  generalize ns[j] = n at *
  have ek : ((n.kind : Int) == 12) = (n.kind == 12) := beq_cast n.kind 12
  cases hk : (n.kind == 12)
  all_goals
    rw [hk] at ek
    first | rw [if_pos rfl] | rw [if_neg Bool.false_ne_true]
    clear hk
    go_enter Tryz.func108, Tryz.ntmps108
    go_wp2_with fail
    refine hO.mono ?_
    rintro e v1 ⟨L, rfl, h1, h2, h3, hb1⟩
    obtain ⟨od, cd, oa, ca, ok, ck, rfl⟩ := lists_slices h1 h2 h3
    have hB1 := HB0.out.trans (hb1.mono (by simp))
    have cb1 := HX.out v1 hB1
    have hO2 := HO.out v1 (bx_below hB1)
    have HB1 := hid hB1
    clear h1 h2 h3 hb1 hO hB1 HO
    unfold nodeV
    have hfl := fld_kind n (.slice od n.data.length cd) (.slice oa n.attrs.length ca) (.slice ok n.kids.length ck)
    go_wp2_with fail
    refine hO2.mono ?_
    rintro e v2 ⟨L, rfl, h1, h2, h3, hb2⟩
    obtain ⟨od2, cd2, oa2, ca2, ok2, ck2, rfl⟩ := lists_slices h1 h2 h3
    have HB2 := hid (HB1.out.trans (hb2.mono (bx_size HB1.out)))
    clear h1 h2 h3 hb2 hO2 hfl
    unfold nodeV
    have hfh := fld_host n (.slice od2 n.data.length cd2) (.slice oa2 n.attrs.length ca2) (.slice ok2 n.kids.length ck2)
    have hfp := fld_parent n (.slice od2 n.data.length cd2) (.slice oa2 n.attrs.length ca2) (.slice ok2 n.kids.length ck2)
    go_wp2
    go_ret
    exact ⟨rfl, bx_below HB2.out⟩

theorem holds_here (ns : List NodeD) {a b : Int} (hR : RightF ns) (hb : thereB ns.length b = true) : holdsD ns a b = (b == a || holdsD ns a (overD ns b)) := by
  unfold holdsD
  rw [over_head hR hb, List.contains_cons]
  congr 1
  rw [Bool.eq_iff_iff, beq_iff_eq, beq_iff_eq]
  exact ⟨Eq.symm, Eq.symm⟩
set_option maxRecDepth 100000 in
set_option maxHeartbeats 4000000 in
theorem refHolds_any (b off cap : Nat) (a x : Int) (ns : List NodeD) (w : World) (hR : RightF ns) (hF : FAt w b off cap ns) (ha : thereB ns.length a = true) (hx : thereB ns.length x = true) :
    Calls Tryz.prog 87 #[.agg #[.slice (some ⟨b, off, none⟩) ns.length cap], .int .i64 a, .int .i64 x] w fun e w' => e = .returned (.bool (holdsD ns a x)) ∧ Below w.heap.size w w' := by
  have HA : Hid (∀ (z : Int) (hz : thereB ns.length z = true) (W : World), Below w.heap.size w W → _) := fun z hz W hW => refAbove4_any b off cap z ns W hR (hF.later hW) hz
  obtain ⟨R, hRR⟩ : ∃ R, holdsD ns a x = R := ⟨_, rfl⟩
  rw [hRR]
  have HR : Hid (holdsD ns a x = R) := hRR
  have ha0 := there_ne ha
  clear hRR hF
  go_enter Tryz.func87, Tryz.ntmps87
  go_wp2
  go_loopw [2] (fun t wr => ∃ y : Int, (y = 0 ∨ thereB ns.length y = true) ∧ t = .int .i64 y ∧ Below (w.heap.size + 1) (w.alloc (.cells #[.slice (some ⟨b, off, none⟩) ns.length cap] 24)) wr ∧ Hid (holdsD ns a y = R)) (fun t _ => (pathUp ns (overD ns) (RowKit.intOf t)).length)
  case atStart => exact ⟨x, .inr hx, rfl, Below.refl _ _, HR⟩
  case round =>
    obtain ⟨y, hy, rfl, hB, hr⟩ := hrel
    have hBw := bx_below hB
    have cb : wr.cell? ⟨w.heap.size, 0, none⟩ = some (.slice (some ⟨b, off, none⟩) ns.length cap) := (hB.cell (p := ⟨w.heap.size, 0, none⟩) (by show w.heap.size < w.heap.size + 1; omega)).trans (by simp)
    have HB := hid hB
    have HBw := hid hBw
    clear hB hBw HR
    by_cases hy0 : y = 0
    · have hRf : R = false := by
        rw [← hr.out, hy0]
        unfold holdsD
        rw [pathUp_zero]
        rfl
      subst hRf hy0
      have hne : ((0 : Int) == a) = false := beq_eq_false_iff_ne.2 (fun e => ha0 e.symm)
      clear hr hy
      go_wp2
      go_ret
      exact ⟨rfl, HBw.out⟩
    · have hyt := hy.resolve_left hy0
      have hyn : (y != 0) = true := by rw [bne, beq_eq_false_iff_ne.2 hy0]; rfl
      have hs := holds_here ns (a := a) hR hyt
      cases hya : (y == a) with
      | true =>
        have hRt : R = true := by rw [← hr.out, hs, hya]; rfl
        subst hRt
        have hyb : (y != a) = false := by rw [bne, hya]; rfl
        clear hr hy hs
        go_wp2
        go_ret
        exact ⟨rfl, HBw.out⟩
      | false =>
        have hyb : (y != a) = true := by rw [bne, hya]; rfl
        have Hn : Hid (holdsD ns a (overD ns y) = R) := by
          show _ = _
          rw [← hr.out, hs, hya, Bool.false_or]
        have hA := HA.out y hyt wr HBw.out
        have HPh := hid (over_head hR hyt)
        have HPt := hid (over_there hR hyt)
        clear hr hy hs
        go_wp2_with fail
        refine hA.mono ?_
        rintro e v1 ⟨rfl, hb1⟩
        have HB1 := hid (HB.out.trans (hb1.mono (bx_size HB.out)))
        clear hb1 hA
        go_wp2
        go_roundw
        case rel => exact ⟨_, HPt.out, rfl, HB1.out, Hn⟩
        case measure =>
          simp only [RowKit.intOf]
          rw [HPh.out]
          simp
end Go.Proofs.YtfaeabjgplahgaaGreat

namespace Go.Proofs.YtfaeabjgplahgaaGreat
open Go.RowKit Go.Lib Go.Shelf

def hangD (ns : List NodeD) (x : Int) : List Int := match nodeOf ns x with
  | some n => if n.shadow == 0 then n.kids else n.shadow :: n.kids
  | none => []
theorem hangD_at (ns : List NodeD) (j : Nat) (hj : j < ns.length) : hangD ns ((j : Int) + 1) = if ns[j].shadow == 0 then ns[j].kids else ns[j].shadow :: ns[j].kids := by unfold hangD; rw [nodeOf_at ns j hj]
theorem bare_no_shadow {n : NodeD} (h : bareD n = true) (hk : n.kind ≠ 1) : n.shadow = 0 := by
  unfold bareD at h
  simp only [Bool.and_eq_true] at h
  have h1 := h.1.1.1.1.1.1.1
  rw [beq_eq_false_iff_ne.2 hk] at h1
  simp at h1
  exact h1.2
theorem shadow_down {ns : List NodeD} (h : RightF ns) (j : Nat) (hj : j < ns.length) (h0 : ns[j].shadow ≠ 0) : ∃ (i : Nat) (hi : i < ns.length), ns[j].shadow = (i : Int) + 1 ∧ ns[i].kind = 12 ∧ ns[i].host = (j : Int) + 1 := by
  have hs := h.shadow j hj
  have hb := (well_parts (h.well j hj)).2.1
  have hk : ns[j].kind = 1 := by
    by_cases hk : ns[j].kind = 1
    · exact hk
    · exact absurd (bare_no_shadow hb hk) h0
  unfold rightShadowD at hs
  rw [hk, if_neg (by decide), beq_eq_false_iff_ne.2 h0, Bool.false_or] at hs
  cases hn : nodeOf ns ns[j].shadow with
  | none => rw [hn] at hs; cases hs
  | some u =>
    rw [hn] at hs
    obtain ⟨i, hi, e, e2⟩ := nodeOf_idx hn
    subst e2
    simp only [Bool.and_eq_true, beq_iff_eq] at hs
    exact ⟨i, hi, e, hs.1, hs.2⟩
theorem shadow_back {ns : List NodeD} (h : RightF ns) (j : Nat) (hj : j < ns.length) (hk : ns[j].kind = 12) : ∃ (i : Nat) (hi : i < ns.length), ns[j].host = (i : Int) + 1 ∧ ns[i].shadow = (j : Int) + 1 := by
  have hs := h.shadow j hj
  unfold rightShadowD at hs
  rw [hk, if_pos (by decide)] at hs
  cases hn : nodeOf ns ns[j].host with
  | none => rw [hn] at hs; cases hs
  | some u =>
    rw [hn] at hs
    obtain ⟨i, hi, e, e2⟩ := nodeOf_idx hn
    subst e2
    simp only [Bool.and_eq_true, beq_iff_eq] at hs
    exact ⟨i, hi, e, hs.2⟩
theorem over_kid {ns : List NodeD} (h : RightF ns) {x y : Int} (hx : thereB ns.length x = true) (hy : y ∈ kidsD ns x) : thereB ns.length y = true ∧ overD ns y = x ∧ parentD ns y = x := by
  obtain ⟨ht, hp⟩ := h.kidsHang.down x y hx hy
  refine ⟨ht, ?_, hp⟩
  obtain ⟨i, hi, rfl⟩ := there_idx ht
  rw [parentD_at ns i hi] at hp
  have hk : ns[i].kind ≠ 12 := fun hk => there_ne hx (by rw [← hp]; exact bare_shadow (well_parts (h.well i hi)).2.1 hk)
  rw [over_kind h i hi, beq_eq_false_iff_ne.2 hk, if_neg Bool.false_ne_true, hp]
theorem kidsD_at (ns : List NodeD) (j : Nat) (hj : j < ns.length) : kidsD ns ((j : Int) + 1) = ns[j].kids := by unfold kidsD; rw [nodeOf_at ns j hj]
/-- What hangs on a node, shadow trees too, has it above. -/
theorem RightF.deepHang {ns : List NodeD} (h : RightF ns) : Hangs ns (overD ns) (hangD ns) where
  ok := h.overOK
  ends := h.ends
  down := fun x y hx hy => by
    obtain ⟨j, hj, rfl⟩ := there_idx hx
    rw [hangD_at ns j hj] at hy
    have kid : y ∈ ns[j].kids → thereB ns.length y = true ∧ overD ns y = (j : Int) + 1 := fun hm => by
      have := over_kid h hx (y := y) (by rw [kidsD_at ns j hj]; exact hm)
      exact ⟨this.1, this.2.1⟩
    by_cases h0 : ns[j].shadow = 0
    · rw [h0, show ((0 : Int) == 0) = true from rfl, if_pos rfl] at hy
      exact kid hy
    · rw [beq_eq_false_iff_ne.2 h0, if_neg Bool.false_ne_true] at hy
      rcases List.mem_cons.1 hy with e | hm
      · obtain ⟨i, hi, e1, e2, e3⟩ := shadow_down h j hj h0
        rw [e, e1]
        exact ⟨thereB_idx _ _ hi, by rw [over_kind h i hi, e2, e3]; rfl⟩
      · exact kid hm
  back := fun y hy h0 => by
    obtain ⟨j, hj, rfl⟩ := there_idx hy
    by_cases hk : ns[j].kind = 12
    · have e : overD ns ((j : Int) + 1) = ns[j].host := by rw [over_kind h j hj, hk]; rfl
      obtain ⟨i, hi, e1, e2⟩ := shadow_back h j hj hk
      rw [e, e1, hangD_at ns i hi, e2, if_neg]
      · simp
      · intro hh
        have := eq_of_beq hh
        omega
    · have e : overD ns ((j : Int) + 1) = parentD ns ((j : Int) + 1) := by rw [over_kind h j hj, beq_eq_false_iff_ne.2 hk, if_neg Bool.false_ne_true, parentD_at ns j hj]
      rw [e] at h0 ⊢
      have hm := h.kid hy h0
      obtain ⟨i, hi, e1⟩ := there_idx (h.kidsHang.up_there hy h0)
      rw [e1] at hm ⊢
      rw [kidsD_at ns i hi] at hm
      rw [hangD_at ns i hi]
      split
      · exact hm
      · exact List.mem_cons_of_mem _ hm
  once := fun x hx => by
    have ho := h.kidsHang.once x hx
    obtain ⟨j, hj, rfl⟩ := there_idx hx
    rw [hangD_at ns j hj]
    rw [kidsD_at ns j hj] at ho
    by_cases h0 : ns[j].shadow = 0
    · rw [h0, show ((0 : Int) == 0) = true from rfl, if_pos rfl]
      exact ho
    · rw [beq_eq_false_iff_ne.2 h0, if_neg Bool.false_ne_true]
      refine List.nodup_cons.2 ⟨fun hm => ?_, ho⟩
      obtain ⟨i, hi, e1, e2, e3⟩ := shadow_down h j hj h0
      have hp := (over_kid h hx (y := ns[j].shadow) (by rw [kidsD_at ns j hj]; exact hm)).2.2
      rw [e1, parentD_at ns i hi, bare_shadow (well_parts (h.well i hi)).2.1 e2] at hp
      omega
/-- A node and what lies in it, shadow trees too. -/
def deepD (ns : List NodeD) (x : Int) : List Int := belowF (hangD ns) (ns.length + 1) x
theorem deep_cons {ns : List NodeD} (h : RightF ns) {x : Int} (hx : thereB ns.length x = true) : deepD ns x = x :: (hangD ns x).flatMap (deepD ns) := h.deepHang.cons hx
theorem deep_len {ns : List NodeD} (h : RightF ns) {x : Int} (hx : thereB ns.length x = true) : (deepD ns x).length ≤ 4096 := Nat.le_trans (h.deepHang.below_len (ns.length + 1) x hx (by omega)) h.small
end Go.Proofs.YtfaeabjgplahgaaGreat

namespace Go.Proofs.YtfaeabjgplahgaaGreat
open Go.RowKit Go.Lib Go.Shelf

theorem two_lists {W : World} {g : Nat} {a b : Value} {p q : List Int} {t : TypeId} (h : W.heap[g]? = some (.cells #[a, b] t)) (h1 : RdI W a p) (h2 : RdI W b q) : CellsLI W g [(a, p), (b, q)] := fun j hj => by
  match j, hj with
  | 0, _ => exact ⟨by simp [World.cell?, h], h1⟩
  | 1, _ => exact ⟨by simp [World.cell?, h], h2⟩

set_option maxRecDepth 100000 in
set_option maxHeartbeats 4000000 in
theorem hangOf_at (b off cap j : Nat) (ns : List NodeD) (w0 w : World) (hF0 : FAt w0 b off cap ns) (hW0 : Below w0.heap.size w0 w) (hj : j < ns.length) (hkl : ns[j].kids.length ≤ 1000000000) :
    Calls Tryz.prog 33 #[forestV b off cap ns.length, .int .i64 ((j : Int) + 1)] w fun e w' => ∃ v, e = .returned v ∧ (RdI w0 v (hangD ns ((j : Int) + 1)) ∨ w'.ownsRow w.heap.size 3 1 v (hangD ns ((j : Int) + 1)).length ((hangD ns ((j : Int) + 1)).map (Value.int .i64))) ∧ Below w.heap.size w w' := by
  have hF := hF0.later hW0
  have HX : Hid (∀ v1 : World, Below (w.heap.size + 1) (w.alloc (.cells #[.slice (some ⟨b, off, none⟩) ns.length cap] 24)) v1 → v1.cell? ⟨w.heap.size, 0, none⟩ = some (.slice (some ⟨b, off, none⟩) ns.length cap)) := fun v1 hB1 => (hB1.cell (p := ⟨w.heap.size, 0, none⟩) (by show w.heap.size < w.heap.size + 1; omega)).trans (by simp)
  have hB0 : Below (w.heap.size + 1) (w.alloc (.cells #[.slice (some ⟨b, off, none⟩) ns.length cap] 24)) (w.alloc (.cells #[.slice (some ⟨b, off, none⟩) ns.length cap] 24)) := Below.refl _ _
  have HN : Hid (∀ W : World, _) := fun W => onode_any b off cap ns.length j W hj hF.len
  have HK : Hid (∀ W : World, Below w.heap.size w W → _) := fun W hW => kidsOf_at b off cap j ns w0 W hF0 (hW0.trans (hW.mono hW0.size)) hj
  obtain ⟨L, hc, _⟩ := hF.at_ j hj
  have HC : Hid (∀ W : World, Below w.heap.size w W → W.cell? ⟨b, off + j * 16 + 12, none⟩ = some (.int .i64 ns[j].shadow)) := fun W hW => (hc.later hF.lt hW).shadow
  rw [hangD_at ns j hj]
  have hle := hF.len
  unfold forestV at *
  have HB0 := hid hB0
  have HW0 := hid hW0
  clear hF hF0 hc hB0 hW0
  generalize ns[j] = n at *
  by_cases h0 : n.shadow = 0
  · rw [h0, show ((0 : Int) == 0) = true from rfl, if_pos rfl]
    have hne : (n.shadow != 0) = false := by rw [h0]; rfl
    go_enter Tryz.func33, Tryz.ntmps33
    go_wp2_with fail
    refine (HN.out _).mono ?_
    rintro e v1 ⟨rfl, hb1⟩
    have hB1 := HB0.out.trans (hb1.mono (by simp))
    have cb1 := HX.out v1 hB1
    have cs1 := HC.out v1 (bx_below hB1)
    rw [h0] at cs1
    have HB1 := hid hB1
    clear hb1 hB1
    go_wp2_with fail
    refine (HK.out _ (bx_below HB1.out)).mono ?_
    rintro e v2 ⟨vk, rfl, hrk, hb2⟩
    have HB2 := hid (HB1.out.trans (hb2.mono (bx_size HB1.out)))
    have Hrk := hid hrk
    obtain ⟨ok, ck, rfl, -, -⟩ := hrk
    clear hb2
    go_wp2
    go_ret
    exact ⟨_, rfl, .inl Hrk.out, bx_below HB2.out⟩
  · rw [beq_eq_false_iff_ne.2 h0, if_neg Bool.false_ne_true]
    have hne : (n.shadow != 0) = true := by rw [bne, beq_eq_false_iff_ne.2 h0]; rfl
    go_enter Tryz.func33, Tryz.ntmps33
    go_wp2_with fail
    refine (HN.out _).mono ?_
    rintro e v1 ⟨rfl, hb1⟩
    have hB1 := HB0.out.trans (hb1.mono (by simp))
    have cb1 := HX.out v1 hB1
    have cs1 := HC.out v1 (bx_below hB1)
    have HB1 := hid hB1
    clear hb1 hB1
    have cb1a := keep_cell_l (.cells #[.int .i64 n.shadow] 3) cb1
    have hBa := HB1.out.alloc (bx_size HB1.out) (.cells #[.int .i64 n.shadow] 3)
    have hrw := one_rdI v1 n.shadow 3
    have hK := HK.out _ (bx_below hBa)
    have HBa := hid hBa
    have Hrw := hid hrw
    clear cb1 hBa hrw
    go_wp2_with fail
    refine hK.mono ?_
    rintro e v2 ⟨vk, rfl, hrk, hb2⟩
    have HB2 := hid (HBa.out.trans (hb2.mono (bx_size HBa.out)))
    have Hrk := hid (hrk.later (HW0.out.trans ((bx_below HB2.out).mono HW0.out.size)))
    have Hrw2 := hid (Hrw.out.later hb2)
    obtain ⟨ok, ck, rfl, -, -⟩ := hrk
    have hAl : Below v2.heap.size v2 (v2.alloc (.cells #[.slice (some ⟨v1.heap.size, 0, none⟩) 1 1, .slice ok n.kids.length ck] 26)) := (Below.refl _ _).alloc (Nat.le_refl _) _
    have hC := concat_any v2.heap.size 2 [(.slice (some ⟨v1.heap.size, 0, none⟩) 1 1, [n.shadow]), (.slice ok n.kids.length ck, n.kids)] (v2.alloc (.cells #[.slice (some ⟨v1.heap.size, 0, none⟩) 1 1, .slice ok n.kids.length ck] 26)) (by simp) (two_lists (heap_new v2 _) (Hrw2.out.later hAl) (Hrk.out.later hAl)) (by simp) (by simp [sumL]; omega)
    rw [show catL [((.slice (some ⟨v1.heap.size, 0, none⟩) 1 1 : Value), [n.shadow]), (.slice ok n.kids.length ck, n.kids)] = n.shadow :: n.kids by simp [catL]] at hC
    have HB3 := hid (HB2.out.alloc (bx_size HB2.out) (.cells #[.slice (some ⟨v1.heap.size, 0, none⟩) 1 1, .slice ok n.kids.length ck] 26))
    clear hb2 hAl hK HBa Hrw
    go_wp2_with fail
    refine hC.mono ?_
    rintro e v3 ⟨v, rfl, hrow, hb3⟩
    have HB4 := hid (HB3.out.trans (hb3.mono (bx_size HB3.out)))
    have Hrd := hid (ownsRow_base hrow (bx_below HB3.out).size)
    clear hC hb3 hrow
    go_wp2
    exact bodyPost_ret (v := v) (by simp [results, Tryz.results33, go_sem]) rfl ⟨v, rfl, .inr Hrd.out, bx_below HB4.out⟩
end Go.Proofs.YtfaeabjgplahgaaGreat

namespace Go.Proofs.YtfaeabjgplahgaaGreat
open Go.RowKit Go.Lib Go.Shelf

/-- All blocks stay but a box and a list's own row; the list's row at the end is the one at the start, or new. -/
structure KeptB (W V : World) (bl : Nat) (v v' : Value) : Prop where
  size : W.heap.size ≤ V.heap.size
  block : ∀ k, k < W.heap.size → k ≠ bl → v.ownBlock ≠ some k → V.heap[k]? = W.heap[k]?
  own : ∀ k, v'.ownBlock = some k → v.ownBlock = some k ∨ W.heap.size ≤ k
theorem KeptB.refl (W : World) (bl : Nat) (v : Value) : KeptB W W bl v v := ⟨Nat.le_refl _, fun _ _ _ _ => rfl, fun _ h => .inl h⟩
theorem KeptB.of_below {W V : World} (hb : Below W.heap.size W V) (bl : Nat) (v : Value) : KeptB W V bl v v := ⟨hb.size, fun k hk _ _ => hb.block k hk, fun _ h => .inl h⟩
theorem KeptB.trans {W V U : World} {bl : Nat} {v v' v'' : Value} (h : KeptB W V bl v v') (h2 : KeptB V U bl v' v'') : KeptB W U bl v v'' where
  size := Nat.le_trans h.size h2.size
  block := fun k hk hb hv => by
    refine (h2.block k (Nat.lt_of_lt_of_le hk h.size) hb (fun e => ?_)).trans (h.block k hk hb hv)
    rcases h.own k e with e' | e'
    · exact hv e'
    · omega
  own := fun k e => by
    rcases h2.own k e with e' | e'
    · exact h.own k e'
    · exact .inr (Nat.le_trans h.size e')
theorem KeptB.append {W w1 : World} {bl : Nat} {v v' : Value} {tmp : Obj} (hgrow : (W.alloc tmp).grownBy w1 v.ownBlock) (hat : v'.ownBlock = v.ownBlock ∨ v'.ownBlock = some (W.alloc tmp).heap.size) : KeptB W (w1.setCell ⟨bl, 0, none⟩ v') bl v v' where
  size := by
    have h := hgrow.size
    simp only [World.size_alloc] at h
    simp
    omega
  block := fun k hk hb hv => (Below.heap_setCell w1 ⟨bl, 0, none⟩ v' k hb).trans ((hgrow.block k (by simp; omega) (fun e => hv e.symm)).trans (((Below.refl _ W).alloc (Nat.le_refl _) tmp).block k hk))
  own := fun k e => by
    rcases hat with h | h
    · rw [h] at e
      exact .inl e
    · rw [h] at e
      have := Option.some.inj e
      simp only [World.size_alloc] at this
      exact .inr (by omega)
def ListK (V3 : World) (vA : Value) (W : World) (base bl : Nat) (l : List Int) : Prop := ∃ v, Boxed W bl 26 v ∧ W.ownsRow base 3 1 v l.length (l.map (Value.int .i64)) ∧ KeptB V3 W bl vA v
theorem hang_cells {w v3 : World} {N bl : Nat} {vk vA : Value} {ks : List Int} (h : RdI w vk ks ∨ v3.ownsRow N 3 1 vk ks.length (ks.map (Value.int .i64))) (hbl : bl < N) (hvA : ∀ k, vA.ownBlock = some k → k < N) :
    ∃ o c, vk = .slice o ks.length c ∧ (0 < ks.length → ∃ bk offk, o = some ⟨bk, offk, none⟩ ∧ ∀ (wr : World) (v : Value), Below w.heap.size w wr → KeptB v3 wr bl vA v → ∀ (j : Nat) (hj : j < ks.length), wr.cell? ⟨bk, offk + j, none⟩ = some (.int .i64 ks[j])) := by
  rcases h with ⟨o, c, e, _, g⟩ | h
  · refine ⟨o, c, e, fun hp => ?_⟩
    obtain ⟨bk, offk, rfl, hlt, ha⟩ := g hp
    exact ⟨bk, offk, rfl, fun wr v hb _ j hj => (hb.cell (p := ⟨bk, offk + j, none⟩) hlt).trans (ha j hj)⟩
  · have hrd := ownsRow_rdI h
    obtain ⟨_, ⟨rfl, h0⟩ | ⟨g, cp, cur, rfl, hg, hh, _⟩⟩ := h
    · exact ⟨none, 0, by rw [h0], fun hp => absurd hp (by omega)⟩
    · obtain ⟨o, c, e, _, gg⟩ := hrd
      simp only [Value.slice.injEq] at e
      obtain ⟨rfl, -, rfl⟩ := e
      refine ⟨_, _, rfl, fun hp => ?_⟩
      obtain ⟨bk, offk, eb, hlt, ha⟩ := gg hp
      simp only [Option.some.injEq, Addr.mk.injEq] at eb
      obtain ⟨rfl, rfl, -⟩ := eb
      refine ⟨g, 0, rfl, fun wr v _ hk j hj => ?_⟩
      rw [World.cell?_of_block (w := v3) (hk.block g hlt (by omega) (fun e => by have := hvA g e; omega))]
      exact ha j hj
theorem kids_small {ns : List NodeD} (h : RightF ns) (j : Nat) (hj : j < ns.length) : ns[j].kids.length ≤ 1000000000 := by
  have hx : thereB ns.length ((j : Int) + 1) = true := thereB_idx _ _ hj
  have ho := h.kidsHang.once _ hx
  have hd : ∀ y ∈ kidsD ns ((j : Int) + 1), 1 ≤ y ∧ y ≤ (ns.length : Int) := fun y hy => by
    obtain ⟨i, hi, rfl⟩ := there_idx (h.kidsHang.down _ y hx hy).1
    omega
  have := pigeon ns.length _ ho hd
  rw [kidsD_at ns j hj] at this
  have := h.small
  omega
theorem hang_len {ns : List NodeD} (h : RightF ns) {x : Int} (hx : thereB ns.length x = true) : (hangD ns x).length ≤ 1099511627776 := by
  have ho := h.deepHang.once _ hx
  have hd : ∀ y ∈ hangD ns x, 1 ≤ y ∧ y ≤ (ns.length : Int) := fun y hy => by
    obtain ⟨i, hi, rfl⟩ := there_idx (h.deepHang.down _ y hx hy).1
    omega
  have := pigeon ns.length _ ho hd
  have := h.small
  omega

set_option maxRecDepth 100000 in
set_option maxHeartbeats 8000000 in
theorem visitH_any (b off cap : Nat) (ns : List NodeD) (w : World) (hR : RightF ns) (hF : FAt w b off cap ns) (bl bh bf bv : Nat) (lbl : w.heap.size ≤ bl) (nh : bh ≠ bl) (nf : bf ≠ bl) (nv : bv ≠ bl) :
    ∀ (f : Nat) (x : Int) (pre : List Int) (W : World) (v : Value), thereB ns.length x = true → ns.length < f + (pathUp ns (overD ns) x).length → pre.length + (belowF (hangD ns) f x).length ≤ 1099511627776 → VisitAt W b off cap ns.length 33 bl bh bf bv → Boxed W bl 26 v → W.ownsRow w.heap.size 3 1 v pre.length (pre.map (Value.int .i64)) → Below w.heap.size w W →
      Calls Tryz.prog 63 #[.int .i64 x, .pointer (some ⟨bl, 0, none⟩), .pointer (some ⟨bh, 0, none⟩), .pointer (some ⟨bf, 0, none⟩), .pointer (some ⟨bv, 0, none⟩)] W fun e W' => (∃ v, e = .returned v) ∧ VisitAt W' b off cap ns.length 33 bl bh bf bv ∧ (∃ v', Boxed W' bl 26 v' ∧ W'.ownsRow w.heap.size 3 1 v' (pre ++ belowF (hangD ns) f x).length ((pre ++ belowF (hangD ns) f x).map (Value.int .i64)) ∧ KeptB W W' bl v v') ∧ Below w.heap.size w W' := by
  obtain ⟨i0, hi, hz0, hz1, hz2⟩ := info_parts info_int
  intro f
  induction f with
  | zero =>
    intro x pre W v hx hf _ _ _ _ _
    have := hR.deepHang.len hx
    omega
  | succ f ih =>
    intro x pre W v hx hf hl hV hv hrow hB
    obtain ⟨j, hj, rfl⟩ := there_idx hx
    obtain ⟨ks, hkd⟩ : ∃ ks, hangD ns ((j : Int) + 1) = ks := ⟨_, rfl⟩
    have hkl' : ks.length ≤ 1099511627776 := by rw [← hkd]; exact hang_len hR hx
    have HE : Hid (pre ++ belowF (hangD ns) (f + 1) ((j : Int) + 1) = (pre ++ [(j : Int) + 1]) ++ (ks.drop 0).flatMap (belowF (hangD ns) f)) := by
      show _ = _
      rw [belowF, hkd, List.append_assoc]
      rfl
    have hlen2 : (pre ++ belowF (hangD ns) (f + 1) ((j : Int) + 1)).length ≤ 1099511627776 := by rw [List.length_append]; exact hl
    obtain ⟨T, hT⟩ : ∃ T, pre ++ belowF (hangD ns) (f + 1) ((j : Int) + 1) = T := ⟨_, rfl⟩
    rw [hT] at HE hlen2 ⊢
    have hpl : pre.length + 1 ≤ 1099511627776 := by
      have h := congrArg List.length HE.out
      rw [List.length_append, List.length_append] at h
      simp only [List.length_cons, List.length_nil] at h
      omega
    have HK : Hid (∀ V : World, Below w.heap.size w V → _) := fun V hV => hangOf_at b off cap j ns w V hF hV hj (kids_small hR j hj)
    rw [hkd] at HK
    have HIH : Hid (∀ (y : Int) (acc : List Int) (V : World) (u : Value), y ∈ ks → acc.length + (belowF (hangD ns) f y).length ≤ 1099511627776 → VisitAt V b off cap ns.length 33 bl bh bf bv → Boxed V bl 26 u → V.ownsRow w.heap.size 3 1 u acc.length (acc.map (Value.int .i64)) → Below w.heap.size w V → _) := fun y acc V u hy hac hV2 hu hL2 hB2 => by
      have hyd := hR.deepHang.down _ y hx (by rw [hkd]; exact hy)
      refine ih y acc V u hyd.1 ?_ hac hV2 hu hL2 hB2
      rw [hR.deepHang.deep hx (by rw [hkd]; exact hy)]
      omega
    clear ih hF hf hl hT hkd hx
    have c1 := hv.cell
    have m1 : pre.length + 1 ≤ maxLen := Nat.le_trans hpl (by decide)
    have m2 : (pre.length + 1) * 8 ≤ 140737488355328 := by omega
    have m3 : w.heap.size ≤ (W.alloc (.cells #[.int .i64 ((j : Int) + 1)] 3)).heap.size := by have := hB.size; simp; omega
    unfold forestV at HK
    have HV := hid hV
    have HB := hid hB
    clear hV hB
    go_enter Tryz.func63, Tryz.ntmps63
    go_wp2_with (at_builtin; refine wpList_append_own_at _ rfl _ _ 26 rfl w.heap.size 3 i0 (.int .i64 0) 1 8 Tryz.underlying26 hi hz0 hz1 hz2 rfl (by decide) _ _ _ rfl (hrow.alloc _) ⟨W.heap.size, 0, none⟩ 1 1 [.int .i64 ((j : Int) + 1)] rfl rfl (cell_one_new _ _ _) (by simp [Value.oneCell']) m1 m2 m3 ?_; intro v' w1 hown' hgrow _ hat; obtain ⟨g', cap', rfl⟩ := ownsRow_succ hown'; have HKp := hid (KeptB.append (bl := bl) hgrow hat); obtain ⟨hv1, hv2, hr2, hk2, hb2⟩ := hv.appended (by decide) hrow HB.out.size lbl hown' hgrow; have hc1 := hv1.cell; have hf1 := hv1.frozen; have e1 := (boxed_beside HV.out.hang (B := bl) (v' := .slice (some ⟨g', 0, none⟩) (pre.length + 1) cap') (by decide) nh hrow hgrow).cell; have e2 := (boxed_beside HV.out.forest (B := bl) (v' := .slice (some ⟨g', 0, none⟩) (pre.length + 1) cap') (by decide) nf hrow hgrow).cell)
    have HV2 : Hid (VisitAt (w1.setCell ⟨bl, 0, none⟩ (.slice (some ⟨g', 0, none⟩) (pre.length + 1) cap')) b off cap ns.length 33 bl bh bf bv) := ⟨boxed_beside HV.out.hang (by decide) nh hrow hgrow, boxed_beside HV.out.forest (by decide) nf hrow hgrow, boxed_beside HV.out.visit (by decide) nv hrow hgrow⟩
    have HL2 : Hid (Boxed (w1.setCell ⟨bl, 0, none⟩ (.slice (some ⟨g', 0, none⟩) (pre.length + 1) cap')) bl 26 (.slice (some ⟨g', 0, none⟩) (pre.length + 1) cap') ∧ (w1.setCell ⟨bl, 0, none⟩ (.slice (some ⟨g', 0, none⟩) (pre.length + 1) cap')).ownsRow w.heap.size 3 1 (.slice (some ⟨g', 0, none⟩) (pre.length + 1) cap') (pre ++ [(j : Int) + 1]).length ((pre ++ [(j : Int) + 1]).map (Value.int .i64))) := ⟨hv2, by simpa using hr2⟩
    have HB2 := hid (HB.out.trans hb2)
    have hK := HK.out _ HB2.out
    clear HK HV HB hv hrow hgrow hown' hv1 hv2 hr2 hk2 hb2 hc1 hf1 e1 e2 c1 m1 m2 m3 hi hz0 hz1 hz2
    refine hK.mono ?_
    clear hK
    rintro e v3 ⟨vk, rfl, hrk, hb3⟩
    have HV3 := hid (HV2.out.later hb3)
    have HL3 : Hid (ListK v3 (.slice (some ⟨g', 0, none⟩) (pre.length + 1) cap') v3 w.heap.size bl (pre ++ [(j : Int) + 1])) := ⟨_, boxed_later HL2.out.1 hb3, ownsRow_later HL2.out.2 hb3, KeptB.refl _ _ _⟩
    have HKp3 : Hid (KeptB W v3 bl v (.slice (some ⟨g', 0, none⟩) (pre.length + 1) cap')) := HKp.out.trans (KeptB.of_below hb3 bl _)
    have HG := hid (hang_cells (bl := bl) (vA := (.slice (some ⟨g', 0, none⟩) (pre.length + 1) cap')) hrk HL2.out.1.lt (fun k e => (HL2.out.2.lt k e).2))
    have HB3 := hid (HB2.out.trans (hb3.mono HB2.out.size))
    clear HV2 HL2 HB2 hb3 HKp hrk
    obtain ⟨ok, ck, rfl, gk⟩ := HG.out
    clear HG
    go_wp2
    go_loopw [17] (fun t wr => ∃ (k : Nat) (acc : List Int), k ≤ ks.length ∧ t = .int .i64 k ∧ Hid (T = acc ++ (ks.drop k).flatMap (belowF (hangD ns) f)) ∧ Hid (VisitAt wr b off cap ns.length 33 bl bh bf bv) ∧ Hid (ListK v3 (.slice (some ⟨g', 0, none⟩) (pre.length + 1) cap') wr w.heap.size bl acc) ∧ Hid (Below w.heap.size w wr)) (fun t _ => ks.length - (RowKit.intOf t).toNat)
    case atStart => exact ⟨0, _, Nat.zero_le _, rfl, HE, HV3, HL3, HB3⟩
    case round =>
      obtain ⟨k, acc, hk, rfl, hE, hV, hL, hB⟩ := hrel
      clear HE HV3 HL3 HB3
      by_cases hlt : k < ks.length
      · obtain ⟨bk, offk, rfl, hak⟩ := gk (by omega)
        obtain ⟨u0, hu0, hr0, hk0⟩ := hL.out
        have x1 := hak wr u0 hB.out hk0 k hlt
        have cv := hV.out.visit.cell
        have q1 : (0 : Int) ≤ (k : Int) := by omega
        have q2 : (k : Int) < (ks.length : Int) := by omega
        have hE' := hE.out
        rw [List.drop_eq_getElem_cons hlt, List.flatMap_cons, ← List.append_assoc] at hE'
        have hln : acc.length + (belowF (hangD ns) f ks[k]).length ≤ 1099511627776 := by
          have h := congrArg List.length hE'
          rw [List.length_append, List.length_append] at h
          omega
        have hI := HIH.out ks[k] acc wr u0 (List.getElem_mem hlt) hln hV.out hu0 hr0 hB.out
        have HK0 := hid hk0
        have HE2 := hid hE'
        clear hE' hE hln HIH gk hak hV hL hB hu0 hr0 hk0
        generalize ks[k] = y at *
        go_wp2_with fail
        refine hI.mono ?_
        clear hI
        rintro e v4 ⟨⟨u, rfl⟩, hV4, hL4, hB4⟩
        have HV4 := hid hV4
        obtain ⟨u4, hu4, hr4, hk4⟩ := hL4
        have HL4 : Hid (ListK v3 (.slice (some ⟨g', 0, none⟩) (pre.length + 1) cap') v4 w.heap.size bl _) := ⟨u4, hu4, hr4, HK0.out.trans hk4⟩
        have HB4 := hid hB4
        clear hV4 hB4 cv x1 hu4 hr4 hk4
        go_wp2
        go_roundw
        case rel => exact ⟨k + 1, _, by omega, by go_num, HE2, HV4, HL4, HB4⟩
        case measure => simp [RowKit.intOf]; omega
      · have hT : T = acc := by
          have h := hE.out
          rw [List.drop_eq_nil_of_le (by omega), List.flatMap_nil, List.append_nil] at h
          exact h
        have HL5 : Hid (ListK v3 (.slice (some ⟨g', 0, none⟩) (pre.length + 1) cap') wr w.heap.size bl T) := by rw [hT]; exact hL
        clear hE hT hL HIH gk
        go_wp2
        go_end0
        obtain ⟨u5, hu5, hr5, hk5⟩ := HL5.out
        exact ⟨⟨_, rfl⟩, hV.out, ⟨u5, hu5, hr5, HKp3.out.trans hk5⟩, hB.out⟩
end Go.Proofs.YtfaeabjgplahgaaGreat

namespace Go.Proofs.YtfaeabjgplahgaaGreat
open Go.RowKit Go.Lib Go.Shelf

set_option maxRecDepth 100000 in
set_option maxHeartbeats 4000000 in
theorem listH_any (b off cap : Nat) (x : Int) (ns : List NodeD) (w : World) (hR : RightF ns) (hF : FAt w b off cap ns) (hx : thereB ns.length x = true) :
    Calls Tryz.prog 27 #[forestV b off cap ns.length, .int .i64 x, .func (.func 33) #[] #[]] w fun e w' => ∃ v, e = .returned v ∧ w'.ownsRow w.heap.size 3 1 v (deepD ns x).length ((deepD ns x).map (Value.int .i64)) ∧ Below w.heap.size w w' := by
  have hlen : (deepD ns x).length ≤ 1099511627776 := Nat.le_trans (deep_len hR hx) (by decide)
  have HV : Hid (∀ W : World, VisitAt W b off cap ns.length 33 (w.heap.size + 1 + 1) (w.heap.size + 1) w.heap.size (w.heap.size + 1 + 1 + 1) → Boxed W (w.heap.size + 1 + 1) 26 (.slice none 0 0) → W.ownsRow w.heap.size 3 1 (.slice none 0 0) 0 [] → Below w.heap.size w W → _) := fun W h1 h2 h2b h3 => visitH_any b off cap ns w hR hF (w.heap.size + 1 + 1) (w.heap.size + 1) w.heap.size (w.heap.size + 1 + 1 + 1) (by omega) (by omega) (by omega) (by omega) (ns.length + 1) x [] W (.slice none 0 0) hx (by omega) (by rw [List.length_nil, Nat.zero_add]; exact hlen) h1 h2 h2b h3
  clear hF hR hx hlen
  unfold forestV deepD at *
  rw [List.nil_append] at HV
  generalize belowF (hangD ns) (ns.length + 1) x = T at *
  have b0 := Boxed.new w 24 (.slice (some ⟨b, off, none⟩) ns.length cap)
  have b1 := Boxed.new (w.alloc (.cells #[.slice (some ⟨b, off, none⟩) ns.length cap] 24)) 53 (.func (.func 33) #[] #[])
  have b2 := Boxed.new ((w.alloc (.cells #[.slice (some ⟨b, off, none⟩) ns.length cap] 24)).alloc (.cells #[.func (.func 33) #[] #[]] 53)) 26 (.slice none 0 0)
  have b3 := Boxed.new (((w.alloc (.cells #[.slice (some ⟨b, off, none⟩) ns.length cap] 24)).alloc (.cells #[.func (.func 33) #[] #[]] 53)).alloc (.cells #[.slice none 0 0] 26)) 75 (.func (.func 63) #[] #[.pointer (some ⟨w.heap.size + 1 + 1, 0, none⟩), .pointer (some ⟨w.heap.size + 1, 0, none⟩), .pointer (some ⟨w.heap.size, 0, none⟩), .pointer (some ⟨w.heap.size + 1 + 1 + 1, 0, none⟩)])
  simp only [World.size_alloc] at b1 b2 b3
  have HA : Hid (VisitAt (((((w.alloc (.cells #[.slice (some ⟨b, off, none⟩) ns.length cap] 24)).alloc (.cells #[.func (.func 33) #[] #[]] 53)).alloc (.cells #[.slice none 0 0] 26)).alloc (.cells #[.func (.func 63) #[] #[.pointer (some ⟨w.heap.size + 1 + 1, 0, none⟩), .pointer (some ⟨w.heap.size + 1, 0, none⟩), .pointer (some ⟨w.heap.size, 0, none⟩), .pointer (some ⟨w.heap.size + 1 + 1 + 1, 0, none⟩)]] 75))) b off cap ns.length 33 (w.heap.size + 1 + 1) (w.heap.size + 1) w.heap.size (w.heap.size + 1 + 1 + 1)) :=
    ⟨(b1.alloc _).alloc _, ((b0.alloc _).alloc _).alloc _, b3⟩
  have HL : Hid (Boxed (((((w.alloc (.cells #[.slice (some ⟨b, off, none⟩) ns.length cap] 24)).alloc (.cells #[.func (.func 33) #[] #[]] 53)).alloc (.cells #[.slice none 0 0] 26)).alloc (.cells #[.func (.func 63) #[] #[.pointer (some ⟨w.heap.size + 1 + 1, 0, none⟩), .pointer (some ⟨w.heap.size + 1, 0, none⟩), .pointer (some ⟨w.heap.size, 0, none⟩), .pointer (some ⟨w.heap.size + 1 + 1 + 1, 0, none⟩)]] 75))) (w.heap.size + 1 + 1) 26 (.slice none 0 0)) :=
    b2.alloc _
  have HB : Hid (Below w.heap.size w (((((w.alloc (.cells #[.slice (some ⟨b, off, none⟩) ns.length cap] 24)).alloc (.cells #[.func (.func 33) #[] #[]] 53)).alloc (.cells #[.slice none 0 0] 26)).alloc (.cells #[.func (.func 63) #[] #[.pointer (some ⟨w.heap.size + 1 + 1, 0, none⟩), .pointer (some ⟨w.heap.size + 1, 0, none⟩), .pointer (some ⟨w.heap.size, 0, none⟩), .pointer (some ⟨w.heap.size + 1 + 1 + 1, 0, none⟩)]] 75)))) :=
    (((((Below.refl _ w).alloc (Nat.le_refl _) _).alloc (by simp) _).alloc (by simp; omega) _).alloc (by simp; omega) _)
  have hV := HV.out _ HA.out HL.out (World.ownsRow_nil _ _ _ _) HB.out
  clear HV HA HL HB b0 b1 b2 b3
  go_enter Tryz.func27, Tryz.ntmps27
  go_wp2_with fail
  refine hV.mono ?_
  clear hV
  rintro e v1 ⟨⟨u, rfl⟩, hA, ⟨v, hv, hrow, -⟩, hB⟩
  have c1 := hv.cell
  have HR := hid hrow
  have HB := hid hB
  clear hA hv hrow hB
  go_wp2
  exact bodyPost_ret (v := v) (by simp [results, Tryz.results27, go_sem]) rfl ⟨v, rfl, HR.out, HB.out⟩
end Go.Proofs.YtfaeabjgplahgaaGreat

namespace Go.Proofs.YtfaeabjgplahgaaGreat
open Go.RowKit Go.Lib Go.Shelf

set_option maxRecDepth 100000 in
set_option maxHeartbeats 2000000 in
theorem Deep1_any (b off cap u1 u2 : Nat) (x : Int) (ns : List NodeD) (w : World) (hR : RightF ns) (hF : FAt w b off cap ns) (hx : thereB ns.length x = true)
    (c1 : w.cell? ⟨u1, 0, none⟩ = some (.slice (some ⟨b, off, none⟩) ns.length cap)) (c2 : w.cell? ⟨u2, 0, none⟩ = some (.int .i64 x)) :
    Calls Tryz.prog 32 #[.pointer (some ⟨u1, 0, none⟩), .pointer (some ⟨u2, 0, none⟩)] w fun e w' => ∃ v, e = .returned v ∧ w'.ownsRow w.heap.size 3 1 v (deepD ns x).length ((deepD ns x).map (Value.int .i64)) ∧ Below w.heap.size w w' := by
  have hP := listH_any b off cap x ns w hR hF hx
  unfold forestV at hP
  generalize deepD ns x = P at *
  go_enter Tryz.func32, Tryz.ntmps32
  go_wp2_with fail
  refine hP.mono ?_
  rintro e v1 ⟨v, rfl, hrow, hb1⟩
  have HRow := hid hrow
  have HB := hid hb1
  clear hP hb1 hrow
  go_wp2
  exact bodyPost_ret (v := v) (by simp [results, Tryz.results32, go_sem]) rfl ⟨v, rfl, HRow.out, HB.out⟩

set_option maxRecDepth 100000 in
set_option maxHeartbeats 4000000 in
theorem Deep_any (o : Option Addr) (cap : Nat) (x : Int) (ns : List NodeD) (w : World) (hF : FRd w o cap ns) (hkl : ∀ (i : Nat) (hi : i < ns.length), ns[i].kids.length ≤ 1099511627776) (hal : ∀ (i : Nat) (hi : i < ns.length), ns[i].attrs.length ≤ 1099511627776) :
    Calls Tryz.prog 9 #[.agg #[.slice o ns.length cap], .int .i64 x] w fun e w' => ∃ v, e = .returned (.tuple #[v, .int .i64 (toldE ns [x])]) ∧ w'.ownsRow w.heap.size 3 1 v (if toldE ns [x] = 0 then deepD ns x else []).length ((if toldE ns [x] = 0 then deepD ns x else []).map (Value.int .i64)) ∧ Below w.heap.size w w' := by
  have hB3 : Below w.heap.size w (((w.alloc (.cells #[.slice o ns.length cap] 24)).alloc (.cells #[.int .i64 x] 3)).alloc (.cells #[.int .i64 x] 3)) := (((Below.refl _ w).alloc (Nat.le_refl _) _).alloc (by simp) _).alloc (by simp; omega) _
  have k0 := new_cell_l w (.slice o ns.length cap) 24
  have k1 := new_cell_l (w.alloc (.cells #[.slice o ns.length cap] 24)) (.int .i64 x) 3
  have kr := one_rdI ((w.alloc (.cells #[.slice o ns.length cap] 24)).alloc (.cells #[.int .i64 x] 3)) x 3
  simp only [World.size_alloc] at k1 kr
  have c0 := keep_cell_l (.cells #[.int .i64 x] 3) (keep_cell_l (.cells #[.int .i64 x] 3) k0.1)
  have c1 := keep_cell_l (.cells #[.int .i64 x] 3) k1.1
  have s0 : w.heap.size < (((w.alloc (.cells #[.slice o ns.length cap] 24)).alloc (.cells #[.int .i64 x] 3)).alloc (.cells #[.int .i64 x] 3)).heap.size := by simp only [World.size_alloc]; omega
  have hT := toldDeep_any o cap w.heap.size (w.heap.size + 1) (deepD ns x) (.slice (some ⟨w.heap.size + 1 + 1, 0, none⟩) 1 1) [x] ns (((w.alloc (.cells #[.slice o ns.length cap] 24)).alloc (.cells #[.int .i64 x] 3)).alloc (.cells #[.int .i64 x] 3)) (hF.later hB3) hkl hal kr (by simp) (fun hE W hW => by
    obtain ⟨hR, hth⟩ := toldE_zero hE
    have hx := hth x (by simp)
    obtain ⟨i, hi, _⟩ := there_idx hx
    obtain ⟨b, off, rfl, hFA⟩ := hF.at_ (by omega)
    have hBW := hB3.trans (hW.mono hB3.size)
    have h1 := Deep1_any b off cap w.heap.size (w.heap.size + 1) x ns W hR (hFA.later hBW) hx
      ((hW.cell (p := ⟨w.heap.size, 0, none⟩) s0).trans c0)
      ((hW.cell (p := ⟨w.heap.size + 1, 0, none⟩) (by show w.heap.size + 1 < _; simp only [World.size_alloc]; omega)).trans c1)
    refine h1.mono ?_
    rintro e w' ⟨v, rfl, hr, hb⟩
    exact ⟨v, rfl, ownsRow_base hr hW.size, hb⟩)
  generalize (if toldE ns [x] = 0 then deepD ns x else []) = A at *
  generalize toldE ns [x] = E at *
  have HB3 := hid hB3
  clear k0 k1 kr c0 c1 s0 hF hkl hal hB3
  go_enter Tryz.func9, Tryz.ntmps9
  go_wp2_with fail
  refine hT.mono ?_
  rintro e v1 ⟨v, rfl, hrow, hb1⟩
  have HRow := hid (ownsRow_base hrow HB3.out.size)
  have HB := hid (HB3.out.trans (hb1.mono HB3.out.size))
  clear hT hb1 HB3 hrow
  go_wp2
  go_ret2
  exact ⟨_, rfl, HRow.out, HB.out⟩
end Go.Proofs.YtfaeabjgplahgaaGreat
