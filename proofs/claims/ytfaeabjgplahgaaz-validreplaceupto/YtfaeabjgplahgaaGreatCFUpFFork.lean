/- Going up by a function of the program's own: node, parentOf, overOf; the iterator upBy. -/
/- Whether a node is among those that an iterator gives (has, contains); the last one (lastOf, rootOf, topOf). -/
/- What an iterator gives, collected (slices.Collect); the path to a node (pathOf). -/
/- How long two paths run together (fork); where a kid stands (indexOf); cmp.Compare. -/
import Derived.Test.YtfaeabjgplahgaaGreatFSurW
import Derived.Test.YtfaeabjgplahgaaGreatFOrd2
import Derived.RangeFuncNested
import Derived.RangeFuncBound
import Derived.RangeFuncCalls
import Derived.RangeFuncLeaves
import Derived.Shelf.Abstract
import Derived.Shelf.RegionOpen
import Derived.OwnWalkIn
import Derived.TacticsInMore
import Derived.LoopNIn
import Derived.LoopIn
import Derived.Test.YtfaeabjgplahgaaGreatShelf
import Derived.Maps.AppendAt
import Derived.RangeFuncBox
import Derived.Deep.Upon
import Derived.Deep.MidRow
import Derived.Deep.QuietTactic
import Derived.BigQuiet
namespace Go.Proofs.YtfaeabjgplahgaaGreat
open Go.RowKit Go.Lib Go.Shelf
attribute [local go_sem] Oper.semAt_some

theorem grown_of_below {w w' : World} (h : Below w.heap.size w w') : w.grownBy w' none := ⟨h.os, h.tape, h.output, h.size, fun k hk _ => h.block k hk⟩

set_option maxHeartbeats 1000000 in
theorem onode_any (b off cap n i : Nat) (w : World) (hi : i < n) (hn : n ≤ 1099511627776) :
    Calls Tryz.prog 64 #[forestV b off cap n, .int .i64 ((i : Int) + 1)] w fun e w' => e = .returned (.pointer (some ⟨b, off + i * 16, none⟩)) ∧ Below w.heap.size w w' := by
  unfold forestV
  have h1 : (0 : Int) ≤ (i : Int) := by omega
  have h2 : (i : Int) < (n : Int) := by omega
  go_enter Tryz.func64, Tryz.ntmps64
  go_wp2
  go_ret
  exact ⟨rfl, (Below.refl _ w).alloc (Nat.le_refl _) _⟩

set_option maxRecDepth 100000 in
set_option maxHeartbeats 2000000 in
theorem parentOf_any (b off cap i : Nat) (ns : List NodeD) (w : World) (h : FAt w b off cap ns) (hi : i < ns.length) :
    Calls Tryz.prog 67 #[forestV b off cap ns.length, .int .i64 ((i : Int) + 1)] w fun e w' => e = .returned (.int .i64 ns[i].parent) ∧ Below w.heap.size w w' := by
  have HN : Hid (∀ W : World, _) := fun W => onode_any b off cap ns.length i W hi h.len
  obtain ⟨L, hc, _⟩ := h.at_ i hi
  have Hc := hid hc
  have hlt := h.lt
  have hle := h.len
  clear h hc
  unfold forestV at *
  generalize ns[i] = x at *
  go_enter Tryz.func67, Tryz.ntmps67
  go_wp2_with fail
  refine (HN.out _).mono ?_
  rintro e v1 ⟨rfl, hb1⟩
  have c0 := (Hc.out.later hlt (box_go hb1)).parent
  go_wp2
  go_ret
  exact ⟨rfl, box_go hb1⟩

set_option maxRecDepth 100000 in
set_option maxHeartbeats 2000000 in
theorem overOf_any (b off cap i : Nat) (ns : List NodeD) (w : World) (h : FAt w b off cap ns) (hi : i < ns.length) :
    Calls Tryz.prog 96 #[forestV b off cap ns.length, .int .i64 ((i : Int) + 1)] w fun e w' => e = .returned (.int .i64 (if ns[i].host == 0 then ns[i].parent else ns[i].host)) ∧ Below w.heap.size w w' := by
  have HN : Hid (∀ W : World, _) := fun W => onode_any b off cap ns.length i W hi h.len
  have HP : Hid (∀ W : World, FAt W b off cap ns → _) := fun W hW => parentOf_any b off cap i ns W hW hi
  have HF := hid h
  obtain ⟨L, hc, _⟩ := h.at_ i hi
  have Hc := hid hc
  have hlt := h.lt
  have hle := h.len
  clear h hc
  unfold forestV at *
  generalize ns[i] = x at *
  obtain ⟨y, hy⟩ : ∃ y, x.host = y := ⟨_, rfl⟩
  cases hz : (y == 0) with
  | true =>
    have hzn : (y != 0) = false := by rw [bne, hz]; rfl
    rw [hy, hz, if_pos rfl]
    go_enter Tryz.func96, Tryz.ntmps96
    go_wp2_with fail
    refine (HN.out _).mono ?_
    rintro e v1 ⟨rfl, hb1⟩
    have c0 := (Hc.out.later hlt (box_go hb1)).host
    rw [hy] at c0
    have cb := box_forest hb1
    have hP := HP.out v1 (HF.out.later (box_go hb1))
    go_wp2_with fail
    refine hP.mono ?_
    rintro e v2 ⟨rfl, hb2⟩
    go_wp2
    go_ret
    exact ⟨rfl, (box_go hb1).trans (hb2.mono (box_go hb1).size)⟩
  | false =>
    have hzn : (y != 0) = true := by rw [bne, hz]; rfl
    rw [hy, hz, if_neg Bool.false_ne_true]
    go_enter Tryz.func96, Tryz.ntmps96
    go_wp2_with fail
    refine (HN.out _).mono ?_
    rintro e v1 ⟨rfl, hb1⟩
    have c0 := (Hc.out.later hlt (box_go hb1)).host
    rw [hy] at c0
    go_wp2
    go_ret
    exact ⟨rfl, box_go hb1⟩

set_option maxHeartbeats 1000000 in
theorem upBy_any (b off cap n : Nat) (x : Int) (k : Nat) (w : World) :
    Calls Tryz.prog 66 #[forestV b off cap n, .int .i64 x, .func (.func k) #[] #[]] w fun e w' => e = .returned (.func (.func 99) #[] #[.pointer (some ⟨w.heap.size + 1, 0, none⟩), .pointer (some ⟨w.heap.size + 1 + 1, 0, none⟩), .pointer (some ⟨w.heap.size, 0, none⟩)]) ∧ w' = ((w.alloc (.cells #[.slice (some ⟨b, off, none⟩) n cap] 24)).alloc (.cells #[.int .i64 x] 3)).alloc (.cells #[.func (.func k) #[] #[]] 61) := by
  unfold forestV
  go_enter Tryz.func66, Tryz.ntmps66
  go_wp2
  go_ret
  exact ⟨rfl, rfl⟩

theorem parentOf_D (b off cap i : Nat) (ns : List NodeD) (w : World) (h : FAt w b off cap ns) (hi : i < ns.length) :
    Calls Tryz.prog 67 #[forestV b off cap ns.length, .int .i64 ((i : Int) + 1)] w fun e w' => e = .returned (.int .i64 (parentD ns ((i : Int) + 1))) ∧ Below w.heap.size w w' := by
  rw [parentD_at ns i hi]
  exact parentOf_any b off cap i ns w h hi
theorem overOf_D (b off cap i : Nat) (ns : List NodeD) (w : World) (h : FAt w b off cap ns) (hi : i < ns.length) :
    Calls Tryz.prog 96 #[forestV b off cap ns.length, .int .i64 ((i : Int) + 1)] w fun e w' => e = .returned (.int .i64 (overD ns ((i : Int) + 1))) ∧ Below w.heap.size w w' := by
  rw [overD_at ns i hi]
  exact overOf_any b off cap i ns w h hi

set_option maxRecDepth 100000 in
set_option maxHeartbeats 4000000 in
/-- The iterator: a node, what is over it, and so on, as long as a round says 'on'. -/
theorem up1P_in (n l bh bo bf n₀ b off cap : Nat) (hn : 1 ≤ n) (x : Int) (ns : List NodeD) (J Jx : List Int → World → Prop) (W : World) (hR : RightF ns) (hn₀ : n₀ ≤ W.heap.size) (hbo : bo < n₀) (hbf : bf < n₀)
    (hFn : ∀ W', Below n₀ W W' → FAt W' b off cap ns)
    (ch : W.cell? ⟨bh, 0, none⟩ = some (.int .i64 x)) (co : W.cell? ⟨bo, 0, none⟩ = some (.func (.func 67) #[] #[])) (cf : W.cell? ⟨bf, 0, none⟩ = some (.slice (some ⟨b, off, none⟩) ns.length cap)) (hx : x = 0 ∨ thereB ns.length x = true)
    (hJ : AbidesFrom W.heap.size J)
    (hY : ∀ pre z W1, thereB ns.length z = true → J pre W1 → pre.length < (pathUp ns (parentD ns) x).length → YieldAt Fence.wide (n - 1) Tryz.prog l #[.int .i64 z] W1 fun e W' =>
      (e = .returned (.bool true) ∧ J (pre ++ [z]) W' ∧ Below n₀ W1 W') ∨ (e = .returned (.bool false) ∧ Jx (pre ++ [z]) W'))
    (h0 : J [] W) :
    CallsIn Fence.wide n Tryz.prog 99 #[.func (.yield l) #[] #[], .pointer (some ⟨bh, 0, none⟩), .pointer (some ⟨bo, 0, none⟩), .pointer (some ⟨bf, 0, none⟩)] W fun e W' => (∃ v, e = .returned v) ∧
      ((∃ ys, ys = pathUp ns (parentD ns) x ∧ J ys W') ∨ (∃ pre, pre <+: pathUp ns (parentD ns) x ∧ Jx pre W')) := by
  refine callsIn_of_wp Tryz.func99 rfl trivial ?_ rfl
  simp only [Tryz.ntmps99, List.size_toArray, List.length_cons, List.length_nil, Nat.reduceAdd, Nat.reduceSub, Array.replicate_succ, Array.replicate_zero, List.push_toArray, List.append_toArray, List.nil_append, List.cons_append]
  have Hco := hid co
  have Hcf := hid cf
  have HP : Hid (∀ (j : Nat) (hj : j < ns.length) (V : World), FAt V b off cap ns → _) := fun j hj V hV => parentOf_D b off cap j ns V hV hj
  have HFn := hid hFn
  have HJ := hid hJ
  have HR := hid hR
  have HU := hid hR.parentOK
  unfold forestV at HP
  clear co cf hFn hJ hR
  obtain ⟨xs, hxs⟩ : ∃ xs, pathUp ns (parentD ns) x = xs := ⟨_, rfl⟩
  rw [hxs]
  rw [hxs] at hY
  have Hxs := hid hxs
  clear hxs
  gi_wp2
  gi_loopw [5] (fun t wr => ∃ (pre : List Int) (y : Int), t = .int .i64 y ∧ Hid (xs = pre ++ pathUp ns (parentD ns) y) ∧ (y = 0 ∨ thereB ns.length y = true) ∧ Hid (Below n₀ W wr) ∧ Hid (J pre wr)) (fun t _ => (pathUp ns (parentD ns) (RowKit.intOf t)).length)
  case atStart => exact ⟨[], x, rfl, Hxs.out.symm, hx, Below.refl _ _, h0⟩
  case round =>
    obtain ⟨pre, y, rfl, hp, hy0, hB, hJs⟩ := hrel
    clear ch hx h0
    by_cases hz : y = 0
    · subst hz
      have Hpre : Hid (xs = pre) := by
        have := hp.out
        rw [pathUp_zero, List.append_nil] at this
        exact this
      clear hp
      gi_wp2
      refine ⟨fun _ h => (by cases h), ?_⟩
      gi_wp2
      go_end0
      exact ⟨⟨_, rfl⟩, .inl ⟨pre, Hpre.out.symm, hJs.out⟩⟩
    · obtain ⟨j, hj, rfl⟩ := there_idx (hy0.resolve_left hz)
      have Hcons := hid (pathUp_cons ns (parentD ns) HU.out HR.out.ends j hj)
      obtain ⟨fn, tmps, assign, body, hy, hRd⟩ := hY pre ((j : Int) + 1) wr (thereB_idx _ _ hj) hJs.out (by rw [hp.out, Hcons.out]; simp)
      have hnz : (((j : Int) + 1) != 0) = true := by
        rw [bne, beq_eq_false_iff_ne.2 hz]
        rfl
      gi_wp2
      refine hRd.mono ?_
      rintro e W3 (⟨rfl, hJ3, hk3⟩ | ⟨rfl, hJx3⟩)
      · have hB3 := hB.out.trans hk3
        have c1 := (hB3.cell (p := ⟨bo, 0, none⟩) hbo).trans Hco.out
        have c2 := (hB3.cell (p := ⟨bf, 0, none⟩) hbf).trans Hcf.out
        have hP := HP.out j hj W3 (HFn.out W3 hB3)
        have HB3 := hid hB3
        clear hB3
        gi_wp2
        refine ⟨trivial, (callsIn_wide.2 hP).mono ?_⟩
        rintro e W4 ⟨rfl, hb4⟩
        have HJ4 := hid (HJ.out _ _ _ none hJ3 (grown_of_below hb4) (fun r e => by cases e))
        have HB4 := hid (HB3.out.trans (hb4.mono (Nat.le_trans hn₀ HB3.out.size)))
        have Hth : Hid (parentD ns ((j : Int) + 1) = 0 ∨ thereB ns.length (parentD ns ((j : Int) + 1)) = true) := by
          rcases HU.out j hj with a | a
          · exact .inl a
          · exact .inr a.2
        have Hp2 : Hid (xs = (pre ++ [(j : Int) + 1]) ++ pathUp ns (parentD ns) (parentD ns ((j : Int) + 1))) := by
          show xs = _
          rw [hp.out, Hcons.out, List.append_assoc]
          rfl
        have Hme : Hid ((pathUp ns (parentD ns) (parentD ns ((j : Int) + 1))).length < (pathUp ns (parentD ns) ((j : Int) + 1)).length) := by
          show _ < _
          rw [Hcons.out]
          exact Nat.lt_succ_self _
        clear hP hb4 hJ3 hk3 c1 c2 hy hRd hp Hcons
        gi_wp2
        go_roundw
        case rel => exact ⟨pre ++ [(j : Int) + 1], _, rfl, Hp2, Hth.out, HB4, HJ4⟩
        case measure => exact Hme.out
      · gi_wp2
        go_end0
        exact ⟨⟨_, rfl⟩, .inr ⟨pre ++ [(j : Int) + 1], ⟨pathUp ns (parentD ns) (parentD ns ((j : Int) + 1)), by rw [hp.out, Hcons.out]; simp⟩, hJx3⟩⟩

/-- What upBy hands back, ranged over. -/
theorem upP_stops (n bh bo bf n₀ b off cap : Nat) (hn : 1 ≤ n) (x : Int) (ns : List NodeD) (wb w : World) (hR : RightF ns) (hF : FAt wb b off cap ns) (hwb : wb.heap.size ≤ n₀) (hB : Below wb.heap.size wb w) (hn₀ : n₀ ≤ w.heap.size) (hbh : bh < n₀) (hbo : bo < n₀) (hbf : bf < n₀)
    (ch : w.cell? ⟨bh, 0, none⟩ = some (.int .i64 x)) (co : w.cell? ⟨bo, 0, none⟩ = some (.func (.func 67) #[] #[])) (cf : w.cell? ⟨bf, 0, none⟩ = some (.slice (some ⟨b, off, none⟩) ns.length cap)) (hx : x = 0 ∨ thereB ns.length x = true) :
    SeqStopsK Fence.wide n Tryz.prog 99 #[.pointer (some ⟨bh, 0, none⟩), .pointer (some ⟨bo, 0, none⟩), .pointer (some ⟨bf, 0, none⟩)] (fun z : Int => #[Value.int .i64 z]) (Below n₀) (fun ys => ys = pathUp ns (parentD ns) x) (fun pre => pre <+: pathUp ns (parentD ns) x) (pathUp ns (parentD ns) x).length w := fun l J Jx W hW hJ _ hY h0 =>
  up1P_in n l bh bo bf n₀ b off cap hn x ns J Jx W hR (Nat.le_trans hn₀ hW.size) hbo hbf
    (fun _ hW' => hF.later (hB.trans ((hW.mono hB.size).trans (hW'.mono hwb))))
    ((hW.cell (p := ⟨bh, 0, none⟩) (Nat.lt_of_lt_of_le hbh hn₀)).trans ch) ((hW.cell (p := ⟨bo, 0, none⟩) (Nat.lt_of_lt_of_le hbo hn₀)).trans co) ((hW.cell (p := ⟨bf, 0, none⟩) (Nat.lt_of_lt_of_le hbf hn₀)).trans cf) hx hJ (fun pre z W1 _ => hY pre z W1) h0
set_option maxRecDepth 100000 in
set_option maxHeartbeats 4000000 in
/-- The iterator: a node, what is over it, and so on, as long as a round says 'on'. -/
theorem up1O_in (n l bh bo bf n₀ b off cap : Nat) (hn : 1 ≤ n) (x : Int) (ns : List NodeD) (J Jx : List Int → World → Prop) (W : World) (hR : RightF ns) (hn₀ : n₀ ≤ W.heap.size) (hbo : bo < n₀) (hbf : bf < n₀)
    (hFn : ∀ W', Below n₀ W W' → FAt W' b off cap ns)
    (ch : W.cell? ⟨bh, 0, none⟩ = some (.int .i64 x)) (co : W.cell? ⟨bo, 0, none⟩ = some (.func (.func 96) #[] #[])) (cf : W.cell? ⟨bf, 0, none⟩ = some (.slice (some ⟨b, off, none⟩) ns.length cap)) (hx : x = 0 ∨ thereB ns.length x = true)
    (hJ : AbidesFrom W.heap.size J)
    (hY : ∀ pre z W1, thereB ns.length z = true → J pre W1 → pre.length < (pathUp ns (overD ns) x).length → YieldAt Fence.wide (n - 1) Tryz.prog l #[.int .i64 z] W1 fun e W' =>
      (e = .returned (.bool true) ∧ J (pre ++ [z]) W' ∧ Below n₀ W1 W') ∨ (e = .returned (.bool false) ∧ Jx (pre ++ [z]) W'))
    (h0 : J [] W) :
    CallsIn Fence.wide n Tryz.prog 99 #[.func (.yield l) #[] #[], .pointer (some ⟨bh, 0, none⟩), .pointer (some ⟨bo, 0, none⟩), .pointer (some ⟨bf, 0, none⟩)] W fun e W' => (∃ v, e = .returned v) ∧
      ((∃ ys, ys = pathUp ns (overD ns) x ∧ J ys W') ∨ (∃ pre, pre <+: pathUp ns (overD ns) x ∧ Jx pre W')) := by
  refine callsIn_of_wp Tryz.func99 rfl trivial ?_ rfl
  simp only [Tryz.ntmps99, List.size_toArray, List.length_cons, List.length_nil, Nat.reduceAdd, Nat.reduceSub, Array.replicate_succ, Array.replicate_zero, List.push_toArray, List.append_toArray, List.nil_append, List.cons_append]
  have Hco := hid co
  have Hcf := hid cf
  have HP : Hid (∀ (j : Nat) (hj : j < ns.length) (V : World), FAt V b off cap ns → _) := fun j hj V hV => overOf_D b off cap j ns V hV hj
  have HFn := hid hFn
  have HJ := hid hJ
  have HR := hid hR
  have HU := hid hR.overOK
  unfold forestV at HP
  clear co cf hFn hJ hR
  obtain ⟨xs, hxs⟩ : ∃ xs, pathUp ns (overD ns) x = xs := ⟨_, rfl⟩
  rw [hxs]
  rw [hxs] at hY
  have Hxs := hid hxs
  clear hxs
  gi_wp2
  gi_loopw [5] (fun t wr => ∃ (pre : List Int) (y : Int), t = .int .i64 y ∧ Hid (xs = pre ++ pathUp ns (overD ns) y) ∧ (y = 0 ∨ thereB ns.length y = true) ∧ Hid (Below n₀ W wr) ∧ Hid (J pre wr)) (fun t _ => (pathUp ns (overD ns) (RowKit.intOf t)).length)
  case atStart => exact ⟨[], x, rfl, Hxs.out.symm, hx, Below.refl _ _, h0⟩
  case round =>
    obtain ⟨pre, y, rfl, hp, hy0, hB, hJs⟩ := hrel
    clear ch hx h0
    by_cases hz : y = 0
    · subst hz
      have Hpre : Hid (xs = pre) := by
        have := hp.out
        rw [pathUp_zero, List.append_nil] at this
        exact this
      clear hp
      gi_wp2
      refine ⟨fun _ h => (by cases h), ?_⟩
      gi_wp2
      go_end0
      exact ⟨⟨_, rfl⟩, .inl ⟨pre, Hpre.out.symm, hJs.out⟩⟩
    · obtain ⟨j, hj, rfl⟩ := there_idx (hy0.resolve_left hz)
      have Hcons := hid (pathUp_cons ns (overD ns) HU.out HR.out.ends j hj)
      obtain ⟨fn, tmps, assign, body, hy, hRd⟩ := hY pre ((j : Int) + 1) wr (thereB_idx _ _ hj) hJs.out (by rw [hp.out, Hcons.out]; simp)
      have hnz : (((j : Int) + 1) != 0) = true := by
        rw [bne, beq_eq_false_iff_ne.2 hz]
        rfl
      gi_wp2
      refine hRd.mono ?_
      rintro e W3 (⟨rfl, hJ3, hk3⟩ | ⟨rfl, hJx3⟩)
      · have hB3 := hB.out.trans hk3
        have c1 := (hB3.cell (p := ⟨bo, 0, none⟩) hbo).trans Hco.out
        have c2 := (hB3.cell (p := ⟨bf, 0, none⟩) hbf).trans Hcf.out
        have hP := HP.out j hj W3 (HFn.out W3 hB3)
        have HB3 := hid hB3
        clear hB3
        gi_wp2
        refine ⟨trivial, (callsIn_wide.2 hP).mono ?_⟩
        rintro e W4 ⟨rfl, hb4⟩
        have HJ4 := hid (HJ.out _ _ _ none hJ3 (grown_of_below hb4) (fun r e => by cases e))
        have HB4 := hid (HB3.out.trans (hb4.mono (Nat.le_trans hn₀ HB3.out.size)))
        have Hth : Hid (overD ns ((j : Int) + 1) = 0 ∨ thereB ns.length (overD ns ((j : Int) + 1)) = true) := by
          rcases HU.out j hj with a | a
          · exact .inl a
          · exact .inr a.2
        have Hp2 : Hid (xs = (pre ++ [(j : Int) + 1]) ++ pathUp ns (overD ns) (overD ns ((j : Int) + 1))) := by
          show xs = _
          rw [hp.out, Hcons.out, List.append_assoc]
          rfl
        have Hme : Hid ((pathUp ns (overD ns) (overD ns ((j : Int) + 1))).length < (pathUp ns (overD ns) ((j : Int) + 1)).length) := by
          show _ < _
          rw [Hcons.out]
          exact Nat.lt_succ_self _
        clear hP hb4 hJ3 hk3 c1 c2 hy hRd hp Hcons
        gi_wp2
        go_roundw
        case rel => exact ⟨pre ++ [(j : Int) + 1], _, rfl, Hp2, Hth.out, HB4, HJ4⟩
        case measure => exact Hme.out
      · gi_wp2
        go_end0
        exact ⟨⟨_, rfl⟩, .inr ⟨pre ++ [(j : Int) + 1], ⟨pathUp ns (overD ns) (overD ns ((j : Int) + 1)), by rw [hp.out, Hcons.out]; simp⟩, hJx3⟩⟩

/-- What upBy hands back, ranged over. -/
theorem upO_stops (n bh bo bf n₀ b off cap : Nat) (hn : 1 ≤ n) (x : Int) (ns : List NodeD) (wb w : World) (hR : RightF ns) (hF : FAt wb b off cap ns) (hwb : wb.heap.size ≤ n₀) (hB : Below wb.heap.size wb w) (hn₀ : n₀ ≤ w.heap.size) (hbh : bh < n₀) (hbo : bo < n₀) (hbf : bf < n₀)
    (ch : w.cell? ⟨bh, 0, none⟩ = some (.int .i64 x)) (co : w.cell? ⟨bo, 0, none⟩ = some (.func (.func 96) #[] #[])) (cf : w.cell? ⟨bf, 0, none⟩ = some (.slice (some ⟨b, off, none⟩) ns.length cap)) (hx : x = 0 ∨ thereB ns.length x = true) :
    SeqStopsK Fence.wide n Tryz.prog 99 #[.pointer (some ⟨bh, 0, none⟩), .pointer (some ⟨bo, 0, none⟩), .pointer (some ⟨bf, 0, none⟩)] (fun z : Int => #[Value.int .i64 z]) (Below n₀) (fun ys => ys = pathUp ns (overD ns) x) (fun pre => pre <+: pathUp ns (overD ns) x) (pathUp ns (overD ns) x).length w := fun l J Jx W hW hJ _ hY h0 =>
  up1O_in n l bh bo bf n₀ b off cap hn x ns J Jx W hR (Nat.le_trans hn₀ hW.size) hbo hbf
    (fun _ hW' => hF.later (hB.trans ((hW.mono hB.size).trans (hW'.mono hwb))))
    ((hW.cell (p := ⟨bh, 0, none⟩) (Nat.lt_of_lt_of_le hbh hn₀)).trans ch) ((hW.cell (p := ⟨bo, 0, none⟩) (Nat.lt_of_lt_of_le hbo hn₀)).trans co) ((hW.cell (p := ⟨bf, 0, none⟩) (Nat.lt_of_lt_of_le hbf hn₀)).trans cf) hx hJ (fun pre z W1 _ => hY pre z W1) h0
end Go.Proofs.YtfaeabjgplahgaaGreat

namespace Go.Proofs.YtfaeabjgplahgaaGreat
open Go.RowKit Go.Lib Go.Shelf
attribute [local go_sem] Oper.semAt_some

theorem box_cell_l {W : World} {B : Nat} {v : Value} {t : TypeId} (h : W.heap[B]? = some (.cells #[v] t (0, 0))) : W.cell? ⟨B, 0, none⟩ = some v ∧ W.frozen? ⟨B, 0, none⟩ = false := by
  constructor <;> simp [World.cell?, World.frozen?, h]
theorem new_cell_l (W : World) (v : Value) (t : TypeId) : (W.alloc (.cells #[v] t)).cell? ⟨W.heap.size, 0, none⟩ = some v ∧ (W.alloc (.cells #[v] t)).frozen? ⟨W.heap.size, 0, none⟩ = false := box_cell_l (heap_new W _)
theorem keep_cell_l {W : World} {a : Addr} {v : Value} (o : Obj) (h : W.cell? a = some v) : (W.alloc o).cell? a = some v := cell_kept h (World.grownBy_alloc W o none) (fun r e => by cases e)
theorem keep_free_l {W : World} {a : Addr} {v : Value} (o : Obj) (h : W.cell? a = some v) (hf : W.frozen? a = false) : (W.alloc o).frozen? a = false := (frozen_kept h (World.grownBy_alloc W o none) (fun r e => by cases e)).trans hf
/-- What upBy has made lies in three boxes. -/
structure UpAt (w : World) (b off cap n k bh bo bf : Nat) (x : Int) : Prop where
  ch : w.cell? ⟨bh, 0, none⟩ = some (.int .i64 x)
  co : w.cell? ⟨bo, 0, none⟩ = some (.func (.func k) #[] #[])
  cf : w.cell? ⟨bf, 0, none⟩ = some (.slice (some ⟨b, off, none⟩) n cap)
  lh : bh < w.heap.size
  lo : bo < w.heap.size
  lf : bf < w.heap.size
theorem UpAt.later {w W : World} {b off cap n k bh bo bf : Nat} {x : Int} (h : UpAt w b off cap n k bh bo bf x) (hb : Below w.heap.size w W) : UpAt W b off cap n k bh bo bf x :=
  ⟨(hb.cell (p := ⟨bh, 0, none⟩) h.lh).trans h.ch, (hb.cell (p := ⟨bo, 0, none⟩) h.lo).trans h.co, (hb.cell (p := ⟨bf, 0, none⟩) h.lf).trans h.cf, Nat.lt_of_lt_of_le h.lh hb.size, Nat.lt_of_lt_of_le h.lo hb.size, Nat.lt_of_lt_of_le h.lf hb.size⟩
def upV (bh bo bf : Nat) : Value := .func (.func 99) #[] #[.pointer (some ⟨bh, 0, none⟩), .pointer (some ⟨bo, 0, none⟩), .pointer (some ⟨bf, 0, none⟩)]

/-- What upBy has just made. -/
theorem upAt_new (b off cap n k : Nat) (x : Int) (W : World) :
    UpAt (((W.alloc (.cells #[.slice (some ⟨b, off, none⟩) n cap] 24)).alloc (.cells #[.int .i64 x] 3)).alloc (.cells #[.func (.func k) #[] #[]] 61)) b off cap n k (W.heap.size + 1) (W.heap.size + 1 + 1) W.heap.size x := by
  have c0 := new_cell_l W (.slice (some ⟨b, off, none⟩) n cap) 24
  have c1 := new_cell_l (W.alloc (.cells #[.slice (some ⟨b, off, none⟩) n cap] 24)) (.int .i64 x) 3
  have c2 := new_cell_l ((W.alloc (.cells #[.slice (some ⟨b, off, none⟩) n cap] 24)).alloc (.cells #[.int .i64 x] 3)) (.func (.func k) #[] #[]) 61
  simp only [World.size_alloc] at c1 c2
  exact ⟨keep_cell_l _ c1.1, c2.1, keep_cell_l _ (keep_cell_l _ c0.1), by simp only [World.size_alloc]; omega, by simp only [World.size_alloc]; omega, by simp only [World.size_alloc]; omega⟩
theorem up_below (b off cap n k : Nat) (x : Int) (W : World) :
    Below W.heap.size W (((W.alloc (.cells #[.slice (some ⟨b, off, none⟩) n cap] 24)).alloc (.cells #[.int .i64 x] 3)).alloc (.cells #[.func (.func k) #[] #[]] 61)) :=
  (((Below.refl _ W).alloc (Nat.le_refl _) _).alloc (by simp) _).alloc (by simp; omega) _

set_option maxRecDepth 100000 in
set_option maxHeartbeats 4000000 in
theorem hasP_any (b off cap bh bo bf : Nat) (x a : Int) (ns : List NodeD) (w : World) (hR : RightF ns) (hF : FAt w b off cap ns) (hU : UpAt w b off cap ns.length 67 bh bo bf x) (hx : x = 0 ∨ thereB ns.length x = true) :
    Calls Tryz.prog 125 #[upV bh bo bf, .int .i64 a] w fun e w' => e = .returned (.bool (decide (a ∈ pathUp ns (parentD ns) x))) ∧ Below w.heap.size w w' := by
  refine (callsIn_wide (n := 5)).1 ?_
  unfold upV
  refine callsIn_of_wp_marks Tryz.func125 rfl trivial ?_ rfl
  simp only [Tryz.ntmps125, List.size_toArray, List.length_cons, List.length_nil, Nat.reduceAdd, Nat.reduceSub, Array.replicate_succ, Array.replicate_zero, List.push_toArray, List.append_toArray, List.nil_append, List.cons_append]
  gi_wp2
  have c0 := new_cell_l w (.int .i64 a) 3
  have c1 := new_cell_l (w.alloc (.cells #[.int .i64 a] 3)) (.bool false) 4
  simp only [World.size_alloc] at c1
  have hB0 : Below w.heap.size w ((w.alloc (.cells #[.int .i64 a] 3)).alloc (.cells #[.bool false] 4)) := ((Below.refl _ w).alloc (Nat.le_refl _) _).alloc (by simp) _
  have hU2 := hU.later hB0
  refine wpIn_rangeFunc_ownF rfl (by omega) (gf := 99) (lb := #[.pointer (some ⟨bh, 0, none⟩), .pointer (some ⟨bo, 0, none⟩), .pointer (some ⟨bf, 0, none⟩)]) rfl trivial (enters_of Tryz.func99 (by kernel_rfl) rfl)
    (upP_stops (5 - 1) bh bo bf w.heap.size b off cap (by omega) x ns w _ hR hF (Nat.le_refl _) hB0 (by simp; omega) hU.lh hU.lo hU.lf hU2.ch hU2.co hU2.cf hx) belowK_t (belowK_b (by simp; omega)) (Below.refl _ _) (fun _ => rfl)
    (fun pre W => ((∀ y ∈ pre, y ≠ a) ∧ W.cell? ⟨w.heap.size, 0, none⟩ = some (.int .i64 a) ∧ W.cell? ⟨w.heap.size + 1, 0, none⟩ = some (.bool false) ∧ W.frozen? ⟨w.heap.size + 1, 0, none⟩ = false) ∧ Below w.heap.size w W)
    (fun c pre W => (c = .ret ∧ a ∈ pre ∧ W.cell? ⟨w.heap.size + 1, 0, none⟩ = some (.bool true)) ∧ Below w.heap.size w W)
    (OwnFrom.and (Own.from (fun s A B row hs hg hr => ⟨hs.1, cell_kept hs.2.1 hg hr, cell_kept hs.2.2.1 hg hr, (frozen_kept hs.2.2.1 hg hr).trans hs.2.2.2⟩) _) (ownFrom_below (Nat.le_refl _) (by simp; omega)))
    (fun c => OwnFrom.and (Own.from (fun s A B row hs hg hr => ⟨hs.1, hs.2.1, cell_kept hs.2.2 hg hr⟩) _) (ownFrom_below (Nat.le_refl _) (by simp; omega)))
    ⟨⟨by simp, keep_cell_l _ c0.1, c1.1, c1.2⟩, hB0⟩
    (fun z => { tmps := #[.func (.func 99) #[] #[.pointer (some ⟨bh, 0, none⟩), .pointer (some ⟨bo, 0, none⟩), .pointer (some ⟨bf, 0, none⟩)], .int .i64 a, undef, .pointer (some ⟨w.heap.size, 0, none⟩), .pointer (some ⟨w.heap.size + 1, 0, none⟩), .int .i64 z, .func (.func 99) #[] #[.pointer (some ⟨bh, 0, none⟩), .pointer (some ⟨bo, 0, none⟩), .pointer (some ⟨bf, 0, none⟩)], .int .i64 z, undef, undef, undef], defers := [] }) ?assign ?body ?done ?stop
  case assign =>
    intro l z W K hK
    gi_wp2
    exact hK
  case body =>
    rintro l pre z W ⟨⟨hp, hcw, hcr, hfr⟩, hB⟩ _
    gi_wp2
    · rename_i hz
      obtain rfl : z = a := eq_of_beq hz
      exact ⟨KeepsOthers.setCell _ _ _, ⟨rfl, List.mem_append.2 (.inr (by simp)), World.cell?_setCell_same' _ _ _ (by rw [hcr]; rfl)⟩, hB.setCell (p := ⟨w.heap.size + 1, 0, none⟩) (by simp) _⟩
    · rename_i hz
      exact ⟨KeepsOthers.refl _, Below.refl _ _, ⟨fun y hy => (List.mem_append.1 hy).elim (hp y) (fun e e' => by simp at e; subst e; subst e'; simp at hz), hcw, hcr, hfr⟩, hB⟩
  case done =>
    rintro D ys W hD rfl ⟨⟨hne, _, hcr, hfr⟩, hB⟩ hK
    gi_wp2
    have hK' := (KeepsOthers.setCell W ⟨w.heap.size + 1, 0, none⟩ (.bool false)).same D _ hK rfl
    refine ⟨by simp, .inl ⟨_, _, rfl, run_takeDeferred hK', ?_⟩⟩
    have hc5 := cell_kept (World.cell?_setCell_same' W ⟨w.heap.size + 1, 0, none⟩ (.bool false) (by rw [hcr]; rfl)) (grownBy_putObj' _ D (.deferred none)) (fun r e => by cases e; exact ⟨_, hK', rfl⟩)
    refine ⟨.bool false, ?_, by rw [decide_eq_false (fun h => hne a h rfl)], (hB.setCell (p := ⟨w.heap.size + 1, 0, none⟩) (by simp) _).trans (belowK_b (w := w) (Nat.le_refl _) _ D _ _ (by simp at hD; omega) hK' rfl rfl)⟩
    simp [results, Tryz.f125, go_sem, hc5]
  case stop =>
    rintro D c pre W hD hpre ⟨⟨rfl, hin, hcr⟩, hB⟩ hK
    gi_wp2
    refine ⟨by simp, .inl ⟨_, _, rfl, run_takeDeferred hK, ?_⟩⟩
    have hc5 := cell_kept hcr (grownBy_putObj' _ D (.deferred none)) (fun r e => by cases e; exact ⟨_, hK, rfl⟩)
    refine ⟨.bool true, ?_, by rw [decide_eq_true (hpre.subset hin)], hB.trans (belowK_b (w := w) (Nat.le_refl _) W D _ _ (by simp at hD; omega) hK rfl rfl)⟩
    simp [results, Tryz.f125, go_sem, hc5]

set_option maxRecDepth 100000 in
set_option maxHeartbeats 4000000 in
theorem contains_any (b off cap : Nat) (a x : Int) (ns : List NodeD) (w : World) (hR : RightF ns) (hF : FAt w b off cap ns) (hx : thereB ns.length x = true) :
    Calls Tryz.prog 94 #[forestV b off cap ns.length, .int .i64 a, .int .i64 x] w fun e w' => e = .returned (.bool (containsD ns a x)) ∧ Below w.heap.size w w' := by
  have hcd : containsD ns a x = decide (a ∈ pathUp ns (parentD ns) x) := by
    unfold containsD
    rw [List.contains_eq_mem]
  rw [hcd]
  have HU : Hid (∀ W : World, _) := fun W => upBy_any b off cap ns.length x 67 W
  have HH : Hid (∀ (bh bo bf : Nat) (W : World), Below w.heap.size w W → UpAt W b off cap ns.length 67 bh bo bf x → _) := fun bh bo bf W hW hU => hasP_any b off cap bh bo bf x a ns W hR (hF.later hW) hU (.inr hx)
  clear hcd hF hR
  unfold forestV upV at *
  generalize decide (a ∈ pathUp ns (parentD ns) x) = R at *
  go_enter Tryz.func94, Tryz.ntmps94
  go_wp2_with fail
  refine (HU.out _).mono ?_
  rintro e v1 ⟨rfl, rfl⟩
  have hA := upAt_new b off cap ns.length 67 x (w.alloc (.cells #[.slice (some ⟨b, off, none⟩) ns.length cap] 24))
  have hB := up_below b off cap ns.length 67 x (w.alloc (.cells #[.slice (some ⟨b, off, none⟩) ns.length cap] 24))
  simp only [World.size_alloc] at hA
  have hBw : Below w.heap.size w _ := ((Below.refl _ w).alloc (Nat.le_refl _) _).trans (hB.mono (by simp))
  have hH := HH.out _ _ _ _ hBw hA
  have HB := hid hBw
  clear hBw hB hA
  go_wp2_with fail
  refine hH.mono ?_
  rintro e v2 ⟨rfl, hb2⟩
  have HB2 := hid (HB.out.trans (hb2.mono HB.out.size))
  clear hb2 HB hH
  go_wp2
  go_ret
  exact ⟨rfl, HB2.out⟩

end Go.Proofs.YtfaeabjgplahgaaGreat

namespace Go.Proofs.YtfaeabjgplahgaaGreat
open Go.RowKit Go.Lib Go.Shelf
attribute [local go_sem] Oper.semAt_some

theorem info_int : (Tryz.prog.info? 3).map (fun i => (i.zero, i.size, i.bytes)) = some (some (.int .i64 0), 1, 8) := by kernel_rfl

set_option maxRecDepth 100000 in
set_option maxHeartbeats 4000000 in
theorem appendSeqP_any (b off cap bh bo bf : Nat) (x : Int) (ns : List NodeD) (w : World) (hR : RightF ns) (hF : FAt w b off cap ns) (hU : UpAt w b off cap ns.length 67 bh bo bf x) (hx : x = 0 ∨ thereB ns.length x = true) :
    Calls Tryz.prog 65 #[.slice none 0 0, upV bh bo bf] w fun e W' => ∃ v, e = .returned v ∧ W'.ownsRow w.heap.size 3 1 v (pathUp ns (parentD ns) x).length ((pathUp ns (parentD ns) x).map (Value.int .i64)) ∧ Below w.heap.size w W' := by
  have hlen : (pathUp ns (parentD ns) x).length ≤ 4096 := Nat.le_trans (pathUp_len ns _ hR.parentOK hR.ends x hx) hR.small
  obtain ⟨i0, hi, hz0, hz1, hz2⟩ := info_parts info_int
  refine (callsIn_wide (n := 5)).1 ?_
  unfold upV
  refine callsIn_of_wp_marks Tryz.func65 rfl trivial ?_ rfl
  simp only [Tryz.ntmps65, List.size_toArray, List.length_cons, List.length_nil, Nat.reduceAdd, Nat.reduceSub, Array.replicate_succ, Array.replicate_zero, List.push_toArray, List.append_toArray, List.nil_append, List.cons_append]
  gi_wp2
  have bO := Boxed.new w 26 (.slice none 0 0)
  have hB0 : Below w.heap.size w (w.alloc (.cells #[.slice none 0 0] 26)) := (Below.refl _ w).alloc (Nat.le_refl _) _
  have hU2 := hU.later hB0
  refine wpIn_rangeFunc_ownG rfl (by omega) (gf := 99) (lb := #[.pointer (some ⟨bh, 0, none⟩), .pointer (some ⟨bo, 0, none⟩), .pointer (some ⟨bf, 0, none⟩)]) rfl trivial (enters_of Tryz.func99 (by kernel_rfl) rfl)
    (upP_stops (5 - 1) bh bo bf w.heap.size b off cap (by omega) x ns w _ hR hF (Nat.le_refl _) hB0 (by simp) hU.lh hU.lo hU.lf hU2.ch hU2.co hU2.cf hx) belowK_t (belowK_b (by simp)) (Below.refl _ _) (fun _ => rfl)
    (fun pre W => (∃ v, Boxed W w.heap.size 26 v ∧ W.ownsRow w.heap.size 3 1 v pre.length (pre.map (Value.int .i64)) ∧ (v = .slice none 0 0 ↔ pre = [])) ∧ Below w.heap.size w W)
    (fun _ _ _ => False)
    (OwnFrom.and (Own.from (holdsRow_own w.heap.size w.heap.size 26 3 1 (fun pre => pre.length) (fun pre => pre.map (Value.int .i64)) (fun pre v => v = .slice none 0 0 ↔ pre = [])) _) (ownFrom_below (Nat.le_refl _) (by simp)))
    (fun _ _ _ _ _ hs _ _ => hs)
    ⟨⟨_, bO, World.ownsRow_nil _ _ _ _, by simp⟩, hB0⟩
    (fun z => { tmps := #[.slice none 0 0, .func (.func 99) #[] #[.pointer (some ⟨bh, 0, none⟩), .pointer (some ⟨bo, 0, none⟩), .pointer (some ⟨bf, 0, none⟩)], .pointer (some ⟨w.heap.size, 0, none⟩), undef, .slice none 0 0, .int .i64 z, .func (.func 99) #[] #[.pointer (some ⟨bh, 0, none⟩), .pointer (some ⟨bo, 0, none⟩), .pointer (some ⟨bf, 0, none⟩)], .int .i64 z, undef, undef, undef, undef, undef], defers := [] }) ?assign ?body ?done ?stop
  case assign =>
    intro l z W K hK
    gi_wp2
    exact hK
  case body =>
    rintro l pre z W ⟨⟨v, hv, hrow, hnil⟩, hB⟩ hlt
    have hc := hv.cell
    have m1 : pre.length + 1 ≤ maxLen := Nat.le_trans (by omega : pre.length + 1 ≤ 4096) (by decide)
    have m2 : (pre.length + 1) * 8 ≤ 140737488355328 := by omega
    have m3 : w.heap.size ≤ (W.alloc (.cells #[.int .i64 z] 3)).heap.size := by have := hB.size; simp; omega
    gi_wp2_with (gi_at_builtin; refine wpListIn_append_own _ rfl _ _ 26 rfl w.heap.size 3 i0 (.int .i64 0) 1 8 Tryz.underlying26 hi hz0 hz1 hz2 rfl (by decide) _ _ _ rfl (hrow.alloc _) ⟨W.heap.size, 0, none⟩ 1 1 [.int .i64 z] rfl rfl (cell_one_new _ _ _) (by simp [Value.oneCell']) m1 m2 m3 ?_; intro v' w1 hown' hgrow _; obtain ⟨g', cap', rfl⟩ := ownsRow_succ hown'; obtain ⟨hv1, hv2, hr2, hk2, hb2⟩ := hv.appended (by decide) hrow hB.size (Nat.le_refl _) hown' hgrow; have hc1 := hv1.cell; have hf1 := hv1.frozen)
    exact ⟨hk2.from _, hb2, ⟨_, hv2, by simpa using hr2, by simp⟩, hB.trans hb2⟩
  case done =>
    rintro D ys W hD rfl ⟨⟨v, hv, hrow, hnil⟩, hB⟩ hK
    have hc := hv.cell
    gi_wp2
    refine ⟨by simp, .inl ⟨_, _, rfl, run_takeDeferred hK, ?_⟩⟩
    exact ⟨_, results_tmp rfl _ _ _, v, rfl, ownsRow_putObj hrow _ hK rfl, hB.trans (belowK_b (w := w) (Nat.le_refl _) W D _ _ (by simp at hD; omega) hK rfl rfl)⟩
  case stop =>
    rintro D c pre W _ _ h _
    exact h.elim

set_option maxRecDepth 100000 in
set_option maxHeartbeats 2000000 in
theorem collectP_any (b off cap bh bo bf : Nat) (x : Int) (ns : List NodeD) (w : World) (hR : RightF ns) (hF : FAt w b off cap ns) (hU : UpAt w b off cap ns.length 67 bh bo bf x) (hx : x = 0 ∨ thereB ns.length x = true) :
    Calls Tryz.prog 30 #[upV bh bo bf] w fun e W' => ∃ v, e = .returned v ∧ W'.ownsRow w.heap.size 3 1 v (pathUp ns (parentD ns) x).length ((pathUp ns (parentD ns) x).map (Value.int .i64)) ∧ Below w.heap.size w W' := by
  have hA := appendSeqP_any b off cap bh bo bf x ns w hR hF hU hx
  unfold upV at *
  go_enter Tryz.func30, Tryz.ntmps30
  go_wp2_with fail
  refine hA.mono ?_
  rintro e v1 ⟨v, rfl, ho, hb⟩
  go_wp2
  go_ret
  exact ⟨v, rfl, ho, hb⟩

theorem setCells_below {B : Nat} (g : Nat) (hg : B ≤ g) : ∀ (vs : List Value) (o : Nat) (w : World), Below B w (w.setCells g o vs)
  | [], _, w => Below.refl _ w
  | v :: vs, o, w => ((Below.refl B w).setCell (p := ⟨g, o, none⟩) hg v).trans (setCells_below g hg vs (o + 1) _)
theorem drewN_below (B q : Nat) (w : World) : Below B w (w.drewN q) := ⟨rfl, rfl, rfl, Nat.le_refl _, fun _ _ => rfl⟩
theorem setCells_size (g : Nat) : ∀ (vs : List Value) (o : Nat) (w : World), (w.setCells g o vs).heap.size = w.heap.size
  | [], _, _ => rfl
  | v :: vs, o, w => (setCells_size g vs (o + 1) _).trans (by simp [World.setCell])
theorem reversed_rdI {v : World} {g cp q : Nat} {xs : List Int} (hgl : g < v.heap.size) (hcell : ∀ j, j < xs.length → v.cell? ⟨g, 0 + j, none⟩ = some (.int .i64 (xs.getD j 0))) (hfr : ∀ k, v.frozen? ⟨g, k, none⟩ = false) (hnc : xs.length ≤ cp) :
    RdI ((v.drewN q).setCells g 0 (xs.map (Value.int .i64)).reverse) (.slice (some ⟨g, 0, none⟩) xs.length cp) xs.reverse := by
  rw [← List.map_reverse]
  have hl : xs.reverse.length = xs.length := List.length_reverse
  have hth : (v.drewN q).there g 0 (xs.reverse.map (Value.int .i64)).length := fun j hj => by
    rw [List.length_map, hl] at hj
    refine ⟨?_, hfr _⟩
    have h : (v.drewN q).cell? ⟨g, 0 + j, none⟩ = _ := hcell j hj
    rw [h]
    rfl
  have hrg := World.rangeAt_setCells_same (v.drewN q) g 0 (xs.reverse.map (Value.int .i64)) hth
  refine ⟨some ⟨g, 0, none⟩, cp, by rw [hl], by rw [hl]; exact hnc, fun _ => ⟨g, 0, rfl, by rw [setCells_size]; exact hgl, fun j hj => ?_⟩⟩
  exact hrg j (.int .i64 xs.reverse[j]) (by rw [List.getElem?_map, List.getElem?_eq_getElem hj]; rfl)

set_option maxRecDepth 100000 in
set_option maxHeartbeats 2000000 in
theorem pathOf_any (b off cap : Nat) (x : Int) (ns : List NodeD) (w : World) (hR : RightF ns) (hF : FAt w b off cap ns) (hx : thereB ns.length x = true) :
    Calls Tryz.prog 122 #[forestV b off cap ns.length, .int .i64 x] w fun e w' => ∃ v, e = .returned v ∧ RdI w' v (pathD ns x) ∧ Below w.heap.size w w' := by
  have HU : Hid (∀ W : World, _) := fun W => upBy_any b off cap ns.length x 67 W
  have HC : Hid (∀ (bh bo bf : Nat) (W : World), Below w.heap.size w W → UpAt W b off cap ns.length 67 bh bo bf x → _) := fun bh bo bf W hW hU => collectP_any b off cap bh bo bf x ns W hR (hF.later hW) hU (.inr hx)
  have hlen : (pathUp ns (parentD ns) x).length ≤ 4096 := Nat.le_trans (pathUp_len ns _ hR.parentOK hR.ends x (.inr hx)) hR.small
  have hpos : 0 < (pathUp ns (parentD ns) x).length := by rw [pathUp_head hR hx]; simp
  unfold pathD
  clear hF hR
  unfold forestV upV at *
  generalize pathUp ns (parentD ns) x = xs at *
  go_enter Tryz.func122, Tryz.ntmps122
  go_wp2_with fail
  refine (HU.out _).mono ?_
  rintro e v1 ⟨rfl, rfl⟩
  have hA := upAt_new b off cap ns.length 67 x (w.alloc (.cells #[.slice (some ⟨b, off, none⟩) ns.length cap] 24))
  have hB := up_below b off cap ns.length 67 x (w.alloc (.cells #[.slice (some ⟨b, off, none⟩) ns.length cap] 24))
  simp only [World.size_alloc] at hA
  have hBw : Below w.heap.size w _ := ((Below.refl _ w).alloc (Nat.le_refl _) _).trans (hB.mono (by simp))
  have hC := HC.out _ _ _ _ hBw hA
  have HB := hid hBw
  clear hBw hB hA
  go_wp2_with fail
  refine hC.mono ?_
  rintro e v2 ⟨v, rfl, ho, hb2⟩
  have HB2 := hid (HB.out.trans (hb2.mono HB.out.size))
  clear hC
  obtain ⟨hl1, ⟨_, h0⟩ | ⟨g, cp, cur, rfl, hg, hh, hnc, hcm, hcs, htk⟩⟩ := ho
  · omega
  have hwg : w.heap.size ≤ g := Nat.le_trans HB.out.size hg
  have hgl : g < v2.heap.size := (Array.getElem?_eq_some_iff.1 hh).1
  have hcell : ∀ j, j < xs.length → v2.cell? ⟨g, 0 + j, none⟩ = some (.int .i64 (xs.getD j 0)) := fun j hj => by
    rw [cell_of_heap hh, Nat.zero_add]
    have h1 : (cur.toList.take (xs.length * 1))[j]? = some (.int .i64 (xs.getD j 0)) := by
      rw [htk, List.getElem?_map, List.getElem?_eq_getElem hj, List.getD_eq_getElem?_getD, List.getElem?_eq_getElem hj]
      rfl
    rw [List.getElem?_take] at h1
    split at h1
    · simpa using h1
    · cases h1
  have hRev := Tryz.slices_Reverse_int g 0 xs.length cp xs v2 (Nat.le_refl _) (by omega) hcell (fun j _ => frozen_of_heap hh _)
  rw [List.take_length] at hRev
  have Hh := hid hh
  have Hcell := hid hcell
  clear hb2 hh hcell htk hl1 HB
  go_wp2_with fail
  refine hRev.mono ?_
  rintro e v3 ⟨rfl, q, rfl⟩
  clear hRev
  go_wp2
  go_ret
  exact ⟨_, rfl, reversed_rdI hgl Hcell.out (fun k => frozen_of_heap Hh.out k) hnc, HB2.out.trans ((drewN_below _ q v2).trans (setCells_below g hwg _ _ _))⟩
end Go.Proofs.YtfaeabjgplahgaaGreat

namespace Go.Proofs.YtfaeabjgplahgaaGreat
open Go.RowKit Go.Lib Go.Shelf

theorem forkN_drop (p q : List Int) (k : Nat) (h1 : k < p.length) (h2 : k < q.length) : forkN (p.drop k) (q.drop k) = if p[k] == q[k] then forkN (p.drop (k + 1)) (q.drop (k + 1)) + 1 else 0 := by
  rw [List.drop_eq_getElem_cons h1, List.drop_eq_getElem_cons h2, forkN]
theorem forkN_end (p q : List Int) (k : Nat) (h : ¬ (k < p.length ∧ k < q.length)) : forkN (p.drop k) (q.drop k) = 0 := by
  by_cases h1 : k < p.length
  · have h2 : q.length ≤ k := by omega
    rw [List.drop_eq_nil_of_le h2]
    cases p.drop k <;> rfl
  · rw [List.drop_eq_nil_of_le (by omega : p.length ≤ k)]
    cases q.drop k <;> rfl

set_option maxRecDepth 100000 in
set_option maxHeartbeats 4000000 in
theorem fork_any (v1 v2 : Value) (p q : List Int) (w : World) (hp : RdI w v1 p) (hq : RdI w v2 q) (lp : p.length ≤ 4096) (lq : q.length ≤ 4096) :
    Calls Tryz.prog 123 #[v1, v2] w fun e w' => e = .returned (.int .i64 (forkN p q : Int)) ∧ Below w.heap.size w w' := by
  obtain ⟨o1, c1, rfl, hc1, g1⟩ := hp
  obtain ⟨o2, c2, rfl, hc2, g2⟩ := hq
  obtain ⟨N, hN⟩ : ∃ N, forkN p q = N := ⟨_, rfl⟩
  rw [hN]
  have HN := hid hN
  clear hN
  go_enter Tryz.func123, Tryz.ntmps123
  go_wp2
  go_loopw [5] (fun t wr => ∃ k m : Nat, k ≤ p.length ∧ k ≤ q.length ∧ t = .int .i64 k ∧ wr = w.drewN m ∧ Hid (k + forkN (p.drop k) (q.drop k) = N)) (fun t _ => p.length - (RowKit.intOf t).toNat)
  case atStart => exact ⟨0, 0, Nat.zero_le _, Nat.zero_le _, rfl, rfl, by show 0 + forkN (p.drop 0) (q.drop 0) = N; rw [Nat.zero_add]; exact HN.out⟩
  case round =>
    obtain ⟨k, m, k1, k2, rfl, rfl, hK⟩ := hrel
    by_cases hlt : k < p.length ∧ k < q.length
    · obtain ⟨l1, l2⟩ := hlt
      obtain ⟨b1, off1, rfl, hlt1, ha1⟩ := g1 (by omega)
      obtain ⟨b2, off2, rfl, hlt2, ha2⟩ := g2 (by omega)
      have x1 := ha1 k l1
      have x2 := ha2 k l2
      have hf := forkN_drop p q k l1 l2
      have d1 : decide ((k : Int) < min (p.length : Int) (q.length : Int)) = true := decide_eq_true (by omega)
      have q1 : (0 : Int) ≤ (k : Int) := by omega
      have q2 : (k : Int) < (p.length : Int) := by omega
      have q3 : (k : Int) < (q.length : Int) := by omega
      clear ha1 ha2 g1 g2
      have Hf := hid hf
      clear hf
      generalize p[k] = a at *
      generalize q[k] = a2 at *
      cases he : (a == a2) with
      | true =>
        have Hn : Hid (k + 1 + forkN (p.drop (k + 1)) (q.drop (k + 1)) = N) := by
          show _ = _
          rw [← hK.out, Hf.out, he, if_pos rfl]
          omega
        clear Hf hK
        go_upto_region 2 with fail
        go_quiet (fail)
        go_wp2
        go_roundw
        case rel => exact ⟨k + 1, m + nq, by omega, by omega, by go_num, by simp, Hn⟩
        case measure => simp [RowKit.intOf]; omega
      | false =>
        have hNk : N = k := by
          rw [← hK.out, Hf.out, he, if_neg Bool.false_ne_true]
          omega
        subst hNk
        clear Hf hK
        go_upto_region 2 with fail
        go_quiet (fail)
        go_wp2
        go_ret
        exact ⟨rfl, (drewN_below _ _ _).trans (drewN_below _ _ _)⟩
    · have hNk : N = k := by
        rw [← hK.out, forkN_end p q k hlt]
        omega
      have d1 : decide ((k : Int) < min (p.length : Int) (q.length : Int)) = false := decide_eq_false (by omega)
      subst hNk
      clear hK g1 g2
      go_upto_region 2 with fail
      go_quiet (fail)
      go_wp2
      go_ret
      exact ⟨rfl, (drewN_below _ _ _).trans (drewN_below _ _ _)⟩

set_option maxRecDepth 100000 in
set_option maxHeartbeats 2000000 in
theorem index_any (v : Value) (l : List Int) (x : Int) (w : World) (hv : RdI w v l) (hl : l.length ≤ 1099511627776) :
    Calls Tryz.prog 85 #[v, .int .i64 x] w fun e w' => e = .returned (.int .i64 (idxI l x 0)) ∧ w' = w := by
  obtain ⟨o, c, rfl, hc, g⟩ := hv
  obtain ⟨N, hN⟩ : ∃ N, idxI l x 0 = N := ⟨_, rfl⟩
  rw [hN]
  have HN : Hid (idxI (l.drop 0) x 0 = N) := hN
  clear hN
  go_enter Tryz.func85, Tryz.ntmps85
  go_wp2
  go_loopw [8] (fun t wr => ∃ k : Nat, k ≤ l.length ∧ t = .int .i64 k ∧ wr = w ∧ Hid (idxI (l.drop k) x k = N)) (fun t _ => l.length - (RowKit.intOf t).toNat)
  case atStart => exact ⟨0, Nat.zero_le _, rfl, rfl, HN⟩
  case round =>
    obtain ⟨k, k1, rfl, rfl, hK⟩ := hrel
    by_cases hlt : k < l.length
    · obtain ⟨b, off, rfl, hlt1, ha⟩ := g (by omega)
      have x1 := ha k hlt
      have q1 : (0 : Int) ≤ (k : Int) := by omega
      have q2 : (k : Int) < (l.length : Int) := by omega
      have hk := hK.out
      rw [List.drop_eq_getElem_cons hlt, idxI] at hk
      have Hk := hid hk
      clear hk hK ha g
      generalize l[k] = a at *
      cases he : (a == x) with
      | true =>
        have hNk : N = (k : Int) := by
          rw [← Hk.out, he]
          rfl
        have he2 : (x == a) = true := by rw [eq_of_beq he]; exact beq_self_eq_true x
        subst hNk
        clear Hk he
        go_wp2
        go_ret
        exact ⟨rfl, rfl⟩
      | false =>
        have Hn : Hid (idxI (l.drop (k + 1)) x (k + 1) = N) := by
          have h := Hk.out
          rw [he, if_neg Bool.false_ne_true] at h
          exact h
        have he2 : (x == a) = false := beq_eq_false_iff_ne.2 (fun e => by rw [e, beq_self_eq_true] at he; cases he)
        clear Hk he
        go_wp2
        go_roundw
        case rel => exact ⟨k + 1, by omega, by go_num, trivial, Hn⟩
        case measure => simp [RowKit.intOf]; omega
    · have hNk : N = -1 := by
        rw [← hK.out, List.drop_eq_nil_of_le (by omega)]
        rfl
      subst hNk
      clear hK g
      go_wp2
      go_ret
      exact ⟨rfl, rfl⟩

set_option maxRecDepth 100000 in
set_option maxHeartbeats 2000000 in
theorem kidsOf_any (b off cap i : Nat) (ns : List NodeD) (w : World) (h : FAt w b off cap ns) (hi : i < ns.length) :
    Calls Tryz.prog 28 #[forestV b off cap ns.length, .int .i64 ((i : Int) + 1)] w fun e w' => ∃ v, e = .returned v ∧ RdI w' v ns[i].kids ∧ Below w.heap.size w w' := by
  have HN : Hid (∀ W : World, _) := fun W => onode_any b off cap ns.length i W hi h.len
  obtain ⟨L, hc, _, _, hk⟩ := h.at_ i hi
  have Hc := hid hc
  have Hk := hid hk
  have hlt := h.lt
  have hle := h.len
  obtain ⟨o, c, hko, _⟩ := hk
  have Hko := hid hko
  clear h hc hko
  unfold forestV at *
  generalize ns[i] = x at *
  go_enter Tryz.func28, Tryz.ntmps28
  go_wp2_with fail
  refine (HN.out _).mono ?_
  rintro e v1 ⟨rfl, hb1⟩
  have c0 := (Hc.out.later hlt (box_go hb1)).kids
  rw [Hko.out] at c0
  go_wp2
  go_ret
  exact ⟨_, rfl, by have := Hk.out.later (box_go hb1); rw [Hko.out] at this; exact this, box_go hb1⟩

set_option maxRecDepth 100000 in
set_option maxHeartbeats 2000000 in
theorem indexOf_any (b off cap : Nat) (x : Int) (ns : List NodeD) (w : World) (hR : RightF ns) (hF : FAt w b off cap ns) (hx : thereB ns.length x = true) (hkl : ∀ (i : Nat) (hi : i < ns.length), ns[i].kids.length ≤ 1099511627776) :
    Calls Tryz.prog 71 #[forestV b off cap ns.length, .int .i64 x] w fun e w' => e = .returned (.int .i64 (indexD ns x)) ∧ Below w.heap.size w w' := by
  obtain ⟨j, hj, rfl⟩ := there_idx hx
  have HP : Hid (∀ W : World, Below w.heap.size w W → _) := fun W hW => parentOf_D b off cap j ns W (hF.later hW) hj
  have HF := hid hF
  obtain ⟨R, hRe⟩ : ∃ R, indexD ns ((j : Int) + 1) = R := ⟨_, rfl⟩
  rw [hRe]
  have HRe := hid hRe
  have Hpt : Hid (parentD ns ((j : Int) + 1) = 0 ∨ thereB ns.length (parentD ns ((j : Int) + 1)) = true) := by
    rcases hR.parentOK j hj with a | a
    · exact .inl a
    · exact .inr a.2
  have Hkl := hid hkl
  clear hRe hR hF hkl
  unfold indexD at HRe
  unfold forestV at *
  generalize hpd : parentD ns ((j : Int) + 1) = P at *
  clear hpd
  by_cases h0 : P = 0
  · subst h0
    have hR0 : R = 0 := by rw [← HRe.out]; rfl
    subst hR0
    go_enter Tryz.func71, Tryz.ntmps71
    go_wp2_with fail
    refine (HP.out _ ((Below.refl _ w).alloc (Nat.le_refl _) _)).mono ?_
    rintro e v1 ⟨rfl, hb1⟩
    go_wp2
    go_ret
    exact ⟨rfl, box_go hb1⟩
  · obtain ⟨i, hi, rfl⟩ := there_idx (Hpt.out.resolve_left h0)
    have hb0 : (((i : Int) + 1) == 0) = false := beq_eq_false_iff_ne.2 h0
    have HR2 : Hid (idxI ns[i].kids ((j : Int) + 1) 0 = R) := by
      have h := HRe.out
      unfold kidsD at h
      rw [hb0, if_neg Bool.false_ne_true, nodeOf_at ns i hi] at h
      exact h
    have HK : Hid (∀ W : World, FAt W b off cap ns → _) := fun W hW => kidsOf_any b off cap i ns W hW hi
    have HX : Hid (∀ (v : Value) (W : World), RdI W v ns[i].kids → _) := fun v W hv => index_any v ns[i].kids ((j : Int) + 1) W hv (Hkl.out i hi)
    unfold forestV at HK
    clear HRe Hpt Hkl
    go_enter Tryz.func71, Tryz.ntmps71
    go_wp2_with fail
    refine (HP.out _ ((Below.refl _ w).alloc (Nat.le_refl _) _)).mono ?_
    rintro e v1 ⟨rfl, hb1⟩
    have cb := box_forest hb1
    have hK := HK.out v1 (HF.out.later (box_go hb1))
    go_wp2_with fail
    refine hK.mono ?_
    rintro e v2 ⟨v, rfl, hr, hb2⟩
    have hX := HX.out v v2 hr
    rw [HR2.out] at hX
    obtain ⟨oo, cc, rfl, _⟩ := hr
    have HB := hid ((box_go hb1).trans (hb2.mono (box_go hb1).size))
    clear hK hb2
    go_wp2_with fail
    refine hX.mono ?_
    rintro e v3 ⟨rfl, rfl⟩
    go_wp2
    go_ret
    exact ⟨rfl, HB.out⟩

set_option maxHeartbeats 1000000 in
theorem cmp_any (x y : Int) (w : World) :
    Calls Tryz.prog 124 #[.int .i64 x, .int .i64 y] w fun e w' => e = .returned (.int .i64 (cmpI x y)) ∧ w' = w := by
  have HN : Hid (∀ (z : Int) (W : World), Calls Tryz.prog 142 #[.int .i64 z] W fun e w' => e = .returned (.bool false) ∧ w' = W) := fun z W => by
    have hz : (z != z) = false := by rw [bne, beq_self_eq_true]; rfl
    go_enter Tryz.func142, Tryz.ntmps142
    go_wp2
    go_ret
    exact ⟨rfl, rfl⟩
  unfold cmpI
  by_cases h1 : x < y
  · have d1 : decide (x < y) = true := decide_eq_true h1
    rw [if_pos h1]
    go_enter Tryz.func124, Tryz.ntmps124
    go_wp2_with fail
    refine (HN.out _ _).mono ?_
    rintro e v1 ⟨rfl, rfl⟩
    go_wp2_with fail
    refine (HN.out _ _).mono ?_
    rintro e v1 ⟨rfl, rfl⟩
    go_wp2
    go_ret
    exact ⟨rfl, rfl⟩
  · have d1 : decide (x < y) = false := decide_eq_false h1
    rw [if_neg h1]
    by_cases h2 : y < x
    · have d2 : decide (y < x) = true := decide_eq_true h2
      rw [if_pos h2]
      go_enter Tryz.func124, Tryz.ntmps124
      go_wp2_with fail
      refine (HN.out _ _).mono ?_
      rintro e v1 ⟨rfl, rfl⟩
      go_wp2_with fail
      refine (HN.out _ _).mono ?_
      rintro e v1 ⟨rfl, rfl⟩
      go_wp2
      go_ret
      exact ⟨rfl, rfl⟩
    · have d2 : decide (y < x) = false := decide_eq_false h2
      rw [if_neg h2]
      go_enter Tryz.func124, Tryz.ntmps124
      go_wp2_with fail
      refine (HN.out _ _).mono ?_
      rintro e v1 ⟨rfl, rfl⟩
      go_wp2_with fail
      refine (HN.out _ _).mono ?_
      rintro e v1 ⟨rfl, rfl⟩
      go_wp2
      go_ret
      exact ⟨rfl, rfl⟩
end Go.Proofs.YtfaeabjgplahgaaGreat
