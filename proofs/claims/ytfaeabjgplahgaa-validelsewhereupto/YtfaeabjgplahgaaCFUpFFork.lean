/- Going up by a function of the program's own: node, parentOf, overOf; the iterator upBy. -/
/- Whether a node is among those that an iterator gives (has, contains); the last one (lastOf, rootOf, topOf). -/
/- What an iterator gives, collected (slices.Collect); the path to a node (pathOf). -/
/- How long two paths run together (fork); where a kid stands (indexOf); cmp.Compare. -/
import Derived.Test.YtfaeabjgplahgaaFSurW
import Derived.Test.YtfaeabjgplahgaaFOrd2
import Derived.RangeFuncNested
import Derived.RangeFuncBound
import Derived.RangeFuncCalls
import Derived.RangeFuncLeaves
import Derived.Shelf.Abstract
import Derived.Shelf.RegionOpen
import Derived.OwnWalkIn
import Derived.TacticsInMore
import Derived.LoopNIn
import Derived.LoopIn
import Derived.Test.YtfaeabjgplahgaaShelf
import Derived.Maps.AppendAt
import Derived.RangeFuncBox
import Derived.Deep.Upon
import Derived.Deep.MidRow
import Derived.Deep.QuietTactic
import Derived.BigQuiet
namespace Go.Proofs.Ytfaeabjgplahgaa
open Go.RowKit Go.Lib Go.Shelf
attribute [local go_sem] Oper.semAt_some

theorem grown_of_below {w w' : World} (h : Below w.heap.size w w') : w.grownBy w' none := ⟨h.os, h.tape, h.output, h.size, fun k hk _ => h.block k hk⟩

set_option maxHeartbeats 1000000 in
theorem onode_any (b off cap n i : Nat) (w : World) (hi : i < n) (hn : n ≤ 1099511627776) :
    Calls Try.prog 60 #[forestV b off cap n, .int .i64 ((i : Int) + 1)] w fun e w' => e = .returned (.pointer (some ⟨b, off + i * 16, none⟩)) ∧ Below w.heap.size w w' := by
  unfold forestV
  have h1 : (0 : Int) ≤ (i : Int) := by omega
  have h2 : (i : Int) < (n : Int) := by omega
  go_enter Try.func60, Try.ntmps60
  go_wp2
  go_ret
  exact ⟨rfl, (Below.refl _ w).alloc (Nat.le_refl _) _⟩

set_option maxRecDepth 100000 in
set_option maxHeartbeats 2000000 in
theorem parentOf_any (b off cap i : Nat) (ns : List NodeD) (w : World) (h : FAt w b off cap ns) (hi : i < ns.length) :
    Calls Try.prog 61 #[forestV b off cap ns.length, .int .i64 ((i : Int) + 1)] w fun e w' => e = .returned (.int .i64 ns[i].parent) ∧ Below w.heap.size w w' := by
  have HN : Hid (∀ W : World, _) := fun W => onode_any b off cap ns.length i W hi h.len
  obtain ⟨L, hc, _⟩ := h.at_ i hi
  have Hc := hid hc
  have hlt := h.lt
  have hle := h.len
  clear h hc
  unfold forestV at *
  generalize ns[i] = x at *
  go_enter Try.func61, Try.ntmps61
  go_wp2_with fail
  refine (HN.out _).mono ?_
  rintro e v1 ⟨rfl, hb1⟩
  have c0 := (Hc.out.later hlt (box_go hb1)).parent
  go_wp2
  go_ret
  exact ⟨rfl, box_go hb1⟩

set_option maxRecDepth 100000 in
set_option maxHeartbeats 2000000 in
theorem overOf_any (b off cap i : Nat) (ns : List NodeD) (w : World) (h : FAt w b off cap ns) (hi : i < ns.length) :
    Calls Try.prog 47 #[forestV b off cap ns.length, .int .i64 ((i : Int) + 1)] w fun e w' => e = .returned (.int .i64 (if ns[i].host == 0 then ns[i].parent else ns[i].host)) ∧ Below w.heap.size w w' := by
  have HN : Hid (∀ W : World, _) := fun W => onode_any b off cap ns.length i W hi h.len
  have HP : Hid (∀ W : World, FAt W b off cap ns → _) := fun W hW => parentOf_any b off cap i ns W hW hi
  have HF := hid h
  obtain ⟨L, hc, _⟩ := h.at_ i hi
  have Hc := hid hc
  have hlt := h.lt
  have hle := h.len
  clear h hc
  unfold forestV at *
  generalize ns[i] = x at *
  obtain ⟨y, hy⟩ : ∃ y, x.host = y := ⟨_, rfl⟩
  cases hz : (y == 0) with
  | true =>
    have hzn : (y != 0) = false := by rw [bne, hz]; rfl
    rw [hy, hz, if_pos rfl]
    go_enter Try.func47, Try.ntmps47
    go_wp2_with fail
    refine (HN.out _).mono ?_
    rintro e v1 ⟨rfl, hb1⟩
    have c0 := (Hc.out.later hlt (box_go hb1)).host
    rw [hy] at c0
    have cb := box_forest hb1
    have hP := HP.out v1 (HF.out.later (box_go hb1))
    go_wp2_with fail
    refine hP.mono ?_
    rintro e v2 ⟨rfl, hb2⟩
    go_wp2
    go_ret
    exact ⟨rfl, (box_go hb1).trans (hb2.mono (box_go hb1).size)⟩
  | false =>
    have hzn : (y != 0) = true := by rw [bne, hz]; rfl
    rw [hy, hz, if_neg Bool.false_ne_true]
    go_enter Try.func47, Try.ntmps47
    go_wp2_with fail
    refine (HN.out _).mono ?_
    rintro e v1 ⟨rfl, hb1⟩
    have c0 := (Hc.out.later hlt (box_go hb1)).host
    rw [hy] at c0
    go_wp2
    go_ret
    exact ⟨rfl, box_go hb1⟩

set_option maxHeartbeats 1000000 in
theorem upBy_any (b off cap n : Nat) (x : Int) (k : Nat) (w : World) :
    Calls Try.prog 46 #[forestV b off cap n, .int .i64 x, .func (.func k) #[] #[]] w fun e w' => e = .returned (.func (.func 59) #[] #[.pointer (some ⟨w.heap.size + 1, 0, none⟩), .pointer (some ⟨w.heap.size + 1 + 1, 0, none⟩), .pointer (some ⟨w.heap.size, 0, none⟩)]) ∧ w' = ((w.alloc (.cells #[.slice (some ⟨b, off, none⟩) n cap] 24)).alloc (.cells #[.int .i64 x] 3)).alloc (.cells #[.func (.func k) #[] #[]] 84) := by
  unfold forestV
  go_enter Try.func46, Try.ntmps46
  go_wp2
  go_ret
  exact ⟨rfl, rfl⟩

theorem parentOf_D (b off cap i : Nat) (ns : List NodeD) (w : World) (h : FAt w b off cap ns) (hi : i < ns.length) :
    Calls Try.prog 61 #[forestV b off cap ns.length, .int .i64 ((i : Int) + 1)] w fun e w' => e = .returned (.int .i64 (parentD ns ((i : Int) + 1))) ∧ Below w.heap.size w w' := by
  rw [parentD_at ns i hi]
  exact parentOf_any b off cap i ns w h hi
theorem overOf_D (b off cap i : Nat) (ns : List NodeD) (w : World) (h : FAt w b off cap ns) (hi : i < ns.length) :
    Calls Try.prog 47 #[forestV b off cap ns.length, .int .i64 ((i : Int) + 1)] w fun e w' => e = .returned (.int .i64 (overD ns ((i : Int) + 1))) ∧ Below w.heap.size w w' := by
  rw [overD_at ns i hi]
  exact overOf_any b off cap i ns w h hi

set_option maxRecDepth 100000 in
set_option maxHeartbeats 4000000 in
/-- The iterator: a node, what is over it, and so on, as long as a round says 'on'. -/
theorem up1P_in (n l bh bo bf n₀ b off cap : Nat) (hn : 1 ≤ n) (x : Int) (ns : List NodeD) (J Jx : List Int → World → Prop) (W : World) (hR : RightF ns) (hn₀ : n₀ ≤ W.heap.size) (hbo : bo < n₀) (hbf : bf < n₀)
    (hFn : ∀ W', Below n₀ W W' → FAt W' b off cap ns)
    (ch : W.cell? ⟨bh, 0, none⟩ = some (.int .i64 x)) (co : W.cell? ⟨bo, 0, none⟩ = some (.func (.func 61) #[] #[])) (cf : W.cell? ⟨bf, 0, none⟩ = some (.slice (some ⟨b, off, none⟩) ns.length cap)) (hx : x = 0 ∨ thereB ns.length x = true)
    (hJ : AbidesFrom W.heap.size J)
    (hY : ∀ pre z W1, thereB ns.length z = true → J pre W1 → pre.length < (pathUp ns (parentD ns) x).length → YieldAt Fence.wide (n - 1) Try.prog l #[.int .i64 z] W1 fun e W' =>
      (e = .returned (.bool true) ∧ J (pre ++ [z]) W' ∧ Below n₀ W1 W') ∨ (e = .returned (.bool false) ∧ Jx (pre ++ [z]) W'))
    (h0 : J [] W) :
    CallsIn Fence.wide n Try.prog 59 #[.func (.yield l) #[] #[], .pointer (some ⟨bh, 0, none⟩), .pointer (some ⟨bo, 0, none⟩), .pointer (some ⟨bf, 0, none⟩)] W fun e W' => (∃ v, e = .returned v) ∧
      ((∃ ys, ys = pathUp ns (parentD ns) x ∧ J ys W') ∨ (∃ pre, pre <+: pathUp ns (parentD ns) x ∧ Jx pre W')) := by
  refine callsIn_of_wp Try.func59 rfl trivial ?_ rfl
  simp only [Try.ntmps59, List.size_toArray, List.length_cons, List.length_nil, Nat.reduceAdd, Nat.reduceSub, Array.replicate_succ, Array.replicate_zero, List.push_toArray, List.append_toArray, List.nil_append, List.cons_append]
  have Hco := hid co
  have Hcf := hid cf
  have HP : Hid (∀ (j : Nat) (hj : j < ns.length) (V : World), FAt V b off cap ns → _) := fun j hj V hV => parentOf_D b off cap j ns V hV hj
  have HFn := hid hFn
  have HJ := hid hJ
  have HR := hid hR
  have HU := hid hR.parentOK
  unfold forestV at HP
  clear co cf hFn hJ hR
  obtain ⟨xs, hxs⟩ : ∃ xs, pathUp ns (parentD ns) x = xs := ⟨_, rfl⟩
  rw [hxs]
  rw [hxs] at hY
  have Hxs := hid hxs
  clear hxs
  gi_wp2
  gi_loopw [5] (fun t wr => ∃ (pre : List Int) (y : Int), t = .int .i64 y ∧ Hid (xs = pre ++ pathUp ns (parentD ns) y) ∧ (y = 0 ∨ thereB ns.length y = true) ∧ Hid (Below n₀ W wr) ∧ Hid (J pre wr)) (fun t _ => (pathUp ns (parentD ns) (RowKit.intOf t)).length)
  case atStart => exact ⟨[], x, rfl, Hxs.out.symm, hx, Below.refl _ _, h0⟩
  case round =>
    obtain ⟨pre, y, rfl, hp, hy0, hB, hJs⟩ := hrel
    clear ch hx h0
    by_cases hz : y = 0
    · subst hz
      have Hpre : Hid (xs = pre) := by
        have := hp.out
        rw [pathUp_zero, List.append_nil] at this
        exact this
      clear hp
      gi_wp2
      refine ⟨fun _ h => (by cases h), ?_⟩
      gi_wp2
      go_end0
      exact ⟨⟨_, rfl⟩, .inl ⟨pre, Hpre.out.symm, hJs.out⟩⟩
    · obtain ⟨j, hj, rfl⟩ := there_idx (hy0.resolve_left hz)
      have Hcons := hid (pathUp_cons ns (parentD ns) HU.out HR.out.ends j hj)
      obtain ⟨fn, tmps, assign, body, hy, hRd⟩ := hY pre ((j : Int) + 1) wr (thereB_idx _ _ hj) hJs.out (by rw [hp.out, Hcons.out]; simp)
      have hnz : (((j : Int) + 1) != 0) = true := by
        rw [bne, beq_eq_false_iff_ne.2 hz]
        rfl
      gi_wp2
      refine hRd.mono ?_
      rintro e W3 (⟨rfl, hJ3, hk3⟩ | ⟨rfl, hJx3⟩)
      · have hB3 := hB.out.trans hk3
        have c1 := (hB3.cell (p := ⟨bo, 0, none⟩) hbo).trans Hco.out
        have c2 := (hB3.cell (p := ⟨bf, 0, none⟩) hbf).trans Hcf.out
        have hP := HP.out j hj W3 (HFn.out W3 hB3)
        have HB3 := hid hB3
        clear hB3
        gi_wp2
        refine ⟨trivial, (callsIn_wide.2 hP).mono ?_⟩
        rintro e W4 ⟨rfl, hb4⟩
        have HJ4 := hid (HJ.out _ _ _ none hJ3 (grown_of_below hb4) (fun r e => by cases e))
        have HB4 := hid (HB3.out.trans (hb4.mono (Nat.le_trans hn₀ HB3.out.size)))
        have Hth : Hid (parentD ns ((j : Int) + 1) = 0 ∨ thereB ns.length (parentD ns ((j : Int) + 1)) = true) := by
          rcases HU.out j hj with a | a
          · exact .inl a
          · exact .inr a.2
        have Hp2 : Hid (xs = (pre ++ [(j : Int) + 1]) ++ pathUp ns (parentD ns) (parentD ns ((j : Int) + 1))) := by
          show xs = _
          rw [hp.out, Hcons.out, List.append_assoc]
          rfl
        have Hme : Hid ((pathUp ns (parentD ns) (parentD ns ((j : Int) + 1))).length < (pathUp ns (parentD ns) ((j : Int) + 1)).length) := by
          show _ < _
          rw [Hcons.out]
          exact Nat.lt_succ_self _
        clear hP hb4 hJ3 hk3 c1 c2 hy hRd hp Hcons
        gi_wp2
        go_roundw
        case rel => exact ⟨pre ++ [(j : Int) + 1], _, rfl, Hp2, Hth.out, HB4, HJ4⟩
        case measure => exact Hme.out
      · gi_wp2
        go_end0
        exact ⟨⟨_, rfl⟩, .inr ⟨pre ++ [(j : Int) + 1], ⟨pathUp ns (parentD ns) (parentD ns ((j : Int) + 1)), by rw [hp.out, Hcons.out]; simp⟩, hJx3⟩⟩

/-- What upBy hands back, ranged over. -/
theorem upP_stops (n bh bo bf n₀ b off cap : Nat) (hn : 1 ≤ n) (x : Int) (ns : List NodeD) (wb w : World) (hR : RightF ns) (hF : FAt wb b off cap ns) (hwb : wb.heap.size ≤ n₀) (hB : Below wb.heap.size wb w) (hn₀ : n₀ ≤ w.heap.size) (hbh : bh < n₀) (hbo : bo < n₀) (hbf : bf < n₀)
    (ch : w.cell? ⟨bh, 0, none⟩ = some (.int .i64 x)) (co : w.cell? ⟨bo, 0, none⟩ = some (.func (.func 61) #[] #[])) (cf : w.cell? ⟨bf, 0, none⟩ = some (.slice (some ⟨b, off, none⟩) ns.length cap)) (hx : x = 0 ∨ thereB ns.length x = true) :
    SeqStopsK Fence.wide n Try.prog 59 #[.pointer (some ⟨bh, 0, none⟩), .pointer (some ⟨bo, 0, none⟩), .pointer (some ⟨bf, 0, none⟩)] (fun z : Int => #[Value.int .i64 z]) (Below n₀) (fun ys => ys = pathUp ns (parentD ns) x) (fun pre => pre <+: pathUp ns (parentD ns) x) (pathUp ns (parentD ns) x).length w := fun l J Jx W hW hJ _ hY h0 =>
  up1P_in n l bh bo bf n₀ b off cap hn x ns J Jx W hR (Nat.le_trans hn₀ hW.size) hbo hbf
    (fun _ hW' => hF.later (hB.trans ((hW.mono hB.size).trans (hW'.mono hwb))))
    ((hW.cell (p := ⟨bh, 0, none⟩) (Nat.lt_of_lt_of_le hbh hn₀)).trans ch) ((hW.cell (p := ⟨bo, 0, none⟩) (Nat.lt_of_lt_of_le hbo hn₀)).trans co) ((hW.cell (p := ⟨bf, 0, none⟩) (Nat.lt_of_lt_of_le hbf hn₀)).trans cf) hx hJ (fun pre z W1 _ => hY pre z W1) h0
set_option maxRecDepth 100000 in
set_option maxHeartbeats 4000000 in
/-- The iterator: a node, what is over it, and so on, as long as a round says 'on'. -/
theorem up1O_in (n l bh bo bf n₀ b off cap : Nat) (hn : 1 ≤ n) (x : Int) (ns : List NodeD) (J Jx : List Int → World → Prop) (W : World) (hR : RightF ns) (hn₀ : n₀ ≤ W.heap.size) (hbo : bo < n₀) (hbf : bf < n₀)
    (hFn : ∀ W', Below n₀ W W' → FAt W' b off cap ns)
    (ch : W.cell? ⟨bh, 0, none⟩ = some (.int .i64 x)) (co : W.cell? ⟨bo, 0, none⟩ = some (.func (.func 47) #[] #[])) (cf : W.cell? ⟨bf, 0, none⟩ = some (.slice (some ⟨b, off, none⟩) ns.length cap)) (hx : x = 0 ∨ thereB ns.length x = true)
    (hJ : AbidesFrom W.heap.size J)
    (hY : ∀ pre z W1, thereB ns.length z = true → J pre W1 → pre.length < (pathUp ns (overD ns) x).length → YieldAt Fence.wide (n - 1) Try.prog l #[.int .i64 z] W1 fun e W' =>
      (e = .returned (.bool true) ∧ J (pre ++ [z]) W' ∧ Below n₀ W1 W') ∨ (e = .returned (.bool false) ∧ Jx (pre ++ [z]) W'))
    (h0 : J [] W) :
    CallsIn Fence.wide n Try.prog 59 #[.func (.yield l) #[] #[], .pointer (some ⟨bh, 0, none⟩), .pointer (some ⟨bo, 0, none⟩), .pointer (some ⟨bf, 0, none⟩)] W fun e W' => (∃ v, e = .returned v) ∧
      ((∃ ys, ys = pathUp ns (overD ns) x ∧ J ys W') ∨ (∃ pre, pre <+: pathUp ns (overD ns) x ∧ Jx pre W')) := by
  refine callsIn_of_wp Try.func59 rfl trivial ?_ rfl
  simp only [Try.ntmps59, List.size_toArray, List.length_cons, List.length_nil, Nat.reduceAdd, Nat.reduceSub, Array.replicate_succ, Array.replicate_zero, List.push_toArray, List.append_toArray, List.nil_append, List.cons_append]
  have Hco := hid co
  have Hcf := hid cf
  have HP : Hid (∀ (j : Nat) (hj : j < ns.length) (V : World), FAt V b off cap ns → _) := fun j hj V hV => overOf_D b off cap j ns V hV hj
  have HFn := hid hFn
  have HJ := hid hJ
  have HR := hid hR
  have HU := hid hR.overOK
  unfold forestV at HP
  clear co cf hFn hJ hR
  obtain ⟨xs, hxs⟩ : ∃ xs, pathUp ns (overD ns) x = xs := ⟨_, rfl⟩
  rw [hxs]
  rw [hxs] at hY
  have Hxs := hid hxs
  clear hxs
  gi_wp2
  gi_loopw [5] (fun t wr => ∃ (pre : List Int) (y : Int), t = .int .i64 y ∧ Hid (xs = pre ++ pathUp ns (overD ns) y) ∧ (y = 0 ∨ thereB ns.length y = true) ∧ Hid (Below n₀ W wr) ∧ Hid (J pre wr)) (fun t _ => (pathUp ns (overD ns) (RowKit.intOf t)).length)
  case atStart => exact ⟨[], x, rfl, Hxs.out.symm, hx, Below.refl _ _, h0⟩
  case round =>
    obtain ⟨pre, y, rfl, hp, hy0, hB, hJs⟩ := hrel
    clear ch hx h0
    by_cases hz : y = 0
    · subst hz
      have Hpre : Hid (xs = pre) := by
        have := hp.out
        rw [pathUp_zero, List.append_nil] at this
        exact this
      clear hp
      gi_wp2
      refine ⟨fun _ h => (by cases h), ?_⟩
      gi_wp2
      go_end0
      exact ⟨⟨_, rfl⟩, .inl ⟨pre, Hpre.out.symm, hJs.out⟩⟩
    · obtain ⟨j, hj, rfl⟩ := there_idx (hy0.resolve_left hz)
      have Hcons := hid (pathUp_cons ns (overD ns) HU.out HR.out.ends j hj)
      obtain ⟨fn, tmps, assign, body, hy, hRd⟩ := hY pre ((j : Int) + 1) wr (thereB_idx _ _ hj) hJs.out (by rw [hp.out, Hcons.out]; simp)
      have hnz : (((j : Int) + 1) != 0) = true := by
        rw [bne, beq_eq_false_iff_ne.2 hz]
        rfl
      gi_wp2
      refine hRd.mono ?_
      rintro e W3 (⟨rfl, hJ3, hk3⟩ | ⟨rfl, hJx3⟩)
      · have hB3 := hB.out.trans hk3
        have c1 := (hB3.cell (p := ⟨bo, 0, none⟩) hbo).trans Hco.out
        have c2 := (hB3.cell (p := ⟨bf, 0, none⟩) hbf).trans Hcf.out
        have hP := HP.out j hj W3 (HFn.out W3 hB3)
        have HB3 := hid hB3
        clear hB3
        gi_wp2
        refine ⟨trivial, (callsIn_wide.2 hP).mono ?_⟩
        rintro e W4 ⟨rfl, hb4⟩
        have HJ4 := hid (HJ.out _ _ _ none hJ3 (grown_of_below hb4) (fun r e => by cases e))
        have HB4 := hid (HB3.out.trans (hb4.mono (Nat.le_trans hn₀ HB3.out.size)))
        have Hth : Hid (overD ns ((j : Int) + 1) = 0 ∨ thereB ns.length (overD ns ((j : Int) + 1)) = true) := by
          rcases HU.out j hj with a | a
          · exact .inl a
          · exact .inr a.2
        have Hp2 : Hid (xs = (pre ++ [(j : Int) + 1]) ++ pathUp ns (overD ns) (overD ns ((j : Int) + 1))) := by
          show xs = _
          rw [hp.out, Hcons.out, List.append_assoc]
          rfl
        have Hme : Hid ((pathUp ns (overD ns) (overD ns ((j : Int) + 1))).length < (pathUp ns (overD ns) ((j : Int) + 1)).length) := by
          show _ < _
          rw [Hcons.out]
          exact Nat.lt_succ_self _
        clear hP hb4 hJ3 hk3 c1 c2 hy hRd hp Hcons
        gi_wp2
        go_roundw
        case rel => exact ⟨pre ++ [(j : Int) + 1], _, rfl, Hp2, Hth.out, HB4, HJ4⟩
        case measure => exact Hme.out
      · gi_wp2
        go_end0
        exact ⟨⟨_, rfl⟩, .inr ⟨pre ++ [(j : Int) + 1], ⟨pathUp ns (overD ns) (overD ns ((j : Int) + 1)), by rw [hp.out, Hcons.out]; simp⟩, hJx3⟩⟩

/-- What upBy hands back, ranged over. -/
theorem upO_stops (n bh bo bf n₀ b off cap : Nat) (hn : 1 ≤ n) (x : Int) (ns : List NodeD) (wb w : World) (hR : RightF ns) (hF : FAt wb b off cap ns) (hwb : wb.heap.size ≤ n₀) (hB : Below wb.heap.size wb w) (hn₀ : n₀ ≤ w.heap.size) (hbh : bh < n₀) (hbo : bo < n₀) (hbf : bf < n₀)
    (ch : w.cell? ⟨bh, 0, none⟩ = some (.int .i64 x)) (co : w.cell? ⟨bo, 0, none⟩ = some (.func (.func 47) #[] #[])) (cf : w.cell? ⟨bf, 0, none⟩ = some (.slice (some ⟨b, off, none⟩) ns.length cap)) (hx : x = 0 ∨ thereB ns.length x = true) :
    SeqStopsK Fence.wide n Try.prog 59 #[.pointer (some ⟨bh, 0, none⟩), .pointer (some ⟨bo, 0, none⟩), .pointer (some ⟨bf, 0, none⟩)] (fun z : Int => #[Value.int .i64 z]) (Below n₀) (fun ys => ys = pathUp ns (overD ns) x) (fun pre => pre <+: pathUp ns (overD ns) x) (pathUp ns (overD ns) x).length w := fun l J Jx W hW hJ _ hY h0 =>
  up1O_in n l bh bo bf n₀ b off cap hn x ns J Jx W hR (Nat.le_trans hn₀ hW.size) hbo hbf
    (fun _ hW' => hF.later (hB.trans ((hW.mono hB.size).trans (hW'.mono hwb))))
    ((hW.cell (p := ⟨bh, 0, none⟩) (Nat.lt_of_lt_of_le hbh hn₀)).trans ch) ((hW.cell (p := ⟨bo, 0, none⟩) (Nat.lt_of_lt_of_le hbo hn₀)).trans co) ((hW.cell (p := ⟨bf, 0, none⟩) (Nat.lt_of_lt_of_le hbf hn₀)).trans cf) hx hJ (fun pre z W1 _ => hY pre z W1) h0
end Go.Proofs.Ytfaeabjgplahgaa

namespace Go.Proofs.Ytfaeabjgplahgaa
open Go.RowKit Go.Lib Go.Shelf
attribute [local go_sem] Oper.semAt_some

theorem box_cell_l {W : World} {B : Nat} {v : Value} {t : TypeId} (h : W.heap[B]? = some (.cells #[v] t (0, 0))) : W.cell? ⟨B, 0, none⟩ = some v ∧ W.frozen? ⟨B, 0, none⟩ = false := by
  constructor <;> simp [World.cell?, World.frozen?, h]
theorem new_cell_l (W : World) (v : Value) (t : TypeId) : (W.alloc (.cells #[v] t)).cell? ⟨W.heap.size, 0, none⟩ = some v ∧ (W.alloc (.cells #[v] t)).frozen? ⟨W.heap.size, 0, none⟩ = false := box_cell_l (heap_new W _)
theorem keep_cell_l {W : World} {a : Addr} {v : Value} (o : Obj) (h : W.cell? a = some v) : (W.alloc o).cell? a = some v := cell_kept h (World.grownBy_alloc W o none) (fun r e => by cases e)
theorem keep_free_l {W : World} {a : Addr} {v : Value} (o : Obj) (h : W.cell? a = some v) (hf : W.frozen? a = false) : (W.alloc o).frozen? a = false := (frozen_kept h (World.grownBy_alloc W o none) (fun r e => by cases e)).trans hf
/-- What upBy has made lies in three boxes. -/
structure UpAt (w : World) (b off cap n k bh bo bf : Nat) (x : Int) : Prop where
  ch : w.cell? ⟨bh, 0, none⟩ = some (.int .i64 x)
  co : w.cell? ⟨bo, 0, none⟩ = some (.func (.func k) #[] #[])
  cf : w.cell? ⟨bf, 0, none⟩ = some (.slice (some ⟨b, off, none⟩) n cap)
  lh : bh < w.heap.size
  lo : bo < w.heap.size
  lf : bf < w.heap.size
theorem UpAt.later {w W : World} {b off cap n k bh bo bf : Nat} {x : Int} (h : UpAt w b off cap n k bh bo bf x) (hb : Below w.heap.size w W) : UpAt W b off cap n k bh bo bf x :=
  ⟨(hb.cell (p := ⟨bh, 0, none⟩) h.lh).trans h.ch, (hb.cell (p := ⟨bo, 0, none⟩) h.lo).trans h.co, (hb.cell (p := ⟨bf, 0, none⟩) h.lf).trans h.cf, Nat.lt_of_lt_of_le h.lh hb.size, Nat.lt_of_lt_of_le h.lo hb.size, Nat.lt_of_lt_of_le h.lf hb.size⟩
def upV (bh bo bf : Nat) : Value := .func (.func 59) #[] #[.pointer (some ⟨bh, 0, none⟩), .pointer (some ⟨bo, 0, none⟩), .pointer (some ⟨bf, 0, none⟩)]

/-- What upBy has just made. -/
theorem upAt_new (b off cap n k : Nat) (x : Int) (W : World) :
    UpAt (((W.alloc (.cells #[.slice (some ⟨b, off, none⟩) n cap] 24)).alloc (.cells #[.int .i64 x] 3)).alloc (.cells #[.func (.func k) #[] #[]] 84)) b off cap n k (W.heap.size + 1) (W.heap.size + 1 + 1) W.heap.size x := by
  have c0 := new_cell_l W (.slice (some ⟨b, off, none⟩) n cap) 24
  have c1 := new_cell_l (W.alloc (.cells #[.slice (some ⟨b, off, none⟩) n cap] 24)) (.int .i64 x) 3
  have c2 := new_cell_l ((W.alloc (.cells #[.slice (some ⟨b, off, none⟩) n cap] 24)).alloc (.cells #[.int .i64 x] 3)) (.func (.func k) #[] #[]) 84
  simp only [World.size_alloc] at c1 c2
  exact ⟨keep_cell_l _ c1.1, c2.1, keep_cell_l _ (keep_cell_l _ c0.1), by simp only [World.size_alloc]; omega, by simp only [World.size_alloc]; omega, by simp only [World.size_alloc]; omega⟩
theorem up_below (b off cap n k : Nat) (x : Int) (W : World) :
    Below W.heap.size W (((W.alloc (.cells #[.slice (some ⟨b, off, none⟩) n cap] 24)).alloc (.cells #[.int .i64 x] 3)).alloc (.cells #[.func (.func k) #[] #[]] 84)) :=
  (((Below.refl _ W).alloc (Nat.le_refl _) _).alloc (by simp) _).alloc (by simp; omega) _

set_option maxRecDepth 100000 in
set_option maxHeartbeats 4000000 in
theorem hasP_any (b off cap bh bo bf : Nat) (x a : Int) (ns : List NodeD) (w : World) (hR : RightF ns) (hF : FAt w b off cap ns) (hU : UpAt w b off cap ns.length 61 bh bo bf x) (hx : x = 0 ∨ thereB ns.length x = true) :
    Calls Try.prog 45 #[upV bh bo bf, .int .i64 a] w fun e w' => e = .returned (.bool (decide (a ∈ pathUp ns (parentD ns) x))) ∧ Below w.heap.size w w' := by
  refine (callsIn_wide (n := 5)).1 ?_
  unfold upV
  refine callsIn_of_wp_marks Try.func45 rfl trivial ?_ rfl
  simp only [Try.ntmps45, List.size_toArray, List.length_cons, List.length_nil, Nat.reduceAdd, Nat.reduceSub, Array.replicate_succ, Array.replicate_zero, List.push_toArray, List.append_toArray, List.nil_append, List.cons_append]
  gi_wp2
  have c0 := new_cell_l w (.int .i64 a) 3
  have c1 := new_cell_l (w.alloc (.cells #[.int .i64 a] 3)) (.bool false) 4
  simp only [World.size_alloc] at c1
  have hB0 : Below w.heap.size w ((w.alloc (.cells #[.int .i64 a] 3)).alloc (.cells #[.bool false] 4)) := ((Below.refl _ w).alloc (Nat.le_refl _) _).alloc (by simp) _
  have hU2 := hU.later hB0
  refine wpIn_rangeFunc_ownF rfl (by omega) (gf := 59) (lb := #[.pointer (some ⟨bh, 0, none⟩), .pointer (some ⟨bo, 0, none⟩), .pointer (some ⟨bf, 0, none⟩)]) rfl trivial (enters_of Try.func59 (by kernel_rfl) rfl)
    (upP_stops (5 - 1) bh bo bf w.heap.size b off cap (by omega) x ns w _ hR hF (Nat.le_refl _) hB0 (by simp; omega) hU.lh hU.lo hU.lf hU2.ch hU2.co hU2.cf hx) belowK_t (belowK_b (by simp; omega)) (Below.refl _ _) (fun _ => rfl)
    (fun pre W => ((∀ y ∈ pre, y ≠ a) ∧ W.cell? ⟨w.heap.size, 0, none⟩ = some (.int .i64 a) ∧ W.cell? ⟨w.heap.size + 1, 0, none⟩ = some (.bool false) ∧ W.frozen? ⟨w.heap.size + 1, 0, none⟩ = false) ∧ Below w.heap.size w W)
    (fun c pre W => (c = .ret ∧ a ∈ pre ∧ W.cell? ⟨w.heap.size + 1, 0, none⟩ = some (.bool true)) ∧ Below w.heap.size w W)
    (OwnFrom.and (Own.from (fun s A B row hs hg hr => ⟨hs.1, cell_kept hs.2.1 hg hr, cell_kept hs.2.2.1 hg hr, (frozen_kept hs.2.2.1 hg hr).trans hs.2.2.2⟩) _) (ownFrom_below (Nat.le_refl _) (by simp; omega)))
    (fun c => OwnFrom.and (Own.from (fun s A B row hs hg hr => ⟨hs.1, hs.2.1, cell_kept hs.2.2 hg hr⟩) _) (ownFrom_below (Nat.le_refl _) (by simp; omega)))
    ⟨⟨by simp, keep_cell_l _ c0.1, c1.1, c1.2⟩, hB0⟩
    (fun z => { tmps := #[.func (.func 59) #[] #[.pointer (some ⟨bh, 0, none⟩), .pointer (some ⟨bo, 0, none⟩), .pointer (some ⟨bf, 0, none⟩)], .int .i64 a, undef, .pointer (some ⟨w.heap.size, 0, none⟩), .pointer (some ⟨w.heap.size + 1, 0, none⟩), .int .i64 z, .func (.func 59) #[] #[.pointer (some ⟨bh, 0, none⟩), .pointer (some ⟨bo, 0, none⟩), .pointer (some ⟨bf, 0, none⟩)], .int .i64 z, undef, undef, undef], defers := [] }) ?assign ?body ?done ?stop
  case assign =>
    intro l z W K hK
    gi_wp2
    exact hK
  case body =>
    rintro l pre z W ⟨⟨hp, hcw, hcr, hfr⟩, hB⟩ _
    gi_wp2
    · rename_i hz
      obtain rfl : z = a := eq_of_beq hz
      exact ⟨KeepsOthers.setCell _ _ _, ⟨rfl, List.mem_append.2 (.inr (by simp)), World.cell?_setCell_same' _ _ _ (by rw [hcr]; rfl)⟩, hB.setCell (p := ⟨w.heap.size + 1, 0, none⟩) (by simp) _⟩
    · rename_i hz
      exact ⟨KeepsOthers.refl _, Below.refl _ _, ⟨fun y hy => (List.mem_append.1 hy).elim (hp y) (fun e e' => by simp at e; subst e; subst e'; simp at hz), hcw, hcr, hfr⟩, hB⟩
  case done =>
    rintro D ys W hD rfl ⟨⟨hne, _, hcr, hfr⟩, hB⟩ hK
    gi_wp2
    have hK' := (KeepsOthers.setCell W ⟨w.heap.size + 1, 0, none⟩ (.bool false)).same D _ hK rfl
    refine ⟨by simp, .inl ⟨_, _, rfl, run_takeDeferred hK', ?_⟩⟩
    have hc5 := cell_kept (World.cell?_setCell_same' W ⟨w.heap.size + 1, 0, none⟩ (.bool false) (by rw [hcr]; rfl)) (grownBy_putObj' _ D (.deferred none)) (fun r e => by cases e; exact ⟨_, hK', rfl⟩)
    refine ⟨.bool false, ?_, by rw [decide_eq_false (fun h => hne a h rfl)], (hB.setCell (p := ⟨w.heap.size + 1, 0, none⟩) (by simp) _).trans (belowK_b (w := w) (Nat.le_refl _) _ D _ _ (by simp at hD; omega) hK' rfl rfl)⟩
    simp [results, Try.f45, go_sem, hc5]
  case stop =>
    rintro D c pre W hD hpre ⟨⟨rfl, hin, hcr⟩, hB⟩ hK
    gi_wp2
    refine ⟨by simp, .inl ⟨_, _, rfl, run_takeDeferred hK, ?_⟩⟩
    have hc5 := cell_kept hcr (grownBy_putObj' _ D (.deferred none)) (fun r e => by cases e; exact ⟨_, hK, rfl⟩)
    refine ⟨.bool true, ?_, by rw [decide_eq_true (hpre.subset hin)], hB.trans (belowK_b (w := w) (Nat.le_refl _) W D _ _ (by simp at hD; omega) hK rfl rfl)⟩
    simp [results, Try.f45, go_sem, hc5]

end Go.Proofs.Ytfaeabjgplahgaa

namespace Go.Proofs.Ytfaeabjgplahgaa
open Go.RowKit Go.Lib Go.Shelf
attribute [local go_sem] Oper.semAt_some

theorem info_int : (Try.prog.info? 3).map (fun i => (i.zero, i.size, i.bytes)) = some (some (.int .i64 0), 1, 8) := by kernel_rfl

theorem setCells_below {B : Nat} (g : Nat) (hg : B ≤ g) : ∀ (vs : List Value) (o : Nat) (w : World), Below B w (w.setCells g o vs)
  | [], _, w => Below.refl _ w
  | v :: vs, o, w => ((Below.refl B w).setCell (p := ⟨g, o, none⟩) hg v).trans (setCells_below g hg vs (o + 1) _)
theorem drewN_below (B q : Nat) (w : World) : Below B w (w.drewN q) := ⟨rfl, rfl, rfl, Nat.le_refl _, fun _ _ => rfl⟩
theorem setCells_size (g : Nat) : ∀ (vs : List Value) (o : Nat) (w : World), (w.setCells g o vs).heap.size = w.heap.size
  | [], _, _ => rfl
  | v :: vs, o, w => (setCells_size g vs (o + 1) _).trans (by simp [World.setCell])
theorem reversed_rdI {v : World} {g cp q : Nat} {xs : List Int} (hgl : g < v.heap.size) (hcell : ∀ j, j < xs.length → v.cell? ⟨g, 0 + j, none⟩ = some (.int .i64 (xs.getD j 0))) (hfr : ∀ k, v.frozen? ⟨g, k, none⟩ = false) (hnc : xs.length ≤ cp) :
    RdI ((v.drewN q).setCells g 0 (xs.map (Value.int .i64)).reverse) (.slice (some ⟨g, 0, none⟩) xs.length cp) xs.reverse := by
  rw [← List.map_reverse]
  have hl : xs.reverse.length = xs.length := List.length_reverse
  have hth : (v.drewN q).there g 0 (xs.reverse.map (Value.int .i64)).length := fun j hj => by
    rw [List.length_map, hl] at hj
    refine ⟨?_, hfr _⟩
    have h : (v.drewN q).cell? ⟨g, 0 + j, none⟩ = _ := hcell j hj
    rw [h]
    rfl
  have hrg := World.rangeAt_setCells_same (v.drewN q) g 0 (xs.reverse.map (Value.int .i64)) hth
  refine ⟨some ⟨g, 0, none⟩, cp, by rw [hl], by rw [hl]; exact hnc, fun _ => ⟨g, 0, rfl, by rw [setCells_size]; exact hgl, fun j hj => ?_⟩⟩
  exact hrg j (.int .i64 xs.reverse[j]) (by rw [List.getElem?_map, List.getElem?_eq_getElem hj]; rfl)

end Go.Proofs.Ytfaeabjgplahgaa

namespace Go.Proofs.Ytfaeabjgplahgaa
open Go.RowKit Go.Lib Go.Shelf

theorem forkN_drop (p q : List Int) (k : Nat) (h1 : k < p.length) (h2 : k < q.length) : forkN (p.drop k) (q.drop k) = if p[k] == q[k] then forkN (p.drop (k + 1)) (q.drop (k + 1)) + 1 else 0 := by
  rw [List.drop_eq_getElem_cons h1, List.drop_eq_getElem_cons h2, forkN]
theorem forkN_end (p q : List Int) (k : Nat) (h : ¬ (k < p.length ∧ k < q.length)) : forkN (p.drop k) (q.drop k) = 0 := by
  by_cases h1 : k < p.length
  · have h2 : q.length ≤ k := by omega
    rw [List.drop_eq_nil_of_le h2]
    cases p.drop k <;> rfl
  · rw [List.drop_eq_nil_of_le (by omega : p.length ≤ k)]
    cases q.drop k <;> rfl

set_option maxRecDepth 100000 in
set_option maxHeartbeats 2000000 in
theorem index_any (v : Value) (l : List Int) (x : Int) (w : World) (hv : RdI w v l) (hl : l.length ≤ 1099511627776) :
    Calls Try.prog 26 #[v, .int .i64 x] w fun e w' => e = .returned (.int .i64 (idxI l x 0)) ∧ w' = w := by
  obtain ⟨o, c, rfl, hc, g⟩ := hv
  obtain ⟨N, hN⟩ : ∃ N, idxI l x 0 = N := ⟨_, rfl⟩
  rw [hN]
  have HN : Hid (idxI (l.drop 0) x 0 = N) := hN
  clear hN
  go_enter Try.func26, Try.ntmps26
  go_wp2
  go_loopw [8] (fun t wr => ∃ k : Nat, k ≤ l.length ∧ t = .int .i64 k ∧ wr = w ∧ Hid (idxI (l.drop k) x k = N)) (fun t _ => l.length - (RowKit.intOf t).toNat)
  case atStart => exact ⟨0, Nat.zero_le _, rfl, rfl, HN⟩
  case round =>
    obtain ⟨k, k1, rfl, rfl, hK⟩ := hrel
    by_cases hlt : k < l.length
    · obtain ⟨b, off, rfl, hlt1, ha⟩ := g (by omega)
      have x1 := ha k hlt
      have q1 : (0 : Int) ≤ (k : Int) := by omega
      have q2 : (k : Int) < (l.length : Int) := by omega
      have hk := hK.out
      rw [List.drop_eq_getElem_cons hlt, idxI] at hk
      have Hk := hid hk
      clear hk hK ha g
      generalize l[k] = a at *
      cases he : (a == x) with
      | true =>
        have hNk : N = (k : Int) := by
          rw [← Hk.out, he]
          rfl
        have he2 : (x == a) = true := by rw [eq_of_beq he]; exact beq_self_eq_true x
        subst hNk
        clear Hk he
        go_wp2
        go_ret
        exact ⟨rfl, rfl⟩
      | false =>
        have Hn : Hid (idxI (l.drop (k + 1)) x (k + 1) = N) := by
          have h := Hk.out
          rw [he, if_neg Bool.false_ne_true] at h
          exact h
        have he2 : (x == a) = false := beq_eq_false_iff_ne.2 (fun e => by rw [e, beq_self_eq_true] at he; cases he)
        clear Hk he
        go_wp2
        go_roundw
        case rel => exact ⟨k + 1, by omega, by go_num, trivial, Hn⟩
        case measure => simp [RowKit.intOf]; omega
    · have hNk : N = -1 := by
        rw [← hK.out, List.drop_eq_nil_of_le (by omega)]
        rfl
      subst hNk
      clear hK g
      go_wp2
      go_ret
      exact ⟨rfl, rfl⟩

end Go.Proofs.Ytfaeabjgplahgaa
