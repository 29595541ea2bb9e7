/- bounds: what is above a node, ranged over (upFrom); the node that has both ends (common). -/
/- slices.Grow at nothing and slices.Concat, at units. -/
/- bounds: the text of a range (textOf): words, isText, parts. -/
/- bounds: the text of a range (textOf). -/
/- bounds: the text of a range (textOf). -/
/- bounds: Text of a range from a text to what is none. -/
import Derived.Test.YtilacgcjbdkphaaGreatCFBdaFBdc
import Derived.Test.YtilacgcjbdkphaaGreatCFSkipHFWk0
import Derived.Test.YtilacgcjbdkphaaGreatCFPosFNext
import Derived.Lib.AppendZerosOnto
import Derived.Deep.AppendSrc
namespace Go.Proofs.YtilacgcjbdkphaaGreat
open Go.RowKit Go.Lib Go.Shelf
attribute [local go_sem] Oper.semAt_some

set_option maxRecDepth 100000 in
set_option maxHeartbeats 4000000 in
theorem up1B_in (n l bh bf n₀ b off cap : Nat) (hn : 1 ≤ n) (x : Int) (ns : List NodeD) (J Jx : List (There ns) → World → Prop) (W : World) (hR : RightF ns) (hbf : bf < n₀)
    (hFn : ∀ W', Below n₀ W W' → FAt W' b off cap ns)
    (ch : W.cell? ⟨bh, 0, none⟩ = some (.int .i64 x)) (cf : W.cell? ⟨bf, 0, none⟩ = some (.slice (some ⟨b, off, none⟩) ns.length cap)) (hx : x = 0 ∨ thereB ns.length x = true)
    (hY : ∀ pre (z : There ns) W1, J pre W1 → pre.length < (pathUp ns (parentD ns) x).length → YieldAt Fence.wide (n - 1) Tryz.prog l #[.int .i64 z.1] W1 fun e W' =>
      (e = .returned (.bool true) ∧ J (pre ++ [z]) W' ∧ Below n₀ W1 W') ∨ (e = .returned (.bool false) ∧ Jx (pre ++ [z]) W'))
    (h0 : J [] W) :
    CallsIn Fence.wide n Tryz.prog 116 #[.func (.yield l) #[] #[], .pointer (some ⟨bh, 0, none⟩), .pointer (some ⟨bf, 0, none⟩)] W fun e W' => (∃ v, e = .returned v) ∧
      ((∃ ys, ys.map (·.1) = pathUp ns (parentD ns) x ∧ J ys W') ∨ (∃ pre, pre.map (·.1) <+: pathUp ns (parentD ns) x ∧ Jx pre W')) := by
  refine callsIn_of_wp Tryz.func116 rfl trivial ?_ rfl
  simp only [Tryz.ntmps116, List.size_toArray, List.length_cons, List.length_nil, Nat.reduceAdd, Nat.reduceSub, Array.replicate_succ, Array.replicate_zero, List.push_toArray, List.append_toArray, List.nil_append, List.cons_append]
  have Hcf := hid cf
  have HFn := hid hFn
  have HR := hid hR
  have HU := hid hR.parentOK
  clear cf hFn hR
  obtain ⟨xs, hxs⟩ : ∃ xs, pathUp ns (parentD ns) x = xs := ⟨_, rfl⟩
  rw [hxs]
  rw [hxs] at hY
  have Hxs := hid hxs
  clear hxs
  gi_wp2
  gi_loopw [4] (fun t wr => ∃ (pre : List (There ns)) (y : Int), t = .int .i64 y ∧ Hid (xs = pre.map (·.1) ++ pathUp ns (parentD ns) y) ∧ (y = 0 ∨ thereB ns.length y = true) ∧ Hid (Below n₀ W wr) ∧ Hid (J pre wr)) (fun t _ => (pathUp ns (parentD ns) (RowKit.intOf t)).length)
  case atStart => exact ⟨[], x, rfl, Hxs.out.symm, hx, Below.refl _ _, h0⟩
  case round =>
    obtain ⟨pre, y, rfl, hp, hy0, hB, hJs⟩ := hrel
    clear ch hx h0
    by_cases hz : y = 0
    · subst hz
      have Hpre : Hid (xs = pre.map (·.1)) := by
        have := hp.out
        rw [pathUp_zero, List.append_nil] at this
        exact this
      clear hp
      gi_wp2
      refine ⟨fun _ h => (by cases h), ?_⟩
      gi_wp2
      go_end0
      exact ⟨⟨_, rfl⟩, .inl ⟨pre, Hpre.out.symm, hJs.out⟩⟩
    · obtain ⟨j, hj, rfl⟩ := there_idx (hy0.resolve_left hz)
      have Hcons := hid (pathUp_cons ns (parentD ns) HU.out HR.out.ends j hj)
      obtain ⟨zt, hzt⟩ : ∃ zt : There ns, zt.1 = (j : Int) + 1 := ⟨⟨_, thereB_idx _ _ hj⟩, rfl⟩
      have Hzt := hid hzt
      have hYY := hY pre zt wr hJs.out (by
        have := congrArg List.length hp.out
        rw [List.length_append, List.length_map, Hcons.out, List.length_cons] at this
        omega)
      rw [hzt] at hYY
      obtain ⟨fn, tmps, assign, body, hy, hRd⟩ := hYY
      clear hzt
      have hnz : (((j : Int) + 1) != 0) = true := by
        rw [bne, beq_eq_false_iff_ne.2 hz]
        rfl
      gi_wp2
      refine hRd.mono ?_
      rintro e W3 (⟨rfl, hJ3, hk3⟩ | ⟨rfl, hJx3⟩)
      · have hB3 := hB.out.trans hk3
        have c2 := (hB3.cell (p := ⟨bf, 0, none⟩) hbf).trans Hcf.out
        obtain ⟨Ls, hc, _⟩ := (HFn.out W3 hB3).at_ j hj
        have c3 := hc.parent
        rw [← parentD_at ns j hj] at c3
        have hle := (HFn.out W3 hB3).len
        have q1 : (0 : Int) ≤ (j : Int) := by omega
        have q2 : (j : Int) < (ns.length : Int) := by omega
        have HB3 := hid hB3
        have HJ3 := hid hJ3
        have Hth : Hid (parentD ns ((j : Int) + 1) = 0 ∨ thereB ns.length (parentD ns ((j : Int) + 1)) = true) := by
          rcases HU.out j hj with a | a
          · exact .inl a
          · exact .inr a.2
        have Hp2 : Hid (xs = (pre ++ [zt]).map (·.1) ++ pathUp ns (parentD ns) (parentD ns ((j : Int) + 1))) := by
          show xs = _
          rw [hp.out, Hcons.out, List.map_append, List.append_assoc, List.map_cons, List.map_nil, Hzt.out]
          rfl
        have Hme : Hid ((pathUp ns (parentD ns) (parentD ns ((j : Int) + 1))).length < (pathUp ns (parentD ns) ((j : Int) + 1)).length) := by
          show _ < _
          rw [Hcons.out]
          exact Nat.lt_succ_self _
        clear hB3 hJ3 hk3 hy hRd hp Hcons hc
        generalize parentD ns ((j : Int) + 1) = pp at *
        gi_wp2
        go_roundw
        case rel => exact ⟨pre ++ [zt], _, rfl, Hp2, Hth.out, HB3, HJ3⟩
        case measure => exact Hme.out
      · gi_wp2
        go_end0
        exact ⟨⟨_, rfl⟩, .inr ⟨pre ++ [zt], ⟨pathUp ns (parentD ns) (parentD ns ((j : Int) + 1)), by rw [hp.out, Hcons.out, List.map_append, List.append_assoc, List.map_cons, List.map_nil, Hzt.out]; rfl⟩, hJx3⟩⟩
theorem upB_stops (n bh bf n₀ b off cap : Nat) (hn : 1 ≤ n) (x : Int) (ns : List NodeD) (wb w : World) (hR : RightF ns) (hF : FAt wb b off cap ns) (hwb : wb.heap.size ≤ n₀) (hB : Below wb.heap.size wb w) (hn₀ : n₀ ≤ w.heap.size) (hbh : bh < n₀) (hbf : bf < n₀)
    (ch : w.cell? ⟨bh, 0, none⟩ = some (.int .i64 x)) (cf : w.cell? ⟨bf, 0, none⟩ = some (.slice (some ⟨b, off, none⟩) ns.length cap)) (hx : x = 0 ∨ thereB ns.length x = true) :
    SeqStopsK Fence.wide n Tryz.prog 116 #[.pointer (some ⟨bh, 0, none⟩), .pointer (some ⟨bf, 0, none⟩)] (fun z : There ns => #[Value.int .i64 z.1]) (Below n₀) (fun ys => ys.map (·.1) = pathUp ns (parentD ns) x) (fun pre => pre.map (·.1) <+: pathUp ns (parentD ns) x) (pathUp ns (parentD ns) x).length w := fun l J Jx W hW _ _ hY h0 =>
  up1B_in n l bh bf n₀ b off cap hn x ns J Jx W hR hbf
    (fun _ hW' => hF.later (hB.trans ((hW.mono hB.size).trans (hW'.mono hwb))))
    ((hW.cell (p := ⟨bh, 0, none⟩) (Nat.lt_of_lt_of_le hbh hn₀)).trans ch) ((hW.cell (p := ⟨bf, 0, none⟩) (Nat.lt_of_lt_of_le hbf hn₀)).trans cf) hx hY h0
/-- The node that has both. -/
def commD (ns : List NodeD) (x y : Int) : Int := firstD (fun z => if y ∈ allD ns z then z else 0) (pathUp ns (parentD ns) x)
theorem firstB_none (g : Int → Int) : ∀ l : List Int, (∀ y ∈ l, g y = 0) → firstD g l = 0
  | [], _ => rfl
  | y :: l, h => by
    rw [firstD, h y (List.mem_cons_self ..)]
    exact firstB_none g l fun z hz => h z (List.mem_cons_of_mem _ hz)
theorem firstB_prefix (g : Int → Int) : ∀ (p : List Int) (z : Int) (t : List Int), (∀ y ∈ p, g y = 0) → g z ≠ 0 → firstD g (p ++ z :: t) = g z
  | [], z, t, _, hz => by
    rw [List.nil_append, firstD, beq_eq_false_iff_ne.2 hz]
    rfl
  | y :: p, z, t, h, hz => by
    rw [List.cons_append, firstD, h y (List.mem_cons_self ..)]
    exact firstB_prefix g p z t (fun u hu => h u (List.mem_cons_of_mem _ hu)) hz
theorem upFrom_any (b off cap n : Nat) (x : Int) (w : World) :
    Calls Tryz.prog 95 #[.agg #[.slice (some ⟨b, off, none⟩) n cap], .int .i64 x] w fun e w' => e = .returned (.func (.func 116) #[] #[.pointer (some ⟨w.heap.size + 1, 0, none⟩), .pointer (some ⟨w.heap.size, 0, none⟩)]) ∧ w' = (w.alloc (.cells #[.slice (some ⟨b, off, none⟩) n cap] 24)).alloc (.cells #[.int .i64 x] 3) := by
  go_enter Tryz.func95, Tryz.ntmps95
  go_wp2
  go_ret
  exact ⟨rfl, rfl⟩
theorem six_newB (w : World) (a b c d e f : Obj) : Below w.heap.size w ((((((w.alloc a).alloc b).alloc c).alloc d).alloc e).alloc f) ∧ ((((((w.alloc a).alloc b).alloc c).alloc d).alloc e).alloc f).heap[w.heap.size + 1]? = some b ∧ ((((((w.alloc a).alloc b).alloc c).alloc d).alloc e).alloc f).heap[w.heap.size + 1 + 1]? = some c ∧ ((((((w.alloc a).alloc b).alloc c).alloc d).alloc e).alloc f).heap[w.heap.size + 1 + 1 + 1]? = some d ∧ ((((((w.alloc a).alloc b).alloc c).alloc d).alloc e).alloc f).heap[w.heap.size + 1 + 1 + 1 + 1]? = some e ∧ ((((((w.alloc a).alloc b).alloc c).alloc d).alloc e).alloc f).heap[w.heap.size + 1 + 1 + 1 + 1 + 1]? = some f ∧ ((((((w.alloc a).alloc b).alloc c).alloc d).alloc e).alloc f).heap.size = w.heap.size + 1 + 1 + 1 + 1 + 1 + 1 :=
  ⟨(((((((Below.refl _ w).alloc (Nat.le_refl _) a).alloc (by simp) b).alloc (by simp; omega) c).alloc (by simp; omega) d).alloc (by simp; omega) e).alloc (by simp; omega) f), six_1 w a b c d e f, six_2 w a b c d e f, six_3 w a b c d e f, six_4 w a b c d e f, six_5 w a b c d e f, by simp⟩

set_option maxRecDepth 100000 in
set_option maxHeartbeats 4000000 in
theorem bCommon_any (b off cap bR bF bL : Nat) (x c y d : Int) (ns : List NodeD) (w : World) (hR : RightF ns) (hF : FAt w b off cap ns) (hN : NumsAt ns w bR bF bL) (hx : thereB ns.length x = true) (hy : thereB ns.length y = true) :
    Calls Tryz.prog 59 #[.agg #[.slice (some ⟨b, off, none⟩) ns.length cap], numsV (some ⟨b, off, none⟩) cap ns.length bR bF bL (ns.length + 1), rngV x c y d] w fun e w' => e = .returned (.int .i64 (commD ns x y)) ∧ Below w.heap.size w w' := by
  have HH : Hid (∀ (z : There ns) (W : World), Below w.heap.size w W → Calls Tryz.prog 63 #[.agg #[.slice (some ⟨b, off, none⟩) ns.length cap, .slice (some ⟨bR, 0, none⟩) (ns.length + 1) (ns.length + 1), .slice (some ⟨bF, 0, none⟩) (ns.length + 1) (ns.length + 1), .slice (some ⟨bL, 0, none⟩) (ns.length + 1) (ns.length + 1)], .int .i64 z.1, .int .i64 y] W fun e w' => e = .returned (.bool (decide (y ∈ allD ns z.1))) ∧ Below W.heap.size W w') := by
    intro z W hW
    obtain ⟨R, F, L, hNl⟩ := (hN.later hW).lists
    obtain ⟨i, hi, ez⟩ := there_idx z.2
    obtain ⟨j, hj, ey⟩ := there_idx hy
    rw [ez, ey]
    exact pHolds_any (some ⟨b, off, none⟩) cap bR bF bL i j ns R F L W hR hNl hi hj
  obtain ⟨bx, g1, g2, g3, g4, g5, sx⟩ := six_newB w (.cells #[.slice (some ⟨b, off, none⟩) ns.length cap] 24) (numsO (some ⟨b, off, none⟩) cap ns.length bR bF bL (ns.length + 1)) (.cells #[.int .i64 x, .int .i64 c, .int .i64 y, .int .i64 d] 44) (.cells #[.int .i64 0] 3) (.cells #[.slice (some ⟨b, off, none⟩) ns.length cap] 24) (.cells #[.int .i64 x] 3)
  have HU := hid (upFrom_any b off cap ns.length x ((((w.alloc (.cells #[.slice (some ⟨b, off, none⟩) ns.length cap] 24)).alloc (numsO (some ⟨b, off, none⟩) cap ns.length bR bF bL (ns.length + 1))).alloc (.cells #[.int .i64 x, .int .i64 c, .int .i64 y, .int .i64 d] 44)).alloc (.cells #[.int .i64 0] 3)))
  refine (callsIn_wide (n := 6)).1 ?_
  unfold numsV rngV
  unfold numsO at *
  refine callsIn_of_wp_marks Tryz.func59 rfl trivial ?_ rfl
  simp only [Tryz.ntmps59, List.size_toArray, List.length_cons, List.length_nil, Nat.reduceAdd, Nat.reduceSub, Array.replicate_succ, Array.replicate_zero, List.push_toArray, List.append_toArray, List.nil_append, List.cons_append]
  gi_wp2
  refine ⟨trivial, (callsIn_wide.2 HU.out).mono ?_⟩
  rintro e v2 ⟨rfl, rfl⟩
  simp only [World.size_alloc]
  gi_wp2
  generalize ((((((w.alloc (.cells #[.slice (some ⟨b, off, none⟩) ns.length cap] 24)).alloc (.cells #[.slice (some ⟨b, off, none⟩) ns.length cap, .slice (some ⟨bR, 0, none⟩) (ns.length + 1) (ns.length + 1), .slice (some ⟨bF, 0, none⟩) (ns.length + 1) (ns.length + 1), .slice (some ⟨bL, 0, none⟩) (ns.length + 1) (ns.length + 1)] 77)).alloc (.cells #[.int .i64 x, .int .i64 c, .int .i64 y, .int .i64 d] 44)).alloc (.cells #[.int .i64 0] 3)).alloc (.cells #[.slice (some ⟨b, off, none⟩) ns.length cap] 24)).alloc (.cells #[.int .i64 x] 3)) = V at *
  obtain ⟨n0, n1, n2, n3⟩ := sv_cells g1
  obtain ⟨a0, a1, a2, a3⟩ := rng_cells g2
  obtain ⟨r0, f0⟩ := box_cell_l g3
  have cf := (box_cell_l g4).1
  have ch := (box_cell_l g5).1
  refine wpIn_rangeFunc_ownF (α := There ns) rfl (by omega) (gf := 116) (lb := #[.pointer (some ⟨w.heap.size + 1 + 1 + 1 + 1 + 1, 0, none⟩), .pointer (some ⟨w.heap.size + 1 + 1 + 1 + 1, 0, none⟩)]) rfl trivial (enters_of Tryz.func116 (by kernel_rfl) rfl)
    (upB_stops (6 - 1) (w.heap.size + 1 + 1 + 1 + 1 + 1) (w.heap.size + 1 + 1 + 1 + 1) (w.heap.size + 1 + 1 + 1 + 1 + 1 + 1) b off cap (by omega) x ns w V hR hF (by omega) bx (by rw [sx]; exact Nat.le_refl _) (by omega) (by omega) ch cf (.inr hx)) belowK_t (belowK_b (by rw [sx]; exact Nat.le_refl _)) (Below.refl _ _) (fun _ => rfl)
    (fun pre W => ((∀ u ∈ pre, y ∉ allD ns u.1) ∧ (W.cell? ⟨w.heap.size + 1, 0, none⟩ = some (.slice (some ⟨b, off, none⟩) ns.length cap) ∧ W.cell? ⟨w.heap.size + 1, 1, none⟩ = some (.slice (some ⟨bR, 0, none⟩) (ns.length + 1) (ns.length + 1)) ∧ W.cell? ⟨w.heap.size + 1, 2, none⟩ = some (.slice (some ⟨bF, 0, none⟩) (ns.length + 1) (ns.length + 1)) ∧ W.cell? ⟨w.heap.size + 1, 3, none⟩ = some (.slice (some ⟨bL, 0, none⟩) (ns.length + 1) (ns.length + 1))) ∧ W.cell? ⟨w.heap.size + 1 + 1, 2, none⟩ = some (.int .i64 y) ∧ W.cell? ⟨w.heap.size + 1 + 1 + 1, 0, none⟩ = some (.int .i64 0) ∧ W.frozen? ⟨w.heap.size + 1 + 1 + 1, 0, none⟩ = false ∧ w.heap.size + 1 + 1 + 1 + 1 + 1 + 1 ≤ W.heap.size) ∧ Below w.heap.size w W)
    (fun cc pre W => (cc = .ret ∧ ∃ (p0 : List (There ns)) (z : There ns), pre = p0 ++ [z] ∧ (∀ u ∈ p0, y ∉ allD ns u.1) ∧ y ∈ allD ns z.1 ∧ W.cell? ⟨w.heap.size + 1 + 1 + 1, 0, none⟩ = some (.int .i64 z.1)) ∧ Below w.heap.size w W)
    (OwnFrom.and (Own.from (fun s A B row hs hg hr => ⟨hs.1, ⟨cell_kept hs.2.1.1 hg hr, cell_kept hs.2.1.2.1 hg hr, cell_kept hs.2.1.2.2.1 hg hr, cell_kept hs.2.1.2.2.2 hg hr⟩, cell_kept hs.2.2.1 hg hr, cell_kept hs.2.2.2.1 hg hr, (frozen_kept hs.2.2.2.1 hg hr).trans hs.2.2.2.2.1, Nat.le_trans hs.2.2.2.2.2 hg.size⟩) _) (ownFrom_below (Nat.le_refl _) (by rw [sx]; omega)))
    (fun cc => OwnFrom.and (Own.from (fun s A B row hs hg hr => by
      obtain ⟨h1, p0, z, h2, h3, h4, h5⟩ := hs
      exact ⟨h1, p0, z, h2, h3, h4, cell_kept h5 hg hr⟩) _) (ownFrom_below (Nat.le_refl _) (by rw [sx]; omega)))
    ⟨⟨by simp, ⟨n0, n1, n2, n3⟩, a2, r0, f0, by rw [sx]; exact Nat.le_refl _⟩, bx⟩
    (fun z => { tmps := #[.agg #[.slice (some ⟨b, off, none⟩) ns.length cap], .agg #[.slice (some ⟨b, off, none⟩) ns.length cap, .slice (some ⟨bR, 0, none⟩) (ns.length + 1) (ns.length + 1), .slice (some ⟨bF, 0, none⟩) (ns.length + 1) (ns.length + 1), .slice (some ⟨bL, 0, none⟩) (ns.length + 1) (ns.length + 1)], .agg #[.int .i64 x, .int .i64 c, .int .i64 y, .int .i64 d], .pointer (some ⟨w.heap.size, 0, none⟩), .pointer (some ⟨w.heap.size + 1, 0, none⟩), .pointer (some ⟨w.heap.size + 1 + 1, 0, none⟩), .pointer (some ⟨w.heap.size + 1 + 1 + 1, 0, none⟩), .int .i64 z.1, .agg #[.slice (some ⟨b, off, none⟩) ns.length cap], .pointer (some ⟨w.heap.size + 1 + 1, 0, none⟩), .pointer (some ⟨w.heap.size + 1 + 1, 0, none⟩), .int .i64 x, .func (.func 116) #[] #[.pointer (some ⟨w.heap.size + 1 + 1 + 1 + 1 + 1, 0, none⟩), .pointer (some ⟨w.heap.size + 1 + 1 + 1 + 1, 0, none⟩)], .int .i64 z.1, undef, undef, undef, undef, undef, undef, undef], defers := [] }) ?assign ?body ?done ?stop
  case assign =>
    intro l z W K hK
    gi_wp2
    exact hK
  case body =>
    rintro l pre z W ⟨⟨hp, ⟨n0, n1, n2, n3⟩, hcy, hcr, hfr, hsz⟩, hB⟩ _
    have hSb := HH.out z W hB
    have HB := hid hB
    clear hB
    cases hd : decide (y ∈ allD ns z.1) with
    | false =>
      rw [hd] at hSb
      have Hz := hid (of_decide_eq_false hd)
      clear hd
      gi_wp2
      refine ⟨trivial, (callsIn_wide.2 hSb).mono ?_⟩
      rintro e v3 ⟨rfl, hb3⟩
      have hko : KeepsOthers W v3 := KeepsOthers.of_grownBy (grown_of_below hb3) (fun j o ej _ => by cases ej)
      have k0 := cell_kept n0 (grown_of_below hb3) (fun r e => by cases e)
      have k1 := cell_kept n1 (grown_of_below hb3) (fun r e => by cases e)
      have k2 := cell_kept n2 (grown_of_below hb3) (fun r e => by cases e)
      have k3 := cell_kept n3 (grown_of_below hb3) (fun r e => by cases e)
      have k4 := cell_kept hcy (grown_of_below hb3) (fun r e => by cases e)
      have hcr3 := cell_kept hcr (grown_of_below hb3) (fun r e => by cases e)
      have hfr3 := (frozen_kept hcr (grown_of_below hb3) (fun r e => by cases e)).trans hfr
      have HB3' := hid (HB.out.trans (hb3.mono HB.out.size))
      clear hSb
      gi_wp2
      refine ⟨hko, hb3.mono hsz, ⟨fun u hu => ?_, ⟨k0, k1, k2, k3⟩, k4, hcr3, hfr3, Nat.le_trans hsz hb3.size⟩, HB3'.out⟩
      rcases List.mem_append.1 hu with a | a
      · exact hp u a
      · rw [List.mem_singleton.1 a]; exact Hz.out
    | true =>
      rw [hd] at hSb
      have Hz := hid (of_decide_eq_true hd)
      clear hd
      gi_wp2
      refine ⟨trivial, (callsIn_wide.2 hSb).mono ?_⟩
      rintro e v3 ⟨rfl, hb3⟩
      have hko : KeepsOthers W v3 := KeepsOthers.of_grownBy (grown_of_below hb3) (fun j o ej _ => by cases ej)
      have hcr3 := cell_kept hcr (grown_of_below hb3) (fun r e => by cases e)
      have hfr3 := (frozen_kept hcr (grown_of_below hb3) (fun r e => by cases e)).trans hfr
      have HB3' := hid (HB.out.trans (hb3.mono HB.out.size))
      clear hSb
      gi_wp2
      exact ⟨hko.trans (KeepsOthers.setCell _ _ _), ⟨rfl, pre, z, rfl, hp, Hz.out, World.cell?_setCell_same' _ _ _ (by rw [hcr3]; rfl)⟩, HB3'.out.setCell (p := ⟨w.heap.size + 1 + 1 + 1, 0, none⟩) (by show w.heap.size ≤ w.heap.size + 1 + 1 + 1; omega) _⟩
  case done =>
    rintro D ys W hD hys ⟨⟨hp, _, _, hcr, hfr, _⟩, hB⟩ hK
    have hf0 : commD ns x y = 0 := by
      unfold commD
      rw [← hys]
      refine firstB_none _ _ (fun u hu => ?_)
      obtain ⟨t, ht, rfl⟩ := List.mem_map.1 hu
      exact if_neg (hp t ht)
    gi_wp2
    have hK' := (KeepsOthers.setCell W ⟨w.heap.size + 1 + 1 + 1, 0, none⟩ (.int .i64 0)).same D _ hK rfl
    refine ⟨by simp, .inl ⟨_, _, rfl, run_takeDeferred hK', ?_⟩⟩
    have hc5 := cell_kept (World.cell?_setCell_same' W ⟨w.heap.size + 1 + 1 + 1, 0, none⟩ (.int .i64 0) (by rw [hcr]; rfl)) (grownBy_putObj' _ D (.deferred none)) (fun r e => by cases e; exact ⟨_, hK', rfl⟩)
    refine ⟨.int .i64 0, ?_, by rw [hf0], (hB.setCell (p := ⟨w.heap.size + 1 + 1 + 1, 0, none⟩) (by show w.heap.size ≤ w.heap.size + 1 + 1 + 1; omega) _).trans (belowK_b (w := w) (Nat.le_refl _) _ D _ _ (by rw [sx] at hD; omega) hK' rfl rfl)⟩
    simp [results, Tryz.f59, go_sem, hc5]
  case stop =>
    rintro D cc pre W hD hpre ⟨⟨rfl, p0, z, rfl, hp, hz, hcr⟩, hB⟩ hK
    have hf0 : commD ns x y = z.1 := by
      obtain ⟨t, ht⟩ := hpre
      unfold commD
      rw [← ht, List.map_append, List.append_assoc]
      have hz0 : z.1 ≠ 0 := by have := there_natB z.2; omega
      have e := firstB_prefix (fun u => if y ∈ allD ns u then u else 0) (p0.map (·.1)) z.1 t (fun u hu => by
        obtain ⟨q, hq, rfl⟩ := List.mem_map.1 hu
        exact if_neg (hp q hq)) (by show (if y ∈ allD ns z.1 then z.1 else 0) ≠ 0; rw [if_pos hz]; exact hz0)
      refine e.trans ?_
      show (if y ∈ allD ns z.1 then z.1 else 0) = z.1
      rw [if_pos hz]
    gi_wp2
    refine ⟨by simp, .inl ⟨_, _, rfl, run_takeDeferred hK, ?_⟩⟩
    have hc5 := cell_kept hcr (grownBy_putObj' _ D (.deferred none)) (fun r e => by cases e; exact ⟨_, hK, rfl⟩)
    refine ⟨.int .i64 z.1, ?_, by rw [hf0], hB.trans (belowK_b (w := w) (Nat.le_refl _) W D _ _ (by rw [sx] at hD; omega) hK rfl rfl)⟩
    simp [results, Tryz.f59, go_sem, hc5]
end Go.Proofs.YtilacgcjbdkphaaGreat

namespace Go.Proofs.YtilacgcjbdkphaaGreat
open Go.RowKit Go.Lib Go.Shelf

def uV (n : Nat) : Value := .int .u16 (n : Int)
theorem info_u16N : (Tryz.prog.info? 70).map (fun i => (i.zero, i.size, i.bytes)) = some (some (.int .u16 0), 1, 2) := by kernel_rfl
/-- Units that are put behind a row of the call's own. -/
theorem run_append_rdIN (w : World) (B : Nat) (v src : Value) (done us : List Nat) (ty : TypeId) (hown : w.ownsRow B 70 1 v done.length (done.map uV)) (hB : B ≤ w.heap.size) (hr : RdN w src us) (hn : done.length + us.length ≤ 4398046511104) :
    ∃ v' w', (Builtin.append_ #[53, 53] ty #[v, src]).run Tryz.prog w = .ok v' w' ∧ w'.ownsRow B 70 1 v' (done ++ us).length ((done ++ us).map uV) ∧ w.grownBy w' v.ownBlock := by
  obtain ⟨i0, hi, hz0, hz1, hz2⟩ := info_parts info_u16N
  have hcase : (∃ cap, src = .slice none 0 cap ∧ us = []) ∨ ∃ a cap, src = .slice (some a) us.length cap ∧ (∀ (j : Nat) (h : j < us.length), w.cell? (a.add j) = some (uV us[j])) := by
    obtain ⟨o, cap, rfl, _, g⟩ := hr
    by_cases h0 : us.length = 0
    · have hn : us = [] := List.eq_nil_of_length_eq_zero h0
      subst hn
      cases o with
      | none => exact .inl ⟨cap, rfl, rfl⟩
      | some a => exact .inr ⟨a, cap, rfl, fun j hj => by simp at hj⟩
    · obtain ⟨b, off, rfl, _, ha⟩ := g (by omega)
      refine .inr ⟨⟨b, off, none⟩, cap, rfl, fun j hj => ?_⟩
      have e : (⟨b, off, none⟩ : Addr).add j = ⟨b, off + j, none⟩ := by simp [Addr.add]
      rw [e]
      exact ha j hj
  rcases hcase with ⟨cap, rfl, rfl⟩ | ⟨a, cap, rfl, hc⟩
  · refine ⟨v, w, ?_, by simpa using hown, ⟨rfl, rfl, rfl, Nat.le_refl _, fun _ _ _ => rfl⟩⟩
    rcases hown.2 with ⟨hv, _⟩ | ⟨g, c, cur, hv, _, hg, hnc, _⟩
    · subst hv
      have hs := Src.ofNil (P := Tryz.prog) w (size := i0.size) Tryz.underlying53 cap
      simp [Builtin.append_, run_underlying Tryz.underlying53, sizeOf, typeInfo, hi, Builtin.lenOf]
      rw [hs.cells]
      rfl
    · subst hv
      have hs := Src.ofNil (P := Tryz.prog) w (size := i0.size) Tryz.underlying53 cap
      have h := run_append_room_src w 53 53 ty 70 i0 Tryz.underlying53 hi g 0 done.length c (.slice none 0 cap) 0 [] hs (by omega) (fun j hj => by simp at hj) (fun j hj => by simp at hj)
      exact h
  · obtain ⟨v', w', h1, h2, h3, _⟩ := run_append_own (P := Tryz.prog) w B 53 ty 70 i0 (.int .u16 0) 1 2 Tryz.underlying53 hi hz0 hz1 hz2 rfl (by decide) v done.length (done.map uV) hown a us.length cap (us.map uV) (by simp) (fun j u hj => by
      rw [List.getElem?_map] at hj
      obtain ⟨x, hx, rfl⟩ := Option.map_eq_some_iff.1 hj
      obtain ⟨hj', rfl⟩ := List.getElem?_eq_some_iff.1 hx
      exact hc j hj') (fun u hu => by obtain ⟨x, _, rfl⟩ := List.mem_map.1 hu; rfl) (by unfold maxLen; omega) (by omega) hB
    exact ⟨v', w', h1, by simpa using h2, h3⟩

theorem below_grownIN {B : Nat} {w w1 : World} {v : Value} {n : Nat} {xs : List Value} (hown : w.ownsRow B 70 1 v n xs) (hB : B ≤ w.heap.size) (hg : w.grownBy w1 v.ownBlock) : Below B w w1 :=
  (Below.refl B w).grown hg hB (fun j hj => (hown.lt j hj).1)

set_option maxRecDepth 100000 in
set_option maxHeartbeats 1000000 in
theorem grow_nilN (n : Nat) (w : World) (hn : n ≤ 1099511627776) :
    Calls Tryz.prog 119 #[.slice none 0 0, .int .i64 n] w fun e w' => ∃ v, e = .returned v ∧ w'.ownsRow w.heap.size 70 1 v 0 (([] : List Nat).map uV) ∧ Below w.heap.size w w' := by
  obtain ⟨i0, hi, hz0, hz1, hz2⟩ := info_parts info_u16N
  by_cases h0 : n = 0
  · subst h0
    go_enter Tryz.func119, Tryz.ntmps119
    go_wp2
    go_ret
    exact ⟨_, rfl, World.ownsRow_nil _ _ _ _, Below.refl _ _⟩
  · have h1 : ¬ ((n : Int) < 0) := by omega
    have h2 : (0 : Int) < (n : Int) := by omega
    have hold : (Builtin.firstCells i0.size 0 (.slice none 0 0)).run Tryz.prog w.drew = .ok ([] : List Value).toArray w.drew := run_firstCells_none w.drew i0.size 0 0 0
    have hap := fun ty => run_append_grow_zeros (P := Tryz.prog) w 53 3 ty 70 i0 (.int .u16 0) .i64 .i64 Tryz.underlying53 Tryz.underlying3 hi hz0 none 0 0 [] hold n (by omega) (by omega) (by omega) (by omega) (by rw [hz2]; omega) (growslice_fits (by omega) (by rw [hz2]; omega))
    have hge := grownCap_ge w (0 + n) 0 70
    have hlm := grownCap_le_maxLen w (0 + n) 0 70 (by unfold maxLen; omega)
    generalize grownCap w (0 + n) 0 70 = G at *
    have hcs : (([] : List Value).toArray ++ Builtin.zeroCells (Value.int .u16 0).cells n ++ Builtin.zeroCells (Value.int .u16 0).cells (G - (0 + n))).size = G := by
      simp [Builtin.zeroCells, Value.cells]
      omega
    generalize ([] : List Value).toArray ++ Builtin.zeroCells (Value.int .u16 0).cells n ++ Builtin.zeroCells (Value.int .u16 0).cells (G - (0 + n)) = C at *
    have hown : ((w.drew).alloc (.cells C 70)).ownsRow w.heap.size 70 1 (.slice (some ⟨w.heap.size, 0, none⟩) 0 G) 0 (([] : List Nat).map uV) :=
      ⟨rfl, .inr ⟨w.heap.size, G, C, rfl, Nat.le_refl _, heap_new w.drew _, Nat.zero_le _, hlm, by omega, rfl⟩⟩
    simp only [Nat.zero_add] at hap hge
    unfold maxLen at hlm
    go_enter Tryz.func119, Tryz.ntmps119
    go_wp2_with (at_builtin; refine wpList_append_run _ rfl _ _ 53 3 rfl _ _ rfl rfl _ _ (hap _) ?_)
    go_ret
    exact ⟨_, rfl, hown, ((Below.refl _ w).drew).alloc (Nat.le_refl _) _⟩

/-- Strings of units that lie one behind the other. -/
def CellsLIN (w : World) (g : Nat) (L : List (Value × List Nat)) : Prop := ∀ (j : Nat) (h : j < L.length), w.cell? ⟨g, j, none⟩ = some L[j].1 ∧ RdN w L[j].1 L[j].2
theorem CellsLIN.later {w W : World} {g : Nat} {L : List (Value × List Nat)} (h : CellsLIN w g L) (hg : g < w.heap.size) (hb : Below w.heap.size w W) : CellsLIN W g L := fun j hj =>
  ⟨(hb.cell (p := ⟨g, j, none⟩) hg).trans (h j hj).1, (h j hj).2.later hb⟩
def sumLN (L : List (Value × List Nat)) : Nat := (L.map (·.2.length)).sum
def catLN (L : List (Value × List Nat)) : List Nat := L.flatMap (·.2)
theorem catL_lenN (L : List (Value × List Nat)) : (catLN L).length = sumLN L := by
  simp [catLN, sumLN, List.length_flatMap]
theorem take_stepN (L : List (Value × List Nat)) (k : Nat) (h : k < L.length) : L.take (k + 1) = L.take k ++ [L[k]] := by
  rw [List.take_add_one, List.getElem?_eq_getElem h]
  rfl
theorem sum_stepN (L : List (Value × List Nat)) (k : Nat) (h : k < L.length) : sumLN (L.take (k + 1)) = sumLN (L.take k) + L[k].2.length := by
  unfold sumLN
  rw [take_stepN L k h, List.map_append, List.sum_append, List.map_cons, List.map_nil, List.sum_cons, List.sum_nil, Nat.add_zero]
theorem cat_stepN (L : List (Value × List Nat)) (k : Nat) (h : k < L.length) : catLN (L.take (k + 1)) = catLN (L.take k) ++ L[k].2 := by
  unfold catLN
  rw [take_stepN L k h, List.flatMap_append, List.flatMap_cons, List.flatMap_nil, List.append_nil]
theorem sum_leN (L : List (Value × List Nat)) (k : Nat) : sumLN (L.take k) ≤ sumLN L := by
  have h : sumLN L = sumLN (L.take k) + sumLN (L.drop k) := by
    unfold sumLN
    rw [← List.sum_append, ← List.map_append, List.take_append_drop]
  omega

set_option maxRecDepth 100000 in
set_option maxHeartbeats 2000000 in
theorem concat_anyN (o : Option Addr) (cap : Nat) (L : List (Value × List Nat)) (w : World) (hg : 0 < L.length → ∃ g, o = some ⟨g, 0, none⟩ ∧ g < w.heap.size ∧ CellsLIN w g L) (hl : L.length ≤ 1000000) (hs : sumLN L ≤ 1099511627776) :
    Calls Tryz.prog 100 #[.slice o L.length cap] w fun e w' => ∃ v, e = .returned v ∧ w'.ownsRow w.heap.size 70 1 v (catLN L).length ((catLN L).map uV) ∧ Below w.heap.size w w' := by
  have HG : Hid (∀ n W, n ≤ 1099511627776 → _) := grow_nilN
  go_enter Tryz.func100, Tryz.ntmps100
  go_wp2
  go_loopw [3, 11] (fun sz i wr => ∃ k : Nat, k ≤ L.length ∧ i = .int .i64 k ∧ sz = .int .i64 (sumLN (L.take k)) ∧ w = wr) (fun _ i _ => L.length - (RowKit.intOf i).toNat)
  case atStart => exact ⟨0, Nat.zero_le _, rfl, rfl, rfl⟩
  case round =>
    obtain ⟨k, hk, rfl, rfl, rfl⟩ := hrel
    by_cases hlt : k < L.length
    · obtain ⟨g, rfl, hg2, hc⟩ := hg (by omega)
      obtain ⟨hx, hrd⟩ := hc k hlt
      clear hg
      have hst := sum_stepN L k hlt
      have hle := sum_leN L (k + 1)
      obtain ⟨o, c, hv, -⟩ := hrd
      rw [hv] at hx
      generalize L[k].2.length = m at *
      generalize sumLN (L.take k) = a at *
      have q : ¬ ((a : Int) + (m : Int) < 0) := by omega
      go_wp2
      go_roundw
      case rel => exact ⟨k + 1, by omega, by go_num, by rw [hst]; go_num, trivial⟩
      case measure => simp [RowKit.intOf]; omega
    · have hkl : k = L.length := by omega
      subst hkl
      rw [List.take_length]
      have hG := HG.out (sumLN L) w (by omega)
      go_wp2_with (go_at_call 119; refine hG.mono ?_; rintro e w1 ⟨v1, rfl, ho1, hb1⟩)
      go_loopw [6, 27] (fun v i wr => ∃ k : Nat, k ≤ L.length ∧ i = .int .i64 k ∧ wr.ownsRow w.heap.size 70 1 v (catLN (L.take k)).length ((catLN (L.take k)).map uV) ∧ Below w.heap.size w wr) (fun _ i _ => L.length - (RowKit.intOf i).toNat)
      case atStart => exact ⟨0, Nat.zero_le _, rfl, ho1, hb1⟩
      case round =>
        obtain ⟨k, hk, rfl, ho, hb⟩ := hrel
        by_cases hlt : k < L.length
        · obtain ⟨g, rfl, hg2, hc⟩ := hg (by omega)
          obtain ⟨hx, hrd⟩ := hc.later hg2 hb k hlt
          clear hg
          have hst := cat_stepN L k hlt
          have hss := sum_stepN L k hlt
          have hle := sum_leN L (k + 1)
          have hcl := catL_lenN (L.take k)
          obtain ⟨v', w', h1, h2, h3⟩ := run_append_rdIN wr w.heap.size _ _ _ _ 53 ho hb.size hrd (by rw [hcl]; omega)
          have hb2 := hb.trans (below_grownIN ho hb.size h3)
          rw [← hst] at h2
          generalize L[k].1 = x at *
          go_wp2_with (at_builtin; refine wpList_append_run _ rfl _ _ 53 53 rfl _ _ rfl rfl _ _ h1 ?_)
          go_roundw
          case rel => exact ⟨k + 1, by omega, by go_num, h2, hb2⟩
          case measure => simp [RowKit.intOf]; omega
        · have hkl : k = L.length := by omega
          subst hkl
          rw [List.take_length] at ho
          go_wp2
          go_ret
          exact ⟨_, rfl, ho, hb⟩
end Go.Proofs.YtilacgcjbdkphaaGreat

namespace Go.Proofs.YtilacgcjbdkphaaGreat
open Go.RowKit Go.Lib Go.Shelf

def textK (k : Nat) : Bool := k == 3 || k == 4
/-- Is a node a text? Its data. -/
def textB (ns : List NodeD) (x : Int) : Bool := match nodeOf ns x with
  | some n => textK n.kind
  | none => false
def dataD (ns : List NodeD) (x : Int) : List Nat := match nodeOf ns x with
  | some n => n.data
  | none => []
/-- The text of a range (but of one text). -/
def textD (ns : List NodeD) (p q : Int × Int) : List Nat :=
  (if textB ns p.1 then (dataD ns p.1).drop p.2.toNat else []) ++ ((allD ns (commD ns p.1 q.1)).filter (fun h => textB ns h && contD ns p q h)).flatMap (dataD ns) ++ (if textB ns q.1 then (dataD ns q.1).take q.2.toNat else [])

set_option maxRecDepth 100000 in
set_option maxHeartbeats 4000000 in
theorem isText_any (b off cap j : Nat) (ns : List NodeD) (w : World) (hF : FAt w b off cap ns) (hj : j < ns.length) :
    Calls Tryz.prog 98 #[.agg #[.slice (some ⟨b, off, none⟩) ns.length cap], .int .i64 ((j : Int) + 1)] w fun e w' => e = .returned (.bool (textB ns ((j : Int) + 1))) ∧ Below w.heap.size w w' := by
  have hle := hF.len
  have hb : textB ns ((j : Int) + 1) = textK ns[j].kind := by unfold textB; rw [nodeOf_at ns j hj]
  rw [hb]
  obtain ⟨Ls, hc, _⟩ := hF.at_ j hj
  have bx : Below w.heap.size w (w.alloc (.cells #[.slice (some ⟨b, off, none⟩) ns.length cap] 24)) := (Below.refl _ w).alloc (Nat.le_refl _) _
  have n0 := (hc.later hF.lt bx).kind
  have q1 : (0 : Int) ≤ (j : Int) := by omega
  have q2 : (j : Int) < (ns.length : Int) := by omega
  have HB := hid bx
  have e3 : ((ns[j].kind : Int) == 3) = (ns[j].kind == 3) := beq_cast ns[j].kind 3
  have e4 : ((ns[j].kind : Int) == 4) = (ns[j].kind == 4) := beq_cast ns[j].kind 4
  unfold textK
  clear hF hc hb bx
  generalize ns[j].kind = k at *
  cases h3 : (k == 3) with
  | true =>
    rw [h3] at e3
    go_enter Tryz.func98, Tryz.ntmps98
    go_wp2
    go_ret
    exact ⟨rfl, HB.out⟩
  | false =>
    rw [h3] at e3
    generalize (k == 4) = K at *
    go_enter Tryz.func98, Tryz.ntmps98
    go_wp2
    go_ret
    exact ⟨rfl, HB.out⟩
theorem info_unitsB : (Tryz.prog.info? 53).map (fun i => (i.zero, i.size, i.bytes)) = some (some (.slice none 0 0), 1, 24) := by kernel_rfl
theorem one_cellG (W : World) (s : Value) (t : TypeId) : ∀ (j : Nat) (u : Value), [s][j]? = some u → (W.alloc (.cells #[s] t)).cell? ((⟨W.heap.size, 0, none⟩ : Addr).add j) = some u := fun j u hj => by
  have h0 : j = 0 := by
    match j, hj with
    | 0, _ => rfl
  subst h0
  have e : s = u := by simpa using hj
  subst e
  have ea : (⟨W.heap.size, 0, none⟩ : Addr).add 0 = ⟨W.heap.size, 0, none⟩ := by simp [Addr.add]
  rw [ea]
  exact (box_cell_l (heap_new W _)).1
/-- A part more. -/
theorem push_part (W : World) (B : Nat) (v : Value) (L : List (Value × List Nat)) (o2 : Option Addr) (n2 c2 : Nat) (us : List Nat) (hown : W.ownsRow B 53 1 v L.length (L.map (·.1))) (hB : B ≤ W.heap.size) (hn : L.length ≤ 1000000000) :
    ∃ o cp w', (∀ ty, (Builtin.append_ #[132, 132] ty #[v, .slice (some ⟨W.heap.size, 0, none⟩) 1 1]).run Tryz.prog (W.alloc (.cells #[.slice o2 n2 c2] 53)) = .ok (.slice o (L ++ [(Value.slice o2 n2 c2, us)]).length cp) w') ∧ w'.ownsRow B 53 1 (.slice o (L ++ [(Value.slice o2 n2 c2, us)]).length cp) (L ++ [(Value.slice o2 n2 c2, us)]).length ((L ++ [(Value.slice o2 n2 c2, us)]).map (·.1)) ∧ Below B W w' := by
  obtain ⟨i0, hi, hz0, hz1, hz2⟩ := info_parts info_unitsB
  have hA : Below W.heap.size W (W.alloc (.cells #[.slice o2 n2 c2] 53)) := (Below.refl _ W).alloc (Nat.le_refl _) _
  have hO := hown.alloc (.cells #[.slice o2 n2 c2] 53)
  obtain ⟨v', w', h1, h2, h3, _⟩ := run_append_own (P := Tryz.prog) (W.alloc (.cells #[.slice o2 n2 c2] 53)) B 132 0 53 i0 (.slice none 0 0) 1 24 Tryz.underlying132 hi hz0 hz1 hz2 rfl (by decide) v L.length (L.map (·.1)) hO ⟨W.heap.size, 0, none⟩ 1 1 [.slice o2 n2 c2] rfl (one_cellG W _ _) (fun u hu => by rw [List.mem_singleton.1 hu]; rfl) (by unfold maxLen; omega) (by omega) (Nat.le_trans hB hA.size)
  have e1 : (L ++ [(Value.slice o2 n2 c2, us)]).map (·.1) = L.map (·.1) ++ [.slice o2 n2 c2] := by rw [List.map_append]; rfl
  have e2 : (L ++ [(Value.slice o2 n2 c2, us)]).length = L.length + 1 := by rw [List.length_append]; rfl
  obtain ⟨o, cp, rfl⟩ := own_shapeB h2
  rw [e1, e2]
  exact ⟨o, cp, w', fun ty => h1, h2, (hA.mono hB).trans ((Below.refl B _).grown h3 (Nat.le_trans hB hA.size) (fun k hk => (hO.lt k hk).1))⟩
end Go.Proofs.YtilacgcjbdkphaaGreat

namespace Go.Proofs.YtilacgcjbdkphaaGreat
open Go.RowKit Go.Lib Go.Shelf

/-- A part of units, from a place on. -/
theorem slice_from {w : World} {od : Option Addr} {cd : Nat} {us : List Nat} {c : Nat} (hr : RdN w (.slice od us.length cd) us) (h : c ≤ us.length) :
    RdN w (.slice (if cd = c then od else od.map (·.add c)) (us.length - c) (cd - c)) (us.drop c) := by
  obtain ⟨o, cap, e, hc, g⟩ := hr
  simp only [Value.slice.injEq, true_and] at e
  obtain ⟨rfl, rfl⟩ := e
  refine ⟨_, _, by rw [List.length_drop], by rw [List.length_drop]; omega, fun hp => ?_⟩
  rw [List.length_drop] at hp
  obtain ⟨b, off, rfl, hlt, ha⟩ := g (by omega)
  have hne : ¬ cd = c := by omega
  refine ⟨b, off + c, ?_, hlt, fun j hj => ?_⟩
  · rw [if_neg hne]
    simp [Addr.add]
  · rw [List.length_drop] at hj
    rw [show off + c + j = off + (c + j) by omega, ha (c + j) (by omega)]
    simp [List.getElem_drop]
end Go.Proofs.YtilacgcjbdkphaaGreat

namespace Go.Proofs.YtilacgcjbdkphaaGreat
open Go.RowKit Go.Lib Go.Shelf

theorem comm_there {ns : List NodeD} (h : RightF ns) {x y : Int} (hx : thereB ns.length x = true) (hy : thereB ns.length y = true) (hr : rootP ns x = rootP ns y) : thereB ns.length (commD ns x y) = true := by
  have key : ∀ l : List Int, (∀ z ∈ l, thereB ns.length z = true) → (∃ z ∈ l, y ∈ allD ns z) → thereB ns.length (firstD (fun z => if y ∈ allD ns z then z else 0) l) = true := by
    intro l
    induction l with
    | nil => rintro _ ⟨z, hz, _⟩; cases hz
    | cons u l ih =>
      intro ht ⟨z, hz, hm⟩
      rw [firstD]
      by_cases hu : y ∈ allD ns u
      · have hu0 : u ≠ 0 := by have := there_natB (ht u (List.mem_cons_self ..)); omega
        rw [if_pos hu, beq_eq_false_iff_ne.2 hu0]
        exact ht u (List.mem_cons_self ..)
      · rw [if_neg hu]
        refine ih (fun v hv => ht v (List.mem_cons_of_mem _ hv)) ?_
        rcases List.mem_cons.1 hz with rfl | hz
        · exact absurd hm hu
        · exact ⟨z, hz, hm⟩
  obtain ⟨a, _, c⟩ := root_up h _ x (Nat.le_refl _) hx
  refine key _ (fun z hz => (pathUp_mem h hx hz).1) ⟨_, c, ?_⟩
  have := (rootP_there h hy).2.2
  rw [← hr] at this
  exact this
/-- What is asked for the text. -/
structure TextC (ns : List NodeD) (w : World) (b off cap bR bF bL : Nat) (x : Int) (c : Nat) (y : Int) (d : Nat) : Prop where
  text : ∀ h, thereB ns.length h = true → ∀ V : World, Below w.heap.size w V → Calls Tryz.prog 98 #[.agg #[.slice (some ⟨b, off, none⟩) ns.length cap], .int .i64 h] V fun e w' => e = .returned (.bool (textB ns h)) ∧ Below V.heap.size V w'
  cont : ∀ h, thereB ns.length h = true → ∀ V : World, Below w.heap.size w V → Calls Tryz.prog 62 #[.agg #[.slice (some ⟨b, off, none⟩) ns.length cap, .slice (some ⟨bR, 0, none⟩) (ns.length + 1) (ns.length + 1), .slice (some ⟨bF, 0, none⟩) (ns.length + 1) (ns.length + 1), .slice (some ⟨bL, 0, none⟩) (ns.length + 1) (ns.length + 1)], .agg #[.int .i64 x, .int .i64 (c : Int), .int .i64 y, .int .i64 (d : Int)], .int .i64 h] V fun e w' => e = .returned (.bool (contD ns (x, (c : Int)) (y, (d : Int)) h)) ∧ Below V.heap.size V w'
  comm : ∀ V : World, Below w.heap.size w V → Calls Tryz.prog 59 #[.agg #[.slice (some ⟨b, off, none⟩) ns.length cap], .agg #[.slice (some ⟨b, off, none⟩) ns.length cap, .slice (some ⟨bR, 0, none⟩) (ns.length + 1) (ns.length + 1), .slice (some ⟨bF, 0, none⟩) (ns.length + 1) (ns.length + 1), .slice (some ⟨bL, 0, none⟩) (ns.length + 1) (ns.length + 1)], .agg #[.int .i64 x, .int .i64 (c : Int), .int .i64 y, .int .i64 (d : Int)]] V fun e w' => e = .returned (.int .i64 (commD ns x y)) ∧ Below V.heap.size V w'
  all : ∀ V : World, Below w.heap.size w V → Calls Tryz.prog 73 #[.agg #[.slice (some ⟨b, off, none⟩) ns.length cap], .int .i64 (commD ns x y)] V fun e w' => ∃ o2 c2, e = .returned (.tuple #[.slice o2 (allD ns (commD ns x y)).length c2, .int .i64 0]) ∧ RdI w' (.slice o2 (allD ns (commD ns x y)).length c2) (allD ns (commD ns x y)) ∧ Below V.heap.size V w'
  alls : ∀ h ∈ allD ns (commD ns x y), thereB ns.length h = true
  few : (allD ns (commD ns x y)).length ≤ 4096
  node : ∀ h, thereB ns.length h = true → ∃ (k : Nat) (od : Option Addr) (cd : Nat), h = (k : Int) + 1 ∧ k < ns.length ∧ RdN w (.slice od (dataD ns h).length cd) (dataD ns h) ∧ (dataD ns h).length ≤ 16384 ∧ (∀ V, Below w.heap.size w V → V.cell? ⟨b, off + k * 16 + 6, none⟩ = some (.slice od (dataD ns h).length cd))
theorem textC_of (b off cap bR bF bL : Nat) (x : Int) (c : Nat) (y : Int) (d : Nat) (ns : List NodeD) (w : World) (hR : RightF ns) (hF : FAt w b off cap ns) (hkl : ∀ (i : Nat) (hi : i < ns.length), ns[i].kids.length ≤ 1099511627776) (hal : ∀ (i : Nat) (hi : i < ns.length), ns[i].attrs.length ≤ 1099511627776) (hN : NumsAt ns w bR bF bL) (hp : isPt ns (x, (c : Int))) (hq : isPt ns (y, (d : Int))) (hroot : rootP ns x = rootP ns y) : TextC ns w b off cap bR bF bL x c y d where
  text := fun h hh V hV => by
    obtain ⟨k, hk, rfl⟩ := there_idx hh
    exact isText_any b off cap k ns V (hF.later hV) hk
  cont := fun h hh V hV => by
    obtain ⟨k, hk, rfl⟩ := there_idx hh
    obtain ⟨i, hi, rfl⟩ := there_idx hp.1
    obtain ⟨j, hj, rfl⟩ := there_idx hq.1
    obtain ⟨R, F, L, hNl⟩ := (hN.later hV).lists
    rw [← cont_pos hR hNl.num hp hq (there_of hk) hroot]
    exact pContained_any b off cap bR bF bL i j k c d ns R F L V hR (hF.later hV) hNl hi hj hk hp hq
  comm := fun V hV => bCommon_any b off cap bR bF bL x c y d ns V hR (hF.later hV) (hN.later hV) hp.1 hq.1
  all := fun V hV => by
    have ht := comm_there hR hp.1 hq.1 hroot
    have e0 : toldE ns [commD ns x y] = 0 := toldE_ok ((rightD_iff ns).2 hR) (by simp [ht])
    have hfew : (allD ns (commD ns x y)).length ≤ 4096 := Nat.le_trans (hR.kidsHang.below_len (ns.length + 1) _ ht (by omega)) hR.small
    refine (All_any (some ⟨b, off, none⟩) cap (commD ns x y) ns V ⟨hF.len, fun _ => ⟨b, off, rfl, hF.later hV⟩⟩ hkl hal (fun _ => by omega)).mono ?_
    rintro e w' ⟨v, rfl, ho, hb⟩
    rw [e0, if_pos rfl] at ho
    obtain ⟨o2, c2, rfl⟩ := own_shapeB ho
    exact ⟨o2, c2, by rw [e0], ownsRow_rdI ho, hb⟩
  alls := fun h hh => all_there hR (comm_there hR hp.1 hq.1 hroot) hh
  few := Nat.le_trans (hR.kidsHang.below_len (ns.length + 1) _ (comm_there hR hp.1 hq.1 hroot) (by omega)) hR.small
  node := fun h hh => by
    obtain ⟨k, hk, rfl⟩ := there_idx hh
    have hd : dataD ns ((k : Int) + 1) = ns[k].data := by unfold dataD; rw [nodeOf_at ns k hk]
    obtain ⟨Ls, hc, hd3, _, _⟩ := hF.at_ k hk
    obtain ⟨D, A, K⟩ := Ls
    simp only at hd3
    obtain ⟨od, cd, rfl, hh3⟩ := hd3
    rw [hd]
    exact ⟨k, od, cd, rfl, hk, ⟨od, cd, rfl, hh3⟩, well_dataB (hR.well k hk), fun V hV => (hc.later hF.lt hV).data⟩
theorem step_append_run {P : Program} (w : World) {ops : Array Oper} {o : Oper} {a : Act} {K : Act → World → Prop} {Q : Exit → Act → World → Prop} {E : Prop} (hgd : o.guard = none) (s x : Operand) (t tn : TypeId)
    (ho : o.op = .call { callee := .builtin .append, args := #[s, x], argTypes := #[t, tn] }) (vs vx : Value) (hs : a.eval s = vs) (hx : a.eval x = vx) (v' : Value) (w' : World) (hr : (Builtin.append_ #[t, tn] o.type #[vs, vx]).run P w = .ok v' w') (h : K (a.put o.dst v') w') :
    if Region.wanted o (yielded ops a.tmps) = true then Oper.wp P o a w K Q else E := by
  have hw : Region.wanted o (yielded ops a.tmps) = true := by simp [Region.wanted, hgd]
  rw [if_pos hw]
  exact wp_append_run w s x t tn ho vs vx hs hx v' w' hr h
theorem filter_one (p : Int → Bool) (a : Int) : [a].filter p = if p a then [a] else [] := by rw [List.filter_cons, List.filter_nil]
theorem catN_snoc (L : List (Value × List Nat)) (e : Value × List Nat) : catLN (L ++ [e]) = catLN L ++ e.2 := by
  unfold catLN
  rw [List.flatMap_append, List.flatMap_cons, List.flatMap_nil, List.append_nil]
theorem parts_cells {W : World} {base : Nat} {o : Option Addr} {cp : Nat} {L : List (Value × List Nat)} (h : W.ownsRow base 53 1 (.slice o L.length cp) L.length (L.map (·.1))) (hr : ∀ e ∈ L, RdN W e.1 e.2) : 0 < L.length → ∃ g, o = some ⟨g, 0, none⟩ ∧ g < W.heap.size ∧ CellsLIN W g L := fun hp => by
  obtain ⟨_, ⟨h0, h1⟩ | ⟨g, cap, cur, h0, hg, hh, hnc, hcm, hcs, htk⟩⟩ := h
  · omega
  · simp only [Value.slice.injEq, true_and] at h0
    obtain ⟨rfl, rfl⟩ := h0
    refine ⟨g, rfl, (Array.getElem?_eq_some_iff.1 hh).1, fun j hj => ⟨?_, hr _ (List.getElem_mem hj)⟩⟩
    rw [cell_of_heap hh]
    have h1 : (cur.toList.take (L.length * 1))[j]? = some L[j].1 := by
      rw [htk, List.getElem?_map, List.getElem?_eq_getElem hj]
      rfl
    rw [List.getElem?_take] at h1
    split at h1
    · simpa using h1
    · cases h1
/-- Parts of a text, in a row of one's own. -/
structure Parts (w W1 : World) (T : List Nat) (n : Nat) (o : Option Addr) (cp : Nat) (L : List (Value × List Nat)) (wx : World) : Prop where
  own : wx.ownsRow W1.heap.size 53 1 (.slice o L.length cp) L.length (L.map (·.1))
  rd : ∀ e ∈ L, RdN w e.1 e.2 ∧ e.2.length ≤ 16384
  cat : catLN L = T
  few : L.length ≤ n
  below : Below W1.heap.size W1 wx
theorem Parts.snoc {w W1 : World} {T : List Nat} {n : Nat} {o : Option Addr} {cp : Nat} {L : List (Value × List Nat)} {wx : World} (h : Parts w W1 T n o cp L wx) {o8 : Option Addr} {c8 : Nat} {v : Value} {us T' : List Nat} {w8 : World} (ho : w8.ownsRow W1.heap.size 53 1 (.slice o8 (L ++ [(v, us)]).length c8) (L ++ [(v, us)]).length ((L ++ [(v, us)]).map (·.1))) (hr : RdN w v us) (hu : us.length ≤ 16384) (hb : Below W1.heap.size W1 w8) (hT : T ++ us = T') : Parts w W1 T' (n + 1) o8 c8 (L ++ [(v, us)]) w8 where
  own := ho
  rd := fun e he => by
    rcases List.mem_append.1 he with a | a
    · exact h.rd e a
    · rw [List.mem_singleton.1 a]
      exact ⟨hr, hu⟩
  cat := by rw [catN_snoc, h.cat]; exact hT
  few := by rw [List.length_append, List.length_singleton]; have := h.few; omega
  below := hb
theorem Parts.later {w W1 : World} {T : List Nat} {n : Nat} {o : Option Addr} {cp : Nat} {L : List (Value × List Nat)} {wx V : World} (h : Parts w W1 T n o cp L wx) (hb : Below wx.heap.size wx V) : Parts w W1 T n o cp L V := ⟨ownsRow_later h.own hb, h.rd, h.cat, h.few, h.below.trans (hb.mono h.below.size)⟩
theorem sumLN_le (L : List (Value × List Nat)) (m : Nat) (h : ∀ e ∈ L, e.2.length ≤ m) : sumLN L ≤ L.length * m := by
  unfold sumLN
  induction L with
  | nil => simp
  | cons e L ih =>
    rw [List.map_cons, List.sum_cons, List.length_cons, Nat.add_mul, Nat.one_mul]
    have := ih fun f hf => h f (List.mem_cons_of_mem _ hf)
    have := h e (List.mem_cons_self ..)
    omega

set_option maxRecDepth 100000 in
set_option maxHeartbeats 8000000 in
theorem textOf_TF (b off cap bR bF bL : Nat) (x : Int) (c : Nat) (y : Int) (d : Nat) (ns : List NodeD) (w : World) (hle : ns.length ≤ 1099511627776) (hC : TextC ns w b off cap bR bF bL x c y d) (hx : isPt ns (x, (c : Int))) (hy : isPt ns (y, (d : Int))) (hxy : x ≠ y) (tx : textB ns x = true) (ty : textB ns y = false) (lx : c ≤ (dataD ns x).length) :
    Calls Tryz.prog 68 #[.agg #[.slice (some ⟨b, off, none⟩) ns.length cap], .agg #[.slice (some ⟨b, off, none⟩) ns.length cap, .slice (some ⟨bR, 0, none⟩) (ns.length + 1) (ns.length + 1), .slice (some ⟨bF, 0, none⟩) (ns.length + 1) (ns.length + 1), .slice (some ⟨bL, 0, none⟩) (ns.length + 1) (ns.length + 1)], .agg #[.int .i64 x, .int .i64 (c : Int), .int .i64 y, .int .i64 (d : Int)]] w fun e w' => ∃ v, e = .returned (.tuple #[v, .int .i64 0]) ∧ w'.ownsRow w.heap.size 70 1 v (textD ns (x, (c : Int)) (y, (d : Int))).length ((textD ns (x, (c : Int)) (y, (d : Int))).map uV) ∧ Below w.heap.size w w' := by
  have HT1 : Hid (textD ns (x, (c : Int)) (y, (d : Int)) = (dataD ns x).drop c ++ ((allD ns (commD ns x y)).filter (fun h => textB ns h && contD ns (x, (c : Int)) (y, (d : Int)) h)).flatMap (dataD ns) ++ []) := by
    show textD ns (x, (c : Int)) (y, (d : Int)) = _
    unfold textD
    rw [tx, ty]
    rfl
  obtain ⟨bx, g0, g1, g2, sx⟩ := three_newB w (.cells #[.slice (some ⟨b, off, none⟩) ns.length cap] 24) (.cells #[.slice (some ⟨b, off, none⟩) ns.length cap, .slice (some ⟨bR, 0, none⟩) (ns.length + 1) (ns.length + 1), .slice (some ⟨bF, 0, none⟩) (ns.length + 1) (ns.length + 1), .slice (some ⟨bL, 0, none⟩) (ns.length + 1) (ns.length + 1)] 77) (.cells #[.int .i64 x, .int .i64 (c : Int), .int .i64 y, .int .i64 (d : Int)] 44)
  have HC := hid hC
  have HFew := hid hC.few
  have hX := hC.text x hx.1
  have hY := hC.text y hy.1
  rw [tx] at hX
  rw [ty] at hY
  have HX := hid hX
  have HY := hid hY
  obtain ⟨kx, odx, cdx, ex, hkx, rdx, ldx, cellx⟩ := hC.node x hx.1
  obtain ⟨ky, ody, cdy, ey, hky, rdy, ldy, celly⟩ := hC.node y hy.1
  have HNx := hid (And.intro rdx (And.intro ldx cellx))
  have HNy := hid (And.intro rdy (And.intro ldy celly))
  have HEx := hid (And.intro ex hkx)
  have HEy := hid (And.intro ey hky)
  clear hX hY rdx ldx cellx rdy ldy celly hx hy tx ty ex ey hkx hky
  generalize textD ns (x, (c : Int)) (y, (d : Int)) = TT at *
  generalize hcm : commD ns x y = cm at *
  have HC2 : Hid (TextC ns w b off cap bR bF bL x c y d ∧ commD ns x y = cm) := ⟨hC, hcm⟩
  clear hC HC hcm
  go_enter Tryz.func68, Tryz.ntmps68
  go_upto_region 1 with fail
  generalize (((w.alloc (.cells #[.slice (some ⟨b, off, none⟩) ns.length cap] 24)).alloc (.cells #[.slice (some ⟨b, off, none⟩) ns.length cap, .slice (some ⟨bR, 0, none⟩) (ns.length + 1) (ns.length + 1), .slice (some ⟨bF, 0, none⟩) (ns.length + 1) (ns.length + 1), .slice (some ⟨bL, 0, none⟩) (ns.length + 1) (ns.length + 1)] 77)).alloc (.cells #[.int .i64 x, .int .i64 (c : Int), .int .i64 y, .int .i64 (d : Int)] 44)) = W0 at *
  have f0 := (box_cell_l g0).1
  obtain ⟨n0, n1, n2, n3⟩ := sv_cells g1
  obtain ⟨a0, a1, a2, a3⟩ := rng_cells g2
  go_cut [26] (fun t wx => t = .bool false ∧ Below W0.heap.size W0 wx)
  case first =>
    have dxy : (x == y) = false := beq_eq_false_iff_ne.2 hxy
    go_wp2_with fail
    go_meet
    exact ⟨rfl, Below.refl _ _⟩
  case rest =>
    obtain ⟨rfl, hb1⟩ := hcut
    have f1 := cellLater hb1 (by omega) f0
    have bw1 := bx.trans (hb1.mono bx.size)
    have z1 := hb1.size
    go_upto_region 3 with fail
    generalize hwc : wc = Wa at *
    clear hwc
    go_cut [8, 9] (fun t u wx => ∃ o2 c2, t = .slice o2 (allD ns cm).length c2 ∧ u = .int .i64 0 ∧ RdI wx (.slice o2 (allD ns cm).length c2) (allD ns cm) ∧ Below Wa.heap.size Wa wx)
    case first =>
      have m0 := cellLater (B := w.heap.size + 1) hb1 (by omega) n0
      have m1 := cellLater (B := w.heap.size + 1) hb1 (by omega) n1
      have m2 := cellLater (B := w.heap.size + 1) hb1 (by omega) n2
      have m3 := cellLater (B := w.heap.size + 1) hb1 (by omega) n3
      have r0 := cellLater (B := w.heap.size + 1 + 1) hb1 (by omega) a0
      have r1 := cellLater (B := w.heap.size + 1 + 1) hb1 (by omega) a1
      have r2 := cellLater (B := w.heap.size + 1 + 1) hb1 (by omega) a2
      have r3 := cellLater (B := w.heap.size + 1 + 1) hb1 (by omega) a3
      have HCo : Hid (∀ V : World, Below w.heap.size w V → Calls Tryz.prog 59 #[.agg #[.slice (some ⟨b, off, none⟩) ns.length cap], .agg #[.slice (some ⟨b, off, none⟩) ns.length cap, .slice (some ⟨bR, 0, none⟩) (ns.length + 1) (ns.length + 1), .slice (some ⟨bF, 0, none⟩) (ns.length + 1) (ns.length + 1), .slice (some ⟨bL, 0, none⟩) (ns.length + 1) (ns.length + 1)], .agg #[.int .i64 x, .int .i64 (c : Int), .int .i64 y, .int .i64 (d : Int)]] V fun e w' => e = .returned (.int .i64 cm) ∧ Below V.heap.size V w') := fun V hV => by
        rw [← HC2.out.2]
        exact HC2.out.1.comm V hV
      have HAl : Hid (∀ V : World, Below w.heap.size w V → Calls Tryz.prog 73 #[.agg #[.slice (some ⟨b, off, none⟩) ns.length cap], .int .i64 cm] V fun e w' => ∃ o2 c2, e = .returned (.tuple #[.slice o2 (allD ns cm).length c2, .int .i64 0]) ∧ RdI w' (.slice o2 (allD ns cm).length c2) (allD ns cm) ∧ Below V.heap.size V w') := fun V hV => by
        have := HC2.out.1.all V hV
        rw [HC2.out.2] at this
        exact this
      refine wp_region_held_drew (S := fun V => Below Wa.heap.size Wa V) (by kernel_rfl) ((Below.refl _ _).drew) (fun hHeld => ?_)
      have HB_V0 := hid hHeld
      have HS_V0 := hid hHeld.size
      generalize Wa.drew = V0 at *
      refine oneH 0 47 (.agg #[.slice (some ⟨b, off, none⟩) ns.length cap]) hHeld ?_ ?_
      · intro V hSw; (try dsimp only at hSw); have k0 := cellLater (B := w.heap.size) hSw (by omega) f1; go_simp
      simp only [Act.put, sA, s0, sS]
      refine oneH 1 48 (.agg #[.slice (some ⟨b, off, none⟩) ns.length cap]) hHeld ?_ ?_
      · intro V hSw; (try dsimp only at hSw); have k0 := cellLater (B := w.heap.size) hSw (by omega) f1; go_simp
      simp only [Act.put, sA, s0, sS]
      refine oneH 2 49 (.agg #[.slice (some ⟨b, off, none⟩) ns.length cap, .slice (some ⟨bR, 0, none⟩) (ns.length + 1) (ns.length + 1), .slice (some ⟨bF, 0, none⟩) (ns.length + 1) (ns.length + 1), .slice (some ⟨bL, 0, none⟩) (ns.length + 1) (ns.length + 1)]) hHeld ?_ ?_
      · intro V hSw; (try dsimp only at hSw); have k0 := cellLater (B := w.heap.size + 1) hSw (by omega) m0; have k1 := cellLater (B := w.heap.size + 1) hSw (by omega) m1; have k2 := cellLater (B := w.heap.size + 1) hSw (by omega) m2; have k3 := cellLater (B := w.heap.size + 1) hSw (by omega) m3; go_simp
      simp only [Act.put, sA, s0, sS]
      refine oneH 3 50 (.agg #[.int .i64 x, .int .i64 (c : Int), .int .i64 y, .int .i64 (d : Int)]) hHeld ?_ ?_
      · intro V hSw; (try dsimp only at hSw); have k0 := cellLater (B := w.heap.size + 1 + 1) hSw (by omega) r0; have k1 := cellLater (B := w.heap.size + 1 + 1) hSw (by omega) r1; have k2 := cellLater (B := w.heap.size + 1 + 1) hSw (by omega) r2; have k3 := cellLater (B := w.heap.size + 1 + 1) hSw (by omega) r3; go_simp
      simp only [Act.put, sA, s0, sS]
      refine wpAnyH_ready (rs := [4]) (by kernel_rfl) (by simp) ?_
      refine AllReadyH.cons rfl (fun K hK => ?_) AllReadyH.nil
      go_simp
      go_wp2_with (go_at_call 59; refine (HCo.out V0 (bw1.trans (HB_V0.out.mono bw1.size))).mono ?_; rintro e V1 ⟨rfl, hb⟩; have HB_V1 := hid (HB_V0.out.trans (hb.mono HB_V0.out.size)); have HS_V1 := hid (HB_V1.out.size))
      refine hK.out _ _ HB_V1.out (fun hHeld => ?_)
      clear hK K
      refine wpAnyH_ready (rs := [5]) (by kernel_rfl) (by simp) ?_
      refine AllReadyH.cons rfl (fun K hK => ?_) AllReadyH.nil
      go_simp
      go_wp2_with (go_at_call 73; refine (HAl.out V1 (bw1.trans (HB_V1.out.mono bw1.size))).mono ?_; rintro e V2 ⟨o2, c2, rfl, hrd, hb⟩; have HB_V2 := hid (HB_V1.out.trans (hb.mono HB_V1.out.size)); have HS_V2 := hid (HB_V2.out.size))
      refine hK.out _ _ HB_V2.out (fun hHeld => ?_)
      clear hK K
      refine oneH 6 46 (.tuple #[.slice o2 (allD ns cm).length c2, .int .i64 0]) hHeld ?_ ?_
      · intro V _; go_simp
      simp only [Act.put, sA, s0, sS]
      refine oneH 7 53 (.slice o2 (allD ns cm).length c2) hHeld ?_ ?_
      · intro V _; go_simp
      simp only [Act.put, sA, s0, sS]
      refine oneH 8 54 (.int .i64 0) hHeld ?_ ?_
      · intro V _; go_simp
      simp only [Act.put, sA, s0, sS]
      refine oneH 9 8 (.slice o2 (allD ns cm).length c2) hHeld ?_ ?_
      · intro V _; go_simp
      simp only [Act.put, sA, s0, sS]
      refine oneH 10 9 (.int .i64 0) hHeld ?_ ?_
      · intro V _; go_simp
      simp only [Act.put, sA, s0, sS]
      refine wpAnyH_done (by kernel_rfl) ?_ _
      go_wp2_with fail
      go_meet
      exact ⟨o2, c2, rfl, rfl, hrd, HB_V2.out⟩
    case rest =>
      obtain ⟨o2, c2, rfl, rfl, hrd, hb3⟩ := hcut
      have hbb := hb1.trans (hb3.mono hb1.size)
      have bw := bx.trans (hbb.mono bx.size)
      have k0 := cellLater hbb (by omega) f0
      have k1 := blkLater hbb g1
      have k2 := blkLater hbb g2
      have z3 := hbb.size
      clear f0 f1 n0 n1 n2 n3 a0 a1 a2 a3 g0 g1 g2 hb1 hb3 bw1 z1
      have hAL : ∀ h ∈ allD ns cm, thereB ns.length h = true := by
        have := HC2.out.1.alls
        rw [HC2.out.2] at this
        exact this
      have hfew : (allD ns cm).length ≤ 4096 := HFew.out
      have HC := hid HC2.out.1
      clear HC2 HFew
      have HAL := hid hAL
      clear hAL
      generalize allD ns cm = AL at *
      go_upto_region 6 with fail
      generalize hwc : wc = W1 at *
      clear hwc
      go_cut [10] (fun t wx => wx = W1 ∧ ∃ o6 c6, t = .slice o6 0 c6 ∧ W1.ownsRow W1.heap.size 53 1 (.slice o6 0 c6) ([] : List (Value × List Nat)).length (([] : List (Value × List Nat)).map (·.1)))
      case first =>
        go_wp2_with fail
        go_meet
        exact ⟨rfl, none, 0, rfl, World.ownsRow_nil _ _ _ _⟩
      case rest =>
      obtain ⟨hwe, o6, c6, rfl, hO6⟩ := hcut
      have hwe := hwe.symm
      subst hwe
      have HO6 := hid hO6
      clear hO6
      go_upto_region 7 with fail
      obtain ⟨n0, n1, n2, n3⟩ := sv_cells k1
      obtain ⟨a0, a1, a2, a3⟩ := rng_cells k2
      have hXX := HX.out W1 bw
      go_wp2_with fail
      refine hXX.mono ?_
      rintro e v4 ⟨rfl, hb4⟩
      have c0 := cellLater hb4 (by omega) k0
      have HB4 := hid hb4
      have z4 := hb4.size
      clear hXX hb4
      have HPn : Hid (Parts w W1 [] 0 o6 c6 [] v4) := ⟨ownsRow_later HO6.out HB4.out, (fun e he => by cases he), rfl, Nat.le_refl _, HB4.out⟩
      obtain ⟨ex, hkk⟩ := HEx.out
      have q1 : (0 : Int) ≤ (kx : Int) := by omega
      have q2 : (kx : Int) < (ns.length : Int) := by omega
      have q4 : (0 : Int) ≤ (c : Int) := by omega
      have q5 : (c : Int) ≤ ((dataD ns x).length : Int) := by omega
      have q7 : (c : Int) ≤ (cdx : Int) := by
        obtain ⟨_, _, e, h, _⟩ := HNx.out.1
        simp only [Value.slice.injEq, true_and] at e
        omega
      have f6 : IntKind.i64.wrap (x - 1) = (kx : Int) := by rw [wrap_smallB (by omega) (by omega)]; omega
      clear ex
      go_upto_region 8 with fail
      go_cut [10] (fun t wx => ∃ (o : Option Addr) (cp : Nat) (L : List (Value × List Nat)), t = .slice o L.length cp ∧ Parts w W1 ((dataD ns x).drop c) (1) o cp L wx)
      case first =>
        refine wp_region_held_drew (S := fun V => Below W1.heap.size W1 V) (by kernel_rfl) (HB4.out.drew) (fun hHeld => ?_)
        have HB_V0 := hid hHeld
        have hOw : Hid (v4.drew.ownsRow W1.heap.size 53 1 (.slice o6 0 c6) ([] : List (Value × List Nat)).length (([] : List (Value × List Nat)).map (·.1))) := ownsRow_later HO6.out HB4.out.drew
        generalize v4.drew = V0 at *
        refine oneH 0 63 (.slice o6 0 c6) hHeld ?_ ?_
        · intro V _; go_simp
        simp only [Act.put, sA, s0, sS]
        refine oneH 1 64 (.pointer (some ⟨w.heap.size, 0, none⟩)) hHeld ?_ ?_
        · intro V _; go_simp
        simp only [Act.put, sA, s0, sS]
        refine oneH 2 65 (.slice (some ⟨b, off, none⟩) ns.length cap) hHeld ?_ ?_
        · intro V hSw; (try dsimp only at hSw); have k0 := cellLater (B := w.heap.size) hSw (by omega) k0; go_simp
        simp only [Act.put, sA, s0, sS]
        refine oneH 3 66 (.pointer (some ⟨w.heap.size + 1 + 1, 0, none⟩)) hHeld ?_ ?_
        · intro V _; go_simp
        simp only [Act.put, sA, s0, sS]
        refine oneH 4 67 (.pointer (some ⟨w.heap.size + 1 + 1, 0, none⟩)) hHeld ?_ ?_
        · intro V _; go_simp
        simp only [Act.put, sA, s0, sS]
        refine oneH 5 68 (.int .i64 x) hHeld ?_ ?_
        · intro V hSw; (try dsimp only at hSw); have k0 := cellLater (B := w.heap.size + 1 + 1) hSw (by omega) a0; go_simp
        simp only [Act.put, sA, s0, sS]
        refine oneH 6 69 (.int .i64 (kx : Int)) hHeld ?_ ?_
        · intro V _; go_simp
        simp only [Act.put, sA, s0, sS]
        refine oneH 7 70 (.pointer (some ⟨b, off + kx * 16, none⟩)) hHeld ?_ ?_
        · intro V _; go_simp
        simp only [Act.put, sA, s0, sS]
        refine oneH 8 71 (.pointer (some ⟨b, off + kx * 16 + 6, none⟩)) hHeld ?_ ?_
        · intro V _; go_simp
        simp only [Act.put, sA, s0, sS]
        refine oneH 9 72 (.slice odx (dataD ns x).length cdx) hHeld ?_ ?_
        · intro V hSw; (try dsimp only at hSw); have k9 := HNx.out.2.2 V (bw.trans (hSw.mono bw.size)); go_simp
        simp only [Act.put, sA, s0, sS]
        refine oneH 10 73 (.pointer (some ⟨w.heap.size + 1 + 1, 0, none⟩)) hHeld ?_ ?_
        · intro V _; go_simp
        simp only [Act.put, sA, s0, sS]
        refine oneH 11 74 (.pointer (some ⟨w.heap.size + 1 + 1, 1, none⟩)) hHeld ?_ ?_
        · intro V _; go_simp
        simp only [Act.put, sA, s0, sS]
        refine oneH 12 75 (.int .i64 (c : Int)) hHeld ?_ ?_
        · intro V hSw; (try dsimp only at hSw); have k0 := cellLater (B := w.heap.size + 1 + 1) hSw (by omega) a1; go_simp
        simp only [Act.put, sA, s0, sS]
        refine oneH 13 76 (.slice (if cdx = c then odx else odx.map (·.add c)) ((dataD ns x).length - c) (cdx - c)) hHeld ?_ ?_
        · intro V _; go_simp
        simp only [Act.put, sA, s0, sS]
        obtain ⟨o8, c8, w8, e8, ho8, hb8⟩ := push_part V0 W1.heap.size _ ([] : List (Value × List Nat)) (if cdx = c then odx else odx.map (·.add c)) ((dataD ns x).length - c) (cdx - c) ((dataD ns x).drop c) hOw.out HB_V0.out.size (by simp)
        refine wpAnyH_ready (rs := [14]) (by kernel_rfl) (by simp) ?_
        refine AllReadyH.cons rfl (fun K hK => ?_) AllReadyH.nil
        go_simp
        have HB_V1 := hid (HB_V0.out.alloc HB_V0.out.size (.cells #[.slice (if cdx = c then odx else odx.map (·.add c)) ((dataD ns x).length - c) (cdx - c)] 53))
        generalize V0.alloc (.cells #[.slice (if cdx = c then odx else odx.map (·.add c)) ((dataD ns x).length - c) (cdx - c)] 53) = V1 at *
        refine hK.out _ _ HB_V1.out (fun hHeld => ?_)
        clear hK K
        refine wpAnyH_ready (rs := [15]) (by kernel_rfl) (by simp) ?_
        refine AllReadyH.cons rfl (fun K hK => ?_) AllReadyH.nil
        refine step_append_run _ rfl (.tmp 63) (.tmp 77) 132 132 rfl _ _ rfl rfl _ _ (e8 _) ?_
        have HB_V2 := hid (HB_V0.out.trans hb8)
        refine hK.out _ _ HB_V2.out (fun hHeld => ?_)
        clear hK K e8
        simp only [Act.put, List.setIfInBounds_toArray]
        refine oneH 16 10 (.slice o8 (([] : List (Value × List Nat)) ++ [(Value.slice (if cdx = c then odx else odx.map (·.add c)) ((dataD ns x).length - c) (cdx - c), (dataD ns x).drop c)]).length c8) hHeld ?_ ?_
        · intro V _; go_simp
        simp only [Act.put]
        refine wpAnyH_done (by kernel_rfl) ?_ _
        go_wp2_with fail
        all_goals
          go_meet
          exact ⟨o8, c8, _, rfl, Parts.snoc HPn.out ho8 (slice_from HNx.out.1 lx) (by rw [List.length_drop]; have := HNx.out.2.1; omega) HB_V2.out rfl⟩
      case rest =>
      obtain ⟨op, cp, L, rfl, hP⟩ := hcut
      clear HPn q1 q2 q4 q5 q7 f6 hkk
      have HP := hid hP
      have HB9 := hid hP.below
      clear hP c0 HB4 z4 HO6
      have zz := HB9.out.size
      go_wp2
      go_loopw [81, 10] (fun t u wr => ∃ (k : Nat) (o : Option Addr) (cp : Nat) (L : List (Value × List Nat)), k ≤ AL.length ∧ t = .int .i64 k ∧ u = .slice o L.length cp ∧ Hid (Parts w W1 ((dataD ns x).drop c ++ ((AL.take k).filter (fun h => textB ns h && contD ns (x, (c : Int)) (y, (d : Int)) h)).flatMap (dataD ns)) (k + 1) o cp L wr)) (fun t _ _ => AL.length - (RowKit.intOf t).toNat)
      case atStart => exact ⟨0, op, cp, L, Nat.zero_le _, rfl, rfl, by
        have e0 : (dataD ns x).drop c ++ ((AL.take 0).filter (fun h => textB ns h && contD ns (x, (c : Int)) (y, (d : Int)) h)).flatMap (dataD ns) = (dataD ns x).drop c := by simp
        rw [e0]
        exact HP⟩
      case round =>
        obtain ⟨k, o9, c9, L9, hk, rfl, rfl, hP⟩ := hrel
        clear HP HB9 zz
        have hB := hP.out.below
        have hz9 := hB.size
        have bwr := bw.trans (hB.mono bw.size)
        have e0 := cellLater hB (by omega) k0
        obtain ⟨n0, n1, n2, n3⟩ := sv_cells (blkLater hB k1)
        obtain ⟨a0, a1, a2, a3⟩ := rng_cells (blkLater hB k2)
        by_cases hlt : k < AL.length
        · obtain ⟨oa, ca, eoa, hca, ga⟩ := hrd.later hB
          simp only [Value.slice.injEq, true_and] at eoa
          obtain ⟨rfl, rfl⟩ := eoa
          obtain ⟨ba, offa, rfl, hlta, haa⟩ := ga (by omega)
          have x1 := haa k hlt
          have htk : AL.take (k + 1) = AL.take k ++ [AL[k]] := by rw [List.take_add_one, List.getElem?_eq_getElem hlt]; rfl
          have hft : (AL.take (k + 1)).filter (fun h => textB ns h && contD ns (x, (c : Int)) (y, (d : Int)) h) = (AL.take k).filter (fun h => textB ns h && contD ns (x, (c : Int)) (y, (d : Int)) h) ++ (if (textB ns AL[k] && contD ns (x, (c : Int)) (y, (d : Int)) AL[k]) then [AL[k]] else []) := by
            rw [htk, List.filter_append]
            congr 1
            exact filter_one _ _
          have hth := HAL.out _ (List.getElem_mem hlt)
          have hT := HC.out.text AL[k] hth wr bwr
          have HCn := hid (HC.out.cont AL[k] hth)
          obtain ⟨kh, odh, cdh, eh, hkh, rdh, ldh, cellh⟩ := HC.out.node AL[k] hth
          have HNh := hid (And.intro eh (And.intro hkh (And.intro rdh (And.intro ldh cellh))))
          have Hft := hid hft
          have p1 : (0 : Int) ≤ (k : Int) := by omega
          have p2 : (k : Int) < (AL.length : Int) := by omega
          have dl : decide ((k : Int) < (AL.length : Int)) = true := decide_eq_true p2
          clear haa ga htk hft hth eh hkh rdh ldh cellh hca
          generalize AL[k] = h at *
          cases htb : textB ns h with
          | false =>
            rw [htb] at hT
            have HP2 : Hid (Parts w W1 ((dataD ns x).drop c ++ ((AL.take (k + 1)).filter (fun h => textB ns h && contD ns (x, (c : Int)) (y, (d : Int)) h)).flatMap (dataD ns)) (k + 1 + 1) o9 c9 L9 wr) := by
              have e := Hft.out
              rw [htb, Bool.false_and, if_neg Bool.false_ne_true, List.append_nil] at e
              show Parts _ _ _ _ _ _ _ _
              rw [e]
              exact ⟨hP.out.own, hP.out.rd, hP.out.cat, Nat.le_succ_of_le hP.out.few, hP.out.below⟩
            go_wp2_with fail
            refine hT.mono ?_
            rintro e v5 ⟨rfl, hb5⟩
            have HP3 := hid (HP2.out.later hb5)
            clear hT hb5 HP2 hP
            go_wp2
            go_roundw
            case rel => exact ⟨k + 1, o9, c9, L9, by omega, by go_num, rfl, HP3⟩
            case measure => simp [RowKit.intOf]; omega
          | true =>
            rw [htb] at hT
            have HP2 : Hid (Parts w W1 ((dataD ns x).drop c ++ ((AL.take (k + 1)).filter (fun h => textB ns h && contD ns (x, (c : Int)) (y, (d : Int)) h)).flatMap (dataD ns)) (k + 1 + 1) o9 c9 L9 wr ∨ contD ns (x, (c : Int)) (y, (d : Int)) h = true) := by
              cases hcd : contD ns (x, (c : Int)) (y, (d : Int)) h with
              | true => exact .inr rfl
              | false =>
                have e := Hft.out
                rw [htb, hcd, Bool.and_false, if_neg Bool.false_ne_true, List.append_nil] at e
                rw [e]
                exact .inl ⟨hP.out.own, hP.out.rd, hP.out.cat, Nat.le_succ_of_le hP.out.few, hP.out.below⟩
            go_wp2_with fail
            refine hT.mono ?_
            rintro e v5 ⟨rfl, hb5⟩
            have hz5 := hb5.size
            have hc5 := HCn.out v5 (bwr.trans (hb5.mono bwr.size))
            obtain ⟨m0, m1, m2, m3⟩ := sv_cells (blkLater hb5 (blkLater hB k1))
            obtain ⟨r0, r1, r2, r3⟩ := rng_cells (blkLater hb5 (blkLater hB k2))
            have HB5 := hid hb5
            clear hT hb5
            cases hcd : contD ns (x, (c : Int)) (y, (d : Int)) h with
            | false =>
              rw [hcd] at hc5
              have HP3 := hid (HP2.out.resolve_right (by rw [hcd]; exact Bool.false_ne_true))
              go_wp2_with fail
              refine hc5.mono ?_
              rintro e v6 ⟨rfl, hb6⟩
              have HP4 := hid ((HP3.out.later HB5.out).later hb6)
              clear hc5 hb6 HP3 HP2 hP
              go_wp2
              go_roundw
              case rel => exact ⟨k + 1, o9, c9, L9, by omega, by go_num, rfl, HP4⟩
              case measure => simp [RowKit.intOf]; omega
            | true =>
              rw [hcd] at hc5
              go_wp2_with fail
              refine hc5.mono ?_
              rintro e v6 ⟨rfl, hb6⟩
              have hz6 := hb6.size
              have HP5 := hid ((hP.out.later HB5.out).later hb6)
              obtain ⟨eh, hkh, rdh, ldh, cellh⟩ := HNh.out
              have c6 := cellLater hb6 (by omega) (cellLater HB5.out (by omega) e0)
              have c7 := cellh v6 (bw.trans (HP5.out.below.mono bw.size))
              have q1 : (0 : Int) ≤ (kh : Int) := by omega
              have q2 : (kh : Int) < (ns.length : Int) := by omega
              have f6 : IntKind.i64.wrap (h - 1) = (kh : Int) := by rw [wrap_smallB (by omega) (by omega)]; omega
              obtain ⟨o8, c8, w8, e8, ho8, hb8⟩ := push_part v6 W1.heap.size _ L9 odh (dataD ns h).length cdh (dataD ns h) HP5.out.own HP5.out.below.size (by have := HP5.out.few; omega)
              have E8 := hid e8
              have HP6 : Hid (Parts w W1 ((dataD ns x).drop c ++ ((AL.take (k + 1)).filter (fun h => textB ns h && contD ns (x, (c : Int)) (y, (d : Int)) h)).flatMap (dataD ns)) (k + 1 + 1) o8 c8 (L9 ++ [(Value.slice odh (dataD ns h).length cdh, dataD ns h)]) w8) := by
                refine Parts.snoc HP5.out ho8 rdh ldh (HP5.out.below.trans hb8) ?_
                have e := Hft.out
                rw [htb, hcd, Bool.and_self, if_pos rfl] at e
                rw [e, List.flatMap_append, List.flatMap_cons, List.flatMap_nil, List.append_nil, List.append_assoc]
              clear e8 ho8 hb8 HP5 hP HP2 hc5 eh hkh rdh ldh cellh hb6
              go_wp2_with (at_builtin; refine wpList_append_run _ rfl _ _ 132 132 rfl _ _ rfl rfl _ _ (E8.out _) ?_)
              go_roundw
              case rel => exact ⟨k + 1, o8, c8, _, by omega, by go_num, by simp, HP6⟩
              case measure => simp [RowKit.intOf]; omega
        · have hkn : k = AL.length := by omega
          subst hkn
          rw [List.take_length] at hP
          have dl : decide ((AL.length : Int) < (AL.length : Int)) = false := decide_eq_false (by omega)
          have hYY := HY.out wr bwr
          go_wp2_with fail
          refine hYY.mono ?_
          rintro e v7 ⟨rfl, hb7⟩
          have hz7 := hb7.size
          have HP7 := hid (hP.out.later hb7)
          clear hYY hP
          have HPf := HP7
          have hfewL := HPf.out.few
          have hbelow := HPf.out.below
          have hcat := HPf.out.cat
          rw [show (dataD ns x).drop c ++ (AL.filter (fun h => textB ns h && contD ns (x, (c : Int)) (y, (d : Int)) h)).flatMap (dataD ns) = TT by rw [HT1.out, List.append_nil]] at hcat
          have hCc := concat_anyN o9 c9 L9 v7 (parts_cells HPf.out.own fun e he => (HPf.out.rd e he).1.later (bw.trans (hbelow.mono bw.size))) (by omega) (by
            have h1 := sumLN_le L9 16384 fun e he => (HPf.out.rd e he).2
            have h2 : L9.length * 16384 ≤ 5000 * 16384 := Nat.mul_le_mul_right _ (by omega)
            omega)
          rw [hcat] at hCc
          have bw7 := hid (bw.trans (hbelow.mono bw.size))
          clear HPf HP7 hbelow hcat hfewL hb7 n0 n1 n2 n3 a0 a1 a2 a3 e0
          go_wp2_with fail
          refine hCc.mono ?_
          rintro e v9 ⟨vr, rfl, hor, hb9⟩
          obtain ⟨orr, crr, rfl⟩ := own_shapeB hor
          have HOr := hid (ownsRow_base hor bw7.out.size)
          have HBr := hid (bw7.out.trans (hb9.mono bw7.out.size))
          clear hor hb9 hCc
          go_wp2
          go_ret2
          exact ⟨_, rfl, HOr.out, HBr.out⟩
end Go.Proofs.YtilacgcjbdkphaaGreat

namespace Go.Proofs.YtilacgcjbdkphaaGreat
open Go.RowKit Go.Lib Go.Shelf

theorem nil_rdB (w : World) : RdB w (.slice none 0 0) [] := ⟨none, 0, rfl, Nat.le_refl _, fun h => absurd h (Nat.lt_irrefl _)⟩
set_option maxRecDepth 100000 in
set_option maxHeartbeats 4000000 in
theorem bText_TF (b off cap : Nat) (x : Int) (c : Nat) (y : Int) (d : Nat) (ns : List NodeD) (w : World) (hF : FAt w b off cap ns) (hkl : ∀ (i : Nat) (hi : i < ns.length), ns[i].kids.length ≤ 1099511627776) (hal : ∀ (i : Nat) (hi : i < ns.length), ns[i].attrs.length ≤ 1099511627776) (hE : setE ns (x, (c : Int)) (y, (d : Int)) [] = 0) (hxy : x ≠ y) (tx : textB ns x = true) (ty : textB ns y = false) (lx : c ≤ (dataD ns x).length) :
    Calls Tryz.prog 30 #[.agg #[.slice (some ⟨b, off, none⟩) ns.length cap], rngV x c y d] w fun e w' => ∃ v, e = .returned (.tuple #[v, .int .i64 0]) ∧ w'.ownsRow w.heap.size 70 1 v (textD ns (x, (c : Int)) (y, (d : Int))).length ((textD ns (x, (c : Int)) (y, (d : Int))).map uV) ∧ Below w.heap.size w w' := by
  obtain ⟨hR, hvd, hp, hq, _⟩ := setE_zero hE
  have hroot := (valid_root hvd).1
  have hle := hF.len
  obtain ⟨bx, g0, g1, sx⟩ := two_newB w (.cells #[.slice (some ⟨b, off, none⟩) ns.length cap] 24) (.cells #[.int .i64 x, .int .i64 (c : Int), .int .i64 y, .int .i64 (d : Int)] 44)
  have hFr : FRd w (some ⟨b, off, none⟩) cap ns := ⟨hF.len, fun _ => ⟨b, off, rfl, hF⟩⟩
  have hS := bSettled_ok (some ⟨b, off, none⟩) cap (.slice none 0 0) x c y d [] ns _ (hFr.later bx) hkl hal (nil_rdB _) (by simp) hE
  have HT : Hid (∀ (bR bF bL : Nat) (V : World), Below w.heap.size w V → NumsAt ns V bR bF bL → _) := fun bR bF bL V hV hN => textOf_TF b off cap bR bF bL x c y d ns V hle (textC_of b off cap bR bF bL x c y d ns V hR (hF.later hV) hkl hal hN hp hq hroot) hp hq hxy tx ty lx
  have Hbx := hid bx
  have HG0 := hid g0
  have HG1 := hid g1
  clear hF hkl hal hE hR hvd hp hq hroot hFr g0 g1 bx hxy tx ty lx sx
  unfold rngV at *
  generalize textD ns (x, (c : Int)) (y, (d : Int)) = TT at *
  go_enter Tryz.func30, Tryz.ntmps30
  go_wp2_with fail
  refine hS.mono ?_
  rintro e v1 ⟨bR, bF, bL, rfl, hN, hb1⟩
  unfold numsV at *
  have hbA : Below v1.heap.size v1 (v1.alloc (.cells #[.slice (some ⟨b, off, none⟩) ns.length cap, .slice (some ⟨bR, 0, none⟩) (ns.length + 1) (ns.length + 1), .slice (some ⟨bF, 0, none⟩) (ns.length + 1) (ns.length + 1), .slice (some ⟨bL, 0, none⟩) (ns.length + 1) (ns.length + 1)] 77)) := (Below.refl _ v1).alloc (Nat.le_refl _) _
  have hB1 := Hbx.out.trans (hb1.mono Hbx.out.size)
  have hB2 := hB1.trans (hbA.mono hB1.size)
  have h1 := HT.out bR bF bL _ hB2 (hN.later hbA)
  have c0 := (box_cell_l (blkLater hbA (blkLater hb1 HG0.out))).1
  obtain ⟨a0, a1, a2, a3⟩ := rng_cells (blkLater hbA (blkLater hb1 HG1.out))
  have HBB := hid hB2
  clear hS hN hb1 hbA hB1 hB2 HT
  go_wp2_with fail
  refine h1.mono ?_
  rintro e v2 ⟨vr, rfl, hor, hb2⟩
  obtain ⟨orr, crr, rfl⟩ := own_shapeB hor
  have HOr := hid (ownsRow_base hor HBB.out.size)
  have HBr := hid (HBB.out.trans (hb2.mono HBB.out.size))
  clear hor hb2 h1 c0 a0 a1 a2 a3
  go_wp2
  go_ret2
  exact ⟨_, rfl, HOr.out, HBr.out⟩
end Go.Proofs.YtilacgcjbdkphaaGreat

