/- bounds: what is above a node, ranged over (upFrom); the node that has both ends (common). -/
/- slices.Grow at nothing and slices.Concat, at units. -/
/- bounds: the text of a range (textOf): words, isText, parts. -/
/- bounds: the text of a range (textOf). -/
/- units.reach and Sub, slices.Clone at units, where the part lies within. -/
import Derived.Test.YtilacgcjbdkphaaGreatDFBd3FBdp
import Derived.Test.YtilacgcjbdkphaaGreatDFSkipHFInts
import Derived.Test.YtilacgcjbdkphaaGreatDFPosFNext
import Derived.Lib.AppendZerosOnto
import Derived.Deep.AppendSrc
import Derived.Test.YtilacgcjbdkphaaGreatDFBdbFBdc
import Derived.Lib.LazyBuf
namespace Go.Proofs.YtilacgcjbdkphaaGreat
open Go.RowKit Go.Lib Go.Shelf
attribute [local go_sem] Oper.semAt_some

set_option maxRecDepth 100000 in
set_option maxHeartbeats 4000000 in
theorem up1B_in (n l bh bf n₀ b off cap : Nat) (hn : 1 ≤ n) (x : Int) (ns : List NodeD) (J Jx : List (There ns) → World → Prop) (W : World) (hR : RightF ns) (hbf : bf < n₀)
    (hFn : ∀ W', Below n₀ W W' → FAt W' b off cap ns)
    (ch : W.cell? ⟨bh, 0, none⟩ = some (.int .i64 x)) (cf : W.cell? ⟨bf, 0, none⟩ = some (.slice (some ⟨b, off, none⟩) ns.length cap)) (hx : x = 0 ∨ thereB ns.length x = true)
    (hY : ∀ pre (z : There ns) W1, J pre W1 → pre.length < (pathUp ns (parentD ns) x).length → YieldAt Fence.wide (n - 1) Tryz.prog l #[.int .i64 z.1] W1 fun e W' =>
      (e = .returned (.bool true) ∧ J (pre ++ [z]) W' ∧ Below n₀ W1 W') ∨ (e = .returned (.bool false) ∧ Jx (pre ++ [z]) W'))
    (h0 : J [] W) :
    CallsIn Fence.wide n Tryz.prog 116 #[.func (.yield l) #[] #[], .pointer (some ⟨bh, 0, none⟩), .pointer (some ⟨bf, 0, none⟩)] W fun e W' => (∃ v, e = .returned v) ∧
      ((∃ ys, ys.map (·.1) = pathUp ns (parentD ns) x ∧ J ys W') ∨ (∃ pre, pre.map (·.1) <+: pathUp ns (parentD ns) x ∧ Jx pre W')) := by
  refine callsIn_of_wp Tryz.func116 rfl trivial ?_ rfl
  simp only [Tryz.ntmps116, List.size_toArray, List.length_cons, List.length_nil, Nat.reduceAdd, Nat.reduceSub, Array.replicate_succ, Array.replicate_zero, List.push_toArray, List.append_toArray, List.nil_append, List.cons_append]
  have Hcf := hid cf
  have HFn := hid hFn
  have HR := hid hR
  have HU := hid hR.parentOK
  clear cf hFn hR
  obtain ⟨xs, hxs⟩ : ∃ xs, pathUp ns (parentD ns) x = xs := ⟨_, rfl⟩
  rw [hxs]
  rw [hxs] at hY
  have Hxs := hid hxs
  clear hxs
  gi_wp2
  gi_loopw [4] (fun t wr => ∃ (pre : List (There ns)) (y : Int), t = .int .i64 y ∧ Hid (xs = pre.map (·.1) ++ pathUp ns (parentD ns) y) ∧ (y = 0 ∨ thereB ns.length y = true) ∧ Hid (Below n₀ W wr) ∧ Hid (J pre wr)) (fun t _ => (pathUp ns (parentD ns) (RowKit.intOf t)).length)
  case atStart => exact ⟨[], x, rfl, Hxs.out.symm, hx, Below.refl _ _, h0⟩
  case round =>
    obtain ⟨pre, y, rfl, hp, hy0, hB, hJs⟩ := hrel
    clear ch hx h0
    by_cases hz : y = 0
    · subst hz
      have Hpre : Hid (xs = pre.map (·.1)) := by
        have := hp.out
        rw [pathUp_zero, List.append_nil] at this
        exact this
      clear hp
      gi_wp2
      refine ⟨fun _ h => (by cases h), ?_⟩
      gi_wp2
      go_end0
      exact ⟨⟨_, rfl⟩, .inl ⟨pre, Hpre.out.symm, hJs.out⟩⟩
    · obtain ⟨j, hj, rfl⟩ := there_idx (hy0.resolve_left hz)
      have Hcons := hid (pathUp_cons ns (parentD ns) HU.out HR.out.ends j hj)
      obtain ⟨zt, hzt⟩ : ∃ zt : There ns, zt.1 = (j : Int) + 1 := ⟨⟨_, thereB_idx _ _ hj⟩, rfl⟩
      have Hzt := hid hzt
      have hYY := hY pre zt wr hJs.out (by
        have := congrArg List.length hp.out
        rw [List.length_append, List.length_map, Hcons.out, List.length_cons] at this
        omega)
      rw [hzt] at hYY
      obtain ⟨fn, tmps, assign, body, hy, hRd⟩ := hYY
      clear hzt
      have hnz : (((j : Int) + 1) != 0) = true := by
        rw [bne, beq_eq_false_iff_ne.2 hz]
        rfl
      gi_wp2
      refine hRd.mono ?_
      rintro e W3 (⟨rfl, hJ3, hk3⟩ | ⟨rfl, hJx3⟩)
      · have hB3 := hB.out.trans hk3
        have c2 := (hB3.cell (p := ⟨bf, 0, none⟩) hbf).trans Hcf.out
        obtain ⟨Ls, hc, _⟩ := (HFn.out W3 hB3).at_ j hj
        have c3 := hc.parent
        rw [← parentD_at ns j hj] at c3
        have hle := (HFn.out W3 hB3).len
        have q1 : (0 : Int) ≤ (j : Int) := by omega
        have q2 : (j : Int) < (ns.length : Int) := by omega
        have HB3 := hid hB3
        have HJ3 := hid hJ3
        have Hth : Hid (parentD ns ((j : Int) + 1) = 0 ∨ thereB ns.length (parentD ns ((j : Int) + 1)) = true) := by
          rcases HU.out j hj with a | a
          · exact .inl a
          · exact .inr a.2
        have Hp2 : Hid (xs = (pre ++ [zt]).map (·.1) ++ pathUp ns (parentD ns) (parentD ns ((j : Int) + 1))) := by
          show xs = _
          rw [hp.out, Hcons.out, List.map_append, List.append_assoc, List.map_cons, List.map_nil, Hzt.out]
          rfl
        have Hme : Hid ((pathUp ns (parentD ns) (parentD ns ((j : Int) + 1))).length < (pathUp ns (parentD ns) ((j : Int) + 1)).length) := by
          show _ < _
          rw [Hcons.out]
          exact Nat.lt_succ_self _
        clear hB3 hJ3 hk3 hy hRd hp Hcons hc
        generalize parentD ns ((j : Int) + 1) = pp at *
        gi_wp2
        go_roundw
        case rel => exact ⟨pre ++ [zt], _, rfl, Hp2, Hth.out, HB3, HJ3⟩
        case measure => exact Hme.out
      · gi_wp2
        go_end0
        exact ⟨⟨_, rfl⟩, .inr ⟨pre ++ [zt], ⟨pathUp ns (parentD ns) (parentD ns ((j : Int) + 1)), by rw [hp.out, Hcons.out, List.map_append, List.append_assoc, List.map_cons, List.map_nil, Hzt.out]; rfl⟩, hJx3⟩⟩
theorem upB_stops (n bh bf n₀ b off cap : Nat) (hn : 1 ≤ n) (x : Int) (ns : List NodeD) (wb w : World) (hR : RightF ns) (hF : FAt wb b off cap ns) (hwb : wb.heap.size ≤ n₀) (hB : Below wb.heap.size wb w) (hn₀ : n₀ ≤ w.heap.size) (hbh : bh < n₀) (hbf : bf < n₀)
    (ch : w.cell? ⟨bh, 0, none⟩ = some (.int .i64 x)) (cf : w.cell? ⟨bf, 0, none⟩ = some (.slice (some ⟨b, off, none⟩) ns.length cap)) (hx : x = 0 ∨ thereB ns.length x = true) :
    SeqStopsK Fence.wide n Tryz.prog 116 #[.pointer (some ⟨bh, 0, none⟩), .pointer (some ⟨bf, 0, none⟩)] (fun z : There ns => #[Value.int .i64 z.1]) (Below n₀) (fun ys => ys.map (·.1) = pathUp ns (parentD ns) x) (fun pre => pre.map (·.1) <+: pathUp ns (parentD ns) x) (pathUp ns (parentD ns) x).length w := fun l J Jx W hW _ _ hY h0 =>
  up1B_in n l bh bf n₀ b off cap hn x ns J Jx W hR hbf
    (fun _ hW' => hF.later (hB.trans ((hW.mono hB.size).trans (hW'.mono hwb))))
    ((hW.cell (p := ⟨bh, 0, none⟩) (Nat.lt_of_lt_of_le hbh hn₀)).trans ch) ((hW.cell (p := ⟨bf, 0, none⟩) (Nat.lt_of_lt_of_le hbf hn₀)).trans cf) hx hY h0
/-- The node that has both. -/
def commD (ns : List NodeD) (x y : Int) : Int := firstD (fun z => if y ∈ allD ns z then z else 0) (pathUp ns (parentD ns) x)
theorem firstB_none (g : Int → Int) : ∀ l : List Int, (∀ y ∈ l, g y = 0) → firstD g l = 0
  | [], _ => rfl
  | y :: l, h => by
    rw [firstD, h y (List.mem_cons_self ..)]
    exact firstB_none g l fun z hz => h z (List.mem_cons_of_mem _ hz)
theorem firstB_prefix (g : Int → Int) : ∀ (p : List Int) (z : Int) (t : List Int), (∀ y ∈ p, g y = 0) → g z ≠ 0 → firstD g (p ++ z :: t) = g z
  | [], z, t, _, hz => by
    rw [List.nil_append, firstD, beq_eq_false_iff_ne.2 hz]
    rfl
  | y :: p, z, t, h, hz => by
    rw [List.cons_append, firstD, h y (List.mem_cons_self ..)]
    exact firstB_prefix g p z t (fun u hu => h u (List.mem_cons_of_mem _ hu)) hz
theorem upFrom_any (b off cap n : Nat) (x : Int) (w : World) :
    Calls Tryz.prog 95 #[.agg #[.slice (some ⟨b, off, none⟩) n cap], .int .i64 x] w fun e w' => e = .returned (.func (.func 116) #[] #[.pointer (some ⟨w.heap.size + 1, 0, none⟩), .pointer (some ⟨w.heap.size, 0, none⟩)]) ∧ w' = (w.alloc (.cells #[.slice (some ⟨b, off, none⟩) n cap] 24)).alloc (.cells #[.int .i64 x] 3) := by
  go_enter Tryz.func95, Tryz.ntmps95
  go_wp2
  go_ret
  exact ⟨rfl, rfl⟩
theorem six_newB (w : World) (a b c d e f : Obj) : Below w.heap.size w ((((((w.alloc a).alloc b).alloc c).alloc d).alloc e).alloc f) ∧ ((((((w.alloc a).alloc b).alloc c).alloc d).alloc e).alloc f).heap[w.heap.size + 1]? = some b ∧ ((((((w.alloc a).alloc b).alloc c).alloc d).alloc e).alloc f).heap[w.heap.size + 1 + 1]? = some c ∧ ((((((w.alloc a).alloc b).alloc c).alloc d).alloc e).alloc f).heap[w.heap.size + 1 + 1 + 1]? = some d ∧ ((((((w.alloc a).alloc b).alloc c).alloc d).alloc e).alloc f).heap[w.heap.size + 1 + 1 + 1 + 1]? = some e ∧ ((((((w.alloc a).alloc b).alloc c).alloc d).alloc e).alloc f).heap[w.heap.size + 1 + 1 + 1 + 1 + 1]? = some f ∧ ((((((w.alloc a).alloc b).alloc c).alloc d).alloc e).alloc f).heap.size = w.heap.size + 1 + 1 + 1 + 1 + 1 + 1 :=
  ⟨(((((((Below.refl _ w).alloc (Nat.le_refl _) a).alloc (by simp) b).alloc (by simp; omega) c).alloc (by simp; omega) d).alloc (by simp; omega) e).alloc (by simp; omega) f), six_1 w a b c d e f, six_2 w a b c d e f, six_3 w a b c d e f, six_4 w a b c d e f, six_5 w a b c d e f, by simp⟩

set_option maxRecDepth 100000 in
set_option maxHeartbeats 4000000 in
theorem bCommon_any (b off cap bR bF bL : Nat) (x c y d : Int) (ns : List NodeD) (w : World) (hR : RightF ns) (hF : FAt w b off cap ns) (hN : NumsAt ns w bR bF bL) (hx : thereB ns.length x = true) (hy : thereB ns.length y = true) :
    Calls Tryz.prog 59 #[.agg #[.slice (some ⟨b, off, none⟩) ns.length cap], numsV (some ⟨b, off, none⟩) cap ns.length bR bF bL (ns.length + 1), rngV x c y d] w fun e w' => e = .returned (.int .i64 (commD ns x y)) ∧ Below w.heap.size w w' := by
  have HH : Hid (∀ (z : There ns) (W : World), Below w.heap.size w W → Calls Tryz.prog 63 #[.agg #[.slice (some ⟨b, off, none⟩) ns.length cap, .slice (some ⟨bR, 0, none⟩) (ns.length + 1) (ns.length + 1), .slice (some ⟨bF, 0, none⟩) (ns.length + 1) (ns.length + 1), .slice (some ⟨bL, 0, none⟩) (ns.length + 1) (ns.length + 1)], .int .i64 z.1, .int .i64 y] W fun e w' => e = .returned (.bool (decide (y ∈ allD ns z.1))) ∧ Below W.heap.size W w') := by
    intro z W hW
    obtain ⟨R, F, L, hNl⟩ := (hN.later hW).lists
    obtain ⟨i, hi, ez⟩ := there_idx z.2
    obtain ⟨j, hj, ey⟩ := there_idx hy
    rw [ez, ey]
    exact pHolds_any (some ⟨b, off, none⟩) cap bR bF bL i j ns R F L W hR hNl hi hj
  obtain ⟨bx, g1, g2, g3, g4, g5, sx⟩ := six_newB w (.cells #[.slice (some ⟨b, off, none⟩) ns.length cap] 24) (numsO (some ⟨b, off, none⟩) cap ns.length bR bF bL (ns.length + 1)) (.cells #[.int .i64 x, .int .i64 c, .int .i64 y, .int .i64 d] 44) (.cells #[.int .i64 0] 3) (.cells #[.slice (some ⟨b, off, none⟩) ns.length cap] 24) (.cells #[.int .i64 x] 3)
  have HU := hid (upFrom_any b off cap ns.length x ((((w.alloc (.cells #[.slice (some ⟨b, off, none⟩) ns.length cap] 24)).alloc (numsO (some ⟨b, off, none⟩) cap ns.length bR bF bL (ns.length + 1))).alloc (.cells #[.int .i64 x, .int .i64 c, .int .i64 y, .int .i64 d] 44)).alloc (.cells #[.int .i64 0] 3)))
  refine (callsIn_wide (n := 6)).1 ?_
  unfold numsV rngV
  unfold numsO at *
  refine callsIn_of_wp_marks Tryz.func59 rfl trivial ?_ rfl
  simp only [Tryz.ntmps59, List.size_toArray, List.length_cons, List.length_nil, Nat.reduceAdd, Nat.reduceSub, Array.replicate_succ, Array.replicate_zero, List.push_toArray, List.append_toArray, List.nil_append, List.cons_append]
  gi_wp2
  refine ⟨trivial, (callsIn_wide.2 HU.out).mono ?_⟩
  rintro e v2 ⟨rfl, rfl⟩
  simp only [World.size_alloc]
  gi_wp2
  generalize ((((((w.alloc (.cells #[.slice (some ⟨b, off, none⟩) ns.length cap] 24)).alloc (.cells #[.slice (some ⟨b, off, none⟩) ns.length cap, .slice (some ⟨bR, 0, none⟩) (ns.length + 1) (ns.length + 1), .slice (some ⟨bF, 0, none⟩) (ns.length + 1) (ns.length + 1), .slice (some ⟨bL, 0, none⟩) (ns.length + 1) (ns.length + 1)] 77)).alloc (.cells #[.int .i64 x, .int .i64 c, .int .i64 y, .int .i64 d] 44)).alloc (.cells #[.int .i64 0] 3)).alloc (.cells #[.slice (some ⟨b, off, none⟩) ns.length cap] 24)).alloc (.cells #[.int .i64 x] 3)) = V at *
  obtain ⟨n0, n1, n2, n3⟩ := sv_cells g1
  obtain ⟨a0, a1, a2, a3⟩ := rng_cells g2
  obtain ⟨r0, f0⟩ := box_cell_l g3
  have cf := (box_cell_l g4).1
  have ch := (box_cell_l g5).1
  refine wpIn_rangeFunc_ownF (α := There ns) rfl (by omega) (gf := 116) (lb := #[.pointer (some ⟨w.heap.size + 1 + 1 + 1 + 1 + 1, 0, none⟩), .pointer (some ⟨w.heap.size + 1 + 1 + 1 + 1, 0, none⟩)]) rfl trivial (enters_of Tryz.func116 (by kernel_rfl) rfl)
    (upB_stops (6 - 1) (w.heap.size + 1 + 1 + 1 + 1 + 1) (w.heap.size + 1 + 1 + 1 + 1) (w.heap.size + 1 + 1 + 1 + 1 + 1 + 1) b off cap (by omega) x ns w V hR hF (by omega) bx (by rw [sx]; exact Nat.le_refl _) (by omega) (by omega) ch cf (.inr hx)) belowK_t (belowK_b (by rw [sx]; exact Nat.le_refl _)) (Below.refl _ _) (fun _ => rfl)
    (fun pre W => ((∀ u ∈ pre, y ∉ allD ns u.1) ∧ (W.cell? ⟨w.heap.size + 1, 0, none⟩ = some (.slice (some ⟨b, off, none⟩) ns.length cap) ∧ W.cell? ⟨w.heap.size + 1, 1, none⟩ = some (.slice (some ⟨bR, 0, none⟩) (ns.length + 1) (ns.length + 1)) ∧ W.cell? ⟨w.heap.size + 1, 2, none⟩ = some (.slice (some ⟨bF, 0, none⟩) (ns.length + 1) (ns.length + 1)) ∧ W.cell? ⟨w.heap.size + 1, 3, none⟩ = some (.slice (some ⟨bL, 0, none⟩) (ns.length + 1) (ns.length + 1))) ∧ W.cell? ⟨w.heap.size + 1 + 1, 2, none⟩ = some (.int .i64 y) ∧ W.cell? ⟨w.heap.size + 1 + 1 + 1, 0, none⟩ = some (.int .i64 0) ∧ W.frozen? ⟨w.heap.size + 1 + 1 + 1, 0, none⟩ = false ∧ w.heap.size + 1 + 1 + 1 + 1 + 1 + 1 ≤ W.heap.size) ∧ Below w.heap.size w W)
    (fun cc pre W => (cc = .ret ∧ ∃ (p0 : List (There ns)) (z : There ns), pre = p0 ++ [z] ∧ (∀ u ∈ p0, y ∉ allD ns u.1) ∧ y ∈ allD ns z.1 ∧ W.cell? ⟨w.heap.size + 1 + 1 + 1, 0, none⟩ = some (.int .i64 z.1)) ∧ Below w.heap.size w W)
    (OwnFrom.and (Own.from (fun s A B row hs hg hr => ⟨hs.1, ⟨cell_kept hs.2.1.1 hg hr, cell_kept hs.2.1.2.1 hg hr, cell_kept hs.2.1.2.2.1 hg hr, cell_kept hs.2.1.2.2.2 hg hr⟩, cell_kept hs.2.2.1 hg hr, cell_kept hs.2.2.2.1 hg hr, (frozen_kept hs.2.2.2.1 hg hr).trans hs.2.2.2.2.1, Nat.le_trans hs.2.2.2.2.2 hg.size⟩) _) (ownFrom_below (Nat.le_refl _) (by rw [sx]; omega)))
    (fun cc => OwnFrom.and (Own.from (fun s A B row hs hg hr => by
      obtain ⟨h1, p0, z, h2, h3, h4, h5⟩ := hs
      exact ⟨h1, p0, z, h2, h3, h4, cell_kept h5 hg hr⟩) _) (ownFrom_below (Nat.le_refl _) (by rw [sx]; omega)))
    ⟨⟨by simp, ⟨n0, n1, n2, n3⟩, a2, r0, f0, by rw [sx]; exact Nat.le_refl _⟩, bx⟩
    (fun z => { tmps := #[.agg #[.slice (some ⟨b, off, none⟩) ns.length cap], .agg #[.slice (some ⟨b, off, none⟩) ns.length cap, .slice (some ⟨bR, 0, none⟩) (ns.length + 1) (ns.length + 1), .slice (some ⟨bF, 0, none⟩) (ns.length + 1) (ns.length + 1), .slice (some ⟨bL, 0, none⟩) (ns.length + 1) (ns.length + 1)], .agg #[.int .i64 x, .int .i64 c, .int .i64 y, .int .i64 d], .pointer (some ⟨w.heap.size, 0, none⟩), .pointer (some ⟨w.heap.size + 1, 0, none⟩), .pointer (some ⟨w.heap.size + 1 + 1, 0, none⟩), .pointer (some ⟨w.heap.size + 1 + 1 + 1, 0, none⟩), .int .i64 z.1, .agg #[.slice (some ⟨b, off, none⟩) ns.length cap], .pointer (some ⟨w.heap.size + 1 + 1, 0, none⟩), .pointer (some ⟨w.heap.size + 1 + 1, 0, none⟩), .int .i64 x, .func (.func 116) #[] #[.pointer (some ⟨w.heap.size + 1 + 1 + 1 + 1 + 1, 0, none⟩), .pointer (some ⟨w.heap.size + 1 + 1 + 1 + 1, 0, none⟩)], .int .i64 z.1, undef, undef, undef, undef, undef, undef, undef], defers := [] }) ?assign ?body ?done ?stop
  case assign =>
    intro l z W K hK
    gi_wp2
    exact hK
  case body =>
    rintro l pre z W ⟨⟨hp, ⟨n0, n1, n2, n3⟩, hcy, hcr, hfr, hsz⟩, hB⟩ _
    have hSb := HH.out z W hB
    have HB := hid hB
    clear hB
    cases hd : decide (y ∈ allD ns z.1) with
    | false =>
      rw [hd] at hSb
      have Hz := hid (of_decide_eq_false hd)
      clear hd
      gi_wp2
      refine ⟨trivial, (callsIn_wide.2 hSb).mono ?_⟩
      rintro e v3 ⟨rfl, hb3⟩
      have hko : KeepsOthers W v3 := KeepsOthers.of_grownBy (grown_of_below hb3) (fun j o ej _ => by cases ej)
      have k0 := cell_kept n0 (grown_of_below hb3) (fun r e => by cases e)
      have k1 := cell_kept n1 (grown_of_below hb3) (fun r e => by cases e)
      have k2 := cell_kept n2 (grown_of_below hb3) (fun r e => by cases e)
      have k3 := cell_kept n3 (grown_of_below hb3) (fun r e => by cases e)
      have k4 := cell_kept hcy (grown_of_below hb3) (fun r e => by cases e)
      have hcr3 := cell_kept hcr (grown_of_below hb3) (fun r e => by cases e)
      have hfr3 := (frozen_kept hcr (grown_of_below hb3) (fun r e => by cases e)).trans hfr
      have HB3' := hid (HB.out.trans (hb3.mono HB.out.size))
      clear hSb
      gi_wp2
      refine ⟨hko, hb3.mono hsz, ⟨fun u hu => ?_, ⟨k0, k1, k2, k3⟩, k4, hcr3, hfr3, Nat.le_trans hsz hb3.size⟩, HB3'.out⟩
      rcases List.mem_append.1 hu with a | a
      · exact hp u a
      · rw [List.mem_singleton.1 a]; exact Hz.out
    | true =>
      rw [hd] at hSb
      have Hz := hid (of_decide_eq_true hd)
      clear hd
      gi_wp2
      refine ⟨trivial, (callsIn_wide.2 hSb).mono ?_⟩
      rintro e v3 ⟨rfl, hb3⟩
      have hko : KeepsOthers W v3 := KeepsOthers.of_grownBy (grown_of_below hb3) (fun j o ej _ => by cases ej)
      have hcr3 := cell_kept hcr (grown_of_below hb3) (fun r e => by cases e)
      have hfr3 := (frozen_kept hcr (grown_of_below hb3) (fun r e => by cases e)).trans hfr
      have HB3' := hid (HB.out.trans (hb3.mono HB.out.size))
      clear hSb
      gi_wp2
      exact ⟨hko.trans (KeepsOthers.setCell _ _ _), ⟨rfl, pre, z, rfl, hp, Hz.out, World.cell?_setCell_same' _ _ _ (by rw [hcr3]; rfl)⟩, HB3'.out.setCell (p := ⟨w.heap.size + 1 + 1 + 1, 0, none⟩) (by show w.heap.size ≤ w.heap.size + 1 + 1 + 1; omega) _⟩
  case done =>
    rintro D ys W hD hys ⟨⟨hp, _, _, hcr, hfr, _⟩, hB⟩ hK
    have hf0 : commD ns x y = 0 := by
      unfold commD
      rw [← hys]
      refine firstB_none _ _ (fun u hu => ?_)
      obtain ⟨t, ht, rfl⟩ := List.mem_map.1 hu
      exact if_neg (hp t ht)
    gi_wp2
    have hK' := (KeepsOthers.setCell W ⟨w.heap.size + 1 + 1 + 1, 0, none⟩ (.int .i64 0)).same D _ hK rfl
    refine ⟨by simp, .inl ⟨_, _, rfl, run_takeDeferred hK', ?_⟩⟩
    have hc5 := cell_kept (World.cell?_setCell_same' W ⟨w.heap.size + 1 + 1 + 1, 0, none⟩ (.int .i64 0) (by rw [hcr]; rfl)) (grownBy_putObj' _ D (.deferred none)) (fun r e => by cases e; exact ⟨_, hK', rfl⟩)
    refine ⟨.int .i64 0, ?_, by rw [hf0], (hB.setCell (p := ⟨w.heap.size + 1 + 1 + 1, 0, none⟩) (by show w.heap.size ≤ w.heap.size + 1 + 1 + 1; omega) _).trans (belowK_b (w := w) (Nat.le_refl _) _ D _ _ (by rw [sx] at hD; omega) hK' rfl rfl)⟩
    simp [results, Tryz.f59, go_sem, hc5]
  case stop =>
    rintro D cc pre W hD hpre ⟨⟨rfl, p0, z, rfl, hp, hz, hcr⟩, hB⟩ hK
    have hf0 : commD ns x y = z.1 := by
      obtain ⟨t, ht⟩ := hpre
      unfold commD
      rw [← ht, List.map_append, List.append_assoc]
      have hz0 : z.1 ≠ 0 := by have := there_natB z.2; omega
      have e := firstB_prefix (fun u => if y ∈ allD ns u then u else 0) (p0.map (·.1)) z.1 t (fun u hu => by
        obtain ⟨q, hq, rfl⟩ := List.mem_map.1 hu
        exact if_neg (hp q hq)) (by show (if y ∈ allD ns z.1 then z.1 else 0) ≠ 0; rw [if_pos hz]; exact hz0)
      refine e.trans ?_
      show (if y ∈ allD ns z.1 then z.1 else 0) = z.1
      rw [if_pos hz]
    gi_wp2
    refine ⟨by simp, .inl ⟨_, _, rfl, run_takeDeferred hK, ?_⟩⟩
    have hc5 := cell_kept hcr (grownBy_putObj' _ D (.deferred none)) (fun r e => by cases e; exact ⟨_, hK, rfl⟩)
    refine ⟨.int .i64 z.1, ?_, by rw [hf0], hB.trans (belowK_b (w := w) (Nat.le_refl _) W D _ _ (by rw [sx] at hD; omega) hK rfl rfl)⟩
    simp [results, Tryz.f59, go_sem, hc5]
end Go.Proofs.YtilacgcjbdkphaaGreat

namespace Go.Proofs.YtilacgcjbdkphaaGreat
open Go.RowKit Go.Lib Go.Shelf

def uV (n : Nat) : Value := .int .u16 (n : Int)
theorem info_u16N : (Tryz.prog.info? 70).map (fun i => (i.zero, i.size, i.bytes)) = some (some (.int .u16 0), 1, 2) := by kernel_rfl
/-- Units that are put behind a row of the call's own. -/
theorem run_append_rdIN (w : World) (B : Nat) (v src : Value) (done us : List Nat) (ty : TypeId) (hown : w.ownsRow B 70 1 v done.length (done.map uV)) (hB : B ≤ w.heap.size) (hr : RdN w src us) (hn : done.length + us.length ≤ 4398046511104) :
    ∃ v' w', (Builtin.append_ #[53, 53] ty #[v, src]).run Tryz.prog w = .ok v' w' ∧ w'.ownsRow B 70 1 v' (done ++ us).length ((done ++ us).map uV) ∧ w.grownBy w' v.ownBlock := by
  obtain ⟨i0, hi, hz0, hz1, hz2⟩ := info_parts info_u16N
  have hcase : (∃ cap, src = .slice none 0 cap ∧ us = []) ∨ ∃ a cap, src = .slice (some a) us.length cap ∧ (∀ (j : Nat) (h : j < us.length), w.cell? (a.add j) = some (uV us[j])) := by
    obtain ⟨o, cap, rfl, _, g⟩ := hr
    by_cases h0 : us.length = 0
    · have hn : us = [] := List.eq_nil_of_length_eq_zero h0
      subst hn
      cases o with
      | none => exact .inl ⟨cap, rfl, rfl⟩
      | some a => exact .inr ⟨a, cap, rfl, fun j hj => by simp at hj⟩
    · obtain ⟨b, off, rfl, _, ha⟩ := g (by omega)
      refine .inr ⟨⟨b, off, none⟩, cap, rfl, fun j hj => ?_⟩
      have e : (⟨b, off, none⟩ : Addr).add j = ⟨b, off + j, none⟩ := by simp [Addr.add]
      rw [e]
      exact ha j hj
  rcases hcase with ⟨cap, rfl, rfl⟩ | ⟨a, cap, rfl, hc⟩
  · refine ⟨v, w, ?_, by simpa using hown, ⟨rfl, rfl, rfl, Nat.le_refl _, fun _ _ _ => rfl⟩⟩
    rcases hown.2 with ⟨hv, _⟩ | ⟨g, c, cur, hv, _, hg, hnc, _⟩
    · subst hv
      have hs := Src.ofNil (P := Tryz.prog) w (size := i0.size) Tryz.underlying53 cap
      simp [Builtin.append_, run_underlying Tryz.underlying53, sizeOf, typeInfo, hi, Builtin.lenOf]
      rw [hs.cells]
      rfl
    · subst hv
      have hs := Src.ofNil (P := Tryz.prog) w (size := i0.size) Tryz.underlying53 cap
      have h := run_append_room_src w 53 53 ty 70 i0 Tryz.underlying53 hi g 0 done.length c (.slice none 0 cap) 0 [] hs (by omega) (fun j hj => by simp at hj) (fun j hj => by simp at hj)
      exact h
  · obtain ⟨v', w', h1, h2, h3, _⟩ := run_append_own (P := Tryz.prog) w B 53 ty 70 i0 (.int .u16 0) 1 2 Tryz.underlying53 hi hz0 hz1 hz2 rfl (by decide) v done.length (done.map uV) hown a us.length cap (us.map uV) (by simp) (fun j u hj => by
      rw [List.getElem?_map] at hj
      obtain ⟨x, hx, rfl⟩ := Option.map_eq_some_iff.1 hj
      obtain ⟨hj', rfl⟩ := List.getElem?_eq_some_iff.1 hx
      exact hc j hj') (fun u hu => by obtain ⟨x, _, rfl⟩ := List.mem_map.1 hu; rfl) (by unfold maxLen; omega) (by omega) hB
    exact ⟨v', w', h1, by simpa using h2, h3⟩

theorem below_grownIN {B : Nat} {w w1 : World} {v : Value} {n : Nat} {xs : List Value} (hown : w.ownsRow B 70 1 v n xs) (hB : B ≤ w.heap.size) (hg : w.grownBy w1 v.ownBlock) : Below B w w1 :=
  (Below.refl B w).grown hg hB (fun j hj => (hown.lt j hj).1)

set_option maxRecDepth 100000 in
set_option maxHeartbeats 1000000 in
theorem grow_nilN (n : Nat) (w : World) (hn : n ≤ 1099511627776) :
    Calls Tryz.prog 119 #[.slice none 0 0, .int .i64 n] w fun e w' => ∃ v, e = .returned v ∧ w'.ownsRow w.heap.size 70 1 v 0 (([] : List Nat).map uV) ∧ Below w.heap.size w w' := by
  obtain ⟨i0, hi, hz0, hz1, hz2⟩ := info_parts info_u16N
  by_cases h0 : n = 0
  · subst h0
    go_enter Tryz.func119, Tryz.ntmps119
    go_wp2
    go_ret
    exact ⟨_, rfl, World.ownsRow_nil _ _ _ _, Below.refl _ _⟩
  · have h1 : ¬ ((n : Int) < 0) := by omega
    have h2 : (0 : Int) < (n : Int) := by omega
    have hold : (Builtin.firstCells i0.size 0 (.slice none 0 0)).run Tryz.prog w.drew = .ok ([] : List Value).toArray w.drew := run_firstCells_none w.drew i0.size 0 0 0
    have hap := fun ty => run_append_grow_zeros (P := Tryz.prog) w 53 3 ty 70 i0 (.int .u16 0) .i64 .i64 Tryz.underlying53 Tryz.underlying3 hi hz0 none 0 0 [] hold n (by omega) (by omega) (by omega) (by omega) (by rw [hz2]; omega) (growslice_fits (by omega) (by rw [hz2]; omega))
    have hge := grownCap_ge w (0 + n) 0 70
    have hlm := grownCap_le_maxLen w (0 + n) 0 70 (by unfold maxLen; omega)
    generalize grownCap w (0 + n) 0 70 = G at *
    have hcs : (([] : List Value).toArray ++ Builtin.zeroCells (Value.int .u16 0).cells n ++ Builtin.zeroCells (Value.int .u16 0).cells (G - (0 + n))).size = G := by
      simp [Builtin.zeroCells, Value.cells]
      omega
    generalize ([] : List Value).toArray ++ Builtin.zeroCells (Value.int .u16 0).cells n ++ Builtin.zeroCells (Value.int .u16 0).cells (G - (0 + n)) = C at *
    have hown : ((w.drew).alloc (.cells C 70)).ownsRow w.heap.size 70 1 (.slice (some ⟨w.heap.size, 0, none⟩) 0 G) 0 (([] : List Nat).map uV) :=
      ⟨rfl, .inr ⟨w.heap.size, G, C, rfl, Nat.le_refl _, heap_new w.drew _, Nat.zero_le _, hlm, by omega, rfl⟩⟩
    simp only [Nat.zero_add] at hap hge
    unfold maxLen at hlm
    go_enter Tryz.func119, Tryz.ntmps119
    go_wp2_with (at_builtin; refine wpList_append_run _ rfl _ _ 53 3 rfl _ _ rfl rfl _ _ (hap _) ?_)
    go_ret
    exact ⟨_, rfl, hown, ((Below.refl _ w).drew).alloc (Nat.le_refl _) _⟩

/-- Strings of units that lie one behind the other. -/
def CellsLIN (w : World) (g : Nat) (L : List (Value × List Nat)) : Prop := ∀ (j : Nat) (h : j < L.length), w.cell? ⟨g, j, none⟩ = some L[j].1 ∧ RdN w L[j].1 L[j].2
theorem CellsLIN.later {w W : World} {g : Nat} {L : List (Value × List Nat)} (h : CellsLIN w g L) (hg : g < w.heap.size) (hb : Below w.heap.size w W) : CellsLIN W g L := fun j hj =>
  ⟨(hb.cell (p := ⟨g, j, none⟩) hg).trans (h j hj).1, (h j hj).2.later hb⟩
def sumLN (L : List (Value × List Nat)) : Nat := (L.map (·.2.length)).sum
def catLN (L : List (Value × List Nat)) : List Nat := L.flatMap (·.2)
theorem catL_lenN (L : List (Value × List Nat)) : (catLN L).length = sumLN L := by
  simp [catLN, sumLN, List.length_flatMap]
theorem take_stepN (L : List (Value × List Nat)) (k : Nat) (h : k < L.length) : L.take (k + 1) = L.take k ++ [L[k]] := by
  rw [List.take_add_one, List.getElem?_eq_getElem h]
  rfl
theorem sum_stepN (L : List (Value × List Nat)) (k : Nat) (h : k < L.length) : sumLN (L.take (k + 1)) = sumLN (L.take k) + L[k].2.length := by
  unfold sumLN
  rw [take_stepN L k h, List.map_append, List.sum_append, List.map_cons, List.map_nil, List.sum_cons, List.sum_nil, Nat.add_zero]
theorem cat_stepN (L : List (Value × List Nat)) (k : Nat) (h : k < L.length) : catLN (L.take (k + 1)) = catLN (L.take k) ++ L[k].2 := by
  unfold catLN
  rw [take_stepN L k h, List.flatMap_append, List.flatMap_cons, List.flatMap_nil, List.append_nil]
theorem sum_leN (L : List (Value × List Nat)) (k : Nat) : sumLN (L.take k) ≤ sumLN L := by
  have h : sumLN L = sumLN (L.take k) + sumLN (L.drop k) := by
    unfold sumLN
    rw [← List.sum_append, ← List.map_append, List.take_append_drop]
  omega

set_option maxRecDepth 100000 in
set_option maxHeartbeats 2000000 in
theorem concat_anyN (o : Option Addr) (cap : Nat) (L : List (Value × List Nat)) (w : World) (hg : 0 < L.length → ∃ g, o = some ⟨g, 0, none⟩ ∧ g < w.heap.size ∧ CellsLIN w g L) (hl : L.length ≤ 1000000) (hs : sumLN L ≤ 1099511627776) :
    Calls Tryz.prog 100 #[.slice o L.length cap] w fun e w' => ∃ v, e = .returned v ∧ w'.ownsRow w.heap.size 70 1 v (catLN L).length ((catLN L).map uV) ∧ Below w.heap.size w w' := by
  have HG : Hid (∀ n W, n ≤ 1099511627776 → _) := grow_nilN
  go_enter Tryz.func100, Tryz.ntmps100
  go_wp2
  go_loopw [3, 11] (fun sz i wr => ∃ k : Nat, k ≤ L.length ∧ i = .int .i64 k ∧ sz = .int .i64 (sumLN (L.take k)) ∧ w = wr) (fun _ i _ => L.length - (RowKit.intOf i).toNat)
  case atStart => exact ⟨0, Nat.zero_le _, rfl, rfl, rfl⟩
  case round =>
    obtain ⟨k, hk, rfl, rfl, rfl⟩ := hrel
    by_cases hlt : k < L.length
    · obtain ⟨g, rfl, hg2, hc⟩ := hg (by omega)
      obtain ⟨hx, hrd⟩ := hc k hlt
      clear hg
      have hst := sum_stepN L k hlt
      have hle := sum_leN L (k + 1)
      obtain ⟨o, c, hv, -⟩ := hrd
      rw [hv] at hx
      generalize L[k].2.length = m at *
      generalize sumLN (L.take k) = a at *
      have q : ¬ ((a : Int) + (m : Int) < 0) := by omega
      go_wp2
      go_roundw
      case rel => exact ⟨k + 1, by omega, by go_num, by rw [hst]; go_num, trivial⟩
      case measure => simp [RowKit.intOf]; omega
    · have hkl : k = L.length := by omega
      subst hkl
      rw [List.take_length]
      have hG := HG.out (sumLN L) w (by omega)
      go_wp2_with (go_at_call 119; refine hG.mono ?_; rintro e w1 ⟨v1, rfl, ho1, hb1⟩)
      go_loopw [6, 27] (fun v i wr => ∃ k : Nat, k ≤ L.length ∧ i = .int .i64 k ∧ wr.ownsRow w.heap.size 70 1 v (catLN (L.take k)).length ((catLN (L.take k)).map uV) ∧ Below w.heap.size w wr) (fun _ i _ => L.length - (RowKit.intOf i).toNat)
      case atStart => exact ⟨0, Nat.zero_le _, rfl, ho1, hb1⟩
      case round =>
        obtain ⟨k, hk, rfl, ho, hb⟩ := hrel
        by_cases hlt : k < L.length
        · obtain ⟨g, rfl, hg2, hc⟩ := hg (by omega)
          obtain ⟨hx, hrd⟩ := hc.later hg2 hb k hlt
          clear hg
          have hst := cat_stepN L k hlt
          have hss := sum_stepN L k hlt
          have hle := sum_leN L (k + 1)
          have hcl := catL_lenN (L.take k)
          obtain ⟨v', w', h1, h2, h3⟩ := run_append_rdIN wr w.heap.size _ _ _ _ 53 ho hb.size hrd (by rw [hcl]; omega)
          have hb2 := hb.trans (below_grownIN ho hb.size h3)
          rw [← hst] at h2
          generalize L[k].1 = x at *
          go_wp2_with (at_builtin; refine wpList_append_run _ rfl _ _ 53 53 rfl _ _ rfl rfl _ _ h1 ?_)
          go_roundw
          case rel => exact ⟨k + 1, by omega, by go_num, h2, hb2⟩
          case measure => simp [RowKit.intOf]; omega
        · have hkl : k = L.length := by omega
          subst hkl
          rw [List.take_length] at ho
          go_wp2
          go_ret
          exact ⟨_, rfl, ho, hb⟩
end Go.Proofs.YtilacgcjbdkphaaGreat

namespace Go.Proofs.YtilacgcjbdkphaaGreat
open Go.RowKit Go.Lib Go.Shelf

def textK (k : Nat) : Bool := k == 3 || k == 4
/-- Is a node a text? Its data. -/
def textB (ns : List NodeD) (x : Int) : Bool := match nodeOf ns x with
  | some n => textK n.kind
  | none => false
def dataD (ns : List NodeD) (x : Int) : List Nat := match nodeOf ns x with
  | some n => n.data
  | none => []
/-- The text of a range (but of one text). -/
def textD (ns : List NodeD) (p q : Int × Int) : List Nat :=
  (if textB ns p.1 then (dataD ns p.1).drop p.2.toNat else []) ++ ((allD ns (commD ns p.1 q.1)).filter (fun h => textB ns h && contD ns p q h)).flatMap (dataD ns) ++ (if textB ns q.1 then (dataD ns q.1).take q.2.toNat else [])

set_option maxRecDepth 100000 in
set_option maxHeartbeats 4000000 in
theorem isText_any (b off cap j : Nat) (ns : List NodeD) (w : World) (hF : FAt w b off cap ns) (hj : j < ns.length) :
    Calls Tryz.prog 98 #[.agg #[.slice (some ⟨b, off, none⟩) ns.length cap], .int .i64 ((j : Int) + 1)] w fun e w' => e = .returned (.bool (textB ns ((j : Int) + 1))) ∧ Below w.heap.size w w' := by
  have hle := hF.len
  have hb : textB ns ((j : Int) + 1) = textK ns[j].kind := by unfold textB; rw [nodeOf_at ns j hj]
  rw [hb]
  obtain ⟨Ls, hc, _⟩ := hF.at_ j hj
  have bx : Below w.heap.size w (w.alloc (.cells #[.slice (some ⟨b, off, none⟩) ns.length cap] 24)) := (Below.refl _ w).alloc (Nat.le_refl _) _
  have n0 := (hc.later hF.lt bx).kind
  have q1 : (0 : Int) ≤ (j : Int) := by omega
  have q2 : (j : Int) < (ns.length : Int) := by omega
  have HB := hid bx
  have e3 : ((ns[j].kind : Int) == 3) = (ns[j].kind == 3) := beq_cast ns[j].kind 3
  have e4 : ((ns[j].kind : Int) == 4) = (ns[j].kind == 4) := beq_cast ns[j].kind 4
  unfold textK
  clear hF hc hb bx
  generalize ns[j].kind = k at *
  cases h3 : (k == 3) with
  | true =>
    rw [h3] at e3
    go_enter Tryz.func98, Tryz.ntmps98
    go_wp2
    go_ret
    exact ⟨rfl, HB.out⟩
  | false =>
    rw [h3] at e3
    generalize (k == 4) = K at *
    go_enter Tryz.func98, Tryz.ntmps98
    go_wp2
    go_ret
    exact ⟨rfl, HB.out⟩
theorem info_unitsB : (Tryz.prog.info? 53).map (fun i => (i.zero, i.size, i.bytes)) = some (some (.slice none 0 0), 1, 24) := by kernel_rfl
theorem one_cellG (W : World) (s : Value) (t : TypeId) : ∀ (j : Nat) (u : Value), [s][j]? = some u → (W.alloc (.cells #[s] t)).cell? ((⟨W.heap.size, 0, none⟩ : Addr).add j) = some u := fun j u hj => by
  have h0 : j = 0 := by
    match j, hj with
    | 0, _ => rfl
  subst h0
  have e : s = u := by simpa using hj
  subst e
  have ea : (⟨W.heap.size, 0, none⟩ : Addr).add 0 = ⟨W.heap.size, 0, none⟩ := by simp [Addr.add]
  rw [ea]
  exact (box_cell_l (heap_new W _)).1
/-- A part more. -/
theorem push_part (W : World) (B : Nat) (v : Value) (L : List (Value × List Nat)) (o2 : Option Addr) (n2 c2 : Nat) (us : List Nat) (hown : W.ownsRow B 53 1 v L.length (L.map (·.1))) (hB : B ≤ W.heap.size) (hn : L.length ≤ 1000000000) :
    ∃ o cp w', (∀ ty, (Builtin.append_ #[132, 132] ty #[v, .slice (some ⟨W.heap.size, 0, none⟩) 1 1]).run Tryz.prog (W.alloc (.cells #[.slice o2 n2 c2] 53)) = .ok (.slice o (L ++ [(Value.slice o2 n2 c2, us)]).length cp) w') ∧ w'.ownsRow B 53 1 (.slice o (L ++ [(Value.slice o2 n2 c2, us)]).length cp) (L ++ [(Value.slice o2 n2 c2, us)]).length ((L ++ [(Value.slice o2 n2 c2, us)]).map (·.1)) ∧ Below B W w' := by
  obtain ⟨i0, hi, hz0, hz1, hz2⟩ := info_parts info_unitsB
  have hA : Below W.heap.size W (W.alloc (.cells #[.slice o2 n2 c2] 53)) := (Below.refl _ W).alloc (Nat.le_refl _) _
  have hO := hown.alloc (.cells #[.slice o2 n2 c2] 53)
  obtain ⟨v', w', h1, h2, h3, _⟩ := run_append_own (P := Tryz.prog) (W.alloc (.cells #[.slice o2 n2 c2] 53)) B 132 0 53 i0 (.slice none 0 0) 1 24 Tryz.underlying132 hi hz0 hz1 hz2 rfl (by decide) v L.length (L.map (·.1)) hO ⟨W.heap.size, 0, none⟩ 1 1 [.slice o2 n2 c2] rfl (one_cellG W _ _) (fun u hu => by rw [List.mem_singleton.1 hu]; rfl) (by unfold maxLen; omega) (by omega) (Nat.le_trans hB hA.size)
  have e1 : (L ++ [(Value.slice o2 n2 c2, us)]).map (·.1) = L.map (·.1) ++ [.slice o2 n2 c2] := by rw [List.map_append]; rfl
  have e2 : (L ++ [(Value.slice o2 n2 c2, us)]).length = L.length + 1 := by rw [List.length_append]; rfl
  obtain ⟨o, cp, rfl⟩ := own_shapeB h2
  rw [e1, e2]
  exact ⟨o, cp, w', fun ty => h1, h2, (hA.mono hB).trans ((Below.refl B _).grown h3 (Nat.le_trans hB hA.size) (fun k hk => (hO.lt k hk).1))⟩
end Go.Proofs.YtilacgcjbdkphaaGreat

namespace Go.Proofs.YtilacgcjbdkphaaGreat
open Go.RowKit Go.Lib Go.Shelf

/-- A part of units, from a place on. -/
theorem slice_from {w : World} {od : Option Addr} {cd : Nat} {us : List Nat} {c : Nat} (hr : RdN w (.slice od us.length cd) us) (h : c ≤ us.length) :
    RdN w (.slice (if cd = c then od else od.map (·.add c)) (us.length - c) (cd - c)) (us.drop c) := by
  obtain ⟨o, cap, e, hc, g⟩ := hr
  simp only [Value.slice.injEq, true_and] at e
  obtain ⟨rfl, rfl⟩ := e
  refine ⟨_, _, by rw [List.length_drop], by rw [List.length_drop]; omega, fun hp => ?_⟩
  rw [List.length_drop] at hp
  obtain ⟨b, off, rfl, hlt, ha⟩ := g (by omega)
  have hne : ¬ cd = c := by omega
  refine ⟨b, off + c, ?_, hlt, fun j hj => ?_⟩
  · rw [if_neg hne]
    simp [Addr.add]
  · rw [List.length_drop] at hj
    rw [show off + c + j = off + (c + j) by omega, ha (c + j) (by omega)]
    simp [List.getElem_drop]
/-- A part of units, up to a place. -/
theorem slice_upto {w : World} {od : Option Addr} {cd : Nat} {us : List Nat} {c : Nat} (hr : RdN w (.slice od us.length cd) us) (h : c ≤ us.length) :
    RdN w (.slice od c cd) (us.take c) := by
  obtain ⟨o, cap, e, hc, g⟩ := hr
  simp only [Value.slice.injEq, true_and] at e
  obtain ⟨rfl, rfl⟩ := e
  refine ⟨_, _, by rw [List.length_take, Nat.min_eq_left h], by rw [List.length_take, Nat.min_eq_left h]; omega, fun hp => ?_⟩
  rw [List.length_take, Nat.min_eq_left h] at hp
  obtain ⟨b, off, rfl, hlt, ha⟩ := g (by omega)
  refine ⟨b, off, rfl, hlt, fun j hj => ?_⟩
  rw [List.length_take, Nat.min_eq_left h] at hj
  rw [ha j (by omega)]
  simp
end Go.Proofs.YtilacgcjbdkphaaGreat

namespace Go.Proofs.YtilacgcjbdkphaaGreat
open Go.RowKit Go.Lib Go.Shelf

theorem own_emptyN (w : World) (B : Nat) (hB : B ≤ w.heap.size) : (w.alloc (.cells #[] 70)).ownsRow B 70 1 (.slice (some ⟨w.heap.size, 0, none⟩) 0 0) ([] : List Nat).length (([] : List Nat).map uV) :=
  ⟨rfl, .inr ⟨w.heap.size, 0, #[], rfl, hB, heap_new w _, Nat.le_refl _, Nat.zero_le _, rfl, rfl⟩⟩

set_option maxRecDepth 100000 in
set_option maxHeartbeats 1000000 in
theorem clone_unitsN (o : Option Addr) (cap : Nat) (us : List Nat) (w : World) (hr : RdN w (.slice o us.length cap) us) (hn : us.length ≤ 1000000000) :
    Calls Tryz.prog 131 #[.slice o us.length cap] w fun e w' => ∃ v, e = .returned v ∧ w'.ownsRow w.heap.size 70 1 v us.length (us.map uV) ∧ Below w.heap.size w w' := by
  cases o with
  | none =>
    have hz : us = [] := by
      obtain ⟨o', cap', e, _, g⟩ := hr
      by_cases h0 : 0 < us.length
      · obtain ⟨b, off, e2, _⟩ := g h0
        simp only [Value.slice.injEq, true_and] at e
        rw [← e.1] at e2
        cases e2
      · exact List.eq_nil_of_length_eq_zero (by omega)
    subst hz
    have q := run_eql_slice_nil (P := Tryz.prog) w 53 70 none 0 cap Tryz.underlying53
    go_enter Tryz.func131, Tryz.ntmps131
    go_wp2
    go_ret
    exact ⟨_, rfl, World.ownsRow_nil _ _ _ _, Below.refl _ _⟩
  | some a =>
    have hb0 : Below w.heap.size w (w.alloc (.cells #[] 70)) := (Below.refl _ w).alloc (Nat.le_refl _) _
    obtain ⟨v', w', h1, h2, h3⟩ := run_append_rdIN (w.alloc (.cells #[] 70)) w.heap.size (.slice (some ⟨w.heap.size, 0, none⟩) 0 0) (.slice (some a) us.length cap) [] us 53 (own_emptyN w _ (Nat.le_refl _)) (by simp) (hr.later hb0) (by simp; omega)
    have hb1 := hb0.trans (below_grownIN (own_emptyN w w.heap.size (Nat.le_refl _)) (by simp) h3)
    have q := run_eql_slice_nil (P := Tryz.prog) w 53 70 (some a) us.length cap Tryz.underlying53
    have HO := hid h2
    have HB := hid hb1
    clear h2 h3 hb0 hb1 hr
    go_enter Tryz.func131, Tryz.ntmps131
    go_wp2_with (at_builtin; refine wpList_append_run _ rfl _ _ 53 53 rfl _ _ rfl rfl _ _ h1 ?_)
    go_ret
    exact ⟨_, rfl, by simpa using HO.out, HB.out⟩

set_option maxRecDepth 100000 in
set_option maxHeartbeats 1000000 in
theorem reach_nearN (o : Option Addr) (n cap x z : Nat) (w : World) (hn : n ≤ 1000000) (h : x + z ≤ n) :
    Calls Tryz.prog 130 #[.slice o n cap, .int .u32 x, .int .u32 z] w fun e w' => e = .returned (.tuple #[.int .i64 x, .int .i64 ((x + z : Nat) : Int), .int .i64 0]) ∧ w' = w := by
  have q : ¬ (n : Int) < (x : Int) := by omega
  go_enter Tryz.func130, Tryz.ntmps130
  go_wp2
  go_ret3
  refine ⟨?_, rfl⟩
  have e : (x : Int) + min (z : Int) ((n : Int) - (x : Int)) = ((x + z : Nat) : Int) := by omega
  show Ending.returned (.tuple #[.int .i64 x, .int .i64 ((x : Int) + min (z : Int) ((n : Int) - (x : Int))), .int .i64 0]) = _
  rw [e]
  simp

theorem slice_mid {w : World} {od : Option Addr} {cd : Nat} {us : List Nat} {x z : Nat} (hr : RdN w (.slice od us.length cd) us) (h : x + z ≤ us.length) :
    RdN w (.slice (if cd = x then od else od.map (·.add x)) z (cd - x)) ((us.drop x).take z) := by
  have h1 := slice_from hr (c := x) (by omega)
  have hl : us.length - x = (us.drop x).length := by rw [List.length_drop]
  rw [hl] at h1
  exact slice_upto h1 (by rw [List.length_drop]; omega)

set_option maxRecDepth 100000 in
set_option maxHeartbeats 1000000 in
theorem subN_any (od : Option Addr) (cd : Nat) (us : List Nat) (x z : Nat) (w : World) (hr : RdN w (.slice od us.length cd) us) (hn : us.length ≤ 1000000) (h : x + z ≤ us.length) :
    Calls Tryz.prog 118 #[.slice od us.length cd, .int .u32 x, .int .u32 z] w fun e w' => ∃ v, e = .returned (.tuple #[v, .int .i64 0]) ∧ w'.ownsRow w.heap.size 70 1 v ((us.drop x).take z).length (((us.drop x).take z).map uV) ∧ Below w.heap.size w w' := by
  have hR := (reach_nearN od us.length cd x z w hn h).mono (fun e w' h => (⟨h.1, h.2.symm⟩ : e = .returned (.tuple #[.int .i64 x, .int .i64 ((x + z : Nat) : Int), .int .i64 0]) ∧ w = w'))
  have hm := slice_mid hr h
  have hl : ((us.drop x).take z).length = z := by rw [List.length_take, List.length_drop]; omega
  have hcap : us.length ≤ cd := by
    obtain ⟨o', c', e, hc, _⟩ := hr
    simp only [Value.slice.injEq, true_and] at e
    omega
  obtain ⟨O, hO⟩ : ∃ O, (if cd = x then od else od.map (·.add x)) = O := ⟨_, rfl⟩
  rw [hO] at hm
  have hm2 : RdN w (.slice O ((us.drop x).take z).length (cd - x)) ((us.drop x).take z) := by rw [hl]; exact hm
  have hC := clone_unitsN O (cd - x) _ w hm2 (by omega)
  rw [hl] at hC
  have hLen := hid hl
  rw [hl]
  clear hm hm2 hl
  generalize (us.drop x).take z = M at *
  have q1 : (0 : Int) ≤ (x : Int) := by omega
  have q2 : (x : Int) ≤ (x : Int) + (z : Int) := by omega
  have q3 : (x : Int) + (z : Int) ≤ (cd : Int) := by omega
  by_cases hcx : cd = x
  · rw [if_pos hcx] at hO
    subst hO
    subst hcx
    have hz0 : z = 0 := by omega
    subst hz0
    rw [Nat.sub_self] at hC
    clear hr h hcap
    go_enter Tryz.func118, Tryz.ntmps118
    go_wp2_with (first
      | (go_at_call 130; refine hR.mono ?_; rintro e w' ⟨rfl, rfl⟩)
      | (go_at_call 131; refine hC.mono ?_; rintro e w2 ⟨v2, rfl, ho2, b2⟩))
    go_ret2
    exact ⟨_, rfl, ho2, b2⟩
  · rw [if_neg hcx] at hO
    cases od with
    | none =>
      have hu0 : us.length = 0 := by
        obtain ⟨o', c', e, _, g⟩ := hr
        by_cases hp : 0 < us.length
        · obtain ⟨b, off, e2, _⟩ := g hp
          simp only [Value.slice.injEq, true_and] at e
          rw [← e.1] at e2
          cases e2
        · omega
      have hx0 : x = 0 := by omega
      have hz0 : z = 0 := by omega
      simp only [Option.map_none] at hO
      subst hO hx0 hz0
      rw [hu0] at hR ⊢
      clear hr h hcap hu0
      go_enter Tryz.func118, Tryz.ntmps118
      go_wp2_with (first
        | (go_at_call 130; refine hR.mono ?_; rintro e w' ⟨rfl, rfl⟩)
        | (go_at_call 131; refine hC.mono ?_; rintro e w2 ⟨v2, rfl, ho2, b2⟩))
      go_ret2
      exact ⟨_, rfl, ho2, b2⟩
    | some a =>
      simp only [Option.map_some] at hO
      subst hO
      clear hr h hcap
      go_enter Tryz.func118, Tryz.ntmps118
      go_wp2_with (first
        | (go_at_call 130; refine hR.mono ?_; rintro e w' ⟨rfl, rfl⟩)
        | (go_at_call 131; refine hC.mono ?_; rintro e w2 ⟨v2, rfl, ho2, b2⟩))
      go_ret2
      exact ⟨_, rfl, ho2, b2⟩
end Go.Proofs.YtilacgcjbdkphaaGreat

