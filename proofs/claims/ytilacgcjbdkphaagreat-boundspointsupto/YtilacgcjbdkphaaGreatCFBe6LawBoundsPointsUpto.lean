/- Where the arguments hold at most 1048576 values and letters the law BoundsPoints answers true: every length, point, position and list of points of a forest is what the reference says, and what is handed in stays. -/
/- bounds: every length, point, position and list of points is as the reference says (BoundsPoints). -/
import Derived.Test.YtilacgcjbdkphaaGreatCFBe0FBe5
import Derived.Test.YtilacgcjbdkphaaGreatCFBdkFBdl
import Derived.Test.YtilacgcjbdkphaaGreatCFSa0FSa3
import Derived.Test.YtilacgcjbdkphaaGreatCFOpenFBdo
import Derived.Test.YtilacgcjbdkphaaGreatRows
import Derived.ProofKit
import Derived.OpenShut
import Derived.JoinedCond
namespace Go.Proofs.YtilacgcjbdkphaaGreat
open Go.RowKit Go.Lib Go.Shelf

set_option maxRecDepth 100000 in
set_option maxHeartbeats 4000000 in
theorem same_none (o1 o2 : Option Addr) (c1 c2 : Nat) (w : World) :
    Calls Tryz.prog 19 #[.agg #[.slice o1 0 c1], .agg #[.slice o2 0 c2]] w fun e w' => e = .returned (.bool true) ∧ Below w.heap.size w w' := by
  have hA0 := AtN.first w (.cells #[.slice o1 0 c1] 24) (.cells #[.slice o2 0 c2] 24)
  go_enter Tryz.func19, Tryz.ntmps19
  go_wp2
  go_loopw [16] (fun t wr => t = .int .i64 0 ∧ AtN w (.cells #[.slice o1 0 c1] 24) (.cells #[.slice o2 0 c2] 24) wr) (fun _ _ => 0)
  case atStart => exact ⟨rfl, hA0⟩
  case round =>
    obtain ⟨rfl, hA⟩ := hrel
    go_wp2
    go_ret
    exact ⟨rfl, hA.below⟩
theorem same_any (o1 o2 : Option Addr) (c1 c2 : Nat) (ns : List NodeD) (w : World) (hF1 : FRd w o1 c1 ns) (hF2 : FRd w o2 c2 ns) (hdl : ∀ (i : Nat) (hi : i < ns.length), ns[i].data.length ≤ 1048576) (hkl : ∀ (i : Nat) (hi : i < ns.length), ns[i].kids.length ≤ 1048576) (hal : ∀ (i : Nat) (hi : i < ns.length), ns[i].attrs.length ≤ 1048576) :
    Calls Tryz.prog 19 #[.agg #[.slice o1 ns.length c1], .agg #[.slice o2 ns.length c2]] w fun e w' => e = .returned (.bool true) ∧ Below w.heap.size w w' := by
  by_cases h0 : ns.length = 0
  · rw [h0]
    exact same_none o1 o2 c1 c2 w
  · obtain ⟨b1, off1, rfl, h1⟩ := hF1.at_ (by omega)
    obtain ⟨b2, off2, rfl, h2⟩ := hF2.at_ (by omega)
    exact same_some b1 off1 c1 b2 off2 c2 ns w h1 h2 (fun i hi => Nat.le_trans (hdl i hi) (by decide)) (fun i hi => Nat.le_trans (hkl i hi) (by decide)) (fun i hi => Nat.le_trans (hal i hi) (by decide))

theorem walkL_len (ns : List NodeD) (x : Int) : (walkL ns x).length ≤ 67117056 := by
  unfold walkL
  by_cases hE : toldE ns [x] = 0
  · rw [if_pos hE]
    obtain ⟨hR, hth⟩ := toldE_zero hE
    have h := hR.sz (hth x (by simp))
    unfold szD at h
    omega
  · rw [if_neg hE]
    exact Nat.zero_le _

set_option maxRecDepth 100000 in
set_option maxHeartbeats 8000000 in
theorem boundsPoints_law (o : Option Addr) (cap : Nat) (ns : List NodeD) (x c y d : Int) (w : World) (hF : FRd w o cap ns) (hn : ns.length ≤ 1048576) (hkl : ∀ (i : Nat) (hi : i < ns.length), ns[i].kids.length ≤ 1048576) (hal : ∀ (i : Nat) (hi : i < ns.length), ns[i].attrs.length ≤ 1048576) (hdl : ∀ (i : Nat) (hi : i < ns.length), ns[i].data.length ≤ 1048576) :
    Calls Tryz.prog 3 #[.agg #[.slice o ns.length cap], bndV x c, bndV y d] w fun e w' => e = .returned (.bool true) ∧ Below w.heap.size w w' := by
  have hk2 : ∀ (i : Nat) (hi : i < ns.length), ns[i].kids.length ≤ 1099511627776 := fun i hi => Nat.le_trans (hkl i hi) (by decide)
  have ha2 : ∀ (i : Nat) (hi : i < ns.length), ns[i].attrs.length ≤ 1099511627776 := fun i hi => Nat.le_trans (hal i hi) (by decide)
  have XL : Hid (∀ V : World, _) := fun V => livesB_true V
  have X1 : Hid (∀ (V : World) (o' : Option Addr) (c' : Nat), FRd V o' c' ns → _) := fun V o' c' h => bLength_any o' c' x ns V h hk2 ha2
  have X2 : Hid (∀ (v : Value) (V : World), Below w.heap.size w V → RdI V v [x] → _) := fun v V hV hr => refFault_any o cap v _ ns V (hF.later hV) hk2 ha2 hr (by simp)
  have X3 : Hid (toldE ns [x] = 0 → ∀ V : World, Below w.heap.size w V → Calls Tryz.prog 10 #[.agg #[.slice o ns.length cap], .int .i64 x] V fun e w' => e = .returned (.int .i64 (lenN ns x)) ∧ Below V.heap.size V w') := fun hE V hV => by
    obtain ⟨hR, hth⟩ := toldE_zero hE
    exact refLen15_any o cap x ns V hR (hF.later hV) (hth x (by simp))
  have X4 : Hid (∀ (V : World) (o' : Option Addr) (c' : Nat), FRd V o' c' ns → _) := fun V o' c' h => bCompare_any o' c' x c y d ns V h hk2 ha2
  have X5 : Hid (∀ V : World, Below w.heap.size w V → _) := fun V hV => refCompare15_any o cap x c y d ns V (hF.later hV) hk2 ha2
  have X6 : Hid (∀ (V : World) (o' : Option Addr) (c' : Nat), FRd V o' c' ns → _) := fun V o' c' h => bWalk_any o' c' x ns V h hk2 ha2
  have X7 : Hid (∀ V : World, Below w.heap.size w V → _) := fun V hV => refWalk15_any o cap x ns V (hF.later hV) hk2 ha2
  have X8 : Hid (∀ (V : World) (o' : Option Addr) (c' : Nat), FRd V o' c' ns → _) := fun V o' c' h => bCheck_any o' c' x c ns V h hk2 ha2
  have X9 : Hid (∀ V : World, Below w.heap.size w V → _) := fun V hV => refCheck15_any o cap x c ns V (hF.later hV) hk2 ha2
  have XS : Hid (∀ (V : World) (o' : Option Addr) (c' : Nat), Below w.heap.size w V → FRd V o' c' ns → _) := fun V o' c' hV h => same_any o' o c' cap ns V h (hF.later hV) hdl hkl hal
  obtain ⟨bx, g0, g1, g2, sx⟩ := three_newB w (.cells #[.slice o ns.length cap] 24) (.cells #[.int .i64 x, .int .i64 c] 26) (.cells #[.int .i64 y, .int .i64 d] 26)
  have hCp := copy_any o cap ns _ (hF.later bx) hn hdl hkl hal
  have hwl := walkL_len ns x
  clear hF hn hkl hal hdl hk2 ha2
  generalize lookE ns [(x, c)] = LE at *
  generalize bcmpV ns (x, c) (y, d) = CV at *
  generalize bcmpE ns (x, c) (y, d) = CE at *
  generalize walkL ns x = WL at *
  generalize hE1 : toldE ns [x] = E1 at *
  generalize lenN ns x = LN at *
  clear hE1
  obtain ⟨A, hA⟩ : ∃ A, (if E1 = 0 then (LN : Int) else 0) = A := ⟨_, rfl⟩
  rw [hA] at X1
  unfold bndV at *
  go_enter Tryz.func3, Tryz.ntmps3
  go_upto_region 1 with fail
  generalize (((w.alloc (.cells #[.slice o ns.length cap] 24)).alloc (.cells #[.int .i64 x, .int .i64 c] 26)).alloc (.cells #[.int .i64 y, .int .i64 d] 26)) = W0 at *
  have n0 := (box_cell_l g0).1
  go_wp2_with fail
  refine hCp.mono ?_
  rintro e v0 ⟨o1, c1, rfl, hFG, hb⟩
  have gG := heap_new v0 (.cells #[.slice o1 ns.length c1] 24)
  have bx := bx.trans (hb.mono bx.size)
  have g0 := blkLater hb g0
  have g1 := blkLater hb g1
  have g2 := blkLater hb g2
  clear n0 hb hCp sx
  have hb : Below v0.heap.size v0 (v0.alloc (.cells #[.slice o1 ns.length c1] 24)) := (Below.refl _ v0).alloc (Nat.le_refl _) _
  have bx := bx.trans (hb.mono bx.size)
  have g0 := blkLater hb g0
  have g1 := blkLater hb g1
  have g2 := blkLater hb g2
  have hFG := hFG.later hb
  clear hb
  go_upto_region 2 with fail
  obtain ⟨G, hG⟩ : ∃ G, v0.heap.size = G := ⟨_, rfl⟩
  rw [hG] at gG ⊢
  generalize v0.alloc (.cells #[.slice o1 ns.length c1] 24) = v1 at *
  clear hG
  have n0 := (box_cell_l g0).1
  have m0 := (box_cell_l gG).1
  obtain ⟨a0, a1⟩ := bnd_cells g1
  obtain ⟨b0, b1⟩ := bnd_cells g2
  have hC := X1.out v1 o1 c1 hFG
  go_wp2_with fail
  refine hC.mono ?_
  rintro e v2 ⟨rfl, hb⟩
  have bx := bx.trans (hb.mono bx.size)
  have g0 := blkLater hb g0
  have g1 := blkLater hb g1
  have g2 := blkLater hb g2
  have gG := blkLater hb gG
  have hFG := hFG.later hb
  clear hC hb n0 m0 a0 a1 b0 b1
  have hri := one_rdI v2 x 3
  have hbi : Below v2.heap.size v2 (v2.alloc (.cells #[.int .i64 x] 3)) := (Below.refl _ v2).alloc (Nat.le_refl _) _
  have hC := X2.out _ _ (bx.trans (hbi.mono bx.size)) hri
  have n0 := (box_cell_l g0).1
  have m0 := (box_cell_l gG).1
  obtain ⟨a0, a1⟩ := bnd_cells g1
  obtain ⟨b0, b1⟩ := bnd_cells g2
  go_wp2_with fail
  refine hC.mono ?_
  rintro e v3 ⟨rfl, hb3⟩
  have hb := hbi.trans (hb3.mono hbi.size)
  have bx := bx.trans (hb.mono bx.size)
  have g0 := blkLater hb g0
  have g1 := blkLater hb g1
  have g2 := blkLater hb g2
  have gG := blkLater hb gG
  have hFG := hFG.later hb
  clear hC hb hb3 hbi hri n0 m0 a0 a1 b0 b1
  by_cases hE : E1 = 0
  · subst hE
    have hX3 := X3.out rfl
    have X3b := hid hX3
    rw [if_pos rfl] at hA
    subst hA
    clear X3 hX3
    have n0 := (box_cell_l g0).1
    have m0 := (box_cell_l gG).1
    obtain ⟨a0, a1⟩ := bnd_cells g1
    obtain ⟨b0, b1⟩ := bnd_cells g2
    have hC := X3b.out v3 bx
    go_wp2_with fail
    refine hC.mono ?_
    rintro e v4 ⟨rfl, hb⟩
    have bx := bx.trans (hb.mono bx.size)
    have g0 := blkLater hb g0
    have g1 := blkLater hb g1
    have g2 := blkLater hb g2
    have gG := blkLater hb gG
    have hFG := hFG.later hb
    clear hC hb n0 m0 a0 a1 b0 b1
    have n0 := (box_cell_l g0).1
    have m0 := (box_cell_l gG).1
    obtain ⟨a0, a1⟩ := bnd_cells g1
    obtain ⟨b0, b1⟩ := bnd_cells g2
    have hC := X4.out v4 o1 c1 hFG
    go_wp2_with fail
    refine hC.mono ?_
    rintro e v5 ⟨rfl, hb⟩
    have bx := bx.trans (hb.mono bx.size)
    have g0 := blkLater hb g0
    have g1 := blkLater hb g1
    have g2 := blkLater hb g2
    have gG := blkLater hb gG
    have hFG := hFG.later hb
    clear hC hb n0 m0 a0 a1 b0 b1
    have n0 := (box_cell_l g0).1
    have m0 := (box_cell_l gG).1
    obtain ⟨a0, a1⟩ := bnd_cells g1
    obtain ⟨b0, b1⟩ := bnd_cells g2
    have hC := X5.out v5 bx
    go_wp2_with fail
    refine hC.mono ?_
    rintro e v6 ⟨rfl, hb⟩
    have bx := bx.trans (hb.mono bx.size)
    have g0 := blkLater hb g0
    have g1 := blkLater hb g1
    have g2 := blkLater hb g2
    have gG := blkLater hb gG
    have hFG := hFG.later hb
    clear hC hb n0 m0 a0 a1 b0 b1
    have n0 := (box_cell_l g0).1
    have m0 := (box_cell_l gG).1
    obtain ⟨a0, a1⟩ := bnd_cells g1
    obtain ⟨b0, b1⟩ := bnd_cells g2
    have hC := X6.out v6 o1 c1 hFG
    go_wp2_with fail
    refine hC.mono ?_
    rintro e v7 ⟨oa, ca, rfl, hra, hb⟩
    have bx := bx.trans (hb.mono bx.size)
    have g0 := blkLater hb g0
    have g1 := blkLater hb g1
    have g2 := blkLater hb g2
    have gG := blkLater hb gG
    have hFG := hFG.later hb
    clear hC hb n0 m0 a0 a1 b0 b1
    have n0 := (box_cell_l g0).1
    have m0 := (box_cell_l gG).1
    obtain ⟨a0, a1⟩ := bnd_cells g1
    obtain ⟨b0, b1⟩ := bnd_cells g2
    have hC := X7.out v7 bx
    go_wp2_with fail
    refine hC.mono ?_
    rintro e v8 ⟨ob, cb, rfl, hrb, hb⟩
    have bx := bx.trans (hb.mono bx.size)
    have g0 := blkLater hb g0
    have g1 := blkLater hb g1
    have g2 := blkLater hb g2
    have gG := blkLater hb gG
    have hFG := hFG.later hb
    have hra := hra.later hb
    clear hC hb n0 m0 a0 a1 b0 b1
    go_upto_region 10 with fail
    have hgl := (Array.getElem?_eq_some_iff.1 gG).1
    have h0l := (Array.getElem?_eq_some_iff.1 g0).1
    have h1l := (Array.getElem?_eq_some_iff.1 g1).1
    have n0 := (box_cell_l g0).1
    have m0 := (box_cell_l gG).1
    obtain ⟨a0, a1⟩ := bnd_cells g1
    obtain ⟨b0, b1⟩ := bnd_cells g2
    have HRA := hid hra
    have HRB := hid hrb
    have HFG := hid hFG
    have Hbx := hid bx
    clear hra hrb hFG bx g0 g1 g2 gG b0 b1
    refine wp_region_held_drew (S := fun V => Below v8.heap.size v8 V) (by kernel_rfl) ((Below.refl _ _).drew) (fun hHeld => ?_)
    have HB_V0 := hid hHeld
    have HS_V0 := hid hHeld.size
    generalize v8.drew = V0 at *
    refine wpAnyH_ready (rs := [0]) (by kernel_rfl) (by simp) ?_
    refine AllReadyH.cons rfl (fun K hK => ?_) AllReadyH.nil
    go_simp
    go_wp2_with (go_at_call 15; refine (XL.out V0).mono ?_; rintro e V1 ⟨rfl, hb⟩; have HB_V1 := hid (HB_V0.out.trans (hb.mono HB_V0.out.size)); have HS_V1 := hid (HB_V1.out.size))
    refine hK.out _ _ HB_V1.out (fun hHeld => ?_)
    clear hK K
    refine oneH 1 69 (.bool true) hHeld ?_ ?_
    · intro V _; go_simp
    simp only [Act.put, sA, s0, sS]
    refine oneH 2 70 (.int .i64 (LN : Int)) hHeld ?_ ?_
    · intro V _; go_simp
    simp only [Act.put, sA, s0, sS]
    refine oneH 3 71 (.int .i64 (LN : Int)) hHeld ?_ ?_
    · intro V _; go_simp
    simp only [Act.put, sA, s0, sS]
    refine oneH 4 72 (.bool true) hHeld ?_ ?_
    · intro V _; go_simp
    simp only [Act.put, sA, s0, sS]
    refine oneH 5 73 (.bool true) hHeld ?_ ?_
    · intro V _; go_simp
    simp only [Act.put, sA, s0, sS]
    refine oneH 6 74 (.bool true) hHeld ?_ ?_
    · intro V _; go_simp
    simp only [Act.put, sA, s0, sS]
    refine oneH 7 75 (.int .i64 0) hHeld ?_ ?_
    · intro V _; go_simp
    simp only [Act.put, sA, s0, sS]
    refine oneH 8 76 (.int .i64 0) hHeld ?_ ?_
    · intro V _; go_simp
    simp only [Act.put, sA, s0, sS]
    refine oneH 9 77 (.bool true) hHeld ?_ ?_
    · intro V _; go_simp
    simp only [Act.put, sA, s0, sS]
    refine oneH 10 78 (.bool true) hHeld ?_ ?_
    · intro V _; go_simp
    simp only [Act.put, sA, s0, sS]
    refine oneH 11 79 (.bool true) hHeld ?_ ?_
    · intro V _; go_simp
    simp only [Act.put, sA, s0, sS]
    refine oneH 12 80 (.int .i64 CV) hHeld ?_ ?_
    · intro V _; go_simp
    simp only [Act.put, sA, s0, sS]
    refine oneH 13 81 (.int .i64 CV) hHeld ?_ ?_
    · intro V _; go_simp
    simp only [Act.put, sA, s0, sS]
    refine oneH 14 82 (.bool true) hHeld ?_ ?_
    · intro V _; go_simp
    simp only [Act.put, sA, s0, sS]
    refine oneH 15 83 (.bool true) hHeld ?_ ?_
    · intro V _; go_simp
    simp only [Act.put, sA, s0, sS]
    refine oneH 16 84 (.bool true) hHeld ?_ ?_
    · intro V _; go_simp
    simp only [Act.put, sA, s0, sS]
    refine oneH 17 85 (.int .i64 CE) hHeld ?_ ?_
    · intro V _; go_simp
    simp only [Act.put, sA, s0, sS]
    refine oneH 18 86 (.int .i64 CE) hHeld ?_ ?_
    · intro V _; go_simp
    simp only [Act.put, sA, s0, sS]
    refine oneH 19 87 (.bool true) hHeld ?_ ?_
    · intro V _; go_simp
    simp only [Act.put, sA, s0, sS]
    refine oneH 20 88 (.bool true) hHeld ?_ ?_
    · intro V _; go_simp
    simp only [Act.put, sA, s0, sS]
    refine oneH 21 89 (.bool true) hHeld ?_ ?_
    · intro V _; go_simp
    simp only [Act.put, sA, s0, sS]
    refine oneH 22 90 (.slice oa WL.length ca) hHeld ?_ ?_
    · intro V _; go_simp
    simp only [Act.put, sA, s0, sS]
    refine oneH 23 91 (.slice ob WL.length cb) hHeld ?_ ?_
    · intro V _; go_simp
    simp only [Act.put, sA, s0, sS]
    refine wpAnyH_ready (rs := [24]) (by kernel_rfl) (by simp) ?_
    refine AllReadyH.cons rfl (fun K hK => ?_) AllReadyH.nil
    go_simp
    go_wp2_with (go_at_call 16; refine (sameB_any oa ob ca cb WL V1 (HRA.out.later HB_V1.out) (HRB.out.later HB_V1.out) (Nat.le_trans hwl (by decide))).mono ?_; rintro e V2 ⟨rfl, hb⟩; have HB_V2 := hid (HB_V1.out.trans (hb.mono HB_V1.out.size)); have HS_V2 := hid (HB_V2.out.size))
    refine hK.out _ _ HB_V2.out (fun hHeld => ?_)
    clear hK K
    refine oneH 25 93 (.bool true) hHeld ?_ ?_
    · intro V _; go_simp
    simp only [Act.put, sA, s0, sS]
    refine oneH 26 94 (.bool true) hHeld ?_ ?_
    · intro V _; go_simp
    simp only [Act.put, sA, s0, sS]
    refine oneH 27 95 (.int .i64 0) hHeld ?_ ?_
    · intro V _; go_simp
    simp only [Act.put, sA, s0, sS]
    refine oneH 28 96 (.int .i64 0) hHeld ?_ ?_
    · intro V _; go_simp
    simp only [Act.put, sA, s0, sS]
    refine oneH 29 97 (.bool true) hHeld ?_ ?_
    · intro V _; go_simp
    simp only [Act.put, sA, s0, sS]
    refine oneH 30 98 (.bool true) hHeld ?_ ?_
    · intro V _; go_simp
    simp only [Act.put, sA, s0, sS]
    refine oneH 31 99 (.bool true) hHeld ?_ ?_
    · intro V _; go_simp
    simp only [Act.put, sA, s0, sS]
    refine oneH 32 100 (.agg #[.slice o1 ns.length c1]) hHeld ?_ ?_
    · intro V hSw; (try dsimp only at hSw); have k0 := cellLater (B := G) hSw (by omega) m0; go_simp
    simp only [Act.put, sA, s0, sS]
    refine oneH 33 101 (.agg #[.int .i64 x, .int .i64 c]) hHeld ?_ ?_
    · intro V hSw; (try dsimp only at hSw); have k0 := cellLater (B := w.heap.size + 1) hSw (by omega) a0; have k1 := cellLater (B := w.heap.size + 1) hSw (by omega) a1; go_simp
    simp only [Act.put, sA, s0, sS]
    refine oneH 35 103 (.agg #[.slice o ns.length cap]) hHeld ?_ ?_
    · intro V hSw; (try dsimp only at hSw); have k0 := cellLater (B := w.heap.size) hSw (by omega) n0; go_simp
    simp only [Act.put, sA, s0, sS]
    refine oneH 36 104 (.agg #[.int .i64 x, .int .i64 c]) hHeld ?_ ?_
    · intro V hSw; (try dsimp only at hSw); have k0 := cellLater (B := w.heap.size + 1) hSw (by omega) a0; have k1 := cellLater (B := w.heap.size + 1) hSw (by omega) a1; go_simp
    simp only [Act.put, sA, s0, sS]
    refine wpAnyH_ready (rs := [34]) (by kernel_rfl) (by simp) ?_
    refine AllReadyH.cons rfl (fun K hK => ?_) AllReadyH.nil
    go_simp
    go_wp2_with (go_at_call 17; refine (X8.out V2 o1 c1 (HFG.out.later HB_V2.out)).mono ?_; rintro e V3 ⟨rfl, hb⟩; have HB_V3 := hid (HB_V2.out.trans (hb.mono HB_V2.out.size)); have HS_V3 := hid (HB_V3.out.size))
    refine hK.out _ _ HB_V3.out (fun hHeld => ?_)
    clear hK K
    refine wpAnyH_ready (rs := [37]) (by kernel_rfl) (by simp) ?_
    refine AllReadyH.cons rfl (fun K hK => ?_) AllReadyH.nil
    go_simp
    go_wp2_with (go_at_call 18; refine (X9.out V3 (Hbx.out.trans (HB_V3.out.mono Hbx.out.size))).mono ?_; rintro e V4 ⟨rfl, hb⟩; have HB_V4 := hid (HB_V3.out.trans (hb.mono HB_V3.out.size)); have HS_V4 := hid (HB_V4.out.size))
    refine hK.out _ _ HB_V4.out (fun hHeld => ?_)
    clear hK K
    refine oneH 38 106 (.bool true) hHeld ?_ ?_
    · intro V _; go_simp
    simp only [Act.put, sA, s0, sS]
    refine oneH 39 107 (.bool true) hHeld ?_ ?_
    · intro V _; go_simp
    simp only [Act.put, sA, s0, sS]
    refine oneH 40 108 (.bool true) hHeld ?_ ?_
    · intro V _; go_simp
    simp only [Act.put, sA, s0, sS]
    refine oneH 41 109 (.agg #[.slice o1 ns.length c1]) hHeld ?_ ?_
    · intro V hSw; (try dsimp only at hSw); have k0 := cellLater (B := G) hSw (by omega) m0; go_simp
    simp only [Act.put, sA, s0, sS]
    refine oneH 42 110 (.agg #[.slice o ns.length cap]) hHeld ?_ ?_
    · intro V hSw; (try dsimp only at hSw); have k0 := cellLater (B := w.heap.size) hSw (by omega) n0; go_simp
    simp only [Act.put, sA, s0, sS]
    refine wpAnyH_ready (rs := [43]) (by kernel_rfl) (by simp) ?_
    refine AllReadyH.cons rfl (fun K hK => ?_) AllReadyH.nil
    go_simp
    go_wp2_with (go_at_call 19; refine (XS.out V4 o1 c1 (Hbx.out.trans (HB_V4.out.mono Hbx.out.size)) (HFG.out.later HB_V4.out)).mono ?_; rintro e V5 ⟨rfl, hb⟩; have HB_V5 := hid (HB_V4.out.trans (hb.mono HB_V4.out.size)); have HS_V5 := hid (HB_V5.out.size))
    refine hK.out _ _ HB_V5.out (fun hHeld => ?_)
    clear hK K
    refine oneH 44 112 (.bool true) hHeld ?_ ?_
    · intro V _; go_simp
    simp only [Act.put, sA, s0, sS]
    refine oneH 45 6 (.bool true) hHeld ?_ ?_
    · intro V _; go_simp
    simp only [Act.put, sA, s0, sS]
    refine wpAnyH_done (by kernel_rfl) ?_ _
    go_wp2_with fail
    go_ret
    exact ⟨rfl, Hbx.out.trans (HB_V5.out.mono Hbx.out.size)⟩
  · have hd : (E1 == 0) = false := beq_eq_false_iff_ne.2 hE
    rw [if_neg hE] at hA
    subst hA
    clear X3 hE
    have n0 := (box_cell_l g0).1
    have m0 := (box_cell_l gG).1
    obtain ⟨a0, a1⟩ := bnd_cells g1
    obtain ⟨b0, b1⟩ := bnd_cells g2
    have hC := X4.out v3 o1 c1 hFG
    go_wp2_with fail
    refine hC.mono ?_
    rintro e v5 ⟨rfl, hb⟩
    have bx := bx.trans (hb.mono bx.size)
    have g0 := blkLater hb g0
    have g1 := blkLater hb g1
    have g2 := blkLater hb g2
    have gG := blkLater hb gG
    have hFG := hFG.later hb
    clear hC hb n0 m0 a0 a1 b0 b1
    have n0 := (box_cell_l g0).1
    have m0 := (box_cell_l gG).1
    obtain ⟨a0, a1⟩ := bnd_cells g1
    obtain ⟨b0, b1⟩ := bnd_cells g2
    have hC := X5.out v5 bx
    go_wp2_with fail
    refine hC.mono ?_
    rintro e v6 ⟨rfl, hb⟩
    have bx := bx.trans (hb.mono bx.size)
    have g0 := blkLater hb g0
    have g1 := blkLater hb g1
    have g2 := blkLater hb g2
    have gG := blkLater hb gG
    have hFG := hFG.later hb
    clear hC hb n0 m0 a0 a1 b0 b1
    have n0 := (box_cell_l g0).1
    have m0 := (box_cell_l gG).1
    obtain ⟨a0, a1⟩ := bnd_cells g1
    obtain ⟨b0, b1⟩ := bnd_cells g2
    have hC := X6.out v6 o1 c1 hFG
    go_wp2_with fail
    refine hC.mono ?_
    rintro e v7 ⟨oa, ca, rfl, hra, hb⟩
    have bx := bx.trans (hb.mono bx.size)
    have g0 := blkLater hb g0
    have g1 := blkLater hb g1
    have g2 := blkLater hb g2
    have gG := blkLater hb gG
    have hFG := hFG.later hb
    clear hC hb n0 m0 a0 a1 b0 b1
    have n0 := (box_cell_l g0).1
    have m0 := (box_cell_l gG).1
    obtain ⟨a0, a1⟩ := bnd_cells g1
    obtain ⟨b0, b1⟩ := bnd_cells g2
    have hC := X7.out v7 bx
    go_wp2_with fail
    refine hC.mono ?_
    rintro e v8 ⟨ob, cb, rfl, hrb, hb⟩
    have bx := bx.trans (hb.mono bx.size)
    have g0 := blkLater hb g0
    have g1 := blkLater hb g1
    have g2 := blkLater hb g2
    have gG := blkLater hb gG
    have hFG := hFG.later hb
    have hra := hra.later hb
    clear hC hb n0 m0 a0 a1 b0 b1
    go_upto_region 10 with fail
    have hgl := (Array.getElem?_eq_some_iff.1 gG).1
    have h0l := (Array.getElem?_eq_some_iff.1 g0).1
    have h1l := (Array.getElem?_eq_some_iff.1 g1).1
    have n0 := (box_cell_l g0).1
    have m0 := (box_cell_l gG).1
    obtain ⟨a0, a1⟩ := bnd_cells g1
    obtain ⟨b0, b1⟩ := bnd_cells g2
    have HRA := hid hra
    have HRB := hid hrb
    have HFG := hid hFG
    have Hbx := hid bx
    clear hra hrb hFG bx g0 g1 g2 gG b0 b1
    refine wp_region_held_drew (S := fun V => Below v8.heap.size v8 V) (by kernel_rfl) ((Below.refl _ _).drew) (fun hHeld => ?_)
    have HB_V0 := hid hHeld
    have HS_V0 := hid hHeld.size
    generalize v8.drew = V0 at *
    refine wpAnyH_ready (rs := [0]) (by kernel_rfl) (by simp) ?_
    refine AllReadyH.cons rfl (fun K hK => ?_) AllReadyH.nil
    go_simp
    go_wp2_with (go_at_call 15; refine (XL.out V0).mono ?_; rintro e V1 ⟨rfl, hb⟩; have HB_V1 := hid (HB_V0.out.trans (hb.mono HB_V0.out.size)); have HS_V1 := hid (HB_V1.out.size))
    refine hK.out _ _ HB_V1.out (fun hHeld => ?_)
    clear hK K
    refine oneH 1 69 (.bool true) hHeld ?_ ?_
    · intro V _; go_simp
    simp only [Act.put, sA, s0, sS]
    refine oneH 2 70 (.int .i64 0) hHeld ?_ ?_
    · intro V _; go_simp
    simp only [Act.put, sA, s0, sS]
    refine oneH 3 71 (.int .i64 0) hHeld ?_ ?_
    · intro V _; go_simp
    simp only [Act.put, sA, s0, sS]
    refine oneH 4 72 (.bool true) hHeld ?_ ?_
    · intro V _; go_simp
    simp only [Act.put, sA, s0, sS]
    refine oneH 5 73 (.bool true) hHeld ?_ ?_
    · intro V _; go_simp
    simp only [Act.put, sA, s0, sS]
    refine oneH 6 74 (.bool true) hHeld ?_ ?_
    · intro V _; go_simp
    simp only [Act.put, sA, s0, sS]
    refine oneH 7 75 (.int .i64 E1) hHeld ?_ ?_
    · intro V _; go_simp
    simp only [Act.put, sA, s0, sS]
    refine oneH 8 76 (.int .i64 E1) hHeld ?_ ?_
    · intro V _; go_simp
    simp only [Act.put, sA, s0, sS]
    refine oneH 9 77 (.bool true) hHeld ?_ ?_
    · intro V _; go_simp
    simp only [Act.put, sA, s0, sS]
    refine oneH 10 78 (.bool true) hHeld ?_ ?_
    · intro V _; go_simp
    simp only [Act.put, sA, s0, sS]
    refine oneH 11 79 (.bool true) hHeld ?_ ?_
    · intro V _; go_simp
    simp only [Act.put, sA, s0, sS]
    refine oneH 12 80 (.int .i64 CV) hHeld ?_ ?_
    · intro V _; go_simp
    simp only [Act.put, sA, s0, sS]
    refine oneH 13 81 (.int .i64 CV) hHeld ?_ ?_
    · intro V _; go_simp
    simp only [Act.put, sA, s0, sS]
    refine oneH 14 82 (.bool true) hHeld ?_ ?_
    · intro V _; go_simp
    simp only [Act.put, sA, s0, sS]
    refine oneH 15 83 (.bool true) hHeld ?_ ?_
    · intro V _; go_simp
    simp only [Act.put, sA, s0, sS]
    refine oneH 16 84 (.bool true) hHeld ?_ ?_
    · intro V _; go_simp
    simp only [Act.put, sA, s0, sS]
    refine oneH 17 85 (.int .i64 CE) hHeld ?_ ?_
    · intro V _; go_simp
    simp only [Act.put, sA, s0, sS]
    refine oneH 18 86 (.int .i64 CE) hHeld ?_ ?_
    · intro V _; go_simp
    simp only [Act.put, sA, s0, sS]
    refine oneH 19 87 (.bool true) hHeld ?_ ?_
    · intro V _; go_simp
    simp only [Act.put, sA, s0, sS]
    refine oneH 20 88 (.bool true) hHeld ?_ ?_
    · intro V _; go_simp
    simp only [Act.put, sA, s0, sS]
    refine oneH 21 89 (.bool true) hHeld ?_ ?_
    · intro V _; go_simp
    simp only [Act.put, sA, s0, sS]
    refine oneH 22 90 (.slice oa WL.length ca) hHeld ?_ ?_
    · intro V _; go_simp
    simp only [Act.put, sA, s0, sS]
    refine oneH 23 91 (.slice ob WL.length cb) hHeld ?_ ?_
    · intro V _; go_simp
    simp only [Act.put, sA, s0, sS]
    refine wpAnyH_ready (rs := [24]) (by kernel_rfl) (by simp) ?_
    refine AllReadyH.cons rfl (fun K hK => ?_) AllReadyH.nil
    go_simp
    go_wp2_with (go_at_call 16; refine (sameB_any oa ob ca cb WL V1 (HRA.out.later HB_V1.out) (HRB.out.later HB_V1.out) (Nat.le_trans hwl (by decide))).mono ?_; rintro e V2 ⟨rfl, hb⟩; have HB_V2 := hid (HB_V1.out.trans (hb.mono HB_V1.out.size)); have HS_V2 := hid (HB_V2.out.size))
    refine hK.out _ _ HB_V2.out (fun hHeld => ?_)
    clear hK K
    refine oneH 25 93 (.bool true) hHeld ?_ ?_
    · intro V _; go_simp
    simp only [Act.put, sA, s0, sS]
    refine oneH 26 94 (.bool true) hHeld ?_ ?_
    · intro V _; go_simp
    simp only [Act.put, sA, s0, sS]
    refine oneH 27 95 (.int .i64 E1) hHeld ?_ ?_
    · intro V _; go_simp
    simp only [Act.put, sA, s0, sS]
    refine oneH 28 96 (.int .i64 E1) hHeld ?_ ?_
    · intro V _; go_simp
    simp only [Act.put, sA, s0, sS]
    refine oneH 29 97 (.bool true) hHeld ?_ ?_
    · intro V _; go_simp
    simp only [Act.put, sA, s0, sS]
    refine oneH 30 98 (.bool true) hHeld ?_ ?_
    · intro V _; go_simp
    simp only [Act.put, sA, s0, sS]
    refine oneH 31 99 (.bool true) hHeld ?_ ?_
    · intro V _; go_simp
    simp only [Act.put, sA, s0, sS]
    refine oneH 32 100 (.agg #[.slice o1 ns.length c1]) hHeld ?_ ?_
    · intro V hSw; (try dsimp only at hSw); have k0 := cellLater (B := G) hSw (by omega) m0; go_simp
    simp only [Act.put, sA, s0, sS]
    refine oneH 33 101 (.agg #[.int .i64 x, .int .i64 c]) hHeld ?_ ?_
    · intro V hSw; (try dsimp only at hSw); have k0 := cellLater (B := w.heap.size + 1) hSw (by omega) a0; have k1 := cellLater (B := w.heap.size + 1) hSw (by omega) a1; go_simp
    simp only [Act.put, sA, s0, sS]
    refine oneH 35 103 (.agg #[.slice o ns.length cap]) hHeld ?_ ?_
    · intro V hSw; (try dsimp only at hSw); have k0 := cellLater (B := w.heap.size) hSw (by omega) n0; go_simp
    simp only [Act.put, sA, s0, sS]
    refine oneH 36 104 (.agg #[.int .i64 x, .int .i64 c]) hHeld ?_ ?_
    · intro V hSw; (try dsimp only at hSw); have k0 := cellLater (B := w.heap.size + 1) hSw (by omega) a0; have k1 := cellLater (B := w.heap.size + 1) hSw (by omega) a1; go_simp
    simp only [Act.put, sA, s0, sS]
    refine wpAnyH_ready (rs := [34]) (by kernel_rfl) (by simp) ?_
    refine AllReadyH.cons rfl (fun K hK => ?_) AllReadyH.nil
    go_simp
    go_wp2_with (go_at_call 17; refine (X8.out V2 o1 c1 (HFG.out.later HB_V2.out)).mono ?_; rintro e V3 ⟨rfl, hb⟩; have HB_V3 := hid (HB_V2.out.trans (hb.mono HB_V2.out.size)); have HS_V3 := hid (HB_V3.out.size))
    refine hK.out _ _ HB_V3.out (fun hHeld => ?_)
    clear hK K
    refine wpAnyH_ready (rs := [37]) (by kernel_rfl) (by simp) ?_
    refine AllReadyH.cons rfl (fun K hK => ?_) AllReadyH.nil
    go_simp
    go_wp2_with (go_at_call 18; refine (X9.out V3 (Hbx.out.trans (HB_V3.out.mono Hbx.out.size))).mono ?_; rintro e V4 ⟨rfl, hb⟩; have HB_V4 := hid (HB_V3.out.trans (hb.mono HB_V3.out.size)); have HS_V4 := hid (HB_V4.out.size))
    refine hK.out _ _ HB_V4.out (fun hHeld => ?_)
    clear hK K
    refine oneH 38 106 (.bool true) hHeld ?_ ?_
    · intro V _; go_simp
    simp only [Act.put, sA, s0, sS]
    refine oneH 39 107 (.bool true) hHeld ?_ ?_
    · intro V _; go_simp
    simp only [Act.put, sA, s0, sS]
    refine oneH 40 108 (.bool true) hHeld ?_ ?_
    · intro V _; go_simp
    simp only [Act.put, sA, s0, sS]
    refine oneH 41 109 (.agg #[.slice o1 ns.length c1]) hHeld ?_ ?_
    · intro V hSw; (try dsimp only at hSw); have k0 := cellLater (B := G) hSw (by omega) m0; go_simp
    simp only [Act.put, sA, s0, sS]
    refine oneH 42 110 (.agg #[.slice o ns.length cap]) hHeld ?_ ?_
    · intro V hSw; (try dsimp only at hSw); have k0 := cellLater (B := w.heap.size) hSw (by omega) n0; go_simp
    simp only [Act.put, sA, s0, sS]
    refine wpAnyH_ready (rs := [43]) (by kernel_rfl) (by simp) ?_
    refine AllReadyH.cons rfl (fun K hK => ?_) AllReadyH.nil
    go_simp
    go_wp2_with (go_at_call 19; refine (XS.out V4 o1 c1 (Hbx.out.trans (HB_V4.out.mono Hbx.out.size)) (HFG.out.later HB_V4.out)).mono ?_; rintro e V5 ⟨rfl, hb⟩; have HB_V5 := hid (HB_V4.out.trans (hb.mono HB_V4.out.size)); have HS_V5 := hid (HB_V5.out.size))
    refine hK.out _ _ HB_V5.out (fun hHeld => ?_)
    clear hK K
    refine oneH 44 112 (.bool true) hHeld ?_ ?_
    · intro V _; go_simp
    simp only [Act.put, sA, s0, sS]
    refine oneH 45 6 (.bool true) hHeld ?_ ?_
    · intro V _; go_simp
    simp only [Act.put, sA, s0, sS]
    refine wpAnyH_done (by kernel_rfl) ?_ _
    go_wp2_with fail
    go_ret
    exact ⟨rfl, Hbx.out.trans (HB_V5.out.mono Hbx.out.size)⟩
end Go.Proofs.YtilacgcjbdkphaaGreat

namespace Go.Proofs.YtilacgcjbdkphaaGreat
open Go.RowKit Go.Lib Go.ChangeShapes Go.WideShapes Go.ChangeAt

theorem Tryz.ownBoundsPoints : ownKnob Tryz.prog.godebug = none := by kernel_rfl

set_option maxRecDepth 100000 in
theorem boundsPoints_lifted (os : Os) (started : os.Started) (H : Type) (enc : TypeId × Value → H) (F : Stop.Interp) :
    ReturnsInHanded {} Tryz.checked os 3 .any ((Rows.OpenSpec.upto Rows.boundsPointsSpec).pre6 enc Tryz.prog Tryz.f3 Rows.boundsPointsUptoRow.domain false) (((Rows.OpenSpec.upto Rows.boundsPointsSpec).at F).post enc Tryz.prog Tryz.f3 false true false false) := by
  refine returnsInHanded_of_cond (C := Tryz.checked) (s := Rows.OpenSpec.upto Rows.boundsPointsSpec) (k := Rows.uptoSmall) rfl Tryz.ownBoundsPoints started (by kernel_rfl) Tryz.func3
    (OpenSpec.witness (enc := enc) (C := Tryz.checked) (s := Rows.OpenSpec.upto Rows.boundsPointsSpec) (k := Rows.uptoSmall) rfl false ⟨#[], #[.agg #[.slice none 0 0], .agg #[.int .i64 0, .int .i64 0], .agg #[.int .i64 0, .int .i64 0]], []⟩ 8 (by kernel_rfl) (by kernel_rfl) (by kernel_rfl)
      (x := ([.agg [.nil], .agg [.lit (.int .i64 0), .lit (.int .i64 0)], .agg [.lit (.int .i64 0), .lit (.int .i64 0)]], [], [])) (by kernel_rfl) rfl (by kernel_rfl)) ?_
  intro W base args ds gs before hval0 hW _ hk _
  have hval : ∀ (j : Nat) t v, Tryz.f3.params[j]? = some t → args[j]? = some v → Value.okWide Tryz.prog W .any base t v := hval0
  have hW' := hW
  obtain ⟨p, q, hA0, hV, rfl, _, _⟩ := hW
  have hA : DataW.TrodAll enc Tryz.prog W 0 (fun _ => true) true Tryz.f3.params.toList args.toList ds p := hA0
  rw [Tryz.params3] at hA hval
  obtain ⟨v0, vs0, d0, ds0, p0, q0, hargs, rfl, rfl, h0, r0t⟩ := trodAll_cons hA
  obtain ⟨v1, vs1, d1, ds1, p1, q1, rfl, rfl, rfl, h1, r1t⟩ := trodAll_cons r0t
  obtain ⟨v2, vs2, d2, ds2, p2, q2, rfl, rfl, rfl, h2, r2t⟩ := trodAll_cons r1t
  obtain ⟨rfl, rfl, rfl⟩ := trodAll_nil r2t
  obtain rfl : args = #[v0, v1, v2] := by cases args; simp_all
  obtain ⟨rfl, rfl⟩ := trodVars_none hV
  obtain ⟨o0, cap0, ns0, rfl, hF0, bn0, bk0⟩ := open_forest (hval 0 24 v0 rfl rfl) h0
  obtain ⟨x1, c1, rfl⟩ := open_bound (hval 1 26 v1 rfl rfl) h1
  obtain ⟨x2, c2, rfl⟩ := open_bound (hval 2 26 v2 rfl rfl) h2
  have hkk := of_decide_eq_true hk
  simp [Rows.uptoBulkAll] at hkk
  have hlt := hW'.lt
  refine (boundsPoints_law o0 cap0 ns0 x1 c1 x2 c2 W (hF0 (by omega)) (by omega) (fun i hi => by have := (bk0 i hi).1; omega) (fun i hi => by have := (bk0 i hi).2.1; omega) (fun i hi => by have := (bk0 i hi).2.2; omega)).mono fun e W' ⟨he, hb⟩ => ?_
  subst he
  exact ⟨_, rfl, _, _, _, [], _, [], hW', trodAll_mk1 (shut_bool Tryz.underlying4 _), trodAll_cons_mk (Below.trod Tryz.fLaidOut (by kernel_rfl) (of_decide_eq_true (by kernel_rfl)) h0 hb (fun y hy => hlt y (by simp [hy]))) (trodAll_cons_mk (Below.trod Tryz.fLaidOut (by kernel_rfl) (of_decide_eq_true (by kernel_rfl)) h1 hb (fun y hy => hlt y (by simp [hy]))) (trodAll_cons_mk (Below.trod Tryz.fLaidOut (by kernel_rfl) (of_decide_eq_true (by kernel_rfl)) h2 hb (fun y hy => hlt y (by simp [hy]))) trodAll_mk0)), rfl, hb.frame _, fun h => by cases h⟩

theorem boundsPoints_upto : Rows.BoundsPointsUptoSaid :=
  OpenClaim.holds_of_cond 3 Tryz.f3 rfl rfl rfl rfl rfl rfl rfl ⟨rfl, rfl, rfl, rfl, rfl⟩ rfl rfl rfl rfl rfl (by kernel_rfl) Tryz.func3 (by kernel_rfl)
    (of_decide_eq_true (by kernel_rfl)) (by unfold Func.isWrapper; first | (rw [if_pos (by decide +kernel)]; kernel_rfl) | (rw [if_neg (by decide +kernel)]; exact ⟨rfl, rfl⟩))
    (fun os started H enc _ F => boundsPoints_lifted os started H enc F)
end Go.Proofs.YtilacgcjbdkphaaGreat

