/- bounds: Compare. -/
/- Points: what lies in a range, by numbers and by places: plain. -/
/- bounds: the points of a node, put behind a list (pointsOf). -/
/- bounds: Walk. -/
/- bounds: Contains. -/
import Derived.Test.YtilacgcjbdkphaaGreatCFBd3FBd8
import Derived.Test.YtilacgcjbdkphaaGreatCFPosFNext
namespace Go.Proofs.YtilacgcjbdkphaaGreat
open Go.RowKit Go.Lib

/-- Why two points can't be held against each other, and how they stand. -/
def bcmpE (ns : List NodeD) (p q : Int × Int) : Int := if lookE ns [p, q] = 0 then (if rootP ns p.1 = rootP ns q.1 then 0 else 18) else lookE ns [p, q]
def bcmpV (ns : List NodeD) (p q : Int × Int) : Int := if bcmpE ns p q = 0 then cmpI (posD ns p) (posD ns q) else 0
theorem lookE_zero {ns : List NodeD} {l : List (Int × Int)} (h : lookE ns l = 0) : RightF ns ∧ wrongD ns l = 0 := by
  unfold lookE at h
  split at h
  · rename_i hr
    exact ⟨(rightD_iff ns).1 hr, h⟩
  · simp at h
theorem cmp_pos {ns : List NodeD} {R F L : List Int} (h : RightF ns) (hN : NumL ns R F L) {p q : Int × Int} (hp : isPt ns p) (hq : isPt ns q) (e : rootP ns p.1 = rootP ns q.1) : cmpI (numD ns (fOf F) p) (numD ns (fOf F) q) = cmpI (posD ns p) (posD ns q) := by
  rw [(num_pos h h.oneOf hN.numF hp).1, (num_pos h h.oneOf hN.numF hq).1, e]
  unfold cmpI
  by_cases h1 : (posD ns p : Int) < posD ns q
  · rw [if_pos h1, if_pos (by omega)]
  · rw [if_neg h1, if_neg (by omega)]
    by_cases h2 : (posD ns q : Int) < posD ns p
    · rw [if_pos h2, if_pos (by omega)]
    · rw [if_neg h2, if_neg (by omega)]

set_option maxRecDepth 100000 in
set_option maxHeartbeats 8000000 in
theorem bCompare_any (o : Option Addr) (cap : Nat) (x c y d : Int) (ns : List NodeD) (w : World) (hF : FRd w o cap ns) (hkl : ∀ (i : Nat) (hi : i < ns.length), ns[i].kids.length ≤ 1099511627776) (hal : ∀ (i : Nat) (hi : i < ns.length), ns[i].attrs.length ≤ 1099511627776) :
    Calls Tryz.prog 11 #[.agg #[.slice o ns.length cap], bndV x c, bndV y d] w fun e w' => e = .returned (.tuple #[.int .i64 (bcmpV ns (x, c) (y, d)), .int .i64 (bcmpE ns (x, c) (y, d))]) ∧ Below w.heap.size w w' := by
  obtain ⟨bx, g0, g1, g2, sx⟩ := three_newB w (.cells #[.slice o ns.length cap] 24) (.cells #[.int .i64 x, .int .i64 c] 26) (.cells #[.int .i64 y, .int .i64 d] 26)
  have hbA : Below (((w.alloc (.cells #[.slice o ns.length cap] 24)).alloc (.cells #[.int .i64 x, .int .i64 c] 26)).alloc (.cells #[.int .i64 y, .int .i64 d] 26)).heap.size (((w.alloc (.cells #[.slice o ns.length cap] 24)).alloc (.cells #[.int .i64 x, .int .i64 c] 26)).alloc (.cells #[.int .i64 y, .int .i64 d] 26)) _ := (Below.refl _ _).alloc (Nat.le_refl _) (.cells #[.int .i64 x, .int .i64 c, .int .i64 y, .int .i64 d] 26)
  have hnw := heap_new (((w.alloc (.cells #[.slice o ns.length cap] 24)).alloc (.cells #[.int .i64 x, .int .i64 c] 26)).alloc (.cells #[.int .i64 y, .int .i64 d] 26)) (.cells #[.int .i64 x, .int .i64 c, .int .i64 y, .int .i64 d] 26)
  have hrd := two_rdB hnw
  have hFA := hF.later (bx.trans (hbA.mono bx.size))
  have Hbx := hid (bx.trans (hbA.mono bx.size))
  have HG0 := hid (blkLater hbA g0)
  have HG1 := hid (blkLater hbA g1)
  have HG2 := hid (blkLater hbA g2)
  rw [sx] at hrd
  by_cases hE : lookE ns [(x, c), (y, d)] = 0
  · obtain ⟨hR, hW⟩ := lookE_zero hE
    have hpts := wrongD_zero.1 hW
    have hp : isPt ns (x, c) := hpts _ (by simp)
    have hq : isPt ns (y, d) := hpts _ (by simp)
    have hL := bLooked_ok o cap _ _ ns _ hFA hkl hal hrd (by simp) hR hW
    obtain ⟨i, hi, rfl⟩ := there_idx hp.1
    obtain ⟨j, hj, rfl⟩ := there_idx hq.1
    obtain ⟨b, off, rfl, hFF⟩ := hF.at_ (by omega)
    have HOT : Hid (∀ (bR bF bL : Nat) (V : World), Below w.heap.size w V → NumsAt ns V bR bF bL → Calls Tryz.prog 42 #[numsV (some ⟨b, off, none⟩) cap ns.length bR bF bL (ns.length + 1), .int .i64 ((i : Int) + 1), .int .i64 ((j : Int) + 1)] V fun e w' => e = .returned (.bool (rootP ns ((i : Int) + 1) == rootP ns ((j : Int) + 1))) ∧ Below V.heap.size V w') := by
      intro bR bF bL V hV hN
      obtain ⟨R, F, L, hNl⟩ := hN.lists
      exact pOneTree_any _ cap bR bF bL i j ns R F L V hNl hi hj
    have HCm : Hid (rootP ns ((i : Int) + 1) = rootP ns ((j : Int) + 1) → ∀ (bR bF bL : Nat) (V : World), Below w.heap.size w V → NumsAt ns V bR bF bL → Calls Tryz.prog 43 #[numsV (some ⟨b, off, none⟩) cap ns.length bR bF bL (ns.length + 1), bndV ((i : Int) + 1) c, bndV ((j : Int) + 1) d] V fun e w' => e = .returned (.int .i64 (cmpI (posD ns ((i : Int) + 1, c)) (posD ns ((j : Int) + 1, d)))) ∧ Below V.heap.size V w') := by
      intro hr bR bF bL V hV hN
      obtain ⟨R, F, L, hNl⟩ := hN.lists
      rw [← cmp_pos hR hNl.num hp hq hr]
      exact pCompare_any b off cap bR bF bL i j c d ns R F L V hR (hFF.later hV) hNl hi hj hp hq
    have hEe : bcmpE ns ((i : Int) + 1, c) ((j : Int) + 1, d) = if rootP ns ((i : Int) + 1) = rootP ns ((j : Int) + 1) then 0 else 18 := by unfold bcmpE; rw [if_pos hE]
    by_cases hr : rootP ns ((i : Int) + 1) = rootP ns ((j : Int) + 1)
    · rw [if_pos hr] at hEe
      have hVe : bcmpV ns ((i : Int) + 1, c) ((j : Int) + 1, d) = cmpI (posD ns ((i : Int) + 1, c)) (posD ns ((j : Int) + 1, d)) := by unfold bcmpV; rw [if_pos hEe]
      rw [hEe, hVe]
      have hrb : (rootP ns ((i : Int) + 1) == rootP ns ((j : Int) + 1)) = true := beq_iff_eq.2 hr
      rw [hrb] at HOT
      have HCm2 := hid (HCm.out hr)
      have hsame : ((i : Int) + 1, c) = ((j : Int) + 1, d) → cmpI (posD ns ((i : Int) + 1, c)) (posD ns ((j : Int) + 1, d)) = 0 := fun e => by rw [e, cmpI_same]
      have HS := hid hsame
      clear HCm hEe hVe hr hrb hE hR hW hpts hp hq hF hFA hkl hal hi hj hFF bx hbA hnw g0 g1 g2 hrd hsame
      generalize cmpI (posD ns ((i : Int) + 1, c)) (posD ns ((j : Int) + 1, d)) = Z at *
      unfold bndV at *
      by_cases hs : ((i : Int) + 1, c) = ((j : Int) + 1, d)
      · have hz := HS.out hs
        subst hz
        simp only [Prod.mk.injEq] at hs
        obtain ⟨hs1, hs2⟩ := hs
        have hij : i = j := by omega
        subst hij hs2
        clear hs1
        go_enter Tryz.func11, Tryz.ntmps11
        go_wp2_with fail
        refine hL.mono ?_
        rintro e v1 ⟨bR, bF, bL, rfl, hN, hb1⟩
        unfold numsV at *
        have hbA : Below v1.heap.size v1 (v1.alloc (.cells #[.slice (some ⟨b, off, none⟩) ns.length cap, .slice (some ⟨bR, 0, none⟩) (ns.length + 1) (ns.length + 1), .slice (some ⟨bF, 0, none⟩) (ns.length + 1) (ns.length + 1), .slice (some ⟨bL, 0, none⟩) (ns.length + 1) (ns.length + 1)] 77)) := (Below.refl _ v1).alloc (Nat.le_refl _) _
        have hnx := heap_new v1 (.cells #[.slice (some ⟨b, off, none⟩) ns.length cap, .slice (some ⟨bR, 0, none⟩) (ns.length + 1) (ns.length + 1), .slice (some ⟨bF, 0, none⟩) (ns.length + 1) (ns.length + 1), .slice (some ⟨bL, 0, none⟩) (ns.length + 1) (ns.length + 1)] 77)
        have hB1 := Hbx.out.trans (hb1.mono Hbx.out.size)
        have hB2 := hB1.trans (hbA.mono hB1.size)
        have h1 := HOT.out bR bF bL _ hB2 (hN.later hbA)
        obtain ⟨a0, a1⟩ := bnd_cells (blkLater hbA (blkLater hb1 HG1.out))
        obtain ⟨e0, e1⟩ := bnd_cells (blkLater hbA (blkLater hb1 HG2.out))
        have HK1 := hid (blkLater hbA (blkLater hb1 HG1.out))
        have HK2 := hid (blkLater hbA (blkLater hb1 HG2.out))
        have HKx := hid hnx
        have HBB := hid hB2
        have HNN := hid (hN.later hbA)
        clear hL hN hb1 hbA hnx hB1 hB2 HOT
        go_wp2_with fail
        refine h1.mono ?_
        rintro e v2 ⟨rfl, hb2⟩
        obtain ⟨a0, a1⟩ := bnd_cells (blkLater hb2 HK1.out)
        obtain ⟨e0, e1⟩ := bnd_cells (blkLater hb2 HK2.out)
        obtain ⟨n0, n1, n2, n3⟩ := sv_cells (blkLater hb2 HKx.out)
        have HB3 := hid (HBB.out.trans (hb2.mono HBB.out.size))
        have HN3 := hid (HNN.out.later hb2)
        clear hb2 h1
        go_wp2
        go_ret2
        exact ⟨rfl, HB3.out⟩
      · by_cases hij : i = j
        · subst hij
          have hcd : (c == d) = false := beq_eq_false_iff_ne.2 fun e => hs (by rw [e])
          clear hs HS
          go_enter Tryz.func11, Tryz.ntmps11
          go_wp2_with fail
          refine hL.mono ?_
          rintro e v1 ⟨bR, bF, bL, rfl, hN, hb1⟩
          unfold numsV at *
          have hbA : Below v1.heap.size v1 (v1.alloc (.cells #[.slice (some ⟨b, off, none⟩) ns.length cap, .slice (some ⟨bR, 0, none⟩) (ns.length + 1) (ns.length + 1), .slice (some ⟨bF, 0, none⟩) (ns.length + 1) (ns.length + 1), .slice (some ⟨bL, 0, none⟩) (ns.length + 1) (ns.length + 1)] 77)) := (Below.refl _ v1).alloc (Nat.le_refl _) _
          have hnx := heap_new v1 (.cells #[.slice (some ⟨b, off, none⟩) ns.length cap, .slice (some ⟨bR, 0, none⟩) (ns.length + 1) (ns.length + 1), .slice (some ⟨bF, 0, none⟩) (ns.length + 1) (ns.length + 1), .slice (some ⟨bL, 0, none⟩) (ns.length + 1) (ns.length + 1)] 77)
          have hB1 := Hbx.out.trans (hb1.mono Hbx.out.size)
          have hB2 := hB1.trans (hbA.mono hB1.size)
          have h1 := HOT.out bR bF bL _ hB2 (hN.later hbA)
          obtain ⟨a0, a1⟩ := bnd_cells (blkLater hbA (blkLater hb1 HG1.out))
          obtain ⟨e0, e1⟩ := bnd_cells (blkLater hbA (blkLater hb1 HG2.out))
          have HK1 := hid (blkLater hbA (blkLater hb1 HG1.out))
          have HK2 := hid (blkLater hbA (blkLater hb1 HG2.out))
          have HKx := hid hnx
          have HBB := hid hB2
          have HNN := hid (hN.later hbA)
          clear hL hN hb1 hbA hnx hB1 hB2 HOT
          go_wp2_with fail
          refine h1.mono ?_
          rintro e v2 ⟨rfl, hb2⟩
          obtain ⟨a0, a1⟩ := bnd_cells (blkLater hb2 HK1.out)
          obtain ⟨e0, e1⟩ := bnd_cells (blkLater hb2 HK2.out)
          obtain ⟨n0, n1, n2, n3⟩ := sv_cells (blkLater hb2 HKx.out)
          have HB3 := hid (HBB.out.trans (hb2.mono HBB.out.size))
          have HN3 := hid (HNN.out.later hb2)
          clear hb2 h1
          have h3 := HCm2.out bR bF bL v2 HB3.out HN3.out
          go_wp2_with fail
          refine h3.mono ?_
          rintro e v3 ⟨rfl, hb3⟩
          have HB4 := hid (HB3.out.trans (hb3.mono HB3.out.size))
          clear hb3 h3
          go_wp2
          go_ret2
          exact ⟨rfl, HB4.out⟩
        · have hcd : (((i : Int) + 1) == ((j : Int) + 1)) = false := beq_eq_false_iff_ne.2 (by omega)
          clear hs HS hij
          go_enter Tryz.func11, Tryz.ntmps11
          go_wp2_with fail
          refine hL.mono ?_
          rintro e v1 ⟨bR, bF, bL, rfl, hN, hb1⟩
          unfold numsV at *
          have hbA : Below v1.heap.size v1 (v1.alloc (.cells #[.slice (some ⟨b, off, none⟩) ns.length cap, .slice (some ⟨bR, 0, none⟩) (ns.length + 1) (ns.length + 1), .slice (some ⟨bF, 0, none⟩) (ns.length + 1) (ns.length + 1), .slice (some ⟨bL, 0, none⟩) (ns.length + 1) (ns.length + 1)] 77)) := (Below.refl _ v1).alloc (Nat.le_refl _) _
          have hnx := heap_new v1 (.cells #[.slice (some ⟨b, off, none⟩) ns.length cap, .slice (some ⟨bR, 0, none⟩) (ns.length + 1) (ns.length + 1), .slice (some ⟨bF, 0, none⟩) (ns.length + 1) (ns.length + 1), .slice (some ⟨bL, 0, none⟩) (ns.length + 1) (ns.length + 1)] 77)
          have hB1 := Hbx.out.trans (hb1.mono Hbx.out.size)
          have hB2 := hB1.trans (hbA.mono hB1.size)
          have h1 := HOT.out bR bF bL _ hB2 (hN.later hbA)
          obtain ⟨a0, a1⟩ := bnd_cells (blkLater hbA (blkLater hb1 HG1.out))
          obtain ⟨e0, e1⟩ := bnd_cells (blkLater hbA (blkLater hb1 HG2.out))
          have HK1 := hid (blkLater hbA (blkLater hb1 HG1.out))
          have HK2 := hid (blkLater hbA (blkLater hb1 HG2.out))
          have HKx := hid hnx
          have HBB := hid hB2
          have HNN := hid (hN.later hbA)
          clear hL hN hb1 hbA hnx hB1 hB2 HOT
          go_wp2_with fail
          refine h1.mono ?_
          rintro e v2 ⟨rfl, hb2⟩
          obtain ⟨a0, a1⟩ := bnd_cells (blkLater hb2 HK1.out)
          obtain ⟨e0, e1⟩ := bnd_cells (blkLater hb2 HK2.out)
          obtain ⟨n0, n1, n2, n3⟩ := sv_cells (blkLater hb2 HKx.out)
          have HB3 := hid (HBB.out.trans (hb2.mono HBB.out.size))
          have HN3 := hid (HNN.out.later hb2)
          clear hb2 h1
          have h3 := HCm2.out bR bF bL v2 HB3.out HN3.out
          go_wp2_with fail
          refine h3.mono ?_
          rintro e v3 ⟨rfl, hb3⟩
          have HB4 := hid (HB3.out.trans (hb3.mono HB3.out.size))
          clear hb3 h3
          go_wp2
          go_ret2
          exact ⟨rfl, HB4.out⟩
    · rw [if_neg hr] at hEe
      have hVe : bcmpV ns ((i : Int) + 1, c) ((j : Int) + 1, d) = 0 := by unfold bcmpV; rw [if_neg (by rw [hEe]; decide)]
      rw [hEe, hVe]
      have hrb : (rootP ns ((i : Int) + 1) == rootP ns ((j : Int) + 1)) = false := beq_eq_false_iff_ne.2 hr
      rw [hrb] at HOT
      clear HCm hEe hVe hr hrb hE hR hW hpts hp hq hF hFA hkl hal hi hj hFF bx hbA hnw g0 g1 g2 hrd
      unfold bndV at *
      go_enter Tryz.func11, Tryz.ntmps11
      go_wp2_with fail
      refine hL.mono ?_
      rintro e v1 ⟨bR, bF, bL, rfl, hN, hb1⟩
      unfold numsV at *
      have hbA : Below v1.heap.size v1 (v1.alloc (.cells #[.slice (some ⟨b, off, none⟩) ns.length cap, .slice (some ⟨bR, 0, none⟩) (ns.length + 1) (ns.length + 1), .slice (some ⟨bF, 0, none⟩) (ns.length + 1) (ns.length + 1), .slice (some ⟨bL, 0, none⟩) (ns.length + 1) (ns.length + 1)] 77)) := (Below.refl _ v1).alloc (Nat.le_refl _) _
      have hnx := heap_new v1 (.cells #[.slice (some ⟨b, off, none⟩) ns.length cap, .slice (some ⟨bR, 0, none⟩) (ns.length + 1) (ns.length + 1), .slice (some ⟨bF, 0, none⟩) (ns.length + 1) (ns.length + 1), .slice (some ⟨bL, 0, none⟩) (ns.length + 1) (ns.length + 1)] 77)
      have hB1 := Hbx.out.trans (hb1.mono Hbx.out.size)
      have hB2 := hB1.trans (hbA.mono hB1.size)
      have h1 := HOT.out bR bF bL _ hB2 (hN.later hbA)
      obtain ⟨a0, a1⟩ := bnd_cells (blkLater hbA (blkLater hb1 HG1.out))
      obtain ⟨e0, e1⟩ := bnd_cells (blkLater hbA (blkLater hb1 HG2.out))
      have HK1 := hid (blkLater hbA (blkLater hb1 HG1.out))
      have HK2 := hid (blkLater hbA (blkLater hb1 HG2.out))
      have HKx := hid hnx
      have HBB := hid hB2
      have HNN := hid (hN.later hbA)
      clear hL hN hb1 hbA hnx hB1 hB2 HOT
      go_wp2_with fail
      refine h1.mono ?_
      rintro e v2 ⟨rfl, hb2⟩
      obtain ⟨a0, a1⟩ := bnd_cells (blkLater hb2 HK1.out)
      obtain ⟨e0, e1⟩ := bnd_cells (blkLater hb2 HK2.out)
      obtain ⟨n0, n1, n2, n3⟩ := sv_cells (blkLater hb2 HKx.out)
      have HB3 := hid (HBB.out.trans (hb2.mono HBB.out.size))
      have HN3 := hid (HNN.out.later hb2)
      clear hb2 h1
      go_wp2
      go_ret2
      exact ⟨rfl, HB3.out⟩
  · have hL := bLooked_err o cap _ _ ns _ hFA hkl hal hrd (by simp) hE
    have hEe : bcmpE ns (x, c) (y, d) = lookE ns [(x, c), (y, d)] := by unfold bcmpE; rw [if_neg hE]
    have hVe : bcmpV ns (x, c) (y, d) = 0 := by unfold bcmpV; rw [if_neg (by rw [hEe]; exact hE)]
    rw [hVe, hEe]
    have d0 : (lookE ns [(x, c), (y, d)] != 0) = true := by rw [bne, beq_eq_false_iff_ne.2 hE]; rfl
    generalize lookE ns [(x, c), (y, d)] = Z at *
    clear hE hEe hVe hF hFA hkl hal bx hbA hnw g0 g1 g2 hrd
    unfold bndV zeroV at *
    go_enter Tryz.func11, Tryz.ntmps11
    go_wp2_with fail
    refine hL.mono ?_
    rintro e v1 ⟨rfl, hb1⟩
    have HB := hid (Hbx.out.trans (hb1.mono Hbx.out.size))
    have HB2 : Hid (∀ ob, Below w.heap.size w (v1.alloc ob)) := fun ob => HB.out.alloc HB.out.size ob
    clear hb1 hL
    go_wp2
    go_ret2
    exact ⟨rfl, HB2.out _⟩
end Go.Proofs.YtilacgcjbdkphaaGreat

namespace Go.Proofs.YtilacgcjbdkphaaGreat
open Go.RowKit Go.Lib

/-- Is a node contained in a range? -/
def contD (ns : List NodeD) (p q : Int × Int) (h : Int) : Bool := rootP ns h == rootP ns p.1 && (decide (posD ns p < posD ns (h, 0)) && decide (posD ns (h, (lenN ns h : Int)) < posD ns q))
/-- Is just one of the ends' nodes in it? -/
def partD (ns : List NodeD) (p q : Int × Int) (h : Int) : Bool := decide (p.1 ∈ allD ns h) != decide (q.1 ∈ allD ns h)
theorem pt_first {ns : List NodeD} {h : Int} (hh : thereB ns.length h = true) : isPt ns (h, 0) := ⟨hh, Int.le_refl _, by show (0 : Int) ≤ _; omega⟩
theorem pt_last {ns : List NodeD} {h : Int} (hh : thereB ns.length h = true) : isPt ns (h, (lenN ns h : Int)) := ⟨hh, by show (0 : Int) ≤ _; omega, Int.le_refl _⟩
theorem cont_pos {ns : List NodeD} {R F L : List Int} (h : RightF ns) (hN : NumL ns R F L) {p q : Int × Int} {k : Int} (hp : isPt ns p) (hq : isPt ns q) (hk : thereB ns.length k = true) (hr : rootP ns p.1 = rootP ns q.1) : (decide (numD ns (fOf F) p < fOf F k) && decide (fOf F k + (szD ns k : Int) - 1 < numD ns (fOf F) q)) = contD ns p q k := by
  have np := num_pos h h.oneOf hN.numF hp
  have nq := num_pos h h.oneOf hN.numF hq
  have n0 := num_pos h h.oneOf hN.numF (pt_first hk)
  have n1 := num_pos h h.oneOf hN.numF (pt_last hk)
  rw [numD_zero] at n0
  rw [num_last h h.oneOf hN.numF hk] at n1
  have e0 : rootP ns (k, (0 : Int)).1 = rootP ns k := rfl
  have e1 : rootP ns (k, (lenN ns k : Int)).1 = rootP ns k := rfl
  rw [e0] at n0
  rw [e1] at n1
  rw [← hr] at nq
  unfold contD
  have sk := sz_pos h hk
  by_cases er : rootP ns k = rootP ns p.1
  · rw [beq_iff_eq.2 er, Bool.true_and]
    rw [er] at n0 n1
    congr 1
    · by_cases hl : posD ns p < posD ns (k, 0)
      · rw [decide_eq_true hl, decide_eq_true (by omega)]
      · rw [decide_eq_false hl, decide_eq_false (by omega)]
    · by_cases hl : posD ns (k, (lenN ns k : Int)) < posD ns q
      · rw [decide_eq_true hl, decide_eq_true (by omega)]
      · rw [decide_eq_false hl, decide_eq_false (by omega)]
  · rw [beq_eq_false_iff_ne.2 er, Bool.false_and]
    by_cases h1 : numD ns (fOf F) p < fOf F k
    · by_cases h2 : fOf F k + (szD ns k : Int) - 1 < numD ns (fOf F) q
      · exact absurd (num_tree h hN.numF hp.1 hk (by omega) (by omega)) er
      · rw [decide_eq_false h2, Bool.and_false]
    · rw [decide_eq_false h1, Bool.false_and]
/-- Why a range can't be asked for some points. -/
def setE (ns : List NodeD) (p q : Int × Int) (more : List (Int × Int)) : Int := if lookE ns (setL p.1 p.2 q.1 q.2 more) = 0 then (if validD ns p q then 0 else 15) else lookE ns (setL p.1 p.2 q.1 q.2 more)

theorem setE_zero {ns : List NodeD} {p q : Int × Int} {more : List (Int × Int)} (h : setE ns p q more = 0) : RightF ns ∧ validD ns p q = true ∧ isPt ns p ∧ isPt ns q ∧ ∀ b ∈ more, isPt ns b := by
  unfold setE at h
  split at h
  · rename_i h0
    split at h
    · rename_i hv
      unfold lookE at h0
      split at h0
      · rename_i hr
        have hp := wrongD_zero.1 h0
        exact ⟨(rightD_iff ns).1 hr, hv, hp _ (by unfold setL; simp), hp _ (by unfold setL; simp), fun b hb => hp b (by unfold setL; simp [hb])⟩
      · simp at h0
    · simp at h
  · rename_i h0
    exact absurd h h0
theorem bSettled_ok (o : Option Addr) (cap : Nat) (v : Value) (x c y d : Int) (more : List (Int × Int)) (ns : List NodeD) (w : World) (hF : FRd w o cap ns) (hkl : ∀ (i : Nat) (hi : i < ns.length), ns[i].kids.length ≤ 1099511627776) (hal : ∀ (i : Nat) (hi : i < ns.length), ns[i].attrs.length ≤ 1099511627776) (hv : RdB w v more) (hl : more.length ≤ 4000) (hE : setE ns (x, c) (y, d) more = 0) :
    Calls Tryz.prog 58 #[.agg #[.slice o ns.length cap], rngV x c y d, v] w fun e w' => ∃ bR bF bL, e = .returned (.tuple #[numsV o cap ns.length bR bF bL (ns.length + 1), .int .i64 0]) ∧ NumsAt ns w' bR bF bL ∧ Below w.heap.size w w' := by
  obtain ⟨hR, hvd, hp, hq, hm⟩ := setE_zero hE
  have hW : wrongD ns (setL x c y d more) = 0 := wrongD_zero.2 fun b hb => by
    unfold setL at hb
    simp only [List.mem_append, List.mem_cons, List.not_mem_nil, or_false] at hb
    rcases hb with (rfl | rfl) | hb
    · exact hp
    · exact hq
    · exact hm b hb
  refine (bSettled_any o cap v x c y d more ns w hF hkl hal hv hl hR hW).mono ?_
  rintro e w' ⟨hb, ⟨h1, _⟩ | ⟨_, bR, bF, bL, rfl, hN⟩⟩
  · rw [hvd] at h1; cases h1
  · exact ⟨bR, bF, bL, rfl, hN, hb⟩
theorem valid_root {ns : List NodeD} {p q : Int × Int} (h : validD ns p q = true) : rootP ns p.1 = rootP ns q.1 ∧ posD ns p ≤ posD ns q := by
  unfold validD at h
  simp only [Bool.and_eq_true, beq_iff_eq, decide_eq_true_eq] at h
  exact h
end Go.Proofs.YtilacgcjbdkphaaGreat

namespace Go.Proofs.YtilacgcjbdkphaaGreat
open Go.RowKit Go.Lib

/-- Is it no row of points? -/
def noPts (o : Obj) : Prop := ∀ cs fz, o ≠ .cells cs 26 fz
/-- All but rows of points is kept. -/
structure KeepP (W W' : World) : Prop where
  size : W.heap.size ≤ W'.heap.size
  blk : ∀ (k : Nat) (o : Obj), W.heap[k]? = some o → noPts o → W'.heap[k]? = some o
theorem KeepP.refl (W : World) : KeepP W W := ⟨Nat.le_refl _, fun _ _ h _ => h⟩
theorem KeepP.trans {A B C : World} (h : KeepP A B) (k : KeepP B C) : KeepP A C := ⟨Nat.le_trans h.size k.size, fun i o hi hn => k.blk i o (h.blk i o hi hn) hn⟩
theorem KeepP.later {A B : World} (h : Below A.heap.size A B) : KeepP A B := ⟨h.size, fun _ _ hi _ => blkLater h hi⟩
theorem KeepP.grown {A B : World} {base n : Nat} {v : Value} {xs : List Value} (hO : A.ownsRow base 26 2 v n xs) (h : A.grownBy B v.ownBlock) : KeepP A B := by
  refine ⟨h.size, fun k o hi hn => ?_⟩
  have hne : v.ownBlock ≠ some k := by
    obtain ⟨_, ⟨rfl, _⟩ | ⟨g, cap, cur, rfl, _, hh, _⟩⟩ := hO
    · intro hc; cases hc
    · intro hc
      have : g = k := by simpa [Value.ownBlock] using hc
      subst this
      rw [hh] at hi
      exact hn cur (0, 0) (Option.some.inj hi).symm
  exact (h.block k (Array.getElem?_eq_some_iff.1 hi).1 (by intro e; exact hne (by first | exact e | exact e.symm))).trans hi
theorem own_shapeB {W : World} {base size : Nat} {e : TypeId} {v : Value} {n : Nat} {xs : List Value} (h : W.ownsRow base e size v n xs) : ∃ o c, v = .slice o n c := by
  rcases h.2 with ⟨rfl, h0⟩ | ⟨g, cap, cur, rfl, _⟩
  · exact ⟨none, 0, by rw [h0]⟩
  · exact ⟨_, _, rfl⟩
theorem one_rdB (W : World) (x c : Int) : RdB (W.alloc (.cells #[.int .i64 x, .int .i64 c] 26)) (.slice (some ⟨W.heap.size, 0, none⟩) 1 1) [(x, c)] := by
  have h := heap_new W (.cells #[.int .i64 x, .int .i64 c] 26)
  obtain ⟨a, b⟩ := bnd_cells h
  refine ⟨_, 1, rfl, by simp, fun _ => ⟨W.heap.size, 0, rfl, (Array.getElem?_eq_some_iff.1 h).1, fun j hj => ?_⟩⟩
  match j, hj with
  | 0, _ => exact ⟨a, b⟩
/-- A point more. -/
theorem push_pt (W : World) (B : Nat) (v : Value) (done : List (Int × Int)) (x c : Int) (hown : W.ownsRow B 26 2 v done.length (rowP done)) (hB : B ≤ W.heap.size) (hn : done.length ≤ 1000000000) :
    ∃ o cp w', (∀ ty, (Builtin.append_ #[35, 35] ty #[v, .slice (some ⟨W.heap.size, 0, none⟩) 1 1]).run Tryz.prog (W.alloc (.cells #[.int .i64 x, .int .i64 c] 26)) = .ok (.slice o (done ++ [(x, c)]).length cp) w') ∧ w'.ownsRow B 26 2 (.slice o (done ++ [(x, c)]).length cp) (done ++ [(x, c)]).length (rowP (done ++ [(x, c)])) ∧ Below B W w' ∧ KeepP W w' := by
  have hA : Below W.heap.size W (W.alloc (.cells #[.int .i64 x, .int .i64 c] 26)) := (Below.refl _ W).alloc (Nat.le_refl _) _
  have hO := hown.alloc (.cells #[.int .i64 x, .int .i64 c] 26)
  obtain ⟨v', w', h1, h2, h3⟩ := run_append_rdB _ B v _ done [(x, c)] 0 hO (Nat.le_trans hB hA.size) (one_rdB W x c) (by simp; omega)
  obtain ⟨o, cp, rfl⟩ := own_shapeB h2
  exact ⟨o, cp, w', fun ty => h1, h2, (hA.mono hB).trans (below_grownB hO (Nat.le_trans hB hA.size) h3), (KeepP.later hA).trans (KeepP.grown hO h3)⟩
theorem noPts_of {cs : Array Value} {t : TypeId} {fz : Nat × Nat} (h : t ≠ 26) : noPts (.cells cs t fz) := fun cs' fz' e => by
  injection e with _ e2
  exact h e2
/-- The points of some kids. -/
theorem kidPts_append (P : Int → List (Int × Int)) (x : Int) : ∀ (a : List Int) (k : Int) (i : Nat), kidPts P x (a ++ [k]) i = kidPts P x a i ++ (P k ++ [(x, ((i + a.length : Nat) : Int) + 1)])
  | [], k, i => by simp [kidPts]
  | j :: a, k, i => by
    rw [List.cons_append, kidPts, kidPts_append P x a k (i + 1), kidPts, List.append_assoc, List.cons_append, List.length_cons, show i + 1 + a.length = i + (a.length + 1) by omega]

set_option maxRecDepth 100000 in
set_option maxHeartbeats 8000000 in
theorem pointsOf_any (b off cap B : Nat) (ns : List NodeD) (w : World) (hR : RightF ns) (hF : FAt w b off cap ns) (hwB : w.heap.size ≤ B) :
    ∀ (f : Nat) (x : Int) (v : Value) (done : List (Int × Int)) (W : World), thereB ns.length x = true → ns.length < f + (pathUp ns (parentD ns) x).length → done.length + szD ns x ≤ 1000000000 → Below w.heap.size w W → B ≤ W.heap.size → W.ownsRow B 26 2 v done.length (rowP done) →
      Calls Tryz.prog 50 #[.agg #[.slice (some ⟨b, off, none⟩) ns.length cap], .int .i64 x, v] W fun e W' => ∃ v', e = .returned v' ∧ W'.ownsRow B 26 2 v' (done ++ ptsD ns x).length (rowP (done ++ ptsD ns x)) ∧ Below B W W' ∧ KeepP W W' := by
  intro f
  induction f with
  | zero =>
    intro x v done W hx hf
    have := pathUp_len ns (parentD ns) hR.parentOK hR.ends x (.inr hx)
    omega
  | succ f ih =>
    intro x v done W hx hf hnd hB hBs hown
    have hle := hF.len
    obtain ⟨j, hj, rfl⟩ := there_idx hx
    have hkd : kidsD ns ((j : Int) + 1) = ns[j].kids := by unfold kidsD; rw [nodeOf_at ns j hj]
    have hdn : dataN ns ((j : Int) + 1) = ns[j].data.length := by unfold dataN; rw [nodeOf_at ns j hj]
    have hpc := pts_cons hR hx
    have hse := sz_eq hR hx
    rw [hkd, hdn] at hpc hse
    have HIH : Hid (∀ (y : Int) (v2 : Value) (done2 : List (Int × Int)) (V : World), y ∈ ns[j].kids → done2.length + szD ns y ≤ 1000000000 → Below w.heap.size w V → B ≤ V.heap.size → V.ownsRow B 26 2 v2 done2.length (rowP done2) → _) := fun y v2 done2 V hy => by
      obtain ⟨n, hn, hp⟩ := (hR.kids j hj).1 y hy
      obtain ⟨i, hi2, e, e2⟩ := nodeOf_idx hn
      have hyt : thereB ns.length y = true := by rw [e]; exact thereB_idx _ _ hi2
      have hpy : parentD ns y = (j : Int) + 1 := by rw [e, parentD_at ns i hi2, ← hp, ← e2]
      refine ih y v2 done2 V hyt ?_
      rw [pathUp_head hR hyt, hpy, List.length_cons]
      omega
    have hkl := hR.kids_lenB j hj
    have hdl := well_dataB (hR.well j hj)
    obtain ⟨T, hT⟩ : ∃ T, ptsD ns ((j : Int) + 1) = T := ⟨_, rfl⟩
    rw [hT] at hpc ⊢
    have HT := hid hpc
    have Hnd := hid hnd
    have Hse := hid hse
    obtain ⟨ov, cv, rfl⟩ := own_shapeB hown
    obtain ⟨Ls, hc, hd3, ha3, hk3⟩ := hF.at_ j hj
    obtain ⟨D, A, K⟩ := Ls
    simp only at hk3 hd3 ha3
    obtain ⟨oa, caa, rfl, _⟩ := ha3
    obtain ⟨od, cdd, rfl, hdcap, _⟩ := hd3
    obtain ⟨ok, ckk, rfl, hkcap, g⟩ := hk3
    obtain ⟨bx, g0, g1, sx⟩ := two_newB W (.cells #[.slice (some ⟨b, off, none⟩) ns.length cap] 24) (nodeO ns[j] (.slice od ns[j].data.length cdd) (.slice oa ns[j].attrs.length caa) (.slice ok ns[j].kids.length ckk))
    have hb1 : Below W.heap.size W (W.alloc (.cells #[.slice (some ⟨b, off, none⟩) ns.length cap] 24)) := (Below.refl _ W).alloc (Nat.le_refl _) _
    obtain ⟨n0, n1, n2, n3, n4, n5, n6, n7, n8, n9, n10, n11, n12, n13, n14, n15⟩ := hc.later hF.lt (hB.trans (hb1.mono hB.size))
    simp only at n6 n7 n9
    have q1 : (0 : Int) ≤ (j : Int) := by omega
    have q2 : (j : Int) < (ns.length : Int) := by omega
    have hO1 : _ := (hown.alloc (.cells #[.slice (some ⟨b, off, none⟩) ns.length cap] 24)).alloc (nodeO ns[j] (.slice od ns[j].data.length cdd) (.slice oa ns[j].attrs.length caa) (.slice ok ns[j].kids.length ckk))
    have HO1 := hid hO1
    have HB1 := hid (hB.trans (bx.mono hB.size))
    have HBs := hid hBs
    have HG := hid g
    have HG0 := hid g0
    have HG1 := hid g1
    have Hsx := hid sx
    have Hbx := hid bx
    have Hwb := hid hwB
    clear ih hR hF hf hc hkd hdn hx hT hown hB hO1 hb1 hpc hnd hse g0 g1 sx bx hwB g hBs
    unfold nodeO at *
    generalize ns[j] = nd at *
    go_enter Tryz.func50, Tryz.ntmps50
    go_upto_region 2 with fail
    generalize ((W.alloc (.cells #[.slice (some ⟨b, off, none⟩) ns.length cap] 24)).alloc (.cells #[.int .u8 (nd.kind : Int), .string nd.space, .string nd.pre, .string nd.loc, .string nd.pub, .string nd.sys, (.slice od nd.data.length cdd), (.slice oa nd.attrs.length caa), .int .i64 nd.parent, (.slice ok nd.kids.length ckk), .int .i64 nd.doc, .int .i64 nd.host, .int .i64 nd.shadow, .int .u8 (nd.mode : Int), .bool nd.manual, .bool nd.html] 64)) = W0 at *
    clear n0 n1 n2 n3 n4 n5 n6 n7 n8 n9 n10 n11 n12 n13 n14 n15
    have hSt := bStart_any ((j : Int) + 1) W0
    unfold bndV at hSt
    go_wp2_with fail
    refine hSt.mono ?_
    rintro e v1 ⟨rfl, hb1⟩
    have sx := Hsx.out
    have bx := Hbx.out
    have hBv : B ≤ v1.heap.size := Nat.le_trans HBs.out (Nat.le_trans bx.size hb1.size)
    obtain ⟨o1, c1, w1, e1, ho1, hbb1, hkp1⟩ := push_pt v1 B _ done ((j : Int) + 1) 0 (ownsRow_later HO1.out hb1) hBv (by have := Hnd.out; omega)
    have HR1 := hid ho1
    have E1 := hid e1
    clear e1
    have HBB1 : Hid (Below B W0 w1) := (hb1.mono (Nat.le_trans HBs.out bx.size)).trans hbb1
    have HKP1 := hid ((KeepP.later hb1).trans hkp1)
    clear hSt hb1 ho1 hbb1 hkp1 hBv HO1
    generalize hD1 : done ++ [((j : Int) + 1, (0 : Int))] = D1 at *
    have HD1 := hid hD1
    clear hD1
    have HKB : Hid (∀ V : World, KeepP W0 V → V.heap[W.heap.size]? = _ ∧ V.heap[W.heap.size + 1]? = _) := fun V hV => ⟨hV.blk _ _ HG0.out (noPts_of (by decide)), hV.blk _ _ HG1.out (noPts_of (by decide))⟩
    have p1 := HKB.out w1 HKP1.out
    obtain ⟨d6, d8, d9⟩ := node_boxB p1.2
    clear p1
    go_wp2_with (at_builtin; refine wpList_append_run _ rfl _ _ 35 35 rfl _ _ rfl rfl _ _ (E1.out _) ?_)
    go_loopw [25, 2] (fun t u wr => ∃ (k : Nat) (o2 : Option Addr) (c2 : Nat), k ≤ nd.data.length ∧ t = .int .i64 k ∧ u = .slice o2 (D1 ++ (List.range k).map (fun i : Nat => ((j : Int) + 1, (i : Int) + 1))).length c2 ∧ Hid (wr.ownsRow B 26 2 (.slice o2 (D1 ++ (List.range k).map (fun i : Nat => ((j : Int) + 1, (i : Int) + 1))).length c2) (D1 ++ (List.range k).map (fun i : Nat => ((j : Int) + 1, (i : Int) + 1))).length (rowP (D1 ++ (List.range k).map (fun i : Nat => ((j : Int) + 1, (i : Int) + 1))))) ∧ Hid (Below B W0 wr) ∧ Hid (KeepP W0 wr)) (fun t _ _ => nd.data.length - (RowKit.intOf t).toNat)
    case atStart =>
      have e0 : D1 ++ (List.range 0).map (fun i : Nat => ((j : Int) + 1, (i : Int) + 1)) = D1 := by simp
      exact ⟨0, o1, c1, Nat.zero_le _, rfl, by rw [e0], by rw [e0]; exact HR1, HBB1, HKP1⟩
    case round =>
      obtain ⟨k, o2, c2, hk, rfl, rfl, hO, hBB, hKP⟩ := hrel
      clear HR1 HBB1 HKP1 d6 d8 d9 E1
      have Hln : Hid (D1.length + k ≤ 1000000000) := by
        have := Hnd.out
        have := Hse.out
        have e := congrArg List.length HD1.out
        rw [List.length_append, List.length_singleton] at e
        show _ ≤ _
        omega
      by_cases hlt : k < nd.data.length
      · have q1 : (k : Int) < (nd.data.length : Int) := by omega
        have dl : decide ((k : Int) < (nd.data.length : Int)) = true := decide_eq_true q1
        obtain ⟨o3, c3, w3, e3, ho3, hbb3, hkp3⟩ := push_pt wr B _ _ ((j : Int) + 1) ((k : Int) + 1) hO.out (Nat.le_trans HBs.out (Nat.le_trans bx.size hBB.out.size)) (by rw [List.length_append, List.length_map, List.length_range]; exact Hln.out)
        have hsn : D1 ++ (List.range k).map (fun i : Nat => ((j : Int) + 1, (i : Int) + 1)) ++ [((j : Int) + 1, (k : Int) + 1)] = D1 ++ (List.range (k + 1)).map (fun i : Nat => ((j : Int) + 1, (i : Int) + 1)) := by rw [List.range_succ, List.map_append, List.append_assoc]; rfl
        rw [hsn] at e3 ho3
        have HO3 := hid ho3
        have E3 := hid e3
        clear e3
        have HBB3 := hid (hBB.out.trans hbb3)
        have HKP3 := hid (hKP.out.trans hkp3)
        clear hsn ho3 hbb3 hkp3 hO hBB hKP hdcap
        generalize D1 ++ (List.range k).map (fun i : Nat => ((j : Int) + 1, (i : Int) + 1)) = DK at *
        go_wp2_with (at_builtin; refine wpList_append_run _ rfl _ _ 35 35 rfl _ _ rfl rfl _ _ (E3.out _) ?_)
        go_roundw
        case rel => exact ⟨k + 1, o3, c3, by omega, by go_num, by simp, HO3, HBB3, HKP3⟩
        case measure => simp [RowKit.intOf]; omega
      · have hkn : k = nd.data.length := by omega
        subst hkn
        have dl : decide ((nd.data.length : Int) < (nd.data.length : Int)) = false := decide_eq_false (by omega)
        have HTT : Hid (D1 ++ (List.range nd.data.length).map (fun i : Nat => ((j : Int) + 1, (i : Int) + 1)) ++ kidPts (ptsD ns) ((j : Int) + 1) nd.kids 0 = done ++ T) := by
          show _ = _
          rw [← HD1.out, HT.out]
          simp
        have Hl2 : Hid ((D1 ++ (List.range nd.data.length).map (fun i : Nat => ((j : Int) + 1, (i : Int) + 1))).length + kidSum ns nd.kids ≤ 1000000000) := by
          have := Hnd.out
          have := Hse.out
          have e := congrArg List.length HD1.out
          rw [List.length_append, List.length_singleton] at e
          show _ ≤ _
          rw [List.length_append, List.length_map, List.length_range]
          omega
        generalize D1 ++ (List.range nd.data.length).map (fun i : Nat => ((j : Int) + 1, (i : Int) + 1)) = D2 at *
        obtain ⟨d6, d8, d9⟩ := node_boxB (HKB.out wr hKP.out).2
        have HO2 := hO
        have HBB2 := hBB
        have HKP2 := hKP
        clear hO hBB hKP Hln
        go_wp2
        go_loopw [39, 2] (fun t u wr => ∃ (k : Nat) (o2 : Option Addr) (c2 : Nat), k ≤ nd.kids.length ∧ t = .int .i64 k ∧ u = .slice o2 (D2 ++ kidPts (ptsD ns) ((j : Int) + 1) (nd.kids.take k) 0).length c2 ∧ Hid (wr.ownsRow B 26 2 (.slice o2 (D2 ++ kidPts (ptsD ns) ((j : Int) + 1) (nd.kids.take k) 0).length c2) (D2 ++ kidPts (ptsD ns) ((j : Int) + 1) (nd.kids.take k) 0).length (rowP (D2 ++ kidPts (ptsD ns) ((j : Int) + 1) (nd.kids.take k) 0))) ∧ Hid (Below B W0 wr) ∧ Hid (KeepP W0 wr)) (fun t _ _ => nd.kids.length - (RowKit.intOf t).toNat)
        case atStart =>
          have e0 : D2 ++ kidPts (ptsD ns) ((j : Int) + 1) (nd.kids.take 0) 0 = D2 := by rw [List.take_zero, kidPts, List.append_nil]
          exact ⟨0, o2, c2, Nat.zero_le _, rfl, by rw [e0], by rw [e0]; exact HO2, HBB2, HKP2⟩
        case round =>
          obtain ⟨k, o4, c4, hk, rfl, rfl, hO, hBB, hKP⟩ := hrel
          clear HO2 HBB2 HKP2 d6 d8 d9 dl
          have hBs2 : B ≤ wr.heap.size := Nat.le_trans HBs.out (Nat.le_trans bx.size hBB.out.size)
          have hBw := HB1.out.trans (hBB.out.mono Hwb.out)
          have c0 := (box_cell_l (HKB.out wr hKP.out).1).1
          by_cases hlt : k < nd.kids.length
          · obtain ⟨bk, offk, rfl, hltk, hak⟩ := HG.out (by omega)
            have x1 := cellLater hBw hltk (hak k hlt)
            have htk : nd.kids.take (k + 1) = nd.kids.take k ++ [nd.kids[k]] := by rw [List.take_add_one, List.getElem?_eq_getElem hlt]; rfl
            have hsm : kidSum ns (nd.kids.take k) + (szD ns nd.kids[k] + 1) ≤ kidSum ns nd.kids := by
              have h1 : kidSum ns (nd.kids.take (k + 1)) + kidSum ns (nd.kids.drop (k + 1)) = kidSum ns nd.kids := by rw [← kidSum_append, List.take_append_drop]
              rw [htk, kidSum_append, kidSum_cons] at h1
              omega
            have hl3 : (D2 ++ kidPts (ptsD ns) ((j : Int) + 1) (nd.kids.take k) 0).length + (szD ns nd.kids[k] + 1) ≤ 1000000000 := by
              rw [List.length_append, kidPts_len]
              have := Hl2.out
              omega
            have hCall := HIH.out nd.kids[k] _ _ wr (List.getElem_mem hlt) (by omega) hBw hBs2 hO.out
            have hkp := kidPts_append (ptsD ns) ((j : Int) + 1) (nd.kids.take k) nd.kids[k] 0
            rw [← htk, List.length_take, Nat.min_eq_left (by omega), Nat.zero_add] at hkp
            have Hkp := hid hkp
            have Hl3 := hid hl3
            have p1 : (0 : Int) ≤ (k : Int) := by omega
            have p2 : (k : Int) < (nd.kids.length : Int) := by omega
            have dl : decide ((k : Int) < (nd.kids.length : Int)) = true := decide_eq_true p2
            simp only [List.length_append] at hCall
            clear hak HIH htk hsm hl3 hkp hBw
            have Hsz : Hid (szD ns nd.kids[k] = (ptsD ns nd.kids[k]).length) := rfl
            generalize nd.kids[k] = y at *
            go_wp2_with fail
            refine hCall.mono ?_
            rintro e v2 ⟨vx, rfl, hox', hbx, hkx⟩
            have hox : v2.ownsRow B 26 2 vx (D2 ++ kidPts (ptsD ns) ((j : Int) + 1) (nd.kids.take k) 0 ++ ptsD ns y).length (rowP (D2 ++ kidPts (ptsD ns) ((j : Int) + 1) (nd.kids.take k) 0 ++ ptsD ns y)) := by
              simp only [List.length_append]
              exact hox'
            clear hox'
            obtain ⟨o5, c5, rfl⟩ := own_shapeB hox
            obtain ⟨o6, c6, w6, e6, ho6, hbb6, hkp6⟩ := push_pt v2 B _ _ ((j : Int) + 1) ((k : Int) + 1) hox (Nat.le_trans hBs2 hbx.size) (by rw [List.length_append]; have := Hl3.out; have := Hsz.out; omega)
            have hsn : D2 ++ kidPts (ptsD ns) ((j : Int) + 1) (nd.kids.take k) 0 ++ ptsD ns y ++ [((j : Int) + 1, (k : Int) + 1)] = D2 ++ kidPts (ptsD ns) ((j : Int) + 1) (nd.kids.take (k + 1)) 0 := by rw [Hkp.out]; simp
            rw [hsn] at e6 ho6
            have HO6 := hid ho6
            have E6 := hid e6
            clear e6
            have HBB6 := hid (hBB.out.trans (hbx.trans hbb6))
            have HKP6 := hid (hKP.out.trans (hkx.trans hkp6))
            clear hsn ho6 hbb6 hkp6 hox hbx hkx hO hBB hKP hCall c0 x1
            generalize D2 ++ kidPts (ptsD ns) ((j : Int) + 1) (nd.kids.take k) 0 ++ ptsD ns y = DK at *
            go_wp2_with (at_builtin; refine wpList_append_run _ rfl _ _ 35 35 rfl _ _ rfl rfl _ _ (E6.out _) ?_)
            go_roundw
            case rel => exact ⟨k + 1, o6, c6, by omega, by go_num, by simp, HO6, HBB6, HKP6⟩
            case measure => simp [RowKit.intOf]; omega
          · have hkn : k = nd.kids.length := by omega
            subst hkn
            rw [List.take_length, HTT.out] at hO
            have dl : decide ((nd.kids.length : Int) < (nd.kids.length : Int)) = false := decide_eq_false (by omega)
            have HBf : Hid (Below B W wr) := (bx.mono HBs.out).trans hBB.out
            have HKf : Hid (KeepP W wr) := (KeepP.later bx).trans hKP.out
            have el : (D2 ++ kidPts (ptsD ns) ((j : Int) + 1) (nd.kids.take nd.kids.length) 0).length = (done ++ T).length := by rw [List.take_length, HTT.out]
            rw [el]
            have HOf := hO
            clear hO hBB hKP c0 el
            go_wp2
            go_ret
            exact ⟨_, rfl, HOf.out, HBf.out, HKf.out⟩
end Go.Proofs.YtilacgcjbdkphaaGreat

namespace Go.Proofs.YtilacgcjbdkphaaGreat
open Go.RowKit Go.Lib

theorem one_rdH {W : World} {B : Nat} {x c : Int} (h : W.heap[B]? = some (.cells #[.int .i64 x, .int .i64 c] 26)) : RdB W (.slice (some ⟨B, 0, none⟩) 1 1) [(x, c)] := by
  obtain ⟨a, b⟩ := bnd_cells h
  refine ⟨_, 1, rfl, by simp, fun _ => ⟨B, 0, rfl, (Array.getElem?_eq_some_iff.1 h).1, fun j hj => ?_⟩⟩
  match j, hj with
  | 0, _ => exact ⟨a, b⟩

set_option maxRecDepth 100000 in
set_option maxHeartbeats 8000000 in
theorem bWalk_err (o : Option Addr) (cap : Nat) (h : Int) (ns : List NodeD) (w : World) (hF : FRd w o cap ns) (hkl : ∀ (i : Nat) (hi : i < ns.length), ns[i].kids.length ≤ 1099511627776) (hal : ∀ (i : Nat) (hi : i < ns.length), ns[i].attrs.length ≤ 1099511627776) (hE : lookE ns [(h, 0)] ≠ 0) :
    Calls Tryz.prog 13 #[.agg #[.slice o ns.length cap], .int .i64 h] w fun e w' => e = .returned (.tuple #[.slice none 0 0, .int .i64 (lookE ns [(h, 0)])]) ∧ Below w.heap.size w w' := by
  have HSt : Hid (∀ V : World, Calls Tryz.prog 47 #[.int .i64 h] V fun e w' => e = .returned (.agg #[.int .i64 h, .int .i64 0]) ∧ Below V.heap.size V w') := fun V => bStart_any h V
  have bx : Below w.heap.size w (w.alloc (.cells #[.slice o ns.length cap] 24)) := (Below.refl _ w).alloc (Nat.le_refl _) _
  have g0 := heap_new w (.cells #[.slice o ns.length cap] 24)
  have sx : (w.alloc (.cells #[.slice o ns.length cap] 24)).heap.size = w.heap.size + 1 := by simp
  have HLk : Hid (∀ (vc : Value) (V : World), Below w.heap.size w V → RdB V vc [(h, 0)] → _) := fun vc V hV hr => bLooked_err o cap vc _ ns V (hF.later hV) hkl hal hr (by simp) hE
  have d0 : (lookE ns [(h, 0)] != 0) = true := by rw [bne, beq_eq_false_iff_ne.2 hE]; rfl
  generalize lookE ns [(h, 0)] = Z at *
  clear hF hkl hal hE
  unfold zeroV at *
  go_enter Tryz.func13, Tryz.ntmps13
  go_upto_region 1 with fail
  generalize (w.alloc (.cells #[.slice o ns.length cap] 24)) = W0 at *
  have n0 := (box_cell_l g0).1
  go_cut [6, 7] (fun t u wx => ∃ B, t = .pointer (some ⟨B, 0, none⟩) ∧ u = .int .i64 Z ∧ Held8 W0 (.agg #[.slice none 0 0, .slice none 0 0, .slice none 0 0, .slice none 0 0]) B wx)
  case first =>
    --slow
    refine wp_region_held_drew (S := fun V => Below W0.heap.size W0 V) (by kernel_rfl) ((Below.refl _ _).drew) (fun hHeld => ?_)
    have HB_V0 := hid hHeld
    have hz0 := hHeld.size
    generalize W0.drew = V0 at *
    refine oneH 0 11 (.agg #[.slice o ns.length cap]) hHeld ?_ ?_
    · intro V hSw; (try dsimp only at hSw); have k0 := cellLater (B := w.heap.size) hSw (by omega) n0; go_simp
    simp only [Act.put, sA, s0, sS]
    refine oneH 1 12 (.int .i64 h) hHeld ?_ ?_
    · intro V _; go_simp
    simp only [Act.put, sA, s0, sS]
    refine wpAnyH_ready (rs := [2, 8]) (by kernel_rfl) (by simp) ?_
    refine AllReadyH.cons rfl (fun K hK => ?_) (AllReadyH.cons rfl (fun K hK => ?_) (AllReadyH.nil))
    · go_simp
      go_wp2_with (go_at_call 47; refine (HSt.out V0).mono ?_; rintro e V1 ⟨rfl, hb⟩)
      have HB_V1 := hid (HB_V0.out.trans (hb.mono HB_V0.out.size))
      have hz1 := HB_V1.out.size
      have hy1 := hb.size
      refine hK.out _ _ HB_V1.out (fun hHeld => ?_)
      clear hK K hb
      refine wpAnyH_ready (rs := [3, 8]) (by kernel_rfl) (by simp) ?_
      refine AllReadyH.cons rfl (fun K hK => ?_) (AllReadyH.cons rfl (fun K hK => ?_) (AllReadyH.nil))
      · go_simp
        have hnw := heap_new V1 (.cells #[.int .i64 h, .int .i64 0] 26)
        have hb : Below V1.heap.size V1 (V1.alloc (.cells #[.int .i64 h, .int .i64 0] 26)) := (Below.refl _ V1).alloc (Nat.le_refl _) _
        have hx2 := (Array.getElem?_eq_some_iff.1 hnw).1
        generalize V1.alloc (.cells #[.int .i64 h, .int .i64 0] 26) = V2 at *
        have HB_V2 := hid (HB_V1.out.trans (hb.mono HB_V1.out.size))
        have hz2 := HB_V2.out.size
        have hy2 := hb.size
        have r1 := one_rdH hnw
        refine hK.out _ _ HB_V2.out (fun hHeld => ?_)
        clear hK K hb
        refine wpAnyH_ready (rs := [4, 8]) (by kernel_rfl) (by simp) ?_
        refine AllReadyH.cons rfl (fun K hK => ?_) (AllReadyH.cons rfl (fun K hK => ?_) (AllReadyH.nil))
        · go_simp
          go_wp2_with (go_at_call 41; refine (HLk.out _ V2 (bx.trans (HB_V2.out.mono bx.size)) r1).mono ?_; rintro e V3 ⟨rfl, hb⟩)
          have HB_V3 := hid (HB_V2.out.trans (hb.mono HB_V2.out.size))
          have hz3 := HB_V3.out.size
          have hy3 := hb.size
          have r1 := r1.later hb
          refine hK.out _ _ HB_V3.out (fun hHeld => ?_)
          clear hK K hb
          refine oneH 5 10 (.tuple #[.agg #[.slice none 0 0, .slice none 0 0, .slice none 0 0, .slice none 0 0], .int .i64 Z]) hHeld ?_ ?_
          · intro V _; go_simp
          simp only [Act.put, sA, s0, sS]
          refine oneH 6 16 (.agg #[.slice none 0 0, .slice none 0 0, .slice none 0 0, .slice none 0 0]) hHeld ?_ ?_
          · intro V _; go_simp
          simp only [Act.put, sA, s0, sS]
          refine oneH 7 17 (.int .i64 Z) hHeld ?_ ?_
          · intro V _; go_simp
          simp only [Act.put, sA, s0, sS]
          refine wpAnyH_ready (rs := [8]) (by kernel_rfl) (by simp) ?_
          refine AllReadyH.cons rfl (fun K hK => ?_) (AllReadyH.nil)
          go_simp
          have hfl := heap_new V3 (.cells #[.slice none 0 0, .slice none 0 0, .slice none 0 0, .slice none 0 0] 77)
          have hb : Below V3.heap.size V3 (V3.alloc (.cells #[.slice none 0 0, .slice none 0 0, .slice none 0 0, .slice none 0 0] 77)) := (Below.refl _ V3).alloc (Nat.le_refl _) _
          have hx4 := (Array.getElem?_eq_some_iff.1 hfl).1
          generalize V3.alloc (.cells #[.slice none 0 0, .slice none 0 0, .slice none 0 0, .slice none 0 0] 77) = V4 at *
          have HB_V4 := hid (HB_V3.out.trans (hb.mono HB_V3.out.size))
          have hz4 := HB_V4.out.size
          have hy4 := hb.size
          have r1 := r1.later hb
          refine hK.out _ _ HB_V4.out (fun hHeld => ?_)
          clear hK K hb
          obtain ⟨z0, z1, z2, z3⟩ := sv_cells hfl
          obtain ⟨y0, y1, y2, y3⟩ := sv_free hfl
          refine wpAnyH_ready (rs := [9]) (by kernel_rfl) (by simp) ?_
          refine AllReadyH.cons rfl (fun K hK => ?_) AllReadyH.nil
          go_simp
          have H8 := hid (held8 (a := .slice none 0 0) (b := .slice none 0 0) (c := .slice none 0 0) (d := .slice none 0 0) HB_V4.out (show W0.heap.size ≤ V3.heap.size by omega) hfl)
          refine hK.out _ _ H8.out.below (fun hHeld => ?_)
          clear hK K
          refine oneH 10 7 (.int .i64 Z) hHeld ?_ ?_
          · intro V _; go_simp
          simp only [Act.put, sA, s0, sS]
          refine wpAnyH_done (by kernel_rfl) ?_ _
          go_wp2_with fail
          go_meet
          exact ⟨_, rfl, rfl, H8.out⟩
        · go_simp
          have hfl := heap_new V2 (.cells #[.slice none 0 0, .slice none 0 0, .slice none 0 0, .slice none 0 0] 77)
          have hb : Below V2.heap.size V2 (V2.alloc (.cells #[.slice none 0 0, .slice none 0 0, .slice none 0 0, .slice none 0 0] 77)) := (Below.refl _ V2).alloc (Nat.le_refl _) _
          have hx3 := (Array.getElem?_eq_some_iff.1 hfl).1
          generalize V2.alloc (.cells #[.slice none 0 0, .slice none 0 0, .slice none 0 0, .slice none 0 0] 77) = V3 at *
          have HB_V3 := hid (HB_V2.out.trans (hb.mono HB_V2.out.size))
          have hz3 := HB_V3.out.size
          have hy3 := hb.size
          have r1 := r1.later hb
          refine hK.out _ _ HB_V3.out (fun hHeld => ?_)
          clear hK K hb
          refine wpAnyH_ready (rs := [4]) (by kernel_rfl) (by simp) ?_
          refine AllReadyH.cons rfl (fun K hK => ?_) (AllReadyH.nil)
          go_simp
          go_wp2_with (go_at_call 41; refine (HLk.out _ V3 (bx.trans (HB_V3.out.mono bx.size)) r1).mono ?_; rintro e V4 ⟨rfl, hb⟩)
          have HB_V4 := hid (HB_V3.out.trans (hb.mono HB_V3.out.size))
          have hz4 := HB_V4.out.size
          have hy4 := hb.size
          have r1 := r1.later hb
          have hfl := blkLater hb hfl
          refine hK.out _ _ HB_V4.out (fun hHeld => ?_)
          clear hK K hb
          refine oneH 5 10 (.tuple #[.agg #[.slice none 0 0, .slice none 0 0, .slice none 0 0, .slice none 0 0], .int .i64 Z]) hHeld ?_ ?_
          · intro V _; go_simp
          simp only [Act.put, sA, s0, sS]
          refine oneH 6 16 (.agg #[.slice none 0 0, .slice none 0 0, .slice none 0 0, .slice none 0 0]) hHeld ?_ ?_
          · intro V _; go_simp
          simp only [Act.put, sA, s0, sS]
          refine oneH 7 17 (.int .i64 Z) hHeld ?_ ?_
          · intro V _; go_simp
          simp only [Act.put, sA, s0, sS]
          obtain ⟨z0, z1, z2, z3⟩ := sv_cells hfl
          obtain ⟨y0, y1, y2, y3⟩ := sv_free hfl
          refine wpAnyH_ready (rs := [9]) (by kernel_rfl) (by simp) ?_
          refine AllReadyH.cons rfl (fun K hK => ?_) AllReadyH.nil
          go_simp
          have H8 := hid (held8 (a := .slice none 0 0) (b := .slice none 0 0) (c := .slice none 0 0) (d := .slice none 0 0) HB_V4.out (show W0.heap.size ≤ V2.heap.size by omega) hfl)
          refine hK.out _ _ H8.out.below (fun hHeld => ?_)
          clear hK K
          refine oneH 10 7 (.int .i64 Z) hHeld ?_ ?_
          · intro V _; go_simp
          simp only [Act.put, sA, s0, sS]
          refine wpAnyH_done (by kernel_rfl) ?_ _
          go_wp2_with fail
          go_meet
          exact ⟨_, rfl, rfl, H8.out⟩
      · go_simp
        have hfl := heap_new V1 (.cells #[.slice none 0 0, .slice none 0 0, .slice none 0 0, .slice none 0 0] 77)
        have hb : Below V1.heap.size V1 (V1.alloc (.cells #[.slice none 0 0, .slice none 0 0, .slice none 0 0, .slice none 0 0] 77)) := (Below.refl _ V1).alloc (Nat.le_refl _) _
        have hx2 := (Array.getElem?_eq_some_iff.1 hfl).1
        generalize V1.alloc (.cells #[.slice none 0 0, .slice none 0 0, .slice none 0 0, .slice none 0 0] 77) = V2 at *
        have HB_V2 := hid (HB_V1.out.trans (hb.mono HB_V1.out.size))
        have hz2 := HB_V2.out.size
        have hy2 := hb.size
        refine hK.out _ _ HB_V2.out (fun hHeld => ?_)
        clear hK K hb
        refine wpAnyH_ready (rs := [3]) (by kernel_rfl) (by simp) ?_
        refine AllReadyH.cons rfl (fun K hK => ?_) (AllReadyH.nil)
        go_simp
        have hnw := heap_new V2 (.cells #[.int .i64 h, .int .i64 0] 26)
        have hb : Below V2.heap.size V2 (V2.alloc (.cells #[.int .i64 h, .int .i64 0] 26)) := (Below.refl _ V2).alloc (Nat.le_refl _) _
        have hx3 := (Array.getElem?_eq_some_iff.1 hnw).1
        generalize V2.alloc (.cells #[.int .i64 h, .int .i64 0] 26) = V3 at *
        have HB_V3 := hid (HB_V2.out.trans (hb.mono HB_V2.out.size))
        have hz3 := HB_V3.out.size
        have hy3 := hb.size
        have hfl := blkLater hb hfl
        have r1 := one_rdH hnw
        refine hK.out _ _ HB_V3.out (fun hHeld => ?_)
        clear hK K hb
        refine wpAnyH_ready (rs := [4]) (by kernel_rfl) (by simp) ?_
        refine AllReadyH.cons rfl (fun K hK => ?_) (AllReadyH.nil)
        go_simp
        go_wp2_with (go_at_call 41; refine (HLk.out _ V3 (bx.trans (HB_V3.out.mono bx.size)) r1).mono ?_; rintro e V4 ⟨rfl, hb⟩)
        have HB_V4 := hid (HB_V3.out.trans (hb.mono HB_V3.out.size))
        have hz4 := HB_V4.out.size
        have hy4 := hb.size
        have hfl := blkLater hb hfl
        have r1 := r1.later hb
        refine hK.out _ _ HB_V4.out (fun hHeld => ?_)
        clear hK K hb
        refine oneH 5 10 (.tuple #[.agg #[.slice none 0 0, .slice none 0 0, .slice none 0 0, .slice none 0 0], .int .i64 Z]) hHeld ?_ ?_
        · intro V _; go_simp
        simp only [Act.put, sA, s0, sS]
        refine oneH 6 16 (.agg #[.slice none 0 0, .slice none 0 0, .slice none 0 0, .slice none 0 0]) hHeld ?_ ?_
        · intro V _; go_simp
        simp only [Act.put, sA, s0, sS]
        refine oneH 7 17 (.int .i64 Z) hHeld ?_ ?_
        · intro V _; go_simp
        simp only [Act.put, sA, s0, sS]
        obtain ⟨z0, z1, z2, z3⟩ := sv_cells hfl
        obtain ⟨y0, y1, y2, y3⟩ := sv_free hfl
        refine wpAnyH_ready (rs := [9]) (by kernel_rfl) (by simp) ?_
        refine AllReadyH.cons rfl (fun K hK => ?_) AllReadyH.nil
        go_simp
        have H8 := hid (held8 (a := .slice none 0 0) (b := .slice none 0 0) (c := .slice none 0 0) (d := .slice none 0 0) HB_V4.out (show W0.heap.size ≤ V1.heap.size by omega) hfl)
        refine hK.out _ _ H8.out.below (fun hHeld => ?_)
        clear hK K
        refine oneH 10 7 (.int .i64 Z) hHeld ?_ ?_
        · intro V _; go_simp
        simp only [Act.put, sA, s0, sS]
        refine wpAnyH_done (by kernel_rfl) ?_ _
        go_wp2_with fail
        go_meet
        exact ⟨_, rfl, rfl, H8.out⟩
    · go_simp
      have hfl := heap_new V0 (.cells #[.slice none 0 0, .slice none 0 0, .slice none 0 0, .slice none 0 0] 77)
      have hb : Below V0.heap.size V0 (V0.alloc (.cells #[.slice none 0 0, .slice none 0 0, .slice none 0 0, .slice none 0 0] 77)) := (Below.refl _ V0).alloc (Nat.le_refl _) _
      have hx1 := (Array.getElem?_eq_some_iff.1 hfl).1
      generalize V0.alloc (.cells #[.slice none 0 0, .slice none 0 0, .slice none 0 0, .slice none 0 0] 77) = V1 at *
      have HB_V1 := hid (HB_V0.out.trans (hb.mono HB_V0.out.size))
      have hz1 := HB_V1.out.size
      have hy1 := hb.size
      refine hK.out _ _ HB_V1.out (fun hHeld => ?_)
      clear hK K hb
      refine wpAnyH_ready (rs := [2]) (by kernel_rfl) (by simp) ?_
      refine AllReadyH.cons rfl (fun K hK => ?_) (AllReadyH.nil)
      go_simp
      go_wp2_with (go_at_call 47; refine (HSt.out V1).mono ?_; rintro e V2 ⟨rfl, hb⟩)
      have HB_V2 := hid (HB_V1.out.trans (hb.mono HB_V1.out.size))
      have hz2 := HB_V2.out.size
      have hy2 := hb.size
      have hfl := blkLater hb hfl
      refine hK.out _ _ HB_V2.out (fun hHeld => ?_)
      clear hK K hb
      refine wpAnyH_ready (rs := [3]) (by kernel_rfl) (by simp) ?_
      refine AllReadyH.cons rfl (fun K hK => ?_) (AllReadyH.nil)
      go_simp
      have hnw := heap_new V2 (.cells #[.int .i64 h, .int .i64 0] 26)
      have hb : Below V2.heap.size V2 (V2.alloc (.cells #[.int .i64 h, .int .i64 0] 26)) := (Below.refl _ V2).alloc (Nat.le_refl _) _
      have hx3 := (Array.getElem?_eq_some_iff.1 hnw).1
      generalize V2.alloc (.cells #[.int .i64 h, .int .i64 0] 26) = V3 at *
      have HB_V3 := hid (HB_V2.out.trans (hb.mono HB_V2.out.size))
      have hz3 := HB_V3.out.size
      have hy3 := hb.size
      have hfl := blkLater hb hfl
      have r1 := one_rdH hnw
      refine hK.out _ _ HB_V3.out (fun hHeld => ?_)
      clear hK K hb
      refine wpAnyH_ready (rs := [4]) (by kernel_rfl) (by simp) ?_
      refine AllReadyH.cons rfl (fun K hK => ?_) (AllReadyH.nil)
      go_simp
      go_wp2_with (go_at_call 41; refine (HLk.out _ V3 (bx.trans (HB_V3.out.mono bx.size)) r1).mono ?_; rintro e V4 ⟨rfl, hb⟩)
      have HB_V4 := hid (HB_V3.out.trans (hb.mono HB_V3.out.size))
      have hz4 := HB_V4.out.size
      have hy4 := hb.size
      have hfl := blkLater hb hfl
      have r1 := r1.later hb
      refine hK.out _ _ HB_V4.out (fun hHeld => ?_)
      clear hK K hb
      refine oneH 5 10 (.tuple #[.agg #[.slice none 0 0, .slice none 0 0, .slice none 0 0, .slice none 0 0], .int .i64 Z]) hHeld ?_ ?_
      · intro V _; go_simp
      simp only [Act.put, sA, s0, sS]
      refine oneH 6 16 (.agg #[.slice none 0 0, .slice none 0 0, .slice none 0 0, .slice none 0 0]) hHeld ?_ ?_
      · intro V _; go_simp
      simp only [Act.put, sA, s0, sS]
      refine oneH 7 17 (.int .i64 Z) hHeld ?_ ?_
      · intro V _; go_simp
      simp only [Act.put, sA, s0, sS]
      obtain ⟨z0, z1, z2, z3⟩ := sv_cells hfl
      obtain ⟨y0, y1, y2, y3⟩ := sv_free hfl
      refine wpAnyH_ready (rs := [9]) (by kernel_rfl) (by simp) ?_
      refine AllReadyH.cons rfl (fun K hK => ?_) AllReadyH.nil
      go_simp
      have H8 := hid (held8 (a := .slice none 0 0) (b := .slice none 0 0) (c := .slice none 0 0) (d := .slice none 0 0) HB_V4.out (show W0.heap.size ≤ V0.heap.size by omega) hfl)
      refine hK.out _ _ H8.out.below (fun hHeld => ?_)
      clear hK K
      refine oneH 10 7 (.int .i64 Z) hHeld ?_ ?_
      · intro V _; go_simp
      simp only [Act.put, sA, s0, sS]
      refine wpAnyH_done (by kernel_rfl) ?_ _
      go_wp2_with fail
      go_meet
      exact ⟨_, rfl, rfl, H8.out⟩
    --end slow
  case rest =>
    obtain ⟨B, rfl, rfl, h8⟩ := hcut
    have HB := hid (bx.trans (h8.below.mono bx.size))
    clear h8
    go_wp2
    go_ret2
    exact ⟨rfl, HB.out⟩

theorem make_pts (n : Nat) (h : n ≤ 1099511627776) (W : World) : ∃ C : Array Value, C.size = n * 2 ∧ (Instr.makeSlice 35 (.int .i64 0) (.int .i64 (n : Int))).run Tryz.prog W = .ok (.slice (some ⟨W.heap.size, 0, none⟩) 0 n) (W.alloc (.cells C 26)) := by
  obtain ⟨i0, hi, hz0, hz1, hz2⟩ := info_parts info_bndB
  have hr := run_make (P := Tryz.prog) W 35 26 i0 (.agg #[.int .i64 0, .int .i64 0]) Tryz.underlying35 hi hz0 .i64 .i64 0 n (Int.le_refl _) (by omega) (by rw [hz2]; omega) (by omega)
  simp only [Int.toNat_natCast, hz1, Int.toNat_zero] at hr
  refine ⟨_, ?_, hr⟩
  simp [madeCells]

set_option maxRecDepth 100000 in
set_option maxHeartbeats 8000000 in
theorem bWalk_ok (o : Option Addr) (cap : Nat) (h : Int) (ns : List NodeD) (w : World) (hF : FRd w o cap ns) (hkl : ∀ (i : Nat) (hi : i < ns.length), ns[i].kids.length ≤ 1099511627776) (hal : ∀ (i : Nat) (hi : i < ns.length), ns[i].attrs.length ≤ 1099511627776) (hE : lookE ns [(h, 0)] = 0) :
    Calls Tryz.prog 13 #[.agg #[.slice o ns.length cap], .int .i64 h] w fun e w' => ∃ v, e = .returned (.tuple #[v, .int .i64 0]) ∧ w'.ownsRow w.heap.size 26 2 v (ptsD ns h).length (rowP (ptsD ns h)) ∧ Below w.heap.size w w' ∧ ∃ F : Int → Int, Num ns F := by
  have HSt : Hid (∀ V : World, Calls Tryz.prog 47 #[.int .i64 h] V fun e w' => e = .returned (.agg #[.int .i64 h, .int .i64 0]) ∧ Below V.heap.size V w') := fun V => bStart_any h V
  have hR : RightF ns ∧ wrongD ns [(h, 0)] = 0 := by
    unfold lookE at hE
    split at hE
    · rename_i hr
      exact ⟨(rightD_iff ns).1 hr, hE⟩
    · simp at hE
  obtain ⟨hR, hW⟩ := hR
  have hp : isPt ns (h, 0) := wrongD_zero.1 hW _ (by simp)
  have hq := pt_last hp.1
  obtain ⟨j, hj, rfl⟩ := there_idx hp.1
  obtain ⟨b, off, hoe, hFF⟩ := hF.at_ (by omega)
  have bx : Below w.heap.size w (w.alloc (.cells #[.slice o ns.length cap] 24)) := (Below.refl _ w).alloc (Nat.le_refl _) _
  have g0 := heap_new w (.cells #[.slice o ns.length cap] 24)
  have sx : (w.alloc (.cells #[.slice o ns.length cap] 24)).heap.size = w.heap.size + 1 := by simp
  have HLk : Hid (∀ (vc : Value) (V : World), Below w.heap.size w V → RdB V vc [((j : Int) + 1, 0)] → _) := fun vc V hV hr => bLooked_ok o cap vc _ ns V (hF.later hV) hkl hal hr (by simp) hR hW
  have HNu : Hid (∀ (c : Int), isPt ns ((j : Int) + 1, c) → ∀ (bR bF bL : Nat) (R F L : List Int) (V : World), Below w.heap.size w V → NumsL ns V bR bF bL R F L → Calls Tryz.prog 48 #[numsV o cap ns.length bR bF bL (ns.length + 1), bndV ((j : Int) + 1) c] V fun e w' => e = .returned (.int .i64 (numD ns (fOf F) ((j : Int) + 1, c))) ∧ Below V.heap.size V w') := by
    intro c hc bR bF bL R F L V hV hN
    rw [hoe]
    exact pNumber_any b off cap bR bF bL j c ns R F L V hR (hFF.later hV) hN hj hc
  have HEn : Hid (∀ (bR bF bL : Nat) (V : World), Below w.heap.size w V → Calls Tryz.prog 49 #[numsV o cap ns.length bR bF bL (ns.length + 1), .int .i64 ((j : Int) + 1)] V fun e w' => e = .returned (bndV ((j : Int) + 1) (lenN ns ((j : Int) + 1))) ∧ Below V.heap.size V w') := by
    intro bR bF bL V hV
    rw [hoe]
    exact bEnd_any b off cap bR bF bL _ j ns V hR (hFF.later hV) hj
  have HPo : Hid (∀ (B : Nat) (v : Value) (V : World), w.heap.size ≤ B → Below w.heap.size w V → B ≤ V.heap.size → V.ownsRow B 26 2 v ([] : List (Int × Int)).length (rowP []) → Calls Tryz.prog 50 #[.agg #[.slice o ns.length cap], .int .i64 ((j : Int) + 1), v] V fun e W' => ∃ v', e = .returned v' ∧ W'.ownsRow B 26 2 v' ([] ++ ptsD ns ((j : Int) + 1)).length (rowP ([] ++ ptsD ns ((j : Int) + 1))) ∧ Below B V W' ∧ KeepP V W') := by
    intro B v V hwB hV hB hO
    rw [hoe]
    exact pointsOf_any b off cap B ns w hR hFF hwB (ns.length + 1) _ v [] V (there_of hj) (by omega) (by have := hR.sz (there_of hj); simp; omega) hV hB hO
  have hsz := hR.sz (there_of hj)
  have hsp := sz_pos hR (there_of hj)
  have HLst : Hid (∀ (R F L : List Int), NumL ns R F L → numD ns (fOf F) ((j : Int) + 1, (0 : Int)) = fOf F ((j : Int) + 1) ∧ numD ns (fOf F) ((j : Int) + 1, (lenN ns ((j : Int) + 1) : Int)) = fOf F ((j : Int) + 1) + (szD ns ((j : Int) + 1) : Int) - 1 ∧ 0 ≤ fOf F ((j : Int) + 1) ∧ fOf F ((j : Int) + 1) ≤ 1099511627776) := fun R F L hN => ⟨numD_zero _ _ _, num_last hR hR.oneOf hN.numF (there_of hj), hN.low _ (there_of hj), by have := hN.high _ (there_of hj); unfold fOf; omega⟩
  have Hp := hid hp
  have Hq := hid hq
  clear hF hkl hal hE hR hW hp hq hFF hoe hj
  unfold bndV numsV at *
  generalize (lenN ns ((j : Int) + 1) : Int) = LN at *
  generalize hsZ : szD ns ((j : Int) + 1) = SZ at *
  clear hsZ
  generalize ((j : Int) + 1) = h at *
  go_enter Tryz.func13, Tryz.ntmps13
  go_upto_region 1 with fail
  generalize (w.alloc (.cells #[.slice o ns.length cap] 24)) = W0 at *
  have n0 := (box_cell_l g0).1
  go_cut [6, 7] (fun t u wx => ∃ bR bF bL B, t = .pointer (some ⟨B, 0, none⟩) ∧ u = .int .i64 0 ∧ Held8 W0 (.agg #[.slice o ns.length cap, .slice (some ⟨bR, 0, none⟩) (ns.length + 1) (ns.length + 1), .slice (some ⟨bF, 0, none⟩) (ns.length + 1) (ns.length + 1), .slice (some ⟨bL, 0, none⟩) (ns.length + 1) (ns.length + 1)]) B wx ∧ NumsAt ns wx bR bF bL)
  case first =>
    --slow
    refine wp_region_held_drew (S := fun V => Below W0.heap.size W0 V) (by kernel_rfl) ((Below.refl _ _).drew) (fun hHeld => ?_)
    have HB_V0 := hid hHeld
    have hz0 := hHeld.size
    generalize W0.drew = V0 at *
    refine oneH 0 11 (.agg #[.slice o ns.length cap]) hHeld ?_ ?_
    · intro V hSw; (try dsimp only at hSw); have k0 := cellLater (B := w.heap.size) hSw (by omega) n0; go_simp
    simp only [Act.put, sA, s0, sS]
    refine oneH 1 12 (.int .i64 h) hHeld ?_ ?_
    · intro V _; go_simp
    simp only [Act.put, sA, s0, sS]
    refine wpAnyH_ready (rs := [2, 8]) (by kernel_rfl) (by simp) ?_
    refine AllReadyH.cons rfl (fun K hK => ?_) (AllReadyH.cons rfl (fun K hK => ?_) (AllReadyH.nil))
    · go_simp
      go_wp2_with (go_at_call 47; refine (HSt.out V0).mono ?_; rintro e V1 ⟨rfl, hb⟩)
      have HB_V1 := hid (HB_V0.out.trans (hb.mono HB_V0.out.size))
      have hz1 := HB_V1.out.size
      have hy1 := hb.size
      refine hK.out _ _ HB_V1.out (fun hHeld => ?_)
      clear hK K hb
      refine wpAnyH_ready (rs := [3, 8]) (by kernel_rfl) (by simp) ?_
      refine AllReadyH.cons rfl (fun K hK => ?_) (AllReadyH.cons rfl (fun K hK => ?_) (AllReadyH.nil))
      · go_simp
        have hnw := heap_new V1 (.cells #[.int .i64 h, .int .i64 0] 26)
        have hb : Below V1.heap.size V1 (V1.alloc (.cells #[.int .i64 h, .int .i64 0] 26)) := (Below.refl _ V1).alloc (Nat.le_refl _) _
        have hx2 := (Array.getElem?_eq_some_iff.1 hnw).1
        generalize V1.alloc (.cells #[.int .i64 h, .int .i64 0] 26) = V2 at *
        have HB_V2 := hid (HB_V1.out.trans (hb.mono HB_V1.out.size))
        have hz2 := HB_V2.out.size
        have hy2 := hb.size
        have r1 := one_rdH hnw
        refine hK.out _ _ HB_V2.out (fun hHeld => ?_)
        clear hK K hb
        refine wpAnyH_ready (rs := [4, 8]) (by kernel_rfl) (by simp) ?_
        refine AllReadyH.cons rfl (fun K hK => ?_) (AllReadyH.cons rfl (fun K hK => ?_) (AllReadyH.nil))
        · go_simp
          go_wp2_with (go_at_call 41; refine (HLk.out _ V2 (bx.trans (HB_V2.out.mono bx.size)) r1).mono ?_; rintro e V3 ⟨bR, bF, bL, rfl, hNm, hb⟩)
          have HB_V3 := hid (HB_V2.out.trans (hb.mono HB_V2.out.size))
          have hz3 := HB_V3.out.size
          have hy3 := hb.size
          have r1 := r1.later hb
          have hN2 := hNm
          refine hK.out _ _ HB_V3.out (fun hHeld => ?_)
          clear hK K hb
          refine oneH 5 10 (.tuple #[.agg #[.slice o ns.length cap, .slice (some ⟨bR, 0, none⟩) (ns.length + 1) (ns.length + 1), .slice (some ⟨bF, 0, none⟩) (ns.length + 1) (ns.length + 1), .slice (some ⟨bL, 0, none⟩) (ns.length + 1) (ns.length + 1)], .int .i64 0]) hHeld ?_ ?_
          · intro V _; go_simp
          simp only [Act.put, sA, s0, sS]
          refine oneH 6 16 (.agg #[.slice o ns.length cap, .slice (some ⟨bR, 0, none⟩) (ns.length + 1) (ns.length + 1), .slice (some ⟨bF, 0, none⟩) (ns.length + 1) (ns.length + 1), .slice (some ⟨bL, 0, none⟩) (ns.length + 1) (ns.length + 1)]) hHeld ?_ ?_
          · intro V _; go_simp
          simp only [Act.put, sA, s0, sS]
          refine oneH 7 17 (.int .i64 0) hHeld ?_ ?_
          · intro V _; go_simp
          simp only [Act.put, sA, s0, sS]
          refine wpAnyH_ready (rs := [8]) (by kernel_rfl) (by simp) ?_
          refine AllReadyH.cons rfl (fun K hK => ?_) (AllReadyH.nil)
          go_simp
          have hfl := heap_new V3 (.cells #[.slice none 0 0, .slice none 0 0, .slice none 0 0, .slice none 0 0] 77)
          have hb : Below V3.heap.size V3 (V3.alloc (.cells #[.slice none 0 0, .slice none 0 0, .slice none 0 0, .slice none 0 0] 77)) := (Below.refl _ V3).alloc (Nat.le_refl _) _
          have hx4 := (Array.getElem?_eq_some_iff.1 hfl).1
          generalize V3.alloc (.cells #[.slice none 0 0, .slice none 0 0, .slice none 0 0, .slice none 0 0] 77) = V4 at *
          have HB_V4 := hid (HB_V3.out.trans (hb.mono HB_V3.out.size))
          have hz4 := HB_V4.out.size
          have hy4 := hb.size
          have r1 := r1.later hb
          have hN2 := hN2.later hb
          refine hK.out _ _ HB_V4.out (fun hHeld => ?_)
          clear hK K hb
          obtain ⟨z0, z1, z2, z3⟩ := sv_cells hfl
          obtain ⟨y0, y1, y2, y3⟩ := sv_free hfl
          refine wpAnyH_ready (rs := [9]) (by kernel_rfl) (by simp) ?_
          refine AllReadyH.cons rfl (fun K hK => ?_) AllReadyH.nil
          go_simp
          have H8 := hid (held8 (a := .slice o ns.length cap) (b := .slice (some ⟨bR, 0, none⟩) (ns.length + 1) (ns.length + 1)) (c := .slice (some ⟨bF, 0, none⟩) (ns.length + 1) (ns.length + 1)) (d := .slice (some ⟨bL, 0, none⟩) (ns.length + 1) (ns.length + 1)) HB_V4.out (show W0.heap.size ≤ V3.heap.size by omega) hfl)
          have HN8 := hid (nums_set4 (a := .slice o ns.length cap) (b := .slice (some ⟨bR, 0, none⟩) (ns.length + 1) (ns.length + 1)) (c := .slice (some ⟨bF, 0, none⟩) (ns.length + 1) (ns.length + 1)) (d := .slice (some ⟨bL, 0, none⟩) (ns.length + 1) (ns.length + 1)) hN2 hfl)
          refine hK.out _ _ H8.out.below (fun hHeld => ?_)
          clear hK K
          refine oneH 10 7 (.int .i64 0) hHeld ?_ ?_
          · intro V _; go_simp
          simp only [Act.put, sA, s0, sS]
          refine wpAnyH_done (by kernel_rfl) ?_ _
          go_wp2_with fail
          go_meet
          exact ⟨bR, bF, bL, _, rfl, rfl, H8.out, HN8.out⟩
        · go_simp
          have hfl := heap_new V2 (.cells #[.slice none 0 0, .slice none 0 0, .slice none 0 0, .slice none 0 0] 77)
          have hb : Below V2.heap.size V2 (V2.alloc (.cells #[.slice none 0 0, .slice none 0 0, .slice none 0 0, .slice none 0 0] 77)) := (Below.refl _ V2).alloc (Nat.le_refl _) _
          have hx3 := (Array.getElem?_eq_some_iff.1 hfl).1
          generalize V2.alloc (.cells #[.slice none 0 0, .slice none 0 0, .slice none 0 0, .slice none 0 0] 77) = V3 at *
          have HB_V3 := hid (HB_V2.out.trans (hb.mono HB_V2.out.size))
          have hz3 := HB_V3.out.size
          have hy3 := hb.size
          have r1 := r1.later hb
          refine hK.out _ _ HB_V3.out (fun hHeld => ?_)
          clear hK K hb
          refine wpAnyH_ready (rs := [4]) (by kernel_rfl) (by simp) ?_
          refine AllReadyH.cons rfl (fun K hK => ?_) (AllReadyH.nil)
          go_simp
          go_wp2_with (go_at_call 41; refine (HLk.out _ V3 (bx.trans (HB_V3.out.mono bx.size)) r1).mono ?_; rintro e V4 ⟨bR, bF, bL, rfl, hNm, hb⟩)
          have HB_V4 := hid (HB_V3.out.trans (hb.mono HB_V3.out.size))
          have hz4 := HB_V4.out.size
          have hy4 := hb.size
          have r1 := r1.later hb
          have hfl := blkLater hb hfl
          have hN2 := hNm
          refine hK.out _ _ HB_V4.out (fun hHeld => ?_)
          clear hK K hb
          refine oneH 5 10 (.tuple #[.agg #[.slice o ns.length cap, .slice (some ⟨bR, 0, none⟩) (ns.length + 1) (ns.length + 1), .slice (some ⟨bF, 0, none⟩) (ns.length + 1) (ns.length + 1), .slice (some ⟨bL, 0, none⟩) (ns.length + 1) (ns.length + 1)], .int .i64 0]) hHeld ?_ ?_
          · intro V _; go_simp
          simp only [Act.put, sA, s0, sS]
          refine oneH 6 16 (.agg #[.slice o ns.length cap, .slice (some ⟨bR, 0, none⟩) (ns.length + 1) (ns.length + 1), .slice (some ⟨bF, 0, none⟩) (ns.length + 1) (ns.length + 1), .slice (some ⟨bL, 0, none⟩) (ns.length + 1) (ns.length + 1)]) hHeld ?_ ?_
          · intro V _; go_simp
          simp only [Act.put, sA, s0, sS]
          refine oneH 7 17 (.int .i64 0) hHeld ?_ ?_
          · intro V _; go_simp
          simp only [Act.put, sA, s0, sS]
          obtain ⟨z0, z1, z2, z3⟩ := sv_cells hfl
          obtain ⟨y0, y1, y2, y3⟩ := sv_free hfl
          refine wpAnyH_ready (rs := [9]) (by kernel_rfl) (by simp) ?_
          refine AllReadyH.cons rfl (fun K hK => ?_) AllReadyH.nil
          go_simp
          have H8 := hid (held8 (a := .slice o ns.length cap) (b := .slice (some ⟨bR, 0, none⟩) (ns.length + 1) (ns.length + 1)) (c := .slice (some ⟨bF, 0, none⟩) (ns.length + 1) (ns.length + 1)) (d := .slice (some ⟨bL, 0, none⟩) (ns.length + 1) (ns.length + 1)) HB_V4.out (show W0.heap.size ≤ V2.heap.size by omega) hfl)
          have HN8 := hid (nums_set4 (a := .slice o ns.length cap) (b := .slice (some ⟨bR, 0, none⟩) (ns.length + 1) (ns.length + 1)) (c := .slice (some ⟨bF, 0, none⟩) (ns.length + 1) (ns.length + 1)) (d := .slice (some ⟨bL, 0, none⟩) (ns.length + 1) (ns.length + 1)) hN2 hfl)
          refine hK.out _ _ H8.out.below (fun hHeld => ?_)
          clear hK K
          refine oneH 10 7 (.int .i64 0) hHeld ?_ ?_
          · intro V _; go_simp
          simp only [Act.put, sA, s0, sS]
          refine wpAnyH_done (by kernel_rfl) ?_ _
          go_wp2_with fail
          go_meet
          exact ⟨bR, bF, bL, _, rfl, rfl, H8.out, HN8.out⟩
      · go_simp
        have hfl := heap_new V1 (.cells #[.slice none 0 0, .slice none 0 0, .slice none 0 0, .slice none 0 0] 77)
        have hb : Below V1.heap.size V1 (V1.alloc (.cells #[.slice none 0 0, .slice none 0 0, .slice none 0 0, .slice none 0 0] 77)) := (Below.refl _ V1).alloc (Nat.le_refl _) _
        have hx2 := (Array.getElem?_eq_some_iff.1 hfl).1
        generalize V1.alloc (.cells #[.slice none 0 0, .slice none 0 0, .slice none 0 0, .slice none 0 0] 77) = V2 at *
        have HB_V2 := hid (HB_V1.out.trans (hb.mono HB_V1.out.size))
        have hz2 := HB_V2.out.size
        have hy2 := hb.size
        refine hK.out _ _ HB_V2.out (fun hHeld => ?_)
        clear hK K hb
        refine wpAnyH_ready (rs := [3]) (by kernel_rfl) (by simp) ?_
        refine AllReadyH.cons rfl (fun K hK => ?_) (AllReadyH.nil)
        go_simp
        have hnw := heap_new V2 (.cells #[.int .i64 h, .int .i64 0] 26)
        have hb : Below V2.heap.size V2 (V2.alloc (.cells #[.int .i64 h, .int .i64 0] 26)) := (Below.refl _ V2).alloc (Nat.le_refl _) _
        have hx3 := (Array.getElem?_eq_some_iff.1 hnw).1
        generalize V2.alloc (.cells #[.int .i64 h, .int .i64 0] 26) = V3 at *
        have HB_V3 := hid (HB_V2.out.trans (hb.mono HB_V2.out.size))
        have hz3 := HB_V3.out.size
        have hy3 := hb.size
        have hfl := blkLater hb hfl
        have r1 := one_rdH hnw
        refine hK.out _ _ HB_V3.out (fun hHeld => ?_)
        clear hK K hb
        refine wpAnyH_ready (rs := [4]) (by kernel_rfl) (by simp) ?_
        refine AllReadyH.cons rfl (fun K hK => ?_) (AllReadyH.nil)
        go_simp
        go_wp2_with (go_at_call 41; refine (HLk.out _ V3 (bx.trans (HB_V3.out.mono bx.size)) r1).mono ?_; rintro e V4 ⟨bR, bF, bL, rfl, hNm, hb⟩)
        have HB_V4 := hid (HB_V3.out.trans (hb.mono HB_V3.out.size))
        have hz4 := HB_V4.out.size
        have hy4 := hb.size
        have hfl := blkLater hb hfl
        have r1 := r1.later hb
        have hN2 := hNm
        refine hK.out _ _ HB_V4.out (fun hHeld => ?_)
        clear hK K hb
        refine oneH 5 10 (.tuple #[.agg #[.slice o ns.length cap, .slice (some ⟨bR, 0, none⟩) (ns.length + 1) (ns.length + 1), .slice (some ⟨bF, 0, none⟩) (ns.length + 1) (ns.length + 1), .slice (some ⟨bL, 0, none⟩) (ns.length + 1) (ns.length + 1)], .int .i64 0]) hHeld ?_ ?_
        · intro V _; go_simp
        simp only [Act.put, sA, s0, sS]
        refine oneH 6 16 (.agg #[.slice o ns.length cap, .slice (some ⟨bR, 0, none⟩) (ns.length + 1) (ns.length + 1), .slice (some ⟨bF, 0, none⟩) (ns.length + 1) (ns.length + 1), .slice (some ⟨bL, 0, none⟩) (ns.length + 1) (ns.length + 1)]) hHeld ?_ ?_
        · intro V _; go_simp
        simp only [Act.put, sA, s0, sS]
        refine oneH 7 17 (.int .i64 0) hHeld ?_ ?_
        · intro V _; go_simp
        simp only [Act.put, sA, s0, sS]
        obtain ⟨z0, z1, z2, z3⟩ := sv_cells hfl
        obtain ⟨y0, y1, y2, y3⟩ := sv_free hfl
        refine wpAnyH_ready (rs := [9]) (by kernel_rfl) (by simp) ?_
        refine AllReadyH.cons rfl (fun K hK => ?_) AllReadyH.nil
        go_simp
        have H8 := hid (held8 (a := .slice o ns.length cap) (b := .slice (some ⟨bR, 0, none⟩) (ns.length + 1) (ns.length + 1)) (c := .slice (some ⟨bF, 0, none⟩) (ns.length + 1) (ns.length + 1)) (d := .slice (some ⟨bL, 0, none⟩) (ns.length + 1) (ns.length + 1)) HB_V4.out (show W0.heap.size ≤ V1.heap.size by omega) hfl)
        have HN8 := hid (nums_set4 (a := .slice o ns.length cap) (b := .slice (some ⟨bR, 0, none⟩) (ns.length + 1) (ns.length + 1)) (c := .slice (some ⟨bF, 0, none⟩) (ns.length + 1) (ns.length + 1)) (d := .slice (some ⟨bL, 0, none⟩) (ns.length + 1) (ns.length + 1)) hN2 hfl)
        refine hK.out _ _ H8.out.below (fun hHeld => ?_)
        clear hK K
        refine oneH 10 7 (.int .i64 0) hHeld ?_ ?_
        · intro V _; go_simp
        simp only [Act.put, sA, s0, sS]
        refine wpAnyH_done (by kernel_rfl) ?_ _
        go_wp2_with fail
        go_meet
        exact ⟨bR, bF, bL, _, rfl, rfl, H8.out, HN8.out⟩
    · go_simp
      have hfl := heap_new V0 (.cells #[.slice none 0 0, .slice none 0 0, .slice none 0 0, .slice none 0 0] 77)
      have hb : Below V0.heap.size V0 (V0.alloc (.cells #[.slice none 0 0, .slice none 0 0, .slice none 0 0, .slice none 0 0] 77)) := (Below.refl _ V0).alloc (Nat.le_refl _) _
      have hx1 := (Array.getElem?_eq_some_iff.1 hfl).1
      generalize V0.alloc (.cells #[.slice none 0 0, .slice none 0 0, .slice none 0 0, .slice none 0 0] 77) = V1 at *
      have HB_V1 := hid (HB_V0.out.trans (hb.mono HB_V0.out.size))
      have hz1 := HB_V1.out.size
      have hy1 := hb.size
      refine hK.out _ _ HB_V1.out (fun hHeld => ?_)
      clear hK K hb
      refine wpAnyH_ready (rs := [2]) (by kernel_rfl) (by simp) ?_
      refine AllReadyH.cons rfl (fun K hK => ?_) (AllReadyH.nil)
      go_simp
      go_wp2_with (go_at_call 47; refine (HSt.out V1).mono ?_; rintro e V2 ⟨rfl, hb⟩)
      have HB_V2 := hid (HB_V1.out.trans (hb.mono HB_V1.out.size))
      have hz2 := HB_V2.out.size
      have hy2 := hb.size
      have hfl := blkLater hb hfl
      refine hK.out _ _ HB_V2.out (fun hHeld => ?_)
      clear hK K hb
      refine wpAnyH_ready (rs := [3]) (by kernel_rfl) (by simp) ?_
      refine AllReadyH.cons rfl (fun K hK => ?_) (AllReadyH.nil)
      go_simp
      have hnw := heap_new V2 (.cells #[.int .i64 h, .int .i64 0] 26)
      have hb : Below V2.heap.size V2 (V2.alloc (.cells #[.int .i64 h, .int .i64 0] 26)) := (Below.refl _ V2).alloc (Nat.le_refl _) _
      have hx3 := (Array.getElem?_eq_some_iff.1 hnw).1
      generalize V2.alloc (.cells #[.int .i64 h, .int .i64 0] 26) = V3 at *
      have HB_V3 := hid (HB_V2.out.trans (hb.mono HB_V2.out.size))
      have hz3 := HB_V3.out.size
      have hy3 := hb.size
      have hfl := blkLater hb hfl
      have r1 := one_rdH hnw
      refine hK.out _ _ HB_V3.out (fun hHeld => ?_)
      clear hK K hb
      refine wpAnyH_ready (rs := [4]) (by kernel_rfl) (by simp) ?_
      refine AllReadyH.cons rfl (fun K hK => ?_) (AllReadyH.nil)
      go_simp
      go_wp2_with (go_at_call 41; refine (HLk.out _ V3 (bx.trans (HB_V3.out.mono bx.size)) r1).mono ?_; rintro e V4 ⟨bR, bF, bL, rfl, hNm, hb⟩)
      have HB_V4 := hid (HB_V3.out.trans (hb.mono HB_V3.out.size))
      have hz4 := HB_V4.out.size
      have hy4 := hb.size
      have hfl := blkLater hb hfl
      have r1 := r1.later hb
      have hN2 := hNm
      refine hK.out _ _ HB_V4.out (fun hHeld => ?_)
      clear hK K hb
      refine oneH 5 10 (.tuple #[.agg #[.slice o ns.length cap, .slice (some ⟨bR, 0, none⟩) (ns.length + 1) (ns.length + 1), .slice (some ⟨bF, 0, none⟩) (ns.length + 1) (ns.length + 1), .slice (some ⟨bL, 0, none⟩) (ns.length + 1) (ns.length + 1)], .int .i64 0]) hHeld ?_ ?_
      · intro V _; go_simp
      simp only [Act.put, sA, s0, sS]
      refine oneH 6 16 (.agg #[.slice o ns.length cap, .slice (some ⟨bR, 0, none⟩) (ns.length + 1) (ns.length + 1), .slice (some ⟨bF, 0, none⟩) (ns.length + 1) (ns.length + 1), .slice (some ⟨bL, 0, none⟩) (ns.length + 1) (ns.length + 1)]) hHeld ?_ ?_
      · intro V _; go_simp
      simp only [Act.put, sA, s0, sS]
      refine oneH 7 17 (.int .i64 0) hHeld ?_ ?_
      · intro V _; go_simp
      simp only [Act.put, sA, s0, sS]
      obtain ⟨z0, z1, z2, z3⟩ := sv_cells hfl
      obtain ⟨y0, y1, y2, y3⟩ := sv_free hfl
      refine wpAnyH_ready (rs := [9]) (by kernel_rfl) (by simp) ?_
      refine AllReadyH.cons rfl (fun K hK => ?_) AllReadyH.nil
      go_simp
      have H8 := hid (held8 (a := .slice o ns.length cap) (b := .slice (some ⟨bR, 0, none⟩) (ns.length + 1) (ns.length + 1)) (c := .slice (some ⟨bF, 0, none⟩) (ns.length + 1) (ns.length + 1)) (d := .slice (some ⟨bL, 0, none⟩) (ns.length + 1) (ns.length + 1)) HB_V4.out (show W0.heap.size ≤ V0.heap.size by omega) hfl)
      have HN8 := hid (nums_set4 (a := .slice o ns.length cap) (b := .slice (some ⟨bR, 0, none⟩) (ns.length + 1) (ns.length + 1)) (c := .slice (some ⟨bF, 0, none⟩) (ns.length + 1) (ns.length + 1)) (d := .slice (some ⟨bL, 0, none⟩) (ns.length + 1) (ns.length + 1)) hN2 hfl)
      refine hK.out _ _ H8.out.below (fun hHeld => ?_)
      clear hK K
      refine oneH 10 7 (.int .i64 0) hHeld ?_ ?_
      · intro V _; go_simp
      simp only [Act.put, sA, s0, sS]
      refine wpAnyH_done (by kernel_rfl) ?_ _
      go_wp2_with fail
      go_meet
      exact ⟨bR, bF, bL, _, rfl, rfl, H8.out, HN8.out⟩
    --end slow
  case rest =>
    obtain ⟨bR, bF, bL, B, rfl, rfl, h8, hN⟩ := hcut
    obtain ⟨_, _, _, _, hag, hbox⟩ := h8.box
    simp only [Value.agg.injEq, Array.mk.injEq, List.cons.injEq, and_true] at hag
    obtain ⟨rfl, rfl, rfl, rfl⟩ := hag
    have hs8 := h8.below.size
    have hlB := h8.lt
    have hltB := (Array.getElem?_eq_some_iff.1 hbox).1
    obtain ⟨R, F, L, hNl⟩ := hN.lists
    obtain ⟨t1, t2, t3, t4⟩ := HLst.out R F L hNl.num
    have H1 := hid (HNu.out 0 Hp.out bR bF bL R F L)
    have H2 := hid (HNu.out LN Hq.out bR bF bL R F L)
    have H3 := hid (HEn.out bR bF bL)
    rw [t1] at H1
    rw [t2] at H2
    have bc := bx.trans (h8.below.mono bx.size)
    have g0c := blkLater h8.below g0
    have HNl := hid hNl
    have HNum : Hid (∃ F : Int → Int, Num ns F) := ⟨_, hNl.num.numF⟩
    clear HNu HEn HLst t1 t2 h8 hN hNl n0 HLk
    generalize fOf F h = P at *
    go_upto_region 4 with fail
    generalize hwc : wc = W1 at *
    clear hwc
    obtain ⟨n0, n1, n2, n3⟩ := sv_cells hbox
    go_cut [8, 9] (fun t u wx => t = .int .i64 P ∧ u = .int .i64 (P + (SZ : Int) - 1) ∧ Below W1.heap.size W1 wx)
    case first =>
      --slow
      refine wp_region_held_drew (S := fun V => Below W1.heap.size W1 V) (by kernel_rfl) ((Below.refl _ _).drew) (fun hHeld => ?_)
      have HB_V0 := hid hHeld
      have HS_V0 := hid hHeld.size
      generalize W1.drew = V0 at *
      refine oneH 0 21 (.agg #[.slice o ns.length cap, .slice (some ⟨bR, 0, none⟩) (ns.length + 1) (ns.length + 1), .slice (some ⟨bF, 0, none⟩) (ns.length + 1) (ns.length + 1), .slice (some ⟨bL, 0, none⟩) (ns.length + 1) (ns.length + 1)]) hHeld ?_ ?_
      · intro V hSw; (try dsimp only at hSw); have k0 := cellLater (B := B) hSw (by omega) n0; have k1 := cellLater (B := B) hSw (by omega) n1; have k2 := cellLater (B := B) hSw (by omega) n2; have k3 := cellLater (B := B) hSw (by omega) n3; go_simp
      simp only [Act.put, sA, s0, sS]
      refine oneH 1 22 (.int .i64 h) hHeld ?_ ?_
      · intro V _; go_simp
      simp only [Act.put, sA, s0, sS]
      refine oneH 4 25 (.agg #[.slice o ns.length cap, .slice (some ⟨bR, 0, none⟩) (ns.length + 1) (ns.length + 1), .slice (some ⟨bF, 0, none⟩) (ns.length + 1) (ns.length + 1), .slice (some ⟨bL, 0, none⟩) (ns.length + 1) (ns.length + 1)]) hHeld ?_ ?_
      · intro V hSw; (try dsimp only at hSw); have k0 := cellLater (B := B) hSw (by omega) n0; have k1 := cellLater (B := B) hSw (by omega) n1; have k2 := cellLater (B := B) hSw (by omega) n2; have k3 := cellLater (B := B) hSw (by omega) n3; go_simp
      simp only [Act.put, sA, s0, sS]
      refine oneH 5 26 (.agg #[.slice o ns.length cap, .slice (some ⟨bR, 0, none⟩) (ns.length + 1) (ns.length + 1), .slice (some ⟨bF, 0, none⟩) (ns.length + 1) (ns.length + 1), .slice (some ⟨bL, 0, none⟩) (ns.length + 1) (ns.length + 1)]) hHeld ?_ ?_
      · intro V hSw; (try dsimp only at hSw); have k0 := cellLater (B := B) hSw (by omega) n0; have k1 := cellLater (B := B) hSw (by omega) n1; have k2 := cellLater (B := B) hSw (by omega) n2; have k3 := cellLater (B := B) hSw (by omega) n3; go_simp
      simp only [Act.put, sA, s0, sS]
      refine oneH 6 27 (.int .i64 h) hHeld ?_ ?_
      · intro V _; go_simp
      simp only [Act.put, sA, s0, sS]
      refine wpAnyH_ready (rs := [2]) (by kernel_rfl) (by simp) ?_
      refine AllReadyH.cons rfl (fun K hK => ?_) AllReadyH.nil
      go_simp
      go_wp2_with (go_at_call 47; refine (HSt.out V0).mono ?_; rintro e V1 ⟨rfl, hb⟩; have HB_V1 := hid (HB_V0.out.trans (hb.mono HB_V0.out.size)); have HS_V1 := hid (HB_V1.out.size))
      refine hK.out _ _ HB_V1.out (fun hHeld => ?_)
      clear hK K
      refine wpAnyH_ready (rs := [3]) (by kernel_rfl) (by simp) ?_
      refine AllReadyH.cons rfl (fun K hK => ?_) AllReadyH.nil
      go_simp
      go_wp2_with (go_at_call 48; refine (H1.out V1 (bc.trans (HB_V1.out.mono bc.size)) (HNl.out.later HB_V1.out)).mono ?_; rintro e V2 ⟨rfl, hb⟩; have HB_V2 := hid (HB_V1.out.trans (hb.mono HB_V1.out.size)); have HS_V2 := hid (HB_V2.out.size))
      refine hK.out _ _ HB_V2.out (fun hHeld => ?_)
      clear hK K
      refine wpAnyH_ready (rs := [7]) (by kernel_rfl) (by simp) ?_
      refine AllReadyH.cons rfl (fun K hK => ?_) AllReadyH.nil
      go_simp
      go_wp2_with (go_at_call 49; refine (H3.out V2 (bc.trans (HB_V2.out.mono bc.size))).mono ?_; rintro e V3 ⟨rfl, hb⟩; have HB_V3 := hid (HB_V2.out.trans (hb.mono HB_V2.out.size)); have HS_V3 := hid (HB_V3.out.size))
      refine hK.out _ _ HB_V3.out (fun hHeld => ?_)
      clear hK K
      refine wpAnyH_ready (rs := [8]) (by kernel_rfl) (by simp) ?_
      refine AllReadyH.cons rfl (fun K hK => ?_) AllReadyH.nil
      go_simp
      go_wp2_with (go_at_call 48; refine (H2.out V3 (bc.trans (HB_V3.out.mono bc.size)) (HNl.out.later HB_V3.out)).mono ?_; rintro e V4 ⟨rfl, hb⟩; have HB_V4 := hid (HB_V3.out.trans (hb.mono HB_V3.out.size)); have HS_V4 := hid (HB_V4.out.size))
      refine hK.out _ _ HB_V4.out (fun hHeld => ?_)
      clear hK K
      refine oneH 9 8 (.int .i64 P) hHeld ?_ ?_
      · intro V _; go_simp
      simp only [Act.put, sA, s0, sS]
      refine oneH 10 9 (.int .i64 (P + (SZ : Int) - 1)) hHeld ?_ ?_
      · intro V _; go_simp
      simp only [Act.put, sA, s0, sS]
      refine wpAnyH_done (by kernel_rfl) ?_ _
      go_wp2_with fail
      go_meet
      exact ⟨rfl, rfl, HB_V4.out⟩
      --end slow
    case rest =>
      obtain ⟨rfl, rfl, hb4⟩ := hcut
      have bc2 := bc.trans (hb4.mono bc.size)
      have g0d := blkLater hb4 g0c
      have c0 := (box_cell_l g0d).1
      have hs2 : W1.heap.size ≤ wc.heap.size := hb4.size
      clear hb4 hbox n0 n1 n2 n3 g0c
      go_upto_region 5 with fail
      generalize hwc : wc = W2 at *
      clear hwc
      have f4 : IntKind.i64.wrap (P + (SZ : Int) - 1 - P) = (SZ : Int) - 1 := by rw [wrap_smallB (by omega) (by omega)]; omega
      have f5 : IntKind.i64.wrap (SZ : Int) = (SZ : Int) := by rw [wrap_smallB (by omega) (by omega)]
      refine wp_region_held_drew (S := fun V => Below W2.heap.size W2 V) (by kernel_rfl) ((Below.refl _ _).drew) (fun hHeld => ?_)
      have HB_V0 := hid hHeld
      have HS_V0 := hid hHeld.size
      generalize W2.drew = V0 at *
      refine oneH 0 30 (.agg #[.slice o ns.length cap]) hHeld ?_ ?_
      · intro V hSw; (try dsimp only at hSw); have k0 := cellLater (B := w.heap.size) hSw (by omega) c0; go_simp
      simp only [Act.put, sA, s0, sS]
      refine oneH 1 31 (.int .i64 h) hHeld ?_ ?_
      · intro V _; go_simp
      simp only [Act.put, sA, s0, sS]
      refine oneH 2 32 (.int .i64 (P + (SZ : Int) - 1)) hHeld ?_ ?_
      · intro V _; go_simp
      simp only [Act.put, sA, s0, sS]
      refine oneH 3 33 (.int .i64 P) hHeld ?_ ?_
      · intro V _; go_simp
      simp only [Act.put, sA, s0, sS]
      refine oneH 4 34 (.int .i64 ((SZ : Int) - 1)) hHeld ?_ ?_
      · intro V _; go_simp
      simp only [Act.put, sA, s0, sS]
      refine oneH 5 35 (.int .i64 (SZ : Int)) hHeld ?_ ?_
      · intro V _; go_simp
      simp only [Act.put, sA, s0, sS]
      obtain ⟨C, hC, hmk⟩ := make_pts SZ (by omega) V0
      have hown : (V0.alloc (.cells C 26)).ownsRow V0.heap.size 26 2 (.slice (some ⟨V0.heap.size, 0, none⟩) 0 SZ) ([] : List (Int × Int)).length (rowP []) := ⟨rfl, .inr ⟨V0.heap.size, SZ, C, rfl, Nat.le_refl _, heap_new V0 _, Nat.zero_le _, Nat.le_trans (show SZ ≤ 67117056 by omega) (by decide), hC, rfl⟩⟩
      have hbm : Below V0.heap.size V0 (V0.alloc (.cells C 26)) := (Below.refl _ V0).alloc (Nat.le_refl _) _
      have hs0 := HB_V0.out.size
      refine wpAnyH_ready (rs := [6]) (by kernel_rfl) (by simp) ?_
      refine AllReadyH.cons rfl (fun K hK => ?_) AllReadyH.nil
      go_simp
      have HB_V1 := hid (HB_V0.out.trans (hbm.mono HB_V0.out.size))
      have hbm2 := hid hbm
      generalize V0.alloc (.cells C 26) = V1 at *
      refine hK.out _ _ HB_V1.out (fun hHeld => ?_)
      clear hK K hmk
      have hCall := HPo.out V0.heap.size _ V1 (Nat.le_trans bc2.size hs0) (bc2.trans (HB_V1.out.mono bc2.size)) hbm2.out.size hown
      rw [List.nil_append] at hCall
      refine wpAnyH_ready (rs := [7]) (by kernel_rfl) (by simp) ?_
      refine AllReadyH.cons rfl (fun K hK => ?_) AllReadyH.nil
      go_simp
      go_wp2_with (go_at_call 50; refine hCall.mono ?_; rintro e V2 ⟨vx, rfl, hox, hbx, hkx⟩; have HOx := hid hox; have HB_V2 := hid (HB_V1.out.trans (hbx.mono hs0)))
      refine hK.out _ _ HB_V2.out (fun hHeld => ?_)
      clear hK K
      obtain ⟨ox, cx, rfl⟩ := own_shapeB HOx.out
      refine oneH 8 4 (.slice ox (ptsD ns h).length cx) hHeld ?_ ?_
      · intro V _; go_simp
      simp only [Act.put, sA, s0, sS]
      refine oneH 9 5 (.int .i64 0) hHeld ?_ ?_
      · intro V _; go_simp
      simp only [Act.put, sA, s0, sS]
      refine wpAnyH_done (by kernel_rfl) ?_ _
      go_wp2_with fail
      go_ret2
      exact ⟨_, rfl, ownsRow_base HOx.out (Nat.le_trans bc2.size hs0), bc2.trans (HB_V2.out.mono bc2.size), HNum.out⟩
end Go.Proofs.YtilacgcjbdkphaaGreat

namespace Go.Proofs.YtilacgcjbdkphaaGreat
open Go.RowKit Go.Lib

set_option maxRecDepth 100000 in
set_option maxHeartbeats 8000000 in
theorem bContains_ok (o : Option Addr) (cap : Nat) (x c y d h : Int) (ns : List NodeD) (w : World) (hF : FRd w o cap ns) (hkl : ∀ (i : Nat) (hi : i < ns.length), ns[i].kids.length ≤ 1099511627776) (hal : ∀ (i : Nat) (hi : i < ns.length), ns[i].attrs.length ≤ 1099511627776) (hE : setE ns (x, c) (y, d) [(h, 0)] = 0) :
    Calls Tryz.prog 24 #[.agg #[.slice o ns.length cap], rngV x c y d, .int .i64 h] w fun e w' => e = .returned (.tuple #[.bool (contD ns (x, c) (y, d) h), .bool (partD ns (x, c) (y, d) h), .int .i64 0]) ∧ Below w.heap.size w w' := by
  have HSt : Hid (∀ V : World, Calls Tryz.prog 47 #[.int .i64 h] V fun e w' => e = .returned (.agg #[.int .i64 h, .int .i64 0]) ∧ Below V.heap.size V w') := fun V => bStart_any h V
  obtain ⟨bx, g0, g1, sx⟩ := two_newB w (.cells #[.slice o ns.length cap] 24) (.cells #[.int .i64 x, .int .i64 c, .int .i64 y, .int .i64 d] 44)
  obtain ⟨hR, hvd, hp, hq, hm⟩ := setE_zero hE
  have hh : isPt ns (h, 0) := hm _ (by simp)
  have hroot := (valid_root hvd).1
  have HLk : Hid (∀ (vc : Value) (V : World), Below w.heap.size w V → RdB V vc [(h, 0)] → _) := fun vc V hV hr => bSettled_ok o cap vc x c y d _ ns V (hF.later hV) hkl hal hr (by simp) hE
  obtain ⟨i, hi, rfl⟩ := there_idx hp.1
  obtain ⟨j, hj, rfl⟩ := there_idx hq.1
  obtain ⟨k, hk, rfl⟩ := there_idx hh.1
  obtain ⟨b, off, hoe, hFF⟩ := hF.at_ (by omega)
  have HCo : Hid (∀ (bR bF bL : Nat) (V : World), Below w.heap.size w V → NumsAt ns V bR bF bL → Calls Tryz.prog 62 #[numsV o cap ns.length bR bF bL (ns.length + 1), rngV ((i : Int) + 1) c ((j : Int) + 1) d, .int .i64 ((k : Int) + 1)] V fun e w' => e = .returned (.bool (contD ns ((i : Int) + 1, c) ((j : Int) + 1, d) ((k : Int) + 1))) ∧ Below V.heap.size V w') := by
    intro bR bF bL V hV hN
    obtain ⟨R, F, L, hNl⟩ := hN.lists
    rw [hoe, ← cont_pos hR hNl.num hp hq (there_of hk) hroot]
    exact pContained_any b off cap bR bF bL i j k c d ns R F L V hR (hFF.later hV) hNl hi hj hk hp hq
  have HHo : Hid (∀ (m : Nat), m < ns.length → ∀ (bR bF bL : Nat) (V : World), NumsAt ns V bR bF bL → Calls Tryz.prog 63 #[numsV o cap ns.length bR bF bL (ns.length + 1), .int .i64 ((k : Int) + 1), .int .i64 ((m : Int) + 1)] V fun e w' => e = .returned (.bool (decide (((m : Int) + 1) ∈ allD ns ((k : Int) + 1)))) ∧ Below V.heap.size V w') := by
    intro m hm2 bR bF bL V hN
    obtain ⟨R, F, L, hNl⟩ := hN.lists
    exact pHolds_any o cap bR bF bL k m ns R F L V hR hNl hk hm2
  have HH1 := hid (HHo.out i hi)
  have HH2 := hid (HHo.out j hj)
  have hpe : partD ns ((i : Int) + 1, c) ((j : Int) + 1, d) ((k : Int) + 1) = (decide (((i : Int) + 1) ∈ allD ns ((k : Int) + 1)) != decide (((j : Int) + 1) ∈ allD ns ((k : Int) + 1))) := rfl
  rw [hpe]
  clear hF hkl hal hE hR hvd hp hq hm hh hroot hFF hoe HHo hpe
  unfold rngV numsV at *
  generalize contD ns ((i : Int) + 1, c) ((j : Int) + 1, d) ((k : Int) + 1) = CD at *
  generalize decide (((i : Int) + 1) ∈ allD ns ((k : Int) + 1)) = D1 at *
  generalize decide (((j : Int) + 1) ∈ allD ns ((k : Int) + 1)) = D2 at *
  clear hi hj hk
  generalize ((i : Int) + 1) = x at *
  generalize ((j : Int) + 1) = y at *
  generalize ((k : Int) + 1) = h at *
  go_enter Tryz.func24, Tryz.ntmps24
  go_upto_region 1 with fail
  generalize ((w.alloc (.cells #[.slice o ns.length cap] 24)).alloc (.cells #[.int .i64 x, .int .i64 c, .int .i64 y, .int .i64 d] 44)) = W0 at *
  have n0 := (box_cell_l g0).1
  obtain ⟨a0, a1, a2, a3⟩ := rng_cells g1
  go_cut [9, 10] (fun t u wx => ∃ bR bF bL B, t = .pointer (some ⟨B, 0, none⟩) ∧ u = .int .i64 0 ∧ Held8 W0 (.agg #[.slice o ns.length cap, .slice (some ⟨bR, 0, none⟩) (ns.length + 1) (ns.length + 1), .slice (some ⟨bF, 0, none⟩) (ns.length + 1) (ns.length + 1), .slice (some ⟨bL, 0, none⟩) (ns.length + 1) (ns.length + 1)]) B wx ∧ NumsAt ns wx bR bF bL)
  case first =>
    --slow
    refine wp_region_held_drew (S := fun V => Below W0.heap.size W0 V) (by kernel_rfl) ((Below.refl _ _).drew) (fun hHeld => ?_)
    have HB_V0 := hid hHeld
    have hz0 := hHeld.size
    generalize W0.drew = V0 at *
    refine oneH 0 12 (.agg #[.slice o ns.length cap]) hHeld ?_ ?_
    · intro V hSw; (try dsimp only at hSw); have k0 := cellLater (B := w.heap.size) hSw (by omega) n0; go_simp
    simp only [Act.put, sA, s0, sS]
    refine oneH 1 13 (.agg #[.int .i64 x, .int .i64 c, .int .i64 y, .int .i64 d]) hHeld ?_ ?_
    · intro V hSw; (try dsimp only at hSw); have k0 := cellLater (B := w.heap.size + 1) hSw (by omega) a0; have k1 := cellLater (B := w.heap.size + 1) hSw (by omega) a1; have k2 := cellLater (B := w.heap.size + 1) hSw (by omega) a2; have k3 := cellLater (B := w.heap.size + 1) hSw (by omega) a3; go_simp
    simp only [Act.put, sA, s0, sS]
    refine oneH 2 14 (.int .i64 h) hHeld ?_ ?_
    · intro V _; go_simp
    simp only [Act.put, sA, s0, sS]
    refine wpAnyH_ready (rs := [3, 9]) (by kernel_rfl) (by simp) ?_
    refine AllReadyH.cons rfl (fun K hK => ?_) (AllReadyH.cons rfl (fun K hK => ?_) (AllReadyH.nil))
    · go_simp
      go_wp2_with (go_at_call 47; refine (HSt.out V0).mono ?_; rintro e V1 ⟨rfl, hb⟩)
      have HB_V1 := hid (HB_V0.out.trans (hb.mono HB_V0.out.size))
      have hz1 := HB_V1.out.size
      have hy1 := hb.size
      refine hK.out _ _ HB_V1.out (fun hHeld => ?_)
      clear hK K hb
      refine wpAnyH_ready (rs := [4, 9]) (by kernel_rfl) (by simp) ?_
      refine AllReadyH.cons rfl (fun K hK => ?_) (AllReadyH.cons rfl (fun K hK => ?_) (AllReadyH.nil))
      · go_simp
        have hnw := heap_new V1 (.cells #[.int .i64 h, .int .i64 0] 26)
        have hb : Below V1.heap.size V1 (V1.alloc (.cells #[.int .i64 h, .int .i64 0] 26)) := (Below.refl _ V1).alloc (Nat.le_refl _) _
        have hx2 := (Array.getElem?_eq_some_iff.1 hnw).1
        generalize V1.alloc (.cells #[.int .i64 h, .int .i64 0] 26) = V2 at *
        have HB_V2 := hid (HB_V1.out.trans (hb.mono HB_V1.out.size))
        have hz2 := HB_V2.out.size
        have hy2 := hb.size
        have r1 := one_rdH hnw
        refine hK.out _ _ HB_V2.out (fun hHeld => ?_)
        clear hK K hb
        refine wpAnyH_ready (rs := [5, 9]) (by kernel_rfl) (by simp) ?_
        refine AllReadyH.cons rfl (fun K hK => ?_) (AllReadyH.cons rfl (fun K hK => ?_) (AllReadyH.nil))
        · go_simp
          go_wp2_with (go_at_call 58; refine (HLk.out _ V2 (bx.trans (HB_V2.out.mono bx.size)) r1).mono ?_; rintro e V3 ⟨bR, bF, bL, rfl, hNm, hb⟩)
          have HB_V3 := hid (HB_V2.out.trans (hb.mono HB_V2.out.size))
          have hz3 := HB_V3.out.size
          have hy3 := hb.size
          have r1 := r1.later hb
          have hN2 := hNm
          refine hK.out _ _ HB_V3.out (fun hHeld => ?_)
          clear hK K hb
          refine oneH 6 11 (.tuple #[.agg #[.slice o ns.length cap, .slice (some ⟨bR, 0, none⟩) (ns.length + 1) (ns.length + 1), .slice (some ⟨bF, 0, none⟩) (ns.length + 1) (ns.length + 1), .slice (some ⟨bL, 0, none⟩) (ns.length + 1) (ns.length + 1)], .int .i64 0]) hHeld ?_ ?_
          · intro V _; go_simp
          simp only [Act.put, sA, s0, sS]
          refine oneH 7 18 (.agg #[.slice o ns.length cap, .slice (some ⟨bR, 0, none⟩) (ns.length + 1) (ns.length + 1), .slice (some ⟨bF, 0, none⟩) (ns.length + 1) (ns.length + 1), .slice (some ⟨bL, 0, none⟩) (ns.length + 1) (ns.length + 1)]) hHeld ?_ ?_
          · intro V _; go_simp
          simp only [Act.put, sA, s0, sS]
          refine oneH 8 19 (.int .i64 0) hHeld ?_ ?_
          · intro V _; go_simp
          simp only [Act.put, sA, s0, sS]
          refine wpAnyH_ready (rs := [9]) (by kernel_rfl) (by simp) ?_
          refine AllReadyH.cons rfl (fun K hK => ?_) (AllReadyH.nil)
          go_simp
          have hfl := heap_new V3 (.cells #[.slice none 0 0, .slice none 0 0, .slice none 0 0, .slice none 0 0] 77)
          have hb : Below V3.heap.size V3 (V3.alloc (.cells #[.slice none 0 0, .slice none 0 0, .slice none 0 0, .slice none 0 0] 77)) := (Below.refl _ V3).alloc (Nat.le_refl _) _
          have hx4 := (Array.getElem?_eq_some_iff.1 hfl).1
          generalize V3.alloc (.cells #[.slice none 0 0, .slice none 0 0, .slice none 0 0, .slice none 0 0] 77) = V4 at *
          have HB_V4 := hid (HB_V3.out.trans (hb.mono HB_V3.out.size))
          have hz4 := HB_V4.out.size
          have hy4 := hb.size
          have r1 := r1.later hb
          have hN2 := hN2.later hb
          refine hK.out _ _ HB_V4.out (fun hHeld => ?_)
          clear hK K hb
          obtain ⟨z0, z1, z2, z3⟩ := sv_cells hfl
          obtain ⟨y0, y1, y2, y3⟩ := sv_free hfl
          refine wpAnyH_ready (rs := [10]) (by kernel_rfl) (by simp) ?_
          refine AllReadyH.cons rfl (fun K hK => ?_) AllReadyH.nil
          go_simp
          have H8 := hid (held8 (a := .slice o ns.length cap) (b := .slice (some ⟨bR, 0, none⟩) (ns.length + 1) (ns.length + 1)) (c := .slice (some ⟨bF, 0, none⟩) (ns.length + 1) (ns.length + 1)) (d := .slice (some ⟨bL, 0, none⟩) (ns.length + 1) (ns.length + 1)) HB_V4.out (show W0.heap.size ≤ V3.heap.size by omega) hfl)
          have HN8 := hid (nums_set4 (a := .slice o ns.length cap) (b := .slice (some ⟨bR, 0, none⟩) (ns.length + 1) (ns.length + 1)) (c := .slice (some ⟨bF, 0, none⟩) (ns.length + 1) (ns.length + 1)) (d := .slice (some ⟨bL, 0, none⟩) (ns.length + 1) (ns.length + 1)) hN2 hfl)
          refine hK.out _ _ H8.out.below (fun hHeld => ?_)
          clear hK K
          refine oneH 11 10 (.int .i64 0) hHeld ?_ ?_
          · intro V _; go_simp
          simp only [Act.put, sA, s0, sS]
          refine wpAnyH_done (by kernel_rfl) ?_ _
          go_wp2_with fail
          go_meet
          exact ⟨bR, bF, bL, _, rfl, rfl, H8.out, HN8.out⟩
        · go_simp
          have hfl := heap_new V2 (.cells #[.slice none 0 0, .slice none 0 0, .slice none 0 0, .slice none 0 0] 77)
          have hb : Below V2.heap.size V2 (V2.alloc (.cells #[.slice none 0 0, .slice none 0 0, .slice none 0 0, .slice none 0 0] 77)) := (Below.refl _ V2).alloc (Nat.le_refl _) _
          have hx3 := (Array.getElem?_eq_some_iff.1 hfl).1
          generalize V2.alloc (.cells #[.slice none 0 0, .slice none 0 0, .slice none 0 0, .slice none 0 0] 77) = V3 at *
          have HB_V3 := hid (HB_V2.out.trans (hb.mono HB_V2.out.size))
          have hz3 := HB_V3.out.size
          have hy3 := hb.size
          have r1 := r1.later hb
          refine hK.out _ _ HB_V3.out (fun hHeld => ?_)
          clear hK K hb
          refine wpAnyH_ready (rs := [5]) (by kernel_rfl) (by simp) ?_
          refine AllReadyH.cons rfl (fun K hK => ?_) (AllReadyH.nil)
          go_simp
          go_wp2_with (go_at_call 58; refine (HLk.out _ V3 (bx.trans (HB_V3.out.mono bx.size)) r1).mono ?_; rintro e V4 ⟨bR, bF, bL, rfl, hNm, hb⟩)
          have HB_V4 := hid (HB_V3.out.trans (hb.mono HB_V3.out.size))
          have hz4 := HB_V4.out.size
          have hy4 := hb.size
          have r1 := r1.later hb
          have hfl := blkLater hb hfl
          have hN2 := hNm
          refine hK.out _ _ HB_V4.out (fun hHeld => ?_)
          clear hK K hb
          refine oneH 6 11 (.tuple #[.agg #[.slice o ns.length cap, .slice (some ⟨bR, 0, none⟩) (ns.length + 1) (ns.length + 1), .slice (some ⟨bF, 0, none⟩) (ns.length + 1) (ns.length + 1), .slice (some ⟨bL, 0, none⟩) (ns.length + 1) (ns.length + 1)], .int .i64 0]) hHeld ?_ ?_
          · intro V _; go_simp
          simp only [Act.put, sA, s0, sS]
          refine oneH 7 18 (.agg #[.slice o ns.length cap, .slice (some ⟨bR, 0, none⟩) (ns.length + 1) (ns.length + 1), .slice (some ⟨bF, 0, none⟩) (ns.length + 1) (ns.length + 1), .slice (some ⟨bL, 0, none⟩) (ns.length + 1) (ns.length + 1)]) hHeld ?_ ?_
          · intro V _; go_simp
          simp only [Act.put, sA, s0, sS]
          refine oneH 8 19 (.int .i64 0) hHeld ?_ ?_
          · intro V _; go_simp
          simp only [Act.put, sA, s0, sS]
          obtain ⟨z0, z1, z2, z3⟩ := sv_cells hfl
          obtain ⟨y0, y1, y2, y3⟩ := sv_free hfl
          refine wpAnyH_ready (rs := [10]) (by kernel_rfl) (by simp) ?_
          refine AllReadyH.cons rfl (fun K hK => ?_) AllReadyH.nil
          go_simp
          have H8 := hid (held8 (a := .slice o ns.length cap) (b := .slice (some ⟨bR, 0, none⟩) (ns.length + 1) (ns.length + 1)) (c := .slice (some ⟨bF, 0, none⟩) (ns.length + 1) (ns.length + 1)) (d := .slice (some ⟨bL, 0, none⟩) (ns.length + 1) (ns.length + 1)) HB_V4.out (show W0.heap.size ≤ V2.heap.size by omega) hfl)
          have HN8 := hid (nums_set4 (a := .slice o ns.length cap) (b := .slice (some ⟨bR, 0, none⟩) (ns.length + 1) (ns.length + 1)) (c := .slice (some ⟨bF, 0, none⟩) (ns.length + 1) (ns.length + 1)) (d := .slice (some ⟨bL, 0, none⟩) (ns.length + 1) (ns.length + 1)) hN2 hfl)
          refine hK.out _ _ H8.out.below (fun hHeld => ?_)
          clear hK K
          refine oneH 11 10 (.int .i64 0) hHeld ?_ ?_
          · intro V _; go_simp
          simp only [Act.put, sA, s0, sS]
          refine wpAnyH_done (by kernel_rfl) ?_ _
          go_wp2_with fail
          go_meet
          exact ⟨bR, bF, bL, _, rfl, rfl, H8.out, HN8.out⟩
      · go_simp
        have hfl := heap_new V1 (.cells #[.slice none 0 0, .slice none 0 0, .slice none 0 0, .slice none 0 0] 77)
        have hb : Below V1.heap.size V1 (V1.alloc (.cells #[.slice none 0 0, .slice none 0 0, .slice none 0 0, .slice none 0 0] 77)) := (Below.refl _ V1).alloc (Nat.le_refl _) _
        have hx2 := (Array.getElem?_eq_some_iff.1 hfl).1
        generalize V1.alloc (.cells #[.slice none 0 0, .slice none 0 0, .slice none 0 0, .slice none 0 0] 77) = V2 at *
        have HB_V2 := hid (HB_V1.out.trans (hb.mono HB_V1.out.size))
        have hz2 := HB_V2.out.size
        have hy2 := hb.size
        refine hK.out _ _ HB_V2.out (fun hHeld => ?_)
        clear hK K hb
        refine wpAnyH_ready (rs := [4]) (by kernel_rfl) (by simp) ?_
        refine AllReadyH.cons rfl (fun K hK => ?_) (AllReadyH.nil)
        go_simp
        have hnw := heap_new V2 (.cells #[.int .i64 h, .int .i64 0] 26)
        have hb : Below V2.heap.size V2 (V2.alloc (.cells #[.int .i64 h, .int .i64 0] 26)) := (Below.refl _ V2).alloc (Nat.le_refl _) _
        have hx3 := (Array.getElem?_eq_some_iff.1 hnw).1
        generalize V2.alloc (.cells #[.int .i64 h, .int .i64 0] 26) = V3 at *
        have HB_V3 := hid (HB_V2.out.trans (hb.mono HB_V2.out.size))
        have hz3 := HB_V3.out.size
        have hy3 := hb.size
        have hfl := blkLater hb hfl
        have r1 := one_rdH hnw
        refine hK.out _ _ HB_V3.out (fun hHeld => ?_)
        clear hK K hb
        refine wpAnyH_ready (rs := [5]) (by kernel_rfl) (by simp) ?_
        refine AllReadyH.cons rfl (fun K hK => ?_) (AllReadyH.nil)
        go_simp
        go_wp2_with (go_at_call 58; refine (HLk.out _ V3 (bx.trans (HB_V3.out.mono bx.size)) r1).mono ?_; rintro e V4 ⟨bR, bF, bL, rfl, hNm, hb⟩)
        have HB_V4 := hid (HB_V3.out.trans (hb.mono HB_V3.out.size))
        have hz4 := HB_V4.out.size
        have hy4 := hb.size
        have hfl := blkLater hb hfl
        have r1 := r1.later hb
        have hN2 := hNm
        refine hK.out _ _ HB_V4.out (fun hHeld => ?_)
        clear hK K hb
        refine oneH 6 11 (.tuple #[.agg #[.slice o ns.length cap, .slice (some ⟨bR, 0, none⟩) (ns.length + 1) (ns.length + 1), .slice (some ⟨bF, 0, none⟩) (ns.length + 1) (ns.length + 1), .slice (some ⟨bL, 0, none⟩) (ns.length + 1) (ns.length + 1)], .int .i64 0]) hHeld ?_ ?_
        · intro V _; go_simp
        simp only [Act.put, sA, s0, sS]
        refine oneH 7 18 (.agg #[.slice o ns.length cap, .slice (some ⟨bR, 0, none⟩) (ns.length + 1) (ns.length + 1), .slice (some ⟨bF, 0, none⟩) (ns.length + 1) (ns.length + 1), .slice (some ⟨bL, 0, none⟩) (ns.length + 1) (ns.length + 1)]) hHeld ?_ ?_
        · intro V _; go_simp
        simp only [Act.put, sA, s0, sS]
        refine oneH 8 19 (.int .i64 0) hHeld ?_ ?_
        · intro V _; go_simp
        simp only [Act.put, sA, s0, sS]
        obtain ⟨z0, z1, z2, z3⟩ := sv_cells hfl
        obtain ⟨y0, y1, y2, y3⟩ := sv_free hfl
        refine wpAnyH_ready (rs := [10]) (by kernel_rfl) (by simp) ?_
        refine AllReadyH.cons rfl (fun K hK => ?_) AllReadyH.nil
        go_simp
        have H8 := hid (held8 (a := .slice o ns.length cap) (b := .slice (some ⟨bR, 0, none⟩) (ns.length + 1) (ns.length + 1)) (c := .slice (some ⟨bF, 0, none⟩) (ns.length + 1) (ns.length + 1)) (d := .slice (some ⟨bL, 0, none⟩) (ns.length + 1) (ns.length + 1)) HB_V4.out (show W0.heap.size ≤ V1.heap.size by omega) hfl)
        have HN8 := hid (nums_set4 (a := .slice o ns.length cap) (b := .slice (some ⟨bR, 0, none⟩) (ns.length + 1) (ns.length + 1)) (c := .slice (some ⟨bF, 0, none⟩) (ns.length + 1) (ns.length + 1)) (d := .slice (some ⟨bL, 0, none⟩) (ns.length + 1) (ns.length + 1)) hN2 hfl)
        refine hK.out _ _ H8.out.below (fun hHeld => ?_)
        clear hK K
        refine oneH 11 10 (.int .i64 0) hHeld ?_ ?_
        · intro V _; go_simp
        simp only [Act.put, sA, s0, sS]
        refine wpAnyH_done (by kernel_rfl) ?_ _
        go_wp2_with fail
        go_meet
        exact ⟨bR, bF, bL, _, rfl, rfl, H8.out, HN8.out⟩
    · go_simp
      have hfl := heap_new V0 (.cells #[.slice none 0 0, .slice none 0 0, .slice none 0 0, .slice none 0 0] 77)
      have hb : Below V0.heap.size V0 (V0.alloc (.cells #[.slice none 0 0, .slice none 0 0, .slice none 0 0, .slice none 0 0] 77)) := (Below.refl _ V0).alloc (Nat.le_refl _) _
      have hx1 := (Array.getElem?_eq_some_iff.1 hfl).1
      generalize V0.alloc (.cells #[.slice none 0 0, .slice none 0 0, .slice none 0 0, .slice none 0 0] 77) = V1 at *
      have HB_V1 := hid (HB_V0.out.trans (hb.mono HB_V0.out.size))
      have hz1 := HB_V1.out.size
      have hy1 := hb.size
      refine hK.out _ _ HB_V1.out (fun hHeld => ?_)
      clear hK K hb
      refine wpAnyH_ready (rs := [3]) (by kernel_rfl) (by simp) ?_
      refine AllReadyH.cons rfl (fun K hK => ?_) (AllReadyH.nil)
      go_simp
      go_wp2_with (go_at_call 47; refine (HSt.out V1).mono ?_; rintro e V2 ⟨rfl, hb⟩)
      have HB_V2 := hid (HB_V1.out.trans (hb.mono HB_V1.out.size))
      have hz2 := HB_V2.out.size
      have hy2 := hb.size
      have hfl := blkLater hb hfl
      refine hK.out _ _ HB_V2.out (fun hHeld => ?_)
      clear hK K hb
      refine wpAnyH_ready (rs := [4]) (by kernel_rfl) (by simp) ?_
      refine AllReadyH.cons rfl (fun K hK => ?_) (AllReadyH.nil)
      go_simp
      have hnw := heap_new V2 (.cells #[.int .i64 h, .int .i64 0] 26)
      have hb : Below V2.heap.size V2 (V2.alloc (.cells #[.int .i64 h, .int .i64 0] 26)) := (Below.refl _ V2).alloc (Nat.le_refl _) _
      have hx3 := (Array.getElem?_eq_some_iff.1 hnw).1
      generalize V2.alloc (.cells #[.int .i64 h, .int .i64 0] 26) = V3 at *
      have HB_V3 := hid (HB_V2.out.trans (hb.mono HB_V2.out.size))
      have hz3 := HB_V3.out.size
      have hy3 := hb.size
      have hfl := blkLater hb hfl
      have r1 := one_rdH hnw
      refine hK.out _ _ HB_V3.out (fun hHeld => ?_)
      clear hK K hb
      refine wpAnyH_ready (rs := [5]) (by kernel_rfl) (by simp) ?_
      refine AllReadyH.cons rfl (fun K hK => ?_) (AllReadyH.nil)
      go_simp
      go_wp2_with (go_at_call 58; refine (HLk.out _ V3 (bx.trans (HB_V3.out.mono bx.size)) r1).mono ?_; rintro e V4 ⟨bR, bF, bL, rfl, hNm, hb⟩)
      have HB_V4 := hid (HB_V3.out.trans (hb.mono HB_V3.out.size))
      have hz4 := HB_V4.out.size
      have hy4 := hb.size
      have hfl := blkLater hb hfl
      have r1 := r1.later hb
      have hN2 := hNm
      refine hK.out _ _ HB_V4.out (fun hHeld => ?_)
      clear hK K hb
      refine oneH 6 11 (.tuple #[.agg #[.slice o ns.length cap, .slice (some ⟨bR, 0, none⟩) (ns.length + 1) (ns.length + 1), .slice (some ⟨bF, 0, none⟩) (ns.length + 1) (ns.length + 1), .slice (some ⟨bL, 0, none⟩) (ns.length + 1) (ns.length + 1)], .int .i64 0]) hHeld ?_ ?_
      · intro V _; go_simp
      simp only [Act.put, sA, s0, sS]
      refine oneH 7 18 (.agg #[.slice o ns.length cap, .slice (some ⟨bR, 0, none⟩) (ns.length + 1) (ns.length + 1), .slice (some ⟨bF, 0, none⟩) (ns.length + 1) (ns.length + 1), .slice (some ⟨bL, 0, none⟩) (ns.length + 1) (ns.length + 1)]) hHeld ?_ ?_
      · intro V _; go_simp
      simp only [Act.put, sA, s0, sS]
      refine oneH 8 19 (.int .i64 0) hHeld ?_ ?_
      · intro V _; go_simp
      simp only [Act.put, sA, s0, sS]
      obtain ⟨z0, z1, z2, z3⟩ := sv_cells hfl
      obtain ⟨y0, y1, y2, y3⟩ := sv_free hfl
      refine wpAnyH_ready (rs := [10]) (by kernel_rfl) (by simp) ?_
      refine AllReadyH.cons rfl (fun K hK => ?_) AllReadyH.nil
      go_simp
      have H8 := hid (held8 (a := .slice o ns.length cap) (b := .slice (some ⟨bR, 0, none⟩) (ns.length + 1) (ns.length + 1)) (c := .slice (some ⟨bF, 0, none⟩) (ns.length + 1) (ns.length + 1)) (d := .slice (some ⟨bL, 0, none⟩) (ns.length + 1) (ns.length + 1)) HB_V4.out (show W0.heap.size ≤ V0.heap.size by omega) hfl)
      have HN8 := hid (nums_set4 (a := .slice o ns.length cap) (b := .slice (some ⟨bR, 0, none⟩) (ns.length + 1) (ns.length + 1)) (c := .slice (some ⟨bF, 0, none⟩) (ns.length + 1) (ns.length + 1)) (d := .slice (some ⟨bL, 0, none⟩) (ns.length + 1) (ns.length + 1)) hN2 hfl)
      refine hK.out _ _ H8.out.below (fun hHeld => ?_)
      clear hK K
      refine oneH 11 10 (.int .i64 0) hHeld ?_ ?_
      · intro V _; go_simp
      simp only [Act.put, sA, s0, sS]
      refine wpAnyH_done (by kernel_rfl) ?_ _
      go_wp2_with fail
      go_meet
      exact ⟨bR, bF, bL, _, rfl, rfl, H8.out, HN8.out⟩
    --end slow
  case rest =>
    obtain ⟨bR, bF, bL, B, rfl, rfl, h8, hN⟩ := hcut
    obtain ⟨_, _, _, _, hag, hbox⟩ := h8.box
    simp only [Value.agg.injEq, Array.mk.injEq, List.cons.injEq, and_true] at hag
    obtain ⟨rfl, rfl, rfl, rfl⟩ := hag
    have hs8 := h8.below.size
    have hlB := h8.lt
    have hltB := (Array.getElem?_eq_some_iff.1 hbox).1
    have bc := bx.trans (h8.below.mono bx.size)
    have g1c := blkLater h8.below g1
    have H1 := hid (HCo.out bR bF bL)
    have H2 := hid (HH1.out bR bF bL)
    have H3 := hid (HH2.out bR bF bL)
    have HNl := hid hN
    clear HCo HH1 HH2 h8 hN n0 HLk a0 a1 a2 a3
    go_upto_region 4 with fail
    generalize hwc : wc = W1 at *
    clear hwc
    obtain ⟨n0, n1, n2, n3⟩ := sv_cells hbox
    obtain ⟨a0, a1, a2, a3⟩ := rng_cells g1c
    have hl1 := (Array.getElem?_eq_some_iff.1 g1c).1
    refine wp_region_held_drew (S := fun V => Below W1.heap.size W1 V) (by kernel_rfl) ((Below.refl _ _).drew) (fun hHeld => ?_)
    have HB_V0 := hid hHeld
    have HS_V0 := hid hHeld.size
    generalize W1.drew = V0 at *
    refine oneH 0 23 (.agg #[.slice o ns.length cap, .slice (some ⟨bR, 0, none⟩) (ns.length + 1) (ns.length + 1), .slice (some ⟨bF, 0, none⟩) (ns.length + 1) (ns.length + 1), .slice (some ⟨bL, 0, none⟩) (ns.length + 1) (ns.length + 1)]) hHeld ?_ ?_
    · intro V hSw; (try dsimp only at hSw); have k0 := cellLater (B := B) hSw (by omega) n0; have k1 := cellLater (B := B) hSw (by omega) n1; have k2 := cellLater (B := B) hSw (by omega) n2; have k3 := cellLater (B := B) hSw (by omega) n3; go_simp
    simp only [Act.put, sA, s0, sS]
    refine oneH 1 24 (.agg #[.int .i64 x, .int .i64 c, .int .i64 y, .int .i64 d]) hHeld ?_ ?_
    · intro V hSw; (try dsimp only at hSw); have k0 := cellLater (B := w.heap.size + 1) hSw (by omega) a0; have k1 := cellLater (B := w.heap.size + 1) hSw (by omega) a1; have k2 := cellLater (B := w.heap.size + 1) hSw (by omega) a2; have k3 := cellLater (B := w.heap.size + 1) hSw (by omega) a3; go_simp
    simp only [Act.put, sA, s0, sS]
    refine oneH 2 25 (.int .i64 h) hHeld ?_ ?_
    · intro V _; go_simp
    simp only [Act.put, sA, s0, sS]
    refine oneH 4 27 (.agg #[.slice o ns.length cap, .slice (some ⟨bR, 0, none⟩) (ns.length + 1) (ns.length + 1), .slice (some ⟨bF, 0, none⟩) (ns.length + 1) (ns.length + 1), .slice (some ⟨bL, 0, none⟩) (ns.length + 1) (ns.length + 1)]) hHeld ?_ ?_
    · intro V hSw; (try dsimp only at hSw); have k0 := cellLater (B := B) hSw (by omega) n0; have k1 := cellLater (B := B) hSw (by omega) n1; have k2 := cellLater (B := B) hSw (by omega) n2; have k3 := cellLater (B := B) hSw (by omega) n3; go_simp
    simp only [Act.put, sA, s0, sS]
    refine oneH 5 28 (.int .i64 h) hHeld ?_ ?_
    · intro V _; go_simp
    simp only [Act.put, sA, s0, sS]
    refine oneH 6 29 (.pointer (some ⟨w.heap.size + 1, 0, none⟩)) hHeld ?_ ?_
    · intro V _; go_simp
    simp only [Act.put, sA, s0, sS]
    refine oneH 7 30 (.pointer (some ⟨w.heap.size + 1, 0, none⟩)) hHeld ?_ ?_
    · intro V _; go_simp
    simp only [Act.put, sA, s0, sS]
    refine oneH 8 31 (.int .i64 x) hHeld ?_ ?_
    · intro V hSw; (try dsimp only at hSw); have k0 := cellLater (B := w.heap.size + 1) hSw (by omega) a0; go_simp
    simp only [Act.put, sA, s0, sS]
    refine oneH 10 33 (.agg #[.slice o ns.length cap, .slice (some ⟨bR, 0, none⟩) (ns.length + 1) (ns.length + 1), .slice (some ⟨bF, 0, none⟩) (ns.length + 1) (ns.length + 1), .slice (some ⟨bL, 0, none⟩) (ns.length + 1) (ns.length + 1)]) hHeld ?_ ?_
    · intro V hSw; (try dsimp only at hSw); have k0 := cellLater (B := B) hSw (by omega) n0; have k1 := cellLater (B := B) hSw (by omega) n1; have k2 := cellLater (B := B) hSw (by omega) n2; have k3 := cellLater (B := B) hSw (by omega) n3; go_simp
    simp only [Act.put, sA, s0, sS]
    refine oneH 11 34 (.int .i64 h) hHeld ?_ ?_
    · intro V _; go_simp
    simp only [Act.put, sA, s0, sS]
    refine oneH 12 35 (.pointer (some ⟨w.heap.size + 1, 2, none⟩)) hHeld ?_ ?_
    · intro V _; go_simp
    simp only [Act.put, sA, s0, sS]
    refine oneH 13 36 (.pointer (some ⟨w.heap.size + 1, 2, none⟩)) hHeld ?_ ?_
    · intro V _; go_simp
    simp only [Act.put, sA, s0, sS]
    refine oneH 14 37 (.int .i64 y) hHeld ?_ ?_
    · intro V hSw; (try dsimp only at hSw); have k0 := cellLater (B := w.heap.size + 1) hSw (by omega) a2; go_simp
    simp only [Act.put, sA, s0, sS]
    refine wpAnyH_ready (rs := [3]) (by kernel_rfl) (by simp) ?_
    refine AllReadyH.cons rfl (fun K hK => ?_) AllReadyH.nil
    go_simp
    go_wp2_with (go_at_call 62; refine (H1.out V0 (bc.trans (HB_V0.out.mono bc.size)) (HNl.out.later HB_V0.out)).mono ?_; rintro e V1 ⟨rfl, hb⟩; have HB_V1 := hid (HB_V0.out.trans (hb.mono HB_V0.out.size)); have HS_V1 := hid (HB_V1.out.size))
    refine hK.out _ _ HB_V1.out (fun hHeld => ?_)
    clear hK K
    refine wpAnyH_ready (rs := [9]) (by kernel_rfl) (by simp) ?_
    refine AllReadyH.cons rfl (fun K hK => ?_) AllReadyH.nil
    go_simp
    go_wp2_with (go_at_call 63; refine (H2.out V1 (HNl.out.later HB_V1.out)).mono ?_; rintro e V2 ⟨rfl, hb⟩; have HB_V2 := hid (HB_V1.out.trans (hb.mono HB_V1.out.size)); have HS_V2 := hid (HB_V2.out.size))
    refine hK.out _ _ HB_V2.out (fun hHeld => ?_)
    clear hK K
    refine wpAnyH_ready (rs := [15]) (by kernel_rfl) (by simp) ?_
    refine AllReadyH.cons rfl (fun K hK => ?_) AllReadyH.nil
    go_simp
    go_wp2_with (go_at_call 63; refine (H3.out V2 (HNl.out.later HB_V2.out)).mono ?_; rintro e V3 ⟨rfl, hb⟩; have HB_V3 := hid (HB_V2.out.trans (hb.mono HB_V2.out.size)); have HS_V3 := hid (HB_V3.out.size))
    refine hK.out _ _ HB_V3.out (fun hHeld => ?_)
    clear hK K
    refine oneH 16 39 (.bool (D1 != D2)) hHeld ?_ ?_
    · intro V _; go_simp; cases D1 <;> cases D2 <;> rfl
    simp only [Act.put, sA, s0, sS]
    refine oneH 17 6 (.bool CD) hHeld ?_ ?_
    · intro V _; go_simp
    simp only [Act.put, sA, s0, sS]
    refine oneH 18 7 (.bool (D1 != D2)) hHeld ?_ ?_
    · intro V _; go_simp
    simp only [Act.put, sA, s0, sS]
    refine oneH 19 8 (.int .i64 0) hHeld ?_ ?_
    · intro V _; go_simp
    simp only [Act.put, sA, s0, sS]
    refine wpAnyH_done (by kernel_rfl) ?_ _
    go_wp2_with fail
    exact bodyPost_ret (v := .tuple #[.bool CD, .bool (D1 != D2), .int .i64 0]) (by simp [results, Tryz.results24, go_sem]) rfl ⟨rfl, bc.trans (HB_V3.out.mono bc.size)⟩
end Go.Proofs.YtilacgcjbdkphaaGreat

