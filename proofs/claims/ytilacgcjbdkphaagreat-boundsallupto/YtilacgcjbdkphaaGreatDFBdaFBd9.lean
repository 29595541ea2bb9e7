/- bounds: Compare. -/
/- bounds: the points of a node, put behind a list (pointsOf). -/
import Derived.Test.YtilacgcjbdkphaaGreatDFBd3FBdp
namespace Go.Proofs.YtilacgcjbdkphaaGreat
open Go.RowKit Go.Lib

/-- Why two points can't be held against each other, and how they stand. -/
def bcmpE (ns : List NodeD) (p q : Int × Int) : Int := if lookE ns [p, q] = 0 then (if rootP ns p.1 = rootP ns q.1 then 0 else 18) else lookE ns [p, q]
def bcmpV (ns : List NodeD) (p q : Int × Int) : Int := if bcmpE ns p q = 0 then cmpI (posD ns p) (posD ns q) else 0
theorem lookE_zero {ns : List NodeD} {l : List (Int × Int)} (h : lookE ns l = 0) : RightF ns ∧ wrongD ns l = 0 := by
  unfold lookE at h
  split at h
  · rename_i hr
    exact ⟨(rightD_iff ns).1 hr, h⟩
  · simp at h
theorem cmp_pos {ns : List NodeD} {R F L : List Int} (h : RightF ns) (hN : NumL ns R F L) {p q : Int × Int} (hp : isPt ns p) (hq : isPt ns q) (e : rootP ns p.1 = rootP ns q.1) : cmpI (numD ns (fOf F) p) (numD ns (fOf F) q) = cmpI (posD ns p) (posD ns q) := by
  rw [(num_pos h h.oneOf hN.numF hp).1, (num_pos h h.oneOf hN.numF hq).1, e]
  unfold cmpI
  by_cases h1 : (posD ns p : Int) < posD ns q
  · rw [if_pos h1, if_pos (by omega)]
  · rw [if_neg h1, if_neg (by omega)]
    by_cases h2 : (posD ns q : Int) < posD ns p
    · rw [if_pos h2, if_pos (by omega)]
    · rw [if_neg h2, if_neg (by omega)]

set_option maxRecDepth 100000 in
set_option maxHeartbeats 8000000 in
theorem bCompare_any (o : Option Addr) (cap : Nat) (x c y d : Int) (ns : List NodeD) (w : World) (hF : FRd w o cap ns) (hkl : ∀ (i : Nat) (hi : i < ns.length), ns[i].kids.length ≤ 1099511627776) (hal : ∀ (i : Nat) (hi : i < ns.length), ns[i].attrs.length ≤ 1099511627776) :
    Calls Tryz.prog 11 #[.agg #[.slice o ns.length cap], bndV x c, bndV y d] w fun e w' => e = .returned (.tuple #[.int .i64 (bcmpV ns (x, c) (y, d)), .int .i64 (bcmpE ns (x, c) (y, d))]) ∧ Below w.heap.size w w' := by
  obtain ⟨bx, g0, g1, g2, sx⟩ := three_newB w (.cells #[.slice o ns.length cap] 24) (.cells #[.int .i64 x, .int .i64 c] 26) (.cells #[.int .i64 y, .int .i64 d] 26)
  have hbA : Below (((w.alloc (.cells #[.slice o ns.length cap] 24)).alloc (.cells #[.int .i64 x, .int .i64 c] 26)).alloc (.cells #[.int .i64 y, .int .i64 d] 26)).heap.size (((w.alloc (.cells #[.slice o ns.length cap] 24)).alloc (.cells #[.int .i64 x, .int .i64 c] 26)).alloc (.cells #[.int .i64 y, .int .i64 d] 26)) _ := (Below.refl _ _).alloc (Nat.le_refl _) (.cells #[.int .i64 x, .int .i64 c, .int .i64 y, .int .i64 d] 26)
  have hnw := heap_new (((w.alloc (.cells #[.slice o ns.length cap] 24)).alloc (.cells #[.int .i64 x, .int .i64 c] 26)).alloc (.cells #[.int .i64 y, .int .i64 d] 26)) (.cells #[.int .i64 x, .int .i64 c, .int .i64 y, .int .i64 d] 26)
  have hrd := two_rdB hnw
  have hFA := hF.later (bx.trans (hbA.mono bx.size))
  have Hbx := hid (bx.trans (hbA.mono bx.size))
  have HG0 := hid (blkLater hbA g0)
  have HG1 := hid (blkLater hbA g1)
  have HG2 := hid (blkLater hbA g2)
  rw [sx] at hrd
  by_cases hE : lookE ns [(x, c), (y, d)] = 0
  · obtain ⟨hR, hW⟩ := lookE_zero hE
    have hpts := wrongD_zero.1 hW
    have hp : isPt ns (x, c) := hpts _ (by simp)
    have hq : isPt ns (y, d) := hpts _ (by simp)
    have hL := bLooked_ok o cap _ _ ns _ hFA hkl hal hrd (by simp) hR hW
    obtain ⟨i, hi, rfl⟩ := there_idx hp.1
    obtain ⟨j, hj, rfl⟩ := there_idx hq.1
    obtain ⟨b, off, rfl, hFF⟩ := hF.at_ (by omega)
    have HOT : Hid (∀ (bR bF bL : Nat) (V : World), Below w.heap.size w V → NumsAt ns V bR bF bL → Calls Tryz.prog 42 #[numsV (some ⟨b, off, none⟩) cap ns.length bR bF bL (ns.length + 1), .int .i64 ((i : Int) + 1), .int .i64 ((j : Int) + 1)] V fun e w' => e = .returned (.bool (rootP ns ((i : Int) + 1) == rootP ns ((j : Int) + 1))) ∧ Below V.heap.size V w') := by
      intro bR bF bL V hV hN
      obtain ⟨R, F, L, hNl⟩ := hN.lists
      exact pOneTree_any _ cap bR bF bL i j ns R F L V hNl hi hj
    have HCm : Hid (rootP ns ((i : Int) + 1) = rootP ns ((j : Int) + 1) → ∀ (bR bF bL : Nat) (V : World), Below w.heap.size w V → NumsAt ns V bR bF bL → Calls Tryz.prog 43 #[numsV (some ⟨b, off, none⟩) cap ns.length bR bF bL (ns.length + 1), bndV ((i : Int) + 1) c, bndV ((j : Int) + 1) d] V fun e w' => e = .returned (.int .i64 (cmpI (posD ns ((i : Int) + 1, c)) (posD ns ((j : Int) + 1, d)))) ∧ Below V.heap.size V w') := by
      intro hr bR bF bL V hV hN
      obtain ⟨R, F, L, hNl⟩ := hN.lists
      rw [← cmp_pos hR hNl.num hp hq hr]
      exact pCompare_any b off cap bR bF bL i j c d ns R F L V hR (hFF.later hV) hNl hi hj hp hq
    have hEe : bcmpE ns ((i : Int) + 1, c) ((j : Int) + 1, d) = if rootP ns ((i : Int) + 1) = rootP ns ((j : Int) + 1) then 0 else 18 := by unfold bcmpE; rw [if_pos hE]
    by_cases hr : rootP ns ((i : Int) + 1) = rootP ns ((j : Int) + 1)
    · rw [if_pos hr] at hEe
      have hVe : bcmpV ns ((i : Int) + 1, c) ((j : Int) + 1, d) = cmpI (posD ns ((i : Int) + 1, c)) (posD ns ((j : Int) + 1, d)) := by unfold bcmpV; rw [if_pos hEe]
      rw [hEe, hVe]
      have hrb : (rootP ns ((i : Int) + 1) == rootP ns ((j : Int) + 1)) = true := beq_iff_eq.2 hr
      rw [hrb] at HOT
      have HCm2 := hid (HCm.out hr)
      have hsame : ((i : Int) + 1, c) = ((j : Int) + 1, d) → cmpI (posD ns ((i : Int) + 1, c)) (posD ns ((j : Int) + 1, d)) = 0 := fun e => by rw [e, cmpI_same]
      have HS := hid hsame
      clear HCm hEe hVe hr hrb hE hR hW hpts hp hq hF hFA hkl hal hi hj hFF bx hbA hnw g0 g1 g2 hrd hsame
      generalize cmpI (posD ns ((i : Int) + 1, c)) (posD ns ((j : Int) + 1, d)) = Z at *
      unfold bndV at *
      by_cases hs : ((i : Int) + 1, c) = ((j : Int) + 1, d)
      · have hz := HS.out hs
        subst hz
        simp only [Prod.mk.injEq] at hs
        obtain ⟨hs1, hs2⟩ := hs
        have hij : i = j := by omega
        subst hij hs2
        clear hs1
        go_enter Tryz.func11, Tryz.ntmps11
        go_wp2_with fail
        refine hL.mono ?_
        rintro e v1 ⟨bR, bF, bL, rfl, hN, hb1⟩
        unfold numsV at *
        have hbA : Below v1.heap.size v1 (v1.alloc (.cells #[.slice (some ⟨b, off, none⟩) ns.length cap, .slice (some ⟨bR, 0, none⟩) (ns.length + 1) (ns.length + 1), .slice (some ⟨bF, 0, none⟩) (ns.length + 1) (ns.length + 1), .slice (some ⟨bL, 0, none⟩) (ns.length + 1) (ns.length + 1)] 77)) := (Below.refl _ v1).alloc (Nat.le_refl _) _
        have hnx := heap_new v1 (.cells #[.slice (some ⟨b, off, none⟩) ns.length cap, .slice (some ⟨bR, 0, none⟩) (ns.length + 1) (ns.length + 1), .slice (some ⟨bF, 0, none⟩) (ns.length + 1) (ns.length + 1), .slice (some ⟨bL, 0, none⟩) (ns.length + 1) (ns.length + 1)] 77)
        have hB1 := Hbx.out.trans (hb1.mono Hbx.out.size)
        have hB2 := hB1.trans (hbA.mono hB1.size)
        have h1 := HOT.out bR bF bL _ hB2 (hN.later hbA)
        obtain ⟨a0, a1⟩ := bnd_cells (blkLater hbA (blkLater hb1 HG1.out))
        obtain ⟨e0, e1⟩ := bnd_cells (blkLater hbA (blkLater hb1 HG2.out))
        have HK1 := hid (blkLater hbA (blkLater hb1 HG1.out))
        have HK2 := hid (blkLater hbA (blkLater hb1 HG2.out))
        have HKx := hid hnx
        have HBB := hid hB2
        have HNN := hid (hN.later hbA)
        clear hL hN hb1 hbA hnx hB1 hB2 HOT
        go_wp2_with fail
        refine h1.mono ?_
        rintro e v2 ⟨rfl, hb2⟩
        obtain ⟨a0, a1⟩ := bnd_cells (blkLater hb2 HK1.out)
        obtain ⟨e0, e1⟩ := bnd_cells (blkLater hb2 HK2.out)
        obtain ⟨n0, n1, n2, n3⟩ := sv_cells (blkLater hb2 HKx.out)
        have HB3 := hid (HBB.out.trans (hb2.mono HBB.out.size))
        have HN3 := hid (HNN.out.later hb2)
        clear hb2 h1
        go_wp2
        go_ret2
        exact ⟨rfl, HB3.out⟩
      · by_cases hij : i = j
        · subst hij
          have hcd : (c == d) = false := beq_eq_false_iff_ne.2 fun e => hs (by rw [e])
          clear hs HS
          go_enter Tryz.func11, Tryz.ntmps11
          go_wp2_with fail
          refine hL.mono ?_
          rintro e v1 ⟨bR, bF, bL, rfl, hN, hb1⟩
          unfold numsV at *
          have hbA : Below v1.heap.size v1 (v1.alloc (.cells #[.slice (some ⟨b, off, none⟩) ns.length cap, .slice (some ⟨bR, 0, none⟩) (ns.length + 1) (ns.length + 1), .slice (some ⟨bF, 0, none⟩) (ns.length + 1) (ns.length + 1), .slice (some ⟨bL, 0, none⟩) (ns.length + 1) (ns.length + 1)] 77)) := (Below.refl _ v1).alloc (Nat.le_refl _) _
          have hnx := heap_new v1 (.cells #[.slice (some ⟨b, off, none⟩) ns.length cap, .slice (some ⟨bR, 0, none⟩) (ns.length + 1) (ns.length + 1), .slice (some ⟨bF, 0, none⟩) (ns.length + 1) (ns.length + 1), .slice (some ⟨bL, 0, none⟩) (ns.length + 1) (ns.length + 1)] 77)
          have hB1 := Hbx.out.trans (hb1.mono Hbx.out.size)
          have hB2 := hB1.trans (hbA.mono hB1.size)
          have h1 := HOT.out bR bF bL _ hB2 (hN.later hbA)
          obtain ⟨a0, a1⟩ := bnd_cells (blkLater hbA (blkLater hb1 HG1.out))
          obtain ⟨e0, e1⟩ := bnd_cells (blkLater hbA (blkLater hb1 HG2.out))
          have HK1 := hid (blkLater hbA (blkLater hb1 HG1.out))
          have HK2 := hid (blkLater hbA (blkLater hb1 HG2.out))
          have HKx := hid hnx
          have HBB := hid hB2
          have HNN := hid (hN.later hbA)
          clear hL hN hb1 hbA hnx hB1 hB2 HOT
          go_wp2_with fail
          refine h1.mono ?_
          rintro e v2 ⟨rfl, hb2⟩
          obtain ⟨a0, a1⟩ := bnd_cells (blkLater hb2 HK1.out)
          obtain ⟨e0, e1⟩ := bnd_cells (blkLater hb2 HK2.out)
          obtain ⟨n0, n1, n2, n3⟩ := sv_cells (blkLater hb2 HKx.out)
          have HB3 := hid (HBB.out.trans (hb2.mono HBB.out.size))
          have HN3 := hid (HNN.out.later hb2)
          clear hb2 h1
          have h3 := HCm2.out bR bF bL v2 HB3.out HN3.out
          go_wp2_with fail
          refine h3.mono ?_
          rintro e v3 ⟨rfl, hb3⟩
          have HB4 := hid (HB3.out.trans (hb3.mono HB3.out.size))
          clear hb3 h3
          go_wp2
          go_ret2
          exact ⟨rfl, HB4.out⟩
        · have hcd : (((i : Int) + 1) == ((j : Int) + 1)) = false := beq_eq_false_iff_ne.2 (by omega)
          clear hs HS hij
          go_enter Tryz.func11, Tryz.ntmps11
          go_wp2_with fail
          refine hL.mono ?_
          rintro e v1 ⟨bR, bF, bL, rfl, hN, hb1⟩
          unfold numsV at *
          have hbA : Below v1.heap.size v1 (v1.alloc (.cells #[.slice (some ⟨b, off, none⟩) ns.length cap, .slice (some ⟨bR, 0, none⟩) (ns.length + 1) (ns.length + 1), .slice (some ⟨bF, 0, none⟩) (ns.length + 1) (ns.length + 1), .slice (some ⟨bL, 0, none⟩) (ns.length + 1) (ns.length + 1)] 77)) := (Below.refl _ v1).alloc (Nat.le_refl _) _
          have hnx := heap_new v1 (.cells #[.slice (some ⟨b, off, none⟩) ns.length cap, .slice (some ⟨bR, 0, none⟩) (ns.length + 1) (ns.length + 1), .slice (some ⟨bF, 0, none⟩) (ns.length + 1) (ns.length + 1), .slice (some ⟨bL, 0, none⟩) (ns.length + 1) (ns.length + 1)] 77)
          have hB1 := Hbx.out.trans (hb1.mono Hbx.out.size)
          have hB2 := hB1.trans (hbA.mono hB1.size)
          have h1 := HOT.out bR bF bL _ hB2 (hN.later hbA)
          obtain ⟨a0, a1⟩ := bnd_cells (blkLater hbA (blkLater hb1 HG1.out))
          obtain ⟨e0, e1⟩ := bnd_cells (blkLater hbA (blkLater hb1 HG2.out))
          have HK1 := hid (blkLater hbA (blkLater hb1 HG1.out))
          have HK2 := hid (blkLater hbA (blkLater hb1 HG2.out))
          have HKx := hid hnx
          have HBB := hid hB2
          have HNN := hid (hN.later hbA)
          clear hL hN hb1 hbA hnx hB1 hB2 HOT
          go_wp2_with fail
          refine h1.mono ?_
          rintro e v2 ⟨rfl, hb2⟩
          obtain ⟨a0, a1⟩ := bnd_cells (blkLater hb2 HK1.out)
          obtain ⟨e0, e1⟩ := bnd_cells (blkLater hb2 HK2.out)
          obtain ⟨n0, n1, n2, n3⟩ := sv_cells (blkLater hb2 HKx.out)
          have HB3 := hid (HBB.out.trans (hb2.mono HBB.out.size))
          have HN3 := hid (HNN.out.later hb2)
          clear hb2 h1
          have h3 := HCm2.out bR bF bL v2 HB3.out HN3.out
          go_wp2_with fail
          refine h3.mono ?_
          rintro e v3 ⟨rfl, hb3⟩
          have HB4 := hid (HB3.out.trans (hb3.mono HB3.out.size))
          clear hb3 h3
          go_wp2
          go_ret2
          exact ⟨rfl, HB4.out⟩
    · rw [if_neg hr] at hEe
      have hVe : bcmpV ns ((i : Int) + 1, c) ((j : Int) + 1, d) = 0 := by unfold bcmpV; rw [if_neg (by rw [hEe]; decide)]
      rw [hEe, hVe]
      have hrb : (rootP ns ((i : Int) + 1) == rootP ns ((j : Int) + 1)) = false := beq_eq_false_iff_ne.2 hr
      rw [hrb] at HOT
      clear HCm hEe hVe hr hrb hE hR hW hpts hp hq hF hFA hkl hal hi hj hFF bx hbA hnw g0 g1 g2 hrd
      unfold bndV at *
      go_enter Tryz.func11, Tryz.ntmps11
      go_wp2_with fail
      refine hL.mono ?_
      rintro e v1 ⟨bR, bF, bL, rfl, hN, hb1⟩
      unfold numsV at *
      have hbA : Below v1.heap.size v1 (v1.alloc (.cells #[.slice (some ⟨b, off, none⟩) ns.length cap, .slice (some ⟨bR, 0, none⟩) (ns.length + 1) (ns.length + 1), .slice (some ⟨bF, 0, none⟩) (ns.length + 1) (ns.length + 1), .slice (some ⟨bL, 0, none⟩) (ns.length + 1) (ns.length + 1)] 77)) := (Below.refl _ v1).alloc (Nat.le_refl _) _
      have hnx := heap_new v1 (.cells #[.slice (some ⟨b, off, none⟩) ns.length cap, .slice (some ⟨bR, 0, none⟩) (ns.length + 1) (ns.length + 1), .slice (some ⟨bF, 0, none⟩) (ns.length + 1) (ns.length + 1), .slice (some ⟨bL, 0, none⟩) (ns.length + 1) (ns.length + 1)] 77)
      have hB1 := Hbx.out.trans (hb1.mono Hbx.out.size)
      have hB2 := hB1.trans (hbA.mono hB1.size)
      have h1 := HOT.out bR bF bL _ hB2 (hN.later hbA)
      obtain ⟨a0, a1⟩ := bnd_cells (blkLater hbA (blkLater hb1 HG1.out))
      obtain ⟨e0, e1⟩ := bnd_cells (blkLater hbA (blkLater hb1 HG2.out))
      have HK1 := hid (blkLater hbA (blkLater hb1 HG1.out))
      have HK2 := hid (blkLater hbA (blkLater hb1 HG2.out))
      have HKx := hid hnx
      have HBB := hid hB2
      have HNN := hid (hN.later hbA)
      clear hL hN hb1 hbA hnx hB1 hB2 HOT
      go_wp2_with fail
      refine h1.mono ?_
      rintro e v2 ⟨rfl, hb2⟩
      obtain ⟨a0, a1⟩ := bnd_cells (blkLater hb2 HK1.out)
      obtain ⟨e0, e1⟩ := bnd_cells (blkLater hb2 HK2.out)
      obtain ⟨n0, n1, n2, n3⟩ := sv_cells (blkLater hb2 HKx.out)
      have HB3 := hid (HBB.out.trans (hb2.mono HBB.out.size))
      have HN3 := hid (HNN.out.later hb2)
      clear hb2 h1
      go_wp2
      go_ret2
      exact ⟨rfl, HB3.out⟩
  · have hL := bLooked_err o cap _ _ ns _ hFA hkl hal hrd (by simp) hE
    have hEe : bcmpE ns (x, c) (y, d) = lookE ns [(x, c), (y, d)] := by unfold bcmpE; rw [if_neg hE]
    have hVe : bcmpV ns (x, c) (y, d) = 0 := by unfold bcmpV; rw [if_neg (by rw [hEe]; exact hE)]
    rw [hVe, hEe]
    have d0 : (lookE ns [(x, c), (y, d)] != 0) = true := by rw [bne, beq_eq_false_iff_ne.2 hE]; rfl
    generalize lookE ns [(x, c), (y, d)] = Z at *
    clear hE hEe hVe hF hFA hkl hal bx hbA hnw g0 g1 g2 hrd
    unfold bndV zeroV at *
    go_enter Tryz.func11, Tryz.ntmps11
    go_wp2_with fail
    refine hL.mono ?_
    rintro e v1 ⟨rfl, hb1⟩
    have HB := hid (Hbx.out.trans (hb1.mono Hbx.out.size))
    have HB2 : Hid (∀ ob, Below w.heap.size w (v1.alloc ob)) := fun ob => HB.out.alloc HB.out.size ob
    clear hb1 hL
    go_wp2
    go_ret2
    exact ⟨rfl, HB2.out _⟩
end Go.Proofs.YtilacgcjbdkphaaGreat

namespace Go.Proofs.YtilacgcjbdkphaaGreat
open Go.RowKit Go.Lib

/-- Is it no row of points? -/
def noPts (o : Obj) : Prop := ∀ cs fz, o ≠ .cells cs 26 fz
/-- All but rows of points is kept. -/
structure KeepP (W W' : World) : Prop where
  size : W.heap.size ≤ W'.heap.size
  blk : ∀ (k : Nat) (o : Obj), W.heap[k]? = some o → noPts o → W'.heap[k]? = some o
theorem KeepP.refl (W : World) : KeepP W W := ⟨Nat.le_refl _, fun _ _ h _ => h⟩
theorem KeepP.trans {A B C : World} (h : KeepP A B) (k : KeepP B C) : KeepP A C := ⟨Nat.le_trans h.size k.size, fun i o hi hn => k.blk i o (h.blk i o hi hn) hn⟩
theorem KeepP.later {A B : World} (h : Below A.heap.size A B) : KeepP A B := ⟨h.size, fun _ _ hi _ => blkLater h hi⟩
theorem KeepP.grown {A B : World} {base n : Nat} {v : Value} {xs : List Value} (hO : A.ownsRow base 26 2 v n xs) (h : A.grownBy B v.ownBlock) : KeepP A B := by
  refine ⟨h.size, fun k o hi hn => ?_⟩
  have hne : v.ownBlock ≠ some k := by
    obtain ⟨_, ⟨rfl, _⟩ | ⟨g, cap, cur, rfl, _, hh, _⟩⟩ := hO
    · intro hc; cases hc
    · intro hc
      have : g = k := by simpa [Value.ownBlock] using hc
      subst this
      rw [hh] at hi
      exact hn cur (0, 0) (Option.some.inj hi).symm
  exact (h.block k (Array.getElem?_eq_some_iff.1 hi).1 (by intro e; exact hne (by first | exact e | exact e.symm))).trans hi
theorem own_shapeB {W : World} {base size : Nat} {e : TypeId} {v : Value} {n : Nat} {xs : List Value} (h : W.ownsRow base e size v n xs) : ∃ o c, v = .slice o n c := by
  rcases h.2 with ⟨rfl, h0⟩ | ⟨g, cap, cur, rfl, _⟩
  · exact ⟨none, 0, by rw [h0]⟩
  · exact ⟨_, _, rfl⟩
theorem one_rdB (W : World) (x c : Int) : RdB (W.alloc (.cells #[.int .i64 x, .int .i64 c] 26)) (.slice (some ⟨W.heap.size, 0, none⟩) 1 1) [(x, c)] := by
  have h := heap_new W (.cells #[.int .i64 x, .int .i64 c] 26)
  obtain ⟨a, b⟩ := bnd_cells h
  refine ⟨_, 1, rfl, by simp, fun _ => ⟨W.heap.size, 0, rfl, (Array.getElem?_eq_some_iff.1 h).1, fun j hj => ?_⟩⟩
  match j, hj with
  | 0, _ => exact ⟨a, b⟩
/-- A point more. -/
theorem push_pt (W : World) (B : Nat) (v : Value) (done : List (Int × Int)) (x c : Int) (hown : W.ownsRow B 26 2 v done.length (rowP done)) (hB : B ≤ W.heap.size) (hn : done.length ≤ 1000000000) :
    ∃ o cp w', (∀ ty, (Builtin.append_ #[35, 35] ty #[v, .slice (some ⟨W.heap.size, 0, none⟩) 1 1]).run Tryz.prog (W.alloc (.cells #[.int .i64 x, .int .i64 c] 26)) = .ok (.slice o (done ++ [(x, c)]).length cp) w') ∧ w'.ownsRow B 26 2 (.slice o (done ++ [(x, c)]).length cp) (done ++ [(x, c)]).length (rowP (done ++ [(x, c)])) ∧ Below B W w' ∧ KeepP W w' := by
  have hA : Below W.heap.size W (W.alloc (.cells #[.int .i64 x, .int .i64 c] 26)) := (Below.refl _ W).alloc (Nat.le_refl _) _
  have hO := hown.alloc (.cells #[.int .i64 x, .int .i64 c] 26)
  obtain ⟨v', w', h1, h2, h3⟩ := run_append_rdB _ B v _ done [(x, c)] 0 hO (Nat.le_trans hB hA.size) (one_rdB W x c) (by simp; omega)
  obtain ⟨o, cp, rfl⟩ := own_shapeB h2
  exact ⟨o, cp, w', fun ty => h1, h2, (hA.mono hB).trans (below_grownB hO (Nat.le_trans hB hA.size) h3), (KeepP.later hA).trans (KeepP.grown hO h3)⟩
theorem noPts_of {cs : Array Value} {t : TypeId} {fz : Nat × Nat} (h : t ≠ 26) : noPts (.cells cs t fz) := fun cs' fz' e => by
  injection e with _ e2
  exact h e2
/-- The points of some kids. -/
theorem kidPts_append (P : Int → List (Int × Int)) (x : Int) : ∀ (a : List Int) (k : Int) (i : Nat), kidPts P x (a ++ [k]) i = kidPts P x a i ++ (P k ++ [(x, ((i + a.length : Nat) : Int) + 1)])
  | [], k, i => by simp [kidPts]
  | j :: a, k, i => by
    rw [List.cons_append, kidPts, kidPts_append P x a k (i + 1), kidPts, List.append_assoc, List.cons_append, List.length_cons, show i + 1 + a.length = i + (a.length + 1) by omega]

set_option maxRecDepth 100000 in
set_option maxHeartbeats 8000000 in
theorem pointsOf_any (b off cap B : Nat) (ns : List NodeD) (w : World) (hR : RightF ns) (hF : FAt w b off cap ns) (hwB : w.heap.size ≤ B) :
    ∀ (f : Nat) (x : Int) (v : Value) (done : List (Int × Int)) (W : World), thereB ns.length x = true → ns.length < f + (pathUp ns (parentD ns) x).length → done.length + szD ns x ≤ 1000000000 → Below w.heap.size w W → B ≤ W.heap.size → W.ownsRow B 26 2 v done.length (rowP done) →
      Calls Tryz.prog 50 #[.agg #[.slice (some ⟨b, off, none⟩) ns.length cap], .int .i64 x, v] W fun e W' => ∃ v', e = .returned v' ∧ W'.ownsRow B 26 2 v' (done ++ ptsD ns x).length (rowP (done ++ ptsD ns x)) ∧ Below B W W' ∧ KeepP W W' := by
  intro f
  induction f with
  | zero =>
    intro x v done W hx hf
    have := pathUp_len ns (parentD ns) hR.parentOK hR.ends x (.inr hx)
    omega
  | succ f ih =>
    intro x v done W hx hf hnd hB hBs hown
    have hle := hF.len
    obtain ⟨j, hj, rfl⟩ := there_idx hx
    have hkd : kidsD ns ((j : Int) + 1) = ns[j].kids := by unfold kidsD; rw [nodeOf_at ns j hj]
    have hdn : dataN ns ((j : Int) + 1) = ns[j].data.length := by unfold dataN; rw [nodeOf_at ns j hj]
    have hpc := pts_cons hR hx
    have hse := sz_eq hR hx
    rw [hkd, hdn] at hpc hse
    have HIH : Hid (∀ (y : Int) (v2 : Value) (done2 : List (Int × Int)) (V : World), y ∈ ns[j].kids → done2.length + szD ns y ≤ 1000000000 → Below w.heap.size w V → B ≤ V.heap.size → V.ownsRow B 26 2 v2 done2.length (rowP done2) → _) := fun y v2 done2 V hy => by
      obtain ⟨n, hn, hp⟩ := (hR.kids j hj).1 y hy
      obtain ⟨i, hi2, e, e2⟩ := nodeOf_idx hn
      have hyt : thereB ns.length y = true := by rw [e]; exact thereB_idx _ _ hi2
      have hpy : parentD ns y = (j : Int) + 1 := by rw [e, parentD_at ns i hi2, ← hp, ← e2]
      refine ih y v2 done2 V hyt ?_
      rw [pathUp_head hR hyt, hpy, List.length_cons]
      omega
    have hkl := hR.kids_lenB j hj
    have hdl := well_dataB (hR.well j hj)
    obtain ⟨T, hT⟩ : ∃ T, ptsD ns ((j : Int) + 1) = T := ⟨_, rfl⟩
    rw [hT] at hpc ⊢
    have HT := hid hpc
    have Hnd := hid hnd
    have Hse := hid hse
    obtain ⟨ov, cv, rfl⟩ := own_shapeB hown
    obtain ⟨Ls, hc, hd3, ha3, hk3⟩ := hF.at_ j hj
    obtain ⟨D, A, K⟩ := Ls
    simp only at hk3 hd3 ha3
    obtain ⟨oa, caa, rfl, _⟩ := ha3
    obtain ⟨od, cdd, rfl, hdcap, _⟩ := hd3
    obtain ⟨ok, ckk, rfl, hkcap, g⟩ := hk3
    obtain ⟨bx, g0, g1, sx⟩ := two_newB W (.cells #[.slice (some ⟨b, off, none⟩) ns.length cap] 24) (nodeO ns[j] (.slice od ns[j].data.length cdd) (.slice oa ns[j].attrs.length caa) (.slice ok ns[j].kids.length ckk))
    have hb1 : Below W.heap.size W (W.alloc (.cells #[.slice (some ⟨b, off, none⟩) ns.length cap] 24)) := (Below.refl _ W).alloc (Nat.le_refl _) _
    obtain ⟨n0, n1, n2, n3, n4, n5, n6, n7, n8, n9, n10, n11, n12, n13, n14, n15⟩ := hc.later hF.lt (hB.trans (hb1.mono hB.size))
    simp only at n6 n7 n9
    have q1 : (0 : Int) ≤ (j : Int) := by omega
    have q2 : (j : Int) < (ns.length : Int) := by omega
    have hO1 : _ := (hown.alloc (.cells #[.slice (some ⟨b, off, none⟩) ns.length cap] 24)).alloc (nodeO ns[j] (.slice od ns[j].data.length cdd) (.slice oa ns[j].attrs.length caa) (.slice ok ns[j].kids.length ckk))
    have HO1 := hid hO1
    have HB1 := hid (hB.trans (bx.mono hB.size))
    have HBs := hid hBs
    have HG := hid g
    have HG0 := hid g0
    have HG1 := hid g1
    have Hsx := hid sx
    have Hbx := hid bx
    have Hwb := hid hwB
    clear ih hR hF hf hc hkd hdn hx hT hown hB hO1 hb1 hpc hnd hse g0 g1 sx bx hwB g hBs
    unfold nodeO at *
    generalize ns[j] = nd at *
    go_enter Tryz.func50, Tryz.ntmps50
    go_upto_region 2 with fail
    generalize ((W.alloc (.cells #[.slice (some ⟨b, off, none⟩) ns.length cap] 24)).alloc (.cells #[.int .u8 (nd.kind : Int), .string nd.space, .string nd.pre, .string nd.loc, .string nd.pub, .string nd.sys, (.slice od nd.data.length cdd), (.slice oa nd.attrs.length caa), .int .i64 nd.parent, (.slice ok nd.kids.length ckk), .int .i64 nd.doc, .int .i64 nd.host, .int .i64 nd.shadow, .int .u8 (nd.mode : Int), .bool nd.manual, .bool nd.html] 64)) = W0 at *
    clear n0 n1 n2 n3 n4 n5 n6 n7 n8 n9 n10 n11 n12 n13 n14 n15
    have hSt := bStart_any ((j : Int) + 1) W0
    unfold bndV at hSt
    go_wp2_with fail
    refine hSt.mono ?_
    rintro e v1 ⟨rfl, hb1⟩
    have sx := Hsx.out
    have bx := Hbx.out
    have hBv : B ≤ v1.heap.size := Nat.le_trans HBs.out (Nat.le_trans bx.size hb1.size)
    obtain ⟨o1, c1, w1, e1, ho1, hbb1, hkp1⟩ := push_pt v1 B _ done ((j : Int) + 1) 0 (ownsRow_later HO1.out hb1) hBv (by have := Hnd.out; omega)
    have HR1 := hid ho1
    have E1 := hid e1
    clear e1
    have HBB1 : Hid (Below B W0 w1) := (hb1.mono (Nat.le_trans HBs.out bx.size)).trans hbb1
    have HKP1 := hid ((KeepP.later hb1).trans hkp1)
    clear hSt hb1 ho1 hbb1 hkp1 hBv HO1
    generalize hD1 : done ++ [((j : Int) + 1, (0 : Int))] = D1 at *
    have HD1 := hid hD1
    clear hD1
    have HKB : Hid (∀ V : World, KeepP W0 V → V.heap[W.heap.size]? = _ ∧ V.heap[W.heap.size + 1]? = _) := fun V hV => ⟨hV.blk _ _ HG0.out (noPts_of (by decide)), hV.blk _ _ HG1.out (noPts_of (by decide))⟩
    have p1 := HKB.out w1 HKP1.out
    obtain ⟨d6, d8, d9⟩ := node_boxB p1.2
    clear p1
    go_wp2_with (at_builtin; refine wpList_append_run _ rfl _ _ 35 35 rfl _ _ rfl rfl _ _ (E1.out _) ?_)
    go_loopw [25, 2] (fun t u wr => ∃ (k : Nat) (o2 : Option Addr) (c2 : Nat), k ≤ nd.data.length ∧ t = .int .i64 k ∧ u = .slice o2 (D1 ++ (List.range k).map (fun i : Nat => ((j : Int) + 1, (i : Int) + 1))).length c2 ∧ Hid (wr.ownsRow B 26 2 (.slice o2 (D1 ++ (List.range k).map (fun i : Nat => ((j : Int) + 1, (i : Int) + 1))).length c2) (D1 ++ (List.range k).map (fun i : Nat => ((j : Int) + 1, (i : Int) + 1))).length (rowP (D1 ++ (List.range k).map (fun i : Nat => ((j : Int) + 1, (i : Int) + 1))))) ∧ Hid (Below B W0 wr) ∧ Hid (KeepP W0 wr)) (fun t _ _ => nd.data.length - (RowKit.intOf t).toNat)
    case atStart =>
      have e0 : D1 ++ (List.range 0).map (fun i : Nat => ((j : Int) + 1, (i : Int) + 1)) = D1 := by simp
      exact ⟨0, o1, c1, Nat.zero_le _, rfl, by rw [e0], by rw [e0]; exact HR1, HBB1, HKP1⟩
    case round =>
      obtain ⟨k, o2, c2, hk, rfl, rfl, hO, hBB, hKP⟩ := hrel
      clear HR1 HBB1 HKP1 d6 d8 d9 E1
      have Hln : Hid (D1.length + k ≤ 1000000000) := by
        have := Hnd.out
        have := Hse.out
        have e := congrArg List.length HD1.out
        rw [List.length_append, List.length_singleton] at e
        show _ ≤ _
        omega
      by_cases hlt : k < nd.data.length
      · have q1 : (k : Int) < (nd.data.length : Int) := by omega
        have dl : decide ((k : Int) < (nd.data.length : Int)) = true := decide_eq_true q1
        obtain ⟨o3, c3, w3, e3, ho3, hbb3, hkp3⟩ := push_pt wr B _ _ ((j : Int) + 1) ((k : Int) + 1) hO.out (Nat.le_trans HBs.out (Nat.le_trans bx.size hBB.out.size)) (by rw [List.length_append, List.length_map, List.length_range]; exact Hln.out)
        have hsn : D1 ++ (List.range k).map (fun i : Nat => ((j : Int) + 1, (i : Int) + 1)) ++ [((j : Int) + 1, (k : Int) + 1)] = D1 ++ (List.range (k + 1)).map (fun i : Nat => ((j : Int) + 1, (i : Int) + 1)) := by rw [List.range_succ, List.map_append, List.append_assoc]; rfl
        rw [hsn] at e3 ho3
        have HO3 := hid ho3
        have E3 := hid e3
        clear e3
        have HBB3 := hid (hBB.out.trans hbb3)
        have HKP3 := hid (hKP.out.trans hkp3)
        clear hsn ho3 hbb3 hkp3 hO hBB hKP hdcap
        generalize D1 ++ (List.range k).map (fun i : Nat => ((j : Int) + 1, (i : Int) + 1)) = DK at *
        go_wp2_with (at_builtin; refine wpList_append_run _ rfl _ _ 35 35 rfl _ _ rfl rfl _ _ (E3.out _) ?_)
        go_roundw
        case rel => exact ⟨k + 1, o3, c3, by omega, by go_num, by simp, HO3, HBB3, HKP3⟩
        case measure => simp [RowKit.intOf]; omega
      · have hkn : k = nd.data.length := by omega
        subst hkn
        have dl : decide ((nd.data.length : Int) < (nd.data.length : Int)) = false := decide_eq_false (by omega)
        have HTT : Hid (D1 ++ (List.range nd.data.length).map (fun i : Nat => ((j : Int) + 1, (i : Int) + 1)) ++ kidPts (ptsD ns) ((j : Int) + 1) nd.kids 0 = done ++ T) := by
          show _ = _
          rw [← HD1.out, HT.out]
          simp
        have Hl2 : Hid ((D1 ++ (List.range nd.data.length).map (fun i : Nat => ((j : Int) + 1, (i : Int) + 1))).length + kidSum ns nd.kids ≤ 1000000000) := by
          have := Hnd.out
          have := Hse.out
          have e := congrArg List.length HD1.out
          rw [List.length_append, List.length_singleton] at e
          show _ ≤ _
          rw [List.length_append, List.length_map, List.length_range]
          omega
        generalize D1 ++ (List.range nd.data.length).map (fun i : Nat => ((j : Int) + 1, (i : Int) + 1)) = D2 at *
        obtain ⟨d6, d8, d9⟩ := node_boxB (HKB.out wr hKP.out).2
        have HO2 := hO
        have HBB2 := hBB
        have HKP2 := hKP
        clear hO hBB hKP Hln
        go_wp2
        go_loopw [39, 2] (fun t u wr => ∃ (k : Nat) (o2 : Option Addr) (c2 : Nat), k ≤ nd.kids.length ∧ t = .int .i64 k ∧ u = .slice o2 (D2 ++ kidPts (ptsD ns) ((j : Int) + 1) (nd.kids.take k) 0).length c2 ∧ Hid (wr.ownsRow B 26 2 (.slice o2 (D2 ++ kidPts (ptsD ns) ((j : Int) + 1) (nd.kids.take k) 0).length c2) (D2 ++ kidPts (ptsD ns) ((j : Int) + 1) (nd.kids.take k) 0).length (rowP (D2 ++ kidPts (ptsD ns) ((j : Int) + 1) (nd.kids.take k) 0))) ∧ Hid (Below B W0 wr) ∧ Hid (KeepP W0 wr)) (fun t _ _ => nd.kids.length - (RowKit.intOf t).toNat)
        case atStart =>
          have e0 : D2 ++ kidPts (ptsD ns) ((j : Int) + 1) (nd.kids.take 0) 0 = D2 := by rw [List.take_zero, kidPts, List.append_nil]
          exact ⟨0, o2, c2, Nat.zero_le _, rfl, by rw [e0], by rw [e0]; exact HO2, HBB2, HKP2⟩
        case round =>
          obtain ⟨k, o4, c4, hk, rfl, rfl, hO, hBB, hKP⟩ := hrel
          clear HO2 HBB2 HKP2 d6 d8 d9 dl
          have hBs2 : B ≤ wr.heap.size := Nat.le_trans HBs.out (Nat.le_trans bx.size hBB.out.size)
          have hBw := HB1.out.trans (hBB.out.mono Hwb.out)
          have c0 := (box_cell_l (HKB.out wr hKP.out).1).1
          by_cases hlt : k < nd.kids.length
          · obtain ⟨bk, offk, rfl, hltk, hak⟩ := HG.out (by omega)
            have x1 := cellLater hBw hltk (hak k hlt)
            have htk : nd.kids.take (k + 1) = nd.kids.take k ++ [nd.kids[k]] := by rw [List.take_add_one, List.getElem?_eq_getElem hlt]; rfl
            have hsm : kidSum ns (nd.kids.take k) + (szD ns nd.kids[k] + 1) ≤ kidSum ns nd.kids := by
              have h1 : kidSum ns (nd.kids.take (k + 1)) + kidSum ns (nd.kids.drop (k + 1)) = kidSum ns nd.kids := by rw [← kidSum_append, List.take_append_drop]
              rw [htk, kidSum_append, kidSum_cons] at h1
              omega
            have hl3 : (D2 ++ kidPts (ptsD ns) ((j : Int) + 1) (nd.kids.take k) 0).length + (szD ns nd.kids[k] + 1) ≤ 1000000000 := by
              rw [List.length_append, kidPts_len]
              have := Hl2.out
              omega
            have hCall := HIH.out nd.kids[k] _ _ wr (List.getElem_mem hlt) (by omega) hBw hBs2 hO.out
            have hkp := kidPts_append (ptsD ns) ((j : Int) + 1) (nd.kids.take k) nd.kids[k] 0
            rw [← htk, List.length_take, Nat.min_eq_left (by omega), Nat.zero_add] at hkp
            have Hkp := hid hkp
            have Hl3 := hid hl3
            have p1 : (0 : Int) ≤ (k : Int) := by omega
            have p2 : (k : Int) < (nd.kids.length : Int) := by omega
            have dl : decide ((k : Int) < (nd.kids.length : Int)) = true := decide_eq_true p2
            simp only [List.length_append] at hCall
            clear hak HIH htk hsm hl3 hkp hBw
            have Hsz : Hid (szD ns nd.kids[k] = (ptsD ns nd.kids[k]).length) := rfl
            generalize nd.kids[k] = y at *
            go_wp2_with fail
            refine hCall.mono ?_
            rintro e v2 ⟨vx, rfl, hox', hbx, hkx⟩
            have hox : v2.ownsRow B 26 2 vx (D2 ++ kidPts (ptsD ns) ((j : Int) + 1) (nd.kids.take k) 0 ++ ptsD ns y).length (rowP (D2 ++ kidPts (ptsD ns) ((j : Int) + 1) (nd.kids.take k) 0 ++ ptsD ns y)) := by
              simp only [List.length_append]
              exact hox'
            clear hox'
            obtain ⟨o5, c5, rfl⟩ := own_shapeB hox
            obtain ⟨o6, c6, w6, e6, ho6, hbb6, hkp6⟩ := push_pt v2 B _ _ ((j : Int) + 1) ((k : Int) + 1) hox (Nat.le_trans hBs2 hbx.size) (by rw [List.length_append]; have := Hl3.out; have := Hsz.out; omega)
            have hsn : D2 ++ kidPts (ptsD ns) ((j : Int) + 1) (nd.kids.take k) 0 ++ ptsD ns y ++ [((j : Int) + 1, (k : Int) + 1)] = D2 ++ kidPts (ptsD ns) ((j : Int) + 1) (nd.kids.take (k + 1)) 0 := by rw [Hkp.out]; simp
            rw [hsn] at e6 ho6
            have HO6 := hid ho6
            have E6 := hid e6
            clear e6
            have HBB6 := hid (hBB.out.trans (hbx.trans hbb6))
            have HKP6 := hid (hKP.out.trans (hkx.trans hkp6))
            clear hsn ho6 hbb6 hkp6 hox hbx hkx hO hBB hKP hCall c0 x1
            generalize D2 ++ kidPts (ptsD ns) ((j : Int) + 1) (nd.kids.take k) 0 ++ ptsD ns y = DK at *
            go_wp2_with (at_builtin; refine wpList_append_run _ rfl _ _ 35 35 rfl _ _ rfl rfl _ _ (E6.out _) ?_)
            go_roundw
            case rel => exact ⟨k + 1, o6, c6, by omega, by go_num, by simp, HO6, HBB6, HKP6⟩
            case measure => simp [RowKit.intOf]; omega
          · have hkn : k = nd.kids.length := by omega
            subst hkn
            rw [List.take_length, HTT.out] at hO
            have dl : decide ((nd.kids.length : Int) < (nd.kids.length : Int)) = false := decide_eq_false (by omega)
            have HBf : Hid (Below B W wr) := (bx.mono HBs.out).trans hBB.out
            have HKf : Hid (KeepP W wr) := (KeepP.later bx).trans hKP.out
            have el : (D2 ++ kidPts (ptsD ns) ((j : Int) + 1) (nd.kids.take nd.kids.length) 0).length = (done ++ T).length := by rw [List.take_length, HTT.out]
            rw [el]
            have HOf := hO
            clear hO hBB hKP c0 el
            go_wp2
            go_ret
            exact ⟨_, rfl, HOf.out, HBf.out, HKf.out⟩
end Go.Proofs.YtilacgcjbdkphaaGreat

