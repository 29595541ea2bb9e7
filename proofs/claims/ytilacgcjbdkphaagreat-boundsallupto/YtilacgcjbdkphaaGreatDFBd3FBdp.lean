/- points: what numbers tell (Length, Number, Compare, OneTree, Holds, Valid, Contained, Wrong). -/
/- points: Compare, Contained, Valid, Wrong. -/
/- points: Valid, Wrong. -/
/- slices.Grow at nothing and slices.Concat, at points; points put behind a row of one's own. -/
/- bounds: start, end, looked. -/
/- bounds: settled. -/
/- Points: what lies in a range, by numbers and by places: plain. -/
import Derived.Test.YtilacgcjbdkphaaGreatDFBd0FBd2
import Derived.Test.YtilacgcjbdkphaaGreatDFSkipHFInts
import Derived.BigQuiet
import Derived.Lib.AppendZerosOnto
import Derived.Deep.AppendSrc
import Derived.Deep.DeepAppendWide
namespace Go.Proofs.YtilacgcjbdkphaaGreat
open Go.RowKit Go.Lib

/-- The numbers, list by list. -/
structure NumsL (ns : List NodeD) (W : World) (bR bF bL : Nat) (R F L : List Int) : Prop where
  iR : IntsAt W bR R
  iF : IntsAt W bF F
  iL : IntsAt W bL L
  lR : R.length = ns.length + 1
  lF : F.length = ns.length + 1
  lL : L.length = ns.length + 1
  num : NumL ns R F L
theorem NumsAt.lists {ns : List NodeD} {W : World} {bR bF bL : Nat} (h : NumsAt ns W bR bF bL) : ∃ R F L, NumsL ns W bR bF bL R F L := by
  obtain ⟨R, F, L, a, b, c, d, e, f, g⟩ := h
  exact ⟨R, F, L, a, b, c, d, e, f, g⟩
theorem NumsL.later {ns : List NodeD} {w W : World} {bR bF bL : Nat} {R F L : List Int} (h : NumsL ns w bR bF bL R F L) (hb : Below w.heap.size w W) : NumsL ns W bR bF bL R F L := ⟨h.iR.later hb, h.iF.later hb, h.iL.later hb, h.lR, h.lF, h.lL, h.num⟩
/-- The number of a node's first point. -/
def fOf (F : List Int) (y : Int) : Int := F.getD y.toNat 0
theorem NumL.numF {ns : List NodeD} {R F L : List Int} (h : NumL ns R F L) : Num ns (fOf F) := h.num
def bndV (x o : Int) : Value := .agg #[.int .i64 x, .int .i64 o]

set_option maxRecDepth 100000 in
set_option maxHeartbeats 4000000 in
theorem pLength_any (b off cap bR bF bL N j : Nat) (ns : List NodeD) (w : World) (hR : RightF ns) (hF : FAt w b off cap ns) (hj : j < ns.length) :
    Calls Tryz.prog 90 #[numsV (some ⟨b, off, none⟩) cap ns.length bR bF bL N, .int .i64 ((j : Int) + 1)] w fun e w' => e = .returned (.int .i64 ((lengthD ns[j] : Nat) : Int)) ∧ Below w.heap.size w w' := by
  have hle := hF.len
  have hkl := hR.kids_lenB j hj
  have hdl := well_dataB (hR.well j hj)
  obtain ⟨Ls, hc, hd3, ha3, hk3⟩ := hF.at_ j hj
  obtain ⟨D, A, K⟩ := Ls
  simp only at hk3 hd3 ha3
  obtain ⟨oa, caa, rfl, _⟩ := ha3
  obtain ⟨od, cdd, rfl, _⟩ := hd3
  obtain ⟨ok, ckk, rfl, _⟩ := hk3
  obtain ⟨n0, n1, n2, n3, n4, n5, n6, n7, n8, n9, n10, n11, n12, n13, n14, n15⟩ := hc.later hF.lt ((Below.refl _ w).alloc (Nat.le_refl _) (numsO (some ⟨b, off, none⟩) cap ns.length bR bF bL N))
  simp only at n6 n7 n9
  have q1 : (0 : Int) ≤ (j : Int) := by omega
  have q2 : (j : Int) < (ns.length : Int) := by omega
  have f1 : IntKind.i64.wrap ((ns[j].kids.length : Int) + (ns[j].data.length : Int)) = ((lengthD ns[j] : Nat) : Int) := by
    rw [wrap_smallB (by omega) (by omega)]
    unfold lengthD
    omega
  have HB : Hid (∀ o2 : Obj, Below w.heap.size w ((w.alloc (numsO (some ⟨b, off, none⟩) cap ns.length bR bF bL N)).alloc o2)) := fun o2 => ((Below.refl _ w).alloc (Nat.le_refl _) _).alloc (by simp) _
  clear hF hR hc hkl hdl
  unfold numsV
  unfold numsO at *
  generalize lengthD ns[j] = Z at *
  generalize ns[j] = nd at *
  go_enter Tryz.func90, Tryz.ntmps90
  go_wp2
  go_ret
  exact ⟨rfl, HB.out _⟩

theorem nums_cells {ns : List NodeD} {W : World} {g : Nat} {A : List Int} (h : IntsAt W g A) (hl : A.length = ns.length + 1) (j : Nat) (hj : j < ns.length) : W.cell? ⟨g, j + 1, none⟩ = some (.int .i64 (A.getD ((j : Int) + 1).toNat 0)) := by
  have := h.cell (j + 1) (by omega)
  rw [show ((j : Int) + 1).toNat = j + 1 by omega]
  exact this

set_option maxRecDepth 100000 in
set_option maxHeartbeats 4000000 in
theorem pOneTree_any (o : Option Addr) (cap bR bF bL i j : Nat) (ns : List NodeD) (R F L : List Int) (w : World) (hn : NumsL ns w bR bF bL R F L) (hi : i < ns.length) (hj : j < ns.length) :
    Calls Tryz.prog 42 #[numsV o cap ns.length bR bF bL (ns.length + 1), .int .i64 ((i : Int) + 1), .int .i64 ((j : Int) + 1)] w fun e w' => e = .returned (.bool (rootP ns ((i : Int) + 1) == rootP ns ((j : Int) + 1))) ∧ Below w.heap.size w w' := by
  have hbx : Below w.heap.size w (w.alloc (numsO o cap ns.length bR bF bL (ns.length + 1))) := (Below.refl _ w).alloc (Nat.le_refl _) _
  have x1 := nums_cells (hn.iR.later hbx) hn.lR i hi
  have x2 := nums_cells (hn.iR.later hbx) hn.lR j hj
  rw [hn.num.root _ (there_of hi)] at x1
  rw [hn.num.root _ (there_of hj)] at x2
  have HB := hid hbx
  have q1 : (0 : Int) ≤ (i : Int) + 1 := by omega
  have q2 : (i : Int) + 1 < ((ns.length + 1 : Nat) : Int) := by omega
  have q3 : (0 : Int) ≤ (j : Int) + 1 := by omega
  have q4 : (j : Int) + 1 < ((ns.length + 1 : Nat) : Int) := by omega
  have q5 : ((i : Int) + 1).toNat = i + 1 := by omega
  have q6 : ((j : Int) + 1).toNat = j + 1 := by omega
  clear hbx hn hi hj
  unfold numsV
  unfold numsO at *
  generalize ns.length + 1 = N at *
  generalize rootP ns ((i : Int) + 1) = A at *
  generalize rootP ns ((j : Int) + 1) = B at *
  go_enter Tryz.func42, Tryz.ntmps42
  go_upto_region 1 with fail
  go_quiet (fail)
  go_wp2
  go_ret
  exact ⟨rfl, HB.out.trans (drewN_below _ _ _)⟩

set_option maxRecDepth 100000 in
set_option maxHeartbeats 4000000 in
theorem pHolds_any (o : Option Addr) (cap bR bF bL i j : Nat) (ns : List NodeD) (R F L : List Int) (w : World) (hR : RightF ns) (hn : NumsL ns w bR bF bL R F L) (hi : i < ns.length) (hj : j < ns.length) :
    Calls Tryz.prog 63 #[numsV o cap ns.length bR bF bL (ns.length + 1), .int .i64 ((i : Int) + 1), .int .i64 ((j : Int) + 1)] w fun e w' => e = .returned (.bool (decide (((j : Int) + 1) ∈ allD ns ((i : Int) + 1)))) ∧ Below w.heap.size w w' := by
  have hbx : Below w.heap.size w (w.alloc (numsO o cap ns.length bR bF bL (ns.length + 1))) := (Below.refl _ w).alloc (Nat.le_refl _) _
  have x1 := nums_cells (hn.iF.later hbx) hn.lF i hi
  have x2 := nums_cells (hn.iF.later hbx) hn.lF j hj
  have x3 := nums_cells (hn.iL.later hbx) hn.lL i hi
  have x4 := nums_cells (hn.iL.later hbx) hn.lL j hj
  rw [hn.num.last _ (there_of hi)] at x3
  rw [hn.num.last _ (there_of hj)] at x4
  have hh := num_holds hR hR.oneOf hn.num.numF (there_of hi) (there_of hj)
  have hA : decide (((j : Int) + 1) ∈ allD ns ((i : Int) + 1)) = (decide (F.getD ((i : Int) + 1).toNat 0 ≤ F.getD ((j : Int) + 1).toNat 0) && decide (F.getD ((j : Int) + 1).toNat 0 + (szD ns ((j : Int) + 1) : Int) - 1 ≤ F.getD ((i : Int) + 1).toNat 0 + (szD ns ((i : Int) + 1) : Int) - 1)) := by
    unfold fOf at hh
    by_cases hm : ((j : Int) + 1) ∈ allD ns ((i : Int) + 1)
    · obtain ⟨h1, h2⟩ := hh.2 hm
      rw [decide_eq_true hm, decide_eq_true h1, decide_eq_true (by omega)]
      rfl
    · rw [decide_eq_false hm]
      by_cases h1 : F.getD ((i : Int) + 1).toNat 0 ≤ F.getD ((j : Int) + 1).toNat 0
      · rw [decide_eq_true h1, decide_eq_false (fun h2 => hm (hh.1 ⟨h1, by omega⟩))]
        rfl
      · rw [decide_eq_false h1]
        rfl
  rw [hA]
  have HB := hid hbx
  have q1 : (0 : Int) ≤ (i : Int) + 1 := by omega
  have q2 : (i : Int) + 1 < ((ns.length + 1 : Nat) : Int) := by omega
  have q3 : (0 : Int) ≤ (j : Int) + 1 := by omega
  have q4 : (j : Int) + 1 < ((ns.length + 1 : Nat) : Int) := by omega
  have q5 : ((i : Int) + 1).toNat = i + 1 := by omega
  have q6 : ((j : Int) + 1).toNat = j + 1 := by omega
  clear hbx hn hi hj hh hA hR
  unfold numsV
  unfold numsO at *
  generalize ns.length + 1 = N at *
  generalize F.getD ((i : Int) + 1).toNat 0 + (szD ns ((i : Int) + 1) : Int) - 1 = C at *
  generalize F.getD ((j : Int) + 1).toNat 0 + (szD ns ((j : Int) + 1) : Int) - 1 = D at *
  generalize F.getD ((i : Int) + 1).toNat 0 = A at *
  generalize F.getD ((j : Int) + 1).toNat 0 = B at *
  cases d1 : decide (A ≤ B) with
  | true =>
    go_enter Tryz.func63, Tryz.ntmps63
    go_upto_region 1 with fail
    go_quiet (fail)
    go_wp2
    go_ret
    exact ⟨rfl, HB.out.trans (drewN_below _ _ _)⟩
  | false =>
    go_enter Tryz.func63, Tryz.ntmps63
    go_upto_region 1 with fail
    go_quiet (fail)
    go_wp2
    go_ret
    exact ⟨rfl, HB.out.trans (drewN_below _ _ _)⟩

set_option maxRecDepth 100000 in
set_option maxHeartbeats 8000000 in
theorem pNumber_any (b off cap bR bF bL j : Nat) (c : Int) (ns : List NodeD) (R F L : List Int) (w : World) (hR : RightF ns) (hF : FAt w b off cap ns) (hn : NumsL ns w bR bF bL R F L) (hj : j < ns.length) (hp : isPt ns ((j : Int) + 1, c)) :
    Calls Tryz.prog 48 #[numsV (some ⟨b, off, none⟩) cap ns.length bR bF bL (ns.length + 1), bndV ((j : Int) + 1) c] w fun e w' => e = .returned (.int .i64 (numD ns (fOf F) ((j : Int) + 1, c))) ∧ Below w.heap.size w w' := by
  have hle := hF.len
  have hkl := hR.kids_lenB j hj
  have hkd : kidsD ns ((j : Int) + 1) = ns[j].kids := by unfold kidsD; rw [nodeOf_at ns j hj]
  have hlen : lenN ns ((j : Int) + 1) = lengthD ns[j] := lenN_at j hj
  have hdl := well_dataB (hR.well j hj)
  have hone := hR.oneOf _ (there_of hj)
  obtain ⟨_, hp0, hp1⟩ := hp
  simp only at hp0 hp1
  have hlo := hn.num.low _ (there_of hj)
  have hhi := hn.num.high _ (there_of hj)
  obtain ⟨bx, g0, g1, sx⟩ := two_newB w (numsO (some ⟨b, off, none⟩) cap ns.length bR bF bL (ns.length + 1)) (.cells #[.int .i64 ((j : Int) + 1), .int .i64 c] 26)
  obtain ⟨Ls, hc, _, _, hk3⟩ := hF.at_ j hj
  obtain ⟨D, A, K⟩ := Ls
  simp only at hk3
  have n9 := (hc.later hF.lt bx).kids
  simp only at n9
  obtain ⟨ok, ckk, rfl, hkcap, g⟩ := hk3
  have x1 := nums_cells (hn.iF.later bx) hn.lF j hj
  have q1 : (0 : Int) ≤ (j : Int) := by omega
  have q2 : (j : Int) < (ns.length : Int) := by omega
  have q3 : (0 : Int) ≤ (j : Int) + 1 := by omega
  have q4 : (j : Int) + 1 < ((ns.length + 1 : Nat) : Int) := by omega
  have q5 : ((j : Int) + 1).toNat = j + 1 := by omega
  have HB := hid bx
  have Hn := hid hn
  have HR := hid hR
  have Hkd := hid hkd
  by_cases hz : c = 0
  · subst hz
    rw [numD_zero]
    have f1 : IntKind.i64.wrap (F.getD ((j : Int) + 1).toNat 0) = fOf F ((j : Int) + 1) := by
      rw [wrap_smallB (by omega) (by omega)]
      rfl
    clear hn hR hF hkd hlen hone hc bx g0 g1 sx g hlo hhi hp0 hp1 hkl hdl
    unfold numsV bndV
    unfold numsO at *
    generalize ns.length + 1 = N at *
    generalize fOf F ((j : Int) + 1) = Z at *
    generalize F.getD ((j : Int) + 1).toNat 0 = Y at *
    generalize ns[j].kids = ks at *
    go_enter Tryz.func48, Tryz.ntmps48
    go_upto_region 3 with fail
    go_quiet (fail)
    go_wp2
    go_ret
    exact ⟨rfl, HB.out.trans (drewN_below _ _ _)⟩
  · have dz : (c == 0) = false := beq_eq_false_iff_ne.2 hz
    by_cases hke : ns[j].kids = []
    · rw [numD_data (hkd.trans hke)]
      have hsz := sz_eq hR (there_of hj)
      have e2 : lengthD ns[j] = ns[j].data.length := by unfold lengthD; rw [hke]; simp
      have e3 : dataN ns ((j : Int) + 1) = ns[j].data.length := by unfold dataN; rw [nodeOf_at ns j hj]
      have f1 : IntKind.i64.wrap (F.getD ((j : Int) + 1).toNat 0 + c) = fOf F ((j : Int) + 1) + c := by
        rw [wrap_smallB (by omega) (by omega)]
        rfl
      have dk : (((ns[j].kids.length : Nat) : Int) == 0) = true := by rw [hke]; rfl
      clear hn hR hF hkd hlen hone hc bx g0 g1 sx g hlo hhi hp0 hp1 hkl hdl hke hsz e2 e3 hz
      unfold numsV bndV
      unfold numsO at *
      generalize ns.length + 1 = N at *
      generalize fOf F ((j : Int) + 1) + c = Z at *
      generalize F.getD ((j : Int) + 1).toNat 0 = Y at *
      generalize ns[j].kids = ks at *
      go_enter Tryz.func48, Tryz.ntmps48
      go_upto_region 3 with fail
      go_quiet (fail)
      go_wp2
      go_ret
      exact ⟨rfl, HB.out.trans (drewN_below _ _ _)⟩
    · have hd0 : dataN ns ((j : Int) + 1) = 0 := by
        rcases hone with a | a
        · exact absurd (hkd.symm.trans a) hke
        · exact a
      have e4 : lenN ns ((j : Int) + 1) = ns[j].kids.length := by unfold lenN; rw [hkd, hd0]; rfl
      have hkp : 0 < ns[j].kids.length := List.length_pos_iff.2 hke
      obtain ⟨d, rfl⟩ : ∃ d : Nat, c = (d : Int) + 1 := ⟨(c - 1).toNat, by omega⟩
      have hcm : d < ns[j].kids.length := by omega
      obtain ⟨bk, offk, rfl, hltk, hak⟩ := g hkp
      have x2 := (bx.cell (p := ⟨bk, offk + d, none⟩) hltk).trans (hak _ hcm)
      have hkm : ns[j].kids[d] ∈ kidsD ns ((j : Int) + 1) := by rw [hkd]; exact List.getElem_mem hcm
      have hkt := (hR.kidsHang.down _ _ (there_of hj) hkm).1
      obtain ⟨m, hm, em⟩ := there_idx hkt
      have x3 := nums_cells (hn.iL.later bx) hn.lL m hm
      rw [hn.num.last _ (there_of hm)] at x3
      have hlo2 := hn.num.low _ (there_of hm)
      have hhi2 := hn.num.high _ (there_of hm)
      have hne : numD ns (fOf F) ((j : Int) + 1, (d : Int) + 1) = fOf F ((m : Int) + 1) + szD ns ((m : Int) + 1) := by
        unfold numD
        have hd1 : ((d : Int) + 1 - 1).toNat = d := by omega
        rw [if_neg (by
          rintro (a | a)
          · exact hz a
          · exact hke (hkd.symm.trans a))]
        have : (kidsD ns ((j : Int) + 1)).getD d 0 = (m : Int) + 1 := by
          rw [hkd, List.getD_eq_getElem?_getD, List.getElem?_eq_getElem hcm, em]
          rfl
        show fOf F ((kidsD ns ((j : Int) + 1)).getD ((d : Int) + 1 - 1).toNat 0) + (szD ns ((kidsD ns ((j : Int) + 1)).getD ((d : Int) + 1 - 1).toNat 0) : Int) = _
        rw [hd1, this]
      have f1 : IntKind.i64.wrap (F.getD ((m : Int) + 1).toNat 0 + (szD ns ((m : Int) + 1) : Int) - 1 + 1) = numD ns (fOf F) ((j : Int) + 1, (d : Int) + 1) := by
        rw [hne, wrap_smallB (by omega) (by omega)]
        unfold fOf
        omega
      rw [em] at x2
      have dk : (((ns[j].kids.length : Nat) : Int) == 0) = false := beq_eq_false_iff_ne.2 (by omega)
      have q6 : (0 : Int) ≤ (d : Int) := by omega
      have q7 : (d : Int) < (ns[j].kids.length : Int) := by omega
      have q8 : (0 : Int) ≤ (m : Int) + 1 := by omega
      have q9 : (m : Int) + 1 < ((ns.length + 1 : Nat) : Int) := by omega
      have q10 : ((m : Int) + 1).toNat = m + 1 := by omega
      have q11 : (d : Int) ≤ 4096 := by omega
      clear hn hR hF hkd hlen hone hc bx g0 g1 sx hlo hhi hp0 hp1 hkl hdl hke hz hd0 e4 hkp hcm hltk hak hkm hkt em hm hlo2 hhi2 hne g x1 hkcap
      unfold numsV bndV
      unfold numsO at *
      generalize ns.length + 1 = N at *
      generalize numD ns (fOf F) ((j : Int) + 1, (d : Int) + 1) = Z at *
      generalize F.getD ((m : Int) + 1).toNat 0 + (szD ns ((m : Int) + 1) : Int) - 1 = Y at *
      generalize ns[j].kids = ks at *
      go_enter Tryz.func48, Tryz.ntmps48
      go_upto_region 4 with fail
      go_quiet (fail)
      go_wp2
      go_ret
      exact ⟨rfl, HB.out.trans (drewN_below _ _ _)⟩
end Go.Proofs.YtilacgcjbdkphaaGreat

namespace Go.Proofs.YtilacgcjbdkphaaGreat
open Go.RowKit Go.Lib

theorem three_newB (w : World) (a b c : Obj) : Below w.heap.size w (((w.alloc a).alloc b).alloc c) ∧ (((w.alloc a).alloc b).alloc c).heap[w.heap.size]? = some a ∧ (((w.alloc a).alloc b).alloc c).heap[w.heap.size + 1]? = some b ∧ (((w.alloc a).alloc b).alloc c).heap[w.heap.size + 1 + 1]? = some c ∧ (((w.alloc a).alloc b).alloc c).heap.size = w.heap.size + 1 + 1 + 1 := by
  refine ⟨(((Below.refl _ w).alloc (Nat.le_refl _) _).alloc (by simp) _).alloc (by simp; omega) _, ?_, ?_, ?_, by simp⟩
  · rw [Below.heap_alloc _ _ _ (by simp only [World.size_alloc]; omega), Below.heap_alloc _ _ _ (by simp only [World.size_alloc]; omega)]
    exact heap_new w a
  · have h := heap_new (w.alloc a) b
    simp only [World.size_alloc] at h
    rw [Below.heap_alloc _ _ _ (by simp only [World.size_alloc]; omega)]
    exact h
  · have h := heap_new ((w.alloc a).alloc b) c
    simp only [World.size_alloc] at h
    exact h
theorem cmp_later (x y : Int) (w : World) : Calls Tryz.prog 88 #[.int .i64 x, .int .i64 y] w fun e w' => e = .returned (.int .i64 (cmpI x y)) ∧ Below w.heap.size w w' := (cmp_any x y w).mono fun _ _ h => ⟨h.1, h.2 ▸ Below.refl _ _⟩
theorem cellLater {W V : World} {B o : Nat} {v : Value} (h : Below W.heap.size W V) (hl : B < W.heap.size) (hc : W.cell? ⟨B, o, none⟩ = some v) : V.cell? ⟨B, o, none⟩ = some v := (h.cell (p := ⟨B, o, none⟩) hl).trans hc
theorem bnd_cells {W : World} {B : Nat} {x y : Value} {t : TypeId} (h : W.heap[B]? = some (.cells #[x, y] t (0, 0))) : W.cell? ⟨B, 0, none⟩ = some x ∧ W.cell? ⟨B, 1, none⟩ = some y := by
  refine ⟨?_, ?_⟩ <;> (rw [cell_of_heap h]; rfl)
def rngV (x c y d : Int) : Value := .agg #[.int .i64 x, .int .i64 c, .int .i64 y, .int .i64 d]

set_option maxRecDepth 100000 in
set_option maxHeartbeats 4000000 in
theorem pCompare_any (b off cap bR bF bL i j : Nat) (c d : Int) (ns : List NodeD) (R F L : List Int) (w : World) (hR : RightF ns) (hF : FAt w b off cap ns) (hn : NumsL ns w bR bF bL R F L) (hi : i < ns.length) (hj : j < ns.length) (hp : isPt ns ((i : Int) + 1, c)) (hq : isPt ns ((j : Int) + 1, d)) :
    Calls Tryz.prog 43 #[numsV (some ⟨b, off, none⟩) cap ns.length bR bF bL (ns.length + 1), bndV ((i : Int) + 1) c, bndV ((j : Int) + 1) d] w fun e w' => e = .returned (.int .i64 (cmpI (numD ns (fOf F) ((i : Int) + 1, c)) (numD ns (fOf F) ((j : Int) + 1, d)))) ∧ Below w.heap.size w w' := by
  have H1 : Hid (∀ V : World, Below w.heap.size w V → _) := fun V hV => pNumber_any b off cap bR bF bL i c ns R F L V hR (hF.later hV) (hn.later hV) hi hp
  have H2 : Hid (∀ V : World, Below w.heap.size w V → _) := fun V hV => pNumber_any b off cap bR bF bL j d ns R F L V hR (hF.later hV) (hn.later hV) hj hq
  clear hF hn hp hq hR hi hj
  unfold numsV bndV at *
  generalize ns.length + 1 = N at *
  obtain ⟨bx, g0, g1, g2, sx⟩ := three_newB w (.cells #[.slice (some ⟨b, off, none⟩) ns.length cap, .slice (some ⟨bR, 0, none⟩) N N, .slice (some ⟨bF, 0, none⟩) N N, .slice (some ⟨bL, 0, none⟩) N N] 77) (.cells #[.int .i64 ((i : Int) + 1), .int .i64 c] 26) (.cells #[.int .i64 ((j : Int) + 1), .int .i64 d] 26)
  generalize numD ns (fOf F) ((i : Int) + 1, c) = X at *
  generalize numD ns (fOf F) ((j : Int) + 1, d) = Y at *
  go_enter Tryz.func43, Tryz.ntmps43
  go_upto_region 1 with fail
  generalize (((w.alloc (.cells #[.slice (some ⟨b, off, none⟩) ns.length cap, .slice (some ⟨bR, 0, none⟩) N N, .slice (some ⟨bF, 0, none⟩) N N, .slice (some ⟨bL, 0, none⟩) N N] 77)).alloc (.cells #[.int .i64 ((i : Int) + 1), .int .i64 c] 26)).alloc (.cells #[.int .i64 ((j : Int) + 1), .int .i64 d] 26)) = W0 at *
  obtain ⟨n0, n1, n2, n3⟩ := sv_cells g0
  obtain ⟨a0, a1⟩ := bnd_cells g1
  obtain ⟨d0, d1⟩ := bnd_cells g2
  clear g0 g1 g2
  refine wp_region_held_drew (S := fun V => Below W0.heap.size W0 V) (by kernel_rfl) ((Below.refl _ _).drew) (fun hHeld => ?_)
  have HB_V0 := hid hHeld
  have HS_V0 := hid hHeld.size
  generalize W0.drew = V0 at *
  refine wpAnyH_one 0 7 (.agg #[.slice (some ⟨b, off, none⟩) ns.length cap, .slice (some ⟨bR, 0, none⟩) N N, .slice (some ⟨bF, 0, none⟩) N N, .slice (some ⟨bL, 0, none⟩) N N]) hHeld rfl rfl (by kernel_rfl) (fun _ _ _ _ _ h => h) (by kernel_rfl) (by kernel_rfl) (by rfl) ?_ ?_
  · intro V hSw; (try dsimp only at hSw); have k0 := cellLater (B := w.heap.size) hSw (by omega) n0; have k1 := cellLater (B := w.heap.size) hSw (by omega) n1; have k2 := cellLater (B := w.heap.size) hSw (by omega) n2; have k3 := cellLater (B := w.heap.size) hSw (by omega) n3; go_simp
  simp only [Act.put, List.setIfInBounds_toArray, List.set_cons_zero, List.set_cons_succ]
  refine wpAnyH_one 1 8 (.agg #[.int .i64 ((i : Int) + 1), .int .i64 c]) hHeld rfl rfl (by kernel_rfl) (fun _ _ _ _ _ h => h) (by kernel_rfl) (by kernel_rfl) (by rfl) ?_ ?_
  · intro V hSw; (try dsimp only at hSw); have k0 := cellLater (B := w.heap.size + 1) hSw (by omega) a0; have k1 := cellLater (B := w.heap.size + 1) hSw (by omega) a1; go_simp
  simp only [Act.put, List.setIfInBounds_toArray, List.set_cons_zero, List.set_cons_succ]
  refine wpAnyH_one 3 10 (.agg #[.slice (some ⟨b, off, none⟩) ns.length cap, .slice (some ⟨bR, 0, none⟩) N N, .slice (some ⟨bF, 0, none⟩) N N, .slice (some ⟨bL, 0, none⟩) N N]) hHeld rfl rfl (by kernel_rfl) (fun _ _ _ _ _ h => h) (by kernel_rfl) (by kernel_rfl) (by rfl) ?_ ?_
  · intro V hSw; (try dsimp only at hSw); have k0 := cellLater (B := w.heap.size) hSw (by omega) n0; have k1 := cellLater (B := w.heap.size) hSw (by omega) n1; have k2 := cellLater (B := w.heap.size) hSw (by omega) n2; have k3 := cellLater (B := w.heap.size) hSw (by omega) n3; go_simp
  simp only [Act.put, List.setIfInBounds_toArray, List.set_cons_zero, List.set_cons_succ]
  refine wpAnyH_one 4 11 (.agg #[.int .i64 ((j : Int) + 1), .int .i64 d]) hHeld rfl rfl (by kernel_rfl) (fun _ _ _ _ _ h => h) (by kernel_rfl) (by kernel_rfl) (by rfl) ?_ ?_
  · intro V hSw; (try dsimp only at hSw); have k0 := cellLater (B := w.heap.size + 1 + 1) hSw (by omega) d0; have k1 := cellLater (B := w.heap.size + 1 + 1) hSw (by omega) d1; go_simp
  simp only [Act.put, List.setIfInBounds_toArray, List.set_cons_zero, List.set_cons_succ]
  refine wpAnyH_ready (rs := [2]) (by kernel_rfl) (by simp) ?_
  refine AllReadyH.cons rfl (fun K hK => ?_) AllReadyH.nil
  go_simp
  go_wp2_with (go_at_call 48; refine (H1.out V0 (bx.trans (HB_V0.out.mono bx.size))).mono ?_; rintro e V1 ⟨rfl, hb⟩; have HB_V1 := hid (HB_V0.out.trans (hb.mono HB_V0.out.size)); have HS_V1 := hid (HB_V1.out.size))
  refine hK.out _ _ HB_V1.out (fun hHeld => ?_)
  clear hK K
  refine wpAnyH_ready (rs := [5]) (by kernel_rfl) (by simp) ?_
  refine AllReadyH.cons rfl (fun K hK => ?_) AllReadyH.nil
  go_simp
  go_wp2_with (go_at_call 48; refine (H2.out V1 (bx.trans (HB_V1.out.mono bx.size))).mono ?_; rintro e V2 ⟨rfl, hb⟩; have HB_V2 := hid (HB_V1.out.trans (hb.mono HB_V1.out.size)); have HS_V2 := hid (HB_V2.out.size))
  refine hK.out _ _ HB_V2.out (fun hHeld => ?_)
  clear hK K
  refine wpAnyH_ready (rs := [6]) (by kernel_rfl) (by simp) ?_
  refine AllReadyH.cons rfl (fun K hK => ?_) AllReadyH.nil
  go_simp
  go_wp2_with (go_at_call 88; refine (cmp_later X Y V2).mono ?_; rintro e V3 ⟨rfl, hb⟩; have HB_V3 := hid (HB_V2.out.trans (hb.mono HB_V2.out.size)); have HS_V3 := hid (HB_V3.out.size))
  refine hK.out _ _ HB_V3.out (fun hHeld => ?_)
  clear hK K
  refine wpAnyH_one 7 6 (.int .i64 (cmpI X Y)) hHeld rfl rfl (by kernel_rfl) (fun _ _ _ _ _ h => h) (by kernel_rfl) (by kernel_rfl) (by rfl) ?_ ?_
  · intro V hSw; (try dsimp only at hSw); go_simp
  simp only [Act.put, List.setIfInBounds_toArray, List.set_cons_zero, List.set_cons_succ]
  refine wpAnyH_done (by kernel_rfl) ?_ _
  go_wp2_with fail
  go_ret
  exact ⟨rfl, bx.trans (HB_V3.out.mono bx.size)⟩
theorem rng_cells {W : World} {B : Nat} {x y z u : Value} {t : TypeId} (h : W.heap[B]? = some (.cells #[x, y, z, u] t (0, 0))) : W.cell? ⟨B, 0, none⟩ = some x ∧ W.cell? ⟨B, 1, none⟩ = some y ∧ W.cell? ⟨B, 2, none⟩ = some z ∧ W.cell? ⟨B, 3, none⟩ = some u := sv_cells h

set_option maxRecDepth 100000 in
set_option maxHeartbeats 4000000 in
theorem pContained_any (b off cap bR bF bL i j k : Nat) (c d : Int) (ns : List NodeD) (R F L : List Int) (w : World) (hR : RightF ns) (hF : FAt w b off cap ns) (hn : NumsL ns w bR bF bL R F L) (hi : i < ns.length) (hj : j < ns.length) (hk : k < ns.length) (hp : isPt ns ((i : Int) + 1, c)) (hq : isPt ns ((j : Int) + 1, d)) :
    Calls Tryz.prog 62 #[numsV (some ⟨b, off, none⟩) cap ns.length bR bF bL (ns.length + 1), rngV ((i : Int) + 1) c ((j : Int) + 1) d, .int .i64 ((k : Int) + 1)] w fun e w' => e = .returned (.bool (decide (numD ns (fOf F) ((i : Int) + 1, c) < fOf F ((k : Int) + 1)) && decide (fOf F ((k : Int) + 1) + (szD ns ((k : Int) + 1) : Int) - 1 < numD ns (fOf F) ((j : Int) + 1, d)))) ∧ Below w.heap.size w w' := by
  have H1 : Hid (∀ V : World, Below w.heap.size w V → _) := fun V hV => pNumber_any b off cap bR bF bL i c ns R F L V hR (hF.later hV) (hn.later hV) hi hp
  have H2 : Hid (∀ V : World, Below w.heap.size w V → _) := fun V hV => pNumber_any b off cap bR bF bL j d ns R F L V hR (hF.later hV) (hn.later hV) hj hq
  have hNu := hn.num
  have q1 : (0 : Int) ≤ (k : Int) + 1 := by omega
  have q2 : (k : Int) + 1 < ((ns.length + 1 : Nat) : Int) := by omega
  have q3 : ((k : Int) + 1).toNat = k + 1 := by omega
  have lF := hn.iF.lt
  have lL := hn.iL.lt
  obtain ⟨bx, g0, g1, sx⟩ := two_newB w (numsO (some ⟨b, off, none⟩) cap ns.length bR bF bL (ns.length + 1)) (.cells #[.int .i64 ((i : Int) + 1), .int .i64 c, .int .i64 ((j : Int) + 1), .int .i64 d] 44)
  have x1 : _ = some (Value.int .i64 (fOf F ((k : Int) + 1))) := nums_cells (hn.iF.later bx) hn.lF k hk
  have x2 := nums_cells (hn.iL.later bx) hn.lL k hk
  rw [hNu.last _ (there_of hk)] at x2
  have x2 : _ = some (Value.int .i64 (fOf F ((k : Int) + 1) + (szD ns ((k : Int) + 1) : Int) - 1)) := x2
  clear hF hn hp hq hR hi hj hNu hk
  unfold numsV bndV rngV at *
  unfold numsO at *
  generalize ns.length + 1 = N at *
  generalize numD ns (fOf F) ((i : Int) + 1, c) = X at *
  generalize numD ns (fOf F) ((j : Int) + 1, d) = Y at *
  generalize fOf F ((k : Int) + 1) + (szD ns ((k : Int) + 1) : Int) - 1 = Z at *
  generalize fOf F ((k : Int) + 1) = P at *
  cases d1 : decide (X < P) with
  | true =>
    go_enter Tryz.func62, Tryz.ntmps62
    go_upto_region 1 with fail
    generalize ((w.alloc (.cells #[.slice (some ⟨b, off, none⟩) ns.length cap, .slice (some ⟨bR, 0, none⟩) N N, .slice (some ⟨bF, 0, none⟩) N N, .slice (some ⟨bL, 0, none⟩) N N] 77)).alloc (.cells #[.int .i64 ((i : Int) + 1), .int .i64 c, .int .i64 ((j : Int) + 1), .int .i64 d] 44)) = W0 at *
    obtain ⟨n0, n1, n2, n3⟩ := sv_cells g0
    obtain ⟨a0, a1, a2, a3⟩ := rng_cells g1
    clear g0 g1
    refine wp_region_held_drew (S := fun V => Below W0.heap.size W0 V) (by kernel_rfl) ((Below.refl _ _).drew) (fun hHeld => ?_)
    have HB_V0 := hid hHeld
    have HS_V0 := hid hHeld.size
    generalize W0.drew = V0 at *
    refine wpAnyH_one 0 7 (.pointer (some ⟨w.heap.size, 2, none⟩)) hHeld rfl rfl (by kernel_rfl) (fun _ _ _ _ _ h => h) (by kernel_rfl) (by kernel_rfl) (by rfl) ?_ ?_
    · intro V hSw; (try dsimp only at hSw); go_simp
    simp only [Act.put, List.setIfInBounds_toArray, List.set_cons_zero, List.set_cons_succ]
    refine wpAnyH_one 1 8 (.slice (some ⟨bF, 0, none⟩) N N) hHeld rfl rfl (by kernel_rfl) (fun _ _ _ _ _ h => h) (by kernel_rfl) (by kernel_rfl) (by rfl) ?_ ?_
    · intro V hSw; (try dsimp only at hSw); have k0 := cellLater (B := w.heap.size) hSw (by omega) n2; go_simp
    simp only [Act.put, List.setIfInBounds_toArray, List.set_cons_zero, List.set_cons_succ]
    refine wpAnyH_one 2 9 (.int .i64 ((k : Int) + 1)) hHeld rfl rfl (by kernel_rfl) (fun _ _ _ _ _ h => h) (by kernel_rfl) (by kernel_rfl) (by rfl) ?_ ?_
    · intro V hSw; (try dsimp only at hSw); go_simp
    simp only [Act.put, List.setIfInBounds_toArray, List.set_cons_zero, List.set_cons_succ]
    refine wpAnyH_one 3 10 (.pointer (some ⟨bF, k + 1, none⟩)) hHeld rfl rfl (by kernel_rfl) (fun _ _ _ _ _ h => h) (by kernel_rfl) (by kernel_rfl) (by rfl) ?_ ?_
    · intro V hSw; (try dsimp only at hSw); go_simp
    simp only [Act.put, List.setIfInBounds_toArray, List.set_cons_zero, List.set_cons_succ]
    refine wpAnyH_one 4 11 (.int .i64 P) hHeld rfl rfl (by kernel_rfl) (fun _ _ _ _ _ h => h) (by kernel_rfl) (by kernel_rfl) (by rfl) ?_ ?_
    · intro V hSw; (try dsimp only at hSw); have k0 := cellLater (B := bF) hSw (by omega) x1; go_simp
    simp only [Act.put, List.setIfInBounds_toArray, List.set_cons_zero, List.set_cons_succ]
    refine wpAnyH_one 5 12 (.agg #[.slice (some ⟨b, off, none⟩) ns.length cap, .slice (some ⟨bR, 0, none⟩) N N, .slice (some ⟨bF, 0, none⟩) N N, .slice (some ⟨bL, 0, none⟩) N N]) hHeld rfl rfl (by kernel_rfl) (fun _ _ _ _ _ h => h) (by kernel_rfl) (by kernel_rfl) (by rfl) ?_ ?_
    · intro V hSw; (try dsimp only at hSw); have k0 := cellLater (B := w.heap.size) hSw (by omega) n0; have k1 := cellLater (B := w.heap.size) hSw (by omega) n1; have k2 := cellLater (B := w.heap.size) hSw (by omega) n2; have k3 := cellLater (B := w.heap.size) hSw (by omega) n3; go_simp
    simp only [Act.put, List.setIfInBounds_toArray, List.set_cons_zero, List.set_cons_succ]
    refine wpAnyH_one 6 13 (.pointer (some ⟨w.heap.size + 1, 0, none⟩)) hHeld rfl rfl (by kernel_rfl) (fun _ _ _ _ _ h => h) (by kernel_rfl) (by kernel_rfl) (by rfl) ?_ ?_
    · intro V hSw; (try dsimp only at hSw); go_simp
    simp only [Act.put, List.setIfInBounds_toArray, List.set_cons_zero, List.set_cons_succ]
    refine wpAnyH_one 7 14 (.agg #[.int .i64 ((i : Int) + 1), .int .i64 c]) hHeld rfl rfl (by kernel_rfl) (fun _ _ _ _ _ h => h) (by kernel_rfl) (by kernel_rfl) (by rfl) ?_ ?_
    · intro V hSw; (try dsimp only at hSw); have k0 := cellLater (B := w.heap.size + 1) hSw (by omega) a0; have k1 := cellLater (B := w.heap.size + 1) hSw (by omega) a1; go_simp
    simp only [Act.put, List.setIfInBounds_toArray, List.set_cons_zero, List.set_cons_succ]
    refine wpAnyH_ready (rs := [8]) (by kernel_rfl) (by simp) ?_
    refine AllReadyH.cons rfl (fun K hK => ?_) AllReadyH.nil
    go_simp
    go_wp2_with (go_at_call 48; refine (H1.out V0 (bx.trans (HB_V0.out.mono bx.size))).mono ?_; rintro e V1 ⟨rfl, hb⟩; have HB_V1 := hid (HB_V0.out.trans (hb.mono HB_V0.out.size)); have HS_V1 := hid (HB_V1.out.size))
    refine hK.out _ _ HB_V1.out (fun hHeld => ?_)
    clear hK K
    refine wpAnyH_one 9 16 (.bool (decide (X < P))) hHeld rfl rfl (by kernel_rfl) (fun _ _ _ _ _ h => h) (by kernel_rfl) (by kernel_rfl) (by rfl) ?_ ?_
    · intro V hSw; (try dsimp only at hSw); go_simp
    simp only [Act.put, List.setIfInBounds_toArray, List.set_cons_zero, List.set_cons_succ]
    refine wpAnyH_one 10 17 (.bool true) hHeld rfl rfl (by kernel_rfl) (fun _ _ _ _ _ h => h) (by kernel_rfl) (by kernel_rfl) (by rfl) ?_ ?_
    · intro V hSw; (try dsimp only at hSw); go_simp
    simp only [Act.put, List.setIfInBounds_toArray, List.set_cons_zero, List.set_cons_succ]
    refine wpAnyH_one 11 18 (.pointer (some ⟨w.heap.size, 3, none⟩)) hHeld rfl rfl (by kernel_rfl) (fun _ _ _ _ _ h => h) (by kernel_rfl) (by kernel_rfl) (by rfl) ?_ ?_
    · intro V hSw; (try dsimp only at hSw); go_simp
    simp only [Act.put, List.setIfInBounds_toArray, List.set_cons_zero, List.set_cons_succ]
    refine wpAnyH_one 12 19 (.slice (some ⟨bL, 0, none⟩) N N) hHeld rfl rfl (by kernel_rfl) (fun _ _ _ _ _ h => h) (by kernel_rfl) (by kernel_rfl) (by rfl) ?_ ?_
    · intro V hSw; (try dsimp only at hSw); have k0 := cellLater (B := w.heap.size) hSw (by omega) n3; go_simp
    simp only [Act.put, List.setIfInBounds_toArray, List.set_cons_zero, List.set_cons_succ]
    refine wpAnyH_one 13 20 (.int .i64 ((k : Int) + 1)) hHeld rfl rfl (by kernel_rfl) (fun _ _ _ _ _ h => h) (by kernel_rfl) (by kernel_rfl) (by rfl) ?_ ?_
    · intro V hSw; (try dsimp only at hSw); go_simp
    simp only [Act.put, List.setIfInBounds_toArray, List.set_cons_zero, List.set_cons_succ]
    refine wpAnyH_one 14 21 (.pointer (some ⟨bL, k + 1, none⟩)) hHeld rfl rfl (by kernel_rfl) (fun _ _ _ _ _ h => h) (by kernel_rfl) (by kernel_rfl) (by rfl) ?_ ?_
    · intro V hSw; (try dsimp only at hSw); go_simp
    simp only [Act.put, List.setIfInBounds_toArray, List.set_cons_zero, List.set_cons_succ]
    refine wpAnyH_one 15 22 (.int .i64 Z) hHeld rfl rfl (by kernel_rfl) (fun _ _ _ _ _ h => h) (by kernel_rfl) (by kernel_rfl) (by rfl) ?_ ?_
    · intro V hSw; (try dsimp only at hSw); have k0 := cellLater (B := bL) hSw (by omega) x2; go_simp
    simp only [Act.put, List.setIfInBounds_toArray, List.set_cons_zero, List.set_cons_succ]
    refine wpAnyH_one 16 23 (.agg #[.slice (some ⟨b, off, none⟩) ns.length cap, .slice (some ⟨bR, 0, none⟩) N N, .slice (some ⟨bF, 0, none⟩) N N, .slice (some ⟨bL, 0, none⟩) N N]) hHeld rfl rfl (by kernel_rfl) (fun _ _ _ _ _ h => h) (by kernel_rfl) (by kernel_rfl) (by rfl) ?_ ?_
    · intro V hSw; (try dsimp only at hSw); have k0 := cellLater (B := w.heap.size) hSw (by omega) n0; have k1 := cellLater (B := w.heap.size) hSw (by omega) n1; have k2 := cellLater (B := w.heap.size) hSw (by omega) n2; have k3 := cellLater (B := w.heap.size) hSw (by omega) n3; go_simp
    simp only [Act.put, List.setIfInBounds_toArray, List.set_cons_zero, List.set_cons_succ]
    refine wpAnyH_one 17 24 (.pointer (some ⟨w.heap.size + 1, 2, none⟩)) hHeld rfl rfl (by kernel_rfl) (fun _ _ _ _ _ h => h) (by kernel_rfl) (by kernel_rfl) (by rfl) ?_ ?_
    · intro V hSw; (try dsimp only at hSw); go_simp
    simp only [Act.put, List.setIfInBounds_toArray, List.set_cons_zero, List.set_cons_succ]
    refine wpAnyH_one 18 25 (.agg #[.int .i64 ((j : Int) + 1), .int .i64 d]) hHeld rfl rfl (by kernel_rfl) (fun _ _ _ _ _ h => h) (by kernel_rfl) (by kernel_rfl) (by rfl) ?_ ?_
    · intro V hSw; (try dsimp only at hSw); have k0 := cellLater (B := w.heap.size + 1) hSw (by omega) a2; have k1 := cellLater (B := w.heap.size + 1) hSw (by omega) a3; go_simp
    simp only [Act.put, List.setIfInBounds_toArray, List.set_cons_zero, List.set_cons_succ]
    refine wpAnyH_ready (rs := [19]) (by kernel_rfl) (by simp) ?_
    refine AllReadyH.cons rfl (fun K hK => ?_) AllReadyH.nil
    go_simp
    go_wp2_with (go_at_call 48; refine (H2.out V1 (bx.trans (HB_V1.out.mono bx.size))).mono ?_; rintro e V2 ⟨rfl, hb⟩; have HB_V2 := hid (HB_V1.out.trans (hb.mono HB_V1.out.size)); have HS_V2 := hid (HB_V2.out.size))
    refine hK.out _ _ HB_V2.out (fun hHeld => ?_)
    clear hK K
    refine wpAnyH_one 20 27 (.bool (decide (Z < Y))) hHeld rfl rfl (by kernel_rfl) (fun _ _ _ _ _ h => h) (by kernel_rfl) (by kernel_rfl) (by rfl) ?_ ?_
    · intro V hSw; (try dsimp only at hSw); go_simp
    simp only [Act.put, List.setIfInBounds_toArray, List.set_cons_zero, List.set_cons_succ]
    refine wpAnyH_one 21 28 (.bool (decide (Z < Y))) hHeld rfl rfl (by kernel_rfl) (fun _ _ _ _ _ h => h) (by kernel_rfl) (by kernel_rfl) (by rfl) ?_ ?_
    · intro V hSw; (try dsimp only at hSw); go_simp
    simp only [Act.put, List.setIfInBounds_toArray, List.set_cons_zero, List.set_cons_succ]
    refine wpAnyH_one 22 6 (.bool (decide (Z < Y))) hHeld rfl rfl (by kernel_rfl) (fun _ _ _ _ _ h => h) (by kernel_rfl) (by kernel_rfl) (by rfl) ?_ ?_
    · intro V hSw; (try dsimp only at hSw); go_simp
    simp only [Act.put, List.setIfInBounds_toArray, List.set_cons_zero, List.set_cons_succ]
    refine wpAnyH_done (by kernel_rfl) ?_ _
    go_wp2_with fail
    go_ret
    exact ⟨rfl, bx.trans (HB_V2.out.mono bx.size)⟩
  | false =>
    go_enter Tryz.func62, Tryz.ntmps62
    go_upto_region 1 with fail
    generalize ((w.alloc (.cells #[.slice (some ⟨b, off, none⟩) ns.length cap, .slice (some ⟨bR, 0, none⟩) N N, .slice (some ⟨bF, 0, none⟩) N N, .slice (some ⟨bL, 0, none⟩) N N] 77)).alloc (.cells #[.int .i64 ((i : Int) + 1), .int .i64 c, .int .i64 ((j : Int) + 1), .int .i64 d] 44)) = W0 at *
    obtain ⟨n0, n1, n2, n3⟩ := sv_cells g0
    obtain ⟨a0, a1, a2, a3⟩ := rng_cells g1
    clear g0 g1
    refine wp_region_held_drew (S := fun V => Below W0.heap.size W0 V) (by kernel_rfl) ((Below.refl _ _).drew) (fun hHeld => ?_)
    have HB_V0 := hid hHeld
    have HS_V0 := hid hHeld.size
    generalize W0.drew = V0 at *
    refine wpAnyH_one 0 7 (.pointer (some ⟨w.heap.size, 2, none⟩)) hHeld rfl rfl (by kernel_rfl) (fun _ _ _ _ _ h => h) (by kernel_rfl) (by kernel_rfl) (by rfl) ?_ ?_
    · intro V hSw; (try dsimp only at hSw); go_simp
    simp only [Act.put, List.setIfInBounds_toArray, List.set_cons_zero, List.set_cons_succ]
    refine wpAnyH_one 1 8 (.slice (some ⟨bF, 0, none⟩) N N) hHeld rfl rfl (by kernel_rfl) (fun _ _ _ _ _ h => h) (by kernel_rfl) (by kernel_rfl) (by rfl) ?_ ?_
    · intro V hSw; (try dsimp only at hSw); have k0 := cellLater (B := w.heap.size) hSw (by omega) n2; go_simp
    simp only [Act.put, List.setIfInBounds_toArray, List.set_cons_zero, List.set_cons_succ]
    refine wpAnyH_one 2 9 (.int .i64 ((k : Int) + 1)) hHeld rfl rfl (by kernel_rfl) (fun _ _ _ _ _ h => h) (by kernel_rfl) (by kernel_rfl) (by rfl) ?_ ?_
    · intro V hSw; (try dsimp only at hSw); go_simp
    simp only [Act.put, List.setIfInBounds_toArray, List.set_cons_zero, List.set_cons_succ]
    refine wpAnyH_one 3 10 (.pointer (some ⟨bF, k + 1, none⟩)) hHeld rfl rfl (by kernel_rfl) (fun _ _ _ _ _ h => h) (by kernel_rfl) (by kernel_rfl) (by rfl) ?_ ?_
    · intro V hSw; (try dsimp only at hSw); go_simp
    simp only [Act.put, List.setIfInBounds_toArray, List.set_cons_zero, List.set_cons_succ]
    refine wpAnyH_one 4 11 (.int .i64 P) hHeld rfl rfl (by kernel_rfl) (fun _ _ _ _ _ h => h) (by kernel_rfl) (by kernel_rfl) (by rfl) ?_ ?_
    · intro V hSw; (try dsimp only at hSw); have k0 := cellLater (B := bF) hSw (by omega) x1; go_simp
    simp only [Act.put, List.setIfInBounds_toArray, List.set_cons_zero, List.set_cons_succ]
    refine wpAnyH_one 5 12 (.agg #[.slice (some ⟨b, off, none⟩) ns.length cap, .slice (some ⟨bR, 0, none⟩) N N, .slice (some ⟨bF, 0, none⟩) N N, .slice (some ⟨bL, 0, none⟩) N N]) hHeld rfl rfl (by kernel_rfl) (fun _ _ _ _ _ h => h) (by kernel_rfl) (by kernel_rfl) (by rfl) ?_ ?_
    · intro V hSw; (try dsimp only at hSw); have k0 := cellLater (B := w.heap.size) hSw (by omega) n0; have k1 := cellLater (B := w.heap.size) hSw (by omega) n1; have k2 := cellLater (B := w.heap.size) hSw (by omega) n2; have k3 := cellLater (B := w.heap.size) hSw (by omega) n3; go_simp
    simp only [Act.put, List.setIfInBounds_toArray, List.set_cons_zero, List.set_cons_succ]
    refine wpAnyH_one 6 13 (.pointer (some ⟨w.heap.size + 1, 0, none⟩)) hHeld rfl rfl (by kernel_rfl) (fun _ _ _ _ _ h => h) (by kernel_rfl) (by kernel_rfl) (by rfl) ?_ ?_
    · intro V hSw; (try dsimp only at hSw); go_simp
    simp only [Act.put, List.setIfInBounds_toArray, List.set_cons_zero, List.set_cons_succ]
    refine wpAnyH_one 7 14 (.agg #[.int .i64 ((i : Int) + 1), .int .i64 c]) hHeld rfl rfl (by kernel_rfl) (fun _ _ _ _ _ h => h) (by kernel_rfl) (by kernel_rfl) (by rfl) ?_ ?_
    · intro V hSw; (try dsimp only at hSw); have k0 := cellLater (B := w.heap.size + 1) hSw (by omega) a0; have k1 := cellLater (B := w.heap.size + 1) hSw (by omega) a1; go_simp
    simp only [Act.put, List.setIfInBounds_toArray, List.set_cons_zero, List.set_cons_succ]
    refine wpAnyH_ready (rs := [8]) (by kernel_rfl) (by simp) ?_
    refine AllReadyH.cons rfl (fun K hK => ?_) AllReadyH.nil
    go_simp
    go_wp2_with (go_at_call 48; refine (H1.out V0 (bx.trans (HB_V0.out.mono bx.size))).mono ?_; rintro e V1 ⟨rfl, hb⟩; have HB_V1 := hid (HB_V0.out.trans (hb.mono HB_V0.out.size)); have HS_V1 := hid (HB_V1.out.size))
    refine hK.out _ _ HB_V1.out (fun hHeld => ?_)
    clear hK K
    refine wpAnyH_one 9 16 (.bool (decide (X < P))) hHeld rfl rfl (by kernel_rfl) (fun _ _ _ _ _ h => h) (by kernel_rfl) (by kernel_rfl) (by rfl) ?_ ?_
    · intro V hSw; (try dsimp only at hSw); go_simp
    simp only [Act.put, List.setIfInBounds_toArray, List.set_cons_zero, List.set_cons_succ]
    refine wpAnyH_one 10 17 (.bool false) hHeld rfl rfl (by kernel_rfl) (fun _ _ _ _ _ h => h) (by kernel_rfl) (by kernel_rfl) (by rfl) ?_ ?_
    · intro V hSw; (try dsimp only at hSw); go_simp
    simp only [Act.put, List.setIfInBounds_toArray, List.set_cons_zero, List.set_cons_succ]
    refine wpAnyH_skips [(11, 18), (12, 19), (13, 20), (14, 21), (15, 22), (16, 23), (17, 24), (18, 25), (19, 26), (20, 27)] 2 hHeld (by kernel_rfl) (fun _ _ _ _ _ h => h) (by kernel_rfl) (by kernel_rfl) ?_
    simp only [actAfter, listedAfter, Act.put, List.setIfInBounds_toArray, List.set_cons_zero, List.set_cons_succ]
    refine wpAnyH_one 21 28 (.bool false) hHeld rfl rfl (by kernel_rfl) (fun _ _ _ _ _ h => h) (by kernel_rfl) (by kernel_rfl) (by rfl) ?_ ?_
    · intro V hSw; (try dsimp only at hSw); go_simp
    simp only [Act.put, List.setIfInBounds_toArray, List.set_cons_zero, List.set_cons_succ]
    refine wpAnyH_one 22 6 (.bool false) hHeld rfl rfl (by kernel_rfl) (fun _ _ _ _ _ h => h) (by kernel_rfl) (by kernel_rfl) (by rfl) ?_ ?_
    · intro V hSw; (try dsimp only at hSw); go_simp
    simp only [Act.put, List.setIfInBounds_toArray, List.set_cons_zero, List.set_cons_succ]
    refine wpAnyH_done (by kernel_rfl) ?_ _
    go_wp2_with fail
    go_ret
    exact ⟨rfl, bx.trans (HB_V1.out.mono bx.size)⟩
end Go.Proofs.YtilacgcjbdkphaaGreat

namespace Go.Proofs.YtilacgcjbdkphaaGreat
open Go.RowKit Go.Lib

theorem cmpI_le (x y : Int) : decide (cmpI x y ≤ 0) = decide (x ≤ y) := by
  unfold cmpI
  by_cases h1 : x < y
  · rw [if_pos h1, decide_eq_true (by omega), decide_eq_true (by omega)]
  · rw [if_neg h1]
    by_cases h2 : y < x
    · rw [if_pos h2, decide_eq_false (by omega), decide_eq_false (by omega)]
    · rw [if_neg h2, decide_eq_true (by omega), decide_eq_true (by omega)]
/-- Is a range valid, by numbers? -/
def validN (ns : List NodeD) (F : List Int) (p q : Int × Int) : Bool := rootP ns p.1 == rootP ns q.1 && decide (numD ns (fOf F) p ≤ numD ns (fOf F) q)

set_option maxRecDepth 100000 in
set_option maxHeartbeats 4000000 in
theorem pValid_any (b off cap bR bF bL i j : Nat) (c d : Int) (ns : List NodeD) (R F L : List Int) (w : World) (hR : RightF ns) (hF : FAt w b off cap ns) (hn : NumsL ns w bR bF bL R F L) (hi : i < ns.length) (hj : j < ns.length) (hp : isPt ns ((i : Int) + 1, c)) (hq : isPt ns ((j : Int) + 1, d)) :
    Calls Tryz.prog 55 #[numsV (some ⟨b, off, none⟩) cap ns.length bR bF bL (ns.length + 1), rngV ((i : Int) + 1) c ((j : Int) + 1) d] w fun e w' => e = .returned (.bool (validN ns F ((i : Int) + 1, c) ((j : Int) + 1, d))) ∧ Below w.heap.size w w' := by
  have hc : validN ns F ((i : Int) + 1, c) ((j : Int) + 1, d) = (rootP ns ((i : Int) + 1) == rootP ns ((j : Int) + 1) && decide (cmpI (numD ns (fOf F) ((i : Int) + 1, c)) (numD ns (fOf F) ((j : Int) + 1, d)) ≤ 0)) := by rw [cmpI_le]; rfl
  rw [hc]
  clear hc
  obtain ⟨bx, g0, g1, sx⟩ := two_newB w (numsO (some ⟨b, off, none⟩) cap ns.length bR bF bL (ns.length + 1)) (.cells #[.int .i64 ((i : Int) + 1), .int .i64 c, .int .i64 ((j : Int) + 1), .int .i64 d] 44)
  have h1 := pOneTree_any (some ⟨b, off, none⟩) cap bR bF bL i j ns R F L _ (hn.later bx) hi hj
  have H2 : Hid (∀ V : World, Below w.heap.size w V → _) := fun V hV => pCompare_any b off cap bR bF bL i j c d ns R F L V hR (hF.later hV) (hn.later hV) hi hj hp hq
  clear hF hn hp hq hR hi hj
  unfold numsV bndV rngV at *
  unfold numsO at *
  generalize ns.length + 1 = N at *
  generalize (rootP ns ((i : Int) + 1) == rootP ns ((j : Int) + 1)) = T at *
  generalize cmpI (numD ns (fOf F) ((i : Int) + 1, c)) (numD ns (fOf F) ((j : Int) + 1, d)) = Z at *
  have HG0 := hid g0
  have HG1 := hid g1
  have Hbx := hid bx
  have Hsx := hid sx
  clear g0 g1 bx sx
  cases T with
  | false =>
    go_enter Tryz.func55, Tryz.ntmps55
    go_wp2_with fail
    refine h1.mono ?_
    rintro e v1 ⟨rfl, hb1⟩
    have HB := hid (Hbx.out.trans (hb1.mono Hbx.out.size))
    clear hb1 h1
    go_wp2
    go_ret
    exact ⟨rfl, HB.out⟩
  | true =>
    go_enter Tryz.func55, Tryz.ntmps55
    go_wp2_with fail
    refine h1.mono ?_
    rintro e v1 ⟨rfl, hb1⟩
    have hs1 := hb1.size
    have sx := Hsx.out
    obtain ⟨n0, n1, n2, n3⟩ := sv_cells ((hb1.block w.heap.size (by omega)).trans HG0.out)
    obtain ⟨a0, a1, a2, a3⟩ := rng_cells ((hb1.block (w.heap.size + 1) (by omega)).trans HG1.out)
    have HB := hid (Hbx.out.trans (hb1.mono Hbx.out.size))
    clear hb1 h1 hs1 sx
    go_wp2_with fail
    refine (H2.out v1 HB.out).mono ?_
    rintro e v2 ⟨rfl, hb2⟩
    have HB2 := hid (HB.out.trans (hb2.mono HB.out.size))
    clear hb2 n0 n1 n2 n3 a0 a1 a2 a3
    go_wp2
    go_ret
    exact ⟨rfl, HB2.out⟩

/-- Points that are handed on. -/
def RdB (w : World) (v : Value) (l : List (Int × Int)) : Prop :=
  ∃ o cap, v = .slice o l.length cap ∧ l.length ≤ cap ∧ (0 < l.length → ∃ b off, o = some ⟨b, off, none⟩ ∧ b < w.heap.size ∧ ∀ (j : Nat) (h : j < l.length), w.cell? ⟨b, off + j * 2, none⟩ = some (.int .i64 l[j].1) ∧ w.cell? ⟨b, off + j * 2 + 1, none⟩ = some (.int .i64 l[j].2))
theorem RdB.later {w W : World} {v : Value} {l : List (Int × Int)} (h : RdB w v l) (hb : Below w.heap.size w W) : RdB W v l := by
  obtain ⟨o, cap, rfl, hc, g⟩ := h
  refine ⟨o, cap, rfl, hc, fun hp => ?_⟩
  obtain ⟨b, off, rfl, hlt, ha⟩ := g hp
  exact ⟨b, off, rfl, Nat.lt_of_lt_of_le hlt hb.size, fun j hj => ⟨cellLater hb hlt (ha j hj).1, cellLater hb hlt (ha j hj).2⟩⟩
/-- Does a point's offset lie in its node? -/
def inLen (ns : List NodeD) (b : Int × Int) : Bool := decide (0 ≤ b.2) && decide (b.2 ≤ (lenN ns b.1 : Int))
/-- Why one of some points is none. -/
def wrongD (ns : List NodeD) (l : List (Int × Int)) : Int := if l.all (fun b => thereB ns.length b.1) then (if l.all (inLen ns) then 0 else 14) else 2
theorem wrongD_zero {ns : List NodeD} {l : List (Int × Int)} : wrongD ns l = 0 ↔ ∀ b ∈ l, isPt ns b := by
  unfold wrongD isPt inLen
  constructor
  · intro h b hb
    split at h
    · rename_i h1
      split at h
      · rename_i h2
        have k1 := List.all_eq_true.1 h1 b hb
        have k2 := List.all_eq_true.1 h2 b hb
        simp only [Bool.and_eq_true, decide_eq_true_eq] at k2
        exact ⟨k1, k2⟩
      · simp at h
    · simp at h
  · intro h
    rw [if_pos (List.all_eq_true.2 fun b hb => (h b hb).1), if_pos (List.all_eq_true.2 fun b hb => by simp only [Bool.and_eq_true, decide_eq_true_eq]; exact (h b hb).2)]

set_option maxRecDepth 100000 in
set_option maxHeartbeats 8000000 in
theorem pWrong_any (o : Option Addr) (cap bR bF bL : Nat) (v : Value) (l : List (Int × Int)) (ns : List NodeD) (w : World) (hR : RightF ns) (hF : FRd w o cap ns) (hv : RdB w v l) (hl : l.length ≤ 4096) :
    Calls Tryz.prog 87 #[numsV o cap ns.length bR bF bL (ns.length + 1), v] w fun e w' => e = .returned (.int .i64 (wrongD ns l)) ∧ Below w.heap.size w w' := by
  obtain ⟨ov, cv, rfl, hcv, g⟩ := hv
  obtain ⟨Z, hZ⟩ : ∃ Z, wrongD ns l = Z := ⟨_, rfl⟩
  rw [hZ]
  have HZ := hid hZ
  have HG := hid g
  have hle := hF.len
  have bx : Below w.heap.size w (w.alloc (numsO o cap ns.length bR bF bL (ns.length + 1))) := (Below.refl _ w).alloc (Nat.le_refl _) _
  have g0 := heap_new w (numsO o cap ns.length bR bF bL (ns.length + 1))
  have sx : (w.alloc (numsO o cap ns.length bR bF bL (ns.length + 1))).heap.size = w.heap.size + 1 := by simp
  have HL : Hid (∀ (j : Nat) (hj : j < ns.length) (V : World), Below w.heap.size w V → Calls Tryz.prog 90 #[numsV o cap ns.length bR bF bL (ns.length + 1), .int .i64 ((j : Int) + 1)] V fun e w' => e = .returned (.int .i64 (lenN ns ((j : Int) + 1) : Int)) ∧ Below V.heap.size V w') := by
    intro j hj V hV
    obtain ⟨b, off, rfl, hFA⟩ := hF.at_ (by omega)
    rw [lenN_at j hj]
    exact pLength_any b off cap bR bF bL _ j ns V hR (hFA.later hV) hj
  clear hF hR hZ g
  unfold numsV at *
  unfold numsO at *
  generalize hN : ns.length + 1 = N at *
  clear hN
  go_enter Tryz.func87, Tryz.ntmps87
  go_upto_region 1 with fail
  generalize (w.alloc (.cells #[.slice o ns.length cap, .slice (some ⟨bR, 0, none⟩) N N, .slice (some ⟨bF, 0, none⟩) N N, .slice (some ⟨bL, 0, none⟩) N N] 77)) = W0 at *
  go_wp2
  go_loopw [11] (fun t wr => ∃ k : Nat, k ≤ l.length ∧ t = .int .i64 k ∧ Hid (Below W0.heap.size W0 wr) ∧ Hid (∀ b ∈ l.take k, thereB ns.length b.1 = true)) (fun t _ => l.length - (RowKit.intOf t).toNat)
  case atStart => exact ⟨0, Nat.zero_le _, rfl, Below.refl _ _, by intro b hb; simp at hb⟩
  case round =>
    obtain ⟨k, hk, rfl, hB, hA⟩ := hrel
    by_cases hlt : k < l.length
    · obtain ⟨b, off, rfl, hltb, ha⟩ := HG.out (by omega)
      have hBw := bx.trans (hB.out.mono bx.size)
      have x1 := cellLater hBw hltb (ha k hlt).1
      have x2 := cellLater hBw hltb (ha k hlt).2
      have q1 : (0 : Int) ≤ (k : Int) := by omega
      have q2 : (k : Int) < (l.length : Int) := by omega
      have dl : decide ((k : Int) < (l.length : Int)) = true := decide_eq_true q2
      have hs := hB.out.size
      have hnb := heap_new wr (.cells #[.int .i64 l[k].1, .int .i64 l[k].2] 26)
      have hB2 := hB.out.alloc hs (.cells #[.int .i64 l[k].1, .int .i64 l[k].2] 26)
      obtain ⟨n0, n1, n2, n3⟩ := sv_cells ((hB2.block w.heap.size (by omega)).trans g0)
      obtain ⟨b0, b1⟩ := bnd_cells hnb
      have HBw := hid (bx.trans (hB2.mono bx.size))
      have HB2 := hid hB2
      have htk : l.take (k + 1) = l.take k ++ [l[k]] := by rw [List.take_add_one, List.getElem?_eq_getElem hlt]; rfl
      have Htk := hid htk
      have Hmem := hid (List.getElem_mem hlt)
      clear ha hBw hnb hB2 htk HL
      generalize l[k] = p at *
      have HNo : Hid (thereB ns.length p.1 = false → Z = 2) := fun hf => by
        rw [← HZ.out]
        unfold wrongD
        rw [if_neg]
        intro hall
        have := List.all_eq_true.1 hall p Hmem.out
        rw [hf] at this
        cases this
      by_cases e1 : p.1 < 1
      · have d1 : decide (p.1 < 1) = true := decide_eq_true e1
        have hz2 : Z = 2 := HNo.out (by unfold thereB; rw [decide_eq_false (by omega)]; rfl)
        subst hz2
        go_wp2
        go_ret
        exact ⟨rfl, HBw.out⟩
      · have d1 : decide (p.1 < 1) = false := decide_eq_false e1
        by_cases e2 : (ns.length : Int) < p.1
        · have d2 : decide ((ns.length : Int) < p.1) = true := decide_eq_true e2
          have hz2 : Z = 2 := HNo.out (by unfold thereB; rw [decide_eq_false (p := p.1 ≤ _) (by omega), Bool.and_false])
          subst hz2
          go_wp2
          go_ret
          exact ⟨rfl, HBw.out⟩
        · have d2 : decide ((ns.length : Int) < p.1) = false := decide_eq_false e2
          have HA2 : Hid (∀ b ∈ l.take (k + 1), thereB ns.length b.1 = true) := by
            intro b hb
            rw [Htk.out, List.mem_append, List.mem_singleton] at hb
            rcases hb with hb | rfl
            · exact hA.out b hb
            · unfold thereB
              rw [decide_eq_true (by omega), decide_eq_true (by omega)]
              rfl
          clear hA hB
          go_wp2
          go_roundw
          case rel => exact ⟨k + 1, by omega, by go_num, HB2, HA2⟩
          case measure => simp [RowKit.intOf]; omega
    · have hkn : k = l.length := by omega
      have hA2 := hA.out
      rw [hkn, List.take_length] at hA2
      have HA2 := hid hA2
      have dl : decide ((k : Int) < (l.length : Int)) = false := decide_eq_false (by omega)
      have HB := hB
      clear hA hA2 hB hkn
      have HZ2 : Hid (Z = if l.all (inLen ns) then 0 else 14) := by
        show _ = _
        rw [← HZ.out]
        unfold wrongD
        rw [if_pos (List.all_eq_true.2 HA2.out)]
      go_wp2
      go_loopw [30] (fun t wr => ∃ k : Nat, k ≤ l.length ∧ t = .int .i64 k ∧ Hid (Below W0.heap.size W0 wr) ∧ Hid (∀ b ∈ l.take k, inLen ns b = true)) (fun t _ => l.length - (RowKit.intOf t).toNat)
      case atStart => exact ⟨0, Nat.zero_le _, rfl, HB, by intro b hb; simp at hb⟩
      case round =>
        obtain ⟨k, hk, rfl, hB, hA⟩ := hrel
        clear HB dl
        by_cases hlt : k < l.length
        · obtain ⟨b, off, rfl, hltb, ha⟩ := HG.out (by omega)
          have hBw := bx.trans (hB.out.mono bx.size)
          have x1 := cellLater hBw hltb (ha k hlt).1
          have x2 := cellLater hBw hltb (ha k hlt).2
          have q1 : (0 : Int) ≤ (k : Int) := by omega
          have q2 : (k : Int) < (l.length : Int) := by omega
          have dl : decide ((k : Int) < (l.length : Int)) = true := decide_eq_true q2
          have hs := hB.out.size
          have hnb := heap_new wr (.cells #[.int .i64 l[k].1, .int .i64 l[k].2] 26)
          have hB2 := hB.out.alloc hs (.cells #[.int .i64 l[k].1, .int .i64 l[k].2] 26)
          obtain ⟨n0, n1, n2, n3⟩ := sv_cells ((hB2.block w.heap.size (by omega)).trans g0)
          obtain ⟨b0, b1⟩ := bnd_cells hnb
          have HBw := hid (bx.trans (hB2.mono bx.size))
          have HB2 := hid hB2
          have htk : l.take (k + 1) = l.take k ++ [l[k]] := by rw [List.take_add_one, List.getElem?_eq_getElem hlt]; rfl
          have Htk := hid htk
          have Hmem := hid (List.getElem_mem hlt)
          obtain ⟨j, hj, ej⟩ := there_idx (HA2.out _ Hmem.out)
          have hCall := HL.out j hj
          rw [← ej] at hCall
          have sxr : (wr.alloc (.cells #[.int .i64 l[k].1, .int .i64 l[k].2] 26)).heap.size = wr.heap.size + 1 := by simp
          have HCall := hid hCall
          clear ha hBw hnb hB2 htk HL hCall ej
          generalize l[k] = p at *
          go_upto_region 10 with fail
          generalize (wr.alloc (.cells #[.int .i64 p.1, .int .i64 p.2] 26)) = Wr at *
          have HNo : Hid (inLen ns p = false → Z = 14) := fun hf => by
            rw [HZ2.out, if_neg]
            intro hall
            have := List.all_eq_true.1 hall p Hmem.out
            rw [hf] at this
            cases this
          by_cases e1 : p.2 < 0
          · have d1 : decide (p.2 < 0) = true := decide_eq_true e1
            have hz2 : Z = 14 := HNo.out (by unfold inLen; rw [decide_eq_false (by omega)]; rfl)
            subst hz2
            refine wp_region_held_drew (S := fun V => Below Wr.heap.size Wr V) (by kernel_rfl) ((Below.refl _ _).drew) (fun hHeld => ?_)
            have HB_V0 := hid hHeld
            have HS_V0 := hid hHeld.size
            generalize Wr.drew = V0 at *
            refine wpAnyH_one 0 34 (.pointer (some ⟨wr.heap.size, 1, none⟩)) hHeld rfl rfl (by kernel_rfl) (fun _ _ _ _ _ h => h) (by kernel_rfl) (by kernel_rfl) (by rfl) ?_ ?_
            · intro V hSw; (try dsimp only at hSw); go_simp
            simp only [Act.put, List.setIfInBounds_toArray, List.set_cons_zero, List.set_cons_succ]
            refine wpAnyH_one 1 35 (.int .i64 p.2) hHeld rfl rfl (by kernel_rfl) (fun _ _ _ _ _ h => h) (by kernel_rfl) (by kernel_rfl) (by rfl) ?_ ?_
            · intro V hSw; (try dsimp only at hSw); have k0 := cellLater (B := wr.heap.size) hSw (by omega) b1; go_simp
            simp only [Act.put, List.setIfInBounds_toArray, List.set_cons_zero, List.set_cons_succ]
            refine wpAnyH_one 2 36 (.bool (decide (p.2 < 0))) hHeld rfl rfl (by kernel_rfl) (fun _ _ _ _ _ h => h) (by kernel_rfl) (by kernel_rfl) (by rfl) ?_ ?_
            · intro V hSw; (try dsimp only at hSw); go_simp
            simp only [Act.put, List.setIfInBounds_toArray, List.set_cons_zero, List.set_cons_succ]
            refine wpAnyH_one 3 37 (.bool true) hHeld rfl rfl (by kernel_rfl) (fun _ _ _ _ _ h => h) (by kernel_rfl) (by kernel_rfl) (by rfl) ?_ ?_
            · intro V hSw; (try dsimp only at hSw); go_simp
            simp only [Act.put, List.setIfInBounds_toArray, List.set_cons_zero, List.set_cons_succ]
            refine wpAnyH_skips [(4, 38), (5, 39), (6, 40), (7, 41), (8, 42), (9, 43), (10, 44)] 1 hHeld (by kernel_rfl) (fun _ _ _ _ _ h => h) (by kernel_rfl) (by kernel_rfl) ?_
            simp only [actAfter, listedAfter, Act.put, List.setIfInBounds_toArray, List.set_cons_zero, List.set_cons_succ]
            refine wpAnyH_one 11 45 (.bool true) hHeld rfl rfl (by kernel_rfl) (fun _ _ _ _ _ h => h) (by kernel_rfl) (by kernel_rfl) (by rfl) ?_ ?_
            · intro V hSw; (try dsimp only at hSw); go_simp
            simp only [Act.put, List.setIfInBounds_toArray, List.set_cons_zero, List.set_cons_succ]
            refine wpAnyH_done (by kernel_rfl) ?_ _
            go_wp2
            go_ret
            exact ⟨rfl, HBw.out.trans (HB_V0.out.mono HBw.out.size)⟩
          · have d1 : decide (p.2 < 0) = false := decide_eq_false e1
            by_cases e2 : (lenN ns p.1 : Int) < p.2
            · have d2 : decide ((lenN ns p.1 : Int) < p.2) = true := decide_eq_true e2
              have hz2 : Z = 14 := HNo.out (by unfold inLen; rw [decide_eq_false (p := p.2 ≤ _) (by omega), Bool.and_false])
              subst hz2
              refine wp_region_held_drew (S := fun V => Below Wr.heap.size Wr V) (by kernel_rfl) ((Below.refl _ _).drew) (fun hHeld => ?_)
              have HB_V0 := hid hHeld
              have HS_V0 := hid hHeld.size
              generalize Wr.drew = V0 at *
              refine wpAnyH_one 0 34 (.pointer (some ⟨wr.heap.size, 1, none⟩)) hHeld rfl rfl (by kernel_rfl) (fun _ _ _ _ _ h => h) (by kernel_rfl) (by kernel_rfl) (by rfl) ?_ ?_
              · intro V hSw; (try dsimp only at hSw); go_simp
              simp only [Act.put, List.setIfInBounds_toArray, List.set_cons_zero, List.set_cons_succ]
              refine wpAnyH_one 1 35 (.int .i64 p.2) hHeld rfl rfl (by kernel_rfl) (fun _ _ _ _ _ h => h) (by kernel_rfl) (by kernel_rfl) (by rfl) ?_ ?_
              · intro V hSw; (try dsimp only at hSw); have k0 := cellLater (B := wr.heap.size) hSw (by omega) b1; go_simp
              simp only [Act.put, List.setIfInBounds_toArray, List.set_cons_zero, List.set_cons_succ]
              refine wpAnyH_one 2 36 (.bool (decide (p.2 < 0))) hHeld rfl rfl (by kernel_rfl) (fun _ _ _ _ _ h => h) (by kernel_rfl) (by kernel_rfl) (by rfl) ?_ ?_
              · intro V hSw; (try dsimp only at hSw); go_simp
              simp only [Act.put, List.setIfInBounds_toArray, List.set_cons_zero, List.set_cons_succ]
              refine wpAnyH_one 3 37 (.bool false) hHeld rfl rfl (by kernel_rfl) (fun _ _ _ _ _ h => h) (by kernel_rfl) (by kernel_rfl) (by rfl) ?_ ?_
              · intro V hSw; (try dsimp only at hSw); go_simp
              simp only [Act.put, List.setIfInBounds_toArray, List.set_cons_zero, List.set_cons_succ]
              refine wpAnyH_one 4 38 (.pointer (some ⟨wr.heap.size, 1, none⟩)) hHeld rfl rfl (by kernel_rfl) (fun _ _ _ _ _ h => h) (by kernel_rfl) (by kernel_rfl) (by rfl) ?_ ?_
              · intro V hSw; (try dsimp only at hSw); go_simp
              simp only [Act.put, List.setIfInBounds_toArray, List.set_cons_zero, List.set_cons_succ]
              refine wpAnyH_one 5 39 (.int .i64 p.2) hHeld rfl rfl (by kernel_rfl) (fun _ _ _ _ _ h => h) (by kernel_rfl) (by kernel_rfl) (by rfl) ?_ ?_
              · intro V hSw; (try dsimp only at hSw); have k0 := cellLater (B := wr.heap.size) hSw (by omega) b1; go_simp
              simp only [Act.put, List.setIfInBounds_toArray, List.set_cons_zero, List.set_cons_succ]
              refine wpAnyH_one 6 40 (.agg #[.slice o ns.length cap, .slice (some ⟨bR, 0, none⟩) N N, .slice (some ⟨bF, 0, none⟩) N N, .slice (some ⟨bL, 0, none⟩) N N]) hHeld rfl rfl (by kernel_rfl) (fun _ _ _ _ _ h => h) (by kernel_rfl) (by kernel_rfl) (by rfl) ?_ ?_
              · intro V hSw; (try dsimp only at hSw); have k0 := cellLater (B := w.heap.size) hSw (by omega) n0; have k1 := cellLater (B := w.heap.size) hSw (by omega) n1; have k2 := cellLater (B := w.heap.size) hSw (by omega) n2; have k3 := cellLater (B := w.heap.size) hSw (by omega) n3; go_simp
              simp only [Act.put, List.setIfInBounds_toArray, List.set_cons_zero, List.set_cons_succ]
              refine wpAnyH_one 7 41 (.pointer (some ⟨wr.heap.size, 0, none⟩)) hHeld rfl rfl (by kernel_rfl) (fun _ _ _ _ _ h => h) (by kernel_rfl) (by kernel_rfl) (by rfl) ?_ ?_
              · intro V hSw; (try dsimp only at hSw); go_simp
              simp only [Act.put, List.setIfInBounds_toArray, List.set_cons_zero, List.set_cons_succ]
              refine wpAnyH_one 8 42 (.int .i64 p.1) hHeld rfl rfl (by kernel_rfl) (fun _ _ _ _ _ h => h) (by kernel_rfl) (by kernel_rfl) (by rfl) ?_ ?_
              · intro V hSw; (try dsimp only at hSw); have k0 := cellLater (B := wr.heap.size) hSw (by omega) b0; go_simp
              simp only [Act.put, List.setIfInBounds_toArray, List.set_cons_zero, List.set_cons_succ]
              refine wpAnyH_ready (rs := [9]) (by kernel_rfl) (by simp) ?_
              refine AllReadyH.cons rfl (fun K hK => ?_) AllReadyH.nil
              go_simp
              go_wp2_with (go_at_call 90; refine (HCall.out V0 (HBw.out.trans (HB_V0.out.mono HBw.out.size))).mono ?_; rintro e V1 ⟨rfl, hb⟩; have HB_V1 := hid (HB_V0.out.trans (hb.mono HB_V0.out.size)); have HS_V1 := hid (HB_V1.out.size))
              refine hK.out _ _ HB_V1.out (fun hHeld => ?_)
              clear hK K
              refine wpAnyH_one 10 44 (.bool (decide ((lenN ns p.1 : Int) < p.2))) hHeld rfl rfl (by kernel_rfl) (fun _ _ _ _ _ h => h) (by kernel_rfl) (by kernel_rfl) (by rfl) ?_ ?_
              · intro V hSw; (try dsimp only at hSw); go_simp
              simp only [Act.put, List.setIfInBounds_toArray, List.set_cons_zero, List.set_cons_succ]
              refine wpAnyH_one 11 45 (.bool true) hHeld rfl rfl (by kernel_rfl) (fun _ _ _ _ _ h => h) (by kernel_rfl) (by kernel_rfl) (by rfl) ?_ ?_
              · intro V hSw; (try dsimp only at hSw); go_simp
              simp only [Act.put, List.setIfInBounds_toArray, List.set_cons_zero, List.set_cons_succ]
              refine wpAnyH_done (by kernel_rfl) ?_ _
              go_wp2
              go_ret
              exact ⟨rfl, HBw.out.trans (HB_V1.out.mono HBw.out.size)⟩
            · have d2 : decide ((lenN ns p.1 : Int) < p.2) = false := decide_eq_false e2
              have HA3 : Hid (∀ b ∈ l.take (k + 1), inLen ns b = true) := by
                intro b hb
                rw [Htk.out, List.mem_append, List.mem_singleton] at hb
                rcases hb with hb | rfl
                · exact hA.out b hb
                · unfold inLen
                  rw [decide_eq_true (by omega), decide_eq_true (by omega)]
                  rfl
              refine wp_region_held_drew (S := fun V => Below Wr.heap.size Wr V) (by kernel_rfl) ((Below.refl _ _).drew) (fun hHeld => ?_)
              have HB_V0 := hid hHeld
              have HS_V0 := hid hHeld.size
              generalize Wr.drew = V0 at *
              refine wpAnyH_one 0 34 (.pointer (some ⟨wr.heap.size, 1, none⟩)) hHeld rfl rfl (by kernel_rfl) (fun _ _ _ _ _ h => h) (by kernel_rfl) (by kernel_rfl) (by rfl) ?_ ?_
              · intro V hSw; (try dsimp only at hSw); go_simp
              simp only [Act.put, List.setIfInBounds_toArray, List.set_cons_zero, List.set_cons_succ]
              refine wpAnyH_one 1 35 (.int .i64 p.2) hHeld rfl rfl (by kernel_rfl) (fun _ _ _ _ _ h => h) (by kernel_rfl) (by kernel_rfl) (by rfl) ?_ ?_
              · intro V hSw; (try dsimp only at hSw); have k0 := cellLater (B := wr.heap.size) hSw (by omega) b1; go_simp
              simp only [Act.put, List.setIfInBounds_toArray, List.set_cons_zero, List.set_cons_succ]
              refine wpAnyH_one 2 36 (.bool (decide (p.2 < 0))) hHeld rfl rfl (by kernel_rfl) (fun _ _ _ _ _ h => h) (by kernel_rfl) (by kernel_rfl) (by rfl) ?_ ?_
              · intro V hSw; (try dsimp only at hSw); go_simp
              simp only [Act.put, List.setIfInBounds_toArray, List.set_cons_zero, List.set_cons_succ]
              refine wpAnyH_one 3 37 (.bool false) hHeld rfl rfl (by kernel_rfl) (fun _ _ _ _ _ h => h) (by kernel_rfl) (by kernel_rfl) (by rfl) ?_ ?_
              · intro V hSw; (try dsimp only at hSw); go_simp
              simp only [Act.put, List.setIfInBounds_toArray, List.set_cons_zero, List.set_cons_succ]
              refine wpAnyH_one 4 38 (.pointer (some ⟨wr.heap.size, 1, none⟩)) hHeld rfl rfl (by kernel_rfl) (fun _ _ _ _ _ h => h) (by kernel_rfl) (by kernel_rfl) (by rfl) ?_ ?_
              · intro V hSw; (try dsimp only at hSw); go_simp
              simp only [Act.put, List.setIfInBounds_toArray, List.set_cons_zero, List.set_cons_succ]
              refine wpAnyH_one 5 39 (.int .i64 p.2) hHeld rfl rfl (by kernel_rfl) (fun _ _ _ _ _ h => h) (by kernel_rfl) (by kernel_rfl) (by rfl) ?_ ?_
              · intro V hSw; (try dsimp only at hSw); have k0 := cellLater (B := wr.heap.size) hSw (by omega) b1; go_simp
              simp only [Act.put, List.setIfInBounds_toArray, List.set_cons_zero, List.set_cons_succ]
              refine wpAnyH_one 6 40 (.agg #[.slice o ns.length cap, .slice (some ⟨bR, 0, none⟩) N N, .slice (some ⟨bF, 0, none⟩) N N, .slice (some ⟨bL, 0, none⟩) N N]) hHeld rfl rfl (by kernel_rfl) (fun _ _ _ _ _ h => h) (by kernel_rfl) (by kernel_rfl) (by rfl) ?_ ?_
              · intro V hSw; (try dsimp only at hSw); have k0 := cellLater (B := w.heap.size) hSw (by omega) n0; have k1 := cellLater (B := w.heap.size) hSw (by omega) n1; have k2 := cellLater (B := w.heap.size) hSw (by omega) n2; have k3 := cellLater (B := w.heap.size) hSw (by omega) n3; go_simp
              simp only [Act.put, List.setIfInBounds_toArray, List.set_cons_zero, List.set_cons_succ]
              refine wpAnyH_one 7 41 (.pointer (some ⟨wr.heap.size, 0, none⟩)) hHeld rfl rfl (by kernel_rfl) (fun _ _ _ _ _ h => h) (by kernel_rfl) (by kernel_rfl) (by rfl) ?_ ?_
              · intro V hSw; (try dsimp only at hSw); go_simp
              simp only [Act.put, List.setIfInBounds_toArray, List.set_cons_zero, List.set_cons_succ]
              refine wpAnyH_one 8 42 (.int .i64 p.1) hHeld rfl rfl (by kernel_rfl) (fun _ _ _ _ _ h => h) (by kernel_rfl) (by kernel_rfl) (by rfl) ?_ ?_
              · intro V hSw; (try dsimp only at hSw); have k0 := cellLater (B := wr.heap.size) hSw (by omega) b0; go_simp
              simp only [Act.put, List.setIfInBounds_toArray, List.set_cons_zero, List.set_cons_succ]
              refine wpAnyH_ready (rs := [9]) (by kernel_rfl) (by simp) ?_
              refine AllReadyH.cons rfl (fun K hK => ?_) AllReadyH.nil
              go_simp
              go_wp2_with (go_at_call 90; refine (HCall.out V0 (HBw.out.trans (HB_V0.out.mono HBw.out.size))).mono ?_; rintro e V1 ⟨rfl, hb⟩; have HB_V1 := hid (HB_V0.out.trans (hb.mono HB_V0.out.size)); have HS_V1 := hid (HB_V1.out.size))
              refine hK.out _ _ HB_V1.out (fun hHeld => ?_)
              clear hK K
              refine wpAnyH_one 10 44 (.bool (decide ((lenN ns p.1 : Int) < p.2))) hHeld rfl rfl (by kernel_rfl) (fun _ _ _ _ _ h => h) (by kernel_rfl) (by kernel_rfl) (by rfl) ?_ ?_
              · intro V hSw; (try dsimp only at hSw); go_simp
              simp only [Act.put, List.setIfInBounds_toArray, List.set_cons_zero, List.set_cons_succ]
              refine wpAnyH_one 11 45 (.bool false) hHeld rfl rfl (by kernel_rfl) (fun _ _ _ _ _ h => h) (by kernel_rfl) (by kernel_rfl) (by rfl) ?_ ?_
              · intro V hSw; (try dsimp only at hSw); go_simp
              simp only [Act.put, List.setIfInBounds_toArray, List.set_cons_zero, List.set_cons_succ]
              refine wpAnyH_done (by kernel_rfl) ?_ _
              have HB3 := hid (HB2.out.trans (HB_V1.out.mono HB2.out.size))
              clear hA hB HB2
              go_wp2
              go_roundw
              case rel => exact ⟨k + 1, by omega, by go_num, HB3, HA3⟩
              case measure => simp [RowKit.intOf]; omega
        · have hkn : k = l.length := by omega
          have hz0 : Z = 0 := by
            rw [HZ2.out, if_pos]
            have := hA.out
            rw [hkn, List.take_length] at this
            exact List.all_eq_true.2 this
          subst hz0
          have dl : decide ((k : Int) < (l.length : Int)) = false := decide_eq_false (by omega)
          have HBf := hid (bx.trans (hB.out.mono bx.size))
          clear hkn hA hB
          go_wp2
          go_ret
          exact ⟨rfl, HBf.out⟩
end Go.Proofs.YtilacgcjbdkphaaGreat

namespace Go.Proofs.YtilacgcjbdkphaaGreat
open Go.RowKit Go.Lib Go.Shelf

/-- Points, cell by cell. -/
def rowP (l : List (Int × Int)) : List Value := l.flatMap fun p => [.int .i64 p.1, .int .i64 p.2]
theorem rowP_len (l : List (Int × Int)) : (rowP l).length = l.length * 2 := by
  induction l with
  | nil => rfl
  | cons p l ih => rw [show rowP (p :: l) = .int .i64 p.1 :: .int .i64 p.2 :: rowP l from rfl, List.length_cons, List.length_cons, ih, List.length_cons]; omega
theorem rowP_append (a b : List (Int × Int)) : rowP (a ++ b) = rowP a ++ rowP b := by unfold rowP; rw [List.flatMap_append]
theorem rowP_one (l : List (Int × Int)) : ∀ u ∈ rowP l, u.oneCell' = true := by
  intro u hu
  unfold rowP at hu
  obtain ⟨p, _, hp⟩ := List.mem_flatMap.1 hu
  simp only [List.mem_cons, List.not_mem_nil, or_false] at hp
  rcases hp with rfl | rfl <;> rfl
theorem rowP_get : ∀ (l : List (Int × Int)) (j : Nat) (h : j < l.length), (rowP l)[j * 2]? = some (.int .i64 l[j].1) ∧ (rowP l)[j * 2 + 1]? = some (.int .i64 l[j].2)
  | p :: l, 0, _ => ⟨rfl, rfl⟩
  | p :: l, j + 1, h => by
    have ih := rowP_get l j (by simpa using h)
    have e : rowP (p :: l) = .int .i64 p.1 :: .int .i64 p.2 :: rowP l := rfl
    rw [e, show (j + 1) * 2 = j * 2 + 1 + 1 by omega]
    simpa using ih
  | [], _, h => by simp at h
theorem rowP_cell (l : List (Int × Int)) (f : Nat → Option Value) (hf : ∀ (j : Nat) (h : j < l.length), f (j * 2) = some (.int .i64 l[j].1) ∧ f (j * 2 + 1) = some (.int .i64 l[j].2)) : ∀ j u, (rowP l)[j]? = some u → f j = some u := by
  intro j u hj
  have hlt : j < (rowP l).length := by
    rcases Nat.lt_or_ge j (rowP l).length with h | h
    · exact h
    · rw [List.getElem?_eq_none h] at hj; cases hj
  rw [rowP_len] at hlt
  have h1 := rowP_get l (j / 2) (by omega)
  have h2 := hf (j / 2) (by omega)
  rcases Nat.mod_two_eq_zero_or_one j with e | e
  · have ej : j / 2 * 2 = j := by omega
    rw [ej] at h1 h2
    rw [h1.1] at hj
    rw [h2.1, hj]
  · have ej : j / 2 * 2 + 1 = j := by omega
    rw [ej] at h1 h2
    rw [h1.2] at hj
    rw [h2.2, hj]
theorem info_bndB : (Tryz.prog.info? 26).map (fun i => (i.zero, i.size, i.bytes)) = some (some (.agg #[.int .i64 0, .int .i64 0]), 2, 16) := by kernel_rfl
theorem ownsP_rd {W : World} {base : Nat} {v : Value} {l : List (Int × Int)} (h : W.ownsRow base 26 2 v l.length (rowP l)) : RdB W v l := by
  obtain ⟨_, ⟨rfl, h0⟩ | ⟨g, cp, cur, rfl, hg, hh, hnc, hcm, hcs, htk⟩⟩ := h
  · exact ⟨none, 0, by rw [h0], by omega, fun hp => absurd hp (by omega)⟩
  · refine ⟨_, cp, rfl, hnc, fun _ => ⟨g, 0, rfl, (Array.getElem?_eq_some_iff.1 hh).1, fun j hj => ?_⟩⟩
    have key : ∀ i u, (rowP l)[i]? = some u → W.cell? ⟨g, 0 + i, none⟩ = some u := fun i u hi => by
      rw [cell_of_heap hh, Nat.zero_add]
      have h1 : (cur.toList.take (l.length * 2))[i]? = some u := by rw [htk]; exact hi
      rw [List.getElem?_take] at h1
      split at h1
      · simpa using h1
      · cases h1
    have hr := rowP_get l j hj
    exact ⟨key _ _ hr.1, by rw [Nat.add_assoc]; exact key _ _ hr.2⟩
/-- Points that are put behind a row of the call's own. -/
theorem run_append_rdB (w : World) (B : Nat) (v src : Value) (done us : List (Int × Int)) (ty : TypeId) (hown : w.ownsRow B 26 2 v done.length (rowP done)) (hB : B ≤ w.heap.size) (hr : RdB w src us) (hn : done.length + us.length ≤ 1099511627776) :
    ∃ v' w', (Builtin.append_ #[35, 35] ty #[v, src]).run Tryz.prog w = .ok v' w' ∧ w'.ownsRow B 26 2 v' (done ++ us).length (rowP (done ++ us)) ∧ w.grownBy w' v.ownBlock := by
  obtain ⟨i0, hi, hz0, hz1, hz2⟩ := info_parts info_bndB
  have hcase : (∃ cap, src = .slice none 0 cap ∧ us = []) ∨ ∃ b off cap, src = .slice (some ⟨b, off, none⟩) us.length cap ∧ (∀ (j : Nat) (h : j < us.length), w.cell? ⟨b, off + j * 2, none⟩ = some (.int .i64 us[j].1) ∧ w.cell? ⟨b, off + j * 2 + 1, none⟩ = some (.int .i64 us[j].2)) ∨ us = [] ∧ ∃ a cap, src = .slice (some a) 0 cap := by
    obtain ⟨o, cap, rfl, _, g⟩ := hr
    by_cases h0 : us.length = 0
    · have hn : us = [] := List.eq_nil_of_length_eq_zero h0
      subst hn
      cases o with
      | none => exact .inl ⟨cap, rfl, rfl⟩
      | some a => exact .inr ⟨a.block, a.off, cap, .inr ⟨rfl, a, cap, rfl⟩⟩
    · obtain ⟨b, off, rfl, _, ha⟩ := g (by omega)
      exact .inr ⟨b, off, cap, .inl ⟨rfl, ha⟩⟩
  have fin : ∀ (a : Addr) (cap : Nat), (∀ j u, (rowP us)[j]? = some u → w.cell? (a.add j) = some u) → ∃ v' w', (Builtin.append_ #[35, 35] ty #[v, .slice (some a) us.length cap]).run Tryz.prog w = .ok v' w' ∧ w'.ownsRow B 26 2 v' (done ++ us).length (rowP (done ++ us)) ∧ w.grownBy w' v.ownBlock := fun a cap hc => by
    obtain ⟨v', w', h1, h2, h3, _⟩ := run_append_own (P := Tryz.prog) w B 35 ty 26 i0 (.agg #[.int .i64 0, .int .i64 0]) 2 16 Tryz.underlying35 hi hz0 hz1 hz2 rfl (by decide) v done.length (rowP done) hown a us.length cap (rowP us) (rowP_len us) hc (rowP_one us) (by unfold maxLen; omega) (by omega) hB
    exact ⟨v', w', h1, by rw [List.length_append, rowP_append]; exact h2, h3⟩
  rcases hcase with ⟨cap, rfl, rfl⟩ | ⟨b, off, cap, ⟨rfl, hc⟩ | ⟨rfl, a, cap, rfl⟩⟩
  · refine ⟨v, w, ?_, by simpa using hown, ⟨rfl, rfl, rfl, Nat.le_refl _, fun _ _ _ => rfl⟩⟩
    rcases hown.2 with ⟨hv, _⟩ | ⟨g, c, cur, hv, _, hg, hnc, _⟩
    · subst hv
      have hs := Src.ofNil (P := Tryz.prog) w (size := i0.size) Tryz.underlying35 cap
      simp [Builtin.append_, run_underlying Tryz.underlying35, sizeOf, typeInfo, hi, Builtin.lenOf]
      rw [hs.cells]
      rfl
    · subst hv
      have hs := Src.ofNil (P := Tryz.prog) w (size := i0.size) Tryz.underlying35 cap
      have h := run_append_room_src w 35 35 ty 26 i0 Tryz.underlying35 hi g 0 done.length c (.slice none 0 cap) 0 [] hs (by omega) (fun j hj => by simp at hj) (fun j hj => by simp at hj)
      exact h
  · refine fin _ cap (rowP_cell us (fun j => w.cell? ((⟨b, off, none⟩ : Addr).add j)) fun j hj => ?_)
    have e : ∀ i, (⟨b, off, none⟩ : Addr).add i = ⟨b, off + i, none⟩ := fun i => by simp [Addr.add]
    simp only [e]
    exact ⟨(hc j hj).1, by rw [← Nat.add_assoc]; exact (hc j hj).2⟩
  · exact fin a cap fun j u hj => by simp [rowP] at hj
theorem below_grownB {B : Nat} {w w1 : World} {v : Value} {n : Nat} {xs : List Value} (hown : w.ownsRow B 26 2 v n xs) (hB : B ≤ w.heap.size) (hg : w.grownBy w1 v.ownBlock) : Below B w w1 :=
  (Below.refl B w).grown hg hB (fun j hj => (hown.lt j hj).1)

set_option maxRecDepth 100000 in
set_option maxHeartbeats 1000000 in
theorem growB_nil (n : Nat) (w : World) (hn : n ≤ 1099511627776) :
    Calls Tryz.prog 115 #[.slice none 0 0, .int .i64 n] w fun e w' => ∃ v, e = .returned v ∧ w'.ownsRow w.heap.size 26 2 v 0 (rowP []) ∧ Below w.heap.size w w' := by
  obtain ⟨i0, hi, hz0, hz1, hz2⟩ := info_parts info_bndB
  by_cases h0 : n = 0
  · subst h0
    go_enter Tryz.func115, Tryz.ntmps115
    go_wp2
    go_ret
    exact ⟨_, rfl, World.ownsRow_nil _ _ _ _, Below.refl _ _⟩
  · have h1 : ¬ ((n : Int) < 0) := by omega
    have h2 : (0 : Int) < (n : Int) := by omega
    have hold : (Builtin.firstCells i0.size 0 (.slice none 0 0)).run Tryz.prog w.drew = .ok ([] : List Value).toArray w.drew := run_firstCells_none w.drew i0.size 0 0 0
    have hap := fun ty => run_append_grow_zeros (P := Tryz.prog) w 35 3 ty 26 i0 (.agg #[.int .i64 0, .int .i64 0]) .i64 .i64 Tryz.underlying35 Tryz.underlying3 hi hz0 none 0 0 [] hold n (by omega) (by omega) (by omega) (by omega) (by rw [hz2]; omega) (growslice_fits (by omega) (by rw [hz2]; omega))
    have hge := grownCap_ge w (0 + n) 0 26
    have hlm := grownCap_le_maxLen w (0 + n) 0 26 (by unfold maxLen; omega)
    generalize grownCap w (0 + n) 0 26 = G at *
    have hcs : (([] : List Value).toArray ++ Builtin.zeroCells (Value.agg #[.int .i64 0, .int .i64 0]).cells n ++ Builtin.zeroCells (Value.agg #[.int .i64 0, .int .i64 0]).cells (G - (0 + n))).size = G * 2 := by
      simp [Builtin.zeroCells, Value.cells]
      omega
    generalize ([] : List Value).toArray ++ Builtin.zeroCells (Value.agg #[.int .i64 0, .int .i64 0]).cells n ++ Builtin.zeroCells (Value.agg #[.int .i64 0, .int .i64 0]).cells (G - (0 + n)) = C at *
    have hown : ((w.drew).alloc (.cells C 26)).ownsRow w.heap.size 26 2 (.slice (some ⟨w.heap.size, 0, none⟩) 0 G) 0 (rowP []) :=
      ⟨rfl, .inr ⟨w.heap.size, G, C, rfl, Nat.le_refl _, heap_new w.drew _, Nat.zero_le _, hlm, by omega, rfl⟩⟩
    simp only [Nat.zero_add] at hap hge
    unfold maxLen at hlm
    go_enter Tryz.func115, Tryz.ntmps115
    go_wp2_with (at_builtin; refine wpList_append_run _ rfl _ _ 35 3 rfl _ _ rfl rfl _ _ (hap _) ?_)
    go_ret
    exact ⟨_, rfl, hown, ((Below.refl _ w).drew).alloc (Nat.le_refl _) _⟩

/-- Two lists of points, put together. -/
def CellsLB (w : World) (g : Nat) (L : List (Value × List (Int × Int))) : Prop := ∀ (j : Nat) (h : j < L.length), w.cell? ⟨g, j, none⟩ = some L[j].1 ∧ RdB w L[j].1 L[j].2
theorem CellsLB.later {w W : World} {g : Nat} {L : List (Value × List (Int × Int))} (h : CellsLB w g L) (hg : g < w.heap.size) (hb : Below w.heap.size w W) : CellsLB W g L := fun j hj =>
  ⟨cellLater hb hg (h j hj).1, (h j hj).2.later hb⟩
def sumLB (L : List (Value × List (Int × Int))) : Nat := (L.map (·.2.length)).sum
def catLB (L : List (Value × List (Int × Int))) : List (Int × Int) := L.flatMap (·.2)
theorem catLB_len (L : List (Value × List (Int × Int))) : (catLB L).length = sumLB L := by
  simp [catLB, sumLB, List.length_flatMap]
theorem takeB_step (L : List (Value × List (Int × Int))) (k : Nat) (h : k < L.length) : L.take (k + 1) = L.take k ++ [L[k]] := by
  rw [List.take_add_one, List.getElem?_eq_getElem h]
  rfl
theorem sumB_step (L : List (Value × List (Int × Int))) (k : Nat) (h : k < L.length) : sumLB (L.take (k + 1)) = sumLB (L.take k) + L[k].2.length := by
  unfold sumLB
  rw [takeB_step L k h, List.map_append, List.sum_append, List.map_cons, List.map_nil, List.sum_cons, List.sum_nil, Nat.add_zero]
theorem catB_step (L : List (Value × List (Int × Int))) (k : Nat) (h : k < L.length) : catLB (L.take (k + 1)) = catLB (L.take k) ++ L[k].2 := by
  unfold catLB
  rw [takeB_step L k h, List.flatMap_append, List.flatMap_cons, List.flatMap_nil, List.append_nil]
theorem sumB_le (L : List (Value × List (Int × Int))) (k : Nat) : sumLB (L.take k) ≤ sumLB L := by
  have h : sumLB L = sumLB (L.take k) + sumLB (L.drop k) := by
    unfold sumLB
    rw [← List.sum_append, ← List.map_append, List.take_append_drop]
  omega

set_option maxRecDepth 100000 in
set_option maxHeartbeats 2000000 in
theorem concatB_any (g cap : Nat) (L : List (Value × List (Int × Int))) (w : World) (hg : g < w.heap.size) (hc : CellsLB w g L) (hl : L.length ≤ 1000) (hs : sumLB L ≤ 1000000) :
    Calls Tryz.prog 94 #[.slice (some ⟨g, 0, none⟩) L.length cap] w fun e w' => ∃ v, e = .returned v ∧ w'.ownsRow w.heap.size 26 2 v (catLB L).length (rowP (catLB L)) ∧ Below w.heap.size w w' := by
  have HG : Hid (∀ n W, n ≤ 1099511627776 → _) := growB_nil
  go_enter Tryz.func94, Tryz.ntmps94
  go_wp2
  go_loopw [3, 11] (fun sz i wr => ∃ k : Nat, k ≤ L.length ∧ i = .int .i64 k ∧ sz = .int .i64 (sumLB (L.take k)) ∧ w = wr) (fun _ i _ => L.length - (RowKit.intOf i).toNat)
  case atStart => exact ⟨0, Nat.zero_le _, rfl, rfl, rfl⟩
  case round =>
    obtain ⟨k, hk, rfl, rfl, rfl⟩ := hrel
    by_cases hlt : k < L.length
    · obtain ⟨hx, hrd⟩ := hc k hlt
      have hst := sumB_step L k hlt
      have hle := sumB_le L (k + 1)
      obtain ⟨o, c, hv, -⟩ := hrd
      rw [hv] at hx
      generalize L[k].2.length = m at *
      generalize sumLB (L.take k) = a at *
      have q : ¬ ((a : Int) + (m : Int) < 0) := by omega
      go_wp2
      go_roundw
      case rel => exact ⟨k + 1, by omega, by go_num, by rw [hst]; go_num, trivial⟩
      case measure => simp [RowKit.intOf]; omega
    · have hkl : k = L.length := by omega
      subst hkl
      rw [List.take_length]
      have hG := HG.out (sumLB L) w (by omega)
      go_wp2_with (go_at_call 115; refine hG.mono ?_; rintro e w1 ⟨v1, rfl, ho1, hb1⟩)
      go_loopw [6, 27] (fun v i wr => ∃ k : Nat, k ≤ L.length ∧ i = .int .i64 k ∧ wr.ownsRow w.heap.size 26 2 v (catLB (L.take k)).length (rowP (catLB (L.take k))) ∧ Below w.heap.size w wr) (fun _ i _ => L.length - (RowKit.intOf i).toNat)
      case atStart => exact ⟨0, Nat.zero_le _, rfl, ho1, hb1⟩
      case round =>
        obtain ⟨k, hk, rfl, ho, hb⟩ := hrel
        by_cases hlt : k < L.length
        · obtain ⟨hx, hrd⟩ := hc.later hg hb k hlt
          have hst := catB_step L k hlt
          have hss := sumB_step L k hlt
          have hle := sumB_le L (k + 1)
          have hcl := catLB_len (L.take k)
          obtain ⟨v', w', h1, h2, h3⟩ := run_append_rdB wr w.heap.size _ _ _ _ 35 ho hb.size hrd (by rw [hcl]; omega)
          have hb2 := hb.trans (below_grownB ho hb.size h3)
          rw [← hst] at h2
          generalize L[k].1 = x at *
          go_wp2_with (at_builtin; refine wpList_append_run _ rfl _ _ 35 35 rfl _ _ rfl rfl _ _ h1 ?_)
          go_roundw
          case rel => exact ⟨k + 1, by omega, by go_num, h2, hb2⟩
          case measure => simp [RowKit.intOf]; omega
        · have hkl : k = L.length := by omega
          subst hkl
          rw [List.take_length] at ho
          go_wp2
          go_ret
          exact ⟨_, rfl, ho, hb⟩
end Go.Proofs.YtilacgcjbdkphaaGreat

namespace Go.Proofs.YtilacgcjbdkphaaGreat
open Go.RowKit Go.Lib

set_option maxRecDepth 100000 in
set_option maxHeartbeats 1000000 in
theorem bStart_any (x : Int) (w : World) :
    Calls Tryz.prog 47 #[.int .i64 x] w fun e w' => e = .returned (bndV x 0) ∧ Below w.heap.size w w' := by
  have HB : Hid (∀ o : Obj, Below w.heap.size w (w.alloc o)) := fun o => (Below.refl _ w).alloc (Nat.le_refl _) o
  go_enter Tryz.func47, Tryz.ntmps47
  go_wp2
  exact bodyPost_ret (v := bndV x 0) (by simp [results, Tryz.results47, go_sem, bndV]) rfl ⟨rfl, HB.out _⟩

set_option maxRecDepth 100000 in
set_option maxHeartbeats 4000000 in
theorem bEnd_any (b off cap bR bF bL N j : Nat) (ns : List NodeD) (w : World) (hR : RightF ns) (hF : FAt w b off cap ns) (hj : j < ns.length) :
    Calls Tryz.prog 49 #[numsV (some ⟨b, off, none⟩) cap ns.length bR bF bL N, .int .i64 ((j : Int) + 1)] w fun e w' => e = .returned (bndV ((j : Int) + 1) (lenN ns ((j : Int) + 1))) ∧ Below w.heap.size w w' := by
  obtain ⟨bx, g0, g1, sx⟩ := two_newB w (numsO (some ⟨b, off, none⟩) cap ns.length bR bF bL N) (.cells #[.int .i64 0, .int .i64 0] 26)
  have hL := pLength_any b off cap bR bF bL N j ns _ hR (hF.later bx) hj
  rw [← lenN_at j hj] at hL
  clear hF hR hj
  unfold numsV at *
  unfold numsO at *
  generalize (lenN ns ((j : Int) + 1) : Int) = Z at *
  have HG1 := hid g1
  have Hbx := hid bx
  have Hsx := hid sx
  clear g0 g1 bx sx
  go_enter Tryz.func49, Tryz.ntmps49
  go_wp2_with fail
  refine hL.mono ?_
  rintro e v1 ⟨rfl, hb1⟩
  have hs1 := hb1.size
  have sx := Hsx.out
  have k1 := (hb1.block (w.heap.size + 1) (by omega)).trans HG1.out
  obtain ⟨r0, r1⟩ := bnd_cells k1
  have z0 := frozen_of_heap k1 0
  have z1 := frozen_of_heap k1 1
  have HB := hid (Hbx.out.trans (hb1.mono Hbx.out.size))
  clear hb1 hL hs1 sx k1
  go_wp2
  exact bodyPost_ret (v := bndV ((j : Int) + 1) Z) (by simp [results, Tryz.results49, go_sem, bndV, r0, r1]) rfl ⟨rfl, (HB.out.setCell (p := ⟨w.heap.size + 1, 0, none⟩) (Nat.le_succ _) _).setCell (p := ⟨w.heap.size + 1, 1, none⟩) (Nat.le_succ _) _⟩

def zeroV : Value := .agg #[.slice none 0 0, .slice none 0 0, .slice none 0 0, .slice none 0 0]
def zeroO : Obj := .cells #[.slice none 0 0, .slice none 0 0, .slice none 0 0, .slice none 0 0] 77
/-- Why points can't be looked at. -/
def lookE (ns : List NodeD) (l : List (Int × Int)) : Int := if rightD ns then wrongD ns l else 5

set_option maxRecDepth 100000 in
set_option maxHeartbeats 4000000 in
theorem bLooked_err (o : Option Addr) (cap : Nat) (v : Value) (l : List (Int × Int)) (ns : List NodeD) (w : World) (hF : FRd w o cap ns) (hkl : ∀ (i : Nat) (hi : i < ns.length), ns[i].kids.length ≤ 1099511627776) (hal : ∀ (i : Nat) (hi : i < ns.length), ns[i].attrs.length ≤ 1099511627776) (hv : RdB w v l) (hl : l.length ≤ 4096) (hE : lookE ns l ≠ 0) :
    Calls Tryz.prog 41 #[.agg #[.slice o ns.length cap], v] w fun e w' => e = .returned (.tuple #[zeroV, .int .i64 (lookE ns l)]) ∧ Below w.heap.size w w' := by
  obtain ⟨bx, g0, g1, sx⟩ := two_newB w (.cells #[.slice o ns.length cap] 24) zeroO
  obtain ⟨ov, cv, hve, _⟩ := id hv
  have HE := hid hE
  have HG1 := hid g1
  have Hbx := hid bx
  have Hsx := hid sx
  cases hr : rightD ns with
  | false =>
    have e5 : lookE ns l = 5 := by unfold lookE; rw [hr]; rfl
    have hO := Of_err o cap ns _ (hF.later bx) hkl hal hr
    rw [e5]
    subst hve
    clear hF hkl hal hv hE hr e5 g0 g1 bx sx HE
    unfold zeroO zeroV at *
    go_enter Tryz.func41, Tryz.ntmps41
    go_wp2_with fail
    refine hO.mono ?_
    rintro e v1 ⟨rfl, hb1⟩
    have hs1 := hb1.size
    have sx := Hsx.out
    have hbA : Below v1.heap.size v1 (v1.alloc (.cells #[.slice none 0 0, .slice none 0 0, .slice none 0 0, .slice none 0 0] 77)) := (Below.refl _ v1).alloc (Nat.le_refl _) _
    have k1 := (hbA.block (w.heap.size + 1) (by omega)).trans ((hb1.block (w.heap.size + 1) (by omega)).trans HG1.out)
    obtain ⟨r0, r1, r2, r3⟩ := sv_cells k1
    obtain ⟨z0, z1, z2, z3⟩ := sv_free k1
    have hB1 := Hbx.out.trans (hb1.mono Hbx.out.size)
    have HB := hid (hB1.trans (hbA.mono hB1.size))
    clear hb1 hO hs1 sx k1 hbA hB1
    go_wp2
    exact bodyPost_ret (v := .tuple #[zeroV, .int .i64 5]) (by simp [results, Tryz.results41, go_sem, zeroV, r0, r1, r2, r3]) rfl ⟨rfl, set4_below HB.out (Nat.le_succ _) _ _ _ _⟩
  | true =>
    have hR := (rightD_iff ns).1 hr
    have e5 : lookE ns l = wrongD ns l := by unfold lookE; rw [hr]; rfl
    have hO := Of_ok o cap ns _ (hF.later bx) hkl hal hR
    rw [e5] at hE ⊢
    have HW : Hid (∀ (bR bF bL : Nat) (V : World), Below w.heap.size w V → _) := fun bR bF bL V hV => pWrong_any o cap bR bF bL v l ns V hR (hF.later hV) (hv.later hV) hl
    subst hve
    have d0 : (wrongD ns l != 0) = true := by rw [bne, beq_eq_false_iff_ne.2 hE]; rfl
    clear hF hkl hal hv hr e5 g0 g1 bx sx HE hR hE
    unfold zeroO zeroV at *
    generalize wrongD ns l = Z at *
    go_enter Tryz.func41, Tryz.ntmps41
    go_wp2_with fail
    refine hO.mono ?_
    rintro e v1 ⟨bR, bF, bL, rfl, hb1, hN⟩
    have hs1 := hb1.size
    have sx := Hsx.out
    unfold numsV at *
    have hbA : Below v1.heap.size v1 (v1.alloc (.cells #[.slice o ns.length cap, .slice (some ⟨bR, 0, none⟩) (ns.length + 1) (ns.length + 1), .slice (some ⟨bF, 0, none⟩) (ns.length + 1) (ns.length + 1), .slice (some ⟨bL, 0, none⟩) (ns.length + 1) (ns.length + 1)] 77)) := (Below.refl _ v1).alloc (Nat.le_refl _) _
    have kx := heap_new v1 (.cells #[.slice o ns.length cap, .slice (some ⟨bR, 0, none⟩) (ns.length + 1) (ns.length + 1), .slice (some ⟨bF, 0, none⟩) (ns.length + 1) (ns.length + 1), .slice (some ⟨bL, 0, none⟩) (ns.length + 1) (ns.length + 1)] 77)
    have k1 := (hbA.block (w.heap.size + 1) (by omega)).trans ((hb1.block (w.heap.size + 1) (by omega)).trans HG1.out)
    have HK1 := hid k1
    have hB1 := Hbx.out.trans (hb1.mono Hbx.out.size)
    have HB := hid (hB1.trans (hbA.mono hB1.size))
    have hWr := HW.out bR bF bL _ HB.out
    have hsA : (v1.alloc (.cells #[.slice o ns.length cap, .slice (some ⟨bR, 0, none⟩) (ns.length + 1) (ns.length + 1), .slice (some ⟨bF, 0, none⟩) (ns.length + 1) (ns.length + 1), .slice (some ⟨bL, 0, none⟩) (ns.length + 1) (ns.length + 1)] 77)).heap.size = v1.heap.size + 1 := by simp
    clear hb1 hO k1 hbA hB1 hN kx
    go_wp2_with fail
    refine hWr.mono ?_
    rintro e v2 ⟨rfl, hb2⟩
    obtain ⟨r0, r1, r2, r3⟩ := sv_cells ((hb2.block (w.heap.size + 1) (by omega)).trans HK1.out)
    obtain ⟨z0, z1, z2, z3⟩ := sv_free ((hb2.block (w.heap.size + 1) (by omega)).trans HK1.out)
    have HB2 := hid (HB.out.trans (hb2.mono HB.out.size))
    clear hb2 hWr
    go_wp2
    exact bodyPost_ret (v := .tuple #[zeroV, .int .i64 Z]) (by simp [results, Tryz.results41, go_sem, zeroV, r0, r1, r2, r3]) rfl ⟨rfl, set4_below HB2.out (Nat.le_succ _) _ _ _ _⟩

set_option maxRecDepth 100000 in
set_option maxHeartbeats 4000000 in
theorem bLooked_ok (o : Option Addr) (cap : Nat) (v : Value) (l : List (Int × Int)) (ns : List NodeD) (w : World) (hF : FRd w o cap ns) (hkl : ∀ (i : Nat) (hi : i < ns.length), ns[i].kids.length ≤ 1099511627776) (hal : ∀ (i : Nat) (hi : i < ns.length), ns[i].attrs.length ≤ 1099511627776) (hv : RdB w v l) (hl : l.length ≤ 4096) (hR : RightF ns) (hE : wrongD ns l = 0) :
    Calls Tryz.prog 41 #[.agg #[.slice o ns.length cap], v] w fun e w' => ∃ bR bF bL, e = .returned (.tuple #[numsV o cap ns.length bR bF bL (ns.length + 1), .int .i64 0]) ∧ NumsAt ns w' bR bF bL ∧ Below w.heap.size w w' := by
  obtain ⟨bx, g0, g1, sx⟩ := two_newB w (.cells #[.slice o ns.length cap] 24) zeroO
  obtain ⟨ov, cv, hve, _⟩ := id hv
  have HG1 := hid g1
  have Hbx := hid bx
  have Hsx := hid sx
  have hO := Of_ok o cap ns _ (hF.later bx) hkl hal hR
  have HW : Hid (∀ (bR bF bL : Nat) (V : World), Below w.heap.size w V → _) := fun bR bF bL V hV => pWrong_any o cap bR bF bL v l ns V hR (hF.later hV) (hv.later hV) hl
  rw [hE] at HW
  subst hve
  clear hF hkl hal hv g0 g1 bx sx hR hE
  unfold zeroO at *
  go_enter Tryz.func41, Tryz.ntmps41
  go_wp2_with fail
  refine hO.mono ?_
  rintro e v1 ⟨bR, bF, bL, rfl, hb1, hN⟩
  have hs1 := hb1.size
  have sx := Hsx.out
  unfold numsV at *
  have hbA : Below v1.heap.size v1 (v1.alloc (.cells #[.slice o ns.length cap, .slice (some ⟨bR, 0, none⟩) (ns.length + 1) (ns.length + 1), .slice (some ⟨bF, 0, none⟩) (ns.length + 1) (ns.length + 1), .slice (some ⟨bL, 0, none⟩) (ns.length + 1) (ns.length + 1)] 77)) := (Below.refl _ v1).alloc (Nat.le_refl _) _
  have kx := heap_new v1 (.cells #[.slice o ns.length cap, .slice (some ⟨bR, 0, none⟩) (ns.length + 1) (ns.length + 1), .slice (some ⟨bF, 0, none⟩) (ns.length + 1) (ns.length + 1), .slice (some ⟨bL, 0, none⟩) (ns.length + 1) (ns.length + 1)] 77)
  have k1 := (hbA.block (w.heap.size + 1) (by omega)).trans ((hb1.block (w.heap.size + 1) (by omega)).trans HG1.out)
  have HK1 := hid k1
  have HKx := hid kx
  have hB1 := Hbx.out.trans (hb1.mono Hbx.out.size)
  have HB := hid (hB1.trans (hbA.mono hB1.size))
  have hWr := HW.out bR bF bL _ HB.out
  have HN := hid (hN.later hbA)
  have hsA : (v1.alloc (.cells #[.slice o ns.length cap, .slice (some ⟨bR, 0, none⟩) (ns.length + 1) (ns.length + 1), .slice (some ⟨bF, 0, none⟩) (ns.length + 1) (ns.length + 1), .slice (some ⟨bL, 0, none⟩) (ns.length + 1) (ns.length + 1)] 77)).heap.size = v1.heap.size + 1 := by simp
  clear hb1 hO k1 hbA hB1 hN kx
  go_wp2_with fail
  refine hWr.mono ?_
  rintro e v2 ⟨rfl, hb2⟩
  have hs2 := hb2.size
  obtain ⟨r0, r1, r2, r3⟩ := sv_cells ((hb2.block (w.heap.size + 1) (by omega)).trans HK1.out)
  obtain ⟨z0, z1, z2, z3⟩ := sv_free ((hb2.block (w.heap.size + 1) (by omega)).trans HK1.out)
  obtain ⟨n0, n1, n2, n3⟩ := sv_cells ((hb2.block v1.heap.size (by omega)).trans HKx.out)
  have HB2 := hid (HB.out.trans (hb2.mono HB.out.size))
  have hne : v1.heap.size ≠ w.heap.size + 1 := by omega
  have HNl := HN.out.later hb2
  have HNs : Hid (∀ a b c d : Value, NumsAt ns ((((v2.setCell ⟨w.heap.size + 1, 0, none⟩ a).setCell ⟨w.heap.size + 1, 1, none⟩ b).setCell ⟨w.heap.size + 1, 2, none⟩ c).setCell ⟨w.heap.size + 1, 3, none⟩ d) bR bF bL) := fun a b c d => by
    obtain ⟨R, F, L, i1, i2, i3, l1⟩ := HNl
    have hk := (hb2.block (w.heap.size + 1) (by omega)).trans HK1.out
    have ne : ∀ {g : Nat} {A : List Int}, IntsAt v2 g A → w.heap.size + 1 ≠ g := fun hi e => by
      rw [← e] at hi
      have := hk.symm.trans hi
      simp at this
    exact ⟨R, F, L, (((i1.far _ _ (ne i1)).far _ _ (ne i1)).far _ _ (ne i1)).far _ _ (ne i1), (((i2.far _ _ (ne i2)).far _ _ (ne i2)).far _ _ (ne i2)).far _ _ (ne i2), (((i3.far _ _ (ne i3)).far _ _ (ne i3)).far _ _ (ne i3)).far _ _ (ne i3), l1⟩
  clear hb2 hWr HNl hs2 HN HK1 HKx
  go_wp2
  exact bodyPost_ret (v := .tuple #[numsV o cap ns.length bR bF bL (ns.length + 1), .int .i64 0]) (by simp [results, Tryz.results41, go_sem, numsV, r0, r1, r2, r3]) rfl ⟨bR, bF, bL, rfl, HNs.out _ _ _ _, set4_below HB2.out (Nat.le_succ _) _ _ _ _⟩
end Go.Proofs.YtilacgcjbdkphaaGreat

namespace Go.Proofs.YtilacgcjbdkphaaGreat
open Go.RowKit Go.Lib

theorem blkLater {V W : World} {B : Nat} {o : Obj} (hb : Below V.heap.size V W) (h : V.heap[B]? = some o) : W.heap[B]? = some o := (hb.block B (Array.getElem?_eq_some_iff.1 h).1).trans h
theorem two_rdB {W : World} {B : Nat} {x c y d : Int} (h : W.heap[B]? = some (.cells #[.int .i64 x, .int .i64 c, .int .i64 y, .int .i64 d] 26)) : RdB W (.slice (some ⟨B, 0, none⟩) 2 2) [(x, c), (y, d)] := by
  obtain ⟨a, b, e, f⟩ := sv_cells h
  refine ⟨_, 2, rfl, by simp, fun _ => ⟨B, 0, rfl, (Array.getElem?_eq_some_iff.1 h).1, fun j hj => ?_⟩⟩
  match j, hj with
  | 0, _ => exact ⟨a, b⟩
  | 1, _ => exact ⟨e, f⟩
theorem two_cellsLB {W : World} {G : Nat} {v1 v2 : Value} {l1 l2 : List (Int × Int)} {t : TypeId} (h : W.heap[G]? = some (.cells #[v1, v2] t)) (h1 : RdB W v1 l1) (h2 : RdB W v2 l2) : CellsLB W G [(v1, l1), (v2, l2)] := by
  obtain ⟨a, b⟩ := bnd_cells h
  intro j hj
  match j, hj with
  | 0, _ => exact ⟨a, h1⟩
  | 1, _ => exact ⟨b, h2⟩
theorem catLB_two (v1 v2 : Value) (l1 l2 : List (Int × Int)) : catLB [(v1, l1), (v2, l2)] = l1 ++ l2 := by simp [catLB]
theorem set4_cells {X : World} {B : Nat} {a b c d a' b' c' d' : Value} {t : TypeId} (h : X.heap[B]? = some (.cells #[a', b', c', d'] t (0, 0))) : ((((X.setCell ⟨B, 0, none⟩ a).setCell ⟨B, 1, none⟩ b).setCell ⟨B, 2, none⟩ c).setCell ⟨B, 3, none⟩ d).heap[B]? = some (.cells #[a, b, c, d] t (0, 0)) := by
  have h1 : ∀ (Y : World) (n : Nat) (cs : Array Value) (v : Value), Y.heap[B]? = some (.cells cs t (0, 0)) → (Y.setCell ⟨B, n, none⟩ v).heap[B]? = some (.cells (cs.setIfInBounds n v) t (0, 0)) := fun Y n cs v hY => by
    simp [World.setCell, Array.getElem?_modify, hY]
  have s1 := h1 _ 3 _ d (h1 _ 2 _ c (h1 _ 1 _ b (h1 _ 0 _ a h)))
  exact s1
/-- Points that were looked at, in a new variable. -/
structure Held8 (W0 : World) (v : Value) (B : Nat) (wx : World) : Prop where
  below : Below W0.heap.size W0 wx
  lt : W0.heap.size ≤ B
  box : ∃ a b c d, v = .agg #[a, b, c, d] ∧ wx.heap[B]? = some (.cells #[a, b, c, d] 77)
theorem held8 {W0 X : World} {B : Nat} {a b c d a' b' c' d' : Value} (hb : Below W0.heap.size W0 X) (hl : W0.heap.size ≤ B) (h : X.heap[B]? = some (.cells #[a', b', c', d'] 77 (0, 0))) : Held8 W0 (.agg #[a, b, c, d]) B ((((X.setCell ⟨B, 0, none⟩ a).setCell ⟨B, 1, none⟩ b).setCell ⟨B, 2, none⟩ c).setCell ⟨B, 3, none⟩ d) :=
  ⟨(((hb.setCell hl a).setCell hl b).setCell hl c).setCell hl d, hl, a, b, c, d, rfl, set4_cells h⟩
theorem nums_set4 {ns : List NodeD} {X : World} {B bR bF bL : Nat} {a b c d a' b' c' d' : Value} (h : NumsAt ns X bR bF bL) (hB : X.heap[B]? = some (.cells #[a', b', c', d'] 77 (0, 0))) : NumsAt ns ((((X.setCell ⟨B, 0, none⟩ a).setCell ⟨B, 1, none⟩ b).setCell ⟨B, 2, none⟩ c).setCell ⟨B, 3, none⟩ d) bR bF bL := by
  obtain ⟨R, F, L, i1, i2, i3, l1⟩ := h
  have ne : ∀ {g : Nat} {A : List Int}, IntsAt X g A → B ≠ g := fun hi e => by
    rw [← e] at hi
    have := hB.symm.trans hi
    simp at this
  exact ⟨R, F, L, (((i1.far _ _ (ne i1)).far _ _ (ne i1)).far _ _ (ne i1)).far _ _ (ne i1), (((i2.far _ _ (ne i2)).far _ _ (ne i2)).far _ _ (ne i2)).far _ _ (ne i2), (((i3.far _ _ (ne i3)).far _ _ (ne i3)).far _ _ (ne i3)).far _ _ (ne i3), l1⟩
/-- What is asked of a range and of more points. -/
def setL (x c y d : Int) (more : List (Int × Int)) : List (Int × Int) := [(x, c), (y, d)] ++ more

theorem cat_rd {W : World} {base : Nat} {v v1 v2 : Value} {x c y d : Int} {more : List (Int × Int)} (h : W.ownsRow base 26 2 v (catLB [(v1, [(x, c), (y, d)]), (v2, more)]).length (rowP (catLB [(v1, [(x, c), (y, d)]), (v2, more)]))) : RdB W v (setL x c y d more) := by
  have := ownsP_rd h
  rw [catLB_two] at this
  exact this

set_option maxRecDepth 100000 in
set_option maxHeartbeats 8000000 in
theorem bSettled_err (o : Option Addr) (cap : Nat) (v : Value) (x c y d : Int) (more : List (Int × Int)) (ns : List NodeD) (w : World) (hF : FRd w o cap ns) (hkl : ∀ (i : Nat) (hi : i < ns.length), ns[i].kids.length ≤ 1099511627776) (hal : ∀ (i : Nat) (hi : i < ns.length), ns[i].attrs.length ≤ 1099511627776) (hv : RdB w v more) (hl : more.length ≤ 4000) (hE : lookE ns (setL x c y d more) ≠ 0) :
    Calls Tryz.prog 58 #[.agg #[.slice o ns.length cap], rngV x c y d, v] w fun e w' => e = .returned (.tuple #[zeroV, .int .i64 (lookE ns (setL x c y d more))]) ∧ Below w.heap.size w w' := by
  obtain ⟨ov, cv, hve, _⟩ := id hv
  have HV : Hid (∀ V : World, Below w.heap.size w V → RdB V v more) := fun V hV => hv.later hV
  obtain ⟨bx, g0, g1, g2, sx⟩ := three_newB w (.cells #[.slice o ns.length cap] 24) (.cells #[.int .i64 x, .int .i64 c, .int .i64 y, .int .i64 d] 44) zeroO
  have hsum : Hid (∀ v1 v2 : Value, sumLB [(v1, [(x, c), (y, d)]), (v2, more)] ≤ 1000000) := by
    intro v1 v2
    simp [sumLB]
    omega
  have hset : setL x c y d more = [(x, c), (y, d)] ++ more := rfl
  have hlen : (setL x c y d more).length ≤ 4096 := by rw [hset]; simp; omega
  subst hve
  have HLk : Hid (∀ (vc : Value) (V : World), Below w.heap.size w V → RdB V vc (setL x c y d more) → _) := fun vc V hV hr => bLooked_err o cap vc _ ns V (hF.later hV) hkl hal hr hlen hE
  have d0 : (lookE ns (setL x c y d more) != 0) = true := by rw [bne, beq_eq_false_iff_ne.2 hE]; rfl
  generalize lookE ns (setL x c y d more) = Z at *
  clear hF hkl hal hv hE hlen hset
  unfold zeroO at *
  unfold zeroV rngV at *
  go_enter Tryz.func58, Tryz.ntmps58
  go_upto_region 1 with fail
  have HG2 := hid g2
  generalize (((w.alloc (.cells #[.slice o ns.length cap] 24)).alloc (.cells #[.int .i64 x, .int .i64 c, .int .i64 y, .int .i64 d] 44)).alloc (.cells #[.slice none 0 0, .slice none 0 0, .slice none 0 0, .slice none 0 0] 77)) = W0 at *
  have n0 := (box_cell_l g0).1
  obtain ⟨a0, a1, a2, a3⟩ := rng_cells g1
  go_cut [8, 9] (fun t u wx => ∃ B, t = .pointer (some ⟨B, 0, none⟩) ∧ u = .int .i64 Z ∧ Held8 W0 (.agg #[.slice none 0 0, .slice none 0 0, .slice none 0 0, .slice none 0 0]) B wx)
  case first =>
    --slow
    refine wp_region_held_drew (S := fun V => Below W0.heap.size W0 V) (by kernel_rfl) ((Below.refl _ _).drew) (fun hHeld => ?_)
    have HB_V0 := hid hHeld
    have hz0 := hHeld.size
    generalize W0.drew = V0 at *
    refine wpAnyH_one 0 11 (.agg #[.slice o ns.length cap]) hHeld rfl rfl (by kernel_rfl) (fun _ _ _ _ _ h => h) (by kernel_rfl) (by kernel_rfl) (by rfl) ?_ ?_
    · intro V hSw; (try dsimp only at hSw); have k0 := cellLater (B := w.heap.size) hSw (by omega) n0; go_simp
    simp only [Act.put, List.setIfInBounds_toArray, List.set_cons_zero, List.set_cons_succ]
    refine wpAnyH_one 1 12 (.pointer (some ⟨w.heap.size + 1, 0, none⟩)) hHeld rfl rfl (by kernel_rfl) (fun _ _ _ _ _ h => h) (by kernel_rfl) (by kernel_rfl) (by rfl) ?_ ?_
    · intro V hSw; (try dsimp only at hSw); go_simp
    simp only [Act.put, List.setIfInBounds_toArray, List.set_cons_zero, List.set_cons_succ]
    refine wpAnyH_one 2 13 (.agg #[.int .i64 x, .int .i64 c]) hHeld rfl rfl (by kernel_rfl) (fun _ _ _ _ _ h => h) (by kernel_rfl) (by kernel_rfl) (by rfl) ?_ ?_
    · intro V hSw; (try dsimp only at hSw); have k0 := cellLater (B := w.heap.size + 1) hSw (by omega) a0; have k1 := cellLater (B := w.heap.size + 1) hSw (by omega) a1; go_simp
    simp only [Act.put, List.setIfInBounds_toArray, List.set_cons_zero, List.set_cons_succ]
    refine wpAnyH_one 3 14 (.pointer (some ⟨w.heap.size + 1, 2, none⟩)) hHeld rfl rfl (by kernel_rfl) (fun _ _ _ _ _ h => h) (by kernel_rfl) (by kernel_rfl) (by rfl) ?_ ?_
    · intro V hSw; (try dsimp only at hSw); go_simp
    simp only [Act.put, List.setIfInBounds_toArray, List.set_cons_zero, List.set_cons_succ]
    refine wpAnyH_one 4 15 (.agg #[.int .i64 y, .int .i64 d]) hHeld rfl rfl (by kernel_rfl) (fun _ _ _ _ _ h => h) (by kernel_rfl) (by kernel_rfl) (by rfl) ?_ ?_
    · intro V hSw; (try dsimp only at hSw); have k0 := cellLater (B := w.heap.size + 1) hSw (by omega) a2; have k1 := cellLater (B := w.heap.size + 1) hSw (by omega) a3; go_simp
    simp only [Act.put, List.setIfInBounds_toArray, List.set_cons_zero, List.set_cons_succ]
    refine wpAnyH_one 6 17 (.slice ov more.length cv) hHeld rfl rfl (by kernel_rfl) (fun _ _ _ _ _ h => h) (by kernel_rfl) (by kernel_rfl) (by rfl) ?_ ?_
    · intro V hSw; (try dsimp only at hSw); go_simp
    simp only [Act.put, List.setIfInBounds_toArray, List.set_cons_zero, List.set_cons_succ]
    refine wpAnyH_ready (rs := [5, 13]) (by kernel_rfl) (by simp) ?_
    refine AllReadyH.cons rfl (fun K hK => ?_) (AllReadyH.cons rfl (fun K hK => ?_) (AllReadyH.nil))
    · go_simp
      have hnw := heap_new V0 (.cells #[.int .i64 x, .int .i64 c, .int .i64 y, .int .i64 d] 26)
      have hb : Below V0.heap.size V0 (V0.alloc (.cells #[.int .i64 x, .int .i64 c, .int .i64 y, .int .i64 d] 26)) := (Below.refl _ V0).alloc (Nat.le_refl _) _
      have hx1 := (Array.getElem?_eq_some_iff.1 hnw).1
      generalize V0.alloc (.cells #[.int .i64 x, .int .i64 c, .int .i64 y, .int .i64 d] 26) = V1 at *
      have HB_V1 := hid (HB_V0.out.trans (hb.mono HB_V0.out.size))
      have hz1 := HB_V1.out.size
      have hy1 := hb.size
      have r1 := two_rdB hnw
      refine hK.out _ _ HB_V1.out (fun hHeld => ?_)
      clear hK K hb
      refine wpAnyH_ready (rs := [7, 13]) (by kernel_rfl) (by simp) ?_
      refine AllReadyH.cons rfl (fun K hK => ?_) (AllReadyH.cons rfl (fun K hK => ?_) (AllReadyH.nil))
      · go_simp
        have hnw := heap_new V1 (.cells #[.slice (some ⟨V0.heap.size, 0, none⟩) 2 2, .slice ov more.length cv] 35)
        have hb : Below V1.heap.size V1 (V1.alloc (.cells #[.slice (some ⟨V0.heap.size, 0, none⟩) 2 2, .slice ov more.length cv] 35)) := (Below.refl _ V1).alloc (Nat.le_refl _) _
        have hx2 := (Array.getElem?_eq_some_iff.1 hnw).1
        generalize V1.alloc (.cells #[.slice (some ⟨V0.heap.size, 0, none⟩) 2 2, .slice ov more.length cv] 35) = V2 at *
        have HB_V2 := hid (HB_V1.out.trans (hb.mono HB_V1.out.size))
        have hz2 := HB_V2.out.size
        have hy2 := hb.size
        have r1 := r1.later hb
        have l1 := two_cellsLB hnw (r1) (HV.out _ (bx.trans (HB_V2.out.mono bx.size)))
        refine hK.out _ _ HB_V2.out (fun hHeld => ?_)
        clear hK K hb
        refine wpAnyH_ready (rs := [8, 13]) (by kernel_rfl) (by simp) ?_
        refine AllReadyH.cons rfl (fun K hK => ?_) (AllReadyH.cons rfl (fun K hK => ?_) (AllReadyH.nil))
        · go_simp
          go_wp2_with (go_at_call 94; refine (concatB_any V1.heap.size 2 _ V2 (by omega) l1 (by simp) (hsum.out _ _)).mono ?_; rintro e V3 ⟨vc, rfl, hoc, hb⟩)
          have HB_V3 := hid (HB_V2.out.trans (hb.mono HB_V2.out.size))
          have hz3 := HB_V3.out.size
          have hy3 := hb.size
          have r1 := r1.later hb
          have l1 := l1.later (by omega) hb
          have rc := cat_rd hoc
          refine hK.out _ _ HB_V3.out (fun hHeld => ?_)
          clear hK K hb
          refine wpAnyH_ready (rs := [9, 13]) (by kernel_rfl) (by simp) ?_
          refine AllReadyH.cons rfl (fun K hK => ?_) (AllReadyH.cons rfl (fun K hK => ?_) (AllReadyH.nil))
          · go_simp
            go_wp2_with (go_at_call 41; refine (HLk.out vc V3 (bx.trans (HB_V3.out.mono bx.size)) rc).mono ?_; rintro e V4 ⟨rfl, hb⟩)
            have HB_V4 := hid (HB_V3.out.trans (hb.mono HB_V3.out.size))
            have hz4 := HB_V4.out.size
            have hy4 := hb.size
            have r1 := r1.later hb
            have l1 := l1.later (by omega) hb
            have rc := rc.later hb
            refine hK.out _ _ HB_V4.out (fun hHeld => ?_)
            clear hK K hb
            refine wpAnyH_one 10 10 (.tuple #[.agg #[.slice none 0 0, .slice none 0 0, .slice none 0 0, .slice none 0 0], .int .i64 Z]) hHeld rfl rfl (by kernel_rfl) (fun _ _ _ _ _ h => h) (by kernel_rfl) (by kernel_rfl) (by rfl) ?_ ?_
            · intro V hSw; (try dsimp only at hSw); go_simp
            simp only [Act.put, List.setIfInBounds_toArray, List.set_cons_zero, List.set_cons_succ]
            refine wpAnyH_one 11 21 (.agg #[.slice none 0 0, .slice none 0 0, .slice none 0 0, .slice none 0 0]) hHeld rfl rfl (by kernel_rfl) (fun _ _ _ _ _ h => h) (by kernel_rfl) (by kernel_rfl) (by rfl) ?_ ?_
            · intro V hSw; (try dsimp only at hSw); go_simp
            simp only [Act.put, List.setIfInBounds_toArray, List.set_cons_zero, List.set_cons_succ]
            refine wpAnyH_one 12 22 (.int .i64 Z) hHeld rfl rfl (by kernel_rfl) (fun _ _ _ _ _ h => h) (by kernel_rfl) (by kernel_rfl) (by rfl) ?_ ?_
            · intro V hSw; (try dsimp only at hSw); go_simp
            simp only [Act.put, List.setIfInBounds_toArray, List.set_cons_zero, List.set_cons_succ]
            refine wpAnyH_ready (rs := [13]) (by kernel_rfl) (by simp) ?_
            refine AllReadyH.cons rfl (fun K hK => ?_) (AllReadyH.nil)
            go_simp
            have hfl := heap_new V4 (.cells #[.slice none 0 0, .slice none 0 0, .slice none 0 0, .slice none 0 0] 77)
            have hb : Below V4.heap.size V4 (V4.alloc (.cells #[.slice none 0 0, .slice none 0 0, .slice none 0 0, .slice none 0 0] 77)) := (Below.refl _ V4).alloc (Nat.le_refl _) _
            have hx5 := (Array.getElem?_eq_some_iff.1 hfl).1
            generalize V4.alloc (.cells #[.slice none 0 0, .slice none 0 0, .slice none 0 0, .slice none 0 0] 77) = V5 at *
            have HB_V5 := hid (HB_V4.out.trans (hb.mono HB_V4.out.size))
            have hz5 := HB_V5.out.size
            have hy5 := hb.size
            have r1 := r1.later hb
            have l1 := l1.later (by omega) hb
            have rc := rc.later hb
            refine hK.out _ _ HB_V5.out (fun hHeld => ?_)
            clear hK K hb
            obtain ⟨z0, z1, z2, z3⟩ := sv_cells hfl
            obtain ⟨y0, y1, y2, y3⟩ := sv_free hfl
            refine wpAnyH_ready (rs := [14]) (by kernel_rfl) (by simp) ?_
            refine AllReadyH.cons rfl (fun K hK => ?_) AllReadyH.nil
            go_simp
            have H8 := hid (held8 (a := .slice none 0 0) (b := .slice none 0 0) (c := .slice none 0 0) (d := .slice none 0 0) HB_V5.out (show W0.heap.size ≤ V4.heap.size by omega) hfl)
            refine hK.out _ _ H8.out.below (fun hHeld => ?_)
            clear hK K
            refine wpAnyH_one 15 9 (.int .i64 Z) hHeld rfl rfl (by kernel_rfl) (fun _ _ _ _ _ h => h) (by kernel_rfl) (by kernel_rfl) (by rfl) ?_ ?_
            · intro V hSw; (try dsimp only at hSw); go_simp
            simp only [Act.put, List.setIfInBounds_toArray, List.set_cons_zero, List.set_cons_succ]
            refine wpAnyH_done (by kernel_rfl) ?_ _
            go_wp2_with fail
            go_meet
            exact ⟨_, rfl, rfl, H8.out⟩
          · go_simp
            have hfl := heap_new V3 (.cells #[.slice none 0 0, .slice none 0 0, .slice none 0 0, .slice none 0 0] 77)
            have hb : Below V3.heap.size V3 (V3.alloc (.cells #[.slice none 0 0, .slice none 0 0, .slice none 0 0, .slice none 0 0] 77)) := (Below.refl _ V3).alloc (Nat.le_refl _) _
            have hx4 := (Array.getElem?_eq_some_iff.1 hfl).1
            generalize V3.alloc (.cells #[.slice none 0 0, .slice none 0 0, .slice none 0 0, .slice none 0 0] 77) = V4 at *
            have HB_V4 := hid (HB_V3.out.trans (hb.mono HB_V3.out.size))
            have hz4 := HB_V4.out.size
            have hy4 := hb.size
            have r1 := r1.later hb
            have l1 := l1.later (by omega) hb
            have rc := rc.later hb
            refine hK.out _ _ HB_V4.out (fun hHeld => ?_)
            clear hK K hb
            refine wpAnyH_ready (rs := [9]) (by kernel_rfl) (by simp) ?_
            refine AllReadyH.cons rfl (fun K hK => ?_) (AllReadyH.nil)
            go_simp
            go_wp2_with (go_at_call 41; refine (HLk.out vc V4 (bx.trans (HB_V4.out.mono bx.size)) rc).mono ?_; rintro e V5 ⟨rfl, hb⟩)
            have HB_V5 := hid (HB_V4.out.trans (hb.mono HB_V4.out.size))
            have hz5 := HB_V5.out.size
            have hy5 := hb.size
            have r1 := r1.later hb
            have l1 := l1.later (by omega) hb
            have rc := rc.later hb
            have hfl := blkLater hb hfl
            refine hK.out _ _ HB_V5.out (fun hHeld => ?_)
            clear hK K hb
            refine wpAnyH_one 10 10 (.tuple #[.agg #[.slice none 0 0, .slice none 0 0, .slice none 0 0, .slice none 0 0], .int .i64 Z]) hHeld rfl rfl (by kernel_rfl) (fun _ _ _ _ _ h => h) (by kernel_rfl) (by kernel_rfl) (by rfl) ?_ ?_
            · intro V hSw; (try dsimp only at hSw); go_simp
            simp only [Act.put, List.setIfInBounds_toArray, List.set_cons_zero, List.set_cons_succ]
            refine wpAnyH_one 11 21 (.agg #[.slice none 0 0, .slice none 0 0, .slice none 0 0, .slice none 0 0]) hHeld rfl rfl (by kernel_rfl) (fun _ _ _ _ _ h => h) (by kernel_rfl) (by kernel_rfl) (by rfl) ?_ ?_
            · intro V hSw; (try dsimp only at hSw); go_simp
            simp only [Act.put, List.setIfInBounds_toArray, List.set_cons_zero, List.set_cons_succ]
            refine wpAnyH_one 12 22 (.int .i64 Z) hHeld rfl rfl (by kernel_rfl) (fun _ _ _ _ _ h => h) (by kernel_rfl) (by kernel_rfl) (by rfl) ?_ ?_
            · intro V hSw; (try dsimp only at hSw); go_simp
            simp only [Act.put, List.setIfInBounds_toArray, List.set_cons_zero, List.set_cons_succ]
            obtain ⟨z0, z1, z2, z3⟩ := sv_cells hfl
            obtain ⟨y0, y1, y2, y3⟩ := sv_free hfl
            refine wpAnyH_ready (rs := [14]) (by kernel_rfl) (by simp) ?_
            refine AllReadyH.cons rfl (fun K hK => ?_) AllReadyH.nil
            go_simp
            have H8 := hid (held8 (a := .slice none 0 0) (b := .slice none 0 0) (c := .slice none 0 0) (d := .slice none 0 0) HB_V5.out (show W0.heap.size ≤ V3.heap.size by omega) hfl)
            refine hK.out _ _ H8.out.below (fun hHeld => ?_)
            clear hK K
            refine wpAnyH_one 15 9 (.int .i64 Z) hHeld rfl rfl (by kernel_rfl) (fun _ _ _ _ _ h => h) (by kernel_rfl) (by kernel_rfl) (by rfl) ?_ ?_
            · intro V hSw; (try dsimp only at hSw); go_simp
            simp only [Act.put, List.setIfInBounds_toArray, List.set_cons_zero, List.set_cons_succ]
            refine wpAnyH_done (by kernel_rfl) ?_ _
            go_wp2_with fail
            go_meet
            exact ⟨_, rfl, rfl, H8.out⟩
        · go_simp
          have hfl := heap_new V2 (.cells #[.slice none 0 0, .slice none 0 0, .slice none 0 0, .slice none 0 0] 77)
          have hb : Below V2.heap.size V2 (V2.alloc (.cells #[.slice none 0 0, .slice none 0 0, .slice none 0 0, .slice none 0 0] 77)) := (Below.refl _ V2).alloc (Nat.le_refl _) _
          have hx3 := (Array.getElem?_eq_some_iff.1 hfl).1
          generalize V2.alloc (.cells #[.slice none 0 0, .slice none 0 0, .slice none 0 0, .slice none 0 0] 77) = V3 at *
          have HB_V3 := hid (HB_V2.out.trans (hb.mono HB_V2.out.size))
          have hz3 := HB_V3.out.size
          have hy3 := hb.size
          have r1 := r1.later hb
          have l1 := l1.later (by omega) hb
          refine hK.out _ _ HB_V3.out (fun hHeld => ?_)
          clear hK K hb
          refine wpAnyH_ready (rs := [8]) (by kernel_rfl) (by simp) ?_
          refine AllReadyH.cons rfl (fun K hK => ?_) (AllReadyH.nil)
          go_simp
          go_wp2_with (go_at_call 94; refine (concatB_any V1.heap.size 2 _ V3 (by omega) l1 (by simp) (hsum.out _ _)).mono ?_; rintro e V4 ⟨vc, rfl, hoc, hb⟩)
          have HB_V4 := hid (HB_V3.out.trans (hb.mono HB_V3.out.size))
          have hz4 := HB_V4.out.size
          have hy4 := hb.size
          have r1 := r1.later hb
          have l1 := l1.later (by omega) hb
          have hfl := blkLater hb hfl
          have rc := cat_rd hoc
          refine hK.out _ _ HB_V4.out (fun hHeld => ?_)
          clear hK K hb
          refine wpAnyH_ready (rs := [9]) (by kernel_rfl) (by simp) ?_
          refine AllReadyH.cons rfl (fun K hK => ?_) (AllReadyH.nil)
          go_simp
          go_wp2_with (go_at_call 41; refine (HLk.out vc V4 (bx.trans (HB_V4.out.mono bx.size)) rc).mono ?_; rintro e V5 ⟨rfl, hb⟩)
          have HB_V5 := hid (HB_V4.out.trans (hb.mono HB_V4.out.size))
          have hz5 := HB_V5.out.size
          have hy5 := hb.size
          have r1 := r1.later hb
          have l1 := l1.later (by omega) hb
          have hfl := blkLater hb hfl
          have rc := rc.later hb
          refine hK.out _ _ HB_V5.out (fun hHeld => ?_)
          clear hK K hb
          refine wpAnyH_one 10 10 (.tuple #[.agg #[.slice none 0 0, .slice none 0 0, .slice none 0 0, .slice none 0 0], .int .i64 Z]) hHeld rfl rfl (by kernel_rfl) (fun _ _ _ _ _ h => h) (by kernel_rfl) (by kernel_rfl) (by rfl) ?_ ?_
          · intro V hSw; (try dsimp only at hSw); go_simp
          simp only [Act.put, List.setIfInBounds_toArray, List.set_cons_zero, List.set_cons_succ]
          refine wpAnyH_one 11 21 (.agg #[.slice none 0 0, .slice none 0 0, .slice none 0 0, .slice none 0 0]) hHeld rfl rfl (by kernel_rfl) (fun _ _ _ _ _ h => h) (by kernel_rfl) (by kernel_rfl) (by rfl) ?_ ?_
          · intro V hSw; (try dsimp only at hSw); go_simp
          simp only [Act.put, List.setIfInBounds_toArray, List.set_cons_zero, List.set_cons_succ]
          refine wpAnyH_one 12 22 (.int .i64 Z) hHeld rfl rfl (by kernel_rfl) (fun _ _ _ _ _ h => h) (by kernel_rfl) (by kernel_rfl) (by rfl) ?_ ?_
          · intro V hSw; (try dsimp only at hSw); go_simp
          simp only [Act.put, List.setIfInBounds_toArray, List.set_cons_zero, List.set_cons_succ]
          obtain ⟨z0, z1, z2, z3⟩ := sv_cells hfl
          obtain ⟨y0, y1, y2, y3⟩ := sv_free hfl
          refine wpAnyH_ready (rs := [14]) (by kernel_rfl) (by simp) ?_
          refine AllReadyH.cons rfl (fun K hK => ?_) AllReadyH.nil
          go_simp
          have H8 := hid (held8 (a := .slice none 0 0) (b := .slice none 0 0) (c := .slice none 0 0) (d := .slice none 0 0) HB_V5.out (show W0.heap.size ≤ V2.heap.size by omega) hfl)
          refine hK.out _ _ H8.out.below (fun hHeld => ?_)
          clear hK K
          refine wpAnyH_one 15 9 (.int .i64 Z) hHeld rfl rfl (by kernel_rfl) (fun _ _ _ _ _ h => h) (by kernel_rfl) (by kernel_rfl) (by rfl) ?_ ?_
          · intro V hSw; (try dsimp only at hSw); go_simp
          simp only [Act.put, List.setIfInBounds_toArray, List.set_cons_zero, List.set_cons_succ]
          refine wpAnyH_done (by kernel_rfl) ?_ _
          go_wp2_with fail
          go_meet
          exact ⟨_, rfl, rfl, H8.out⟩
      · go_simp
        have hfl := heap_new V1 (.cells #[.slice none 0 0, .slice none 0 0, .slice none 0 0, .slice none 0 0] 77)
        have hb : Below V1.heap.size V1 (V1.alloc (.cells #[.slice none 0 0, .slice none 0 0, .slice none 0 0, .slice none 0 0] 77)) := (Below.refl _ V1).alloc (Nat.le_refl _) _
        have hx2 := (Array.getElem?_eq_some_iff.1 hfl).1
        generalize V1.alloc (.cells #[.slice none 0 0, .slice none 0 0, .slice none 0 0, .slice none 0 0] 77) = V2 at *
        have HB_V2 := hid (HB_V1.out.trans (hb.mono HB_V1.out.size))
        have hz2 := HB_V2.out.size
        have hy2 := hb.size
        have r1 := r1.later hb
        refine hK.out _ _ HB_V2.out (fun hHeld => ?_)
        clear hK K hb
        refine wpAnyH_ready (rs := [7]) (by kernel_rfl) (by simp) ?_
        refine AllReadyH.cons rfl (fun K hK => ?_) (AllReadyH.nil)
        go_simp
        have hnw := heap_new V2 (.cells #[.slice (some ⟨V0.heap.size, 0, none⟩) 2 2, .slice ov more.length cv] 35)
        have hb : Below V2.heap.size V2 (V2.alloc (.cells #[.slice (some ⟨V0.heap.size, 0, none⟩) 2 2, .slice ov more.length cv] 35)) := (Below.refl _ V2).alloc (Nat.le_refl _) _
        have hx3 := (Array.getElem?_eq_some_iff.1 hnw).1
        generalize V2.alloc (.cells #[.slice (some ⟨V0.heap.size, 0, none⟩) 2 2, .slice ov more.length cv] 35) = V3 at *
        have HB_V3 := hid (HB_V2.out.trans (hb.mono HB_V2.out.size))
        have hz3 := HB_V3.out.size
        have hy3 := hb.size
        have r1 := r1.later hb
        have hfl := blkLater hb hfl
        have l1 := two_cellsLB hnw (r1) (HV.out _ (bx.trans (HB_V3.out.mono bx.size)))
        refine hK.out _ _ HB_V3.out (fun hHeld => ?_)
        clear hK K hb
        refine wpAnyH_ready (rs := [8]) (by kernel_rfl) (by simp) ?_
        refine AllReadyH.cons rfl (fun K hK => ?_) (AllReadyH.nil)
        go_simp
        go_wp2_with (go_at_call 94; refine (concatB_any V2.heap.size 2 _ V3 (by omega) l1 (by simp) (hsum.out _ _)).mono ?_; rintro e V4 ⟨vc, rfl, hoc, hb⟩)
        have HB_V4 := hid (HB_V3.out.trans (hb.mono HB_V3.out.size))
        have hz4 := HB_V4.out.size
        have hy4 := hb.size
        have r1 := r1.later hb
        have hfl := blkLater hb hfl
        have l1 := l1.later (by omega) hb
        have rc := cat_rd hoc
        refine hK.out _ _ HB_V4.out (fun hHeld => ?_)
        clear hK K hb
        refine wpAnyH_ready (rs := [9]) (by kernel_rfl) (by simp) ?_
        refine AllReadyH.cons rfl (fun K hK => ?_) (AllReadyH.nil)
        go_simp
        go_wp2_with (go_at_call 41; refine (HLk.out vc V4 (bx.trans (HB_V4.out.mono bx.size)) rc).mono ?_; rintro e V5 ⟨rfl, hb⟩)
        have HB_V5 := hid (HB_V4.out.trans (hb.mono HB_V4.out.size))
        have hz5 := HB_V5.out.size
        have hy5 := hb.size
        have r1 := r1.later hb
        have hfl := blkLater hb hfl
        have l1 := l1.later (by omega) hb
        have rc := rc.later hb
        refine hK.out _ _ HB_V5.out (fun hHeld => ?_)
        clear hK K hb
        refine wpAnyH_one 10 10 (.tuple #[.agg #[.slice none 0 0, .slice none 0 0, .slice none 0 0, .slice none 0 0], .int .i64 Z]) hHeld rfl rfl (by kernel_rfl) (fun _ _ _ _ _ h => h) (by kernel_rfl) (by kernel_rfl) (by rfl) ?_ ?_
        · intro V hSw; (try dsimp only at hSw); go_simp
        simp only [Act.put, List.setIfInBounds_toArray, List.set_cons_zero, List.set_cons_succ]
        refine wpAnyH_one 11 21 (.agg #[.slice none 0 0, .slice none 0 0, .slice none 0 0, .slice none 0 0]) hHeld rfl rfl (by kernel_rfl) (fun _ _ _ _ _ h => h) (by kernel_rfl) (by kernel_rfl) (by rfl) ?_ ?_
        · intro V hSw; (try dsimp only at hSw); go_simp
        simp only [Act.put, List.setIfInBounds_toArray, List.set_cons_zero, List.set_cons_succ]
        refine wpAnyH_one 12 22 (.int .i64 Z) hHeld rfl rfl (by kernel_rfl) (fun _ _ _ _ _ h => h) (by kernel_rfl) (by kernel_rfl) (by rfl) ?_ ?_
        · intro V hSw; (try dsimp only at hSw); go_simp
        simp only [Act.put, List.setIfInBounds_toArray, List.set_cons_zero, List.set_cons_succ]
        obtain ⟨z0, z1, z2, z3⟩ := sv_cells hfl
        obtain ⟨y0, y1, y2, y3⟩ := sv_free hfl
        refine wpAnyH_ready (rs := [14]) (by kernel_rfl) (by simp) ?_
        refine AllReadyH.cons rfl (fun K hK => ?_) AllReadyH.nil
        go_simp
        have H8 := hid (held8 (a := .slice none 0 0) (b := .slice none 0 0) (c := .slice none 0 0) (d := .slice none 0 0) HB_V5.out (show W0.heap.size ≤ V1.heap.size by omega) hfl)
        refine hK.out _ _ H8.out.below (fun hHeld => ?_)
        clear hK K
        refine wpAnyH_one 15 9 (.int .i64 Z) hHeld rfl rfl (by kernel_rfl) (fun _ _ _ _ _ h => h) (by kernel_rfl) (by kernel_rfl) (by rfl) ?_ ?_
        · intro V hSw; (try dsimp only at hSw); go_simp
        simp only [Act.put, List.setIfInBounds_toArray, List.set_cons_zero, List.set_cons_succ]
        refine wpAnyH_done (by kernel_rfl) ?_ _
        go_wp2_with fail
        go_meet
        exact ⟨_, rfl, rfl, H8.out⟩
    · go_simp
      have hfl := heap_new V0 (.cells #[.slice none 0 0, .slice none 0 0, .slice none 0 0, .slice none 0 0] 77)
      have hb : Below V0.heap.size V0 (V0.alloc (.cells #[.slice none 0 0, .slice none 0 0, .slice none 0 0, .slice none 0 0] 77)) := (Below.refl _ V0).alloc (Nat.le_refl _) _
      have hx1 := (Array.getElem?_eq_some_iff.1 hfl).1
      generalize V0.alloc (.cells #[.slice none 0 0, .slice none 0 0, .slice none 0 0, .slice none 0 0] 77) = V1 at *
      have HB_V1 := hid (HB_V0.out.trans (hb.mono HB_V0.out.size))
      have hz1 := HB_V1.out.size
      have hy1 := hb.size
      refine hK.out _ _ HB_V1.out (fun hHeld => ?_)
      clear hK K hb
      refine wpAnyH_ready (rs := [5]) (by kernel_rfl) (by simp) ?_
      refine AllReadyH.cons rfl (fun K hK => ?_) (AllReadyH.nil)
      go_simp
      have hnw := heap_new V1 (.cells #[.int .i64 x, .int .i64 c, .int .i64 y, .int .i64 d] 26)
      have hb : Below V1.heap.size V1 (V1.alloc (.cells #[.int .i64 x, .int .i64 c, .int .i64 y, .int .i64 d] 26)) := (Below.refl _ V1).alloc (Nat.le_refl _) _
      have hx2 := (Array.getElem?_eq_some_iff.1 hnw).1
      generalize V1.alloc (.cells #[.int .i64 x, .int .i64 c, .int .i64 y, .int .i64 d] 26) = V2 at *
      have HB_V2 := hid (HB_V1.out.trans (hb.mono HB_V1.out.size))
      have hz2 := HB_V2.out.size
      have hy2 := hb.size
      have hfl := blkLater hb hfl
      have r1 := two_rdB hnw
      refine hK.out _ _ HB_V2.out (fun hHeld => ?_)
      clear hK K hb
      refine wpAnyH_ready (rs := [7]) (by kernel_rfl) (by simp) ?_
      refine AllReadyH.cons rfl (fun K hK => ?_) (AllReadyH.nil)
      go_simp
      have hnw := heap_new V2 (.cells #[.slice (some ⟨V1.heap.size, 0, none⟩) 2 2, .slice ov more.length cv] 35)
      have hb : Below V2.heap.size V2 (V2.alloc (.cells #[.slice (some ⟨V1.heap.size, 0, none⟩) 2 2, .slice ov more.length cv] 35)) := (Below.refl _ V2).alloc (Nat.le_refl _) _
      have hx3 := (Array.getElem?_eq_some_iff.1 hnw).1
      generalize V2.alloc (.cells #[.slice (some ⟨V1.heap.size, 0, none⟩) 2 2, .slice ov more.length cv] 35) = V3 at *
      have HB_V3 := hid (HB_V2.out.trans (hb.mono HB_V2.out.size))
      have hz3 := HB_V3.out.size
      have hy3 := hb.size
      have hfl := blkLater hb hfl
      have r1 := r1.later hb
      have l1 := two_cellsLB hnw (r1) (HV.out _ (bx.trans (HB_V3.out.mono bx.size)))
      refine hK.out _ _ HB_V3.out (fun hHeld => ?_)
      clear hK K hb
      refine wpAnyH_ready (rs := [8]) (by kernel_rfl) (by simp) ?_
      refine AllReadyH.cons rfl (fun K hK => ?_) (AllReadyH.nil)
      go_simp
      go_wp2_with (go_at_call 94; refine (concatB_any V2.heap.size 2 _ V3 (by omega) l1 (by simp) (hsum.out _ _)).mono ?_; rintro e V4 ⟨vc, rfl, hoc, hb⟩)
      have HB_V4 := hid (HB_V3.out.trans (hb.mono HB_V3.out.size))
      have hz4 := HB_V4.out.size
      have hy4 := hb.size
      have hfl := blkLater hb hfl
      have r1 := r1.later hb
      have l1 := l1.later (by omega) hb
      have rc := cat_rd hoc
      refine hK.out _ _ HB_V4.out (fun hHeld => ?_)
      clear hK K hb
      refine wpAnyH_ready (rs := [9]) (by kernel_rfl) (by simp) ?_
      refine AllReadyH.cons rfl (fun K hK => ?_) (AllReadyH.nil)
      go_simp
      go_wp2_with (go_at_call 41; refine (HLk.out vc V4 (bx.trans (HB_V4.out.mono bx.size)) rc).mono ?_; rintro e V5 ⟨rfl, hb⟩)
      have HB_V5 := hid (HB_V4.out.trans (hb.mono HB_V4.out.size))
      have hz5 := HB_V5.out.size
      have hy5 := hb.size
      have hfl := blkLater hb hfl
      have r1 := r1.later hb
      have l1 := l1.later (by omega) hb
      have rc := rc.later hb
      refine hK.out _ _ HB_V5.out (fun hHeld => ?_)
      clear hK K hb
      refine wpAnyH_one 10 10 (.tuple #[.agg #[.slice none 0 0, .slice none 0 0, .slice none 0 0, .slice none 0 0], .int .i64 Z]) hHeld rfl rfl (by kernel_rfl) (fun _ _ _ _ _ h => h) (by kernel_rfl) (by kernel_rfl) (by rfl) ?_ ?_
      · intro V hSw; (try dsimp only at hSw); go_simp
      simp only [Act.put, List.setIfInBounds_toArray, List.set_cons_zero, List.set_cons_succ]
      refine wpAnyH_one 11 21 (.agg #[.slice none 0 0, .slice none 0 0, .slice none 0 0, .slice none 0 0]) hHeld rfl rfl (by kernel_rfl) (fun _ _ _ _ _ h => h) (by kernel_rfl) (by kernel_rfl) (by rfl) ?_ ?_
      · intro V hSw; (try dsimp only at hSw); go_simp
      simp only [Act.put, List.setIfInBounds_toArray, List.set_cons_zero, List.set_cons_succ]
      refine wpAnyH_one 12 22 (.int .i64 Z) hHeld rfl rfl (by kernel_rfl) (fun _ _ _ _ _ h => h) (by kernel_rfl) (by kernel_rfl) (by rfl) ?_ ?_
      · intro V hSw; (try dsimp only at hSw); go_simp
      simp only [Act.put, List.setIfInBounds_toArray, List.set_cons_zero, List.set_cons_succ]
      obtain ⟨z0, z1, z2, z3⟩ := sv_cells hfl
      obtain ⟨y0, y1, y2, y3⟩ := sv_free hfl
      refine wpAnyH_ready (rs := [14]) (by kernel_rfl) (by simp) ?_
      refine AllReadyH.cons rfl (fun K hK => ?_) AllReadyH.nil
      go_simp
      have H8 := hid (held8 (a := .slice none 0 0) (b := .slice none 0 0) (c := .slice none 0 0) (d := .slice none 0 0) HB_V5.out (show W0.heap.size ≤ V0.heap.size by omega) hfl)
      refine hK.out _ _ H8.out.below (fun hHeld => ?_)
      clear hK K
      refine wpAnyH_one 15 9 (.int .i64 Z) hHeld rfl rfl (by kernel_rfl) (fun _ _ _ _ _ h => h) (by kernel_rfl) (by kernel_rfl) (by rfl) ?_ ?_
      · intro V hSw; (try dsimp only at hSw); go_simp
      simp only [Act.put, List.setIfInBounds_toArray, List.set_cons_zero, List.set_cons_succ]
      refine wpAnyH_done (by kernel_rfl) ?_ _
      go_wp2_with fail
      go_meet
      exact ⟨_, rfl, rfl, H8.out⟩
    --end slow
  case rest =>
    obtain ⟨B, rfl, rfl, h8⟩ := hcut
    have hs8 := h8.below.size
    obtain ⟨r0, r1, r2, r3⟩ := sv_cells ((h8.below.block (w.heap.size + 1 + 1) (by omega)).trans HG2.out)
    obtain ⟨z0, z1, z2, z3⟩ := sv_free ((h8.below.block (w.heap.size + 1 + 1) (by omega)).trans HG2.out)
    have HB := hid (bx.trans (h8.below.mono bx.size))
    clear h8 hs8
    go_wp2
    exact bodyPost_ret (v := .tuple #[zeroV, .int .i64 Z]) (by simp [results, Tryz.results58, go_sem, zeroV, r0, r1, r2, r3]) rfl ⟨rfl, set4_below HB.out (by omega) _ _ _ _⟩

/-- Is a range valid? -/
def validD (ns : List NodeD) (p q : Int × Int) : Bool := rootP ns p.1 == rootP ns q.1 && decide (posD ns p ≤ posD ns q)
theorem valid_pos {ns : List NodeD} {R F L : List Int} (h : RightF ns) (hN : NumL ns R F L) {p q : Int × Int} (hp : isPt ns p) (hq : isPt ns q) : validN ns F p q = validD ns p q := by
  unfold validN validD
  by_cases e : rootP ns p.1 = rootP ns q.1
  · rw [(num_pos h h.oneOf hN.numF hp).1, (num_pos h h.oneOf hN.numF hq).1, e]
    congr 1
    by_cases hl : posD ns p ≤ posD ns q
    · rw [decide_eq_true hl, decide_eq_true (by omega)]
    · rw [decide_eq_false hl, decide_eq_false (by omega)]
  · rw [beq_eq_false_iff_ne.2 e, Bool.false_and, Bool.false_and]
set_option maxRecDepth 100000 in
set_option maxHeartbeats 8000000 in
theorem bSettled_any (o : Option Addr) (cap : Nat) (v : Value) (x c y d : Int) (more : List (Int × Int)) (ns : List NodeD) (w : World) (hF : FRd w o cap ns) (hkl : ∀ (i : Nat) (hi : i < ns.length), ns[i].kids.length ≤ 1099511627776) (hal : ∀ (i : Nat) (hi : i < ns.length), ns[i].attrs.length ≤ 1099511627776) (hv : RdB w v more) (hl : more.length ≤ 4000) (hR : RightF ns) (hE : wrongD ns (setL x c y d more) = 0) :
    Calls Tryz.prog 58 #[.agg #[.slice o ns.length cap], rngV x c y d, v] w fun e w' => Below w.heap.size w w' ∧ ((validD ns (x, c) (y, d) = false ∧ e = .returned (.tuple #[zeroV, .int .i64 15])) ∨ (validD ns (x, c) (y, d) = true ∧ ∃ bR bF bL, e = .returned (.tuple #[numsV o cap ns.length bR bF bL (ns.length + 1), .int .i64 0]) ∧ NumsAt ns w' bR bF bL)) := by
  obtain ⟨ov, cv, hve, _⟩ := id hv
  have HV : Hid (∀ V : World, Below w.heap.size w V → RdB V v more) := fun V hV => hv.later hV
  obtain ⟨bx, g0, g1, g2, sx⟩ := three_newB w (.cells #[.slice o ns.length cap] 24) (.cells #[.int .i64 x, .int .i64 c, .int .i64 y, .int .i64 d] 44) zeroO
  have hsum : Hid (∀ v1 v2 : Value, sumLB [(v1, [(x, c), (y, d)]), (v2, more)] ≤ 1000000) := by
    intro v1 v2
    simp [sumLB]
    omega
  have hset : setL x c y d more = [(x, c), (y, d)] ++ more := rfl
  have hlen : (setL x c y d more).length ≤ 4096 := by rw [hset]; simp; omega
  subst hve
  have HLk : Hid (∀ (vc : Value) (V : World), Below w.heap.size w V → RdB V vc (setL x c y d more) → _) := fun vc V hV hr => bLooked_ok o cap vc _ ns V (hF.later hV) hkl hal hr hlen hR hE
  have hpts := wrongD_zero.1 hE
  have hp : isPt ns (x, c) := hpts _ (by rw [hset]; simp)
  have hq : isPt ns (y, d) := hpts _ (by rw [hset]; simp)
  obtain ⟨i, hi, rfl⟩ := there_idx hp.1
  obtain ⟨j, hj, rfl⟩ := there_idx hq.1
  obtain ⟨b, off, rfl, hFA⟩ := hF.at_ (by omega)
  have HVa : Hid (∀ (bR bF bL : Nat) (V : World), Below w.heap.size w V → NumsAt ns V bR bF bL → Calls Tryz.prog 55 #[numsV (some ⟨b, off, none⟩) cap ns.length bR bF bL (ns.length + 1), rngV ((i : Int) + 1) c ((j : Int) + 1) d] V fun e w' => e = .returned (.bool (validD ns ((i : Int) + 1, c) ((j : Int) + 1, d))) ∧ Below V.heap.size V w') := by
    intro bR bF bL V hV hN
    obtain ⟨R, F, L, hNl⟩ := hN.lists
    rw [← valid_pos hR hNl.num hp hq]
    exact pValid_any b off cap bR bF bL i j c d ns R F L V hR (hFA.later hV) hNl hi hj hp hq
  generalize validD ns ((i : Int) + 1, c) ((j : Int) + 1, d) = VD at *
  clear hF hkl hal hv hE hlen hset hpts hp hq hi hj hFA hR
  unfold zeroO at *
  unfold zeroV rngV numsV at *
  generalize hxe : ((i : Int) + 1) = x at *
  generalize hye : ((j : Int) + 1) = y at *
  generalize hoe : (some ⟨b, off, none⟩ : Option Addr) = o at *
  clear hxe hye hoe
  go_enter Tryz.func58, Tryz.ntmps58
  go_upto_region 1 with fail
  have HG2 := hid g2
  have HG1 := hid g1
  generalize (((w.alloc (.cells #[.slice o ns.length cap] 24)).alloc (.cells #[.int .i64 x, .int .i64 c, .int .i64 y, .int .i64 d] 44)).alloc (.cells #[.slice none 0 0, .slice none 0 0, .slice none 0 0, .slice none 0 0] 77)) = W0 at *
  have n0 := (box_cell_l g0).1
  obtain ⟨a0, a1, a2, a3⟩ := rng_cells g1
  go_cut [8, 9] (fun t u wx => ∃ bR bF bL B, t = .pointer (some ⟨B, 0, none⟩) ∧ u = .int .i64 0 ∧ Held8 W0 (.agg #[.slice o ns.length cap, .slice (some ⟨bR, 0, none⟩) (ns.length + 1) (ns.length + 1), .slice (some ⟨bF, 0, none⟩) (ns.length + 1) (ns.length + 1), .slice (some ⟨bL, 0, none⟩) (ns.length + 1) (ns.length + 1)]) B wx ∧ NumsAt ns wx bR bF bL)
  case first =>
    --slow
    refine wp_region_held_drew (S := fun V => Below W0.heap.size W0 V) (by kernel_rfl) ((Below.refl _ _).drew) (fun hHeld => ?_)
    have HB_V0 := hid hHeld
    have hz0 := hHeld.size
    generalize W0.drew = V0 at *
    refine wpAnyH_one 0 11 (.agg #[.slice o ns.length cap]) hHeld rfl rfl (by kernel_rfl) (fun _ _ _ _ _ h => h) (by kernel_rfl) (by kernel_rfl) (by rfl) ?_ ?_
    · intro V hSw; (try dsimp only at hSw); have k0 := cellLater (B := w.heap.size) hSw (by omega) n0; go_simp
    simp only [Act.put, List.setIfInBounds_toArray, List.set_cons_zero, List.set_cons_succ]
    refine wpAnyH_one 1 12 (.pointer (some ⟨w.heap.size + 1, 0, none⟩)) hHeld rfl rfl (by kernel_rfl) (fun _ _ _ _ _ h => h) (by kernel_rfl) (by kernel_rfl) (by rfl) ?_ ?_
    · intro V hSw; (try dsimp only at hSw); go_simp
    simp only [Act.put, List.setIfInBounds_toArray, List.set_cons_zero, List.set_cons_succ]
    refine wpAnyH_one 2 13 (.agg #[.int .i64 x, .int .i64 c]) hHeld rfl rfl (by kernel_rfl) (fun _ _ _ _ _ h => h) (by kernel_rfl) (by kernel_rfl) (by rfl) ?_ ?_
    · intro V hSw; (try dsimp only at hSw); have k0 := cellLater (B := w.heap.size + 1) hSw (by omega) a0; have k1 := cellLater (B := w.heap.size + 1) hSw (by omega) a1; go_simp
    simp only [Act.put, List.setIfInBounds_toArray, List.set_cons_zero, List.set_cons_succ]
    refine wpAnyH_one 3 14 (.pointer (some ⟨w.heap.size + 1, 2, none⟩)) hHeld rfl rfl (by kernel_rfl) (fun _ _ _ _ _ h => h) (by kernel_rfl) (by kernel_rfl) (by rfl) ?_ ?_
    · intro V hSw; (try dsimp only at hSw); go_simp
    simp only [Act.put, List.setIfInBounds_toArray, List.set_cons_zero, List.set_cons_succ]
    refine wpAnyH_one 4 15 (.agg #[.int .i64 y, .int .i64 d]) hHeld rfl rfl (by kernel_rfl) (fun _ _ _ _ _ h => h) (by kernel_rfl) (by kernel_rfl) (by rfl) ?_ ?_
    · intro V hSw; (try dsimp only at hSw); have k0 := cellLater (B := w.heap.size + 1) hSw (by omega) a2; have k1 := cellLater (B := w.heap.size + 1) hSw (by omega) a3; go_simp
    simp only [Act.put, List.setIfInBounds_toArray, List.set_cons_zero, List.set_cons_succ]
    refine wpAnyH_one 6 17 (.slice ov more.length cv) hHeld rfl rfl (by kernel_rfl) (fun _ _ _ _ _ h => h) (by kernel_rfl) (by kernel_rfl) (by rfl) ?_ ?_
    · intro V hSw; (try dsimp only at hSw); go_simp
    simp only [Act.put, List.setIfInBounds_toArray, List.set_cons_zero, List.set_cons_succ]
    refine wpAnyH_ready (rs := [5, 13]) (by kernel_rfl) (by simp) ?_
    refine AllReadyH.cons rfl (fun K hK => ?_) (AllReadyH.cons rfl (fun K hK => ?_) (AllReadyH.nil))
    · go_simp
      have hnw := heap_new V0 (.cells #[.int .i64 x, .int .i64 c, .int .i64 y, .int .i64 d] 26)
      have hb : Below V0.heap.size V0 (V0.alloc (.cells #[.int .i64 x, .int .i64 c, .int .i64 y, .int .i64 d] 26)) := (Below.refl _ V0).alloc (Nat.le_refl _) _
      have hx1 := (Array.getElem?_eq_some_iff.1 hnw).1
      generalize V0.alloc (.cells #[.int .i64 x, .int .i64 c, .int .i64 y, .int .i64 d] 26) = V1 at *
      have HB_V1 := hid (HB_V0.out.trans (hb.mono HB_V0.out.size))
      have hz1 := HB_V1.out.size
      have hy1 := hb.size
      have r1 := two_rdB hnw
      refine hK.out _ _ HB_V1.out (fun hHeld => ?_)
      clear hK K hb
      refine wpAnyH_ready (rs := [7, 13]) (by kernel_rfl) (by simp) ?_
      refine AllReadyH.cons rfl (fun K hK => ?_) (AllReadyH.cons rfl (fun K hK => ?_) (AllReadyH.nil))
      · go_simp
        have hnw := heap_new V1 (.cells #[.slice (some ⟨V0.heap.size, 0, none⟩) 2 2, .slice ov more.length cv] 35)
        have hb : Below V1.heap.size V1 (V1.alloc (.cells #[.slice (some ⟨V0.heap.size, 0, none⟩) 2 2, .slice ov more.length cv] 35)) := (Below.refl _ V1).alloc (Nat.le_refl _) _
        have hx2 := (Array.getElem?_eq_some_iff.1 hnw).1
        generalize V1.alloc (.cells #[.slice (some ⟨V0.heap.size, 0, none⟩) 2 2, .slice ov more.length cv] 35) = V2 at *
        have HB_V2 := hid (HB_V1.out.trans (hb.mono HB_V1.out.size))
        have hz2 := HB_V2.out.size
        have hy2 := hb.size
        have r1 := r1.later hb
        have l1 := two_cellsLB hnw (r1) (HV.out _ (bx.trans (HB_V2.out.mono bx.size)))
        refine hK.out _ _ HB_V2.out (fun hHeld => ?_)
        clear hK K hb
        refine wpAnyH_ready (rs := [8, 13]) (by kernel_rfl) (by simp) ?_
        refine AllReadyH.cons rfl (fun K hK => ?_) (AllReadyH.cons rfl (fun K hK => ?_) (AllReadyH.nil))
        · go_simp
          go_wp2_with (go_at_call 94; refine (concatB_any V1.heap.size 2 _ V2 (by omega) l1 (by simp) (hsum.out _ _)).mono ?_; rintro e V3 ⟨vc, rfl, hoc, hb⟩)
          have HB_V3 := hid (HB_V2.out.trans (hb.mono HB_V2.out.size))
          have hz3 := HB_V3.out.size
          have hy3 := hb.size
          have r1 := r1.later hb
          have l1 := l1.later (by omega) hb
          have rc := cat_rd hoc
          refine hK.out _ _ HB_V3.out (fun hHeld => ?_)
          clear hK K hb
          refine wpAnyH_ready (rs := [9, 13]) (by kernel_rfl) (by simp) ?_
          refine AllReadyH.cons rfl (fun K hK => ?_) (AllReadyH.cons rfl (fun K hK => ?_) (AllReadyH.nil))
          · go_simp
            go_wp2_with (go_at_call 41; refine (HLk.out vc V3 (bx.trans (HB_V3.out.mono bx.size)) rc).mono ?_; rintro e V4 ⟨bR, bF, bL, rfl, hNm, hb⟩)
            have HB_V4 := hid (HB_V3.out.trans (hb.mono HB_V3.out.size))
            have hz4 := HB_V4.out.size
            have hy4 := hb.size
            have r1 := r1.later hb
            have l1 := l1.later (by omega) hb
            have rc := rc.later hb
            have hN2 := hNm
            refine hK.out _ _ HB_V4.out (fun hHeld => ?_)
            clear hK K hb
            refine wpAnyH_one 10 10 (.tuple #[.agg #[.slice o ns.length cap, .slice (some ⟨bR, 0, none⟩) (ns.length + 1) (ns.length + 1), .slice (some ⟨bF, 0, none⟩) (ns.length + 1) (ns.length + 1), .slice (some ⟨bL, 0, none⟩) (ns.length + 1) (ns.length + 1)], .int .i64 0]) hHeld rfl rfl (by kernel_rfl) (fun _ _ _ _ _ h => h) (by kernel_rfl) (by kernel_rfl) (by rfl) ?_ ?_
            · intro V hSw; (try dsimp only at hSw); go_simp
            simp only [Act.put, List.setIfInBounds_toArray, List.set_cons_zero, List.set_cons_succ]
            refine wpAnyH_one 11 21 (.agg #[.slice o ns.length cap, .slice (some ⟨bR, 0, none⟩) (ns.length + 1) (ns.length + 1), .slice (some ⟨bF, 0, none⟩) (ns.length + 1) (ns.length + 1), .slice (some ⟨bL, 0, none⟩) (ns.length + 1) (ns.length + 1)]) hHeld rfl rfl (by kernel_rfl) (fun _ _ _ _ _ h => h) (by kernel_rfl) (by kernel_rfl) (by rfl) ?_ ?_
            · intro V hSw; (try dsimp only at hSw); go_simp
            simp only [Act.put, List.setIfInBounds_toArray, List.set_cons_zero, List.set_cons_succ]
            refine wpAnyH_one 12 22 (.int .i64 0) hHeld rfl rfl (by kernel_rfl) (fun _ _ _ _ _ h => h) (by kernel_rfl) (by kernel_rfl) (by rfl) ?_ ?_
            · intro V hSw; (try dsimp only at hSw); go_simp
            simp only [Act.put, List.setIfInBounds_toArray, List.set_cons_zero, List.set_cons_succ]
            refine wpAnyH_ready (rs := [13]) (by kernel_rfl) (by simp) ?_
            refine AllReadyH.cons rfl (fun K hK => ?_) (AllReadyH.nil)
            go_simp
            have hfl := heap_new V4 (.cells #[.slice none 0 0, .slice none 0 0, .slice none 0 0, .slice none 0 0] 77)
            have hb : Below V4.heap.size V4 (V4.alloc (.cells #[.slice none 0 0, .slice none 0 0, .slice none 0 0, .slice none 0 0] 77)) := (Below.refl _ V4).alloc (Nat.le_refl _) _
            have hx5 := (Array.getElem?_eq_some_iff.1 hfl).1
            generalize V4.alloc (.cells #[.slice none 0 0, .slice none 0 0, .slice none 0 0, .slice none 0 0] 77) = V5 at *
            have HB_V5 := hid (HB_V4.out.trans (hb.mono HB_V4.out.size))
            have hz5 := HB_V5.out.size
            have hy5 := hb.size
            have r1 := r1.later hb
            have l1 := l1.later (by omega) hb
            have rc := rc.later hb
            have hN2 := hN2.later hb
            refine hK.out _ _ HB_V5.out (fun hHeld => ?_)
            clear hK K hb
            obtain ⟨z0, z1, z2, z3⟩ := sv_cells hfl
            obtain ⟨y0, y1, y2, y3⟩ := sv_free hfl
            refine wpAnyH_ready (rs := [14]) (by kernel_rfl) (by simp) ?_
            refine AllReadyH.cons rfl (fun K hK => ?_) AllReadyH.nil
            go_simp
            have H8 := hid (held8 (a := .slice o ns.length cap) (b := .slice (some ⟨bR, 0, none⟩) (ns.length + 1) (ns.length + 1)) (c := .slice (some ⟨bF, 0, none⟩) (ns.length + 1) (ns.length + 1)) (d := .slice (some ⟨bL, 0, none⟩) (ns.length + 1) (ns.length + 1)) HB_V5.out (show W0.heap.size ≤ V4.heap.size by omega) hfl)
            have HN8 := hid (nums_set4 (a := .slice o ns.length cap) (b := .slice (some ⟨bR, 0, none⟩) (ns.length + 1) (ns.length + 1)) (c := .slice (some ⟨bF, 0, none⟩) (ns.length + 1) (ns.length + 1)) (d := .slice (some ⟨bL, 0, none⟩) (ns.length + 1) (ns.length + 1)) hN2 hfl)
            refine hK.out _ _ H8.out.below (fun hHeld => ?_)
            clear hK K
            refine wpAnyH_one 15 9 (.int .i64 0) hHeld rfl rfl (by kernel_rfl) (fun _ _ _ _ _ h => h) (by kernel_rfl) (by kernel_rfl) (by rfl) ?_ ?_
            · intro V hSw; (try dsimp only at hSw); go_simp
            simp only [Act.put, List.setIfInBounds_toArray, List.set_cons_zero, List.set_cons_succ]
            refine wpAnyH_done (by kernel_rfl) ?_ _
            go_wp2_with fail
            go_meet
            exact ⟨bR, bF, bL, _, rfl, rfl, H8.out, HN8.out⟩
          · go_simp
            have hfl := heap_new V3 (.cells #[.slice none 0 0, .slice none 0 0, .slice none 0 0, .slice none 0 0] 77)
            have hb : Below V3.heap.size V3 (V3.alloc (.cells #[.slice none 0 0, .slice none 0 0, .slice none 0 0, .slice none 0 0] 77)) := (Below.refl _ V3).alloc (Nat.le_refl _) _
            have hx4 := (Array.getElem?_eq_some_iff.1 hfl).1
            generalize V3.alloc (.cells #[.slice none 0 0, .slice none 0 0, .slice none 0 0, .slice none 0 0] 77) = V4 at *
            have HB_V4 := hid (HB_V3.out.trans (hb.mono HB_V3.out.size))
            have hz4 := HB_V4.out.size
            have hy4 := hb.size
            have r1 := r1.later hb
            have l1 := l1.later (by omega) hb
            have rc := rc.later hb
            refine hK.out _ _ HB_V4.out (fun hHeld => ?_)
            clear hK K hb
            refine wpAnyH_ready (rs := [9]) (by kernel_rfl) (by simp) ?_
            refine AllReadyH.cons rfl (fun K hK => ?_) (AllReadyH.nil)
            go_simp
            go_wp2_with (go_at_call 41; refine (HLk.out vc V4 (bx.trans (HB_V4.out.mono bx.size)) rc).mono ?_; rintro e V5 ⟨bR, bF, bL, rfl, hNm, hb⟩)
            have HB_V5 := hid (HB_V4.out.trans (hb.mono HB_V4.out.size))
            have hz5 := HB_V5.out.size
            have hy5 := hb.size
            have r1 := r1.later hb
            have l1 := l1.later (by omega) hb
            have rc := rc.later hb
            have hfl := blkLater hb hfl
            have hN2 := hNm
            refine hK.out _ _ HB_V5.out (fun hHeld => ?_)
            clear hK K hb
            refine wpAnyH_one 10 10 (.tuple #[.agg #[.slice o ns.length cap, .slice (some ⟨bR, 0, none⟩) (ns.length + 1) (ns.length + 1), .slice (some ⟨bF, 0, none⟩) (ns.length + 1) (ns.length + 1), .slice (some ⟨bL, 0, none⟩) (ns.length + 1) (ns.length + 1)], .int .i64 0]) hHeld rfl rfl (by kernel_rfl) (fun _ _ _ _ _ h => h) (by kernel_rfl) (by kernel_rfl) (by rfl) ?_ ?_
            · intro V hSw; (try dsimp only at hSw); go_simp
            simp only [Act.put, List.setIfInBounds_toArray, List.set_cons_zero, List.set_cons_succ]
            refine wpAnyH_one 11 21 (.agg #[.slice o ns.length cap, .slice (some ⟨bR, 0, none⟩) (ns.length + 1) (ns.length + 1), .slice (some ⟨bF, 0, none⟩) (ns.length + 1) (ns.length + 1), .slice (some ⟨bL, 0, none⟩) (ns.length + 1) (ns.length + 1)]) hHeld rfl rfl (by kernel_rfl) (fun _ _ _ _ _ h => h) (by kernel_rfl) (by kernel_rfl) (by rfl) ?_ ?_
            · intro V hSw; (try dsimp only at hSw); go_simp
            simp only [Act.put, List.setIfInBounds_toArray, List.set_cons_zero, List.set_cons_succ]
            refine wpAnyH_one 12 22 (.int .i64 0) hHeld rfl rfl (by kernel_rfl) (fun _ _ _ _ _ h => h) (by kernel_rfl) (by kernel_rfl) (by rfl) ?_ ?_
            · intro V hSw; (try dsimp only at hSw); go_simp
            simp only [Act.put, List.setIfInBounds_toArray, List.set_cons_zero, List.set_cons_succ]
            obtain ⟨z0, z1, z2, z3⟩ := sv_cells hfl
            obtain ⟨y0, y1, y2, y3⟩ := sv_free hfl
            refine wpAnyH_ready (rs := [14]) (by kernel_rfl) (by simp) ?_
            refine AllReadyH.cons rfl (fun K hK => ?_) AllReadyH.nil
            go_simp
            have H8 := hid (held8 (a := .slice o ns.length cap) (b := .slice (some ⟨bR, 0, none⟩) (ns.length + 1) (ns.length + 1)) (c := .slice (some ⟨bF, 0, none⟩) (ns.length + 1) (ns.length + 1)) (d := .slice (some ⟨bL, 0, none⟩) (ns.length + 1) (ns.length + 1)) HB_V5.out (show W0.heap.size ≤ V3.heap.size by omega) hfl)
            have HN8 := hid (nums_set4 (a := .slice o ns.length cap) (b := .slice (some ⟨bR, 0, none⟩) (ns.length + 1) (ns.length + 1)) (c := .slice (some ⟨bF, 0, none⟩) (ns.length + 1) (ns.length + 1)) (d := .slice (some ⟨bL, 0, none⟩) (ns.length + 1) (ns.length + 1)) hN2 hfl)
            refine hK.out _ _ H8.out.below (fun hHeld => ?_)
            clear hK K
            refine wpAnyH_one 15 9 (.int .i64 0) hHeld rfl rfl (by kernel_rfl) (fun _ _ _ _ _ h => h) (by kernel_rfl) (by kernel_rfl) (by rfl) ?_ ?_
            · intro V hSw; (try dsimp only at hSw); go_simp
            simp only [Act.put, List.setIfInBounds_toArray, List.set_cons_zero, List.set_cons_succ]
            refine wpAnyH_done (by kernel_rfl) ?_ _
            go_wp2_with fail
            go_meet
            exact ⟨bR, bF, bL, _, rfl, rfl, H8.out, HN8.out⟩
        · go_simp
          have hfl := heap_new V2 (.cells #[.slice none 0 0, .slice none 0 0, .slice none 0 0, .slice none 0 0] 77)
          have hb : Below V2.heap.size V2 (V2.alloc (.cells #[.slice none 0 0, .slice none 0 0, .slice none 0 0, .slice none 0 0] 77)) := (Below.refl _ V2).alloc (Nat.le_refl _) _
          have hx3 := (Array.getElem?_eq_some_iff.1 hfl).1
          generalize V2.alloc (.cells #[.slice none 0 0, .slice none 0 0, .slice none 0 0, .slice none 0 0] 77) = V3 at *
          have HB_V3 := hid (HB_V2.out.trans (hb.mono HB_V2.out.size))
          have hz3 := HB_V3.out.size
          have hy3 := hb.size
          have r1 := r1.later hb
          have l1 := l1.later (by omega) hb
          refine hK.out _ _ HB_V3.out (fun hHeld => ?_)
          clear hK K hb
          refine wpAnyH_ready (rs := [8]) (by kernel_rfl) (by simp) ?_
          refine AllReadyH.cons rfl (fun K hK => ?_) (AllReadyH.nil)
          go_simp
          go_wp2_with (go_at_call 94; refine (concatB_any V1.heap.size 2 _ V3 (by omega) l1 (by simp) (hsum.out _ _)).mono ?_; rintro e V4 ⟨vc, rfl, hoc, hb⟩)
          have HB_V4 := hid (HB_V3.out.trans (hb.mono HB_V3.out.size))
          have hz4 := HB_V4.out.size
          have hy4 := hb.size
          have r1 := r1.later hb
          have l1 := l1.later (by omega) hb
          have hfl := blkLater hb hfl
          have rc := cat_rd hoc
          refine hK.out _ _ HB_V4.out (fun hHeld => ?_)
          clear hK K hb
          refine wpAnyH_ready (rs := [9]) (by kernel_rfl) (by simp) ?_
          refine AllReadyH.cons rfl (fun K hK => ?_) (AllReadyH.nil)
          go_simp
          go_wp2_with (go_at_call 41; refine (HLk.out vc V4 (bx.trans (HB_V4.out.mono bx.size)) rc).mono ?_; rintro e V5 ⟨bR, bF, bL, rfl, hNm, hb⟩)
          have HB_V5 := hid (HB_V4.out.trans (hb.mono HB_V4.out.size))
          have hz5 := HB_V5.out.size
          have hy5 := hb.size
          have r1 := r1.later hb
          have l1 := l1.later (by omega) hb
          have hfl := blkLater hb hfl
          have rc := rc.later hb
          have hN2 := hNm
          refine hK.out _ _ HB_V5.out (fun hHeld => ?_)
          clear hK K hb
          refine wpAnyH_one 10 10 (.tuple #[.agg #[.slice o ns.length cap, .slice (some ⟨bR, 0, none⟩) (ns.length + 1) (ns.length + 1), .slice (some ⟨bF, 0, none⟩) (ns.length + 1) (ns.length + 1), .slice (some ⟨bL, 0, none⟩) (ns.length + 1) (ns.length + 1)], .int .i64 0]) hHeld rfl rfl (by kernel_rfl) (fun _ _ _ _ _ h => h) (by kernel_rfl) (by kernel_rfl) (by rfl) ?_ ?_
          · intro V hSw; (try dsimp only at hSw); go_simp
          simp only [Act.put, List.setIfInBounds_toArray, List.set_cons_zero, List.set_cons_succ]
          refine wpAnyH_one 11 21 (.agg #[.slice o ns.length cap, .slice (some ⟨bR, 0, none⟩) (ns.length + 1) (ns.length + 1), .slice (some ⟨bF, 0, none⟩) (ns.length + 1) (ns.length + 1), .slice (some ⟨bL, 0, none⟩) (ns.length + 1) (ns.length + 1)]) hHeld rfl rfl (by kernel_rfl) (fun _ _ _ _ _ h => h) (by kernel_rfl) (by kernel_rfl) (by rfl) ?_ ?_
          · intro V hSw; (try dsimp only at hSw); go_simp
          simp only [Act.put, List.setIfInBounds_toArray, List.set_cons_zero, List.set_cons_succ]
          refine wpAnyH_one 12 22 (.int .i64 0) hHeld rfl rfl (by kernel_rfl) (fun _ _ _ _ _ h => h) (by kernel_rfl) (by kernel_rfl) (by rfl) ?_ ?_
          · intro V hSw; (try dsimp only at hSw); go_simp
          simp only [Act.put, List.setIfInBounds_toArray, List.set_cons_zero, List.set_cons_succ]
          obtain ⟨z0, z1, z2, z3⟩ := sv_cells hfl
          obtain ⟨y0, y1, y2, y3⟩ := sv_free hfl
          refine wpAnyH_ready (rs := [14]) (by kernel_rfl) (by simp) ?_
          refine AllReadyH.cons rfl (fun K hK => ?_) AllReadyH.nil
          go_simp
          have H8 := hid (held8 (a := .slice o ns.length cap) (b := .slice (some ⟨bR, 0, none⟩) (ns.length + 1) (ns.length + 1)) (c := .slice (some ⟨bF, 0, none⟩) (ns.length + 1) (ns.length + 1)) (d := .slice (some ⟨bL, 0, none⟩) (ns.length + 1) (ns.length + 1)) HB_V5.out (show W0.heap.size ≤ V2.heap.size by omega) hfl)
          have HN8 := hid (nums_set4 (a := .slice o ns.length cap) (b := .slice (some ⟨bR, 0, none⟩) (ns.length + 1) (ns.length + 1)) (c := .slice (some ⟨bF, 0, none⟩) (ns.length + 1) (ns.length + 1)) (d := .slice (some ⟨bL, 0, none⟩) (ns.length + 1) (ns.length + 1)) hN2 hfl)
          refine hK.out _ _ H8.out.below (fun hHeld => ?_)
          clear hK K
          refine wpAnyH_one 15 9 (.int .i64 0) hHeld rfl rfl (by kernel_rfl) (fun _ _ _ _ _ h => h) (by kernel_rfl) (by kernel_rfl) (by rfl) ?_ ?_
          · intro V hSw; (try dsimp only at hSw); go_simp
          simp only [Act.put, List.setIfInBounds_toArray, List.set_cons_zero, List.set_cons_succ]
          refine wpAnyH_done (by kernel_rfl) ?_ _
          go_wp2_with fail
          go_meet
          exact ⟨bR, bF, bL, _, rfl, rfl, H8.out, HN8.out⟩
      · go_simp
        have hfl := heap_new V1 (.cells #[.slice none 0 0, .slice none 0 0, .slice none 0 0, .slice none 0 0] 77)
        have hb : Below V1.heap.size V1 (V1.alloc (.cells #[.slice none 0 0, .slice none 0 0, .slice none 0 0, .slice none 0 0] 77)) := (Below.refl _ V1).alloc (Nat.le_refl _) _
        have hx2 := (Array.getElem?_eq_some_iff.1 hfl).1
        generalize V1.alloc (.cells #[.slice none 0 0, .slice none 0 0, .slice none 0 0, .slice none 0 0] 77) = V2 at *
        have HB_V2 := hid (HB_V1.out.trans (hb.mono HB_V1.out.size))
        have hz2 := HB_V2.out.size
        have hy2 := hb.size
        have r1 := r1.later hb
        refine hK.out _ _ HB_V2.out (fun hHeld => ?_)
        clear hK K hb
        refine wpAnyH_ready (rs := [7]) (by kernel_rfl) (by simp) ?_
        refine AllReadyH.cons rfl (fun K hK => ?_) (AllReadyH.nil)
        go_simp
        have hnw := heap_new V2 (.cells #[.slice (some ⟨V0.heap.size, 0, none⟩) 2 2, .slice ov more.length cv] 35)
        have hb : Below V2.heap.size V2 (V2.alloc (.cells #[.slice (some ⟨V0.heap.size, 0, none⟩) 2 2, .slice ov more.length cv] 35)) := (Below.refl _ V2).alloc (Nat.le_refl _) _
        have hx3 := (Array.getElem?_eq_some_iff.1 hnw).1
        generalize V2.alloc (.cells #[.slice (some ⟨V0.heap.size, 0, none⟩) 2 2, .slice ov more.length cv] 35) = V3 at *
        have HB_V3 := hid (HB_V2.out.trans (hb.mono HB_V2.out.size))
        have hz3 := HB_V3.out.size
        have hy3 := hb.size
        have r1 := r1.later hb
        have hfl := blkLater hb hfl
        have l1 := two_cellsLB hnw (r1) (HV.out _ (bx.trans (HB_V3.out.mono bx.size)))
        refine hK.out _ _ HB_V3.out (fun hHeld => ?_)
        clear hK K hb
        refine wpAnyH_ready (rs := [8]) (by kernel_rfl) (by simp) ?_
        refine AllReadyH.cons rfl (fun K hK => ?_) (AllReadyH.nil)
        go_simp
        go_wp2_with (go_at_call 94; refine (concatB_any V2.heap.size 2 _ V3 (by omega) l1 (by simp) (hsum.out _ _)).mono ?_; rintro e V4 ⟨vc, rfl, hoc, hb⟩)
        have HB_V4 := hid (HB_V3.out.trans (hb.mono HB_V3.out.size))
        have hz4 := HB_V4.out.size
        have hy4 := hb.size
        have r1 := r1.later hb
        have hfl := blkLater hb hfl
        have l1 := l1.later (by omega) hb
        have rc := cat_rd hoc
        refine hK.out _ _ HB_V4.out (fun hHeld => ?_)
        clear hK K hb
        refine wpAnyH_ready (rs := [9]) (by kernel_rfl) (by simp) ?_
        refine AllReadyH.cons rfl (fun K hK => ?_) (AllReadyH.nil)
        go_simp
        go_wp2_with (go_at_call 41; refine (HLk.out vc V4 (bx.trans (HB_V4.out.mono bx.size)) rc).mono ?_; rintro e V5 ⟨bR, bF, bL, rfl, hNm, hb⟩)
        have HB_V5 := hid (HB_V4.out.trans (hb.mono HB_V4.out.size))
        have hz5 := HB_V5.out.size
        have hy5 := hb.size
        have r1 := r1.later hb
        have hfl := blkLater hb hfl
        have l1 := l1.later (by omega) hb
        have rc := rc.later hb
        have hN2 := hNm
        refine hK.out _ _ HB_V5.out (fun hHeld => ?_)
        clear hK K hb
        refine wpAnyH_one 10 10 (.tuple #[.agg #[.slice o ns.length cap, .slice (some ⟨bR, 0, none⟩) (ns.length + 1) (ns.length + 1), .slice (some ⟨bF, 0, none⟩) (ns.length + 1) (ns.length + 1), .slice (some ⟨bL, 0, none⟩) (ns.length + 1) (ns.length + 1)], .int .i64 0]) hHeld rfl rfl (by kernel_rfl) (fun _ _ _ _ _ h => h) (by kernel_rfl) (by kernel_rfl) (by rfl) ?_ ?_
        · intro V hSw; (try dsimp only at hSw); go_simp
        simp only [Act.put, List.setIfInBounds_toArray, List.set_cons_zero, List.set_cons_succ]
        refine wpAnyH_one 11 21 (.agg #[.slice o ns.length cap, .slice (some ⟨bR, 0, none⟩) (ns.length + 1) (ns.length + 1), .slice (some ⟨bF, 0, none⟩) (ns.length + 1) (ns.length + 1), .slice (some ⟨bL, 0, none⟩) (ns.length + 1) (ns.length + 1)]) hHeld rfl rfl (by kernel_rfl) (fun _ _ _ _ _ h => h) (by kernel_rfl) (by kernel_rfl) (by rfl) ?_ ?_
        · intro V hSw; (try dsimp only at hSw); go_simp
        simp only [Act.put, List.setIfInBounds_toArray, List.set_cons_zero, List.set_cons_succ]
        refine wpAnyH_one 12 22 (.int .i64 0) hHeld rfl rfl (by kernel_rfl) (fun _ _ _ _ _ h => h) (by kernel_rfl) (by kernel_rfl) (by rfl) ?_ ?_
        · intro V hSw; (try dsimp only at hSw); go_simp
        simp only [Act.put, List.setIfInBounds_toArray, List.set_cons_zero, List.set_cons_succ]
        obtain ⟨z0, z1, z2, z3⟩ := sv_cells hfl
        obtain ⟨y0, y1, y2, y3⟩ := sv_free hfl
        refine wpAnyH_ready (rs := [14]) (by kernel_rfl) (by simp) ?_
        refine AllReadyH.cons rfl (fun K hK => ?_) AllReadyH.nil
        go_simp
        have H8 := hid (held8 (a := .slice o ns.length cap) (b := .slice (some ⟨bR, 0, none⟩) (ns.length + 1) (ns.length + 1)) (c := .slice (some ⟨bF, 0, none⟩) (ns.length + 1) (ns.length + 1)) (d := .slice (some ⟨bL, 0, none⟩) (ns.length + 1) (ns.length + 1)) HB_V5.out (show W0.heap.size ≤ V1.heap.size by omega) hfl)
        have HN8 := hid (nums_set4 (a := .slice o ns.length cap) (b := .slice (some ⟨bR, 0, none⟩) (ns.length + 1) (ns.length + 1)) (c := .slice (some ⟨bF, 0, none⟩) (ns.length + 1) (ns.length + 1)) (d := .slice (some ⟨bL, 0, none⟩) (ns.length + 1) (ns.length + 1)) hN2 hfl)
        refine hK.out _ _ H8.out.below (fun hHeld => ?_)
        clear hK K
        refine wpAnyH_one 15 9 (.int .i64 0) hHeld rfl rfl (by kernel_rfl) (fun _ _ _ _ _ h => h) (by kernel_rfl) (by kernel_rfl) (by rfl) ?_ ?_
        · intro V hSw; (try dsimp only at hSw); go_simp
        simp only [Act.put, List.setIfInBounds_toArray, List.set_cons_zero, List.set_cons_succ]
        refine wpAnyH_done (by kernel_rfl) ?_ _
        go_wp2_with fail
        go_meet
        exact ⟨bR, bF, bL, _, rfl, rfl, H8.out, HN8.out⟩
    · go_simp
      have hfl := heap_new V0 (.cells #[.slice none 0 0, .slice none 0 0, .slice none 0 0, .slice none 0 0] 77)
      have hb : Below V0.heap.size V0 (V0.alloc (.cells #[.slice none 0 0, .slice none 0 0, .slice none 0 0, .slice none 0 0] 77)) := (Below.refl _ V0).alloc (Nat.le_refl _) _
      have hx1 := (Array.getElem?_eq_some_iff.1 hfl).1
      generalize V0.alloc (.cells #[.slice none 0 0, .slice none 0 0, .slice none 0 0, .slice none 0 0] 77) = V1 at *
      have HB_V1 := hid (HB_V0.out.trans (hb.mono HB_V0.out.size))
      have hz1 := HB_V1.out.size
      have hy1 := hb.size
      refine hK.out _ _ HB_V1.out (fun hHeld => ?_)
      clear hK K hb
      refine wpAnyH_ready (rs := [5]) (by kernel_rfl) (by simp) ?_
      refine AllReadyH.cons rfl (fun K hK => ?_) (AllReadyH.nil)
      go_simp
      have hnw := heap_new V1 (.cells #[.int .i64 x, .int .i64 c, .int .i64 y, .int .i64 d] 26)
      have hb : Below V1.heap.size V1 (V1.alloc (.cells #[.int .i64 x, .int .i64 c, .int .i64 y, .int .i64 d] 26)) := (Below.refl _ V1).alloc (Nat.le_refl _) _
      have hx2 := (Array.getElem?_eq_some_iff.1 hnw).1
      generalize V1.alloc (.cells #[.int .i64 x, .int .i64 c, .int .i64 y, .int .i64 d] 26) = V2 at *
      have HB_V2 := hid (HB_V1.out.trans (hb.mono HB_V1.out.size))
      have hz2 := HB_V2.out.size
      have hy2 := hb.size
      have hfl := blkLater hb hfl
      have r1 := two_rdB hnw
      refine hK.out _ _ HB_V2.out (fun hHeld => ?_)
      clear hK K hb
      refine wpAnyH_ready (rs := [7]) (by kernel_rfl) (by simp) ?_
      refine AllReadyH.cons rfl (fun K hK => ?_) (AllReadyH.nil)
      go_simp
      have hnw := heap_new V2 (.cells #[.slice (some ⟨V1.heap.size, 0, none⟩) 2 2, .slice ov more.length cv] 35)
      have hb : Below V2.heap.size V2 (V2.alloc (.cells #[.slice (some ⟨V1.heap.size, 0, none⟩) 2 2, .slice ov more.length cv] 35)) := (Below.refl _ V2).alloc (Nat.le_refl _) _
      have hx3 := (Array.getElem?_eq_some_iff.1 hnw).1
      generalize V2.alloc (.cells #[.slice (some ⟨V1.heap.size, 0, none⟩) 2 2, .slice ov more.length cv] 35) = V3 at *
      have HB_V3 := hid (HB_V2.out.trans (hb.mono HB_V2.out.size))
      have hz3 := HB_V3.out.size
      have hy3 := hb.size
      have hfl := blkLater hb hfl
      have r1 := r1.later hb
      have l1 := two_cellsLB hnw (r1) (HV.out _ (bx.trans (HB_V3.out.mono bx.size)))
      refine hK.out _ _ HB_V3.out (fun hHeld => ?_)
      clear hK K hb
      refine wpAnyH_ready (rs := [8]) (by kernel_rfl) (by simp) ?_
      refine AllReadyH.cons rfl (fun K hK => ?_) (AllReadyH.nil)
      go_simp
      go_wp2_with (go_at_call 94; refine (concatB_any V2.heap.size 2 _ V3 (by omega) l1 (by simp) (hsum.out _ _)).mono ?_; rintro e V4 ⟨vc, rfl, hoc, hb⟩)
      have HB_V4 := hid (HB_V3.out.trans (hb.mono HB_V3.out.size))
      have hz4 := HB_V4.out.size
      have hy4 := hb.size
      have hfl := blkLater hb hfl
      have r1 := r1.later hb
      have l1 := l1.later (by omega) hb
      have rc := cat_rd hoc
      refine hK.out _ _ HB_V4.out (fun hHeld => ?_)
      clear hK K hb
      refine wpAnyH_ready (rs := [9]) (by kernel_rfl) (by simp) ?_
      refine AllReadyH.cons rfl (fun K hK => ?_) (AllReadyH.nil)
      go_simp
      go_wp2_with (go_at_call 41; refine (HLk.out vc V4 (bx.trans (HB_V4.out.mono bx.size)) rc).mono ?_; rintro e V5 ⟨bR, bF, bL, rfl, hNm, hb⟩)
      have HB_V5 := hid (HB_V4.out.trans (hb.mono HB_V4.out.size))
      have hz5 := HB_V5.out.size
      have hy5 := hb.size
      have hfl := blkLater hb hfl
      have r1 := r1.later hb
      have l1 := l1.later (by omega) hb
      have rc := rc.later hb
      have hN2 := hNm
      refine hK.out _ _ HB_V5.out (fun hHeld => ?_)
      clear hK K hb
      refine wpAnyH_one 10 10 (.tuple #[.agg #[.slice o ns.length cap, .slice (some ⟨bR, 0, none⟩) (ns.length + 1) (ns.length + 1), .slice (some ⟨bF, 0, none⟩) (ns.length + 1) (ns.length + 1), .slice (some ⟨bL, 0, none⟩) (ns.length + 1) (ns.length + 1)], .int .i64 0]) hHeld rfl rfl (by kernel_rfl) (fun _ _ _ _ _ h => h) (by kernel_rfl) (by kernel_rfl) (by rfl) ?_ ?_
      · intro V hSw; (try dsimp only at hSw); go_simp
      simp only [Act.put, List.setIfInBounds_toArray, List.set_cons_zero, List.set_cons_succ]
      refine wpAnyH_one 11 21 (.agg #[.slice o ns.length cap, .slice (some ⟨bR, 0, none⟩) (ns.length + 1) (ns.length + 1), .slice (some ⟨bF, 0, none⟩) (ns.length + 1) (ns.length + 1), .slice (some ⟨bL, 0, none⟩) (ns.length + 1) (ns.length + 1)]) hHeld rfl rfl (by kernel_rfl) (fun _ _ _ _ _ h => h) (by kernel_rfl) (by kernel_rfl) (by rfl) ?_ ?_
      · intro V hSw; (try dsimp only at hSw); go_simp
      simp only [Act.put, List.setIfInBounds_toArray, List.set_cons_zero, List.set_cons_succ]
      refine wpAnyH_one 12 22 (.int .i64 0) hHeld rfl rfl (by kernel_rfl) (fun _ _ _ _ _ h => h) (by kernel_rfl) (by kernel_rfl) (by rfl) ?_ ?_
      · intro V hSw; (try dsimp only at hSw); go_simp
      simp only [Act.put, List.setIfInBounds_toArray, List.set_cons_zero, List.set_cons_succ]
      obtain ⟨z0, z1, z2, z3⟩ := sv_cells hfl
      obtain ⟨y0, y1, y2, y3⟩ := sv_free hfl
      refine wpAnyH_ready (rs := [14]) (by kernel_rfl) (by simp) ?_
      refine AllReadyH.cons rfl (fun K hK => ?_) AllReadyH.nil
      go_simp
      have H8 := hid (held8 (a := .slice o ns.length cap) (b := .slice (some ⟨bR, 0, none⟩) (ns.length + 1) (ns.length + 1)) (c := .slice (some ⟨bF, 0, none⟩) (ns.length + 1) (ns.length + 1)) (d := .slice (some ⟨bL, 0, none⟩) (ns.length + 1) (ns.length + 1)) HB_V5.out (show W0.heap.size ≤ V0.heap.size by omega) hfl)
      have HN8 := hid (nums_set4 (a := .slice o ns.length cap) (b := .slice (some ⟨bR, 0, none⟩) (ns.length + 1) (ns.length + 1)) (c := .slice (some ⟨bF, 0, none⟩) (ns.length + 1) (ns.length + 1)) (d := .slice (some ⟨bL, 0, none⟩) (ns.length + 1) (ns.length + 1)) hN2 hfl)
      refine hK.out _ _ H8.out.below (fun hHeld => ?_)
      clear hK K
      refine wpAnyH_one 15 9 (.int .i64 0) hHeld rfl rfl (by kernel_rfl) (fun _ _ _ _ _ h => h) (by kernel_rfl) (by kernel_rfl) (by rfl) ?_ ?_
      · intro V hSw; (try dsimp only at hSw); go_simp
      simp only [Act.put, List.setIfInBounds_toArray, List.set_cons_zero, List.set_cons_succ]
      refine wpAnyH_done (by kernel_rfl) ?_ _
      go_wp2_with fail
      go_meet
      exact ⟨bR, bF, bL, _, rfl, rfl, H8.out, HN8.out⟩
    --end slow
  case rest =>
    obtain ⟨bR, bF, bL, B, rfl, rfl, h8, hN⟩ := hcut
    obtain ⟨_, _, _, _, hag, hbox⟩ := h8.box
    simp only [Value.agg.injEq, Array.mk.injEq, List.cons.injEq, and_true] at hag
    obtain ⟨rfl, rfl, rfl, rfl⟩ := hag
    have hs8 := h8.below.size
    have hlB := h8.lt
    have k2 := (h8.below.block (w.heap.size + 1 + 1) (by omega)).trans HG2.out
    have k1 := (h8.below.block (w.heap.size + 1) (by omega)).trans HG1.out
    have HK2 := hid k2
    have HBx := hid hbox
    have HNN := hid hN
    have HB := hid (bx.trans (h8.below.mono bx.size))
    obtain ⟨n0, n1, n2, n3⟩ := sv_cells hbox
    obtain ⟨a0, a1, a2, a3⟩ := rng_cells k1
    have hVa := HVa.out bR bF bL wc HB.out hN
    clear h8 hN k1 k2 hbox HVa
    cases VD with
    | false =>
      go_wp2_with fail
      refine hVa.mono ?_
      rintro e v2 ⟨rfl, hb2⟩
      obtain ⟨r0, r1, r2, r3⟩ := sv_cells (blkLater hb2 HK2.out)
      obtain ⟨z0, z1, z2, z3⟩ := sv_free (blkLater hb2 HK2.out)
      have HB2 := hid (HB.out.trans (hb2.mono HB.out.size))
      clear hb2 hVa n0 n1 n2 n3 a0 a1 a2 a3
      go_wp2
      exact bodyPost_ret (v := .tuple #[zeroV, .int .i64 15]) (by simp [results, Tryz.results58, go_sem, zeroV, r0, r1, r2, r3]) rfl ⟨set4_below HB2.out (by omega) _ _ _ _, rfl⟩
    | true =>
      go_wp2_with fail
      refine hVa.mono ?_
      rintro e v2 ⟨rfl, hb2⟩
      obtain ⟨r0, r1, r2, r3⟩ := sv_cells (blkLater hb2 HK2.out)
      obtain ⟨z0, z1, z2, z3⟩ := sv_free (blkLater hb2 HK2.out)
      obtain ⟨n0, n1, n2, n3⟩ := sv_cells (blkLater hb2 HBx.out)
      have HB2 := hid (HB.out.trans (hb2.mono HB.out.size))
      have HN2 : Hid (∀ a b c d : Value, NumsAt ns ((((v2.setCell ⟨w.heap.size + 1 + 1, 0, none⟩ a).setCell ⟨w.heap.size + 1 + 1, 1, none⟩ b).setCell ⟨w.heap.size + 1 + 1, 2, none⟩ c).setCell ⟨w.heap.size + 1 + 1, 3, none⟩ d) bR bF bL) := fun a b c d => nums_set4 (HNN.out.later hb2) (blkLater hb2 HK2.out)
      have hne : B ≠ w.heap.size + 1 + 1 := by omega
      clear hb2 hVa a0 a1 a2 a3
      go_wp2
      exact bodyPost_ret (v := .tuple #[numsV o cap ns.length bR bF bL (ns.length + 1), .int .i64 0]) (by simp [results, Tryz.results58, go_sem, numsV, r0, r1, r2, r3]) rfl ⟨set4_below HB2.out (by omega) _ _ _ _, bR, bF, bL, rfl, HN2.out _ _ _ _⟩
end Go.Proofs.YtilacgcjbdkphaaGreat

namespace Go.Proofs.YtilacgcjbdkphaaGreat
open Go.RowKit Go.Lib

/-- Is a node contained in a range? -/
def contD (ns : List NodeD) (p q : Int × Int) (h : Int) : Bool := rootP ns h == rootP ns p.1 && (decide (posD ns p < posD ns (h, 0)) && decide (posD ns (h, (lenN ns h : Int)) < posD ns q))
/-- Is just one of the ends' nodes in it? -/
def partD (ns : List NodeD) (p q : Int × Int) (h : Int) : Bool := decide (p.1 ∈ allD ns h) != decide (q.1 ∈ allD ns h)
theorem pt_first {ns : List NodeD} {h : Int} (hh : thereB ns.length h = true) : isPt ns (h, 0) := ⟨hh, Int.le_refl _, by show (0 : Int) ≤ _; omega⟩
theorem pt_last {ns : List NodeD} {h : Int} (hh : thereB ns.length h = true) : isPt ns (h, (lenN ns h : Int)) := ⟨hh, by show (0 : Int) ≤ _; omega, Int.le_refl _⟩
theorem cont_pos {ns : List NodeD} {R F L : List Int} (h : RightF ns) (hN : NumL ns R F L) {p q : Int × Int} {k : Int} (hp : isPt ns p) (hq : isPt ns q) (hk : thereB ns.length k = true) (hr : rootP ns p.1 = rootP ns q.1) : (decide (numD ns (fOf F) p < fOf F k) && decide (fOf F k + (szD ns k : Int) - 1 < numD ns (fOf F) q)) = contD ns p q k := by
  have np := num_pos h h.oneOf hN.numF hp
  have nq := num_pos h h.oneOf hN.numF hq
  have n0 := num_pos h h.oneOf hN.numF (pt_first hk)
  have n1 := num_pos h h.oneOf hN.numF (pt_last hk)
  rw [numD_zero] at n0
  rw [num_last h h.oneOf hN.numF hk] at n1
  have e0 : rootP ns (k, (0 : Int)).1 = rootP ns k := rfl
  have e1 : rootP ns (k, (lenN ns k : Int)).1 = rootP ns k := rfl
  rw [e0] at n0
  rw [e1] at n1
  rw [← hr] at nq
  unfold contD
  have sk := sz_pos h hk
  by_cases er : rootP ns k = rootP ns p.1
  · rw [beq_iff_eq.2 er, Bool.true_and]
    rw [er] at n0 n1
    congr 1
    · by_cases hl : posD ns p < posD ns (k, 0)
      · rw [decide_eq_true hl, decide_eq_true (by omega)]
      · rw [decide_eq_false hl, decide_eq_false (by omega)]
    · by_cases hl : posD ns (k, (lenN ns k : Int)) < posD ns q
      · rw [decide_eq_true hl, decide_eq_true (by omega)]
      · rw [decide_eq_false hl, decide_eq_false (by omega)]
  · rw [beq_eq_false_iff_ne.2 er, Bool.false_and]
    by_cases h1 : numD ns (fOf F) p < fOf F k
    · by_cases h2 : fOf F k + (szD ns k : Int) - 1 < numD ns (fOf F) q
      · exact absurd (num_tree h hN.numF hp.1 hk (by omega) (by omega)) er
      · rw [decide_eq_false h2, Bool.and_false]
    · rw [decide_eq_false h1, Bool.false_and]
/-- Why a range can't be asked for some points. -/
def setE (ns : List NodeD) (p q : Int × Int) (more : List (Int × Int)) : Int := if lookE ns (setL p.1 p.2 q.1 q.2 more) = 0 then (if validD ns p q then 0 else 15) else lookE ns (setL p.1 p.2 q.1 q.2 more)

theorem bSettled_no (o : Option Addr) (cap : Nat) (v : Value) (x c y d : Int) (more : List (Int × Int)) (ns : List NodeD) (w : World) (hF : FRd w o cap ns) (hkl : ∀ (i : Nat) (hi : i < ns.length), ns[i].kids.length ≤ 1099511627776) (hal : ∀ (i : Nat) (hi : i < ns.length), ns[i].attrs.length ≤ 1099511627776) (hv : RdB w v more) (hl : more.length ≤ 4000) (hE : setE ns (x, c) (y, d) more ≠ 0) :
    Calls Tryz.prog 58 #[.agg #[.slice o ns.length cap], rngV x c y d, v] w fun e w' => e = .returned (.tuple #[zeroV, .int .i64 (setE ns (x, c) (y, d) more)]) ∧ Below w.heap.size w w' := by
  by_cases h0 : lookE ns (setL x c y d more) = 0
  · have hv0 : validD ns (x, c) (y, d) = false := by
      cases hvd : validD ns (x, c) (y, d) with
      | false => rfl
      | true => exact absurd (by unfold setE; rw [if_pos h0, hvd]; rfl) hE
    have e15 : setE ns (x, c) (y, d) more = 15 := by unfold setE; rw [if_pos h0, hv0]; rfl
    rw [e15]
    have hl0 : RightF ns ∧ wrongD ns (setL x c y d more) = 0 := by
      unfold lookE at h0
      split at h0
      · rename_i hr
        exact ⟨(rightD_iff ns).1 hr, h0⟩
      · simp at h0
    refine (bSettled_any o cap v x c y d more ns w hF hkl hal hv hl hl0.1 hl0.2).mono ?_
    rintro e w' ⟨hb, ⟨_, rfl⟩ | ⟨h1, _⟩⟩
    · exact ⟨rfl, hb⟩
    · rw [hv0] at h1; cases h1
  · have e : setE ns (x, c) (y, d) more = lookE ns (setL x c y d more) := by unfold setE; rw [if_neg h0]
    rw [e]
    exact bSettled_err o cap v x c y d more ns w hF hkl hal hv hl h0
theorem setE_zero {ns : List NodeD} {p q : Int × Int} {more : List (Int × Int)} (h : setE ns p q more = 0) : RightF ns ∧ validD ns p q = true ∧ isPt ns p ∧ isPt ns q ∧ ∀ b ∈ more, isPt ns b := by
  unfold setE at h
  split at h
  · rename_i h0
    split at h
    · rename_i hv
      unfold lookE at h0
      split at h0
      · rename_i hr
        have hp := wrongD_zero.1 h0
        exact ⟨(rightD_iff ns).1 hr, hv, hp _ (by unfold setL; simp), hp _ (by unfold setL; simp), fun b hb => hp b (by unfold setL; simp [hb])⟩
      · simp at h0
    · simp at h
  · rename_i h0
    exact absurd h h0
theorem bSettled_ok (o : Option Addr) (cap : Nat) (v : Value) (x c y d : Int) (more : List (Int × Int)) (ns : List NodeD) (w : World) (hF : FRd w o cap ns) (hkl : ∀ (i : Nat) (hi : i < ns.length), ns[i].kids.length ≤ 1099511627776) (hal : ∀ (i : Nat) (hi : i < ns.length), ns[i].attrs.length ≤ 1099511627776) (hv : RdB w v more) (hl : more.length ≤ 4000) (hE : setE ns (x, c) (y, d) more = 0) :
    Calls Tryz.prog 58 #[.agg #[.slice o ns.length cap], rngV x c y d, v] w fun e w' => ∃ bR bF bL, e = .returned (.tuple #[numsV o cap ns.length bR bF bL (ns.length + 1), .int .i64 0]) ∧ NumsAt ns w' bR bF bL ∧ Below w.heap.size w w' := by
  obtain ⟨hR, hvd, hp, hq, hm⟩ := setE_zero hE
  have hW : wrongD ns (setL x c y d more) = 0 := wrongD_zero.2 fun b hb => by
    unfold setL at hb
    simp only [List.mem_append, List.mem_cons, List.not_mem_nil, or_false] at hb
    rcases hb with (rfl | rfl) | hb
    · exact hp
    · exact hq
    · exact hm b hb
  refine (bSettled_any o cap v x c y d more ns w hF hkl hal hv hl hR hW).mono ?_
  rintro e w' ⟨hb, ⟨h1, _⟩ | ⟨_, bR, bF, bL, rfl, hN⟩⟩
  · rw [hvd] at h1; cases h1
  · exact ⟨bR, bF, bL, rfl, hN, hb⟩
theorem valid_root {ns : List NodeD} {p q : Int × Int} (h : validD ns p q = true) : rootP ns p.1 = rootP ns q.1 ∧ posD ns p ≤ posD ns q := by
  unfold validD at h
  simp only [Bool.and_eq_true, beq_iff_eq, decide_eq_true_eq] at h
  exact h
end Go.Proofs.YtilacgcjbdkphaaGreat

