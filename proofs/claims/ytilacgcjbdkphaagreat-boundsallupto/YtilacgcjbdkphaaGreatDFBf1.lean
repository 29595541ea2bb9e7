/- chardata: kindOf, isText, hasData, nodeOf and Substring where all is well. -/
import Derived.Test.YtilacgcjbdkphaaGreatDFBdeFBf0
import Derived.Test.YtilacgcjbdkphaaGreatDFWellFCheck
import Derived.Test.YtilacgcjbdkphaaGreatFRefM
namespace Go.Proofs.YtilacgcjbdkphaaGreat
open Go.RowKit Go.Lib Go.Shelf

theorem FAt.rdF {w : World} {b off cap : Nat} {ns : List NodeD} (h : FAt w b off cap ns) : FRd w (some ⟨b, off, none⟩) cap ns := ⟨h.len, fun _ => ⟨b, off, rfl, h⟩⟩

set_option maxRecDepth 100000 in
set_option maxHeartbeats 1000000 in
theorem cKind_any (b off cap j : Nat) (ns : List NodeD) (w : World) (hF : FAt w b off cap ns) (hj : j < ns.length) :
    Calls Tryz.prog 74 #[.agg #[.slice (some ⟨b, off, none⟩) ns.length cap], .int .i64 ((j : Int) + 1)] w fun e w' => e = .returned (.int .u8 (ns[j].kind : Int)) ∧ Below w.heap.size w w' := by
  have hle := hF.len
  obtain ⟨Ls, hc, _⟩ := hF.at_ j hj
  have bx : Below w.heap.size w (w.alloc (.cells #[.slice (some ⟨b, off, none⟩) ns.length cap] 24)) := (Below.refl _ w).alloc (Nat.le_refl _) _
  have n0 := (hc.later hF.lt bx).kind
  have q1 : (0 : Int) ≤ (j : Int) := by omega
  have q2 : (j : Int) < (ns.length : Int) := by omega
  have HB := hid bx
  clear hF hc bx
  generalize ns[j].kind = k at *
  go_enter Tryz.func74, Tryz.ntmps74
  go_wp2
  go_ret
  exact ⟨rfl, HB.out⟩

set_option maxRecDepth 100000 in
set_option maxHeartbeats 1000000 in
theorem cText_any (k : Nat) (w : World) : Calls Tryz.prog 78 #[.int .u8 (k : Int)] w fun e w' => e = .returned (.bool (textK k)) ∧ w' = w := by
  have e3 : ((k : Int) == 3) = (k == 3) := beq_cast k 3
  have e4 : ((k : Int) == 4) = (k == 4) := beq_cast k 4
  unfold textK
  cases h3 : (k == 3) with
  | true =>
    rw [h3] at e3
    go_enter Tryz.func78, Tryz.ntmps78
    go_wp2
    go_ret
    exact ⟨rfl, rfl⟩
  | false =>
    rw [h3] at e3
    generalize (k == 4) = K at *
    go_enter Tryz.func78, Tryz.ntmps78
    go_wp2
    go_ret
    exact ⟨rfl, rfl⟩

set_option maxRecDepth 100000 in
set_option maxHeartbeats 1000000 in
theorem cHas_any (k : Nat) (w : World) : Calls Tryz.prog 75 #[.int .u8 (k : Int)] w fun e w' => e = .returned (.bool (textK k || k == 8 || k == 7)) ∧ w' = w := by
  have e8 : ((k : Int) == 8) = (k == 8) := beq_cast k 8
  have e7 : ((k : Int) == 7) = (k == 7) := beq_cast k 7
  have hT := cText_any k w
  generalize (k == 8) = K8 at *
  generalize (k == 7) = K7 at *
  generalize textK k = T at *
  cases T with
  | true =>
    go_enter Tryz.func75, Tryz.ntmps75
    go_wp2_with fail
    refine hT.mono ?_
    rintro e v1 ⟨rfl, rfl⟩
    go_wp2
    go_ret
    exact ⟨rfl, rfl⟩
  | false =>
    cases K8 with
    | true =>
      go_enter Tryz.func75, Tryz.ntmps75
      go_wp2_with fail
      refine hT.mono ?_
      rintro e v1 ⟨rfl, rfl⟩
      go_wp2
      go_ret
      exact ⟨rfl, rfl⟩
    | false =>
      go_enter Tryz.func75, Tryz.ntmps75
      go_wp2_with fail
      refine hT.mono ?_
      rintro e v1 ⟨rfl, rfl⟩
      go_wp2
      go_ret
      exact ⟨rfl, rfl⟩

theorem set16_below {w X : World} {B : Nat} (h : Below w.heap.size w X) (hB : w.heap.size ≤ B) (a0 a1 a2 a3 a4 a5 a6 a7 a8 a9 a10 a11 a12 a13 a14 a15 : Value) : Below w.heap.size w ((((((((((((((((X.setCell ⟨B, 0, none⟩ a0).setCell ⟨B, 1, none⟩ a1).setCell ⟨B, 2, none⟩ a2).setCell ⟨B, 3, none⟩ a3).setCell ⟨B, 4, none⟩ a4).setCell ⟨B, 5, none⟩ a5).setCell ⟨B, 6, none⟩ a6).setCell ⟨B, 7, none⟩ a7).setCell ⟨B, 8, none⟩ a8).setCell ⟨B, 9, none⟩ a9).setCell ⟨B, 10, none⟩ a10).setCell ⟨B, 11, none⟩ a11).setCell ⟨B, 12, none⟩ a12).setCell ⟨B, 13, none⟩ a13).setCell ⟨B, 14, none⟩ a14).setCell ⟨B, 15, none⟩ a15) := by
  have h1 := set4_below h hB a0 a1 a2 a3
  exact (((((((((((h1.setCell hB a4).setCell hB a5).setCell hB a6).setCell hB a7).setCell hB a8).setCell hB a9).setCell hB a10).setCell hB a11).setCell hB a12).setCell hB a13).setCell hB a14).setCell hB a15
theorem sv_cells16 {V : World} {B : Nat} {a0 a1 a2 a3 a4 a5 a6 a7 a8 a9 a10 a11 a12 a13 a14 a15 : Value} {t : TypeId} (h : V.heap[B]? = some (.cells #[a0, a1, a2, a3, a4, a5, a6, a7, a8, a9, a10, a11, a12, a13, a14, a15] t (0, 0))) : V.cell? ⟨B, 0, none⟩ = some a0 ∧ V.cell? ⟨B, 1, none⟩ = some a1 ∧ V.cell? ⟨B, 2, none⟩ = some a2 ∧ V.cell? ⟨B, 3, none⟩ = some a3 ∧ V.cell? ⟨B, 4, none⟩ = some a4 ∧ V.cell? ⟨B, 5, none⟩ = some a5 ∧ V.cell? ⟨B, 6, none⟩ = some a6 ∧ V.cell? ⟨B, 7, none⟩ = some a7 ∧ V.cell? ⟨B, 8, none⟩ = some a8 ∧ V.cell? ⟨B, 9, none⟩ = some a9 ∧ V.cell? ⟨B, 10, none⟩ = some a10 ∧ V.cell? ⟨B, 11, none⟩ = some a11 ∧ V.cell? ⟨B, 12, none⟩ = some a12 ∧ V.cell? ⟨B, 13, none⟩ = some a13 ∧ V.cell? ⟨B, 14, none⟩ = some a14 ∧ V.cell? ⟨B, 15, none⟩ = some a15 := by
  refine ⟨?_, ?_, ?_, ?_, ?_, ?_, ?_, ?_, ?_, ?_, ?_, ?_, ?_, ?_, ?_, ?_⟩ <;> (rw [cell_of_heap h]; rfl)

set_option maxRecDepth 100000 in
set_option maxHeartbeats 4000000 in
theorem cNodeOf_ok (b off cap j : Nat) (ns : List NodeD) (w : World) (hR : RightF ns) (hF : FAt w b off cap ns) (hkl : ∀ (i : Nat) (hi : i < ns.length), ns[i].kids.length ≤ 1099511627776) (hal : ∀ (i : Nat) (hi : i < ns.length), ns[i].attrs.length ≤ 1099511627776) (hj : j < ns.length) (hk : textK ns[j].kind = true) :
    Calls Tryz.prog 117 #[.agg #[.slice (some ⟨b, off, none⟩) ns.length cap], .int .i64 ((j : Int) + 1), .func (.func 75) #[] #[]] w fun e w' => ∃ (od : Option Addr) (cd : Nat) (oa : Option Addr) (ca : Nat) (ok : Option Addr) (ck : Nat), e = .returned (.tuple #[nodeV ns[j] ⟨.slice od ns[j].data.length cd, .slice oa ns[j].attrs.length ca, .slice ok ns[j].kids.length ck⟩, .int .i64 0]) ∧ RdN w' (.slice od ns[j].data.length cd) ns[j].data ∧ Below w.heap.size w w' := by
  have hle := hF.len
  have hr := (rightD_iff ns).2 hR
  have hce : checkE ns = 0 := by unfold checkE; rw [hr]; rfl
  obtain ⟨bx, g0, g1, sx⟩ := two_newB w (.cells #[.slice (some ⟨b, off, none⟩) ns.length cap] 24) (.cells #[.int .u8 0, .string ⟨#[]⟩, .string ⟨#[]⟩, .string ⟨#[]⟩, .string ⟨#[]⟩, .string ⟨#[]⟩, .slice none 0 0, .slice none 0 0, .int .i64 0, .slice none 0 0, .int .i64 0, .int .i64 0, .int .i64 0, .int .u8 0, .bool false, .bool false] 64)
  have hCk := Check_any (some ⟨b, off, none⟩) cap ns _ (hF.later bx).rdF hkl hal
  rw [hce] at hCk
  have HKd : Hid (∀ V : World, Below w.heap.size w V → _) := fun V hV => cKind_any b off cap j ns V (hF.later hV) hj
  have HHs : Hid (∀ V : World, _) := fun V => cHas_any ns[j].kind V
  rw [hk, Bool.true_or, Bool.true_or] at HHs
  obtain ⟨L, hc, hd, ha, hkk⟩ := hF.at_ j hj
  have HC : Hid (∀ V : World, Below w.heap.size w V → NodeCells V b (off + j * 16) ns[j] L) := fun V hV => hc.later hF.lt hV
  obtain ⟨D, A, K⟩ := L
  have Hd := hid hd
  obtain ⟨od, cd, e1, _⟩ := hd
  obtain ⟨oa, ca, e2, _⟩ := ha
  obtain ⟨ok, ck, e3, _⟩ := hkk
  simp only at e1 e2 e3
  subst e1 e2 e3
  have d1 : decide (((j : Int) + 1) < 1) = false := decide_eq_false (by omega)
  have d2 : decide ((ns.length : Int) < (j : Int) + 1) = false := decide_eq_false (by omega)
  have q1 : (0 : Int) ≤ (j : Int) := by omega
  have q2 : (j : Int) < (ns.length : Int) := by omega
  have HG0 := hid g0
  have HG1 := hid g1
  have Hbx := hid bx
  have Hsx := hid sx
  generalize checkN ns = CN at *
  clear hF hkl hal hk hc hce hr hR g0 g1 bx sx
  generalize ns[j] = n at *
  go_enter Tryz.func117, Tryz.ntmps117
  go_wp2_with fail
  refine hCk.mono ?_
  rintro e v1 ⟨rfl, hb1⟩
  have c0 := (box_cell_l (blkLater hb1 HG0.out)).1
  have HB1 := hid (Hbx.out.trans (hb1.mono Hbx.out.size))
  have Hb1 := hid hb1
  have h1 := HKd.out v1 HB1.out
  clear hCk hb1
  go_wp2_with fail
  refine h1.mono ?_
  rintro e v2 ⟨rfl, hb2⟩
  have Hb2 := hid hb2
  have h2 := HHs.out v2
  clear h1 hb2
  go_wp2_with fail
  refine h2.mono ?_
  rintro e v3 ⟨rfl, rfl⟩
  have c0 := (box_cell_l (blkLater Hb2.out (blkLater Hb1.out HG0.out))).1
  have k1 := blkLater Hb2.out (blkLater Hb1.out HG1.out)
  have HB2 := hid (HB1.out.trans (Hb2.out.mono HB1.out.size))
  have hsx := Hsx.out
  have hbk : b < w.heap.size ∨ True := .inr trivial
  obtain ⟨n0, n1, n2, n3, n4, n5, n6, n7, n8, n9, n10, n11, n12, n13, n14, n15⟩ := HC.out v3 HB2.out
  simp only at n6 n7 n9
  obtain ⟨r0, r1, r2, r3, r4, r5, r6, r7, r8, r9, r10, r11, r12, r13, r14, r15⟩ := sv_cells16 k1
  have z0 := frozen_of_heap k1 0
  have z1 := frozen_of_heap k1 1
  have z2 := frozen_of_heap k1 2
  have z3 := frozen_of_heap k1 3
  have z4 := frozen_of_heap k1 4
  have z5 := frozen_of_heap k1 5
  have z6 := frozen_of_heap k1 6
  have z7 := frozen_of_heap k1 7
  have z8 := frozen_of_heap k1 8
  have z9 := frozen_of_heap k1 9
  have z10 := frozen_of_heap k1 10
  have z11 := frozen_of_heap k1 11
  have z12 := frozen_of_heap k1 12
  have z13 := frozen_of_heap k1 13
  have z14 := frozen_of_heap k1 14
  have z15 := frozen_of_heap k1 15
  have HRd := hid (Hd.out.later (set16_below HB2.out (Nat.le_succ _) (.int .u8 (n.kind : Int)) (.string n.space) (.string n.pre) (.string n.loc) (.string n.pub) (.string n.sys) (.slice od n.data.length cd) (.slice oa n.attrs.length ca) (.int .i64 n.parent) (.slice ok n.kids.length ck) (.int .i64 n.doc) (.int .i64 n.host) (.int .i64 n.shadow) (.int .u8 (n.mode : Int)) (.bool n.manual) (.bool n.html)))
  have HBz := hid (set16_below HB2.out (Nat.le_succ _) (.int .u8 (n.kind : Int)) (.string n.space) (.string n.pre) (.string n.loc) (.string n.pub) (.string n.sys) (.slice od n.data.length cd) (.slice oa n.attrs.length ca) (.int .i64 n.parent) (.slice ok n.kids.length ck) (.int .i64 n.doc) (.int .i64 n.host) (.int .i64 n.shadow) (.int .u8 (n.mode : Int)) (.bool n.manual) (.bool n.html))
  clear h2 k1 hbk
  go_wp2
  exact bodyPost_ret (v := .tuple #[nodeV n ⟨.slice od n.data.length cd, .slice oa n.attrs.length ca, .slice ok n.kids.length ck⟩, .int .i64 0]) (by simp [results, Tryz.results117, go_sem, nodeV, r0, r1, r2, r3, r4, r5, r6, r7, r8, r9, r10, r11, r12, r13, r14, r15]) rfl ⟨od, cd, oa, ca, ok, ck, rfl, HRd.out, HBz.out⟩

set_option maxRecDepth 100000 in
set_option maxHeartbeats 4000000 in
theorem cSub_ok (b off cap j x z : Nat) (ns : List NodeD) (w : World) (hR : RightF ns) (hF : FAt w b off cap ns) (hkl : ∀ (i : Nat) (hi : i < ns.length), ns[i].kids.length ≤ 1099511627776) (hal : ∀ (i : Nat) (hi : i < ns.length), ns[i].attrs.length ≤ 1099511627776) (hj : j < ns.length) (hk : textK ns[j].kind = true) (hz : x + z ≤ ns[j].data.length) :
    Calls Tryz.prog 99 #[.agg #[.slice (some ⟨b, off, none⟩) ns.length cap], .int .i64 ((j : Int) + 1), .int .u32 x, .int .u32 z] w fun e w' => ∃ v, e = .returned (.tuple #[v, .int .i64 0]) ∧ w'.ownsRow w.heap.size 70 1 v ((ns[j].data.drop x).take z).length (((ns[j].data.drop x).take z).map uV) ∧ Below w.heap.size w w' := by
  have hdl := well_dataB (hR.well j hj)
  have bx : Below w.heap.size w (w.alloc (.cells #[.slice (some ⟨b, off, none⟩) ns.length cap] 24)) := (Below.refl _ w).alloc (Nat.le_refl _) _
  have hN := cNodeOf_ok b off cap j ns _ hR (hF.later bx) hkl hal hj hk
  have HB := hid bx
  clear hR hF hkl hal hk bx
  generalize ns[j] = n at *
  obtain ⟨M, hM⟩ : ∃ M, (n.data.drop x).take z = M := ⟨_, rfl⟩
  rw [hM]
  have HM := hid hM
  clear hM
  go_enter Tryz.func99, Tryz.ntmps99
  go_wp2_with fail
  refine hN.mono ?_
  rintro e v1 ⟨od, cd, oa, ca, ok, ck, rfl, hrd, hb1⟩
  have hnb := node_box (W := v1) n ⟨.slice od n.data.length cd, .slice oa n.attrs.length ca, .slice ok n.kids.length ck⟩
  have hbA : Below v1.heap.size v1 (v1.alloc (.cells #[.int .u8 (n.kind : Int), .string n.space, .string n.pre, .string n.loc, .string n.pub, .string n.sys, .slice od n.data.length cd, .slice oa n.attrs.length ca, .int .i64 n.parent, .slice ok n.kids.length ck, .int .i64 n.doc, .int .i64 n.host, .int .i64 n.shadow, .int .u8 (n.mode : Int), .bool n.manual, .bool n.html] 64)) := (Below.refl _ v1).alloc (Nat.le_refl _) _
  have hS := subN_any od cd n.data x z _ (hrd.later hbA) (by omega) hz
  rw [HM.out] at hS
  have HB1 := hid (HB.out.trans (hb1.mono HB.out.size))
  have HB2 := hid (HB1.out.trans (hbA.mono HB1.out.size))
  obtain ⟨n0, n1, n2, n3, n4, n5, n6, n7, n8, n9, n10, n11, n12, n13, n14, n15⟩ := hnb
  simp only at n6 n7 n9
  unfold nodeV
  clear hN hb1 hrd hbA
  go_wp2_with fail
  refine hS.mono ?_
  rintro e v2 ⟨v, rfl, ho, hb2⟩
  obtain ⟨o2, c2, rfl⟩ := own_shapeB ho
  have HO := hid (ownsRow_base ho HB2.out.size)
  have HBf := hid (HB2.out.trans (hb2.mono HB2.out.size))
  clear hS hb2 ho n0 n1 n2 n3 n4 n5 n6 n7 n8 n9 n10 n11 n12 n13 n14 n15
  go_wp2
  go_ret2
  exact ⟨_, rfl, HO.out, HBf.out⟩
end Go.Proofs.YtilacgcjbdkphaaGreat

