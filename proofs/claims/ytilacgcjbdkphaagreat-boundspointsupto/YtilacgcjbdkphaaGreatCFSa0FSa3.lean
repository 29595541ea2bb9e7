/- The reference of forest: whether two lists of units, two nodes are the same: where they are. -/
/- The reference of forest: whether two forests are the same (Same): where they are. -/
/- The reference of forest: a node that is copied (CopyNode). -/
/- The reference of forest: a forest that is copied (Copy). -/
import Derived.Test.YtilacgcjbdkphaaGreatFRefN
import Derived.Test.YtilacgcjbdkphaaGreatCFSkipHFWk0
import Derived.BigQuiet
import Derived.Lib.AppendZeros
import Derived.Lib.Builder
import Derived.Deep.Upon
namespace Go.Proofs.YtilacgcjbdkphaaGreat
open Go.RowKit Go.Lib Go.Shelf

set_option maxRecDepth 100000 in
set_option maxHeartbeats 4000000 in
theorem units3_same (v1 v2 : Value) (p : List Nat) (w : World) (hp : RdN w v1 p) (hq : RdN w v2 p) (lp : p.length ≤ 1099511627776) :
    Calls Tryz.prog 92 #[v1, v2] w fun e w' => e = .returned (.bool true) ∧ Below w.heap.size w w' := by
  obtain ⟨o1, c1, rfl, hc1, g1⟩ := hp
  obtain ⟨o2, c2, rfl, hc2, g2⟩ := hq
  have e1 : ((p.length : Int) != (p.length : Int)) = false := bne_self_eq_false _
  go_enter Tryz.func92, Tryz.ntmps92
  go_wp2
  go_loopw [13] (fun t wr => ∃ k m : Nat, k ≤ p.length ∧ t = .int .i64 k ∧ wr = w.drewN m) (fun t _ => p.length - (RowKit.intOf t).toNat)
  case atStart => exact ⟨0, 0, Nat.zero_le _, rfl, rfl⟩
  case round =>
    obtain ⟨k, m, k1, rfl, rfl⟩ := hrel
    by_cases l1 : k < p.length
    · obtain ⟨b1, off1, rfl, hlt1, ha1⟩ := g1 (by omega)
      obtain ⟨b2, off2, rfl, hlt2, ha2⟩ := g2 (by omega)
      have x1 := ha1 k l1
      have x2 := ha2 k l1
      have q1 : (0 : Int) ≤ (k : Int) := by omega
      have q2 : (k : Int) < (p.length : Int) := by omega
      clear ha1 ha2 g1 g2
      generalize p[k] = a at *
      have hne : ((a : Int) != (a : Int)) = false := bne_self_eq_false _
      clear e1
      go_upto_region 6 with fail
      go_quiet (fail)
      go_wp2
      go_roundw
      case rel => exact ⟨k + 1, m + nq, by omega, by go_num, by simp⟩
      case measure => simp [RowKit.intOf]; omega
    · have hkp : k = p.length := by omega
      subst hkp
      clear g1 g2 e1 l1 k1
      go_wp2
      go_ret
      exact ⟨rfl, drewN_below _ _ _⟩

theorem box16s {V : World} {B : Nat} {a0 a1 a2 a3 a4 a5 a6 a7 a8 a9 a10 a11 a12 a13 a14 a15 : Value} {t : TypeId} (h : V.heap[B]? = some (.cells #[a0, a1, a2, a3, a4, a5, a6, a7, a8, a9, a10, a11, a12, a13, a14, a15] t)) : V.cell? ⟨B, 0, none⟩ = some a0 ∧ V.cell? ⟨B, 1, none⟩ = some a1 ∧ V.cell? ⟨B, 2, none⟩ = some a2 ∧ V.cell? ⟨B, 3, none⟩ = some a3 ∧ V.cell? ⟨B, 4, none⟩ = some a4 ∧ V.cell? ⟨B, 5, none⟩ = some a5 ∧ V.cell? ⟨B, 6, none⟩ = some a6 ∧ V.cell? ⟨B, 7, none⟩ = some a7 ∧ V.cell? ⟨B, 8, none⟩ = some a8 ∧ V.cell? ⟨B, 9, none⟩ = some a9 ∧ V.cell? ⟨B, 10, none⟩ = some a10 ∧ V.cell? ⟨B, 11, none⟩ = some a11 ∧ V.cell? ⟨B, 12, none⟩ = some a12 ∧ V.cell? ⟨B, 13, none⟩ = some a13 ∧ V.cell? ⟨B, 14, none⟩ = some a14 ∧ V.cell? ⟨B, 15, none⟩ = some a15 := by
  refine ⟨?_, ?_, ?_, ?_, ?_, ?_, ?_, ?_, ?_, ?_, ?_, ?_, ?_, ?_, ?_, ?_⟩ <;> simp [World.cell?, h]
/-- Behind two boxes. -/
def AtN (w : World) (x y : Obj) (V : World) : Prop := Below (w.heap.size + 2) ((w.alloc x).alloc y) V
section
variable {w V V' : World} {x y : Obj}
theorem AtN.heaps (h : AtN w x y V) : V.heap[w.heap.size]? = some x ∧ V.heap[w.heap.size + 1]? = some y := by
  have h0 := heap_new w x
  have h1 := heap_new (w.alloc x) y
  simp only [World.size_alloc] at h1
  refine ⟨(Below.block h _ (by omega)).trans ?_, (Below.block h _ (by omega)).trans h1⟩
  rw [Below.heap_alloc _ _ _ (by simp)]
  exact h0
theorem AtN.size (h : AtN w x y V) : w.heap.size + 2 ≤ V.heap.size := by
  have := Below.size h
  simp only [World.size_alloc] at this
  exact this
theorem AtN.below (h : AtN w x y V) : Below w.heap.size w V := (((Below.refl _ w).alloc (Nat.le_refl _) _).alloc (by simp) _).trans (Below.mono h (by omega))
theorem AtN.step (h : AtN w x y V) (hb : Below V.heap.size V V') : AtN w x y V' := Below.trans h (hb.mono h.size)
theorem AtN.first (w : World) (x y : Obj) : AtN w x y ((w.alloc x).alloc y) := Below.refl _ _
end
set_option maxRecDepth 100000 in
set_option maxHeartbeats 8000000 in
theorem sameNode_same (n : NodeD) (L1 L2 : Lists) (w : World) (h1 : RdN w L1.data n.data) (h2 : RdA w L1.attrs n.attrs) (h3 : RdI w L1.kids n.kids) (k1 : RdN w L2.data n.data) (k2 : RdA w L2.attrs n.attrs) (k3 : RdI w L2.kids n.kids) (hd : n.data.length ≤ 1099511627776) (ha : n.attrs.length ≤ 1099511627776) (hk : n.kids.length ≤ 1099511627776) :
    Calls Tryz.prog 54 #[nodeV n L1, nodeV n L2] w fun e w' => e = .returned (.bool true) ∧ Below w.heap.size w w' := by
  obtain ⟨D1, A1, K1⟩ := L1
  obtain ⟨D2, A2, K2⟩ := L2
  have HU : Hid (∀ V : World, Below w.heap.size w V → _) := fun V hV => units3_same D1 D2 n.data V (h1.later hV) (k1.later hV) hd
  have HI : Hid (∀ V : World, Below w.heap.size w V → _) := fun V hV => ints3_any K1 K2 n.kids n.kids V (h3.later hV) (k3.later hV) hk
  obtain ⟨od1, cd1, e1, _⟩ := h1
  obtain ⟨oa1, ca1, e2, hc1, g1⟩ := h2
  obtain ⟨ok1, ck1, e3, _⟩ := h3
  obtain ⟨od2, cd2, f1, _⟩ := k1
  obtain ⟨oa2, ca2, f2, hc2, g2⟩ := k2
  obtain ⟨ok2, ck2, f3, _⟩ := k3
  simp only at e1 e2 e3 f1 f2 f3
  subst e1 e2 e3 f1 f2 f3
  unfold nodeV
  simp only
  have hA0 := AtN.first w (.cells #[.int .u8 (n.kind : Int), .string n.space, .string n.pre, .string n.loc, .string n.pub, .string n.sys, .slice od1 n.data.length cd1, .slice oa1 n.attrs.length ca1, .int .i64 n.parent, .slice ok1 n.kids.length ck1, .int .i64 n.doc, .int .i64 n.host, .int .i64 n.shadow, .int .u8 (n.mode : Int), .bool n.manual, .bool n.html] 64) (.cells #[.int .u8 (n.kind : Int), .string n.space, .string n.pre, .string n.loc, .string n.pub, .string n.sys, .slice od2 n.data.length cd2, .slice oa2 n.attrs.length ca2, .int .i64 n.parent, .slice ok2 n.kids.length ck2, .int .i64 n.doc, .int .i64 n.host, .int .i64 n.shadow, .int .u8 (n.mode : Int), .bool n.manual, .bool n.html] 64)
  have hU := HU.out _ hA0.below
  have e0 : ((n.attrs.length : Int) != (n.attrs.length : Int)) = false := bne_self_eq_false _
  clear HU
  go_enter Tryz.func54, Tryz.ntmps54
  go_wp2_with fail
  refine hU.mono ?_
  rintro e v1 ⟨rfl, hb⟩
  have hA1 := hA0.step hb
  obtain ⟨m1, m2⟩ := hA1.heaps
  obtain ⟨_, _, _, _, _, _, _, _, _, p9, _⟩ := box16s m1
  obtain ⟨_, _, _, _, _, _, _, _, _, r9, _⟩ := box16s m2
  have hI := HI.out v1 hA1.below
  clear hU hb m1 m2 HI hA0 e0
  go_wp2_with fail
  refine hI.mono ?_
  rintro e v2 ⟨rfl, hb⟩
  rw [beq_self_eq_true]
  have hA2 := hA1.step hb
  obtain ⟨m1, m2⟩ := hA2.heaps
  clear hI hb p9 r9 hA1
  obtain ⟨p0, p1, p2, p3, p4, p5, p6, p7, p8, p9, p10, p11, p12, p13, p14, p15⟩ := box16s m1
  obtain ⟨r0, r1, r2, r3, r4, r5, r6, r7, r8, r9, r10, r11, r12, r13, r14, r15⟩ := box16s m2
  have HB := hid hA2.below
  clear m1 m2 hA2
  go_wp2
  go_loopw [32] (fun t wr => ∃ k m : Nat, k ≤ n.attrs.length ∧ t = .int .i64 k ∧ wr = v2.drewN m) (fun t _ => n.attrs.length - (RowKit.intOf t).toNat)
  case atStart => exact ⟨0, 0, Nat.zero_le _, rfl, rfl⟩
  case round =>
    obtain ⟨k, m, hkk, rfl, rfl⟩ := hrel
    by_cases l1 : k < n.attrs.length
    · obtain ⟨b1, off1, rfl, hlt1, ha1⟩ := g1 (by omega)
      obtain ⟨b2, off2, rfl, hlt2, ha2⟩ := g2 (by omega)
      obtain ⟨x0, x1, x2, x3⟩ := (ha1 k l1).later hlt1 HB.out
      obtain ⟨y0, y1, y2, y3⟩ := (ha2 k l1).later hlt2 HB.out
      have q1 : (0 : Int) ≤ (k : Int) := by omega
      have q2 : (k : Int) < (n.attrs.length : Int) := by omega
      clear ha1 ha2 g1 g2 p0 p1 p2 p3 p4 p5 p6 p8 p9 p10 p11 p12 p13 p14 p15 r0 r1 r2 r3 r4 r5 r6 r8 r9 r10 r11 r12 r13 r14 r15
      generalize n.attrs[k] = a at *
      go_upto_region 6 with fail
      go_quiet (fail)
      go_wp2
      go_roundw
      case rel => exact ⟨k + 1, m + nq, by omega, by go_num, by simp⟩
      case measure => simp [RowKit.intOf]; omega
    · have hkp : k = n.attrs.length := by omega
      subst hkp
      clear g1 g2 l1 hkk
      go_wp2
      go_ret
      exact ⟨rfl, HB.out.trans (drewN_below _ _ _)⟩
end Go.Proofs.YtilacgcjbdkphaaGreat

namespace Go.Proofs.YtilacgcjbdkphaaGreat
open Go.RowKit Go.Lib Go.Shelf

set_option linter.unusedSimpArgs false in
set_option maxRecDepth 100000 in
set_option maxHeartbeats 8000000 in
theorem same_some (b1 off1 c1 b2 off2 c2 : Nat) (ns : List NodeD) (w : World) (hF1 : FAt w b1 off1 c1 ns) (hF2 : FAt w b2 off2 c2 ns) (hdl : ∀ (i : Nat) (hi : i < ns.length), ns[i].data.length ≤ 1099511627776) (hkl : ∀ (i : Nat) (hi : i < ns.length), ns[i].kids.length ≤ 1099511627776) (hal : ∀ (i : Nat) (hi : i < ns.length), ns[i].attrs.length ≤ 1099511627776) :
    Calls Tryz.prog 19 #[.agg #[.slice (some ⟨b1, off1, none⟩) ns.length c1], .agg #[.slice (some ⟨b2, off2, none⟩) ns.length c2]] w fun e w' => e = .returned (.bool true) ∧ Below w.heap.size w w' := by
  have hA0 := AtN.first w (.cells #[.slice (some ⟨b1, off1, none⟩) ns.length c1] 24) (.cells #[.slice (some ⟨b2, off2, none⟩) ns.length c2] 24)
  have hle := hF1.len
  have e0 : ((ns.length : Int) != (ns.length : Int)) = false := bne_self_eq_false _
  have HS : Hid (∀ (i : Nat) (hi : i < ns.length) (L1 L2 : Lists) (V : World), RdN w L1.data ns[i].data → RdA w L1.attrs ns[i].attrs → RdI w L1.kids ns[i].kids → RdN w L2.data ns[i].data → RdA w L2.attrs ns[i].attrs → RdI w L2.kids ns[i].kids → Below w.heap.size w V → _) := fun i hi L1 L2 V h1 h2 h3 k1 k2 k3 hV => sameNode_same ns[i] L1 L2 V (h1.later hV) (h2.later hV) (h3.later hV) (k1.later hV) (k2.later hV) (k3.later hV) (hdl i hi) (hal i hi) (hkl i hi)
  have HF1 := hid hF1
  have HF2 := hid hF2
  clear hdl hkl hal hF1 hF2
  go_enter Tryz.func19, Tryz.ntmps19
  go_wp2
  go_loopw [16] (fun t wr => ∃ k : Nat, k ≤ ns.length ∧ t = .int .i64 k ∧ AtN w (.cells #[.slice (some ⟨b1, off1, none⟩) ns.length c1] 24) (.cells #[.slice (some ⟨b2, off2, none⟩) ns.length c2] 24) wr) (fun t _ => ns.length - (RowKit.intOf t).toNat)
  case atStart => exact ⟨0, Nat.zero_le _, rfl, hA0⟩
  case round =>
    obtain ⟨k, hk, rfl, hA⟩ := hrel
    clear hA0 e0
    by_cases hlt : k < ns.length
    · obtain ⟨L1, hc1, u1, u2, u3⟩ := HF1.out.at_ k hlt
      obtain ⟨L2, hc2, z1, z2, z3⟩ := HF2.out.at_ k hlt
      have hS := HS.out k hlt L1 L2 wr.drew u1 u2 u3 z1 z2 z3 hA.below.drew
      have hDr : Below wr.heap.size wr wr.drew := (Below.refl _ _).drew
      have q1 : (0 : Int) ≤ (k : Int) := by omega
      have q2 : (k : Int) < (ns.length : Int) := by omega
      have hF1lt := HF1.out.lt
      have hF2lt := HF2.out.lt
      obtain ⟨D1, A1, K1⟩ := L1
      obtain ⟨D2, A2, K2⟩ := L2
      obtain ⟨od1, cd1, e1, _⟩ := u1
      obtain ⟨oa1, ca1, e2, _⟩ := u2
      obtain ⟨ok1, ck1, e3, _⟩ := u3
      obtain ⟨od2, cd2, f1, _⟩ := z1
      obtain ⟨oa2, ca2, f2, _⟩ := z2
      obtain ⟨ok2, ck2, f3, _⟩ := z3
      simp only at e1 e2 e3 f1 f2 f3
      subst e1 e2 e3 f1 f2 f3
      unfold nodeV at hS
      simp only at hS
      have Hc1 := hid hc1
      have Hc2 := hid hc2
      clear hc1 hc2 HS HF1 HF2
      generalize ns[k] = n at *
      go_upto_region 6 with fail
      refine wp_region_held_drew (S := (AtN w (.cells #[.slice (some ⟨b1, off1, none⟩) ns.length c1] 24) (.cells #[.slice (some ⟨b2, off2, none⟩) ns.length c2] 24))) (by kernel_rfl) (hA.step hDr) (fun hHeld => ?_)
      refine oneH 0 19 (.pointer (some ⟨w.heap.size, 0, none⟩)) hHeld ?_ ?_
      · intro V _; go_simp
      simp only [Act.put, sA, s0, sS]
      refine oneH 1 20 (.slice (some ⟨b1, off1, none⟩) ns.length c1) hHeld ?_ ?_
      · intro V hSw; (try dsimp only at hSw); obtain ⟨m1, m2⟩ := hSw.heaps; have t1 := (box_cell_l m1).1; have t2 := (box_cell_l m2).1; go_simp
      simp only [Act.put, sA, s0, sS]
      refine oneH 2 21 (.int .i64 (k : Int)) hHeld ?_ ?_
      · intro V _; go_simp
      simp only [Act.put, sA, s0, sS]
      refine oneH 3 22 (.pointer (some ⟨b1, off1 + k * 16, none⟩)) hHeld ?_ ?_
      · intro V _; go_simp
      simp only [Act.put, sA, s0, sS]
      refine oneH 4 23 (.agg #[.int .u8 (n.kind : Int), .string n.space, .string n.pre, .string n.loc, .string n.pub, .string n.sys, .slice od1 n.data.length cd1, .slice oa1 n.attrs.length ca1, .int .i64 n.parent, .slice ok1 n.kids.length ck1, .int .i64 n.doc, .int .i64 n.host, .int .i64 n.shadow, .int .u8 (n.mode : Int), .bool n.manual, .bool n.html]) hHeld ?_ ?_
      · intro V hSw; (try dsimp only at hSw); obtain ⟨c0, c1, c2, c3, c4, c5, c6, c7, c8, c9, c10, c11, c12, c13, c14, c15⟩ := Hc1.out.later hF1lt (hSw.below); go_simp
      simp only [Act.put, sA, s0, sS]
      refine oneH 5 24 (.pointer (some ⟨w.heap.size + 1, 0, none⟩)) hHeld ?_ ?_
      · intro V _; go_simp
      simp only [Act.put, sA, s0, sS]
      refine oneH 6 25 (.slice (some ⟨b2, off2, none⟩) ns.length c2) hHeld ?_ ?_
      · intro V hSw; (try dsimp only at hSw); obtain ⟨m1, m2⟩ := hSw.heaps; have t1 := (box_cell_l m1).1; have t2 := (box_cell_l m2).1; go_simp
      simp only [Act.put, sA, s0, sS]
      refine oneH 7 26 (.int .i64 (k : Int)) hHeld ?_ ?_
      · intro V _; go_simp
      simp only [Act.put, sA, s0, sS]
      refine oneH 8 27 (.pointer (some ⟨b2, off2 + k * 16, none⟩)) hHeld ?_ ?_
      · intro V _; go_simp
      simp only [Act.put, sA, s0, sS]
      refine oneH 9 28 (.agg #[.int .u8 (n.kind : Int), .string n.space, .string n.pre, .string n.loc, .string n.pub, .string n.sys, .slice od2 n.data.length cd2, .slice oa2 n.attrs.length ca2, .int .i64 n.parent, .slice ok2 n.kids.length ck2, .int .i64 n.doc, .int .i64 n.host, .int .i64 n.shadow, .int .u8 (n.mode : Int), .bool n.manual, .bool n.html]) hHeld ?_ ?_
      · intro V hSw; (try dsimp only at hSw); obtain ⟨c0, c1, c2, c3, c4, c5, c6, c7, c8, c9, c10, c11, c12, c13, c14, c15⟩ := Hc2.out.later hF2lt (hSw.below); go_simp
      simp only [Act.put, sA, s0, sS]
      refine wpAnyH_ready (rs := [10]) (by kernel_rfl) (by simp) ?_
      refine AllReadyH.cons rfl (fun K hK => ?_) AllReadyH.nil
      go_simp
      go_wp2_with (go_at_call 54; refine hS.mono ?_; rintro e v4 ⟨rfl, hb⟩; have hA4 := (hA.step hDr).step hb; clear hb hS)
      refine hK.out _ _ (hA4) (fun hHeld => ?_)
      clear hK K
      refine oneH 11 30 (.bool false) hHeld ?_ ?_
      · intro V _; go_simp
      simp only [Act.put, sA, s0, sS]
      refine wpAnyH_done (by kernel_rfl) ?_ _
      clear hA hDr
      go_wp2
      go_roundw
      case rel => exact ⟨k + 1, by omega, by go_num, hA4⟩
      case measure => simp [RowKit.intOf]; omega
    · have hkp : k = ns.length := by omega
      subst hkp
      clear hlt hk HS
      go_wp2
      go_ret
      exact ⟨rfl, hA.below⟩
end Go.Proofs.YtilacgcjbdkphaaGreat

namespace Go.Proofs.YtilacgcjbdkphaaGreat
open Go.RowKit Go.Lib Go.Shelf

def unitsC (l : List Nat) : List Value := l.map fun (x : Nat) => .int .u16 (x : Int)
def attrCs (a : AttrD) : List Value := [.string a.space, .string a.pre, .string a.loc, .string a.val]
def attrsC (l : List AttrD) : List Value := l.flatMap attrCs
theorem attrsC_len : ∀ l : List AttrD, (attrsC l).length = l.length * 4
  | [] => rfl
  | r :: t => by
    have := attrsC_len t
    unfold attrsC at this ⊢
    rw [List.flatMap_cons, List.length_append, this, List.length_cons]
    show 4 + _ = _
    omega
theorem attrsC_get : ∀ (l : List AttrD) (j i : Nat) (hj : j < l.length) (_hi : i < 4), (attrsC l)[j * 4 + i]? = (attrCs l[j])[i]?
  | [], _, _, hj, _ => by cases hj
  | r :: t, 0, i, _, hi => by
    unfold attrsC
    rw [List.flatMap_cons, List.getElem?_append_left (by show 0 * 4 + i < 4; omega), Nat.zero_mul, Nat.zero_add]
    rfl
  | r :: t, j + 1, i, hj, hi => by
    have h := attrsC_get t j i (by simpa using hj) hi
    unfold attrsC at h ⊢
    rw [List.flatMap_cons, List.getElem?_append_right (by show 4 ≤ _; omega)]
    rw [show (j + 1) * 4 + i - (attrCs r).length = j * 4 + i by show (j + 1) * 4 + i - 4 = _; omega, h]
    rfl
theorem own_attrs {W : World} {base : Nat} {v : Value} {l : List AttrD} (h : W.ownsRow base 125 4 v l.length (attrsC l)) : RdA W v l := by
  obtain ⟨hl, h⟩ := h
  rcases h with ⟨rfl, h0⟩ | ⟨g, cap, cur, rfl, hb, hh, hn, hm, hs, ht⟩
  · refine ⟨none, 0, by rw [h0], by omega, fun hp => by omega⟩
  · refine ⟨some ⟨g, 0, none⟩, cap, rfl, hn, fun _ => ⟨g, 0, rfl, (Array.getElem?_eq_some_iff.1 hh).1, fun j hj => ?_⟩⟩
    have hc : ∀ i, i < 4 → W.cell? ⟨g, j * 4 + i, none⟩ = (attrCs l[j])[i]? := fun i hi => by
      rw [← attrsC_get l j i hj hi, ← ht, List.getElem?_take, if_pos (by omega), Array.getElem?_toList]
      unfold World.cell?
      simp only [hh]
      exact if_neg (by decide)
    rw [Nat.zero_add]
    exact ⟨(hc 0 (by omega)).trans rfl, (hc 1 (by omega)).trans rfl, (hc 2 (by omega)).trans rfl, (hc 3 (by omega)).trans rfl⟩
theorem own_units {W : World} {base : Nat} {v : Value} {l : List Nat} (h : W.ownsRow base 70 1 v l.length (unitsC l)) : RdN W v l := by
  obtain ⟨hl, h⟩ := h
  rcases h with ⟨rfl, h0⟩ | ⟨g, cap, cur, rfl, hb, hh, hn, hm, hs, ht⟩
  · refine ⟨none, 0, by rw [h0], by omega, fun hp => by omega⟩
  · refine ⟨some ⟨g, 0, none⟩, cap, rfl, hn, fun _ => ⟨g, 0, rfl, (Array.getElem?_eq_some_iff.1 hh).1, fun j hj => ?_⟩⟩
    have hc : W.cell? ⟨g, j, none⟩ = (unitsC l)[j]? := by
      rw [← ht, List.getElem?_take, if_pos (by omega), Array.getElem?_toList]
      unfold World.cell?
      simp only [hh]
      exact if_neg (by decide)
    rw [Nat.zero_add, hc]
    unfold unitsC
    rw [List.getElem?_map, List.getElem?_eq_getElem hj]
    rfl
theorem info_u16 : (Tryz.prog.info? 70).map (fun i => (i.zero, i.size, i.bytes)) = some (some (.int .u16 0), 1, 2) := by kernel_rfl
theorem info_attr : (Tryz.prog.info? 125).map (fun i => (i.zero, i.size, i.bytes)) = some (some (.agg #[.string ⟨#[]⟩, .string ⟨#[]⟩, .string ⟨#[]⟩, .string ⟨#[]⟩]), 4, 64) := by kernel_rfl
theorem attrs_news {w : World} {b off : Nat} {l : List AttrD} (h : AttrsAt w b off l) : ∀ (j : Nat) (u : Value), (attrsC l)[j]? = some u → w.cell? ((⟨b, off, none⟩ : Addr).add j) = some u := fun j u hj => by
  have hlt : j < (attrsC l).length := (List.getElem?_eq_some_iff.1 hj).1
  rw [attrsC_len] at hlt
  have hq : j / 4 < l.length := by omega
  have hg := attrsC_get l (j / 4) (j % 4) hq (Nat.mod_lt _ (by decide))
  rw [show j / 4 * 4 + j % 4 = j by omega] at hg
  rw [hg] at hj
  have e : (⟨b, off, none⟩ : Addr).add j = ⟨b, off + j, none⟩ := by simp [Addr.add]
  rw [e, show off + j = off + j / 4 * 4 + j % 4 by omega]
  obtain ⟨c0, c1, c2, c3⟩ := h (j / 4) hq
  have hm : j % 4 < 4 := Nat.mod_lt _ (by decide)
  rcases (by omega : j % 4 = 0 ∨ j % 4 = 1 ∨ j % 4 = 2 ∨ j % 4 = 3) with hz | hz | hz | hz
  · rw [hz] at hj ⊢; rw [Nat.add_zero, c0]; exact hj
  · rw [hz] at hj ⊢; rw [c1]; exact hj
  · rw [hz] at hj ⊢; rw [c2]; exact hj
  · rw [hz] at hj ⊢; rw [c3]; exact hj
theorem attrs_one (l : List AttrD) : ∀ u ∈ attrsC l, u.oneCell' = true := fun u hu => by
  obtain ⟨r, _, hr⟩ := List.mem_flatMap.1 hu
  simp only [attrCs, List.mem_cons, List.not_mem_nil, or_false] at hr
  rcases hr with rfl | rfl | rfl | rfl <;> rfl
theorem units_news {w : World} {b off : Nat} {l : List Nat} (h : ∀ (j : Nat) (hj : j < l.length), w.cell? ⟨b, off + j, none⟩ = some (.int .u16 (l[j] : Int))) : ∀ (j : Nat) (u : Value), (unitsC l)[j]? = some u → w.cell? ((⟨b, off, none⟩ : Addr).add j) = some u := fun j u hj => by
  unfold unitsC at hj
  rw [List.getElem?_map] at hj
  obtain ⟨x, hx, rfl⟩ := Option.map_eq_some_iff.1 hj
  obtain ⟨hj', rfl⟩ := List.getElem?_eq_some_iff.1 hx
  have e : (⟨b, off, none⟩ : Addr).add j = ⟨b, off + j, none⟩ := by simp [Addr.add]
  rw [e]
  exact h j hj'
theorem units_one (l : List Nat) : ∀ u ∈ unitsC l, u.oneCell' = true := fun u hu => by
  obtain ⟨x, _, rfl⟩ := List.mem_map.1 hu
  rfl
theorem ints_news {w : World} {b off : Nat} {A : List Int} (h : ∀ (j : Nat) (hj : j < A.length), w.cell? ⟨b, off + j, none⟩ = some (.int .i64 A[j])) : ∀ (j : Nat) (u : Value), (A.map (Value.int .i64))[j]? = some u → w.cell? ((⟨b, off, none⟩ : Addr).add j) = some u := fun j u hj => by
  rw [List.getElem?_map] at hj
  obtain ⟨x, hx, rfl⟩ := Option.map_eq_some_iff.1 hj
  obtain ⟨hj', rfl⟩ := List.getElem?_eq_some_iff.1 hx
  have e : (⟨b, off, none⟩ : Addr).add j = ⟨b, off + j, none⟩ := by simp [Addr.add]
  rw [e]
  exact h j hj'
theorem ints_one (A : List Int) : ∀ u ∈ A.map (Value.int .i64), u.oneCell' = true := fun u hu => by
  obtain ⟨x, _, rfl⟩ := List.mem_map.1 hu
  rfl
/-- What is appended to an empty row of one's own. -/
theorem append_fresh {P : Program} (W : World) (g : Nat) (t ty e : TypeId) (i : TypeInfo) (z : Value) (size bytes : Nat) (ht : P.underlying t = some (.slice e)) (hi : P.info? e = some i) (hz : i.zero = some z) (hsize : i.size = size) (hby : i.bytes = bytes) (hzs : z.cells.size = size) (hsz : 0 < size) (hg : W.heap[g]? = some (.cells #[] e))
    (o : Option Addr) (m c : Nat) (news : List Value) (hl : news.length = m * size) (hsrc : 0 < m → ∃ b off, o = some ⟨b, off, none⟩ ∧ ∀ j u, news[j]? = some u → W.cell? ((⟨b, off, none⟩ : Addr).add j) = some u) (h1 : ∀ u ∈ news, u.oneCell' = true) (h63 : m ≤ maxLen) (hbytes : m * bytes ≤ 140737488355328) :
    ∃ v' w', (Builtin.append_ #[t, t] ty #[.slice (some ⟨g, 0, none⟩) 0 0, .slice o m c]).run P W = .ok v' w' ∧ w'.ownsRow g e size v' m news ∧ W.grownBy w' (some g) := by
  have hlt := (Array.getElem?_eq_some_iff.1 hg).1
  have hown : W.ownsRow g e size (.slice (some ⟨g, 0, none⟩) 0 0) 0 [] := ⟨by simp, .inr ⟨g, 0, #[], rfl, Nat.le_refl _, hg, Nat.le_refl _, Nat.zero_le _, by simp, by simp⟩⟩
  cases o with
  | none =>
    have h0 : m = 0 := by
      by_cases h0 : m = 0
      · exact h0
      · obtain ⟨b, off, e, _⟩ := hsrc (by omega)
        cases e
    subst h0
    have hn : news = [] := List.length_eq_zero_iff.1 (by omega)
    subst hn
    refine ⟨.slice (some ⟨g, 0, none⟩) 0 0, W, ?_, hown, ⟨rfl, rfl, rfl, Nat.le_refl _, fun _ _ _ => rfl⟩⟩
    simp [Builtin.append_, run_underlying ht, sizeOf, typeInfo, hi, Builtin.lenOf, Builtin.firstCells, storeCells]
  | some ad =>
    have hnews : ∀ j u, news[j]? = some u → W.cell? (ad.add j) = some u := fun j u hj => by
      by_cases h0 : m = 0
      · have hn : news = [] := List.length_eq_zero_iff.1 (by rw [hl, h0, Nat.zero_mul])
        rw [hn] at hj
        cases hj
      · obtain ⟨b, off, e, h⟩ := hsrc (by omega)
        cases e
        exact h j u hj
    obtain ⟨v', w', r1, r2, r3, _⟩ := run_append_own (P := P) (w := W) g t ty e i z size bytes ht hi hz hsize hby hzs hsz _ 0 [] hown ad m c news hl hnews h1 (by omega) (by rw [Nat.zero_add]; exact hbytes) (by omega)
    rw [Nat.zero_add, List.nil_append] at r2
    exact ⟨v', w', r1, r2, r3⟩
theorem own_shapeC {W : World} {base size : Nat} {e : TypeId} {v : Value} {n : Nat} {xs : List Value} (h : W.ownsRow base e size v n xs) : ∃ o c, v = .slice o n c := by
  rcases h.2 with ⟨rfl, rfl⟩ | ⟨g, cap, _, rfl, _⟩
  · exact ⟨_, _, rfl⟩
  · exact ⟨_, _, rfl⟩
theorem grown_heap {W w1 : World} {g k : Nat} {x : Obj} (h : W.heap[k]? = some x) (hg : W.grownBy w1 (some g)) (hne : k ≠ g) : w1.heap[k]? = some x :=
  (hg.block k (Array.getElem?_eq_some_iff.1 h).1 (by intro e; exact hne (Option.some.inj e))).trans h
theorem grown_own {W w1 : World} {base size n g : Nat} {e : TypeId} {v : Value} {xs : List Value} (h : W.ownsRow base e size v n xs) (hg : W.grownBy w1 (some g)) (hne : ∀ k, v.ownBlock = some k → k ≠ g) : w1.ownsRow base e size v n xs := by
  obtain ⟨h1, h2⟩ := h
  refine ⟨h1, ?_⟩
  rcases h2 with h2 | ⟨k, cap, cur, hv, hg', hh, r⟩
  · exact .inl h2
  · exact .inr ⟨k, cap, cur, hv, hg', grown_heap hh hg (hne k (by rw [hv]; rfl)), r⟩
theorem own_baseC {W : World} {base base' size : Nat} {e : TypeId} {v : Value} {n : Nat} {xs : List Value} (hb : base' ≤ base) (h : W.ownsRow base e size v n xs) : W.ownsRow base' e size v n xs := by
  obtain ⟨h1, h2⟩ := h
  refine ⟨h1, h2.imp id ?_⟩
  rintro ⟨g, cap, cur, hv, hg, r⟩
  exact ⟨g, cap, cur, hv, Nat.le_trans hb hg, r⟩
/-- The lists of a node, in rows of one's own. -/
structure OwnL (W : World) (base : Nat) (n : NodeD) (L : Lists) : Prop where
  data : W.ownsRow base 70 1 L.data n.data.length (unitsC n.data)
  attrs : W.ownsRow base 125 4 L.attrs n.attrs.length (attrsC n.attrs)
  kids : W.ownsRow base 3 1 L.kids n.kids.length (n.kids.map (Value.int .i64))

set_option linter.unusedSimpArgs false in
set_option maxRecDepth 100000 in
set_option maxHeartbeats 8000000 in
theorem copyNode_any (n : NodeD) (L : Lists) (w : World) (h1 : RdN w L.data n.data) (h2 : RdA w L.attrs n.attrs) (h3 : RdI w L.kids n.kids) (hd : n.data.length ≤ 1048576) (ha : n.attrs.length ≤ 1048576) (hk : n.kids.length ≤ 1048576) :
    Calls Tryz.prog 36 #[nodeV n L] w fun e w' => ∃ L', e = .returned (nodeV n L') ∧ OwnL w' w.heap.size n L' ∧ Below w.heap.size w w' := by
  obtain ⟨i1, hi1, hu0, hu1, hu2⟩ := info_parts info_u16
  obtain ⟨i2, hi2, ha0, ha1, ha2⟩ := info_parts info_attr
  obtain ⟨i3, hi3, hk0, hk1, hk2⟩ := info_parts info_int
  obtain ⟨D, A, K⟩ := L
  have HD := hid h1
  have HA := hid h2
  have HK := hid h3
  obtain ⟨od, cd, e1, _⟩ := h1
  obtain ⟨oa, ca, e2, _⟩ := h2
  obtain ⟨ok, ck, e3, _⟩ := h3
  simp only at e1 e2 e3
  subst e1 e2 e3
  -- the worlds, one behind the other
  obtain ⟨W1, hW1⟩ : ∃ W1, W1 = (w.alloc (.cells #[.int .u8 (n.kind : Int), .string n.space, .string n.pre, .string n.loc, .string n.pub, .string n.sys, .slice od n.data.length cd, .slice oa n.attrs.length ca, .int .i64 n.parent, .slice ok n.kids.length ck, .int .i64 n.doc, .int .i64 n.host, .int .i64 n.shadow, .int .u8 (n.mode : Int), .bool n.manual, .bool n.html] 64)).alloc (.cells #[.int .u8 0, .string ⟨#[]⟩, .string ⟨#[]⟩, .string ⟨#[]⟩, .string ⟨#[]⟩, .string ⟨#[]⟩, .slice none 0 0, .slice none 0 0, .int .i64 0, .slice none 0 0, .int .i64 0, .int .i64 0, .int .i64 0, .int .u8 0, .bool false, .bool false] 64) := ⟨_, rfl⟩
  have hA1 := AtN.first w (.cells #[.int .u8 (n.kind : Int), .string n.space, .string n.pre, .string n.loc, .string n.pub, .string n.sys, .slice od n.data.length cd, .slice oa n.attrs.length ca, .int .i64 n.parent, .slice ok n.kids.length ck, .int .i64 n.doc, .int .i64 n.host, .int .i64 n.shadow, .int .u8 (n.mode : Int), .bool n.manual, .bool n.html] 64) (.cells #[.int .u8 0, .string ⟨#[]⟩, .string ⟨#[]⟩, .string ⟨#[]⟩, .string ⟨#[]⟩, .string ⟨#[]⟩, .slice none 0 0, .slice none 0 0, .int .i64 0, .slice none 0 0, .int .i64 0, .int .i64 0, .int .i64 0, .int .u8 0, .bool false, .bool false] 64)
  rw [← hW1] at hA1
  obtain ⟨m1, m2⟩ := hA1.heaps
  have hz1 := hA1.size
  have hs1 : W1.heap.size = w.heap.size + 1 + 1 := by rw [hW1]; simp
  have b1 := hA1.below
  -- data
  have g2 := heap_new W1 (.cells #[] 70)
  have b2 : Below w.heap.size w (W1.alloc (.cells #[] 70)) := b1.alloc (by omega) _
  obtain ⟨v1, w1, r1, o1, gr1⟩ := append_fresh (P := Tryz.prog) (W1.alloc (.cells #[] 70)) W1.heap.size 53 53 70 i1 (.int .u16 0) 1 2 Tryz.underlying53 hi1 hu0 hu1 hu2 rfl (by decide) g2 od n.data.length cd (unitsC n.data) (by unfold unitsC; simp) (fun hp => by
    obtain ⟨o', c', he, _, g⟩ := HD.out.later b2
    injection he with he1
    obtain ⟨b, off, hb, _, hc⟩ := g hp
    exact ⟨b, off, he1.trans hb, units_news hc⟩) (units_one _) (Nat.le_trans hd (by decide)) (by omega)
  obtain ⟨vo1, vc1, hv1⟩ := own_shapeC o1
  subst hv1
  have n1 := grown_heap ((Below.heap_alloc W1 (.cells #[] 70) _ (by omega)).trans m1) gr1 (by omega)
  have z1 := grown_heap ((Below.heap_alloc W1 (.cells #[] 70) _ (by omega)).trans m2) gr1 (by omega)
  have bw1 : Below w.heap.size w w1 := b2.grown gr1 b2.size (fun k hk => by have := Option.some.inj hk; omega)
  have sw1 := gr1.size
  simp only [World.size_alloc] at sw1
  -- attributes
  obtain ⟨W3, hW3⟩ : ∃ W3, W3 = w1.setCell ⟨w.heap.size, 6, none⟩ (.slice vo1 n.data.length vc1) := ⟨_, rfl⟩
  have n3 : W3.heap[w.heap.size]? = some (.cells #[.int .u8 (n.kind : Int), .string n.space, .string n.pre, .string n.loc, .string n.pub, .string n.sys, .slice vo1 n.data.length vc1, .slice oa n.attrs.length ca, .int .i64 n.parent, .slice ok n.kids.length ck, .int .i64 n.doc, .int .i64 n.host, .int .i64 n.shadow, .int .u8 (n.mode : Int), .bool n.manual, .bool n.html] 64) := by rw [hW3]; simp [World.setCell, Array.getElem?_modify, n1]
  have z3 : W3.heap[w.heap.size + 1]? = some (.cells #[.int .u8 0, .string ⟨#[]⟩, .string ⟨#[]⟩, .string ⟨#[]⟩, .string ⟨#[]⟩, .string ⟨#[]⟩, .slice none 0 0, .slice none 0 0, .int .i64 0, .slice none 0 0, .int .i64 0, .int .i64 0, .int .i64 0, .int .u8 0, .bool false, .bool false] 64) := by rw [hW3, Below.heap_setCell _ _ _ _ (by show w.heap.size + 1 ≠ w.heap.size; omega)]; exact z1
  have s3 : W3.heap.size = w1.heap.size := by rw [hW3]; simp
  have bw3 : Below w.heap.size w W3 := by rw [hW3]; exact bw1.setCell (p := ⟨w.heap.size, 6, none⟩) (Nat.le_refl _) _
  have o13 : W3.ownsRow W1.heap.size 70 1 (.slice vo1 n.data.length vc1) n.data.length (unitsC n.data) := by rw [hW3]; exact ownsRow_setCell_below o1 (a := ⟨w.heap.size, 6, none⟩) (by show w.heap.size < _; omega) _
  have g4 := heap_new W3 (.cells #[] 125)
  have b4 : Below w.heap.size w (W3.alloc (.cells #[] 125)) := bw3.alloc bw3.size _
  obtain ⟨v2, w2, r2, o2, gr2⟩ := append_fresh (P := Tryz.prog) (W3.alloc (.cells #[] 125)) W3.heap.size 61 61 125 i2 (.agg #[.string ⟨#[]⟩, .string ⟨#[]⟩, .string ⟨#[]⟩, .string ⟨#[]⟩]) 4 64 Tryz.underlying61 hi2 ha0 ha1 ha2 rfl (by decide) g4 oa n.attrs.length ca (attrsC n.attrs) (attrsC_len _) (fun hp => by
    obtain ⟨o', c', he, _, g⟩ := HA.out.later b4
    injection he with he1
    obtain ⟨b, off, hb, _, hc⟩ := g hp
    exact ⟨b, off, he1.trans hb, attrs_news hc⟩) (attrs_one _) (Nat.le_trans ha (by decide)) (by omega)
  have o14 : (W3.alloc (.cells #[] 125)).ownsRow W1.heap.size 70 1 (.slice vo1 n.data.length vc1) n.data.length (unitsC n.data) := o13.alloc _
  have o15 : w2.ownsRow W1.heap.size 70 1 (.slice vo1 n.data.length vc1) n.data.length (unitsC n.data) := grown_own o14 gr2 (fun k hk e => by have := (o13.lt k hk).2; omega)
  obtain ⟨vo2, vc2, hv2⟩ := own_shapeC o2
  subst hv2
  have n4 := grown_heap ((Below.heap_alloc W3 (.cells #[] 125) _ (by omega)).trans n3) gr2 (by omega)
  have z4 := grown_heap ((Below.heap_alloc W3 (.cells #[] 125) _ (by omega)).trans z3) gr2 (by omega)
  have bw4 : Below w.heap.size w w2 := b4.grown gr2 b4.size (fun k hk => by have := Option.some.inj hk; omega)
  have sw2 := gr2.size
  simp only [World.size_alloc] at sw2
  -- kids
  obtain ⟨W5, hW5⟩ : ∃ W5, W5 = w2.setCell ⟨w.heap.size, 7, none⟩ (.slice vo2 n.attrs.length vc2) := ⟨_, rfl⟩
  have n5 : W5.heap[w.heap.size]? = some (.cells #[.int .u8 (n.kind : Int), .string n.space, .string n.pre, .string n.loc, .string n.pub, .string n.sys, .slice vo1 n.data.length vc1, .slice vo2 n.attrs.length vc2, .int .i64 n.parent, .slice ok n.kids.length ck, .int .i64 n.doc, .int .i64 n.host, .int .i64 n.shadow, .int .u8 (n.mode : Int), .bool n.manual, .bool n.html] 64) := by rw [hW5]; simp [World.setCell, Array.getElem?_modify, n4]
  have z5 : W5.heap[w.heap.size + 1]? = some (.cells #[.int .u8 0, .string ⟨#[]⟩, .string ⟨#[]⟩, .string ⟨#[]⟩, .string ⟨#[]⟩, .string ⟨#[]⟩, .slice none 0 0, .slice none 0 0, .int .i64 0, .slice none 0 0, .int .i64 0, .int .i64 0, .int .i64 0, .int .u8 0, .bool false, .bool false] 64) := by rw [hW5, Below.heap_setCell _ _ _ _ (by show w.heap.size + 1 ≠ w.heap.size; omega)]; exact z4
  have s5 : W5.heap.size = w2.heap.size := by rw [hW5]; simp
  have bw5 : Below w.heap.size w W5 := by rw [hW5]; exact bw4.setCell (p := ⟨w.heap.size, 7, none⟩) (Nat.le_refl _) _
  have o16 : W5.ownsRow W1.heap.size 70 1 (.slice vo1 n.data.length vc1) n.data.length (unitsC n.data) := by rw [hW5]; exact ownsRow_setCell_below o15 (a := ⟨w.heap.size, 7, none⟩) (by show w.heap.size < _; omega) _
  have o26 : W5.ownsRow W3.heap.size 125 4 (.slice vo2 n.attrs.length vc2) n.attrs.length (attrsC n.attrs) := by rw [hW5]; exact ownsRow_setCell_below o2 (a := ⟨w.heap.size, 7, none⟩) (by show w.heap.size < _; omega) _
  have g6 := heap_new W5 (.cells #[] 3)
  have b6 : Below w.heap.size w (W5.alloc (.cells #[] 3)) := bw5.alloc bw5.size _
  obtain ⟨v3, w3, r3, o3, gr3⟩ := append_fresh (P := Tryz.prog) (W5.alloc (.cells #[] 3)) W5.heap.size 32 32 3 i3 (.int .i64 0) 1 8 Tryz.underlying32 hi3 hk0 hk1 hk2 rfl (by decide) g6 ok n.kids.length ck (n.kids.map (Value.int .i64)) (by simp) (fun hp => by
    obtain ⟨o', c', he, _, g⟩ := HK.out.later b6
    injection he with he1
    obtain ⟨b, off, hb, _, hc⟩ := g hp
    exact ⟨b, off, he1.trans hb, ints_news hc⟩) (ints_one _) (Nat.le_trans hk (by decide)) (by omega)
  have o17 : w3.ownsRow W1.heap.size 70 1 (.slice vo1 n.data.length vc1) n.data.length (unitsC n.data) := grown_own (o16.alloc _) gr3 (fun k hk e => by have := (o16.lt k hk).2; omega)
  have o27 : w3.ownsRow W3.heap.size 125 4 (.slice vo2 n.attrs.length vc2) n.attrs.length (attrsC n.attrs) := grown_own (o26.alloc _) gr3 (fun k hk e => by have := (o26.lt k hk).2; omega)
  obtain ⟨vo3, vc3, hv3⟩ := own_shapeC o3
  subst hv3
  have n6 := grown_heap ((Below.heap_alloc W5 (.cells #[] 3) _ (by omega)).trans n5) gr3 (by omega)
  have z6 := grown_heap ((Below.heap_alloc W5 (.cells #[] 3) _ (by omega)).trans z5) gr3 (by omega)
  have bw6 : Below w.heap.size w w3 := b6.grown gr3 b6.size (fun k hk => by have := Option.some.inj hk; omega)
  obtain ⟨W7, hW7⟩ : ∃ W7, W7 = w3.setCell ⟨w.heap.size, 9, none⟩ (.slice vo3 n.kids.length vc3) := ⟨_, rfl⟩
  have n7 : W7.heap[w.heap.size]? = some (.cells #[.int .u8 (n.kind : Int), .string n.space, .string n.pre, .string n.loc, .string n.pub, .string n.sys, .slice vo1 n.data.length vc1, .slice vo2 n.attrs.length vc2, .int .i64 n.parent, .slice vo3 n.kids.length vc3, .int .i64 n.doc, .int .i64 n.host, .int .i64 n.shadow, .int .u8 (n.mode : Int), .bool n.manual, .bool n.html] 64) := by rw [hW7]; simp [World.setCell, Array.getElem?_modify, n6]
  have z7 : W7.heap[w.heap.size + 1]? = some (.cells #[.int .u8 0, .string ⟨#[]⟩, .string ⟨#[]⟩, .string ⟨#[]⟩, .string ⟨#[]⟩, .string ⟨#[]⟩, .slice none 0 0, .slice none 0 0, .int .i64 0, .slice none 0 0, .int .i64 0, .int .i64 0, .int .i64 0, .int .u8 0, .bool false, .bool false] 64) := by rw [hW7, Below.heap_setCell _ _ _ _ (by show w.heap.size + 1 ≠ w.heap.size; omega)]; exact z6
  have bw7 : Below w.heap.size w W7 := by rw [hW7]; exact bw6.setCell (p := ⟨w.heap.size, 9, none⟩) (Nat.le_refl _) _
  have o18 : W7.ownsRow W1.heap.size 70 1 (.slice vo1 n.data.length vc1) n.data.length (unitsC n.data) := by rw [hW7]; exact ownsRow_setCell_below o17 (a := ⟨w.heap.size, 9, none⟩) (by show w.heap.size < _; omega) _
  have o28 : W7.ownsRow W3.heap.size 125 4 (.slice vo2 n.attrs.length vc2) n.attrs.length (attrsC n.attrs) := by rw [hW7]; exact ownsRow_setCell_below o27 (a := ⟨w.heap.size, 9, none⟩) (by show w.heap.size < _; omega) _
  have o38 : W7.ownsRow W5.heap.size 3 1 (.slice vo3 n.kids.length vc3) n.kids.length (n.kids.map (Value.int .i64)) := by rw [hW7]; exact ownsRow_setCell_below o3 (a := ⟨w.heap.size, 9, none⟩) (by show w.heap.size < _; omega) _
  obtain ⟨_, _, _, _, _, _, p6, _⟩ := box16s n1
  have fz6 := frozen_of_heap n1 6
  obtain ⟨_, _, _, _, _, _, _, t7, _⟩ := box16s n3
  obtain ⟨_, _, _, _, _, _, _, p7, _⟩ := box16s n4
  have fz7 := frozen_of_heap n4 7
  obtain ⟨_, _, _, _, _, _, _, _, _, t9, _⟩ := box16s n5
  obtain ⟨_, _, _, _, _, _, _, _, _, p9, _⟩ := box16s n6
  have fz9 := frozen_of_heap n6 9
  obtain ⟨q0, q1, q2, q3, q4, q5, q6, q7, q8, q9, q10, q11, q12, q13, q14, q15⟩ := box16s n7
  obtain ⟨y0, y1, y2, y3, y4, y5, y6, y7, y8, y9, y10, y11, y12, y13, y14, y15⟩ := box16s z7
  have fy0 := frozen_of_heap z7 0
  have fy1 := frozen_of_heap z7 1
  have fy2 := frozen_of_heap z7 2
  have fy3 := frozen_of_heap z7 3
  have fy4 := frozen_of_heap z7 4
  have fy5 := frozen_of_heap z7 5
  have fy6 := frozen_of_heap z7 6
  have fy7 := frozen_of_heap z7 7
  have fy8 := frozen_of_heap z7 8
  have fy9 := frozen_of_heap z7 9
  have fy10 := frozen_of_heap z7 10
  have fy11 := frozen_of_heap z7 11
  have fy12 := frozen_of_heap z7 12
  have fy13 := frozen_of_heap z7 13
  have fy14 := frozen_of_heap z7 14
  have fy15 := frozen_of_heap z7 15
  have HZ7 := hid z7
  have HB7 := hid bw7
  have HO1 := hid o18
  have HO2 := hid o28
  have HO3 := hid o38
  have u7 : (W3.alloc (.cells #[] 125)).cell? ⟨w.heap.size, 7, none⟩ = some (.slice oa n.attrs.length ca) := (World.cell?_alloc_some _ _ _ (by rw [t7]; rfl)).trans t7
  have u9 : (W5.alloc (.cells #[] 3)).cell? ⟨w.heap.size, 9, none⟩ = some (.slice ok n.kids.length ck) := (World.cell?_alloc_some _ _ _ (by rw [t9]; rfl)).trans t9
  have R1 : (Builtin.append_ #[53, 53] 53 #[.slice (some ⟨w.heap.size + 1 + 1, 0, none⟩) 0 0, .slice od n.data.length cd]).run Tryz.prog (((w.alloc (.cells #[.int .u8 (n.kind : Int), .string n.space, .string n.pre, .string n.loc, .string n.pub, .string n.sys, .slice od n.data.length cd, .slice oa n.attrs.length ca, .int .i64 n.parent, .slice ok n.kids.length ck, .int .i64 n.doc, .int .i64 n.host, .int .i64 n.shadow, .int .u8 (n.mode : Int), .bool n.manual, .bool n.html] 64)).alloc (.cells #[.int .u8 0, .string ⟨#[]⟩, .string ⟨#[]⟩, .string ⟨#[]⟩, .string ⟨#[]⟩, .string ⟨#[]⟩, .slice none 0 0, .slice none 0 0, .int .i64 0, .slice none 0 0, .int .i64 0, .int .i64 0, .int .i64 0, .int .u8 0, .bool false, .bool false] 64)).alloc (.cells #[] 70)) = .ok (.slice vo1 n.data.length vc1) w1 := by rw [← hW1, ← hs1]; exact r1
  have R2 : (Builtin.append_ #[61, 61] 61 #[.slice (some ⟨W3.heap.size, 0, none⟩) 0 0, .slice oa n.attrs.length ca]).run Tryz.prog (W3.alloc (.cells #[] 125)) = .ok (.slice vo2 n.attrs.length vc2) w2 := r2
  have R3 : (Builtin.append_ #[32, 32] 32 #[.slice (some ⟨W5.heap.size, 0, none⟩) 0 0, .slice ok n.kids.length ck]).run Tryz.prog (W5.alloc (.cells #[] 3)) = .ok (.slice vo3 n.kids.length vc3) w3 := r3
  have l1 : w.heap.size + 1 < W1.heap.size := by omega
  have l3 : w.heap.size + 1 < W3.heap.size := by omega
  have l5 : w.heap.size + 1 < W5.heap.size := by omega
  have B1 : w.heap.size ≤ W1.heap.size := by omega
  have B3 : w.heap.size ≤ W3.heap.size := by omega
  have B5 : w.heap.size ≤ W5.heap.size := by omega
  have L1 := hid l1
  have L3 := hid l3
  have L5 := hid l5
  have X1 := hid B1
  have X3 := hid B3
  have X5 := hid B5
  clear HD HA HK m1 m2 hz1 b1 g2 b2 r1 o1 gr1 n1 z1 bw1 sw1 n3 z3 s3 bw3 o13 g4 b4 r2 o2 gr2 o14 o15 n4 z4 bw4 sw2 n5 z5 s5 bw5 o16 o26 g6 b6 r3 o3 gr3 o17 o27 n6 z6 bw6 n7 bw7 o18 o28 o38 z7 hA1 l1 l3 l5 B1 B3 B5 hs1 hW1 hi1 hi2 hi3 hu0 hu1 hu2 ha0 ha1 ha2 hk0 hk1 hk2 hd ha hk
  unfold nodeV
  simp only
  go_enter Tryz.func36, Tryz.ntmps36
  go_upto_region 2 with (at_builtin; refine wpList_append_run _ rfl _ _ 53 53 rfl _ _ rfl rfl _ _ R1 ?_)
  rw [← hW3]
  clear hW3 R1 p6 fz6
  go_upto_region 3 with (at_builtin; refine wpList_append_run _ rfl _ _ 61 61 rfl _ _ rfl rfl _ _ R2 ?_)
  rw [← hW5]
  clear hW5 R2 p7 fz7 t7 u7
  go_upto_region 4 with (at_builtin; refine wpList_append_run _ rfl _ _ 32 32 rfl _ _ rfl rfl _ _ R3 ?_)
  rw [← hW7]
  clear hW7 R3 p9 fz9 t9 u9
  go_wp2_with fail
  clear q0 y0 fy0 q1 y1 fy1 q2 y2 fy2 q3 y3 fy3 q4 y4 fy4 q5 y5 fy5 q6 y6 fy6 q7 y7 fy7 q8 y8 fy8 q9 y9 fy9 q10 y10 fy10 q11 y11 fy11 q12 y12 fy12 q13 y13 fy13 q14 y14 fy14 q15 y15 fy15
  have hn : ((((((((((((((((W7.setCell ⟨w.heap.size + 1, 0, none⟩ (.int .u8 (n.kind : Int))).setCell ⟨w.heap.size + 1, 1, none⟩ (.string n.space)).setCell ⟨w.heap.size + 1, 2, none⟩ (.string n.pre)).setCell ⟨w.heap.size + 1, 3, none⟩ (.string n.loc)).setCell ⟨w.heap.size + 1, 4, none⟩ (.string n.pub)).setCell ⟨w.heap.size + 1, 5, none⟩ (.string n.sys)).setCell ⟨w.heap.size + 1, 6, none⟩ (.slice vo1 n.data.length vc1)).setCell ⟨w.heap.size + 1, 7, none⟩ (.slice vo2 n.attrs.length vc2)).setCell ⟨w.heap.size + 1, 8, none⟩ (.int .i64 n.parent)).setCell ⟨w.heap.size + 1, 9, none⟩ (.slice vo3 n.kids.length vc3)).setCell ⟨w.heap.size + 1, 10, none⟩ (.int .i64 n.doc)).setCell ⟨w.heap.size + 1, 11, none⟩ (.int .i64 n.host)).setCell ⟨w.heap.size + 1, 12, none⟩ (.int .i64 n.shadow)).setCell ⟨w.heap.size + 1, 13, none⟩ (.int .u8 (n.mode : Int))).setCell ⟨w.heap.size + 1, 14, none⟩ (.bool n.manual)).setCell ⟨w.heap.size + 1, 15, none⟩ (.bool n.html)).heap[w.heap.size + 1]? = some (.cells #[.int .u8 (n.kind : Int), .string n.space, .string n.pre, .string n.loc, .string n.pub, .string n.sys, .slice vo1 n.data.length vc1, .slice vo2 n.attrs.length vc2, .int .i64 n.parent, .slice vo3 n.kids.length vc3, .int .i64 n.doc, .int .i64 n.host, .int .i64 n.shadow, .int .u8 (n.mode : Int), .bool n.manual, .bool n.html] 64) := by simp [World.setCell, Array.getElem?_modify, HZ7.out]
  obtain ⟨j0, j1, j2, j3, j4, j5, j6, j7, j8, j9, j10, j11, j12, j13, j14, j15⟩ := box16s hn
  exact bodyPost_ret (v := .agg #[.int .u8 (n.kind : Int), .string n.space, .string n.pre, .string n.loc, .string n.pub, .string n.sys, .slice vo1 n.data.length vc1, .slice vo2 n.attrs.length vc2, .int .i64 n.parent, .slice vo3 n.kids.length vc3, .int .i64 n.doc, .int .i64 n.host, .int .i64 n.shadow, .int .u8 (n.mode : Int), .bool n.manual, .bool n.html]) (by simp [results, Tryz.results36, go_sem, j0, j1, j2, j3, j4, j5, j6, j7, j8, j9, j10, j11, j12, j13, j14, j15]) rfl ⟨⟨.slice vo1 n.data.length vc1, .slice vo2 n.attrs.length vc2, .slice vo3 n.kids.length vc3⟩, rfl, ⟨own_baseC X1.out (ownsRow_setCell_below (ownsRow_setCell_below (ownsRow_setCell_below (ownsRow_setCell_below (ownsRow_setCell_below (ownsRow_setCell_below (ownsRow_setCell_below (ownsRow_setCell_below (ownsRow_setCell_below (ownsRow_setCell_below (ownsRow_setCell_below (ownsRow_setCell_below (ownsRow_setCell_below (ownsRow_setCell_below (ownsRow_setCell_below (ownsRow_setCell_below HO1.out (a := ⟨w.heap.size + 1, 0, none⟩) L1.out (.int .u8 (n.kind : Int))) (a := ⟨w.heap.size + 1, 1, none⟩) L1.out (.string n.space)) (a := ⟨w.heap.size + 1, 2, none⟩) L1.out (.string n.pre)) (a := ⟨w.heap.size + 1, 3, none⟩) L1.out (.string n.loc)) (a := ⟨w.heap.size + 1, 4, none⟩) L1.out (.string n.pub)) (a := ⟨w.heap.size + 1, 5, none⟩) L1.out (.string n.sys)) (a := ⟨w.heap.size + 1, 6, none⟩) L1.out (.slice vo1 n.data.length vc1)) (a := ⟨w.heap.size + 1, 7, none⟩) L1.out (.slice vo2 n.attrs.length vc2)) (a := ⟨w.heap.size + 1, 8, none⟩) L1.out (.int .i64 n.parent)) (a := ⟨w.heap.size + 1, 9, none⟩) L1.out (.slice vo3 n.kids.length vc3)) (a := ⟨w.heap.size + 1, 10, none⟩) L1.out (.int .i64 n.doc)) (a := ⟨w.heap.size + 1, 11, none⟩) L1.out (.int .i64 n.host)) (a := ⟨w.heap.size + 1, 12, none⟩) L1.out (.int .i64 n.shadow)) (a := ⟨w.heap.size + 1, 13, none⟩) L1.out (.int .u8 (n.mode : Int))) (a := ⟨w.heap.size + 1, 14, none⟩) L1.out (.bool n.manual)) (a := ⟨w.heap.size + 1, 15, none⟩) L1.out (.bool n.html)), own_baseC X3.out (ownsRow_setCell_below (ownsRow_setCell_below (ownsRow_setCell_below (ownsRow_setCell_below (ownsRow_setCell_below (ownsRow_setCell_below (ownsRow_setCell_below (ownsRow_setCell_below (ownsRow_setCell_below (ownsRow_setCell_below (ownsRow_setCell_below (ownsRow_setCell_below (ownsRow_setCell_below (ownsRow_setCell_below (ownsRow_setCell_below (ownsRow_setCell_below HO2.out (a := ⟨w.heap.size + 1, 0, none⟩) L3.out (.int .u8 (n.kind : Int))) (a := ⟨w.heap.size + 1, 1, none⟩) L3.out (.string n.space)) (a := ⟨w.heap.size + 1, 2, none⟩) L3.out (.string n.pre)) (a := ⟨w.heap.size + 1, 3, none⟩) L3.out (.string n.loc)) (a := ⟨w.heap.size + 1, 4, none⟩) L3.out (.string n.pub)) (a := ⟨w.heap.size + 1, 5, none⟩) L3.out (.string n.sys)) (a := ⟨w.heap.size + 1, 6, none⟩) L3.out (.slice vo1 n.data.length vc1)) (a := ⟨w.heap.size + 1, 7, none⟩) L3.out (.slice vo2 n.attrs.length vc2)) (a := ⟨w.heap.size + 1, 8, none⟩) L3.out (.int .i64 n.parent)) (a := ⟨w.heap.size + 1, 9, none⟩) L3.out (.slice vo3 n.kids.length vc3)) (a := ⟨w.heap.size + 1, 10, none⟩) L3.out (.int .i64 n.doc)) (a := ⟨w.heap.size + 1, 11, none⟩) L3.out (.int .i64 n.host)) (a := ⟨w.heap.size + 1, 12, none⟩) L3.out (.int .i64 n.shadow)) (a := ⟨w.heap.size + 1, 13, none⟩) L3.out (.int .u8 (n.mode : Int))) (a := ⟨w.heap.size + 1, 14, none⟩) L3.out (.bool n.manual)) (a := ⟨w.heap.size + 1, 15, none⟩) L3.out (.bool n.html)), own_baseC X5.out (ownsRow_setCell_below (ownsRow_setCell_below (ownsRow_setCell_below (ownsRow_setCell_below (ownsRow_setCell_below (ownsRow_setCell_below (ownsRow_setCell_below (ownsRow_setCell_below (ownsRow_setCell_below (ownsRow_setCell_below (ownsRow_setCell_below (ownsRow_setCell_below (ownsRow_setCell_below (ownsRow_setCell_below (ownsRow_setCell_below (ownsRow_setCell_below HO3.out (a := ⟨w.heap.size + 1, 0, none⟩) L5.out (.int .u8 (n.kind : Int))) (a := ⟨w.heap.size + 1, 1, none⟩) L5.out (.string n.space)) (a := ⟨w.heap.size + 1, 2, none⟩) L5.out (.string n.pre)) (a := ⟨w.heap.size + 1, 3, none⟩) L5.out (.string n.loc)) (a := ⟨w.heap.size + 1, 4, none⟩) L5.out (.string n.pub)) (a := ⟨w.heap.size + 1, 5, none⟩) L5.out (.string n.sys)) (a := ⟨w.heap.size + 1, 6, none⟩) L5.out (.slice vo1 n.data.length vc1)) (a := ⟨w.heap.size + 1, 7, none⟩) L5.out (.slice vo2 n.attrs.length vc2)) (a := ⟨w.heap.size + 1, 8, none⟩) L5.out (.int .i64 n.parent)) (a := ⟨w.heap.size + 1, 9, none⟩) L5.out (.slice vo3 n.kids.length vc3)) (a := ⟨w.heap.size + 1, 10, none⟩) L5.out (.int .i64 n.doc)) (a := ⟨w.heap.size + 1, 11, none⟩) L5.out (.int .i64 n.host)) (a := ⟨w.heap.size + 1, 12, none⟩) L5.out (.int .i64 n.shadow)) (a := ⟨w.heap.size + 1, 13, none⟩) L5.out (.int .u8 (n.mode : Int))) (a := ⟨w.heap.size + 1, 14, none⟩) L5.out (.bool n.manual)) (a := ⟨w.heap.size + 1, 15, none⟩) L5.out (.bool n.html))⟩, (Below.setCell (Below.setCell (Below.setCell (Below.setCell (Below.setCell (Below.setCell (Below.setCell (Below.setCell (Below.setCell (Below.setCell (Below.setCell (Below.setCell (Below.setCell (Below.setCell (Below.setCell (Below.setCell HB7.out (p := ⟨w.heap.size + 1, 0, none⟩) (Nat.le_succ _) (.int .u8 (n.kind : Int))) (p := ⟨w.heap.size + 1, 1, none⟩) (Nat.le_succ _) (.string n.space)) (p := ⟨w.heap.size + 1, 2, none⟩) (Nat.le_succ _) (.string n.pre)) (p := ⟨w.heap.size + 1, 3, none⟩) (Nat.le_succ _) (.string n.loc)) (p := ⟨w.heap.size + 1, 4, none⟩) (Nat.le_succ _) (.string n.pub)) (p := ⟨w.heap.size + 1, 5, none⟩) (Nat.le_succ _) (.string n.sys)) (p := ⟨w.heap.size + 1, 6, none⟩) (Nat.le_succ _) (.slice vo1 n.data.length vc1)) (p := ⟨w.heap.size + 1, 7, none⟩) (Nat.le_succ _) (.slice vo2 n.attrs.length vc2)) (p := ⟨w.heap.size + 1, 8, none⟩) (Nat.le_succ _) (.int .i64 n.parent)) (p := ⟨w.heap.size + 1, 9, none⟩) (Nat.le_succ _) (.slice vo3 n.kids.length vc3)) (p := ⟨w.heap.size + 1, 10, none⟩) (Nat.le_succ _) (.int .i64 n.doc)) (p := ⟨w.heap.size + 1, 11, none⟩) (Nat.le_succ _) (.int .i64 n.host)) (p := ⟨w.heap.size + 1, 12, none⟩) (Nat.le_succ _) (.int .i64 n.shadow)) (p := ⟨w.heap.size + 1, 13, none⟩) (Nat.le_succ _) (.int .u8 (n.mode : Int))) (p := ⟨w.heap.size + 1, 14, none⟩) (Nat.le_succ _) (.bool n.manual)) (p := ⟨w.heap.size + 1, 15, none⟩) (Nat.le_succ _) (.bool n.html))⟩
end Go.Proofs.YtilacgcjbdkphaaGreat

namespace Go.Proofs.YtilacgcjbdkphaaGreat
open Go.RowKit Go.Lib Go.Shelf

def nodeCs (n : NodeD) (L : Lists) : List Value := [.int .u8 (n.kind : Int), .string n.space, .string n.pre, .string n.loc, .string n.pub, .string n.sys, L.data, L.attrs, .int .i64 n.parent, L.kids, .int .i64 n.doc, .int .i64 n.host, .int .i64 n.shadow, .int .u8 (n.mode : Int), .bool n.manual, .bool n.html]
def nodesC (l : List (NodeD × Lists)) : List Value := l.flatMap fun p => nodeCs p.1 p.2
theorem nodesC_get : ∀ (l : List (NodeD × Lists)) (j i : Nat) (hj : j < l.length) (_hi : i < 16), (nodesC l)[j * 16 + i]? = (nodeCs l[j].1 l[j].2)[i]?
  | [], _, _, hj, _ => by cases hj
  | r :: t, 0, i, _, hi => by
    unfold nodesC
    rw [List.flatMap_cons, List.getElem?_append_left (by show 0 * 16 + i < 16; omega), Nat.zero_mul, Nat.zero_add]
    rfl
  | r :: t, j + 1, i, hj, hi => by
    have h := nodesC_get t j i (by simpa using hj) hi
    unfold nodesC at h ⊢
    rw [List.flatMap_cons, List.getElem?_append_right (by show 16 ≤ _; omega)]
    rw [show (j + 1) * 16 + i - (nodeCs r.1 r.2).length = j * 16 + i by show (j + 1) * 16 + i - 16 = _; omega, h]
    rfl
theorem nodesC_snoc (l : List (NodeD × Lists)) (n : NodeD) (L : Lists) : nodesC l ++ nodeCs n L = nodesC (l ++ [(n, L)]) := by
  unfold nodesC
  rw [List.flatMap_append]
  simp
theorem info_nodeC : (Tryz.prog.info? 64).map (fun i => (i.zero, i.size, i.bytes)) = some (some (.agg #[.int .u8 0, .string ⟨#[]⟩, .string ⟨#[]⟩, .string ⟨#[]⟩, .string ⟨#[]⟩, .string ⟨#[]⟩, .slice none 0 0, .slice none 0 0, .int .i64 0, .slice none 0 0, .int .i64 0, .int .i64 0, .int .i64 0, .int .u8 0, .bool false, .bool false]), 16, 200) := by kernel_rfl
theorem OwnL.later {W V : World} {base : Nat} {n : NodeD} {L : Lists} (h : OwnL W base n L) (hb : Below W.heap.size W V) : OwnL V base n L := ⟨ownsRow_later h.data hb, ownsRow_later h.attrs hb, ownsRow_later h.kids hb⟩
theorem own_apart {W : World} {b1 b2 s1 s2 n1 n2 : Nat} {e1 e2 : TypeId} {o v : Value} {xs ys : List Value} (ho : W.ownsRow b1 e1 s1 o n1 xs) (hv : W.ownsRow b2 e2 s2 v n2 ys) (hne : e1 ≠ e2) : ∀ g, o.ownBlock = some g → ∀ k, v.ownBlock = some k → k ≠ g := by
  intro g hg k hk e
  rcases ho.2 with ⟨rfl, _⟩ | ⟨g1, c1, cur1, rfl, _, h1, _⟩
  · cases hg
  · rcases hv.2 with ⟨rfl, _⟩ | ⟨g2, c2, cur2, rfl, _, h2, _⟩
    · cases hk
    · have e1' : g1 = g := Option.some.inj hg
      have e2' : g2 = k := Option.some.inj hk
      rw [e1', ← e, ← e2', h2] at h1
      have := Option.some.inj h1
      injection this with _ ht
      exact hne ht.symm
theorem own_grow2 {W w1 : World} {base size n : Nat} {e : TypeId} {v o : Value} {xs : List Value} (h : W.ownsRow base e size v n xs) (hg : W.grownBy w1 o.ownBlock) (hne : ∀ g, o.ownBlock = some g → ∀ k, v.ownBlock = some k → k ≠ g) : w1.ownsRow base e size v n xs := by
  obtain ⟨h1, h2⟩ := h
  refine ⟨h1, ?_⟩
  rcases h2 with h2 | ⟨k, cap, cur, hv, hg', hh, r⟩
  · exact .inl h2
  · refine .inr ⟨k, cap, cur, hv, hg', ?_, r⟩
    have hk : v.ownBlock = some k := by rw [hv]; rfl
    exact (hg.block k (Array.getElem?_eq_some_iff.1 hh).1 (by intro e; exact hne k e.symm k hk rfl)).trans hh
theorem heap_grow2 {W w1 : World} {o : Value} {k : Nat} {x : Obj} (h : W.heap[k]? = some x) (hg : W.grownBy w1 o.ownBlock) (hne : ∀ g, o.ownBlock = some g → k ≠ g) : w1.heap[k]? = some x :=
  (hg.block k (Array.getElem?_eq_some_iff.1 h).1 (by intro e; exact hne k e.symm rfl)).trans h
/-- Lists of one's own stay where nodes are put behind others. -/
theorem OwnL.grown {W w1 : World} {b1 n1 base : Nat} {o : Value} {xs : List Value} {n : NodeD} {L : Lists} (h : OwnL W base n L) (ho : W.ownsRow b1 64 16 o n1 xs) (hg : W.grownBy w1 o.ownBlock) : OwnL w1 base n L :=
  ⟨own_grow2 h.data hg (own_apart ho h.data (by decide)), own_grow2 h.attrs hg (own_apart ho h.attrs (by decide)), own_grow2 h.kids hg (own_apart ho h.kids (by decide))⟩
theorem OwnL.set {W : World} {base B : Nat} {n : NodeD} {L : Lists} (h : OwnL W base n L) (hB : B < base) (x : Value) : OwnL (W.setCell ⟨B, 0, none⟩ x) base n L :=
  ⟨ownsRow_setCell_below h.data (a := ⟨B, 0, none⟩) hB x, ownsRow_setCell_below h.attrs (a := ⟨B, 0, none⟩) hB x, ownsRow_setCell_below h.kids (a := ⟨B, 0, none⟩) hB x⟩
theorem OwnL.base {W : World} {base base' : Nat} {n : NodeD} {L : Lists} (hb : base' ≤ base) (h : OwnL W base n L) : OwnL W base' n L := ⟨own_baseC hb h.data, own_baseC hb h.attrs, own_baseC hb h.kids⟩
theorem own_ints {W : World} {base : Nat} {v : Value} {l : List Int} (h : W.ownsRow base 3 1 v l.length (l.map (Value.int .i64))) : RdI W v l := ownsRow_rdI h
/-- Rows of nodes, each with lists of one's own, are a forest. -/
theorem rows_forest {W : World} {base : Nat} {v : Value} {ps : List (NodeD × Lists)} (h : W.ownsRow base 64 16 v ps.length (nodesC ps)) (hL : ∀ p ∈ ps, OwnL W base p.1 p.2) (hs : ps.length ≤ 1099511627776) : ∃ o c, v = .slice o ps.length c ∧ FRd W o c (ps.map (·.1)) := by
  obtain ⟨hl, h⟩ := h
  rcases h with ⟨rfl, h0⟩ | ⟨g, cap, cur, rfl, hb, hh, hn, hm, hsz, ht⟩
  · refine ⟨none, 0, by rw [h0], by simpa using hs, fun hp => ?_⟩
    rw [List.length_map] at hp
    omega
  · refine ⟨some ⟨g, 0, none⟩, cap, rfl, by simpa using hs, fun _ => ⟨g, 0, rfl, (Array.getElem?_eq_some_iff.1 hh).1, by simpa using hn, by simpa using hs, fun i hi => ?_⟩⟩
    rw [List.length_map] at hi
    have hc : ∀ j, j < 16 → W.cell? ⟨g, i * 16 + j, none⟩ = (nodeCs ps[i].1 ps[i].2)[j]? := fun j hj => by
      rw [← nodesC_get ps i j hi hj, ← ht, List.getElem?_take, if_pos (by omega), Array.getElem?_toList]
      unfold World.cell?
      simp only [hh]
      exact if_neg (by decide)
    have hO := hL ps[i] (List.getElem_mem hi)
    rw [Nat.zero_add, List.getElem_map]
    exact ⟨ps[i].2, ⟨(hc 0 (by omega)).trans rfl, (hc 1 (by omega)).trans rfl, (hc 2 (by omega)).trans rfl, (hc 3 (by omega)).trans rfl, (hc 4 (by omega)).trans rfl, (hc 5 (by omega)).trans rfl, (hc 6 (by omega)).trans rfl, (hc 7 (by omega)).trans rfl, (hc 8 (by omega)).trans rfl, (hc 9 (by omega)).trans rfl, (hc 10 (by omega)).trans rfl, (hc 11 (by omega)).trans rfl, (hc 12 (by omega)).trans rfl, (hc 13 (by omega)).trans rfl, (hc 14 (by omega)).trans rfl, (hc 15 (by omega)).trans rfl⟩, own_units hO.data, own_attrs hO.attrs, own_ints hO.kids⟩
theorem node_news (v1 : World) (n : NodeD) (L : Lists) : ∀ (j : Nat) (u : Value), (nodeCs n L)[j]? = some u → (v1.alloc (.cells (nodeCs n L).toArray 64)).cell? ((⟨v1.heap.size, 0, none⟩ : Addr).add j) = some u := fun j u hj => by
  have e : (⟨v1.heap.size, 0, none⟩ : Addr).add j = ⟨v1.heap.size, j, none⟩ := by
    simp [Addr.add]
    intro h
    exact h.symm
  rw [e]
  unfold World.cell?
  simp only [heap_new v1 (.cells (nodeCs n L).toArray 64)]
  rw [if_neg (by decide)]
  simpa using hj
theorem node_one (n : NodeD) (L : Lists) (h : L.data.oneCell' = true ∧ L.attrs.oneCell' = true ∧ L.kids.oneCell' = true) : ∀ u ∈ nodeCs n L, u.oneCell' = true := fun u hu => by
  simp only [nodeCs, List.mem_cons, List.not_mem_nil, or_false] at hu
  rcases hu with rfl | rfl | rfl | rfl | rfl | rfl | rfl | rfl | rfl | rfl | rfl | rfl | rfl | rfl | rfl | rfl <;> first | rfl | exact h.1 | exact h.2.1 | exact h.2.2

set_option linter.unusedSimpArgs false in
set_option maxRecDepth 100000 in
set_option maxHeartbeats 8000000 in
theorem copy_any (o : Option Addr) (cap : Nat) (ns : List NodeD) (w : World) (hF : FRd w o cap ns) (hn : ns.length ≤ 1048576) (hdl : ∀ (i : Nat) (hi : i < ns.length), ns[i].data.length ≤ 1048576) (hkl : ∀ (i : Nat) (hi : i < ns.length), ns[i].kids.length ≤ 1048576) (hal : ∀ (i : Nat) (hi : i < ns.length), ns[i].attrs.length ≤ 1048576) :
    Calls Tryz.prog 7 #[.agg #[.slice o ns.length cap]] w fun e w' => ∃ o' c', e = .returned (.agg #[.slice o' ns.length c']) ∧ FRd w' o' c' ns ∧ Below w.heap.size w w' := by
  obtain ⟨i0, hi, hz0, hz1, hz2⟩ := info_parts info_nodeC
  have HC : Hid (∀ (i : Nat) (hi : i < ns.length) (L : Lists) (V : World), RdN w L.data ns[i].data → RdA w L.attrs ns[i].attrs → RdI w L.kids ns[i].kids → Below w.heap.size w V → _) := fun i hi L V h1 h2 h3 hV => copyNode_any ns[i] L V (h1.later hV) (h2.later hV) (h3.later hV) (hdl i hi) (hal i hi) (hkl i hi)
  have HF := hid hF
  have HB0 : Hid (Below (w.heap.size + 1) (w.alloc (.cells #[.slice o ns.length cap] 24)) (((w.alloc (.cells #[.slice o ns.length cap] 24)).alloc (.cells #[.slice none 0 0] 24)).alloc (.cells #[.slice none 0 0] 24))) := ((Below.refl _ _).alloc (by simp) _).alloc (by simp only [World.size_alloc]; omega) _
  have HR0 : Hid ((((w.alloc (.cells #[.slice o ns.length cap] 24)).alloc (.cells #[.slice none 0 0] 24)).alloc (.cells #[.slice none 0 0] 24)).heap[w.heap.size + 1]? = some (.cells #[.slice none 0 0] 24)) := by
    show _ = _
    rw [Below.heap_alloc _ _ _ (by simp only [World.size_alloc]; omega)]
    have := heap_new (w.alloc (.cells #[.slice o ns.length cap] 24)) (.cells #[.slice none 0 0] 24)
    simp only [World.size_alloc] at this
    exact this
  have HG0 : Hid ((((w.alloc (.cells #[.slice o ns.length cap] 24)).alloc (.cells #[.slice none 0 0] 24)).alloc (.cells #[.slice none 0 0] 24)).heap[w.heap.size + 1 + 1]? = some (.cells #[.slice none 0 0] 24)) := by
    show _ = _
    have := heap_new ((w.alloc (.cells #[.slice o ns.length cap] 24)).alloc (.cells #[.slice none 0 0] 24)) (.cells #[.slice none 0 0] 24)
    simp only [World.size_alloc] at this
    exact this
  clear hF hdl hkl hal
  go_enter Tryz.func7, Tryz.ntmps7
  go_wp2
  go_loopw [10] (fun t wr => ∃ (go_ : Option Addr) (gc : Nat) (ps : List (NodeD × Lists)), ps.length ≤ ns.length ∧ t = .int .i64 ps.length ∧ Hid (ps.map (·.1) = ns.take ps.length) ∧ Hid (Below (w.heap.size + 1) (w.alloc (.cells #[.slice o ns.length cap] 24)) wr) ∧ Hid (wr.heap[w.heap.size + 1]? = some (.cells #[.slice none 0 0] 24)) ∧ Hid (wr.heap[w.heap.size + 1 + 1]? = some (.cells #[.slice go_ ps.length gc] 24)) ∧ Hid (wr.ownsRow (w.heap.size + 3) 64 16 (.slice go_ ps.length gc) ps.length (nodesC ps)) ∧ Hid (∀ p ∈ ps, OwnL wr (w.heap.size + 3) p.1 p.2)) (fun t _ => ns.length - (RowKit.intOf t).toNat)
  case atStart => exact ⟨none, 0, [], Nat.zero_le _, rfl, rfl, HB0, HR0, HG0, World.ownsRow_nil _ _ _ _, fun p hp => absurd hp (by simp)⟩
  case round =>
    obtain ⟨go_, gc, ps, hk, rfl, HM, HB, HR, HG, HOw, HLs⟩ := hrel
    clear HB0 HR0 HG0
    have hBw : Below w.heap.size w wr := ((Below.refl _ w).alloc (Nat.le_refl _) _).trans (HB.out.mono (by omega))
    have q0 : wr.cell? ⟨w.heap.size, 0, none⟩ = some (.slice o ns.length cap) := (HB.out.cell (p := ⟨w.heap.size, 0, none⟩) (by show w.heap.size < w.heap.size + 1; omega)).trans (by simp)
    have hgz := (Array.getElem?_eq_some_iff.1 HG.out).1
    by_cases hlt : ps.length < ns.length
    · obtain ⟨b, off, rfl, hFA⟩ := HF.out.at_ (by omega)
      obtain ⟨L, hc, u1, u2, u3⟩ := hFA.at_ ps.length hlt
      have hC := HC.out ps.length hlt L (wr.alloc (.cells (nodeCs ns[ps.length] L).toArray 64)).drew u1 u2 u3 (hBw.alloc hBw.size _).drew
      have hc2 := hc.later hFA.lt hBw
      obtain ⟨c0, c1, c2, c3, c4, c5, c6, c7, c8, c9, c10, c11, c12, c13, c14, c15⟩ := hc2
      obtain ⟨D, A, K⟩ := L
      obtain ⟨od, cd, e1, _⟩ := u1
      obtain ⟨oa, ca, e2, _⟩ := u2
      obtain ⟨ok, ck, e3, _⟩ := u3
      simp only at e1 e2 e3
      subst e1 e2 e3
      have HTk : Hid (ns.take (ps.length + 1) = ps.map (·.1) ++ [ns[ps.length]]) := by
        show _ = _
        rw [List.take_succ_eq_append_getElem hlt, HM.out]
      have x1 : (0 : Int) ≤ (ps.length : Int) := by omega
      have x2 : (ps.length : Int) < (ns.length : Int) := by omega
      unfold nodeV nodeCs at hC
      simp only at hC
      have HBw := hid hBw
      clear hc HF HC hFA hBw
      generalize ns[ps.length] = n at *
      have HKN : Hid ((wr.alloc (.cells #[.int .u8 (n.kind : Int), .string n.space, .string n.pre, .string n.loc, .string n.pub, .string n.sys, .slice od n.data.length cd, .slice oa n.attrs.length ca, .int .i64 n.parent, .slice ok n.kids.length ck, .int .i64 n.doc, .int .i64 n.host, .int .i64 n.shadow, .int .u8 (n.mode : Int), .bool n.manual, .bool n.html] 64)).drew.heap[wr.heap.size]? = some (.cells #[.int .u8 (n.kind : Int), .string n.space, .string n.pre, .string n.loc, .string n.pub, .string n.sys, .slice od n.data.length cd, .slice oa n.attrs.length ca, .int .i64 n.parent, .slice ok n.kids.length ck, .int .i64 n.doc, .int .i64 n.host, .int .i64 n.shadow, .int .u8 (n.mode : Int), .bool n.manual, .bool n.html] 64)) := heap_new wr _
      have HGB0 : Hid ((wr.alloc (.cells #[.int .u8 (n.kind : Int), .string n.space, .string n.pre, .string n.loc, .string n.pub, .string n.sys, .slice od n.data.length cd, .slice oa n.attrs.length ca, .int .i64 n.parent, .slice ok n.kids.length ck, .int .i64 n.doc, .int .i64 n.host, .int .i64 n.shadow, .int .u8 (n.mode : Int), .bool n.manual, .bool n.html] 64)).drew.heap[w.heap.size + 1 + 1]? = some (.cells #[.slice go_ ps.length gc] 24)) := (Below.heap_alloc wr _ _ hgz).trans HG.out
      have HRB0 : Hid ((wr.alloc (.cells #[.int .u8 (n.kind : Int), .string n.space, .string n.pre, .string n.loc, .string n.pub, .string n.sys, .slice od n.data.length cd, .slice oa n.attrs.length ca, .int .i64 n.parent, .slice ok n.kids.length ck, .int .i64 n.doc, .int .i64 n.host, .int .i64 n.shadow, .int .u8 (n.mode : Int), .bool n.manual, .bool n.html] 64)).drew.heap[w.heap.size + 1]? = some (.cells #[.slice none 0 0] 24)) := (Below.heap_alloc wr _ _ (Array.getElem?_eq_some_iff.1 HR.out).1).trans HR.out
      have HOwD : Hid ((wr.alloc (.cells #[.int .u8 (n.kind : Int), .string n.space, .string n.pre, .string n.loc, .string n.pub, .string n.sys, .slice od n.data.length cd, .slice oa n.attrs.length ca, .int .i64 n.parent, .slice ok n.kids.length ck, .int .i64 n.doc, .int .i64 n.host, .int .i64 n.shadow, .int .u8 (n.mode : Int), .bool n.manual, .bool n.html] 64)).drew.ownsRow (w.heap.size + 3) 64 16 (.slice go_ ps.length gc) ps.length (nodesC ps)) := (HOw.out.alloc _).drew
      have HBD := hid ((HB.out.alloc (show w.heap.size + 1 ≤ wr.heap.size by omega) (.cells #[.int .u8 (n.kind : Int), .string n.space, .string n.pre, .string n.loc, .string n.pub, .string n.sys, .slice od n.data.length cd, .slice oa n.attrs.length ca, .int .i64 n.parent, .slice ok n.kids.length ck, .int .i64 n.doc, .int .i64 n.host, .int .i64 n.shadow, .int .u8 (n.mode : Int), .bool n.manual, .bool n.html] 64)).drew)
      have HBK : Hid (Below wr.heap.size wr (wr.alloc (.cells #[.int .u8 (n.kind : Int), .string n.space, .string n.pre, .string n.loc, .string n.pub, .string n.sys, .slice od n.data.length cd, .slice oa n.attrs.length ca, .int .i64 n.parent, .slice ok n.kids.length ck, .int .i64 n.doc, .int .i64 n.host, .int .i64 n.shadow, .int .u8 (n.mode : Int), .bool n.manual, .bool n.html] 64)).drew) := ((Below.refl _ _).alloc (Nat.le_refl _) _).drew
      have hglt : w.heap.size + 1 + 1 < (wr.alloc (.cells #[.int .u8 (n.kind : Int), .string n.space, .string n.pre, .string n.loc, .string n.pub, .string n.sys, .slice od n.data.length cd, .slice oa n.attrs.length ca, .int .i64 n.parent, .slice ok n.kids.length ck, .int .i64 n.doc, .int .i64 n.host, .int .i64 n.shadow, .int .u8 (n.mode : Int), .bool n.manual, .bool n.html] 64)).drew.heap.size := by
        show _ < (wr.alloc (.cells #[.int .u8 (n.kind : Int), .string n.space, .string n.pre, .string n.loc, .string n.pub, .string n.sys, .slice od n.data.length cd, .slice oa n.attrs.length ca, .int .i64 n.parent, .slice ok n.kids.length ck, .int .i64 n.doc, .int .i64 n.host, .int .i64 n.shadow, .int .u8 (n.mode : Int), .bool n.manual, .bool n.html] 64)).heap.size
        rw [World.size_alloc]
        omega
      have hwlt : wr.heap.size < (wr.alloc (.cells #[.int .u8 (n.kind : Int), .string n.space, .string n.pre, .string n.loc, .string n.pub, .string n.sys, .slice od n.data.length cd, .slice oa n.attrs.length ca, .int .i64 n.parent, .slice ok n.kids.length ck, .int .i64 n.doc, .int .i64 n.host, .int .i64 n.shadow, .int .u8 (n.mode : Int), .bool n.manual, .bool n.html] 64)).drew.heap.size := by
        show _ < (wr.alloc (.cells #[.int .u8 (n.kind : Int), .string n.space, .string n.pre, .string n.loc, .string n.pub, .string n.sys, .slice od n.data.length cd, .slice oa n.attrs.length ca, .int .i64 n.parent, .slice ok n.kids.length ck, .int .i64 n.doc, .int .i64 n.host, .int .i64 n.shadow, .int .u8 (n.mode : Int), .bool n.manual, .bool n.html] 64)).heap.size
        rw [World.size_alloc]
        omega
      have hbs : w.heap.size + 3 ≤ (wr.alloc (.cells #[.int .u8 (n.kind : Int), .string n.space, .string n.pre, .string n.loc, .string n.pub, .string n.sys, .slice od n.data.length cd, .slice oa n.attrs.length ca, .int .i64 n.parent, .slice ok n.kids.length ck, .int .i64 n.doc, .int .i64 n.host, .int .i64 n.shadow, .int .u8 (n.mode : Int), .bool n.manual, .bool n.html] 64)).drew.heap.size := hglt
      have hbf : w.heap.size + 1 ≤ (wr.alloc (.cells #[.int .u8 (n.kind : Int), .string n.space, .string n.pre, .string n.loc, .string n.pub, .string n.sys, .slice od n.data.length cd, .slice oa n.attrs.length ca, .int .i64 n.parent, .slice ok n.kids.length ck, .int .i64 n.doc, .int .i64 n.host, .int .i64 n.shadow, .int .u8 (n.mode : Int), .bool n.manual, .bool n.html] 64)).drew.heap.size := by omega
      have m1 : ps.length + 1 ≤ maxLen := Nat.le_trans (show ps.length + 1 ≤ 1048576 by omega) (by decide)
      have m2 : (ps.length + 1) * 200 ≤ 140737488355328 := by omega
      go_upto_region 5 with fail
      refine wp_region_held_drew (S := (fun V => V.heap[wr.heap.size]? = some (.cells #[.int .u8 (n.kind : Int), .string n.space, .string n.pre, .string n.loc, .string n.pub, .string n.sys, .slice od n.data.length cd, .slice oa n.attrs.length ca, .int .i64 n.parent, .slice ok n.kids.length ck, .int .i64 n.doc, .int .i64 n.host, .int .i64 n.shadow, .int .u8 (n.mode : Int), .bool n.manual, .bool n.html] 64))) (by kernel_rfl) (HKN.out) (fun hHeld => ?_)
      refine oneH 0 14 (.pointer (some ⟨w.heap.size + 1 + 1, 0, none⟩)) hHeld ?_ ?_
      · intro V _; go_simp
      simp only [Act.put, sA, s0, sS]
      refine oneH 2 16 (.agg #[.int .u8 (n.kind : Int), .string n.space, .string n.pre, .string n.loc, .string n.pub, .string n.sys, .slice od n.data.length cd, .slice oa n.attrs.length ca, .int .i64 n.parent, .slice ok n.kids.length ck, .int .i64 n.doc, .int .i64 n.host, .int .i64 n.shadow, .int .u8 (n.mode : Int), .bool n.manual, .bool n.html]) hHeld ?_ ?_
      · intro V hSw; (try dsimp only at hSw); obtain ⟨p0, p1, p2, p3, p4, p5, p6, p7, p8, p9, p10, p11, p12, p13, p14, p15⟩ := box16s hSw; go_simp
      simp only [Act.put, sA, s0, sS]
      refine wpAnyH_ready (rs := [1, 3]) (by kernel_rfl) (by simp) ?_
      refine AllReadyH.cons rfl (fun K hK => ?_) (AllReadyH.cons rfl (fun K hK => ?_) AllReadyH.nil)
      · have gq : (wr.alloc (.cells #[.int .u8 (n.kind : Int), .string n.space, .string n.pre, .string n.loc, .string n.pub, .string n.sys, .slice od n.data.length cd, .slice oa n.attrs.length ca, .int .i64 n.parent, .slice ok n.kids.length ck, .int .i64 n.doc, .int .i64 n.host, .int .i64 n.shadow, .int .u8 (n.mode : Int), .bool n.manual, .bool n.html] 64)).cell? ⟨w.heap.size + 1 + 1, 0, none⟩ = some (.slice go_ ps.length gc) := (box_cell_l (W := (wr.alloc (.cells #[.int .u8 (n.kind : Int), .string n.space, .string n.pre, .string n.loc, .string n.pub, .string n.sys, .slice od n.data.length cd, .slice oa n.attrs.length ca, .int .i64 n.parent, .slice ok n.kids.length ck, .int .i64 n.doc, .int .i64 n.host, .int .i64 n.shadow, .int .u8 (n.mode : Int), .bool n.manual, .bool n.html] 64))) HGB0.out).1
        go_simp
        refine hK.out _ _ HKN.out (fun hHeld => ?_)
        clear hK K gq
        refine wpAnyH_ready (rs := [3]) (by kernel_rfl) (by simp) ?_
        refine AllReadyH.cons rfl (fun K hK => ?_) AllReadyH.nil
        go_simp
        go_wp2_with (go_at_call 36; refine hC.mono ?_; rintro e v1 ⟨L1, rfl, hOL, hb⟩; obtain ⟨D1, A1, K1⟩ := L1; obtain ⟨od1, cd1, e1⟩ := own_shapeC hOL.data; obtain ⟨oa1, ca1, e2⟩ := own_shapeC hOL.attrs; obtain ⟨ok1, ck1, e3⟩ := own_shapeC hOL.kids; simp only at e1 e2 e3; subst e1 e2 e3; have HOL := hid hOL; have HBC := hid hb; have HK1 := hid ((hb.block _ hwlt).trans HKN.out); clear hb hC hOL; dsimp only)
        refine hK.out _ _ (HK1.out) (fun hHeld => ?_)
        clear hK K
        have HGB1 := hid ((HBC.out.block _ hglt).trans HGB0.out)
        have HRB1 := hid ((HBC.out.block _ (Nat.lt_trans (Nat.lt_succ_self _) hglt)).trans HRB0.out)
        have hv1 : w.heap.size + 1 + 1 < v1.heap.size := Nat.lt_of_lt_of_le hglt HBC.out.size
        have hv2 : wr.heap.size < v1.heap.size := Nat.lt_of_lt_of_le hwlt HBC.out.size
        have HGB2 : Hid ((v1.alloc (.cells #[.int .u8 (n.kind : Int), .string n.space, .string n.pre, .string n.loc, .string n.pub, .string n.sys, .slice od1 n.data.length cd1, .slice oa1 n.attrs.length ca1, .int .i64 n.parent, .slice ok1 n.kids.length ck1, .int .i64 n.doc, .int .i64 n.host, .int .i64 n.shadow, .int .u8 (n.mode : Int), .bool n.manual, .bool n.html] 64)).heap[w.heap.size + 1 + 1]? = some (.cells #[.slice go_ ps.length gc] 24)) := (Below.heap_alloc v1 _ _ hv1).trans HGB1.out
        have HRB2 : Hid ((v1.alloc (.cells #[.int .u8 (n.kind : Int), .string n.space, .string n.pre, .string n.loc, .string n.pub, .string n.sys, .slice od1 n.data.length cd1, .slice oa1 n.attrs.length ca1, .int .i64 n.parent, .slice ok1 n.kids.length ck1, .int .i64 n.doc, .int .i64 n.host, .int .i64 n.shadow, .int .u8 (n.mode : Int), .bool n.manual, .bool n.html] 64)).heap[w.heap.size + 1]? = some (.cells #[.slice none 0 0] 24)) := (Below.heap_alloc v1 _ _ (Nat.lt_trans (Nat.lt_succ_self _) hv1)).trans HRB1.out
        have HK2 : Hid ((v1.alloc (.cells #[.int .u8 (n.kind : Int), .string n.space, .string n.pre, .string n.loc, .string n.pub, .string n.sys, .slice od1 n.data.length cd1, .slice oa1 n.attrs.length ca1, .int .i64 n.parent, .slice ok1 n.kids.length ck1, .int .i64 n.doc, .int .i64 n.host, .int .i64 n.shadow, .int .u8 (n.mode : Int), .bool n.manual, .bool n.html] 64)).heap[wr.heap.size]? = some (.cells #[.int .u8 (n.kind : Int), .string n.space, .string n.pre, .string n.loc, .string n.pub, .string n.sys, .slice od n.data.length cd, .slice oa n.attrs.length ca, .int .i64 n.parent, .slice ok n.kids.length ck, .int .i64 n.doc, .int .i64 n.host, .int .i64 n.shadow, .int .u8 (n.mode : Int), .bool n.manual, .bool n.html] 64)) := (Below.heap_alloc v1 _ _ hv2).trans HK1.out
        refine wpAnyH_ready (rs := [4]) (by kernel_rfl) (by simp) ?_
        refine AllReadyH.cons rfl (fun K hK => ?_) AllReadyH.nil
        go_simp
        refine hK.out _ _ (HK2.out) (fun hHeld => ?_)
        clear hK K
        have hown1 : (v1.alloc (.cells #[.int .u8 (n.kind : Int), .string n.space, .string n.pre, .string n.loc, .string n.pub, .string n.sys, .slice od1 n.data.length cd1, .slice oa1 n.attrs.length ca1, .int .i64 n.parent, .slice ok1 n.kids.length ck1, .int .i64 n.doc, .int .i64 n.host, .int .i64 n.shadow, .int .u8 (n.mode : Int), .bool n.manual, .bool n.html] 64)).ownsRow (w.heap.size + 3) 64 16 (.slice go_ ps.length gc) ps.length (nodesC ps) := (ownsRow_later HOwD.out HBC.out).alloc _
        have HNW : Hid (∀ (j : Nat) (u : Value), (nodeCs n ⟨.slice od1 n.data.length cd1, .slice oa1 n.attrs.length ca1, .slice ok1 n.kids.length ck1⟩)[j]? = some u → (v1.alloc (.cells #[.int .u8 (n.kind : Int), .string n.space, .string n.pre, .string n.loc, .string n.pub, .string n.sys, .slice od1 n.data.length cd1, .slice oa1 n.attrs.length ca1, .int .i64 n.parent, .slice ok1 n.kids.length ck1, .int .i64 n.doc, .int .i64 n.host, .int .i64 n.shadow, .int .u8 (n.mode : Int), .bool n.manual, .bool n.html] 64)).cell? ((⟨v1.heap.size, 0, none⟩ : Addr).add j) = some u) := node_news v1 n _
        have m3 : w.heap.size + 3 ≤ (v1.alloc (.cells #[.int .u8 (n.kind : Int), .string n.space, .string n.pre, .string n.loc, .string n.pub, .string n.sys, .slice od1 n.data.length cd1, .slice oa1 n.attrs.length ca1, .int .i64 n.parent, .slice ok1 n.kids.length ck1, .int .i64 n.doc, .int .i64 n.host, .int .i64 n.shadow, .int .u8 (n.mode : Int), .bool n.manual, .bool n.html] 64)).heap.size := by rw [World.size_alloc]; omega
        refine wpAnyH_ready (rs := [5]) (by kernel_rfl) (by simp) ?_
        refine AllReadyH.cons rfl (fun K hK => ?_) AllReadyH.nil
        refine wp_append_own _ (.tmp 15) (.tmp 18) 22 rfl (w.heap.size + 3) 64 i0 (.agg #[.int .u8 0, .string ⟨#[]⟩, .string ⟨#[]⟩, .string ⟨#[]⟩, .string ⟨#[]⟩, .string ⟨#[]⟩, .slice none 0 0, .slice none 0 0, .int .i64 0, .slice none 0 0, .int .i64 0, .int .i64 0, .int .i64 0, .int .u8 0, .bool false, .bool false]) 16 200 Tryz.underlying22 hi hz0 hz1 hz2 rfl (by decide) (.slice go_ ps.length gc) ps.length (nodesC ps) rfl hown1 ⟨v1.heap.size, 0, none⟩ 1 1 (nodeCs n ⟨.slice od1 n.data.length cd1, .slice oa1 n.attrs.length ca1, .slice ok1 n.kids.length ck1⟩) rfl rfl HNW.out (node_one _ _ ⟨rfl, rfl, rfl⟩) m1 m2 m3 ?_
        intro v' w1 hown' hgrow _
        rw [nodesC_snoc] at hown'
        obtain ⟨vo, vc, hvv⟩ := own_shapeC hown'
        subst hvv
        have HKg := hid (heap_grow2 HGB2.out hgrow (fun g hg e => by have := (hown1.lt g hg).1; omega))
        have HRg := hid (heap_grow2 HRB2.out hgrow (fun g hg e => by have := (hown1.lt g hg).1; omega))
        have HK3 := hid (heap_grow2 HK2.out hgrow (fun g hg e => by have := (HOw.out.lt g hg).2; omega))
        have HOld : Hid (∀ p ∈ ps, OwnL w1 (w.heap.size + 3) p.1 p.2) := fun p hp => ((((HLs.out p hp).later HBK.out).later HBC.out).later ((Below.refl _ _).alloc (Nat.le_refl _) _)).grown hown1 hgrow
        have HNew := hid (((HOL.out.base hbs).later ((Below.refl _ v1).alloc (Nat.le_refl _) (.cells #[.int .u8 (n.kind : Int), .string n.space, .string n.pre, .string n.loc, .string n.pub, .string n.sys, .slice od1 n.data.length cd1, .slice oa1 n.attrs.length ca1, .int .i64 n.parent, .slice ok1 n.kids.length ck1, .int .i64 n.doc, .int .i64 n.host, .int .i64 n.shadow, .int .u8 (n.mode : Int), .bool n.manual, .bool n.html] 64))).grown hown1 hgrow)
        have HB3 := hid (((HBD.out.trans (HBC.out.mono hbf)).alloc (show w.heap.size + 1 ≤ v1.heap.size by omega) (.cells #[.int .u8 (n.kind : Int), .string n.space, .string n.pre, .string n.loc, .string n.pub, .string n.sys, .slice od1 n.data.length cd1, .slice oa1 n.attrs.length ca1, .int .i64 n.parent, .slice ok1 n.kids.length ck1, .int .i64 n.doc, .int .i64 n.host, .int .i64 n.shadow, .int .u8 (n.mode : Int), .bool n.manual, .bool n.html] 64)).grown hgrow (by rw [World.size_alloc]; omega) (fun g hg => by have := (hown1.lt g hg).1; omega))
        have HOwn := hid hown'
        clear hown' hgrow
        refine hK.out _ _ HK3.out (fun hHeld => ?_)
        clear hK K
        simp only [Act.put, sA, s0, sS]
        obtain ⟨gc0, gf0⟩ := box_cell_l HKg.out
        have HK4 := hid ((Below.heap_setCell w1 ⟨w.heap.size + 1 + 1, 0, none⟩ (.slice vo (ps.length + 1) vc) wr.heap.size (by show wr.heap.size ≠ w.heap.size + 1 + 1; omega)).trans HK3.out)
        refine oneH 6 20 (.pointer (some ⟨w.heap.size + 1 + 1, 0, none⟩)) hHeld ?_ ?_
        · intro V _; go_simp
        simp only [Act.put, sA, s0, sS]
        refine wpAnyH_ready (rs := [7]) (by kernel_rfl) (by simp) ?_
        refine AllReadyH.cons rfl (fun K hK => ?_) AllReadyH.nil
        go_simp
        refine hK.out _ _ (HK4.out) (fun hHeld => ?_)
        clear hK K
        clear gc0 gf0
        refine wpAnyH_done (by kernel_rfl) ?_ _
        go_wp2
        go_roundw
        case rel => exact ⟨vo, vc, (ps ++ [(n, (⟨.slice od1 n.data.length cd1, .slice oa1 n.attrs.length ca1, .slice ok1 n.kids.length ck1⟩ : Lists))]), by rw [List.length_append]; exact hlt, by rw [show (ps ++ [(n, (⟨.slice od1 n.data.length cd1, .slice oa1 n.attrs.length ca1, .slice ok1 n.kids.length ck1⟩ : Lists))]).length = ps.length + 1 by simp]; go_num, by show _ = _; rw [show (ps ++ [(n, (⟨.slice od1 n.data.length cd1, .slice oa1 n.attrs.length ca1, .slice ok1 n.kids.length ck1⟩ : Lists))]).length = ps.length + 1 by simp, HTk.out, List.map_append]; rfl, HB3.out.setCell (p := ⟨w.heap.size + 1 + 1, 0, none⟩) (by show w.heap.size + 1 ≤ w.heap.size + 1 + 1; omega) _, (Below.heap_setCell w1 ⟨w.heap.size + 1 + 1, 0, none⟩ _ (w.heap.size + 1) (by show w.heap.size + 1 ≠ w.heap.size + 1 + 1; omega)).trans HRg.out, hid (by simp [World.setCell, Array.getElem?_modify, HKg.out]), hid (by rw [show (ps ++ [(n, (⟨.slice od1 n.data.length cd1, .slice oa1 n.attrs.length ca1, .slice ok1 n.kids.length ck1⟩ : Lists))]).length = ps.length + 1 by simp]; exact ownsRow_setCell_below HOwn.out (a := ⟨w.heap.size + 1 + 1, 0, none⟩) (by show w.heap.size + 1 + 1 < w.heap.size + 3; omega) _), fun p hp => by
                rcases List.mem_append.1 hp with hp | hp
                · exact (HOld.out p hp).set (by omega) _
                · have := List.mem_singleton.1 hp
                  subst this
                  exact HNew.out.set (by omega) _⟩
        case measure => simp [RowKit.intOf]; omega
      · go_simp
        go_wp2_with (go_at_call 36; refine hC.mono ?_; rintro e v1 ⟨L1, rfl, hOL, hb⟩; obtain ⟨D1, A1, K1⟩ := L1; obtain ⟨od1, cd1, e1⟩ := own_shapeC hOL.data; obtain ⟨oa1, ca1, e2⟩ := own_shapeC hOL.attrs; obtain ⟨ok1, ck1, e3⟩ := own_shapeC hOL.kids; simp only at e1 e2 e3; subst e1 e2 e3; have HOL := hid hOL; have HBC := hid hb; have HK1 := hid ((hb.block _ hwlt).trans HKN.out); clear hb hC hOL; dsimp only)
        refine hK.out _ _ HK1.out (fun hHeld => ?_)
        clear hK K
        have HGB1 := hid ((HBC.out.block _ hglt).trans HGB0.out)
        have HRB1 := hid ((HBC.out.block _ (Nat.lt_trans (Nat.lt_succ_self _) hglt)).trans HRB0.out)
        have hv1 : w.heap.size + 1 + 1 < v1.heap.size := Nat.lt_of_lt_of_le hglt HBC.out.size
        have hv2 : wr.heap.size < v1.heap.size := Nat.lt_of_lt_of_le hwlt HBC.out.size
        have HGB2 : Hid ((v1.alloc (.cells #[.int .u8 (n.kind : Int), .string n.space, .string n.pre, .string n.loc, .string n.pub, .string n.sys, .slice od1 n.data.length cd1, .slice oa1 n.attrs.length ca1, .int .i64 n.parent, .slice ok1 n.kids.length ck1, .int .i64 n.doc, .int .i64 n.host, .int .i64 n.shadow, .int .u8 (n.mode : Int), .bool n.manual, .bool n.html] 64)).heap[w.heap.size + 1 + 1]? = some (.cells #[.slice go_ ps.length gc] 24)) := (Below.heap_alloc v1 _ _ hv1).trans HGB1.out
        have HRB2 : Hid ((v1.alloc (.cells #[.int .u8 (n.kind : Int), .string n.space, .string n.pre, .string n.loc, .string n.pub, .string n.sys, .slice od1 n.data.length cd1, .slice oa1 n.attrs.length ca1, .int .i64 n.parent, .slice ok1 n.kids.length ck1, .int .i64 n.doc, .int .i64 n.host, .int .i64 n.shadow, .int .u8 (n.mode : Int), .bool n.manual, .bool n.html] 64)).heap[w.heap.size + 1]? = some (.cells #[.slice none 0 0] 24)) := (Below.heap_alloc v1 _ _ (Nat.lt_trans (Nat.lt_succ_self _) hv1)).trans HRB1.out
        have HK2 : Hid ((v1.alloc (.cells #[.int .u8 (n.kind : Int), .string n.space, .string n.pre, .string n.loc, .string n.pub, .string n.sys, .slice od1 n.data.length cd1, .slice oa1 n.attrs.length ca1, .int .i64 n.parent, .slice ok1 n.kids.length ck1, .int .i64 n.doc, .int .i64 n.host, .int .i64 n.shadow, .int .u8 (n.mode : Int), .bool n.manual, .bool n.html] 64)).heap[wr.heap.size]? = some (.cells #[.int .u8 (n.kind : Int), .string n.space, .string n.pre, .string n.loc, .string n.pub, .string n.sys, .slice od n.data.length cd, .slice oa n.attrs.length ca, .int .i64 n.parent, .slice ok n.kids.length ck, .int .i64 n.doc, .int .i64 n.host, .int .i64 n.shadow, .int .u8 (n.mode : Int), .bool n.manual, .bool n.html] 64)) := (Below.heap_alloc v1 _ _ hv2).trans HK1.out
        refine wpAnyH_ready (rs := [1, 4]) (by kernel_rfl) (by simp) ?_
        refine AllReadyH.cons rfl (fun K hK => ?_) (AllReadyH.cons rfl (fun K hK => ?_) AllReadyH.nil)
        · have gq := (box_cell_l HGB1.out).1
          go_simp
          refine hK.out _ _ HK1.out (fun hHeld => ?_)
          clear hK K gq
          refine wpAnyH_ready (rs := [4]) (by kernel_rfl) (by simp) ?_
          refine AllReadyH.cons rfl (fun K hK => ?_) AllReadyH.nil
          go_simp
          refine hK.out _ _ (HK2.out) (fun hHeld => ?_)
          clear hK K
          have hown1 : (v1.alloc (.cells #[.int .u8 (n.kind : Int), .string n.space, .string n.pre, .string n.loc, .string n.pub, .string n.sys, .slice od1 n.data.length cd1, .slice oa1 n.attrs.length ca1, .int .i64 n.parent, .slice ok1 n.kids.length ck1, .int .i64 n.doc, .int .i64 n.host, .int .i64 n.shadow, .int .u8 (n.mode : Int), .bool n.manual, .bool n.html] 64)).ownsRow (w.heap.size + 3) 64 16 (.slice go_ ps.length gc) ps.length (nodesC ps) := (ownsRow_later HOwD.out HBC.out).alloc _
          have HNW : Hid (∀ (j : Nat) (u : Value), (nodeCs n ⟨.slice od1 n.data.length cd1, .slice oa1 n.attrs.length ca1, .slice ok1 n.kids.length ck1⟩)[j]? = some u → (v1.alloc (.cells #[.int .u8 (n.kind : Int), .string n.space, .string n.pre, .string n.loc, .string n.pub, .string n.sys, .slice od1 n.data.length cd1, .slice oa1 n.attrs.length ca1, .int .i64 n.parent, .slice ok1 n.kids.length ck1, .int .i64 n.doc, .int .i64 n.host, .int .i64 n.shadow, .int .u8 (n.mode : Int), .bool n.manual, .bool n.html] 64)).cell? ((⟨v1.heap.size, 0, none⟩ : Addr).add j) = some u) := node_news v1 n _
          have m3 : w.heap.size + 3 ≤ (v1.alloc (.cells #[.int .u8 (n.kind : Int), .string n.space, .string n.pre, .string n.loc, .string n.pub, .string n.sys, .slice od1 n.data.length cd1, .slice oa1 n.attrs.length ca1, .int .i64 n.parent, .slice ok1 n.kids.length ck1, .int .i64 n.doc, .int .i64 n.host, .int .i64 n.shadow, .int .u8 (n.mode : Int), .bool n.manual, .bool n.html] 64)).heap.size := by rw [World.size_alloc]; omega
          refine wpAnyH_ready (rs := [5]) (by kernel_rfl) (by simp) ?_
          refine AllReadyH.cons rfl (fun K hK => ?_) AllReadyH.nil
          refine wp_append_own _ (.tmp 15) (.tmp 18) 22 rfl (w.heap.size + 3) 64 i0 (.agg #[.int .u8 0, .string ⟨#[]⟩, .string ⟨#[]⟩, .string ⟨#[]⟩, .string ⟨#[]⟩, .string ⟨#[]⟩, .slice none 0 0, .slice none 0 0, .int .i64 0, .slice none 0 0, .int .i64 0, .int .i64 0, .int .i64 0, .int .u8 0, .bool false, .bool false]) 16 200 Tryz.underlying22 hi hz0 hz1 hz2 rfl (by decide) (.slice go_ ps.length gc) ps.length (nodesC ps) rfl hown1 ⟨v1.heap.size, 0, none⟩ 1 1 (nodeCs n ⟨.slice od1 n.data.length cd1, .slice oa1 n.attrs.length ca1, .slice ok1 n.kids.length ck1⟩) rfl rfl HNW.out (node_one _ _ ⟨rfl, rfl, rfl⟩) m1 m2 m3 ?_
          intro v' w1 hown' hgrow _
          rw [nodesC_snoc] at hown'
          obtain ⟨vo, vc, hvv⟩ := own_shapeC hown'
          subst hvv
          have HKg := hid (heap_grow2 HGB2.out hgrow (fun g hg e => by have := (hown1.lt g hg).1; omega))
          have HRg := hid (heap_grow2 HRB2.out hgrow (fun g hg e => by have := (hown1.lt g hg).1; omega))
          have HK3 := hid (heap_grow2 HK2.out hgrow (fun g hg e => by have := (HOw.out.lt g hg).2; omega))
          have HOld : Hid (∀ p ∈ ps, OwnL w1 (w.heap.size + 3) p.1 p.2) := fun p hp => ((((HLs.out p hp).later HBK.out).later HBC.out).later ((Below.refl _ _).alloc (Nat.le_refl _) _)).grown hown1 hgrow
          have HNew := hid (((HOL.out.base hbs).later ((Below.refl _ v1).alloc (Nat.le_refl _) (.cells #[.int .u8 (n.kind : Int), .string n.space, .string n.pre, .string n.loc, .string n.pub, .string n.sys, .slice od1 n.data.length cd1, .slice oa1 n.attrs.length ca1, .int .i64 n.parent, .slice ok1 n.kids.length ck1, .int .i64 n.doc, .int .i64 n.host, .int .i64 n.shadow, .int .u8 (n.mode : Int), .bool n.manual, .bool n.html] 64))).grown hown1 hgrow)
          have HB3 := hid (((HBD.out.trans (HBC.out.mono hbf)).alloc (show w.heap.size + 1 ≤ v1.heap.size by omega) (.cells #[.int .u8 (n.kind : Int), .string n.space, .string n.pre, .string n.loc, .string n.pub, .string n.sys, .slice od1 n.data.length cd1, .slice oa1 n.attrs.length ca1, .int .i64 n.parent, .slice ok1 n.kids.length ck1, .int .i64 n.doc, .int .i64 n.host, .int .i64 n.shadow, .int .u8 (n.mode : Int), .bool n.manual, .bool n.html] 64)).grown hgrow (by rw [World.size_alloc]; omega) (fun g hg => by have := (hown1.lt g hg).1; omega))
          have HOwn := hid hown'
          clear hown' hgrow
          refine hK.out _ _ HK3.out (fun hHeld => ?_)
          clear hK K
          simp only [Act.put, sA, s0, sS]
          obtain ⟨gc0, gf0⟩ := box_cell_l HKg.out
          have HK4 := hid ((Below.heap_setCell w1 ⟨w.heap.size + 1 + 1, 0, none⟩ (.slice vo (ps.length + 1) vc) wr.heap.size (by show wr.heap.size ≠ w.heap.size + 1 + 1; omega)).trans HK3.out)
          refine oneH 6 20 (.pointer (some ⟨w.heap.size + 1 + 1, 0, none⟩)) hHeld ?_ ?_
          · intro V _; go_simp
          simp only [Act.put, sA, s0, sS]
          refine wpAnyH_ready (rs := [7]) (by kernel_rfl) (by simp) ?_
          refine AllReadyH.cons rfl (fun K hK => ?_) AllReadyH.nil
          go_simp
          refine hK.out _ _ (HK4.out) (fun hHeld => ?_)
          clear hK K
          clear gc0 gf0
          refine wpAnyH_done (by kernel_rfl) ?_ _
          go_wp2
          go_roundw
          case rel => exact ⟨vo, vc, (ps ++ [(n, (⟨.slice od1 n.data.length cd1, .slice oa1 n.attrs.length ca1, .slice ok1 n.kids.length ck1⟩ : Lists))]), by rw [List.length_append]; exact hlt, by rw [show (ps ++ [(n, (⟨.slice od1 n.data.length cd1, .slice oa1 n.attrs.length ca1, .slice ok1 n.kids.length ck1⟩ : Lists))]).length = ps.length + 1 by simp]; go_num, by show _ = _; rw [show (ps ++ [(n, (⟨.slice od1 n.data.length cd1, .slice oa1 n.attrs.length ca1, .slice ok1 n.kids.length ck1⟩ : Lists))]).length = ps.length + 1 by simp, HTk.out, List.map_append]; rfl, HB3.out.setCell (p := ⟨w.heap.size + 1 + 1, 0, none⟩) (by show w.heap.size + 1 ≤ w.heap.size + 1 + 1; omega) _, (Below.heap_setCell w1 ⟨w.heap.size + 1 + 1, 0, none⟩ _ (w.heap.size + 1) (by show w.heap.size + 1 ≠ w.heap.size + 1 + 1; omega)).trans HRg.out, hid (by simp [World.setCell, Array.getElem?_modify, HKg.out]), hid (by rw [show (ps ++ [(n, (⟨.slice od1 n.data.length cd1, .slice oa1 n.attrs.length ca1, .slice ok1 n.kids.length ck1⟩ : Lists))]).length = ps.length + 1 by simp]; exact ownsRow_setCell_below HOwn.out (a := ⟨w.heap.size + 1 + 1, 0, none⟩) (by show w.heap.size + 1 + 1 < w.heap.size + 3; omega) _), fun p hp => by
                rcases List.mem_append.1 hp with hp | hp
                · exact (HOld.out p hp).set (by omega) _
                · have := List.mem_singleton.1 hp
                  subst this
                  exact HNew.out.set (by omega) _⟩
          case measure => simp [RowKit.intOf]; omega
        · go_simp
          refine hK.out _ _ HK2.out (fun hHeld => ?_)
          clear hK K
          have gq := (box_cell_l HGB2.out).1
          refine wpAnyH_ready (rs := [1]) (by kernel_rfl) (by simp) ?_
          refine AllReadyH.cons rfl (fun K hK => ?_) AllReadyH.nil
          go_simp
          refine hK.out _ _ (HK2.out) (fun hHeld => ?_)
          clear hK K
          clear gq
          have hown1 : (v1.alloc (.cells #[.int .u8 (n.kind : Int), .string n.space, .string n.pre, .string n.loc, .string n.pub, .string n.sys, .slice od1 n.data.length cd1, .slice oa1 n.attrs.length ca1, .int .i64 n.parent, .slice ok1 n.kids.length ck1, .int .i64 n.doc, .int .i64 n.host, .int .i64 n.shadow, .int .u8 (n.mode : Int), .bool n.manual, .bool n.html] 64)).ownsRow (w.heap.size + 3) 64 16 (.slice go_ ps.length gc) ps.length (nodesC ps) := (ownsRow_later HOwD.out HBC.out).alloc _
          have HNW : Hid (∀ (j : Nat) (u : Value), (nodeCs n ⟨.slice od1 n.data.length cd1, .slice oa1 n.attrs.length ca1, .slice ok1 n.kids.length ck1⟩)[j]? = some u → (v1.alloc (.cells #[.int .u8 (n.kind : Int), .string n.space, .string n.pre, .string n.loc, .string n.pub, .string n.sys, .slice od1 n.data.length cd1, .slice oa1 n.attrs.length ca1, .int .i64 n.parent, .slice ok1 n.kids.length ck1, .int .i64 n.doc, .int .i64 n.host, .int .i64 n.shadow, .int .u8 (n.mode : Int), .bool n.manual, .bool n.html] 64)).cell? ((⟨v1.heap.size, 0, none⟩ : Addr).add j) = some u) := node_news v1 n _
          have m3 : w.heap.size + 3 ≤ (v1.alloc (.cells #[.int .u8 (n.kind : Int), .string n.space, .string n.pre, .string n.loc, .string n.pub, .string n.sys, .slice od1 n.data.length cd1, .slice oa1 n.attrs.length ca1, .int .i64 n.parent, .slice ok1 n.kids.length ck1, .int .i64 n.doc, .int .i64 n.host, .int .i64 n.shadow, .int .u8 (n.mode : Int), .bool n.manual, .bool n.html] 64)).heap.size := by rw [World.size_alloc]; omega
          refine wpAnyH_ready (rs := [5]) (by kernel_rfl) (by simp) ?_
          refine AllReadyH.cons rfl (fun K hK => ?_) AllReadyH.nil
          refine wp_append_own _ (.tmp 15) (.tmp 18) 22 rfl (w.heap.size + 3) 64 i0 (.agg #[.int .u8 0, .string ⟨#[]⟩, .string ⟨#[]⟩, .string ⟨#[]⟩, .string ⟨#[]⟩, .string ⟨#[]⟩, .slice none 0 0, .slice none 0 0, .int .i64 0, .slice none 0 0, .int .i64 0, .int .i64 0, .int .i64 0, .int .u8 0, .bool false, .bool false]) 16 200 Tryz.underlying22 hi hz0 hz1 hz2 rfl (by decide) (.slice go_ ps.length gc) ps.length (nodesC ps) rfl hown1 ⟨v1.heap.size, 0, none⟩ 1 1 (nodeCs n ⟨.slice od1 n.data.length cd1, .slice oa1 n.attrs.length ca1, .slice ok1 n.kids.length ck1⟩) rfl rfl HNW.out (node_one _ _ ⟨rfl, rfl, rfl⟩) m1 m2 m3 ?_
          intro v' w1 hown' hgrow _
          rw [nodesC_snoc] at hown'
          obtain ⟨vo, vc, hvv⟩ := own_shapeC hown'
          subst hvv
          have HKg := hid (heap_grow2 HGB2.out hgrow (fun g hg e => by have := (hown1.lt g hg).1; omega))
          have HRg := hid (heap_grow2 HRB2.out hgrow (fun g hg e => by have := (hown1.lt g hg).1; omega))
          have HK3 := hid (heap_grow2 HK2.out hgrow (fun g hg e => by have := (HOw.out.lt g hg).2; omega))
          have HOld : Hid (∀ p ∈ ps, OwnL w1 (w.heap.size + 3) p.1 p.2) := fun p hp => ((((HLs.out p hp).later HBK.out).later HBC.out).later ((Below.refl _ _).alloc (Nat.le_refl _) _)).grown hown1 hgrow
          have HNew := hid (((HOL.out.base hbs).later ((Below.refl _ v1).alloc (Nat.le_refl _) (.cells #[.int .u8 (n.kind : Int), .string n.space, .string n.pre, .string n.loc, .string n.pub, .string n.sys, .slice od1 n.data.length cd1, .slice oa1 n.attrs.length ca1, .int .i64 n.parent, .slice ok1 n.kids.length ck1, .int .i64 n.doc, .int .i64 n.host, .int .i64 n.shadow, .int .u8 (n.mode : Int), .bool n.manual, .bool n.html] 64))).grown hown1 hgrow)
          have HB3 := hid (((HBD.out.trans (HBC.out.mono hbf)).alloc (show w.heap.size + 1 ≤ v1.heap.size by omega) (.cells #[.int .u8 (n.kind : Int), .string n.space, .string n.pre, .string n.loc, .string n.pub, .string n.sys, .slice od1 n.data.length cd1, .slice oa1 n.attrs.length ca1, .int .i64 n.parent, .slice ok1 n.kids.length ck1, .int .i64 n.doc, .int .i64 n.host, .int .i64 n.shadow, .int .u8 (n.mode : Int), .bool n.manual, .bool n.html] 64)).grown hgrow (by rw [World.size_alloc]; omega) (fun g hg => by have := (hown1.lt g hg).1; omega))
          have HOwn := hid hown'
          clear hown' hgrow
          refine hK.out _ _ HK3.out (fun hHeld => ?_)
          clear hK K
          simp only [Act.put, sA, s0, sS]
          obtain ⟨gc0, gf0⟩ := box_cell_l HKg.out
          have HK4 := hid ((Below.heap_setCell w1 ⟨w.heap.size + 1 + 1, 0, none⟩ (.slice vo (ps.length + 1) vc) wr.heap.size (by show wr.heap.size ≠ w.heap.size + 1 + 1; omega)).trans HK3.out)
          refine oneH 6 20 (.pointer (some ⟨w.heap.size + 1 + 1, 0, none⟩)) hHeld ?_ ?_
          · intro V _; go_simp
          simp only [Act.put, sA, s0, sS]
          refine wpAnyH_ready (rs := [7]) (by kernel_rfl) (by simp) ?_
          refine AllReadyH.cons rfl (fun K hK => ?_) AllReadyH.nil
          go_simp
          refine hK.out _ _ (HK4.out) (fun hHeld => ?_)
          clear hK K
          clear gc0 gf0
          refine wpAnyH_done (by kernel_rfl) ?_ _
          go_wp2
          go_roundw
          case rel => exact ⟨vo, vc, (ps ++ [(n, (⟨.slice od1 n.data.length cd1, .slice oa1 n.attrs.length ca1, .slice ok1 n.kids.length ck1⟩ : Lists))]), by rw [List.length_append]; exact hlt, by rw [show (ps ++ [(n, (⟨.slice od1 n.data.length cd1, .slice oa1 n.attrs.length ca1, .slice ok1 n.kids.length ck1⟩ : Lists))]).length = ps.length + 1 by simp]; go_num, by show _ = _; rw [show (ps ++ [(n, (⟨.slice od1 n.data.length cd1, .slice oa1 n.attrs.length ca1, .slice ok1 n.kids.length ck1⟩ : Lists))]).length = ps.length + 1 by simp, HTk.out, List.map_append]; rfl, HB3.out.setCell (p := ⟨w.heap.size + 1 + 1, 0, none⟩) (by show w.heap.size + 1 ≤ w.heap.size + 1 + 1; omega) _, (Below.heap_setCell w1 ⟨w.heap.size + 1 + 1, 0, none⟩ _ (w.heap.size + 1) (by show w.heap.size + 1 ≠ w.heap.size + 1 + 1; omega)).trans HRg.out, hid (by simp [World.setCell, Array.getElem?_modify, HKg.out]), hid (by rw [show (ps ++ [(n, (⟨.slice od1 n.data.length cd1, .slice oa1 n.attrs.length ca1, .slice ok1 n.kids.length ck1⟩ : Lists))]).length = ps.length + 1 by simp]; exact ownsRow_setCell_below HOwn.out (a := ⟨w.heap.size + 1 + 1, 0, none⟩) (by show w.heap.size + 1 + 1 < w.heap.size + 3; omega) _), fun p hp => by
                rcases List.mem_append.1 hp with hp | hp
                · exact (HOld.out p hp).set (by omega) _
                · have := List.mem_singleton.1 hp
                  subst this
                  exact HNew.out.set (by omega) _⟩
          case measure => simp [RowKit.intOf]; omega
    · have hkp : ps.length = ns.length := by omega
      have HE : Hid (ps.map (·.1) = ns) := by
        show _ = _
        rw [HM.out, hkp, List.take_length]
      obtain ⟨o', c', ho', hFR⟩ := rows_forest (ownsRow_setCell_below HOw.out (a := ⟨w.heap.size + 1, 0, none⟩) (by show w.heap.size + 1 < w.heap.size + 3; omega) (.slice go_ ns.length gc)) (fun p hp => (HLs.out p hp).set (B := w.heap.size + 1) (by omega) (.slice go_ ns.length gc)) (by omega)
      injection ho' with e1 e2 e3
      subst e1 e3
      rw [HE.out] at hFR
      obtain ⟨gc0, gf0⟩ := box_cell_l HG.out
      obtain ⟨rc0, rf0⟩ := box_cell_l HR.out
      have HFR := hid hFR
      have HBw := hid hBw
      rw [hkp] at gc0
      have d1 : decide ((ps.length : Int) < (ns.length : Int)) = false := decide_eq_false (by omega)
      have HRR := hid HR.out
      clear HF HC HM HLs HOw hFR HE hBw
      go_wp2_with fail
      have hn2 : (wr.setCell ⟨w.heap.size + 1, 0, none⟩ (.slice go_ ns.length gc)).heap[w.heap.size + 1]? = some (.cells #[.slice go_ ns.length gc] 24) := by simp [World.setCell, Array.getElem?_modify, HRR.out]
      have j0 := (box_cell_l hn2).1
      exact bodyPost_ret (v := .agg #[.slice go_ ns.length gc]) (by simp [results, Tryz.results7, go_sem, j0]) rfl ⟨go_, gc, rfl, HFR.out, HBw.out.setCell (p := ⟨w.heap.size + 1, 0, none⟩) (Nat.le_succ _) _⟩
end Go.Proofs.YtilacgcjbdkphaaGreat

