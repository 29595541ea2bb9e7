/- The node ahead of one in the order of its tree (plain). -/
/- above, lengthOf, ahead. -/
/- lengthOf. -/
/- ahead. -/
/- The calls of order that ask one handle: Deep and Connected, where they are refused. -/
/- The calls of order that ask one handle: Index, Length, Prev. -/
/- The calls of order that ask one handle: Ancestors. -/
import Derived.Test.YtfaeabjgplahgaaGreatCFConFTree
import Derived.Test.YtfaeabjgplahgaaGreatCFNextFHolds
import Derived.Test.YtfaeabjgplahgaaGreatCFR4AFR4G
import Derived.Test.YtfaeabjgplahgaaGreatCFStandFCmp
import Derived.Test.YtfaeabjgplahgaaGreatCFRangeFAllC
namespace Go.Proofs.YtfaeabjgplahgaaGreat
open Go.RowKit Go.Lib Go.Shelf

def prevD (ns : List NodeD) (x : Int) : Int := if indexD ns x == 0 then parentD ns x else lastI (allD ns ((kidsD ns (parentD ns x)).getD (indexD ns x - 1).toNat 0))

theorem snoc_of {l : List Int} (h : l ≠ []) : ∃ s k, l = s ++ [k] := ⟨l.dropLast, l.getLast h, (List.dropLast_concat_getLast h).symm⟩
theorem all_ne {ns : List NodeD} (h : RightF ns) {y : Int} (hy : thereB ns.length y = true) : allD ns y ≠ [] := by rw [all_cons h hy]; simp
theorem last_nil {ns : List NodeD} (h : RightF ns) {y : Int} (hy : thereB ns.length y = true) (hk : kidsD ns y = []) : lastI (allD ns y) = y := by rw [all_cons h hy, hk]; rfl
theorem last_snoc_all {ns : List NodeD} (h : RightF ns) {y k : Int} (hy : thereB ns.length y = true) {s : List Int} (hk : kidsD ns y = s ++ [k]) : lastI (allD ns y) = lastI (allD ns k) := by
  have hkt : thereB ns.length k = true := (h.kidsHang.down _ k hy (by rw [hk]; simp)).1
  rw [all_cons h hy, hk, List.flatMap_append, List.flatMap_cons, List.flatMap_nil, List.append_nil, ← List.cons_append]
  exact lastI_append _ _ (all_ne h hkt)
theorem flat_last {ns : List NodeD} (h : RightF ns) {k : Int} (hkt : thereB ns.length k = true) (u s : List Int) : lastI (u ++ (s ++ [k]).flatMap (allD ns)) = lastI (allD ns k) := by
  rw [List.flatMap_append, List.flatMap_cons, List.flatMap_nil, List.append_nil, ← List.append_assoc]
  exact lastI_append _ _ (all_ne h hkt)
theorem prev_parted {ns : List NodeD} (h : RightF ns) {x : Int} (hx : thereB ns.length x = true) : ∃ pre post, allD ns (lastI (pathUp ns (parentD ns) x)) = pre ++ x :: post ∧ x ∉ pre ∧ lastI pre = prevD ns x := by
  obtain ⟨r1, r2, r3⟩ := root_up h _ x (Nat.le_refl _) hx
  have hnd := all_once h r1
  have key : ∃ pre post, allD ns (lastI (pathUp ns (parentD ns) x)) = pre ++ x :: post ∧ lastI pre = prevD ns x := by
    by_cases hp : parentD ns x = 0
    · have hr : lastI (pathUp ns (parentD ns) x) = x := by rw [pathUp_head h hx, hp, pathUp_zero]; rfl
      refine ⟨[], (kidsD ns x).flatMap (allD ns), ?_, ?_⟩
      · rw [hr, all_cons h hx]; rfl
      · unfold prevD indexD; rw [hp]; rfl
    · have hpt := h.kidsHang.up_there hx hp
      have hrp : lastI (pathUp ns (parentD ns) x) ∈ pathUp ns (parentD ns) (parentD ns x) := by
        have e := pathUp_head h hx
        have hne := h.kidsHang.ne_nil hpt
        rw [e, show lastI (x :: pathUp ns (parentD ns) (parentD ns x)) = lastI (pathUp ns (parentD ns) (parentD ns x)) from lastI_append [x] _ hne]
        exact (root_up h _ _ (Nat.le_refl _) hpt).2.2
      obtain ⟨pre, post, e1, _⟩ := all_parted h r1 r2 _ (parentD ns x) (Nat.le_refl _) hpt hrp
      have hk := h.kid hx hp
      obtain ⟨s1, s2, hs⟩ := List.append_of_mem hk
      have hn1 : x ∉ s1 := fun hm => by
        have ho := h.kidsHang.once _ hpt
        rw [hs] at ho
        exact (List.nodup_append.1 ho).2.2 x hm x (by simp) rfl
      have hi : indexD ns x = (s1.length : Int) := by
        unfold indexD
        rw [beq_eq_false_iff_ne.2 hp, if_neg Bool.false_ne_true, idxI_idx _ _ _ hk, hs, List.idxOf_append, if_neg hn1, List.idxOf_cons_self]
        simp
      refine ⟨pre ++ (parentD ns x :: s1.flatMap (allD ns)), (kidsD ns x).flatMap (allD ns) ++ (s2.flatMap (allD ns) ++ post), ?_, ?_⟩
      · rw [e1, all_cons h hpt, hs, List.flatMap_append, List.flatMap_cons, all_cons h hx]
        simp
      · unfold prevD
        rw [hi]
        cases hs1 : s1 with
        | nil => exact lastI_append pre [parentD ns x] (by simp)
        | cons a t =>
          obtain ⟨s, k, hsk⟩ : ∃ s k, s1 = s ++ [k] := snoc_of (by rw [hs1]; simp)
          rw [← hs1, hsk]
          have hkt : thereB ns.length k = true := (h.kidsHang.down _ k hpt (by rw [hs, hsk]; simp)).1
          have hl : (((s ++ [k]).length : Nat) : Int) ≠ 0 := by rw [List.length_append]; simp; omega
          rw [beq_eq_false_iff_ne.2 hl, if_neg Bool.false_ne_true, hs, hsk]
          have hg : ((s ++ [k]) ++ x :: s2).getD ((((s ++ [k]).length : Nat) : Int) - 1).toNat 0 = k := by
            rw [show ((((s ++ [k]).length : Nat) : Int) - 1).toNat = s.length by rw [List.length_append]; simp, List.getD_eq_getElem?_getD, List.append_assoc, List.getElem?_append_right (Nat.le_refl _), Nat.sub_self]
            rfl
          rw [hg, show pre ++ (parentD ns x :: (s ++ [k]).flatMap (allD ns)) = (pre ++ [parentD ns x]) ++ (s ++ [k]).flatMap (allD ns) by simp]
          exact flat_last h hkt _ _
  obtain ⟨pre, post, e, hl⟩ := key
  refine ⟨pre, post, e, ?_, hl⟩
  rw [e] at hnd
  intro hm
  exact (List.nodup_append.1 hnd).2.2 x hm x (by simp) rfl

/-- The node so far behind another one in a list. -/
def besideD (l : List Int) (x d : Int) : Int := if 0 ≤ idxI l x 0 + d ∧ idxI l x 0 + d < (l.length : Int) then l.getD (idxI l x 0 + d).toNat 0 else 0
theorem idx_parted {pre post : List Int} {x : Int} (hn : x ∉ pre) : idxI (pre ++ x :: post) x 0 = (pre.length : Int) := by
  rw [idxI_idx _ _ _ (by simp), List.idxOf_append, if_neg hn, List.idxOf_cons_self]
  simp
theorem beside_next {ns : List NodeD} (h : RightF ns) {x : Int} (hx : thereB ns.length x = true) : besideD (allD ns (lastI (pathUp ns (parentD ns) x))) x 1 = nextD ns x := by
  obtain ⟨r1, r2, r3⟩ := root_up h _ x (Nat.le_refl _) hx
  obtain ⟨pre, post, e, hn, _, hh⟩ := next_parted h r1 r2 hx r3
  unfold besideD
  rw [e, idx_parted hn, ← hh]
  cases post with
  | nil =>
    rw [if_neg (by simp)]
    rfl
  | cons k t =>
    rw [if_pos ⟨by omega, by simp; omega⟩, show ((pre.length : Int) + 1).toNat = pre.length + 1 by omega, List.getD_eq_getElem?_getD, List.getElem?_append_right (by omega), show pre.length + 1 - pre.length = 1 by omega]
    rfl
theorem beside_prev {ns : List NodeD} (h : RightF ns) {x : Int} (hx : thereB ns.length x = true) : besideD (allD ns (lastI (pathUp ns (parentD ns) x))) x (-1) = prevD ns x := by
  obtain ⟨pre, post, e, hn, hh⟩ := prev_parted h hx
  unfold besideD
  rw [e, idx_parted hn, ← hh]
  cases hp : pre with
  | nil =>
    rw [if_neg (by simp)]
    rfl
  | cons a t =>
    obtain ⟨s, k, hsk⟩ : ∃ s k, pre = s ++ [k] := snoc_of (by rw [hp]; simp)
    rw [← hp, hsk, last_snoc]
    rw [if_pos ⟨by rw [List.length_append]; simp; omega, by simp; omega⟩, show ((((s ++ [k]).length : Nat) : Int) + -1).toNat = s.length by rw [List.length_append]; simp; omega, List.getD_eq_getElem?_getD, List.append_assoc, List.getElem?_append_right (Nat.le_refl _), Nat.sub_self]
    rfl
/-- A node's length: its kids, or its data. -/
def lengthD (n : NodeD) : Nat := n.kids.length + n.data.length
theorem length_data {n : NodeD} (h : bareD n = true) (hk : hasDataK n.kind = true) : lengthD n = n.data.length := by
  unfold bareD at h
  simp only [Bool.and_eq_true] at h
  have h7 := h.1.2
  have hkk : hasKidsK n.kind = false := by
    unfold hasDataK at hk
    unfold hasKidsK
    simp at hk
    rcases hk with ((hk | hk) | hk) | hk <;> rw [hk] <;> rfl
  rw [hkk] at h7
  simp at h7
  unfold lengthD
  rw [h7]
  simp
theorem length_kids {n : NodeD} (h : bareD n = true) (hk : hasDataK n.kind = false) : lengthD n = n.kids.length := by
  unfold bareD at h
  simp only [Bool.and_eq_true] at h
  have h6 := h.1.1.2
  rw [hk] at h6
  simp at h6
  unfold lengthD
  rw [h6]
  simp
end Go.Proofs.YtfaeabjgplahgaaGreat

namespace Go.Proofs.YtfaeabjgplahgaaGreat
open Go.RowKit Go.Lib Go.Shelf

/-- A call of a function at a step of a region that draws its order; any number of arguments. -/
theorem step_callN {P : Program} (w : World) {ops : Array Oper} {o : Oper} {a : Act} {K : Act → World → Prop} {Q : Exit → Act → World → Prop} {E : Prop} (hgd : o.guard = none) (os : Array Operand) (ts : Array TypeId) (f : FuncId)
    (ho : o.op = .call { callee := .value (.func f), args := os, argTypes := ts }) (vs : Array Value) (hs : os.map a.eval = vs) (hE : (callFunc f vs).run P w = .ok (.enter f vs) w) (R : Ending → World → Prop)
    (hc : Calls P f vs w R) (h : ∀ e w', R e w' → ∃ v, e = .returned v ∧ K (a.put o.dst v) w') :
    if Region.wanted o (yielded ops a.tmps) = true then Oper.wp P o a w K Q else E := by
  have hw : Region.wanted o (yielded ops a.tmps) = true := by simp [Region.wanted, hgd]
  rw [if_pos hw]
  have hf : a.eval (.func f) = .func (.func f) #[] #[] := rfl
  unfold Oper.wp
  simp [execOp, ho, resolve, invoke, hs, hf, hE, Deferred.ofValue]
  refine hc.mono ?_
  rintro e w' hR
  obtain ⟨v, rfl, hK⟩ := h e w' hR
  exact hK

theorem enterParent (vs vx : Value) (w : World) : (callFunc 67 #[vs, vx]).run Tryz.prog w = .ok (.enter 67 #[vs, vx]) w := by kernel_rfl
theorem enterKids (vs vx : Value) (w : World) : (callFunc 28 #[vs, vx]).run Tryz.prog w = .ok (.enter 28 #[vs, vx]) w := by kernel_rfl
theorem enterNode (vs vx : Value) (w : World) : (callFunc 64 #[vs, vx]).run Tryz.prog w = .ok (.enter 64 #[vs, vx]) w := by kernel_rfl
theorem enterUpBy (vs vx vy : Value) (w : World) : (callFunc 66 #[vs, vx, vy]).run Tryz.prog w = .ok (.enter 66 #[vs, vx, vy]) w := by kernel_rfl

set_option maxRecDepth 100000 in
set_option maxHeartbeats 4000000 in
theorem oabove_any (b off cap : Nat) (x : Int) (ns : List NodeD) (w : World) (hF : FAt w b off cap ns) (hx : thereB ns.length x = true) :
    Calls Tryz.prog 31 #[forestV b off cap ns.length, .int .i64 x] w fun e w' => ∃ bh bo bf, e = .returned (upV bh bo bf) ∧ UpAt w' b off cap ns.length 67 bh bo bf (parentD ns x) ∧ Below w.heap.size w w' := by
  obtain ⟨j, hj, rfl⟩ := there_idx hx
  have HP : Hid (∀ W : World, Below w.heap.size w W → _) := fun W hW => parentOf_D b off cap j ns W (hF.later hW) hj
  have HU : Hid (∀ (z : Int) (W : World), _) := fun z W => upBy_any b off cap ns.length z 67 W
  have HX : Hid (∀ v1 : World, Below (w.heap.size + 1) (w.alloc (.cells #[.slice (some ⟨b, off, none⟩) ns.length cap] 24)) v1 → v1.cell? ⟨w.heap.size, 0, none⟩ = some (.slice (some ⟨b, off, none⟩) ns.length cap)) := fun v1 hB1 => (hB1.cell (p := ⟨w.heap.size, 0, none⟩) (by show w.heap.size < w.heap.size + 1; omega)).trans (by simp)
  have hB0 : Below (w.heap.size + 1) (w.alloc (.cells #[.slice (some ⟨b, off, none⟩) ns.length cap] 24)) (w.alloc (.cells #[.slice (some ⟨b, off, none⟩) ns.length cap] 24)).drew := (Below.refl _ _).drew
  unfold forestV upV at *
  generalize parentD ns ((j : Int) + 1) = p at *
  have hP := HP.out (w.alloc (.cells #[.slice (some ⟨b, off, none⟩) ns.length cap] 24)).drew (bx_below hB0)
  have HB0 := hid hB0
  clear hB0 hF hx
  go_enter Tryz.func31, Tryz.ntmps31
  go_upto_region 1 with fail
  go_cut [4] (fun t wx => (∃ bh bo bf, t = Value.func (.func 99) #[] #[.pointer (some ⟨bh, 0, none⟩), .pointer (some ⟨bo, 0, none⟩), .pointer (some ⟨bf, 0, none⟩)] ∧ UpAt wx b off cap ns.length 67 bh bo bf p) ∧ Below w.heap.size w wx)
  case first =>
    go_region_law (first
      | (refine step_call _ rfl (.tmp 6) (.tmp 7) 24 3 67 rfl (.agg #[.slice (some ⟨b, off, none⟩) ns.length cap]) (.int .i64 ((j : Int) + 1)) rfl rfl (enterParent _ _ _) _ hP ?_; rintro e v1 ⟨rfl, hb1⟩; refine ⟨_, rfl, ?_⟩; have hB1 := HB0.out.trans (hb1.mono (by simp)); have cb1 := HX.out v1 hB1; have hU := HU.out p v1; have HB1 := hid hB1; clear hb1 hB1)
      | (refine step_callN _ rfl #[.tmp 5, .tmp 8, .func 67] #[24, 3, 61] 66 rfl #[.agg #[.slice (some ⟨b, off, none⟩) ns.length cap], .int .i64 p, .func (.func 67) #[] #[]] (by simp [Act.eval]) (enterUpBy _ _ _ _) _ hU ?_; rintro e v2 ⟨rfl, e2⟩; refine ⟨_, rfl, ?_⟩; have hA := upAt_new b off cap ns.length 67 p v1; have hB2 := up_below b off cap ns.length 67 p v1; rw [← e2] at hA hB2; have HB2 := hid (HB1.out.trans (hB2.mono (bx_size HB1.out))); have HA := hid hA; clear hA hB2 e2))
    all_goals
      go_wp2_with fail
      go_meet
      exact ⟨⟨_, _, _, rfl, HA.out⟩, bx_below HB2.out⟩
  case rest =>
    obtain ⟨⟨bh, bo, bf, rfl, hA⟩, hBx⟩ := hcut
    have HA := hid hA
    have HBx := hid hBx
    clear hBx hA
    go_wp2
    go_ret
    exact ⟨bh, bo, bf, rfl, HA.out, HBx.out⟩

end Go.Proofs.YtfaeabjgplahgaaGreat

namespace Go.Proofs.YtfaeabjgplahgaaGreat
open Go.RowKit Go.Lib Go.Shelf

set_option maxRecDepth 100000 in
set_option maxHeartbeats 4000000 in
theorem lengthOf_any (b off cap j : Nat) (ns : List NodeD) (w : World) (hF : FAt w b off cap ns) (hj : j < ns.length) (hkl : ns[j].kids.length ≤ 1099511627776) (hdl : ns[j].data.length ≤ 1099511627776) :
    Calls Tryz.prog 73 #[forestV b off cap ns.length, .int .i64 ((j : Int) + 1)] w fun e w' => e = .returned (.int .i64 ((lengthD ns[j] : Nat) : Int)) ∧ Below w.heap.size w w' := by
  have HN : Hid (∀ W : World, _) := fun W => onode_any b off cap ns.length j W hj hF.len
  obtain ⟨L, hc, hd, ha, hk⟩ := hF.at_ j hj
  have HC : Hid (∀ W : World, Below w.heap.size w W → NodeCells W b (off + j * 16) ns[j] L) := fun W hW => hc.later hF.lt hW
  have hle := hF.len
  obtain ⟨D, A, K⟩ := L
  obtain ⟨od, cd, e1, _⟩ := hd
  obtain ⟨oa, ca, e2, _⟩ := ha
  obtain ⟨ok, ck, e3, _⟩ := hk
  simp only at e1 e2 e3
  subst e1 e2 e3
  have HX : Hid (∀ v1 : World, Below (w.heap.size + 1) (w.alloc (.cells #[.slice (some ⟨b, off, none⟩) ns.length cap] 24)) v1 → v1.cell? ⟨w.heap.size, 0, none⟩ = some (.slice (some ⟨b, off, none⟩) ns.length cap)) := fun v1 hB1 => (hB1.cell (p := ⟨w.heap.size, 0, none⟩) (by show w.heap.size < w.heap.size + 1; omega)).trans (by simp)
  have hB0 : Below (w.heap.size + 1) (w.alloc (.cells #[.slice (some ⟨b, off, none⟩) ns.length cap] 24)) (w.alloc (.cells #[.slice (some ⟨b, off, none⟩) ns.length cap] 24)).drew := (Below.refl _ _).drew
  unfold forestV lengthD at *
  have hN := HN.out (w.alloc (.cells #[.slice (some ⟨b, off, none⟩) ns.length cap] 24)).drew
  have HB0 := hid hB0
  have f1 : IntKind.i64.wrap ((ns[j].kids.length : Int) + (ns[j].data.length : Int)) = (((ns[j].kids.length + ns[j].data.length : Nat)) : Int) := by
    rw [wrap_small (by omega) (by omega)]
    omega
  clear hF hc hB0
  generalize ns[j] = n at *
  go_enter Tryz.func73, Tryz.ntmps73
  go_upto_region 1 with fail
  go_cut [4] (fun t wx => t = .int .i64 ((n.kids.length + n.data.length : Nat) : Int) ∧ Below w.heap.size w wx)
  case first =>
    go_region_law (first
      | (refine step_call _ rfl (.tmp 5) (.tmp 6) 24 3 64 rfl (.agg #[.slice (some ⟨b, off, none⟩) ns.length cap]) (.int .i64 ((j : Int) + 1)) (by simp [Act.eval]) (by simp [Act.eval]) (enterNode _ _ _) _ hN ?_; rintro e v1 ⟨rfl, hb1⟩; refine ⟨_, rfl, ?_⟩; have hB1 := HB0.out.trans (hb1.mono (by simp)); have cb1 := HX.out v1 hB1; have ck1 := (HC.out v1 (bx_below hB1)).kids; have cd1 := (HC.out v1 (bx_below hB1)).data; have hN2 := HN.out v1; have HB1 := hid hB1; clear hb1 hB1)
      | (refine step_call _ rfl (.tmp 12) (.tmp 13) 24 3 64 rfl (.agg #[.slice (some ⟨b, off, none⟩) ns.length cap]) (.int .i64 ((j : Int) + 1)) rfl rfl (enterNode _ _ _) _ hN2 ?_; rintro e v2 ⟨rfl, hb2⟩; refine ⟨_, rfl, ?_⟩; have hB2 := HB1.out.trans (hb2.mono (bx_size HB1.out)); have ck2 := (HC.out v2 (bx_below hB2)).kids; have cd2 := (HC.out v2 (bx_below hB2)).data; have HB2 := hid hB2; clear hb2 hB2))
    all_goals
      go_wp2_with fail
      go_meet
      exact ⟨rfl, bx_below HB2.out⟩
  case rest =>
    obtain ⟨rfl, hBx⟩ := hcut
    have HBx := hid hBx
    clear hBx
    go_wp2
    go_ret
    exact ⟨rfl, HBx.out⟩
end Go.Proofs.YtfaeabjgplahgaaGreat

namespace Go.Proofs.YtfaeabjgplahgaaGreat
open Go.RowKit Go.Lib Go.Shelf

set_option maxRecDepth 100000 in
set_option maxHeartbeats 4000000 in
theorem ahead_any (b off cap : Nat) (x : Int) (ns : List NodeD) (w : World) (hR : RightF ns) (hF : FAt w b off cap ns) (hx : thereB ns.length x = true) (hkl : ∀ (i : Nat) (hi : i < ns.length), ns[i].kids.length ≤ 1099511627776) :
    Calls Tryz.prog 80 #[forestV b off cap ns.length, .int .i64 x] w fun e w' => e = .returned (.int .i64 (prevD ns x)) ∧ Below w.heap.size w w' := by
  have HI : Hid (∀ W : World, Below w.heap.size w W → _) := fun W hW => indexOf_any b off cap x ns W hR (hF.later hW) hx hkl
  obtain ⟨j, hj, rfl⟩ := there_idx hx
  have HP : Hid (∀ W : World, Below w.heap.size w W → _) := fun W hW => parentOf_D b off cap j ns W (hF.later hW) hj
  have HX : Hid (∀ v1 : World, Below (w.heap.size + 1) (w.alloc (.cells #[.slice (some ⟨b, off, none⟩) ns.length cap] 24)) v1 → v1.cell? ⟨w.heap.size, 0, none⟩ = some (.slice (some ⟨b, off, none⟩) ns.length cap)) := fun v1 hB1 => (hB1.cell (p := ⟨w.heap.size, 0, none⟩) (by show w.heap.size < w.heap.size + 1; omega)).trans (by simp)
  have hB0 : Below (w.heap.size + 1) (w.alloc (.cells #[.slice (some ⟨b, off, none⟩) ns.length cap] 24)) (w.alloc (.cells #[.slice (some ⟨b, off, none⟩) ns.length cap] 24)) := Below.refl _ _
  obtain ⟨R, hRR⟩ : ∃ R, prevD ns ((j : Int) + 1) = R := ⟨_, rfl⟩
  rw [hRR]
  unfold prevD at hRR
  by_cases h0 : indexD ns ((j : Int) + 1) = 0
  · rw [h0] at hRR HI
    have hRp : parentD ns ((j : Int) + 1) = R := hRR
    rw [hRp] at HP
    have HB0 := hid hB0
    clear hRR hRp h0 hB0 hF hR hkl hx
    unfold forestV at *
    go_enter Tryz.func80, Tryz.ntmps80
    go_wp2_with fail
    refine (HI.out _ (bx_below HB0.out)).mono ?_
    rintro e v1 ⟨rfl, hb1⟩
    have HB1 := hid (HB0.out.trans (hb1.mono (by simp)))
    have cb1 := HX.out v1 HB1.out
    clear hb1
    go_wp2_with fail
    refine (HP.out _ (bx_below HB1.out)).mono ?_
    rintro e v2 ⟨rfl, hb2⟩
    have HB2 := hid (HB1.out.trans (hb2.mono (bx_size HB1.out)))
    clear hb2
    go_wp2
    go_ret
    exact ⟨rfl, bx_below HB2.out⟩
  · rw [beq_eq_false_iff_ne.2 h0, if_neg Bool.false_ne_true] at hRR
    have hp0 : parentD ns ((j : Int) + 1) ≠ 0 := fun hp => h0 (by unfold indexD; rw [hp]; rfl)
    obtain ⟨iI, hiI, hlt⟩ := index_in hR hx hp0
    have hpt := hR.kidsHang.up_there hx hp0
    obtain ⟨m, rfl⟩ : ∃ m, iI = m + 1 := ⟨iI - 1, by rw [hiI] at h0; omega⟩
    have hiI' : indexD ns ((j : Int) + 1) = (m : Int) + 1 := by rw [hiI]; omega
    rw [hiI'] at hRR HI
    rw [show ((m : Int) + 1 - 1).toNat = m by omega] at hRR
    have hmem : (kidsD ns (parentD ns ((j : Int) + 1))).getD m 0 ∈ kidsD ns (parentD ns ((j : Int) + 1)) := getD_mem _ _ (by omega)
    have hat := (hR.kidsHang.down _ _ hpt hmem).1
    obtain ⟨i, hi, hpi⟩ := there_idx hpt
    have hkd : kidsD ns (parentD ns ((j : Int) + 1)) = ns[i].kids := by rw [hpi]; unfold kidsD; rw [nodeOf_at ns i hi]
    rw [hkd] at hRR hmem hat hlt
    rw [hpi] at HP
    have HK : Hid (∀ W : World, Below w.heap.size w W → _) := fun W hW => kidsOf_at b off cap i ns w W hF hW hi
    have HKs : Hid (∀ (k : Nat) (hk : k < ns.length) (W : World), Below w.heap.size w W → _) := fun k hk W hW => kidsOf_at b off cap k ns w W hF hW hk
    have HKl := hid hkl
    have hl := hkl i hi
    have hne : (((m : Int) + 1) == 0) = false := beq_eq_false_iff_ne.2 (by omega)
    have f1 : IntKind.i64.wrap ((m : Int) + 1 - 1) = (m : Int) := by rw [wrap_small (by omega) (by omega)]; omega
    have f2 : IntKind.i64.wrap (m : Int) = (m : Int) := wrap_small (by omega) (by omega)
    have q1 : (0 : Int) ≤ (m : Int) := by omega
    have q2 : (m : Int) < (ns[i].kids.length : Int) := by omega
    have HRR := hid hRR
    have HAt := hid hat
    have HB0 := hid hB0
    clear hRR hat h0 hB0 hF hkl hx hkd hpi hp0 hiI hiI' hpt hmem
    unfold forestV at *
    have hgd : ns[i].kids.getD m 0 = ns[i].kids[m]'(by omega) := by rw [List.getD_eq_getElem?_getD, List.getElem?_eq_getElem (by omega)]; rfl
    rw [hgd] at HRR HAt
    clear hgd
    obtain ⟨A, hA⟩ : ∃ A, ns[i].kids[m]'(by omega) = A := ⟨_, rfl⟩
    rw [hA] at HRR HAt
    have HA := hid hA
    clear hA
    go_enter Tryz.func80, Tryz.ntmps80
    go_wp2_with fail
    refine (HI.out _ (bx_below HB0.out)).mono ?_
    rintro e v1 ⟨rfl, hb1⟩
    have hB1 := HB0.out.trans (hb1.mono (by simp))
    have cb1 := HX.out v1 hB1
    have hP := HP.out v1.drew (bx_below hB1).drew
    have HB1 := hid hB1
    clear hb1 hB1
    go_upto_region 4 with fail
    go_cut [6] (fun t wx => t = .int .i64 A ∧ Below (w.heap.size + 1) (w.alloc (.cells #[.slice (some ⟨b, off, none⟩) ns.length cap] 24)) wx)
    case first =>
      go_region_law (first
        | (refine step_call _ rfl (.tmp 17) (.tmp 18) 24 3 67 rfl (.agg #[.slice (some ⟨b, off, none⟩) ns.length cap]) (.int .i64 ((j : Int) + 1)) (by first | (simp [Act.eval]; done) | (simp [Act.eval, Act.put]; done)) (by first | (simp [Act.eval]; done) | (simp [Act.eval, Act.put]; done)) (enterParent _ _ _) _ hP ?_; rintro e v2 ⟨rfl, hb2⟩; refine ⟨_, rfl, ?_⟩; have hB2 := HB1.out.drew.trans (hb2.mono (bx_size HB1.out.drew)); have cb2 := HX.out v2 hB2; have hK := HK.out v2 (bx_below hB2); have HB2 := hid hB2; clear hb2 hB2)
        | (refine step_call _ rfl (.tmp 16) (.tmp 19) 24 3 28 rfl (.agg #[.slice (some ⟨b, off, none⟩) ns.length cap]) (.int .i64 ((i : Int) + 1)) (by first | (simp [Act.eval]; done) | (simp [Act.eval, Act.put]; done)) (by first | (simp [Act.eval]; done) | (simp [Act.eval, Act.put]; done)) (enterKids _ _ _) _ hK ?_; rintro e v3 ⟨vk, rfl, hrk, hb3⟩; refine ⟨_, rfl, ?_⟩; obtain ⟨ok, ck, rfl, hck, gk⟩ := hrk; obtain ⟨bk, offk, rfl, hltk, hak⟩ := gk (Nat.lt_of_le_of_lt (Nat.zero_le _) (Int.ofNat_lt.1 q2)); have hB3 := HB2.out.trans (hb3.mono (bx_size HB2.out)); have x1 := ((bx_below hB3).cell (p := ⟨bk, offk + m, none⟩) hltk).trans (hak m (Int.ofNat_lt.1 q2)); rw [HA.out] at x1; have HB3 := hid hB3; clear hb3 hB3 hak gk))
      all_goals
        go_wp2_with fail
        go_meet
        exact ⟨rfl, HB3.out⟩
    case rest =>
      obtain ⟨rfl, hBx⟩ := hcut
      clear HA
      clear hP HI HP HK f1 f2 q1 q2 hne hl HB0 HB1 cb1
      obtain ⟨k0, hk0, rfl⟩ := there_idx HAt.out
      have hK0 := HKs.out k0 hk0 _ (bx_below hBx)
      have cbx := HX.out _ hBx
      have HBx := hid hBx
      clear hBx HAt
      go_wp2_with fail
      refine hK0.mono ?_
      rintro e v4 ⟨vk, rfl, hrk, hb4⟩
      have Hrk := hid hrk
      obtain ⟨ok, ck, rfl, hck, gk⟩ := hrk
      have HB4 := hid (HBx.out.trans (hb4.mono (bx_size HBx.out)))
      clear hb4 HBx hK0 cbx hck gk
      go_wp2
      go_loopw [6, 7] (fun t v wr => ∃ (k : Nat) (hk : k < ns.length), t = .int .i64 ((k : Int) + 1) ∧ (∃ ok ck, v = .slice ok (ns[k]'hk).kids.length ck ∧ Hid (RdI w (.slice ok (ns[k]'hk).kids.length ck) (ns[k]'hk).kids)) ∧ Hid (Below (w.heap.size + 1) (w.alloc (.cells #[.slice (some ⟨b, off, none⟩) ns.length cap] 24)) wr) ∧ Hid (lastI (allD ns ((k : Int) + 1)) = R)) (fun t _ _ => ns.length - (pathUp ns (parentD ns) (RowKit.intOf t)).length)
      case atStart => exact ⟨k0, hk0, rfl, ⟨ok, ck, rfl, Hrk⟩, HB4, HRR⟩
      case round =>
        obtain ⟨k, hk, rfl, ⟨ok, ck, rfl, Hrd⟩, hB, hr⟩ := hrel
        have hkt := thereB_idx ns.length k hk
        have hkd : kidsD ns ((k : Int) + 1) = ns[k].kids := by unfold kidsD; rw [nodeOf_at ns k hk]
        clear HRR HB4 Hrk
        by_cases hz : ns[k].kids.length = 0
        · have hRk : R = (k : Int) + 1 := by
            rw [← hr.out]
            exact last_nil hR hkt (by rw [hkd]; exact List.eq_nil_of_length_eq_zero hz)
          subst hRk
          rw [hz]
          clear hr hkd Hrd
          go_wp2
          go_ret
          exact ⟨rfl, bx_below hB.out⟩
        · obtain ⟨s, z, hsz⟩ := snoc_of (l := ns[k].kids) (fun h => hz (by rw [h]; rfl))
          have hlast := last_snoc_all hR hkt (hkd.trans hsz)
          have hzm : z ∈ kidsD ns ((k : Int) + 1) := by rw [hkd, hsz]; simp
          have hzt := (hR.kidsHang.down _ z hkt hzm).1
          have hdp := hR.kidsHang.deep hkt hzm
          have hpl := hR.kidsHang.len hzt
          obtain ⟨k2, hk2, rfl⟩ := there_idx hzt
          have hL : ns[k].kids.length = s.length + 1 := by rw [hsz]; simp
          have hLb := HKl.out k hk
          obtain ⟨o5, c5, e5, _, gk⟩ := Hrd.out
          simp only [Value.slice.injEq] at e5
          obtain ⟨rfl, -, rfl⟩ := e5
          obtain ⟨bk, offk, rfl, hltk, hak⟩ := gk (by omega)
          have x1 := ((bx_below hB.out).cell (p := ⟨bk, offk + s.length, none⟩) hltk).trans (hak s.length (by omega))
          have hge : ns[k].kids[s.length]'(by omega) = (k2 : Int) + 1 := by simp [hsz]
          rw [hge] at x1
          have cbx := HX.out _ hB.out
          have hK2 := HKs.out k2 hk2 _ (bx_below hB.out)
          have Hn : Hid (lastI (allD ns ((k2 : Int) + 1)) = R) := hlast.symm.trans hr.out
          have HM := hid (show (pathUp ns (parentD ns) ((k : Int) + 1)).length < (pathUp ns (parentD ns) ((k2 : Int) + 1)).length ∧ (pathUp ns (parentD ns) ((k2 : Int) + 1)).length ≤ ns.length from ⟨by omega, hpl⟩)
          rw [hL] at hLb ⊢
          have q1 : (0 : Int) ≤ (s.length : Int) := by omega
          have q2 : (s.length : Int) < (s.length : Int) + 1 := by omega
          clear hr hkd Hrd hak gk hsz hlast hzm hzt hdp hpl hge hL hz hkt
          go_wp2_with fail
          refine hK2.mono ?_
          rintro e v5 ⟨vk, rfl, hrk2, hb5⟩
          have Hrk2 := hid hrk2
          obtain ⟨o6, c6, rfl, _, _⟩ := hrk2
          have HB5 := hid (hB.out.trans (hb5.mono (bx_size hB.out)))
          clear hb5 hK2
          go_wp2
          go_roundw
          case rel => exact ⟨k2, hk2, rfl, ⟨o6, c6, rfl, Hrk2⟩, HB5, Hn⟩
          case measure =>
            simp only [RowKit.intOf]
            have := HM.out
            omega
end Go.Proofs.YtfaeabjgplahgaaGreat

namespace Go.Proofs.YtfaeabjgplahgaaGreat
open Go.RowKit Go.Lib Go.Shelf
set_option maxRecDepth 100000 in
set_option maxHeartbeats 4000000 in
theorem toldDeep_any (o : Option Addr) (cap u1 u2 : Nat) (R : List Int) (v : Value) (hs : List Int) (ns : List NodeD) (w : World) (hF : FRd w o cap ns) (hkl : ∀ (i : Nat) (hi : i < ns.length), ns[i].kids.length ≤ 1099511627776) (hal : ∀ (i : Nat) (hi : i < ns.length), ns[i].attrs.length ≤ 1099511627776) (hv : RdI w v hs) (hl : hs.length ≤ 1099511627776)
    (hT : toldE ns hs = 0 → ∀ W : World, Below w.heap.size w W → Calls Tryz.prog 32 #[.pointer (some ⟨u1, 0, none⟩), .pointer (some ⟨u2, 0, none⟩)] W fun e w' => ∃ v, e = .returned v ∧ w'.ownsRow w.heap.size 3 1 v R.length (R.map (Value.int .i64)) ∧ Below W.heap.size W w') :
    Calls Tryz.prog 25 #[.agg #[.slice o ns.length cap], .func (.func 32) #[] #[.pointer (some ⟨u1, 0, none⟩), .pointer (some ⟨u2, 0, none⟩)], v] w fun e w' => ∃ v, e = .returned (.tuple #[v, .int .i64 (toldE ns hs)]) ∧ w'.ownsRow w.heap.size 3 1 v (if toldE ns hs = 0 then R else []).length ((if toldE ns hs = 0 then R else []).map (Value.int .i64)) ∧ Below w.heap.size w w' := by
  have HC : Hid (∀ W : World, Below w.heap.size w W → _) := fun W hW => Check_any o cap ns W (hF.later hW) hkl hal
  have hle := hF.len
  obtain ⟨o2, c2, rfl, hc2, g2⟩ := hv
  clear hF hkl hal
  generalize checkN ns = CN at *
  cases hr : rightD ns with
  | false =>
    have e0 : toldE ns hs = 5 := by unfold toldE; rw [hr]; rfl
    have e1 : checkE ns = 5 := by unfold checkE; rw [hr]; rfl
    rw [e0, if_neg (by decide)]
    rw [e1] at HC
    clear hT e0 e1 g2
    go_enter Tryz.func25, Tryz.ntmps25
    go_wp2_with fail
    refine (HC.out _ ((Below.refl _ w).alloc (Nat.le_refl _) _)).mono ?_
    rintro e v1 ⟨rfl, hb1⟩
    go_wp2
    go_ret2
    exact ⟨_, rfl, World.ownsRow_nil _ _ _ _, box_go hb1⟩
  | true =>
    have e1 : checkE ns = 0 := (checkE_right hr).1
    rw [e1] at HC
    obtain ⟨E, hE⟩ : ∃ E, toldE ns hs = E := ⟨_, rfl⟩
    rw [hE] at hT ⊢
    have HE : Hid ((if (hs.drop 0).all (thereB ns.length) then (0 : Int) else 2) = E) := by
      have := hE
      unfold toldE at this
      rw [hr, if_pos rfl] at this
      exact this
    obtain ⟨T, hTe⟩ : ∃ T, (if E = 0 then R else []) = T := ⟨_, rfl⟩
    rw [hTe]
    have HTe := hid hTe
    have HT := hid hT
    clear hE hT e1 hTe
    go_enter Tryz.func25, Tryz.ntmps25
    go_wp2_with fail
    refine (HC.out _ ((Below.refl _ w).alloc (Nat.le_refl _) _)).mono ?_
    rintro e v1 ⟨rfl, hb1⟩
    have HB1 := hid (box_go hb1)
    have cb := box_forest hb1
    clear hb1 HC
    go_wp2
    go_loopw [24] (fun t wr => ∃ k : Nat, k ≤ hs.length ∧ t = .int .i64 k ∧ wr = v1 ∧ Hid ((if (hs.drop k).all (thereB ns.length) then (0 : Int) else 2) = E)) (fun t _ => hs.length - (RowKit.intOf t).toNat)
    case atStart => exact ⟨0, Nat.zero_le _, rfl, rfl, HE⟩
    case round =>
      obtain ⟨k, k1, rfl, rfl, hK⟩ := hrel
      by_cases hlt : k < hs.length
      · obtain ⟨b, off, rfl, hlt1, ha⟩ := g2 (by omega)
        have x1 := (HB1.out.cell (p := ⟨b, off + k, none⟩) hlt1).trans (ha k hlt)
        have q1 : (0 : Int) ≤ (k : Int) := by omega
        have q2 : (k : Int) < (hs.length : Int) := by omega
        have hk := hK.out
        rw [List.drop_eq_getElem_cons hlt, List.all_cons] at hk
        have Hk := hid hk
        clear hk hK ha g2
        generalize hs[k] = a at *
        by_cases g1 : a < 1
        · have hf : thereB ns.length a = false := by unfold thereB; rw [decide_eq_false (by omega)]; rfl
          have hE2 : E = 2 := by rw [← Hk.out, hf]; rfl
          subst hE2
          have hT0 : T = [] := by rw [← HTe.out]; rfl
          subst hT0
          have d1 : decide (a < 1) = true := decide_eq_true g1
          clear Hk hf HT
          go_wp2
          go_ret2
          exact ⟨_, rfl, World.ownsRow_nil _ _ _ _, HB1.out⟩
        · have d1 : decide (a < 1) = false := decide_eq_false g1
          by_cases g3 : (ns.length : Int) < a
          · have hf : thereB ns.length a = false := by unfold thereB; rw [decide_eq_false (p := a ≤ (ns.length : Int)) (by omega), Bool.and_false]
            have hE2 : E = 2 := by rw [← Hk.out, hf]; rfl
            subst hE2
            have hT0 : T = [] := by rw [← HTe.out]; rfl
            subst hT0
            have d2 : decide ((ns.length : Int) < a) = true := decide_eq_true g3
            clear Hk hf HT
            go_wp2
            go_ret2
            exact ⟨_, rfl, World.ownsRow_nil _ _ _ _, HB1.out⟩
          · have hf : thereB ns.length a = true := by unfold thereB; rw [decide_eq_true (by omega), decide_eq_true (by omega)]; rfl
            have d2 : decide ((ns.length : Int) < a) = false := decide_eq_false g3
            have Hn : Hid ((if (hs.drop (k + 1)).all (thereB ns.length) then (0 : Int) else 2) = E) := by
              have h := Hk.out
              rw [hf, Bool.true_and] at h
              exact h
            clear Hk hf
            go_wp2
            go_roundw
            case rel => exact ⟨k + 1, by omega, by go_num, trivial, Hn⟩
            case measure => simp [RowKit.intOf]; omega
      · have hE0 : E = 0 := by rw [← hK.out, List.drop_eq_nil_of_le (by omega)]; rfl
        subst hE0
        have hT := HT.out rfl wr HB1.out
        have hT0 : T = R := by rw [← HTe.out]; rfl
        subst hT0
        clear hK g2 HT HTe
        go_wp2_with fail
        refine hT.mono ?_
        rintro e v2 ⟨vr, rfl, hrow, hb2⟩
        have HB2 := hid (HB1.out.trans (hb2.mono HB1.out.size))
        have HRow := hid hrow
        clear hT hb2 hrow
        go_wp2
        go_ret2
        exact ⟨_, rfl, HRow.out, HB2.out⟩

set_option maxRecDepth 100000 in
set_option maxHeartbeats 4000000 in
theorem Deep_no (o : Option Addr) (cap : Nat) (x : Int) (ns : List NodeD) (w : World) (hF : FRd w o cap ns) (hkl : ∀ (i : Nat) (hi : i < ns.length), ns[i].kids.length ≤ 1099511627776) (hal : ∀ (i : Nat) (hi : i < ns.length), ns[i].attrs.length ≤ 1099511627776) (hno : toldE ns [x] ≠ 0) :
    Calls Tryz.prog 9 #[.agg #[.slice o ns.length cap], .int .i64 x] w fun e w' => ∃ v, e = .returned (.tuple #[v, .int .i64 (toldE ns [x])]) ∧ w'.ownsRow w.heap.size 3 1 v (if toldE ns [x] = 0 then ([] : List Int) else []).length ((if toldE ns [x] = 0 then ([] : List Int) else []).map (Value.int .i64)) ∧ Below w.heap.size w w' := by
  have hB3 : Below w.heap.size w (((w.alloc (.cells #[.slice o ns.length cap] 24)).alloc (.cells #[.int .i64 x] 3)).alloc (.cells #[.int .i64 x] 3)) := (((Below.refl _ w).alloc (Nat.le_refl _) _).alloc (by simp) _).alloc (by simp; omega) _
  have k0 := new_cell_l w (.slice o ns.length cap) 24
  have k1 := new_cell_l (w.alloc (.cells #[.slice o ns.length cap] 24)) (.int .i64 x) 3
  have kr := one_rdI ((w.alloc (.cells #[.slice o ns.length cap] 24)).alloc (.cells #[.int .i64 x] 3)) x 3
  simp only [World.size_alloc] at k1 kr
  have c0 := keep_cell_l (.cells #[.int .i64 x] 3) (keep_cell_l (.cells #[.int .i64 x] 3) k0.1)
  have c1 := keep_cell_l (.cells #[.int .i64 x] 3) k1.1
  have s0 : w.heap.size < (((w.alloc (.cells #[.slice o ns.length cap] 24)).alloc (.cells #[.int .i64 x] 3)).alloc (.cells #[.int .i64 x] 3)).heap.size := by simp only [World.size_alloc]; omega
  have hT := toldDeep_any o cap w.heap.size (w.heap.size + 1) (([] : List Int)) (.slice (some ⟨w.heap.size + 1 + 1, 0, none⟩) 1 1) [x] ns (((w.alloc (.cells #[.slice o ns.length cap] 24)).alloc (.cells #[.int .i64 x] 3)).alloc (.cells #[.int .i64 x] 3)) (hF.later hB3) hkl hal kr (by simp) (fun hE => absurd hE hno)
  generalize (if toldE ns [x] = 0 then ([] : List Int) else []) = A at *
  generalize toldE ns [x] = E at *
  have HB3 := hid hB3
  clear k0 k1 kr c0 c1 s0 hF hkl hal hB3 hno
  go_enter Tryz.func9, Tryz.ntmps9
  go_wp2_with fail
  refine hT.mono ?_
  rintro e v1 ⟨v, rfl, hrow, hb1⟩
  have HRow := hid (ownsRow_base hrow HB3.out.size)
  have HB := hid (HB3.out.trans (hb1.mono HB3.out.size))
  clear hT hb1 HB3 hrow
  go_wp2
  go_ret2
  exact ⟨_, rfl, HRow.out, HB.out⟩
set_option maxRecDepth 100000 in
set_option maxHeartbeats 4000000 in
theorem toldConnected_any (o : Option Addr) (cap u1 u2 : Nat) (R : Bool) (v : Value) (hs : List Int) (ns : List NodeD) (w : World) (hF : FRd w o cap ns) (hkl : ∀ (i : Nat) (hi : i < ns.length), ns[i].kids.length ≤ 1099511627776) (hal : ∀ (i : Nat) (hi : i < ns.length), ns[i].attrs.length ≤ 1099511627776) (hv : RdI w v hs) (hl : hs.length ≤ 1099511627776)
    (hT : toldE ns hs = 0 → ∀ W : World, Below w.heap.size w W → Calls Tryz.prog 102 #[.pointer (some ⟨u1, 0, none⟩), .pointer (some ⟨u2, 0, none⟩)] W fun e w' => e = .returned (.bool R) ∧ Below W.heap.size W w') :
    Calls Tryz.prog 101 #[.agg #[.slice o ns.length cap], .func (.func 102) #[] #[.pointer (some ⟨u1, 0, none⟩), .pointer (some ⟨u2, 0, none⟩)], v] w fun e w' => e = .returned (.tuple #[.bool (if toldE ns hs = 0 then R else false), .int .i64 (toldE ns hs)]) ∧ Below w.heap.size w w' := by
  have HC : Hid (∀ W : World, Below w.heap.size w W → _) := fun W hW => Check_any o cap ns W (hF.later hW) hkl hal
  have hle := hF.len
  obtain ⟨o2, c2, rfl, hc2, g2⟩ := hv
  clear hF hkl hal
  generalize checkN ns = CN at *
  cases hr : rightD ns with
  | false =>
    have e0 : toldE ns hs = 5 := by unfold toldE; rw [hr]; rfl
    have e1 : checkE ns = 5 := by unfold checkE; rw [hr]; rfl
    rw [e0, if_neg (by decide)]
    rw [e1] at HC
    clear hT e0 e1 g2
    go_enter Tryz.func101, Tryz.ntmps101
    go_wp2_with fail
    refine (HC.out _ ((Below.refl _ w).alloc (Nat.le_refl _) _)).mono ?_
    rintro e v1 ⟨rfl, hb1⟩
    go_wp2
    go_ret2
    exact ⟨rfl, box_go hb1⟩
  | true =>
    have e1 : checkE ns = 0 := (checkE_right hr).1
    rw [e1] at HC
    obtain ⟨E, hE⟩ : ∃ E, toldE ns hs = E := ⟨_, rfl⟩
    rw [hE] at hT ⊢
    have HE : Hid ((if (hs.drop 0).all (thereB ns.length) then (0 : Int) else 2) = E) := by
      have := hE
      unfold toldE at this
      rw [hr, if_pos rfl] at this
      exact this
    obtain ⟨T, hTe⟩ : ∃ T, (if E = 0 then R else false) = T := ⟨_, rfl⟩
    rw [hTe]
    have HTe := hid hTe
    have HT := hid hT
    clear hE hT e1 hTe
    go_enter Tryz.func101, Tryz.ntmps101
    go_wp2_with fail
    refine (HC.out _ ((Below.refl _ w).alloc (Nat.le_refl _) _)).mono ?_
    rintro e v1 ⟨rfl, hb1⟩
    have HB1 := hid (box_go hb1)
    have cb := box_forest hb1
    clear hb1 HC
    go_wp2
    go_loopw [24] (fun t wr => ∃ k : Nat, k ≤ hs.length ∧ t = .int .i64 k ∧ wr = v1 ∧ Hid ((if (hs.drop k).all (thereB ns.length) then (0 : Int) else 2) = E)) (fun t _ => hs.length - (RowKit.intOf t).toNat)
    case atStart => exact ⟨0, Nat.zero_le _, rfl, rfl, HE⟩
    case round =>
      obtain ⟨k, k1, rfl, rfl, hK⟩ := hrel
      by_cases hlt : k < hs.length
      · obtain ⟨b, off, rfl, hlt1, ha⟩ := g2 (by omega)
        have x1 := (HB1.out.cell (p := ⟨b, off + k, none⟩) hlt1).trans (ha k hlt)
        have q1 : (0 : Int) ≤ (k : Int) := by omega
        have q2 : (k : Int) < (hs.length : Int) := by omega
        have hk := hK.out
        rw [List.drop_eq_getElem_cons hlt, List.all_cons] at hk
        have Hk := hid hk
        clear hk hK ha g2
        generalize hs[k] = a at *
        by_cases g1 : a < 1
        · have hf : thereB ns.length a = false := by unfold thereB; rw [decide_eq_false (by omega)]; rfl
          have hE2 : E = 2 := by rw [← Hk.out, hf]; rfl
          subst hE2
          have hT0 : T = false := by rw [← HTe.out]; rfl
          subst hT0
          have d1 : decide (a < 1) = true := decide_eq_true g1
          clear Hk hf HT
          go_wp2
          go_ret2
          exact ⟨rfl, HB1.out⟩
        · have d1 : decide (a < 1) = false := decide_eq_false g1
          by_cases g3 : (ns.length : Int) < a
          · have hf : thereB ns.length a = false := by unfold thereB; rw [decide_eq_false (p := a ≤ (ns.length : Int)) (by omega), Bool.and_false]
            have hE2 : E = 2 := by rw [← Hk.out, hf]; rfl
            subst hE2
            have hT0 : T = false := by rw [← HTe.out]; rfl
            subst hT0
            have d2 : decide ((ns.length : Int) < a) = true := decide_eq_true g3
            clear Hk hf HT
            go_wp2
            go_ret2
            exact ⟨rfl, HB1.out⟩
          · have hf : thereB ns.length a = true := by unfold thereB; rw [decide_eq_true (by omega), decide_eq_true (by omega)]; rfl
            have d2 : decide ((ns.length : Int) < a) = false := decide_eq_false g3
            have Hn : Hid ((if (hs.drop (k + 1)).all (thereB ns.length) then (0 : Int) else 2) = E) := by
              have h := Hk.out
              rw [hf, Bool.true_and] at h
              exact h
            clear Hk hf
            go_wp2
            go_roundw
            case rel => exact ⟨k + 1, by omega, by go_num, trivial, Hn⟩
            case measure => simp [RowKit.intOf]; omega
      · have hE0 : E = 0 := by rw [← hK.out, List.drop_eq_nil_of_le (by omega)]; rfl
        subst hE0
        have hT := HT.out rfl wr HB1.out
        have hT0 : T = R := by rw [← HTe.out]; rfl
        subst hT0
        clear hK g2 HT HTe
        go_wp2_with fail
        refine hT.mono ?_
        rintro e v2 ⟨rfl, hb2⟩
        have HB2 := hid (HB1.out.trans (hb2.mono HB1.out.size))
        clear hT hb2
        go_wp2
        go_ret2
        exact ⟨rfl, HB2.out⟩

set_option maxRecDepth 100000 in
set_option maxHeartbeats 4000000 in
theorem Connected_no (o : Option Addr) (cap : Nat) (x : Int) (ns : List NodeD) (w : World) (hF : FRd w o cap ns) (hkl : ∀ (i : Nat) (hi : i < ns.length), ns[i].kids.length ≤ 1099511627776) (hal : ∀ (i : Nat) (hi : i < ns.length), ns[i].attrs.length ≤ 1099511627776) (hno : toldE ns [x] ≠ 0) :
    Calls Tryz.prog 69 #[.agg #[.slice o ns.length cap], .int .i64 x] w fun e w' => e = .returned (.tuple #[.bool (if toldE ns [x] = 0 then false else false), .int .i64 (toldE ns [x])]) ∧ Below w.heap.size w w' := by
  have hB3 : Below w.heap.size w (((w.alloc (.cells #[.slice o ns.length cap] 24)).alloc (.cells #[.int .i64 x] 3)).alloc (.cells #[.int .i64 x] 3)) := (((Below.refl _ w).alloc (Nat.le_refl _) _).alloc (by simp) _).alloc (by simp; omega) _
  have k0 := new_cell_l w (.slice o ns.length cap) 24
  have k1 := new_cell_l (w.alloc (.cells #[.slice o ns.length cap] 24)) (.int .i64 x) 3
  have kr := one_rdI ((w.alloc (.cells #[.slice o ns.length cap] 24)).alloc (.cells #[.int .i64 x] 3)) x 3
  simp only [World.size_alloc] at k1 kr
  have c0 := keep_cell_l (.cells #[.int .i64 x] 3) (keep_cell_l (.cells #[.int .i64 x] 3) k0.1)
  have c1 := keep_cell_l (.cells #[.int .i64 x] 3) k1.1
  have s0 : w.heap.size < (((w.alloc (.cells #[.slice o ns.length cap] 24)).alloc (.cells #[.int .i64 x] 3)).alloc (.cells #[.int .i64 x] 3)).heap.size := by simp only [World.size_alloc]; omega
  have hT := toldConnected_any o cap w.heap.size (w.heap.size + 1) false (.slice (some ⟨w.heap.size + 1 + 1, 0, none⟩) 1 1) [x] ns (((w.alloc (.cells #[.slice o ns.length cap] 24)).alloc (.cells #[.int .i64 x] 3)).alloc (.cells #[.int .i64 x] 3)) (hF.later hB3) hkl hal kr (by simp) (fun hE => absurd hE hno)
  generalize (if toldE ns [x] = 0 then false else false) = A at *
  generalize toldE ns [x] = E at *
  have HB3 := hid hB3
  clear k0 k1 kr c0 c1 s0 hF hkl hal hB3 hno
  go_enter Tryz.func69, Tryz.ntmps69
  go_wp2_with fail
  refine hT.mono ?_
  rintro e v1 ⟨rfl, hb1⟩
  have HB := hid (HB3.out.trans (hb1.mono HB3.out.size))
  clear hT hb1 HB3
  go_wp2
  go_ret2
  exact ⟨rfl, HB.out⟩
end Go.Proofs.YtfaeabjgplahgaaGreat

namespace Go.Proofs.YtfaeabjgplahgaaGreat
open Go.RowKit Go.Lib Go.Shelf

set_option maxRecDepth 100000 in
set_option maxHeartbeats 2000000 in
theorem Index1_any (b off cap u1 u2 : Nat) (x : Int) (ns : List NodeD) (w : World) (hR : RightF ns) (hF : FAt w b off cap ns) (hx : thereB ns.length x = true) (hkl : ∀ (i : Nat) (hi : i < ns.length), ns[i].kids.length ≤ 1099511627776)
    (c1 : w.cell? ⟨u1, 0, none⟩ = some (.slice (some ⟨b, off, none⟩) ns.length cap)) (c2 : w.cell? ⟨u2, 0, none⟩ = some (.int .i64 x)) :
    Calls Tryz.prog 70 #[.pointer (some ⟨u1, 0, none⟩), .pointer (some ⟨u2, 0, none⟩)] w fun e w' => e = .returned (.int .i64 (indexD ns x)) ∧ Below w.heap.size w w' := by
  have hP := indexOf_any b off cap x ns w hR hF hx hkl
  unfold forestV at hP
  generalize indexD ns x = P at *
  clear hkl
  go_enter Tryz.func70, Tryz.ntmps70
  go_wp2_with fail
  refine hP.mono ?_
  rintro e v1 ⟨rfl, hb1⟩
  have HB := hid hb1
  clear hP hb1
  go_wp2
  go_ret
  exact ⟨rfl, HB.out⟩

set_option maxRecDepth 100000 in
set_option maxHeartbeats 4000000 in
theorem toldIndex_any (o : Option Addr) (cap u1 u2 : Nat) (R : Int) (v : Value) (hs : List Int) (ns : List NodeD) (w : World) (hF : FRd w o cap ns) (hkl : ∀ (i : Nat) (hi : i < ns.length), ns[i].kids.length ≤ 1099511627776) (hal : ∀ (i : Nat) (hi : i < ns.length), ns[i].attrs.length ≤ 1099511627776) (hv : RdI w v hs) (hl : hs.length ≤ 1099511627776)
    (hT : toldE ns hs = 0 → ∀ W : World, Below w.heap.size w W → Calls Tryz.prog 70 #[.pointer (some ⟨u1, 0, none⟩), .pointer (some ⟨u2, 0, none⟩)] W fun e w' => e = .returned (.int .i64 R) ∧ Below W.heap.size W w') :
    Calls Tryz.prog 55 #[.agg #[.slice o ns.length cap], .func (.func 70) #[] #[.pointer (some ⟨u1, 0, none⟩), .pointer (some ⟨u2, 0, none⟩)], v] w fun e w' => e = .returned (.tuple #[.int .i64 (if toldE ns hs = 0 then R else 0), .int .i64 (toldE ns hs)]) ∧ Below w.heap.size w w' := by
  have HC : Hid (∀ W : World, Below w.heap.size w W → _) := fun W hW => Check_any o cap ns W (hF.later hW) hkl hal
  have hle := hF.len
  obtain ⟨o2, c2, rfl, hc2, g2⟩ := hv
  clear hF hkl hal
  generalize checkN ns = CN at *
  cases hr : rightD ns with
  | false =>
    have e0 : toldE ns hs = 5 := by unfold toldE; rw [hr]; rfl
    have e1 : checkE ns = 5 := by unfold checkE; rw [hr]; rfl
    rw [e0, if_neg (by decide)]
    rw [e1] at HC
    clear hT e0 e1 g2
    go_enter Tryz.func55, Tryz.ntmps55
    go_wp2_with fail
    refine (HC.out _ ((Below.refl _ w).alloc (Nat.le_refl _) _)).mono ?_
    rintro e v1 ⟨rfl, hb1⟩
    go_wp2
    go_ret2
    exact ⟨rfl, box_go hb1⟩
  | true =>
    have e1 : checkE ns = 0 := (checkE_right hr).1
    rw [e1] at HC
    obtain ⟨E, hE⟩ : ∃ E, toldE ns hs = E := ⟨_, rfl⟩
    rw [hE] at hT ⊢
    have HE : Hid ((if (hs.drop 0).all (thereB ns.length) then (0 : Int) else 2) = E) := by
      have := hE
      unfold toldE at this
      rw [hr, if_pos rfl] at this
      exact this
    obtain ⟨T, hTe⟩ : ∃ T, (if E = 0 then R else 0) = T := ⟨_, rfl⟩
    rw [hTe]
    have HTe := hid hTe
    have HT := hid hT
    clear hE hT e1 hTe
    go_enter Tryz.func55, Tryz.ntmps55
    go_wp2_with fail
    refine (HC.out _ ((Below.refl _ w).alloc (Nat.le_refl _) _)).mono ?_
    rintro e v1 ⟨rfl, hb1⟩
    have HB1 := hid (box_go hb1)
    have cb := box_forest hb1
    clear hb1 HC
    go_wp2
    go_loopw [24] (fun t wr => ∃ k : Nat, k ≤ hs.length ∧ t = .int .i64 k ∧ wr = v1 ∧ Hid ((if (hs.drop k).all (thereB ns.length) then (0 : Int) else 2) = E)) (fun t _ => hs.length - (RowKit.intOf t).toNat)
    case atStart => exact ⟨0, Nat.zero_le _, rfl, rfl, HE⟩
    case round =>
      obtain ⟨k, k1, rfl, rfl, hK⟩ := hrel
      by_cases hlt : k < hs.length
      · obtain ⟨b, off, rfl, hlt1, ha⟩ := g2 (by omega)
        have x1 := (HB1.out.cell (p := ⟨b, off + k, none⟩) hlt1).trans (ha k hlt)
        have q1 : (0 : Int) ≤ (k : Int) := by omega
        have q2 : (k : Int) < (hs.length : Int) := by omega
        have hk := hK.out
        rw [List.drop_eq_getElem_cons hlt, List.all_cons] at hk
        have Hk := hid hk
        clear hk hK ha g2
        generalize hs[k] = a at *
        by_cases g1 : a < 1
        · have hf : thereB ns.length a = false := by unfold thereB; rw [decide_eq_false (by omega)]; rfl
          have hE2 : E = 2 := by rw [← Hk.out, hf]; rfl
          subst hE2
          have hT0 : T = 0 := by rw [← HTe.out]; rfl
          subst hT0
          have d1 : decide (a < 1) = true := decide_eq_true g1
          clear Hk hf HT
          go_wp2
          go_ret2
          exact ⟨rfl, HB1.out⟩
        · have d1 : decide (a < 1) = false := decide_eq_false g1
          by_cases g3 : (ns.length : Int) < a
          · have hf : thereB ns.length a = false := by unfold thereB; rw [decide_eq_false (p := a ≤ (ns.length : Int)) (by omega), Bool.and_false]
            have hE2 : E = 2 := by rw [← Hk.out, hf]; rfl
            subst hE2
            have hT0 : T = 0 := by rw [← HTe.out]; rfl
            subst hT0
            have d2 : decide ((ns.length : Int) < a) = true := decide_eq_true g3
            clear Hk hf HT
            go_wp2
            go_ret2
            exact ⟨rfl, HB1.out⟩
          · have hf : thereB ns.length a = true := by unfold thereB; rw [decide_eq_true (by omega), decide_eq_true (by omega)]; rfl
            have d2 : decide ((ns.length : Int) < a) = false := decide_eq_false g3
            have Hn : Hid ((if (hs.drop (k + 1)).all (thereB ns.length) then (0 : Int) else 2) = E) := by
              have h := Hk.out
              rw [hf, Bool.true_and] at h
              exact h
            clear Hk hf
            go_wp2
            go_roundw
            case rel => exact ⟨k + 1, by omega, by go_num, trivial, Hn⟩
            case measure => simp [RowKit.intOf]; omega
      · have hE0 : E = 0 := by rw [← hK.out, List.drop_eq_nil_of_le (by omega)]; rfl
        subst hE0
        have hT := HT.out rfl wr HB1.out
        have hT0 : T = R := by rw [← HTe.out]; rfl
        subst hT0
        clear hK g2 HT HTe
        go_wp2_with fail
        refine hT.mono ?_
        rintro e v2 ⟨rfl, hb2⟩
        have HB2 := hid (HB1.out.trans (hb2.mono HB1.out.size))
        clear hT hb2
        go_wp2
        go_ret2
        exact ⟨rfl, HB2.out⟩

set_option maxRecDepth 100000 in
set_option maxHeartbeats 4000000 in
theorem Index_any (o : Option Addr) (cap : Nat) (x : Int) (ns : List NodeD) (w : World) (hF : FRd w o cap ns) (hkl : ∀ (i : Nat) (hi : i < ns.length), ns[i].kids.length ≤ 1099511627776) (hal : ∀ (i : Nat) (hi : i < ns.length), ns[i].attrs.length ≤ 1099511627776) :
    Calls Tryz.prog 36 #[.agg #[.slice o ns.length cap], .int .i64 x] w fun e w' => e = .returned (.tuple #[.int .i64 (if toldE ns [x] = 0 then indexD ns x else 0), .int .i64 (toldE ns [x])]) ∧ Below w.heap.size w w' := by
  have hB3 : Below w.heap.size w (((w.alloc (.cells #[.slice o ns.length cap] 24)).alloc (.cells #[.int .i64 x] 3)).alloc (.cells #[.int .i64 x] 3)) := (((Below.refl _ w).alloc (Nat.le_refl _) _).alloc (by simp) _).alloc (by simp; omega) _
  have k0 := new_cell_l w (.slice o ns.length cap) 24
  have k1 := new_cell_l (w.alloc (.cells #[.slice o ns.length cap] 24)) (.int .i64 x) 3
  have kr := one_rdI ((w.alloc (.cells #[.slice o ns.length cap] 24)).alloc (.cells #[.int .i64 x] 3)) x 3
  simp only [World.size_alloc] at k1 kr
  have c0 := keep_cell_l (.cells #[.int .i64 x] 3) (keep_cell_l (.cells #[.int .i64 x] 3) k0.1)
  have c1 := keep_cell_l (.cells #[.int .i64 x] 3) k1.1
  have s0 : w.heap.size < (((w.alloc (.cells #[.slice o ns.length cap] 24)).alloc (.cells #[.int .i64 x] 3)).alloc (.cells #[.int .i64 x] 3)).heap.size := by simp only [World.size_alloc]; omega
  have hT := toldIndex_any o cap w.heap.size (w.heap.size + 1) (indexD ns x) (.slice (some ⟨w.heap.size + 1 + 1, 0, none⟩) 1 1) [x] ns (((w.alloc (.cells #[.slice o ns.length cap] 24)).alloc (.cells #[.int .i64 x] 3)).alloc (.cells #[.int .i64 x] 3)) (hF.later hB3) hkl hal kr (by simp) (fun hE W hW => by
    obtain ⟨hR, hth⟩ := toldE_zero hE
    have hx := hth x (by simp)
    obtain ⟨i, hi, _⟩ := there_idx hx
    obtain ⟨b, off, rfl, hFA⟩ := hF.at_ (by omega)
    have hBW := hB3.trans (hW.mono hB3.size)
    have h1 := Index1_any b off cap w.heap.size (w.heap.size + 1) x ns W hR (hFA.later hBW) hx hkl
      ((hW.cell (p := ⟨w.heap.size, 0, none⟩) s0).trans c0)
      ((hW.cell (p := ⟨w.heap.size + 1, 0, none⟩) (by show w.heap.size + 1 < _; simp only [World.size_alloc]; omega)).trans c1)
    exact h1)
  generalize (if toldE ns [x] = 0 then indexD ns x else 0) = A at *
  generalize toldE ns [x] = E at *
  have HB3 := hid hB3
  clear k0 k1 kr c0 c1 s0 hF hkl hal hB3
  go_enter Tryz.func36, Tryz.ntmps36
  go_wp2_with fail
  refine hT.mono ?_
  rintro e v1 ⟨rfl, hb1⟩
  have HB := hid (HB3.out.trans (hb1.mono HB3.out.size))
  clear hT hb1 HB3
  go_wp2
  go_ret2
  exact ⟨rfl, HB.out⟩

theorem well_data {n : NodeD} (h : wellMadeD n = true) : n.data.length ≤ 16384 := by
  unfold wellMadeD at h
  simp only [Bool.and_eq_true] at h
  exact of_decide_eq_true h.1.2
theorem lengthOf_D (b off cap : Nat) (x : Int) (ns : List NodeD) (w : World) (hR : RightF ns) (hF : FAt w b off cap ns) (hx : thereB ns.length x = true) (hkl : ∀ (i : Nat) (hi : i < ns.length), ns[i].kids.length ≤ 1099511627776) :
    Calls Tryz.prog 73 #[forestV b off cap ns.length, .int .i64 x] w fun e w' => e = .returned (.int .i64 ((lengthD (nodeOrNone ns x) : Nat) : Int)) ∧ Below w.heap.size w w' := by
  obtain ⟨j, hj, rfl⟩ := there_idx hx
  have hn : nodeOrNone ns ((j : Int) + 1) = ns[j] := by unfold nodeOrNone; rw [nodeOf_at ns j hj]; rfl
  rw [hn]
  exact lengthOf_any b off cap j ns w hF hj (hkl j hj) (Nat.le_trans (well_data (hR.well j hj)) (by decide))

set_option maxRecDepth 100000 in
set_option maxHeartbeats 2000000 in
theorem Length1_any (b off cap u1 u2 : Nat) (x : Int) (ns : List NodeD) (w : World) (hR : RightF ns) (hF : FAt w b off cap ns) (hx : thereB ns.length x = true) (hkl : ∀ (i : Nat) (hi : i < ns.length), ns[i].kids.length ≤ 1099511627776)
    (c1 : w.cell? ⟨u1, 0, none⟩ = some (.slice (some ⟨b, off, none⟩) ns.length cap)) (c2 : w.cell? ⟨u2, 0, none⟩ = some (.int .i64 x)) :
    Calls Tryz.prog 72 #[.pointer (some ⟨u1, 0, none⟩), .pointer (some ⟨u2, 0, none⟩)] w fun e w' => e = .returned (.int .i64 (((lengthD (nodeOrNone ns x) : Nat) : Int))) ∧ Below w.heap.size w w' := by
  have hP := lengthOf_D b off cap x ns w hR hF hx hkl
  unfold forestV at hP
  generalize ((lengthD (nodeOrNone ns x) : Nat) : Int) = P at *
  clear hkl
  go_enter Tryz.func72, Tryz.ntmps72
  go_wp2_with fail
  refine hP.mono ?_
  rintro e v1 ⟨rfl, hb1⟩
  have HB := hid hb1
  clear hP hb1
  go_wp2
  go_ret
  exact ⟨rfl, HB.out⟩

set_option maxRecDepth 100000 in
set_option maxHeartbeats 4000000 in
theorem toldLength_any (o : Option Addr) (cap u1 u2 : Nat) (R : Int) (v : Value) (hs : List Int) (ns : List NodeD) (w : World) (hF : FRd w o cap ns) (hkl : ∀ (i : Nat) (hi : i < ns.length), ns[i].kids.length ≤ 1099511627776) (hal : ∀ (i : Nat) (hi : i < ns.length), ns[i].attrs.length ≤ 1099511627776) (hv : RdI w v hs) (hl : hs.length ≤ 1099511627776)
    (hT : toldE ns hs = 0 → ∀ W : World, Below w.heap.size w W → Calls Tryz.prog 72 #[.pointer (some ⟨u1, 0, none⟩), .pointer (some ⟨u2, 0, none⟩)] W fun e w' => e = .returned (.int .i64 R) ∧ Below W.heap.size W w') :
    Calls Tryz.prog 55 #[.agg #[.slice o ns.length cap], .func (.func 72) #[] #[.pointer (some ⟨u1, 0, none⟩), .pointer (some ⟨u2, 0, none⟩)], v] w fun e w' => e = .returned (.tuple #[.int .i64 (if toldE ns hs = 0 then R else 0), .int .i64 (toldE ns hs)]) ∧ Below w.heap.size w w' := by
  have HC : Hid (∀ W : World, Below w.heap.size w W → _) := fun W hW => Check_any o cap ns W (hF.later hW) hkl hal
  have hle := hF.len
  obtain ⟨o2, c2, rfl, hc2, g2⟩ := hv
  clear hF hkl hal
  generalize checkN ns = CN at *
  cases hr : rightD ns with
  | false =>
    have e0 : toldE ns hs = 5 := by unfold toldE; rw [hr]; rfl
    have e1 : checkE ns = 5 := by unfold checkE; rw [hr]; rfl
    rw [e0, if_neg (by decide)]
    rw [e1] at HC
    clear hT e0 e1 g2
    go_enter Tryz.func55, Tryz.ntmps55
    go_wp2_with fail
    refine (HC.out _ ((Below.refl _ w).alloc (Nat.le_refl _) _)).mono ?_
    rintro e v1 ⟨rfl, hb1⟩
    go_wp2
    go_ret2
    exact ⟨rfl, box_go hb1⟩
  | true =>
    have e1 : checkE ns = 0 := (checkE_right hr).1
    rw [e1] at HC
    obtain ⟨E, hE⟩ : ∃ E, toldE ns hs = E := ⟨_, rfl⟩
    rw [hE] at hT ⊢
    have HE : Hid ((if (hs.drop 0).all (thereB ns.length) then (0 : Int) else 2) = E) := by
      have := hE
      unfold toldE at this
      rw [hr, if_pos rfl] at this
      exact this
    obtain ⟨T, hTe⟩ : ∃ T, (if E = 0 then R else 0) = T := ⟨_, rfl⟩
    rw [hTe]
    have HTe := hid hTe
    have HT := hid hT
    clear hE hT e1 hTe
    go_enter Tryz.func55, Tryz.ntmps55
    go_wp2_with fail
    refine (HC.out _ ((Below.refl _ w).alloc (Nat.le_refl _) _)).mono ?_
    rintro e v1 ⟨rfl, hb1⟩
    have HB1 := hid (box_go hb1)
    have cb := box_forest hb1
    clear hb1 HC
    go_wp2
    go_loopw [24] (fun t wr => ∃ k : Nat, k ≤ hs.length ∧ t = .int .i64 k ∧ wr = v1 ∧ Hid ((if (hs.drop k).all (thereB ns.length) then (0 : Int) else 2) = E)) (fun t _ => hs.length - (RowKit.intOf t).toNat)
    case atStart => exact ⟨0, Nat.zero_le _, rfl, rfl, HE⟩
    case round =>
      obtain ⟨k, k1, rfl, rfl, hK⟩ := hrel
      by_cases hlt : k < hs.length
      · obtain ⟨b, off, rfl, hlt1, ha⟩ := g2 (by omega)
        have x1 := (HB1.out.cell (p := ⟨b, off + k, none⟩) hlt1).trans (ha k hlt)
        have q1 : (0 : Int) ≤ (k : Int) := by omega
        have q2 : (k : Int) < (hs.length : Int) := by omega
        have hk := hK.out
        rw [List.drop_eq_getElem_cons hlt, List.all_cons] at hk
        have Hk := hid hk
        clear hk hK ha g2
        generalize hs[k] = a at *
        by_cases g1 : a < 1
        · have hf : thereB ns.length a = false := by unfold thereB; rw [decide_eq_false (by omega)]; rfl
          have hE2 : E = 2 := by rw [← Hk.out, hf]; rfl
          subst hE2
          have hT0 : T = 0 := by rw [← HTe.out]; rfl
          subst hT0
          have d1 : decide (a < 1) = true := decide_eq_true g1
          clear Hk hf HT
          go_wp2
          go_ret2
          exact ⟨rfl, HB1.out⟩
        · have d1 : decide (a < 1) = false := decide_eq_false g1
          by_cases g3 : (ns.length : Int) < a
          · have hf : thereB ns.length a = false := by unfold thereB; rw [decide_eq_false (p := a ≤ (ns.length : Int)) (by omega), Bool.and_false]
            have hE2 : E = 2 := by rw [← Hk.out, hf]; rfl
            subst hE2
            have hT0 : T = 0 := by rw [← HTe.out]; rfl
            subst hT0
            have d2 : decide ((ns.length : Int) < a) = true := decide_eq_true g3
            clear Hk hf HT
            go_wp2
            go_ret2
            exact ⟨rfl, HB1.out⟩
          · have hf : thereB ns.length a = true := by unfold thereB; rw [decide_eq_true (by omega), decide_eq_true (by omega)]; rfl
            have d2 : decide ((ns.length : Int) < a) = false := decide_eq_false g3
            have Hn : Hid ((if (hs.drop (k + 1)).all (thereB ns.length) then (0 : Int) else 2) = E) := by
              have h := Hk.out
              rw [hf, Bool.true_and] at h
              exact h
            clear Hk hf
            go_wp2
            go_roundw
            case rel => exact ⟨k + 1, by omega, by go_num, trivial, Hn⟩
            case measure => simp [RowKit.intOf]; omega
      · have hE0 : E = 0 := by rw [← hK.out, List.drop_eq_nil_of_le (by omega)]; rfl
        subst hE0
        have hT := HT.out rfl wr HB1.out
        have hT0 : T = R := by rw [← HTe.out]; rfl
        subst hT0
        clear hK g2 HT HTe
        go_wp2_with fail
        refine hT.mono ?_
        rintro e v2 ⟨rfl, hb2⟩
        have HB2 := hid (HB1.out.trans (hb2.mono HB1.out.size))
        clear hT hb2
        go_wp2
        go_ret2
        exact ⟨rfl, HB2.out⟩

set_option maxRecDepth 100000 in
set_option maxHeartbeats 4000000 in
theorem Length_any (o : Option Addr) (cap : Nat) (x : Int) (ns : List NodeD) (w : World) (hF : FRd w o cap ns) (hkl : ∀ (i : Nat) (hi : i < ns.length), ns[i].kids.length ≤ 1099511627776) (hal : ∀ (i : Nat) (hi : i < ns.length), ns[i].attrs.length ≤ 1099511627776) :
    Calls Tryz.prog 37 #[.agg #[.slice o ns.length cap], .int .i64 x] w fun e w' => e = .returned (.tuple #[.int .i64 (if toldE ns [x] = 0 then ((lengthD (nodeOrNone ns x) : Nat) : Int) else 0), .int .i64 (toldE ns [x])]) ∧ Below w.heap.size w w' := by
  have hB3 : Below w.heap.size w (((w.alloc (.cells #[.slice o ns.length cap] 24)).alloc (.cells #[.int .i64 x] 3)).alloc (.cells #[.int .i64 x] 3)) := (((Below.refl _ w).alloc (Nat.le_refl _) _).alloc (by simp) _).alloc (by simp; omega) _
  have k0 := new_cell_l w (.slice o ns.length cap) 24
  have k1 := new_cell_l (w.alloc (.cells #[.slice o ns.length cap] 24)) (.int .i64 x) 3
  have kr := one_rdI ((w.alloc (.cells #[.slice o ns.length cap] 24)).alloc (.cells #[.int .i64 x] 3)) x 3
  simp only [World.size_alloc] at k1 kr
  have c0 := keep_cell_l (.cells #[.int .i64 x] 3) (keep_cell_l (.cells #[.int .i64 x] 3) k0.1)
  have c1 := keep_cell_l (.cells #[.int .i64 x] 3) k1.1
  have s0 : w.heap.size < (((w.alloc (.cells #[.slice o ns.length cap] 24)).alloc (.cells #[.int .i64 x] 3)).alloc (.cells #[.int .i64 x] 3)).heap.size := by simp only [World.size_alloc]; omega
  have hT := toldLength_any o cap w.heap.size (w.heap.size + 1) (((lengthD (nodeOrNone ns x) : Nat) : Int)) (.slice (some ⟨w.heap.size + 1 + 1, 0, none⟩) 1 1) [x] ns (((w.alloc (.cells #[.slice o ns.length cap] 24)).alloc (.cells #[.int .i64 x] 3)).alloc (.cells #[.int .i64 x] 3)) (hF.later hB3) hkl hal kr (by simp) (fun hE W hW => by
    obtain ⟨hR, hth⟩ := toldE_zero hE
    have hx := hth x (by simp)
    obtain ⟨i, hi, _⟩ := there_idx hx
    obtain ⟨b, off, rfl, hFA⟩ := hF.at_ (by omega)
    have hBW := hB3.trans (hW.mono hB3.size)
    have h1 := Length1_any b off cap w.heap.size (w.heap.size + 1) x ns W hR (hFA.later hBW) hx hkl
      ((hW.cell (p := ⟨w.heap.size, 0, none⟩) s0).trans c0)
      ((hW.cell (p := ⟨w.heap.size + 1, 0, none⟩) (by show w.heap.size + 1 < _; simp only [World.size_alloc]; omega)).trans c1)
    exact h1)
  generalize (if toldE ns [x] = 0 then ((lengthD (nodeOrNone ns x) : Nat) : Int) else 0) = A at *
  generalize toldE ns [x] = E at *
  have HB3 := hid hB3
  clear k0 k1 kr c0 c1 s0 hF hkl hal hB3
  go_enter Tryz.func37, Tryz.ntmps37
  go_wp2_with fail
  refine hT.mono ?_
  rintro e v1 ⟨rfl, hb1⟩
  have HB := hid (HB3.out.trans (hb1.mono HB3.out.size))
  clear hT hb1 HB3
  go_wp2
  go_ret2
  exact ⟨rfl, HB.out⟩

set_option maxRecDepth 100000 in
set_option maxHeartbeats 2000000 in
theorem Prev1_any (b off cap u1 u2 : Nat) (x : Int) (ns : List NodeD) (w : World) (hR : RightF ns) (hF : FAt w b off cap ns) (hx : thereB ns.length x = true) (hkl : ∀ (i : Nat) (hi : i < ns.length), ns[i].kids.length ≤ 1099511627776)
    (c1 : w.cell? ⟨u1, 0, none⟩ = some (.slice (some ⟨b, off, none⟩) ns.length cap)) (c2 : w.cell? ⟨u2, 0, none⟩ = some (.int .i64 x)) :
    Calls Tryz.prog 79 #[.pointer (some ⟨u1, 0, none⟩), .pointer (some ⟨u2, 0, none⟩)] w fun e w' => e = .returned (.int .i64 (prevD ns x)) ∧ Below w.heap.size w w' := by
  have hP := ahead_any b off cap x ns w hR hF hx hkl
  unfold forestV at hP
  generalize prevD ns x = P at *
  clear hkl
  go_enter Tryz.func79, Tryz.ntmps79
  go_wp2_with fail
  refine hP.mono ?_
  rintro e v1 ⟨rfl, hb1⟩
  have HB := hid hb1
  clear hP hb1
  go_wp2
  go_ret
  exact ⟨rfl, HB.out⟩

set_option maxRecDepth 100000 in
set_option maxHeartbeats 4000000 in
theorem toldPrev_any (o : Option Addr) (cap u1 u2 : Nat) (R : Int) (v : Value) (hs : List Int) (ns : List NodeD) (w : World) (hF : FRd w o cap ns) (hkl : ∀ (i : Nat) (hi : i < ns.length), ns[i].kids.length ≤ 1099511627776) (hal : ∀ (i : Nat) (hi : i < ns.length), ns[i].attrs.length ≤ 1099511627776) (hv : RdI w v hs) (hl : hs.length ≤ 1099511627776)
    (hT : toldE ns hs = 0 → ∀ W : World, Below w.heap.size w W → Calls Tryz.prog 79 #[.pointer (some ⟨u1, 0, none⟩), .pointer (some ⟨u2, 0, none⟩)] W fun e w' => e = .returned (.int .i64 R) ∧ Below W.heap.size W w') :
    Calls Tryz.prog 55 #[.agg #[.slice o ns.length cap], .func (.func 79) #[] #[.pointer (some ⟨u1, 0, none⟩), .pointer (some ⟨u2, 0, none⟩)], v] w fun e w' => e = .returned (.tuple #[.int .i64 (if toldE ns hs = 0 then R else 0), .int .i64 (toldE ns hs)]) ∧ Below w.heap.size w w' := by
  have HC : Hid (∀ W : World, Below w.heap.size w W → _) := fun W hW => Check_any o cap ns W (hF.later hW) hkl hal
  have hle := hF.len
  obtain ⟨o2, c2, rfl, hc2, g2⟩ := hv
  clear hF hkl hal
  generalize checkN ns = CN at *
  cases hr : rightD ns with
  | false =>
    have e0 : toldE ns hs = 5 := by unfold toldE; rw [hr]; rfl
    have e1 : checkE ns = 5 := by unfold checkE; rw [hr]; rfl
    rw [e0, if_neg (by decide)]
    rw [e1] at HC
    clear hT e0 e1 g2
    go_enter Tryz.func55, Tryz.ntmps55
    go_wp2_with fail
    refine (HC.out _ ((Below.refl _ w).alloc (Nat.le_refl _) _)).mono ?_
    rintro e v1 ⟨rfl, hb1⟩
    go_wp2
    go_ret2
    exact ⟨rfl, box_go hb1⟩
  | true =>
    have e1 : checkE ns = 0 := (checkE_right hr).1
    rw [e1] at HC
    obtain ⟨E, hE⟩ : ∃ E, toldE ns hs = E := ⟨_, rfl⟩
    rw [hE] at hT ⊢
    have HE : Hid ((if (hs.drop 0).all (thereB ns.length) then (0 : Int) else 2) = E) := by
      have := hE
      unfold toldE at this
      rw [hr, if_pos rfl] at this
      exact this
    obtain ⟨T, hTe⟩ : ∃ T, (if E = 0 then R else 0) = T := ⟨_, rfl⟩
    rw [hTe]
    have HTe := hid hTe
    have HT := hid hT
    clear hE hT e1 hTe
    go_enter Tryz.func55, Tryz.ntmps55
    go_wp2_with fail
    refine (HC.out _ ((Below.refl _ w).alloc (Nat.le_refl _) _)).mono ?_
    rintro e v1 ⟨rfl, hb1⟩
    have HB1 := hid (box_go hb1)
    have cb := box_forest hb1
    clear hb1 HC
    go_wp2
    go_loopw [24] (fun t wr => ∃ k : Nat, k ≤ hs.length ∧ t = .int .i64 k ∧ wr = v1 ∧ Hid ((if (hs.drop k).all (thereB ns.length) then (0 : Int) else 2) = E)) (fun t _ => hs.length - (RowKit.intOf t).toNat)
    case atStart => exact ⟨0, Nat.zero_le _, rfl, rfl, HE⟩
    case round =>
      obtain ⟨k, k1, rfl, rfl, hK⟩ := hrel
      by_cases hlt : k < hs.length
      · obtain ⟨b, off, rfl, hlt1, ha⟩ := g2 (by omega)
        have x1 := (HB1.out.cell (p := ⟨b, off + k, none⟩) hlt1).trans (ha k hlt)
        have q1 : (0 : Int) ≤ (k : Int) := by omega
        have q2 : (k : Int) < (hs.length : Int) := by omega
        have hk := hK.out
        rw [List.drop_eq_getElem_cons hlt, List.all_cons] at hk
        have Hk := hid hk
        clear hk hK ha g2
        generalize hs[k] = a at *
        by_cases g1 : a < 1
        · have hf : thereB ns.length a = false := by unfold thereB; rw [decide_eq_false (by omega)]; rfl
          have hE2 : E = 2 := by rw [← Hk.out, hf]; rfl
          subst hE2
          have hT0 : T = 0 := by rw [← HTe.out]; rfl
          subst hT0
          have d1 : decide (a < 1) = true := decide_eq_true g1
          clear Hk hf HT
          go_wp2
          go_ret2
          exact ⟨rfl, HB1.out⟩
        · have d1 : decide (a < 1) = false := decide_eq_false g1
          by_cases g3 : (ns.length : Int) < a
          · have hf : thereB ns.length a = false := by unfold thereB; rw [decide_eq_false (p := a ≤ (ns.length : Int)) (by omega), Bool.and_false]
            have hE2 : E = 2 := by rw [← Hk.out, hf]; rfl
            subst hE2
            have hT0 : T = 0 := by rw [← HTe.out]; rfl
            subst hT0
            have d2 : decide ((ns.length : Int) < a) = true := decide_eq_true g3
            clear Hk hf HT
            go_wp2
            go_ret2
            exact ⟨rfl, HB1.out⟩
          · have hf : thereB ns.length a = true := by unfold thereB; rw [decide_eq_true (by omega), decide_eq_true (by omega)]; rfl
            have d2 : decide ((ns.length : Int) < a) = false := decide_eq_false g3
            have Hn : Hid ((if (hs.drop (k + 1)).all (thereB ns.length) then (0 : Int) else 2) = E) := by
              have h := Hk.out
              rw [hf, Bool.true_and] at h
              exact h
            clear Hk hf
            go_wp2
            go_roundw
            case rel => exact ⟨k + 1, by omega, by go_num, trivial, Hn⟩
            case measure => simp [RowKit.intOf]; omega
      · have hE0 : E = 0 := by rw [← hK.out, List.drop_eq_nil_of_le (by omega)]; rfl
        subst hE0
        have hT := HT.out rfl wr HB1.out
        have hT0 : T = R := by rw [← HTe.out]; rfl
        subst hT0
        clear hK g2 HT HTe
        go_wp2_with fail
        refine hT.mono ?_
        rintro e v2 ⟨rfl, hb2⟩
        have HB2 := hid (HB1.out.trans (hb2.mono HB1.out.size))
        clear hT hb2
        go_wp2
        go_ret2
        exact ⟨rfl, HB2.out⟩

set_option maxRecDepth 100000 in
set_option maxHeartbeats 4000000 in
theorem Prev_any (o : Option Addr) (cap : Nat) (x : Int) (ns : List NodeD) (w : World) (hF : FRd w o cap ns) (hkl : ∀ (i : Nat) (hi : i < ns.length), ns[i].kids.length ≤ 1099511627776) (hal : ∀ (i : Nat) (hi : i < ns.length), ns[i].attrs.length ≤ 1099511627776) :
    Calls Tryz.prog 43 #[.agg #[.slice o ns.length cap], .int .i64 x] w fun e w' => e = .returned (.tuple #[.int .i64 (if toldE ns [x] = 0 then prevD ns x else 0), .int .i64 (toldE ns [x])]) ∧ Below w.heap.size w w' := by
  have hB3 : Below w.heap.size w (((w.alloc (.cells #[.slice o ns.length cap] 24)).alloc (.cells #[.int .i64 x] 3)).alloc (.cells #[.int .i64 x] 3)) := (((Below.refl _ w).alloc (Nat.le_refl _) _).alloc (by simp) _).alloc (by simp; omega) _
  have k0 := new_cell_l w (.slice o ns.length cap) 24
  have k1 := new_cell_l (w.alloc (.cells #[.slice o ns.length cap] 24)) (.int .i64 x) 3
  have kr := one_rdI ((w.alloc (.cells #[.slice o ns.length cap] 24)).alloc (.cells #[.int .i64 x] 3)) x 3
  simp only [World.size_alloc] at k1 kr
  have c0 := keep_cell_l (.cells #[.int .i64 x] 3) (keep_cell_l (.cells #[.int .i64 x] 3) k0.1)
  have c1 := keep_cell_l (.cells #[.int .i64 x] 3) k1.1
  have s0 : w.heap.size < (((w.alloc (.cells #[.slice o ns.length cap] 24)).alloc (.cells #[.int .i64 x] 3)).alloc (.cells #[.int .i64 x] 3)).heap.size := by simp only [World.size_alloc]; omega
  have hT := toldPrev_any o cap w.heap.size (w.heap.size + 1) (prevD ns x) (.slice (some ⟨w.heap.size + 1 + 1, 0, none⟩) 1 1) [x] ns (((w.alloc (.cells #[.slice o ns.length cap] 24)).alloc (.cells #[.int .i64 x] 3)).alloc (.cells #[.int .i64 x] 3)) (hF.later hB3) hkl hal kr (by simp) (fun hE W hW => by
    obtain ⟨hR, hth⟩ := toldE_zero hE
    have hx := hth x (by simp)
    obtain ⟨i, hi, _⟩ := there_idx hx
    obtain ⟨b, off, rfl, hFA⟩ := hF.at_ (by omega)
    have hBW := hB3.trans (hW.mono hB3.size)
    have h1 := Prev1_any b off cap w.heap.size (w.heap.size + 1) x ns W hR (hFA.later hBW) hx hkl
      ((hW.cell (p := ⟨w.heap.size, 0, none⟩) s0).trans c0)
      ((hW.cell (p := ⟨w.heap.size + 1, 0, none⟩) (by show w.heap.size + 1 < _; simp only [World.size_alloc]; omega)).trans c1)
    exact h1)
  generalize (if toldE ns [x] = 0 then prevD ns x else 0) = A at *
  generalize toldE ns [x] = E at *
  have HB3 := hid hB3
  clear k0 k1 kr c0 c1 s0 hF hkl hal hB3
  go_enter Tryz.func43, Tryz.ntmps43
  go_wp2_with fail
  refine hT.mono ?_
  rintro e v1 ⟨rfl, hb1⟩
  have HB := hid (HB3.out.trans (hb1.mono HB3.out.size))
  clear hT hb1 HB3
  go_wp2
  go_ret2
  exact ⟨rfl, HB.out⟩
end Go.Proofs.YtfaeabjgplahgaaGreat

namespace Go.Proofs.YtfaeabjgplahgaaGreat
open Go.RowKit Go.Lib Go.Shelf

set_option maxRecDepth 100000 in
set_option maxHeartbeats 2000000 in
theorem Ancestors1_any (b off cap u1 u2 : Nat) (x : Int) (ns : List NodeD) (w : World) (hR : RightF ns) (hF : FAt w b off cap ns) (hx : thereB ns.length x = true)
    (c1 : w.cell? ⟨u1, 0, none⟩ = some (.slice (some ⟨b, off, none⟩) ns.length cap)) (c2 : w.cell? ⟨u2, 0, none⟩ = some (.int .i64 x)) :
    Calls Tryz.prog 29 #[.pointer (some ⟨u1, 0, none⟩), .pointer (some ⟨u2, 0, none⟩)] w fun e w' => ∃ v, e = .returned v ∧ w'.ownsRow w.heap.size 3 1 v (pathUp ns (parentD ns) (parentD ns x)).length ((pathUp ns (parentD ns) (parentD ns x)).map (Value.int .i64)) ∧ Below w.heap.size w w' := by
  have HA : Hid (∀ W : World, Below w.heap.size w W → _) := fun W hW => oabove_any b off cap x ns W (hF.later hW) hx
  have hpt : parentD ns x = 0 ∨ thereB ns.length (parentD ns x) = true := by
    by_cases hp : parentD ns x = 0
    · exact .inl hp
    · exact .inr (hR.kidsHang.up_there hx hp)
  have HC : Hid (∀ (bh bo bf : Nat) (W : World), Below w.heap.size w W → UpAt W b off cap ns.length 67 bh bo bf (parentD ns x) → _) := fun bh bo bf W hW hU => collectP_any b off cap bh bo bf (parentD ns x) ns W hR (hF.later hW) hU hpt
  unfold forestV upV at *
  generalize parentD ns x = p at *
  generalize pathUp ns (parentD ns) p = P at *
  clear hpt hF hR hx
  go_enter Tryz.func29, Tryz.ntmps29
  go_wp2_with fail
  refine (HA.out _ (Below.refl _ _)).mono ?_
  rintro e v1 ⟨bh, bo, bf, rfl, hU, hb1⟩
  have hC := HC.out bh bo bf v1 hb1 hU
  have HB1 := hid hb1
  clear hb1 hU HA HC
  go_wp2_with fail
  refine hC.mono ?_
  rintro e v2 ⟨v, rfl, hrow, hb2⟩
  have HRow := hid (ownsRow_base hrow HB1.out.size)
  have HB := hid (HB1.out.trans (hb2.mono HB1.out.size))
  clear hC hb2 hrow
  go_wp2
  exact bodyPost_ret (v := v) (by simp [results, Tryz.results29, go_sem]) rfl ⟨v, rfl, HRow.out, HB.out⟩

set_option maxRecDepth 100000 in
set_option maxHeartbeats 4000000 in
theorem toldAncestors_any (o : Option Addr) (cap u1 u2 : Nat) (R : List Int) (v : Value) (hs : List Int) (ns : List NodeD) (w : World) (hF : FRd w o cap ns) (hkl : ∀ (i : Nat) (hi : i < ns.length), ns[i].kids.length ≤ 1099511627776) (hal : ∀ (i : Nat) (hi : i < ns.length), ns[i].attrs.length ≤ 1099511627776) (hv : RdI w v hs) (hl : hs.length ≤ 1099511627776)
    (hT : toldE ns hs = 0 → ∀ W : World, Below w.heap.size w W → Calls Tryz.prog 29 #[.pointer (some ⟨u1, 0, none⟩), .pointer (some ⟨u2, 0, none⟩)] W fun e w' => ∃ v, e = .returned v ∧ w'.ownsRow w.heap.size 3 1 v R.length (R.map (Value.int .i64)) ∧ Below W.heap.size W w') :
    Calls Tryz.prog 25 #[.agg #[.slice o ns.length cap], .func (.func 29) #[] #[.pointer (some ⟨u1, 0, none⟩), .pointer (some ⟨u2, 0, none⟩)], v] w fun e w' => ∃ v, e = .returned (.tuple #[v, .int .i64 (toldE ns hs)]) ∧ w'.ownsRow w.heap.size 3 1 v (if toldE ns hs = 0 then R else []).length ((if toldE ns hs = 0 then R else []).map (Value.int .i64)) ∧ Below w.heap.size w w' := by
  have HC : Hid (∀ W : World, Below w.heap.size w W → _) := fun W hW => Check_any o cap ns W (hF.later hW) hkl hal
  have hle := hF.len
  obtain ⟨o2, c2, rfl, hc2, g2⟩ := hv
  clear hF hkl hal
  generalize checkN ns = CN at *
  cases hr : rightD ns with
  | false =>
    have e0 : toldE ns hs = 5 := by unfold toldE; rw [hr]; rfl
    have e1 : checkE ns = 5 := by unfold checkE; rw [hr]; rfl
    rw [e0, if_neg (by decide)]
    rw [e1] at HC
    clear hT e0 e1 g2
    go_enter Tryz.func25, Tryz.ntmps25
    go_wp2_with fail
    refine (HC.out _ ((Below.refl _ w).alloc (Nat.le_refl _) _)).mono ?_
    rintro e v1 ⟨rfl, hb1⟩
    go_wp2
    go_ret2
    exact ⟨_, rfl, World.ownsRow_nil _ _ _ _, box_go hb1⟩
  | true =>
    have e1 : checkE ns = 0 := (checkE_right hr).1
    rw [e1] at HC
    obtain ⟨E, hE⟩ : ∃ E, toldE ns hs = E := ⟨_, rfl⟩
    rw [hE] at hT ⊢
    have HE : Hid ((if (hs.drop 0).all (thereB ns.length) then (0 : Int) else 2) = E) := by
      have := hE
      unfold toldE at this
      rw [hr, if_pos rfl] at this
      exact this
    obtain ⟨T, hTe⟩ : ∃ T, (if E = 0 then R else []) = T := ⟨_, rfl⟩
    rw [hTe]
    have HTe := hid hTe
    have HT := hid hT
    clear hE hT e1 hTe
    go_enter Tryz.func25, Tryz.ntmps25
    go_wp2_with fail
    refine (HC.out _ ((Below.refl _ w).alloc (Nat.le_refl _) _)).mono ?_
    rintro e v1 ⟨rfl, hb1⟩
    have HB1 := hid (box_go hb1)
    have cb := box_forest hb1
    clear hb1 HC
    go_wp2
    go_loopw [24] (fun t wr => ∃ k : Nat, k ≤ hs.length ∧ t = .int .i64 k ∧ wr = v1 ∧ Hid ((if (hs.drop k).all (thereB ns.length) then (0 : Int) else 2) = E)) (fun t _ => hs.length - (RowKit.intOf t).toNat)
    case atStart => exact ⟨0, Nat.zero_le _, rfl, rfl, HE⟩
    case round =>
      obtain ⟨k, k1, rfl, rfl, hK⟩ := hrel
      by_cases hlt : k < hs.length
      · obtain ⟨b, off, rfl, hlt1, ha⟩ := g2 (by omega)
        have x1 := (HB1.out.cell (p := ⟨b, off + k, none⟩) hlt1).trans (ha k hlt)
        have q1 : (0 : Int) ≤ (k : Int) := by omega
        have q2 : (k : Int) < (hs.length : Int) := by omega
        have hk := hK.out
        rw [List.drop_eq_getElem_cons hlt, List.all_cons] at hk
        have Hk := hid hk
        clear hk hK ha g2
        generalize hs[k] = a at *
        by_cases g1 : a < 1
        · have hf : thereB ns.length a = false := by unfold thereB; rw [decide_eq_false (by omega)]; rfl
          have hE2 : E = 2 := by rw [← Hk.out, hf]; rfl
          subst hE2
          have hT0 : T = [] := by rw [← HTe.out]; rfl
          subst hT0
          have d1 : decide (a < 1) = true := decide_eq_true g1
          clear Hk hf HT
          go_wp2
          go_ret2
          exact ⟨_, rfl, World.ownsRow_nil _ _ _ _, HB1.out⟩
        · have d1 : decide (a < 1) = false := decide_eq_false g1
          by_cases g3 : (ns.length : Int) < a
          · have hf : thereB ns.length a = false := by unfold thereB; rw [decide_eq_false (p := a ≤ (ns.length : Int)) (by omega), Bool.and_false]
            have hE2 : E = 2 := by rw [← Hk.out, hf]; rfl
            subst hE2
            have hT0 : T = [] := by rw [← HTe.out]; rfl
            subst hT0
            have d2 : decide ((ns.length : Int) < a) = true := decide_eq_true g3
            clear Hk hf HT
            go_wp2
            go_ret2
            exact ⟨_, rfl, World.ownsRow_nil _ _ _ _, HB1.out⟩
          · have hf : thereB ns.length a = true := by unfold thereB; rw [decide_eq_true (by omega), decide_eq_true (by omega)]; rfl
            have d2 : decide ((ns.length : Int) < a) = false := decide_eq_false g3
            have Hn : Hid ((if (hs.drop (k + 1)).all (thereB ns.length) then (0 : Int) else 2) = E) := by
              have h := Hk.out
              rw [hf, Bool.true_and] at h
              exact h
            clear Hk hf
            go_wp2
            go_roundw
            case rel => exact ⟨k + 1, by omega, by go_num, trivial, Hn⟩
            case measure => simp [RowKit.intOf]; omega
      · have hE0 : E = 0 := by rw [← hK.out, List.drop_eq_nil_of_le (by omega)]; rfl
        subst hE0
        have hT := HT.out rfl wr HB1.out
        have hT0 : T = R := by rw [← HTe.out]; rfl
        subst hT0
        clear hK g2 HT HTe
        go_wp2_with fail
        refine hT.mono ?_
        rintro e v2 ⟨vr, rfl, hrow, hb2⟩
        have HB2 := hid (HB1.out.trans (hb2.mono HB1.out.size))
        have HRow := hid hrow
        clear hT hb2 hrow
        go_wp2
        go_ret2
        exact ⟨_, rfl, HRow.out, HB2.out⟩

set_option maxRecDepth 100000 in
set_option maxHeartbeats 4000000 in
theorem Ancestors_any (o : Option Addr) (cap : Nat) (x : Int) (ns : List NodeD) (w : World) (hF : FRd w o cap ns) (hkl : ∀ (i : Nat) (hi : i < ns.length), ns[i].kids.length ≤ 1099511627776) (hal : ∀ (i : Nat) (hi : i < ns.length), ns[i].attrs.length ≤ 1099511627776) :
    Calls Tryz.prog 8 #[.agg #[.slice o ns.length cap], .int .i64 x] w fun e w' => ∃ v, e = .returned (.tuple #[v, .int .i64 (toldE ns [x])]) ∧ w'.ownsRow w.heap.size 3 1 v (if toldE ns [x] = 0 then pathUp ns (parentD ns) (parentD ns x) else []).length ((if toldE ns [x] = 0 then pathUp ns (parentD ns) (parentD ns x) else []).map (Value.int .i64)) ∧ Below w.heap.size w w' := by
  have hB3 : Below w.heap.size w (((w.alloc (.cells #[.slice o ns.length cap] 24)).alloc (.cells #[.int .i64 x] 3)).alloc (.cells #[.int .i64 x] 3)) := (((Below.refl _ w).alloc (Nat.le_refl _) _).alloc (by simp) _).alloc (by simp; omega) _
  have k0 := new_cell_l w (.slice o ns.length cap) 24
  have k1 := new_cell_l (w.alloc (.cells #[.slice o ns.length cap] 24)) (.int .i64 x) 3
  have kr := one_rdI ((w.alloc (.cells #[.slice o ns.length cap] 24)).alloc (.cells #[.int .i64 x] 3)) x 3
  simp only [World.size_alloc] at k1 kr
  have c0 := keep_cell_l (.cells #[.int .i64 x] 3) (keep_cell_l (.cells #[.int .i64 x] 3) k0.1)
  have c1 := keep_cell_l (.cells #[.int .i64 x] 3) k1.1
  have s0 : w.heap.size < (((w.alloc (.cells #[.slice o ns.length cap] 24)).alloc (.cells #[.int .i64 x] 3)).alloc (.cells #[.int .i64 x] 3)).heap.size := by simp only [World.size_alloc]; omega
  have hT := toldAncestors_any o cap w.heap.size (w.heap.size + 1) (pathUp ns (parentD ns) (parentD ns x)) (.slice (some ⟨w.heap.size + 1 + 1, 0, none⟩) 1 1) [x] ns (((w.alloc (.cells #[.slice o ns.length cap] 24)).alloc (.cells #[.int .i64 x] 3)).alloc (.cells #[.int .i64 x] 3)) (hF.later hB3) hkl hal kr (by simp) (fun hE W hW => by
    obtain ⟨hR, hth⟩ := toldE_zero hE
    have hx := hth x (by simp)
    obtain ⟨i, hi, _⟩ := there_idx hx
    obtain ⟨b, off, rfl, hFA⟩ := hF.at_ (by omega)
    have hBW := hB3.trans (hW.mono hB3.size)
    have h1 := Ancestors1_any b off cap w.heap.size (w.heap.size + 1) x ns W hR (hFA.later hBW) hx
      ((hW.cell (p := ⟨w.heap.size, 0, none⟩) s0).trans c0)
      ((hW.cell (p := ⟨w.heap.size + 1, 0, none⟩) (by show w.heap.size + 1 < _; simp only [World.size_alloc]; omega)).trans c1)
    refine h1.mono ?_
    rintro e w' ⟨v, rfl, hr, hb⟩
    exact ⟨v, rfl, ownsRow_base hr hW.size, hb⟩)
  generalize (if toldE ns [x] = 0 then pathUp ns (parentD ns) (parentD ns x) else []) = A at *
  generalize toldE ns [x] = E at *
  have HB3 := hid hB3
  clear k0 k1 kr c0 c1 s0 hF hkl hal hB3
  go_enter Tryz.func8, Tryz.ntmps8
  go_wp2_with fail
  refine hT.mono ?_
  rintro e v1 ⟨v, rfl, hrow, hb1⟩
  have HRow := hid (ownsRow_base hrow HB3.out.size)
  have HB := hid (HB3.out.trans (hb1.mono HB3.out.size))
  clear hT hb1 HB3 hrow
  go_wp2
  go_ret2
  exact ⟨_, rfl, HRow.out, HB.out⟩
end Go.Proofs.YtfaeabjgplahgaaGreat
