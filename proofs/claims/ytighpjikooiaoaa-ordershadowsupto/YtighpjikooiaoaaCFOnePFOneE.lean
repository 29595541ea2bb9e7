/- The node ahead of one in the order of its tree (plain). -/
/- above, lengthOf, ahead. -/
/- lengthOf. -/
/- ahead. -/
/- The calls of order that ask one handle: Deep and Connected, where they are refused. -/
import Derived.Test.YtighpjikooiaoaaCFConFTree
import Derived.Test.YtighpjikooiaoaaCFNextFHolds
import Derived.Test.YtighpjikooiaoaaCFR4AFR4D
import Derived.Test.YtighpjikooiaoaaCFStandFCmp
import Derived.Test.YtighpjikooiaoaaCFRangeFAllC
namespace Go.Proofs.Ytighpjikooiaoaa
open Go.RowKit Go.Lib Go.Shelf

def prevD (ns : List NodeD) (x : Int) : Int := if indexD ns x == 0 then parentD ns x else lastI (allD ns ((kidsD ns (parentD ns x)).getD (indexD ns x - 1).toNat 0))

theorem snoc_of {l : List Int} (h : l ≠ []) : ∃ s k, l = s ++ [k] := ⟨l.dropLast, l.getLast h, (List.dropLast_concat_getLast h).symm⟩
theorem all_ne {ns : List NodeD} (h : RightF ns) {y : Int} (hy : thereB ns.length y = true) : allD ns y ≠ [] := by rw [all_cons h hy]; simp
theorem last_nil {ns : List NodeD} (h : RightF ns) {y : Int} (hy : thereB ns.length y = true) (hk : kidsD ns y = []) : lastI (allD ns y) = y := by rw [all_cons h hy, hk]; rfl
theorem last_snoc_all {ns : List NodeD} (h : RightF ns) {y k : Int} (hy : thereB ns.length y = true) {s : List Int} (hk : kidsD ns y = s ++ [k]) : lastI (allD ns y) = lastI (allD ns k) := by
  have hkt : thereB ns.length k = true := (h.kidsHang.down _ k hy (by rw [hk]; simp)).1
  rw [all_cons h hy, hk, List.flatMap_append, List.flatMap_cons, List.flatMap_nil, List.append_nil, ← List.cons_append]
  exact lastI_append _ _ (all_ne h hkt)
theorem flat_last {ns : List NodeD} (h : RightF ns) {k : Int} (hkt : thereB ns.length k = true) (u s : List Int) : lastI (u ++ (s ++ [k]).flatMap (allD ns)) = lastI (allD ns k) := by
  rw [List.flatMap_append, List.flatMap_cons, List.flatMap_nil, List.append_nil, ← List.append_assoc]
  exact lastI_append _ _ (all_ne h hkt)
theorem prev_parted {ns : List NodeD} (h : RightF ns) {x : Int} (hx : thereB ns.length x = true) : ∃ pre post, allD ns (lastI (pathUp ns (parentD ns) x)) = pre ++ x :: post ∧ x ∉ pre ∧ lastI pre = prevD ns x := by
  obtain ⟨r1, r2, r3⟩ := root_up h _ x (Nat.le_refl _) hx
  have hnd := all_once h r1
  have key : ∃ pre post, allD ns (lastI (pathUp ns (parentD ns) x)) = pre ++ x :: post ∧ lastI pre = prevD ns x := by
    by_cases hp : parentD ns x = 0
    · have hr : lastI (pathUp ns (parentD ns) x) = x := by rw [pathUp_head h hx, hp, pathUp_zero]; rfl
      refine ⟨[], (kidsD ns x).flatMap (allD ns), ?_, ?_⟩
      · rw [hr, all_cons h hx]; rfl
      · unfold prevD indexD; rw [hp]; rfl
    · have hpt := h.kidsHang.up_there hx hp
      have hrp : lastI (pathUp ns (parentD ns) x) ∈ pathUp ns (parentD ns) (parentD ns x) := by
        have e := pathUp_head h hx
        have hne := h.kidsHang.ne_nil hpt
        rw [e, show lastI (x :: pathUp ns (parentD ns) (parentD ns x)) = lastI (pathUp ns (parentD ns) (parentD ns x)) from lastI_append [x] _ hne]
        exact (root_up h _ _ (Nat.le_refl _) hpt).2.2
      obtain ⟨pre, post, e1, _⟩ := all_parted h r1 r2 _ (parentD ns x) (Nat.le_refl _) hpt hrp
      have hk := h.kid hx hp
      obtain ⟨s1, s2, hs⟩ := List.append_of_mem hk
      have hn1 : x ∉ s1 := fun hm => by
        have ho := h.kidsHang.once _ hpt
        rw [hs] at ho
        exact (List.nodup_append.1 ho).2.2 x hm x (by simp) rfl
      have hi : indexD ns x = (s1.length : Int) := by
        unfold indexD
        rw [beq_eq_false_iff_ne.2 hp, if_neg Bool.false_ne_true, idxI_idx _ _ _ hk, hs, List.idxOf_append, if_neg hn1, List.idxOf_cons_self]
        simp
      refine ⟨pre ++ (parentD ns x :: s1.flatMap (allD ns)), (kidsD ns x).flatMap (allD ns) ++ (s2.flatMap (allD ns) ++ post), ?_, ?_⟩
      · rw [e1, all_cons h hpt, hs, List.flatMap_append, List.flatMap_cons, all_cons h hx]
        simp
      · unfold prevD
        rw [hi]
        cases hs1 : s1 with
        | nil => exact lastI_append pre [parentD ns x] (by simp)
        | cons a t =>
          obtain ⟨s, k, hsk⟩ : ∃ s k, s1 = s ++ [k] := snoc_of (by rw [hs1]; simp)
          rw [← hs1, hsk]
          have hkt : thereB ns.length k = true := (h.kidsHang.down _ k hpt (by rw [hs, hsk]; simp)).1
          have hl : (((s ++ [k]).length : Nat) : Int) ≠ 0 := by rw [List.length_append]; simp; omega
          rw [beq_eq_false_iff_ne.2 hl, if_neg Bool.false_ne_true, hs, hsk]
          have hg : ((s ++ [k]) ++ x :: s2).getD ((((s ++ [k]).length : Nat) : Int) - 1).toNat 0 = k := by
            rw [show ((((s ++ [k]).length : Nat) : Int) - 1).toNat = s.length by rw [List.length_append]; simp, List.getD_eq_getElem?_getD, List.append_assoc, List.getElem?_append_right (Nat.le_refl _), Nat.sub_self]
            rfl
          rw [hg, show pre ++ (parentD ns x :: (s ++ [k]).flatMap (allD ns)) = (pre ++ [parentD ns x]) ++ (s ++ [k]).flatMap (allD ns) by simp]
          exact flat_last h hkt _ _
  obtain ⟨pre, post, e, hl⟩ := key
  refine ⟨pre, post, e, ?_, hl⟩
  rw [e] at hnd
  intro hm
  exact (List.nodup_append.1 hnd).2.2 x hm x (by simp) rfl

/-- The node so far behind another one in a list. -/
def besideD (l : List Int) (x d : Int) : Int := if 0 ≤ idxI l x 0 + d ∧ idxI l x 0 + d < (l.length : Int) then l.getD (idxI l x 0 + d).toNat 0 else 0
theorem idx_parted {pre post : List Int} {x : Int} (hn : x ∉ pre) : idxI (pre ++ x :: post) x 0 = (pre.length : Int) := by
  rw [idxI_idx _ _ _ (by simp), List.idxOf_append, if_neg hn, List.idxOf_cons_self]
  simp
theorem beside_next {ns : List NodeD} (h : RightF ns) {x : Int} (hx : thereB ns.length x = true) : besideD (allD ns (lastI (pathUp ns (parentD ns) x))) x 1 = nextD ns x := by
  obtain ⟨r1, r2, r3⟩ := root_up h _ x (Nat.le_refl _) hx
  obtain ⟨pre, post, e, hn, _, hh⟩ := next_parted h r1 r2 hx r3
  unfold besideD
  rw [e, idx_parted hn, ← hh]
  cases post with
  | nil =>
    rw [if_neg (by simp)]
    rfl
  | cons k t =>
    rw [if_pos ⟨by omega, by simp; omega⟩, show ((pre.length : Int) + 1).toNat = pre.length + 1 by omega, List.getD_eq_getElem?_getD, List.getElem?_append_right (by omega), show pre.length + 1 - pre.length = 1 by omega]
    rfl
theorem beside_prev {ns : List NodeD} (h : RightF ns) {x : Int} (hx : thereB ns.length x = true) : besideD (allD ns (lastI (pathUp ns (parentD ns) x))) x (-1) = prevD ns x := by
  obtain ⟨pre, post, e, hn, hh⟩ := prev_parted h hx
  unfold besideD
  rw [e, idx_parted hn, ← hh]
  cases hp : pre with
  | nil =>
    rw [if_neg (by simp)]
    rfl
  | cons a t =>
    obtain ⟨s, k, hsk⟩ : ∃ s k, pre = s ++ [k] := snoc_of (by rw [hp]; simp)
    rw [← hp, hsk, last_snoc]
    rw [if_pos ⟨by rw [List.length_append]; simp; omega, by simp; omega⟩, show ((((s ++ [k]).length : Nat) : Int) + -1).toNat = s.length by rw [List.length_append]; simp; omega, List.getD_eq_getElem?_getD, List.append_assoc, List.getElem?_append_right (Nat.le_refl _), Nat.sub_self]
    rfl
/-- A node's length: its kids, or its data. -/
def lengthD (n : NodeD) : Nat := n.kids.length + n.data.length
theorem length_data {n : NodeD} (h : bareD n = true) (hk : hasDataK n.kind = true) : lengthD n = n.data.length := by
  unfold bareD at h
  simp only [Bool.and_eq_true] at h
  have h7 := h.1.2
  have hkk : hasKidsK n.kind = false := by
    unfold hasDataK at hk
    unfold hasKidsK
    simp at hk
    rcases hk with ((hk | hk) | hk) | hk <;> rw [hk] <;> rfl
  rw [hkk] at h7
  simp at h7
  unfold lengthD
  rw [h7]
  simp
theorem length_kids {n : NodeD} (h : bareD n = true) (hk : hasDataK n.kind = false) : lengthD n = n.kids.length := by
  unfold bareD at h
  simp only [Bool.and_eq_true] at h
  have h6 := h.1.1.2
  rw [hk] at h6
  simp at h6
  unfold lengthD
  rw [h6]
  simp
end Go.Proofs.Ytighpjikooiaoaa

namespace Go.Proofs.Ytighpjikooiaoaa
open Go.RowKit Go.Lib Go.Shelf

/-- A call of a function at a step of a region that draws its order; any number of arguments. -/
theorem step_callN {P : Program} (w : World) {ops : Array Oper} {o : Oper} {a : Act} {K : Act → World → Prop} {Q : Exit → Act → World → Prop} {E : Prop} (hgd : o.guard = none) (os : Array Operand) (ts : Array TypeId) (f : FuncId)
    (ho : o.op = .call { callee := .value (.func f), args := os, argTypes := ts }) (vs : Array Value) (hs : os.map a.eval = vs) (hE : (callFunc f vs).run P w = .ok (.enter f vs) w) (R : Ending → World → Prop)
    (hc : Calls P f vs w R) (h : ∀ e w', R e w' → ∃ v, e = .returned v ∧ K (a.put o.dst v) w') :
    if Region.wanted o (yielded ops a.tmps) = true then Oper.wp P o a w K Q else E := by
  have hw : Region.wanted o (yielded ops a.tmps) = true := by simp [Region.wanted, hgd]
  rw [if_pos hw]
  have hf : a.eval (.func f) = .func (.func f) #[] #[] := rfl
  unfold Oper.wp
  simp [execOp, ho, resolve, invoke, hs, hf, hE, Deferred.ofValue]
  refine hc.mono ?_
  rintro e w' hR
  obtain ⟨v, rfl, hK⟩ := h e w' hR
  exact hK

theorem enterParent (vs vx : Value) (w : World) : (callFunc 45 #[vs, vx]).run Try.prog w = .ok (.enter 45 #[vs, vx]) w := by kernel_rfl
theorem enterKids (vs vx : Value) (w : World) : (callFunc 18 #[vs, vx]).run Try.prog w = .ok (.enter 18 #[vs, vx]) w := by kernel_rfl
theorem enterNode (vs vx : Value) (w : World) : (callFunc 34 #[vs, vx]).run Try.prog w = .ok (.enter 34 #[vs, vx]) w := by kernel_rfl
theorem enterUpBy (vs vx vy : Value) (w : World) : (callFunc 37 #[vs, vx, vy]).run Try.prog w = .ok (.enter 37 #[vs, vx, vy]) w := by kernel_rfl

end Go.Proofs.Ytighpjikooiaoaa

namespace Go.Proofs.Ytighpjikooiaoaa
open Go.RowKit Go.Lib Go.Shelf

end Go.Proofs.Ytighpjikooiaoaa

namespace Go.Proofs.Ytighpjikooiaoaa
open Go.RowKit Go.Lib Go.Shelf

end Go.Proofs.Ytighpjikooiaoaa

namespace Go.Proofs.Ytighpjikooiaoaa
open Go.RowKit Go.Lib Go.Shelf
set_option maxRecDepth 100000 in
set_option maxHeartbeats 4000000 in
theorem toldDeep_any (o : Option Addr) (cap u1 u2 : Nat) (R : List Int) (v : Value) (hs : List Int) (ns : List NodeD) (w : World) (hF : FRd w o cap ns) (hkl : ∀ (i : Nat) (hi : i < ns.length), ns[i].kids.length ≤ 1099511627776) (hal : ∀ (i : Nat) (hi : i < ns.length), ns[i].attrs.length ≤ 1099511627776) (hv : RdI w v hs) (hl : hs.length ≤ 1099511627776)
    (hT : toldE ns hs = 0 → ∀ W : World, Below w.heap.size w W → Calls Try.prog 19 #[.pointer (some ⟨u1, 0, none⟩), .pointer (some ⟨u2, 0, none⟩)] W fun e w' => ∃ v, e = .returned v ∧ w'.ownsRow w.heap.size 3 1 v R.length (R.map (Value.int .i64)) ∧ Below W.heap.size W w') :
    Calls Try.prog 15 #[.agg #[.slice o ns.length cap], .func (.func 19) #[] #[.pointer (some ⟨u1, 0, none⟩), .pointer (some ⟨u2, 0, none⟩)], v] w fun e w' => ∃ v, e = .returned (.tuple #[v, .int .i64 (toldE ns hs)]) ∧ w'.ownsRow w.heap.size 3 1 v (if toldE ns hs = 0 then R else []).length ((if toldE ns hs = 0 then R else []).map (Value.int .i64)) ∧ Below w.heap.size w w' := by
  have HC : Hid (∀ W : World, Below w.heap.size w W → _) := fun W hW => Check_any o cap ns W (hF.later hW) hkl hal
  have hle := hF.len
  obtain ⟨o2, c2, rfl, hc2, g2⟩ := hv
  clear hF hkl hal
  generalize checkN ns = CN at *
  cases hr : rightD ns with
  | false =>
    have e0 : toldE ns hs = 5 := by unfold toldE; rw [hr]; rfl
    have e1 : checkE ns = 5 := by unfold checkE; rw [hr]; rfl
    rw [e0, if_neg (by decide)]
    rw [e1] at HC
    clear hT e0 e1 g2
    go_enter Try.func15, Try.ntmps15
    go_wp2_with fail
    refine (HC.out _ ((Below.refl _ w).alloc (Nat.le_refl _) _)).mono ?_
    rintro e v1 ⟨rfl, hb1⟩
    go_wp2
    go_ret2
    exact ⟨_, rfl, World.ownsRow_nil _ _ _ _, box_go hb1⟩
  | true =>
    have e1 : checkE ns = 0 := (checkE_right hr).1
    rw [e1] at HC
    obtain ⟨E, hE⟩ : ∃ E, toldE ns hs = E := ⟨_, rfl⟩
    rw [hE] at hT ⊢
    have HE : Hid ((if (hs.drop 0).all (thereB ns.length) then (0 : Int) else 2) = E) := by
      have := hE
      unfold toldE at this
      rw [hr, if_pos rfl] at this
      exact this
    obtain ⟨T, hTe⟩ : ∃ T, (if E = 0 then R else []) = T := ⟨_, rfl⟩
    rw [hTe]
    have HTe := hid hTe
    have HT := hid hT
    clear hE hT e1 hTe
    go_enter Try.func15, Try.ntmps15
    go_wp2_with fail
    refine (HC.out _ ((Below.refl _ w).alloc (Nat.le_refl _) _)).mono ?_
    rintro e v1 ⟨rfl, hb1⟩
    have HB1 := hid (box_go hb1)
    have cb := box_forest hb1
    clear hb1 HC
    go_wp2
    go_loopw [24] (fun t wr => ∃ k : Nat, k ≤ hs.length ∧ t = .int .i64 k ∧ wr = v1 ∧ Hid ((if (hs.drop k).all (thereB ns.length) then (0 : Int) else 2) = E)) (fun t _ => hs.length - (RowKit.intOf t).toNat)
    case atStart => exact ⟨0, Nat.zero_le _, rfl, rfl, HE⟩
    case round =>
      obtain ⟨k, k1, rfl, rfl, hK⟩ := hrel
      by_cases hlt : k < hs.length
      · obtain ⟨b, off, rfl, hlt1, ha⟩ := g2 (by omega)
        have x1 := (HB1.out.cell (p := ⟨b, off + k, none⟩) hlt1).trans (ha k hlt)
        have q1 : (0 : Int) ≤ (k : Int) := by omega
        have q2 : (k : Int) < (hs.length : Int) := by omega
        have hk := hK.out
        rw [List.drop_eq_getElem_cons hlt, List.all_cons] at hk
        have Hk := hid hk
        clear hk hK ha g2
        generalize hs[k] = a at *
        by_cases g1 : a < 1
        · have hf : thereB ns.length a = false := by unfold thereB; rw [decide_eq_false (by omega)]; rfl
          have hE2 : E = 2 := by rw [← Hk.out, hf]; rfl
          subst hE2
          have hT0 : T = [] := by rw [← HTe.out]; rfl
          subst hT0
          have d1 : decide (a < 1) = true := decide_eq_true g1
          clear Hk hf HT
          go_wp2
          go_ret2
          exact ⟨_, rfl, World.ownsRow_nil _ _ _ _, HB1.out⟩
        · have d1 : decide (a < 1) = false := decide_eq_false g1
          by_cases g3 : (ns.length : Int) < a
          · have hf : thereB ns.length a = false := by unfold thereB; rw [decide_eq_false (p := a ≤ (ns.length : Int)) (by omega), Bool.and_false]
            have hE2 : E = 2 := by rw [← Hk.out, hf]; rfl
            subst hE2
            have hT0 : T = [] := by rw [← HTe.out]; rfl
            subst hT0
            have d2 : decide ((ns.length : Int) < a) = true := decide_eq_true g3
            clear Hk hf HT
            go_wp2
            go_ret2
            exact ⟨_, rfl, World.ownsRow_nil _ _ _ _, HB1.out⟩
          · have hf : thereB ns.length a = true := by unfold thereB; rw [decide_eq_true (by omega), decide_eq_true (by omega)]; rfl
            have d2 : decide ((ns.length : Int) < a) = false := decide_eq_false g3
            have Hn : Hid ((if (hs.drop (k + 1)).all (thereB ns.length) then (0 : Int) else 2) = E) := by
              have h := Hk.out
              rw [hf, Bool.true_and] at h
              exact h
            clear Hk hf
            go_wp2
            go_roundw
            case rel => exact ⟨k + 1, by omega, by go_num, trivial, Hn⟩
            case measure => simp [RowKit.intOf]; omega
      · have hE0 : E = 0 := by rw [← hK.out, List.drop_eq_nil_of_le (by omega)]; rfl
        subst hE0
        have hT := HT.out rfl wr HB1.out
        have hT0 : T = R := by rw [← HTe.out]; rfl
        subst hT0
        clear hK g2 HT HTe
        go_wp2_with fail
        refine hT.mono ?_
        rintro e v2 ⟨vr, rfl, hrow, hb2⟩
        have HB2 := hid (HB1.out.trans (hb2.mono HB1.out.size))
        have HRow := hid hrow
        clear hT hb2 hrow
        go_wp2
        go_ret2
        exact ⟨_, rfl, HRow.out, HB2.out⟩

set_option maxRecDepth 100000 in
set_option maxHeartbeats 4000000 in
theorem Deep_no (o : Option Addr) (cap : Nat) (x : Int) (ns : List NodeD) (w : World) (hF : FRd w o cap ns) (hkl : ∀ (i : Nat) (hi : i < ns.length), ns[i].kids.length ≤ 1099511627776) (hal : ∀ (i : Nat) (hi : i < ns.length), ns[i].attrs.length ≤ 1099511627776) (hno : toldE ns [x] ≠ 0) :
    Calls Try.prog 6 #[.agg #[.slice o ns.length cap], .int .i64 x] w fun e w' => ∃ v, e = .returned (.tuple #[v, .int .i64 (toldE ns [x])]) ∧ w'.ownsRow w.heap.size 3 1 v (if toldE ns [x] = 0 then ([] : List Int) else []).length ((if toldE ns [x] = 0 then ([] : List Int) else []).map (Value.int .i64)) ∧ Below w.heap.size w w' := by
  have hB3 : Below w.heap.size w (((w.alloc (.cells #[.slice o ns.length cap] 24)).alloc (.cells #[.int .i64 x] 3)).alloc (.cells #[.int .i64 x] 3)) := (((Below.refl _ w).alloc (Nat.le_refl _) _).alloc (by simp) _).alloc (by simp; omega) _
  have k0 := new_cell_l w (.slice o ns.length cap) 24
  have k1 := new_cell_l (w.alloc (.cells #[.slice o ns.length cap] 24)) (.int .i64 x) 3
  have kr := one_rdI ((w.alloc (.cells #[.slice o ns.length cap] 24)).alloc (.cells #[.int .i64 x] 3)) x 3
  simp only [World.size_alloc] at k1 kr
  have c0 := keep_cell_l (.cells #[.int .i64 x] 3) (keep_cell_l (.cells #[.int .i64 x] 3) k0.1)
  have c1 := keep_cell_l (.cells #[.int .i64 x] 3) k1.1
  have s0 : w.heap.size < (((w.alloc (.cells #[.slice o ns.length cap] 24)).alloc (.cells #[.int .i64 x] 3)).alloc (.cells #[.int .i64 x] 3)).heap.size := by simp only [World.size_alloc]; omega
  have hT := toldDeep_any o cap w.heap.size (w.heap.size + 1) (([] : List Int)) (.slice (some ⟨w.heap.size + 1 + 1, 0, none⟩) 1 1) [x] ns (((w.alloc (.cells #[.slice o ns.length cap] 24)).alloc (.cells #[.int .i64 x] 3)).alloc (.cells #[.int .i64 x] 3)) (hF.later hB3) hkl hal kr (by simp) (fun hE => absurd hE hno)
  generalize (if toldE ns [x] = 0 then ([] : List Int) else []) = A at *
  generalize toldE ns [x] = E at *
  have HB3 := hid hB3
  clear k0 k1 kr c0 c1 s0 hF hkl hal hB3 hno
  go_enter Try.func6, Try.ntmps6
  go_wp2_with fail
  refine hT.mono ?_
  rintro e v1 ⟨v, rfl, hrow, hb1⟩
  have HRow := hid (ownsRow_base hrow HB3.out.size)
  have HB := hid (HB3.out.trans (hb1.mono HB3.out.size))
  clear hT hb1 HB3 hrow
  go_wp2
  go_ret2
  exact ⟨_, rfl, HRow.out, HB.out⟩
end Go.Proofs.Ytighpjikooiaoaa
