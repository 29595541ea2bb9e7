/- The reference of bounds: plain words. -/
/- The reference of bounds: Length, One; bounds.Check, bounds.Length; canopyref05.Wrong. -/
/- The reference of bounds: all points of a node (Points). -/
/- The reference of bounds: why points, or nodes, are none (Wrong). -/
/- The reference of bounds: One, Position, Check, Compare, Walk, Same. -/
/- The reference of bounds: Check, Compare, Walk. -/
import Derived.Test.YtilacgcjbdkphaaGreatCFBdaFBdc
import Derived.Test.YtilacgcjbdkphaaGreatCFRMadeFR4G
import Derived.Test.YtilacgcjbdkphaaGreatCFR4AFBeg
import Derived.BigQuiet
import Derived.Test.YtilacgcjbdkphaaGreatCFSkipHFWk0
namespace Go.Proofs.YtilacgcjbdkphaaGreat
open Go.RowKit Go.Lib

/-- Which of two points comes first in a list. -/
def seekD (a b : Int × Int) : List (Int × Int) → Int
  | [] => 0
  | x :: l => if x = a then -1 else if x = b then 1 else seekD a b l
/-- How two points stand, by the list of all. -/
def refPosD (ns : List NodeD) (a b : Int × Int) : Int := if a = b then 0 else seekD a b (ptsD ns (rootP ns a.1))
theorem idx_cons_ne {a x : Int × Int} (h : x ≠ a) (l : List (Int × Int)) : (x :: l).idxOf a = l.idxOf a + 1 := by
  rw [List.idxOf_cons, beq_eq_false_iff_ne.2 h]
  rfl
theorem seek_cmp {a b : Int × Int} (hne : a ≠ b) : ∀ l : List (Int × Int), a ∈ l → b ∈ l → seekD a b l = cmpI (l.idxOf a : Nat) (l.idxOf b : Nat)
  | [], h, _ => absurd h (by simp)
  | x :: l, ha, hb => by
    rw [seekD]
    by_cases h1 : x = a
    · subst h1
      rw [if_pos rfl, List.idxOf_cons_self, idx_cons_ne hne]
      unfold cmpI
      rw [if_pos (by omega)]
    · rw [if_neg h1, idx_cons_ne h1]
      by_cases h2 : x = b
      · subst h2
        rw [if_pos rfl, List.idxOf_cons_self]
        unfold cmpI
        rw [if_neg (by omega), if_pos (by omega)]
      · rw [if_neg h2, idx_cons_ne h2]
        have ma : a ∈ l := by
          rcases List.mem_cons.1 ha with e | e
          · exact absurd e.symm h1
          · exact e
        have mb : b ∈ l := by
          rcases List.mem_cons.1 hb with e | e
          · exact absurd e.symm h2
          · exact e
        rw [seek_cmp hne l ma mb]
        generalize l.idxOf a = p
        generalize l.idxOf b = q
        unfold cmpI
        repeat' split
        all_goals omega
theorem refPos_eq {ns : List NodeD} (h : RightF ns) {a b : Int × Int} (hp : isPt ns a) (hq : isPt ns b) (e : rootP ns a.1 = rootP ns b.1) : refPosD ns a b = cmpI (posD ns a) (posD ns b) := by
  unfold refPosD
  by_cases he : a = b
  · subst he
    rw [if_pos rfl]
    unfold cmpI
    rw [if_neg (by omega), if_neg (by omega)]
  · rw [if_neg he]
    have ma := pt_root h h.oneOf hp
    have mb := pt_root h h.oneOf hq
    rw [← e] at mb
    rw [seek_cmp he _ ma mb]
    unfold posD
    rw [← e]
/-- The points of a node, as the reference lists them. -/
theorem hasData_kids {n : NodeD} (h : wellMadeD n = true) (hd : hasDataK n.kind = true) : n.kids = [] := by
  have e := length_data (well_parts h).2.1 hd
  unfold lengthD at e
  exact List.length_eq_zero_iff.1 (by omega)
theorem hasData_data {n : NodeD} (h : wellMadeD n = true) (hd : hasDataK n.kind = false) : n.data.length = 0 := by
  have e := length_kids (well_parts h).2.1 hd
  unfold lengthD at e
  omega
/-- Why points, or nodes, are none. -/
def refWrongD (ns : List NodeD) (l : List (Int × Int)) (hs : List Int) : Int := if toldE ns (l.map (·.1) ++ hs) = 0 then (if l.all (inLen ns) then 0 else 14) else toldE ns (l.map (·.1) ++ hs)
theorem refWrong_eq (ns : List NodeD) (l : List (Int × Int)) : refWrongD ns l [] = lookE ns l := by
  unfold refWrongD lookE toldE wrongD
  rw [List.append_nil, List.all_map]
  cases rightD ns with
  | false => rfl
  | true =>
    have e : l.all (thereB ns.length ∘ fun x => x.1) = l.all fun b => thereB ns.length b.1 := rfl
    rw [e]
    cases l.all (fun b => thereB ns.length b.1) with
    | false => rfl
    | true => cases l.all (inLen ns) <;> rfl
end Go.Proofs.YtilacgcjbdkphaaGreat

namespace Go.Proofs.YtilacgcjbdkphaaGreat
open Go.RowKit Go.Lib Go.Shelf

theorem box1g {w V : World} {a : Value} {t : TypeId} (hb : Below (w.alloc (.cells #[a] t)).heap.size (w.alloc (.cells #[a] t)) V) : V.cell? ⟨w.heap.size, 0, none⟩ = some a :=
  (hb.cell (p := ⟨w.heap.size, 0, none⟩) (by simp)).trans (by simp)
theorem toldE_one {ns : List NodeD} {x : Int} : toldE ns [x] = if rightD ns then (if thereB ns.length x then 0 else 2) else 5 := by
  unfold toldE
  simp only [List.all_cons, List.all_nil, Bool.and_true]
theorem orNone_at {ns : List NodeD} {j : Nat} (hj : j < ns.length) : nodeOrNone ns ((j : Int) + 1) = ns[j] := by unfold nodeOrNone; rw [nodeOf_at ns j hj]; rfl

set_option maxRecDepth 100000 in
set_option maxHeartbeats 4000000 in
theorem refLen15_any (o : Option Addr) (cap : Nat) (x : Int) (ns : List NodeD) (w : World) (hR : RightF ns) (hF : FRd w o cap ns) (hx : thereB ns.length x = true) :
    Calls Tryz.prog 10 #[.agg #[.slice o ns.length cap], .int .i64 x] w fun e w' => e = .returned (.int .i64 (lenN ns x)) ∧ Below w.heap.size w w' := by
  have hB0 : Below w.heap.size w (w.alloc (.cells #[.slice o ns.length cap] 24)) := (Below.refl _ w).alloc (Nat.le_refl _) _
  have hN := refNode_any o cap x ns _ (hF.later hB0)
  obtain ⟨j, hj, rfl⟩ := there_idx hx
  have hbr := (well_parts (hR.well j hj)).2.1
  have hlen := lenN_at j hj
  rw [orNone_at hj] at hN
  rw [hlen]
  have HB0 := hid hB0
  have hHD : ∀ V : World, _ := fun V => refHasData_any ns[j].kind V
  have HLd : Hid (hasDataK ns[j].kind = true → lengthD ns[j] = ns[j].data.length) := fun h => length_data hbr h
  have HLk : Hid (hasDataK ns[j].kind = false → lengthD ns[j] = ns[j].kids.length) := fun h => length_kids hbr h
  have HK : Hid (hasDataK ns[j].kind = (ns[j].kind == 3 || ns[j].kind == 4 || ns[j].kind == 7 || ns[j].kind == 8)) := by
    show _ = _
    rfl
  have HHD := hid hHD
  clear hR hF hx hbr hlen hB0 hHD
  generalize ns[j] = n at *
  generalize lengthD n = LN at *
  go_enter Tryz.func10, Tryz.ntmps10
  go_wp2_with fail
  refine hN.mono ?_
  rintro e v1 ⟨L, rfl, h1, h2, h3, hb⟩
  obtain ⟨od, cd, oa, ca, ok, ck, rfl⟩ := lists_slices h1 h2 h3
  have HB1 := hid (HB0.out.trans (hb.mono HB0.out.size))
  have hbA : ∀ ob : Obj, Below v1.heap.size v1 (v1.alloc ob) := fun ob => (Below.refl _ v1).alloc (Nat.le_refl _) _
  have hnb := node_box (W := v1) n ⟨.slice od n.data.length cd, .slice oa n.attrs.length ca, .slice ok n.kids.length ck⟩
  have Hnb := hid hnb
  have HbA := hid hbA
  obtain ⟨n0, n1, n2, n3, n4, n5, n6, n7, n8, n9, n10, n11, n12, n13, n14, n15⟩ := hnb
  simp only at n6 n7 n9
  unfold nodeV
  have hD := HHD.out (v1.alloc (.cells #[.int .u8 (n.kind : Int), .string n.space, .string n.pre, .string n.loc, .string n.pub, .string n.sys, .slice od n.data.length cd, .slice oa n.attrs.length ca, .int .i64 n.parent, .slice ok n.kids.length ck, .int .i64 n.doc, .int .i64 n.host, .int .i64 n.shadow, .int .u8 (n.mode : Int), .bool n.manual, .bool n.html] 64))
  rw [← HK.out] at hD
  clear h1 h2 h3 hb hN hbA
  cases hk : hasDataK n.kind with
  | true =>
    rw [hk] at hD
    have hLN := HLd.out hk
    subst hLN
    clear HLd HLk HK hk
    go_wp2_with fail
    refine hD.mono ?_
    rintro e v2 ⟨rfl, rfl⟩
    go_wp2
    go_ret
    exact ⟨rfl, HB1.out.trans ((HbA.out _).mono HB1.out.size)⟩
  | false =>
    rw [hk] at hD
    have hLN := HLk.out hk
    subst hLN
    clear HLd HLk HK hk
    go_wp2_with fail
    refine hD.mono ?_
    rintro e v2 ⟨rfl, rfl⟩
    go_wp2
    go_ret
    exact ⟨rfl, HB1.out.trans ((HbA.out _).mono HB1.out.size)⟩

set_option maxRecDepth 100000 in
set_option maxHeartbeats 4000000 in
theorem ref05WrongB_any (o : Option Addr) (cap : Nat) (x : Int) (ns : List NodeD) (w : World) (hF : FRd w o cap ns) (hkl : ∀ (i : Nat) (hi : i < ns.length), ns[i].kids.length ≤ 1099511627776) (hal : ∀ (i : Nat) (hi : i < ns.length), ns[i].attrs.length ≤ 1099511627776) :
    Calls Tryz.prog 51 #[.agg #[.slice o ns.length cap], .int .i64 x] w fun e w' => e = .returned (.int .i64 (toldE ns [x])) ∧ Below w.heap.size w w' := by
  have hB0 : Below w.heap.size w (w.alloc (.cells #[.slice o ns.length cap] 24)) := (Below.refl _ w).alloc (Nat.le_refl _) _
  have HR := hid (refRight_any o cap ns _ (hF.later hB0) hkl hal)
  have HN : Hid (∀ W : World, Below w.heap.size w W → _) := fun W hW => refNode_any o cap x ns W (hF.later hW)
  have HB0 := hid hB0
  rw [toldE_one]
  clear hF hkl hal hB0
  cases hr : rightD ns with
  | false =>
    rw [hr] at HR
    rw [if_neg Bool.false_ne_true]
    clear hr HN
    go_enter Tryz.func51, Tryz.ntmps51
    go_wp2_with fail
    refine HR.out.mono ?_
    rintro e v1 ⟨rfl, hb⟩
    go_wp2
    go_ret
    exact ⟨rfl, HB0.out.trans (hb.mono HB0.out.size)⟩
  | true =>
    rw [hr] at HR
    rw [if_pos rfl]
    clear hr
    generalize hT : (if thereB ns.length x = true then (0 : Int) else 2) = T
    have hT2 : (thereB ns.length x = true ∧ T = 0) ∨ (thereB ns.length x = false ∧ T = 2) := by
      rw [← hT]
      cases thereB ns.length x with
      | true => exact .inl ⟨rfl, rfl⟩
      | false => exact .inr ⟨rfl, rfl⟩
    clear hT
    rcases hT2 with ⟨ht, rfl⟩ | ⟨ht, rfl⟩ <;> rw [ht] at HN <;> clear ht
    all_goals
      go_enter Tryz.func51, Tryz.ntmps51
      go_wp2_with fail
      refine HR.out.mono ?_
      rintro e v1 ⟨rfl, hb⟩
      have q0 := box1g hb
      have HB1 := hid (HB0.out.trans (hb.mono HB0.out.size))
      have hN := HN.out v1 HB1.out
      clear hb HN
      go_wp2_with fail
      refine hN.mono ?_
      rintro e v2 ⟨L, rfl, h1, h2, h3, hb⟩
      obtain ⟨D, A, K⟩ := L
      obtain ⟨od, cd, e1, _⟩ := h1
      obtain ⟨oa, ca, e2, _⟩ := h2
      obtain ⟨ok, ck, e3, _⟩ := h3
      simp only at e1 e2 e3
      subst e1 e2 e3
      have HB2 := hid (HB1.out.trans (hb.mono HB1.out.size))
      unfold nodeV
      clear hb hN q0
      go_wp2
      go_ret
      exact ⟨rfl, HB2.out.alloc HB2.out.size _⟩

set_option maxRecDepth 100000 in
set_option maxHeartbeats 4000000 in
theorem bLength_any (o : Option Addr) (cap : Nat) (x : Int) (ns : List NodeD) (w : World) (hF : FRd w o cap ns) (hkl : ∀ (i : Nat) (hi : i < ns.length), ns[i].kids.length ≤ 1099511627776) (hal : ∀ (i : Nat) (hi : i < ns.length), ns[i].attrs.length ≤ 1099511627776) :
    Calls Tryz.prog 8 #[.agg #[.slice o ns.length cap], .int .i64 x] w fun e w' => e = .returned (.tuple #[.int .i64 (if toldE ns [x] = 0 then (lenN ns x : Int) else 0), .int .i64 (toldE ns [x])]) ∧ Below w.heap.size w w' := by
  have hB0 : Below w.heap.size w (w.alloc (.cells #[.slice o ns.length cap] 24)) := (Below.refl _ w).alloc (Nat.le_refl _) _
  have hL := Length_any o cap x ns _ (hF.later hB0) hkl hal
  have he : (if toldE ns [x] = 0 then ((lengthD (nodeOrNone ns x) : Nat) : Int) else 0) = if toldE ns [x] = 0 then (lenN ns x : Int) else 0 := by
    by_cases h : toldE ns [x] = 0
    · rw [if_pos h, if_pos h]
      obtain ⟨_, hth⟩ := toldE_zero h
      obtain ⟨j, hj, rfl⟩ := there_idx (hth x (by simp))
      rw [lenN_at j hj, orNone_at hj]
    · rw [if_neg h, if_neg h]
  rw [he] at hL
  have HB0 := hid hB0
  clear he hF hkl hal hB0
  generalize (if toldE ns [x] = 0 then (lenN ns x : Int) else 0) = A at *
  generalize toldE ns [x] = E at *
  go_enter Tryz.func8, Tryz.ntmps8
  go_wp2_with fail
  refine hL.mono ?_
  rintro e v1 ⟨rfl, hb1⟩
  have HB := hid (HB0.out.trans (hb1.mono HB0.out.size))
  clear hL hb1 HB0
  go_wp2
  go_ret2
  exact ⟨rfl, HB.out⟩

theorem looked_any (o : Option Addr) (cap : Nat) (v : Value) (l : List (Int × Int)) (ns : List NodeD) (w : World) (hF : FRd w o cap ns) (hkl : ∀ (i : Nat) (hi : i < ns.length), ns[i].kids.length ≤ 1099511627776) (hal : ∀ (i : Nat) (hi : i < ns.length), ns[i].attrs.length ≤ 1099511627776) (hv : RdB w v l) (hl : l.length ≤ 4096) :
    Calls Tryz.prog 41 #[.agg #[.slice o ns.length cap], v] w fun e w' => ∃ o1 n1 c1 o2 n2 c2 o3 n3 c3 o4 n4 c4, e = .returned (.tuple #[.agg #[.slice o1 n1 c1, .slice o2 n2 c2, .slice o3 n3 c3, .slice o4 n4 c4], .int .i64 (lookE ns l)]) ∧ Below w.heap.size w w' := by
  by_cases hE : lookE ns l = 0
  · obtain ⟨hR, hW⟩ := lookE_zero hE
    refine (bLooked_ok o cap v l ns w hF hkl hal hv hl hR hW).mono ?_
    rintro e w' ⟨bR, bF, bL, rfl, _, hb⟩
    rw [hE]
    exact ⟨_, _, _, _, _, _, _, _, _, _, _, _, rfl, hb⟩
  · refine (bLooked_err o cap v l ns w hF hkl hal hv hl hE).mono ?_
    rintro e w' ⟨rfl, hb⟩
    exact ⟨_, _, _, _, _, _, _, _, _, _, _, _, rfl, hb⟩

set_option maxRecDepth 100000 in
set_option maxHeartbeats 4000000 in
theorem bCheck_any (o : Option Addr) (cap : Nat) (x c : Int) (ns : List NodeD) (w : World) (hF : FRd w o cap ns) (hkl : ∀ (i : Nat) (hi : i < ns.length), ns[i].kids.length ≤ 1099511627776) (hal : ∀ (i : Nat) (hi : i < ns.length), ns[i].attrs.length ≤ 1099511627776) :
    Calls Tryz.prog 17 #[.agg #[.slice o ns.length cap], bndV x c] w fun e w' => e = .returned (.int .i64 (lookE ns [(x, c)])) ∧ Below w.heap.size w w' := by
  obtain ⟨bx, g0, g1, sx⟩ := two_newB w (.cells #[.slice o ns.length cap] 24) (.cells #[.int .i64 x, .int .i64 c] 26)
  have hrd := one_rdB ((w.alloc (.cells #[.slice o ns.length cap] 24)).alloc (.cells #[.int .i64 x, .int .i64 c] 26)) x c
  have hbA : Below ((w.alloc (.cells #[.slice o ns.length cap] 24)).alloc (.cells #[.int .i64 x, .int .i64 c] 26)).heap.size ((w.alloc (.cells #[.slice o ns.length cap] 24)).alloc (.cells #[.int .i64 x, .int .i64 c] 26)) _ := (Below.refl _ _).alloc (Nat.le_refl _) (.cells #[.int .i64 x, .int .i64 c] 26)
  have hL := looked_any o cap _ _ ns _ (hF.later (bx.trans (hbA.mono bx.size))) hkl hal hrd (by simp)
  have Hbx := hid (bx.trans (hbA.mono bx.size))
  rw [sx] at hL
  clear hF hkl hal hrd bx hbA g0 g1
  generalize lookE ns [(x, c)] = E at *
  unfold bndV
  go_enter Tryz.func17, Tryz.ntmps17
  go_wp2_with fail
  refine hL.mono ?_
  rintro e v1 ⟨o1, n1, c1, o2, n2, c2, o3, n3, c3, o4, n4, c4, rfl, hb1⟩
  have HB1 := hid (Hbx.out.trans (hb1.mono Hbx.out.size))
  clear hL hb1
  go_wp2
  go_ret
  exact ⟨rfl, HB1.out.alloc HB1.out.size _⟩
end Go.Proofs.YtilacgcjbdkphaaGreat

namespace Go.Proofs.YtilacgcjbdkphaaGreat
open Go.RowKit Go.Lib Go.Shelf

theorem step_append_runB {P : Program} (w : World) {ops : Array Oper} {o : Oper} {a : Act} {K : Act → World → Prop} {Q : Exit → Act → World → Prop} {E : Prop} (hgd : o.guard = none) (s x : Operand) (t tn : TypeId)
    (ho : o.op = .call { callee := .builtin .append, args := #[s, x], argTypes := #[t, tn] }) (vs vx : Value) (hs : a.eval s = vs) (hx : a.eval x = vx) (v' : Value) (w' : World) (hr : (Builtin.append_ #[t, tn] o.type #[vs, vx]).run P w = .ok v' w') (dd : Option Nat) (hdd : o.dst = dd) (h : K (a.put dd v') w') :
    if Region.wanted o (yielded ops a.tmps) = true then Oper.wp P o a w K Q else E := by
  have hw : Region.wanted o (yielded ops a.tmps) = true := by simp [Region.wanted, hgd]
  rw [if_pos hw]
  rw [← hdd] at h
  exact wp_append_run w s x t tn ho vs vx hs hx v' w' hr h
/-- The points up to a place. -/
def prefD (ns : List NodeD) (D : Bool) (x : Int) (ks : List Int) (k : Nat) : List (Int × Int) := (x, 0) :: (if D = true then (List.range k).map (fun i : Nat => (x, (i : Int) + 1)) else kidPts (ptsD ns) x (ks.take k) 0)
theorem pref_zero (ns : List NodeD) (D : Bool) (x : Int) (ks : List Int) : prefD ns D x ks 0 = [(x, 0)] := by
  unfold prefD
  cases D with
  | true => rfl
  | false => rw [List.take_zero]; rfl
theorem pref_data (ns : List NodeD) (x : Int) (ks : List Int) (k : Nat) : prefD ns true x ks k ++ [(x, (k : Int) + 1)] = prefD ns true x ks (k + 1) := by
  unfold prefD
  rw [if_pos rfl, if_pos rfl, List.range_succ, List.map_append, List.cons_append]
  rfl
theorem pref_kid (ns : List NodeD) (x : Int) (ks : List Int) (k : Nat) (h : k < ks.length) : prefD ns false x ks k ++ ptsD ns ks[k] ++ [(x, (k : Int) + 1)] = prefD ns false x ks (k + 1) := by
  unfold prefD
  rw [if_neg Bool.false_ne_true, if_neg Bool.false_ne_true]
  have htk : ks.take (k + 1) = ks.take k ++ [ks[k]] := by rw [List.take_add_one, List.getElem?_eq_getElem h]; rfl
  rw [htk, kidPts_append, List.length_take, Nat.min_eq_left (by omega), Nat.zero_add]
  simp
theorem pref_kid_len (ns : List NodeD) (x : Int) (ks : List Int) (k : Nat) (h : k < ks.length) : (prefD ns false x ks k).length + (szD ns ks[k] + 1) ≤ 1 + kidSum ns ks := by
  unfold prefD
  rw [if_neg Bool.false_ne_true, List.length_cons, kidPts_len]
  have h1 : kidSum ns (ks.take (k + 1)) + kidSum ns (ks.drop (k + 1)) = kidSum ns ks := by rw [← kidSum_append, List.take_append_drop]
  have htk : ks.take (k + 1) = ks.take k ++ [ks[k]] := by rw [List.take_add_one, List.getElem?_eq_getElem h]; rfl
  rw [htk, kidSum_append, kidSum_cons] at h1
  omega
theorem pref_data_len (ns : List NodeD) (x : Int) (ks : List Int) (k : Nat) : (prefD ns true x ks k).length = 1 + k := by
  unfold prefD
  rw [if_pos rfl, List.length_cons, List.length_map, List.length_range]
  omega
theorem pref_all {ns : List NodeD} (hR : RightF ns) {j : Nat} (hj : j < ns.length) : ptsD ns ((j : Int) + 1) = prefD ns (hasDataK ns[j].kind) ((j : Int) + 1) ns[j].kids (lengthD ns[j]) := by
  have hx := thereB_idx ns.length j hj
  have hkd : kidsD ns ((j : Int) + 1) = ns[j].kids := by unfold kidsD; rw [nodeOf_at ns j hj]
  have hdn : dataN ns ((j : Int) + 1) = ns[j].data.length := by unfold dataN; rw [nodeOf_at ns j hj]
  rw [pts_cons hR hx, hkd, hdn]
  unfold prefD lengthD
  cases hd : hasDataK ns[j].kind with
  | true =>
    rw [hasData_kids (hR.well j hj) hd]
    simp [kidPts]
  | false =>
    rw [hasData_data (hR.well j hj) hd]
    simp

set_option maxRecDepth 100000 in
set_option maxHeartbeats 8000000 in
theorem refPoints_any (b off cap : Nat) (ns : List NodeD) (w : World) (hR : RightF ns) (hF : FAt w b off cap ns) :
    ∀ (f : Nat) (x : Int) (W : World), thereB ns.length x = true → ns.length < f + (pathUp ns (parentD ns) x).length → Below w.heap.size w W →
      Calls Tryz.prog 52 #[.agg #[.slice (some ⟨b, off, none⟩) ns.length cap], .int .i64 x] W fun e W' => ∃ v, e = .returned v ∧ W'.ownsRow W.heap.size 26 2 v (ptsD ns x).length (rowP (ptsD ns x)) ∧ Below W.heap.size W W' := by
  intro f
  induction f with
  | zero =>
    intro x W hx hf
    have := pathUp_len ns (parentD ns) hR.parentOK hR.ends x (.inr hx)
    omega
  | succ f ih =>
    intro x W hx hf hB
    have hsz := hR.sz hx
    have hse := sz_eq hR hx
    obtain ⟨j, hj, rfl⟩ := there_idx hx
    have hpa := pref_all hR hj
    have hkd : kidsD ns ((j : Int) + 1) = ns[j].kids := by unfold kidsD; rw [nodeOf_at ns j hj]
    have hdn : dataN ns ((j : Int) + 1) = ns[j].data.length := by unfold dataN; rw [nodeOf_at ns j hj]
    rw [hkd, hdn] at hse
    have HIH : Hid (∀ (y : Int) (V : World), y ∈ ns[j].kids → Below w.heap.size w V → _) := fun y V hy => by
      obtain ⟨n, hn, hp⟩ := (hR.kids j hj).1 y hy
      obtain ⟨i, hi2, e, e2⟩ := nodeOf_idx hn
      have hyt : thereB ns.length y = true := by rw [e]; exact thereB_idx _ _ hi2
      have hpy : parentD ns y = (j : Int) + 1 := by rw [e, parentD_at ns i hi2, ← hp, ← e2]
      refine ih y V hyt ?_
      rw [pathUp_head hR hyt, hpy, List.length_cons]
      omega
    have HLn : Hid (∀ V : World, Below w.heap.size w V → _) := fun V hV => refLen15_any (some ⟨b, off, none⟩) cap ((j : Int) + 1) ns V hR (hF.later hV).rd hx
    rw [lenN_at j hj] at HLn
    have hB0 : Below W.heap.size W (W.alloc (.cells #[.slice (some ⟨b, off, none⟩) ns.length cap] 24)) := (Below.refl _ W).alloc (Nat.le_refl _) _
    have hN := refNode_any (some ⟨b, off, none⟩) cap ((j : Int) + 1) ns _ (hF.later (hB.trans (hB0.mono hB.size))).rd
    rw [orNone_at hj] at hN
    have HHD : Hid (∀ V : World, Calls Tryz.prog 40 #[.int .u8 (ns[j].kind : Int)] V fun e w' => e = .returned (.bool (hasDataK ns[j].kind)) ∧ w' = V) := fun V => refHasData_any ns[j].kind V
    have hkd0 : hasDataK ns[j].kind = true → ns[j].kids = [] := hasData_kids (hR.well j hj)
    have hkl := hR.kids_lenB j hj
    have hdl := well_dataB (hR.well j hj)
    have hlk : hasDataK ns[j].kind = false → lengthD ns[j] = ns[j].kids.length := length_kids (well_parts (hR.well j hj)).2.1
    have hld : hasDataK ns[j].kind = true → lengthD ns[j] = ns[j].data.length := length_data (well_parts (hR.well j hj)).2.1
    rw [hpa]
    have Hk0 := hid hkd0
    have Hlk := hid hlk
    have Hld := hid hld
    have Hse := hid hse
    have Hpa := hid hpa
    have HB := hid hB
    have HB0 := hid hB0
    have Hsz := hid (show szD ns ((j : Int) + 1) + 1 ≤ 67117056 from hR.sz hx)
    clear ih hR hF hf hkd hdn hx hB hse hsz hpa hkd0 hlk hld hB0
    generalize ns[j] = nd at *
    generalize hD : hasDataK nd.kind = D at *
    have hll : lengthD nd ≤ 67117056 := by
      unfold lengthD
      omega
    clear hD
    generalize lengthD nd = LN at *
    go_enter Tryz.func52, Tryz.ntmps52
    go_wp2_with fail
    refine hN.mono ?_
    rintro e v1 ⟨L, rfl, h1, h2, h3, hb⟩
    obtain ⟨od, cdd, oa, caa, ok, ckk, rfl⟩ := lists_slices h1 h2 h3
    have hnb := node_box (W := v1) nd ⟨.slice od nd.data.length cdd, .slice oa nd.attrs.length caa, .slice ok nd.kids.length ckk⟩
    have bx1 := HB0.out.trans (hb.mono HB0.out.size)
    have hbA : Below v1.heap.size v1 (v1.alloc (.cells #[.int .u8 (nd.kind : Int), .string nd.space, .string nd.pre, .string nd.loc, .string nd.pub, .string nd.sys, .slice od nd.data.length cdd, .slice oa nd.attrs.length caa, .int .i64 nd.parent, .slice ok nd.kids.length ckk, .int .i64 nd.doc, .int .i64 nd.host, .int .i64 nd.shadow, .int .u8 (nd.mode : Int), .bool nd.manual, .bool nd.html] 64)) := (Below.refl _ v1).alloc (Nat.le_refl _) _
    have bx := bx1.trans (hbA.mono bx1.size)
    have c0 := cellLater (B := W.heap.size) (hb.trans (hbA.mono hb.size)) (by simp) (new_cell_l W (.slice (some ⟨b, off, none⟩) ns.length cap) 24).1
    have hsW : W.heap.size < v1.heap.size := Nat.lt_of_lt_of_le (by simp) hb.size
    have hK3 : RdI (v1.alloc (.cells #[.int .u8 (nd.kind : Int), .string nd.space, .string nd.pre, .string nd.loc, .string nd.pub, .string nd.sys, .slice od nd.data.length cdd, .slice oa nd.attrs.length caa, .int .i64 nd.parent, .slice ok nd.kids.length ckk, .int .i64 nd.doc, .int .i64 nd.host, .int .i64 nd.shadow, .int .u8 (nd.mode : Int), .bool nd.manual, .bool nd.html] 64)) (.slice ok nd.kids.length ckk) nd.kids := h3.later hbA
    have hsA : (v1.alloc (.cells #[.int .u8 (nd.kind : Int), .string nd.space, .string nd.pre, .string nd.loc, .string nd.pub, .string nd.sys, .slice od nd.data.length cdd, .slice oa nd.attrs.length caa, .int .i64 nd.parent, .slice ok nd.kids.length ckk, .int .i64 nd.doc, .int .i64 nd.host, .int .i64 nd.shadow, .int .u8 (nd.mode : Int), .bool nd.manual, .bool nd.html] 64)).heap.size = v1.heap.size + 1 := by simp
    clear h1 h2 h3 hb hN HB0
    unfold nodeV
    go_upto_region 2 with fail
    obtain ⟨n0, n1, n2, n3, n4, n5, n6, n7, n8, n9, n10, n11, n12, n13, n14, n15⟩ := hnb
    simp only at n9
    clear n1 n2 n3 n4 n5 n6 n7 n8 n10 n11 n12 n13 n14 n15 hbA bx1
    generalize v1.alloc (.cells #[.int .u8 (nd.kind : Int), .string nd.space, .string nd.pre, .string nd.loc, .string nd.pub, .string nd.sys, .slice od nd.data.length cdd, .slice oa nd.attrs.length caa, .int .i64 nd.parent, .slice ok nd.kids.length ckk, .int .i64 nd.doc, .int .i64 nd.host, .int .i64 nd.shadow, .int .u8 (nd.mode : Int), .bool nd.manual, .bool nd.html] 64) = W0 at *
    obtain ⟨B, hBe⟩ : ∃ B, W0.heap.size = B := ⟨_, rfl⟩
    have hO0 : (W0.alloc (.cells #[.int .i64 ((j : Int) + 1), .int .i64 0] 26)).ownsRow B 26 2 (.slice (some ⟨W0.heap.size, 0, none⟩) (prefD ns D ((j : Int) + 1) nd.kids 0).length 1) (prefD ns D ((j : Int) + 1) nd.kids 0).length (rowP (prefD ns D ((j : Int) + 1) nd.kids 0)) := by
      rw [pref_zero, ← hBe]
      exact ⟨rfl, .inr ⟨W0.heap.size, 1, _, rfl, Nat.le_refl _, heap_new W0 _, Nat.le_refl _, by decide, rfl, rfl⟩⟩
    have hB0 : Below B W0 (W0.alloc (.cells #[.int .i64 ((j : Int) + 1), .int .i64 0] 26)) := by rw [← hBe]; exact (Below.refl _ W0).alloc (Nat.le_refl _) _
    have HO0 := hid hO0
    have HB0 := hid hB0
    have Hbx := hid bx
    have HK3 := hid hK3
    have HBe := hid hBe
    clear hO0 hB0 bx hK3 hBe
    go_wp2
    go_loopw [8, 7] (fun t u wr => ∃ (k : Nat) (o2 : Option Addr) (c2 : Nat), k ≤ LN ∧ t = .int .i64 ((k : Int) + 1) ∧ u = .slice o2 (prefD ns D ((j : Int) + 1) nd.kids k).length c2 ∧ Hid (wr.ownsRow B 26 2 (.slice o2 (prefD ns D ((j : Int) + 1) nd.kids k).length c2) (prefD ns D ((j : Int) + 1) nd.kids k).length (rowP (prefD ns D ((j : Int) + 1) nd.kids k))) ∧ Hid (Below B W0 wr)) (fun t _ _ => LN + 1 - (RowKit.intOf t).toNat)
    case atStart => exact ⟨0, some ⟨W0.heap.size, 0, none⟩, 1, Nat.zero_le _, rfl, by rw [pref_zero, hsA]; rfl, HO0, HB0⟩
    case round =>
      obtain ⟨k, o2, c2, hk, rfl, rfl, hO, hBB⟩ := hrel
      clear HO0 HB0
      have hBs : B ≤ wr.heap.size := by rw [← HBe.out]; exact Nat.le_trans (by rw [HBe.out]; exact Nat.le_refl _) hBB.out.size
      have hBB2 : Below W0.heap.size W0 wr := by rw [HBe.out]; exact hBB.out
      have hBw := HB.out.trans ((Hbx.out.trans (hBB2.mono Hbx.out.size)).mono HB.out.size)
      have d0 := cellLater (B := W.heap.size) hBB2 (by omega) c0
      have dn0 := cellLater (B := v1.heap.size) hBB2 (by omega) n0
      have hLen := HLn.out wr hBw
      have HBw := hid hBw
      have HBB2 := hid hBB2
      clear hBw hBB2
      by_cases hlt : k < LN
      · have dl : decide ((k : Int) + 1 ≤ (LN : Int)) = true := decide_eq_true (by omega)
        go_wp2_with fail
        refine hLen.mono ?_
        rintro e v2 ⟨rfl, hb2⟩
        have dm0 := cellLater (B := v1.heap.size) hb2 (Nat.lt_of_lt_of_le (by omega) HBB2.out.size) dn0
        have hHD := HHD.out v2
        have HB2 := hid (HBB2.out.trans (hb2.mono HBB2.out.size))
        have HO2 := hid (ownsRow_later hO.out hb2)
        have hB2s : B ≤ v2.heap.size := Nat.le_trans hBs hb2.size
        clear hLen hb2 d0 dn0 hO
        cases D with
        | true =>
          obtain ⟨o3, c3, w3, e3, ho3, hbb3, _⟩ := push_pt v2 B _ _ ((j : Int) + 1) ((k : Int) + 1) HO2.out hB2s (by rw [pref_data_len]; omega)
          rw [pref_data] at e3 ho3
          have HO3 := hid ho3
          have E3 := hid e3
          have HBB3 : Hid (Below B W0 w3) := (show Below B W0 v2 by rw [← HBe.out]; exact HB2.out).trans hbb3
          clear e3 ho3 hbb3 HO2
          generalize prefD ns true ((j : Int) + 1) nd.kids k = DK at *
          go_wp2_with fail
          refine hHD.mono ?_
          rintro e v3 ⟨rfl, rfl⟩
          go_wp2_with (at_builtin; refine wpList_append_run _ rfl _ _ 35 35 rfl _ _ rfl rfl _ _ (E3.out _) ?_)
          go_roundw
          case rel => exact ⟨k + 1, o3, c3, by omega, by go_num, rfl, HO3, HBB3⟩
          case measure => simp [RowKit.intOf]; omega
        | false =>
          have hln := Hlk.out rfl
          have hkk : k < nd.kids.length := by omega
          obtain ⟨ok', ck', e9, hcap9, g9⟩ := HK3.out
          simp only [Value.slice.injEq, true_and] at e9
          obtain ⟨bk, offk, e10, hltk, hak⟩ := g9 (by omega)
          have x1 := hak k hkk
          have hpl := pref_kid_len ns ((j : Int) + 1) nd.kids k hkk
          have hpk := pref_kid ns ((j : Int) + 1) nd.kids k hkk
          have HCy := hid (fun V hV => HIH.out nd.kids[k] V (List.getElem_mem hkk) hV)
          have hszy : (ptsD ns nd.kids[k]).length = szD ns nd.kids[k] := rfl
          have hall := Hse.out
          have hzz := Hsz.out
          rw [e9.1, e10, e9.2] at n9
          clear e9 e10
          have Hpk := hid hpk
          have q1 : (0 : Int) ≤ (k : Int) := by omega
          have q2 : (k : Int) < (nd.kids.length : Int) := by omega
          have f6 : IntKind.i64.wrap (k : Int) = (k : Int) := wrap_smallB (by omega) (by omega)
          clear hpk hak g9 HK3 Hk0 Hld Hlk HIH Hse Hsz
          generalize nd.kids[k] = y at *
          have HPl : Hid ((prefD ns false ((j : Int) + 1) nd.kids k).length + (ptsD ns y).length + 1 ≤ 67117056) := by show _ ≤ _; omega
          clear hpl hszy hall hzz
          generalize prefD ns false ((j : Int) + 1) nd.kids k = DK at *
          go_wp2_with fail
          refine hHD.mono ?_
          rintro e v3 ⟨rfl, rfl⟩
          clear hHD
          go_upto_region 7 with fail
          go_cut [8, 7] from 18 to 44 (fun i t wx => ∃ o8 c8, i = .int .i64 ((k : Int) + 1) ∧ t = .slice o8 (DK ++ ptsD ns y).length c8 ∧ wx.ownsRow B 26 2 (.slice o8 (DK ++ ptsD ns y).length c8) (DK ++ ptsD ns y).length (rowP (DK ++ ptsD ns y)) ∧ Below W0.heap.size W0 wx)
          case first =>
            refine wp_region_held_drew (S := fun V => Below W0.heap.size W0 V) (by kernel_rfl) (HB2.out.drew) (fun hHeld => ?_)
            have HB_V0 := hid hHeld
            have HOw := hid (ownsRow_later HO2.out ((Below.refl _ v3).drew))
            have hzV : v3.heap.size ≤ v3.drew.heap.size := (Below.refl v3.heap.size v3).drew.size
            generalize v3.drew = V0 at *
            refine oneH 0 29 (.slice o2 DK.length c2) hHeld ?_ ?_
            · intro V _; go_simp
            simp only [Act.put, sA, s0, sS]
            refine oneH 1 30 (.agg #[.slice (some ⟨b, off, none⟩) ns.length cap]) hHeld ?_ ?_
            · intro V hSw; (try dsimp only at hSw); have k0 := cellLater (B := W.heap.size) hSw (by omega) c0; go_simp
            simp only [Act.put, sA, s0, sS]
            refine oneH 2 31 (.pointer (some ⟨v1.heap.size, 9, none⟩)) hHeld ?_ ?_
            · intro V _; go_simp
            simp only [Act.put, sA, s0, sS]
            refine oneH 3 32 (.slice (some ⟨bk, offk, none⟩) nd.kids.length ck') hHeld ?_ ?_
            · intro V hSw; (try dsimp only at hSw); have k0 := cellLater (B := v1.heap.size) hSw (by omega) n9; go_simp
            simp only [Act.put, sA, s0, sS]
            refine oneH 4 33 (.int .i64 ((k : Int) + 1)) hHeld ?_ ?_
            · intro V _; go_simp
            simp only [Act.put, sA, s0, sS]
            refine oneH 5 34 (.int .i64 (k : Int)) hHeld ?_ ?_
            · intro V _; go_simp
            simp only [Act.put, sA, s0, sS]
            refine oneH 6 35 (.pointer (some ⟨bk, offk + k, none⟩)) hHeld ?_ ?_
            · intro V _; go_simp
            simp only [Act.put, sA, s0, sS]
            refine oneH 7 36 (.int .i64 y) hHeld ?_ ?_
            · intro V hSw; (try dsimp only at hSw); have k0 := cellLater (B := bk) hSw (by omega) x1; go_simp
            simp only [Act.put, sA, s0, sS]
            refine wpAnyH_ready (rs := [8]) (by kernel_rfl) (by simp) ?_
            refine AllReadyH.cons rfl (fun K hK => ?_) AllReadyH.nil
            go_simp
            go_wp2_with (go_at_call 52; refine (HCy.out V0 (HB.out.trans ((Hbx.out.trans (HB_V0.out.mono Hbx.out.size)).mono HB.out.size))).mono ?_; rintro e V1 ⟨vx, rfl, hox, hb⟩; have HB_V1 := hid (HB_V0.out.trans (hb.mono HB_V0.out.size)); have HS_V1 := hid (HB_V1.out.size); have HOX := hid (ownsP_rd hox); have HOw1 := hid (ownsRow_later HOw.out hb); have hz1 := hb.size; obtain ⟨ox, cx, rfl⟩ := own_shapeB hox)
            refine hK.out _ _ HB_V1.out (fun hHeld => ?_)
            clear hK K
            obtain ⟨v8, w8, e8, ho8, hg8⟩ := run_append_rdB V1 B _ _ DK (ptsD ns y) _ HOw1.out (by omega) HOX.out (by have := HPl.out; omega)
            have hb8 := below_grownB HOw1.out (by omega) hg8
            obtain ⟨o8, c8, rfl⟩ := own_shapeB ho8
            refine wpAnyH_ready (rs := [9]) (by kernel_rfl) (by simp) ?_
            refine AllReadyH.cons rfl (fun K hK => ?_) AllReadyH.nil
            refine step_append_runB _ rfl (.tmp 29) (.tmp 37) 35 35 rfl _ _ rfl rfl _ _ e8 (some 38) rfl ?_
            have HB_V2 : Hid (Below W0.heap.size W0 w8) := HB_V1.out.trans (by rw [HBe.out]; exact hb8)
            refine hK.out _ _ HB_V2.out (fun hHeld => ?_)
            clear hK K e8
            simp only [Act.put, sA, s0, sS]
            refine oneH 10 7 (.slice o8 (DK ++ ptsD ns y).length c8) hHeld ?_ ?_
            · intro V _; go_simp
            simp only [Act.put, sA, s0, sS]
            refine wpAnyH_done (by kernel_rfl) ?_ _
            go_wp2_with fail
            go_meet
            exact ⟨o8, c8, rfl, rfl, ho8, HB_V2.out⟩
          case rest =>
          obtain ⟨o8, c8, rfl, rfl, ho8, hbc⟩ := hcut
          have HB_V2 := hid hbc
          have hb8 : B ≤ wc.heap.size := by rw [← HBe.out]; exact hbc.size
          obtain ⟨o3, c3, w3, e3, ho3, hbb3, _⟩ := push_pt wc B _ _ ((j : Int) + 1) ((k : Int) + 1) ho8 hb8 (by rw [List.length_append]; have := HPl.out; omega)
          rw [Hpk.out] at e3 ho3
          have HO3 := hid ho3
          have E3 := hid e3
          have HBB3 : Hid (Below B W0 w3) := (show Below B W0 wc by rw [← HBe.out]; exact HB_V2.out).trans hbb3
          clear e3 ho3 hbb3 HO2 ho8 hb8 hbc
          generalize DK ++ ptsD ns y = DY at *
          go_wp2_with (at_builtin; refine wpList_append_run _ rfl _ _ 35 35 rfl _ _ rfl rfl _ _ (E3.out _) ?_)
          go_roundw
          case rel => exact ⟨k + 1, o3, c3, by omega, by go_num, rfl, HO3, HBB3⟩
          case measure => simp [RowKit.intOf]; omega
      · have hkn : k = LN := by omega
        subst hkn
        have dl : decide ((k : Int) + 1 ≤ (k : Int)) = false := decide_eq_false (by omega)
        go_wp2_with fail
        refine hLen.mono ?_
        rintro e v2 ⟨rfl, hb2⟩
        have HOf := hid (ownsRow_later hO.out hb2)
        have HBf := hid ((Hbx.out.trans (HBB2.out.mono Hbx.out.size)).trans (hb2.mono (Hbx.out.trans (HBB2.out.mono Hbx.out.size)).size))
        clear hLen hb2 hO hBB
        go_wp2
        go_ret
        exact ⟨_, rfl, ownsRow_base HOf.out (by rw [← HBe.out]; exact Hbx.out.size), HBf.out⟩
end Go.Proofs.YtilacgcjbdkphaaGreat

namespace Go.Proofs.YtilacgcjbdkphaaGreat
open Go.RowKit Go.Lib Go.Shelf

theorem own_shapeI {W : World} {base : Nat} {v : Value} {l : List Int} (h : W.ownsRow base 3 1 v l.length (l.map (Value.int .i64))) : ∃ o c, v = .slice o l.length c := by
  rcases h.2 with ⟨rfl, h0⟩ | ⟨g, cap, cur, rfl, _⟩
  · exact ⟨none, 0, by rw [h0]⟩
  · exact ⟨_, _, rfl⟩
/-- A number more. -/
theorem push_intB (W : World) (B : Nat) (v : Value) (done : List Int) (x : Int) (hown : W.ownsRow B 3 1 v done.length (done.map (Value.int .i64))) (hB : B ≤ W.heap.size) (hn : done.length ≤ 1000000000) :
    ∃ o cp w', (∀ ty, (Builtin.append_ #[32, 32] ty #[v, .slice (some ⟨W.heap.size, 0, none⟩) 1 1]).run Tryz.prog (W.alloc (.cells #[.int .i64 x] 3)) = .ok (.slice o (done ++ [x]).length cp) w') ∧ w'.ownsRow B 3 1 (.slice o (done ++ [x]).length cp) (done ++ [x]).length ((done ++ [x]).map (Value.int .i64)) ∧ Below B W w' := by
  have hA : Below W.heap.size W (W.alloc (.cells #[.int .i64 x] 3)) := (Below.refl _ W).alloc (Nat.le_refl _) _
  have hO := hown.alloc (.cells #[.int .i64 x] 3)
  obtain ⟨v', w', h1, h2, h3⟩ := run_append_rdI _ B v _ done [x] 0 hO (Nat.le_trans hB hA.size) (one_rdI W x _) (by simp; omega)
  obtain ⟨o, cp, rfl⟩ := own_shapeI h2
  exact ⟨o, cp, w', fun ty => h1, h2, (hA.mono hB).trans (below_grownI hO (Nat.le_trans hB hA.size) h3)⟩
/-- A box ahead of all else. -/
theorem one_newB (w : World) (a : Obj) : Below w.heap.size w (w.alloc a) ∧ (w.alloc a).heap[w.heap.size]? = some a ∧ (w.alloc a).heap.size = w.heap.size + 1 :=
  ⟨(Below.refl _ w).alloc (Nat.le_refl _) _, heap_new w a, by simp⟩

set_option maxRecDepth 100000 in
set_option maxHeartbeats 8000000 in
theorem refWrong15_any (o : Option Addr) (cap : Nat) (vp vh : Value) (l : List (Int × Int)) (hs : List Int) (ns : List NodeD) (w : World) (hF : FRd w o cap ns) (hkl : ∀ (i : Nat) (hi : i < ns.length), ns[i].kids.length ≤ 1099511627776) (hal : ∀ (i : Nat) (hi : i < ns.length), ns[i].attrs.length ≤ 1099511627776) (hv : RdB w vp l) (hl : l.length ≤ 4096) (hh : RdI w vh hs) (hhl : hs.length ≤ 4096) :
    Calls Tryz.prog 44 #[.agg #[.slice o ns.length cap], vp, vh] w fun e w' => e = .returned (.int .i64 (refWrongD ns l hs)) ∧ Below w.heap.size w w' := by
  have HFa : Hid (∀ (v : Value) (V : World), Below w.heap.size w V → RdI V v (l.map (·.1) ++ hs) → _) := fun v V hV hr => refFault_any o cap v _ ns V (hF.later hV) hkl hal hr (by rw [List.length_append, List.length_map]; omega)
  have HLn : Hid (toldE ns (l.map (·.1) ++ hs) = 0 → ∀ p ∈ l, ∀ V : World, Below w.heap.size w V → Calls Tryz.prog 10 #[.agg #[.slice o ns.length cap], .int .i64 p.1] V fun e w' => e = .returned (.int .i64 (lenN ns p.1)) ∧ Below V.heap.size V w') := fun hE p hp V hV => by
    obtain ⟨hR, hth⟩ := toldE_zero hE
    exact refLen15_any o cap p.1 ns V hR (hF.later hV) (hth p.1 (List.mem_append_left _ (List.mem_map_of_mem hp)))
  obtain ⟨bx, g0, sx⟩ := one_newB w (.cells #[.slice o ns.length cap] 24)
  obtain ⟨ol, cl, rfl, hcl, gl⟩ := hv
  obtain ⟨oh, ch, ehh, _⟩ := id hh
  subst ehh
  have hgl : ∀ (V : World), Below w.heap.size w V → ∀ (k : Nat) (hk : k < l.length), ∃ bl offl, ol = some ⟨bl, offl, none⟩ ∧ V.cell? ⟨bl, offl + k * 2, none⟩ = some (.int .i64 l[k].1) ∧ V.cell? ⟨bl, offl + k * 2 + 1, none⟩ = some (.int .i64 l[k].2) := fun V hV k hk => by
    obtain ⟨bl, offl, e, hlt, ha⟩ := gl (by omega)
    exact ⟨bl, offl, e, cellLater hV hlt (ha k hk).1, cellLater hV hlt (ha k hk).2⟩
  have HGl := hid hgl
  have HH := hid hh
  have Hbx := hid bx
  have c0 := (box_cell_l g0).1
  clear hF hkl hal gl hgl hh bx
  unfold refWrongD
  generalize hE : toldE ns (l.map (·.1) ++ hs) = E at *
  clear hE
  obtain ⟨R, hRe⟩ : ∃ R : Int, (if E = 0 then (if l.all (inLen ns) = true then (0 : Int) else 14) else E) = R := ⟨_, rfl⟩
  rw [hRe]
  have HRe := hid hRe
  clear hRe
  go_enter Tryz.func44, Tryz.ntmps44
  go_upto_region 1 with fail
  generalize w.alloc (.cells #[.slice o ns.length cap] 24) = W0 at *
  obtain ⟨B, hBe⟩ : ∃ B, W0.heap.size = B := ⟨_, rfl⟩
  have HBe := hid hBe
  have h0 : W0.ownsRow B 3 1 (.slice none 0 0) ((l.take 0).map (·.1)).length (((l.take 0).map (·.1)).map (Value.int .i64)) := World.ownsRow_nil _ _ _ _
  have H0 := hid h0
  have HB0 : Hid (Below B W0 W0) := Below.refl _ _
  clear h0 hBe
  go_wp2
  go_loopw [15, 7] (fun t u wr => ∃ (k : Nat) (o2 : Option Addr) (c2 : Nat), k ≤ l.length ∧ t = .int .i64 k ∧ u = .slice o2 ((l.take k).map (·.1)).length c2 ∧ Hid (wr.ownsRow B 3 1 (.slice o2 ((l.take k).map (·.1)).length c2) ((l.take k).map (·.1)).length (((l.take k).map (·.1)).map (Value.int .i64))) ∧ Hid (Below B W0 wr)) (fun t _ _ => l.length - (RowKit.intOf t).toNat)
  case atStart => exact ⟨0, none, 0, Nat.zero_le _, rfl, by simp, H0, HB0⟩
  case round =>
    obtain ⟨k, o2, c2, hk, rfl, rfl, hO, hBB⟩ := hrel
    clear H0 HB0
    have hBB2 : Below W0.heap.size W0 wr := by rw [HBe.out]; exact hBB.out
    have hBs : B ≤ wr.heap.size := by rw [← HBe.out]; exact hBB2.size
    have hBw := Hbx.out.trans (hBB2.mono Hbx.out.size)
    by_cases hlt : k < l.length
    · obtain ⟨bl, offl, rfl, x1, x2⟩ := HGl.out wr hBw k hlt
      have htk : (l.take k).map (·.1) ++ [l[k].1] = (l.take (k + 1)).map (·.1) := by rw [List.take_add_one, List.getElem?_eq_getElem hlt, List.map_append]; rfl
      have q1 : (0 : Int) ≤ (k : Int) := by omega
      have q2 : (k : Int) < (l.length : Int) := by omega
      have dl : decide ((k : Int) < (l.length : Int)) = true := decide_eq_true q2
      have hln : ((l.take k).map (·.1)).length ≤ 4096 := by rw [List.length_map, List.length_take]; omega
      obtain ⟨b1, y1, z1⟩ := one_newB wr (.cells #[.int .i64 l[k].1, .int .i64 l[k].2] 26)
      obtain ⟨o3, c3, w3, e3, ho3, hbb3⟩ := push_intB (wr.alloc (.cells #[.int .i64 l[k].1, .int .i64 l[k].2] 26)) B _ _ l[k].1 (hO.out.alloc _) (by rw [z1]; omega) (by omega)
      rw [htk] at e3 ho3
      simp only [z1] at e3
      have HO3 := hid ho3
      have E3 := hid e3
      have HBB3 : Hid (Below B W0 w3) := hBB.out.trans ((b1.mono hBs).trans hbb3)
      clear e3 ho3 hbb3 htk hO hBB hBB2 hBw b1 y1 z1 HLn HFa HGl hln
      generalize (l.take k).map (·.1) = DK at *
      generalize l[k].1 = px at *
      generalize l[k].2 = pc at *
      go_wp2_with (at_builtin; refine wpList_append_run _ rfl _ _ 32 32 rfl _ _ rfl rfl _ _ (E3.out _) ?_)
      go_roundw
      case rel => exact ⟨k + 1, o3, c3, by omega, by go_num, by simp, HO3, HBB3⟩
      case measure => simp [RowKit.intOf]; omega
    · have hkn : k = l.length := by omega
      subst hkn
      have dl : decide ((l.length : Int) < (l.length : Int)) = false := decide_eq_false (by omega)
      rw [List.take_length] at hO ⊢
      have HH2 := hid (HH.out.later hBw)
      have hln : (l.map (·.1)).length ≤ 4096 := by rw [List.length_map]; omega
      have HBB2 := hid hBB2
      clear hBB2 hBw hBB
      generalize hDL : l.map (·.1) = DL at *
      clear hDL
      go_upto_region 7 with fail
      go_cut [10] (fun t wx => t = .int .i64 E ∧ Below W0.heap.size W0 wx)
      case first =>
        refine wp_region_held_drew (S := fun V => Below W0.heap.size W0 V) (by kernel_rfl) (HBB2.out.drew) (fun hHeld => ?_)
        have HB_V0 := hid hHeld
        have HOw := hid (ownsRow_later hO.out ((Below.refl _ wr).drew))
        have HHw := hid (HH2.out.later ((Below.refl _ wr).drew))
        have hzV : wr.heap.size ≤ wr.drew.heap.size := (Below.refl wr.heap.size wr).drew.size
        generalize wr.drew = V0 at *
        refine oneH 0 25 (.agg #[.slice o ns.length cap]) hHeld ?_ ?_
        · intro V hSw; (try dsimp only at hSw); have k0 := cellLater (B := w.heap.size) hSw (by omega) c0; go_simp
        simp only [Act.put, sA, s0, sS]
        refine oneH 1 26 (.slice o2 DL.length c2) hHeld ?_ ?_
        · intro V _; go_simp
        simp only [Act.put, sA, s0, sS]
        refine oneH 2 27 (.slice oh hs.length ch) hHeld ?_ ?_
        · intro V _; go_simp
        simp only [Act.put, sA, s0, sS]
        obtain ⟨v8, w8, e8, ho8, hg8⟩ := run_append_rdI V0 B _ _ DL hs _ HOw.out (by omega) HHw.out (by omega)
        have hb8 := below_grownI HOw.out (by omega) hg8
        obtain ⟨o8, c8, rfl⟩ := own_shapeI ho8
        have HRD := hid (ownsRow_rdI ho8)
        clear ho8
        generalize hN8 : (DL ++ hs).length = N8 at *
        clear hN8
        refine wpAnyH_ready (rs := [3]) (by kernel_rfl) (by simp) ?_
        refine AllReadyH.cons rfl (fun K hK => ?_) AllReadyH.nil
        refine step_append_runB _ rfl (.tmp 26) (.tmp 27) 32 32 rfl _ _ rfl rfl _ _ e8 (some 28) rfl ?_
        have HB_V1 : Hid (Below W0.heap.size W0 w8) := HB_V0.out.trans (by rw [HBe.out]; exact hb8)
        refine hK.out _ _ HB_V1.out (fun hHeld => ?_)
        clear hK K e8
        simp only [Act.put, sA, s0, sS]
        clear hg8 hb8
        generalize w8 = V1 at *
        refine wpAnyH_ready (rs := [4]) (by kernel_rfl) (by simp) ?_
        refine AllReadyH.cons rfl (fun K hK => ?_) AllReadyH.nil
        go_simp
        go_wp2_with (go_at_call 9; refine (HFa.out _ V1 (Hbx.out.trans (HB_V1.out.mono Hbx.out.size)) HRD.out).mono ?_; rintro e V2 ⟨rfl, hb⟩; have HB_V2 := hid (HB_V1.out.trans (hb.mono HB_V1.out.size)); have HS_V2 := hid (HB_V2.out.size))
        refine hK.out _ _ HB_V2.out (fun hHeld => ?_)
        clear hK K
        refine oneH 5 10 (.int .i64 E) hHeld ?_ ?_
        · intro V _; go_simp
        simp only [Act.put, sA, s0, sS]
        refine wpAnyH_done (by kernel_rfl) ?_ _
        go_wp2_with fail
        go_meet
        exact ⟨rfl, HB_V2.out⟩
      case rest =>
      obtain ⟨rfl, hb⟩ := hcut
      have HBc := hid hb
      clear hb hO HBB2 HH2 HFa
      by_cases hE : E = 0
      · subst hE
        have HLn2 := hid (HLn.out rfl)
        have hRR := HRe.out
        rw [if_pos rfl] at hRR
        have HR : Hid ((if (l.drop 0).all (inLen ns) = true then (0 : Int) else 14) = R) := hRR
        clear hRR HLn HRe
        go_wp2
        go_loopw [35] (fun t wr => ∃ (k : Nat), k ≤ l.length ∧ t = .int .i64 k ∧ Hid (Below W0.heap.size W0 wr) ∧ Hid ((if (l.drop k).all (inLen ns) = true then (0 : Int) else 14) = R)) (fun t _ => l.length - (RowKit.intOf t).toNat)
        case atStart => exact ⟨0, Nat.zero_le _, rfl, HBc, HR⟩
        case round =>
          obtain ⟨k, hk, rfl, hBB, hK⟩ := hrel
          clear HBc HR
          have hBw := Hbx.out.trans (hBB.out.mono Hbx.out.size)
          by_cases hlt : k < l.length
          · obtain ⟨bl, offl, rfl, x1, x2⟩ := HGl.out wr hBw k hlt
            have q1 : (0 : Int) ≤ (k : Int) := by omega
            have q2 : (k : Int) < (l.length : Int) := by omega
            have dl : decide ((k : Int) < (l.length : Int)) = true := decide_eq_true q2
            have HLk := hid (HLn2.out l[k] (List.getElem_mem hlt))
            have hk2 := hK.out
            rw [List.drop_eq_getElem_cons hlt, List.all_cons] at hk2
            have hil : inLen ns l[k] = (decide (0 ≤ l[k].2) && decide (l[k].2 ≤ (lenN ns l[k].1 : Int))) := rfl
            rw [hil] at hk2
            obtain ⟨b1, y1, z1⟩ := one_newB wr (.cells #[.int .i64 l[k].1, .int .i64 l[k].2] 26)
            have HK2 := hid hk2
            clear hK hk2 hil HLn2 HGl hBw
            generalize l[k] = p at *
            obtain ⟨px, pc⟩ := p
            simp only at HK2 HLk x1 x2 b1 y1 z1
            generalize lenN ns px = LN at *
            go_upto_region 13 with fail
            have HB1 := hid (hBB.out.trans (b1.mono hBB.out.size))
            obtain ⟨r0, r1⟩ := bnd_cells y1
            have hwl := hBB.out.size
            generalize hW1 : wr.alloc (.cells #[.int .i64 px, .int .i64 pc] 26) = W1 at *
            clear hW1
            by_cases z1 : pc < 0
            · have d1 : decide (pc < 0) = true := decide_eq_true z1
              have hR2 : R = 14 := by
                rw [← HK2.out, decide_eq_false (by omega : ¬ 0 ≤ pc)]
                rfl
              subst hR2
              clear HK2
              refine wp_region_held_drew (S := fun V => Below W1.heap.size W1 V) (by kernel_rfl) ((Below.refl _ _).drew) (fun hHeld => ?_)
              have HB_V0 := hid hHeld
              have HS_V0 := hid hHeld.size
              generalize W1.drew = V0 at *
              refine oneH 0 39 (.pointer (some ⟨wr.heap.size, 1, none⟩)) hHeld ?_ ?_
              · intro V _; go_simp
              simp only [Act.put, sA, s0, sS]
              refine oneH 1 40 (.int .i64 pc) hHeld ?_ ?_
              · intro V hSw; (try dsimp only at hSw); have k0 := cellLater (B := wr.heap.size) hSw (by omega) r1; go_simp
              simp only [Act.put, sA, s0, sS]
              refine oneH 2 41 (.bool true) hHeld ?_ ?_
              · intro V _; go_simp
              simp only [Act.put, sA, s0, sS]
              refine oneH 3 42 (.bool true) hHeld ?_ ?_
              · intro V _; go_simp
              simp only [Act.put, sA, s0, sS]
              refine wpAnyH_skips [(4, 43), (5, 44), (6, 45), (7, 46), (8, 47), (9, 48), (10, 49)] 1 hHeld (by kernel_rfl) (fun _ _ _ _ _ h => h) (by kernel_rfl) (by kernel_rfl) ?_
              simp only [actAfter, listedAfter, Act.put, sA, s0, sS]
              refine oneH 11 50 (.bool true) hHeld ?_ ?_
              · intro V _; go_simp
              simp only [Act.put, sA, s0, sS]
              refine wpAnyH_done (by kernel_rfl) ?_ _
              go_wp2_with fail
              go_ret
              exact ⟨rfl, Hbx.out.trans ((HB1.out.trans (HB_V0.out.mono HB1.out.size)).mono Hbx.out.size)⟩
            · have d1 : decide (pc < 0) = false := decide_eq_false z1
              by_cases z2 : (LN : Int) < pc
              · have d2 : decide ((LN : Int) < pc) = true := decide_eq_true z2
                have hR2 : R = 14 := by
                  rw [← HK2.out, decide_eq_false (by omega : ¬ pc ≤ (LN : Int)), Bool.and_false]
                  rfl
                subst hR2
                clear HK2
                refine wp_region_held_drew (S := fun V => Below W1.heap.size W1 V) (by kernel_rfl) ((Below.refl _ _).drew) (fun hHeld => ?_)
                have HB_V0 := hid hHeld
                have HS_V0 := hid hHeld.size
                generalize W1.drew = V0 at *
                refine oneH 0 39 (.pointer (some ⟨wr.heap.size, 1, none⟩)) hHeld ?_ ?_
                · intro V _; go_simp
                simp only [Act.put, sA, s0, sS]
                refine oneH 1 40 (.int .i64 pc) hHeld ?_ ?_
                · intro V hSw; (try dsimp only at hSw); have k0 := cellLater (B := wr.heap.size) hSw (by omega) r1; go_simp
                simp only [Act.put, sA, s0, sS]
                refine oneH 2 41 (.bool false) hHeld ?_ ?_
                · intro V _; go_simp
                simp only [Act.put, sA, s0, sS]
                refine oneH 3 42 (.bool false) hHeld ?_ ?_
                · intro V _; go_simp
                simp only [Act.put, sA, s0, sS]
                refine oneH 4 43 (.pointer (some ⟨wr.heap.size, 1, none⟩)) hHeld ?_ ?_
                · intro V _; go_simp
                simp only [Act.put, sA, s0, sS]
                refine oneH 5 44 (.int .i64 pc) hHeld ?_ ?_
                · intro V hSw; (try dsimp only at hSw); have k0 := cellLater (B := wr.heap.size) hSw (by omega) r1; go_simp
                simp only [Act.put, sA, s0, sS]
                refine oneH 6 45 (.agg #[.slice o ns.length cap]) hHeld ?_ ?_
                · intro V hSw; (try dsimp only at hSw); have k0 := cellLater (B := w.heap.size) hSw (by omega) (cellLater (B := w.heap.size) HB1.out (by omega) c0); go_simp
                simp only [Act.put, sA, s0, sS]
                refine oneH 7 46 (.pointer (some ⟨wr.heap.size, 0, none⟩)) hHeld ?_ ?_
                · intro V _; go_simp
                simp only [Act.put, sA, s0, sS]
                refine oneH 8 47 (.int .i64 px) hHeld ?_ ?_
                · intro V hSw; (try dsimp only at hSw); have k0 := cellLater (B := wr.heap.size) hSw (by omega) r0; go_simp
                simp only [Act.put, sA, s0, sS]
                refine wpAnyH_ready (rs := [9]) (by kernel_rfl) (by simp) ?_
                refine AllReadyH.cons rfl (fun K hK => ?_) AllReadyH.nil
                go_simp
                go_wp2_with (go_at_call 10; refine (HLk.out V0 (Hbx.out.trans ((HB1.out.trans (HB_V0.out.mono HB1.out.size)).mono Hbx.out.size))).mono ?_; rintro e V1 ⟨rfl, hb⟩; have HB_V1 := hid (HB_V0.out.trans (hb.mono HB_V0.out.size)); have HS_V1 := hid (HB_V1.out.size))
                refine hK.out _ _ HB_V1.out (fun hHeld => ?_)
                clear hK K
                refine oneH 10 49 (.bool true) hHeld ?_ ?_
                · intro V _; go_simp
                simp only [Act.put, sA, s0, sS]
                refine oneH 11 50 (.bool true) hHeld ?_ ?_
                · intro V _; go_simp
                simp only [Act.put, sA, s0, sS]
                refine wpAnyH_done (by kernel_rfl) ?_ _
                go_wp2_with fail
                go_ret
                exact ⟨rfl, Hbx.out.trans ((HB1.out.trans (HB_V1.out.mono HB1.out.size)).mono Hbx.out.size)⟩
              · have d2 : decide ((LN : Int) < pc) = false := decide_eq_false z2
                have Hn : Hid ((if (l.drop (k + 1)).all (inLen ns) = true then (0 : Int) else 14) = R) := by
                  have h := HK2.out
                  rw [decide_eq_true (by omega : 0 ≤ pc), decide_eq_true (by omega : pc ≤ (LN : Int)), Bool.true_and, Bool.true_and] at h
                  exact h
                clear HK2
                refine wp_region_held_drew (S := fun V => Below W1.heap.size W1 V) (by kernel_rfl) ((Below.refl _ _).drew) (fun hHeld => ?_)
                have HB_V0 := hid hHeld
                have HS_V0 := hid hHeld.size
                generalize W1.drew = V0 at *
                refine oneH 0 39 (.pointer (some ⟨wr.heap.size, 1, none⟩)) hHeld ?_ ?_
                · intro V _; go_simp
                simp only [Act.put, sA, s0, sS]
                refine oneH 1 40 (.int .i64 pc) hHeld ?_ ?_
                · intro V hSw; (try dsimp only at hSw); have k0 := cellLater (B := wr.heap.size) hSw (by omega) r1; go_simp
                simp only [Act.put, sA, s0, sS]
                refine oneH 2 41 (.bool false) hHeld ?_ ?_
                · intro V _; go_simp
                simp only [Act.put, sA, s0, sS]
                refine oneH 3 42 (.bool false) hHeld ?_ ?_
                · intro V _; go_simp
                simp only [Act.put, sA, s0, sS]
                refine oneH 4 43 (.pointer (some ⟨wr.heap.size, 1, none⟩)) hHeld ?_ ?_
                · intro V _; go_simp
                simp only [Act.put, sA, s0, sS]
                refine oneH 5 44 (.int .i64 pc) hHeld ?_ ?_
                · intro V hSw; (try dsimp only at hSw); have k0 := cellLater (B := wr.heap.size) hSw (by omega) r1; go_simp
                simp only [Act.put, sA, s0, sS]
                refine oneH 6 45 (.agg #[.slice o ns.length cap]) hHeld ?_ ?_
                · intro V hSw; (try dsimp only at hSw); have k0 := cellLater (B := w.heap.size) hSw (by omega) (cellLater (B := w.heap.size) HB1.out (by omega) c0); go_simp
                simp only [Act.put, sA, s0, sS]
                refine oneH 7 46 (.pointer (some ⟨wr.heap.size, 0, none⟩)) hHeld ?_ ?_
                · intro V _; go_simp
                simp only [Act.put, sA, s0, sS]
                refine oneH 8 47 (.int .i64 px) hHeld ?_ ?_
                · intro V hSw; (try dsimp only at hSw); have k0 := cellLater (B := wr.heap.size) hSw (by omega) r0; go_simp
                simp only [Act.put, sA, s0, sS]
                refine wpAnyH_ready (rs := [9]) (by kernel_rfl) (by simp) ?_
                refine AllReadyH.cons rfl (fun K hK => ?_) AllReadyH.nil
                go_simp
                go_wp2_with (go_at_call 10; refine (HLk.out V0 (Hbx.out.trans ((HB1.out.trans (HB_V0.out.mono HB1.out.size)).mono Hbx.out.size))).mono ?_; rintro e V1 ⟨rfl, hb⟩; have HB_V1 := hid (HB_V0.out.trans (hb.mono HB_V0.out.size)); have HS_V1 := hid (HB_V1.out.size))
                refine hK.out _ _ HB_V1.out (fun hHeld => ?_)
                clear hK K
                refine oneH 10 49 (.bool false) hHeld ?_ ?_
                · intro V _; go_simp
                simp only [Act.put, sA, s0, sS]
                refine oneH 11 50 (.bool false) hHeld ?_ ?_
                · intro V _; go_simp
                simp only [Act.put, sA, s0, sS]
                refine wpAnyH_done (by kernel_rfl) ?_ _
                go_wp2_with fail
                go_roundw
                case rel => exact ⟨k + 1, by omega, by go_num, hid (HB1.out.trans (HB_V1.out.mono HB1.out.size)), Hn⟩
                case measure => simp [RowKit.intOf]; omega
          · have hRR : R = 0 := by
              rw [← hK.out, List.drop_eq_nil_of_le (by omega)]
              rfl
            subst hRR
            have hkn : k = l.length := by omega
            subst hkn
            have dl : decide ((l.length : Int) < (l.length : Int)) = false := decide_eq_false (by omega)
            have HBw := hid hBw
            clear hK hBw hBB
            go_wp2
            go_ret
            exact ⟨rfl, HBw.out⟩
      · have hRR := HRe.out
        rw [if_neg hE] at hRR
        subst hRR
        have hne : (E != 0) = true := by rw [bne, beq_eq_false_iff_ne.2 hE]; rfl
        clear HLn hE HRe
        go_wp2
        go_ret
        exact ⟨rfl, Hbx.out.trans (HBc.out.mono Hbx.out.size)⟩
end Go.Proofs.YtilacgcjbdkphaaGreat

namespace Go.Proofs.YtilacgcjbdkphaaGreat
open Go.RowKit Go.Lib Go.Shelf

set_option maxRecDepth 100000 in
set_option maxHeartbeats 4000000 in
theorem refOne15_any (b off cap : Nat) (x y : Int) (ns : List NodeD) (w : World) (hR : RightF ns) (hF : FAt w b off cap ns) (hx : thereB ns.length x = true) (hy : thereB ns.length y = true) :
    Calls Tryz.prog 45 #[.agg #[.slice (some ⟨b, off, none⟩) ns.length cap], .int .i64 x, .int .i64 y] w fun e w' => e = .returned (.bool (rootP ns x == rootP ns y)) ∧ Below w.heap.size w w' := by
  have HX : Hid (∀ V : World, Below w.heap.size w V → Calls Tryz.prog 89 #[.agg #[.slice (some ⟨b, off, none⟩) ns.length cap], .int .i64 x] V fun e w' => e = .returned (.int .i64 (rootP ns x)) ∧ Below V.heap.size V w') := fun V hV => refRoot4_any b off cap x ns V hR (hF.later hV) hx
  have HY : Hid (∀ V : World, Below w.heap.size w V → Calls Tryz.prog 89 #[.agg #[.slice (some ⟨b, off, none⟩) ns.length cap], .int .i64 y] V fun e w' => e = .returned (.int .i64 (rootP ns y)) ∧ Below V.heap.size V w') := fun V hV => refRoot4_any b off cap y ns V hR (hF.later hV) hy
  obtain ⟨bx, g0, sx⟩ := one_newB w (.cells #[.slice (some ⟨b, off, none⟩) ns.length cap] 24)
  have c0 := (box_cell_l g0).1
  have Hbx := hid bx
  clear hR hF hx hy bx g0
  generalize rootP ns x = RX at *
  generalize rootP ns y = RY at *
  go_enter Tryz.func45, Tryz.ntmps45
  go_upto_region 1 with fail
  generalize w.alloc (.cells #[.slice (some ⟨b, off, none⟩) ns.length cap] 24) = W0 at *
  refine wp_region_held_drew (S := fun V => Below W0.heap.size W0 V) (by kernel_rfl) ((Below.refl _ _).drew) (fun hHeld => ?_)
  have HB_V0 := hid hHeld
  have HS_V0 := hid hHeld.size
  generalize W0.drew = V0 at *
  refine oneH 0 7 (.agg #[.slice (some ⟨b, off, none⟩) ns.length cap]) hHeld ?_ ?_
  · intro V hSw; (try dsimp only at hSw); have k0 := cellLater (B := w.heap.size) hSw (by omega) c0; go_simp
  simp only [Act.put, sA, s0, sS]
  refine oneH 1 8 (.int .i64 x) hHeld ?_ ?_
  · intro V _; go_simp
  simp only [Act.put, sA, s0, sS]
  refine oneH 3 10 (.agg #[.slice (some ⟨b, off, none⟩) ns.length cap]) hHeld ?_ ?_
  · intro V hSw; (try dsimp only at hSw); have k0 := cellLater (B := w.heap.size) hSw (by omega) c0; go_simp
  simp only [Act.put, sA, s0, sS]
  refine oneH 4 11 (.int .i64 y) hHeld ?_ ?_
  · intro V _; go_simp
  simp only [Act.put, sA, s0, sS]
  refine wpAnyH_ready (rs := [2]) (by kernel_rfl) (by simp) ?_
  refine AllReadyH.cons rfl (fun K hK => ?_) AllReadyH.nil
  go_simp
  go_wp2_with (go_at_call 89; refine (HX.out V0 (Hbx.out.trans (HB_V0.out.mono Hbx.out.size))).mono ?_; rintro e V1 ⟨rfl, hb⟩; have HB_V1 := hid (HB_V0.out.trans (hb.mono HB_V0.out.size)); have HS_V1 := hid (HB_V1.out.size))
  refine hK.out _ _ HB_V1.out (fun hHeld => ?_)
  clear hK K
  refine wpAnyH_ready (rs := [5]) (by kernel_rfl) (by simp) ?_
  refine AllReadyH.cons rfl (fun K hK => ?_) AllReadyH.nil
  go_simp
  go_wp2_with (go_at_call 89; refine (HY.out V1 (Hbx.out.trans (HB_V1.out.mono Hbx.out.size))).mono ?_; rintro e V2 ⟨rfl, hb⟩; have HB_V2 := hid (HB_V1.out.trans (hb.mono HB_V1.out.size)); have HS_V2 := hid (HB_V2.out.size))
  refine hK.out _ _ HB_V2.out (fun hHeld => ?_)
  clear hK K
  refine oneH 6 13 (.bool (RX == RY)) hHeld ?_ ?_
  · intro V _; go_simp
  simp only [Act.put, sA, s0, sS]
  refine oneH 7 6 (.bool (RX == RY)) hHeld ?_ ?_
  · intro V _; go_simp
  simp only [Act.put, sA, s0, sS]
  refine wpAnyH_done (by kernel_rfl) ?_ _
  go_wp2_with fail
  go_ret
  exact ⟨rfl, Hbx.out.trans (HB_V2.out.mono Hbx.out.size)⟩

theorem beqB_ne {a b : Int} (h : ¬ a = b) : (a == b) = false := beq_eq_false_iff_ne.2 h

set_option maxRecDepth 100000 in
set_option maxHeartbeats 8000000 in
theorem refPosition_any (b off cap : Nat) (x c y d : Int) (ns : List NodeD) (w : World) (hR : RightF ns) (hF : FAt w b off cap ns) (hx : thereB ns.length x = true) :
    Calls Tryz.prog 46 #[.agg #[.slice (some ⟨b, off, none⟩) ns.length cap], bndV x c, bndV y d] w fun e w' => e = .returned (.int .i64 (refPosD ns (x, c) (y, d))) ∧ Below w.heap.size w w' := by
  have HX : Hid (∀ V : World, Below w.heap.size w V → Calls Tryz.prog 89 #[.agg #[.slice (some ⟨b, off, none⟩) ns.length cap], .int .i64 x] V fun e w' => e = .returned (.int .i64 (rootP ns x)) ∧ Below V.heap.size V w') := fun V hV => refRoot4_any b off cap x ns V hR (hF.later hV) hx
  have hrt := (rootP_there hR hx).1
  have HP : Hid (∀ V : World, Below w.heap.size w V → Calls Tryz.prog 52 #[.agg #[.slice (some ⟨b, off, none⟩) ns.length cap], .int .i64 (rootP ns x)] V fun e w' => ∃ v, e = .returned v ∧ w'.ownsRow V.heap.size 26 2 v (ptsD ns (rootP ns x)).length (rowP (ptsD ns (rootP ns x))) ∧ Below V.heap.size V w') := fun V hV => refPoints_any b off cap ns w hR hF (ns.length + 1) (rootP ns x) V hrt (by omega) hV
  have hsz : (ptsD ns (rootP ns x)).length + 1 ≤ 67117056 := hR.sz hrt
  obtain ⟨bx, g0, g1, g2, sx⟩ := three_newB w (.cells #[.slice (some ⟨b, off, none⟩) ns.length cap] 24) (.cells #[.int .i64 x, .int .i64 c] 26) (.cells #[.int .i64 y, .int .i64 d] 26)
  have c0 := (box_cell_l g0).1
  obtain ⟨a0, a1⟩ := bnd_cells g1
  obtain ⟨b0, b1⟩ := bnd_cells g2
  have Hbx := hid bx
  clear hR hF hx hrt g0 g1 g2
  unfold refPosD bndV
  by_cases hab : (x, c) = (y, d)
  · rw [if_pos hab]
    simp only [Prod.mk.injEq] at hab
    obtain ⟨rfl, rfl⟩ := hab
    clear HP HX hsz
    go_enter Tryz.func46, Tryz.ntmps46
    go_wp2
    go_ret
    exact ⟨rfl, bx⟩
  · rw [if_neg hab]
    obtain ⟨R, hRR⟩ : ∃ R, seekD (x, c) (y, d) (ptsD ns (rootP ns x)) = R := ⟨_, rfl⟩
    rw [hRR]
    have HR0 : Hid (seekD (x, c) (y, d) ((ptsD ns (rootP ns x)).drop 0) = R) := hRR
    clear hRR
    try dsimp only at HR0
    generalize hPL : ptsD ns (rootP ns x) = PL at *
    clear hPL
    generalize rootP ns x = RX at *
    go_enter Tryz.func46, Tryz.ntmps46
    have hcond : ∀ (W : World), True := fun _ => trivial
    clear hcond
    by_cases h1 : x = y
    · subst h1
      have h2 := beqB_ne (a := c) (b := d) fun e => hab (by rw [e])
      clear hab
      go_upto_region 3 with fail
      generalize ((w.alloc (.cells #[.slice (some ⟨b, off, none⟩) ns.length cap] 24)).alloc (.cells #[.int .i64 x, .int .i64 c] 26)).alloc (.cells #[.int .i64 x, .int .i64 d] 26) = W0 at *
      go_cut [17, 18, 19] (fun t u v wx => ∃ ox cx, t = .slice ox PL.length cx ∧ u = .int .i64 (PL.length : Int) ∧ v = .int .i64 0 ∧ RdB wx (.slice ox PL.length cx) PL ∧ Below W0.heap.size W0 wx)
      case first =>
        refine wp_region_held_drew (S := fun V => Below W0.heap.size W0 V) (by kernel_rfl) ((Below.refl _ _).drew) (fun hHeld => ?_)
        have HB_V0 := hid hHeld
        have HS_V0 := hid hHeld.size
        generalize W0.drew = V0 at *
        refine oneH 0 12 (.agg #[.slice (some ⟨b, off, none⟩) ns.length cap]) hHeld ?_ ?_
        · intro V hSw; (try dsimp only at hSw); have k0 := cellLater (B := w.heap.size) hSw (by omega) c0; go_simp
        simp only [Act.put, sA, s0, sS]
        refine oneH 1 13 (.agg #[.slice (some ⟨b, off, none⟩) ns.length cap]) hHeld ?_ ?_
        · intro V hSw; (try dsimp only at hSw); have k0 := cellLater (B := w.heap.size) hSw (by omega) c0; go_simp
        simp only [Act.put, sA, s0, sS]
        refine oneH 2 14 (.pointer (some ⟨w.heap.size + 1, 0, none⟩)) hHeld ?_ ?_
        · intro V _; go_simp
        simp only [Act.put, sA, s0, sS]
        refine oneH 3 15 (.int .i64 x) hHeld ?_ ?_
        · intro V hSw; (try dsimp only at hSw); have k0 := cellLater (B := w.heap.size + 1) hSw (by omega) a0; go_simp
        simp only [Act.put, sA, s0, sS]
        refine oneH 7 19 (.int .i64 0) hHeld ?_ ?_
        · intro V _; go_simp
        simp only [Act.put, sA, s0, sS]
        refine wpAnyH_ready (rs := [4]) (by kernel_rfl) (by simp) ?_
        refine AllReadyH.cons rfl (fun K hK => ?_) AllReadyH.nil
        go_simp
        go_wp2_with (go_at_call 89; refine (HX.out V0 (Hbx.out.trans (HB_V0.out.mono Hbx.out.size))).mono ?_; rintro e V1 ⟨rfl, hb⟩; have HB_V1 := hid (HB_V0.out.trans (hb.mono HB_V0.out.size)); have HS_V1 := hid (HB_V1.out.size))
        refine hK.out _ _ HB_V1.out (fun hHeld => ?_)
        clear hK K
        refine wpAnyH_ready (rs := [5]) (by kernel_rfl) (by simp) ?_
        refine AllReadyH.cons rfl (fun K hK => ?_) AllReadyH.nil
        go_simp
        go_wp2_with (go_at_call 52; refine (HP.out V1 (Hbx.out.trans (HB_V1.out.mono Hbx.out.size))).mono ?_; rintro e V2 ⟨vx, rfl, hox, hb⟩; have HB_V2 := hid (HB_V1.out.trans (hb.mono HB_V1.out.size)); have HS_V2 := hid (HB_V2.out.size); have HOX := hid (ownsP_rd hox); obtain ⟨ox, cx, rfl⟩ := own_shapeB hox)
        refine hK.out _ _ HB_V2.out (fun hHeld => ?_)
        clear hK K
        refine oneH 6 18 (.int .i64 (PL.length : Int)) hHeld ?_ ?_
        · intro V _; go_simp
        simp only [Act.put, sA, s0, sS]
        refine wpAnyH_done (by kernel_rfl) ?_ _
        go_wp2_with fail
        go_meet
        exact ⟨ox, cx, rfl, rfl, rfl, HOX.out, HB_V2.out⟩
      case rest =>
      obtain ⟨ox, cx, rfl, rfl, rfl, hrd, hb⟩ := hcut
      obtain ⟨ox', cx', ex, hcx, gx⟩ := hrd
      simp only [Value.slice.injEq, true_and] at ex
      obtain ⟨rfl, rfl⟩ := ex
      have HBc : Hid (Below wc.heap.size wc wc) := Below.refl _ _
      have k0 := cellLater (B := w.heap.size + 1) hb (by omega) a0
      have k1 := cellLater (B := w.heap.size + 1) hb (by omega) a1
      have m0 := cellLater (B := w.heap.size + 1 + 1) hb (by omega) b0
      have m1 := cellLater (B := w.heap.size + 1 + 1) hb (by omega) b1
      have hzc := hb.size
      have HbC := hid (Hbx.out.trans (hb.mono Hbx.out.size))
      clear HX HP hb c0 a0 a1 b0 b1
      generalize hwc : wc = W1 at *
      clear hwc
      go_wp2
      go_loopw [19] (fun t wr => ∃ k : Nat, k ≤ PL.length ∧ t = .int .i64 k ∧ Hid (Below W1.heap.size W1 wr) ∧ Hid (seekD (x, c) (x, d) (PL.drop k) = R)) (fun t _ => PL.length - (RowKit.intOf t).toNat)
      case atStart => exact ⟨0, Nat.zero_le _, rfl, HBc, HR0⟩
      case round =>
        obtain ⟨k, hk, rfl, hB, hK⟩ := hrel
        clear HR0 HBc
        by_cases hlt : k < PL.length
        · obtain ⟨bl, offl, rfl, hltl, hal⟩ := gx (by omega)
          have x1 := cellLater hB.out hltl (hal k hlt).1
          have x2 := cellLater hB.out hltl (hal k hlt).2
          have q1 : (0 : Int) ≤ (k : Int) := by omega
          have q2 : (k : Int) < (PL.length : Int) := by omega
          have dl : decide ((k : Int) < (PL.length : Int)) = true := decide_eq_true q2
          have hk2 := hK.out
          rw [List.drop_eq_getElem_cons hlt, seekD] at hk2
          obtain ⟨bn, y1, z1⟩ := one_newB wr (.cells #[.int .i64 PL[k].1, .int .i64 PL[k].2] 26)
          have hwz := hB.out.size
          obtain ⟨r0, r1⟩ := bnd_cells y1
          have j0 := cellLater (B := w.heap.size + 1) (hB.out.trans (bn.mono hB.out.size)) (by omega) k0
          have j1 := cellLater (B := w.heap.size + 1) (hB.out.trans (bn.mono hB.out.size)) (by omega) k1
          have l0 := cellLater (B := w.heap.size + 1 + 1) (hB.out.trans (bn.mono hB.out.size)) (by omega) m0
          have l1 := cellLater (B := w.heap.size + 1 + 1) (hB.out.trans (bn.mono hB.out.size)) (by omega) m1
          have HB1 := hid (hB.out.trans (bn.mono hB.out.size))
          have HK2 := hid hk2
          clear hK hk2 hal gx y1 z1 bn k0 k1 m0 m1
          generalize PL[k] = p at *
          obtain ⟨px, pc⟩ := p
          simp only at x1 x2 r0 r1 j0 j1 l0 l1 HB1 HK2
          go_upto_region 6 with fail
          generalize wr.alloc (.cells #[.int .i64 px, .int .i64 pc] 26) = W2 at *
          by_cases p1 : px = x ∧ pc = c
          · obtain ⟨e1, e2⟩ := p1
            replace e1 := e1.symm
            replace e2 := e2.symm
            subst e1 e2
            have hR2 : R = -1 := by rw [← HK2.out, if_pos (by simp)]
            subst hR2
            clear HK2; (try clear p1); (try clear p2); (try clear p3); (try clear p4)
            go_wp2
            go_ret
            exact ⟨rfl, HbC.out.trans (HB1.out.mono HbC.out.size)⟩
          · by_cases p4 : px = x
            · have n4 := beqB_ne (a := pc) (b := c) fun e => p1 ⟨p4, e⟩
              replace p4 := p4.symm
              subst p4
              by_cases p2 : pc = d
              · replace p2 := p2.symm
                subst p2
                have hR2 : R = 1 := by rw [← HK2.out, if_neg (by simp only [Prod.mk.injEq]; omega), if_pos (by simp)]
                subst hR2
                clear HK2; (try clear p1); (try clear p2); (try clear p3); (try clear p4)
                go_wp2
                go_ret
                exact ⟨rfl, HbC.out.trans (HB1.out.mono HbC.out.size)⟩
              · have n3 := beqB_ne p2
                have Hn : Hid (seekD (x, c) (x, d) (PL.drop (k + 1)) = R) := by have h := HK2.out; rw [if_neg (by simp only [Prod.mk.injEq]; omega), if_neg (by simp only [Prod.mk.injEq]; omega)] at h; exact h
                clear HK2; (try clear p1); (try clear p2); (try clear p3); (try clear p4)
                go_wp2
                go_roundw
                case rel => exact ⟨k + 1, by omega, by go_num, HB1, Hn⟩
                case measure => simp [RowKit.intOf]; omega
            · have n4 := beqB_ne p4
              have Hn : Hid (seekD (x, c) (x, d) (PL.drop (k + 1)) = R) := by have h := HK2.out; rw [if_neg (by simp only [Prod.mk.injEq]; omega), if_neg (by simp only [Prod.mk.injEq]; omega)] at h; exact h
              clear HK2; (try clear p1); (try clear p2); (try clear p3); (try clear p4)
              go_wp2
              go_roundw
              case rel => exact ⟨k + 1, by omega, by go_num, HB1, Hn⟩
              case measure => simp [RowKit.intOf]; omega
        · have hkn : k = PL.length := by omega
          have hRR : R = 0 := by
            rw [← hK.out, List.drop_eq_nil_of_le (by omega)]
            rfl
          subst hRR
          subst hkn
          have dl : decide ((PL.length : Int) < (PL.length : Int)) = false := decide_eq_false (by omega)
          clear hK gx
          go_wp2
          go_ret
          exact ⟨rfl, HbC.out.trans (hB.out.mono HbC.out.size)⟩
    · have h2 := beqB_ne h1
      have H1 := hid h1
      clear hab h1
      go_upto_region 3 with fail
      generalize ((w.alloc (.cells #[.slice (some ⟨b, off, none⟩) ns.length cap] 24)).alloc (.cells #[.int .i64 x, .int .i64 c] 26)).alloc (.cells #[.int .i64 y, .int .i64 d] 26) = W0 at *
      go_cut [17, 18, 19] (fun t u v wx => ∃ ox cx, t = .slice ox PL.length cx ∧ u = .int .i64 (PL.length : Int) ∧ v = .int .i64 0 ∧ RdB wx (.slice ox PL.length cx) PL ∧ Below W0.heap.size W0 wx)
      case first =>
        refine wp_region_held_drew (S := fun V => Below W0.heap.size W0 V) (by kernel_rfl) ((Below.refl _ _).drew) (fun hHeld => ?_)
        have HB_V0 := hid hHeld
        have HS_V0 := hid hHeld.size
        generalize W0.drew = V0 at *
        refine oneH 0 12 (.agg #[.slice (some ⟨b, off, none⟩) ns.length cap]) hHeld ?_ ?_
        · intro V hSw; (try dsimp only at hSw); have k0 := cellLater (B := w.heap.size) hSw (by omega) c0; go_simp
        simp only [Act.put, sA, s0, sS]
        refine oneH 1 13 (.agg #[.slice (some ⟨b, off, none⟩) ns.length cap]) hHeld ?_ ?_
        · intro V hSw; (try dsimp only at hSw); have k0 := cellLater (B := w.heap.size) hSw (by omega) c0; go_simp
        simp only [Act.put, sA, s0, sS]
        refine oneH 2 14 (.pointer (some ⟨w.heap.size + 1, 0, none⟩)) hHeld ?_ ?_
        · intro V _; go_simp
        simp only [Act.put, sA, s0, sS]
        refine oneH 3 15 (.int .i64 x) hHeld ?_ ?_
        · intro V hSw; (try dsimp only at hSw); have k0 := cellLater (B := w.heap.size + 1) hSw (by omega) a0; go_simp
        simp only [Act.put, sA, s0, sS]
        refine oneH 7 19 (.int .i64 0) hHeld ?_ ?_
        · intro V _; go_simp
        simp only [Act.put, sA, s0, sS]
        refine wpAnyH_ready (rs := [4]) (by kernel_rfl) (by simp) ?_
        refine AllReadyH.cons rfl (fun K hK => ?_) AllReadyH.nil
        go_simp
        go_wp2_with (go_at_call 89; refine (HX.out V0 (Hbx.out.trans (HB_V0.out.mono Hbx.out.size))).mono ?_; rintro e V1 ⟨rfl, hb⟩; have HB_V1 := hid (HB_V0.out.trans (hb.mono HB_V0.out.size)); have HS_V1 := hid (HB_V1.out.size))
        refine hK.out _ _ HB_V1.out (fun hHeld => ?_)
        clear hK K
        refine wpAnyH_ready (rs := [5]) (by kernel_rfl) (by simp) ?_
        refine AllReadyH.cons rfl (fun K hK => ?_) AllReadyH.nil
        go_simp
        go_wp2_with (go_at_call 52; refine (HP.out V1 (Hbx.out.trans (HB_V1.out.mono Hbx.out.size))).mono ?_; rintro e V2 ⟨vx, rfl, hox, hb⟩; have HB_V2 := hid (HB_V1.out.trans (hb.mono HB_V1.out.size)); have HS_V2 := hid (HB_V2.out.size); have HOX := hid (ownsP_rd hox); obtain ⟨ox, cx, rfl⟩ := own_shapeB hox)
        refine hK.out _ _ HB_V2.out (fun hHeld => ?_)
        clear hK K
        refine oneH 6 18 (.int .i64 (PL.length : Int)) hHeld ?_ ?_
        · intro V _; go_simp
        simp only [Act.put, sA, s0, sS]
        refine wpAnyH_done (by kernel_rfl) ?_ _
        go_wp2_with fail
        go_meet
        exact ⟨ox, cx, rfl, rfl, rfl, HOX.out, HB_V2.out⟩
      case rest =>
      obtain ⟨ox, cx, rfl, rfl, rfl, hrd, hb⟩ := hcut
      obtain ⟨ox', cx', ex, hcx, gx⟩ := hrd
      simp only [Value.slice.injEq, true_and] at ex
      obtain ⟨rfl, rfl⟩ := ex
      have HBc : Hid (Below wc.heap.size wc wc) := Below.refl _ _
      have k0 := cellLater (B := w.heap.size + 1) hb (by omega) a0
      have k1 := cellLater (B := w.heap.size + 1) hb (by omega) a1
      have m0 := cellLater (B := w.heap.size + 1 + 1) hb (by omega) b0
      have m1 := cellLater (B := w.heap.size + 1 + 1) hb (by omega) b1
      have hzc := hb.size
      have HbC := hid (Hbx.out.trans (hb.mono Hbx.out.size))
      clear HX HP hb c0 a0 a1 b0 b1
      generalize hwc : wc = W1 at *
      clear hwc
      go_wp2
      go_loopw [19] (fun t wr => ∃ k : Nat, k ≤ PL.length ∧ t = .int .i64 k ∧ Hid (Below W1.heap.size W1 wr) ∧ Hid (seekD (x, c) (y, d) (PL.drop k) = R)) (fun t _ => PL.length - (RowKit.intOf t).toNat)
      case atStart => exact ⟨0, Nat.zero_le _, rfl, HBc, HR0⟩
      case round =>
        obtain ⟨k, hk, rfl, hB, hK⟩ := hrel
        clear HR0 HBc
        by_cases hlt : k < PL.length
        · obtain ⟨bl, offl, rfl, hltl, hal⟩ := gx (by omega)
          have x1 := cellLater hB.out hltl (hal k hlt).1
          have x2 := cellLater hB.out hltl (hal k hlt).2
          have q1 : (0 : Int) ≤ (k : Int) := by omega
          have q2 : (k : Int) < (PL.length : Int) := by omega
          have dl : decide ((k : Int) < (PL.length : Int)) = true := decide_eq_true q2
          have hk2 := hK.out
          rw [List.drop_eq_getElem_cons hlt, seekD] at hk2
          obtain ⟨bn, y1, z1⟩ := one_newB wr (.cells #[.int .i64 PL[k].1, .int .i64 PL[k].2] 26)
          have hwz := hB.out.size
          obtain ⟨r0, r1⟩ := bnd_cells y1
          have j0 := cellLater (B := w.heap.size + 1) (hB.out.trans (bn.mono hB.out.size)) (by omega) k0
          have j1 := cellLater (B := w.heap.size + 1) (hB.out.trans (bn.mono hB.out.size)) (by omega) k1
          have l0 := cellLater (B := w.heap.size + 1 + 1) (hB.out.trans (bn.mono hB.out.size)) (by omega) m0
          have l1 := cellLater (B := w.heap.size + 1 + 1) (hB.out.trans (bn.mono hB.out.size)) (by omega) m1
          have HB1 := hid (hB.out.trans (bn.mono hB.out.size))
          have HK2 := hid hk2
          clear hK hk2 hal gx y1 z1 bn k0 k1 m0 m1
          generalize PL[k] = p at *
          obtain ⟨px, pc⟩ := p
          simp only at x1 x2 r0 r1 j0 j1 l0 l1 HB1 HK2
          go_upto_region 6 with fail
          generalize wr.alloc (.cells #[.int .i64 px, .int .i64 pc] 26) = W2 at *
          by_cases p1 : px = x ∧ pc = c
          · obtain ⟨e1, e2⟩ := p1
            replace e1 := e1.symm
            replace e2 := e2.symm
            subst e1 e2
            have hR2 : R = -1 := by rw [← HK2.out, if_pos (by simp)]
            subst hR2
            clear HK2; (try clear p1); (try clear p2); (try clear p3); (try clear p4)
            go_wp2
            go_ret
            exact ⟨rfl, HbC.out.trans (HB1.out.mono HbC.out.size)⟩
          · by_cases p4 : px = x
            · have n4 := beqB_ne (a := pc) (b := c) fun e => p1 ⟨p4, e⟩
              replace p4 := p4.symm
              subst p4
              have p2 := H1.out
              have Hn : Hid (seekD (x, c) (y, d) (PL.drop (k + 1)) = R) := by have h := HK2.out; rw [if_neg (by simp only [Prod.mk.injEq]; omega), if_neg (by simp only [Prod.mk.injEq]; omega)] at h; exact h
              clear HK2; (try clear p1); (try clear p2); (try clear p3); (try clear p4)
              go_wp2
              go_roundw
              case rel => exact ⟨k + 1, by omega, by go_num, HB1, Hn⟩
              case measure => simp [RowKit.intOf]; omega
            · have n4 := beqB_ne p4
              by_cases p3 : px = y
              · replace p3 := p3.symm
                subst p3
                by_cases p2 : pc = d
                · replace p2 := p2.symm
                  subst p2
                  have hR2 : R = 1 := by rw [← HK2.out, if_neg (by simp only [Prod.mk.injEq]; omega), if_pos (by simp)]
                  subst hR2
                  clear HK2; (try clear p1); (try clear p2); (try clear p3); (try clear p4)
                  go_wp2
                  go_ret
                  exact ⟨rfl, HbC.out.trans (HB1.out.mono HbC.out.size)⟩
                · have n3 := beqB_ne p2
                  have Hn : Hid (seekD (x, c) (y, d) (PL.drop (k + 1)) = R) := by have h := HK2.out; rw [if_neg (by simp only [Prod.mk.injEq]; omega), if_neg (by simp only [Prod.mk.injEq]; omega)] at h; exact h
                  clear HK2; (try clear p1); (try clear p2); (try clear p3); (try clear p4)
                  go_wp2
                  go_roundw
                  case rel => exact ⟨k + 1, by omega, by go_num, HB1, Hn⟩
                  case measure => simp [RowKit.intOf]; omega
              · have n3 := beqB_ne p3
                have Hn : Hid (seekD (x, c) (y, d) (PL.drop (k + 1)) = R) := by have h := HK2.out; rw [if_neg (by simp only [Prod.mk.injEq]; omega), if_neg (by simp only [Prod.mk.injEq]; omega)] at h; exact h
                clear HK2; (try clear p1); (try clear p2); (try clear p3); (try clear p4)
                go_wp2
                go_roundw
                case rel => exact ⟨k + 1, by omega, by go_num, HB1, Hn⟩
                case measure => simp [RowKit.intOf]; omega
        · have hkn : k = PL.length := by omega
          have hRR : R = 0 := by
            rw [← hK.out, List.drop_eq_nil_of_le (by omega)]
            rfl
          subst hRR
          subst hkn
          have dl : decide ((PL.length : Int) < (PL.length : Int)) = false := decide_eq_false (by omega)
          clear hK gx
          go_wp2
          go_ret
          exact ⟨rfl, HbC.out.trans (hB.out.mono HbC.out.size)⟩

set_option maxRecDepth 100000 in
set_option maxHeartbeats 4000000 in
theorem sameB_any (o1 o2 : Option Addr) (c1 c2 : Nat) (l : List (Int × Int)) (w : World) (h1 : RdB w (.slice o1 l.length c1) l) (h2 : RdB w (.slice o2 l.length c2) l) (hl : l.length ≤ 1099511627776) :
    Calls Tryz.prog 16 #[.slice o1 l.length c1, .slice o2 l.length c2] w fun e w' => e = .returned (.bool true) ∧ Below w.heap.size w w' := by
  obtain ⟨o1', c1', e1, hc1, g1⟩ := h1
  obtain ⟨o2', c2', e2, hc2, g2⟩ := h2
  simp only [Value.slice.injEq, true_and] at e1 e2
  obtain ⟨rfl, rfl⟩ := e1
  obtain ⟨rfl, rfl⟩ := e2
  go_enter Tryz.func16, Tryz.ntmps16
  go_wp2
  go_loopw [13] (fun t wr => ∃ k : Nat, k ≤ l.length ∧ t = .int .i64 k ∧ Hid (Below w.heap.size w wr)) (fun t _ => l.length - (RowKit.intOf t).toNat)
  case atStart => exact ⟨0, Nat.zero_le _, rfl, hid (Below.refl _ _)⟩
  case round =>
    obtain ⟨k, hk, rfl, hB⟩ := hrel
    by_cases hlt : k < l.length
    · obtain ⟨b1, off1, rfl, hlt1, ha1⟩ := g1 (by omega)
      obtain ⟨b2, off2, rfl, hlt2, ha2⟩ := g2 (by omega)
      have x1 := cellLater hB.out hlt1 (ha1 k hlt).1
      have x2 := cellLater hB.out hlt1 (ha1 k hlt).2
      have y1 := cellLater hB.out hlt2 (ha2 k hlt).1
      have y2 := cellLater hB.out hlt2 (ha2 k hlt).2
      have q1 : (0 : Int) ≤ (k : Int) := by omega
      have q2 : (k : Int) < (l.length : Int) := by omega
      have dl : decide ((k : Int) < (l.length : Int)) = true := decide_eq_true q2
      clear ha1 ha2 g1 g2
      generalize l[k].1 = px at *
      generalize l[k].2 = pc at *
      go_upto_region 6 with fail
      go_quiet (fail)
      go_wp2
      go_roundw
      case rel => exact ⟨k + 1, by omega, by go_num, hid (hB.out.trans (drewN_below _ _ _))⟩
      case measure => simp [RowKit.intOf]; omega
    · have hkn : k = l.length := by omega
      subst hkn
      have dl : decide ((l.length : Int) < (l.length : Int)) = false := decide_eq_false (by omega)
      clear g1 g2
      go_wp2
      go_ret
      exact ⟨rfl, hB.out⟩
end Go.Proofs.YtilacgcjbdkphaaGreat

namespace Go.Proofs.YtilacgcjbdkphaaGreat
open Go.RowKit Go.Lib Go.Shelf

set_option maxRecDepth 100000 in
set_option maxHeartbeats 4000000 in
theorem refCheck15_any (o : Option Addr) (cap : Nat) (x c : Int) (ns : List NodeD) (w : World) (hF : FRd w o cap ns) (hkl : ∀ (i : Nat) (hi : i < ns.length), ns[i].kids.length ≤ 1099511627776) (hal : ∀ (i : Nat) (hi : i < ns.length), ns[i].attrs.length ≤ 1099511627776) :
    Calls Tryz.prog 18 #[.agg #[.slice o ns.length cap], bndV x c] w fun e w' => e = .returned (.int .i64 (lookE ns [(x, c)])) ∧ Below w.heap.size w w' := by
  obtain ⟨bx, g0, g1, sx⟩ := two_newB w (.cells #[.slice o ns.length cap] 24) (.cells #[.int .i64 x, .int .i64 c] 26)
  have hrd := one_rdB ((w.alloc (.cells #[.slice o ns.length cap] 24)).alloc (.cells #[.int .i64 x, .int .i64 c] 26)) x c
  have hbA : Below ((w.alloc (.cells #[.slice o ns.length cap] 24)).alloc (.cells #[.int .i64 x, .int .i64 c] 26)).heap.size ((w.alloc (.cells #[.slice o ns.length cap] 24)).alloc (.cells #[.int .i64 x, .int .i64 c] 26)) _ := (Below.refl _ _).alloc (Nat.le_refl _) (.cells #[.int .i64 x, .int .i64 c] 26)
  have hW := refWrong15_any o cap _ (.slice none 0 0) [(x, c)] [] ns _ (hF.later (bx.trans (hbA.mono bx.size))) hkl hal hrd (by simp) (nil_rdI _) (by simp)
  rw [refWrong_eq] at hW
  have Hbx := hid (bx.trans (hbA.mono bx.size))
  rw [sx] at hW
  clear hF hkl hal hrd bx hbA g0 g1
  generalize lookE ns [(x, c)] = E at *
  unfold bndV
  go_enter Tryz.func18, Tryz.ntmps18
  go_wp2_with fail
  refine hW.mono ?_
  rintro e v1 ⟨rfl, hb1⟩
  have HB1 := hid (Hbx.out.trans (hb1.mono Hbx.out.size))
  clear hW hb1
  go_wp2
  go_ret
  exact ⟨rfl, HB1.out⟩

set_option maxRecDepth 100000 in
set_option maxHeartbeats 4000000 in
theorem refCompare15_any (o : Option Addr) (cap : Nat) (x c y d : Int) (ns : List NodeD) (w : World) (hF : FRd w o cap ns) (hkl : ∀ (i : Nat) (hi : i < ns.length), ns[i].kids.length ≤ 1099511627776) (hal : ∀ (i : Nat) (hi : i < ns.length), ns[i].attrs.length ≤ 1099511627776) :
    Calls Tryz.prog 12 #[.agg #[.slice o ns.length cap], bndV x c, bndV y d] w fun e w' => e = .returned (.tuple #[.int .i64 (bcmpV ns (x, c) (y, d)), .int .i64 (bcmpE ns (x, c) (y, d))]) ∧ Below w.heap.size w w' := by
  obtain ⟨bx, g0, g1, g2, sx⟩ := three_newB w (.cells #[.slice o ns.length cap] 24) (.cells #[.int .i64 x, .int .i64 c] 26) (.cells #[.int .i64 y, .int .i64 d] 26)
  have hbA : Below (((w.alloc (.cells #[.slice o ns.length cap] 24)).alloc (.cells #[.int .i64 x, .int .i64 c] 26)).alloc (.cells #[.int .i64 y, .int .i64 d] 26)).heap.size (((w.alloc (.cells #[.slice o ns.length cap] 24)).alloc (.cells #[.int .i64 x, .int .i64 c] 26)).alloc (.cells #[.int .i64 y, .int .i64 d] 26)) _ := (Below.refl _ _).alloc (Nat.le_refl _) (.cells #[.int .i64 x, .int .i64 c, .int .i64 y, .int .i64 d] 26)
  have hnw := heap_new (((w.alloc (.cells #[.slice o ns.length cap] 24)).alloc (.cells #[.int .i64 x, .int .i64 c] 26)).alloc (.cells #[.int .i64 y, .int .i64 d] 26)) (.cells #[.int .i64 x, .int .i64 c, .int .i64 y, .int .i64 d] 26)
  have hrd := two_rdB hnw
  have hW := refWrong15_any o cap _ (.slice none 0 0) [(x, c), (y, d)] [] ns _ (hF.later (bx.trans (hbA.mono bx.size))) hkl hal hrd (by simp) (nil_rdI _) (by simp)
  rw [refWrong_eq] at hW
  rw [sx] at hW
  have Hbx := hid (bx.trans (hbA.mono bx.size))
  have HG0 := hid (blkLater hbA g0)
  have HG1 := hid (blkLater hbA g1)
  have HG2 := hid (blkLater hbA g2)
  clear hrd hnw hbA bx g0 g1 g2
  by_cases hE : lookE ns [(x, c), (y, d)] = 0
  · obtain ⟨hR, hWr⟩ := lookE_zero hE
    have hpts := wrongD_zero.1 hWr
    have hp : isPt ns (x, c) := hpts _ (by simp)
    have hq : isPt ns (y, d) := hpts _ (by simp)
    have hpos : 0 < ns.length := by
      obtain ⟨j, hj, _⟩ := there_idx hp.1
      omega
    obtain ⟨b, off, rfl, hFF⟩ := hF.at_ hpos
    have HO : Hid (∀ V : World, Below w.heap.size w V → _) := fun V hV => refOne15_any b off cap x y ns V hR (hFF.later hV) hp.1 hq.1
    have hPo : ∀ V : World, Below w.heap.size w V → _ := fun V hV => refPosition_any b off cap x c y d ns V hR (hFF.later hV) hp.1
    have hEe : bcmpE ns (x, c) (y, d) = if rootP ns x = rootP ns y then 0 else 18 := by unfold bcmpE; rw [if_pos hE]
    have hpe := fun e => refPos_eq hR hp hq e
    have hVe : bcmpE ns (x, c) (y, d) = 0 → bcmpV ns (x, c) (y, d) = cmpI (posD ns (x, c)) (posD ns (y, d)) := fun e => by unfold bcmpV; rw [if_pos e]
    have hVn : bcmpE ns (x, c) (y, d) ≠ 0 → bcmpV ns (x, c) (y, d) = 0 := fun e => by unfold bcmpV; rw [if_neg e]
    rw [hE] at hW
    by_cases hr : rootP ns x = rootP ns y
    · rw [if_pos hr] at hEe
      rw [hVe hEe, hEe, ← hpe hr]
      have hrb : (rootP ns x == rootP ns y) = true := beq_iff_eq.2 hr
      rw [hrb] at HO
      have HPo := hid hPo
      clear hEe hVe hVn hpe hr hrb hE hR hWr hpts hp hq hF hkl hal hFF hPo
      generalize refPosD ns (x, c) (y, d) = Z at *
      unfold bndV at *
      go_enter Tryz.func12, Tryz.ntmps12
      go_wp2_with fail
      refine hW.mono ?_
      rintro e v1 ⟨rfl, hb1⟩
      have n0 := (box_cell_l (blkLater hb1 HG0.out)).1
      obtain ⟨a0, a1⟩ := bnd_cells (blkLater hb1 HG1.out)
      obtain ⟨b0, b1⟩ := bnd_cells (blkLater hb1 HG2.out)
      have HB1 := hid (Hbx.out.trans (hb1.mono Hbx.out.size))
      have Hb1 := hid hb1
      have h1 := HO.out v1 HB1.out
      clear hW hb1
      go_wp2_with fail
      refine h1.mono ?_
      rintro e v2 ⟨rfl, hb2⟩
      have n0 := (box_cell_l (blkLater hb2 (blkLater Hb1.out HG0.out))).1
      obtain ⟨a0, a1⟩ := bnd_cells (blkLater hb2 (blkLater Hb1.out HG1.out))
      obtain ⟨b0, b1⟩ := bnd_cells (blkLater hb2 (blkLater Hb1.out HG2.out))
      have HB2 := hid (HB1.out.trans (hb2.mono HB1.out.size))
      have h2 := HPo.out v2 HB2.out
      clear h1 hb2
      go_wp2_with fail
      refine h2.mono ?_
      rintro e v3 ⟨rfl, hb3⟩
      have HB3 := hid (HB2.out.trans (hb3.mono HB2.out.size))
      clear h2 hb3
      go_wp2
      go_ret2
      exact ⟨rfl, HB3.out⟩
    · rw [if_neg hr] at hEe
      rw [hVn (by rw [hEe]; decide), hEe]
      have hrb : (rootP ns x == rootP ns y) = false := beq_eq_false_iff_ne.2 hr
      rw [hrb] at HO
      clear hEe hVe hVn hpe hr hrb hE hR hWr hpts hp hq hF hkl hal hFF hPo
      unfold bndV at *
      go_enter Tryz.func12, Tryz.ntmps12
      go_wp2_with fail
      refine hW.mono ?_
      rintro e v1 ⟨rfl, hb1⟩
      have n0 := (box_cell_l (blkLater hb1 HG0.out)).1
      obtain ⟨a0, a1⟩ := bnd_cells (blkLater hb1 HG1.out)
      obtain ⟨b0, b1⟩ := bnd_cells (blkLater hb1 HG2.out)
      have HB1 := hid (Hbx.out.trans (hb1.mono Hbx.out.size))
      have h1 := HO.out v1 HB1.out
      clear hW hb1
      go_wp2_with fail
      refine h1.mono ?_
      rintro e v2 ⟨rfl, hb2⟩
      have HB2 := hid (HB1.out.trans (hb2.mono HB1.out.size))
      clear h1 hb2
      go_wp2
      go_ret2
      exact ⟨rfl, HB2.out⟩
  · have hEe : bcmpE ns (x, c) (y, d) = lookE ns [(x, c), (y, d)] := by unfold bcmpE; rw [if_neg hE]
    have hVn : bcmpV ns (x, c) (y, d) = 0 := by unfold bcmpV; rw [if_neg (by rw [hEe]; exact hE)]
    rw [hEe, hVn]
    have d1 : (lookE ns [(x, c), (y, d)] == 0) = false := beq_eq_false_iff_ne.2 hE
    have d2 : (lookE ns [(x, c), (y, d)] != 0) = true := by rw [bne, d1]; rfl
    clear hEe hVn hE hF hkl hal
    generalize lookE ns [(x, c), (y, d)] = E at *
    unfold bndV at *
    go_enter Tryz.func12, Tryz.ntmps12
    go_wp2_with fail
    refine hW.mono ?_
    rintro e v1 ⟨rfl, hb1⟩
    have HB1 := hid (Hbx.out.trans (hb1.mono Hbx.out.size))
    clear hW hb1
    go_wp2
    go_ret2
    exact ⟨rfl, HB1.out⟩

/-- What a walk answers. -/
def walkL (ns : List NodeD) (x : Int) : List (Int × Int) := if toldE ns [x] = 0 then ptsD ns x else []
theorem look_one (ns : List NodeD) (x : Int) : lookE ns [(x, 0)] = toldE ns [x] := by
  unfold lookE toldE wrongD inLen
  simp only [List.all_cons, List.all_nil, Bool.and_true]
  cases rightD ns with
  | false => rfl
  | true =>
    rw [if_pos rfl, if_pos rfl]
    cases thereB ns.length x with
    | false => rfl
    | true =>
      rw [if_pos rfl, if_pos rfl, if_pos (by simp)]
theorem nil_rdB2 (w : World) : RdB w (.slice none 0 0) [] := ⟨none, 0, rfl, Nat.le_refl _, fun h => absurd h (Nat.lt_irrefl _)⟩
theorem bWalk_any (o : Option Addr) (cap : Nat) (x : Int) (ns : List NodeD) (w : World) (hF : FRd w o cap ns) (hkl : ∀ (i : Nat) (hi : i < ns.length), ns[i].kids.length ≤ 1099511627776) (hal : ∀ (i : Nat) (hi : i < ns.length), ns[i].attrs.length ≤ 1099511627776) :
    Calls Tryz.prog 13 #[.agg #[.slice o ns.length cap], .int .i64 x] w fun e w' => ∃ o' c', e = .returned (.tuple #[.slice o' (walkL ns x).length c', .int .i64 (toldE ns [x])]) ∧ RdB w' (.slice o' (walkL ns x).length c') (walkL ns x) ∧ Below w.heap.size w w' := by
  unfold walkL
  by_cases hE : toldE ns [x] = 0
  · rw [if_pos hE, hE]
    refine (bWalk_ok o cap x ns w hF hkl hal ((look_one ns x).trans hE)).mono ?_
    rintro e w' ⟨v, rfl, ho, hb, _⟩
    have hr := ownsP_rd ho
    obtain ⟨o', c', rfl⟩ := own_shapeB ho
    exact ⟨o', c', rfl, hr, hb⟩
  · rw [if_neg hE, ← look_one]
    refine (bWalk_err o cap x ns w hF hkl hal (by rw [look_one]; exact hE)).mono ?_
    rintro e w' ⟨rfl, hb⟩
    exact ⟨none, 0, rfl, nil_rdB2 _, hb⟩

set_option maxRecDepth 100000 in
set_option maxHeartbeats 4000000 in
theorem refWalk15_any (o : Option Addr) (cap : Nat) (x : Int) (ns : List NodeD) (w : World) (hF : FRd w o cap ns) (hkl : ∀ (i : Nat) (hi : i < ns.length), ns[i].kids.length ≤ 1099511627776) (hal : ∀ (i : Nat) (hi : i < ns.length), ns[i].attrs.length ≤ 1099511627776) :
    Calls Tryz.prog 14 #[.agg #[.slice o ns.length cap], .int .i64 x] w fun e w' => ∃ o' c', e = .returned (.tuple #[.slice o' (walkL ns x).length c', .int .i64 (toldE ns [x])]) ∧ RdB w' (.slice o' (walkL ns x).length c') (walkL ns x) ∧ Below w.heap.size w w' := by
  unfold walkL
  obtain ⟨bx, g0, sx⟩ := one_newB w (.cells #[.slice o ns.length cap] 24)
  have hW := ref05WrongB_any o cap x ns _ (hF.later bx) hkl hal
  have Hbx := hid bx
  have HG0 := hid g0
  by_cases hE : toldE ns [x] = 0
  · rw [if_pos hE, hE]
    rw [hE] at hW
    obtain ⟨hR, hth⟩ := toldE_zero hE
    have hx := hth x (by simp)
    have hpos : 0 < ns.length := by
      obtain ⟨j, hj, _⟩ := there_idx hx
      omega
    obtain ⟨b, off, rfl, hFF⟩ := hF.at_ hpos
    have HP : Hid (∀ V : World, Below w.heap.size w V → _) := fun V hV => refPoints_any b off cap ns w hR hFF (ns.length + 1) x V hx (by omega) hV
    clear hF hkl hal hE hR hth hx hFF bx g0
    go_enter Tryz.func14, Tryz.ntmps14
    go_wp2_with fail
    refine hW.mono ?_
    rintro e v1 ⟨rfl, hb1⟩
    have n0 := (box_cell_l (blkLater hb1 HG0.out)).1
    have HB1 := hid (Hbx.out.trans (hb1.mono Hbx.out.size))
    have h1 := HP.out v1 HB1.out
    clear hW hb1
    go_wp2_with fail
    refine h1.mono ?_
    rintro e v2 ⟨v, rfl, ho, hb2⟩
    have HR := hid (ownsP_rd ho)
    obtain ⟨o', c', rfl⟩ := own_shapeB ho
    have HB2 := hid (HB1.out.trans (hb2.mono HB1.out.size))
    clear h1 hb2 ho
    go_wp2
    go_ret2
    exact ⟨o', c', rfl, HR.out, HB2.out⟩
  · rw [if_neg hE]
    have d2 : (toldE ns [x] != 0) = true := by rw [bne, beq_eq_false_iff_ne.2 hE]; rfl
    clear hF hkl hal hE bx g0
    generalize toldE ns [x] = E at *
    go_enter Tryz.func14, Tryz.ntmps14
    go_wp2_with fail
    refine hW.mono ?_
    rintro e v1 ⟨rfl, hb1⟩
    have HB1 := hid (Hbx.out.trans (hb1.mono Hbx.out.size))
    clear hW hb1
    go_wp2
    go_ret2
    exact ⟨none, 0, rfl, nil_rdB2 _, HB1.out⟩
end Go.Proofs.YtilacgcjbdkphaaGreat

