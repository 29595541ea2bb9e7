/- The reference of order: Of, Place. -/
/- The reference of order: Root, Ancestors. -/
/- The reference of order: Contains, Common. -/
/- The reference of order: All. -/
/- above, lengthOf, ahead. -/
/- lengthOf. -/
/- ahead. -/
/- The calls of order that ask one handle: Index, Length, Prev. -/
import Derived.Test.YtilacgcjbdkphaaGreatFRefN
import Derived.Test.YtilacgcjbdkphaaGreatDFPosFNext
import Derived.Test.YtilacgcjbdkphaaGreatDFSkipHFInts
import Derived.Test.YtilacgcjbdkphaaGreatFRefM
import Derived.Deep.RegionLaw
namespace Go.Proofs.YtilacgcjbdkphaaGreat
open Go.RowKit Go.Lib Go.Shelf

set_option maxRecDepth 100000 in
set_option maxHeartbeats 4000000 in
theorem refOf_at (b off cap j : Nat) (ns : List NodeD) (w W : World) (hF : FAt w b off cap ns) (hW : Below w.heap.size w W) (hj : j < ns.length) :
    Calls Tryz.prog 102 #[.agg #[.slice (some ⟨b, off, none⟩) ns.length cap], .int .i64 ((j : Int) + 1)] W fun e w' => ∃ L : Lists, e = .returned (nodeV ns[j] L) ∧ RdN w L.data ns[j].data ∧ RdA w L.attrs ns[j].attrs ∧ RdI w L.kids ns[j].kids ∧ Below W.heap.size W w' := by
  have hle := hF.len
  obtain ⟨L, hc, hd, ha, hk⟩ := hF.at_ j hj
  have hs := hW.size
  have hB : Below w.heap.size w ((W.alloc (.cells #[.slice (some ⟨b, off, none⟩) ns.length cap] 24)).alloc (.cells #[.int .u8 0, .string ⟨#[]⟩, .string ⟨#[]⟩, .string ⟨#[]⟩, .string ⟨#[]⟩, .string ⟨#[]⟩, .slice none 0 0, .slice none 0 0, .int .i64 0, .slice none 0 0, .int .i64 0, .int .i64 0, .int .i64 0, .int .u8 0, .bool false, .bool false] 64)) := (hW.alloc hs _).alloc (by simp; omega) _
  obtain ⟨c0, c1, c2, c3, c4, c5, c6, c7, c8, c9, c10, c11, c12, c13, c14, c15⟩ := hc.later hF.lt hB
  have Hd := hid hd
  have Ha := hid ha
  have Hk := hid hk
  obtain ⟨D, A, K⟩ := L
  obtain ⟨od, cd, e1, _⟩ := hd
  obtain ⟨oa, ca, e2, _⟩ := ha
  obtain ⟨ok, ck, e3, _⟩ := hk
  simp only at e1 e2 e3
  subst e1 e2 e3
  have q1 : (0 : Int) ≤ (j : Int) := by omega
  have q2 : (j : Int) < (ns.length : Int) := by omega
  clear hF hc hB hW hs
  generalize ns[j] = n at *
  go_enter Tryz.func102, Tryz.ntmps102
  go_wp2
  have hB2 : ∀ o2 : Obj, Below W.heap.size W ((W.alloc (.cells #[.slice (some ⟨b, off, none⟩) ns.length cap] 24)).alloc o2) := fun o2 => ((Below.refl _ W).alloc (Nat.le_refl _) _).alloc (by simp) _
  exact bodyPost_ret (v := nodeV n ⟨.slice od n.data.length cd, .slice oa n.attrs.length ca, .slice ok n.kids.length ck⟩) (by simp [results, Tryz.results102, go_sem, nodeV]) rfl ⟨⟨.slice od n.data.length cd, .slice oa n.attrs.length ca, .slice ok n.kids.length ck⟩, rfl, Hd.out, Ha.out, Hk.out, hB2 _⟩
theorem refOf_any (b off cap j : Nat) (ns : List NodeD) (w : World) (hF : FAt w b off cap ns) (hj : j < ns.length) :
    Calls Tryz.prog 102 #[.agg #[.slice (some ⟨b, off, none⟩) ns.length cap], .int .i64 ((j : Int) + 1)] w fun e w' => ∃ L : Lists, e = .returned (nodeV ns[j] L) ∧ RdN w' L.data ns[j].data ∧ RdA w' L.attrs ns[j].attrs ∧ RdI w' L.kids ns[j].kids ∧ Below w.heap.size w w' := by
  refine (refOf_at b off cap j ns w w hF (Below.refl _ _) hj).mono ?_
  rintro e w' ⟨L, rfl, h1, h2, h3, hb⟩
  exact ⟨L, rfl, h1.later hb, h2.later hb, h3.later hb, hb⟩

set_option maxRecDepth 100000 in
set_option maxHeartbeats 2000000 in
theorem refPlace_any (v : Value) (l : List Int) (x : Int) (w : World) (hv : RdI w v l) (hl : l.length ≤ 1099511627776) :
    Calls Tryz.prog 80 #[v, .int .i64 x] w fun e w' => e = .returned (.int .i64 (idxI l x 0)) ∧ w' = w := by
  obtain ⟨o, c, rfl, hc, g⟩ := hv
  obtain ⟨N, hN⟩ : ∃ N, idxI l x 0 = N := ⟨_, rfl⟩
  rw [hN]
  have HN : Hid (idxI (l.drop 0) x 0 = N) := hN
  clear hN
  go_enter Tryz.func80, Tryz.ntmps80
  go_wp2
  go_loopw [5] (fun t wr => ∃ k : Nat, k ≤ l.length ∧ t = .int .i64 k ∧ wr = w ∧ Hid (idxI (l.drop k) x k = N)) (fun t _ => l.length - (RowKit.intOf t).toNat)
  case atStart => exact ⟨0, Nat.zero_le _, rfl, rfl, HN⟩
  case round =>
    obtain ⟨k, k1, rfl, rfl, hK⟩ := hrel
    by_cases hlt : k < l.length
    · obtain ⟨b, off, rfl, hlt1, ha⟩ := g (by omega)
      have x1 := ha k hlt
      have q1 : (0 : Int) ≤ (k : Int) := by omega
      have q2 : (k : Int) < (l.length : Int) := by omega
      have hk := hK.out
      rw [List.drop_eq_getElem_cons hlt, idxI] at hk
      have Hk := hid hk
      clear hk hK ha g
      generalize l[k] = a at *
      cases he : (a == x) with
      | true =>
        have hNk : N = (k : Int) := by
          rw [← Hk.out, he]
          rfl
        subst hNk
        clear Hk
        go_wp2
        go_ret
        exact ⟨rfl, rfl⟩
      | false =>
        have Hn : Hid (idxI (l.drop (k + 1)) x (k + 1) = N) := by
          have h := Hk.out
          rw [he, if_neg Bool.false_ne_true] at h
          exact h
        clear Hk
        go_wp2
        go_roundw
        case rel => exact ⟨k + 1, by omega, by go_num, trivial, Hn⟩
        case measure => simp [RowKit.intOf]; omega
    · have hNk : N = -1 := by
        rw [← hK.out, List.drop_eq_nil_of_le (by omega)]
        rfl
      subst hNk
      clear hK g
      go_wp2
      go_ret
      exact ⟨rfl, rfl⟩
end Go.Proofs.YtilacgcjbdkphaaGreat

namespace Go.Proofs.YtilacgcjbdkphaaGreat
open Go.RowKit Go.Lib Go.Shelf

/-- A node's parent, read out of its value. -/
theorem fld_parent (n : NodeD) (D A K : Value) (W : World) : Sem.run Tryz.prog (Instr.field 64 (.agg #[.int .u8 (n.kind : Int), .string n.space, .string n.pre, .string n.loc, .string n.pub, .string n.sys, D, A, .int .i64 n.parent, K, .int .i64 n.doc, .int .i64 n.host, .int .i64 n.shadow, .int .u8 (n.mode : Int), .bool n.manual, .bool n.html]) 6) W = .ok (.int .i64 n.parent) W := by kernel_rfl
set_option maxRecDepth 100000 in
set_option maxHeartbeats 4000000 in
theorem refAnc_any (b off cap : Nat) (x : Int) (ns : List NodeD) (w : World) (hR : RightF ns) (hF : FAt w b off cap ns) (hx : thereB ns.length x = true) :
    Calls Tryz.prog 81 #[.agg #[.slice (some ⟨b, off, none⟩) ns.length cap], .int .i64 x] w fun e w' => ∃ v, e = .returned v ∧ RdI w' v (pathUp ns (parentD ns) (parentD ns x)) ∧ Below w.heap.size w w' := by
  obtain ⟨i0, hi, hz0, hz1, hz2⟩ := info_parts info_int
  have HO : Hid (∀ (j : Nat) (hj : j < ns.length) (W : World), Below w.heap.size w W → _) := fun j hj W hW => refOf_any b off cap j ns W (hF.later hW) hj
  have hsmall := hR.small
  have hlen : (pathUp ns (parentD ns) x).length ≤ 4096 := Nat.le_trans (pathUp_len ns _ hR.parentOK hR.ends x (.inr hx)) hR.small
  rw [pathUp_head hR hx, List.length_cons] at hlen
  obtain ⟨P, hP⟩ : ∃ P, pathUp ns (parentD ns) (parentD ns x) = P := ⟨_, rfl⟩
  rw [hP] at hlen ⊢
  have HP : Hid ([] ++ pathUp ns (parentD ns) (parentD ns x) = P) := hP
  clear hP hF
  go_enter Tryz.func81, Tryz.ntmps81
  go_wp2
  go_loopw [1, 5] (fun t v wr => ∃ (y : Int) (done : List Int), thereB ns.length y = true ∧ t = .int .i64 y ∧ Below (w.heap.size + 1) (w.alloc (.cells #[.slice (some ⟨b, off, none⟩) ns.length cap] 24)) wr ∧ wr.ownsRow (w.heap.size + 1) 3 1 v done.length (done.map (Value.int .i64)) ∧ Hid (done ++ pathUp ns (parentD ns) (parentD ns y) = P)) (fun t _ _ => (pathUp ns (parentD ns) (RowKit.intOf t)).length)
  case atStart => exact ⟨x, [], hx, rfl, Below.refl _ _, World.ownsRow_nil _ _ _ _, HP⟩
  case round =>
    obtain ⟨y, done, hy, rfl, hB, hown, hr⟩ := hrel
    have hBw := bx_below hB
    have cb : wr.cell? ⟨w.heap.size, 0, none⟩ = some (.slice (some ⟨b, off, none⟩) ns.length cap) := (hB.cell (p := ⟨w.heap.size, 0, none⟩) (by show w.heap.size < w.heap.size + 1; omega)).trans (by simp)
    have hph := pathUp_head hR hy
    obtain ⟨j, hj, rfl⟩ := there_idx hy
    have hpt := hR.parent_there j hj
    rw [parentD_at ns j hj] at hph hr
    have hO := HO.out j hj wr hBw
    have HO2 : Hid (∀ W : World, Below w.heap.size w W → _) := fun W hW => HO.out j hj W hW
    have HPh := hid hph
    have HPt := hid hpt
    have HB := hid hB
    have HBw := hid hBw
    clear hph hpt hB hBw HP
    generalize ns[j] = n at *
    by_cases h0 : n.parent = 0
    · have hRj : P = done := by
        have h1 := hr.out
        rw [h0, pathUp_zero, List.append_nil] at h1
        exact h1.symm
      subst hRj
      have HOw := hid hown
      have hne : (n.parent != 0) = false := by rw [h0]; rfl
      clear hr HPh HPt hown h0
      go_wp2_with fail
      refine hO.mono ?_
      rintro e v1 ⟨L, rfl, h1, h2, h3, hb1⟩
      obtain ⟨od, cd, oa, ca, ok, ck, rfl⟩ := lists_slices h1 h2 h3
      have HB1 := hid (HBw.out.trans (hb1.mono HBw.out.size))
      have HOw1 := hid (ownsRow_later HOw.out hb1)
      clear h1 h2 h3 hb1 hO HOw
      unfold nodeV
      have hfl := fld_parent n (.slice od n.data.length cd) (.slice oa n.attrs.length ca) (.slice ok n.kids.length ck)
      go_wp2
      go_ret
      exact ⟨_, rfl, ownsRow_rdI HOw1.out, HB1.out⟩
    · have hne : (n.parent != 0) = true := by rw [bne, beq_eq_false_iff_ne.2 h0]; rfl
      have hpt : thereB ns.length n.parent = true := HPt.out.resolve_left h0
      have hr2 := hr.out
      rw [pathUp_head hR hpt] at hr2
      have Hn : Hid ((done ++ [n.parent]) ++ pathUp ns (parentD ns) (parentD ns n.parent) = P) := by
        show _ = _
        rw [List.append_assoc]
        exact hr2
      have hdl : done.length + 1 ≤ 4096 := by
        have := congrArg List.length hr2
        rw [List.length_append, List.length_cons] at this
        omega
      have HOw := hid hown
      clear hr hr2 HPt hown
      go_wp2_with fail
      refine hO.mono ?_
      rintro e v1 ⟨L, rfl, h1, h2, h3, hb1⟩
      obtain ⟨od, cd, oa, ca, ok, ck, rfl⟩ := lists_slices h1 h2 h3
      have hs1 := HB.out.size
      simp only [World.size_alloc] at hs1
      have hB1 := HB.out.trans (hb1.mono hs1)
      have cb1 : v1.cell? ⟨w.heap.size, 0, none⟩ = some (.slice (some ⟨b, off, none⟩) ns.length cap) := (hB1.cell (p := ⟨w.heap.size, 0, none⟩) (by show w.heap.size < w.heap.size + 1; omega)).trans (by simp)
      have hO2 := HO2.out v1 (bx_below hB1)
      have HB1 := hid hB1
      have HOw1 := hid (ownsRow_later HOw.out hb1)
      clear h1 h2 h3 hb1 hO hB1 hs1 HOw
      unfold nodeV
      have hfl := fld_parent n (.slice od n.data.length cd) (.slice oa n.attrs.length ca) (.slice ok n.kids.length ck)
      go_wp2_with fail
      refine hO2.mono ?_
      rintro e v2 ⟨L, rfl, h1, h2, h3, hb2⟩
      obtain ⟨od, cd, oa, ca, ok, ck, rfl⟩ := lists_slices h1 h2 h3
      have hs1 := HB1.out.size
      simp only [World.size_alloc] at hs1
      have HB2 := hid (HB1.out.trans (hb2.mono hs1))
      have hs2 := HB2.out.size
      simp only [World.size_alloc] at hs2
      have hown := ownsRow_later HOw1.out hb2
      clear h1 h2 h3 hb2 hO2 hs1 HOw1
      have m1 : done.length + 1 ≤ maxLen := Nat.le_trans hdl (by decide)
      have m2 : (done.length + 1) * 8 ≤ 140737488355328 := by omega
      have m3 : w.heap.size + 1 ≤ (v2.alloc (.cells #[.int .i64 n.parent] 3)).heap.size := by simp; omega
      unfold nodeV
      have hfl := fld_parent n (.slice od n.data.length cd) (.slice oa n.attrs.length ca) (.slice ok n.kids.length ck)
      go_wp2_with (at_builtin; refine wpList_append_own _ rfl _ _ 32 rfl (w.heap.size + 1) 3 i0 (.int .i64 0) 1 8 Tryz.underlying32 hi hz0 hz1 hz2 rfl (by decide) _ _ _ rfl (hown.alloc _) ⟨v2.heap.size, 0, none⟩ 1 1 [.int .i64 n.parent] rfl rfl (cell_one_new _ _ _) (by simp [Value.oneCell']) m1 m2 m3 ?_; intro v' w1 hown' hgrow _)
      have HB3 : Hid (Below (w.heap.size + 1) v2 w1) := ((Below.refl _ v2).alloc (by omega) _).grown hgrow m3 (fun j hj => (hown.lt j hj).1)
      go_roundw
      case rel => exact ⟨_, done ++ [n.parent], hpt, rfl, HB2.out.trans HB3.out, by simpa using hown', Hn⟩
      case measure =>
        simp only [RowKit.intOf]
        rw [HPh.out]
        simp
end Go.Proofs.YtilacgcjbdkphaaGreat

namespace Go.Proofs.YtilacgcjbdkphaaGreat
open Go.RowKit Go.Lib Go.Shelf

theorem contains_parts {ns : List NodeD} (hR : RightF ns) (a : Int) {b : Int} (hb : thereB ns.length b = true) : containsD ns a b = (a == b || decide (0 ≤ idxI (pathUp ns (parentD ns) (parentD ns b)) a 0)) := by
  unfold containsD
  rw [pathUp_head hR hb, idxI_in, List.contains_cons]
  congr 1
  exact List.contains_eq_mem _ _
set_option maxRecDepth 100000 in
set_option maxHeartbeats 4000000 in
theorem refContains_any (b off cap : Nat) (x y : Int) (ns : List NodeD) (w : World) (hR : RightF ns) (hF : FAt w b off cap ns) (hy : thereB ns.length y = true) :
    Calls Tryz.prog 35 #[.agg #[.slice (some ⟨b, off, none⟩) ns.length cap], .int .i64 x, .int .i64 y] w fun e w' => e = .returned (.bool (containsD ns x y)) ∧ Below w.heap.size w w' := by
  have HA : Hid (∀ (W : World), Below w.heap.size w W → _) := fun W hW => refAnc_any b off cap y ns W hR (hF.later hW) hy
  have hsm := hR.small
  have hlen : (pathUp ns (parentD ns) y).length ≤ 4096 := Nat.le_trans (pathUp_len ns _ hR.parentOK hR.ends y (.inr hy)) hR.small
  rw [pathUp_head hR hy, List.length_cons] at hlen
  rw [contains_parts hR x hy]
  generalize pathUp ns (parentD ns) (parentD ns y) = P at *
  have hPl : P.length ≤ 1099511627776 := by omega
  have hle := hF.len
  clear hR hF hy hsm hlen
  have hB0 : Below w.heap.size w (w.alloc (.cells #[.slice (some ⟨b, off, none⟩) ns.length cap] 24)) := (Below.refl _ w).alloc (Nat.le_refl _) _
  have hA := HA.out _ hB0
  have HB0 := hid hB0
  clear HA hB0
  cases hxy : (x == y) with
  | true =>
    rw [Bool.true_or]
    clear hA
    go_enter Tryz.func35, Tryz.ntmps35
    go_wp2
    go_ret
    exact ⟨rfl, HB0.out⟩
  | false =>
    rw [Bool.false_or]
    obtain ⟨N, hN⟩ : ∃ N, idxI P x 0 = N := ⟨_, rfl⟩
    rw [hN]
    go_enter Tryz.func35, Tryz.ntmps35
    go_wp2_with fail
    refine hA.mono ?_
    rintro e v1 ⟨v, rfl, hrd, hb1⟩
    have HB1 := hid (HB0.out.trans (hb1.mono HB0.out.size))
    have hP := refPlace_any v P x v1 hrd hPl
    obtain ⟨o, c, rfl, _⟩ := hrd
    clear hb1 hA
    rw [hN] at hP
    clear hN
    go_wp2_with fail
    refine hP.mono ?_
    rintro e v2 ⟨rfl, rfl⟩
    clear hP
    go_wp2
    go_ret
    exact ⟨rfl, HB1.out⟩

end Go.Proofs.YtilacgcjbdkphaaGreat

namespace Go.Proofs.YtilacgcjbdkphaaGreat
open Go.RowKit Go.Lib Go.Shelf

/-- A call of a function at a step of a region that draws its order. -/
theorem step_call {P : Program} (w : World) {ops : Array Oper} {o : Oper} {a : Act} {K : Act → World → Prop} {Q : Exit → Act → World → Prop} {E : Prop} (hgd : o.guard = none) (s x : Operand) (t tn : TypeId) (f : FuncId)
    (ho : o.op = .call { callee := .value (.func f), args := #[s, x], argTypes := #[t, tn] }) (vs vx : Value) (hs : a.eval s = vs) (hx : a.eval x = vx) (hE : (callFunc f #[vs, vx]).run P w = .ok (.enter f #[vs, vx]) w) (R : Ending → World → Prop)
    (hc : Calls P f #[vs, vx] w R) (h : ∀ e w', R e w' → ∃ v, e = .returned v ∧ K (a.put o.dst v) w') :
    if Region.wanted o (yielded ops a.tmps) = true then Oper.wp P o a w K Q else E := by
  have hw : Region.wanted o (yielded ops a.tmps) = true := by simp [Region.wanted, hgd]
  rw [if_pos hw]
  have hf : a.eval (.func f) = .func (.func f) #[] #[] := rfl
  unfold Oper.wp
  simp [execOp, ho, resolve, invoke, hs, hx, hf, hE, Deferred.ofValue]
  refine hc.mono ?_
  rintro e w' hR
  obtain ⟨v, rfl, hK⟩ := h e w' hR
  exact hK

end Go.Proofs.YtilacgcjbdkphaaGreat

namespace Go.Proofs.YtilacgcjbdkphaaGreat
open Go.RowKit Go.Lib Go.Shelf

theorem enterNode (vs vx : Value) (w : World) : (callFunc 109 #[vs, vx]).run Tryz.prog w = .ok (.enter 109 #[vs, vx]) w := by kernel_rfl
end Go.Proofs.YtilacgcjbdkphaaGreat

namespace Go.Proofs.YtilacgcjbdkphaaGreat
open Go.RowKit Go.Lib Go.Shelf

set_option maxRecDepth 100000 in
set_option maxHeartbeats 4000000 in
theorem lengthOf_any (b off cap j : Nat) (ns : List NodeD) (w : World) (hF : FAt w b off cap ns) (hj : j < ns.length) (hkl : ns[j].kids.length ≤ 1099511627776) (hdl : ns[j].data.length ≤ 1099511627776) :
    Calls Tryz.prog 84 #[forestV b off cap ns.length, .int .i64 ((j : Int) + 1)] w fun e w' => e = .returned (.int .i64 ((lengthD ns[j] : Nat) : Int)) ∧ Below w.heap.size w w' := by
  have HN : Hid (∀ W : World, _) := fun W => onode_any b off cap ns.length j W hj hF.len
  obtain ⟨L, hc, hd, ha, hk⟩ := hF.at_ j hj
  have HC : Hid (∀ W : World, Below w.heap.size w W → NodeCells W b (off + j * 16) ns[j] L) := fun W hW => hc.later hF.lt hW
  have hle := hF.len
  obtain ⟨D, A, K⟩ := L
  obtain ⟨od, cd, e1, _⟩ := hd
  obtain ⟨oa, ca, e2, _⟩ := ha
  obtain ⟨ok, ck, e3, _⟩ := hk
  simp only at e1 e2 e3
  subst e1 e2 e3
  have HX : Hid (∀ v1 : World, Below (w.heap.size + 1) (w.alloc (.cells #[.slice (some ⟨b, off, none⟩) ns.length cap] 24)) v1 → v1.cell? ⟨w.heap.size, 0, none⟩ = some (.slice (some ⟨b, off, none⟩) ns.length cap)) := fun v1 hB1 => (hB1.cell (p := ⟨w.heap.size, 0, none⟩) (by show w.heap.size < w.heap.size + 1; omega)).trans (by simp)
  have hB0 : Below (w.heap.size + 1) (w.alloc (.cells #[.slice (some ⟨b, off, none⟩) ns.length cap] 24)) (w.alloc (.cells #[.slice (some ⟨b, off, none⟩) ns.length cap] 24)).drew := (Below.refl _ _).drew
  unfold forestV lengthD at *
  have hN := HN.out (w.alloc (.cells #[.slice (some ⟨b, off, none⟩) ns.length cap] 24)).drew
  have HB0 := hid hB0
  have f1 : IntKind.i64.wrap ((ns[j].kids.length : Int) + (ns[j].data.length : Int)) = (((ns[j].kids.length + ns[j].data.length : Nat)) : Int) := by
    rw [wrap_small (by omega) (by omega)]
    omega
  clear hF hc hB0
  generalize ns[j] = n at *
  go_enter Tryz.func84, Tryz.ntmps84
  go_upto_region 1 with fail
  go_cut [4] (fun t wx => t = .int .i64 ((n.kids.length + n.data.length : Nat) : Int) ∧ Below w.heap.size w wx)
  case first =>
    go_region_law (first
      | (refine step_call _ rfl (.tmp 5) (.tmp 6) 24 3 109 rfl (.agg #[.slice (some ⟨b, off, none⟩) ns.length cap]) (.int .i64 ((j : Int) + 1)) (by simp [Act.eval]) (by simp [Act.eval]) (enterNode _ _ _) _ hN ?_; rintro e v1 ⟨rfl, hb1⟩; refine ⟨_, rfl, ?_⟩; have hB1 := HB0.out.trans (hb1.mono (by simp)); have cb1 := HX.out v1 hB1; have ck1 := (HC.out v1 (bx_below hB1)).kids; have cd1 := (HC.out v1 (bx_below hB1)).data; have hN2 := HN.out v1; have HB1 := hid hB1; clear hb1 hB1)
      | (refine step_call _ rfl (.tmp 12) (.tmp 13) 24 3 109 rfl (.agg #[.slice (some ⟨b, off, none⟩) ns.length cap]) (.int .i64 ((j : Int) + 1)) rfl rfl (enterNode _ _ _) _ hN2 ?_; rintro e v2 ⟨rfl, hb2⟩; refine ⟨_, rfl, ?_⟩; have hB2 := HB1.out.trans (hb2.mono (bx_size HB1.out)); have ck2 := (HC.out v2 (bx_below hB2)).kids; have cd2 := (HC.out v2 (bx_below hB2)).data; have HB2 := hid hB2; clear hb2 hB2))
    all_goals
      go_wp2_with fail
      go_meet
      exact ⟨rfl, bx_below HB2.out⟩
  case rest =>
    obtain ⟨rfl, hBx⟩ := hcut
    have HBx := hid hBx
    clear hBx
    go_wp2
    go_ret
    exact ⟨rfl, HBx.out⟩
end Go.Proofs.YtilacgcjbdkphaaGreat

namespace Go.Proofs.YtilacgcjbdkphaaGreat
open Go.RowKit Go.Lib Go.Shelf

end Go.Proofs.YtilacgcjbdkphaaGreat

namespace Go.Proofs.YtilacgcjbdkphaaGreat
open Go.RowKit Go.Lib Go.Shelf

theorem well_data {n : NodeD} (h : wellMadeD n = true) : n.data.length ≤ 16384 := by
  unfold wellMadeD at h
  simp only [Bool.and_eq_true] at h
  exact of_decide_eq_true h.1.2
theorem lengthOf_D (b off cap : Nat) (x : Int) (ns : List NodeD) (w : World) (hR : RightF ns) (hF : FAt w b off cap ns) (hx : thereB ns.length x = true) (hkl : ∀ (i : Nat) (hi : i < ns.length), ns[i].kids.length ≤ 1099511627776) :
    Calls Tryz.prog 84 #[forestV b off cap ns.length, .int .i64 x] w fun e w' => e = .returned (.int .i64 ((lengthD (nodeOrNone ns x) : Nat) : Int)) ∧ Below w.heap.size w w' := by
  obtain ⟨j, hj, rfl⟩ := there_idx hx
  have hn : nodeOrNone ns ((j : Int) + 1) = ns[j] := by unfold nodeOrNone; rw [nodeOf_at ns j hj]; rfl
  rw [hn]
  exact lengthOf_any b off cap j ns w hF hj (hkl j hj) (Nat.le_trans (well_data (hR.well j hj)) (by decide))

set_option maxRecDepth 100000 in
set_option maxHeartbeats 2000000 in
theorem Length1_any (b off cap u1 u2 : Nat) (x : Int) (ns : List NodeD) (w : World) (hR : RightF ns) (hF : FAt w b off cap ns) (hx : thereB ns.length x = true) (hkl : ∀ (i : Nat) (hi : i < ns.length), ns[i].kids.length ≤ 1099511627776)
    (c1 : w.cell? ⟨u1, 0, none⟩ = some (.slice (some ⟨b, off, none⟩) ns.length cap)) (c2 : w.cell? ⟨u2, 0, none⟩ = some (.int .i64 x)) :
    Calls Tryz.prog 83 #[.pointer (some ⟨u1, 0, none⟩), .pointer (some ⟨u2, 0, none⟩)] w fun e w' => e = .returned (.int .i64 (((lengthD (nodeOrNone ns x) : Nat) : Int))) ∧ Below w.heap.size w w' := by
  have hP := lengthOf_D b off cap x ns w hR hF hx hkl
  unfold forestV at hP
  generalize ((lengthD (nodeOrNone ns x) : Nat) : Int) = P at *
  clear hkl
  go_enter Tryz.func83, Tryz.ntmps83
  go_wp2_with fail
  refine hP.mono ?_
  rintro e v1 ⟨rfl, hb1⟩
  have HB := hid hb1
  clear hP hb1
  go_wp2
  go_ret
  exact ⟨rfl, HB.out⟩

set_option maxRecDepth 100000 in
set_option maxHeartbeats 4000000 in
theorem toldLength_any (o : Option Addr) (cap u1 u2 : Nat) (R : Int) (v : Value) (hs : List Int) (ns : List NodeD) (w : World) (hF : FRd w o cap ns) (hkl : ∀ (i : Nat) (hi : i < ns.length), ns[i].kids.length ≤ 1099511627776) (hal : ∀ (i : Nat) (hi : i < ns.length), ns[i].attrs.length ≤ 1099511627776) (hv : RdI w v hs) (hl : hs.length ≤ 1099511627776)
    (hT : toldE ns hs = 0 → ∀ W : World, Below w.heap.size w W → Calls Tryz.prog 83 #[.pointer (some ⟨u1, 0, none⟩), .pointer (some ⟨u2, 0, none⟩)] W fun e w' => e = .returned (.int .i64 R) ∧ Below W.heap.size W w') :
    Calls Tryz.prog 82 #[.agg #[.slice o ns.length cap], .func (.func 83) #[] #[.pointer (some ⟨u1, 0, none⟩), .pointer (some ⟨u2, 0, none⟩)], v] w fun e w' => e = .returned (.tuple #[.int .i64 (if toldE ns hs = 0 then R else 0), .int .i64 (toldE ns hs)]) ∧ Below w.heap.size w w' := by
  have HC : Hid (∀ W : World, Below w.heap.size w W → _) := fun W hW => Check_any o cap ns W (hF.later hW) hkl hal
  have hle := hF.len
  obtain ⟨o2, c2, rfl, hc2, g2⟩ := hv
  clear hF hkl hal
  generalize checkN ns = CN at *
  cases hr : rightD ns with
  | false =>
    have e0 : toldE ns hs = 5 := by unfold toldE; rw [hr]; rfl
    have e1 : checkE ns = 5 := by unfold checkE; rw [hr]; rfl
    rw [e0, if_neg (by decide)]
    rw [e1] at HC
    clear hT e0 e1 g2
    go_enter Tryz.func82, Tryz.ntmps82
    go_wp2_with fail
    refine (HC.out _ ((Below.refl _ w).alloc (Nat.le_refl _) _)).mono ?_
    rintro e v1 ⟨rfl, hb1⟩
    go_wp2
    go_ret2
    exact ⟨rfl, box_go hb1⟩
  | true =>
    have e1 : checkE ns = 0 := (checkE_right hr).1
    rw [e1] at HC
    obtain ⟨E, hE⟩ : ∃ E, toldE ns hs = E := ⟨_, rfl⟩
    rw [hE] at hT ⊢
    have HE : Hid ((if (hs.drop 0).all (thereB ns.length) then (0 : Int) else 2) = E) := by
      have := hE
      unfold toldE at this
      rw [hr, if_pos rfl] at this
      exact this
    obtain ⟨T, hTe⟩ : ∃ T, (if E = 0 then R else 0) = T := ⟨_, rfl⟩
    rw [hTe]
    have HTe := hid hTe
    have HT := hid hT
    clear hE hT e1 hTe
    go_enter Tryz.func82, Tryz.ntmps82
    go_wp2_with fail
    refine (HC.out _ ((Below.refl _ w).alloc (Nat.le_refl _) _)).mono ?_
    rintro e v1 ⟨rfl, hb1⟩
    have HB1 := hid (box_go hb1)
    have cb := box_forest hb1
    clear hb1 HC
    go_wp2
    go_loopw [24] (fun t wr => ∃ k : Nat, k ≤ hs.length ∧ t = .int .i64 k ∧ wr = v1 ∧ Hid ((if (hs.drop k).all (thereB ns.length) then (0 : Int) else 2) = E)) (fun t _ => hs.length - (RowKit.intOf t).toNat)
    case atStart => exact ⟨0, Nat.zero_le _, rfl, rfl, HE⟩
    case round =>
      obtain ⟨k, k1, rfl, rfl, hK⟩ := hrel
      by_cases hlt : k < hs.length
      · obtain ⟨b, off, rfl, hlt1, ha⟩ := g2 (by omega)
        have x1 := (HB1.out.cell (p := ⟨b, off + k, none⟩) hlt1).trans (ha k hlt)
        have q1 : (0 : Int) ≤ (k : Int) := by omega
        have q2 : (k : Int) < (hs.length : Int) := by omega
        have hk := hK.out
        rw [List.drop_eq_getElem_cons hlt, List.all_cons] at hk
        have Hk := hid hk
        clear hk hK ha g2
        generalize hs[k] = a at *
        by_cases g1 : a < 1
        · have hf : thereB ns.length a = false := by unfold thereB; rw [decide_eq_false (by omega)]; rfl
          have hE2 : E = 2 := by rw [← Hk.out, hf]; rfl
          subst hE2
          have hT0 : T = 0 := by rw [← HTe.out]; rfl
          subst hT0
          have d1 : decide (a < 1) = true := decide_eq_true g1
          clear Hk hf HT
          go_wp2
          go_ret2
          exact ⟨rfl, HB1.out⟩
        · have d1 : decide (a < 1) = false := decide_eq_false g1
          by_cases g3 : (ns.length : Int) < a
          · have hf : thereB ns.length a = false := by unfold thereB; rw [decide_eq_false (p := a ≤ (ns.length : Int)) (by omega), Bool.and_false]
            have hE2 : E = 2 := by rw [← Hk.out, hf]; rfl
            subst hE2
            have hT0 : T = 0 := by rw [← HTe.out]; rfl
            subst hT0
            have d2 : decide ((ns.length : Int) < a) = true := decide_eq_true g3
            clear Hk hf HT
            go_wp2
            go_ret2
            exact ⟨rfl, HB1.out⟩
          · have hf : thereB ns.length a = true := by unfold thereB; rw [decide_eq_true (by omega), decide_eq_true (by omega)]; rfl
            have d2 : decide ((ns.length : Int) < a) = false := decide_eq_false g3
            have Hn : Hid ((if (hs.drop (k + 1)).all (thereB ns.length) then (0 : Int) else 2) = E) := by
              have h := Hk.out
              rw [hf, Bool.true_and] at h
              exact h
            clear Hk hf
            go_wp2
            go_roundw
            case rel => exact ⟨k + 1, by omega, by go_num, trivial, Hn⟩
            case measure => simp [RowKit.intOf]; omega
      · have hE0 : E = 0 := by rw [← hK.out, List.drop_eq_nil_of_le (by omega)]; rfl
        subst hE0
        have hT := HT.out rfl wr HB1.out
        have hT0 : T = R := by rw [← HTe.out]; rfl
        subst hT0
        clear hK g2 HT HTe
        go_wp2_with fail
        refine hT.mono ?_
        rintro e v2 ⟨rfl, hb2⟩
        have HB2 := hid (HB1.out.trans (hb2.mono HB1.out.size))
        clear hT hb2
        go_wp2
        go_ret2
        exact ⟨rfl, HB2.out⟩

set_option maxRecDepth 100000 in
set_option maxHeartbeats 4000000 in
theorem Length_any (o : Option Addr) (cap : Nat) (x : Int) (ns : List NodeD) (w : World) (hF : FRd w o cap ns) (hkl : ∀ (i : Nat) (hi : i < ns.length), ns[i].kids.length ≤ 1099511627776) (hal : ∀ (i : Nat) (hi : i < ns.length), ns[i].attrs.length ≤ 1099511627776) :
    Calls Tryz.prog 37 #[.agg #[.slice o ns.length cap], .int .i64 x] w fun e w' => e = .returned (.tuple #[.int .i64 (if toldE ns [x] = 0 then ((lengthD (nodeOrNone ns x) : Nat) : Int) else 0), .int .i64 (toldE ns [x])]) ∧ Below w.heap.size w w' := by
  have hB3 : Below w.heap.size w (((w.alloc (.cells #[.slice o ns.length cap] 24)).alloc (.cells #[.int .i64 x] 3)).alloc (.cells #[.int .i64 x] 3)) := (((Below.refl _ w).alloc (Nat.le_refl _) _).alloc (by simp) _).alloc (by simp; omega) _
  have k0 := new_cell_l w (.slice o ns.length cap) 24
  have k1 := new_cell_l (w.alloc (.cells #[.slice o ns.length cap] 24)) (.int .i64 x) 3
  have kr := one_rdI ((w.alloc (.cells #[.slice o ns.length cap] 24)).alloc (.cells #[.int .i64 x] 3)) x 3
  simp only [World.size_alloc] at k1 kr
  have c0 := keep_cell_l (.cells #[.int .i64 x] 3) (keep_cell_l (.cells #[.int .i64 x] 3) k0.1)
  have c1 := keep_cell_l (.cells #[.int .i64 x] 3) k1.1
  have s0 : w.heap.size < (((w.alloc (.cells #[.slice o ns.length cap] 24)).alloc (.cells #[.int .i64 x] 3)).alloc (.cells #[.int .i64 x] 3)).heap.size := by simp only [World.size_alloc]; omega
  have hT := toldLength_any o cap w.heap.size (w.heap.size + 1) (((lengthD (nodeOrNone ns x) : Nat) : Int)) (.slice (some ⟨w.heap.size + 1 + 1, 0, none⟩) 1 1) [x] ns (((w.alloc (.cells #[.slice o ns.length cap] 24)).alloc (.cells #[.int .i64 x] 3)).alloc (.cells #[.int .i64 x] 3)) (hF.later hB3) hkl hal kr (by simp) (fun hE W hW => by
    obtain ⟨hR, hth⟩ := toldE_zero hE
    have hx := hth x (by simp)
    obtain ⟨i, hi, _⟩ := there_idx hx
    obtain ⟨b, off, rfl, hFA⟩ := hF.at_ (by omega)
    have hBW := hB3.trans (hW.mono hB3.size)
    have h1 := Length1_any b off cap w.heap.size (w.heap.size + 1) x ns W hR (hFA.later hBW) hx hkl
      ((hW.cell (p := ⟨w.heap.size, 0, none⟩) s0).trans c0)
      ((hW.cell (p := ⟨w.heap.size + 1, 0, none⟩) (by show w.heap.size + 1 < _; simp only [World.size_alloc]; omega)).trans c1)
    exact h1)
  generalize (if toldE ns [x] = 0 then ((lengthD (nodeOrNone ns x) : Nat) : Int) else 0) = A at *
  generalize toldE ns [x] = E at *
  have HB3 := hid hB3
  clear k0 k1 kr c0 c1 s0 hF hkl hal hB3
  go_enter Tryz.func37, Tryz.ntmps37
  go_wp2_with fail
  refine hT.mono ?_
  rintro e v1 ⟨rfl, hb1⟩
  have HB := hid (HB3.out.trans (hb1.mono HB3.out.size))
  clear hT hb1 HB3
  go_wp2
  go_ret2
  exact ⟨rfl, HB.out⟩

end Go.Proofs.YtilacgcjbdkphaaGreat

