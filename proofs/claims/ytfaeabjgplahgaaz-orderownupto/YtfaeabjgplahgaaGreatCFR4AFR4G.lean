/- The reference of order: Of, Place. -/
/- The reference of order: Root, Ancestors. -/
/- The reference of order: Contains, Common. -/
/- The reference of order: All. -/
/- The reference of order: Fault. -/
/- The reference of order: Cmp, Compare, Fault. -/
import Derived.Test.YtfaeabjgplahgaaGreatFRefN
import Derived.Test.YtfaeabjgplahgaaGreatCFConFTree
import Derived.Test.YtfaeabjgplahgaaGreatCFIntsFBegT
import Derived.Test.YtfaeabjgplahgaaGreatFRefM
import Derived.Deep.RegionLaw
import Derived.Test.YtfaeabjgplahgaaGreatCFRMade
import Derived.Test.YtfaeabjgplahgaaGreatCFStandFCmp
namespace Go.Proofs.YtfaeabjgplahgaaGreat
open Go.RowKit Go.Lib Go.Shelf

set_option maxRecDepth 100000 in
set_option maxHeartbeats 4000000 in
theorem refOf_at (b off cap j : Nat) (ns : List NodeD) (w W : World) (hF : FAt w b off cap ns) (hW : Below w.heap.size w W) (hj : j < ns.length) :
    Calls Tryz.prog 74 #[.agg #[.slice (some ⟨b, off, none⟩) ns.length cap], .int .i64 ((j : Int) + 1)] W fun e w' => ∃ L : Lists, e = .returned (nodeV ns[j] L) ∧ RdN w L.data ns[j].data ∧ RdA w L.attrs ns[j].attrs ∧ RdI w L.kids ns[j].kids ∧ Below W.heap.size W w' := by
  have hle := hF.len
  obtain ⟨L, hc, hd, ha, hk⟩ := hF.at_ j hj
  have hs := hW.size
  have hB : Below w.heap.size w ((W.alloc (.cells #[.slice (some ⟨b, off, none⟩) ns.length cap] 24)).alloc (.cells #[.int .u8 0, .string ⟨#[]⟩, .string ⟨#[]⟩, .string ⟨#[]⟩, .string ⟨#[]⟩, .string ⟨#[]⟩, .slice none 0 0, .slice none 0 0, .int .i64 0, .slice none 0 0, .int .i64 0, .int .i64 0, .int .i64 0, .int .u8 0, .bool false, .bool false] 49)) := (hW.alloc hs _).alloc (by simp; omega) _
  obtain ⟨c0, c1, c2, c3, c4, c5, c6, c7, c8, c9, c10, c11, c12, c13, c14, c15⟩ := hc.later hF.lt hB
  have Hd := hid hd
  have Ha := hid ha
  have Hk := hid hk
  obtain ⟨D, A, K⟩ := L
  obtain ⟨od, cd, e1, _⟩ := hd
  obtain ⟨oa, ca, e2, _⟩ := ha
  obtain ⟨ok, ck, e3, _⟩ := hk
  simp only at e1 e2 e3
  subst e1 e2 e3
  have q1 : (0 : Int) ≤ (j : Int) := by omega
  have q2 : (j : Int) < (ns.length : Int) := by omega
  clear hF hc hB hW hs
  generalize ns[j] = n at *
  go_enter Tryz.func74, Tryz.ntmps74
  go_wp2
  have hB2 : ∀ o2 : Obj, Below W.heap.size W ((W.alloc (.cells #[.slice (some ⟨b, off, none⟩) ns.length cap] 24)).alloc o2) := fun o2 => ((Below.refl _ W).alloc (Nat.le_refl _) _).alloc (by simp) _
  exact bodyPost_ret (v := nodeV n ⟨.slice od n.data.length cd, .slice oa n.attrs.length ca, .slice ok n.kids.length ck⟩) (by simp [results, Tryz.results74, go_sem, nodeV]) rfl ⟨⟨.slice od n.data.length cd, .slice oa n.attrs.length ca, .slice ok n.kids.length ck⟩, rfl, Hd.out, Ha.out, Hk.out, hB2 _⟩
theorem refOf_any (b off cap j : Nat) (ns : List NodeD) (w : World) (hF : FAt w b off cap ns) (hj : j < ns.length) :
    Calls Tryz.prog 74 #[.agg #[.slice (some ⟨b, off, none⟩) ns.length cap], .int .i64 ((j : Int) + 1)] w fun e w' => ∃ L : Lists, e = .returned (nodeV ns[j] L) ∧ RdN w' L.data ns[j].data ∧ RdA w' L.attrs ns[j].attrs ∧ RdI w' L.kids ns[j].kids ∧ Below w.heap.size w w' := by
  refine (refOf_at b off cap j ns w w hF (Below.refl _ _) hj).mono ?_
  rintro e w' ⟨L, rfl, h1, h2, h3, hb⟩
  exact ⟨L, rfl, h1.later hb, h2.later hb, h3.later hb, hb⟩

set_option maxRecDepth 100000 in
set_option maxHeartbeats 2000000 in
theorem refPlace_any (v : Value) (l : List Int) (x : Int) (w : World) (hv : RdI w v l) (hl : l.length ≤ 1099511627776) :
    Calls Tryz.prog 75 #[v, .int .i64 x] w fun e w' => e = .returned (.int .i64 (idxI l x 0)) ∧ w' = w := by
  obtain ⟨o, c, rfl, hc, g⟩ := hv
  obtain ⟨N, hN⟩ : ∃ N, idxI l x 0 = N := ⟨_, rfl⟩
  rw [hN]
  have HN : Hid (idxI (l.drop 0) x 0 = N) := hN
  clear hN
  go_enter Tryz.func75, Tryz.ntmps75
  go_wp2
  go_loopw [5] (fun t wr => ∃ k : Nat, k ≤ l.length ∧ t = .int .i64 k ∧ wr = w ∧ Hid (idxI (l.drop k) x k = N)) (fun t _ => l.length - (RowKit.intOf t).toNat)
  case atStart => exact ⟨0, Nat.zero_le _, rfl, rfl, HN⟩
  case round =>
    obtain ⟨k, k1, rfl, rfl, hK⟩ := hrel
    by_cases hlt : k < l.length
    · obtain ⟨b, off, rfl, hlt1, ha⟩ := g (by omega)
      have x1 := ha k hlt
      have q1 : (0 : Int) ≤ (k : Int) := by omega
      have q2 : (k : Int) < (l.length : Int) := by omega
      have hk := hK.out
      rw [List.drop_eq_getElem_cons hlt, idxI] at hk
      have Hk := hid hk
      clear hk hK ha g
      generalize l[k] = a at *
      cases he : (a == x) with
      | true =>
        have hNk : N = (k : Int) := by
          rw [← Hk.out, he]
          rfl
        subst hNk
        clear Hk
        go_wp2
        go_ret
        exact ⟨rfl, rfl⟩
      | false =>
        have Hn : Hid (idxI (l.drop (k + 1)) x (k + 1) = N) := by
          have h := Hk.out
          rw [he, if_neg Bool.false_ne_true] at h
          exact h
        clear Hk
        go_wp2
        go_roundw
        case rel => exact ⟨k + 1, by omega, by go_num, trivial, Hn⟩
        case measure => simp [RowKit.intOf]; omega
    · have hNk : N = -1 := by
        rw [← hK.out, List.drop_eq_nil_of_le (by omega)]
        rfl
      subst hNk
      clear hK g
      go_wp2
      go_ret
      exact ⟨rfl, rfl⟩
end Go.Proofs.YtfaeabjgplahgaaGreat

namespace Go.Proofs.YtfaeabjgplahgaaGreat
open Go.RowKit Go.Lib Go.Shelf

/-- A node's parent, read out of its value. -/
theorem fld_parent (n : NodeD) (D A K : Value) (W : World) : Sem.run Tryz.prog (Instr.field 49 (.agg #[.int .u8 (n.kind : Int), .string n.space, .string n.pre, .string n.loc, .string n.pub, .string n.sys, D, A, .int .i64 n.parent, K, .int .i64 n.doc, .int .i64 n.host, .int .i64 n.shadow, .int .u8 (n.mode : Int), .bool n.manual, .bool n.html]) 6) W = .ok (.int .i64 n.parent) W := by kernel_rfl
theorem lastI_one (x : Int) : lastI [x] = x := rfl
theorem lastI_cons (x : Int) (l : List Int) (h : l ≠ []) : lastI (x :: l) = lastI l := lastI_append [x] l h

set_option maxRecDepth 100000 in
set_option maxHeartbeats 4000000 in
theorem refRoot4_any (b off cap : Nat) (x : Int) (ns : List NodeD) (w : World) (hR : RightF ns) (hF : FAt w b off cap ns) (hx : thereB ns.length x = true) :
    Calls Tryz.prog 38 #[.agg #[.slice (some ⟨b, off, none⟩) ns.length cap], .int .i64 x] w fun e w' => e = .returned (.int .i64 (lastI (pathUp ns (parentD ns) x))) ∧ Below w.heap.size w w' := by
  have HO : Hid (∀ (j : Nat) (hj : j < ns.length) (W : World), Below w.heap.size w W → _) := fun j hj W hW => refOf_any b off cap j ns W (hF.later hW) hj
  obtain ⟨R, hRR⟩ : ∃ R, lastI (pathUp ns (parentD ns) x) = R := ⟨_, rfl⟩
  rw [hRR]
  have HR : Hid (lastI (pathUp ns (parentD ns) x) = R) := hRR
  clear hRR hF
  go_enter Tryz.func38, Tryz.ntmps38
  go_wp2
  go_loopw [1] (fun t wr => ∃ y : Int, thereB ns.length y = true ∧ t = .int .i64 y ∧ Below (w.heap.size + 1) (w.alloc (.cells #[.slice (some ⟨b, off, none⟩) ns.length cap] 24)) wr ∧ Hid (lastI (pathUp ns (parentD ns) y) = R)) (fun t _ => (pathUp ns (parentD ns) (RowKit.intOf t)).length)
  case atStart => exact ⟨x, hx, rfl, Below.refl _ _, HR⟩
  case round =>
    obtain ⟨y, hy, rfl, hB, hr⟩ := hrel
    have hBw := bx_below hB
    have cb : wr.cell? ⟨w.heap.size, 0, none⟩ = some (.slice (some ⟨b, off, none⟩) ns.length cap) := (hB.cell (p := ⟨w.heap.size, 0, none⟩) (by show w.heap.size < w.heap.size + 1; omega)).trans (by simp)
    have hph := pathUp_head hR hy
    obtain ⟨j, hj, rfl⟩ := there_idx hy
    have hpt := hR.parent_there j hj
    rw [parentD_at ns j hj] at hph
    have hO := HO.out j hj wr hBw
    have HO2 : Hid (∀ W : World, Below w.heap.size w W → _) := fun W hW => HO.out j hj W hW
    have HPh := hid hph
    have HPt := hid hpt
    have HB := hid hB
    have HBw := hid hBw
    clear hph hpt hB hBw HR
    generalize ns[j] = n at *
    by_cases h0 : n.parent = 0
    · have hRj : R = (j : Int) + 1 := by
        have h1 := HPh.out
        rw [h0, pathUp_zero] at h1
        rw [← hr.out, h1]
        exact lastI_one _
      subst hRj
      have hne : (n.parent != 0) = false := by rw [h0]; rfl
      clear hr HPh HPt h0
      go_wp2_with fail
      refine hO.mono ?_
      rintro e v1 ⟨L, rfl, h1, h2, h3, hb1⟩
      obtain ⟨od, cd, oa, ca, ok, ck, rfl⟩ := lists_slices h1 h2 h3
      have HB1 := hid (HBw.out.trans (hb1.mono HBw.out.size))
      clear h1 h2 h3 hb1 hO
      unfold nodeV
      have hfl := fld_parent n (.slice od n.data.length cd) (.slice oa n.attrs.length ca) (.slice ok n.kids.length ck)
      go_wp2
      go_ret
      exact ⟨rfl, HB1.out⟩
    · have hne : (n.parent != 0) = true := by rw [bne, beq_eq_false_iff_ne.2 h0]; rfl
      have hpt : thereB ns.length n.parent = true := HPt.out.resolve_left h0
      have Hn : Hid (lastI (pathUp ns (parentD ns) n.parent) = R) := by
        show _ = _
        rw [← hr.out, HPh.out]
        exact (lastI_cons _ _ (hR.kidsHang.ne_nil hpt)).symm
      clear hr HPt
      go_wp2_with fail
      refine hO.mono ?_
      rintro e v1 ⟨L, rfl, h1, h2, h3, hb1⟩
      obtain ⟨od, cd, oa, ca, ok, ck, rfl⟩ := lists_slices h1 h2 h3
      have hs1 := HB.out.size
      simp only [World.size_alloc] at hs1
      have hB1 := HB.out.trans (hb1.mono hs1)
      have cb1 : v1.cell? ⟨w.heap.size, 0, none⟩ = some (.slice (some ⟨b, off, none⟩) ns.length cap) := (hB1.cell (p := ⟨w.heap.size, 0, none⟩) (by show w.heap.size < w.heap.size + 1; omega)).trans (by simp)
      have hO2 := HO2.out v1 (bx_below hB1)
      have HB1 := hid hB1
      clear h1 h2 h3 hb1 hO hB1 hs1
      unfold nodeV
      have hfl := fld_parent n (.slice od n.data.length cd) (.slice oa n.attrs.length ca) (.slice ok n.kids.length ck)
      go_wp2_with fail
      refine hO2.mono ?_
      rintro e v2 ⟨L, rfl, h1, h2, h3, hb2⟩
      obtain ⟨od, cd, oa, ca, ok, ck, rfl⟩ := lists_slices h1 h2 h3
      have hs1 := HB1.out.size
      simp only [World.size_alloc] at hs1
      have HB2 := hid (HB1.out.trans (hb2.mono hs1))
      clear h1 h2 h3 hb2 hO2 hs1
      unfold nodeV
      have hfl := fld_parent n (.slice od n.data.length cd) (.slice oa n.attrs.length ca) (.slice ok n.kids.length ck)
      go_wp2
      go_roundw
      case rel => exact ⟨_, hpt, rfl, HB2.out, Hn⟩
      case measure =>
        simp only [RowKit.intOf]
        rw [HPh.out]
        simp

set_option maxRecDepth 100000 in
set_option maxHeartbeats 4000000 in
theorem refAnc_any (b off cap : Nat) (x : Int) (ns : List NodeD) (w : World) (hR : RightF ns) (hF : FAt w b off cap ns) (hx : thereB ns.length x = true) :
    Calls Tryz.prog 39 #[.agg #[.slice (some ⟨b, off, none⟩) ns.length cap], .int .i64 x] w fun e w' => ∃ v, e = .returned v ∧ RdI w' v (pathUp ns (parentD ns) (parentD ns x)) ∧ Below w.heap.size w w' := by
  obtain ⟨i0, hi, hz0, hz1, hz2⟩ := info_parts info_int
  have HO : Hid (∀ (j : Nat) (hj : j < ns.length) (W : World), Below w.heap.size w W → _) := fun j hj W hW => refOf_any b off cap j ns W (hF.later hW) hj
  have hsmall := hR.small
  have hlen : (pathUp ns (parentD ns) x).length ≤ 4096 := Nat.le_trans (pathUp_len ns _ hR.parentOK hR.ends x (.inr hx)) hR.small
  rw [pathUp_head hR hx, List.length_cons] at hlen
  obtain ⟨P, hP⟩ : ∃ P, pathUp ns (parentD ns) (parentD ns x) = P := ⟨_, rfl⟩
  rw [hP] at hlen ⊢
  have HP : Hid ([] ++ pathUp ns (parentD ns) (parentD ns x) = P) := hP
  clear hP hF
  go_enter Tryz.func39, Tryz.ntmps39
  go_wp2
  go_loopw [1, 5] (fun t v wr => ∃ (y : Int) (done : List Int), thereB ns.length y = true ∧ t = .int .i64 y ∧ Below (w.heap.size + 1) (w.alloc (.cells #[.slice (some ⟨b, off, none⟩) ns.length cap] 24)) wr ∧ wr.ownsRow (w.heap.size + 1) 3 1 v done.length (done.map (Value.int .i64)) ∧ Hid (done ++ pathUp ns (parentD ns) (parentD ns y) = P)) (fun t _ _ => (pathUp ns (parentD ns) (RowKit.intOf t)).length)
  case atStart => exact ⟨x, [], hx, rfl, Below.refl _ _, World.ownsRow_nil _ _ _ _, HP⟩
  case round =>
    obtain ⟨y, done, hy, rfl, hB, hown, hr⟩ := hrel
    have hBw := bx_below hB
    have cb : wr.cell? ⟨w.heap.size, 0, none⟩ = some (.slice (some ⟨b, off, none⟩) ns.length cap) := (hB.cell (p := ⟨w.heap.size, 0, none⟩) (by show w.heap.size < w.heap.size + 1; omega)).trans (by simp)
    have hph := pathUp_head hR hy
    obtain ⟨j, hj, rfl⟩ := there_idx hy
    have hpt := hR.parent_there j hj
    rw [parentD_at ns j hj] at hph hr
    have hO := HO.out j hj wr hBw
    have HO2 : Hid (∀ W : World, Below w.heap.size w W → _) := fun W hW => HO.out j hj W hW
    have HPh := hid hph
    have HPt := hid hpt
    have HB := hid hB
    have HBw := hid hBw
    clear hph hpt hB hBw HP
    generalize ns[j] = n at *
    by_cases h0 : n.parent = 0
    · have hRj : P = done := by
        have h1 := hr.out
        rw [h0, pathUp_zero, List.append_nil] at h1
        exact h1.symm
      subst hRj
      have HOw := hid hown
      have hne : (n.parent != 0) = false := by rw [h0]; rfl
      clear hr HPh HPt hown h0
      go_wp2_with fail
      refine hO.mono ?_
      rintro e v1 ⟨L, rfl, h1, h2, h3, hb1⟩
      obtain ⟨od, cd, oa, ca, ok, ck, rfl⟩ := lists_slices h1 h2 h3
      have HB1 := hid (HBw.out.trans (hb1.mono HBw.out.size))
      have HOw1 := hid (ownsRow_later HOw.out hb1)
      clear h1 h2 h3 hb1 hO HOw
      unfold nodeV
      have hfl := fld_parent n (.slice od n.data.length cd) (.slice oa n.attrs.length ca) (.slice ok n.kids.length ck)
      go_wp2
      go_ret
      exact ⟨_, rfl, ownsRow_rdI HOw1.out, HB1.out⟩
    · have hne : (n.parent != 0) = true := by rw [bne, beq_eq_false_iff_ne.2 h0]; rfl
      have hpt : thereB ns.length n.parent = true := HPt.out.resolve_left h0
      have hr2 := hr.out
      rw [pathUp_head hR hpt] at hr2
      have Hn : Hid ((done ++ [n.parent]) ++ pathUp ns (parentD ns) (parentD ns n.parent) = P) := by
        show _ = _
        rw [List.append_assoc]
        exact hr2
      have hdl : done.length + 1 ≤ 4096 := by
        have := congrArg List.length hr2
        rw [List.length_append, List.length_cons] at this
        omega
      have HOw := hid hown
      clear hr hr2 HPt hown
      go_wp2_with fail
      refine hO.mono ?_
      rintro e v1 ⟨L, rfl, h1, h2, h3, hb1⟩
      obtain ⟨od, cd, oa, ca, ok, ck, rfl⟩ := lists_slices h1 h2 h3
      have hs1 := HB.out.size
      simp only [World.size_alloc] at hs1
      have hB1 := HB.out.trans (hb1.mono hs1)
      have cb1 : v1.cell? ⟨w.heap.size, 0, none⟩ = some (.slice (some ⟨b, off, none⟩) ns.length cap) := (hB1.cell (p := ⟨w.heap.size, 0, none⟩) (by show w.heap.size < w.heap.size + 1; omega)).trans (by simp)
      have hO2 := HO2.out v1 (bx_below hB1)
      have HB1 := hid hB1
      have HOw1 := hid (ownsRow_later HOw.out hb1)
      clear h1 h2 h3 hb1 hO hB1 hs1 HOw
      unfold nodeV
      have hfl := fld_parent n (.slice od n.data.length cd) (.slice oa n.attrs.length ca) (.slice ok n.kids.length ck)
      go_wp2_with fail
      refine hO2.mono ?_
      rintro e v2 ⟨L, rfl, h1, h2, h3, hb2⟩
      obtain ⟨od, cd, oa, ca, ok, ck, rfl⟩ := lists_slices h1 h2 h3
      have hs1 := HB1.out.size
      simp only [World.size_alloc] at hs1
      have HB2 := hid (HB1.out.trans (hb2.mono hs1))
      have hs2 := HB2.out.size
      simp only [World.size_alloc] at hs2
      have hown := ownsRow_later HOw1.out hb2
      clear h1 h2 h3 hb2 hO2 hs1 HOw1
      have m1 : done.length + 1 ≤ maxLen := Nat.le_trans hdl (by decide)
      have m2 : (done.length + 1) * 8 ≤ 140737488355328 := by omega
      have m3 : w.heap.size + 1 ≤ (v2.alloc (.cells #[.int .i64 n.parent] 3)).heap.size := by simp; omega
      unfold nodeV
      have hfl := fld_parent n (.slice od n.data.length cd) (.slice oa n.attrs.length ca) (.slice ok n.kids.length ck)
      go_wp2_with (at_builtin; refine wpList_append_own _ rfl _ _ 26 rfl (w.heap.size + 1) 3 i0 (.int .i64 0) 1 8 Tryz.underlying26 hi hz0 hz1 hz2 rfl (by decide) _ _ _ rfl (hown.alloc _) ⟨v2.heap.size, 0, none⟩ 1 1 [.int .i64 n.parent] rfl rfl (cell_one_new _ _ _) (by simp [Value.oneCell']) m1 m2 m3 ?_; intro v' w1 hown' hgrow _)
      have HB3 : Hid (Below (w.heap.size + 1) v2 w1) := ((Below.refl _ v2).alloc (by omega) _).grown hgrow m3 (fun j hj => (hown.lt j hj).1)
      go_roundw
      case rel => exact ⟨_, done ++ [n.parent], hpt, rfl, HB2.out.trans HB3.out, by simpa using hown', Hn⟩
      case measure =>
        simp only [RowKit.intOf]
        rw [HPh.out]
        simp
end Go.Proofs.YtfaeabjgplahgaaGreat

namespace Go.Proofs.YtfaeabjgplahgaaGreat
open Go.RowKit Go.Lib Go.Shelf

theorem contains_parts {ns : List NodeD} (hR : RightF ns) (a : Int) {b : Int} (hb : thereB ns.length b = true) : containsD ns a b = (a == b || decide (0 ≤ idxI (pathUp ns (parentD ns) (parentD ns b)) a 0)) := by
  unfold containsD
  rw [pathUp_head hR hb, idxI_in, List.contains_cons]
  congr 1
  exact List.contains_eq_mem _ _
theorem forkN_short : ∀ (u t q : List Int), forkN (u ++ t) q ≤ u.length → forkN (u ++ t) q = forkN u q
  | [], t, q, h => by
    have : forkN [] q = 0 := by cases q <;> rfl
    rw [this]
    simpa using h
  | x :: u, t, [], _ => rfl
  | x :: u, t, y :: q, h => by
    rw [List.cons_append, forkN] at h ⊢
    rw [forkN]
    by_cases hxy : (x == y) = true
    · rw [if_pos hxy] at h ⊢
      rw [if_pos hxy]
      rw [List.length_cons] at h
      rw [forkN_short u t q (by omega)]
    · rw [if_neg hxy, if_neg hxy]
theorem pathD_step {ns : List NodeD} (hR : RightF ns) {y : Int} (hy : thereB ns.length y = true) : pathD ns y = pathD ns (parentD ns y) ++ [y] := by
  unfold pathD
  rw [pathUp_head hR hy, List.reverse_cons]
theorem common_here {ns : List NodeD} (hR : RightF ns) {y b : Int} (hy : thereB ns.length y = true) (hb : thereB ns.length b = true) (hc : containsD ns y b = true) : commonD ns y b = y := by
  obtain ⟨pre, hp⟩ := hR.kidsHang.suf hb ((contains_mem ns y b).1 hc)
  have hD : pathD ns b = pathD ns y ++ pre.reverse := by unfold pathD; rw [hp, List.reverse_append]
  obtain ⟨l0, l1⟩ := pathD_last hR hy
  have hf : forkN (pathD ns y) (pathD ns b) = (pathD ns y).length := by
    have := forkN_append (pathD ns y) [] pre.reverse
    rw [List.append_nil] at this
    rw [hD, this]
    have : forkN [] pre.reverse = 0 := by cases pre.reverse <;> rfl
    rw [this, Nat.add_zero]
  unfold commonD
  rw [hf, l1, if_neg]
  intro h
  have := eq_of_beq h
  omega
theorem common_step {ns : List NodeD} (hR : RightF ns) {y b : Int} (hy : thereB ns.length y = true) (hc : containsD ns y b = false) : commonD ns y b = commonD ns (parentD ns y) b := by
  have hs := pathD_step hR hy
  have hlt : forkN (pathD ns y) (pathD ns b) ≤ (pathD ns (parentD ns y)).length := by
    have h1 := (forkN_le (pathD ns y) (pathD ns b)).1
    have h2 : forkN (pathD ns y) (pathD ns b) ≠ (pathD ns y).length := fun h => by
      rw [contains_of_prefix hR hy h] at hc
      cases hc
    have h3 := congrArg List.length hs
    rw [List.length_append, List.length_singleton] at h3
    omega
  have hf : forkN (pathD ns y) (pathD ns b) = forkN (pathD ns (parentD ns y)) (pathD ns b) := by
    rw [hs] at hlt ⊢
    exact forkN_short _ _ _ hlt
  unfold commonD
  rw [hf] at hlt ⊢
  by_cases h0 : forkN (pathD ns (parentD ns y)) (pathD ns b) = 0
  · rw [h0]; rfl
  · rw [if_neg (by simpa using h0), if_neg (by simpa using h0), hs, List.getD_eq_getElem?_getD, List.getElem?_append_left (by omega), ← List.getD_eq_getElem?_getD]
theorem common_none (ns : List NodeD) (b : Int) : commonD ns 0 b = 0 := by
  have h0 : pathD ns 0 = [] := by unfold pathD; rw [pathUp_zero]; rfl
  have : forkN [] (pathD ns b) = 0 := by cases (pathD ns b) <;> rfl
  unfold commonD
  rw [h0, this]
  rfl

end Go.Proofs.YtfaeabjgplahgaaGreat

namespace Go.Proofs.YtfaeabjgplahgaaGreat
open Go.RowKit Go.Lib Go.Shelf

/-- A call of a function at a step of a region that draws its order. -/
theorem step_call {P : Program} (w : World) {ops : Array Oper} {o : Oper} {a : Act} {K : Act → World → Prop} {Q : Exit → Act → World → Prop} {E : Prop} (hgd : o.guard = none) (s x : Operand) (t tn : TypeId) (f : FuncId)
    (ho : o.op = .call { callee := .value (.func f), args := #[s, x], argTypes := #[t, tn] }) (vs vx : Value) (hs : a.eval s = vs) (hx : a.eval x = vx) (hE : (callFunc f #[vs, vx]).run P w = .ok (.enter f #[vs, vx]) w) (R : Ending → World → Prop)
    (hc : Calls P f #[vs, vx] w R) (h : ∀ e w', R e w' → ∃ v, e = .returned v ∧ K (a.put o.dst v) w') :
    if Region.wanted o (yielded ops a.tmps) = true then Oper.wp P o a w K Q else E := by
  have hw : Region.wanted o (yielded ops a.tmps) = true := by simp [Region.wanted, hgd]
  rw [if_pos hw]
  have hf : a.eval (.func f) = .func (.func f) #[] #[] := rfl
  unfold Oper.wp
  simp [execOp, ho, resolve, invoke, hs, hx, hf, hE, Deferred.ofValue]
  refine hc.mono ?_
  rintro e w' hR
  obtain ⟨v, rfl, hK⟩ := h e w' hR
  exact hK

/-- An append at a step of a region that draws its order. -/
theorem step_append_own {P : Program} (w : World) {ops : Array Oper} {o : Oper} {a : Act} {K : Act → World → Prop} {Q : Exit → Act → World → Prop} {E : Prop} (hgd : o.guard = none) (s x : Operand) (t : TypeId)
    (ho : o.op = .call { callee := .builtin .append, args := #[s, x], argTypes := #[t, t] })
    (base : Nat) (e : TypeId) (i : TypeInfo) (z : Value) (size bytes : Nat) (ht : P.underlying t = some (.slice e)) (hi : P.info? e = some i) (hz : i.zero = some z)
    (hsize : i.size = size) (hby : i.bytes = bytes) (hzs : z.cells.size = size) (hsz : 0 < size)
    (v : Value) (n : Nat) (xs : List Value) (hs : a.eval s = v) (hown : w.ownsRow base e size v n xs)
    (ad : Addr) (m c : Nat) (news : List Value) (hx : a.eval x = .slice (some ad) m c) (hl : news.length = m * size) (hnews : ∀ j u, news[j]? = some u → w.cell? (ad.add j) = some u) (h1 : ∀ u ∈ news, u.oneCell' = true)
    (h63 : n + m ≤ maxLen) (hbytes : (n + m) * bytes ≤ 140737488355328) (hbase : base ≤ w.heap.size)
    (h : ∀ v' w', w'.ownsRow base e size v' (n + m) (xs ++ news) → w.grownBy w' v.ownBlock → (v' = .slice none 0 0 ↔ v = .slice none 0 0 ∧ m = 0) → K (a.put o.dst v') w') :
    if Region.wanted o (yielded ops a.tmps) = true then Oper.wp P o a w K Q else E := by
  have hw : Region.wanted o (yielded ops a.tmps) = true := by simp [Region.wanted, hgd]
  rw [if_pos hw]
  exact wp_append_own w s x t ho base e i z size bytes ht hi hz hsize hby hzs hsz v n xs hs hown ad m c news hx hl hnews h1 h63 hbytes hbase h

/-- A node's kids, read out of its value. -/
theorem fld_kids (n : NodeD) (D A K : Value) (W : World) : Sem.run Tryz.prog (Instr.field 49 (.agg #[.int .u8 (n.kind : Int), .string n.space, .string n.pre, .string n.loc, .string n.pub, .string n.sys, D, A, .int .i64 n.parent, K, .int .i64 n.doc, .int .i64 n.host, .int .i64 n.shadow, .int .u8 (n.mode : Int), .bool n.manual, .bool n.html]) 7) W = .ok K W := by kernel_rfl
theorem enterAll (vs vx : Value) (w : World) : (callFunc 44 #[vs, vx]).run Tryz.prog w = .ok (.enter 44 #[vs, vx]) w := by kernel_rfl
theorem own_one (w : World) (B : Nat) (x : Int) (hB : B ≤ w.heap.size) : (w.alloc (.cells #[.int .i64 x] 3)).ownsRow B 3 1 (.slice (some ⟨w.heap.size, 0, none⟩) 1 1) 1 [Value.int .i64 x] :=
  ⟨rfl, .inr ⟨w.heap.size, 1, #[.int .i64 x], rfl, hB, heap_new w _, Nat.le_refl _, (by decide), rfl, rfl⟩⟩

theorem news_cells {w : World} {b off : Nat} {A : List Int} (h : ∀ (j : Nat) (hj : j < A.length), w.cell? ⟨b, off + j, none⟩ = some (.int .i64 A[j])) : ∀ (j : Nat) (u : Value), (A.map (Value.int .i64))[j]? = some u → w.cell? ((⟨b, off, none⟩ : Addr).add j) = some u := fun j u hj => by
  rw [List.getElem?_map] at hj
  obtain ⟨x, hx, rfl⟩ := Option.map_eq_some_iff.1 hj
  obtain ⟨hj', rfl⟩ := List.getElem?_eq_some_iff.1 hx
  have e : (⟨b, off, none⟩ : Addr).add j = ⟨b, off + j, none⟩ := by simp [Addr.add]
  rw [e]
  exact h j hj'
theorem news_one (A : List Int) : ∀ u ∈ A.map (Value.int .i64), u.oneCell' = true := fun u hu => by
  obtain ⟨x, _, rfl⟩ := List.mem_map.1 hu
  rfl

set_option maxRecDepth 100000 in
set_option maxHeartbeats 4000000 in
theorem refAll_step (b off cap j : Nat) (ns : List NodeD) (w : World) (hR : RightF ns) (hF : FAt w b off cap ns) (hj : j < ns.length) (hkl : ns[j].kids.length ≤ 1099511627776)
    (IH : Hid (∀ y ∈ ns[j].kids, ∀ W : World, Below w.heap.size w W → Calls Tryz.prog 44 #[.agg #[.slice (some ⟨b, off, none⟩) ns.length cap], .int .i64 y] W fun e w' => ∃ v, e = .returned v ∧ RdI w' v (allD ns y) ∧ Below W.heap.size W w')) :
    Calls Tryz.prog 44 #[.agg #[.slice (some ⟨b, off, none⟩) ns.length cap], .int .i64 ((j : Int) + 1)] w fun e w' => ∃ v, e = .returned v ∧ RdI w' v (allD ns ((j : Int) + 1)) ∧ Below w.heap.size w w' := by
  have HO : Hid (∀ (W : World), Below w.heap.size w W → _) := fun W hW => refOf_at b off cap j ns w W hF hW hj
  obtain ⟨i0, hi, hz0, hz1, hz2⟩ := info_parts info_int
  have hx : thereB ns.length ((j : Int) + 1) = true := by
    unfold thereB
    rw [decide_eq_true (by omega), decide_eq_true (by omega)]
    rfl
  have hkd : kidsD ns ((j : Int) + 1) = ns[j].kids := by unfold kidsD; rw [nodeOf_at ns j hj]
  have hT := all_cons hR hx
  rw [hkd] at hT
  have hlen : (allD ns ((j : Int) + 1)).length ≤ 4096 := Nat.le_trans (hR.kidsHang.below_len (ns.length + 1) _ hx (by omega)) hR.small
  have hpos : ∀ y ∈ ns[j].kids, 0 < (allD ns y).length := fun y hy => by
    rw [← hkd] at hy
    rw [all_cons hR (hR.kidsHang.down _ y hx hy).1]
    simp
  obtain ⟨T, hTT⟩ : ∃ T, allD ns ((j : Int) + 1) = T := ⟨_, rfl⟩
  rw [hTT] at hT hlen ⊢
  have HT : Hid ([(j : Int) + 1] ++ (ns[j].kids.drop 0).flatMap (allD ns) = T) := hT.symm
  have HP := hid hpos
  clear hF hT hTT hkd hx hpos hR
  have hB0 : Below w.heap.size w ((w.alloc (.cells #[.slice (some ⟨b, off, none⟩) ns.length cap] 24)).alloc (.cells #[.int .i64 ((j : Int) + 1)] 3)) := ((Below.refl _ w).alloc (Nat.le_refl _) _).alloc (by simp) _
  have hO := HO.out _ hB0
  have hr0 := own_one (w.alloc (.cells #[.slice (some ⟨b, off, none⟩) ns.length cap] 24)) (w.heap.size + 1) ((j : Int) + 1) (by simp)
  simp only [World.size_alloc] at hr0
  have HR0 := hid hr0
  have HB1' : Hid (Below (w.heap.size + 1) (w.alloc (.cells #[.slice (some ⟨b, off, none⟩) ns.length cap] 24)) ((w.alloc (.cells #[.slice (some ⟨b, off, none⟩) ns.length cap] 24)).alloc (.cells #[.int .i64 ((j : Int) + 1)] 3))) := (Below.refl _ _).alloc (by simp) _
  clear HO hB0 hr0
  generalize ns[j] = n at *
  go_enter Tryz.func44, Tryz.ntmps44
  go_wp2_with fail
  refine hO.mono ?_
  rintro e v1 ⟨L, rfl, h1, h2, h3, hb1⟩
  obtain ⟨od, cd, oa, ca, ok, ck, rfl⟩ := lists_slices h1 h2 h3
  have HR1 := hid (ownsRow_later HR0.out hb1)
  have HB1 := hid (HB1'.out.trans (hb1.mono (by simp)))
  have hfl := fld_kids n (.slice od n.data.length cd) (.slice oa n.attrs.length ca) (.slice ok n.kids.length ck)
  clear h1 h2 hb1 hO HR0 HB1'
  unfold nodeV
  obtain ⟨o3, c3, e3, hck, gk⟩ := h3
  simp only [Value.slice.injEq] at e3
  obtain ⟨rfl, -, rfl⟩ := e3
  generalize n.kids = ks at *
  go_wp2
  clear hfl
  go_loopw [5, 7] (fun v t wr => ∃ (k : Nat) (done : List Int), k ≤ ks.length ∧ t = .int .i64 k ∧ Below (w.heap.size + 1) (w.alloc (.cells #[.slice (some ⟨b, off, none⟩) ns.length cap] 24)) wr ∧ wr.ownsRow (w.heap.size + 1) 3 1 v done.length (done.map (Value.int .i64)) ∧ Hid (done ++ (ks.drop k).flatMap (allD ns) = T)) (fun _ t _ => ks.length - (RowKit.intOf t).toNat)
  case atStart => exact ⟨0, [(j : Int) + 1], Nat.zero_le _, rfl, HB1.out, HR1.out, HT⟩
  case round =>
    obtain ⟨k, done, hk, rfl, hB, hown, hr⟩ := hrel
    clear HT HR1 HB1
    have hBw := bx_below hB
    have hsb := bx_size hB
    by_cases hlt : k < ks.length
    · obtain ⟨bk, offk, rfl, hltk, hak⟩ := gk (by omega)
      have x1 := (hBw.cell (p := ⟨bk, offk + k, none⟩) hltk).trans (hak k hlt)
      have cb : wr.cell? ⟨w.heap.size, 0, none⟩ = some (.slice (some ⟨b, off, none⟩) ns.length cap) := (hB.cell (p := ⟨w.heap.size, 0, none⟩) (by show w.heap.size < w.heap.size + 1; omega)).trans (by simp)
      have q1 : (0 : Int) ≤ (k : Int) := by omega
      have q2 : (k : Int) < (ks.length : Int) := by omega
      have hrr := hr.out
      rw [List.drop_eq_getElem_cons hlt, List.flatMap_cons, ← List.append_assoc] at hrr
      have hI := IH.out ks[k] (List.getElem_mem hlt) wr.drew hBw.drew
      have hp1 := HP.out ks[k] (List.getElem_mem hlt)
      have hdl : done.length + (allD ns ks[k]).length ≤ 4096 := by
        have h := congrArg List.length hrr
        rw [List.length_append, List.length_append] at h
        omega
      have Hn := hid hrr
      have HB := hid hB
      have HOw := hid hown
      clear hrr hr hB hBw hak gk HP IH hown
      generalize allD ns ks[k] = A at *
      generalize ks[k] = a at *
      go_upto_region 6 with fail
      go_region_law (first
        | (refine step_call _ rfl (.tmp 21) (.tmp 25) 24 3 44 rfl (.agg #[.slice (some ⟨b, off, none⟩) ns.length cap]) (.int .i64 a) (by simp [Act.eval]) (by simp [Act.eval]) (enterAll _ _ _) _ hI ?_; rintro e v2 ⟨vv, rfl, hrd, hb2⟩; refine ⟨vv, rfl, ?_⟩; obtain ⟨o2, c2, rfl, hc2, g2⟩ := hrd; obtain ⟨b2, off2, rfl, hlt2, ha2⟩ := g2 hp1; have HB2 := hid (HB.out.drew.trans (hb2.mono hsb)); have hown2 := ownsRow_later HOw.out.drew hb2)
        | (refine step_append_own _ rfl (.tmp 20) (.tmp 26) 26 rfl (w.heap.size + 1) 3 i0 (.int .i64 0) 1 8 Tryz.underlying26 hi hz0 hz1 hz2 rfl (by decide) _ done.length (done.map (Value.int .i64)) (by simp [Act.eval]) hown2 ⟨b2, off2, none⟩ A.length c2 (A.map (Value.int .i64)) (by simp [Act.eval]) (by simp) (news_cells ha2) (news_one A) (Nat.le_trans hdl (by decide)) (by omega) (bx_size HB2.out) ?_; intro v' w1 hown' hgrow _))
      all_goals
        have HB3 : Hid (Below (w.heap.size + 1) v2 w1) := (Below.refl _ v2).grown hgrow (bx_size HB2.out) (fun j hj => (hown2.lt j hj).1)
        go_wp2
        go_roundw
        case rel => exact ⟨k + 1, done ++ A, by omega, by go_num, HB2.out.trans HB3.out, by simpa using hown', Hn⟩
        case measure => simp [RowKit.intOf]; omega
    · have hTd : T = done := by
        rw [← hr.out, List.drop_eq_nil_of_le (by omega), List.flatMap_nil, List.append_nil]
      subst hTd
      have HBw := hid hBw
      have HOw := hid hown
      clear hr hB hBw gk HP IH hown
      go_wp2
      go_ret
      exact ⟨_, rfl, ownsRow_rdI HOw.out, HBw.out⟩

theorem refAll_go (ns : List NodeD) (hR : RightF ns) (hkl : ∀ (i : Nat) (hi : i < ns.length), ns[i].kids.length ≤ 1099511627776) (b off cap : Nat) : ∀ (f : Nat) (x : Int) (w : World), FAt w b off cap ns → thereB ns.length x = true → ns.length < f + (pathUp ns (parentD ns) x).length →
    Calls Tryz.prog 44 #[.agg #[.slice (some ⟨b, off, none⟩) ns.length cap], .int .i64 x] w fun e w' => ∃ v, e = .returned v ∧ RdI w' v (allD ns x) ∧ Below w.heap.size w w'
  | 0, x, w, _, hx, hf => by
    have := hR.kidsHang.len hx
    omega
  | f + 1, x, w, hF, hx, hf => by
    obtain ⟨j, hj, rfl⟩ := there_idx hx
    refine refAll_step b off cap j ns w hR hF hj (hkl j hj) (fun y hy W hW => ?_)
    have hkd : kidsD ns ((j : Int) + 1) = ns[j].kids := by unfold kidsD; rw [nodeOf_at ns j hj]
    rw [← hkd] at hy
    refine refAll_go ns hR hkl b off cap f y W (hF.later hW) (hR.kidsHang.down _ y hx hy).1 ?_
    rw [hR.kidsHang.deep hx hy]
    omega
theorem refAll_any (b off cap : Nat) (x : Int) (ns : List NodeD) (w : World) (hR : RightF ns) (hF : FAt w b off cap ns) (hkl : ∀ (i : Nat) (hi : i < ns.length), ns[i].kids.length ≤ 1099511627776) (hx : thereB ns.length x = true) :
    Calls Tryz.prog 44 #[.agg #[.slice (some ⟨b, off, none⟩) ns.length cap], .int .i64 x] w fun e w' => ∃ v, e = .returned v ∧ RdI w' v (allD ns x) ∧ Below w.heap.size w w' := refAll_go ns hR hkl b off cap (ns.length + 1) x w hF hx (by omega)
end Go.Proofs.YtfaeabjgplahgaaGreat

namespace Go.Proofs.YtfaeabjgplahgaaGreat
open Go.RowKit Go.Lib Go.Shelf

set_option maxRecDepth 100000 in
set_option maxHeartbeats 4000000 in
theorem refFault_any (o : Option Addr) (cap : Nat) (v : Value) (l : List Int) (ns : List NodeD) (w : World) (hF : FRd w o cap ns) (hkl : ∀ (i : Nat) (hi : i < ns.length), ns[i].kids.length ≤ 1099511627776) (hal : ∀ (i : Nat) (hi : i < ns.length), ns[i].attrs.length ≤ 1099511627776) (hv : RdI w v l) (hl : l.length ≤ 1099511627776) :
    Calls Tryz.prog 34 #[.agg #[.slice o ns.length cap], v] w fun e w' => e = .returned (.int .i64 (toldE ns l)) ∧ Below w.heap.size w w' := by
  have HRt : Hid (∀ (W : World), Below w.heap.size w W → _) := fun W hW => refRight_any o cap ns W (hF.later hW) hkl hal
  obtain ⟨ol, cl, rfl, hcl, gl⟩ := hv
  have hle := hF.len
  have hB0 : Below (w.heap.size + 1) (w.alloc (.cells #[.slice o ns.length cap] 24)) (w.alloc (.cells #[.slice o ns.length cap] 24)) := Below.refl _ _
  have hRt := HRt.out _ (bx_below hB0)
  have HB0 := hid hB0
  clear HRt hF hkl hal hB0
  unfold toldE
  cases hr : rightD ns with
  | false =>
    rw [if_neg Bool.false_ne_true]
    rw [hr] at hRt
    go_enter Tryz.func34, Tryz.ntmps34
    go_wp2_with fail
    refine hRt.mono ?_
    rintro e v1 ⟨rfl, hb1⟩
    have HB1 := hid (HB0.out.trans (hb1.mono (by simp)))
    clear hRt hb1
    go_wp2
    go_ret
    exact ⟨rfl, bx_below HB1.out⟩
  | true =>
    rw [if_pos rfl]
    rw [hr] at hRt
    obtain ⟨R, hRR⟩ : ∃ R : Int, (if l.all (thereB ns.length) = true then (0 : Int) else 2) = R := ⟨_, rfl⟩
    rw [hRR]
    have HR : Hid ((if (l.drop 0).all (thereB ns.length) = true then (0 : Int) else 2) = R) := hRR
    clear hRR hr
    go_enter Tryz.func34, Tryz.ntmps34
    go_wp2_with fail
    refine hRt.mono ?_
    rintro e v1 ⟨rfl, hb1⟩
    have HB1 := hid (HB0.out.trans (hb1.mono (by simp)))
    clear hRt hb1 HB0
    go_wp2
    go_loopw [5] (fun t wr => ∃ k : Nat, k ≤ l.length ∧ t = .int .i64 k ∧ Below (w.heap.size + 1) (w.alloc (.cells #[.slice o ns.length cap] 24)) wr ∧ Hid ((if (l.drop k).all (thereB ns.length) = true then (0 : Int) else 2) = R)) (fun t _ => l.length - (RowKit.intOf t).toNat)
    case atStart => exact ⟨0, Nat.zero_le _, rfl, HB1.out, HR⟩
    case round =>
      obtain ⟨k, hk, rfl, hB, hK⟩ := hrel
      clear HR HB1
      have hBw := bx_below hB
      by_cases hlt : k < l.length
      · obtain ⟨b2, off2, rfl, hlt2, ha2⟩ := gl (by omega)
        have x1 := (hBw.cell (p := ⟨b2, off2 + k, none⟩) hlt2).trans (ha2 k hlt)
        have cb : wr.cell? ⟨w.heap.size, 0, none⟩ = some (.slice o ns.length cap) := (hB.cell (p := ⟨w.heap.size, 0, none⟩) (by show w.heap.size < w.heap.size + 1; omega)).trans (by simp)
        have q1 : (0 : Int) ≤ (k : Int) := by omega
        have q2 : (k : Int) < (l.length : Int) := by omega
        have hk2 := hK.out
        rw [List.drop_eq_getElem_cons hlt, List.all_cons] at hk2
        have HB := hid hB
        clear hK gl ha2 hB hBw
        generalize l[k] = z at *
        by_cases z1 : z < 1
        · have d1 : decide (z < 1) = true := decide_eq_true z1
          have hR2 : R = 2 := by
            rw [← hk2]
            unfold thereB
            rw [decide_eq_false (by omega : ¬ 1 ≤ z)]
            rfl
          subst hR2
          clear hk2
          go_upto_region 6 with fail
          go_quiet (fail)
          go_wp2
          go_ret
          exact ⟨rfl, bx_below (HB.out.trans (drewN_below _ _ _))⟩
        · have d1 : decide (z < 1) = false := decide_eq_false z1
          by_cases z2 : (ns.length : Int) < z
          · have d2 : decide ((ns.length : Int) < z) = true := decide_eq_true z2
            have hR2 : R = 2 := by
              rw [← hk2]
              unfold thereB
              rw [decide_eq_false (by omega : ¬ z ≤ (ns.length : Int)), Bool.and_false]
              rfl
            subst hR2
            clear hk2
            go_upto_region 6 with fail
            go_quiet (fail)
            go_wp2
            go_ret
            exact ⟨rfl, bx_below (HB.out.trans (drewN_below _ _ _))⟩
          · have d2 : decide ((ns.length : Int) < z) = false := decide_eq_false z2
            have ht : thereB ns.length z = true := by
              unfold thereB
              rw [decide_eq_true (by omega), decide_eq_true (by omega)]
              rfl
            rw [ht, Bool.true_and] at hk2
            have Hn := hid hk2
            clear hk2 ht
            go_upto_region 6 with fail
            go_quiet (fail)
            go_wp2
            go_roundw
            case rel => exact ⟨k + 1, by omega, by go_num, HB.out.trans (drewN_below _ _ _), Hn⟩
            case measure => simp [RowKit.intOf]; omega
      · have hRR : R = 0 := by
          rw [← hK.out, List.drop_eq_nil_of_le (by omega)]
          rfl
        subst hRR
        have HBw := hid hBw
        clear hK gl hB hBw
        go_wp2
        go_ret
        exact ⟨rfl, HBw.out⟩
end Go.Proofs.YtfaeabjgplahgaaGreat

namespace Go.Proofs.YtfaeabjgplahgaaGreat
open Go.RowKit Go.Lib Go.Shelf

theorem enterRoot4 (vs vx : Value) (w : World) : (callFunc 38 #[vs, vx]).run Tryz.prog w = .ok (.enter 38 #[vs, vx]) w := by kernel_rfl
theorem cmp_out {ns : List NodeD} (hR : RightF ns) {x y : Int} (hx : thereB ns.length x = true) (hy : thereB ns.length y = true) (h : y ∉ allD ns (lastI (pathUp ns (parentD ns) x))) : standD ns x y = (0, false) ∧ idxI (allD ns (lastI (pathUp ns (parentD ns) x))) y 0 = -1 := by
  obtain ⟨s1, s2⟩ := stand_one hR hx hy
  have h2 : (standD ns x y).2 = false := by
    rw [s1, beq_eq_false_iff_ne]
    exact fun e => h ((in_tree hR hx hy).2 e)
  exact ⟨Prod.ext (s2 h2) h2, idxI_none _ _ _ h⟩
theorem cmp_in {ns : List NodeD} (hR : RightF ns) {x y : Int} (hx : thereB ns.length x = true) (h : y ∈ allD ns (lastI (pathUp ns (parentD ns) x))) : standD ns x y = (cmpI (idxI (allD ns (lastI (pathUp ns (parentD ns) x))) x 0) (idxI (allD ns (lastI (pathUp ns (parentD ns) x))) y 0), true) ∧ 0 ≤ idxI (allD ns (lastI (pathUp ns (parentD ns) x))) y 0 := by
  obtain ⟨r1, _, _⟩ := root_up hR _ x (Nat.le_refl _) hx
  have hx' : x ∈ allD ns (lastI (pathUp ns (parentD ns) x)) := (in_tree hR hx hx).2 rfl
  rw [stand_idx hR (ns.length + 1) _ r1 (by omega) x hx' y h, idxI_idx _ _ _ hx', idxI_idx _ _ _ h, Nat.zero_add, Nat.zero_add]
  exact ⟨rfl, by omega⟩

end Go.Proofs.YtfaeabjgplahgaaGreat
