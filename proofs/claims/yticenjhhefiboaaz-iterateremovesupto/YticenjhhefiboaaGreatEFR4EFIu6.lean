/- The reference of order: Cmp, Compare, Fault. -/
/- The node ahead of one in the order of its tree (plain). -/
/- Going up, ranged over, each one a node. -/
/- The node behind one in the order of its tree (siblingBehind, behind). -/
/- The calls of order that ask one handle: All. -/
/- above, lengthOf, ahead. -/
/- lengthOf. -/
/- ahead. -/
/- The calls of order that ask one handle: Index, Length, Prev. -/
/- The reference of order: Index, Data, Length, Beside. -/
/- What becomes of an iterator when a node is removed, as the program has it and as the document has it: plain. -/
/- The node ahead of one that is removed, and where an iterator comes to stand: plain. -/
/- The reference of iterate: what becomes of an iterator when a node is about to be removed (canopyref14.removing), way by way. -/
/- The reference of iterate: what becomes of an iterator when a node is about to be removed (canopyref14.removing): as the program has it. -/
/- The reference of iterate: Removing; the walk of IterateRemoves. -/
import Derived.Test.YticenjhhefiboaaGreatEFUpFR4D
import Derived.Test.YticenjhhefiboaaGreatEFRMade
import Derived.Deep.DeepCutAuto
import Derived.Test.YticenjhhefiboaaGreatEFWkGFItR
import Derived.Test.YticenjhhefiboaaGreatEFItCFItT
import Derived.Test.YticenjhhefiboaaGreatEFWk8FItW
namespace Go.Proofs.YticenjhhefiboaaGreat
open Go.RowKit Go.Lib Go.Shelf

end Go.Proofs.YticenjhhefiboaaGreat

namespace Go.Proofs.YticenjhhefiboaaGreat
open Go.RowKit Go.Lib Go.Shelf

end Go.Proofs.YticenjhhefiboaaGreat

namespace Go.Proofs.YticenjhhefiboaaGreat
open Go.RowKit Go.Lib Go.Shelf

end Go.Proofs.YticenjhhefiboaaGreat

namespace Go.Proofs.YticenjhhefiboaaGreat
open Go.RowKit Go.Lib Go.Shelf
attribute [local go_sem] Oper.semAt_some

end Go.Proofs.YticenjhhefiboaaGreat

namespace Go.Proofs.YticenjhhefiboaaGreat
open Go.RowKit Go.Lib Go.Shelf

end Go.Proofs.YticenjhhefiboaaGreat

namespace Go.Proofs.YticenjhhefiboaaGreat
open Go.RowKit Go.Lib Go.Shelf

end Go.Proofs.YticenjhhefiboaaGreat

namespace Go.Proofs.YticenjhhefiboaaGreat
open Go.RowKit Go.Lib Go.Shelf

end Go.Proofs.YticenjhhefiboaaGreat

namespace Go.Proofs.YticenjhhefiboaaGreat
open Go.RowKit Go.Lib Go.Shelf

end Go.Proofs.YticenjhhefiboaaGreat

namespace Go.Proofs.YticenjhhefiboaaGreat
open Go.RowKit Go.Lib Go.Shelf

end Go.Proofs.YticenjhhefiboaaGreat

namespace Go.Proofs.YticenjhhefiboaaGreat
open Go.RowKit Go.Lib Go.Shelf

set_option maxRecDepth 100000 in
set_option maxHeartbeats 4000000 in
theorem refIndex_any (b off cap : Nat) (x : Int) (ns : List NodeD) (w : World) (hR : RightF ns) (hF : FAt w b off cap ns) (hx : thereB ns.length x = true) (hkl : ∀ (i : Nat) (hi : i < ns.length), ns[i].kids.length ≤ 1099511627776) :
    Calls Tryz.prog 65 #[.agg #[.slice (some ⟨b, off, none⟩) ns.length cap], .int .i64 x] w fun e w' => e = .returned (.int .i64 (indexD ns x)) ∧ Below w.heap.size w w' := by
  have HX : Hid (∀ v1 : World, Below (w.heap.size + 1) (w.alloc (.cells #[.slice (some ⟨b, off, none⟩) ns.length cap] 24)) v1 → v1.cell? ⟨w.heap.size, 0, none⟩ = some (.slice (some ⟨b, off, none⟩) ns.length cap)) := fun v1 hB1 => (hB1.cell (p := ⟨w.heap.size, 0, none⟩) (by show w.heap.size < w.heap.size + 1; omega)).trans (by simp)
  have hB0 : Below (w.heap.size + 1) (w.alloc (.cells #[.slice (some ⟨b, off, none⟩) ns.length cap] 24)) (w.alloc (.cells #[.slice (some ⟨b, off, none⟩) ns.length cap] 24)) := Below.refl _ _
  have HO : Hid (∀ (k : Nat) (hk : k < ns.length) (W : World), Below w.heap.size w W → _) := fun k hk W hW => refOf_any b off cap k ns W (hF.later hW) hk
  have hpt : parentD ns x = 0 ∨ thereB ns.length (parentD ns x) = true := by
    by_cases hp : parentD ns x = 0
    · exact .inl hp
    · exact .inr (hR.kidsHang.up_there hx hp)
  obtain ⟨j, hj, rfl⟩ := there_idx hx
  have hO := HO.out j hj _ (bx_below hB0)
  unfold indexD
  rw [parentD_at ns j hj] at hpt ⊢
  have HB0 := hid hB0
  clear hF hR hx hB0
  generalize ns[j] = n at *
  by_cases h0 : n.parent = 0
  · rw [h0, show ((0 : Int) == 0) = true from rfl, if_pos rfl]
    have hne : (n.parent == 0) = true := by rw [h0]; rfl
    clear hpt h0
    go_enter Tryz.func65, Tryz.ntmps65
    go_wp2_with fail
    refine hO.mono ?_
    rintro e v1 ⟨L, rfl, h1, h2, h3, hb1⟩
    obtain ⟨od, cd, oa, ca, ok, ck, rfl⟩ := lists_slices h1 h2 h3
    have HB1 := hid (HB0.out.trans (hb1.mono (by simp)))
    clear h1 h2 h3 hb1 hO
    unfold nodeV
    have hfl := fld_parent n (.slice od n.data.length cd) (.slice oa n.attrs.length ca) (.slice ok n.kids.length ck)
    go_wp2
    go_ret
    exact ⟨rfl, bx_below HB1.out⟩
  · have hne : (n.parent == 0) = false := beq_eq_false_iff_ne.2 h0
    rw [hne, if_neg Bool.false_ne_true]
    obtain ⟨i, hi, hpi⟩ := there_idx (hpt.resolve_left h0)
    have hkd : kidsD ns n.parent = ns[i].kids := by rw [hpi]; unfold kidsD; rw [nodeOf_at ns i hi]
    rw [hkd]
    have HO2 : Hid (∀ (W : World), Below w.heap.size w W → _) := fun W hW => HO.out i hi W hW
    have hl := hkl i hi
    clear hkd hpt h0 HO hkl
    generalize ns[i] = n2 at *
    obtain ⟨N, hN⟩ : ∃ N, idxI n2.kids ((j : Int) + 1) 0 = N := ⟨_, rfl⟩
    rw [hN]
    have HN := hid hN
    clear hN
    go_enter Tryz.func65, Tryz.ntmps65
    go_wp2_with fail
    refine hO.mono ?_
    rintro e v1 ⟨L, rfl, h1, h2, h3, hb1⟩
    obtain ⟨od, cd, oa, ca, ok, ck, rfl⟩ := lists_slices h1 h2 h3
    have hB1 := HB0.out.trans (hb1.mono (by simp))
    have cb1 := HX.out v1 hB1
    have hO2 := HO2.out v1 (bx_below hB1)
    have HB1 := hid hB1
    clear h1 h2 h3 hb1 hO hB1 HO2
    unfold nodeV
    have hfl := fld_parent n (.slice od n.data.length cd) (.slice oa n.attrs.length ca) (.slice ok n.kids.length ck)
    rw [hpi] at hfl hne
    go_wp2_with fail
    refine hO2.mono ?_
    rintro e v2 ⟨L, rfl, h1, h2, h3, hb2⟩
    have hP := refPlace_any L.kids n2.kids ((j : Int) + 1) v2 h3 hl
    rw [HN.out] at hP
    obtain ⟨od, cd, oa, ca, ok, ck, rfl⟩ := lists_slices h1 h2 h3
    have HB2 := hid (HB1.out.trans (hb2.mono (bx_size HB1.out)))
    clear h1 h2 h3 hb2 hO2 hfl
    unfold nodeV
    have hfl := fld_kids n2 (.slice od n2.data.length cd) (.slice oa n2.attrs.length ca) (.slice ok n2.kids.length ck)
    go_wp2_with fail
    refine hP.mono ?_
    rintro e v3 ⟨rfl, e3⟩
    have e3 := e3.symm
    subst e3
    clear hP hfl
    go_wp2
    go_ret
    exact ⟨rfl, bx_below HB2.out⟩

end Go.Proofs.YticenjhhefiboaaGreat

namespace Go.Proofs.YticenjhhefiboaaGreat
open Go.RowKit Go.Lib

section
variable {ns : List NodeD} {root node : Int}
theorem mark_new (N : Nat) (l : List Int) (x : Int) (h0 : 0 ≤ x) (hx : x.toNat < N) (hl : ∀ y ∈ l, (0 : Int) ≤ y) : (markL (List.replicate N false) l).getD x.toNat false = decide (x ∈ l) := by
  rw [markL_get l _ _ (by rw [List.length_replicate]; exact hx) hl, show ((x.toNat : Nat) : Int) = x by omega]
  have : (List.replicate N false).getD x.toNat false = false := by
    rw [List.getD_eq_getElem?_getD, List.getElem?_replicate]
    split <;> rfl
  rw [this, Bool.false_or]
theorem there_nat {n : Nat} {x : Int} (h : thereB n x = true) : 0 ≤ x ∧ x.toNat < n + 1 := by
  obtain ⟨i, hi, rfl⟩ := there_idx h
  omega
/-- Which nodes lie within the one that is removed. -/
theorem within_at (h : RightF ns) (hn : thereB ns.length node = true) {x : Int} (hx : thereB ns.length x = true) : (withinL ns node).getD x.toNat false = decide (node ∈ pathUp ns (parentD ns) x) := by
  unfold withinL
  have hm := fun y => h.kidsHang.below_iff (ns.length + 1) node y hn (by omega)
  rw [mark_new _ _ x (there_nat hx).1 (there_nat hx).2 (fun y hy => (there_nat ((hm y).1 hy).1).1)]
  by_cases hp : node ∈ pathUp ns (parentD ns) x
  · rw [decide_eq_true hp, decide_eq_true ((hm x).2 ⟨hx, hp⟩)]
  · rw [decide_eq_false hp, decide_eq_false (fun hb => hp ((hm x).1 hb).2)]
theorem endPath_sub (s : Int → Int) : ∀ (l : List Int) (y : Int), y ∈ endPath s l → y ∈ l
  | [], _, h => by cases h
  | z :: l, y, h => by
    unfold endPath at h
    split at h
    · rcases List.mem_cons.1 h with rfl | h
      · exact List.mem_cons_self ..
      · exact List.mem_cons_of_mem _ (endPath_sub s l y h)
    · rw [List.mem_singleton.1 h]
      exact List.mem_cons_self ..
theorem scan_end (s : Int → Int) (r : Int) : ∀ l : List Int, r ∈ l → (r ∈ endPath s l ↔ scanB r s l = 0) ∧ (r ∉ endPath s l → scanN s l = scanB r s l)
  | [], h => by cases h
  | y :: l, h => by
    unfold endPath scanN scanB
    by_cases hy : y = r
    · have e : (y == r) = true := beq_iff_eq.2 hy
      rw [e, if_pos rfl, ← hy]
      have hin : y ∈ (if (s y == 0) = true then y :: endPath s l else [y]) := by split <;> exact List.mem_cons_self ..
      exact ⟨⟨fun _ => rfl, fun _ => hin⟩, fun hn => absurd hin hn⟩
    · have e : (y == r) = false := beq_eq_false_iff_ne.2 hy
      have hr : r ∈ l := (List.mem_cons.1 h).resolve_left (fun e => hy e.symm)
      rw [e, if_neg Bool.false_ne_true]
      by_cases h0 : s y = 0
      · have e0 : (s y == 0) = true := beq_iff_eq.2 h0
        rw [e0, if_pos rfl, if_pos rfl, if_pos rfl]
        obtain ⟨a, b⟩ := scan_end s r l hr
        refine ⟨⟨fun hm => a.1 ((List.mem_cons.1 hm).resolve_left (fun e => hy e.symm)), fun hz => List.mem_cons_of_mem _ (a.2 hz)⟩, fun hn => b (fun hm => hn (List.mem_cons_of_mem _ hm))⟩
      · have e0 : (s y == 0) = false := beq_eq_false_iff_ne.2 h0
        rw [e0, if_neg Bool.false_ne_true, if_neg Bool.false_ne_true, if_neg Bool.false_ne_true]
        exact ⟨⟨fun hm => absurd (List.mem_singleton.1 hm).symm hy, fun hz => absurd hz h0⟩, fun _ => rfl⟩
/-- Which of those above the node have nothing behind it. -/
theorem ended_at (h : RightF ns) (hn : thereB ns.length node = true) (hr : thereB ns.length root = true) (hin : root ∈ pathUp ns (parentD ns) node) : (endedL ns node).getD root.toNat false = decide ((tourA ns root false).over node = 0) ∧ ((tourA ns root false).over node ≠ 0 → nextR ns node = (tourA ns root false).over node) := by
  unfold endedL nextR
  rw [mark_new _ _ root (there_nat hr).1 (there_nat hr).2 (fun y hy => (there_nat (pathUp_mem h hn (endPath_sub _ _ _ hy)).1).1)]
  obtain ⟨a, b⟩ := scan_end (nextH (parentD ns) (kidsD ns)) root (pathUp ns (parentD ns) node) hin
  have ho := scan_over h hr _ node (Nat.le_refl _) hn
  rw [ho] at a b
  refine ⟨?_, fun h0 => b (fun hm => h0 (a.1 hm))⟩
  by_cases h0 : (tourA ns root false).over node = 0
  · rw [decide_eq_true h0, decide_eq_true (a.2 h0)]
  · rw [decide_eq_false h0, decide_eq_false (fun hm => h0 (a.1 hm))]
theorem seen_all (x : Int) : (tourA ns root false).seen true x = allA ns x := seenA (ns := ns) (root := root) (ns.length + 1) x
/-- Behind all within a node comes what is over. -/
theorem drop_all (h : RightF ns) (hr : thereB ns.length root = true) (hn : thereB ns.length node = true) (hin : root ∈ pathUp ns (parentD ns) node) : (allA ns root).drop ((aheadA ns root node).length + (allA ns node).length) = (tourA ns root false).fromL ((tourA ns root false).over node) := by
  have hi : (tourA ns root false).inn node := hin
  rw [← TourD.tail_over (tourA_ok h hr false) _ node (Nat.le_refl _) hn hi, all_parts h hr hn hin]
  have hb : node :: afterA ns root node = allA ns node ++ (tourA ns root false).tail node := by
    unfold afterA TourD.behind
    rw [show allA ns node = node :: (kidsD ns node).flatMap (belowF (kidsD ns) (ns.length + 1)) from h.kidsHang.consW hn]
    rw [List.cons_append]
    congr 2
    show (kidsD ns node).flatMap _ = _
    congr 1
    funext x
    exact seen_all x
  rw [hb, ← List.length_reverse, ← List.drop_drop, List.drop_left, List.drop_left]
theorem from_head {x : Int} (hx : x ≠ 0) : ∃ t, (tourA ns root false).fromL x = x :: t := by
  rw [TourD.from_some hx, seen_all]
  exact ⟨_, rfl⟩
theorem next_at (h : RightF ns) (hr : thereB ns.length root = true) (hn : thereB ns.length node = true) (hin : root ∈ pathUp ns (parentD ns) node) :
    ((tourA ns root false).over node = 0 → (allA ns root).length ≤ (aheadA ns root node).length + (allA ns node).length) ∧ ((tourA ns root false).over node ≠ 0 → ∃ hk : (aheadA ns root node).length + (allA ns node).length < (allA ns root).length, (allA ns root)[(aheadA ns root node).length + (allA ns node).length] = (tourA ns root false).over node) := by
  have hd := drop_all h hr hn hin
  refine ⟨fun h0 => ?_, fun h0 => ?_⟩
  · rw [h0, TourD.from_zero] at hd
    exact List.drop_eq_nil_iff.1 hd
  · obtain ⟨t, ht⟩ := from_head (ns := ns) (root := root) h0
    rw [ht] at hd
    by_cases hk : (aheadA ns root node).length + (allA ns node).length < (allA ns root).length
    · refine ⟨hk, ?_⟩
      rw [List.drop_eq_getElem_cons hk] at hd
      exact (List.cons.inj hd).1
    · rw [List.drop_eq_nil_iff.2 (by omega)] at hd
      cases hd
end
end Go.Proofs.YticenjhhefiboaaGreat

namespace Go.Proofs.YticenjhhefiboaaGreat
open Go.RowKit Go.Lib

section
variable {ns : List NodeD} {root ref node : Int} {bef : Bool}
theorem all_consI (h : RightF ns) {x : Int} (hx : thereB ns.length x = true) : allA ns x = x :: (kidsD ns x).flatMap (allA ns) := h.kidsHang.consW hx
theorem lastD_app (a b : List Int) (hb : b ≠ []) : (a ++ b).getLastD 0 = b.getLastD 0 := by
  obtain ⟨c, z, rfl⟩ : ∃ c z, b = c ++ [z] := ⟨_, _, (List.dropLast_concat_getLast hb).symm⟩
  rw [← List.append_assoc, List.getLastD_concat, List.getLastD_concat]
/-- The last one of all within a node. -/
theorem last_all (h : RightF ns) : ∀ (n : Nat) (x : Int), rankH ns (parentD ns) (revKids ns) x ≤ n → thereB ns.length x = true → lastA ns x = lastI (allA ns x) := by
  intro n
  induction n with
  | zero =>
    intro x hr hx
    by_cases hk : (kidsD ns x).length = 0
    · rw [lastA_end hk, all_consI h hx, List.eq_nil_of_length_eq_zero hk]
      rfl
    · have := (lastA_go h hx hk).2.2
      omega
  | succ n ih =>
    intro x hr hx
    by_cases hk : (kidsD ns x).length = 0
    · rw [lastA_end hk, all_consI h hx, List.eq_nil_of_length_eq_zero hk]
      rfl
    · obtain ⟨a, b, c⟩ := lastA_go h hx hk
      have hne : kidsD ns x ≠ [] := fun e => hk (by rw [e]; rfl)
      have hlast : (revKids ns x).headD 0 = (kidsD ns x).getLast hne := by
        unfold revKids
        rw [List.headD_eq_head?_getD, List.head?_reverse, List.getLast?_eq_some_getLast hne]
        rfl
      rw [a, ih _ (by omega) b, hlast, all_consI h hx]
      rw [hlast] at b
      have hsplit : kidsD ns x = (kidsD ns x).dropLast ++ [(kidsD ns x).getLast hne] := (List.dropLast_concat_getLast hne).symm
      have hfl : (kidsD ns x).flatMap (allA ns) = (kidsD ns x).dropLast.flatMap (allA ns) ++ allA ns ((kidsD ns x).getLast hne) := by
        conv => lhs; rw [hsplit]
        rw [List.flatMap_append, List.flatMap_singleton]
      unfold lastI
      rw [hfl, ← List.cons_append]
      exact (lastD_app _ _ (by rw [all_consI h b]; exact List.cons_ne_nil _ _)).symm
theorem kid_place (h : RightF ns) (hn : thereB ns.length node = true) (hp : parentD ns node ≠ 0) : ∃ j : Nat, j < (kidsD ns (parentD ns node)).length ∧ indexD ns node = (j : Int) ∧ node ∈ kidsD ns (parentD ns node) ∧ thereB ns.length (parentD ns node) = true := by
  obtain ⟨i, hi, rfl⟩ := there_idx hn
  have hpa := parentD_at ns i hi
  rcases h.hang i hi with h0 | ⟨k, hk, e, hm⟩
  · exact absurd (hpa.trans h0) hp
  · have hpk : parentD ns ((i : Int) + 1) = (k : Int) + 1 := hpa.trans e
    have hkd : kidsD ns ((k : Int) + 1) = ns[k].kids := by unfold kidsD; rw [nodeOf_at ns k hk]
    have hmem : ((i : Int) + 1) ∈ kidsD ns (parentD ns ((i : Int) + 1)) := by rw [hpk, hkd]; exact hm
    obtain ⟨j, hj, _, hx⟩ := idxI_of _ _ 0 hmem
    refine ⟨j, hj, ?_, hmem, by rw [hpk]; exact thereB_idx _ _ hk⟩
    unfold indexD
    rw [bfalse hp, if_neg Bool.false_ne_true, hx, Nat.zero_add]
theorem prev_at (h : RightF ns) (hn : thereB ns.length node = true) (hp : parentD ns node ≠ 0) : (indexD ns node = 0 → aheadC ns 0 node = parentD ns node) ∧ (∀ j : Nat, indexD ns node = (j : Int) + 1 → thereB ns.length ((kidsD ns (parentD ns node)).getD j 0) = true ∧ aheadC ns 0 node = lastI (allA ns ((kidsD ns (parentD ns node)).getD j 0))) := by
  obtain ⟨j, hj, hx, hm, hpt⟩ := kid_place h hn hp
  have hsd := (sib_dir h hn).2
  rw [bfalse hp, if_neg Bool.false_ne_true] at hsd
  have hidx : idxI (kidsD ns (parentD ns node)) node 0 = (j : Int) := by
    unfold indexD at hx
    rw [bfalse hp, if_neg Bool.false_ne_true] at hx
    exact hx
  unfold sibI at hsd
  rw [hidx] at hsd
  unfold aheadC
  rw [bfalse (there_ne hn), if_neg Bool.false_ne_true, hx]
  refine ⟨fun h0 => ?_, fun k hk => ?_⟩
  · rw [if_pos (by omega)] at hsd
    rw [← hsd]
    rfl
  · have hjk : j = k + 1 := by omega
    rw [if_neg (by omega), show ((j : Int) + -1).toNat = k by omega] at hsd
    have hk2 : k < (kidsD ns (parentD ns node)).length := by omega
    have hmk : (kidsD ns (parentD ns node)).getD k 0 ∈ kidsD ns (parentD ns node) := by
      rw [List.getD_eq_getElem?_getD, List.getElem?_eq_getElem hk2]
      exact List.getElem_mem hk2
    have hth : thereB ns.length ((kidsD ns (parentD ns node)).getD k 0) = true := by
      obtain ⟨p, hp2, e⟩ := there_idx hpt
      rw [e] at hmk ⊢
      have hkd : kidsD ns ((p : Int) + 1) = ns[p].kids := by unfold kidsD; rw [nodeOf_at ns p hp2]
      rw [hkd] at hmk ⊢
      obtain ⟨n, hn2, _⟩ := (h.kids p hp2).1 _ hmk
      obtain ⟨q, hq, e2, _⟩ := nodeOf_idx hn2
      rw [e2]
      exact thereB_idx _ _ hq
    refine ⟨hth, ?_⟩
    rw [← hsd, bfalse (there_ne hth), if_neg Bool.false_ne_true]
    exact last_all h _ _ (Nat.le_refl _) hth
/-- Of two nodes above a third one, one is above the other. -/
theorem on_path (h : RightF ns) (hx : thereB ns.length ref = true) (ha : root ∈ pathUp ns (parentD ns) ref) (hb : node ∈ pathUp ns (parentD ns) ref) (hn : node ∉ pathUp ns (parentD ns) root) : root ∈ pathUp ns (parentD ns) node := by
  obtain ⟨p, hp⟩ := h.kidsHang.suffix _ ref root (Nat.le_refl _) hx ha
  obtain ⟨q, hq⟩ := h.kidsHang.suffix _ ref node (Nat.le_refl _) hx hb
  have hrt := (pathUp_mem h hx ha).1
  have hnt := (pathUp_mem h hx hb).1
  have e : p ++ pathUp ns (parentD ns) root = q ++ pathUp ns (parentD ns) node := hp.symm.trans hq
  by_cases hl : p.length ≤ q.length
  · have hs := List.append_eq_append_iff.1 e
    rcases hs with ⟨a, h1, h2⟩ | ⟨c, h1, h2⟩
    · exfalso
      apply hn
      rw [h2, pathUp_head h hnt]
      exact List.mem_append_right _ (List.mem_cons_self ..)
    · have hc : c = [] := by
        have := congrArg List.length h1
        rw [List.length_append] at this
        exact List.eq_nil_of_length_eq_zero (by omega)
      rw [hc, List.nil_append] at h2
      rw [h2, pathUp_head h hrt]
      exact List.mem_cons_self ..
  · rcases List.append_eq_append_iff.1 e with ⟨a, h1, h2⟩ | ⟨c, h1, h2⟩
    · have := congrArg List.length h1
      rw [List.length_append] at this
      omega
    · rw [h2, pathUp_head h hrt]
      exact List.mem_append_right _ (List.mem_cons_self ..)
theorem parent_of (h : RightF ns) (hn : thereB ns.length node = true) (hin : root ∈ pathUp ns (parentD ns) node) (hne : node ≠ root) : parentD ns node ≠ 0 := by
  intro h0
  rw [pathUp_head h hn, h0] at hin
  rcases List.mem_cons.1 hin with e | e
  · exact hne e.symm
  · rw [pathUp_zero] at e
    cases e
/-- Where an iterator comes to stand, case by case. -/
theorem rem_out (h : RightF ns) (hn : thereB ns.length node = true) (hr : thereB ns.length root = true) (hx : thereB ns.length ref = true) (hc : containsD ns node ref = false ∨ containsD ns node root = true) : remR ns root ref bef node = (ref, bef) := by
  unfold remR followR
  rw [within_at h hn hx, within_at h hn hr]
  unfold containsD at hc
  simp only [List.contains_eq_mem] at hc
  rcases hc with hc | hc
  · rw [hc]
    rfl
  · rw [hc, Bool.or_true, if_pos rfl]
theorem rem_in (h : RightF ns) (hn : thereB ns.length node = true) (hr : thereB ns.length root = true) (hx : thereB ns.length ref = true) (hin : root ∈ pathUp ns (parentD ns) ref) (hc1 : containsD ns node ref = true) (hc2 : containsD ns node root = false) :
    root ∈ pathUp ns (parentD ns) node ∧ parentD ns node ≠ 0 ∧ remR ns root ref bef node = if bef && !decide ((tourA ns root false).over node = 0) then ((tourA ns root false).over node, bef) else (aheadC ns 0 node, false) := by
  unfold containsD at hc1 hc2
  simp only [List.contains_eq_mem, decide_eq_true_eq, decide_eq_false_iff_not] at hc1 hc2
  have hrn := on_path h hx hin hc1 hc2
  have hne : node ≠ root := fun e => hc2 (by rw [e, pathUp_head h hr]; exact List.mem_cons_self ..)
  refine ⟨hrn, parent_of h hn hrn hne, ?_⟩
  obtain ⟨e1, e2⟩ := ended_at h hn hr hrn
  unfold remR followR
  rw [within_at h hn hx, within_at h hn hr, decide_eq_true hc1, decide_eq_false hc2, e1]
  by_cases h0 : (tourA ns root false).over node = 0
  · rw [decide_eq_true h0]
    cases bef <;> rfl
  · rw [decide_eq_false h0, e2 h0]
    cases bef <;> rfl
end
end Go.Proofs.YticenjhhefiboaaGreat

namespace Go.Proofs.YticenjhhefiboaaGreat
open Go.RowKit Go.Lib Go.Shelf

theorem wrap_j (x : Int) (h1 : 0 ≤ x) (h2 : x ≤ 8192) : IntKind.i64.wrap x = x := by
  simp [IntKind.wrap, IntKind.signed, IntKind.bits]
  omega
theorem third5 {V : World} {g : Nat} {a b c d e : Value} {t : TypeId} (h : V.heap[g]? = some (.cells #[a, b, c, d, e] t)) (r : Value) : (V.setCell ⟨g, 2, none⟩ r).heap[g]? = some (.cells #[a, b, r, d, e] t) := by
  simp [World.setCell, Array.getElem?_modify, h]
theorem fld_par (n : NodeD) (D A K : Value) (W : World) : Sem.run Tryz.prog (Instr.field 83 (.agg #[.int .u8 (n.kind : Int), .string n.space, .string n.pre, .string n.loc, .string n.pub, .string n.sys, D, A, .int .i64 n.parent, K, .int .i64 n.doc, .int .i64 n.host, .int .i64 n.shadow, .int .u8 (n.mode : Int), .bool n.manual, .bool n.html]) 6) W = .ok (.int .i64 n.parent) W := by kernel_rfl
set_option maxRecDepth 100000 in
set_option maxHeartbeats 16000000 in
theorem remA (b off cap n : Nat) (root ref node : Int) (bef : Bool) (sh : Nat) (ro : Option Addr) (rl rc : Nat) (w : World)
    (C1 : ∀ W : World, Below w.heap.size w W → Calls Tryz.prog 27 #[.agg #[.slice (some ⟨b, off, none⟩) n cap], .int .i64 node, .int .i64 ref] W fun e w' => e = .returned (.bool false) ∧ Below W.heap.size W w') :
    Calls Tryz.prog 41 #[.agg #[.slice (some ⟨b, off, none⟩) n cap], .agg #[.int .i64 root, .int .i64 ref, .bool bef, .int .u32 (sh : Int), .slice ro rl rc], .int .i64 node] w fun e w' => e = .returned (.agg #[.int .i64 root, .int .i64 ref, .bool bef, .int .u32 (sh : Int), .slice ro rl rc]) ∧ Below w.heap.size w w' := by
  obtain ⟨bx, g0, g1, g2, sx⟩ := three_new w (.cells #[.slice (some ⟨b, off, none⟩) n cap] 24) (.cells #[.int .i64 root, .int .i64 ref, .bool bef, .int .u32 (sh : Int), .slice ro rl rc] 30) (.cells #[.int .i64 0, .int .i64 0, .bool false, .int .u32 0, .slice none 0 0] 30)
  have HB0 := hid bx
  have P0_0 := hid g0
  have P1_0 := hid g1
  have P2_0 := hid g2
  have c0a := (box_cell_l g0).1
  obtain ⟨⟨c1a, c2a, c3a, c4a, c5a⟩, _⟩ := box5I g1
  have HC1 := hid C1
  clear bx g0 g1 g2 sx C1
  go_enter Tryz.func41, Tryz.ntmps41
  go_upto_region 1 with fail
  generalize (((w.alloc (.cells #[.slice (some ⟨b, off, none⟩) n cap] 24)).alloc (.cells #[.int .i64 root, .int .i64 ref, .bool bef, .int .u32 (sh : Int), .slice ro rl rc] 30)).alloc (.cells #[.int .i64 0, .int .i64 0, .bool false, .int .u32 0, .slice none 0 0] 30)) = V0 at *
  go_wp2_with fail
  refine (HC1.out V0 HB0.out).mono ?_
  rintro e V1 ⟨rfl, hb⟩
  have HB1 := hid (HB0.out.trans (hb.mono HB0.out.size))
  have P0_1 := hid (keep_blk hb P0_0.out)
  have P1_1 := hid (keep_blk hb P1_0.out)
  have P2_1 := hid (keep_blk hb P2_0.out)
  clear hb HB0 P0_0 P1_0 P2_0 c0a c1a c2a c3a c4a c5a
  have c0a := (box_cell_l P0_1.out).1
  obtain ⟨⟨c1a, c2a, c3a, c4a, c5a⟩, _⟩ := box5I P1_1.out
  obtain ⟨_, w0, w1, w2, w3, w4⟩ := box5I P1_1.out
  obtain ⟨⟨r0, r1, r2, r3, r4⟩, s0, s1, s2, s3, s4⟩ := box5I P2_1.out
  go_wp2
  exact bodyPost_ret (v := .agg #[.int .i64 root, .int .i64 ref, .bool bef, .int .u32 (sh : Int), .slice ro rl rc]) (by simp [results, Tryz.results41, go_sem, r0, r1, r2, r3, r4]) rfl ⟨rfl, (((((HB1.out.setCell (p := ⟨w.heap.size + 1 + 1, 0, none⟩) (by show w.heap.size ≤ w.heap.size + 1 + 1; omega) _).setCell (p := ⟨w.heap.size + 1 + 1, 1, none⟩) (by show w.heap.size ≤ w.heap.size + 1 + 1; omega) _).setCell (p := ⟨w.heap.size + 1 + 1, 2, none⟩) (by show w.heap.size ≤ w.heap.size + 1 + 1; omega) _).setCell (p := ⟨w.heap.size + 1 + 1, 3, none⟩) (by show w.heap.size ≤ w.heap.size + 1 + 1; omega) _).setCell (p := ⟨w.heap.size + 1 + 1, 4, none⟩) (by show w.heap.size ≤ w.heap.size + 1 + 1; omega) _)⟩
set_option maxRecDepth 100000 in
set_option maxHeartbeats 16000000 in
theorem remB (b off cap n : Nat) (root ref node : Int) (bef : Bool) (sh : Nat) (ro : Option Addr) (rl rc : Nat) (w : World)
    (C1 : ∀ W : World, Below w.heap.size w W → Calls Tryz.prog 27 #[.agg #[.slice (some ⟨b, off, none⟩) n cap], .int .i64 node, .int .i64 ref] W fun e w' => e = .returned (.bool true) ∧ Below W.heap.size W w')
    (C2 : ∀ W : World, Below w.heap.size w W → Calls Tryz.prog 27 #[.agg #[.slice (some ⟨b, off, none⟩) n cap], .int .i64 node, .int .i64 root] W fun e w' => e = .returned (.bool true) ∧ Below W.heap.size W w') :
    Calls Tryz.prog 41 #[.agg #[.slice (some ⟨b, off, none⟩) n cap], .agg #[.int .i64 root, .int .i64 ref, .bool bef, .int .u32 (sh : Int), .slice ro rl rc], .int .i64 node] w fun e w' => e = .returned (.agg #[.int .i64 root, .int .i64 ref, .bool bef, .int .u32 (sh : Int), .slice ro rl rc]) ∧ Below w.heap.size w w' := by
  obtain ⟨bx, g0, g1, g2, sx⟩ := three_new w (.cells #[.slice (some ⟨b, off, none⟩) n cap] 24) (.cells #[.int .i64 root, .int .i64 ref, .bool bef, .int .u32 (sh : Int), .slice ro rl rc] 30) (.cells #[.int .i64 0, .int .i64 0, .bool false, .int .u32 0, .slice none 0 0] 30)
  have HB0 := hid bx
  have P0_0 := hid g0
  have P1_0 := hid g1
  have P2_0 := hid g2
  have c0a := (box_cell_l g0).1
  obtain ⟨⟨c1a, c2a, c3a, c4a, c5a⟩, _⟩ := box5I g1
  have HC1 := hid C1
  have HC2 := hid C2
  clear bx g0 g1 g2 sx C1 C2
  go_enter Tryz.func41, Tryz.ntmps41
  go_upto_region 1 with fail
  generalize (((w.alloc (.cells #[.slice (some ⟨b, off, none⟩) n cap] 24)).alloc (.cells #[.int .i64 root, .int .i64 ref, .bool bef, .int .u32 (sh : Int), .slice ro rl rc] 30)).alloc (.cells #[.int .i64 0, .int .i64 0, .bool false, .int .u32 0, .slice none 0 0] 30)) = V0 at *
  go_wp2_with fail
  refine (HC1.out V0 HB0.out).mono ?_
  rintro e V1 ⟨rfl, hb⟩
  have HB1 := hid (HB0.out.trans (hb.mono HB0.out.size))
  have P0_1 := hid (keep_blk hb P0_0.out)
  have P1_1 := hid (keep_blk hb P1_0.out)
  have P2_1 := hid (keep_blk hb P2_0.out)
  clear hb HB0 P0_0 P1_0 P2_0 c0a c1a c2a c3a c4a c5a
  have c0a := (box_cell_l P0_1.out).1
  obtain ⟨⟨c1a, c2a, c3a, c4a, c5a⟩, _⟩ := box5I P1_1.out
  go_wp2_with fail
  refine (HC2.out V1 HB1.out).mono ?_
  rintro e V2 ⟨rfl, hb⟩
  have HB2 := hid (HB1.out.trans (hb.mono HB1.out.size))
  have P0_2 := hid (keep_blk hb P0_1.out)
  have P1_2 := hid (keep_blk hb P1_1.out)
  have P2_2 := hid (keep_blk hb P2_1.out)
  clear hb HB1 P0_1 P1_1 P2_1 c0a c1a c2a c3a c4a c5a
  have c0a := (box_cell_l P0_2.out).1
  obtain ⟨⟨c1a, c2a, c3a, c4a, c5a⟩, _⟩ := box5I P1_2.out
  obtain ⟨_, w0, w1, w2, w3, w4⟩ := box5I P1_2.out
  obtain ⟨⟨r0, r1, r2, r3, r4⟩, s0, s1, s2, s3, s4⟩ := box5I P2_2.out
  go_wp2
  exact bodyPost_ret (v := .agg #[.int .i64 root, .int .i64 ref, .bool bef, .int .u32 (sh : Int), .slice ro rl rc]) (by simp [results, Tryz.results41, go_sem, r0, r1, r2, r3, r4]) rfl ⟨rfl, (((((HB2.out.setCell (p := ⟨w.heap.size + 1 + 1, 0, none⟩) (by show w.heap.size ≤ w.heap.size + 1 + 1; omega) _).setCell (p := ⟨w.heap.size + 1 + 1, 1, none⟩) (by show w.heap.size ≤ w.heap.size + 1 + 1; omega) _).setCell (p := ⟨w.heap.size + 1 + 1, 2, none⟩) (by show w.heap.size ≤ w.heap.size + 1 + 1; omega) _).setCell (p := ⟨w.heap.size + 1 + 1, 3, none⟩) (by show w.heap.size ≤ w.heap.size + 1 + 1; omega) _).setCell (p := ⟨w.heap.size + 1 + 1, 4, none⟩) (by show w.heap.size ≤ w.heap.size + 1 + 1; omega) _)⟩
set_option maxRecDepth 100000 in
set_option maxHeartbeats 16000000 in
theorem remC (b off cap n : Nat) (root ref node : Int) (sh : Nat) (ro : Option Addr) (rl rc : Nat) (l IN : List Int) (AH : Nat) (OV : Int) (hk : AH + IN.length < l.length) (ho : l[AH + IN.length] = OV) (w : World)
    (C1 : ∀ W : World, Below w.heap.size w W → Calls Tryz.prog 27 #[.agg #[.slice (some ⟨b, off, none⟩) n cap], .int .i64 node, .int .i64 ref] W fun e w' => e = .returned (.bool true) ∧ Below W.heap.size W w')
    (C2 : ∀ W : World, Below w.heap.size w W → Calls Tryz.prog 27 #[.agg #[.slice (some ⟨b, off, none⟩) n cap], .int .i64 node, .int .i64 root] W fun e w' => e = .returned (.bool false) ∧ Below W.heap.size W w')
    (A1 : ∀ W : World, Below w.heap.size w W → Calls Tryz.prog 33 #[.agg #[.slice (some ⟨b, off, none⟩) n cap], .int .i64 (root)] W fun e w' => ∃ v, e = .returned v ∧ RdI w' v l ∧ Below W.heap.size W w')
    (A2 : ∀ W : World, Below w.heap.size w W → Calls Tryz.prog 33 #[.agg #[.slice (some ⟨b, off, none⟩) n cap], .int .i64 (node)] W fun e w' => ∃ v, e = .returned v ∧ RdI w' v IN ∧ Below W.heap.size W w')
    (PL : ∀ (v : Value) (W : World), RdI W v l → Calls Tryz.prog 34 #[v, .int .i64 node] W fun e w' => e = .returned (.int .i64 (AH : Int)) ∧ w' = W) (_hl1 : l.length ≤ 4096) (hl2 : IN.length ≤ 4096) (hl3 : AH ≤ 4096) :
    Calls Tryz.prog 41 #[.agg #[.slice (some ⟨b, off, none⟩) n cap], .agg #[.int .i64 root, .int .i64 ref, .bool true, .int .u32 (sh : Int), .slice ro rl rc], .int .i64 node] w fun e w' => e = .returned (.agg #[.int .i64 root, .int .i64 OV, .bool true, .int .u32 (sh : Int), .slice ro rl rc]) ∧ Below w.heap.size w w' := by
  obtain ⟨bx, g0, g1, g2, sx⟩ := three_new w (.cells #[.slice (some ⟨b, off, none⟩) n cap] 24) (.cells #[.int .i64 root, .int .i64 ref, .bool true, .int .u32 (sh : Int), .slice ro rl rc] 30) (.cells #[.int .i64 0, .int .i64 0, .bool false, .int .u32 0, .slice none 0 0] 30)
  have HB0 := hid bx
  have P0_0 := hid g0
  have P1_0 := hid g1
  have P2_0 := hid g2
  have c0a := (box_cell_l g0).1
  obtain ⟨⟨c1a, c2a, c3a, c4a, c5a⟩, _⟩ := box5I g1
  have HC1 := hid C1
  have HC2 := hid C2
  have HA1 := hid A1
  have HA2 := hid A2
  have HPL := hid PL
  clear bx g0 g1 g2 sx C1 C2 A1 A2 PL
  go_enter Tryz.func41, Tryz.ntmps41
  go_upto_region 1 with fail
  generalize (((w.alloc (.cells #[.slice (some ⟨b, off, none⟩) n cap] 24)).alloc (.cells #[.int .i64 root, .int .i64 ref, .bool true, .int .u32 (sh : Int), .slice ro rl rc] 30)).alloc (.cells #[.int .i64 0, .int .i64 0, .bool false, .int .u32 0, .slice none 0 0] 30)) = V0 at *
  go_wp2_with fail
  refine (HC1.out V0 HB0.out).mono ?_
  rintro e V1 ⟨rfl, hb⟩
  have HB1 := hid (HB0.out.trans (hb.mono HB0.out.size))
  have P0_1 := hid (keep_blk hb P0_0.out)
  have P1_1 := hid (keep_blk hb P1_0.out)
  have P2_1 := hid (keep_blk hb P2_0.out)
  clear hb HB0 P0_0 P1_0 P2_0 c0a c1a c2a c3a c4a c5a
  have c0a := (box_cell_l P0_1.out).1
  obtain ⟨⟨c1a, c2a, c3a, c4a, c5a⟩, _⟩ := box5I P1_1.out
  go_wp2_with fail
  refine (HC2.out V1 HB1.out).mono ?_
  rintro e V2 ⟨rfl, hb⟩
  have HB2 := hid (HB1.out.trans (hb.mono HB1.out.size))
  have P0_2 := hid (keep_blk hb P0_1.out)
  have P1_2 := hid (keep_blk hb P1_1.out)
  have P2_2 := hid (keep_blk hb P2_1.out)
  clear hb HB1 P0_1 P1_1 P2_1 c0a c1a c2a c3a c4a c5a
  have c0a := (box_cell_l P0_2.out).1
  obtain ⟨⟨c1a, c2a, c3a, c4a, c5a⟩, _⟩ := box5I P1_2.out
  go_wp2_with fail
  refine (HA1.out V2 HB2.out).mono ?_
  rintro e V3 ⟨v, rfl, hv, hb⟩
  have HB3 := hid (HB2.out.trans (hb.mono HB2.out.size))
  have P0_3 := hid (keep_blk hb P0_2.out)
  have P1_3 := hid (keep_blk hb P1_2.out)
  have P2_3 := hid (keep_blk hb P2_2.out)
  have HVv := hid hv
  clear hv
  clear hb HB2 P0_2 P1_2 P2_2 c0a c1a c2a c3a c4a c5a
  have c0a := (box_cell_l P0_3.out).1
  obtain ⟨⟨c1a, c2a, c3a, c4a, c5a⟩, _⟩ := box5I P1_3.out
  go_wp2_with fail
  refine (HA2.out V3 HB3.out).mono ?_
  rintro e V4 ⟨u, rfl, hu, hb⟩
  have HB4 := hid (HB3.out.trans (hb.mono HB3.out.size))
  have P0_4 := hid (keep_blk hb P0_3.out)
  have P1_4 := hid (keep_blk hb P1_3.out)
  have P2_4 := hid (keep_blk hb P2_3.out)
  have HV2 := hid (HVv.out.later hb)
  clear HVv
  clear hb HB3 P0_3 P1_3 P2_3 c0a c1a c2a c3a c4a c5a
  have c0a := (box_cell_l P0_4.out).1
  obtain ⟨⟨c1a, c2a, c3a, c4a, c5a⟩, _⟩ := box5I P1_4.out
  have hPl := HPL.out v V4 HV2.out
  obtain ⟨ou, cu, rfl, hcu, gu⟩ := hu
  obtain ⟨ov, cv, rfl, hcv, gv⟩ := HV2.out
  have GV := hid gv
  clear gu gv HV2
  go_wp2_with fail
  refine hPl.mono ?_
  rintro e V5 ⟨rfl, rfl⟩
  clear hPl
  have sm1 : (0 : Int) ≤ (AH : Int) + (IN.length : Int) := by omega
  have sm2 : (AH : Int) + (IN.length : Int) ≤ 8192 := by omega
  have dk : decide ((AH : Int) + (IN.length : Int) < (l.length : Int)) = true := decide_eq_true (by omega)
  have p2 : (AH : Int) + (IN.length : Int) < (l.length : Int) := by omega
  have p3 : ((AH : Int) + (IN.length : Int)).toNat = AH + IN.length := by omega
  obtain ⟨bv, offv, rfl, hltv, hav⟩ := GV.out (by omega)
  have x1 := hav (AH + IN.length) hk
  rw [ho] at x1
  clear hav GV
  obtain ⟨_, w0, w1, w2, w3, w4⟩ := box5I P1_4.out
  obtain ⟨⟨r0, r1, r2, r3, r4⟩, s0, s1, s2, s3, s4⟩ := box5I P2_4.out
  go_wp2
  exact bodyPost_ret (v := .agg #[.int .i64 root, .int .i64 OV, .bool true, .int .u32 (sh : Int), .slice ro rl rc]) (by simp [results, Tryz.results41, go_sem, r0, r1, r2, r3, r4]) rfl ⟨rfl, ((((((HB4.out.setCell (p := ⟨w.heap.size + 1, 1, none⟩) (by show w.heap.size ≤ w.heap.size + 1; omega) _).setCell (p := ⟨w.heap.size + 1 + 1, 0, none⟩) (by show w.heap.size ≤ w.heap.size + 1 + 1; omega) _).setCell (p := ⟨w.heap.size + 1 + 1, 1, none⟩) (by show w.heap.size ≤ w.heap.size + 1 + 1; omega) _).setCell (p := ⟨w.heap.size + 1 + 1, 2, none⟩) (by show w.heap.size ≤ w.heap.size + 1 + 1; omega) _).setCell (p := ⟨w.heap.size + 1 + 1, 3, none⟩) (by show w.heap.size ≤ w.heap.size + 1 + 1; omega) _).setCell (p := ⟨w.heap.size + 1 + 1, 4, none⟩) (by show w.heap.size ≤ w.heap.size + 1 + 1; omega) _)⟩
set_option maxRecDepth 100000 in
set_option maxHeartbeats 16000000 in
theorem remDf (b off cap n : Nat) (root ref node : Int) (sh : Nat) (ro : Option Addr) (rl rc : Nat) (l IN : List Int) (AH : Nat) (P : Int) (w : World)
    (C1 : ∀ W : World, Below w.heap.size w W → Calls Tryz.prog 27 #[.agg #[.slice (some ⟨b, off, none⟩) n cap], .int .i64 node, .int .i64 ref] W fun e w' => e = .returned (.bool true) ∧ Below W.heap.size W w')
    (C2 : ∀ W : World, Below w.heap.size w W → Calls Tryz.prog 27 #[.agg #[.slice (some ⟨b, off, none⟩) n cap], .int .i64 node, .int .i64 root] W fun e w' => e = .returned (.bool false) ∧ Below W.heap.size W w')
    (A1 : ∀ W : World, Below w.heap.size w W → Calls Tryz.prog 33 #[.agg #[.slice (some ⟨b, off, none⟩) n cap], .int .i64 (root)] W fun e w' => ∃ v, e = .returned v ∧ RdI w' v l ∧ Below W.heap.size W w')
    (A2 : ∀ W : World, Below w.heap.size w W → Calls Tryz.prog 33 #[.agg #[.slice (some ⟨b, off, none⟩) n cap], .int .i64 (node)] W fun e w' => ∃ v, e = .returned v ∧ RdI w' v IN ∧ Below W.heap.size W w')
    (PL : ∀ (v : Value) (W : World), RdI W v l → Calls Tryz.prog 34 #[v, .int .i64 node] W fun e w' => e = .returned (.int .i64 (AH : Int)) ∧ w' = W) (_hl1 : l.length ≤ 4096) (hl2 : IN.length ≤ 4096) (hl3 : AH ≤ 4096)
    (OF : ∀ W : World, Below w.heap.size w W → Calls Tryz.prog 63 #[.agg #[.slice (some ⟨b, off, none⟩) n cap], .int .i64 node] W fun e w' => ∃ (nd : NodeD) (od : Option Addr) (cd : Nat) (oa : Option Addr) (ca : Nat) (ok : Option Addr) (ck : Nat), nd.parent = P ∧ e = .returned (nodeV nd ⟨.slice od nd.data.length cd, .slice oa nd.attrs.length ca, .slice ok nd.kids.length ck⟩) ∧ Below W.heap.size W w')
    (IX : ∀ W : World, Below w.heap.size w W → Calls Tryz.prog 65 #[.agg #[.slice (some ⟨b, off, none⟩) n cap], .int .i64 node] W fun e w' => e = .returned (.int .i64 0) ∧ Below W.heap.size W w') :
    Calls Tryz.prog 41 #[.agg #[.slice (some ⟨b, off, none⟩) n cap], .agg #[.int .i64 root, .int .i64 ref, .bool false, .int .u32 (sh : Int), .slice ro rl rc], .int .i64 node] w fun e w' => e = .returned (.agg #[.int .i64 root, .int .i64 P, .bool false, .int .u32 (sh : Int), .slice ro rl rc]) ∧ Below w.heap.size w w' := by
  obtain ⟨bx, g0, g1, g2, sx⟩ := three_new w (.cells #[.slice (some ⟨b, off, none⟩) n cap] 24) (.cells #[.int .i64 root, .int .i64 ref, .bool false, .int .u32 (sh : Int), .slice ro rl rc] 30) (.cells #[.int .i64 0, .int .i64 0, .bool false, .int .u32 0, .slice none 0 0] 30)
  have HB0 := hid bx
  have P0_0 := hid g0
  have P1_0 := hid g1
  have P2_0 := hid g2
  have c0a := (box_cell_l g0).1
  obtain ⟨⟨c1a, c2a, c3a, c4a, c5a⟩, _⟩ := box5I g1
  have HC1 := hid C1
  have HC2 := hid C2
  have HA1 := hid A1
  have HA2 := hid A2
  have HPL := hid PL
  have HOF := hid OF
  have HIX := hid IX
  clear bx g0 g1 g2 sx C1 C2 A1 A2 PL OF IX
  go_enter Tryz.func41, Tryz.ntmps41
  go_upto_region 1 with fail
  generalize (((w.alloc (.cells #[.slice (some ⟨b, off, none⟩) n cap] 24)).alloc (.cells #[.int .i64 root, .int .i64 ref, .bool false, .int .u32 (sh : Int), .slice ro rl rc] 30)).alloc (.cells #[.int .i64 0, .int .i64 0, .bool false, .int .u32 0, .slice none 0 0] 30)) = V0 at *
  go_wp2_with fail
  refine (HC1.out V0 HB0.out).mono ?_
  rintro e V1 ⟨rfl, hb⟩
  have HB1 := hid (HB0.out.trans (hb.mono HB0.out.size))
  have P0_1 := hid (keep_blk hb P0_0.out)
  have P1_1 := hid (keep_blk hb P1_0.out)
  have P2_1 := hid (keep_blk hb P2_0.out)
  clear hb HB0 P0_0 P1_0 P2_0 c0a c1a c2a c3a c4a c5a
  have c0a := (box_cell_l P0_1.out).1
  obtain ⟨⟨c1a, c2a, c3a, c4a, c5a⟩, _⟩ := box5I P1_1.out
  go_wp2_with fail
  refine (HC2.out V1 HB1.out).mono ?_
  rintro e V2 ⟨rfl, hb⟩
  have HB2 := hid (HB1.out.trans (hb.mono HB1.out.size))
  have P0_2 := hid (keep_blk hb P0_1.out)
  have P1_2 := hid (keep_blk hb P1_1.out)
  have P2_2 := hid (keep_blk hb P2_1.out)
  clear hb HB1 P0_1 P1_1 P2_1 c0a c1a c2a c3a c4a c5a
  have c0a := (box_cell_l P0_2.out).1
  obtain ⟨⟨c1a, c2a, c3a, c4a, c5a⟩, _⟩ := box5I P1_2.out
  go_wp2_with fail
  refine (HA1.out V2 HB2.out).mono ?_
  rintro e V3 ⟨v, rfl, hv, hb⟩
  have HB3 := hid (HB2.out.trans (hb.mono HB2.out.size))
  have P0_3 := hid (keep_blk hb P0_2.out)
  have P1_3 := hid (keep_blk hb P1_2.out)
  have P2_3 := hid (keep_blk hb P2_2.out)
  have HVv := hid hv
  clear hv
  clear hb HB2 P0_2 P1_2 P2_2 c0a c1a c2a c3a c4a c5a
  have c0a := (box_cell_l P0_3.out).1
  obtain ⟨⟨c1a, c2a, c3a, c4a, c5a⟩, _⟩ := box5I P1_3.out
  go_wp2_with fail
  refine (HA2.out V3 HB3.out).mono ?_
  rintro e V4 ⟨u, rfl, hu, hb⟩
  have HB4 := hid (HB3.out.trans (hb.mono HB3.out.size))
  have P0_4 := hid (keep_blk hb P0_3.out)
  have P1_4 := hid (keep_blk hb P1_3.out)
  have P2_4 := hid (keep_blk hb P2_3.out)
  have HV2 := hid (HVv.out.later hb)
  clear HVv
  clear hb HB3 P0_3 P1_3 P2_3 c0a c1a c2a c3a c4a c5a
  have c0a := (box_cell_l P0_4.out).1
  obtain ⟨⟨c1a, c2a, c3a, c4a, c5a⟩, _⟩ := box5I P1_4.out
  have hPl := HPL.out v V4 HV2.out
  obtain ⟨ou, cu, rfl, hcu, gu⟩ := hu
  obtain ⟨ov, cv, rfl, hcv, gv⟩ := HV2.out
  have GV := hid gv
  clear gu gv HV2
  go_wp2_with fail
  refine hPl.mono ?_
  rintro e V5 ⟨rfl, rfl⟩
  clear hPl
  have sm1 : (0 : Int) ≤ (AH : Int) + (IN.length : Int) := by omega
  have sm2 : (AH : Int) + (IN.length : Int) ≤ 8192 := by omega
  obtain ⟨_, w0, w1, w2, w3, w4⟩ := box5I P1_4.out
  have Q1 := hid (third5 P1_4.out (.bool false))
  have Q0 := hid (blk_far (g := w.heap.size + 1) (j := 2) P0_4.out (.bool false) (by omega))
  have Q2 := hid (blk_far (g := w.heap.size + 1) (j := 2) P2_4.out (.bool false) (by omega))
  have QB := hid (HB4.out.setCell (p := ⟨w.heap.size + 1, 2, none⟩) (by show w.heap.size ≤ w.heap.size + 1; omega) (.bool false))
  clear GV
  go_upto_region 10 with fail
  generalize V5.setCell ⟨w.heap.size + 1, 2, none⟩ (.bool false) = X0 at *
  clear w0 w1 w2 w3 w4 c0a c1a c2a c3a c4a c5a
  have c0a := (box_cell_l Q0.out).1
  go_wp2_with fail
  refine (HOF.out X0 QB.out).mono ?_
  rintro e X1 ⟨nd, od, cd, oa, ca, ok, ck, hpar, rfl, hb⟩
  have R0 := hid (keep_blk hb Q0.out)
  have R1 := hid (keep_blk hb Q1.out)
  have R2 := hid (keep_blk hb Q2.out)
  have RB := hid (QB.out.trans (hb.mono QB.out.size))
  clear hb Q0 Q1 Q2 QB c0a HOF P0_4 P1_4 P2_4 HB4
  unfold nodeV
  have hfl := fld_par nd (.slice od nd.data.length cd) (.slice oa nd.attrs.length ca) (.slice ok nd.kids.length ck)
  rw [hpar] at hfl ⊢
  have c0a := (box_cell_l R0.out).1
  go_wp2_with fail
  refine (HIX.out X1 RB.out).mono ?_
  rintro e X2 ⟨rfl, hb⟩
  have S0 := hid (keep_blk hb R0.out)
  have S1 := hid (keep_blk hb R1.out)
  have S2 := hid (keep_blk hb R2.out)
  have SB := hid (RB.out.trans (hb.mono RB.out.size))
  clear hb R0 R1 R2 RB c0a HIX hfl
  obtain ⟨⟨c1a, c2a, c3a, c4a, c5a⟩, w0, w1, w2, w3, w4⟩ := box5I S1.out
  obtain ⟨⟨r0, r1, r2, r3, r4⟩, s0, s1, s2, s3, s4⟩ := box5I S2.out
  go_wp2
  exact bodyPost_ret (v := .agg #[.int .i64 root, .int .i64 P, .bool false, .int .u32 (sh : Int), .slice ro rl rc]) (by simp [results, Tryz.results41, go_sem, r0, r1, r2, r3, r4]) rfl ⟨rfl, ((((((SB.out.setCell (p := ⟨w.heap.size + 1, 1, none⟩) (by show w.heap.size ≤ w.heap.size + 1; omega) _).setCell (p := ⟨w.heap.size + 1 + 1, 0, none⟩) (by show w.heap.size ≤ w.heap.size + 1 + 1; omega) _).setCell (p := ⟨w.heap.size + 1 + 1, 1, none⟩) (by show w.heap.size ≤ w.heap.size + 1 + 1; omega) _).setCell (p := ⟨w.heap.size + 1 + 1, 2, none⟩) (by show w.heap.size ≤ w.heap.size + 1 + 1; omega) _).setCell (p := ⟨w.heap.size + 1 + 1, 3, none⟩) (by show w.heap.size ≤ w.heap.size + 1 + 1; omega) _).setCell (p := ⟨w.heap.size + 1 + 1, 4, none⟩) (by show w.heap.size ≤ w.heap.size + 1 + 1; omega) _)⟩
set_option maxRecDepth 100000 in
set_option maxHeartbeats 16000000 in
theorem remEf (b off cap n : Nat) (root ref node : Int) (sh : Nat) (ro : Option Addr) (rl rc : Nat) (l IN KS AL : List Int) (AH J : Nat) (P KJ Z : Int) (hJ : J < KS.length) (hJ4 : KS.length ≤ 4096) (hKJ : KS[J] = KJ) (hAL : AL.length ≤ 4096) (hA0 : 0 < AL.length) (hZ : AL[AL.length - 1] = Z) (w : World)
    (C1 : ∀ W : World, Below w.heap.size w W → Calls Tryz.prog 27 #[.agg #[.slice (some ⟨b, off, none⟩) n cap], .int .i64 node, .int .i64 ref] W fun e w' => e = .returned (.bool true) ∧ Below W.heap.size W w')
    (C2 : ∀ W : World, Below w.heap.size w W → Calls Tryz.prog 27 #[.agg #[.slice (some ⟨b, off, none⟩) n cap], .int .i64 node, .int .i64 root] W fun e w' => e = .returned (.bool false) ∧ Below W.heap.size W w')
    (A1 : ∀ W : World, Below w.heap.size w W → Calls Tryz.prog 33 #[.agg #[.slice (some ⟨b, off, none⟩) n cap], .int .i64 (root)] W fun e w' => ∃ v, e = .returned v ∧ RdI w' v l ∧ Below W.heap.size W w')
    (A2 : ∀ W : World, Below w.heap.size w W → Calls Tryz.prog 33 #[.agg #[.slice (some ⟨b, off, none⟩) n cap], .int .i64 (node)] W fun e w' => ∃ v, e = .returned v ∧ RdI w' v IN ∧ Below W.heap.size W w')
    (PL : ∀ (v : Value) (W : World), RdI W v l → Calls Tryz.prog 34 #[v, .int .i64 node] W fun e w' => e = .returned (.int .i64 (AH : Int)) ∧ w' = W) (_hl1 : l.length ≤ 4096) (hl2 : IN.length ≤ 4096) (hl3 : AH ≤ 4096)
    (OF : ∀ W : World, Below w.heap.size w W → Calls Tryz.prog 63 #[.agg #[.slice (some ⟨b, off, none⟩) n cap], .int .i64 node] W fun e w' => ∃ (nd : NodeD) (od : Option Addr) (cd : Nat) (oa : Option Addr) (ca : Nat) (ok : Option Addr) (ck : Nat), nd.parent = P ∧ e = .returned (nodeV nd ⟨.slice od nd.data.length cd, .slice oa nd.attrs.length ca, .slice ok nd.kids.length ck⟩) ∧ Below W.heap.size W w')
    (IX : ∀ W : World, Below w.heap.size w W → Calls Tryz.prog 65 #[.agg #[.slice (some ⟨b, off, none⟩) n cap], .int .i64 node] W fun e w' => e = .returned (.int .i64 ((J : Int) + 1)) ∧ Below W.heap.size W w')
    (OP : ∀ W : World, Below w.heap.size w W → Calls Tryz.prog 63 #[.agg #[.slice (some ⟨b, off, none⟩) n cap], .int .i64 P] W fun e w' => ∃ (nd : NodeD) (od : Option Addr) (cd : Nat) (oa : Option Addr) (ca : Nat) (ok : Option Addr) (ck : Nat), nd.kids = KS ∧ e = .returned (nodeV nd ⟨.slice od nd.data.length cd, .slice oa nd.attrs.length ca, .slice ok nd.kids.length ck⟩) ∧ RdI w (.slice ok nd.kids.length ck) KS ∧ Below W.heap.size W w')
    (A3 : ∀ W : World, Below w.heap.size w W → Calls Tryz.prog 33 #[.agg #[.slice (some ⟨b, off, none⟩) n cap], .int .i64 KJ] W fun e w' => ∃ v, e = .returned v ∧ RdI w' v AL ∧ Below W.heap.size W w') :
    Calls Tryz.prog 41 #[.agg #[.slice (some ⟨b, off, none⟩) n cap], .agg #[.int .i64 root, .int .i64 ref, .bool false, .int .u32 (sh : Int), .slice ro rl rc], .int .i64 node] w fun e w' => e = .returned (.agg #[.int .i64 root, .int .i64 Z, .bool false, .int .u32 (sh : Int), .slice ro rl rc]) ∧ Below w.heap.size w w' := by
  obtain ⟨bx, g0, g1, g2, sx⟩ := three_new w (.cells #[.slice (some ⟨b, off, none⟩) n cap] 24) (.cells #[.int .i64 root, .int .i64 ref, .bool false, .int .u32 (sh : Int), .slice ro rl rc] 30) (.cells #[.int .i64 0, .int .i64 0, .bool false, .int .u32 0, .slice none 0 0] 30)
  have HB0 := hid bx
  have P0_0 := hid g0
  have P1_0 := hid g1
  have P2_0 := hid g2
  have c0a := (box_cell_l g0).1
  obtain ⟨⟨c1a, c2a, c3a, c4a, c5a⟩, _⟩ := box5I g1
  have HC1 := hid C1
  have HC2 := hid C2
  have HA1 := hid A1
  have HA2 := hid A2
  have HPL := hid PL
  have HOF := hid OF
  have HIX := hid IX
  have HOP := hid OP
  have HA3 := hid A3
  clear bx g0 g1 g2 sx C1 C2 A1 A2 PL OF IX OP A3
  go_enter Tryz.func41, Tryz.ntmps41
  go_upto_region 1 with fail
  generalize (((w.alloc (.cells #[.slice (some ⟨b, off, none⟩) n cap] 24)).alloc (.cells #[.int .i64 root, .int .i64 ref, .bool false, .int .u32 (sh : Int), .slice ro rl rc] 30)).alloc (.cells #[.int .i64 0, .int .i64 0, .bool false, .int .u32 0, .slice none 0 0] 30)) = V0 at *
  go_wp2_with fail
  refine (HC1.out V0 HB0.out).mono ?_
  rintro e V1 ⟨rfl, hb⟩
  have HB1 := hid (HB0.out.trans (hb.mono HB0.out.size))
  have P0_1 := hid (keep_blk hb P0_0.out)
  have P1_1 := hid (keep_blk hb P1_0.out)
  have P2_1 := hid (keep_blk hb P2_0.out)
  clear hb HB0 P0_0 P1_0 P2_0 c0a c1a c2a c3a c4a c5a
  have c0a := (box_cell_l P0_1.out).1
  obtain ⟨⟨c1a, c2a, c3a, c4a, c5a⟩, _⟩ := box5I P1_1.out
  go_wp2_with fail
  refine (HC2.out V1 HB1.out).mono ?_
  rintro e V2 ⟨rfl, hb⟩
  have HB2 := hid (HB1.out.trans (hb.mono HB1.out.size))
  have P0_2 := hid (keep_blk hb P0_1.out)
  have P1_2 := hid (keep_blk hb P1_1.out)
  have P2_2 := hid (keep_blk hb P2_1.out)
  clear hb HB1 P0_1 P1_1 P2_1 c0a c1a c2a c3a c4a c5a
  have c0a := (box_cell_l P0_2.out).1
  obtain ⟨⟨c1a, c2a, c3a, c4a, c5a⟩, _⟩ := box5I P1_2.out
  go_wp2_with fail
  refine (HA1.out V2 HB2.out).mono ?_
  rintro e V3 ⟨v, rfl, hv, hb⟩
  have HB3 := hid (HB2.out.trans (hb.mono HB2.out.size))
  have P0_3 := hid (keep_blk hb P0_2.out)
  have P1_3 := hid (keep_blk hb P1_2.out)
  have P2_3 := hid (keep_blk hb P2_2.out)
  have HVv := hid hv
  clear hv
  clear hb HB2 P0_2 P1_2 P2_2 c0a c1a c2a c3a c4a c5a
  have c0a := (box_cell_l P0_3.out).1
  obtain ⟨⟨c1a, c2a, c3a, c4a, c5a⟩, _⟩ := box5I P1_3.out
  go_wp2_with fail
  refine (HA2.out V3 HB3.out).mono ?_
  rintro e V4 ⟨u, rfl, hu, hb⟩
  have HB4 := hid (HB3.out.trans (hb.mono HB3.out.size))
  have P0_4 := hid (keep_blk hb P0_3.out)
  have P1_4 := hid (keep_blk hb P1_3.out)
  have P2_4 := hid (keep_blk hb P2_3.out)
  have HV2 := hid (HVv.out.later hb)
  clear HVv
  clear hb HB3 P0_3 P1_3 P2_3 c0a c1a c2a c3a c4a c5a
  have c0a := (box_cell_l P0_4.out).1
  obtain ⟨⟨c1a, c2a, c3a, c4a, c5a⟩, _⟩ := box5I P1_4.out
  have hPl := HPL.out v V4 HV2.out
  obtain ⟨ou, cu, rfl, hcu, gu⟩ := hu
  obtain ⟨ov, cv, rfl, hcv, gv⟩ := HV2.out
  have GV := hid gv
  clear gu gv HV2
  go_wp2_with fail
  refine hPl.mono ?_
  rintro e V5 ⟨rfl, rfl⟩
  clear hPl
  have sm1 : (0 : Int) ≤ (AH : Int) + (IN.length : Int) := by omega
  have sm2 : (AH : Int) + (IN.length : Int) ≤ 8192 := by omega
  obtain ⟨_, w0, w1, w2, w3, w4⟩ := box5I P1_4.out
  have Q1 := hid (third5 P1_4.out (.bool false))
  have Q0 := hid (blk_far (g := w.heap.size + 1) (j := 2) P0_4.out (.bool false) (by omega))
  have Q2 := hid (blk_far (g := w.heap.size + 1) (j := 2) P2_4.out (.bool false) (by omega))
  have QB := hid (HB4.out.setCell (p := ⟨w.heap.size + 1, 2, none⟩) (by show w.heap.size ≤ w.heap.size + 1; omega) (.bool false))
  clear GV
  go_upto_region 10 with fail
  generalize V5.setCell ⟨w.heap.size + 1, 2, none⟩ (.bool false) = X0 at *
  clear w0 w1 w2 w3 w4 c0a c1a c2a c3a c4a c5a
  have c0a := (box_cell_l Q0.out).1
  go_wp2_with fail
  refine (HOF.out X0 QB.out).mono ?_
  rintro e X1 ⟨nd, od, cd, oa, ca, ok, ck, hpar, rfl, hb⟩
  have R0 := hid (keep_blk hb Q0.out)
  have R1 := hid (keep_blk hb Q1.out)
  have R2 := hid (keep_blk hb Q2.out)
  have RB := hid (QB.out.trans (hb.mono QB.out.size))
  clear hb Q0 Q1 Q2 QB c0a HOF P0_4 P1_4 P2_4 HB4
  unfold nodeV
  have hfl := fld_par nd (.slice od nd.data.length cd) (.slice oa nd.attrs.length ca) (.slice ok nd.kids.length ck)
  rw [hpar] at hfl ⊢
  have c0a := (box_cell_l R0.out).1
  go_wp2_with fail
  refine (HIX.out X1 RB.out).mono ?_
  rintro e X2 ⟨rfl, hb⟩
  have S0 := hid (keep_blk hb R0.out)
  have S1 := hid (keep_blk hb R1.out)
  have S2 := hid (keep_blk hb R2.out)
  have SB := hid (RB.out.trans (hb.mono RB.out.size))
  clear hb R0 R1 R2 RB c0a HIX hfl
  obtain ⟨⟨c1a, c2a, c3a, c4a, c5a⟩, w0, w1, w2, w3, w4⟩ := box5I S1.out
  have e0 : (((J : Int) + 1) == 0) = false := beq_eq_false_iff_ne.2 (by omega)
  clear c1a c2a c3a c4a c5a w0 w1 w2 w3 w4
  go_upto_region 15 with fail
  refine wp_region_held_drew (S := fun W => Below X2.heap.size X2 W) (by kernel_rfl) (below_drew X2) (fun hHeld => ?_)
  have D0 := hid (below_drew X2)
  generalize X2.drew = Y0 at *
  have sj : IntKind.i64.wrap (J : Int) = (J : Int) := wrap_j _ (by omega) (by omega)
  refine wpAnyH_one 0 67 (.agg #[.slice (some ⟨b, off, none⟩) n cap]) hHeld rfl rfl (by kernel_rfl) (fun _ _ _ _ _ h => h) (by kernel_rfl) (by kernel_rfl) (by rfl) ?_ ?_
  · intro V hSw; (try dsimp only at hSw); have cf := (box_cell_l (keep_blk hSw S0.out)).1; go_simp
  simp only [Act.put, List.setIfInBounds_toArray, List.set_cons_zero, List.set_cons_succ]
  refine wpAnyH_one 1 68 (.agg #[.slice (some ⟨b, off, none⟩) n cap]) hHeld rfl rfl (by kernel_rfl) (fun _ _ _ _ _ h => h) (by kernel_rfl) (by kernel_rfl) (by rfl) ?_ ?_
  · intro V hSw; (try dsimp only at hSw); have cf := (box_cell_l (keep_blk hSw S0.out)).1; go_simp
  simp only [Act.put, List.setIfInBounds_toArray, List.set_cons_zero, List.set_cons_succ]
  refine wpAnyH_one 2 69 (.int .i64 P) hHeld rfl rfl (by kernel_rfl) (fun _ _ _ _ _ h => h) (by kernel_rfl) (by kernel_rfl) (by rfl) ?_ ?_
  · intro V hSw; (try dsimp only at hSw); go_simp
  simp only [Act.put, List.setIfInBounds_toArray, List.set_cons_zero, List.set_cons_succ]
  refine wpAnyH_one 5 72 (.int .i64 ((J : Int) + 1)) hHeld rfl rfl (by kernel_rfl) (fun _ _ _ _ _ h => h) (by kernel_rfl) (by kernel_rfl) (by rfl) ?_ ?_
  · intro V hSw; (try dsimp only at hSw); go_simp
  simp only [Act.put, List.setIfInBounds_toArray, List.set_cons_zero, List.set_cons_succ]
  refine wpAnyH_one 6 73 (.int .i64 (J : Int)) hHeld rfl rfl (by kernel_rfl) (fun _ _ _ _ _ h => h) (by kernel_rfl) (by kernel_rfl) (by rfl) ?_ ?_
  · intro V hSw; (try dsimp only at hSw); go_simp
  simp only [Act.put, List.setIfInBounds_toArray, List.set_cons_zero, List.set_cons_succ]
  refine wpAnyH_ready (rs := [3]) (by kernel_rfl) (by simp) ?_
  refine AllReadyH.cons rfl (fun K hK => ?_) AllReadyH.nil
  go_simp
  go_wp2_with (go_at_call 63; refine (HOP.out Y0 (SB.out.trans (D0.out.mono SB.out.size))).mono ?_; rintro e Y1 ⟨n2, od2, cd2, oa2, ca2, ok2, ck2, hks, rfl, hrd, hb⟩; have D1 := hid (D0.out.trans (hb.mono D0.out.size)); have HRD := hid hrd; have HKS := hid hks; have hnv : nodeV n2 ⟨.slice od2 n2.data.length cd2, .slice oa2 n2.attrs.length ca2, .slice ok2 n2.kids.length ck2⟩ = .agg #[.int .u8 (n2.kind : Int), .string n2.space, .string n2.pre, .string n2.loc, .string n2.pub, .string n2.sys, .slice od2 n2.data.length cd2, .slice oa2 n2.attrs.length ca2, .int .i64 n2.parent, .slice ok2 n2.kids.length ck2, .int .i64 n2.doc, .int .i64 n2.host, .int .i64 n2.shadow, .int .u8 (n2.mode : Int), .bool n2.manual, .bool n2.html] := rfl; rw [hnv])
  refine hK.out _ _ D1.out (fun hHeld => ?_)
  clear hK K hb hrd hks hnv
  have hfk := fld_kids n2 (.slice od2 n2.data.length cd2) (.slice oa2 n2.attrs.length ca2) (.slice ok2 KS.length ck2)
  refine wpAnyH_one 4 71 (.slice ok2 KS.length ck2) hHeld rfl rfl (by kernel_rfl) (fun _ _ _ _ _ h => h) (by kernel_rfl) (by kernel_rfl) (by rfl) ?_ ?_
  · intro V hSw; (try dsimp only at hSw); go_simp
  simp only [Act.put, List.setIfInBounds_toArray, List.set_cons_zero, List.set_cons_succ]
  obtain ⟨o3, c3, he3, hc3, g3⟩ := HRD.out
  obtain ⟨b3, off3, ho3, hlt3, ha3⟩ := g3 (by omega)
  obtain ⟨rfl, rfl⟩ : o3 = ok2 ∧ c3 = ck2 := by simp only [Value.slice.injEq] at he3; exact ⟨he3.1.symm, he3.2.2.symm⟩
  subst ho3
  have x3 := ha3 J hJ
  rw [hKJ] at x3
  have HX3 := hid x3
  have HL3 := hid hlt3
  have j1 : (0 : Int) ≤ (J : Int) := by omega
  have j2 : (J : Int) < (KS.length : Int) := by omega
  clear g3 ha3 x3 hlt3 hfk he3 HRD HKS
  refine wpAnyH_one 7 74 (.pointer (some ⟨b3, off3 + J, none⟩)) hHeld rfl rfl (by kernel_rfl) (fun _ _ _ _ _ h => h) (by kernel_rfl) (by kernel_rfl) (by rfl) ?_ ?_
  · intro V hSw; (try dsimp only at hSw); go_simp
  simp only [Act.put, List.setIfInBounds_toArray, List.set_cons_zero, List.set_cons_succ]
  refine wpAnyH_one 8 75 (.int .i64 KJ) hHeld rfl rfl (by kernel_rfl) (fun _ _ _ _ _ h => h) (by kernel_rfl) (by kernel_rfl) (by rfl) ?_ ?_
  · intro V hSw; (try dsimp only at hSw); have cx := ((SB.out.trans (hSw.mono SB.out.size)).cell (p := ⟨b3, off3 + J, none⟩) HL3.out).trans HX3.out; go_simp
  simp only [Act.put, List.setIfInBounds_toArray, List.set_cons_zero, List.set_cons_succ]
  refine wpAnyH_ready (rs := [9]) (by kernel_rfl) (by simp) ?_
  refine AllReadyH.cons rfl (fun K hK => ?_) AllReadyH.nil
  go_simp
  go_wp2_with (go_at_call 33; refine (HA3.out Y1 (SB.out.trans (D1.out.mono SB.out.size))).mono ?_; rintro e Y2 ⟨vz, rfl, hvz, hb⟩; have D2 := hid (D1.out.trans (hb.mono D1.out.size)); have HVZ := hid hvz)
  refine hK.out _ _ D2.out (fun hHeld => ?_)
  clear hK K hb hvz
  refine wpAnyH_one 10 12 (vz) hHeld rfl rfl (by kernel_rfl) (fun _ _ _ _ _ h => h) (by kernel_rfl) (by kernel_rfl) (by rfl) ?_ ?_
  · intro V hSw; (try dsimp only at hSw); go_simp
  simp only [Act.put, List.setIfInBounds_toArray, List.set_cons_zero, List.set_cons_succ]
  refine wpAnyH_done (by kernel_rfl) ?_ _
  obtain ⟨oz, cz, rfl, hcz, gz⟩ := HVZ.out
  obtain ⟨bz, offz, rfl, hltz, haz⟩ := gz hA0
  have xz := haz (AL.length - 1) (by omega)
  rw [hZ] at xz
  have T1 := hid (keep_blk D2.out S1.out)
  have T2 := hid (keep_blk D2.out S2.out)
  have TB := hid (SB.out.trans (D2.out.mono SB.out.size))
  obtain ⟨⟨c1a, c2a, c3a, c4a, c5a⟩, w0, w1, w2, w3, w4⟩ := box5I T1.out
  obtain ⟨⟨r0, r1, r2, r3, r4⟩, s0, s1, s2, s3, s4⟩ := box5I T2.out
  have z1 : (0 : Int) ≤ (AL.length : Int) - 1 := by omega
  have z2 : (AL.length : Int) - 1 < (AL.length : Int) := by omega
  have z3 : ((AL.length : Int) - 1).toNat = AL.length - 1 := by omega
  clear haz gz HVZ S0 S1 S2 D0 D1 D2
  go_wp2
  exact bodyPost_ret (v := .agg #[.int .i64 root, .int .i64 Z, .bool false, .int .u32 (sh : Int), .slice ro rl rc]) (by simp [results, Tryz.results41, go_sem, r0, r1, r2, r3, r4]) rfl ⟨rfl, ((((((TB.out.setCell (p := ⟨w.heap.size + 1, 1, none⟩) (by show w.heap.size ≤ w.heap.size + 1; omega) _).setCell (p := ⟨w.heap.size + 1 + 1, 0, none⟩) (by show w.heap.size ≤ w.heap.size + 1 + 1; omega) _).setCell (p := ⟨w.heap.size + 1 + 1, 1, none⟩) (by show w.heap.size ≤ w.heap.size + 1 + 1; omega) _).setCell (p := ⟨w.heap.size + 1 + 1, 2, none⟩) (by show w.heap.size ≤ w.heap.size + 1 + 1; omega) _).setCell (p := ⟨w.heap.size + 1 + 1, 3, none⟩) (by show w.heap.size ≤ w.heap.size + 1 + 1; omega) _).setCell (p := ⟨w.heap.size + 1 + 1, 4, none⟩) (by show w.heap.size ≤ w.heap.size + 1 + 1; omega) _)⟩
set_option maxRecDepth 100000 in
set_option maxHeartbeats 16000000 in
theorem remDt (b off cap n : Nat) (root ref node : Int) (sh : Nat) (ro : Option Addr) (rl rc : Nat) (l IN : List Int) (AH : Nat) (P : Int) (hk : l.length ≤ AH + IN.length) (w : World)
    (C1 : ∀ W : World, Below w.heap.size w W → Calls Tryz.prog 27 #[.agg #[.slice (some ⟨b, off, none⟩) n cap], .int .i64 node, .int .i64 ref] W fun e w' => e = .returned (.bool true) ∧ Below W.heap.size W w')
    (C2 : ∀ W : World, Below w.heap.size w W → Calls Tryz.prog 27 #[.agg #[.slice (some ⟨b, off, none⟩) n cap], .int .i64 node, .int .i64 root] W fun e w' => e = .returned (.bool false) ∧ Below W.heap.size W w')
    (A1 : ∀ W : World, Below w.heap.size w W → Calls Tryz.prog 33 #[.agg #[.slice (some ⟨b, off, none⟩) n cap], .int .i64 (root)] W fun e w' => ∃ v, e = .returned v ∧ RdI w' v l ∧ Below W.heap.size W w')
    (A2 : ∀ W : World, Below w.heap.size w W → Calls Tryz.prog 33 #[.agg #[.slice (some ⟨b, off, none⟩) n cap], .int .i64 (node)] W fun e w' => ∃ v, e = .returned v ∧ RdI w' v IN ∧ Below W.heap.size W w')
    (PL : ∀ (v : Value) (W : World), RdI W v l → Calls Tryz.prog 34 #[v, .int .i64 node] W fun e w' => e = .returned (.int .i64 (AH : Int)) ∧ w' = W) (_hl1 : l.length ≤ 4096) (hl2 : IN.length ≤ 4096) (hl3 : AH ≤ 4096)
    (OF : ∀ W : World, Below w.heap.size w W → Calls Tryz.prog 63 #[.agg #[.slice (some ⟨b, off, none⟩) n cap], .int .i64 node] W fun e w' => ∃ (nd : NodeD) (od : Option Addr) (cd : Nat) (oa : Option Addr) (ca : Nat) (ok : Option Addr) (ck : Nat), nd.parent = P ∧ e = .returned (nodeV nd ⟨.slice od nd.data.length cd, .slice oa nd.attrs.length ca, .slice ok nd.kids.length ck⟩) ∧ Below W.heap.size W w')
    (IX : ∀ W : World, Below w.heap.size w W → Calls Tryz.prog 65 #[.agg #[.slice (some ⟨b, off, none⟩) n cap], .int .i64 node] W fun e w' => e = .returned (.int .i64 0) ∧ Below W.heap.size W w') :
    Calls Tryz.prog 41 #[.agg #[.slice (some ⟨b, off, none⟩) n cap], .agg #[.int .i64 root, .int .i64 ref, .bool true, .int .u32 (sh : Int), .slice ro rl rc], .int .i64 node] w fun e w' => e = .returned (.agg #[.int .i64 root, .int .i64 P, .bool false, .int .u32 (sh : Int), .slice ro rl rc]) ∧ Below w.heap.size w w' := by
  obtain ⟨bx, g0, g1, g2, sx⟩ := three_new w (.cells #[.slice (some ⟨b, off, none⟩) n cap] 24) (.cells #[.int .i64 root, .int .i64 ref, .bool true, .int .u32 (sh : Int), .slice ro rl rc] 30) (.cells #[.int .i64 0, .int .i64 0, .bool false, .int .u32 0, .slice none 0 0] 30)
  have HB0 := hid bx
  have P0_0 := hid g0
  have P1_0 := hid g1
  have P2_0 := hid g2
  have c0a := (box_cell_l g0).1
  obtain ⟨⟨c1a, c2a, c3a, c4a, c5a⟩, _⟩ := box5I g1
  have HC1 := hid C1
  have HC2 := hid C2
  have HA1 := hid A1
  have HA2 := hid A2
  have HPL := hid PL
  have HOF := hid OF
  have HIX := hid IX
  clear bx g0 g1 g2 sx C1 C2 A1 A2 PL OF IX
  go_enter Tryz.func41, Tryz.ntmps41
  go_upto_region 1 with fail
  generalize (((w.alloc (.cells #[.slice (some ⟨b, off, none⟩) n cap] 24)).alloc (.cells #[.int .i64 root, .int .i64 ref, .bool true, .int .u32 (sh : Int), .slice ro rl rc] 30)).alloc (.cells #[.int .i64 0, .int .i64 0, .bool false, .int .u32 0, .slice none 0 0] 30)) = V0 at *
  go_wp2_with fail
  refine (HC1.out V0 HB0.out).mono ?_
  rintro e V1 ⟨rfl, hb⟩
  have HB1 := hid (HB0.out.trans (hb.mono HB0.out.size))
  have P0_1 := hid (keep_blk hb P0_0.out)
  have P1_1 := hid (keep_blk hb P1_0.out)
  have P2_1 := hid (keep_blk hb P2_0.out)
  clear hb HB0 P0_0 P1_0 P2_0 c0a c1a c2a c3a c4a c5a
  have c0a := (box_cell_l P0_1.out).1
  obtain ⟨⟨c1a, c2a, c3a, c4a, c5a⟩, _⟩ := box5I P1_1.out
  go_wp2_with fail
  refine (HC2.out V1 HB1.out).mono ?_
  rintro e V2 ⟨rfl, hb⟩
  have HB2 := hid (HB1.out.trans (hb.mono HB1.out.size))
  have P0_2 := hid (keep_blk hb P0_1.out)
  have P1_2 := hid (keep_blk hb P1_1.out)
  have P2_2 := hid (keep_blk hb P2_1.out)
  clear hb HB1 P0_1 P1_1 P2_1 c0a c1a c2a c3a c4a c5a
  have c0a := (box_cell_l P0_2.out).1
  obtain ⟨⟨c1a, c2a, c3a, c4a, c5a⟩, _⟩ := box5I P1_2.out
  go_wp2_with fail
  refine (HA1.out V2 HB2.out).mono ?_
  rintro e V3 ⟨v, rfl, hv, hb⟩
  have HB3 := hid (HB2.out.trans (hb.mono HB2.out.size))
  have P0_3 := hid (keep_blk hb P0_2.out)
  have P1_3 := hid (keep_blk hb P1_2.out)
  have P2_3 := hid (keep_blk hb P2_2.out)
  have HVv := hid hv
  clear hv
  clear hb HB2 P0_2 P1_2 P2_2 c0a c1a c2a c3a c4a c5a
  have c0a := (box_cell_l P0_3.out).1
  obtain ⟨⟨c1a, c2a, c3a, c4a, c5a⟩, _⟩ := box5I P1_3.out
  go_wp2_with fail
  refine (HA2.out V3 HB3.out).mono ?_
  rintro e V4 ⟨u, rfl, hu, hb⟩
  have HB4 := hid (HB3.out.trans (hb.mono HB3.out.size))
  have P0_4 := hid (keep_blk hb P0_3.out)
  have P1_4 := hid (keep_blk hb P1_3.out)
  have P2_4 := hid (keep_blk hb P2_3.out)
  have HV2 := hid (HVv.out.later hb)
  clear HVv
  clear hb HB3 P0_3 P1_3 P2_3 c0a c1a c2a c3a c4a c5a
  have c0a := (box_cell_l P0_4.out).1
  obtain ⟨⟨c1a, c2a, c3a, c4a, c5a⟩, _⟩ := box5I P1_4.out
  have hPl := HPL.out v V4 HV2.out
  obtain ⟨ou, cu, rfl, hcu, gu⟩ := hu
  obtain ⟨ov, cv, rfl, hcv, gv⟩ := HV2.out
  have GV := hid gv
  clear gu gv HV2
  go_wp2_with fail
  refine hPl.mono ?_
  rintro e V5 ⟨rfl, rfl⟩
  clear hPl
  have sm1 : (0 : Int) ≤ (AH : Int) + (IN.length : Int) := by omega
  have sm2 : (AH : Int) + (IN.length : Int) ≤ 8192 := by omega
  have dk : decide ((AH : Int) + (IN.length : Int) < (l.length : Int)) = false := decide_eq_false (by omega)
  obtain ⟨_, w0, w1, w2, w3, w4⟩ := box5I P1_4.out
  have Q1 := hid (third5 P1_4.out (.bool false))
  have Q0 := hid (blk_far (g := w.heap.size + 1) (j := 2) P0_4.out (.bool false) (by omega))
  have Q2 := hid (blk_far (g := w.heap.size + 1) (j := 2) P2_4.out (.bool false) (by omega))
  have QB := hid (HB4.out.setCell (p := ⟨w.heap.size + 1, 2, none⟩) (by show w.heap.size ≤ w.heap.size + 1; omega) (.bool false))
  clear GV
  go_upto_region 10 with fail
  generalize V5.setCell ⟨w.heap.size + 1, 2, none⟩ (.bool false) = X0 at *
  clear w0 w1 w2 w3 w4 c0a c1a c2a c3a c4a c5a
  have c0a := (box_cell_l Q0.out).1
  go_wp2_with fail
  refine (HOF.out X0 QB.out).mono ?_
  rintro e X1 ⟨nd, od, cd, oa, ca, ok, ck, hpar, rfl, hb⟩
  have R0 := hid (keep_blk hb Q0.out)
  have R1 := hid (keep_blk hb Q1.out)
  have R2 := hid (keep_blk hb Q2.out)
  have RB := hid (QB.out.trans (hb.mono QB.out.size))
  clear hb Q0 Q1 Q2 QB c0a HOF P0_4 P1_4 P2_4 HB4
  unfold nodeV
  have hfl := fld_par nd (.slice od nd.data.length cd) (.slice oa nd.attrs.length ca) (.slice ok nd.kids.length ck)
  rw [hpar] at hfl ⊢
  have c0a := (box_cell_l R0.out).1
  go_wp2_with fail
  refine (HIX.out X1 RB.out).mono ?_
  rintro e X2 ⟨rfl, hb⟩
  have S0 := hid (keep_blk hb R0.out)
  have S1 := hid (keep_blk hb R1.out)
  have S2 := hid (keep_blk hb R2.out)
  have SB := hid (RB.out.trans (hb.mono RB.out.size))
  clear hb R0 R1 R2 RB c0a HIX hfl
  obtain ⟨⟨c1a, c2a, c3a, c4a, c5a⟩, w0, w1, w2, w3, w4⟩ := box5I S1.out
  obtain ⟨⟨r0, r1, r2, r3, r4⟩, s0, s1, s2, s3, s4⟩ := box5I S2.out
  go_wp2
  exact bodyPost_ret (v := .agg #[.int .i64 root, .int .i64 P, .bool false, .int .u32 (sh : Int), .slice ro rl rc]) (by simp [results, Tryz.results41, go_sem, r0, r1, r2, r3, r4]) rfl ⟨rfl, ((((((SB.out.setCell (p := ⟨w.heap.size + 1, 1, none⟩) (by show w.heap.size ≤ w.heap.size + 1; omega) _).setCell (p := ⟨w.heap.size + 1 + 1, 0, none⟩) (by show w.heap.size ≤ w.heap.size + 1 + 1; omega) _).setCell (p := ⟨w.heap.size + 1 + 1, 1, none⟩) (by show w.heap.size ≤ w.heap.size + 1 + 1; omega) _).setCell (p := ⟨w.heap.size + 1 + 1, 2, none⟩) (by show w.heap.size ≤ w.heap.size + 1 + 1; omega) _).setCell (p := ⟨w.heap.size + 1 + 1, 3, none⟩) (by show w.heap.size ≤ w.heap.size + 1 + 1; omega) _).setCell (p := ⟨w.heap.size + 1 + 1, 4, none⟩) (by show w.heap.size ≤ w.heap.size + 1 + 1; omega) _)⟩
set_option maxRecDepth 100000 in
set_option maxHeartbeats 16000000 in
theorem remEt (b off cap n : Nat) (root ref node : Int) (sh : Nat) (ro : Option Addr) (rl rc : Nat) (l IN KS AL : List Int) (AH J : Nat) (P KJ Z : Int) (hJ : J < KS.length) (hJ4 : KS.length ≤ 4096) (hKJ : KS[J] = KJ) (hAL : AL.length ≤ 4096) (hA0 : 0 < AL.length) (hZ : AL[AL.length - 1] = Z) (hk : l.length ≤ AH + IN.length) (w : World)
    (C1 : ∀ W : World, Below w.heap.size w W → Calls Tryz.prog 27 #[.agg #[.slice (some ⟨b, off, none⟩) n cap], .int .i64 node, .int .i64 ref] W fun e w' => e = .returned (.bool true) ∧ Below W.heap.size W w')
    (C2 : ∀ W : World, Below w.heap.size w W → Calls Tryz.prog 27 #[.agg #[.slice (some ⟨b, off, none⟩) n cap], .int .i64 node, .int .i64 root] W fun e w' => e = .returned (.bool false) ∧ Below W.heap.size W w')
    (A1 : ∀ W : World, Below w.heap.size w W → Calls Tryz.prog 33 #[.agg #[.slice (some ⟨b, off, none⟩) n cap], .int .i64 (root)] W fun e w' => ∃ v, e = .returned v ∧ RdI w' v l ∧ Below W.heap.size W w')
    (A2 : ∀ W : World, Below w.heap.size w W → Calls Tryz.prog 33 #[.agg #[.slice (some ⟨b, off, none⟩) n cap], .int .i64 (node)] W fun e w' => ∃ v, e = .returned v ∧ RdI w' v IN ∧ Below W.heap.size W w')
    (PL : ∀ (v : Value) (W : World), RdI W v l → Calls Tryz.prog 34 #[v, .int .i64 node] W fun e w' => e = .returned (.int .i64 (AH : Int)) ∧ w' = W) (_hl1 : l.length ≤ 4096) (hl2 : IN.length ≤ 4096) (hl3 : AH ≤ 4096)
    (OF : ∀ W : World, Below w.heap.size w W → Calls Tryz.prog 63 #[.agg #[.slice (some ⟨b, off, none⟩) n cap], .int .i64 node] W fun e w' => ∃ (nd : NodeD) (od : Option Addr) (cd : Nat) (oa : Option Addr) (ca : Nat) (ok : Option Addr) (ck : Nat), nd.parent = P ∧ e = .returned (nodeV nd ⟨.slice od nd.data.length cd, .slice oa nd.attrs.length ca, .slice ok nd.kids.length ck⟩) ∧ Below W.heap.size W w')
    (IX : ∀ W : World, Below w.heap.size w W → Calls Tryz.prog 65 #[.agg #[.slice (some ⟨b, off, none⟩) n cap], .int .i64 node] W fun e w' => e = .returned (.int .i64 ((J : Int) + 1)) ∧ Below W.heap.size W w')
    (OP : ∀ W : World, Below w.heap.size w W → Calls Tryz.prog 63 #[.agg #[.slice (some ⟨b, off, none⟩) n cap], .int .i64 P] W fun e w' => ∃ (nd : NodeD) (od : Option Addr) (cd : Nat) (oa : Option Addr) (ca : Nat) (ok : Option Addr) (ck : Nat), nd.kids = KS ∧ e = .returned (nodeV nd ⟨.slice od nd.data.length cd, .slice oa nd.attrs.length ca, .slice ok nd.kids.length ck⟩) ∧ RdI w (.slice ok nd.kids.length ck) KS ∧ Below W.heap.size W w')
    (A3 : ∀ W : World, Below w.heap.size w W → Calls Tryz.prog 33 #[.agg #[.slice (some ⟨b, off, none⟩) n cap], .int .i64 KJ] W fun e w' => ∃ v, e = .returned v ∧ RdI w' v AL ∧ Below W.heap.size W w') :
    Calls Tryz.prog 41 #[.agg #[.slice (some ⟨b, off, none⟩) n cap], .agg #[.int .i64 root, .int .i64 ref, .bool true, .int .u32 (sh : Int), .slice ro rl rc], .int .i64 node] w fun e w' => e = .returned (.agg #[.int .i64 root, .int .i64 Z, .bool false, .int .u32 (sh : Int), .slice ro rl rc]) ∧ Below w.heap.size w w' := by
  obtain ⟨bx, g0, g1, g2, sx⟩ := three_new w (.cells #[.slice (some ⟨b, off, none⟩) n cap] 24) (.cells #[.int .i64 root, .int .i64 ref, .bool true, .int .u32 (sh : Int), .slice ro rl rc] 30) (.cells #[.int .i64 0, .int .i64 0, .bool false, .int .u32 0, .slice none 0 0] 30)
  have HB0 := hid bx
  have P0_0 := hid g0
  have P1_0 := hid g1
  have P2_0 := hid g2
  have c0a := (box_cell_l g0).1
  obtain ⟨⟨c1a, c2a, c3a, c4a, c5a⟩, _⟩ := box5I g1
  have HC1 := hid C1
  have HC2 := hid C2
  have HA1 := hid A1
  have HA2 := hid A2
  have HPL := hid PL
  have HOF := hid OF
  have HIX := hid IX
  have HOP := hid OP
  have HA3 := hid A3
  clear bx g0 g1 g2 sx C1 C2 A1 A2 PL OF IX OP A3
  go_enter Tryz.func41, Tryz.ntmps41
  go_upto_region 1 with fail
  generalize (((w.alloc (.cells #[.slice (some ⟨b, off, none⟩) n cap] 24)).alloc (.cells #[.int .i64 root, .int .i64 ref, .bool true, .int .u32 (sh : Int), .slice ro rl rc] 30)).alloc (.cells #[.int .i64 0, .int .i64 0, .bool false, .int .u32 0, .slice none 0 0] 30)) = V0 at *
  go_wp2_with fail
  refine (HC1.out V0 HB0.out).mono ?_
  rintro e V1 ⟨rfl, hb⟩
  have HB1 := hid (HB0.out.trans (hb.mono HB0.out.size))
  have P0_1 := hid (keep_blk hb P0_0.out)
  have P1_1 := hid (keep_blk hb P1_0.out)
  have P2_1 := hid (keep_blk hb P2_0.out)
  clear hb HB0 P0_0 P1_0 P2_0 c0a c1a c2a c3a c4a c5a
  have c0a := (box_cell_l P0_1.out).1
  obtain ⟨⟨c1a, c2a, c3a, c4a, c5a⟩, _⟩ := box5I P1_1.out
  go_wp2_with fail
  refine (HC2.out V1 HB1.out).mono ?_
  rintro e V2 ⟨rfl, hb⟩
  have HB2 := hid (HB1.out.trans (hb.mono HB1.out.size))
  have P0_2 := hid (keep_blk hb P0_1.out)
  have P1_2 := hid (keep_blk hb P1_1.out)
  have P2_2 := hid (keep_blk hb P2_1.out)
  clear hb HB1 P0_1 P1_1 P2_1 c0a c1a c2a c3a c4a c5a
  have c0a := (box_cell_l P0_2.out).1
  obtain ⟨⟨c1a, c2a, c3a, c4a, c5a⟩, _⟩ := box5I P1_2.out
  go_wp2_with fail
  refine (HA1.out V2 HB2.out).mono ?_
  rintro e V3 ⟨v, rfl, hv, hb⟩
  have HB3 := hid (HB2.out.trans (hb.mono HB2.out.size))
  have P0_3 := hid (keep_blk hb P0_2.out)
  have P1_3 := hid (keep_blk hb P1_2.out)
  have P2_3 := hid (keep_blk hb P2_2.out)
  have HVv := hid hv
  clear hv
  clear hb HB2 P0_2 P1_2 P2_2 c0a c1a c2a c3a c4a c5a
  have c0a := (box_cell_l P0_3.out).1
  obtain ⟨⟨c1a, c2a, c3a, c4a, c5a⟩, _⟩ := box5I P1_3.out
  go_wp2_with fail
  refine (HA2.out V3 HB3.out).mono ?_
  rintro e V4 ⟨u, rfl, hu, hb⟩
  have HB4 := hid (HB3.out.trans (hb.mono HB3.out.size))
  have P0_4 := hid (keep_blk hb P0_3.out)
  have P1_4 := hid (keep_blk hb P1_3.out)
  have P2_4 := hid (keep_blk hb P2_3.out)
  have HV2 := hid (HVv.out.later hb)
  clear HVv
  clear hb HB3 P0_3 P1_3 P2_3 c0a c1a c2a c3a c4a c5a
  have c0a := (box_cell_l P0_4.out).1
  obtain ⟨⟨c1a, c2a, c3a, c4a, c5a⟩, _⟩ := box5I P1_4.out
  have hPl := HPL.out v V4 HV2.out
  obtain ⟨ou, cu, rfl, hcu, gu⟩ := hu
  obtain ⟨ov, cv, rfl, hcv, gv⟩ := HV2.out
  have GV := hid gv
  clear gu gv HV2
  go_wp2_with fail
  refine hPl.mono ?_
  rintro e V5 ⟨rfl, rfl⟩
  clear hPl
  have sm1 : (0 : Int) ≤ (AH : Int) + (IN.length : Int) := by omega
  have sm2 : (AH : Int) + (IN.length : Int) ≤ 8192 := by omega
  have dk : decide ((AH : Int) + (IN.length : Int) < (l.length : Int)) = false := decide_eq_false (by omega)
  obtain ⟨_, w0, w1, w2, w3, w4⟩ := box5I P1_4.out
  have Q1 := hid (third5 P1_4.out (.bool false))
  have Q0 := hid (blk_far (g := w.heap.size + 1) (j := 2) P0_4.out (.bool false) (by omega))
  have Q2 := hid (blk_far (g := w.heap.size + 1) (j := 2) P2_4.out (.bool false) (by omega))
  have QB := hid (HB4.out.setCell (p := ⟨w.heap.size + 1, 2, none⟩) (by show w.heap.size ≤ w.heap.size + 1; omega) (.bool false))
  clear GV
  go_upto_region 10 with fail
  generalize V5.setCell ⟨w.heap.size + 1, 2, none⟩ (.bool false) = X0 at *
  clear w0 w1 w2 w3 w4 c0a c1a c2a c3a c4a c5a
  have c0a := (box_cell_l Q0.out).1
  go_wp2_with fail
  refine (HOF.out X0 QB.out).mono ?_
  rintro e X1 ⟨nd, od, cd, oa, ca, ok, ck, hpar, rfl, hb⟩
  have R0 := hid (keep_blk hb Q0.out)
  have R1 := hid (keep_blk hb Q1.out)
  have R2 := hid (keep_blk hb Q2.out)
  have RB := hid (QB.out.trans (hb.mono QB.out.size))
  clear hb Q0 Q1 Q2 QB c0a HOF P0_4 P1_4 P2_4 HB4
  unfold nodeV
  have hfl := fld_par nd (.slice od nd.data.length cd) (.slice oa nd.attrs.length ca) (.slice ok nd.kids.length ck)
  rw [hpar] at hfl ⊢
  have c0a := (box_cell_l R0.out).1
  go_wp2_with fail
  refine (HIX.out X1 RB.out).mono ?_
  rintro e X2 ⟨rfl, hb⟩
  have S0 := hid (keep_blk hb R0.out)
  have S1 := hid (keep_blk hb R1.out)
  have S2 := hid (keep_blk hb R2.out)
  have SB := hid (RB.out.trans (hb.mono RB.out.size))
  clear hb R0 R1 R2 RB c0a HIX hfl
  obtain ⟨⟨c1a, c2a, c3a, c4a, c5a⟩, w0, w1, w2, w3, w4⟩ := box5I S1.out
  have e0 : (((J : Int) + 1) == 0) = false := beq_eq_false_iff_ne.2 (by omega)
  clear c1a c2a c3a c4a c5a w0 w1 w2 w3 w4
  go_upto_region 15 with fail
  refine wp_region_held_drew (S := fun W => Below X2.heap.size X2 W) (by kernel_rfl) (below_drew X2) (fun hHeld => ?_)
  have D0 := hid (below_drew X2)
  generalize X2.drew = Y0 at *
  have sj : IntKind.i64.wrap (J : Int) = (J : Int) := wrap_j _ (by omega) (by omega)
  refine wpAnyH_one 0 67 (.agg #[.slice (some ⟨b, off, none⟩) n cap]) hHeld rfl rfl (by kernel_rfl) (fun _ _ _ _ _ h => h) (by kernel_rfl) (by kernel_rfl) (by rfl) ?_ ?_
  · intro V hSw; (try dsimp only at hSw); have cf := (box_cell_l (keep_blk hSw S0.out)).1; go_simp
  simp only [Act.put, List.setIfInBounds_toArray, List.set_cons_zero, List.set_cons_succ]
  refine wpAnyH_one 1 68 (.agg #[.slice (some ⟨b, off, none⟩) n cap]) hHeld rfl rfl (by kernel_rfl) (fun _ _ _ _ _ h => h) (by kernel_rfl) (by kernel_rfl) (by rfl) ?_ ?_
  · intro V hSw; (try dsimp only at hSw); have cf := (box_cell_l (keep_blk hSw S0.out)).1; go_simp
  simp only [Act.put, List.setIfInBounds_toArray, List.set_cons_zero, List.set_cons_succ]
  refine wpAnyH_one 2 69 (.int .i64 P) hHeld rfl rfl (by kernel_rfl) (fun _ _ _ _ _ h => h) (by kernel_rfl) (by kernel_rfl) (by rfl) ?_ ?_
  · intro V hSw; (try dsimp only at hSw); go_simp
  simp only [Act.put, List.setIfInBounds_toArray, List.set_cons_zero, List.set_cons_succ]
  refine wpAnyH_one 5 72 (.int .i64 ((J : Int) + 1)) hHeld rfl rfl (by kernel_rfl) (fun _ _ _ _ _ h => h) (by kernel_rfl) (by kernel_rfl) (by rfl) ?_ ?_
  · intro V hSw; (try dsimp only at hSw); go_simp
  simp only [Act.put, List.setIfInBounds_toArray, List.set_cons_zero, List.set_cons_succ]
  refine wpAnyH_one 6 73 (.int .i64 (J : Int)) hHeld rfl rfl (by kernel_rfl) (fun _ _ _ _ _ h => h) (by kernel_rfl) (by kernel_rfl) (by rfl) ?_ ?_
  · intro V hSw; (try dsimp only at hSw); go_simp
  simp only [Act.put, List.setIfInBounds_toArray, List.set_cons_zero, List.set_cons_succ]
  refine wpAnyH_ready (rs := [3]) (by kernel_rfl) (by simp) ?_
  refine AllReadyH.cons rfl (fun K hK => ?_) AllReadyH.nil
  go_simp
  go_wp2_with (go_at_call 63; refine (HOP.out Y0 (SB.out.trans (D0.out.mono SB.out.size))).mono ?_; rintro e Y1 ⟨n2, od2, cd2, oa2, ca2, ok2, ck2, hks, rfl, hrd, hb⟩; have D1 := hid (D0.out.trans (hb.mono D0.out.size)); have HRD := hid hrd; have HKS := hid hks; have hnv : nodeV n2 ⟨.slice od2 n2.data.length cd2, .slice oa2 n2.attrs.length ca2, .slice ok2 n2.kids.length ck2⟩ = .agg #[.int .u8 (n2.kind : Int), .string n2.space, .string n2.pre, .string n2.loc, .string n2.pub, .string n2.sys, .slice od2 n2.data.length cd2, .slice oa2 n2.attrs.length ca2, .int .i64 n2.parent, .slice ok2 n2.kids.length ck2, .int .i64 n2.doc, .int .i64 n2.host, .int .i64 n2.shadow, .int .u8 (n2.mode : Int), .bool n2.manual, .bool n2.html] := rfl; rw [hnv])
  refine hK.out _ _ D1.out (fun hHeld => ?_)
  clear hK K hb hrd hks hnv
  have hfk := fld_kids n2 (.slice od2 n2.data.length cd2) (.slice oa2 n2.attrs.length ca2) (.slice ok2 KS.length ck2)
  refine wpAnyH_one 4 71 (.slice ok2 KS.length ck2) hHeld rfl rfl (by kernel_rfl) (fun _ _ _ _ _ h => h) (by kernel_rfl) (by kernel_rfl) (by rfl) ?_ ?_
  · intro V hSw; (try dsimp only at hSw); go_simp
  simp only [Act.put, List.setIfInBounds_toArray, List.set_cons_zero, List.set_cons_succ]
  obtain ⟨o3, c3, he3, hc3, g3⟩ := HRD.out
  obtain ⟨b3, off3, ho3, hlt3, ha3⟩ := g3 (by omega)
  obtain ⟨rfl, rfl⟩ : o3 = ok2 ∧ c3 = ck2 := by simp only [Value.slice.injEq] at he3; exact ⟨he3.1.symm, he3.2.2.symm⟩
  subst ho3
  have x3 := ha3 J hJ
  rw [hKJ] at x3
  have HX3 := hid x3
  have HL3 := hid hlt3
  have j1 : (0 : Int) ≤ (J : Int) := by omega
  have j2 : (J : Int) < (KS.length : Int) := by omega
  clear g3 ha3 x3 hlt3 hfk he3 HRD HKS
  refine wpAnyH_one 7 74 (.pointer (some ⟨b3, off3 + J, none⟩)) hHeld rfl rfl (by kernel_rfl) (fun _ _ _ _ _ h => h) (by kernel_rfl) (by kernel_rfl) (by rfl) ?_ ?_
  · intro V hSw; (try dsimp only at hSw); go_simp
  simp only [Act.put, List.setIfInBounds_toArray, List.set_cons_zero, List.set_cons_succ]
  refine wpAnyH_one 8 75 (.int .i64 KJ) hHeld rfl rfl (by kernel_rfl) (fun _ _ _ _ _ h => h) (by kernel_rfl) (by kernel_rfl) (by rfl) ?_ ?_
  · intro V hSw; (try dsimp only at hSw); have cx := ((SB.out.trans (hSw.mono SB.out.size)).cell (p := ⟨b3, off3 + J, none⟩) HL3.out).trans HX3.out; go_simp
  simp only [Act.put, List.setIfInBounds_toArray, List.set_cons_zero, List.set_cons_succ]
  refine wpAnyH_ready (rs := [9]) (by kernel_rfl) (by simp) ?_
  refine AllReadyH.cons rfl (fun K hK => ?_) AllReadyH.nil
  go_simp
  go_wp2_with (go_at_call 33; refine (HA3.out Y1 (SB.out.trans (D1.out.mono SB.out.size))).mono ?_; rintro e Y2 ⟨vz, rfl, hvz, hb⟩; have D2 := hid (D1.out.trans (hb.mono D1.out.size)); have HVZ := hid hvz)
  refine hK.out _ _ D2.out (fun hHeld => ?_)
  clear hK K hb hvz
  refine wpAnyH_one 10 12 (vz) hHeld rfl rfl (by kernel_rfl) (fun _ _ _ _ _ h => h) (by kernel_rfl) (by kernel_rfl) (by rfl) ?_ ?_
  · intro V hSw; (try dsimp only at hSw); go_simp
  simp only [Act.put, List.setIfInBounds_toArray, List.set_cons_zero, List.set_cons_succ]
  refine wpAnyH_done (by kernel_rfl) ?_ _
  obtain ⟨oz, cz, rfl, hcz, gz⟩ := HVZ.out
  obtain ⟨bz, offz, rfl, hltz, haz⟩ := gz hA0
  have xz := haz (AL.length - 1) (by omega)
  rw [hZ] at xz
  have T1 := hid (keep_blk D2.out S1.out)
  have T2 := hid (keep_blk D2.out S2.out)
  have TB := hid (SB.out.trans (D2.out.mono SB.out.size))
  obtain ⟨⟨c1a, c2a, c3a, c4a, c5a⟩, w0, w1, w2, w3, w4⟩ := box5I T1.out
  obtain ⟨⟨r0, r1, r2, r3, r4⟩, s0, s1, s2, s3, s4⟩ := box5I T2.out
  have z1 : (0 : Int) ≤ (AL.length : Int) - 1 := by omega
  have z2 : (AL.length : Int) - 1 < (AL.length : Int) := by omega
  have z3 : ((AL.length : Int) - 1).toNat = AL.length - 1 := by omega
  clear haz gz HVZ S0 S1 S2 D0 D1 D2
  go_wp2
  exact bodyPost_ret (v := .agg #[.int .i64 root, .int .i64 Z, .bool false, .int .u32 (sh : Int), .slice ro rl rc]) (by simp [results, Tryz.results41, go_sem, r0, r1, r2, r3, r4]) rfl ⟨rfl, ((((((TB.out.setCell (p := ⟨w.heap.size + 1, 1, none⟩) (by show w.heap.size ≤ w.heap.size + 1; omega) _).setCell (p := ⟨w.heap.size + 1 + 1, 0, none⟩) (by show w.heap.size ≤ w.heap.size + 1 + 1; omega) _).setCell (p := ⟨w.heap.size + 1 + 1, 1, none⟩) (by show w.heap.size ≤ w.heap.size + 1 + 1; omega) _).setCell (p := ⟨w.heap.size + 1 + 1, 2, none⟩) (by show w.heap.size ≤ w.heap.size + 1 + 1; omega) _).setCell (p := ⟨w.heap.size + 1 + 1, 3, none⟩) (by show w.heap.size ≤ w.heap.size + 1 + 1; omega) _).setCell (p := ⟨w.heap.size + 1 + 1, 4, none⟩) (by show w.heap.size ≤ w.heap.size + 1 + 1; omega) _)⟩
end Go.Proofs.YticenjhhefiboaaGreat

namespace Go.Proofs.YticenjhhefiboaaGreat
open Go.RowKit Go.Lib Go.Shelf

theorem last_get {l : List Int} (h : 0 < l.length) : l[l.length - 1]'(by omega) = lastI l := by
  have hne : l ≠ [] := fun e => by rw [e] at h; exact absurd h (by simp)
  obtain ⟨c, z, rfl⟩ : ∃ c z, l = c ++ [z] := ⟨_, _, (List.dropLast_concat_getLast hne).symm⟩
  unfold lastI
  rw [List.getLastD_concat]
  simp
section
variable (b off cap : Nat) (ns : List NodeD) (w : World)
theorem of_parent (hF : FAt w b off cap ns) {node : Int} (hn : thereB ns.length node = true) (W : World) (hW : Below w.heap.size w W) :
    Calls Tryz.prog 63 #[.agg #[.slice (some ⟨b, off, none⟩) ns.length cap], .int .i64 node] W fun e w' => ∃ (nd : NodeD) (od : Option Addr) (cd : Nat) (oa : Option Addr) (ca : Nat) (ok : Option Addr) (ck : Nat), nd.parent = parentD ns node ∧ e = .returned (nodeV nd ⟨.slice od nd.data.length cd, .slice oa nd.attrs.length ca, .slice ok nd.kids.length ck⟩) ∧ Below W.heap.size W w' := by
  obtain ⟨j, hj, rfl⟩ := there_idx hn
  refine (refOf_at b off cap j ns w W hF hW hj).mono ?_
  rintro e w' ⟨L, rfl, h1, h2, h3, hb⟩
  obtain ⟨od, cd, oa, ca, ok, ck, rfl⟩ := lists_slices h1 h2 h3
  exact ⟨ns[j], od, cd, oa, ca, ok, ck, (parentD_at ns j hj).symm, rfl, hb⟩
theorem of_kids (hF : FAt w b off cap ns) {p : Int} (hp : thereB ns.length p = true) (W : World) (hW : Below w.heap.size w W) :
    Calls Tryz.prog 63 #[.agg #[.slice (some ⟨b, off, none⟩) ns.length cap], .int .i64 p] W fun e w' => ∃ (nd : NodeD) (od : Option Addr) (cd : Nat) (oa : Option Addr) (ca : Nat) (ok : Option Addr) (ck : Nat), nd.kids = kidsD ns p ∧ e = .returned (nodeV nd ⟨.slice od nd.data.length cd, .slice oa nd.attrs.length ca, .slice ok nd.kids.length ck⟩) ∧ RdI w (.slice ok nd.kids.length ck) (kidsD ns p) ∧ Below W.heap.size W w' := by
  obtain ⟨j, hj, rfl⟩ := there_idx hp
  refine (refOf_at b off cap j ns w W hF hW hj).mono ?_
  rintro e w' ⟨L, rfl, h1, h2, h3, hb⟩
  obtain ⟨od, cd, oa, ca, ok, ck, rfl⟩ := lists_slices h1 h2 h3
  have hkd : kidsD ns ((j : Int) + 1) = ns[j].kids := by unfold kidsD; rw [nodeOf_at ns j hj]
  rw [hkd]
  exact ⟨ns[j], od, cd, oa, ca, ok, ck, rfl, rfl, h3, hb⟩
theorem refRem_any (root ref node : Int) (bef : Bool) (sh : Nat) (ro : Option Addr) (rl rc : Nat) (hR : RightF ns) (hF : FAt w b off cap ns) (hkl : ∀ (i : Nat) (hi : i < ns.length), ns[i].kids.length ≤ 1099511627776) (hr : thereB ns.length root = true) (hx : thereB ns.length ref = true) (hin : root ∈ pathUp ns (parentD ns) ref) (hn : thereB ns.length node = true) :
    Calls Tryz.prog 41 #[.agg #[.slice (some ⟨b, off, none⟩) ns.length cap], .agg #[.int .i64 root, .int .i64 ref, .bool bef, .int .u32 (sh : Int), .slice ro rl rc], .int .i64 node] w fun e w' => e = .returned (.agg #[.int .i64 root, .int .i64 (remR ns root ref bef node).1, .bool (remR ns root ref bef node).2, .int .u32 (sh : Int), .slice ro rl rc]) ∧ Below w.heap.size w w' := by
  have hC1 : ∀ W : World, Below w.heap.size w W → _ := fun W hW => refContains_any b off cap node ref ns W hR (hF.later hW) hx
  have hC2 : ∀ W : World, Below w.heap.size w W → _ := fun W hW => refContains_any b off cap node root ns W hR (hF.later hW) hr
  cases c1 : containsD ns node ref with
  | false =>
    rw [c1] at hC1
    rw [rem_out hR hn hr hx (.inl c1)]
    exact remA b off cap ns.length root ref node bef sh ro rl rc w hC1
  | true =>
    rw [c1] at hC1
    cases c2 : containsD ns node root with
    | true =>
      rw [c2] at hC2
      rw [rem_out hR hn hr hx (.inr c2)]
      exact remB b off cap ns.length root ref node bef sh ro rl rc w hC1 hC2
    | false =>
      rw [c2] at hC2
      obtain ⟨hrn, hp0, hrem⟩ := rem_in (bef := bef) hR hn hr hx hin c1 c2
      rw [hrem]
      have hA1 : ∀ W : World, Below w.heap.size w W → _ := fun W hW => refAll_any b off cap root ns W hR (hF.later hW) hkl hr
      have hA2 : ∀ W : World, Below w.heap.size w W → _ := fun W hW => refAll_any b off cap node ns W hR (hF.later hW) hkl hn
      have l1 : (allD ns root).length ≤ 4096 := Nat.le_trans (hR.kidsHang.below_len _ root hr (by omega)) hR.small
      have l2 : (allD ns node).length ≤ 4096 := Nat.le_trans (hR.kidsHang.below_len _ node hn (by omega)) hR.small
      have hpl : idxI (allD ns root) node 0 = ((aheadA ns root node).length : Int) := all_place hR hr hn hrn
      have hPL : ∀ (v : Value) (W : World), RdI W v (allD ns root) → Calls Tryz.prog 34 #[v, .int .i64 node] W fun e w' => e = .returned (.int .i64 ((aheadA ns root node).length : Int)) ∧ w' = W := fun v W hv => by
        rw [← hpl]
        exact refPlace_any v (allD ns root) node W hv (by omega)
      have l3 : (aheadA ns root node).length ≤ 4096 := by
        have := congrArg List.length (all_parts hR hr hn hrn)
        rw [List.length_append, List.length_reverse] at this
        have h4 : (allA ns root).length ≤ 4096 := l1
        omega
      obtain ⟨nx0, nx1⟩ := next_at hR hr hn hrn
      obtain ⟨j, hj, hix, _, hpt⟩ := kid_place hR hn hp0
      obtain ⟨pv0, pv1⟩ := prev_at hR hn hp0
      have hOF : ∀ W : World, Below w.heap.size w W → _ := fun W hW => of_parent b off cap ns w hF hn W hW
      have hIX : ∀ W : World, Below w.heap.size w W → _ := fun W hW => refIndex_any b off cap node ns W hR (hF.later hW) hn hkl
      have hOP : ∀ W : World, Below w.heap.size w W → _ := fun W hW => of_kids b off cap ns w hF hpt W hW
      rw [hix] at hIX pv0 pv1
      have hks : (kidsD ns (parentD ns node)).length ≤ 4096 := by
        obtain ⟨q, hq, e⟩ := there_idx hpt
        rw [e]
        unfold kidsD
        rw [nodeOf_at ns q hq]
        exact hR.kids_len q hq
      have fin : ∀ bf : Bool, (bf = true → (allD ns root).length ≤ (aheadA ns root node).length + (allD ns node).length) → Calls Tryz.prog 41 #[.agg #[.slice (some ⟨b, off, none⟩) ns.length cap], .agg #[.int .i64 root, .int .i64 ref, .bool bf, .int .u32 (sh : Int), .slice ro rl rc], .int .i64 node] w fun e w' => e = .returned (.agg #[.int .i64 root, .int .i64 (aheadC ns 0 node), .bool false, .int .u32 (sh : Int), .slice ro rl rc]) ∧ Below w.heap.size w w' := fun bf hbf => by
        cases j with
        | zero =>
          rw [pv0 rfl]
          cases bf with
          | false => exact remDf b off cap ns.length root ref node sh ro rl rc (allD ns root) (allD ns node) _ (parentD ns node) w hC1 hC2 hA1 hA2 hPL l1 l2 l3 hOF hIX
          | true => exact remDt b off cap ns.length root ref node sh ro rl rc (allD ns root) (allD ns node) _ (parentD ns node) (hbf rfl) w hC1 hC2 hA1 hA2 hPL l1 l2 l3 hOF hIX
        | succ k =>
          obtain ⟨hkt, hpv⟩ := pv1 k (by omega)
          have hk2 : k < (kidsD ns (parentD ns node)).length := by omega
          have hg : (kidsD ns (parentD ns node)).getD k 0 = (kidsD ns (parentD ns node))[k] := by rw [List.getD_eq_getElem?_getD, List.getElem?_eq_getElem hk2]; rfl
          rw [hg] at hkt hpv
          rw [hpv]
          have hA3 : ∀ W : World, Below w.heap.size w W → _ := fun W hW => refAll_any b off cap ((kidsD ns (parentD ns node))[k]) ns W hR (hF.later hW) hkl hkt
          have la : (allD ns ((kidsD ns (parentD ns node))[k])).length ≤ 4096 := Nat.le_trans (hR.kidsHang.below_len _ _ hkt (by omega)) hR.small
          have l0 : 0 < (allD ns ((kidsD ns (parentD ns node))[k])).length := by
            have : allD ns ((kidsD ns (parentD ns node))[k]) = _ := all_consI hR hkt
            rw [this]
            simp
          have hIX2 : ∀ W : World, Below w.heap.size w W → Calls Tryz.prog 65 #[.agg #[.slice (some ⟨b, off, none⟩) ns.length cap], .int .i64 node] W fun e w' => e = .returned (.int .i64 ((k : Int) + 1)) ∧ Below W.heap.size W w' := fun W hW => hIX W hW
          cases bf with
          | false => exact remEf b off cap ns.length root ref node sh ro rl rc (allD ns root) (allD ns node) _ (allD ns ((kidsD ns (parentD ns node))[k])) _ k (parentD ns node) _ _ hk2 hks rfl la l0 (last_get l0) w hC1 hC2 hA1 hA2 hPL l1 l2 l3 hOF hIX2 hOP hA3
          | true => exact remEt b off cap ns.length root ref node sh ro rl rc (allD ns root) (allD ns node) _ (allD ns ((kidsD ns (parentD ns node))[k])) _ k (parentD ns node) _ _ hk2 hks rfl la l0 (last_get l0) (hbf rfl) w hC1 hC2 hA1 hA2 hPL l1 l2 l3 hOF hIX2 hOP hA3
      by_cases h0 : (tourA ns root false).over node = 0
      · rw [decide_eq_true h0, Bool.not_true, Bool.and_false, if_neg Bool.false_ne_true]
        exact fin bef (fun _ => nx0 h0)
      · cases bef with
        | false => exact fin false (fun e => by cases e)
        | true =>
          rw [decide_eq_false h0]
          obtain ⟨hk, ho⟩ := nx1 h0
          exact remC b off cap ns.length root ref node sh ro rl rc (allD ns root) (allD ns node) _ _ hk ho w hC1 hC2 hA1 hA2 hPL l1 l2 l3
end
end Go.Proofs.YticenjhhefiboaaGreat

namespace Go.Proofs.YticenjhhefiboaaGreat
open Go.RowKit Go.Lib Go.Shelf

theorem told_node {ns : List NodeD} (h : RightF ns) (node : Int) : toldE ns [node] = if thereB ns.length node then 0 else 2 := by
  unfold toldE
  rw [(rightD_iff ns).2 h, if_pos rfl]
  cases hn : thereB ns.length node <;> simp [hn]
set_option maxRecDepth 100000 in
set_option maxHeartbeats 16000000 in
theorem refIRemE_any (o : Option Addr) (cap : Nat) (ns : List NodeD) (root ref : Int) (bef : Bool) (sh : Nat) (ro : Option Addr) (rc : Nat) (rules : List RuleD) (node : Int) (w : World) (hF : FRd w o cap ns) (hkl : ∀ (i : Nat) (hi : i < ns.length), ns[i].kids.length ≤ 1099511627776) (hal : ∀ (i : Nat) (hi : i < ns.length), ns[i].attrs.length ≤ 1099511627776) (hru : RdR w (.slice ro rules.length rc) rules) (hrl : rules.length ≤ 1099511627776) (hs : sh < 4294967296) (hc : iterC ns root ref rules ≠ 0) :
    Calls Tryz.prog 18 #[.agg #[.slice o ns.length cap], .agg #[.int .i64 root, .int .i64 ref, .bool bef, .int .u32 (sh : Int), .slice ro rules.length rc], .int .i64 node] w fun e w' => e = .returned (.tuple #[.agg #[.int .i64 0, .int .i64 0, .bool false, .int .u32 0, .slice none 0 0], .int .i64 (iterC ns root ref rules)]) ∧ Below w.heap.size w w' := by
  have HC : Hid (∀ W : World, Below w.heap.size w W → _) := fun W hW => refICheck_any o cap ns root ref bef sh ro rc rules W (hF.later hW) hkl hal (hru.later hW) hrl hs
  have n0 : (iterC ns root ref rules == 0) = false := beq_eq_false_iff_ne.2 hc
  have n1 : (iterC ns root ref rules != 0) = true := by rw [bne, n0]; rfl
  obtain ⟨bx, g0, g1, g2, sx⟩ := three_new w (.cells #[.slice o ns.length cap] 24) (.cells #[.int .i64 root, .int .i64 ref, .bool bef, .int .u32 (sh : Int), .slice ro rules.length rc] 30) (.cells #[.int .i64 0, .int .i64 0, .bool false, .int .u32 0, .slice none 0 0] 30)
  have HB0 := hid bx
  have H0 := hid g0
  have H1 := hid g1
  have H2 := hid g2
  have c0 := (box_cell_l g0).1
  obtain ⟨⟨i0, i1, i2, i3, i4⟩, _⟩ := box5I g1
  clear bx g0 g1 g2 sx hF hkl hal hru hc
  generalize iterC ns root ref rules = E at *
  go_enter Tryz.func18, Tryz.ntmps18
  go_upto_region 1 with fail
  generalize (((w.alloc (.cells #[.slice o ns.length cap] 24)).alloc (.cells #[.int .i64 root, .int .i64 ref, .bool bef, .int .u32 (sh : Int), .slice ro rules.length rc] 30)).alloc (.cells #[.int .i64 0, .int .i64 0, .bool false, .int .u32 0, .slice none 0 0] 30)) = W0 at *
  go_wp2_with fail
  refine (HC.out _ HB0.out).mono ?_
  rintro e v1 ⟨rfl, hb⟩
  have J0 := hid (keep_blk hb H0.out)
  have J1 := hid (keep_blk hb H1.out)
  have J2 := hid (keep_blk hb H2.out)
  have HB1 := hid (HB0.out.trans (hb.mono HB0.out.size))
  have d0 := (box_cell_l J0.out).1
  clear HC HB0 H0 H1 H2 hb c0 i0 i1 i2 i3 i4
  obtain ⟨⟨r0, r1, r2, r3, r4⟩, s0, s1, s2, s3, s4⟩ := box5I J2.out
  go_wp2
  exact bodyPost_ret (v := .tuple #[.agg #[.int .i64 0, .int .i64 0, .bool false, .int .u32 0, .slice none 0 0], .int .i64 E]) (by simp [results, Tryz.results18, go_sem, r0, r1, r2, r3, r4]) rfl ⟨rfl, (((((HB1.out.setCell (p := ⟨w.heap.size + 1 + 1, 0, none⟩) (by show w.heap.size ≤ w.heap.size + 1 + 1; omega) _).setCell (p := ⟨w.heap.size + 1 + 1, 1, none⟩) (by show w.heap.size ≤ w.heap.size + 1 + 1; omega) _).setCell (p := ⟨w.heap.size + 1 + 1, 2, none⟩) (by show w.heap.size ≤ w.heap.size + 1 + 1; omega) _).setCell (p := ⟨w.heap.size + 1 + 1, 3, none⟩) (by show w.heap.size ≤ w.heap.size + 1 + 1; omega) _).setCell (p := ⟨w.heap.size + 1 + 1, 4, none⟩) (by show w.heap.size ≤ w.heap.size + 1 + 1; omega) _)⟩
set_option maxRecDepth 100000 in
set_option maxHeartbeats 16000000 in
theorem refIRemN_any (o : Option Addr) (cap : Nat) (ns : List NodeD) (root ref : Int) (bef : Bool) (sh : Nat) (ro : Option Addr) (rc : Nat) (rules : List RuleD) (node : Int) (w : World) (hF : FRd w o cap ns) (hkl : ∀ (i : Nat) (hi : i < ns.length), ns[i].kids.length ≤ 1099511627776) (hal : ∀ (i : Nat) (hi : i < ns.length), ns[i].attrs.length ≤ 1099511627776) (hru : RdR w (.slice ro rules.length rc) rules) (hrl : rules.length ≤ 1099511627776) (hs : sh < 4294967296) (hc : iterC ns root ref rules = 0) (ht : thereB ns.length node = false) :
    Calls Tryz.prog 18 #[.agg #[.slice o ns.length cap], .agg #[.int .i64 root, .int .i64 ref, .bool bef, .int .u32 (sh : Int), .slice ro rules.length rc], .int .i64 node] w fun e w' => e = .returned (.tuple #[.agg #[.int .i64 0, .int .i64 0, .bool false, .int .u32 0, .slice none 0 0], .int .i64 2]) ∧ Below w.heap.size w w' := by
  obtain ⟨hR, _, _, _, _⟩ := iterC_ok hc
  have HC : Hid (∀ W : World, Below w.heap.size w W → _) := fun W hW => refICheck_any o cap ns root ref bef sh ro rc rules W (hF.later hW) hkl hal (hru.later hW) hrl hs
  rw [hc] at HC
  have HFt : Hid (∀ (v : Value) (W : World), Below w.heap.size w W → RdI W v [node] → _) := fun v W hW hv => refFault_any o cap v [node] ns W (hF.later hW) hkl hal hv (by simp)
  rw [told_node hR, ht] at HFt
  obtain ⟨bx, g0, g1, g2, sx⟩ := three_new w (.cells #[.slice o ns.length cap] 24) (.cells #[.int .i64 root, .int .i64 ref, .bool bef, .int .u32 (sh : Int), .slice ro rules.length rc] 30) (.cells #[.int .i64 0, .int .i64 0, .bool false, .int .u32 0, .slice none 0 0] 30)
  have HB0 := hid bx
  have H0 := hid g0
  have H1 := hid g1
  have H2 := hid g2
  have c0 := (box_cell_l g0).1
  obtain ⟨⟨i0, i1, i2, i3, i4⟩, _⟩ := box5I g1
  clear bx g0 g1 g2 sx hF hkl hal hru hc ht hR
  go_enter Tryz.func18, Tryz.ntmps18
  go_upto_region 1 with fail
  generalize (((w.alloc (.cells #[.slice o ns.length cap] 24)).alloc (.cells #[.int .i64 root, .int .i64 ref, .bool bef, .int .u32 (sh : Int), .slice ro rules.length rc] 30)).alloc (.cells #[.int .i64 0, .int .i64 0, .bool false, .int .u32 0, .slice none 0 0] 30)) = W0 at *
  go_wp2_with fail
  refine (HC.out _ HB0.out).mono ?_
  rintro e v1 ⟨rfl, hb⟩
  have J0 := hid (keep_blk hb H0.out)
  have J1 := hid (keep_blk hb H1.out)
  have J2 := hid (keep_blk hb H2.out)
  have HB1 := hid (HB0.out.trans (hb.mono HB0.out.size))
  have d0 := (box_cell_l J0.out).1
  clear HC HB0 H0 H1 H2 hb c0 i0 i1 i2 i3 i4
  have n1 := heap_new v1 (.cells #[.int .i64 node] 3)
  have b1 : Below v1.heap.size v1 (v1.alloc (.cells #[.int .i64 node] 3)) := (Below.refl _ v1).alloc (Nat.le_refl _) _
  have hv1 : RdI (v1.alloc (.cells #[.int .i64 node] 3)) (.slice (some ⟨v1.heap.size, 0, none⟩) 1 1) [node] := ⟨_, 1, rfl, Nat.le_refl _, fun _ => ⟨v1.heap.size, 0, rfl, heap_lt n1, fun q hq => by
    match q, hq with
    | 0, _ => rw [cell_of_heap n1]; rfl⟩⟩
  have HV1 := hid (HB1.out.trans (b1.mono HB1.out.size))
  have L0 := hid (keep_blk b1 J0.out)
  have L1 := hid (keep_blk b1 J1.out)
  have L2 := hid (keep_blk b1 J2.out)
  have hFT := HFt.out (.slice (some ⟨v1.heap.size, 0, none⟩) 1 1) _ HV1.out hv1
  clear n1 b1 hv1 HFt J0 J1 J2 HB1
  go_wp2_with fail
  refine hFT.mono ?_
  rintro e v2 ⟨rfl, hb⟩
  have M0 := hid (keep_blk hb L0.out)
  have M1 := hid (keep_blk hb L1.out)
  have M2 := hid (keep_blk hb L2.out)
  have HV2 := hid (HV1.out.trans (hb.mono HV1.out.size))
  clear hb hFT HV1 L0 L1 L2 d0
  obtain ⟨⟨r0, r1, r2, r3, r4⟩, s0, s1, s2, s3, s4⟩ := box5I M2.out
  go_wp2
  exact bodyPost_ret (v := .tuple #[.agg #[.int .i64 0, .int .i64 0, .bool false, .int .u32 0, .slice none 0 0], .int .i64 2]) (by simp [results, Tryz.results18, go_sem, r0, r1, r2, r3, r4]) rfl ⟨rfl, (((((HV2.out.setCell (p := ⟨w.heap.size + 1 + 1, 0, none⟩) (by show w.heap.size ≤ w.heap.size + 1 + 1; omega) _).setCell (p := ⟨w.heap.size + 1 + 1, 1, none⟩) (by show w.heap.size ≤ w.heap.size + 1 + 1; omega) _).setCell (p := ⟨w.heap.size + 1 + 1, 2, none⟩) (by show w.heap.size ≤ w.heap.size + 1 + 1; omega) _).setCell (p := ⟨w.heap.size + 1 + 1, 3, none⟩) (by show w.heap.size ≤ w.heap.size + 1 + 1; omega) _).setCell (p := ⟨w.heap.size + 1 + 1, 4, none⟩) (by show w.heap.size ≤ w.heap.size + 1 + 1; omega) _)⟩
set_option maxRecDepth 100000 in
set_option maxHeartbeats 16000000 in
theorem refIRem_any (o : Option Addr) (cap : Nat) (ns : List NodeD) (root ref : Int) (bef : Bool) (sh : Nat) (ro : Option Addr) (rc : Nat) (rules : List RuleD) (node : Int) (w : World) (hF : FRd w o cap ns) (hkl : ∀ (i : Nat) (hi : i < ns.length), ns[i].kids.length ≤ 1099511627776) (hal : ∀ (i : Nat) (hi : i < ns.length), ns[i].attrs.length ≤ 1099511627776) (hru : RdR w (.slice ro rules.length rc) rules) (hrl : rules.length ≤ 1099511627776) (hs : sh < 4294967296) (hc : iterC ns root ref rules = 0) (ht : thereB ns.length node = true) :
    Calls Tryz.prog 18 #[.agg #[.slice o ns.length cap], .agg #[.int .i64 root, .int .i64 ref, .bool bef, .int .u32 (sh : Int), .slice ro rules.length rc], .int .i64 node] w fun e w' => e = .returned (.tuple #[.agg #[.int .i64 root, .int .i64 (remR ns root ref bef node).1, .bool (remR ns root ref bef node).2, .int .u32 (sh : Int), .slice ro rules.length rc], .int .i64 0]) ∧ Below w.heap.size w w' := by
  obtain ⟨hR, hrt, _, hrf, hin⟩ := iterC_ok hc
  obtain ⟨b, off, rfl, hFA⟩ := hF.at_ (by obtain ⟨i, hi, _⟩ := there_idx hrf; omega)
  have HC : Hid (∀ W : World, Below w.heap.size w W → _) := fun W hW => refICheck_any (some ⟨b, off, none⟩) cap ns root ref bef sh ro rc rules W (hF.later hW) hkl hal (hru.later hW) hrl hs
  rw [hc] at HC
  have HRm : Hid (∀ W : World, Below w.heap.size w W → _) := fun W hW => refRem_any b off cap ns W root ref node bef sh ro rules.length rc hR (hFA.later hW) hkl hrt hrf hin ht
  have HFt : Hid (∀ (v : Value) (W : World), Below w.heap.size w W → RdI W v [node] → _) := fun v W hW hv => refFault_any (some ⟨b, off, none⟩) cap v [node] ns W (hF.later hW) hkl hal hv (by simp)
  rw [told_node hR, ht] at HFt
  obtain ⟨bx, g0, g1, g2, sx⟩ := three_new w (.cells #[.slice (some ⟨b, off, none⟩) ns.length cap] 24) (.cells #[.int .i64 root, .int .i64 ref, .bool bef, .int .u32 (sh : Int), .slice ro rules.length rc] 30) (.cells #[.int .i64 0, .int .i64 0, .bool false, .int .u32 0, .slice none 0 0] 30)
  have HB0 := hid bx
  have H0 := hid g0
  have H1 := hid g1
  have H2 := hid g2
  have c0 := (box_cell_l g0).1
  obtain ⟨⟨i0, i1, i2, i3, i4⟩, _⟩ := box5I g1
  clear bx g0 g1 g2 sx hF hkl hal hru hc ht hR hrt hrf hin hFA
  generalize remR ns root ref bef node = RR at *
  go_enter Tryz.func18, Tryz.ntmps18
  go_upto_region 1 with fail
  generalize (((w.alloc (.cells #[.slice (some ⟨b, off, none⟩) ns.length cap] 24)).alloc (.cells #[.int .i64 root, .int .i64 ref, .bool bef, .int .u32 (sh : Int), .slice ro rules.length rc] 30)).alloc (.cells #[.int .i64 0, .int .i64 0, .bool false, .int .u32 0, .slice none 0 0] 30)) = W0 at *
  go_wp2_with fail
  refine (HC.out _ HB0.out).mono ?_
  rintro e v1 ⟨rfl, hb⟩
  have J0 := hid (keep_blk hb H0.out)
  have J1 := hid (keep_blk hb H1.out)
  have J2 := hid (keep_blk hb H2.out)
  have HB1 := hid (HB0.out.trans (hb.mono HB0.out.size))
  have d0 := (box_cell_l J0.out).1
  clear HC HB0 H0 H1 H2 hb c0 i0 i1 i2 i3 i4
  have n1 := heap_new v1 (.cells #[.int .i64 node] 3)
  have b1 : Below v1.heap.size v1 (v1.alloc (.cells #[.int .i64 node] 3)) := (Below.refl _ v1).alloc (Nat.le_refl _) _
  have hv1 : RdI (v1.alloc (.cells #[.int .i64 node] 3)) (.slice (some ⟨v1.heap.size, 0, none⟩) 1 1) [node] := ⟨_, 1, rfl, Nat.le_refl _, fun _ => ⟨v1.heap.size, 0, rfl, heap_lt n1, fun q hq => by
    match q, hq with
    | 0, _ => rw [cell_of_heap n1]; rfl⟩⟩
  have HV1 := hid (HB1.out.trans (b1.mono HB1.out.size))
  have L0 := hid (keep_blk b1 J0.out)
  have L1 := hid (keep_blk b1 J1.out)
  have L2 := hid (keep_blk b1 J2.out)
  have hFT := HFt.out (.slice (some ⟨v1.heap.size, 0, none⟩) 1 1) _ HV1.out hv1
  clear n1 b1 hv1 HFt J0 J1 J2 HB1
  go_wp2_with fail
  refine hFT.mono ?_
  rintro e v2 ⟨rfl, hb⟩
  have M0 := hid (keep_blk hb L0.out)
  have M1 := hid (keep_blk hb L1.out)
  have M2 := hid (keep_blk hb L2.out)
  have HV2 := hid (HV1.out.trans (hb.mono HV1.out.size))
  clear hb hFT HV1 L0 L1 L2 d0
  have e0 := (box_cell_l M0.out).1
  obtain ⟨⟨k0, k1, k2, k3, k4⟩, _⟩ := box5I M1.out
  go_wp2_with fail
  refine (HRm.out v2 HV2.out).mono ?_
  rintro e v3 ⟨rfl, hb⟩
  obtain ⟨⟨r0, r1, r2, r3, r4⟩, s0, s1, s2, s3, s4⟩ := box5I (keep_blk hb M2.out)
  have HV3 := hid (HV2.out.trans (hb.mono HV2.out.size))
  clear hb HRm HV2 M0 M1 M2 e0 k0 k1 k2 k3 k4
  go_wp2
  exact bodyPost_ret (v := .tuple #[.agg #[.int .i64 root, .int .i64 RR.1, .bool RR.2, .int .u32 (sh : Int), .slice ro rules.length rc], .int .i64 0]) (by simp [results, Tryz.results18, go_sem, r0, r1, r2, r3, r4]) rfl ⟨rfl, (((((HV3.out.setCell (p := ⟨w.heap.size + 1 + 1, 0, none⟩) (by show w.heap.size ≤ w.heap.size + 1 + 1; omega) _).setCell (p := ⟨w.heap.size + 1 + 1, 1, none⟩) (by show w.heap.size ≤ w.heap.size + 1 + 1; omega) _).setCell (p := ⟨w.heap.size + 1 + 1, 2, none⟩) (by show w.heap.size ≤ w.heap.size + 1 + 1; omega) _).setCell (p := ⟨w.heap.size + 1 + 1, 3, none⟩) (by show w.heap.size ≤ w.heap.size + 1 + 1; omega) _).setCell (p := ⟨w.heap.size + 1 + 1, 4, none⟩) (by show w.heap.size ≤ w.heap.size + 1 + 1; omega) _)⟩
set_option maxRecDepth 100000 in
set_option maxHeartbeats 16000000 in
theorem iremoves_walk (o : Option Addr) (cap : Nat) (ns : List NodeD) (root ref : Int) (bef : Bool) (sh : Nat) (ro : Option Addr) (rc : Nat) (rules : List RuleD) (node : Int) (R F : Int) (B : Bool) (S : Nat) (RL : List RuleD) (E : Int) (w : World) (hRL : RL.length ≤ 1099511627776)
    (Ha : ∀ W : World, Below w.heap.size w W → Calls Tryz.prog 17 #[.agg #[.slice o ns.length cap], .agg #[.int .i64 root, .int .i64 ref, .bool bef, .int .u32 (sh : Int), .slice ro rules.length rc], .int .i64 node] W fun e w' => ∃ ox cx, e = .returned (.tuple #[.agg #[.int .i64 R, .int .i64 F, .bool B, .int .u32 (S : Int), .slice ox RL.length cx], .int .i64 E]) ∧ RdR w' (.slice ox RL.length cx) RL ∧ Below W.heap.size W w')
    (Hb : ∀ W : World, Below w.heap.size w W → Calls Tryz.prog 18 #[.agg #[.slice o ns.length cap], .agg #[.int .i64 root, .int .i64 ref, .bool bef, .int .u32 (sh : Int), .slice ro rules.length rc], .int .i64 node] W fun e w' => ∃ ox cx, e = .returned (.tuple #[.agg #[.int .i64 R, .int .i64 F, .bool B, .int .u32 (S : Int), .slice ox RL.length cx], .int .i64 E]) ∧ RdR w' (.slice ox RL.length cx) RL ∧ Below W.heap.size W w') :
    Calls Tryz.prog 5 #[.agg #[.slice o ns.length cap], .agg #[.int .i64 root, .int .i64 ref, .bool bef, .int .u32 (sh : Int), .slice ro rules.length rc], .int .i64 node] w fun e w' => e = .returned (.bool true) ∧ Below w.heap.size w w' := by
  obtain ⟨bx, g0, g1, sx⟩ := two_new w (.cells #[.slice o ns.length cap] 24) (.cells #[.int .i64 root, .int .i64 ref, .bool bef, .int .u32 (sh : Int), .slice ro rules.length rc] 30)
  have HB0 := hid bx
  have P0_0 := hid g0
  have P1_0 := hid g1
  have cz0 := (box_cell_l g0).1
  obtain ⟨⟨i0, i1, i2, i3, i4⟩, _⟩ := box5I g1
  have K1 := hid Ha
  have K2 := hid Hb
  have e3 : (E == E) = true := beq_self_eq_true E
  clear bx g0 g1 sx Ha Hb
  go_enter Tryz.func5, Tryz.ntmps5
  go_upto_region 1 with fail
  generalize ((w.alloc (.cells #[.slice o ns.length cap] 24)).alloc (.cells #[.int .i64 root, .int .i64 ref, .bool bef, .int .u32 (sh : Int), .slice ro rules.length rc] 30)) = V0 at *
  go_wp2_with fail
  refine (K1.out V0 HB0.out).mono ?_
  rintro e w1 ⟨o0, c0, rfl, hr, hb⟩
  have ba : Below w1.heap.size w1 (w1.alloc (.cells #[.int .i64 R, .int .i64 F, .bool B, .int .u32 (S : Int), .slice o0 RL.length c0] 30)) := (Below.refl _ w1).alloc (Nat.le_refl _) _
  have P0_1 := hid (keep_blk ba (keep_blk hb P0_0.out))
  have P1_1 := hid (keep_blk ba (keep_blk hb P1_0.out))
  have hn := heap_new w1 (.cells #[.int .i64 R, .int .i64 F, .bool B, .int .u32 (S : Int), .slice o0 RL.length c0] 30)
  have Q0_1 := hid hn
  have r0_1 := hid (hr.later ba)
  have d1 := (box_cell_l P0_1.out).1
  obtain ⟨⟨i1a, i1b, i1c, i1d, i1e⟩, _⟩ := box5I P1_1.out
  have HB1 := hid ((HB0.out.trans (hb.mono HB0.out.size)).trans (ba.mono (HB0.out.trans (hb.mono HB0.out.size)).size))
  clear hb ba hn hr HB0 P0_0 P1_0 K1 cz0 i0 i1 i2 i3 i4
  go_upto_region 2 with fail
  generalize w1.alloc (.cells #[.int .i64 R, .int .i64 F, .bool B, .int .u32 (S : Int), .slice o0 RL.length c0] 30) = V1 at *
  go_wp2_with fail
  refine (K2.out V1 HB1.out).mono ?_
  rintro e w2 ⟨o1, c1, rfl, hr, hb⟩
  have ba : Below w2.heap.size w2 (w2.alloc (.cells #[.int .i64 R, .int .i64 F, .bool B, .int .u32 (S : Int), .slice o1 RL.length c1] 30)) := (Below.refl _ w2).alloc (Nat.le_refl _) _
  have P0_2 := hid (keep_blk ba (keep_blk hb P0_1.out))
  have P1_2 := hid (keep_blk ba (keep_blk hb P1_1.out))
  have hn := heap_new w2 (.cells #[.int .i64 R, .int .i64 F, .bool B, .int .u32 (S : Int), .slice o1 RL.length c1] 30)
  have Q1_2 := hid hn
  have r1_2 := hid (hr.later ba)
  have Q0_2 := hid (keep_blk ba (keep_blk hb Q0_1.out))
  have r0_2 := hid ((r0_1.out.later hb).later ba)
  have d2 := (box_cell_l P0_2.out).1
  obtain ⟨⟨i2a, i2b, i2c, i2d, i2e⟩, _⟩ := box5I P1_2.out
  have HB2 := hid ((HB1.out.trans (hb.mono HB1.out.size)).trans (ba.mono (HB1.out.trans (hb.mono HB1.out.size)).size))
  clear hb ba hn hr HB1 P0_1 P1_1 K2 d1 i1a i1b i1c i1d i1e Q0_1 r0_1
  go_upto_region 3 with fail
  generalize w2.alloc (.cells #[.int .i64 R, .int .i64 F, .bool B, .int .u32 (S : Int), .slice o1 RL.length c1] 30) = V2 at *
  clear d2 i2a i2b i2c i2d i2e P0_2 P1_2
  obtain ⟨⟨a0, a1, a2, a3, a4⟩, _⟩ := box5I Q0_2.out
  obtain ⟨⟨b0, b1, b2, b3, b4⟩, _⟩ := box5I Q1_2.out
  go_wp2_with fail
  refine (sameI_any R F B S o0 o1 c0 c1 RL V2 r0_2.out r1_2.out hRL).mono ?_
  rintro e w5 ⟨rfl, hb⟩
  have HB5 := hid (HB2.out.trans (hb.mono HB2.out.size))
  clear hb HB2 Q0_2 Q1_2 r0_2 r1_2 a0 a1 a2 a3 a4 b0 b1 b2 b3 b4
  go_wp2_with fail
  refine (beginsI_true w5).mono ?_
  rintro e w7 ⟨rfl, hb⟩
  have HB7 := hid (HB5.out.trans (hb.mono HB5.out.size))
  clear hb HB5
  go_wp2
  go_ret
  exact ⟨rfl, HB7.out⟩
theorem iterateRemoves_law (o : Option Addr) (cap : Nat) (ns : List NodeD) (root ref : Int) (bef : Bool) (sh : Nat) (ro : Option Addr) (rc : Nat) (rules : List RuleD) (node : Int) (w : World) (hF : FRd w o cap ns) (hkl : ∀ (i : Nat) (hi : i < ns.length), ns[i].kids.length ≤ 1099511627776) (hal : ∀ (i : Nat) (hi : i < ns.length), ns[i].attrs.length ≤ 1099511627776) (hru : RdR w (.slice ro rules.length rc) rules) (hrl : rules.length ≤ 1099511627776) (hs : sh < 4294967296) :
    Calls Tryz.prog 5 #[.agg #[.slice o ns.length cap], .agg #[.int .i64 root, .int .i64 ref, .bool bef, .int .u32 (sh : Int), .slice ro rules.length rc], .int .i64 node] w fun e w' => e = .returned (.bool true) ∧ Below w.heap.size w w' := by
  by_cases hc : iterC ns root ref rules = 0
  · cases ht : thereB ns.length node with
    | true =>
      exact iremoves_walk o cap ns root ref bef sh ro rc rules node _ _ _ sh rules 0 w hrl
        (fun W hW => (irem_any o cap ns root ref bef sh ro rc rules node W (hF.later hW) hkl hal (hru.later hW) hrl hs hc ht).mono (fun _ _ ⟨oa, ca, x1, x2, x3⟩ => ⟨oa, ca, x1, own_rules x2, x3⟩))
        (fun W hW => (refIRem_any o cap ns root ref bef sh ro rc rules node W (hF.later hW) hkl hal (hru.later hW) hrl hs hc ht).mono (fun _ _ ⟨x1, x3⟩ => ⟨ro, rc, x1, (hru.later hW).later x3, x3⟩))
    | false =>
      exact iremoves_walk o cap ns root ref bef sh ro rc rules node 0 0 false 0 [] 2 w (by simp)
        (fun W hW => (iremN_any o cap ns root ref bef sh ro rc rules node W (hF.later hW) hkl hal (hru.later hW) hrl hs hc ht).mono (fun _ W' ⟨x1, x3⟩ => ⟨none, 0, x1, nil_rdT W' _ _, x3⟩))
        (fun W hW => (refIRemN_any o cap ns root ref bef sh ro rc rules node W (hF.later hW) hkl hal (hru.later hW) hrl hs hc ht).mono (fun _ W' ⟨x1, x3⟩ => ⟨none, 0, x1, nil_rdT W' _ _, x3⟩))
  · exact iremoves_walk o cap ns root ref bef sh ro rc rules node 0 0 false 0 [] (iterC ns root ref rules) w (by simp)
      (fun W hW => (iremE_any o cap ns root ref bef sh ro rc rules node W (hF.later hW) hkl hal (hru.later hW) hrl hs hc).mono (fun _ W' ⟨x1, x3⟩ => ⟨none, 0, x1, nil_rdT W' _ _, x3⟩))
      (fun W hW => (refIRemE_any o cap ns root ref bef sh ro rc rules node W (hF.later hW) hkl hal (hru.later hW) hrl hs hc).mono (fun _ W' ⟨x1, x3⟩ => ⟨none, 0, x1, nil_rdT W' _ _, x3⟩))
end Go.Proofs.YticenjhhefiboaaGreat

