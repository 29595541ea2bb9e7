/- Nodes within a root, in tree order, one behind the other, as an iterator comes to them: plain. -/
/- iterate: a node and all within it, marked (take). -/
/- iterate: the sibling. -/
/- iterate: the node ahead of one in tree order, of a root and those that it has within it (ahead). -/
/- iterate: a node, where a step leads from it, and so on: from, ranged over. -/
/- iterate: the first of some nodes that fits (first); contains. -/
/- iterate: whether a node lies within another one (contains). -/
/- iterate: the node behind one in tree order, of those that a root has within it (behind). -/
/- iterate: what from hands back, ranged over, where the body writes into some blocks. -/
/- forest: a forest of one document (New). -/
/- iterate: a forest that has a node of a kind and a name (alone). -/
/- A region that draws its order, gone through step by step under a condition on the world: operations whose value is known, operations whose guards say no, and what is left. No program in this text. -/
import Derived.Test.YticenjhhefiboaaGreatFFWkPFWkI
import Derived.Test.YticenjhhefiboaaGreatFSurW
import Derived.Test.YticenjhhefiboaaGreatFFUpFR4D
import Derived.Test.YticenjhhefiboaaGreatFBelow
import Derived.Test.YticenjhhefiboaaGreatFLook
import Derived.Lib.AppendZeros
import Derived.Test.YticenjhhefiboaaGreatFSkip
import Derived.Deep.RegionHeld
namespace Go.Proofs.YticenjhhefiboaaGreat
open Go.RowKit Go.Lib

theorem hangD_turnI (ns : List NodeD) (rev : Bool) (x : Int) : hangD ns (!rev) x = (hangD ns rev x).reverse := by
  cases rev with
  | false => rfl
  | true => show kidsD ns x = (revKids ns x).reverse; unfold revKids; rw [List.reverse_reverse]
/-- A tour on which every node is accepted. -/
def tourA (ns : List NodeD) (root : Int) (rev : Bool) : TourD := ⟨ns, root, parentD ns, hangD ns rev, fun _ => true, fun _ => false⟩
theorem tourA_ok {ns : List NodeD} (h : RightF ns) {root : Int} (hr : thereB ns.length root = true) (rev : Bool) : (tourA ns root rev).OK := ⟨by
  cases rev with
  | true => exact h.revHang
  | false => exact h.kidsHang, hr⟩
theorem tourA_twin (ns : List NodeD) (root : Int) : (tourA ns root false).Twin (tourA ns root true) := ⟨rfl, rfl, rfl, fun x => hangD_turnI ns false x, rfl, rfl⟩
section
variable {ns : List NodeD} {root : Int}
/-- What is shown where all is accepted is all that lies below. -/
theorem seenA (n : Nat) : ∀ x : Int, (tourA ns root false).seenF true n x = belowF (kidsD ns) n x := by
  induction n with
  | zero => intro x; rfl
  | succ n ih =>
    intro x
    rw [TourD.seenF, belowF]
    have he : (tourA ns root false).seenF true n = belowF (kidsD ns) n := funext ih
    rw [he]
    show [x] ++ (kidsD ns x).flatMap _ ++ [] = _
    rw [List.append_nil]
    rfl
/-- What an iterator comes to behind a node, and ahead of it. -/
def afterA (ns : List NodeD) (root x : Int) : List Int := (tourA ns root false).behind x
def aheadA (ns : List NodeD) (root x : Int) : List Int := (tourA ns root true).front x
/-- The node behind, the node ahead: 0 for none. -/
def behindN (ns : List NodeD) (root x : Int) : Int := (tourA ns root false).onD x
def aheadN (ns : List NodeD) (root x : Int) : Int := (tourA ns root true).backD x
def allA (ns : List NodeD) (root : Int) : List Int := belowF (kidsD ns) (ns.length + 1) root
theorem all_after (h : RightF ns) (hr : thereB ns.length root = true) : allA ns root = root :: afterA ns root root := by
  unfold allA afterA TourD.behind
  rw [h.kidsHang.consW hr]
  have ht : (tourA ns root false).tail root = [] := TourD.tail_root (t := tourA ns root false)
  rw [ht, List.append_nil]
  congr 1
  show (kidsD ns root).flatMap _ = (kidsD ns root).flatMap _
  congr 1
  funext x
  exact (seenA (ns := ns) (root := root) (ns.length + 1) x).symm
theorem cleanA (h : RightF ns) (hr : thereB ns.length root = true) : ∀ (n : Nat) (x : Int), lenH ns (parentD ns) x ≤ n → thereB ns.length x = true → root ∈ pathUp ns (parentD ns) x → (tourA ns root false).Clean x := by
  intro n
  induction n with
  | zero =>
    intro x hn hx _
    have := h.kidsHang.up_len hx
    omega
  | succ n ih =>
    intro x hn hx hin
    by_cases he : x = root
    · rw [he]
      exact TourD.Clean.root (t := tourA ns root false)
    · have hok := tourA_ok h hr false
      have hs := TourD.sub_of (t := tourA ns root false) hok hx hin he
      obtain ⟨u0, u1⟩ := TourD.sub_up hok hs
      have hl := h.kidsHang.up_len hx
      exact TourD.Clean.kid (t := tourA ns root false) (parentD ns x) x (ih (parentD ns x) (by omega) u1 hs.2) (h.kidsHang.back x hx u0) rfl
/-- All within a root, parted at a node. -/
theorem all_parts (h : RightF ns) (hr : thereB ns.length root = true) {x : Int} (hx : thereB ns.length x = true) (hin : root ∈ pathUp ns (parentD ns) x) : allA ns root = (aheadA ns root x).reverse ++ x :: afterA ns root x := by
  have hc := cleanA h hr _ x (Nat.le_refl _) hx hin
  have hK := TourD.clean_front (tourA_ok h hr false) (tourA_ok h hr true) (tourA_twin ns root) hc
  have hK' : (afterA ns root root).reverse ++ [root] = (afterA ns root x).reverse ++ ([x] ++ aheadA ns root x) := hK
  have hrev := congrArg List.reverse hK'
  simp only [List.reverse_append, List.reverse_reverse, List.reverse_cons, List.reverse_nil, List.nil_append, List.singleton_append] at hrev
  rw [all_after h hr, hrev]
  simp
theorem after_step (h : RightF ns) (hr : thereB ns.length root = true) {x : Int} (hx : thereB ns.length x = true) (hin : root ∈ pathUp ns (parentD ns) x) : afterA ns root x = if behindN ns root x == 0 then [] else behindN ns root x :: afterA ns root (behindN ns root x) :=
  TourD.behind_on (tourA_ok h hr false) (fun _ _ => rfl) hx hin
theorem ahead_step (h : RightF ns) (hr : thereB ns.length root = true) {x : Int} (hx : thereB ns.length x = true) (hin : root ∈ pathUp ns (parentD ns) x) : aheadA ns root x = if aheadN ns root x == 0 then [] else aheadN ns root x :: aheadA ns root (aheadN ns root x) :=
  TourD.front_backD (tourA_ok h hr true) (fun _ _ => rfl) hx hin
/-- Where a node stands among all. -/
theorem all_place (h : RightF ns) (hr : thereB ns.length root = true) {x : Int} (hx : thereB ns.length x = true) (hin : root ∈ pathUp ns (parentD ns) x) : idxI (allA ns root) x 0 = ((aheadA ns root x).length : Int) := by
  have hn : (allA ns root).Nodup := h.kidsHang.below_once _ root hr (by omega)
  have hp := all_parts h hr hx hin
  have hx1 : x ∉ (aheadA ns root x).reverse := by
    intro hm
    rw [hp] at hn
    exact (List.nodup_append.1 hn).2.2 x hm x (by simp) rfl
  rw [idxI_idxW _ x 0 (by rw [hp]; simp), hp, List.idxOf_append, if_neg hx1, List.idxOf_cons_self]
  simp
end
end Go.Proofs.YticenjhhefiboaaGreat

namespace Go.Proofs.YticenjhhefiboaaGreat
open Go.RowKit Go.Lib Go.Shelf

/-- Marks laid at some places. -/
def markL (m : List Bool) (l : List Int) : List Bool := l.foldl (fun m x => m.set x.toNat true) m
theorem markL_append (m : List Bool) (a b : List Int) : markL m (a ++ b) = markL (markL m a) b := by unfold markL; rw [List.foldl_append]
theorem markL_len : ∀ (l : List Int) (m : List Bool), (markL m l).length = m.length
  | [], _ => rfl
  | x :: l, m => by
    show (markL (m.set x.toNat true) l).length = _
    rw [markL_len l, List.length_set]
theorem two_new (w : World) (a b : Obj) : Below w.heap.size w ((w.alloc a).alloc b) ∧ ((w.alloc a).alloc b).heap[w.heap.size]? = some a ∧ ((w.alloc a).alloc b).heap[w.heap.size + 1]? = some b ∧ ((w.alloc a).alloc b).heap.size = w.heap.size + 1 + 1 := by
  refine ⟨((Below.refl _ w).alloc (Nat.le_refl _) _).alloc (by simp) _, (Below.heap_alloc _ _ _ (by simp)).trans (heap_new w a), ?_, by simp⟩
  have := heap_new (w.alloc a) b
  simp only [World.size_alloc] at this
  exact this

set_option maxRecDepth 100000 in
set_option maxHeartbeats 8000000 in
theorem take_any (b off cap bw be N : Nat) (nx pv : Int) (ns : List NodeD) (w : World) (hR : RightF ns) (hF : FAt w b off cap ns) (hN : N = ns.length + 1) (hbw : w.heap.size ≤ bw) :
    ∀ (f : Nat) (x : Int) (m : List Bool) (W : World), thereB ns.length x = true → ns.length < f + (pathUp ns (parentD ns) x).length → m.length = N → Below w.heap.size w W → BoolsAt W bw m →
      Calls Tryz.prog 64 #[.agg #[.slice (some ⟨bw, 0, none⟩) N N, .slice (some ⟨be, 0, none⟩) N N, .int .i64 nx, .int .i64 pv], .agg #[.slice (some ⟨b, off, none⟩) ns.length cap], .int .i64 x] W fun e W' => e = .returned (.tuple #[]) ∧ BoolsAt W' bw (markL m (belowF (kidsD ns) f x)) ∧ Wrote [bw] W W' := by
  intro f
  induction f with
  | zero =>
    intro x m W hx hf _ _ _
    have := pathUp_len ns (parentD ns) hR.parentOK hR.ends x (.inr hx)
    omega
  | succ f ih =>
    intro x m W hx hf hm hB hM
    have hle := hF.len
    obtain ⟨j, hj, rfl⟩ := there_idx hx
    have hkd : kidsD ns ((j : Int) + 1) = ns[j].kids := by unfold kidsD; rw [nodeOf_at ns j hj]
    have HE : Hid (markL m (belowF (kidsD ns) (f + 1) ((j : Int) + 1)) = markL (m.set (j + 1) true) ((ns[j].kids.drop 0).flatMap (belowF (kidsD ns) f))) := by
      show _ = _
      rw [belowF, hkd]
      rfl
    obtain ⟨T, hT⟩ : ∃ T, markL m (belowF (kidsD ns) (f + 1) ((j : Int) + 1)) = T := ⟨_, rfl⟩
    rw [hT] at HE ⊢
    have HIH : Hid (∀ (y : Int) (acc : List Bool) (V : World), y ∈ ns[j].kids → acc.length = N → Below w.heap.size w V → BoolsAt V bw acc → _) := fun y acc V hy hac hB2 hM2 => by
      obtain ⟨n, hn, hp⟩ := (hR.kids j hj).1 y hy
      obtain ⟨i, hi2, e, e2⟩ := nodeOf_idx hn
      have hyt : thereB ns.length y = true := by rw [e]; exact thereB_idx _ _ hi2
      have hpy : parentD ns y = (j : Int) + 1 := by rw [e, parentD_at ns i hi2, ← hp, ← e2]
      refine ih y acc V hyt ?_ hac hB2 hM2
      rw [pathUp_head hR hyt, hpy, List.length_cons]
      omega
    have hkl := hR.kids_len j hj
    obtain ⟨bx, g0, g1, sx⟩ := two_new W (.cells #[.slice (some ⟨bw, 0, none⟩) N N, .slice (some ⟨be, 0, none⟩) N N, .int .i64 nx, .int .i64 pv] 67) (.cells #[.slice (some ⟨b, off, none⟩) ns.length cap] 24)
    have hMx := hM.later bx
    have hBx := hB.trans (bx.mono hB.size)
    have hlt := hM.lt
    have fz := hMx.frozen (j + 1)
    have cz := hMx.cellD (j + 1) false (by omega)
    have HW1 := hid ((Wrote.refl [bw] _).put (List.mem_singleton.2 rfl) (j + 1) (.bool true) : Wrote [bw] ((W.alloc (.cells #[.slice (some ⟨bw, 0, none⟩) N N, .slice (some ⟨be, 0, none⟩) N N, .int .i64 nx, .int .i64 pv] 67)).alloc (.cells #[.slice (some ⟨b, off, none⟩) ns.length cap] 24)) _)
    have hM1 := hMx.put (j + 1) true
    have HM1 := hid hM1
    have HB1 := hid (hBx.setCell (p := ⟨bw, j + 1, none⟩) hbw (.bool true))
    obtain ⟨L, hc, _, _, hk3⟩ := hF.at_ j hj
    have ck := (hc.later hF.lt HB1.out).kids
    obtain ⟨D, A, K⟩ := L
    simp only at ck hk3
    obtain ⟨ok, ckk, rfl, hcap, g⟩ := hk3
    obtain ⟨c0, c1, c2, c3⟩ := sv_cells g0
    have c4 := (box_cell_l g1).1
    have HWb := hid bx
    have HG0 := hid g0
    have HG1 := hid g1
    have Hml := hid hm
    have q1 : (0 : Int) ≤ (j : Int) := by omega
    have q2 : (j : Int) < (ns.length : Int) := by omega
    have q3 : (0 : Int) ≤ (j : Int) + 1 := by omega
    have q4 : (j : Int) + 1 < (N : Int) := by omega
    have q5 : ((j : Int) + 1).toNat = j + 1 := by omega
    have d4 := (HW1.out.cell (W.heap.size + 1) 0 (by rw [sx]; omega) (by rw [List.mem_singleton]; omega)).trans c4
    have HNe := hid (show W.heap.size ≠ bw ∧ W.heap.size + 1 ≠ bw by omega)
    have Hbw := hid hbw
    have Hsx := hid sx
    have HNN := hid hN
    clear ih hF hR hf hT hkd hx hM hMx hB hBx hM1 hc bx g0 g1 hm hbw sx hN
    generalize ns[j].kids = ks at *
    go_enter Tryz.func64, Tryz.ntmps64
    go_upto_region 1 with fail
    generalize ((W.alloc (.cells #[.slice (some ⟨bw, 0, none⟩) N N, .slice (some ⟨be, 0, none⟩) N N, .int .i64 nx, .int .i64 pv] 67)).alloc (.cells #[.slice (some ⟨b, off, none⟩) ns.length cap] 24)) = W0 at *
    go_upto_region 2 with fail
    generalize W0.setCell ⟨bw, j + 1, none⟩ (.bool true) = W1 at *
    clear cz fz c0 c1 c2 c3 c4
    go_wp2
    go_loopw [20] (fun t wr => ∃ (k : Nat) (acc : List Bool), k ≤ ks.length ∧ t = .int .i64 k ∧ Hid (T = markL acc ((ks.drop k).flatMap (belowF (kidsD ns) f))) ∧ Hid (acc.length = N) ∧ Hid (BoolsAt wr bw acc) ∧ Hid (Wrote [bw] W0 wr) ∧ Hid (Below w.heap.size w wr)) (fun t _ => ks.length - (RowKit.intOf t).toNat)
    case atStart => exact ⟨0, _, Nat.zero_le _, rfl, HE, hid (by rw [List.length_set]; exact Hml.out), HM1, HW1, HB1⟩
    case round =>
      obtain ⟨k, acc, hk, rfl, hE, hA, hM, hW, hB⟩ := hrel
      clear HE HM1 HW1 HB1 ck d4
      have s0 : W0.heap.size ≤ wr.heap.size := hW.out.size
      have n1 : W.heap.size < W0.heap.size := by have := Hsx.out; omega
      have n2 : W.heap.size + 1 < W0.heap.size := by have := Hsx.out; omega
      have e0 : wr.heap[W.heap.size]? = _ := (hW.out.block W.heap.size n1 (by rw [List.mem_singleton]; exact HNe.out.1)).trans HG0.out
      have e1 : wr.heap[W.heap.size + 1]? = _ := (hW.out.block (W.heap.size + 1) n2 (by rw [List.mem_singleton]; exact HNe.out.2)).trans HG1.out
      obtain ⟨c0, c1, c2, c3⟩ := sv_cells e0
      have c4 := (box_cell_l e1).1
      clear e0 e1
      by_cases hlt : k < ks.length
      · obtain ⟨bk, offk, rfl, hltk, hak⟩ := g (by omega)
        have x1 := (hB.out.cell (p := ⟨bk, offk + k, none⟩) hltk).trans (hak k hlt)
        have hdrop : ks.drop k = ks[k] :: ks.drop (k + 1) := (List.drop_eq_getElem_cons hlt)
        have hE2 := hE.out
        rw [hdrop, List.flatMap_cons, markL_append] at hE2
        have HE2 := hid hE2
        have hCall := HIH.out ks[k] acc wr (List.getElem_mem hlt) hA.out hB.out hM.out
        have HA2 : Hid ((markL acc (belowF (kidsD ns) f ks[k])).length = N) := by show _ = _; rw [markL_len]; exact hA.out
        generalize ks[k] = y at *
        generalize markL acc (belowF (kidsD ns) f y) = acc2 at *
        have p1 : (0 : Int) ≤ (k : Int) := by omega
        have p2 : (k : Int) < (ks.length : Int) := by omega
        clear hE2 hE hdrop g hak HIH hA hM
        have dl : decide ((k : Int) < (ks.length : Int)) = true := decide_eq_true p2
        go_wp2_with fail
        refine hCall.mono ?_
        rintro e v2 ⟨rfl, hM2, hW2⟩
        have HB2 := hid (hB.out.trans (hW2.toBelow hB.out.size (by intro q hq; rw [List.mem_singleton.1 hq]; exact Hbw.out)))
        have HM2 := hid hM2
        have HW2 : Hid (Wrote [bw] W0 v2) := hW.out.trans hW2
        clear hM2 hW2 hB hW hCall c0 c1 c2 c3 c4 x1
        go_wp2
        go_roundw
        case rel => exact ⟨k + 1, acc2, by omega, by go_num, HE2, HA2, HM2, HW2, HB2⟩
        case measure => simp [RowKit.intOf]; omega
      · have hkn : k = ks.length := by omega
        have hE2 := hE.out
        rw [hkn, List.drop_length] at hE2
        have HT := hid hE2
        have dl : decide ((k : Int) < (ks.length : Int)) = false := decide_eq_false (by omega)
        have HMm := hM
        have HWw := hW
        have HWbb := HWb
        clear hE2 hE hkn g HIH hA c0 c1 c2 c3 c4
        go_wp2
        go_end0
        refine ⟨rfl, by rw [HT.out]; exact HMm.out, ?_⟩
        have hW := HWw.out
        have hb := HWbb.out
        exact ⟨hW.os.trans hb.os, hW.tape.trans hb.tape, hW.output.trans hb.output, Nat.le_trans hb.size hW.size, fun q hq hn => (hW.block q (Nat.lt_of_lt_of_le hq hb.size) hn).trans (hb.block q hq)⟩
end Go.Proofs.YticenjhhefiboaaGreat

namespace Go.Proofs.YticenjhhefiboaaGreat
open Go.RowKit Go.Lib

set_option maxRecDepth 100000 in
set_option maxHeartbeats 4000000 in
theorem isibling_any (b off cap : Nat) (x d : Int) (ns : List NodeD) (w W : World) (hR : RightF ns) (hF : FAt w b off cap ns) (hW : Below w.heap.size w W) (hx : thereB ns.length x = true) (hd : d = 1 ∨ d = -1) :
    Calls Tryz.prog 62 #[.agg #[.slice (some ⟨b, off, none⟩) ns.length cap], .int .i64 x, .int .i64 d] W fun e w' => e = .returned (.int .i64 (if parentD ns x == 0 then 0 else sibI (kidsD ns (parentD ns x)) x d)) ∧ Below W.heap.size W w' := by
  obtain ⟨j, hj, rfl⟩ := there_idx hx
  have hF2 := hF.later hW
  have hlt := hF2.lt
  have hle := hF.len
  have hB1 : Below W.heap.size W (W.alloc (.cells #[.slice (some ⟨b, off, none⟩) ns.length cap] 24)) := (Below.refl _ W).alloc (Nat.le_refl _) _
  obtain ⟨L, hc, _, _, _⟩ := hF2.at_ j hj
  have cp := (hc.later hlt hB1).parent
  have q1 : (0 : Int) ≤ (j : Int) := by omega
  have q2 : (j : Int) < (ns.length : Int) := by omega
  rw [parentD_at ns j hj]
  rcases hR.hang j hj with h0 | ⟨p, hp, hpe, hin⟩
  · rw [h0] at cp ⊢
    clear hc hF hF2 hW hR
    go_enter Tryz.func62, Tryz.ntmps62
    go_wp2
    go_ret
    exact ⟨rfl, hB1⟩
  · rw [hpe] at cp ⊢
    have hkd : kidsD ns ((p : Int) + 1) = ns[p].kids := by unfold kidsD; rw [nodeOf_at ns p hp]
    rw [hkd]
    have hkl := hR.kids_len p hp
    obtain ⟨L2, hc2, _, _, hk2⟩ := hF2.at_ p hp
    have ck := (hc2.later hlt hB1).kids
    have hk3 := hk2.later hB1
    obtain ⟨m, hm, hg, hi⟩ := idxI_of ns[p].kids ((j : Int) + 1) 0 hin
    rw [Nat.zero_add] at hi
    have p1 : (0 : Int) ≤ (p : Int) := by omega
    have p2 : (p : Int) < (ns.length : Int) := by omega
    have p3 : (((p : Int) + 1) == 0) = false := beq_eq_false_iff_ne.2 (by omega)
    rw [p3, if_neg Bool.false_ne_true]
    have HI := hid (index_any L2.kids ns[p].kids ((j : Int) + 1) (W.alloc (.cells #[.slice (some ⟨b, off, none⟩) ns.length cap] 24)) hk3 (by omega))
    rw [hi] at HI
    unfold sibI
    rw [hi]
    obtain ⟨D, A, K⟩ := L2
    simp only at *
    obtain ⟨ok, ck2, rfl, hcap, g⟩ := hk3
    clear hc hc2 hk2 hF hF2 hW hR hin hg hi hkd hpe
    generalize ns[p].kids = ks at *
    by_cases hout : (m : Int) + d < 0 ∨ (ks.length : Int) ≤ (m : Int) + d
    · rw [if_pos hout]
      clear g
      rcases hout with ho | ho
      · have d1 : decide ((m : Int) + d < 0) = true := decide_eq_true ho
        go_enter Tryz.func62, Tryz.ntmps62
        go_wp2_with (go_at_call 88; refine HI.out.mono ?_; rintro e v1 ⟨rfl, e1⟩; have e1 := e1.symm; subst e1)
        go_ret
        exact ⟨rfl, hB1⟩
      · have d1 : decide ((m : Int) + d < 0) = false := decide_eq_false (by omega)
        have d2 : decide ((ks.length : Int) ≤ (m : Int) + d) = true := decide_eq_true ho
        go_enter Tryz.func62, Tryz.ntmps62
        go_wp2_with (go_at_call 88; refine HI.out.mono ?_; rintro e v1 ⟨rfl, e1⟩; have e1 := e1.symm; subst e1)
        go_ret
        exact ⟨rfl, hB1⟩
    · rw [if_neg hout]
      obtain ⟨a, ha, hal⟩ : ∃ a : Nat, (m : Int) + d = (a : Int) ∧ a < ks.length := ⟨((m : Int) + d).toNat, by omega, by omega⟩
      obtain ⟨kb, koff, rfl, klt, kc⟩ := g (by omega)
      have ca := kc a hal
      rw [ha, Int.toNat_natCast, List.getD_eq_getElem?_getD, List.getElem?_eq_getElem hal, Option.getD_some]
      have d1 : decide ((m : Int) + d < 0) = false := decide_eq_false (by omega)
      have d2 : decide ((ks.length : Int) ≤ (m : Int) + d) = false := decide_eq_false (by omega)
      have a1 : (0 : Int) ≤ (a : Int) := by omega
      have a2 : (a : Int) < (ks.length : Int) := by omega
      have Ha := hid ha
      generalize ks[a] = y at *
      clear kc g hout
      obtain ⟨z, hz⟩ : ∃ z, (m : Int) + d = z := ⟨_, rfl⟩
      go_enter Tryz.func62, Tryz.ntmps62
      go_wp2_with (go_at_call 88; refine HI.out.mono ?_; rintro e v1 ⟨rfl, e1⟩; have e1 := e1.symm; subst e1)
      go_ret
      exact ⟨rfl, hB1⟩
end Go.Proofs.YticenjhhefiboaaGreat

namespace Go.Proofs.YticenjhhefiboaaGreat
open Go.RowKit Go.Lib Go.Shelf

/-- The last one of a node and all within it. -/
def lastA (ns : List NodeD) (x : Int) : Int := (tourA ns 0 true).bottom x
/-- The node ahead, as the code finds it. -/
def aheadC (ns : List NodeD) (root x : Int) : Int := if x == root then 0 else if nextH (parentD ns) (revKids ns) x == 0 then parentD ns x else lastA ns (nextH (parentD ns) (revKids ns) x)
theorem lastA_end {ns : List NodeD} {x : Int} (h : (kidsD ns x).length = 0) : lastA ns x = x := by
  unfold lastA
  refine TourD.bottom_end ?_
  show (revKids ns x).headD 0 = 0
  unfold revKids
  rw [List.eq_nil_of_length_eq_zero h]
  rfl
theorem lastA_go {ns : List NodeD} (h : RightF ns) {x : Int} (hx : thereB ns.length x = true) (hk : (kidsD ns x).length ≠ 0) : lastA ns x = lastA ns ((revKids ns x).headD 0) ∧ thereB ns.length ((revKids ns x).headD 0) = true ∧ rankH ns (parentD ns) (revKids ns) ((revKids ns x).headD 0) < rankH ns (parentD ns) (revKids ns) x := by
  have hok := tourA_ok h hx true
  cases hr : revKids ns x with
  | nil =>
    exfalso
    unfold revKids at hr
    have := congrArg List.length hr
    rw [List.length_reverse] at this
    exact hk this
  | cons k r =>
    obtain ⟨a, _, _, d⟩ := h.revHang.kid hx hr
    have hi : (tourA ns x true).into x = k := by
      show (revKids ns x).headD 0 = k
      rw [hr]
      rfl
    have hg : (tourA ns x true).bottom x = (tourA ns x true).bottom k := by
      have := TourD.bottom_go (t := tourA ns x true) hok hx (by rw [hi]; exact there_ne a)
      rw [hi] at this
      exact this
    exact ⟨hg, a, by show rankH ns (parentD ns) (revKids ns) k < _; omega⟩
theorem aheadC_eq {ns : List NodeD} {root : Int} (x : Int) : aheadC ns root x = aheadN ns root x := by
  unfold aheadC aheadN TourD.backD
  by_cases hx : x = root
  · rw [btrue hx, if_pos rfl, show (x == (tourA ns root true).root) = true from beq_iff_eq.2 hx, if_pos rfl]
  · rw [bfalse hx, if_neg Bool.false_ne_true, show (x == (tourA ns root true).root) = false from beq_eq_false_iff_ne.2 hx, if_neg Bool.false_ne_true]
    by_cases h0 : nextH (parentD ns) (revKids ns) x = 0
    · rw [btrue h0, if_pos rfl]
      by_cases hu : parentD ns x = 0
      · rw [hu]
        exact (TourD.back_stop (t := tourA ns root true) h0 (by show (x == root || parentD ns x == 0) = true; rw [btrue hu, Bool.or_true])).symm
      · exact (TourD.back_up (t := tourA ns root true) h0 (by show (x == root || parentD ns x == 0) = false; rw [bfalse hx, bfalse hu]; rfl) rfl).symm
    · rw [bfalse h0, if_neg Bool.false_ne_true]
      exact (TourD.back_hit (t := tourA ns root true) h0 rfl).symm
theorem last_getI {l : List Int} (h : l.length - 1 < l.length) : l[l.length - 1] = l.reverse.headD 0 := by
  have hne : l ≠ [] := by intro e; rw [e] at h; exact absurd h (by simp)
  rw [← List.getLast_eq_getElem hne, List.headD_eq_head?_getD, List.head?_reverse, List.getLast?_eq_some_getLast hne]
  rfl

set_option maxRecDepth 100000 in
set_option maxHeartbeats 4000000 in
theorem iahead_any (b off cap : Nat) (root x : Int) (ns : List NodeD) (w : World) (hR : RightF ns) (hF : FAt w b off cap ns) (hx : thereB ns.length x = true) :
    Calls Tryz.prog 37 #[.agg #[.slice (some ⟨b, off, none⟩) ns.length cap], .int .i64 root, .int .i64 x] w fun e w' => e = .returned (.int .i64 (aheadC ns root x)) ∧ Below w.heap.size w w' := by
  have hle := hF.len
  have hB1 : Below w.heap.size w (w.alloc (.cells #[.slice (some ⟨b, off, none⟩) ns.length cap] 24)) := (Below.refl _ w).alloc (Nat.le_refl _) _
  unfold aheadC
  by_cases hxr : x = root
  · rw [btrue hxr, if_pos rfl]
    have e0 : (x == root) = true := beq_iff_eq.2 hxr
    clear hxr hF hR
    go_enter Tryz.func37, Tryz.ntmps37
    go_wp2
    go_ret
    exact ⟨rfl, hB1⟩
  · rw [bfalse hxr, if_neg Bool.false_ne_true]
    have e0 : (x == root) = false := beq_eq_false_iff_ne.2 hxr
    have hS := isibling_any b off cap x (-1) ns w _ hR hF hB1 hx (.inr rfl)
    rw [(sib_dir hR hx).2] at hS
    have c0 := (new_cell_l w (.slice (some ⟨b, off, none⟩) ns.length cap) 24).1
    obtain ⟨j, hj, rfl⟩ := there_idx hx
    have HR := hid hR
    have HF := hid hF
    have Hn := hid (hR.revHang.next_or hx)
    obtain ⟨R, hRR⟩ : ∃ R, (if nextH (parentD ns) (revKids ns) ((j : Int) + 1) == 0 then parentD ns ((j : Int) + 1) else lastA ns (nextH (parentD ns) (revKids ns) ((j : Int) + 1))) = R := ⟨_, rfl⟩
    rw [hRR]
    have HR0 := hid hRR
    clear hxr hR hF hRR
    go_enter Tryz.func37, Tryz.ntmps37
    go_wp2_with fail
    refine hS.mono ?_
    rintro e v1 ⟨rfl, hb1⟩
    have hBB := hB1.trans (hb1.mono hB1.size)
    have cF := (hb1.cell (p := ⟨w.heap.size, 0, none⟩) (by simp)).trans c0
    have HB := hid hBB
    have HF1 := hid (HF.out.later hBB)
    clear hS hb1 hBB hB1 c0
    by_cases h0 : nextH (parentD ns) (revKids ns) ((j : Int) + 1) = 0
    · rw [h0]
      obtain ⟨L, hc, _, _, _⟩ := HF1.out.at_ j hj
      have cp := hc.parent
      have hpd := parentD_at ns j hj
      have hV := HR0.out
      rw [btrue h0, if_pos rfl, hpd] at hV
      subst hV
      have q1 : (0 : Int) ≤ (j : Int) := by omega
      have q2 : (j : Int) < (ns.length : Int) := by omega
      clear hc h0 Hn HR0
      go_wp2
      go_ret
      exact ⟨rfl, HB.out⟩
    · have hRR := HR0.out
      rw [bfalse h0, if_neg Bool.false_ne_true] at hRR
      have hst : thereB ns.length (nextH (parentD ns) (revKids ns) ((j : Int) + 1)) = true := Hn.out.elim (fun h => absurd h.1 h0) (fun h => h.1)
      clear h0 Hn HR0
      generalize nextH (parentD ns) (revKids ns) ((j : Int) + 1) = s at *
      have hs0 : (s == 0) = false := beq_eq_false_iff_ne.2 (there_ne hst)
      have HRR := hid hRR
      have HST := hid hst
      obtain ⟨i, hi, hie⟩ := there_idx hst
      obtain ⟨L, hc, _, _, hk3⟩ := HF1.out.at_ i hi
      have ck := hc.kids
      have hkd : kidsD ns s = ns[i].kids := by rw [hie]; unfold kidsD; rw [nodeOf_at ns i hi]
      have HK : Hid (RdI v1 L.kids (kidsD ns s)) := by show RdI _ _ _; rw [hkd]; exact hk3
      have q1 : (0 : Int) ≤ (i : Int) := by omega
      have q2 : (i : Int) < (ns.length : Int) := by omega
      obtain ⟨D, A, K⟩ := L
      simp only at ck HK
      clear hc hk3 hkd hRR hst
      have HIE := hid hie
      rw [hie] at hs0 ⊢
      go_wp2
      go_loopw [7, 8] (fun t u wr => ∃ z : Int, t = .int .i64 z ∧ thereB ns.length z = true ∧ Hid (RdI v1 u (kidsD ns z)) ∧ Hid (lastA ns z = R) ∧ v1 = wr) (fun t _ _ => rankH ns (parentD ns) (revKids ns) (RowKit.intOf t))
      case atStart => exact ⟨s, by rw [HIE.out], HST.out, HK, HRR, rfl⟩
      case round =>
        clear ck q1 q2 hs0 hie HK HRR HST HIE
        obtain ⟨z, rfl, hz, HK, HRR, rfl⟩ := hrel
        obtain ⟨ok, ckk, rfl, hcap, g⟩ := HK.out
        by_cases hl0 : (kidsD ns z).length = 0
        · have hRz : R = z := HRR.out.symm.trans (lastA_end hl0)
          subst hRz
          clear g HRR HK
          rw [hl0]
          go_wp2
          go_ret
          exact ⟨rfl, HB.out⟩
        · have d0 : decide ((0 : Int) < ((kidsD ns z).length : Int)) = true := decide_eq_true (by omega)
          obtain ⟨kb, koff, rfl, klt, kc⟩ := g (by omega)
          have hk1 := kc ((kidsD ns z).length - 1) (by omega)
          rw [last_getI (by omega)] at hk1
          obtain ⟨l1, l2, l3⟩ := lastA_go HR.out hz hl0
          have hrv : (kidsD ns z).reverse.headD 0 = (revKids ns z).headD 0 := rfl
          rw [hrv] at hk1
          have HL2 := hid l2
          have HL3 := hid l3
          have HL1 := hid (l1.symm.trans HRR.out)
          clear l1 l3 hrv kc g
          generalize (revKids ns z).headD 0 = y at *
          obtain ⟨i2, hi2, hie2⟩ := there_idx l2
          obtain ⟨L, hc, _, _, hk3⟩ := HF1.out.at_ i2 hi2
          have ck := hc.kids
          have hkd : kidsD ns y = ns[i2].kids := by rw [hie2]; unfold kidsD; rw [nodeOf_at ns i2 hi2]
          have HK2 : Hid (RdI v1 L.kids (kidsD ns y)) := by show RdI _ _ _; rw [hkd]; exact hk3
          have q1 : (0 : Int) ≤ (i2 : Int) := by omega
          have q2 : (i2 : Int) < (ns.length : Int) := by omega
          obtain ⟨D, A, K⟩ := L
          simp only at ck HK2
          have n1 : ((kidsD ns z).length : Int) - 1 = (((kidsD ns z).length - 1 : Nat) : Int) := by omega
          have hkl : (kidsD ns z).length ≤ 4096 := by
            obtain ⟨i3, hi3, hie3⟩ := there_idx hz
            have := HR.out.kids_len i3 hi3
            rw [hie3]; unfold kidsD; rw [nodeOf_at ns i3 hi3]; omega
          clear hc hk3 hkd l2 HK HRR
          subst hie2
          generalize (kidsD ns z).length = KL at *
          have n2 : (0 : Int) ≤ (KL : Int) - 1 := by omega
          have n3 : (KL : Int) - 1 < (KL : Int) := by omega
          have n4 : ((KL : Int) - 1).toNat = KL - 1 := by omega
          go_wp2
          go_roundw
          case rel => exact ⟨_, rfl, HL2.out, HK2, HL1, trivial⟩
          case measure => exact HL3.out
end Go.Proofs.YticenjhhefiboaaGreat

namespace Go.Proofs.YticenjhhefiboaaGreat
open Go.RowKit Go.Lib Go.Shelf
attribute [local go_sem] Oper.semAt_some

def restL (L : Int → List Int) (y : Int) : List Int := if y == 0 then [] else y :: L y
theorem restL_zero (L : Int → List Int) : restL L 0 = [] := rfl
theorem restL_some (L : Int → List Int) {y : Int} (h : y ≠ 0) : restL L y = y :: L y := by unfold restL; rw [bfalse h, if_neg Bool.false_ne_true]

set_option maxHeartbeats 1000000 in
theorem from_any (x : Int) (g : Nat) (lb : Array Value) (w : World) :
    Calls Tryz.prog 59 #[.int .i64 x, .func (.func g) #[] lb] w fun e w' => e = .returned (.func (.func 85) #[] #[.pointer (some ⟨w.heap.size, 0, none⟩), .pointer (some ⟨w.heap.size + 1, 0, none⟩)]) ∧ w' = (w.alloc (.cells #[.int .i64 x] 3)).alloc (.cells #[.func (.func g) #[] lb] 61) := by
  go_enter Tryz.func59, Tryz.ntmps59
  go_wp2
  go_ret
  exact ⟨rfl, rfl⟩
set_option maxHeartbeats 1000000 in
theorem upFrom_any (o : Option Addr) (n cap : Nat) (x : Int) (w : World) :
    Calls Tryz.prog 61 #[.agg #[.slice o n cap], .int .i64 x] w fun e w' => e = .returned (.func (.func 85) #[] #[.pointer (some ⟨w.heap.size + 1, 0, none⟩), .pointer (some ⟨w.heap.size + 1 + 1, 0, none⟩)]) ∧ w' = ((w.alloc (.cells #[.slice o n cap] 24)).alloc (.cells #[.int .i64 x] 3)).alloc (.cells #[.func (.func 87) #[] #[.pointer (some ⟨w.heap.size, 0, none⟩)]] 61) := by
  have hF := from_any x 87 #[.pointer (some ⟨w.heap.size, 0, none⟩)] (w.alloc (.cells #[.slice o n cap] 24))
  simp only [World.size_alloc] at hF
  go_enter Tryz.func61, Tryz.ntmps61
  go_wp2_with fail
  refine hF.mono ?_
  rintro e v1 ⟨rfl, rfl⟩
  go_wp2
  go_ret
  exact ⟨rfl, rfl⟩
set_option maxRecDepth 100000 in
set_option maxHeartbeats 2000000 in
theorem upFrom1_any (b off cap bf : Nat) (y : Int) (ns : List NodeD) (w : World) (hF : FAt w b off cap ns) (cf : w.cell? ⟨bf, 0, none⟩ = some (.slice (some ⟨b, off, none⟩) ns.length cap)) (hy : thereB ns.length y = true) :
    Calls Tryz.prog 87 #[.int .i64 y, .pointer (some ⟨bf, 0, none⟩)] w fun e w' => e = .returned (.int .i64 (parentD ns y)) ∧ Below w.heap.size w w' := by
  obtain ⟨j, hj, rfl⟩ := there_idx hy
  rw [parentD_at ns j hj]
  obtain ⟨L, hc, _⟩ := hF.at_ j hj
  have c0 := hc.parent
  have hle := hF.len
  have q1 : (0 : Int) ≤ (j : Int) := by omega
  have q2 : (j : Int) < (ns.length : Int) := by omega
  clear hF hc
  generalize ns[j] = n at *
  go_enter Tryz.func87, Tryz.ntmps87
  go_wp2
  go_ret
  exact ⟨rfl, Below.refl _ _⟩

set_option maxRecDepth 100000 in
set_option maxHeartbeats 4000000 in
theorem fromU_in (n l bh bs n₀ bf : Nat) (hn : 1 ≤ n) (x : Int) (f : Int → Int) (L : Int → List Int) (I : Int → Prop) (J Jx : List Int → World → Prop) (W : World) (hn₀ : n₀ ≤ W.heap.size) (hbs : bs < n₀)
    (hS : ∀ (y : Int) (V : World), I y → Below n₀ W V → Calls Tryz.prog 87 #[.int .i64 y, .pointer (some ⟨bf, 0, none⟩)] V fun e w' => e = .returned (.int .i64 (f y)) ∧ Below V.heap.size V w')
    (hG : ∀ y, I y → f y = 0 ∨ I (f y)) (hL : ∀ y, I y → L y = restL L (f y)) (hI0 : ∀ y, I y → y ≠ 0)
    (ch : W.cell? ⟨bh, 0, none⟩ = some (.int .i64 x)) (cs : W.cell? ⟨bs, 0, none⟩ = some (.func (.func 87) #[] #[.pointer (some ⟨bf, 0, none⟩)])) (hx : x = 0 ∨ I x)
    (hJ : AbidesFrom W.heap.size J)
    (hY : ∀ pre z W1, I z → J pre W1 → pre.length < (restL L x).length → YieldAt Fence.wide (n - 1) Tryz.prog l #[.int .i64 z] W1 fun e W' =>
      (e = .returned (.bool true) ∧ J (pre ++ [z]) W' ∧ Below n₀ W1 W') ∨ (e = .returned (.bool false) ∧ Jx (pre ++ [z]) W'))
    (h0 : J [] W) :
    CallsIn Fence.wide n Tryz.prog 85 #[.func (.yield l) #[] #[], .pointer (some ⟨bh, 0, none⟩), .pointer (some ⟨bs, 0, none⟩)] W fun e W' => (∃ v, e = .returned v) ∧
      ((∃ ys, ys = restL L x ∧ J ys W') ∨ (∃ pre, pre <+: restL L x ∧ Jx pre W')) := by
  refine callsIn_of_wp Tryz.func85 rfl trivial ?_ rfl
  simp only [Tryz.ntmps85, List.size_toArray, List.length_cons, List.length_nil, Nat.reduceAdd, Nat.reduceSub, Array.replicate_succ, Array.replicate_zero, List.push_toArray, List.append_toArray, List.nil_append, List.cons_append]
  have HS := hid hS
  have HG := hid hG
  have HL := hid hL
  have HJ := hid hJ
  have HI0 := hid hI0
  have HCS := hid cs
  have eg : ∀ args w, (callFunc 87 args).run Tryz.prog w = .ok (.enter 87 args) w := enters_of Tryz.func87 (by kernel_rfl) rfl
  clear hS hG hL hJ hI0 cs
  obtain ⟨xs, hxs⟩ : ∃ xs, restL L x = xs := ⟨_, rfl⟩
  rw [hxs]
  rw [hxs] at hY
  have Hxs := hid hxs
  clear hxs
  gi_wp2
  gi_loopw [4] (fun t wr => ∃ (pre : List Int) (y : Int), t = .int .i64 y ∧ Hid (xs = pre ++ restL L y) ∧ Hid (y = 0 ∨ I y) ∧ Hid (Below n₀ W wr) ∧ Hid (J pre wr)) (fun t _ => (restL L (RowKit.intOf t)).length)
  case atStart => exact ⟨[], x, rfl, Hxs.out.symm, hx, Below.refl _ _, h0⟩
  case round =>
    obtain ⟨pre, y, rfl, hp, hy0, hB, hJs⟩ := hrel
    clear ch hx h0
    by_cases hz : y = 0
    · subst hz
      have Hpre : Hid (xs = pre) := by
        have := hp.out
        rw [restL_zero, List.append_nil] at this
        exact this
      clear hp
      gi_wp2
      refine ⟨fun _ h => (by cases h), ?_⟩
      gi_wp2
      go_end0
      exact ⟨⟨_, rfl⟩, .inl ⟨pre, Hpre.out.symm, hJs.out⟩⟩
    · have hyI := hy0.out.resolve_left hz
      have Hcons : Hid (restL L y = y :: restL L (f y)) := by
        show restL L y = _
        rw [restL_some L hz, HL.out y hyI]
      obtain ⟨fn, tmps, assign, body, hyy, hRd⟩ := hY pre y wr hyI hJs.out (by rw [hp.out, Hcons.out]; simp)
      have hnz : (y != 0) = true := by
        rw [bne, beq_eq_false_iff_ne.2 hz]
        rfl
      gi_wp2
      refine hRd.mono ?_
      rintro e W3 (⟨rfl, hJ3, hk3⟩ | ⟨rfl, hJx3⟩)
      · have hB3 := hB.out.trans hk3
        have c1 := (hB3.cell (p := ⟨bs, 0, none⟩) hbs).trans HCS.out
        have hP := HS.out y W3 hyI hB3
        have HB3 := hid hB3
        clear hB3
        gi_wp2
        refine ⟨trivial, (callsIn_wide.2 hP).mono ?_⟩
        rintro e W4 ⟨rfl, hb4⟩
        have HJ4 := hid (HJ.out _ _ _ none hJ3 (grown_of_below hb4) (fun r e => by cases e))
        have HB4 := hid (HB3.out.trans (hb4.mono (Nat.le_trans hn₀ HB3.out.size)))
        have Hth := hid (HG.out y hyI)
        have Hp2 : Hid (xs = (pre ++ [y]) ++ restL L (f y)) := by
          show xs = _
          rw [hp.out, Hcons.out, List.append_assoc]
          rfl
        have Hme : Hid ((restL L (f y)).length < (restL L y).length) := by
          show _ < _
          rw [Hcons.out]
          exact Nat.lt_succ_self _
        clear hP hb4 hJ3 hk3 c1 hyy hRd hp Hcons
        gi_wp2
        go_roundw
        case rel => exact ⟨pre ++ [y], _, rfl, Hp2, Hth, HB4, HJ4⟩
        case measure => exact Hme.out
      · gi_wp2
        go_end0
        exact ⟨⟨_, rfl⟩, .inr ⟨pre ++ [y], ⟨restL L (f y), by rw [hp.out, Hcons.out]; simp⟩, hJx3⟩⟩
/-- What from hands back, ranged over, each one such a node. -/
theorem fromU_stops (n bh bs n₀ bf : Nat) (hn : 1 ≤ n) (x : Int) (f : Int → Int) (L : Int → List Int) (I : Int → Prop) (w : World) (hn₀ : n₀ ≤ w.heap.size) (hbh : bh < n₀) (hbs : bs < n₀)
    (hS : ∀ (y : Int) (V : World), I y → Below n₀ w V → Calls Tryz.prog 87 #[.int .i64 y, .pointer (some ⟨bf, 0, none⟩)] V fun e w' => e = .returned (.int .i64 (f y)) ∧ Below V.heap.size V w')
    (hG : ∀ y, I y → f y = 0 ∨ I (f y)) (hL : ∀ y, I y → L y = restL L (f y)) (hI0 : ∀ y, I y → y ≠ 0)
    (ch : w.cell? ⟨bh, 0, none⟩ = some (.int .i64 x)) (cs : w.cell? ⟨bs, 0, none⟩ = some (.func (.func 87) #[] #[.pointer (some ⟨bf, 0, none⟩)])) (hx : x = 0 ∨ I x) :
    SeqStopsK Fence.wide n Tryz.prog 85 #[.pointer (some ⟨bh, 0, none⟩), .pointer (some ⟨bs, 0, none⟩)] (fun z : { z : Int // I z } => #[Value.int .i64 z.1]) (Below n₀) (fun ys => ys.map (·.1) = restL L x) (fun pre => pre.map (·.1) <+: restL L x) (restL L x).length w := fun l J Jx W hW hJ hJx hY h0 => by
  have h := fromU_in n l bh bs n₀ bf hn x f L I (fun pre V => ∃ ys : List { z : Int // I z }, ys.map (·.1) = pre ∧ J ys V) (fun pre V => ∃ ys : List { z : Int // I z }, ys.map (·.1) = pre ∧ Jx ys V) W (Nat.le_trans hn₀ hW.size) hbs
    (fun y V hy hV => hS y V hy ((hW.mono hn₀).trans hV)) hG hL hI0
    ((hW.cell (p := ⟨bh, 0, none⟩) (Nat.lt_of_lt_of_le hbh hn₀)).trans ch) ((hW.cell (p := ⟨bs, 0, none⟩) (Nat.lt_of_lt_of_le hbs hn₀)).trans cs) hx
    (fun s A B row hs hg hr => by
      obtain ⟨ys, e, hj⟩ := hs
      exact ⟨ys, e, hJ ys A B row hj hg hr⟩)
    (fun pre z W1 hz hj hl => by
      obtain ⟨ys, e, hj⟩ := hj
      obtain ⟨fn, tmps, assign, body, hy, hRd⟩ := hY ys ⟨z, hz⟩ W1 hj (by rw [← List.length_map (f := fun t : { z : Int // I z } => t.1), e]; exact hl)
      refine ⟨fn, tmps, assign, body, hy, hRd.mono ?_⟩
      rintro e' W' (⟨a, b, c⟩ | ⟨a, b⟩)
      · exact .inl ⟨a, ⟨ys ++ [⟨z, hz⟩], by rw [List.map_append, e]; rfl, b⟩, c⟩
      · exact .inr ⟨a, ⟨ys ++ [⟨z, hz⟩], by rw [List.map_append, e]; rfl, b⟩⟩)
    ⟨[], rfl, h0⟩
  refine h.mono ?_
  rintro e W' ⟨hv, ⟨ys, rfl, zs, hz, hj⟩ | ⟨pre, hp, zs, rfl, hj⟩⟩
  · exact ⟨hv, .inl ⟨zs, hz, hj⟩⟩
  · exact ⟨hv, .inr ⟨zs, hp, hj⟩⟩

set_option maxRecDepth 100000 in
set_option maxHeartbeats 4000000 in
theorem fromN_in (n l bh bs n₀ bf bi : Nat) (hn : 1 ≤ n) (x : Int) (f : Int → Int) (L : Int → List Int) (I : Int → Prop) (J Jx : List Int → World → Prop) (W : World) (hn₀ : n₀ ≤ W.heap.size) (hbs : bs < n₀)
    (hS : ∀ (y : Int) (V : World), I y → Below n₀ W V → Calls Tryz.prog 31 #[.int .i64 y, .pointer (some ⟨bf, 0, none⟩), .pointer (some ⟨bi, 0, none⟩)] V fun e w' => e = .returned (.int .i64 (f y)) ∧ Below V.heap.size V w')
    (hG : ∀ y, I y → f y = 0 ∨ I (f y)) (hL : ∀ y, I y → L y = restL L (f y)) (hI0 : ∀ y, I y → y ≠ 0)
    (ch : W.cell? ⟨bh, 0, none⟩ = some (.int .i64 x)) (cs : W.cell? ⟨bs, 0, none⟩ = some (.func (.func 31) #[] #[.pointer (some ⟨bf, 0, none⟩), .pointer (some ⟨bi, 0, none⟩)])) (hx : x = 0 ∨ I x)
    (hJ : AbidesFrom W.heap.size J)
    (hY : ∀ pre z W1, I z → J pre W1 → pre.length < (restL L x).length → YieldAt Fence.wide (n - 1) Tryz.prog l #[.int .i64 z] W1 fun e W' =>
      (e = .returned (.bool true) ∧ J (pre ++ [z]) W' ∧ Below n₀ W1 W') ∨ (e = .returned (.bool false) ∧ Jx (pre ++ [z]) W'))
    (h0 : J [] W) :
    CallsIn Fence.wide n Tryz.prog 85 #[.func (.yield l) #[] #[], .pointer (some ⟨bh, 0, none⟩), .pointer (some ⟨bs, 0, none⟩)] W fun e W' => (∃ v, e = .returned v) ∧
      ((∃ ys, ys = restL L x ∧ J ys W') ∨ (∃ pre, pre <+: restL L x ∧ Jx pre W')) := by
  refine callsIn_of_wp Tryz.func85 rfl trivial ?_ rfl
  simp only [Tryz.ntmps85, List.size_toArray, List.length_cons, List.length_nil, Nat.reduceAdd, Nat.reduceSub, Array.replicate_succ, Array.replicate_zero, List.push_toArray, List.append_toArray, List.nil_append, List.cons_append]
  have HS := hid hS
  have HG := hid hG
  have HL := hid hL
  have HJ := hid hJ
  have HI0 := hid hI0
  have HCS := hid cs
  have eg : ∀ args w, (callFunc 31 args).run Tryz.prog w = .ok (.enter 31 args) w := enters_of Tryz.func31 (by kernel_rfl) rfl
  clear hS hG hL hJ hI0 cs
  obtain ⟨xs, hxs⟩ : ∃ xs, restL L x = xs := ⟨_, rfl⟩
  rw [hxs]
  rw [hxs] at hY
  have Hxs := hid hxs
  clear hxs
  gi_wp2
  gi_loopw [4] (fun t wr => ∃ (pre : List Int) (y : Int), t = .int .i64 y ∧ Hid (xs = pre ++ restL L y) ∧ Hid (y = 0 ∨ I y) ∧ Hid (Below n₀ W wr) ∧ Hid (J pre wr)) (fun t _ => (restL L (RowKit.intOf t)).length)
  case atStart => exact ⟨[], x, rfl, Hxs.out.symm, hx, Below.refl _ _, h0⟩
  case round =>
    obtain ⟨pre, y, rfl, hp, hy0, hB, hJs⟩ := hrel
    clear ch hx h0
    by_cases hz : y = 0
    · subst hz
      have Hpre : Hid (xs = pre) := by
        have := hp.out
        rw [restL_zero, List.append_nil] at this
        exact this
      clear hp
      gi_wp2
      refine ⟨fun _ h => (by cases h), ?_⟩
      gi_wp2
      go_end0
      exact ⟨⟨_, rfl⟩, .inl ⟨pre, Hpre.out.symm, hJs.out⟩⟩
    · have hyI := hy0.out.resolve_left hz
      have Hcons : Hid (restL L y = y :: restL L (f y)) := by
        show restL L y = _
        rw [restL_some L hz, HL.out y hyI]
      obtain ⟨fn, tmps, assign, body, hyy, hRd⟩ := hY pre y wr hyI hJs.out (by rw [hp.out, Hcons.out]; simp)
      have hnz : (y != 0) = true := by
        rw [bne, beq_eq_false_iff_ne.2 hz]
        rfl
      gi_wp2
      refine hRd.mono ?_
      rintro e W3 (⟨rfl, hJ3, hk3⟩ | ⟨rfl, hJx3⟩)
      · have hB3 := hB.out.trans hk3
        have c1 := (hB3.cell (p := ⟨bs, 0, none⟩) hbs).trans HCS.out
        have hP := HS.out y W3 hyI hB3
        have HB3 := hid hB3
        clear hB3
        gi_wp2
        refine ⟨trivial, (callsIn_wide.2 hP).mono ?_⟩
        rintro e W4 ⟨rfl, hb4⟩
        have HJ4 := hid (HJ.out _ _ _ none hJ3 (grown_of_below hb4) (fun r e => by cases e))
        have HB4 := hid (HB3.out.trans (hb4.mono (Nat.le_trans hn₀ HB3.out.size)))
        have Hth := hid (HG.out y hyI)
        have Hp2 : Hid (xs = (pre ++ [y]) ++ restL L (f y)) := by
          show xs = _
          rw [hp.out, Hcons.out, List.append_assoc]
          rfl
        have Hme : Hid ((restL L (f y)).length < (restL L y).length) := by
          show _ < _
          rw [Hcons.out]
          exact Nat.lt_succ_self _
        clear hP hb4 hJ3 hk3 c1 hyy hRd hp Hcons
        gi_wp2
        go_roundw
        case rel => exact ⟨pre ++ [y], _, rfl, Hp2, Hth, HB4, HJ4⟩
        case measure => exact Hme.out
      · gi_wp2
        go_end0
        exact ⟨⟨_, rfl⟩, .inr ⟨pre ++ [y], ⟨restL L (f y), by rw [hp.out, Hcons.out]; simp⟩, hJx3⟩⟩
/-- What from hands back, ranged over, each one such a node. -/
theorem fromN_stops (n bh bs n₀ bf bi : Nat) (hn : 1 ≤ n) (x : Int) (f : Int → Int) (L : Int → List Int) (I : Int → Prop) (w : World) (hn₀ : n₀ ≤ w.heap.size) (hbh : bh < n₀) (hbs : bs < n₀)
    (hS : ∀ (y : Int) (V : World), I y → Below n₀ w V → Calls Tryz.prog 31 #[.int .i64 y, .pointer (some ⟨bf, 0, none⟩), .pointer (some ⟨bi, 0, none⟩)] V fun e w' => e = .returned (.int .i64 (f y)) ∧ Below V.heap.size V w')
    (hG : ∀ y, I y → f y = 0 ∨ I (f y)) (hL : ∀ y, I y → L y = restL L (f y)) (hI0 : ∀ y, I y → y ≠ 0)
    (ch : w.cell? ⟨bh, 0, none⟩ = some (.int .i64 x)) (cs : w.cell? ⟨bs, 0, none⟩ = some (.func (.func 31) #[] #[.pointer (some ⟨bf, 0, none⟩), .pointer (some ⟨bi, 0, none⟩)])) (hx : x = 0 ∨ I x) :
    SeqStopsK Fence.wide n Tryz.prog 85 #[.pointer (some ⟨bh, 0, none⟩), .pointer (some ⟨bs, 0, none⟩)] (fun z : { z : Int // I z } => #[Value.int .i64 z.1]) (Below n₀) (fun ys => ys.map (·.1) = restL L x) (fun pre => pre.map (·.1) <+: restL L x) (restL L x).length w := fun l J Jx W hW hJ hJx hY h0 => by
  have h := fromN_in n l bh bs n₀ bf bi hn x f L I (fun pre V => ∃ ys : List { z : Int // I z }, ys.map (·.1) = pre ∧ J ys V) (fun pre V => ∃ ys : List { z : Int // I z }, ys.map (·.1) = pre ∧ Jx ys V) W (Nat.le_trans hn₀ hW.size) hbs
    (fun y V hy hV => hS y V hy ((hW.mono hn₀).trans hV)) hG hL hI0
    ((hW.cell (p := ⟨bh, 0, none⟩) (Nat.lt_of_lt_of_le hbh hn₀)).trans ch) ((hW.cell (p := ⟨bs, 0, none⟩) (Nat.lt_of_lt_of_le hbs hn₀)).trans cs) hx
    (fun s A B row hs hg hr => by
      obtain ⟨ys, e, hj⟩ := hs
      exact ⟨ys, e, hJ ys A B row hj hg hr⟩)
    (fun pre z W1 hz hj hl => by
      obtain ⟨ys, e, hj⟩ := hj
      obtain ⟨fn, tmps, assign, body, hy, hRd⟩ := hY ys ⟨z, hz⟩ W1 hj (by rw [← List.length_map (f := fun t : { z : Int // I z } => t.1), e]; exact hl)
      refine ⟨fn, tmps, assign, body, hy, hRd.mono ?_⟩
      rintro e' W' (⟨a, b, c⟩ | ⟨a, b⟩)
      · exact .inl ⟨a, ⟨ys ++ [⟨z, hz⟩], by rw [List.map_append, e]; rfl, b⟩, c⟩
      · exact .inr ⟨a, ⟨ys ++ [⟨z, hz⟩], by rw [List.map_append, e]; rfl, b⟩⟩)
    ⟨[], rfl, h0⟩
  refine h.mono ?_
  rintro e W' ⟨hv, ⟨ys, rfl, zs, hz, hj⟩ | ⟨pre, hp, zs, rfl, hj⟩⟩
  · exact ⟨hv, .inl ⟨zs, hz, hj⟩⟩
  · exact ⟨hv, .inr ⟨zs, hp, hj⟩⟩

set_option maxRecDepth 100000 in
set_option maxHeartbeats 4000000 in
theorem fromP_in (n l bh bs n₀ bf bi : Nat) (hn : 1 ≤ n) (x : Int) (f : Int → Int) (L : Int → List Int) (I : Int → Prop) (J Jx : List Int → World → Prop) (W : World) (hn₀ : n₀ ≤ W.heap.size) (hbs : bs < n₀)
    (hS : ∀ (y : Int) (V : World), I y → Below n₀ W V → Calls Tryz.prog 36 #[.int .i64 y, .pointer (some ⟨bf, 0, none⟩), .pointer (some ⟨bi, 0, none⟩)] V fun e w' => e = .returned (.int .i64 (f y)) ∧ Below V.heap.size V w')
    (hG : ∀ y, I y → f y = 0 ∨ I (f y)) (hL : ∀ y, I y → L y = restL L (f y)) (hI0 : ∀ y, I y → y ≠ 0)
    (ch : W.cell? ⟨bh, 0, none⟩ = some (.int .i64 x)) (cs : W.cell? ⟨bs, 0, none⟩ = some (.func (.func 36) #[] #[.pointer (some ⟨bf, 0, none⟩), .pointer (some ⟨bi, 0, none⟩)])) (hx : x = 0 ∨ I x)
    (hJ : AbidesFrom W.heap.size J)
    (hY : ∀ pre z W1, I z → J pre W1 → pre.length < (restL L x).length → YieldAt Fence.wide (n - 1) Tryz.prog l #[.int .i64 z] W1 fun e W' =>
      (e = .returned (.bool true) ∧ J (pre ++ [z]) W' ∧ Below n₀ W1 W') ∨ (e = .returned (.bool false) ∧ Jx (pre ++ [z]) W'))
    (h0 : J [] W) :
    CallsIn Fence.wide n Tryz.prog 85 #[.func (.yield l) #[] #[], .pointer (some ⟨bh, 0, none⟩), .pointer (some ⟨bs, 0, none⟩)] W fun e W' => (∃ v, e = .returned v) ∧
      ((∃ ys, ys = restL L x ∧ J ys W') ∨ (∃ pre, pre <+: restL L x ∧ Jx pre W')) := by
  refine callsIn_of_wp Tryz.func85 rfl trivial ?_ rfl
  simp only [Tryz.ntmps85, List.size_toArray, List.length_cons, List.length_nil, Nat.reduceAdd, Nat.reduceSub, Array.replicate_succ, Array.replicate_zero, List.push_toArray, List.append_toArray, List.nil_append, List.cons_append]
  have HS := hid hS
  have HG := hid hG
  have HL := hid hL
  have HJ := hid hJ
  have HI0 := hid hI0
  have HCS := hid cs
  have eg : ∀ args w, (callFunc 36 args).run Tryz.prog w = .ok (.enter 36 args) w := enters_of Tryz.func36 (by kernel_rfl) rfl
  clear hS hG hL hJ hI0 cs
  obtain ⟨xs, hxs⟩ : ∃ xs, restL L x = xs := ⟨_, rfl⟩
  rw [hxs]
  rw [hxs] at hY
  have Hxs := hid hxs
  clear hxs
  gi_wp2
  gi_loopw [4] (fun t wr => ∃ (pre : List Int) (y : Int), t = .int .i64 y ∧ Hid (xs = pre ++ restL L y) ∧ Hid (y = 0 ∨ I y) ∧ Hid (Below n₀ W wr) ∧ Hid (J pre wr)) (fun t _ => (restL L (RowKit.intOf t)).length)
  case atStart => exact ⟨[], x, rfl, Hxs.out.symm, hx, Below.refl _ _, h0⟩
  case round =>
    obtain ⟨pre, y, rfl, hp, hy0, hB, hJs⟩ := hrel
    clear ch hx h0
    by_cases hz : y = 0
    · subst hz
      have Hpre : Hid (xs = pre) := by
        have := hp.out
        rw [restL_zero, List.append_nil] at this
        exact this
      clear hp
      gi_wp2
      refine ⟨fun _ h => (by cases h), ?_⟩
      gi_wp2
      go_end0
      exact ⟨⟨_, rfl⟩, .inl ⟨pre, Hpre.out.symm, hJs.out⟩⟩
    · have hyI := hy0.out.resolve_left hz
      have Hcons : Hid (restL L y = y :: restL L (f y)) := by
        show restL L y = _
        rw [restL_some L hz, HL.out y hyI]
      obtain ⟨fn, tmps, assign, body, hyy, hRd⟩ := hY pre y wr hyI hJs.out (by rw [hp.out, Hcons.out]; simp)
      have hnz : (y != 0) = true := by
        rw [bne, beq_eq_false_iff_ne.2 hz]
        rfl
      gi_wp2
      refine hRd.mono ?_
      rintro e W3 (⟨rfl, hJ3, hk3⟩ | ⟨rfl, hJx3⟩)
      · have hB3 := hB.out.trans hk3
        have c1 := (hB3.cell (p := ⟨bs, 0, none⟩) hbs).trans HCS.out
        have hP := HS.out y W3 hyI hB3
        have HB3 := hid hB3
        clear hB3
        gi_wp2
        refine ⟨trivial, (callsIn_wide.2 hP).mono ?_⟩
        rintro e W4 ⟨rfl, hb4⟩
        have HJ4 := hid (HJ.out _ _ _ none hJ3 (grown_of_below hb4) (fun r e => by cases e))
        have HB4 := hid (HB3.out.trans (hb4.mono (Nat.le_trans hn₀ HB3.out.size)))
        have Hth := hid (HG.out y hyI)
        have Hp2 : Hid (xs = (pre ++ [y]) ++ restL L (f y)) := by
          show xs = _
          rw [hp.out, Hcons.out, List.append_assoc]
          rfl
        have Hme : Hid ((restL L (f y)).length < (restL L y).length) := by
          show _ < _
          rw [Hcons.out]
          exact Nat.lt_succ_self _
        clear hP hb4 hJ3 hk3 c1 hyy hRd hp Hcons
        gi_wp2
        go_roundw
        case rel => exact ⟨pre ++ [y], _, rfl, Hp2, Hth, HB4, HJ4⟩
        case measure => exact Hme.out
      · gi_wp2
        go_end0
        exact ⟨⟨_, rfl⟩, .inr ⟨pre ++ [y], ⟨restL L (f y), by rw [hp.out, Hcons.out]; simp⟩, hJx3⟩⟩
/-- What from hands back, ranged over, each one such a node. -/
theorem fromP_stops (n bh bs n₀ bf bi : Nat) (hn : 1 ≤ n) (x : Int) (f : Int → Int) (L : Int → List Int) (I : Int → Prop) (w : World) (hn₀ : n₀ ≤ w.heap.size) (hbh : bh < n₀) (hbs : bs < n₀)
    (hS : ∀ (y : Int) (V : World), I y → Below n₀ w V → Calls Tryz.prog 36 #[.int .i64 y, .pointer (some ⟨bf, 0, none⟩), .pointer (some ⟨bi, 0, none⟩)] V fun e w' => e = .returned (.int .i64 (f y)) ∧ Below V.heap.size V w')
    (hG : ∀ y, I y → f y = 0 ∨ I (f y)) (hL : ∀ y, I y → L y = restL L (f y)) (hI0 : ∀ y, I y → y ≠ 0)
    (ch : w.cell? ⟨bh, 0, none⟩ = some (.int .i64 x)) (cs : w.cell? ⟨bs, 0, none⟩ = some (.func (.func 36) #[] #[.pointer (some ⟨bf, 0, none⟩), .pointer (some ⟨bi, 0, none⟩)])) (hx : x = 0 ∨ I x) :
    SeqStopsK Fence.wide n Tryz.prog 85 #[.pointer (some ⟨bh, 0, none⟩), .pointer (some ⟨bs, 0, none⟩)] (fun z : { z : Int // I z } => #[Value.int .i64 z.1]) (Below n₀) (fun ys => ys.map (·.1) = restL L x) (fun pre => pre.map (·.1) <+: restL L x) (restL L x).length w := fun l J Jx W hW hJ hJx hY h0 => by
  have h := fromP_in n l bh bs n₀ bf bi hn x f L I (fun pre V => ∃ ys : List { z : Int // I z }, ys.map (·.1) = pre ∧ J ys V) (fun pre V => ∃ ys : List { z : Int // I z }, ys.map (·.1) = pre ∧ Jx ys V) W (Nat.le_trans hn₀ hW.size) hbs
    (fun y V hy hV => hS y V hy ((hW.mono hn₀).trans hV)) hG hL hI0
    ((hW.cell (p := ⟨bh, 0, none⟩) (Nat.lt_of_lt_of_le hbh hn₀)).trans ch) ((hW.cell (p := ⟨bs, 0, none⟩) (Nat.lt_of_lt_of_le hbs hn₀)).trans cs) hx
    (fun s A B row hs hg hr => by
      obtain ⟨ys, e, hj⟩ := hs
      exact ⟨ys, e, hJ ys A B row hj hg hr⟩)
    (fun pre z W1 hz hj hl => by
      obtain ⟨ys, e, hj⟩ := hj
      obtain ⟨fn, tmps, assign, body, hy, hRd⟩ := hY ys ⟨z, hz⟩ W1 hj (by rw [← List.length_map (f := fun t : { z : Int // I z } => t.1), e]; exact hl)
      refine ⟨fn, tmps, assign, body, hy, hRd.mono ?_⟩
      rintro e' W' (⟨a, b, c⟩ | ⟨a, b⟩)
      · exact .inl ⟨a, ⟨ys ++ [⟨z, hz⟩], by rw [List.map_append, e]; rfl, b⟩, c⟩
      · exact .inr ⟨a, ⟨ys ++ [⟨z, hz⟩], by rw [List.map_append, e]; rfl, b⟩⟩)
    ⟨[], rfl, h0⟩
  refine h.mono ?_
  rintro e W' ⟨hv, ⟨ys, rfl, zs, hz, hj⟩ | ⟨pre, hp, zs, rfl, hj⟩⟩
  · exact ⟨hv, .inl ⟨zs, hz, hj⟩⟩
  · exact ⟨hv, .inr ⟨zs, hp, hj⟩⟩
end Go.Proofs.YticenjhhefiboaaGreat

namespace Go.Proofs.YticenjhhefiboaaGreat
open Go.RowKit Go.Lib Go.Shelf
attribute [local go_sem] Oper.semAt_some

/-- The first that fits; 0: none. -/
def firstB (q : Int → Bool) : List Int → Int
  | [] => 0
  | y :: t => if q y then y else firstB q t
theorem firstB_none (q : Int → Bool) : ∀ l : List Int, (∀ y ∈ l, q y = false) → firstB q l = 0
  | [], _ => rfl
  | y :: t, h => by
    rw [firstB, h y (by simp), if_neg Bool.false_ne_true]
    exact firstB_none q t (fun z hz => h z (by simp [hz]))
theorem firstB_prefix (q : Int → Bool) (z : Int) : ∀ (p t : List Int), (∀ y ∈ p, q y = false) → q z = true → firstB q (p ++ ([z] ++ t)) = z
  | [], t, _, hz => by
    show firstB q (z :: t) = z
    rw [firstB, hz, if_pos rfl]
  | y :: p, t, h, hz => by
    show firstB q (y :: (p ++ ([z] ++ t))) = z
    rw [firstB, h y (by simp), if_neg Bool.false_ne_true]
    exact firstB_prefix q z p t (fun u hu => h u (by simp [hu])) hz

set_option maxRecDepth 100000 in
set_option maxHeartbeats 4000000 in
theorem firstUC_any (bh bs bf ba : Nat) (x : Int) (f : Int → Int) (L : Int → List Int) (I : Int → Prop) (q : Int → Bool) (w : World) (hbh : bh < w.heap.size) (hbs : bs < w.heap.size)
    (hS : ∀ (y : Int) (V : World), I y → Below w.heap.size w V → Calls Tryz.prog 87 #[.int .i64 y, .pointer (some ⟨bf, 0, none⟩)] V fun e w' => e = .returned (.int .i64 (f y)) ∧ Below V.heap.size V w')
    (hT : ∀ (y : Int) (V : World), I y → Below w.heap.size w V → Calls Tryz.prog 81 #[.int .i64 y, .pointer (some ⟨ba, 0, none⟩)] V fun e w' => e = .returned (.bool (q y)) ∧ Below V.heap.size V w')
    (hG : ∀ y, I y → f y = 0 ∨ I (f y)) (hL : ∀ y, I y → L y = restL L (f y)) (hI0 : ∀ y, I y → y ≠ 0)
    (ch : w.cell? ⟨bh, 0, none⟩ = some (.int .i64 x)) (cs : w.cell? ⟨bs, 0, none⟩ = some (.func (.func 87) #[] #[.pointer (some ⟨bf, 0, none⟩)])) (hx : x = 0 ∨ I x) :
    Calls Tryz.prog 58 #[.func (.func 85) #[] #[.pointer (some ⟨bh, 0, none⟩), .pointer (some ⟨bs, 0, none⟩)], .func (.func 81) #[] #[.pointer (some ⟨ba, 0, none⟩)]] w fun e w' => e = .returned (.int .i64 (firstB q (restL L x))) ∧ Below w.heap.size w w' := by
  refine (callsIn_wide (n := 6)).1 ?_
  refine callsIn_of_wp_marks Tryz.func58 rfl trivial ?_ rfl
  simp only [Tryz.ntmps58, List.size_toArray, List.length_cons, List.length_nil, Nat.reduceAdd, Nat.reduceSub, Array.replicate_succ, Array.replicate_zero, List.push_toArray, List.append_toArray, List.nil_append, List.cons_append]
  have HT := hid hT
  have eg : ∀ args w, (callFunc 81 args).run Tryz.prog w = .ok (.enter 81 args) w := enters_of Tryz.func81 (by kernel_rfl) rfl
  clear hT
  gi_wp2
  have c0 := new_cell_l w (.func (.func 81) #[] #[.pointer (some ⟨ba, 0, none⟩)]) 93
  have c1 := new_cell_l (w.alloc (.cells #[.func (.func 81) #[] #[.pointer (some ⟨ba, 0, none⟩)]] 93)) (.int .i64 0) 3
  simp only [World.size_alloc] at c1
  have hB0 : Below w.heap.size w ((w.alloc (.cells #[.func (.func 81) #[] #[.pointer (some ⟨ba, 0, none⟩)]] 93)).alloc (.cells #[.int .i64 0] 3)) := ((Below.refl _ w).alloc (Nat.le_refl _) _).alloc (by simp) _
  have hsV : ((w.alloc (.cells #[.func (.func 81) #[] #[.pointer (some ⟨ba, 0, none⟩)]] 93)).alloc (.cells #[.int .i64 0] 3)).heap.size = w.heap.size + 1 + 1 := by simp
  refine wpIn_rangeFunc_ownF (α := { z : Int // I z }) rfl (by omega) (gf := 85) (lb := #[.pointer (some ⟨bh, 0, none⟩), .pointer (some ⟨bs, 0, none⟩)]) rfl trivial (enters_of Tryz.func85 (by kernel_rfl) rfl)
    (fromU_stops (6 - 1) bh bs w.heap.size bf (by omega) x f L I _ (by rw [hsV]; omega) hbh hbs (fun y V hy hV => hS y V hy (hB0.trans (hV.mono (Nat.le_refl _)))) hG hL hI0 ((hB0.cell (p := ⟨bh, 0, none⟩) hbh).trans ch) ((hB0.cell (p := ⟨bs, 0, none⟩) hbs).trans cs) hx) belowK_t (belowK_b (by rw [hsV]; omega)) (Below.refl _ _) (fun _ => rfl)
    (fun pre W => ((∀ y ∈ pre, q y.1 = false) ∧ W.cell? ⟨w.heap.size, 0, none⟩ = some (.func (.func 81) #[] #[.pointer (some ⟨ba, 0, none⟩)]) ∧ W.cell? ⟨w.heap.size + 1, 0, none⟩ = some (.int .i64 0) ∧ W.frozen? ⟨w.heap.size + 1, 0, none⟩ = false ∧ w.heap.size ≤ W.heap.size) ∧ Below w.heap.size w W)
    (fun c pre W => (c = .ret ∧ ∃ (p0 : List { z : Int // I z }) (z : { z : Int // I z }), pre = p0 ++ [z] ∧ (∀ y ∈ p0, q y.1 = false) ∧ q z.1 = true ∧ W.cell? ⟨w.heap.size + 1, 0, none⟩ = some (.int .i64 z.1)) ∧ Below w.heap.size w W)
    (OwnFrom.and (Own.from (fun s A B row hs hg hr => ⟨hs.1, cell_kept hs.2.1 hg hr, cell_kept hs.2.2.1 hg hr, (frozen_kept hs.2.2.1 hg hr).trans hs.2.2.2.1, Nat.le_trans hs.2.2.2.2 hg.size⟩) _) (ownFrom_below (Nat.le_refl _) (by rw [hsV]; omega)))
    (fun c => OwnFrom.and (Own.from (fun s A B row hs hg hr => by
      obtain ⟨h1, p0, z, h2, h3, h4, h5⟩ := hs
      exact ⟨h1, p0, z, h2, h3, h4, cell_kept h5 hg hr⟩) _) (ownFrom_below (Nat.le_refl _) (by rw [hsV]; omega)))
    ⟨⟨by simp, keep_cell_l _ c0.1, c1.1, c1.2, by rw [hsV]; omega⟩, hB0⟩
    (fun z => { tmps := #[.func (.func 85) #[] #[.pointer (some ⟨bh, 0, none⟩), .pointer (some ⟨bs, 0, none⟩)], .func (.func 81) #[] #[.pointer (some ⟨ba, 0, none⟩)], undef, .pointer (some ⟨w.heap.size, 0, none⟩), .pointer (some ⟨w.heap.size + 1, 0, none⟩), .int .i64 z.1, .func (.func 85) #[] #[.pointer (some ⟨bh, 0, none⟩), .pointer (some ⟨bs, 0, none⟩)], .int .i64 z.1, undef, undef, undef, undef], defers := [] }) ?assign ?body ?done ?stop
  case assign =>
    intro l z W K hK
    gi_wp2
    exact hK
  case body =>
    rintro l pre z W ⟨⟨hp, hcf, hcr, hfr, hsz⟩, hB⟩ _
    have hTz := HT.out z.1 W z.2 hB
    have HB := hid hB
    clear hB
    gi_wp2
    refine ⟨trivial, (callsIn_wide.2 hTz).mono ?_⟩
    rintro e v3 ⟨rfl, hb3⟩
    have hcf3 := cell_kept hcf (grown_of_below hb3) (fun r e => by cases e)
    have hcr3 := cell_kept hcr (grown_of_below hb3) (fun r e => by cases e)
    have hfr3 := (frozen_kept hcr (grown_of_below hb3) (fun r e => by cases e)).trans hfr
    have HB3' := hid (HB.out.trans (hb3.mono HB.out.size))
    have hko : KeepsOthers W v3 := KeepsOthers.of_grownBy (grown_of_below hb3) (fun j o ej _ => by cases ej)
    clear hTz
    cases hz : q z.1 with
    | false =>
      gi_wp2
      refine ⟨hko, hb3.mono hsz, ⟨fun y hy => ?_, hcf3, hcr3, hfr3, Nat.le_trans hsz hb3.size⟩, HB3'.out⟩
      rcases List.mem_append.1 hy with a | a
      · exact hp y a
      · rw [List.mem_singleton.1 a]; exact hz
    | true =>
      gi_wp2
      exact ⟨hko.trans (KeepsOthers.setCell _ _ _), ⟨rfl, pre, z, rfl, hp, hz, World.cell?_setCell_same' _ _ _ (by rw [hcr3]; rfl)⟩, HB3'.out.setCell (p := ⟨w.heap.size + 1, 0, none⟩) (Nat.le_succ _) _⟩
  case done =>
    rintro D ys W hD hys ⟨⟨hp, _, hcr, hfr, _⟩, hB⟩ hK
    have hf0 : firstB q (restL L x) = 0 := by
      rw [← hys]
      refine firstB_none _ _ (fun y hy => ?_)
      obtain ⟨u, hu, rfl⟩ := List.mem_map.1 hy
      exact hp u hu
    gi_wp2
    have hK' := (KeepsOthers.setCell W ⟨w.heap.size + 1, 0, none⟩ (.int .i64 0)).same D _ hK rfl
    refine ⟨by simp, .inl ⟨_, _, rfl, run_takeDeferred hK', ?_⟩⟩
    have hc5 := cell_kept (World.cell?_setCell_same' W ⟨w.heap.size + 1, 0, none⟩ (.int .i64 0) (by rw [hcr]; rfl)) (grownBy_putObj' _ D (.deferred none)) (fun r e => by cases e; exact ⟨_, hK', rfl⟩)
    refine ⟨.int .i64 0, ?_, by rw [hf0], (hB.setCell (p := ⟨w.heap.size + 1, 0, none⟩) (Nat.le_succ _) _).trans (belowK_b (w := w) (Nat.le_refl _) _ D _ _ (by rw [hsV] at hD; omega) hK' rfl rfl)⟩
    simp [results, Tryz.f58, go_sem, hc5]
  case stop =>
    rintro D c pre W hD hpre ⟨⟨rfl, p0, z, rfl, hp, hz, hcr⟩, hB⟩ hK
    have hf0 : firstB q (restL L x) = z.1 := by
      obtain ⟨t, ht⟩ := hpre
      rw [← ht, List.map_append, List.append_assoc]
      refine firstB_prefix _ _ _ _ (fun y hy => ?_) hz
      obtain ⟨u, hu, rfl⟩ := List.mem_map.1 hy
      exact hp u hu
    gi_wp2
    refine ⟨by simp, .inl ⟨_, _, rfl, run_takeDeferred hK, ?_⟩⟩
    have hc5 := cell_kept hcr (grownBy_putObj' _ D (.deferred none)) (fun r e => by cases e; exact ⟨_, hK, rfl⟩)
    refine ⟨.int .i64 z.1, ?_, by rw [hf0], hB.trans (belowK_b (w := w) (Nat.le_refl _) W D _ _ (by rw [hsV] at hD; omega) hK rfl rfl)⟩
    simp [results, Tryz.f58, go_sem, hc5]
end Go.Proofs.YticenjhhefiboaaGreat

namespace Go.Proofs.YticenjhhefiboaaGreat
open Go.RowKit Go.Lib Go.Shelf

set_option maxHeartbeats 1000000 in
theorem contains1_any (ba : Nat) (a y : Int) (w : World) (ca : w.cell? ⟨ba, 0, none⟩ = some (.int .i64 a)) :
    Calls Tryz.prog 81 #[.int .i64 y, .pointer (some ⟨ba, 0, none⟩)] w fun e w' => e = .returned (.bool (y == a)) ∧ Below w.heap.size w w' := by
  go_enter Tryz.func81, Tryz.ntmps81
  go_wp2
  go_ret
  exact ⟨rfl, Below.refl _ _⟩
/-- What is over a node: its parent, and so on. -/
def upL (ns : List NodeD) (y : Int) : List Int := pathUp ns (parentD ns) (parentD ns y)
theorem upL_path {ns : List NodeD} (h : RightF ns) {x : Int} (hx : thereB ns.length x = true) : restL (upL ns) x = pathUp ns (parentD ns) x := by
  rw [restL_some _ (there_ne hx), h.kidsHang.head hx]
  rfl
theorem upL_step {ns : List NodeD} (h : RightF ns) {y : Int} (hy : thereB ns.length y = true) : upL ns y = restL (upL ns) (parentD ns y) := by
  rcases h.kidsHang.up_or hy with h0 | h1
  · unfold upL
    rw [h0, pathUp_zero]
    rfl
  · exact (upL_path h h1).symm
theorem firstB_in (a : Int) (ha : a ≠ 0) : ∀ l : List Int, (firstB (fun y => y == a) l != 0) = decide (a ∈ l)
  | [] => by simp [firstB]
  | y :: t => by
    rw [firstB]
    by_cases e : y = a
    · rw [beq_iff_eq.2 e, if_pos rfl, decide_eq_true (by simp [e]), bne, beq_eq_false_iff_ne.2 (by rw [e]; exact ha)]
      rfl
    · rw [beq_eq_false_iff_ne.2 e, if_neg Bool.false_ne_true, firstB_in a ha t]
      have : (a ∈ y :: t) ↔ (a ∈ t) := by simp [Ne.symm e]
      rw [decide_eq_decide.2 this]

set_option maxRecDepth 100000 in
set_option maxHeartbeats 4000000 in
theorem icontains_any (b off cap : Nat) (a x : Int) (ns : List NodeD) (w : World) (hR : RightF ns) (hF : FAt w b off cap ns) (ha : a ≠ 0) (hx : thereB ns.length x = true) :
    Calls Tryz.prog 55 #[.agg #[.slice (some ⟨b, off, none⟩) ns.length cap], .int .i64 a, .int .i64 x] w fun e w' => e = .returned (.bool (decide (a ∈ pathUp ns (parentD ns) x))) ∧ Below w.heap.size w w' := by
  rw [← firstB_in a ha, ← upL_path hR hx]
  have hB2 : Below w.heap.size w ((w.alloc (.cells #[.slice (some ⟨b, off, none⟩) ns.length cap] 24)).alloc (.cells #[.int .i64 a] 3)) := ((Below.refl _ w).alloc (Nat.le_refl _) _).alloc (by simp) _
  have hU := upFrom_any (some ⟨b, off, none⟩) ns.length cap x ((w.alloc (.cells #[.slice (some ⟨b, off, none⟩) ns.length cap] 24)).alloc (.cells #[.int .i64 a] 3))
  simp only [World.size_alloc] at hU
  obtain ⟨V, hV⟩ : ∃ V, V = ((((w.alloc (.cells #[.slice (some ⟨b, off, none⟩) ns.length cap] 24)).alloc (.cells #[.int .i64 a] 3)).alloc (.cells #[.slice (some ⟨b, off, none⟩) ns.length cap] 24)).alloc (.cells #[.int .i64 x] 3)).alloc (.cells #[.func (.func 87) #[] #[.pointer (some ⟨w.heap.size + 1 + 1, 0, none⟩)]] 61) := ⟨_, rfl⟩
  rw [← hV] at hU
  have bV : Below w.heap.size w V := by rw [hV]; exact ((hB2.alloc hB2.size _).alloc (hB2.alloc hB2.size _).size _).alloc ((hB2.alloc hB2.size _).alloc (hB2.alloc hB2.size _).size _).size _
  have sV : V.heap.size = w.heap.size + 1 + 1 + 1 + 1 + 1 := by rw [hV]; simp
  have ca : V.cell? ⟨w.heap.size + 1, 0, none⟩ = some (.int .i64 a) := by
    have := (new_cell_l (w.alloc (.cells #[.slice (some ⟨b, off, none⟩) ns.length cap] 24)) (.int .i64 a) 3).1
    simp only [World.size_alloc] at this
    rw [hV]
    exact keep_cell_l _ (keep_cell_l _ (keep_cell_l _ this))
  have cf : V.cell? ⟨w.heap.size + 1 + 1, 0, none⟩ = some (.slice (some ⟨b, off, none⟩) ns.length cap) := by
    have := (new_cell_l ((w.alloc (.cells #[.slice (some ⟨b, off, none⟩) ns.length cap] 24)).alloc (.cells #[.int .i64 a] 3)) (.slice (some ⟨b, off, none⟩) ns.length cap) 24).1
    simp only [World.size_alloc] at this
    rw [hV]
    exact keep_cell_l _ (keep_cell_l _ this)
  have ch : V.cell? ⟨w.heap.size + 1 + 1 + 1, 0, none⟩ = some (.int .i64 x) := by
    have := (new_cell_l (((w.alloc (.cells #[.slice (some ⟨b, off, none⟩) ns.length cap] 24)).alloc (.cells #[.int .i64 a] 3)).alloc (.cells #[.slice (some ⟨b, off, none⟩) ns.length cap] 24)) (.int .i64 x) 3).1
    simp only [World.size_alloc] at this
    rw [hV]
    exact keep_cell_l _ this
  have cs : V.cell? ⟨w.heap.size + 1 + 1 + 1 + 1, 0, none⟩ = some (.func (.func 87) #[] #[.pointer (some ⟨w.heap.size + 1 + 1, 0, none⟩)]) := by
    have := (new_cell_l ((((w.alloc (.cells #[.slice (some ⟨b, off, none⟩) ns.length cap] 24)).alloc (.cells #[.int .i64 a] 3)).alloc (.cells #[.slice (some ⟨b, off, none⟩) ns.length cap] 24)).alloc (.cells #[.int .i64 x] 3)) (.func (.func 87) #[] #[.pointer (some ⟨w.heap.size + 1 + 1, 0, none⟩)]) 61).1
    simp only [World.size_alloc] at this
    rw [hV]
    exact this
  have hH := firstUC_any (w.heap.size + 1 + 1 + 1) (w.heap.size + 1 + 1 + 1 + 1) (w.heap.size + 1 + 1) (w.heap.size + 1) x (parentD ns) (upL ns) (fun y => thereB ns.length y = true) (fun y => y == a) V (by omega) (by omega)
    (fun y W hy hW => upFrom1_any b off cap (w.heap.size + 1 + 1) y ns W (hF.later (bV.trans (hW.mono bV.size))) ((hW.cell (p := ⟨w.heap.size + 1 + 1, 0, none⟩) (by show w.heap.size + 1 + 1 < _; omega)).trans cf) hy)
    (fun y W hy hW => contains1_any (w.heap.size + 1) a y W ((hW.cell (p := ⟨w.heap.size + 1, 0, none⟩) (by show w.heap.size + 1 < _; omega)).trans ca))
    (fun y hy => hR.kidsHang.up_or hy) (fun y hy => upL_step hR hy) (fun y hy => there_ne hy) ch cs (.inr hx)
  have HB := hid bV
  clear bV sV ca cf ch cs hB2 hV hF hR
  generalize firstB (fun y => y == a) (restL (upL ns) x) = R at *
  go_enter Tryz.func55, Tryz.ntmps55
  go_wp2_with fail
  refine hU.mono ?_
  rintro e v1 ⟨rfl, e1⟩
  have e1 := e1.symm
  subst e1
  go_wp2_with fail
  refine hH.mono ?_
  rintro e v2 ⟨rfl, hb2⟩
  have HB2 := hid (HB.out.trans (hb2.mono HB.out.size))
  clear hb2 HB hH hU
  go_wp2
  go_ret
  exact ⟨rfl, HB2.out⟩
end Go.Proofs.YticenjhhefiboaaGreat

namespace Go.Proofs.YticenjhhefiboaaGreat
open Go.RowKit Go.Lib Go.Shelf
attribute [local go_sem] Oper.semAt_some

section
variable {t : TourD}
theorem TourD.overI_root : t.over t.root = 0 := by
  unfold TourD.over
  rw [beq_self_eq_true, if_pos rfl]
theorem TourD.overI_next {z : Int} (hz : thereB t.ns.length z = true) (hr : z ≠ t.root) (hn : t.next z ≠ 0) : t.over z = t.next z := by
  unfold TourD.over
  rw [bfalse hr, if_neg Bool.false_ne_true]
  exact TourD.past_next 0 hz hn
theorem TourD.overI_up (h : t.OK) {z : Int} (hz : thereB t.ns.length z = true) (hr : z ≠ t.root) (hn : t.next z = 0) : (t.up z = 0 → t.over z = 0) ∧ (t.up z ≠ 0 → t.over z = t.over (t.up z)) := by
  have ho : t.over z = t.past z 0 := by unfold TourD.over; rw [bfalse hr, if_neg Bool.false_ne_true]
  rw [ho]
  constructor
  · intro h0
    cases hb : (t.up z == t.root || t.up z == 0) with
    | true => exact TourD.past_stop 0 hz hn hb
    | false => rw [h0, beq_self_eq_true, Bool.or_true] at hb; cases hb
  · intro h0
    by_cases hu : t.up z = t.root
    · rw [hu, TourD.overI_root]
      exact TourD.past_stop 0 hz hn (by rw [btrue hu]; rfl)
    · unfold TourD.over
      rw [bfalse hu, if_neg Bool.false_ne_true]
      exact TourD.past_up h 0 hz hn (by rw [bfalse hu, bfalse h0]; rfl)
end
theorem head_getI : ∀ {l : List Int} (h : 0 < l.length), l[0] = l.headD 0
  | _ :: _, _ => rfl
/-- Going up till a sibling is found, or the root. -/
def scanB (root : Int) (s : Int → Int) : List Int → Int
  | [] => 0
  | y :: t => if y == root then 0 else if s y == 0 then scanB root s t else s y
theorem scanB_none (root : Int) (s : Int → Int) : ∀ l : List Int, (∀ y ∈ l, y ≠ root ∧ s y = 0) → scanB root s l = 0
  | [], _ => rfl
  | y :: t, h => by
    obtain ⟨h1, h2⟩ := h y (by simp)
    rw [scanB, bfalse h1, if_neg Bool.false_ne_true, btrue h2, if_pos rfl]
    exact scanB_none root s t (fun z hz => h z (by simp [hz]))
theorem scanB_at (root : Int) (s : Int → Int) (z : Int) : ∀ (p t : List Int), (∀ y ∈ p, y ≠ root ∧ s y = 0) → scanB root s (p ++ ([z] ++ t)) = scanB root s (z :: t)
  | [], _, _ => rfl
  | y :: p, t, h => by
    obtain ⟨h1, h2⟩ := h y (by simp)
    show scanB root s (y :: (p ++ ([z] ++ t))) = _
    rw [scanB, bfalse h1, if_neg Bool.false_ne_true, btrue h2, if_pos rfl]
    exact scanB_at root s z p t (fun u hu => h u (by simp [hu]))
theorem scanB_root (root : Int) (s : Int → Int) (t : List Int) : scanB root s (root :: t) = 0 := by rw [scanB, beq_self_eq_true, if_pos rfl]
theorem scanB_hit {root : Int} {s : Int → Int} {z : Int} (t : List Int) (h1 : z ≠ root) (h2 : s z ≠ 0) : scanB root s (z :: t) = s z := by rw [scanB, bfalse h1, if_neg Bool.false_ne_true, bfalse h2, if_neg Bool.false_ne_true]
theorem scan_over {ns : List NodeD} (h : RightF ns) {root : Int} (hr : thereB ns.length root = true) : ∀ (n : Nat) (x : Int), lenH ns (parentD ns) x ≤ n → thereB ns.length x = true → scanB root (nextH (parentD ns) (kidsD ns)) (pathUp ns (parentD ns) x) = (tourA ns root false).over x := by
  intro n
  induction n with
  | zero =>
    intro x hn hx
    have := h.kidsHang.up_len hx
    omega
  | succ n ih =>
    intro x hn hx
    have hok := tourA_ok h hr false
    rw [h.kidsHang.head hx]
    by_cases he : x = root
    · rw [he, scanB_root]
      exact (TourD.overI_root (t := tourA ns root false)).symm
    · by_cases h0 : nextH (parentD ns) (kidsD ns) x = 0
      · rw [scanB, bfalse he, if_neg Bool.false_ne_true, btrue h0, if_pos rfl]
        obtain ⟨o1, o2⟩ := TourD.overI_up (t := tourA ns root false) hok hx he h0
        rcases h.kidsHang.up_or hx with hu | hu
        · rw [hu, pathUp_zero]
          exact (o1 hu).symm
        · rw [ih (parentD ns x) (by have := h.kidsHang.up_len hx; omega) hu]
          exact (o2 (there_ne hu)).symm
      · rw [scanB_hit _ he h0]
        exact (TourD.overI_next (t := tourA ns root false) hx he h0).symm
/-- The node behind, as the code finds it. -/
theorem behindN_eq {ns : List NodeD} (h : RightF ns) {root : Int} (hr : thereB ns.length root = true) {x : Int} (hx : thereB ns.length x = true) : behindN ns root x = if (kidsD ns x).length = 0 then scanB root (nextH (parentD ns) (kidsD ns)) (pathUp ns (parentD ns) x) else (kidsD ns x).headD 0 := by
  have hok := tourA_ok h hr false
  have hon : ∀ y : Int, (tourA ns root false).onR y = y := fun y => TourD.on_end (t := tourA ns root false) (by show (y == 0 || true) = true; rw [Bool.or_true])
  unfold behindN TourD.onD
  show (tourA ns root false).onR _ = _
  rw [hon, scan_over h hr _ x (Nat.le_refl _) hx]
  have hk : (tourA ns root false).kid x = (kidsD ns x).headD 0 := rfl
  rw [hk]
  cases hks : kidsD ns x with
  | nil => rfl
  | cons k r =>
    have hkt := (h.kidsHang.kid hx hks).1
    show (if (k == 0) = true then _ else k) = if (k :: r).length = 0 then _ else k
    rw [bfalse (there_ne hkt), if_neg Bool.false_ne_true, if_neg (by simp)]

set_option maxRecDepth 100000 in
set_option maxHeartbeats 4000000 in
theorem ibehind_any (b off cap : Nat) (root x : Int) (ns : List NodeD) (w : World) (hR : RightF ns) (hF : FAt w b off cap ns) (hr : thereB ns.length root = true) (hx : thereB ns.length x = true) :
    Calls Tryz.prog 32 #[.agg #[.slice (some ⟨b, off, none⟩) ns.length cap], .int .i64 root, .int .i64 x] w fun e w' => e = .returned (.int .i64 (behindN ns root x)) ∧ Below w.heap.size w w' := by
  rw [behindN_eq hR hr hx]
  have hsib := fun (z : Int) (hz : thereB ns.length z = true) => (sib_dir hR hz).1
  have HSb : Hid (∀ (z : Int) (W : World), thereB ns.length z = true → Below w.heap.size w W → Calls Tryz.prog 62 #[.agg #[.slice (some ⟨b, off, none⟩) ns.length cap], .int .i64 z, .int .i64 1] W fun e w' => e = .returned (.int .i64 (nextH (parentD ns) (kidsD ns) z)) ∧ Below W.heap.size W w') := fun z W hz hW => by
    rw [← hsib z hz]
    exact isibling_any b off cap z 1 ns w W hR hF hW hz (.inl rfl)
  have hxx := hx
  obtain ⟨j, hj, hjx⟩ := there_idx hx
  have hkd : kidsD ns x = ns[j].kids := by rw [hjx]; unfold kidsD; rw [nodeOf_at ns j hj]
  have hkl := hR.kids_len j hj
  have hle := hF.len
  obtain ⟨V0, hV0⟩ : ∃ V0, V0 = ((w.alloc (.cells #[.slice (some ⟨b, off, none⟩) ns.length cap] 24)).alloc (.cells #[.int .i64 root] 3)).alloc (.cells #[.int .i64 0] 3) := ⟨_, rfl⟩
  have bV : Below w.heap.size w V0 := by rw [hV0]; exact (((Below.refl _ w).alloc (Nat.le_refl _) _).alloc (by simp) _).alloc (by simp only [World.size_alloc]; omega) _
  obtain ⟨L, hc, _, _, hk3⟩ := hF.at_ j hj
  have ck := (hc.later hF.lt bV).kids
  have hk4 := hk3.later bV
  have q1 : (0 : Int) ≤ (j : Int) := by omega
  have q2 : (j : Int) < (ns.length : Int) := by omega
  rw [hkd]
  obtain ⟨D, A, K⟩ := L
  simp only at ck hk4
  obtain ⟨ok, ckk, rfl, hcap, g⟩ := hk4
  by_cases h0 : ns[j].kids.length = 0
  · rw [if_pos h0]
    have d0 : decide ((0 : Int) < (ns[j].kids.length : Int)) = false := decide_eq_false (by omega)
    have hU := upFrom_any (some ⟨b, off, none⟩) ns.length cap x V0
    have HU := hid hU
    clear hU hc hk3 g hkl hkd
    rw [h0] at ck d0
    rw [hV0] at ck
    clear h0
    subst hjx
    have hU2 := HU.out
    rw [hV0] at hU2
    simp only [World.size_alloc] at hU2
    rw [hV0] at bV
    clear HU hV0
    obtain ⟨V2, hV2⟩ : ∃ V2, V2 = ((((((w.alloc (.cells #[.slice (some ⟨b, off, none⟩) ns.length cap] 24)).alloc (.cells #[.int .i64 root] 3)).alloc (.cells #[.int .i64 0] 3)).alloc (.cells #[.slice (some ⟨b, off, none⟩) ns.length cap] 24)).alloc (.cells #[.int .i64 ((j : Int) + 1)] 3)).alloc (.cells #[.func (.func 87) #[] #[.pointer (some ⟨w.heap.size + 1 + 1 + 1, 0, none⟩)]] 61)) := ⟨_, rfl⟩
    have b2 : Below w.heap.size w V2 := by rw [hV2]; exact ((bV.alloc bV.size _).alloc (bV.alloc bV.size _).size _).alloc ((bV.alloc bV.size _).alloc (bV.alloc bV.size _).size _).size _
    have s2 : V2.heap.size = w.heap.size + 1 + 1 + 1 + 1 + 1 + 1 := by rw [hV2]; simp
    have k0 := (new_cell_l w (.slice (some ⟨b, off, none⟩) ns.length cap) 24).1
    have k1 := (new_cell_l (w.alloc (.cells #[.slice (some ⟨b, off, none⟩) ns.length cap] 24)) (.int .i64 root) 3).1
    have k2 := new_cell_l ((w.alloc (.cells #[.slice (some ⟨b, off, none⟩) ns.length cap] 24)).alloc (.cells #[.int .i64 root] 3)) (.int .i64 0) 3
    have k3 := (new_cell_l (((w.alloc (.cells #[.slice (some ⟨b, off, none⟩) ns.length cap] 24)).alloc (.cells #[.int .i64 root] 3)).alloc (.cells #[.int .i64 0] 3)) (.slice (some ⟨b, off, none⟩) ns.length cap) 24).1
    have k4 := (new_cell_l ((((w.alloc (.cells #[.slice (some ⟨b, off, none⟩) ns.length cap] 24)).alloc (.cells #[.int .i64 root] 3)).alloc (.cells #[.int .i64 0] 3)).alloc (.cells #[.slice (some ⟨b, off, none⟩) ns.length cap] 24)) (.int .i64 ((j : Int) + 1)) 3).1
    have k5 := (new_cell_l (((((w.alloc (.cells #[.slice (some ⟨b, off, none⟩) ns.length cap] 24)).alloc (.cells #[.int .i64 root] 3)).alloc (.cells #[.int .i64 0] 3)).alloc (.cells #[.slice (some ⟨b, off, none⟩) ns.length cap] 24)).alloc (.cells #[.int .i64 ((j : Int) + 1)] 3)) (.func (.func 87) #[] #[.pointer (some ⟨w.heap.size + 1 + 1 + 1, 0, none⟩)]) 61).1
    simp only [World.size_alloc] at k1 k2 k3 k4 k5
    have cF : V2.cell? ⟨w.heap.size, 0, none⟩ = some (.slice (some ⟨b, off, none⟩) ns.length cap) := by rw [hV2]; exact keep_cell_l _ (keep_cell_l _ (keep_cell_l _ (keep_cell_l _ (keep_cell_l _ k0))))
    have cR : V2.cell? ⟨w.heap.size + 1, 0, none⟩ = some (.int .i64 root) := by rw [hV2]; exact keep_cell_l _ (keep_cell_l _ (keep_cell_l _ (keep_cell_l _ k1)))
    have cO : V2.cell? ⟨w.heap.size + 1 + 1, 0, none⟩ = some (.int .i64 0) := by rw [hV2]; exact keep_cell_l _ (keep_cell_l _ (keep_cell_l _ k2.1))
    have fO : V2.frozen? ⟨w.heap.size + 1 + 1, 0, none⟩ = false := by rw [hV2]; exact keep_free_l _ (keep_cell_l _ (keep_cell_l _ k2.1)) (keep_free_l _ (keep_cell_l _ k2.1) (keep_free_l _ k2.1 k2.2))
    have cf : V2.cell? ⟨w.heap.size + 1 + 1 + 1, 0, none⟩ = some (.slice (some ⟨b, off, none⟩) ns.length cap) := by rw [hV2]; exact keep_cell_l _ (keep_cell_l _ k3)
    have ch : V2.cell? ⟨w.heap.size + 1 + 1 + 1 + 1, 0, none⟩ = some (.int .i64 ((j : Int) + 1)) := by rw [hV2]; exact keep_cell_l _ k4
    have cs : V2.cell? ⟨w.heap.size + 1 + 1 + 1 + 1 + 1, 0, none⟩ = some (.func (.func 87) #[] #[.pointer (some ⟨w.heap.size + 1 + 1 + 1, 0, none⟩)]) := by rw [hV2]; exact k5
    rw [← hV2] at hU2
    clear k0 k1 k2 k3 k4 k5 hV2
    refine (callsIn_wide (n := 6)).1 ?_
    refine callsIn_of_wp_marks Tryz.func32 rfl trivial ?_ rfl
    simp only [Tryz.ntmps32, List.size_toArray, List.length_cons, List.length_nil, Nat.reduceAdd, Nat.reduceSub, Array.replicate_succ, Array.replicate_zero, List.push_toArray, List.append_toArray, List.nil_append, List.cons_append]
    gi_wp2
    refine ⟨trivial, (callsIn_wide.2 hU2).mono ?_⟩
    rintro e v2 ⟨rfl, e2⟩
    have e2 := e2.symm
    subst e2
    gi_wp2
    refine wpIn_rangeFunc_ownF (α := { z : Int // thereB ns.length z = true }) rfl (by omega) (gf := 85) (lb := #[.pointer (some ⟨w.heap.size + 1 + 1 + 1 + 1, 0, none⟩), .pointer (some ⟨w.heap.size + 1 + 1 + 1 + 1 + 1, 0, none⟩)]) rfl trivial (enters_of Tryz.func85 (by kernel_rfl) rfl)
      (fromU_stops (6 - 1) (w.heap.size + 1 + 1 + 1 + 1) (w.heap.size + 1 + 1 + 1 + 1 + 1) (w.heap.size + 1 + 1 + 1 + 1 + 1 + 1) (w.heap.size + 1 + 1 + 1) (by omega) ((j : Int) + 1) (parentD ns) (upL ns) (fun y => thereB ns.length y = true) _ (by rw [s2]; exact Nat.le_refl _) (by omega) (by omega)
        (fun y W hy hW => upFrom1_any b off cap (w.heap.size + 1 + 1 + 1) y ns W (hF.later (b2.trans (hW.mono (by omega)))) ((hW.cell (p := ⟨w.heap.size + 1 + 1 + 1, 0, none⟩) (by show w.heap.size + 1 + 1 + 1 < _; omega)).trans cf) hy)
        (fun y hy => hR.kidsHang.up_or hy) (fun y hy => upL_step hR hy) (fun y hy => there_ne hy) ch cs (.inr hx)) belowK_t (belowK_b (by rw [s2]; exact Nat.le_refl _)) (Below.refl _ _) (fun _ => rfl)
      (fun pre W => ((∀ y ∈ pre, y.1 ≠ root ∧ nextH (parentD ns) (kidsD ns) y.1 = 0) ∧ W.cell? ⟨w.heap.size, 0, none⟩ = some (.slice (some ⟨b, off, none⟩) ns.length cap) ∧ W.cell? ⟨w.heap.size + 1, 0, none⟩ = some (.int .i64 root) ∧ W.cell? ⟨w.heap.size + 1 + 1, 0, none⟩ = some (.int .i64 0) ∧ W.frozen? ⟨w.heap.size + 1 + 1, 0, none⟩ = false ∧ w.heap.size + 1 + 1 + 1 + 1 + 1 + 1 ≤ W.heap.size) ∧ Below w.heap.size w W)
      (fun c pre W => (c = .ret ∧ ∃ (p0 : List { z : Int // thereB ns.length z = true }) (z : { z : Int // thereB ns.length z = true }) (v : Int), pre = p0 ++ [z] ∧ (∀ y ∈ p0, y.1 ≠ root ∧ nextH (parentD ns) (kidsD ns) y.1 = 0) ∧ ((z.1 = root ∧ v = 0) ∨ (z.1 ≠ root ∧ nextH (parentD ns) (kidsD ns) z.1 ≠ 0 ∧ v = nextH (parentD ns) (kidsD ns) z.1)) ∧ W.cell? ⟨w.heap.size + 1 + 1, 0, none⟩ = some (.int .i64 v)) ∧ Below w.heap.size w W)
      (OwnFrom.and (Own.from (fun s A B row hs hg hr => ⟨hs.1, cell_kept hs.2.1 hg hr, cell_kept hs.2.2.1 hg hr, cell_kept hs.2.2.2.1 hg hr, (frozen_kept hs.2.2.2.1 hg hr).trans hs.2.2.2.2.1, Nat.le_trans hs.2.2.2.2.2 hg.size⟩) _) (ownFrom_below (Nat.le_refl _) (by rw [s2]; omega)))
      (fun c => OwnFrom.and (Own.from (fun s A B row hs hg hr => by
        obtain ⟨h1, p0, z, v, h2, h3, h4, h5⟩ := hs
        exact ⟨h1, p0, z, v, h2, h3, h4, cell_kept h5 hg hr⟩) _) (ownFrom_below (Nat.le_refl _) (by rw [s2]; omega)))
      ⟨⟨by simp, cF, cR, cO, fO, by rw [s2]; exact Nat.le_refl _⟩, b2⟩
      (fun z => { tmps := #[.agg #[.slice (some ⟨b, off, none⟩) ns.length cap], .int .i64 root, .int .i64 ((j : Int) + 1), .pointer (some ⟨w.heap.size, 0, none⟩), .pointer (some ⟨w.heap.size + 1, 0, none⟩), undef, .pointer (some ⟨w.heap.size + 1 + 1, 0, none⟩), .slice ok 0 ckk, .int .i64 z.1, undef, .pointer (some ⟨w.heap.size, 0, none⟩), .slice (some ⟨b, off, none⟩) ns.length cap, .int .i64 ((j : Int) + 1), .int .i64 (j : Int), .pointer (some ⟨b, off + j * 16, none⟩), .pointer (some ⟨b, off + j * 16 + 9, none⟩), .slice ok 0 ckk, .slice ok 0 ckk, .int .i64 0, .bool false, undef, undef, undef, .agg #[.slice (some ⟨b, off, none⟩) ns.length cap], .int .i64 ((j : Int) + 1), .func (.func 85) #[] #[.pointer (some ⟨w.heap.size + 1 + 1 + 1 + 1, 0, none⟩), .pointer (some ⟨w.heap.size + 1 + 1 + 1 + 1 + 1, 0, none⟩)], .int .i64 z.1, undef, undef, undef, undef, undef, undef, undef, undef, undef], defers := [] }) ?assign ?body ?done ?stop
    case assign =>
      intro l z W K hK
      gi_wp2
      exact hK
    case body =>
      rintro l pre z W ⟨⟨hp, hcf, hcr, hco, hfo, hsz⟩, hB⟩ _
      by_cases hzr : z.1 = root
      · have r1 : (z.1 == root) = true := beq_iff_eq.2 hzr
        have HB := hid hB
        have Hzr := hid hzr
        clear hB hzr
        gi_wp2
        exact ⟨KeepsOthers.setCell _ _ _, ⟨rfl, pre, z, 0, rfl, hp, .inl ⟨Hzr.out, rfl⟩, World.cell?_setCell_same' _ _ _ (by rw [hco]; rfl)⟩, HB.out.setCell (p := ⟨w.heap.size + 1 + 1, 0, none⟩) (by show w.heap.size ≤ w.heap.size + 1 + 1; omega) _⟩
      · have r1 : (z.1 == root) = false := beq_eq_false_iff_ne.2 hzr
        have hSb := HSb.out z.1 W z.2 hB
        have HB := hid hB
        have Hzr := hid hzr
        clear hB hzr
        gi_wp2
        refine ⟨trivial, (callsIn_wide.2 hSb).mono ?_⟩
        rintro e v3 ⟨rfl, hb3⟩
        have hcf3 := cell_kept hcf (grown_of_below hb3) (fun r e => by cases e)
        have hcr3 := cell_kept hcr (grown_of_below hb3) (fun r e => by cases e)
        have hco3 := cell_kept hco (grown_of_below hb3) (fun r e => by cases e)
        have hfo3 := (frozen_kept hco (grown_of_below hb3) (fun r e => by cases e)).trans hfo
        have HB3' := hid (HB.out.trans (hb3.mono HB.out.size))
        have hko : KeepsOthers W v3 := KeepsOthers.of_grownBy (grown_of_below hb3) (fun j o ej _ => by cases ej)
        clear hSb
        by_cases hz : nextH (parentD ns) (kidsD ns) z.1 = 0
        · have hz' : (nextH (parentD ns) (kidsD ns) z.1 != 0) = false := by rw [bne, hz]; rfl
          have Hz := hid hz
          clear hz
          gi_wp2
          refine ⟨hko, hb3.mono hsz, ⟨fun y hy => ?_, hcf3, hcr3, hco3, hfo3, Nat.le_trans hsz hb3.size⟩, HB3'.out⟩
          rcases List.mem_append.1 hy with a | a
          · exact hp y a
          · rw [List.mem_singleton.1 a]; exact ⟨Hzr.out, Hz.out⟩
        · have hz' : (nextH (parentD ns) (kidsD ns) z.1 != 0) = true := by rw [bne, beq_eq_false_iff_ne.2 hz]; rfl
          have Hz := hid hz
          clear hz
          gi_wp2
          exact ⟨hko.trans (KeepsOthers.setCell _ _ _), ⟨rfl, pre, z, _, rfl, hp, .inr ⟨Hzr.out, Hz.out, rfl⟩, World.cell?_setCell_same' _ _ _ (by rw [hco3]; rfl)⟩, HB3'.out.setCell (p := ⟨w.heap.size + 1 + 1, 0, none⟩) (by show w.heap.size ≤ w.heap.size + 1 + 1; omega) _⟩
    case done =>
      rintro D ys W hD hys ⟨⟨hp, _, _, hcr, hfr, _⟩, hB⟩ hK
      have hf0 : scanB root (nextH (parentD ns) (kidsD ns)) (pathUp ns (parentD ns) ((j : Int) + 1)) = 0 := by
        rw [← upL_path hR hx, ← hys]
        refine scanB_none _ _ _ (fun y hy => ?_)
        obtain ⟨u, hu, rfl⟩ := List.mem_map.1 hy
        exact hp u hu
      gi_wp2
      have hK' := (KeepsOthers.setCell W ⟨w.heap.size + 1 + 1, 0, none⟩ (.int .i64 0)).same D _ hK rfl
      refine ⟨by simp, .inl ⟨_, _, rfl, run_takeDeferred hK', ?_⟩⟩
      have hc5 := cell_kept (World.cell?_setCell_same' W ⟨w.heap.size + 1 + 1, 0, none⟩ (.int .i64 0) (by rw [hcr]; rfl)) (grownBy_putObj' _ D (.deferred none)) (fun r e => by cases e; exact ⟨_, hK', rfl⟩)
      refine ⟨.int .i64 0, ?_, by rw [hf0], (hB.setCell (p := ⟨w.heap.size + 1 + 1, 0, none⟩) (by show w.heap.size ≤ w.heap.size + 1 + 1; omega) _).trans (belowK_b (w := w) (Nat.le_refl _) _ D _ _ (by rw [s2] at hD; omega) hK' rfl rfl)⟩
      simp [results, Tryz.f32, go_sem, hc5]
    case stop =>
      rintro D c pre W hD hpre ⟨⟨rfl, p0, z, v, rfl, hp, hz, hcr⟩, hB⟩ hK
      have hf0 : scanB root (nextH (parentD ns) (kidsD ns)) (pathUp ns (parentD ns) ((j : Int) + 1)) = v := by
        obtain ⟨t, ht⟩ := hpre
        rw [← upL_path hR hx, ← ht, List.map_append, List.append_assoc]
        refine (scanB_at _ _ z.1 _ _ (fun y hy => ?_)).trans ?_
        · obtain ⟨u, hu, rfl⟩ := List.mem_map.1 hy
          exact hp u hu
        · rcases hz with ⟨h1, rfl⟩ | ⟨h1, h2, rfl⟩
          · rw [h1]; exact scanB_root _ _ _
          · exact scanB_hit _ h1 h2
      gi_wp2
      refine ⟨by simp, .inl ⟨_, _, rfl, run_takeDeferred hK, ?_⟩⟩
      have hc5 := cell_kept hcr (grownBy_putObj' _ D (.deferred none)) (fun r e => by cases e; exact ⟨_, hK, rfl⟩)
      refine ⟨.int .i64 v, ?_, by rw [hf0], hB.trans (belowK_b (w := w) (Nat.le_refl _) W D _ _ (by rw [s2] at hD; omega) hK rfl rfl)⟩
      simp [results, Tryz.f32, go_sem, hc5]
  · rw [if_neg h0]
    obtain ⟨kb, koff, rfl, klt, kc⟩ := g (by omega)
    have c0 := kc 0 (by omega)
    rw [head_getI (by omega), Nat.add_zero] at c0
    have d0 : decide ((0 : Int) < (ns[j].kids.length : Int)) = true := decide_eq_true (by omega)
    have p2 : (0 : Int) < (ns[j].kids.length : Int) := by omega
    rw [hV0] at ck c0
    have hn := heap_new ((w.alloc (.cells #[.slice (some ⟨b, off, none⟩) ns.length cap] 24)).alloc (.cells #[.int .i64 root] 3)) (.cells #[.int .i64 0] 3)
    simp only [World.size_alloc] at hn
    obtain ⟨z0, z1⟩ := box_cell_l hn
    clear hc hk3 g kc
    generalize ns[j].kids.headD 0 = R at *
    generalize ns[j].kids.length = KL at *
    subst hjx
    clear HSb hsib hkl bV hV0 h0 hn hR hF hx hxx hcap
    go_enter Tryz.func32, Tryz.ntmps32
    go_wp2
    exact bodyPost_ret (v := .int .i64 R) (by simp [results, Tryz.results32, go_sem]) rfl ⟨rfl, (((Below.refl _ w).alloc (Nat.le_refl _) _).alloc (by simp) _).alloc (by simp only [World.size_alloc]; omega) _⟩
end Go.Proofs.YticenjhhefiboaaGreat

namespace Go.Proofs.YticenjhhefiboaaGreat
open Go.RowKit Go.Lib Go.Shelf

/-- All blocks below n₀ are as they were, but those of X. -/
structure Near (n₀ : Nat) (X : List Nat) (A B : World) : Prop where
  os : B.os = A.os
  tape : B.tape = A.tape
  output : B.output = A.output
  size : A.heap.size ≤ B.heap.size
  block : ∀ k, k < n₀ → k ∉ X → B.heap[k]? = A.heap[k]?
theorem Near.refl (n₀ : Nat) (X : List Nat) (A : World) : Near n₀ X A A := ⟨rfl, rfl, rfl, Nat.le_refl _, fun _ _ _ => rfl⟩
theorem Near.trans {n₀ : Nat} {X : List Nat} {A B C : World} (h : Near n₀ X A B) (k : Near n₀ X B C) : Near n₀ X A C := ⟨k.os.trans h.os, k.tape.trans h.tape, k.output.trans h.output, Nat.le_trans h.size k.size, fun i hi hn => (k.block i hi hn).trans (h.block i hi hn)⟩
theorem Near.of_below {n₀ : Nat} {X : List Nat} {A B : World} (h : Below A.heap.size A B) (hn : n₀ ≤ A.heap.size) : Near n₀ X A B := ⟨h.os, h.tape, h.output, h.size, fun i hi _ => h.block i (Nat.lt_of_lt_of_le hi hn)⟩
theorem Near.cell {n₀ : Nat} {X : List Nat} {A B : World} (h : Near n₀ X A B) (g j : Nat) (hg : g < n₀) (hn : g ∉ X) : B.cell? ⟨g, j, none⟩ = A.cell? ⟨g, j, none⟩ := by
  unfold World.cell?
  rw [h.block g hg hn]
theorem Near.put {n₀ : Nat} {X : List Nat} {A B : World} (h : Near n₀ X A B) {g : Nat} (hg : g ∈ X) (j : Nat) (v : Value) : Near n₀ X A (B.setCell ⟨g, j, none⟩ v) := by
  refine ⟨h.os, h.tape, h.output, by simpa using h.size, fun k hk hn => ?_⟩
  rw [← h.block k hk hn]
  have hne : g ≠ k := fun e => hn (e ▸ hg)
  simp [World.setCell, Array.getElem?_modify, hne]
theorem Near.toBelow {n₀ : Nat} {X : List Nat} {A B : World} (h : Near n₀ X A B) {b : Nat} (hb : b ≤ n₀) (hX : ∀ g ∈ X, b ≤ g) : Below b A B :=
  ⟨h.os, h.tape, h.output, h.size, fun k hk => h.block k (Nat.lt_of_lt_of_le hk hb) (fun hm => absurd (hX k hm) (by omega))⟩
theorem nearK_b {n₀ : Nat} {X : List Nat} {w : World} (hn : n₀ ≤ w.heap.size) (W : World) (l : Nat) (o o' : Obj) (hl : w.heap.size ≤ l) (h : W.heap[l]? = some o) (h1 : o.isCells = false) (h2 : o.isWalk = false) : Near n₀ X W (W.putObj l o') := by
  have hb := belowK_b (n₀ := n₀) hn W l o o' hl h h1 h2
  exact ⟨hb.os, hb.tape, hb.output, hb.size, fun i hi _ => hb.block i hi⟩

set_option maxRecDepth 100000 in
set_option maxHeartbeats 4000000 in
theorem fromX_in (n l bh bs n₀ bf : Nat) (X : List Nat) (hbx : bs ∉ X) (hn : 1 ≤ n) (x : Int) (f : Int → Int) (L : Int → List Int) (I : Int → Prop) (J Jx : List Int → World → Prop) (W : World) (hn₀ : n₀ ≤ W.heap.size) (hbs : bs < n₀)
    (hS : ∀ (y : Int) (V : World), I y → Near n₀ X W V → Calls Tryz.prog 87 #[.int .i64 y, .pointer (some ⟨bf, 0, none⟩)] V fun e w' => e = .returned (.int .i64 (f y)) ∧ Below V.heap.size V w')
    (hG : ∀ y, I y → f y = 0 ∨ I (f y)) (hL : ∀ y, I y → L y = restL L (f y)) (hI0 : ∀ y, I y → y ≠ 0)
    (ch : W.cell? ⟨bh, 0, none⟩ = some (.int .i64 x)) (cs : W.cell? ⟨bs, 0, none⟩ = some (.func (.func 87) #[] #[.pointer (some ⟨bf, 0, none⟩)])) (hx : x = 0 ∨ I x)
    (hJ : AbidesFrom W.heap.size J)
    (hY : ∀ pre z W1, I z → J pre W1 → pre.length < (restL L x).length → YieldAt Fence.wide (n - 1) Tryz.prog l #[.int .i64 z] W1 fun e W' =>
      (e = .returned (.bool true) ∧ J (pre ++ [z]) W' ∧ Near n₀ X W1 W') ∨ (e = .returned (.bool false) ∧ Jx (pre ++ [z]) W'))
    (h0 : J [] W) :
    CallsIn Fence.wide n Tryz.prog 85 #[.func (.yield l) #[] #[], .pointer (some ⟨bh, 0, none⟩), .pointer (some ⟨bs, 0, none⟩)] W fun e W' => (∃ v, e = .returned v) ∧
      ((∃ ys, ys = restL L x ∧ J ys W') ∨ (∃ pre, pre <+: restL L x ∧ Jx pre W')) := by
  refine callsIn_of_wp Tryz.func85 rfl trivial ?_ rfl
  simp only [Tryz.ntmps85, List.size_toArray, List.length_cons, List.length_nil, Nat.reduceAdd, Nat.reduceSub, Array.replicate_succ, Array.replicate_zero, List.push_toArray, List.append_toArray, List.nil_append, List.cons_append]
  have HS := hid hS
  have HG := hid hG
  have HL := hid hL
  have HJ := hid hJ
  have HI0 := hid hI0
  have HCS := hid cs
  have eg : ∀ args w, (callFunc 87 args).run Tryz.prog w = .ok (.enter 87 args) w := enters_of Tryz.func87 (by kernel_rfl) rfl
  clear hS hG hL hJ hI0 cs
  obtain ⟨xs, hxs⟩ : ∃ xs, restL L x = xs := ⟨_, rfl⟩
  rw [hxs]
  rw [hxs] at hY
  have Hxs := hid hxs
  clear hxs
  gi_wp2
  gi_loopw [4] (fun t wr => ∃ (pre : List Int) (y : Int), t = .int .i64 y ∧ Hid (xs = pre ++ restL L y) ∧ Hid (y = 0 ∨ I y) ∧ Hid (Near n₀ X W wr) ∧ Hid (J pre wr)) (fun t _ => (restL L (RowKit.intOf t)).length)
  case atStart => exact ⟨[], x, rfl, Hxs.out.symm, hx, Near.refl _ _ _, h0⟩
  case round =>
    obtain ⟨pre, y, rfl, hp, hy0, hB, hJs⟩ := hrel
    clear ch hx h0
    by_cases hz : y = 0
    · subst hz
      have Hpre : Hid (xs = pre) := by
        have := hp.out
        rw [restL_zero, List.append_nil] at this
        exact this
      clear hp
      gi_wp2
      refine ⟨fun _ h => (by cases h), ?_⟩
      gi_wp2
      go_end0
      exact ⟨⟨_, rfl⟩, .inl ⟨pre, Hpre.out.symm, hJs.out⟩⟩
    · have hyI := hy0.out.resolve_left hz
      have Hcons : Hid (restL L y = y :: restL L (f y)) := by
        show restL L y = _
        rw [restL_some L hz, HL.out y hyI]
      obtain ⟨fn, tmps, assign, body, hyy, hRd⟩ := hY pre y wr hyI hJs.out (by rw [hp.out, Hcons.out]; simp)
      have hnz : (y != 0) = true := by
        rw [bne, beq_eq_false_iff_ne.2 hz]
        rfl
      gi_wp2
      refine hRd.mono ?_
      rintro e W3 (⟨rfl, hJ3, hk3⟩ | ⟨rfl, hJx3⟩)
      · have hB3 := hB.out.trans hk3
        have c1 := (hB3.cell bs 0 hbs hbx).trans HCS.out
        have hP := HS.out y W3 hyI hB3
        have HB3 := hid hB3
        clear hB3
        gi_wp2
        refine ⟨trivial, (callsIn_wide.2 hP).mono ?_⟩
        rintro e W4 ⟨rfl, hb4⟩
        have HJ4 := hid (HJ.out _ _ _ none hJ3 (grown_of_below hb4) (fun r e => by cases e))
        have HB4 := hid (HB3.out.trans (Near.of_below hb4 (Nat.le_trans hn₀ HB3.out.size)))
        have Hth := hid (HG.out y hyI)
        have Hp2 : Hid (xs = (pre ++ [y]) ++ restL L (f y)) := by
          show xs = _
          rw [hp.out, Hcons.out, List.append_assoc]
          rfl
        have Hme : Hid ((restL L (f y)).length < (restL L y).length) := by
          show _ < _
          rw [Hcons.out]
          exact Nat.lt_succ_self _
        clear hP hb4 hJ3 hk3 c1 hyy hRd hp Hcons
        gi_wp2
        go_roundw
        case rel => exact ⟨pre ++ [y], _, rfl, Hp2, Hth, HB4, HJ4⟩
        case measure => exact Hme.out
      · gi_wp2
        go_end0
        exact ⟨⟨_, rfl⟩, .inr ⟨pre ++ [y], ⟨restL L (f y), by rw [hp.out, Hcons.out]; simp⟩, hJx3⟩⟩
/-- What from hands back, ranged over, each one such a node. -/
theorem fromX_stops (n bh bs n₀ bf : Nat) (X : List Nat) (hbx : bs ∉ X) (hn : 1 ≤ n) (x : Int) (f : Int → Int) (L : Int → List Int) (I : Int → Prop) (w : World) (hn₀ : n₀ ≤ w.heap.size) (hbh : bh < n₀) (hbs : bs < n₀)
    (hS : ∀ (y : Int) (V : World), I y → Near n₀ X w V → Calls Tryz.prog 87 #[.int .i64 y, .pointer (some ⟨bf, 0, none⟩)] V fun e w' => e = .returned (.int .i64 (f y)) ∧ Below V.heap.size V w')
    (hG : ∀ y, I y → f y = 0 ∨ I (f y)) (hL : ∀ y, I y → L y = restL L (f y)) (hI0 : ∀ y, I y → y ≠ 0)
    (ch : w.cell? ⟨bh, 0, none⟩ = some (.int .i64 x)) (cs : w.cell? ⟨bs, 0, none⟩ = some (.func (.func 87) #[] #[.pointer (some ⟨bf, 0, none⟩)])) (hx : x = 0 ∨ I x) :
    SeqStopsK Fence.wide n Tryz.prog 85 #[.pointer (some ⟨bh, 0, none⟩), .pointer (some ⟨bs, 0, none⟩)] (fun z : { z : Int // I z } => #[Value.int .i64 z.1]) (Near n₀ X) (fun ys => ys.map (·.1) = restL L x) (fun pre => pre.map (·.1) <+: restL L x) (restL L x).length w := fun l J Jx W hW hJ hJx hY h0 => by
  have h := fromX_in n l bh bs n₀ bf X hbx hn x f L I (fun pre V => ∃ ys : List { z : Int // I z }, ys.map (·.1) = pre ∧ J ys V) (fun pre V => ∃ ys : List { z : Int // I z }, ys.map (·.1) = pre ∧ Jx ys V) W (Nat.le_trans hn₀ hW.size) hbs
    (fun y V hy hV => hS y V hy ((Near.of_below hW hn₀).trans hV)) hG hL hI0
    ((hW.cell (p := ⟨bh, 0, none⟩) (Nat.lt_of_lt_of_le hbh hn₀)).trans ch) ((hW.cell (p := ⟨bs, 0, none⟩) (Nat.lt_of_lt_of_le hbs hn₀)).trans cs) hx
    (fun s A B row hs hg hr => by
      obtain ⟨ys, e, hj⟩ := hs
      exact ⟨ys, e, hJ ys A B row hj hg hr⟩)
    (fun pre z W1 hz hj hl => by
      obtain ⟨ys, e, hj⟩ := hj
      obtain ⟨fn, tmps, assign, body, hy, hRd⟩ := hY ys ⟨z, hz⟩ W1 hj (by rw [← List.length_map (f := fun t : { z : Int // I z } => t.1), e]; exact hl)
      refine ⟨fn, tmps, assign, body, hy, hRd.mono ?_⟩
      rintro e' W' (⟨a, b, c⟩ | ⟨a, b⟩)
      · exact .inl ⟨a, ⟨ys ++ [⟨z, hz⟩], by rw [List.map_append, e]; rfl, b⟩, c⟩
      · exact .inr ⟨a, ⟨ys ++ [⟨z, hz⟩], by rw [List.map_append, e]; rfl, b⟩⟩)
    ⟨[], rfl, h0⟩
  refine h.mono ?_
  rintro e W' ⟨hv, ⟨ys, rfl, zs, hz, hj⟩ | ⟨pre, hp, zs, rfl, hj⟩⟩
  · exact ⟨hv, .inl ⟨zs, hz, hj⟩⟩
  · exact ⟨hv, .inr ⟨zs, hp, hj⟩⟩

end Go.Proofs.YticenjhhefiboaaGreat

namespace Go.Proofs.YticenjhhefiboaaGreat
open Go.RowKit Go.Lib Go.Shelf

/-- A document with nothing in it. -/
def docI (h : Bool) : NodeD := ⟨9, ⟨#[]⟩, ⟨#[]⟩, ⟨#[]⟩, ⟨#[]⟩, ⟨#[]⟩, [], [], 0, [], 1, 0, 0, 0, false, h⟩
/-- No lists. -/
def nilL : Lists := ⟨.slice none 0 0, .slice none 0 0, .slice none 0 0⟩
def nodeCsI (n : NodeD) (L : Lists) : List Value := [.int .u8 (n.kind : Int), .string n.space, .string n.pre, .string n.loc, .string n.pub, .string n.sys, L.data, L.attrs, .int .i64 n.parent, L.kids, .int .i64 n.doc, .int .i64 n.host, .int .i64 n.shadow, .int .u8 (n.mode : Int), .bool n.manual, .bool n.html]
set_option maxRecDepth 100000 in
set_option maxHeartbeats 2000000 in
theorem forestNew_any (h : Bool) (w : World) :
    Calls Tryz.prog 54 #[.bool h] w fun e w' => ∃ b, e = .returned (.agg #[.slice (some ⟨b, 0, none⟩) 1 1]) ∧ w'.ownsRow w.heap.size 83 16 (.slice (some ⟨b, 0, none⟩) 1 1) 1 (nodeCsI (docI h) nilL) ∧ Below w.heap.size w w' := by
  go_enter Tryz.func54, Tryz.ntmps54
  go_wp2
  have k0 := keep_cell_l (.cells #[.int .u8 9, .string ⟨#[]⟩, .string ⟨#[]⟩, .string ⟨#[]⟩, .string ⟨#[]⟩, .string ⟨#[]⟩, .slice none 0 0, .slice none 0 0, .int .i64 0, .slice none 0 0, .int .i64 1, .int .i64 0, .int .i64 0, .int .u8 0, .bool false, .bool h] 83) (new_cell_l w (.slice (some ⟨w.heap.size + 1, 0, none⟩) 1 1) 24).1
  have hn := heap_new (w.alloc (.cells #[.slice (some ⟨w.heap.size + 1, 0, none⟩) 1 1] 24)) (.cells #[.int .u8 9, .string ⟨#[]⟩, .string ⟨#[]⟩, .string ⟨#[]⟩, .string ⟨#[]⟩, .string ⟨#[]⟩, .slice none 0 0, .slice none 0 0, .int .i64 0, .slice none 0 0, .int .i64 1, .int .i64 0, .int .i64 0, .int .u8 0, .bool false, .bool h] 83)
  simp only [World.size_alloc] at hn
  exact bodyPost_ret (v := .agg #[.slice (some ⟨w.heap.size + 1, 0, none⟩) 1 1]) (by simp [results, Tryz.results54, go_sem, k0]) rfl ⟨_, rfl, ⟨rfl, .inr ⟨_, _, _, rfl, by omega, hn, Nat.le_refl _, by decide, rfl, rfl⟩⟩, ((Below.refl _ w).alloc (Nat.le_refl _) _).alloc (by simp) _⟩
end Go.Proofs.YticenjhhefiboaaGreat

namespace Go.Proofs.YticenjhhefiboaaGreat
open Go.RowKit Go.Lib Go.Shelf

/-- The host of a shadow root, that root, and another node, alone. -/
def hostI : NodeD := ⟨1, ⟨#[]⟩, ⟨#[]⟩, ⟨#[104, 111, 115, 116]⟩, ⟨#[]⟩, ⟨#[]⟩, [], [], 0, [], 1, 0, 3, 0, false, false⟩
def shadI : NodeD := ⟨12, ⟨#[]⟩, ⟨#[]⟩, ⟨#[]⟩, ⟨#[]⟩, ⟨#[]⟩, [], [], 0, [], 1, 2, 0, 1, false, false⟩
def bareI (n : NodeD) : NodeD := ⟨n.kind, n.space, n.pre, n.loc, ⟨#[]⟩, ⟨#[]⟩, [], [], 0, [], 1, 0, 0, 0, false, false⟩
def aloneD (n : NodeD) : List NodeD := if n.kind == 9 then [docI false] else if n.kind == 12 then [docI false, hostI, shadI] else [docI false, bareI n]
/-- Nodes without lists, cell by cell. -/
def rowI (l : List NodeD) : List Value := l.flatMap fun n => nodeCsI n nilL
theorem rowI_get : ∀ (l : List NodeD) (j i : Nat) (hj : j < l.length) (_hi : i < 16), (rowI l)[j * 16 + i]? = (nodeCsI l[j] nilL)[i]?
  | [], _, _, hj, _ => by cases hj
  | r :: t, 0, i, _, hi => by
    unfold rowI
    rw [List.flatMap_cons, List.getElem?_append_left (by show 0 * 16 + i < 16; omega), Nat.zero_mul, Nat.zero_add]
    rfl
  | r :: t, j + 1, i, hj, hi => by
    have h := rowI_get t j i (by simpa using hj) hi
    unfold rowI at h ⊢
    rw [List.flatMap_cons, List.getElem?_append_right (by show 16 ≤ _; omega)]
    rw [show (j + 1) * 16 + i - (nodeCsI r nilL).length = j * 16 + i by show (j + 1) * 16 + i - 16 = _; omega, h]
    rfl
theorem rowI_len : ∀ l : List NodeD, (rowI l).length = l.length * 16
  | [] => rfl
  | r :: t => by
    have := rowI_len t
    unfold rowI at this ⊢
    rw [List.flatMap_cons, List.length_append, this, List.length_cons]
    show 16 + _ = _
    omega
theorem rowI_one (l : List NodeD) : ∀ u ∈ rowI l, u.oneCell' = true := fun u hu => by
  obtain ⟨n, _, hn⟩ := List.mem_flatMap.1 hu
  simp only [nodeCsI, nilL, List.mem_cons, List.not_mem_nil, or_false] at hn
  rcases hn with rfl | rfl | rfl | rfl | rfl | rfl | rfl | rfl | rfl | rfl | rfl | rfl | rfl | rfl | rfl | rfl <;> rfl
theorem rowI_news (W : World) (l : List NodeD) : ∀ (j : Nat) (u : Value), (rowI l)[j]? = some u → (W.alloc (.cells (rowI l).toArray 83)).cell? ((⟨W.heap.size, 0, none⟩ : Addr).add j) = some u := fun j u hj => by
  have e : (⟨W.heap.size, 0, none⟩ : Addr).add j = ⟨W.heap.size, j, none⟩ := by
    simp [Addr.add]
    intro h
    exact h.symm
  rw [e]
  unfold World.cell?
  simp only [heap_new W (.cells (rowI l).toArray 83)]
  rw [if_neg (by decide)]
  simpa using hj
theorem nil_rdI8 (W : World) : RdI W (.slice none 0 0) [] := ⟨none, 0, rfl, Nat.le_refl _, fun h => absurd h (by simp)⟩
theorem nil_rdN8 (W : World) : RdN W (.slice none 0 0) [] := ⟨none, 0, rfl, Nat.le_refl _, fun h => absurd h (by simp)⟩
theorem nil_rdA8 (W : World) : RdA W (.slice none 0 0) [] := ⟨none, 0, rfl, Nat.le_refl _, fun h => absurd h (by simp)⟩
/-- A row of nodes without lists is a forest. -/
theorem rowI_forest {W : World} {base : Nat} {v : Value} {l : List NodeD} (h : W.ownsRow base 83 16 v l.length (rowI l)) (h0 : 0 < l.length) (hs : l.length ≤ 1099511627776) (hL : ∀ n ∈ l, n.data = [] ∧ n.attrs = [] ∧ n.kids = []) : ∃ b c, v = .slice (some ⟨b, 0, none⟩) l.length c ∧ base ≤ b ∧ FAt W b 0 c l := by
  obtain ⟨_, h⟩ := h
  rcases h with ⟨_, h1⟩ | ⟨g, cap, cur, rfl, hb, hh, hn, hm, hsz, ht⟩
  · omega
  · refine ⟨g, cap, rfl, hb, (Array.getElem?_eq_some_iff.1 hh).1, hn, hs, fun i hi => ?_⟩
    have hc : ∀ j, j < 16 → W.cell? ⟨g, i * 16 + j, none⟩ = (nodeCsI l[i] nilL)[j]? := fun j hj => by
      rw [← rowI_get l i j hi hj, ← ht, List.getElem?_take, if_pos (by omega), Array.getElem?_toList]
      unfold World.cell?
      simp only [hh]
      exact if_neg (by decide)
    obtain ⟨e1, e2, e3⟩ := hL l[i] (List.getElem_mem hi)
    rw [Nat.zero_add]
    exact ⟨nilL, ⟨(hc 0 (by omega)).trans rfl, (hc 1 (by omega)).trans rfl, (hc 2 (by omega)).trans rfl, (hc 3 (by omega)).trans rfl, (hc 4 (by omega)).trans rfl, (hc 5 (by omega)).trans rfl, (hc 6 (by omega)).trans rfl, (hc 7 (by omega)).trans rfl, (hc 8 (by omega)).trans rfl, (hc 9 (by omega)).trans rfl, (hc 10 (by omega)).trans rfl, (hc 11 (by omega)).trans rfl, (hc 12 (by omega)).trans rfl, (hc 13 (by omega)).trans rfl, (hc 14 (by omega)).trans rfl, (hc 15 (by omega)).trans rfl⟩, by rw [e1]; exact nil_rdN8 W, by rw [e2]; exact nil_rdA8 W, by rw [e3]; exact nil_rdI8 W⟩
/-- A row of one's own stays where a box of another type is written. -/
theorem own_set_apart {W : World} {base size n B : Nat} {e e2 : TypeId} {v : Value} {xs : List Value} {cur : Array Value} {fz : Nat × Nat} (h : W.ownsRow base e size v n xs) (hB : W.heap[B]? = some (.cells cur e2 fz)) (hne : e2 ≠ e) (x : Value) : (W.setCell ⟨B, 0, none⟩ x).ownsRow base e size v n xs := by
  obtain ⟨h1, h2⟩ := h
  refine ⟨h1, ?_⟩
  rcases h2 with h2 | ⟨k, cap, cu, hv, hg', hh, r⟩
  · exact .inl h2
  · refine .inr ⟨k, cap, cu, hv, hg', ?_, r⟩
    have hk : k ≠ B := by
      intro e
      rw [e, hB] at hh
      have := Option.some.inj hh
      injection this with _ ht
      exact hne ht
    exact (Below.heap_setCell W ⟨B, 0, none⟩ x k hk).trans hh
theorem heap_growI {W w1 : World} {row : Option Nat} {k : Nat} {x : Obj} (h : W.heap[k]? = some x) (hg : W.grownBy w1 row) (hne : row ≠ some k) : w1.heap[k]? = some x :=
  (hg.block k (Array.getElem?_eq_some_iff.1 h).1 (by intro e; exact hne (by first | exact e | exact e.symm))).trans h
theorem info_nodeI : (Tryz.prog.info? 83).map (fun i => (i.zero, i.size, i.bytes)) = some (some (.agg #[.int .u8 0, .string ⟨#[]⟩, .string ⟨#[]⟩, .string ⟨#[]⟩, .string ⟨#[]⟩, .string ⟨#[]⟩, .slice none 0 0, .slice none 0 0, .int .i64 0, .slice none 0 0, .int .i64 0, .int .i64 0, .int .i64 0, .int .u8 0, .bool false, .bool false]), 16, 200) := by kernel_rfl
/-- Nodes without lists, put behind the document of a new forest. -/
theorem rowI_append (V : World) (base b : Nat) (l : List NodeD) (hO : V.ownsRow base 83 16 (.slice (some ⟨b, 0, none⟩) 1 1) 1 (nodeCsI (docI false) nilL)) (hl : l.length ≤ 2) (hb : base ≤ V.heap.size) :
    ∃ o c w1, (Builtin.append_ #[22, 22] 22 #[.slice (some ⟨b, 0, none⟩) 1 1, .slice (some ⟨V.heap.size, 0, none⟩) l.length l.length]).run Tryz.prog (V.alloc (.cells (rowI l).toArray 83)) = .ok (.slice o (1 + l.length) c) w1 ∧ w1.ownsRow base 83 16 (.slice o (1 + l.length) c) (docI false :: l).length (rowI (docI false :: l)) ∧ (V.alloc (.cells (rowI l).toArray 83)).grownBy w1 (some b) := by
  obtain ⟨i0, hi, hz0, hz1, hz2⟩ := info_parts info_nodeI
  have hlen := rowI_len l
  obtain ⟨v', w1, r1, r2, r3, _⟩ := run_append_own (P := Tryz.prog) (w := V.alloc (.cells (rowI l).toArray 83)) base 22 22 83 i0 _ 16 200 Tryz.underlying22 hi hz0 hz1 hz2 rfl (by decide) _ 1 _ (hO.alloc _) ⟨V.heap.size, 0, none⟩ l.length l.length (rowI l) hlen (rowI_news V l) (rowI_one l) (Nat.le_trans (show 1 + l.length ≤ 3 by omega) (by decide)) (by omega) (by rw [World.size_alloc]; omega)
  have hv : ∃ o c, v' = .slice o (1 + l.length) c := by
    rcases r2.2 with ⟨_, h0⟩ | ⟨g, cap, _, h0, _⟩
    · omega
    · exact ⟨_, _, h0⟩
  obtain ⟨o, c, rfl⟩ := hv
  have e1 : nodeCsI (docI false) nilL ++ rowI l = rowI (docI false :: l) := rfl
  have e2 : 1 + l.length = (docI false :: l).length := by rw [List.length_cons]; omega
  rw [e1] at r2
  refine ⟨o, c, w1, r1, ?_, r3⟩
  rw [← e2]
  exact r2
end Go.Proofs.YticenjhhefiboaaGreat

namespace Go.Proofs.YticenjhhefiboaaGreat
open Go.RowKit

section
variable {P : Program} {md : Region.Mode} {ops : Array Oper} {Q : Exit → Act → World → Prop} {S : World → Prop}

/-- An operation that yields a value in every world that meets the condition, taken first. -/
theorem wpAnyH_one (i t : Nat) (v : Value) {oi : Oper} {fuel : Nat} {listed : Array Bool} {a : Act} {w : World} (hS : S w) (hi : ops[i]? = some oi) (hd : oi.dst = some t) (hs : Region.noSelect ops = true) (hQ : ∀ c (a : Act) (t : Tmp) (v : Value) w, Q (.panic c) (a.put (some t) v) w → Q (.panic c) a w)
    (hf : Region.free md ops listed i = true) (hr : (Region.ready md ops listed).contains i = true) (hw : Region.wanted oi (yielded ops a.tmps) = true) (hx : ∀ w, S w → (execOp a.eval oi).run P w = .ok (.value v) w)
    (h : wpAnyH P md ops Q S fuel (listed.setIfInBounds i true) (a.put (some t) v) w) : wpAnyH P md ops Q S (fuel + 1) listed a w :=
  wpAnyH_take (i := i) (v := v) hi hs hf hr (fun c a w h => hQ c a t _ w (hd ▸ h)) (Or.inl ⟨hw, hx⟩) hS (hd ▸ h)
end
end Go.Proofs.YticenjhhefiboaaGreat

