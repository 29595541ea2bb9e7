/- The reference of iterate: which nodes are accepted (canopyref14.accepted), the next one and the one ahead (Next, Prev). -/
/- The walk of IterateSteps: which node comes next, there and back. -/
import Derived.Test.YticenjhhefiboaaGreatCFWk8FItW
import Derived.Test.YticenjhhefiboaaGreatCFItCFItT
import Derived.Test.YticenjhhefiboaaGreatCFUpFR4D
import Derived.Test.YticenjhhefiboaaGreatCFWk3
namespace Go.Proofs.YticenjhhefiboaaGreat
open Go.RowKit Go.Lib Go.Shelf

theorem firstB_cons (q : Int → Bool) (y : Int) (t : List Int) : firstB q (y :: t) = if q y then y else firstB q t := rfl
theorem wrap_smallI (x : Int) (h1 : -9223372036854775808 ≤ x) (h2 : x < 9223372036854775808) : IntKind.i64.wrap x = x := by
  simp [IntKind.wrap, IntKind.signed, IntKind.bits]
  omega
theorem take_last {l : List Int} {k n : Nat} (h : n < l.length) (hk : k = n + 1) : (l.take k).reverse = l[n] :: (l.take n).reverse := by
  subst hk
  rw [List.take_succ_eq_append_getElem h, List.reverse_append]
  rfl
theorem row_still {X : World} {bv n B : Nat} {y : Int} {c : Bool} (hx : X.cell? ⟨bv, n, none⟩ = some (.int .i64 y)) (hb : X.cell? ⟨B, 2, none⟩ = some (.bool c)) (v : Bool) : ((X.setCell ⟨B, 1, none⟩ (.int .i64 y)).setCell ⟨B, 2, none⟩ (.bool v)).cell? ⟨bv, n, none⟩ = some (.int .i64 y) := by
  rw [World.cell?_setCell_other _ _ _ _ (fun e => by cases e; rw [hx] at hb; cases hb)]
  by_cases h : (⟨B, 1, none⟩ : Addr) = ⟨bv, n, none⟩
  · cases h
    exact World.cell?_setCell_same' _ _ _ (by rw [hx]; rfl)
  · rw [World.cell?_setCell_other _ _ _ _ h]
    exact hx
theorem box_two {X : World} {g : Nat} {a b c d e : Value} {t : TypeId} (h : X.heap[g]? = some (.cells #[a, b, c, d, e] t)) (p q : Value) : ((X.setCell ⟨g, 1, none⟩ p).setCell ⟨g, 2, none⟩ q).heap[g]? = some (.cells #[a, p, q, d, e] t) := by
  have st : ∀ (W : World) (k : Nat) (v : Value) (cur : Array Value), W.heap[g]? = some (.cells cur t) → (W.setCell ⟨g, k, none⟩ v).heap[g]? = some (.cells (cur.setIfInBounds k v) t) := fun W k v cur hW => by
    simp [World.setCell, Array.getElem?_modify, hW]
  exact st _ 2 q _ (st _ 1 p _ h)
theorem row_not_res {X : World} {bv n g : Nat} {y : Int} {t : TypeId} (hx : X.cell? ⟨bv, n, none⟩ = some (.int .i64 y)) (h : X.heap[g]? = some (.cells #[.int .i64 0, .int .i64 0, .bool false, .int .u32 0, .slice none 0 0] t)) (hy : y ≠ 0) : ∀ k, k < 5 → (⟨g, k, none⟩ : Addr) ≠ ⟨bv, n, none⟩ := by
  intro k hk e
  have e1 : g = bv := congrArg Addr.block e
  have e2 : k = n := congrArg Addr.off e
  subst e1
  obtain ⟨⟨a0, a1, a2, a3, a4⟩, _⟩ := box5I h
  have hk5 : n = 0 ∨ n = 1 ∨ n = 2 ∨ n = 3 ∨ n = 4 := by omega
  rcases hk5 with rfl | rfl | rfl | rfl | rfl
  · rw [a0] at hx; cases hx; exact hy rfl
  · rw [a1] at hx; cases hx; exact hy rfl
  · rw [a2] at hx; cases hx
  · rw [a3] at hx; cases hx
  · rw [a4] at hx; cases hx
theorem cell_far5 {W : World} {bv n g : Nat} {x : Value} (h : W.cell? ⟨bv, n, none⟩ = some x) (hne : ∀ k, k < 5 → (⟨g, k, none⟩ : Addr) ≠ ⟨bv, n, none⟩) (p0 p1 p2 p3 p4 : Value) : (((((W.setCell ⟨g, 0, none⟩ p0).setCell ⟨g, 1, none⟩ p1).setCell ⟨g, 2, none⟩ p2).setCell ⟨g, 3, none⟩ p3).setCell ⟨g, 4, none⟩ p4).cell? ⟨bv, n, none⟩ = some x := by
  rw [World.cell?_setCell_other _ _ _ _ (hne 4 (by omega)), World.cell?_setCell_other _ _ _ _ (hne 3 (by omega)), World.cell?_setCell_other _ _ _ _ (hne 2 (by omega)), World.cell?_setCell_other _ _ _ _ (hne 1 (by omega)), World.cell?_setCell_other _ _ _ _ (hne 0 (by omega))]
  exact h
section
variable {ns : List NodeD} {root ref : Int} {bef : Bool} {sh : Nat} {rules : List RuleD}
/-- How many of all nodes the reference passes over. -/
def atN (ns : List NodeD) (root ref : Int) (bef : Bool) : Nat := (aheadA ns root ref).length + (if bef then 0 else 1)
theorem next_ref (hc : iterC ns root ref rules = 0) : firstB (fun y => verdictOf ns sh rules y == 1) ((allA ns root).drop (atN ns root ref bef)) = nextT ns root ref bef sh rules := by
  obtain ⟨hR, hr, _, hx, hin⟩ := iterC_ok hc
  unfold atN nextT
  rw [all_parts hR hr hx hin]
  have hl : (aheadA ns root ref).reverse.length = (aheadA ns root ref).length := List.length_reverse
  cases bef with
  | true =>
    rw [if_pos rfl, Nat.add_zero, ← hl, List.drop_left]
    show _ = firstB _ (restL (afterA ns root) ref)
    rw [restL_some _ (there_ne hx)]
  | false =>
    rw [if_neg Bool.false_ne_true, ← hl, ← List.drop_drop, List.drop_left]
    show firstB _ (afterA ns root ref) = firstB _ (restL (afterA ns root) (behindN ns root ref))
    rw [after_step hR hr hx hin]
    rfl
theorem prev_ref (hc : iterC ns root ref rules = 0) : firstB (fun y => verdictOf ns sh rules y == 1) ((allA ns root).take (atN ns root ref bef)).reverse = prevT ns root ref bef sh rules := by
  obtain ⟨hR, hr, _, hx, hin⟩ := iterC_ok hc
  unfold atN prevT
  rw [all_parts hR hr hx hin]
  have hl : (aheadA ns root ref).reverse.length = (aheadA ns root ref).length := List.length_reverse
  cases bef with
  | true =>
    rw [if_pos rfl, Nat.add_zero, ← hl, List.take_left, List.reverse_reverse]
    show firstB _ (aheadA ns root ref) = firstB _ (restL (aheadA ns root) (aheadN ns root ref))
    rw [ahead_step hR hr hx hin]
    rfl
  | false =>
    rw [if_neg Bool.false_ne_true, ← hl, List.take_append, List.take_of_length_le (by omega), show (aheadA ns root ref).reverse.length + 1 - (aheadA ns root ref).reverse.length = 1 by omega]
    simp only [List.take_succ_cons, List.take_zero, List.reverse_append, List.reverse_cons, List.reverse_nil, List.nil_append, List.reverse_reverse, List.cons_append]
    show _ = firstB _ (restL (aheadA ns root) ref)
    rw [restL_some _ (there_ne hx)]
theorem at_place (hc : iterC ns root ref rules = 0) : idxI (allA ns root) ref 0 = ((aheadA ns root ref).length : Int) ∧ (allA ns root).length ≤ 4096 ∧ (aheadA ns root ref).length < (allA ns root).length ∧ ∀ y ∈ allA ns root, thereB ns.length y = true := by
  obtain ⟨hR, hr, _, hx, hin⟩ := iterC_ok hc
  refine ⟨all_place hR hr hx hin, Nat.le_trans (hR.kidsHang.below_len _ root hr (by omega)) hR.small, ?_, fun y hy => ((hR.kidsHang.below_iff (ns.length + 1) root y hr (by omega)).1 hy).1⟩
  rw [all_parts hR hr hx hin, List.length_append, List.length_reverse, List.length_cons]
  omega
end
set_option maxRecDepth 100000 in
set_option maxHeartbeats 16000000 in
theorem refAccepted_any (b off cap : Nat) (ns : List NodeD) (root ref : Int) (bef : Bool) (sh : Nat) (ro : Option Addr) (rc : Nat) (rules : List RuleD) (x : Int) (w : World) (hR : RightF ns) (hF : FAt w b off cap ns) (hx : thereB ns.length x = true) (hs : sh < 4294967296) (hru : RdR w (.slice ro rules.length rc) rules) (hf : rules.length ≤ 64) :
    Calls Tryz.prog 35 #[.agg #[.slice (some ⟨b, off, none⟩) ns.length cap], .agg #[.int .i64 root, .int .i64 ref, .bool bef, .int .u32 (sh : Int), .slice ro rules.length rc], .int .i64 x] w fun e w' => e = .returned (.bool (verdictOf ns sh rules x == 1)) ∧ Below w.heap.size w w' := by
  obtain ⟨bx, g0, g1, sx⟩ := two_new w (.cells #[.slice (some ⟨b, off, none⟩) ns.length cap] 24) (.cells #[.int .i64 root, .int .i64 ref, .bool bef, .int .u32 (sh : Int), .slice ro rules.length rc] 30)
  have HV := hid (refVerdict_any b off cap x sh ro rc rules ns _ hR (hF.later bx) hx hs (hru.later bx) hf)
  have HB0 := hid bx
  have c0 := (box_cell_l g0).1
  obtain ⟨⟨i0, i1, i2, i3, i4⟩, _⟩ := box5I g1
  have he : ((verdictOf ns sh rules x : Int) == 1) = (verdictOf ns sh rules x == 1) := by
    by_cases h : verdictOf ns sh rules x = 1
    · rw [h]; rfl
    · rw [beq_eq_false_iff_ne.2 h, beq_eq_false_iff_ne.2 (by omega)]
  clear bx g0 g1 sx hF hru hR hx
  generalize verdictOf ns sh rules x = VD at *
  generalize (VD == 1) = R at *
  go_enter Tryz.func35, Tryz.ntmps35
  go_upto_region 1 with fail
  generalize ((w.alloc (.cells #[.slice (some ⟨b, off, none⟩) ns.length cap] 24)).alloc (.cells #[.int .i64 root, .int .i64 ref, .bool bef, .int .u32 (sh : Int), .slice ro rules.length rc] 30)) = W0 at *
  go_wp2_with fail
  refine HV.out.mono ?_
  rintro e v1 ⟨rfl, hb⟩
  have HB := hid (HB0.out.trans (hb.mono HB0.out.size))
  clear hb HB0 HV c0 i0 i1 i2 i3 i4
  go_wp2
  go_ret
  exact ⟨rfl, HB.out⟩
set_option maxRecDepth 100000 in
set_option maxHeartbeats 16000000 in
theorem refINextE_any (o : Option Addr) (cap : Nat) (ns : List NodeD) (root ref : Int) (bef : Bool) (sh : Nat) (ro : Option Addr) (rc : Nat) (rules : List RuleD) (w : World) (hF : FRd w o cap ns) (hkl : ∀ (i : Nat) (hi : i < ns.length), ns[i].kids.length ≤ 1099511627776) (hal : ∀ (i : Nat) (hi : i < ns.length), ns[i].attrs.length ≤ 1099511627776) (hru : RdR w (.slice ro rules.length rc) rules) (hrl : rules.length ≤ 1099511627776) (hs : sh < 4294967296) (hc : iterC ns root ref rules ≠ 0) :
    Calls Tryz.prog 14 #[.agg #[.slice o ns.length cap], .agg #[.int .i64 root, .int .i64 ref, .bool bef, .int .u32 (sh : Int), .slice ro rules.length rc]] w fun e w' => e = .returned (.tuple #[.agg #[.int .i64 0, .int .i64 0, .bool false, .int .u32 0, .slice none 0 0], .int .i64 0, .int .i64 (iterC ns root ref rules)]) ∧ Below w.heap.size w w' := by
  have HC : Hid (∀ W : World, Below w.heap.size w W → _) := fun W hW => refICheck_any o cap ns root ref bef sh ro rc rules W (hF.later hW) hkl hal (hru.later hW) hrl hs
  obtain ⟨bx, g0, g1, g2, sx⟩ := three_new w (.cells #[.slice o ns.length cap] 24) (.cells #[.int .i64 root, .int .i64 ref, .bool bef, .int .u32 (sh : Int), .slice ro rules.length rc] 30) (.cells #[.int .i64 0, .int .i64 0, .bool false, .int .u32 0, .slice none 0 0] 30)
  have n0 : (iterC ns root ref rules != 0) = true := by rw [bne, beq_eq_false_iff_ne.2 hc]; rfl
  have HB0 := hid bx
  have H2 := hid g2
  have c0 := (box_cell_l g0).1
  obtain ⟨⟨i0, i1, i2, i3, i4⟩, _⟩ := box5I g1
  clear bx g0 g1 g2 sx hF hkl hal hru hc
  generalize iterC ns root ref rules = E at *
  go_enter Tryz.func14, Tryz.ntmps14
  go_upto_region 1 with fail
  generalize (((w.alloc (.cells #[.slice o ns.length cap] 24)).alloc (.cells #[.int .i64 root, .int .i64 ref, .bool bef, .int .u32 (sh : Int), .slice ro rules.length rc] 30)).alloc (.cells #[.int .i64 0, .int .i64 0, .bool false, .int .u32 0, .slice none 0 0] 30)) = W0 at *
  go_wp2_with fail
  refine (HC.out _ HB0.out).mono ?_
  rintro e v1 ⟨rfl, hb⟩
  obtain ⟨⟨r0, r1, r2, r3, r4⟩, s0, s1, s2, s3, s4⟩ := box5I (keep_blk hb H2.out)
  have HV := hid (HB0.out.trans (hb.mono HB0.out.size))
  clear HC HB0 H2 hb c0 i0 i1 i2 i3 i4
  go_wp2
  exact bodyPost_ret (v := .tuple #[.agg #[.int .i64 0, .int .i64 0, .bool false, .int .u32 0, .slice none 0 0], .int .i64 0, .int .i64 E]) (by simp [results, Tryz.results14, go_sem, r0, r1, r2, r3, r4]) rfl ⟨rfl, (((((HV.out.setCell (p := ⟨w.heap.size + 1 + 1, 0, none⟩) (by show w.heap.size ≤ w.heap.size + 1 + 1; omega) _).setCell (p := ⟨w.heap.size + 1 + 1, 1, none⟩) (by show w.heap.size ≤ w.heap.size + 1 + 1; omega) _).setCell (p := ⟨w.heap.size + 1 + 1, 2, none⟩) (by show w.heap.size ≤ w.heap.size + 1 + 1; omega) _).setCell (p := ⟨w.heap.size + 1 + 1, 3, none⟩) (by show w.heap.size ≤ w.heap.size + 1 + 1; omega) _).setCell (p := ⟨w.heap.size + 1 + 1, 4, none⟩) (by show w.heap.size ≤ w.heap.size + 1 + 1; omega) _)⟩
set_option maxRecDepth 100000 in
set_option maxHeartbeats 16000000 in
theorem refINextT_any (o : Option Addr) (cap : Nat) (ns : List NodeD) (root ref : Int) (sh : Nat) (ro : Option Addr) (rc : Nat) (rules : List RuleD) (w : World) (hF : FRd w o cap ns) (hkl : ∀ (i : Nat) (hi : i < ns.length), ns[i].kids.length ≤ 1099511627776) (hal : ∀ (i : Nat) (hi : i < ns.length), ns[i].attrs.length ≤ 1099511627776) (hru : RdR w (.slice ro rules.length rc) rules) (hrl : rules.length ≤ 1099511627776) (hs : sh < 4294967296) (hc : iterC ns root ref rules = 0) :
    Calls Tryz.prog 14 #[.agg #[.slice o ns.length cap], .agg #[.int .i64 root, .int .i64 ref, .bool true, .int .u32 (sh : Int), .slice ro rules.length rc]] w fun e w' => e = .returned (.tuple #[.agg #[.int .i64 root, .int .i64 (if (nextT ns root ref true sh rules) == 0 then ref else (nextT ns root ref true sh rules)), .bool (if (nextT ns root ref true sh rules) == 0 then true else false), .int .u32 (sh : Int), .slice ro rules.length rc], .int .i64 (nextT ns root ref true sh rules), .int .i64 0]) ∧ Below w.heap.size w w' := by
  obtain ⟨hR, hrt, hfl, hrf, hin⟩ := iterC_ok hc
  obtain ⟨pl1, pl2, pl3, pl4⟩ := at_place hc
  have hTT := next_ref (bef := true) (sh := sh) hc
  obtain ⟨b, off, rfl, hFA⟩ := hF.at_ (by obtain ⟨i, hi, _⟩ := there_idx hrf; omega)
  have hr64 := (filterE_ok hfl).1
  have HC : Hid (∀ W : World, Below w.heap.size w W → _) := fun W hW => refICheck_any (some ⟨b, off, none⟩) cap ns root ref true sh ro rc rules W (hF.later hW) hkl hal (hru.later hW) hrl hs
  rw [hc] at HC
  have HAl : Hid (∀ W : World, Below w.heap.size w W → _) := fun W hW => refAll_any b off cap root ns W hR (hFA.later hW) hkl hrt
  have HAc : Hid (∀ (x : Int) (W : World), Below w.heap.size w W → thereB ns.length x = true → _) := fun x W hW hx => refAccepted_any b off cap ns root ref true sh ro rc rules x W hR (hFA.later hW) hx hs (hru.later hW) hr64
  obtain ⟨q, hq⟩ : ∃ q : Int → Bool, (fun y => verdictOf ns sh rules y == 1) = q := ⟨_, rfl⟩
  have HAc2 : Hid (∀ (x : Int) (W : World), Below w.heap.size w W → thereB ns.length x = true → Calls Tryz.prog 35 #[.agg #[.slice (some ⟨b, off, none⟩) ns.length cap], .agg #[.int .i64 root, .int .i64 ref, .bool true, .int .u32 (sh : Int), .slice ro rules.length rc], .int .i64 x] W fun e w' => e = .returned (.bool (q x)) ∧ Below W.heap.size W w') := fun x W hW hx => by rw [← hq]; exact HAc.out x W hW hx
  rw [hq] at hTT
  have hL : allD ns root = allA ns root := rfl
  rw [hL] at HAl
  obtain ⟨A, hA⟩ : ∃ A, atN ns root ref true = A := ⟨_, rfl⟩
  have hA2 : (A : Int) = ((aheadA ns root ref).length : Int) + 0 := by rw [← hA]; unfold atN; simp
  rw [hA] at hTT
  clear hA
  generalize nextT ns root ref true sh rules = T at *
  obtain ⟨RF, hRF⟩ : ∃ RF, (if T == 0 then ref else T) = RF := ⟨_, rfl⟩
  obtain ⟨BF, hBF⟩ : ∃ BF, (if T == 0 then true else false) = BF := ⟨_, rfl⟩
  rw [hRF, hBF]
  have HRF := hid hRF
  have HBF := hid hBF
  have HTT := hid hTT
  have Hpl4 := hid pl4
  have HA2 := hid hA2
  have Hpl1 := hid pl1
  clear hL pl1
  generalize aheadA ns root ref = AH at *
  generalize allA ns root = l at *
  have hA3 : A ≤ l.length := by omega
  have HPl : Hid (∀ (v : Value) (W : World), RdI W v l → _) := fun v W hv => refPlace_any v l ref W hv (by omega)
  rw [Hpl1.out] at HPl
  clear Hpl1
  obtain ⟨bx, g0, g1, g2, sx⟩ := three_new w (.cells #[.slice (some ⟨b, off, none⟩) ns.length cap] 24) (.cells #[.int .i64 root, .int .i64 ref, .bool true, .int .u32 (sh : Int), .slice ro rules.length rc] 30) (.cells #[.int .i64 0, .int .i64 0, .bool false, .int .u32 0, .slice none 0 0] 30)
  have HB0 := hid bx
  have H0 := hid g0
  have H1 := hid g1
  have H2 := hid g2
  have c0 := (box_cell_l g0).1
  obtain ⟨⟨i0, i1, i2, i3, i4⟩, _⟩ := box5I g1
  clear bx g0 g1 g2 sx hF hkl hal hru hc hq hRF hBF hTT pl4 HAc hR hrt hfl hrf hin hFA hr64 hA2
  go_enter Tryz.func14, Tryz.ntmps14
  go_upto_region 1 with fail
  generalize (((w.alloc (.cells #[.slice (some ⟨b, off, none⟩) ns.length cap] 24)).alloc (.cells #[.int .i64 root, .int .i64 ref, .bool true, .int .u32 (sh : Int), .slice ro rules.length rc] 30)).alloc (.cells #[.int .i64 0, .int .i64 0, .bool false, .int .u32 0, .slice none 0 0] 30)) = W0 at *
  go_wp2_with fail
  refine (HC.out _ HB0.out).mono ?_
  rintro e v1 ⟨rfl, hb⟩
  have J0 := hid (keep_blk hb H0.out)
  have J1 := hid (keep_blk hb H1.out)
  have J2 := hid (keep_blk hb H2.out)
  have d0 := (box_cell_l J0.out).1
  obtain ⟨⟨j0, j1, j2, j3, j4⟩, _⟩ := box5I J1.out
  have HB1 := hid (HB0.out.trans (hb.mono HB0.out.size))
  clear HC HB0 H0 H1 H2 hb c0 i0 i1 i2 i3 i4
  go_wp2_with fail
  refine (HAl.out _ HB1.out).mono ?_
  rintro e v2 ⟨v, rfl, hv, hb⟩
  have L0 := hid (keep_blk hb J0.out)
  have L1 := hid (keep_blk hb J1.out)
  have L2 := hid (keep_blk hb J2.out)
  obtain ⟨⟨k0, k1, k2, k3, k4⟩, _⟩ := box5I L1.out
  have HB2 := hid (HB1.out.trans (hb.mono HB1.out.size))
  have hPl := HPl.out v v2 hv
  obtain ⟨ov, cv, rfl, hcv, gv⟩ := hv
  have GV := hid gv
  clear HAl HB1 J0 J1 J2 hb d0 j0 j1 j2 j3 j4 gv HPl
  go_wp2_with fail
  refine hPl.mono ?_
  rintro e v3 ⟨rfl, rfl⟩
  clear hPl
  have hA2 := HA2.out
  have s1 : IntKind.i64.wrap ((AH.length : Int) + 1) = (AH.length : Int) + 1 := wrap_smallI _ (by omega) (by omega)
  have s2 : IntKind.i64.wrap ((AH.length : Int) - 1) = (AH.length : Int) - 1 := wrap_smallI _ (by omega) (by omega)
  clear hA2
  go_wp2
  clear s1 s2 k0 k1 k2 k3 k4
  go_loopw [9] (fun t wr => ∃ k : Nat, t = .int .i64 ((k : Int)) ∧ k ≤ l.length ∧ Hid (firstB q (l.drop k) = T) ∧ Hid (Below v3.heap.size v3 wr)) (fun t _ => l.length - (RowKit.intOf t).toNat)
  case atStart => exact ⟨A, by rw [show ((AH.length : Int)) = (A : Int) from by have := HA2.out; omega], hA3, HTT, Below.refl _ _⟩
  case round =>
    obtain ⟨k, rfl, hkl, hFB, hBr⟩ := hrel
    clear HTT
    have M0 := hid (keep_blk hBr.out L0.out)
    have M1 := hid (keep_blk hBr.out L1.out)
    have M2 := hid (keep_blk hBr.out L2.out)
    have HB3 := hid (HB2.out.trans (hBr.out.mono HB2.out.size))
    by_cases hlt : k < l.length
    · obtain ⟨bv, offv, rfl, hltv, hav⟩ := GV.out (by omega)
      have x1 := (hBr.out.cell (p := ⟨bv, offv + k, none⟩) hltv).trans (hav (k) (by omega))
      have hmem : l[k]'(by omega) ∈ l := List.getElem_mem _
      have hth := Hpl4.out _ hmem
      have hfb := hFB.out
      rw [List.drop_eq_getElem_cons (by omega : k < l.length), firstB_cons] at hfb
      have hAc := HAc2.out (l[k]'(by omega)) wr
      generalize l[k]'(by omega) = y at *
      have HX1 := hid x1
      have Hth := hid hth
      have Hfb := hid hfb
      have HAC := hid hAc
      have p1 : (0 : Int) ≤ ((k : Int)) := by omega
      have p2 : ((k : Int)) < (l.length : Int) := by omega
      have p3 : ((k : Int)).toNat = k := by omega
      clear hfb hmem hav hFB x1 hth hAc
      go_upto_region 10 with fail
      have Hlv := hid hltv
      refine wp_region_held_drew (S := fun W => Below wr.heap.size wr W) (by kernel_rfl) (below_drew wr) (fun hHeld => ?_)
      have D0 := hid (below_drew wr)
      generalize wr.drew = X0 at *
      refine wpAnyH_one 0 36 (.agg #[.slice (some ⟨b, off, none⟩) ns.length cap]) hHeld rfl rfl (by kernel_rfl) (fun _ _ _ _ _ h => h) (by kernel_rfl) (by kernel_rfl) (by rfl) ?_ ?_
      · intro V hSw; (try dsimp only at hSw); have cf := (box_cell_l (keep_blk hSw M0.out)).1; go_simp
      simp only [Act.put, List.setIfInBounds_toArray, List.set_cons_zero, List.set_cons_succ]
      refine wpAnyH_one 1 37 (.agg #[.int .i64 root, .int .i64 ref, .bool true, .int .u32 (sh : Int), .slice ro rules.length rc]) hHeld rfl rfl (by kernel_rfl) (fun _ _ _ _ _ h => h) (by kernel_rfl) (by kernel_rfl) (by rfl) ?_ ?_
      · intro V hSw; (try dsimp only at hSw); have ci := box5I (keep_blk hSw M1.out); obtain ⟨⟨q0, q1, q2, q3, q4⟩, _⟩ := ci; go_simp
      simp only [Act.put, List.setIfInBounds_toArray, List.set_cons_zero, List.set_cons_succ]
      refine wpAnyH_one 2 38 (.slice (some ⟨bv, offv, none⟩) l.length cv) hHeld rfl rfl (by kernel_rfl) (fun _ _ _ _ _ h => h) (by kernel_rfl) (by kernel_rfl) (by rfl) ?_ ?_
      · intro V hSw; (try dsimp only at hSw); go_simp
      simp only [Act.put, List.setIfInBounds_toArray, List.set_cons_zero, List.set_cons_succ]
      refine wpAnyH_one 3 39 (.int .i64 ((k : Int))) hHeld rfl rfl (by kernel_rfl) (fun _ _ _ _ _ h => h) (by kernel_rfl) (by kernel_rfl) (by rfl) ?_ ?_
      · intro V hSw; (try dsimp only at hSw); go_simp
      simp only [Act.put, List.setIfInBounds_toArray, List.set_cons_zero, List.set_cons_succ]
      refine wpAnyH_one 4 40 (.pointer (some ⟨bv, offv + k, none⟩)) hHeld rfl rfl (by kernel_rfl) (fun _ _ _ _ _ h => h) (by kernel_rfl) (by kernel_rfl) (by rfl) ?_ ?_
      · intro V hSw; (try dsimp only at hSw); go_simp
      simp only [Act.put, List.setIfInBounds_toArray, List.set_cons_zero, List.set_cons_succ]
      refine wpAnyH_one 5 41 (.int .i64 y) hHeld rfl rfl (by kernel_rfl) (fun _ _ _ _ _ h => h) (by kernel_rfl) (by kernel_rfl) (by rfl) ?_ ?_
      · intro V hSw; (try dsimp only at hSw); have cx := (hSw.cell (p := ⟨bv, offv + k, none⟩) (Nat.lt_of_lt_of_le Hlv.out hBr.out.size)).trans HX1.out; go_simp
      simp only [Act.put, List.setIfInBounds_toArray, List.set_cons_zero, List.set_cons_succ]
      refine wpAnyH_ready (rs := [6]) (by kernel_rfl) (by simp) ?_
      refine AllReadyH.cons rfl (fun K hK => ?_) AllReadyH.nil
      go_simp
      go_wp2_with (go_at_call 35; refine (HAc2.out y X0 (HB3.out.trans (D0.out.mono HB3.out.size)) Hth.out).mono ?_; rintro e X1 ⟨rfl, hb⟩; have D1 := hid (D0.out.trans (hb.mono D0.out.size)))
      refine hK.out _ _ D1.out (fun hHeld => ?_)
      clear hK K hb hHeld
      refine wpAnyH_done (by kernel_rfl) ?_ _
      cases hqy : q y with
      | true =>
        have hT := Hfb.out
        rw [hqy, if_pos rfl] at hT
        subst hT
        have hy0 := there_ne Hth.out
        have hR2 := HRF.out
        have hB2 := HBF.out
        rw [bfalse hy0, if_neg Bool.false_ne_true] at hR2 hB2
        subst hR2
        subst hB2
        obtain ⟨⟨m0, m1, m2, m3, m4⟩, z0, z1, z2, z3, z4⟩ := box5I (keep_blk D1.out M1.out)
        have cx := (D1.out.cell (p := ⟨bv, offv + k, none⟩) (Nat.lt_of_lt_of_le Hlv.out hBr.out.size)).trans HX1.out
        have HB4 := hid (HB3.out.trans (D1.out.mono HB3.out.size))
        have O2 := hid (keep_blk D1.out M2.out)
        have O1 := hid (keep_blk D1.out M1.out)
        have hlw := heap_lt M2.out
        have hss := hBr.out.size
        have hd1 := D1.out.size
        have hrow := row_still (B := w.heap.size + 1) cx m2 false
        have hbox := box_two O1.out (.int .i64 y) (.bool false)
        have hres : ((X1.setCell ⟨w.heap.size + 1, 1, none⟩ (.int .i64 y)).setCell ⟨w.heap.size + 1, 2, none⟩ (.bool false)).heap[w.heap.size + 1 + 1]? = some _ := blk_far (j := 2) (blk_far (j := 1) O2.out (.int .i64 y) (by omega)) (.bool false) (by omega)
        have hbel : Below w.heap.size w ((X1.setCell ⟨w.heap.size + 1, 1, none⟩ (.int .i64 y)).setCell ⟨w.heap.size + 1, 2, none⟩ (.bool false)) := (HB4.out.setCell (p := ⟨w.heap.size + 1, 1, none⟩) (by show w.heap.size ≤ w.heap.size + 1; omega) _).setCell (p := ⟨w.heap.size + 1, 2, none⟩) (by show w.heap.size ≤ w.heap.size + 1; omega) _
        have hne := row_not_res hrow hres (there_ne Hth.out)
        have HROW := hid hrow
        have HBOX := hid hbox
        have HRES := hid hres
        have HBEL := hid hbel
        have HNE := hid hne
        clear hrow hbox hres hbel hne O1 O2 HB4 M0 M1 M2 Hfb HAC D0 hd1 hss hlw
        go_upto_region 13 with fail
        generalize ((X1.setCell ⟨w.heap.size + 1, 1, none⟩ (.int .i64 y)).setCell ⟨w.heap.size + 1, 2, none⟩ (.bool false)) = X3 at *
        clear m0 m1 m2 m3 m4 z0 z1 z2 z3 z4 cx
        refine wp_region_held_drew (S := fun W => W.heap[w.heap.size + 1]? = some (.cells #[.int .i64 root, .int .i64 y, .bool false, .int .u32 (sh : Int), .slice ro rules.length rc] 30) ∧ W.cell? ⟨bv, offv + k, none⟩ = some (.int .i64 y)) (by kernel_rfl) ⟨keep_blk (below_drew X3) HBOX.out, HROW.out⟩ (fun hHeld => ?_)
        have E0 := hid (HBEL.out.trans ((below_drew X3).mono HBEL.out.size))
        have E2 := hid (keep_blk (below_drew X3) HRES.out)
        generalize X3.drew = X4 at *
        refine wpAnyH_one 0 49 (.agg #[.int .i64 root, .int .i64 y, .bool false, .int .u32 (sh : Int), .slice ro rules.length rc]) hHeld rfl rfl (by kernel_rfl) (fun _ _ _ _ _ h => h) (by kernel_rfl) (by kernel_rfl) (by rfl) ?_ ?_
        · intro V hSw; (try dsimp only at hSw); have ci := box5I hSw.1; obtain ⟨⟨q0, q1, q2, q3, q4⟩, _⟩ := ci; go_simp
        simp only [Act.put, List.setIfInBounds_toArray, List.set_cons_zero, List.set_cons_succ]
        refine wpAnyH_one 1 50 (.slice (some ⟨bv, offv, none⟩) l.length cv) hHeld rfl rfl (by kernel_rfl) (fun _ _ _ _ _ h => h) (by kernel_rfl) (by kernel_rfl) (by rfl) ?_ ?_
        · intro V hSw; (try dsimp only at hSw); go_simp
        simp only [Act.put, List.setIfInBounds_toArray, List.set_cons_zero, List.set_cons_succ]
        refine wpAnyH_one 2 51 (.int .i64 ((k : Int))) hHeld rfl rfl (by kernel_rfl) (fun _ _ _ _ _ h => h) (by kernel_rfl) (by kernel_rfl) (by rfl) ?_ ?_
        · intro V hSw; (try dsimp only at hSw); go_simp
        simp only [Act.put, List.setIfInBounds_toArray, List.set_cons_zero, List.set_cons_succ]
        refine wpAnyH_one 3 52 (.pointer (some ⟨bv, offv + k, none⟩)) hHeld rfl rfl (by kernel_rfl) (fun _ _ _ _ _ h => h) (by kernel_rfl) (by kernel_rfl) (by rfl) ?_ ?_
        · intro V hSw; (try dsimp only at hSw); go_simp
        simp only [Act.put, List.setIfInBounds_toArray, List.set_cons_zero, List.set_cons_succ]
        refine wpAnyH_one 4 53 (.int .i64 y) hHeld rfl rfl (by kernel_rfl) (fun _ _ _ _ _ h => h) (by kernel_rfl) (by kernel_rfl) (by rfl) ?_ ?_
        · intro V hSw; (try dsimp only at hSw); have cx := hSw.2; go_simp
        simp only [Act.put, List.setIfInBounds_toArray, List.set_cons_zero, List.set_cons_succ]
        obtain ⟨⟨r0, r1, r2, r3, r4⟩, s0, s1, s2, s3, s4⟩ := box5I E2.out
        refine wpAnyH_ready (rs := [5]) (by kernel_rfl) (by simp) ?_
        refine AllReadyH.cons rfl (fun K hK => ?_) AllReadyH.nil
        go_simp
        refine hK.out _ _ ⟨(blk_far (j := 4) (blk_far (j := 3) (blk_far (j := 2) (blk_far (j := 1) (blk_far (j := 0) hHeld.1 _ (by omega)) _ (by omega)) _ (by omega)) _ (by omega)) _ (by omega)), cell_far5 hHeld.2 HNE.out _ _ _ _ _⟩ (fun hHeld => ?_)
        clear hK K
        refine wpAnyH_one 6 5 (.int .i64 y) hHeld rfl rfl (by kernel_rfl) (fun _ _ _ _ _ h => h) (by kernel_rfl) (by kernel_rfl) (by rfl) ?_ ?_
        · intro V hSw; (try dsimp only at hSw); go_simp
        simp only [Act.put, List.setIfInBounds_toArray, List.set_cons_zero, List.set_cons_succ]
        refine wpAnyH_one 7 6 (.int .i64 0) hHeld rfl rfl (by kernel_rfl) (fun _ _ _ _ _ h => h) (by kernel_rfl) (by kernel_rfl) (by rfl) ?_ ?_
        · intro V hSw; (try dsimp only at hSw); go_simp
        simp only [Act.put, List.setIfInBounds_toArray, List.set_cons_zero, List.set_cons_succ]
        refine wpAnyH_done (by kernel_rfl) ?_ _
        go_wp2_with fail
        exact bodyPost_ret (v := .tuple #[.agg #[.int .i64 root, .int .i64 y, .bool false, .int .u32 (sh : Int), .slice ro rules.length rc], .int .i64 y, .int .i64 0]) (by simp [results, Tryz.results14, go_sem, r0, r1, r2, r3, r4]) rfl ⟨rfl, (((((E0.out.setCell (p := ⟨w.heap.size + 1 + 1, 0, none⟩) (by show w.heap.size ≤ w.heap.size + 1 + 1; omega) _).setCell (p := ⟨w.heap.size + 1 + 1, 1, none⟩) (by show w.heap.size ≤ w.heap.size + 1 + 1; omega) _).setCell (p := ⟨w.heap.size + 1 + 1, 2, none⟩) (by show w.heap.size ≤ w.heap.size + 1 + 1; omega) _).setCell (p := ⟨w.heap.size + 1 + 1, 3, none⟩) (by show w.heap.size ≤ w.heap.size + 1 + 1; omega) _).setCell (p := ⟨w.heap.size + 1 + 1, 4, none⟩) (by show w.heap.size ≤ w.heap.size + 1 + 1; omega) _)⟩
      | false =>
        have hT := Hfb.out
        rw [hqy, if_neg Bool.false_ne_true] at hT
        have HT2 := hid hT
        have HB5 := hid (hBr.out.trans (D1.out.mono hBr.out.size))
        clear M0 M1 M2 HX1 Hth Hfb HAC hBr D0 D1 HB3
        go_wp2_with fail
        go_roundw
        case rel => exact ⟨k + 1, congrArg (Value.int .i64) (by omega), by omega, HT2, HB5⟩
        case measure => simp [RowKit.intOf]; omega
    · have hT : T = 0 := by
        rw [← hFB.out]
        rw [List.drop_of_length_le (by omega)]; rfl
      have hR2 := HRF.out
      have hB2 := HBF.out
      rw [btrue hT, if_pos rfl] at hR2 hB2
      subst hR2
      subst hB2
      have HT0 := hid hT
      obtain ⟨⟨m0, m1, m2, m3, m4⟩, _⟩ := box5I M1.out
      obtain ⟨⟨r0, r1, r2, r3, r4⟩, s0, s1, s2, s3, s4⟩ := box5I M2.out
      have dl : decide ((k : Int) < (l.length : Int)) = false := decide_eq_false (by omega)
      clear hFB hBr hT M0
      go_wp2
      exact bodyPost_ret (v := .tuple #[.agg #[.int .i64 root, .int .i64 ref, .bool true, .int .u32 (sh : Int), .slice ro rules.length rc], .int .i64 0, .int .i64 0]) (by simp [results, Tryz.results14, go_sem, r0, r1, r2, r3, r4]) rfl ⟨by rw [HT0.out], (((((HB3.out.setCell (p := ⟨w.heap.size + 1 + 1, 0, none⟩) (by show w.heap.size ≤ w.heap.size + 1 + 1; omega) _).setCell (p := ⟨w.heap.size + 1 + 1, 1, none⟩) (by show w.heap.size ≤ w.heap.size + 1 + 1; omega) _).setCell (p := ⟨w.heap.size + 1 + 1, 2, none⟩) (by show w.heap.size ≤ w.heap.size + 1 + 1; omega) _).setCell (p := ⟨w.heap.size + 1 + 1, 3, none⟩) (by show w.heap.size ≤ w.heap.size + 1 + 1; omega) _).setCell (p := ⟨w.heap.size + 1 + 1, 4, none⟩) (by show w.heap.size ≤ w.heap.size + 1 + 1; omega) _)⟩
set_option maxRecDepth 100000 in
set_option maxHeartbeats 16000000 in
theorem refINextF_any (o : Option Addr) (cap : Nat) (ns : List NodeD) (root ref : Int) (sh : Nat) (ro : Option Addr) (rc : Nat) (rules : List RuleD) (w : World) (hF : FRd w o cap ns) (hkl : ∀ (i : Nat) (hi : i < ns.length), ns[i].kids.length ≤ 1099511627776) (hal : ∀ (i : Nat) (hi : i < ns.length), ns[i].attrs.length ≤ 1099511627776) (hru : RdR w (.slice ro rules.length rc) rules) (hrl : rules.length ≤ 1099511627776) (hs : sh < 4294967296) (hc : iterC ns root ref rules = 0) :
    Calls Tryz.prog 14 #[.agg #[.slice o ns.length cap], .agg #[.int .i64 root, .int .i64 ref, .bool false, .int .u32 (sh : Int), .slice ro rules.length rc]] w fun e w' => e = .returned (.tuple #[.agg #[.int .i64 root, .int .i64 (if (nextT ns root ref false sh rules) == 0 then ref else (nextT ns root ref false sh rules)), .bool (if (nextT ns root ref false sh rules) == 0 then false else false), .int .u32 (sh : Int), .slice ro rules.length rc], .int .i64 (nextT ns root ref false sh rules), .int .i64 0]) ∧ Below w.heap.size w w' := by
  obtain ⟨hR, hrt, hfl, hrf, hin⟩ := iterC_ok hc
  obtain ⟨pl1, pl2, pl3, pl4⟩ := at_place hc
  have hTT := next_ref (bef := false) (sh := sh) hc
  obtain ⟨b, off, rfl, hFA⟩ := hF.at_ (by obtain ⟨i, hi, _⟩ := there_idx hrf; omega)
  have hr64 := (filterE_ok hfl).1
  have HC : Hid (∀ W : World, Below w.heap.size w W → _) := fun W hW => refICheck_any (some ⟨b, off, none⟩) cap ns root ref false sh ro rc rules W (hF.later hW) hkl hal (hru.later hW) hrl hs
  rw [hc] at HC
  have HAl : Hid (∀ W : World, Below w.heap.size w W → _) := fun W hW => refAll_any b off cap root ns W hR (hFA.later hW) hkl hrt
  have HAc : Hid (∀ (x : Int) (W : World), Below w.heap.size w W → thereB ns.length x = true → _) := fun x W hW hx => refAccepted_any b off cap ns root ref false sh ro rc rules x W hR (hFA.later hW) hx hs (hru.later hW) hr64
  obtain ⟨q, hq⟩ : ∃ q : Int → Bool, (fun y => verdictOf ns sh rules y == 1) = q := ⟨_, rfl⟩
  have HAc2 : Hid (∀ (x : Int) (W : World), Below w.heap.size w W → thereB ns.length x = true → Calls Tryz.prog 35 #[.agg #[.slice (some ⟨b, off, none⟩) ns.length cap], .agg #[.int .i64 root, .int .i64 ref, .bool false, .int .u32 (sh : Int), .slice ro rules.length rc], .int .i64 x] W fun e w' => e = .returned (.bool (q x)) ∧ Below W.heap.size W w') := fun x W hW hx => by rw [← hq]; exact HAc.out x W hW hx
  rw [hq] at hTT
  have hL : allD ns root = allA ns root := rfl
  rw [hL] at HAl
  obtain ⟨A, hA⟩ : ∃ A, atN ns root ref false = A := ⟨_, rfl⟩
  have hA2 : (A : Int) = ((aheadA ns root ref).length : Int) + 1 := by rw [← hA]; unfold atN; simp
  rw [hA] at hTT
  clear hA
  generalize nextT ns root ref false sh rules = T at *
  obtain ⟨RF, hRF⟩ : ∃ RF, (if T == 0 then ref else T) = RF := ⟨_, rfl⟩
  obtain ⟨BF, hBF⟩ : ∃ BF, (if T == 0 then false else false) = BF := ⟨_, rfl⟩
  rw [hRF, hBF]
  have HRF := hid hRF
  have HBF := hid hBF
  have HTT := hid hTT
  have Hpl4 := hid pl4
  have HA2 := hid hA2
  have Hpl1 := hid pl1
  clear hL pl1
  generalize aheadA ns root ref = AH at *
  generalize allA ns root = l at *
  have hA3 : A ≤ l.length := by omega
  have HPl : Hid (∀ (v : Value) (W : World), RdI W v l → _) := fun v W hv => refPlace_any v l ref W hv (by omega)
  rw [Hpl1.out] at HPl
  clear Hpl1
  obtain ⟨bx, g0, g1, g2, sx⟩ := three_new w (.cells #[.slice (some ⟨b, off, none⟩) ns.length cap] 24) (.cells #[.int .i64 root, .int .i64 ref, .bool false, .int .u32 (sh : Int), .slice ro rules.length rc] 30) (.cells #[.int .i64 0, .int .i64 0, .bool false, .int .u32 0, .slice none 0 0] 30)
  have HB0 := hid bx
  have H0 := hid g0
  have H1 := hid g1
  have H2 := hid g2
  have c0 := (box_cell_l g0).1
  obtain ⟨⟨i0, i1, i2, i3, i4⟩, _⟩ := box5I g1
  clear bx g0 g1 g2 sx hF hkl hal hru hc hq hRF hBF hTT pl4 HAc hR hrt hfl hrf hin hFA hr64 hA2
  go_enter Tryz.func14, Tryz.ntmps14
  go_upto_region 1 with fail
  generalize (((w.alloc (.cells #[.slice (some ⟨b, off, none⟩) ns.length cap] 24)).alloc (.cells #[.int .i64 root, .int .i64 ref, .bool false, .int .u32 (sh : Int), .slice ro rules.length rc] 30)).alloc (.cells #[.int .i64 0, .int .i64 0, .bool false, .int .u32 0, .slice none 0 0] 30)) = W0 at *
  go_wp2_with fail
  refine (HC.out _ HB0.out).mono ?_
  rintro e v1 ⟨rfl, hb⟩
  have J0 := hid (keep_blk hb H0.out)
  have J1 := hid (keep_blk hb H1.out)
  have J2 := hid (keep_blk hb H2.out)
  have d0 := (box_cell_l J0.out).1
  obtain ⟨⟨j0, j1, j2, j3, j4⟩, _⟩ := box5I J1.out
  have HB1 := hid (HB0.out.trans (hb.mono HB0.out.size))
  clear HC HB0 H0 H1 H2 hb c0 i0 i1 i2 i3 i4
  go_wp2_with fail
  refine (HAl.out _ HB1.out).mono ?_
  rintro e v2 ⟨v, rfl, hv, hb⟩
  have L0 := hid (keep_blk hb J0.out)
  have L1 := hid (keep_blk hb J1.out)
  have L2 := hid (keep_blk hb J2.out)
  obtain ⟨⟨k0, k1, k2, k3, k4⟩, _⟩ := box5I L1.out
  have HB2 := hid (HB1.out.trans (hb.mono HB1.out.size))
  have hPl := HPl.out v v2 hv
  obtain ⟨ov, cv, rfl, hcv, gv⟩ := hv
  have GV := hid gv
  clear HAl HB1 J0 J1 J2 hb d0 j0 j1 j2 j3 j4 gv HPl
  go_wp2_with fail
  refine hPl.mono ?_
  rintro e v3 ⟨rfl, rfl⟩
  clear hPl
  have hA2 := HA2.out
  have s1 : IntKind.i64.wrap ((AH.length : Int) + 1) = (AH.length : Int) + 1 := wrap_smallI _ (by omega) (by omega)
  have s2 : IntKind.i64.wrap ((AH.length : Int) - 1) = (AH.length : Int) - 1 := wrap_smallI _ (by omega) (by omega)
  clear hA2
  go_wp2
  clear s1 s2 k0 k1 k2 k3 k4
  go_loopw [9] (fun t wr => ∃ k : Nat, t = .int .i64 ((k : Int)) ∧ k ≤ l.length ∧ Hid (firstB q (l.drop k) = T) ∧ Hid (Below v3.heap.size v3 wr)) (fun t _ => l.length - (RowKit.intOf t).toNat)
  case atStart => exact ⟨A, by rw [show ((AH.length : Int) + 1) = (A : Int) from by have := HA2.out; omega], hA3, HTT, Below.refl _ _⟩
  case round =>
    obtain ⟨k, rfl, hkl, hFB, hBr⟩ := hrel
    clear HTT
    have M0 := hid (keep_blk hBr.out L0.out)
    have M1 := hid (keep_blk hBr.out L1.out)
    have M2 := hid (keep_blk hBr.out L2.out)
    have HB3 := hid (HB2.out.trans (hBr.out.mono HB2.out.size))
    by_cases hlt : k < l.length
    · obtain ⟨bv, offv, rfl, hltv, hav⟩ := GV.out (by omega)
      have x1 := (hBr.out.cell (p := ⟨bv, offv + k, none⟩) hltv).trans (hav (k) (by omega))
      have hmem : l[k]'(by omega) ∈ l := List.getElem_mem _
      have hth := Hpl4.out _ hmem
      have hfb := hFB.out
      rw [List.drop_eq_getElem_cons (by omega : k < l.length), firstB_cons] at hfb
      have hAc := HAc2.out (l[k]'(by omega)) wr
      generalize l[k]'(by omega) = y at *
      have HX1 := hid x1
      have Hth := hid hth
      have Hfb := hid hfb
      have HAC := hid hAc
      have p1 : (0 : Int) ≤ ((k : Int)) := by omega
      have p2 : ((k : Int)) < (l.length : Int) := by omega
      have p3 : ((k : Int)).toNat = k := by omega
      clear hfb hmem hav hFB x1 hth hAc
      go_upto_region 10 with fail
      have Hlv := hid hltv
      refine wp_region_held_drew (S := fun W => Below wr.heap.size wr W) (by kernel_rfl) (below_drew wr) (fun hHeld => ?_)
      have D0 := hid (below_drew wr)
      generalize wr.drew = X0 at *
      refine wpAnyH_one 0 36 (.agg #[.slice (some ⟨b, off, none⟩) ns.length cap]) hHeld rfl rfl (by kernel_rfl) (fun _ _ _ _ _ h => h) (by kernel_rfl) (by kernel_rfl) (by rfl) ?_ ?_
      · intro V hSw; (try dsimp only at hSw); have cf := (box_cell_l (keep_blk hSw M0.out)).1; go_simp
      simp only [Act.put, List.setIfInBounds_toArray, List.set_cons_zero, List.set_cons_succ]
      refine wpAnyH_one 1 37 (.agg #[.int .i64 root, .int .i64 ref, .bool false, .int .u32 (sh : Int), .slice ro rules.length rc]) hHeld rfl rfl (by kernel_rfl) (fun _ _ _ _ _ h => h) (by kernel_rfl) (by kernel_rfl) (by rfl) ?_ ?_
      · intro V hSw; (try dsimp only at hSw); have ci := box5I (keep_blk hSw M1.out); obtain ⟨⟨q0, q1, q2, q3, q4⟩, _⟩ := ci; go_simp
      simp only [Act.put, List.setIfInBounds_toArray, List.set_cons_zero, List.set_cons_succ]
      refine wpAnyH_one 2 38 (.slice (some ⟨bv, offv, none⟩) l.length cv) hHeld rfl rfl (by kernel_rfl) (fun _ _ _ _ _ h => h) (by kernel_rfl) (by kernel_rfl) (by rfl) ?_ ?_
      · intro V hSw; (try dsimp only at hSw); go_simp
      simp only [Act.put, List.setIfInBounds_toArray, List.set_cons_zero, List.set_cons_succ]
      refine wpAnyH_one 3 39 (.int .i64 ((k : Int))) hHeld rfl rfl (by kernel_rfl) (fun _ _ _ _ _ h => h) (by kernel_rfl) (by kernel_rfl) (by rfl) ?_ ?_
      · intro V hSw; (try dsimp only at hSw); go_simp
      simp only [Act.put, List.setIfInBounds_toArray, List.set_cons_zero, List.set_cons_succ]
      refine wpAnyH_one 4 40 (.pointer (some ⟨bv, offv + k, none⟩)) hHeld rfl rfl (by kernel_rfl) (fun _ _ _ _ _ h => h) (by kernel_rfl) (by kernel_rfl) (by rfl) ?_ ?_
      · intro V hSw; (try dsimp only at hSw); go_simp
      simp only [Act.put, List.setIfInBounds_toArray, List.set_cons_zero, List.set_cons_succ]
      refine wpAnyH_one 5 41 (.int .i64 y) hHeld rfl rfl (by kernel_rfl) (fun _ _ _ _ _ h => h) (by kernel_rfl) (by kernel_rfl) (by rfl) ?_ ?_
      · intro V hSw; (try dsimp only at hSw); have cx := (hSw.cell (p := ⟨bv, offv + k, none⟩) (Nat.lt_of_lt_of_le Hlv.out hBr.out.size)).trans HX1.out; go_simp
      simp only [Act.put, List.setIfInBounds_toArray, List.set_cons_zero, List.set_cons_succ]
      refine wpAnyH_ready (rs := [6]) (by kernel_rfl) (by simp) ?_
      refine AllReadyH.cons rfl (fun K hK => ?_) AllReadyH.nil
      go_simp
      go_wp2_with (go_at_call 35; refine (HAc2.out y X0 (HB3.out.trans (D0.out.mono HB3.out.size)) Hth.out).mono ?_; rintro e X1 ⟨rfl, hb⟩; have D1 := hid (D0.out.trans (hb.mono D0.out.size)))
      refine hK.out _ _ D1.out (fun hHeld => ?_)
      clear hK K hb hHeld
      refine wpAnyH_done (by kernel_rfl) ?_ _
      cases hqy : q y with
      | true =>
        have hT := Hfb.out
        rw [hqy, if_pos rfl] at hT
        subst hT
        have hy0 := there_ne Hth.out
        have hR2 := HRF.out
        have hB2 := HBF.out
        rw [bfalse hy0, if_neg Bool.false_ne_true] at hR2 hB2
        subst hR2
        subst hB2
        obtain ⟨⟨m0, m1, m2, m3, m4⟩, z0, z1, z2, z3, z4⟩ := box5I (keep_blk D1.out M1.out)
        have cx := (D1.out.cell (p := ⟨bv, offv + k, none⟩) (Nat.lt_of_lt_of_le Hlv.out hBr.out.size)).trans HX1.out
        have HB4 := hid (HB3.out.trans (D1.out.mono HB3.out.size))
        have O2 := hid (keep_blk D1.out M2.out)
        have O1 := hid (keep_blk D1.out M1.out)
        have hlw := heap_lt M2.out
        have hss := hBr.out.size
        have hd1 := D1.out.size
        have hrow := row_still (B := w.heap.size + 1) cx m2 false
        have hbox := box_two O1.out (.int .i64 y) (.bool false)
        have hres : ((X1.setCell ⟨w.heap.size + 1, 1, none⟩ (.int .i64 y)).setCell ⟨w.heap.size + 1, 2, none⟩ (.bool false)).heap[w.heap.size + 1 + 1]? = some _ := blk_far (j := 2) (blk_far (j := 1) O2.out (.int .i64 y) (by omega)) (.bool false) (by omega)
        have hbel : Below w.heap.size w ((X1.setCell ⟨w.heap.size + 1, 1, none⟩ (.int .i64 y)).setCell ⟨w.heap.size + 1, 2, none⟩ (.bool false)) := (HB4.out.setCell (p := ⟨w.heap.size + 1, 1, none⟩) (by show w.heap.size ≤ w.heap.size + 1; omega) _).setCell (p := ⟨w.heap.size + 1, 2, none⟩) (by show w.heap.size ≤ w.heap.size + 1; omega) _
        have hne := row_not_res hrow hres (there_ne Hth.out)
        have HROW := hid hrow
        have HBOX := hid hbox
        have HRES := hid hres
        have HBEL := hid hbel
        have HNE := hid hne
        clear hrow hbox hres hbel hne O1 O2 HB4 M0 M1 M2 Hfb HAC D0 hd1 hss hlw
        go_upto_region 13 with fail
        generalize ((X1.setCell ⟨w.heap.size + 1, 1, none⟩ (.int .i64 y)).setCell ⟨w.heap.size + 1, 2, none⟩ (.bool false)) = X3 at *
        clear m0 m1 m2 m3 m4 z0 z1 z2 z3 z4 cx
        refine wp_region_held_drew (S := fun W => W.heap[w.heap.size + 1]? = some (.cells #[.int .i64 root, .int .i64 y, .bool false, .int .u32 (sh : Int), .slice ro rules.length rc] 30) ∧ W.cell? ⟨bv, offv + k, none⟩ = some (.int .i64 y)) (by kernel_rfl) ⟨keep_blk (below_drew X3) HBOX.out, HROW.out⟩ (fun hHeld => ?_)
        have E0 := hid (HBEL.out.trans ((below_drew X3).mono HBEL.out.size))
        have E2 := hid (keep_blk (below_drew X3) HRES.out)
        generalize X3.drew = X4 at *
        refine wpAnyH_one 0 49 (.agg #[.int .i64 root, .int .i64 y, .bool false, .int .u32 (sh : Int), .slice ro rules.length rc]) hHeld rfl rfl (by kernel_rfl) (fun _ _ _ _ _ h => h) (by kernel_rfl) (by kernel_rfl) (by rfl) ?_ ?_
        · intro V hSw; (try dsimp only at hSw); have ci := box5I hSw.1; obtain ⟨⟨q0, q1, q2, q3, q4⟩, _⟩ := ci; go_simp
        simp only [Act.put, List.setIfInBounds_toArray, List.set_cons_zero, List.set_cons_succ]
        refine wpAnyH_one 1 50 (.slice (some ⟨bv, offv, none⟩) l.length cv) hHeld rfl rfl (by kernel_rfl) (fun _ _ _ _ _ h => h) (by kernel_rfl) (by kernel_rfl) (by rfl) ?_ ?_
        · intro V hSw; (try dsimp only at hSw); go_simp
        simp only [Act.put, List.setIfInBounds_toArray, List.set_cons_zero, List.set_cons_succ]
        refine wpAnyH_one 2 51 (.int .i64 ((k : Int))) hHeld rfl rfl (by kernel_rfl) (fun _ _ _ _ _ h => h) (by kernel_rfl) (by kernel_rfl) (by rfl) ?_ ?_
        · intro V hSw; (try dsimp only at hSw); go_simp
        simp only [Act.put, List.setIfInBounds_toArray, List.set_cons_zero, List.set_cons_succ]
        refine wpAnyH_one 3 52 (.pointer (some ⟨bv, offv + k, none⟩)) hHeld rfl rfl (by kernel_rfl) (fun _ _ _ _ _ h => h) (by kernel_rfl) (by kernel_rfl) (by rfl) ?_ ?_
        · intro V hSw; (try dsimp only at hSw); go_simp
        simp only [Act.put, List.setIfInBounds_toArray, List.set_cons_zero, List.set_cons_succ]
        refine wpAnyH_one 4 53 (.int .i64 y) hHeld rfl rfl (by kernel_rfl) (fun _ _ _ _ _ h => h) (by kernel_rfl) (by kernel_rfl) (by rfl) ?_ ?_
        · intro V hSw; (try dsimp only at hSw); have cx := hSw.2; go_simp
        simp only [Act.put, List.setIfInBounds_toArray, List.set_cons_zero, List.set_cons_succ]
        obtain ⟨⟨r0, r1, r2, r3, r4⟩, s0, s1, s2, s3, s4⟩ := box5I E2.out
        refine wpAnyH_ready (rs := [5]) (by kernel_rfl) (by simp) ?_
        refine AllReadyH.cons rfl (fun K hK => ?_) AllReadyH.nil
        go_simp
        refine hK.out _ _ ⟨(blk_far (j := 4) (blk_far (j := 3) (blk_far (j := 2) (blk_far (j := 1) (blk_far (j := 0) hHeld.1 _ (by omega)) _ (by omega)) _ (by omega)) _ (by omega)) _ (by omega)), cell_far5 hHeld.2 HNE.out _ _ _ _ _⟩ (fun hHeld => ?_)
        clear hK K
        refine wpAnyH_one 6 5 (.int .i64 y) hHeld rfl rfl (by kernel_rfl) (fun _ _ _ _ _ h => h) (by kernel_rfl) (by kernel_rfl) (by rfl) ?_ ?_
        · intro V hSw; (try dsimp only at hSw); go_simp
        simp only [Act.put, List.setIfInBounds_toArray, List.set_cons_zero, List.set_cons_succ]
        refine wpAnyH_one 7 6 (.int .i64 0) hHeld rfl rfl (by kernel_rfl) (fun _ _ _ _ _ h => h) (by kernel_rfl) (by kernel_rfl) (by rfl) ?_ ?_
        · intro V hSw; (try dsimp only at hSw); go_simp
        simp only [Act.put, List.setIfInBounds_toArray, List.set_cons_zero, List.set_cons_succ]
        refine wpAnyH_done (by kernel_rfl) ?_ _
        go_wp2_with fail
        exact bodyPost_ret (v := .tuple #[.agg #[.int .i64 root, .int .i64 y, .bool false, .int .u32 (sh : Int), .slice ro rules.length rc], .int .i64 y, .int .i64 0]) (by simp [results, Tryz.results14, go_sem, r0, r1, r2, r3, r4]) rfl ⟨rfl, (((((E0.out.setCell (p := ⟨w.heap.size + 1 + 1, 0, none⟩) (by show w.heap.size ≤ w.heap.size + 1 + 1; omega) _).setCell (p := ⟨w.heap.size + 1 + 1, 1, none⟩) (by show w.heap.size ≤ w.heap.size + 1 + 1; omega) _).setCell (p := ⟨w.heap.size + 1 + 1, 2, none⟩) (by show w.heap.size ≤ w.heap.size + 1 + 1; omega) _).setCell (p := ⟨w.heap.size + 1 + 1, 3, none⟩) (by show w.heap.size ≤ w.heap.size + 1 + 1; omega) _).setCell (p := ⟨w.heap.size + 1 + 1, 4, none⟩) (by show w.heap.size ≤ w.heap.size + 1 + 1; omega) _)⟩
      | false =>
        have hT := Hfb.out
        rw [hqy, if_neg Bool.false_ne_true] at hT
        have HT2 := hid hT
        have HB5 := hid (hBr.out.trans (D1.out.mono hBr.out.size))
        clear M0 M1 M2 HX1 Hth Hfb HAC hBr D0 D1 HB3
        go_wp2_with fail
        go_roundw
        case rel => exact ⟨k + 1, congrArg (Value.int .i64) (by omega), by omega, HT2, HB5⟩
        case measure => simp [RowKit.intOf]; omega
    · have hT : T = 0 := by
        rw [← hFB.out]
        rw [List.drop_of_length_le (by omega)]; rfl
      have hR2 := HRF.out
      have hB2 := HBF.out
      rw [btrue hT, if_pos rfl] at hR2 hB2
      subst hR2
      subst hB2
      have HT0 := hid hT
      obtain ⟨⟨m0, m1, m2, m3, m4⟩, _⟩ := box5I M1.out
      obtain ⟨⟨r0, r1, r2, r3, r4⟩, s0, s1, s2, s3, s4⟩ := box5I M2.out
      have dl : decide ((k : Int) < (l.length : Int)) = false := decide_eq_false (by omega)
      clear hFB hBr hT M0
      go_wp2
      exact bodyPost_ret (v := .tuple #[.agg #[.int .i64 root, .int .i64 ref, .bool false, .int .u32 (sh : Int), .slice ro rules.length rc], .int .i64 0, .int .i64 0]) (by simp [results, Tryz.results14, go_sem, r0, r1, r2, r3, r4]) rfl ⟨by rw [HT0.out], (((((HB3.out.setCell (p := ⟨w.heap.size + 1 + 1, 0, none⟩) (by show w.heap.size ≤ w.heap.size + 1 + 1; omega) _).setCell (p := ⟨w.heap.size + 1 + 1, 1, none⟩) (by show w.heap.size ≤ w.heap.size + 1 + 1; omega) _).setCell (p := ⟨w.heap.size + 1 + 1, 2, none⟩) (by show w.heap.size ≤ w.heap.size + 1 + 1; omega) _).setCell (p := ⟨w.heap.size + 1 + 1, 3, none⟩) (by show w.heap.size ≤ w.heap.size + 1 + 1; omega) _).setCell (p := ⟨w.heap.size + 1 + 1, 4, none⟩) (by show w.heap.size ≤ w.heap.size + 1 + 1; omega) _)⟩
theorem refINext_any (o : Option Addr) (cap : Nat) (ns : List NodeD) (root ref : Int) (bef : Bool) (sh : Nat) (ro : Option Addr) (rc : Nat) (rules : List RuleD) (w : World) (hF : FRd w o cap ns) (hkl : ∀ (i : Nat) (hi : i < ns.length), ns[i].kids.length ≤ 1099511627776) (hal : ∀ (i : Nat) (hi : i < ns.length), ns[i].attrs.length ≤ 1099511627776) (hru : RdR w (.slice ro rules.length rc) rules) (hrl : rules.length ≤ 1099511627776) (hs : sh < 4294967296) (hc : iterC ns root ref rules = 0) :
    Calls Tryz.prog 14 #[.agg #[.slice o ns.length cap], .agg #[.int .i64 root, .int .i64 ref, .bool bef, .int .u32 (sh : Int), .slice ro rules.length rc]] w fun e w' => e = .returned (.tuple #[.agg #[.int .i64 root, .int .i64 (if (nextT ns root ref bef sh rules) == 0 then ref else (nextT ns root ref bef sh rules)), .bool (if (nextT ns root ref bef sh rules) == 0 then bef else false), .int .u32 (sh : Int), .slice ro rules.length rc], .int .i64 (nextT ns root ref bef sh rules), .int .i64 0]) ∧ Below w.heap.size w w' := by
  cases bef with
  | true => exact refINextT_any o cap ns root ref sh ro rc rules w hF hkl hal hru hrl hs hc
  | false => exact refINextF_any o cap ns root ref sh ro rc rules w hF hkl hal hru hrl hs hc
set_option maxRecDepth 100000 in
set_option maxHeartbeats 16000000 in
theorem refIPrevE_any (o : Option Addr) (cap : Nat) (ns : List NodeD) (root ref : Int) (bef : Bool) (sh : Nat) (ro : Option Addr) (rc : Nat) (rules : List RuleD) (w : World) (hF : FRd w o cap ns) (hkl : ∀ (i : Nat) (hi : i < ns.length), ns[i].kids.length ≤ 1099511627776) (hal : ∀ (i : Nat) (hi : i < ns.length), ns[i].attrs.length ≤ 1099511627776) (hru : RdR w (.slice ro rules.length rc) rules) (hrl : rules.length ≤ 1099511627776) (hs : sh < 4294967296) (hc : iterC ns root ref rules ≠ 0) :
    Calls Tryz.prog 16 #[.agg #[.slice o ns.length cap], .agg #[.int .i64 root, .int .i64 ref, .bool bef, .int .u32 (sh : Int), .slice ro rules.length rc]] w fun e w' => e = .returned (.tuple #[.agg #[.int .i64 0, .int .i64 0, .bool false, .int .u32 0, .slice none 0 0], .int .i64 0, .int .i64 (iterC ns root ref rules)]) ∧ Below w.heap.size w w' := by
  have HC : Hid (∀ W : World, Below w.heap.size w W → _) := fun W hW => refICheck_any o cap ns root ref bef sh ro rc rules W (hF.later hW) hkl hal (hru.later hW) hrl hs
  obtain ⟨bx, g0, g1, g2, sx⟩ := three_new w (.cells #[.slice o ns.length cap] 24) (.cells #[.int .i64 root, .int .i64 ref, .bool bef, .int .u32 (sh : Int), .slice ro rules.length rc] 30) (.cells #[.int .i64 0, .int .i64 0, .bool false, .int .u32 0, .slice none 0 0] 30)
  have n0 : (iterC ns root ref rules != 0) = true := by rw [bne, beq_eq_false_iff_ne.2 hc]; rfl
  have HB0 := hid bx
  have H2 := hid g2
  have c0 := (box_cell_l g0).1
  obtain ⟨⟨i0, i1, i2, i3, i4⟩, _⟩ := box5I g1
  clear bx g0 g1 g2 sx hF hkl hal hru hc
  generalize iterC ns root ref rules = E at *
  go_enter Tryz.func16, Tryz.ntmps16
  go_upto_region 1 with fail
  generalize (((w.alloc (.cells #[.slice o ns.length cap] 24)).alloc (.cells #[.int .i64 root, .int .i64 ref, .bool bef, .int .u32 (sh : Int), .slice ro rules.length rc] 30)).alloc (.cells #[.int .i64 0, .int .i64 0, .bool false, .int .u32 0, .slice none 0 0] 30)) = W0 at *
  go_wp2_with fail
  refine (HC.out _ HB0.out).mono ?_
  rintro e v1 ⟨rfl, hb⟩
  obtain ⟨⟨r0, r1, r2, r3, r4⟩, s0, s1, s2, s3, s4⟩ := box5I (keep_blk hb H2.out)
  have HV := hid (HB0.out.trans (hb.mono HB0.out.size))
  clear HC HB0 H2 hb c0 i0 i1 i2 i3 i4
  go_wp2
  exact bodyPost_ret (v := .tuple #[.agg #[.int .i64 0, .int .i64 0, .bool false, .int .u32 0, .slice none 0 0], .int .i64 0, .int .i64 E]) (by simp [results, Tryz.results16, go_sem, r0, r1, r2, r3, r4]) rfl ⟨rfl, (((((HV.out.setCell (p := ⟨w.heap.size + 1 + 1, 0, none⟩) (by show w.heap.size ≤ w.heap.size + 1 + 1; omega) _).setCell (p := ⟨w.heap.size + 1 + 1, 1, none⟩) (by show w.heap.size ≤ w.heap.size + 1 + 1; omega) _).setCell (p := ⟨w.heap.size + 1 + 1, 2, none⟩) (by show w.heap.size ≤ w.heap.size + 1 + 1; omega) _).setCell (p := ⟨w.heap.size + 1 + 1, 3, none⟩) (by show w.heap.size ≤ w.heap.size + 1 + 1; omega) _).setCell (p := ⟨w.heap.size + 1 + 1, 4, none⟩) (by show w.heap.size ≤ w.heap.size + 1 + 1; omega) _)⟩
set_option maxRecDepth 100000 in
set_option maxHeartbeats 16000000 in
theorem refIPrevT_any (o : Option Addr) (cap : Nat) (ns : List NodeD) (root ref : Int) (sh : Nat) (ro : Option Addr) (rc : Nat) (rules : List RuleD) (w : World) (hF : FRd w o cap ns) (hkl : ∀ (i : Nat) (hi : i < ns.length), ns[i].kids.length ≤ 1099511627776) (hal : ∀ (i : Nat) (hi : i < ns.length), ns[i].attrs.length ≤ 1099511627776) (hru : RdR w (.slice ro rules.length rc) rules) (hrl : rules.length ≤ 1099511627776) (hs : sh < 4294967296) (hc : iterC ns root ref rules = 0) :
    Calls Tryz.prog 16 #[.agg #[.slice o ns.length cap], .agg #[.int .i64 root, .int .i64 ref, .bool true, .int .u32 (sh : Int), .slice ro rules.length rc]] w fun e w' => e = .returned (.tuple #[.agg #[.int .i64 root, .int .i64 (if (prevT ns root ref true sh rules) == 0 then ref else (prevT ns root ref true sh rules)), .bool (if (prevT ns root ref true sh rules) == 0 then true else true), .int .u32 (sh : Int), .slice ro rules.length rc], .int .i64 (prevT ns root ref true sh rules), .int .i64 0]) ∧ Below w.heap.size w w' := by
  obtain ⟨hR, hrt, hfl, hrf, hin⟩ := iterC_ok hc
  obtain ⟨pl1, pl2, pl3, pl4⟩ := at_place hc
  have hTT := prev_ref (bef := true) (sh := sh) hc
  obtain ⟨b, off, rfl, hFA⟩ := hF.at_ (by obtain ⟨i, hi, _⟩ := there_idx hrf; omega)
  have hr64 := (filterE_ok hfl).1
  have HC : Hid (∀ W : World, Below w.heap.size w W → _) := fun W hW => refICheck_any (some ⟨b, off, none⟩) cap ns root ref true sh ro rc rules W (hF.later hW) hkl hal (hru.later hW) hrl hs
  rw [hc] at HC
  have HAl : Hid (∀ W : World, Below w.heap.size w W → _) := fun W hW => refAll_any b off cap root ns W hR (hFA.later hW) hkl hrt
  have HAc : Hid (∀ (x : Int) (W : World), Below w.heap.size w W → thereB ns.length x = true → _) := fun x W hW hx => refAccepted_any b off cap ns root ref true sh ro rc rules x W hR (hFA.later hW) hx hs (hru.later hW) hr64
  obtain ⟨q, hq⟩ : ∃ q : Int → Bool, (fun y => verdictOf ns sh rules y == 1) = q := ⟨_, rfl⟩
  have HAc2 : Hid (∀ (x : Int) (W : World), Below w.heap.size w W → thereB ns.length x = true → Calls Tryz.prog 35 #[.agg #[.slice (some ⟨b, off, none⟩) ns.length cap], .agg #[.int .i64 root, .int .i64 ref, .bool true, .int .u32 (sh : Int), .slice ro rules.length rc], .int .i64 x] W fun e w' => e = .returned (.bool (q x)) ∧ Below W.heap.size W w') := fun x W hW hx => by rw [← hq]; exact HAc.out x W hW hx
  rw [hq] at hTT
  have hL : allD ns root = allA ns root := rfl
  rw [hL] at HAl
  obtain ⟨A, hA⟩ : ∃ A, atN ns root ref true = A := ⟨_, rfl⟩
  have hA2 : (A : Int) = ((aheadA ns root ref).length : Int) + 0 := by rw [← hA]; unfold atN; simp
  rw [hA] at hTT
  clear hA
  generalize prevT ns root ref true sh rules = T at *
  obtain ⟨RF, hRF⟩ : ∃ RF, (if T == 0 then ref else T) = RF := ⟨_, rfl⟩
  obtain ⟨BF, hBF⟩ : ∃ BF, (if T == 0 then true else true) = BF := ⟨_, rfl⟩
  rw [hRF, hBF]
  have HRF := hid hRF
  have HBF := hid hBF
  have HTT := hid hTT
  have Hpl4 := hid pl4
  have HA2 := hid hA2
  have Hpl1 := hid pl1
  clear hL pl1
  generalize aheadA ns root ref = AH at *
  generalize allA ns root = l at *
  have hA3 : A ≤ l.length := by omega
  have HPl : Hid (∀ (v : Value) (W : World), RdI W v l → _) := fun v W hv => refPlace_any v l ref W hv (by omega)
  rw [Hpl1.out] at HPl
  clear Hpl1
  obtain ⟨bx, g0, g1, g2, sx⟩ := three_new w (.cells #[.slice (some ⟨b, off, none⟩) ns.length cap] 24) (.cells #[.int .i64 root, .int .i64 ref, .bool true, .int .u32 (sh : Int), .slice ro rules.length rc] 30) (.cells #[.int .i64 0, .int .i64 0, .bool false, .int .u32 0, .slice none 0 0] 30)
  have HB0 := hid bx
  have H0 := hid g0
  have H1 := hid g1
  have H2 := hid g2
  have c0 := (box_cell_l g0).1
  obtain ⟨⟨i0, i1, i2, i3, i4⟩, _⟩ := box5I g1
  clear bx g0 g1 g2 sx hF hkl hal hru hc hq hRF hBF hTT pl4 HAc hR hrt hfl hrf hin hFA hr64 hA2
  go_enter Tryz.func16, Tryz.ntmps16
  go_upto_region 1 with fail
  generalize (((w.alloc (.cells #[.slice (some ⟨b, off, none⟩) ns.length cap] 24)).alloc (.cells #[.int .i64 root, .int .i64 ref, .bool true, .int .u32 (sh : Int), .slice ro rules.length rc] 30)).alloc (.cells #[.int .i64 0, .int .i64 0, .bool false, .int .u32 0, .slice none 0 0] 30)) = W0 at *
  go_wp2_with fail
  refine (HC.out _ HB0.out).mono ?_
  rintro e v1 ⟨rfl, hb⟩
  have J0 := hid (keep_blk hb H0.out)
  have J1 := hid (keep_blk hb H1.out)
  have J2 := hid (keep_blk hb H2.out)
  have d0 := (box_cell_l J0.out).1
  obtain ⟨⟨j0, j1, j2, j3, j4⟩, _⟩ := box5I J1.out
  have HB1 := hid (HB0.out.trans (hb.mono HB0.out.size))
  clear HC HB0 H0 H1 H2 hb c0 i0 i1 i2 i3 i4
  go_wp2_with fail
  refine (HAl.out _ HB1.out).mono ?_
  rintro e v2 ⟨v, rfl, hv, hb⟩
  have L0 := hid (keep_blk hb J0.out)
  have L1 := hid (keep_blk hb J1.out)
  have L2 := hid (keep_blk hb J2.out)
  obtain ⟨⟨k0, k1, k2, k3, k4⟩, _⟩ := box5I L1.out
  have HB2 := hid (HB1.out.trans (hb.mono HB1.out.size))
  have hPl := HPl.out v v2 hv
  obtain ⟨ov, cv, rfl, hcv, gv⟩ := hv
  have GV := hid gv
  clear HAl HB1 J0 J1 J2 hb d0 j0 j1 j2 j3 j4 gv HPl
  go_wp2_with fail
  refine hPl.mono ?_
  rintro e v3 ⟨rfl, rfl⟩
  clear hPl
  have hA2 := HA2.out
  have s1 : IntKind.i64.wrap ((AH.length : Int) + 1) = (AH.length : Int) + 1 := wrap_smallI _ (by omega) (by omega)
  have s2 : IntKind.i64.wrap ((AH.length : Int) - 1) = (AH.length : Int) - 1 := wrap_smallI _ (by omega) (by omega)
  clear hA2
  go_wp2
  clear s1 s2 k0 k1 k2 k3 k4
  go_loopw [9] (fun t wr => ∃ k : Nat, t = .int .i64 ((k : Int) - 1) ∧ k ≤ l.length ∧ Hid (firstB q (l.take k).reverse = T) ∧ Hid (Below v3.heap.size v3 wr)) (fun t _ => (RowKit.intOf t + 1).toNat)
  case atStart => exact ⟨A, by rw [show ((AH.length : Int) - 1) = (A : Int) - 1 from by have := HA2.out; omega], hA3, HTT, Below.refl _ _⟩
  case round =>
    obtain ⟨k, rfl, hkl, hFB, hBr⟩ := hrel
    clear HTT
    have M0 := hid (keep_blk hBr.out L0.out)
    have M1 := hid (keep_blk hBr.out L1.out)
    have M2 := hid (keep_blk hBr.out L2.out)
    have HB3 := hid (HB2.out.trans (hBr.out.mono HB2.out.size))
    by_cases hlt : 0 < k
    · obtain ⟨bv, offv, rfl, hltv, hav⟩ := GV.out (by omega)
      have x1 := (hBr.out.cell (p := ⟨bv, offv + (k - 1), none⟩) hltv).trans (hav ((k - 1)) (by omega))
      have hmem : l[(k - 1)]'(by omega) ∈ l := List.getElem_mem _
      have hth := Hpl4.out _ hmem
      have hfb := hFB.out
      rw [take_last (by omega : k - 1 < l.length) (by omega : k = k - 1 + 1), firstB_cons] at hfb
      have hAc := HAc2.out (l[(k - 1)]'(by omega)) wr
      generalize l[(k - 1)]'(by omega) = y at *
      have HX1 := hid x1
      have Hth := hid hth
      have Hfb := hid hfb
      have HAC := hid hAc
      have p1 : (0 : Int) ≤ ((k : Int) - 1) := by omega
      have p2 : ((k : Int) - 1) < (l.length : Int) := by omega
      have p3 : ((k : Int) - 1).toNat = (k - 1) := by omega
      clear hfb hmem hav hFB x1 hth hAc
      go_upto_region 10 with fail
      have Hlv := hid hltv
      refine wp_region_held_drew (S := fun W => Below wr.heap.size wr W) (by kernel_rfl) (below_drew wr) (fun hHeld => ?_)
      have D0 := hid (below_drew wr)
      generalize wr.drew = X0 at *
      refine wpAnyH_one 0 33 (.agg #[.slice (some ⟨b, off, none⟩) ns.length cap]) hHeld rfl rfl (by kernel_rfl) (fun _ _ _ _ _ h => h) (by kernel_rfl) (by kernel_rfl) (by rfl) ?_ ?_
      · intro V hSw; (try dsimp only at hSw); have cf := (box_cell_l (keep_blk hSw M0.out)).1; go_simp
      simp only [Act.put, List.setIfInBounds_toArray, List.set_cons_zero, List.set_cons_succ]
      refine wpAnyH_one 1 34 (.agg #[.int .i64 root, .int .i64 ref, .bool true, .int .u32 (sh : Int), .slice ro rules.length rc]) hHeld rfl rfl (by kernel_rfl) (fun _ _ _ _ _ h => h) (by kernel_rfl) (by kernel_rfl) (by rfl) ?_ ?_
      · intro V hSw; (try dsimp only at hSw); have ci := box5I (keep_blk hSw M1.out); obtain ⟨⟨q0, q1, q2, q3, q4⟩, _⟩ := ci; go_simp
      simp only [Act.put, List.setIfInBounds_toArray, List.set_cons_zero, List.set_cons_succ]
      refine wpAnyH_one 2 35 (.slice (some ⟨bv, offv, none⟩) l.length cv) hHeld rfl rfl (by kernel_rfl) (fun _ _ _ _ _ h => h) (by kernel_rfl) (by kernel_rfl) (by rfl) ?_ ?_
      · intro V hSw; (try dsimp only at hSw); go_simp
      simp only [Act.put, List.setIfInBounds_toArray, List.set_cons_zero, List.set_cons_succ]
      refine wpAnyH_one 3 36 (.int .i64 ((k : Int) - 1)) hHeld rfl rfl (by kernel_rfl) (fun _ _ _ _ _ h => h) (by kernel_rfl) (by kernel_rfl) (by rfl) ?_ ?_
      · intro V hSw; (try dsimp only at hSw); go_simp
      simp only [Act.put, List.setIfInBounds_toArray, List.set_cons_zero, List.set_cons_succ]
      refine wpAnyH_one 4 37 (.pointer (some ⟨bv, offv + (k - 1), none⟩)) hHeld rfl rfl (by kernel_rfl) (fun _ _ _ _ _ h => h) (by kernel_rfl) (by kernel_rfl) (by rfl) ?_ ?_
      · intro V hSw; (try dsimp only at hSw); go_simp
      simp only [Act.put, List.setIfInBounds_toArray, List.set_cons_zero, List.set_cons_succ]
      refine wpAnyH_one 5 38 (.int .i64 y) hHeld rfl rfl (by kernel_rfl) (fun _ _ _ _ _ h => h) (by kernel_rfl) (by kernel_rfl) (by rfl) ?_ ?_
      · intro V hSw; (try dsimp only at hSw); have cx := (hSw.cell (p := ⟨bv, offv + (k - 1), none⟩) (Nat.lt_of_lt_of_le Hlv.out hBr.out.size)).trans HX1.out; go_simp
      simp only [Act.put, List.setIfInBounds_toArray, List.set_cons_zero, List.set_cons_succ]
      refine wpAnyH_ready (rs := [6]) (by kernel_rfl) (by simp) ?_
      refine AllReadyH.cons rfl (fun K hK => ?_) AllReadyH.nil
      go_simp
      go_wp2_with (go_at_call 35; refine (HAc2.out y X0 (HB3.out.trans (D0.out.mono HB3.out.size)) Hth.out).mono ?_; rintro e X1 ⟨rfl, hb⟩; have D1 := hid (D0.out.trans (hb.mono D0.out.size)))
      refine hK.out _ _ D1.out (fun hHeld => ?_)
      clear hK K hb hHeld
      refine wpAnyH_done (by kernel_rfl) ?_ _
      cases hqy : q y with
      | true =>
        have hT := Hfb.out
        rw [hqy, if_pos rfl] at hT
        subst hT
        have hy0 := there_ne Hth.out
        have hR2 := HRF.out
        have hB2 := HBF.out
        rw [bfalse hy0, if_neg Bool.false_ne_true] at hR2 hB2
        subst hR2
        subst hB2
        obtain ⟨⟨m0, m1, m2, m3, m4⟩, z0, z1, z2, z3, z4⟩ := box5I (keep_blk D1.out M1.out)
        have cx := (D1.out.cell (p := ⟨bv, offv + (k - 1), none⟩) (Nat.lt_of_lt_of_le Hlv.out hBr.out.size)).trans HX1.out
        have HB4 := hid (HB3.out.trans (D1.out.mono HB3.out.size))
        have O2 := hid (keep_blk D1.out M2.out)
        have O1 := hid (keep_blk D1.out M1.out)
        have hlw := heap_lt M2.out
        have hss := hBr.out.size
        have hd1 := D1.out.size
        have hrow := row_still (B := w.heap.size + 1) cx m2 true
        have hbox := box_two O1.out (.int .i64 y) (.bool true)
        have hres : ((X1.setCell ⟨w.heap.size + 1, 1, none⟩ (.int .i64 y)).setCell ⟨w.heap.size + 1, 2, none⟩ (.bool true)).heap[w.heap.size + 1 + 1]? = some _ := blk_far (j := 2) (blk_far (j := 1) O2.out (.int .i64 y) (by omega)) (.bool true) (by omega)
        have hbel : Below w.heap.size w ((X1.setCell ⟨w.heap.size + 1, 1, none⟩ (.int .i64 y)).setCell ⟨w.heap.size + 1, 2, none⟩ (.bool true)) := (HB4.out.setCell (p := ⟨w.heap.size + 1, 1, none⟩) (by show w.heap.size ≤ w.heap.size + 1; omega) _).setCell (p := ⟨w.heap.size + 1, 2, none⟩) (by show w.heap.size ≤ w.heap.size + 1; omega) _
        have hne := row_not_res hrow hres (there_ne Hth.out)
        have HROW := hid hrow
        have HBOX := hid hbox
        have HRES := hid hres
        have HBEL := hid hbel
        have HNE := hid hne
        clear hrow hbox hres hbel hne O1 O2 HB4 M0 M1 M2 Hfb HAC D0 hd1 hss hlw
        go_upto_region 13 with fail
        generalize ((X1.setCell ⟨w.heap.size + 1, 1, none⟩ (.int .i64 y)).setCell ⟨w.heap.size + 1, 2, none⟩ (.bool true)) = X3 at *
        clear m0 m1 m2 m3 m4 z0 z1 z2 z3 z4 cx
        refine wp_region_held_drew (S := fun W => W.heap[w.heap.size + 1]? = some (.cells #[.int .i64 root, .int .i64 y, .bool true, .int .u32 (sh : Int), .slice ro rules.length rc] 30) ∧ W.cell? ⟨bv, offv + (k - 1), none⟩ = some (.int .i64 y)) (by kernel_rfl) ⟨keep_blk (below_drew X3) HBOX.out, HROW.out⟩ (fun hHeld => ?_)
        have E0 := hid (HBEL.out.trans ((below_drew X3).mono HBEL.out.size))
        have E2 := hid (keep_blk (below_drew X3) HRES.out)
        generalize X3.drew = X4 at *
        refine wpAnyH_one 0 46 (.agg #[.int .i64 root, .int .i64 y, .bool true, .int .u32 (sh : Int), .slice ro rules.length rc]) hHeld rfl rfl (by kernel_rfl) (fun _ _ _ _ _ h => h) (by kernel_rfl) (by kernel_rfl) (by rfl) ?_ ?_
        · intro V hSw; (try dsimp only at hSw); have ci := box5I hSw.1; obtain ⟨⟨q0, q1, q2, q3, q4⟩, _⟩ := ci; go_simp
        simp only [Act.put, List.setIfInBounds_toArray, List.set_cons_zero, List.set_cons_succ]
        refine wpAnyH_one 1 47 (.slice (some ⟨bv, offv, none⟩) l.length cv) hHeld rfl rfl (by kernel_rfl) (fun _ _ _ _ _ h => h) (by kernel_rfl) (by kernel_rfl) (by rfl) ?_ ?_
        · intro V hSw; (try dsimp only at hSw); go_simp
        simp only [Act.put, List.setIfInBounds_toArray, List.set_cons_zero, List.set_cons_succ]
        refine wpAnyH_one 2 48 (.int .i64 ((k : Int) - 1)) hHeld rfl rfl (by kernel_rfl) (fun _ _ _ _ _ h => h) (by kernel_rfl) (by kernel_rfl) (by rfl) ?_ ?_
        · intro V hSw; (try dsimp only at hSw); go_simp
        simp only [Act.put, List.setIfInBounds_toArray, List.set_cons_zero, List.set_cons_succ]
        refine wpAnyH_one 3 49 (.pointer (some ⟨bv, offv + (k - 1), none⟩)) hHeld rfl rfl (by kernel_rfl) (fun _ _ _ _ _ h => h) (by kernel_rfl) (by kernel_rfl) (by rfl) ?_ ?_
        · intro V hSw; (try dsimp only at hSw); go_simp
        simp only [Act.put, List.setIfInBounds_toArray, List.set_cons_zero, List.set_cons_succ]
        refine wpAnyH_one 4 50 (.int .i64 y) hHeld rfl rfl (by kernel_rfl) (fun _ _ _ _ _ h => h) (by kernel_rfl) (by kernel_rfl) (by rfl) ?_ ?_
        · intro V hSw; (try dsimp only at hSw); have cx := hSw.2; go_simp
        simp only [Act.put, List.setIfInBounds_toArray, List.set_cons_zero, List.set_cons_succ]
        obtain ⟨⟨r0, r1, r2, r3, r4⟩, s0, s1, s2, s3, s4⟩ := box5I E2.out
        refine wpAnyH_ready (rs := [5]) (by kernel_rfl) (by simp) ?_
        refine AllReadyH.cons rfl (fun K hK => ?_) AllReadyH.nil
        go_simp
        refine hK.out _ _ ⟨(blk_far (j := 4) (blk_far (j := 3) (blk_far (j := 2) (blk_far (j := 1) (blk_far (j := 0) hHeld.1 _ (by omega)) _ (by omega)) _ (by omega)) _ (by omega)) _ (by omega)), cell_far5 hHeld.2 HNE.out _ _ _ _ _⟩ (fun hHeld => ?_)
        clear hK K
        refine wpAnyH_one 6 5 (.int .i64 y) hHeld rfl rfl (by kernel_rfl) (fun _ _ _ _ _ h => h) (by kernel_rfl) (by kernel_rfl) (by rfl) ?_ ?_
        · intro V hSw; (try dsimp only at hSw); go_simp
        simp only [Act.put, List.setIfInBounds_toArray, List.set_cons_zero, List.set_cons_succ]
        refine wpAnyH_one 7 6 (.int .i64 0) hHeld rfl rfl (by kernel_rfl) (fun _ _ _ _ _ h => h) (by kernel_rfl) (by kernel_rfl) (by rfl) ?_ ?_
        · intro V hSw; (try dsimp only at hSw); go_simp
        simp only [Act.put, List.setIfInBounds_toArray, List.set_cons_zero, List.set_cons_succ]
        refine wpAnyH_done (by kernel_rfl) ?_ _
        go_wp2_with fail
        exact bodyPost_ret (v := .tuple #[.agg #[.int .i64 root, .int .i64 y, .bool true, .int .u32 (sh : Int), .slice ro rules.length rc], .int .i64 y, .int .i64 0]) (by simp [results, Tryz.results16, go_sem, r0, r1, r2, r3, r4]) rfl ⟨rfl, (((((E0.out.setCell (p := ⟨w.heap.size + 1 + 1, 0, none⟩) (by show w.heap.size ≤ w.heap.size + 1 + 1; omega) _).setCell (p := ⟨w.heap.size + 1 + 1, 1, none⟩) (by show w.heap.size ≤ w.heap.size + 1 + 1; omega) _).setCell (p := ⟨w.heap.size + 1 + 1, 2, none⟩) (by show w.heap.size ≤ w.heap.size + 1 + 1; omega) _).setCell (p := ⟨w.heap.size + 1 + 1, 3, none⟩) (by show w.heap.size ≤ w.heap.size + 1 + 1; omega) _).setCell (p := ⟨w.heap.size + 1 + 1, 4, none⟩) (by show w.heap.size ≤ w.heap.size + 1 + 1; omega) _)⟩
      | false =>
        have hT := Hfb.out
        rw [hqy, if_neg Bool.false_ne_true] at hT
        have HT2 := hid hT
        have HB5 := hid (hBr.out.trans (D1.out.mono hBr.out.size))
        clear M0 M1 M2 HX1 Hth Hfb HAC hBr D0 D1 HB3
        go_wp2_with fail
        go_roundw
        case rel => exact ⟨k - 1, congrArg (Value.int .i64) (by omega), by omega, HT2, HB5⟩
        case measure => simp [RowKit.intOf]; omega
    · have hT : T = 0 := by
        rw [← hFB.out]
        rw [show k = 0 by omega]; rfl
      have hR2 := HRF.out
      have hB2 := HBF.out
      rw [btrue hT, if_pos rfl] at hR2 hB2
      subst hR2
      subst hB2
      have HT0 := hid hT
      obtain ⟨⟨m0, m1, m2, m3, m4⟩, _⟩ := box5I M1.out
      obtain ⟨⟨r0, r1, r2, r3, r4⟩, s0, s1, s2, s3, s4⟩ := box5I M2.out
      have dl : decide (((k : Int) - 1) ≥ (0 : Int)) = false := decide_eq_false (by omega)
      clear hFB hBr hT M0
      go_wp2
      exact bodyPost_ret (v := .tuple #[.agg #[.int .i64 root, .int .i64 ref, .bool true, .int .u32 (sh : Int), .slice ro rules.length rc], .int .i64 0, .int .i64 0]) (by simp [results, Tryz.results16, go_sem, r0, r1, r2, r3, r4]) rfl ⟨by rw [HT0.out], (((((HB3.out.setCell (p := ⟨w.heap.size + 1 + 1, 0, none⟩) (by show w.heap.size ≤ w.heap.size + 1 + 1; omega) _).setCell (p := ⟨w.heap.size + 1 + 1, 1, none⟩) (by show w.heap.size ≤ w.heap.size + 1 + 1; omega) _).setCell (p := ⟨w.heap.size + 1 + 1, 2, none⟩) (by show w.heap.size ≤ w.heap.size + 1 + 1; omega) _).setCell (p := ⟨w.heap.size + 1 + 1, 3, none⟩) (by show w.heap.size ≤ w.heap.size + 1 + 1; omega) _).setCell (p := ⟨w.heap.size + 1 + 1, 4, none⟩) (by show w.heap.size ≤ w.heap.size + 1 + 1; omega) _)⟩
set_option maxRecDepth 100000 in
set_option maxHeartbeats 16000000 in
theorem refIPrevF_any (o : Option Addr) (cap : Nat) (ns : List NodeD) (root ref : Int) (sh : Nat) (ro : Option Addr) (rc : Nat) (rules : List RuleD) (w : World) (hF : FRd w o cap ns) (hkl : ∀ (i : Nat) (hi : i < ns.length), ns[i].kids.length ≤ 1099511627776) (hal : ∀ (i : Nat) (hi : i < ns.length), ns[i].attrs.length ≤ 1099511627776) (hru : RdR w (.slice ro rules.length rc) rules) (hrl : rules.length ≤ 1099511627776) (hs : sh < 4294967296) (hc : iterC ns root ref rules = 0) :
    Calls Tryz.prog 16 #[.agg #[.slice o ns.length cap], .agg #[.int .i64 root, .int .i64 ref, .bool false, .int .u32 (sh : Int), .slice ro rules.length rc]] w fun e w' => e = .returned (.tuple #[.agg #[.int .i64 root, .int .i64 (if (prevT ns root ref false sh rules) == 0 then ref else (prevT ns root ref false sh rules)), .bool (if (prevT ns root ref false sh rules) == 0 then false else true), .int .u32 (sh : Int), .slice ro rules.length rc], .int .i64 (prevT ns root ref false sh rules), .int .i64 0]) ∧ Below w.heap.size w w' := by
  obtain ⟨hR, hrt, hfl, hrf, hin⟩ := iterC_ok hc
  obtain ⟨pl1, pl2, pl3, pl4⟩ := at_place hc
  have hTT := prev_ref (bef := false) (sh := sh) hc
  obtain ⟨b, off, rfl, hFA⟩ := hF.at_ (by obtain ⟨i, hi, _⟩ := there_idx hrf; omega)
  have hr64 := (filterE_ok hfl).1
  have HC : Hid (∀ W : World, Below w.heap.size w W → _) := fun W hW => refICheck_any (some ⟨b, off, none⟩) cap ns root ref false sh ro rc rules W (hF.later hW) hkl hal (hru.later hW) hrl hs
  rw [hc] at HC
  have HAl : Hid (∀ W : World, Below w.heap.size w W → _) := fun W hW => refAll_any b off cap root ns W hR (hFA.later hW) hkl hrt
  have HAc : Hid (∀ (x : Int) (W : World), Below w.heap.size w W → thereB ns.length x = true → _) := fun x W hW hx => refAccepted_any b off cap ns root ref false sh ro rc rules x W hR (hFA.later hW) hx hs (hru.later hW) hr64
  obtain ⟨q, hq⟩ : ∃ q : Int → Bool, (fun y => verdictOf ns sh rules y == 1) = q := ⟨_, rfl⟩
  have HAc2 : Hid (∀ (x : Int) (W : World), Below w.heap.size w W → thereB ns.length x = true → Calls Tryz.prog 35 #[.agg #[.slice (some ⟨b, off, none⟩) ns.length cap], .agg #[.int .i64 root, .int .i64 ref, .bool false, .int .u32 (sh : Int), .slice ro rules.length rc], .int .i64 x] W fun e w' => e = .returned (.bool (q x)) ∧ Below W.heap.size W w') := fun x W hW hx => by rw [← hq]; exact HAc.out x W hW hx
  rw [hq] at hTT
  have hL : allD ns root = allA ns root := rfl
  rw [hL] at HAl
  obtain ⟨A, hA⟩ : ∃ A, atN ns root ref false = A := ⟨_, rfl⟩
  have hA2 : (A : Int) = ((aheadA ns root ref).length : Int) + 1 := by rw [← hA]; unfold atN; simp
  rw [hA] at hTT
  clear hA
  generalize prevT ns root ref false sh rules = T at *
  obtain ⟨RF, hRF⟩ : ∃ RF, (if T == 0 then ref else T) = RF := ⟨_, rfl⟩
  obtain ⟨BF, hBF⟩ : ∃ BF, (if T == 0 then false else true) = BF := ⟨_, rfl⟩
  rw [hRF, hBF]
  have HRF := hid hRF
  have HBF := hid hBF
  have HTT := hid hTT
  have Hpl4 := hid pl4
  have HA2 := hid hA2
  have Hpl1 := hid pl1
  clear hL pl1
  generalize aheadA ns root ref = AH at *
  generalize allA ns root = l at *
  have hA3 : A ≤ l.length := by omega
  have HPl : Hid (∀ (v : Value) (W : World), RdI W v l → _) := fun v W hv => refPlace_any v l ref W hv (by omega)
  rw [Hpl1.out] at HPl
  clear Hpl1
  obtain ⟨bx, g0, g1, g2, sx⟩ := three_new w (.cells #[.slice (some ⟨b, off, none⟩) ns.length cap] 24) (.cells #[.int .i64 root, .int .i64 ref, .bool false, .int .u32 (sh : Int), .slice ro rules.length rc] 30) (.cells #[.int .i64 0, .int .i64 0, .bool false, .int .u32 0, .slice none 0 0] 30)
  have HB0 := hid bx
  have H0 := hid g0
  have H1 := hid g1
  have H2 := hid g2
  have c0 := (box_cell_l g0).1
  obtain ⟨⟨i0, i1, i2, i3, i4⟩, _⟩ := box5I g1
  clear bx g0 g1 g2 sx hF hkl hal hru hc hq hRF hBF hTT pl4 HAc hR hrt hfl hrf hin hFA hr64 hA2
  go_enter Tryz.func16, Tryz.ntmps16
  go_upto_region 1 with fail
  generalize (((w.alloc (.cells #[.slice (some ⟨b, off, none⟩) ns.length cap] 24)).alloc (.cells #[.int .i64 root, .int .i64 ref, .bool false, .int .u32 (sh : Int), .slice ro rules.length rc] 30)).alloc (.cells #[.int .i64 0, .int .i64 0, .bool false, .int .u32 0, .slice none 0 0] 30)) = W0 at *
  go_wp2_with fail
  refine (HC.out _ HB0.out).mono ?_
  rintro e v1 ⟨rfl, hb⟩
  have J0 := hid (keep_blk hb H0.out)
  have J1 := hid (keep_blk hb H1.out)
  have J2 := hid (keep_blk hb H2.out)
  have d0 := (box_cell_l J0.out).1
  obtain ⟨⟨j0, j1, j2, j3, j4⟩, _⟩ := box5I J1.out
  have HB1 := hid (HB0.out.trans (hb.mono HB0.out.size))
  clear HC HB0 H0 H1 H2 hb c0 i0 i1 i2 i3 i4
  go_wp2_with fail
  refine (HAl.out _ HB1.out).mono ?_
  rintro e v2 ⟨v, rfl, hv, hb⟩
  have L0 := hid (keep_blk hb J0.out)
  have L1 := hid (keep_blk hb J1.out)
  have L2 := hid (keep_blk hb J2.out)
  obtain ⟨⟨k0, k1, k2, k3, k4⟩, _⟩ := box5I L1.out
  have HB2 := hid (HB1.out.trans (hb.mono HB1.out.size))
  have hPl := HPl.out v v2 hv
  obtain ⟨ov, cv, rfl, hcv, gv⟩ := hv
  have GV := hid gv
  clear HAl HB1 J0 J1 J2 hb d0 j0 j1 j2 j3 j4 gv HPl
  go_wp2_with fail
  refine hPl.mono ?_
  rintro e v3 ⟨rfl, rfl⟩
  clear hPl
  have hA2 := HA2.out
  have s1 : IntKind.i64.wrap ((AH.length : Int) + 1) = (AH.length : Int) + 1 := wrap_smallI _ (by omega) (by omega)
  have s2 : IntKind.i64.wrap ((AH.length : Int) - 1) = (AH.length : Int) - 1 := wrap_smallI _ (by omega) (by omega)
  clear hA2
  go_wp2
  clear s1 s2 k0 k1 k2 k3 k4
  go_loopw [9] (fun t wr => ∃ k : Nat, t = .int .i64 ((k : Int) - 1) ∧ k ≤ l.length ∧ Hid (firstB q (l.take k).reverse = T) ∧ Hid (Below v3.heap.size v3 wr)) (fun t _ => (RowKit.intOf t + 1).toNat)
  case atStart => exact ⟨A, by rw [show ((AH.length : Int)) = (A : Int) - 1 from by have := HA2.out; omega], hA3, HTT, Below.refl _ _⟩
  case round =>
    obtain ⟨k, rfl, hkl, hFB, hBr⟩ := hrel
    clear HTT
    have M0 := hid (keep_blk hBr.out L0.out)
    have M1 := hid (keep_blk hBr.out L1.out)
    have M2 := hid (keep_blk hBr.out L2.out)
    have HB3 := hid (HB2.out.trans (hBr.out.mono HB2.out.size))
    by_cases hlt : 0 < k
    · obtain ⟨bv, offv, rfl, hltv, hav⟩ := GV.out (by omega)
      have x1 := (hBr.out.cell (p := ⟨bv, offv + (k - 1), none⟩) hltv).trans (hav ((k - 1)) (by omega))
      have hmem : l[(k - 1)]'(by omega) ∈ l := List.getElem_mem _
      have hth := Hpl4.out _ hmem
      have hfb := hFB.out
      rw [take_last (by omega : k - 1 < l.length) (by omega : k = k - 1 + 1), firstB_cons] at hfb
      have hAc := HAc2.out (l[(k - 1)]'(by omega)) wr
      generalize l[(k - 1)]'(by omega) = y at *
      have HX1 := hid x1
      have Hth := hid hth
      have Hfb := hid hfb
      have HAC := hid hAc
      have p1 : (0 : Int) ≤ ((k : Int) - 1) := by omega
      have p2 : ((k : Int) - 1) < (l.length : Int) := by omega
      have p3 : ((k : Int) - 1).toNat = (k - 1) := by omega
      clear hfb hmem hav hFB x1 hth hAc
      go_upto_region 10 with fail
      have Hlv := hid hltv
      refine wp_region_held_drew (S := fun W => Below wr.heap.size wr W) (by kernel_rfl) (below_drew wr) (fun hHeld => ?_)
      have D0 := hid (below_drew wr)
      generalize wr.drew = X0 at *
      refine wpAnyH_one 0 33 (.agg #[.slice (some ⟨b, off, none⟩) ns.length cap]) hHeld rfl rfl (by kernel_rfl) (fun _ _ _ _ _ h => h) (by kernel_rfl) (by kernel_rfl) (by rfl) ?_ ?_
      · intro V hSw; (try dsimp only at hSw); have cf := (box_cell_l (keep_blk hSw M0.out)).1; go_simp
      simp only [Act.put, List.setIfInBounds_toArray, List.set_cons_zero, List.set_cons_succ]
      refine wpAnyH_one 1 34 (.agg #[.int .i64 root, .int .i64 ref, .bool false, .int .u32 (sh : Int), .slice ro rules.length rc]) hHeld rfl rfl (by kernel_rfl) (fun _ _ _ _ _ h => h) (by kernel_rfl) (by kernel_rfl) (by rfl) ?_ ?_
      · intro V hSw; (try dsimp only at hSw); have ci := box5I (keep_blk hSw M1.out); obtain ⟨⟨q0, q1, q2, q3, q4⟩, _⟩ := ci; go_simp
      simp only [Act.put, List.setIfInBounds_toArray, List.set_cons_zero, List.set_cons_succ]
      refine wpAnyH_one 2 35 (.slice (some ⟨bv, offv, none⟩) l.length cv) hHeld rfl rfl (by kernel_rfl) (fun _ _ _ _ _ h => h) (by kernel_rfl) (by kernel_rfl) (by rfl) ?_ ?_
      · intro V hSw; (try dsimp only at hSw); go_simp
      simp only [Act.put, List.setIfInBounds_toArray, List.set_cons_zero, List.set_cons_succ]
      refine wpAnyH_one 3 36 (.int .i64 ((k : Int) - 1)) hHeld rfl rfl (by kernel_rfl) (fun _ _ _ _ _ h => h) (by kernel_rfl) (by kernel_rfl) (by rfl) ?_ ?_
      · intro V hSw; (try dsimp only at hSw); go_simp
      simp only [Act.put, List.setIfInBounds_toArray, List.set_cons_zero, List.set_cons_succ]
      refine wpAnyH_one 4 37 (.pointer (some ⟨bv, offv + (k - 1), none⟩)) hHeld rfl rfl (by kernel_rfl) (fun _ _ _ _ _ h => h) (by kernel_rfl) (by kernel_rfl) (by rfl) ?_ ?_
      · intro V hSw; (try dsimp only at hSw); go_simp
      simp only [Act.put, List.setIfInBounds_toArray, List.set_cons_zero, List.set_cons_succ]
      refine wpAnyH_one 5 38 (.int .i64 y) hHeld rfl rfl (by kernel_rfl) (fun _ _ _ _ _ h => h) (by kernel_rfl) (by kernel_rfl) (by rfl) ?_ ?_
      · intro V hSw; (try dsimp only at hSw); have cx := (hSw.cell (p := ⟨bv, offv + (k - 1), none⟩) (Nat.lt_of_lt_of_le Hlv.out hBr.out.size)).trans HX1.out; go_simp
      simp only [Act.put, List.setIfInBounds_toArray, List.set_cons_zero, List.set_cons_succ]
      refine wpAnyH_ready (rs := [6]) (by kernel_rfl) (by simp) ?_
      refine AllReadyH.cons rfl (fun K hK => ?_) AllReadyH.nil
      go_simp
      go_wp2_with (go_at_call 35; refine (HAc2.out y X0 (HB3.out.trans (D0.out.mono HB3.out.size)) Hth.out).mono ?_; rintro e X1 ⟨rfl, hb⟩; have D1 := hid (D0.out.trans (hb.mono D0.out.size)))
      refine hK.out _ _ D1.out (fun hHeld => ?_)
      clear hK K hb hHeld
      refine wpAnyH_done (by kernel_rfl) ?_ _
      cases hqy : q y with
      | true =>
        have hT := Hfb.out
        rw [hqy, if_pos rfl] at hT
        subst hT
        have hy0 := there_ne Hth.out
        have hR2 := HRF.out
        have hB2 := HBF.out
        rw [bfalse hy0, if_neg Bool.false_ne_true] at hR2 hB2
        subst hR2
        subst hB2
        obtain ⟨⟨m0, m1, m2, m3, m4⟩, z0, z1, z2, z3, z4⟩ := box5I (keep_blk D1.out M1.out)
        have cx := (D1.out.cell (p := ⟨bv, offv + (k - 1), none⟩) (Nat.lt_of_lt_of_le Hlv.out hBr.out.size)).trans HX1.out
        have HB4 := hid (HB3.out.trans (D1.out.mono HB3.out.size))
        have O2 := hid (keep_blk D1.out M2.out)
        have O1 := hid (keep_blk D1.out M1.out)
        have hlw := heap_lt M2.out
        have hss := hBr.out.size
        have hd1 := D1.out.size
        have hrow := row_still (B := w.heap.size + 1) cx m2 true
        have hbox := box_two O1.out (.int .i64 y) (.bool true)
        have hres : ((X1.setCell ⟨w.heap.size + 1, 1, none⟩ (.int .i64 y)).setCell ⟨w.heap.size + 1, 2, none⟩ (.bool true)).heap[w.heap.size + 1 + 1]? = some _ := blk_far (j := 2) (blk_far (j := 1) O2.out (.int .i64 y) (by omega)) (.bool true) (by omega)
        have hbel : Below w.heap.size w ((X1.setCell ⟨w.heap.size + 1, 1, none⟩ (.int .i64 y)).setCell ⟨w.heap.size + 1, 2, none⟩ (.bool true)) := (HB4.out.setCell (p := ⟨w.heap.size + 1, 1, none⟩) (by show w.heap.size ≤ w.heap.size + 1; omega) _).setCell (p := ⟨w.heap.size + 1, 2, none⟩) (by show w.heap.size ≤ w.heap.size + 1; omega) _
        have hne := row_not_res hrow hres (there_ne Hth.out)
        have HROW := hid hrow
        have HBOX := hid hbox
        have HRES := hid hres
        have HBEL := hid hbel
        have HNE := hid hne
        clear hrow hbox hres hbel hne O1 O2 HB4 M0 M1 M2 Hfb HAC D0 hd1 hss hlw
        go_upto_region 13 with fail
        generalize ((X1.setCell ⟨w.heap.size + 1, 1, none⟩ (.int .i64 y)).setCell ⟨w.heap.size + 1, 2, none⟩ (.bool true)) = X3 at *
        clear m0 m1 m2 m3 m4 z0 z1 z2 z3 z4 cx
        refine wp_region_held_drew (S := fun W => W.heap[w.heap.size + 1]? = some (.cells #[.int .i64 root, .int .i64 y, .bool true, .int .u32 (sh : Int), .slice ro rules.length rc] 30) ∧ W.cell? ⟨bv, offv + (k - 1), none⟩ = some (.int .i64 y)) (by kernel_rfl) ⟨keep_blk (below_drew X3) HBOX.out, HROW.out⟩ (fun hHeld => ?_)
        have E0 := hid (HBEL.out.trans ((below_drew X3).mono HBEL.out.size))
        have E2 := hid (keep_blk (below_drew X3) HRES.out)
        generalize X3.drew = X4 at *
        refine wpAnyH_one 0 46 (.agg #[.int .i64 root, .int .i64 y, .bool true, .int .u32 (sh : Int), .slice ro rules.length rc]) hHeld rfl rfl (by kernel_rfl) (fun _ _ _ _ _ h => h) (by kernel_rfl) (by kernel_rfl) (by rfl) ?_ ?_
        · intro V hSw; (try dsimp only at hSw); have ci := box5I hSw.1; obtain ⟨⟨q0, q1, q2, q3, q4⟩, _⟩ := ci; go_simp
        simp only [Act.put, List.setIfInBounds_toArray, List.set_cons_zero, List.set_cons_succ]
        refine wpAnyH_one 1 47 (.slice (some ⟨bv, offv, none⟩) l.length cv) hHeld rfl rfl (by kernel_rfl) (fun _ _ _ _ _ h => h) (by kernel_rfl) (by kernel_rfl) (by rfl) ?_ ?_
        · intro V hSw; (try dsimp only at hSw); go_simp
        simp only [Act.put, List.setIfInBounds_toArray, List.set_cons_zero, List.set_cons_succ]
        refine wpAnyH_one 2 48 (.int .i64 ((k : Int) - 1)) hHeld rfl rfl (by kernel_rfl) (fun _ _ _ _ _ h => h) (by kernel_rfl) (by kernel_rfl) (by rfl) ?_ ?_
        · intro V hSw; (try dsimp only at hSw); go_simp
        simp only [Act.put, List.setIfInBounds_toArray, List.set_cons_zero, List.set_cons_succ]
        refine wpAnyH_one 3 49 (.pointer (some ⟨bv, offv + (k - 1), none⟩)) hHeld rfl rfl (by kernel_rfl) (fun _ _ _ _ _ h => h) (by kernel_rfl) (by kernel_rfl) (by rfl) ?_ ?_
        · intro V hSw; (try dsimp only at hSw); go_simp
        simp only [Act.put, List.setIfInBounds_toArray, List.set_cons_zero, List.set_cons_succ]
        refine wpAnyH_one 4 50 (.int .i64 y) hHeld rfl rfl (by kernel_rfl) (fun _ _ _ _ _ h => h) (by kernel_rfl) (by kernel_rfl) (by rfl) ?_ ?_
        · intro V hSw; (try dsimp only at hSw); have cx := hSw.2; go_simp
        simp only [Act.put, List.setIfInBounds_toArray, List.set_cons_zero, List.set_cons_succ]
        obtain ⟨⟨r0, r1, r2, r3, r4⟩, s0, s1, s2, s3, s4⟩ := box5I E2.out
        refine wpAnyH_ready (rs := [5]) (by kernel_rfl) (by simp) ?_
        refine AllReadyH.cons rfl (fun K hK => ?_) AllReadyH.nil
        go_simp
        refine hK.out _ _ ⟨(blk_far (j := 4) (blk_far (j := 3) (blk_far (j := 2) (blk_far (j := 1) (blk_far (j := 0) hHeld.1 _ (by omega)) _ (by omega)) _ (by omega)) _ (by omega)) _ (by omega)), cell_far5 hHeld.2 HNE.out _ _ _ _ _⟩ (fun hHeld => ?_)
        clear hK K
        refine wpAnyH_one 6 5 (.int .i64 y) hHeld rfl rfl (by kernel_rfl) (fun _ _ _ _ _ h => h) (by kernel_rfl) (by kernel_rfl) (by rfl) ?_ ?_
        · intro V hSw; (try dsimp only at hSw); go_simp
        simp only [Act.put, List.setIfInBounds_toArray, List.set_cons_zero, List.set_cons_succ]
        refine wpAnyH_one 7 6 (.int .i64 0) hHeld rfl rfl (by kernel_rfl) (fun _ _ _ _ _ h => h) (by kernel_rfl) (by kernel_rfl) (by rfl) ?_ ?_
        · intro V hSw; (try dsimp only at hSw); go_simp
        simp only [Act.put, List.setIfInBounds_toArray, List.set_cons_zero, List.set_cons_succ]
        refine wpAnyH_done (by kernel_rfl) ?_ _
        go_wp2_with fail
        exact bodyPost_ret (v := .tuple #[.agg #[.int .i64 root, .int .i64 y, .bool true, .int .u32 (sh : Int), .slice ro rules.length rc], .int .i64 y, .int .i64 0]) (by simp [results, Tryz.results16, go_sem, r0, r1, r2, r3, r4]) rfl ⟨rfl, (((((E0.out.setCell (p := ⟨w.heap.size + 1 + 1, 0, none⟩) (by show w.heap.size ≤ w.heap.size + 1 + 1; omega) _).setCell (p := ⟨w.heap.size + 1 + 1, 1, none⟩) (by show w.heap.size ≤ w.heap.size + 1 + 1; omega) _).setCell (p := ⟨w.heap.size + 1 + 1, 2, none⟩) (by show w.heap.size ≤ w.heap.size + 1 + 1; omega) _).setCell (p := ⟨w.heap.size + 1 + 1, 3, none⟩) (by show w.heap.size ≤ w.heap.size + 1 + 1; omega) _).setCell (p := ⟨w.heap.size + 1 + 1, 4, none⟩) (by show w.heap.size ≤ w.heap.size + 1 + 1; omega) _)⟩
      | false =>
        have hT := Hfb.out
        rw [hqy, if_neg Bool.false_ne_true] at hT
        have HT2 := hid hT
        have HB5 := hid (hBr.out.trans (D1.out.mono hBr.out.size))
        clear M0 M1 M2 HX1 Hth Hfb HAC hBr D0 D1 HB3
        go_wp2_with fail
        go_roundw
        case rel => exact ⟨k - 1, congrArg (Value.int .i64) (by omega), by omega, HT2, HB5⟩
        case measure => simp [RowKit.intOf]; omega
    · have hT : T = 0 := by
        rw [← hFB.out]
        rw [show k = 0 by omega]; rfl
      have hR2 := HRF.out
      have hB2 := HBF.out
      rw [btrue hT, if_pos rfl] at hR2 hB2
      subst hR2
      subst hB2
      have HT0 := hid hT
      obtain ⟨⟨m0, m1, m2, m3, m4⟩, _⟩ := box5I M1.out
      obtain ⟨⟨r0, r1, r2, r3, r4⟩, s0, s1, s2, s3, s4⟩ := box5I M2.out
      have dl : decide (((k : Int) - 1) ≥ (0 : Int)) = false := decide_eq_false (by omega)
      clear hFB hBr hT M0
      go_wp2
      exact bodyPost_ret (v := .tuple #[.agg #[.int .i64 root, .int .i64 ref, .bool false, .int .u32 (sh : Int), .slice ro rules.length rc], .int .i64 0, .int .i64 0]) (by simp [results, Tryz.results16, go_sem, r0, r1, r2, r3, r4]) rfl ⟨by rw [HT0.out], (((((HB3.out.setCell (p := ⟨w.heap.size + 1 + 1, 0, none⟩) (by show w.heap.size ≤ w.heap.size + 1 + 1; omega) _).setCell (p := ⟨w.heap.size + 1 + 1, 1, none⟩) (by show w.heap.size ≤ w.heap.size + 1 + 1; omega) _).setCell (p := ⟨w.heap.size + 1 + 1, 2, none⟩) (by show w.heap.size ≤ w.heap.size + 1 + 1; omega) _).setCell (p := ⟨w.heap.size + 1 + 1, 3, none⟩) (by show w.heap.size ≤ w.heap.size + 1 + 1; omega) _).setCell (p := ⟨w.heap.size + 1 + 1, 4, none⟩) (by show w.heap.size ≤ w.heap.size + 1 + 1; omega) _)⟩
theorem refIPrev_any (o : Option Addr) (cap : Nat) (ns : List NodeD) (root ref : Int) (bef : Bool) (sh : Nat) (ro : Option Addr) (rc : Nat) (rules : List RuleD) (w : World) (hF : FRd w o cap ns) (hkl : ∀ (i : Nat) (hi : i < ns.length), ns[i].kids.length ≤ 1099511627776) (hal : ∀ (i : Nat) (hi : i < ns.length), ns[i].attrs.length ≤ 1099511627776) (hru : RdR w (.slice ro rules.length rc) rules) (hrl : rules.length ≤ 1099511627776) (hs : sh < 4294967296) (hc : iterC ns root ref rules = 0) :
    Calls Tryz.prog 16 #[.agg #[.slice o ns.length cap], .agg #[.int .i64 root, .int .i64 ref, .bool bef, .int .u32 (sh : Int), .slice ro rules.length rc]] w fun e w' => e = .returned (.tuple #[.agg #[.int .i64 root, .int .i64 (if (prevT ns root ref bef sh rules) == 0 then ref else (prevT ns root ref bef sh rules)), .bool (if (prevT ns root ref bef sh rules) == 0 then bef else true), .int .u32 (sh : Int), .slice ro rules.length rc], .int .i64 (prevT ns root ref bef sh rules), .int .i64 0]) ∧ Below w.heap.size w w' := by
  cases bef with
  | true => exact refIPrevT_any o cap ns root ref sh ro rc rules w hF hkl hal hru hrl hs hc
  | false => exact refIPrevF_any o cap ns root ref sh ro rc rules w hF hkl hal hru hrl hs hc
end Go.Proofs.YticenjhhefiboaaGreat

namespace Go.Proofs.YticenjhhefiboaaGreat
open Go.RowKit Go.Lib Go.Shelf

set_option maxRecDepth 100000 in
set_option maxHeartbeats 16000000 in
theorem isteps_walk (o : Option Addr) (cap : Nat) (ns : List NodeD) (root ref : Int) (bef : Bool) (sh : Nat) (ro : Option Addr) (rc : Nat) (rules : List RuleD) (R1 F1 R2 F2 : Int) (B1 B2 : Bool) (S : Nat) (RL : List RuleD) (T1 T2 E : Int) (w : World) (hRL : RL.length ≤ 1099511627776)
    (Ha : ∀ W : World, Below w.heap.size w W → Calls Tryz.prog 13 #[.agg #[.slice o ns.length cap], .agg #[.int .i64 root, .int .i64 ref, .bool bef, .int .u32 (sh : Int), .slice ro rules.length rc]] W fun e w' => ∃ ox cx, e = .returned (.tuple #[.agg #[.int .i64 R1, .int .i64 F1, .bool B1, .int .u32 (S : Int), .slice ox RL.length cx], .int .i64 T1, .int .i64 E]) ∧ RdR w' (.slice ox RL.length cx) RL ∧ Below W.heap.size W w')
    (Hb : ∀ W : World, Below w.heap.size w W → Calls Tryz.prog 14 #[.agg #[.slice o ns.length cap], .agg #[.int .i64 root, .int .i64 ref, .bool bef, .int .u32 (sh : Int), .slice ro rules.length rc]] W fun e w' => ∃ ox cx, e = .returned (.tuple #[.agg #[.int .i64 R1, .int .i64 F1, .bool B1, .int .u32 (S : Int), .slice ox RL.length cx], .int .i64 T1, .int .i64 E]) ∧ RdR w' (.slice ox RL.length cx) RL ∧ Below W.heap.size W w')
    (Hc : ∀ W : World, Below w.heap.size w W → Calls Tryz.prog 15 #[.agg #[.slice o ns.length cap], .agg #[.int .i64 root, .int .i64 ref, .bool bef, .int .u32 (sh : Int), .slice ro rules.length rc]] W fun e w' => ∃ ox cx, e = .returned (.tuple #[.agg #[.int .i64 R2, .int .i64 F2, .bool B2, .int .u32 (S : Int), .slice ox RL.length cx], .int .i64 T2, .int .i64 E]) ∧ RdR w' (.slice ox RL.length cx) RL ∧ Below W.heap.size W w')
    (Hd : ∀ W : World, Below w.heap.size w W → Calls Tryz.prog 16 #[.agg #[.slice o ns.length cap], .agg #[.int .i64 root, .int .i64 ref, .bool bef, .int .u32 (sh : Int), .slice ro rules.length rc]] W fun e w' => ∃ ox cx, e = .returned (.tuple #[.agg #[.int .i64 R2, .int .i64 F2, .bool B2, .int .u32 (S : Int), .slice ox RL.length cx], .int .i64 T2, .int .i64 E]) ∧ RdR w' (.slice ox RL.length cx) RL ∧ Below W.heap.size W w') :
    Calls Tryz.prog 4 #[.agg #[.slice o ns.length cap], .agg #[.int .i64 root, .int .i64 ref, .bool bef, .int .u32 (sh : Int), .slice ro rules.length rc]] w fun e w' => e = .returned (.bool true) ∧ Below w.heap.size w w' := by
  obtain ⟨bx, g0, g1, sx⟩ := two_new w (.cells #[.slice o ns.length cap] 24) (.cells #[.int .i64 root, .int .i64 ref, .bool bef, .int .u32 (sh : Int), .slice ro rules.length rc] 30)
  have HB0 := hid bx
  have P0_0 := hid g0
  have P1_0 := hid g1
  have cz0 := (box_cell_l g0).1
  obtain ⟨⟨i0, i1, i2, i3, i4⟩, _⟩ := box5I g1
  have K1 := hid Ha
  have K2 := hid Hb
  have K3 := hid Hc
  have K4 := hid Hd
  have e1 : (T1 == T1) = true := beq_self_eq_true T1
  have e2 : (T2 == T2) = true := beq_self_eq_true T2
  have e3 : (E == E) = true := beq_self_eq_true E
  clear bx g0 g1 sx Ha Hb Hc Hd
  go_enter Tryz.func4, Tryz.ntmps4
  go_upto_region 1 with fail
  generalize ((w.alloc (.cells #[.slice o ns.length cap] 24)).alloc (.cells #[.int .i64 root, .int .i64 ref, .bool bef, .int .u32 (sh : Int), .slice ro rules.length rc] 30)) = V0 at *
  go_wp2_with fail
  refine (K1.out V0 HB0.out).mono ?_
  rintro e w1 ⟨o0, c0, rfl, hr, hb⟩
  have ba : Below w1.heap.size w1 (w1.alloc (.cells #[.int .i64 R1, .int .i64 F1, .bool B1, .int .u32 (S : Int), .slice o0 RL.length c0] 30)) := (Below.refl _ w1).alloc (Nat.le_refl _) _
  have P0_1 := hid (keep_blk ba (keep_blk hb P0_0.out))
  have P1_1 := hid (keep_blk ba (keep_blk hb P1_0.out))
  have hn := heap_new w1 (.cells #[.int .i64 R1, .int .i64 F1, .bool B1, .int .u32 (S : Int), .slice o0 RL.length c0] 30)
  have Q0_1 := hid hn
  have r0_1 := hid (hr.later ba)
  have d1 := (box_cell_l P0_1.out).1
  obtain ⟨⟨i1a, i1b, i1c, i1d, i1e⟩, _⟩ := box5I P1_1.out
  have HB1 := hid ((HB0.out.trans (hb.mono HB0.out.size)).trans (ba.mono (HB0.out.trans (hb.mono HB0.out.size)).size))
  clear hb ba hn hr HB0 P0_0 P1_0 K1 cz0 i0 i1 i2 i3 i4
  go_upto_region 2 with fail
  generalize w1.alloc (.cells #[.int .i64 R1, .int .i64 F1, .bool B1, .int .u32 (S : Int), .slice o0 RL.length c0] 30) = V1 at *
  go_wp2_with fail
  refine (K2.out V1 HB1.out).mono ?_
  rintro e w2 ⟨o1, c1, rfl, hr, hb⟩
  have ba : Below w2.heap.size w2 (w2.alloc (.cells #[.int .i64 R1, .int .i64 F1, .bool B1, .int .u32 (S : Int), .slice o1 RL.length c1] 30)) := (Below.refl _ w2).alloc (Nat.le_refl _) _
  have P0_2 := hid (keep_blk ba (keep_blk hb P0_1.out))
  have P1_2 := hid (keep_blk ba (keep_blk hb P1_1.out))
  have hn := heap_new w2 (.cells #[.int .i64 R1, .int .i64 F1, .bool B1, .int .u32 (S : Int), .slice o1 RL.length c1] 30)
  have Q1_2 := hid hn
  have r1_2 := hid (hr.later ba)
  have Q0_2 := hid (keep_blk ba (keep_blk hb Q0_1.out))
  have r0_2 := hid ((r0_1.out.later hb).later ba)
  have d2 := (box_cell_l P0_2.out).1
  obtain ⟨⟨i2a, i2b, i2c, i2d, i2e⟩, _⟩ := box5I P1_2.out
  have HB2 := hid ((HB1.out.trans (hb.mono HB1.out.size)).trans (ba.mono (HB1.out.trans (hb.mono HB1.out.size)).size))
  clear hb ba hn hr HB1 P0_1 P1_1 K2 d1 i1a i1b i1c i1d i1e Q0_1 r0_1
  go_upto_region 3 with fail
  generalize w2.alloc (.cells #[.int .i64 R1, .int .i64 F1, .bool B1, .int .u32 (S : Int), .slice o1 RL.length c1] 30) = V2 at *
  go_wp2_with fail
  refine (K3.out V2 HB2.out).mono ?_
  rintro e w3 ⟨o2, c2, rfl, hr, hb⟩
  have ba : Below w3.heap.size w3 (w3.alloc (.cells #[.int .i64 R2, .int .i64 F2, .bool B2, .int .u32 (S : Int), .slice o2 RL.length c2] 30)) := (Below.refl _ w3).alloc (Nat.le_refl _) _
  have P0_3 := hid (keep_blk ba (keep_blk hb P0_2.out))
  have P1_3 := hid (keep_blk ba (keep_blk hb P1_2.out))
  have hn := heap_new w3 (.cells #[.int .i64 R2, .int .i64 F2, .bool B2, .int .u32 (S : Int), .slice o2 RL.length c2] 30)
  have Q2_3 := hid hn
  have r2_3 := hid (hr.later ba)
  have Q0_3 := hid (keep_blk ba (keep_blk hb Q0_2.out))
  have r0_3 := hid ((r0_2.out.later hb).later ba)
  have Q1_3 := hid (keep_blk ba (keep_blk hb Q1_2.out))
  have r1_3 := hid ((r1_2.out.later hb).later ba)
  have d3 := (box_cell_l P0_3.out).1
  obtain ⟨⟨i3a, i3b, i3c, i3d, i3e⟩, _⟩ := box5I P1_3.out
  have HB3 := hid ((HB2.out.trans (hb.mono HB2.out.size)).trans (ba.mono (HB2.out.trans (hb.mono HB2.out.size)).size))
  clear hb ba hn hr HB2 P0_2 P1_2 K3 d2 i2a i2b i2c i2d i2e Q0_2 r0_2 Q1_2 r1_2
  go_upto_region 4 with fail
  generalize w3.alloc (.cells #[.int .i64 R2, .int .i64 F2, .bool B2, .int .u32 (S : Int), .slice o2 RL.length c2] 30) = V3 at *
  go_wp2_with fail
  refine (K4.out V3 HB3.out).mono ?_
  rintro e w4 ⟨o3, c3, rfl, hr, hb⟩
  have ba : Below w4.heap.size w4 (w4.alloc (.cells #[.int .i64 R2, .int .i64 F2, .bool B2, .int .u32 (S : Int), .slice o3 RL.length c3] 30)) := (Below.refl _ w4).alloc (Nat.le_refl _) _
  have P0_4 := hid (keep_blk ba (keep_blk hb P0_3.out))
  have P1_4 := hid (keep_blk ba (keep_blk hb P1_3.out))
  have hn := heap_new w4 (.cells #[.int .i64 R2, .int .i64 F2, .bool B2, .int .u32 (S : Int), .slice o3 RL.length c3] 30)
  have Q3_4 := hid hn
  have r3_4 := hid (hr.later ba)
  have Q0_4 := hid (keep_blk ba (keep_blk hb Q0_3.out))
  have r0_4 := hid ((r0_3.out.later hb).later ba)
  have Q1_4 := hid (keep_blk ba (keep_blk hb Q1_3.out))
  have r1_4 := hid ((r1_3.out.later hb).later ba)
  have Q2_4 := hid (keep_blk ba (keep_blk hb Q2_3.out))
  have r2_4 := hid ((r2_3.out.later hb).later ba)
  have d4 := (box_cell_l P0_4.out).1
  obtain ⟨⟨i4a, i4b, i4c, i4d, i4e⟩, _⟩ := box5I P1_4.out
  have HB4 := hid ((HB3.out.trans (hb.mono HB3.out.size)).trans (ba.mono (HB3.out.trans (hb.mono HB3.out.size)).size))
  clear hb ba hn hr HB3 P0_3 P1_3 K4 d3 i3a i3b i3c i3d i3e Q0_3 r0_3 Q1_3 r1_3 Q2_3 r2_3
  go_upto_region 5 with fail
  generalize w4.alloc (.cells #[.int .i64 R2, .int .i64 F2, .bool B2, .int .u32 (S : Int), .slice o3 RL.length c3] 30) = V4 at *
  clear d4 i4a i4b i4c i4d i4e P0_4 P1_4
  obtain ⟨⟨a0, a1, a2, a3, a4⟩, _⟩ := box5I Q0_4.out
  obtain ⟨⟨b0, b1, b2, b3, b4⟩, _⟩ := box5I Q1_4.out
  go_wp2_with fail
  refine (sameI_any R1 F1 B1 S o0 o1 c0 c1 RL V4 r0_4.out r1_4.out hRL).mono ?_
  rintro e w5 ⟨rfl, hb⟩
  have Q2 := hid (keep_blk hb Q2_4.out)
  have Q3 := hid (keep_blk hb Q3_4.out)
  have r2 := hid (r2_4.out.later hb)
  have r3 := hid (r3_4.out.later hb)
  have HB5 := hid (HB4.out.trans (hb.mono HB4.out.size))
  obtain ⟨⟨x0, x1, x2, x3, x4⟩, _⟩ := box5I Q2.out
  obtain ⟨⟨y0, y1, y2, y3, y4⟩, _⟩ := box5I Q3.out
  clear hb HB4 Q0_4 Q1_4 Q2_4 Q3_4 r0_4 r1_4 r2_4 r3_4 a0 a1 a2 a3 a4 b0 b1 b2 b3 b4 Q2 Q3
  go_wp2_with fail
  refine (sameI_any R2 F2 B2 S o2 o3 c2 c3 RL w5 r2.out r3.out hRL).mono ?_
  rintro e w6 ⟨rfl, hb⟩
  have HB6 := hid (HB5.out.trans (hb.mono HB5.out.size))
  clear hb HB5 x0 x1 x2 x3 x4 y0 y1 y2 y3 y4 r2 r3
  go_wp2_with fail
  refine (beginsI_true w6).mono ?_
  rintro e w7 ⟨rfl, hb⟩
  have HB7 := hid (HB6.out.trans (hb.mono HB6.out.size))
  clear hb HB6
  go_wp2
  go_ret
  exact ⟨rfl, HB7.out⟩
theorem iterateSteps_law (o : Option Addr) (cap : Nat) (ns : List NodeD) (root ref : Int) (bef : Bool) (sh : Nat) (ro : Option Addr) (rc : Nat) (rules : List RuleD) (w : World) (hF : FRd w o cap ns) (hkl : ∀ (i : Nat) (hi : i < ns.length), ns[i].kids.length ≤ 1099511627776) (hal : ∀ (i : Nat) (hi : i < ns.length), ns[i].attrs.length ≤ 1099511627776) (hru : RdR w (.slice ro rules.length rc) rules) (hrl : rules.length ≤ 1099511627776) (hs : sh < 4294967296) :
    Calls Tryz.prog 4 #[.agg #[.slice o ns.length cap], .agg #[.int .i64 root, .int .i64 ref, .bool bef, .int .u32 (sh : Int), .slice ro rules.length rc]] w fun e w' => e = .returned (.bool true) ∧ Below w.heap.size w w' := by
  by_cases hc : iterC ns root ref rules = 0
  · exact isteps_walk o cap ns root ref bef sh ro rc rules _ _ _ _ _ _ sh rules _ _ 0 w hrl
      (fun W hW => (inext_any o cap ns root ref bef sh ro rc rules W (hF.later hW) hkl hal (hru.later hW) hrl hs hc).mono (fun _ _ ⟨oa, ca, x1, x2, x3⟩ => ⟨oa, ca, x1, own_rules x2, x3⟩))
      (fun W hW => (refINext_any o cap ns root ref bef sh ro rc rules W (hF.later hW) hkl hal (hru.later hW) hrl hs hc).mono (fun _ _ ⟨x1, x3⟩ => ⟨ro, rc, x1, (hru.later hW).later x3, x3⟩))
      (fun W hW => (iprev_any o cap ns root ref bef sh ro rc rules W (hF.later hW) hkl hal (hru.later hW) hrl hs hc).mono (fun _ _ ⟨oa, ca, x1, x2, x3⟩ => ⟨oa, ca, x1, own_rules x2, x3⟩))
      (fun W hW => (refIPrev_any o cap ns root ref bef sh ro rc rules W (hF.later hW) hkl hal (hru.later hW) hrl hs hc).mono (fun _ _ ⟨x1, x3⟩ => ⟨ro, rc, x1, (hru.later hW).later x3, x3⟩))
  · exact isteps_walk o cap ns root ref bef sh ro rc rules 0 0 0 0 false false 0 [] 0 0 (iterC ns root ref rules) w (by simp)
      (fun W hW => (inextE_any o cap ns root ref bef sh ro rc rules W (hF.later hW) hkl hal (hru.later hW) hrl hs hc).mono (fun _ W' ⟨x1, x3⟩ => ⟨none, 0, x1, nil_rdT W' _ _, x3⟩))
      (fun W hW => (refINextE_any o cap ns root ref bef sh ro rc rules W (hF.later hW) hkl hal (hru.later hW) hrl hs hc).mono (fun _ W' ⟨x1, x3⟩ => ⟨none, 0, x1, nil_rdT W' _ _, x3⟩))
      (fun W hW => (iprevE_any o cap ns root ref bef sh ro rc rules W (hF.later hW) hkl hal (hru.later hW) hrl hs hc).mono (fun _ W' ⟨x1, x3⟩ => ⟨none, 0, x1, nil_rdT W' _ _, x3⟩))
      (fun W hW => (refIPrevE_any o cap ns root ref bef sh ro rc rules W (hF.later hW) hkl hal (hru.later hW) hrl hs hc).mono (fun _ W' ⟨x1, x3⟩ => ⟨none, 0, x1, nil_rdT W' _ _, x3⟩))
end Go.Proofs.YticenjhhefiboaaGreat

