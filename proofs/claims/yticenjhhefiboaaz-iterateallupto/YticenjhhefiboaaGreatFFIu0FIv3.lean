/- The reference of iterate: which nodes are accepted (canopyref14.accepted), the next one and the one ahead (Next, Prev). -/
/- The calls of order that ask one handle: All. -/
/- An iterator that goes over all that is accepted, there and back: plain. -/
/- IterateAll: what lies in memory while it goes over all: the forest, the filter, the iterator, the nodes, those that were told. -/
/- The walk of IterateAll: a new iterator tells just the accepted nodes of its root, in tree order, and then tells them back. -/
/- IterateAll: a root or a filter that is refused; the whole. -/
import Derived.Test.YticenjhhefiboaaGreatFFWk8FItW
import Derived.Test.YticenjhhefiboaaGreatFFItCFItT
import Derived.Test.YticenjhhefiboaaGreatFFUpFR4D
import Derived.Test.YticenjhhefiboaaGreatFFWk3
import Derived.Test.YticenjhhefiboaaGreatFFWkGFItR
namespace Go.Proofs.YticenjhhefiboaaGreat
open Go.RowKit Go.Lib Go.Shelf

theorem firstB_cons (q : Int → Bool) (y : Int) (t : List Int) : firstB q (y :: t) = if q y then y else firstB q t := rfl
theorem wrap_smallI (x : Int) (h1 : -9223372036854775808 ≤ x) (h2 : x < 9223372036854775808) : IntKind.i64.wrap x = x := by
  simp [IntKind.wrap, IntKind.signed, IntKind.bits]
  omega
theorem take_last {l : List Int} {k n : Nat} (h : n < l.length) (hk : k = n + 1) : (l.take k).reverse = l[n] :: (l.take n).reverse := by
  subst hk
  rw [List.take_succ_eq_append_getElem h, List.reverse_append]
  rfl
section
variable {ns : List NodeD} {root ref : Int} {bef : Bool} {sh : Nat} {rules : List RuleD}
/-- How many of all nodes the reference passes over. -/
def atN (ns : List NodeD) (root ref : Int) (bef : Bool) : Nat := (aheadA ns root ref).length + (if bef then 0 else 1)
theorem next_ref (hc : iterC ns root ref rules = 0) : firstB (fun y => verdictOf ns sh rules y == 1) ((allA ns root).drop (atN ns root ref bef)) = nextT ns root ref bef sh rules := by
  obtain ⟨hR, hr, _, hx, hin⟩ := iterC_ok hc
  unfold atN nextT
  rw [all_parts hR hr hx hin]
  have hl : (aheadA ns root ref).reverse.length = (aheadA ns root ref).length := List.length_reverse
  cases bef with
  | true =>
    rw [if_pos rfl, Nat.add_zero, ← hl, List.drop_left]
    show _ = firstB _ (restL (afterA ns root) ref)
    rw [restL_some _ (there_ne hx)]
  | false =>
    rw [if_neg Bool.false_ne_true, ← hl, ← List.drop_drop, List.drop_left]
    show firstB _ (afterA ns root ref) = firstB _ (restL (afterA ns root) (behindN ns root ref))
    rw [after_step hR hr hx hin]
    rfl
theorem prev_ref (hc : iterC ns root ref rules = 0) : firstB (fun y => verdictOf ns sh rules y == 1) ((allA ns root).take (atN ns root ref bef)).reverse = prevT ns root ref bef sh rules := by
  obtain ⟨hR, hr, _, hx, hin⟩ := iterC_ok hc
  unfold atN prevT
  rw [all_parts hR hr hx hin]
  have hl : (aheadA ns root ref).reverse.length = (aheadA ns root ref).length := List.length_reverse
  cases bef with
  | true =>
    rw [if_pos rfl, Nat.add_zero, ← hl, List.take_left, List.reverse_reverse]
    show firstB _ (aheadA ns root ref) = firstB _ (restL (aheadA ns root) (aheadN ns root ref))
    rw [ahead_step hR hr hx hin]
    rfl
  | false =>
    rw [if_neg Bool.false_ne_true, ← hl, List.take_append, List.take_of_length_le (by omega), show (aheadA ns root ref).reverse.length + 1 - (aheadA ns root ref).reverse.length = 1 by omega]
    simp only [List.take_succ_cons, List.take_zero, List.reverse_append, List.reverse_cons, List.reverse_nil, List.nil_append, List.reverse_reverse, List.cons_append]
    show _ = firstB _ (restL (aheadA ns root) ref)
    rw [restL_some _ (there_ne hx)]
theorem at_place (hc : iterC ns root ref rules = 0) : idxI (allA ns root) ref 0 = ((aheadA ns root ref).length : Int) ∧ (allA ns root).length ≤ 4096 ∧ (aheadA ns root ref).length < (allA ns root).length ∧ ∀ y ∈ allA ns root, thereB ns.length y = true := by
  obtain ⟨hR, hr, _, hx, hin⟩ := iterC_ok hc
  refine ⟨all_place hR hr hx hin, Nat.le_trans (hR.kidsHang.below_len _ root hr (by omega)) hR.small, ?_, fun y hy => ((hR.kidsHang.below_iff (ns.length + 1) root y hr (by omega)).1 hy).1⟩
  rw [all_parts hR hr hx hin, List.length_append, List.length_reverse, List.length_cons]
  omega
end
end Go.Proofs.YticenjhhefiboaaGreat

namespace Go.Proofs.YticenjhhefiboaaGreat
open Go.RowKit Go.Lib Go.Shelf

theorem ownsRow_base {W : World} {base base' : Nat} {e : TypeId} {size : Nat} {v : Value} {k : Nat} {xs : List Value} (h : W.ownsRow base e size v k xs) (hb : base' ≤ base) : W.ownsRow base' e size v k xs := by
  refine ⟨h.1, ?_⟩
  rcases h.2 with a | ⟨g, cap, cur, hv, hg, rest⟩
  · exact .inl a
  · exact .inr ⟨g, cap, cur, hv, Nat.le_trans hb hg, rest⟩

set_option maxRecDepth 100000 in
set_option maxHeartbeats 2000000 in
theorem All1_any (b off cap u1 u2 : Nat) (x : Int) (ns : List NodeD) (w : World) (hR : RightF ns) (hF : FAt w b off cap ns) (hx : thereB ns.length x = true) (hkl : ∀ (i : Nat) (hi : i < ns.length), ns[i].kids.length ≤ 1099511627776) (hlen : (allD ns x).length ≤ 1099511627776)
    (c1 : w.cell? ⟨u1, 0, none⟩ = some (.slice (some ⟨b, off, none⟩) ns.length cap)) (c2 : w.cell? ⟨u2, 0, none⟩ = some (.int .i64 x)) :
    Calls Tryz.prog 43 #[.pointer (some ⟨u1, 0, none⟩), .pointer (some ⟨u2, 0, none⟩)] w fun e w' => ∃ v, e = .returned v ∧ w'.ownsRow w.heap.size 3 1 v (allD ns x).length ((allD ns x).map (Value.int .i64)) ∧ Below w.heap.size w w' := by
  have hP := listK_any b off cap x ns w hR hF hx hkl hlen
  unfold forestV at hP
  generalize allD ns x = P at *
  clear hkl hlen
  go_enter Tryz.func43, Tryz.ntmps43
  go_wp2_with fail
  refine hP.mono ?_
  rintro e v1 ⟨v, rfl, hrow, hb1⟩
  have HRow := hid hrow
  have HB := hid hb1
  clear hP hb1 hrow
  go_wp2
  exact bodyPost_ret (v := v) (by simp [results, Tryz.results43, go_sem]) rfl ⟨v, rfl, HRow.out, HB.out⟩

set_option maxRecDepth 100000 in
set_option maxHeartbeats 4000000 in
theorem toldAll_any (o : Option Addr) (cap u1 u2 : Nat) (R : List Int) (v : Value) (hs : List Int) (ns : List NodeD) (w : World) (hF : FRd w o cap ns) (hkl : ∀ (i : Nat) (hi : i < ns.length), ns[i].kids.length ≤ 1099511627776) (hal : ∀ (i : Nat) (hi : i < ns.length), ns[i].attrs.length ≤ 1099511627776) (hv : RdI w v hs) (hl : hs.length ≤ 1099511627776)
    (hT : toldE ns hs = 0 → ∀ W : World, Below w.heap.size w W → Calls Tryz.prog 43 #[.pointer (some ⟨u1, 0, none⟩), .pointer (some ⟨u2, 0, none⟩)] W fun e w' => ∃ v, e = .returned v ∧ w'.ownsRow w.heap.size 3 1 v R.length (R.map (Value.int .i64)) ∧ Below W.heap.size W w') :
    Calls Tryz.prog 42 #[.agg #[.slice o ns.length cap], .func (.func 43) #[] #[.pointer (some ⟨u1, 0, none⟩), .pointer (some ⟨u2, 0, none⟩)], v] w fun e w' => ∃ v, e = .returned (.tuple #[v, .int .i64 (toldE ns hs)]) ∧ w'.ownsRow w.heap.size 3 1 v (if toldE ns hs = 0 then R else []).length ((if toldE ns hs = 0 then R else []).map (Value.int .i64)) ∧ Below w.heap.size w w' := by
  have HC : Hid (∀ W : World, Below w.heap.size w W → _) := fun W hW => Check_any o cap ns W (hF.later hW) hkl hal
  have hle := hF.len
  obtain ⟨o2, c2, rfl, hc2, g2⟩ := hv
  clear hF hkl hal
  generalize checkN ns = CN at *
  cases hr : rightD ns with
  | false =>
    have e0 : toldE ns hs = 5 := by unfold toldE; rw [hr]; rfl
    have e1 : checkE ns = 5 := by unfold checkE; rw [hr]; rfl
    rw [e0, if_neg (by decide)]
    rw [e1] at HC
    clear hT e0 e1 g2
    go_enter Tryz.func42, Tryz.ntmps42
    go_wp2_with fail
    refine (HC.out _ ((Below.refl _ w).alloc (Nat.le_refl _) _)).mono ?_
    rintro e v1 ⟨rfl, hb1⟩
    go_wp2
    go_ret2
    exact ⟨_, rfl, World.ownsRow_nil _ _ _ _, box_go hb1⟩
  | true =>
    have e1 : checkE ns = 0 := (checkE_right hr).1
    rw [e1] at HC
    obtain ⟨E, hE⟩ : ∃ E, toldE ns hs = E := ⟨_, rfl⟩
    rw [hE] at hT ⊢
    have HE : Hid ((if (hs.drop 0).all (thereB ns.length) then (0 : Int) else 2) = E) := by
      have := hE
      unfold toldE at this
      rw [hr, if_pos rfl] at this
      exact this
    obtain ⟨T, hTe⟩ : ∃ T, (if E = 0 then R else []) = T := ⟨_, rfl⟩
    rw [hTe]
    have HTe := hid hTe
    have HT := hid hT
    clear hE hT e1 hTe
    go_enter Tryz.func42, Tryz.ntmps42
    go_wp2_with fail
    refine (HC.out _ ((Below.refl _ w).alloc (Nat.le_refl _) _)).mono ?_
    rintro e v1 ⟨rfl, hb1⟩
    have HB1 := hid (box_go hb1)
    have cb := box_forest hb1
    clear hb1 HC
    go_wp2
    go_loopw [24] (fun t wr => ∃ k : Nat, k ≤ hs.length ∧ t = .int .i64 k ∧ wr = v1 ∧ Hid ((if (hs.drop k).all (thereB ns.length) then (0 : Int) else 2) = E)) (fun t _ => hs.length - (RowKit.intOf t).toNat)
    case atStart => exact ⟨0, Nat.zero_le _, rfl, rfl, HE⟩
    case round =>
      obtain ⟨k, k1, rfl, rfl, hK⟩ := hrel
      by_cases hlt : k < hs.length
      · obtain ⟨b, off, rfl, hlt1, ha⟩ := g2 (by omega)
        have x1 := (HB1.out.cell (p := ⟨b, off + k, none⟩) hlt1).trans (ha k hlt)
        have q1 : (0 : Int) ≤ (k : Int) := by omega
        have q2 : (k : Int) < (hs.length : Int) := by omega
        have hk := hK.out
        rw [List.drop_eq_getElem_cons hlt, List.all_cons] at hk
        have Hk := hid hk
        clear hk hK ha g2
        generalize hs[k] = a at *
        by_cases g1 : a < 1
        · have hf : thereB ns.length a = false := by unfold thereB; rw [decide_eq_false (by omega)]; rfl
          have hE2 : E = 2 := by rw [← Hk.out, hf]; rfl
          subst hE2
          have hT0 : T = [] := by rw [← HTe.out]; rfl
          subst hT0
          have d1 : decide (a < 1) = true := decide_eq_true g1
          clear Hk hf HT
          go_wp2
          go_ret2
          exact ⟨_, rfl, World.ownsRow_nil _ _ _ _, HB1.out⟩
        · have d1 : decide (a < 1) = false := decide_eq_false g1
          by_cases g3 : (ns.length : Int) < a
          · have hf : thereB ns.length a = false := by unfold thereB; rw [decide_eq_false (p := a ≤ (ns.length : Int)) (by omega), Bool.and_false]
            have hE2 : E = 2 := by rw [← Hk.out, hf]; rfl
            subst hE2
            have hT0 : T = [] := by rw [← HTe.out]; rfl
            subst hT0
            have d2 : decide ((ns.length : Int) < a) = true := decide_eq_true g3
            clear Hk hf HT
            go_wp2
            go_ret2
            exact ⟨_, rfl, World.ownsRow_nil _ _ _ _, HB1.out⟩
          · have hf : thereB ns.length a = true := by unfold thereB; rw [decide_eq_true (by omega), decide_eq_true (by omega)]; rfl
            have d2 : decide ((ns.length : Int) < a) = false := decide_eq_false g3
            have Hn : Hid ((if (hs.drop (k + 1)).all (thereB ns.length) then (0 : Int) else 2) = E) := by
              have h := Hk.out
              rw [hf, Bool.true_and] at h
              exact h
            clear Hk hf
            go_wp2
            go_roundw
            case rel => exact ⟨k + 1, by omega, by go_num, trivial, Hn⟩
            case measure => simp [RowKit.intOf]; omega
      · have hE0 : E = 0 := by rw [← hK.out, List.drop_eq_nil_of_le (by omega)]; rfl
        subst hE0
        have hT := HT.out rfl wr HB1.out
        have hT0 : T = R := by rw [← HTe.out]; rfl
        subst hT0
        clear hK g2 HT HTe
        go_wp2_with fail
        refine hT.mono ?_
        rintro e v2 ⟨vr, rfl, hrow, hb2⟩
        have HB2 := hid (HB1.out.trans (hb2.mono HB1.out.size))
        have HRow := hid hrow
        clear hT hb2 hrow
        go_wp2
        go_ret2
        exact ⟨_, rfl, HRow.out, HB2.out⟩

set_option maxRecDepth 100000 in
set_option maxHeartbeats 4000000 in
theorem All_any (o : Option Addr) (cap : Nat) (x : Int) (ns : List NodeD) (w : World) (hF : FRd w o cap ns) (hkl : ∀ (i : Nat) (hi : i < ns.length), ns[i].kids.length ≤ 1099511627776) (hal : ∀ (i : Nat) (hi : i < ns.length), ns[i].attrs.length ≤ 1099511627776) (hlen : toldE ns [x] = 0 → (allD ns x).length ≤ 1099511627776) :
    Calls Tryz.prog 19 #[.agg #[.slice o ns.length cap], .int .i64 x] w fun e w' => ∃ v, e = .returned (.tuple #[v, .int .i64 (toldE ns [x])]) ∧ w'.ownsRow w.heap.size 3 1 v (if toldE ns [x] = 0 then allD ns x else []).length ((if toldE ns [x] = 0 then allD ns x else []).map (Value.int .i64)) ∧ Below w.heap.size w w' := by
  have hB3 : Below w.heap.size w (((w.alloc (.cells #[.slice o ns.length cap] 24)).alloc (.cells #[.int .i64 x] 3)).alloc (.cells #[.int .i64 x] 3)) := (((Below.refl _ w).alloc (Nat.le_refl _) _).alloc (by simp) _).alloc (by simp; omega) _
  have k0 := new_cell_l w (.slice o ns.length cap) 24
  have k1 := new_cell_l (w.alloc (.cells #[.slice o ns.length cap] 24)) (.int .i64 x) 3
  have kr := one_rdI ((w.alloc (.cells #[.slice o ns.length cap] 24)).alloc (.cells #[.int .i64 x] 3)) x 3
  simp only [World.size_alloc] at k1 kr
  have c0 := keep_cell_l (.cells #[.int .i64 x] 3) (keep_cell_l (.cells #[.int .i64 x] 3) k0.1)
  have c1 := keep_cell_l (.cells #[.int .i64 x] 3) k1.1
  have s0 : w.heap.size < (((w.alloc (.cells #[.slice o ns.length cap] 24)).alloc (.cells #[.int .i64 x] 3)).alloc (.cells #[.int .i64 x] 3)).heap.size := by simp only [World.size_alloc]; omega
  have hT := toldAll_any o cap w.heap.size (w.heap.size + 1) (allD ns x) (.slice (some ⟨w.heap.size + 1 + 1, 0, none⟩) 1 1) [x] ns (((w.alloc (.cells #[.slice o ns.length cap] 24)).alloc (.cells #[.int .i64 x] 3)).alloc (.cells #[.int .i64 x] 3)) (hF.later hB3) hkl hal kr (by simp) (fun hE W hW => by
    obtain ⟨hR, hth⟩ := toldE_zero hE
    have hx := hth x (by simp)
    obtain ⟨i, hi, _⟩ := there_idx hx
    obtain ⟨b, off, rfl, hFA⟩ := hF.at_ (by omega)
    have hBW := hB3.trans (hW.mono hB3.size)
    have h1 := All1_any b off cap w.heap.size (w.heap.size + 1) x ns W hR (hFA.later hBW) hx hkl (hlen hE)
      ((hW.cell (p := ⟨w.heap.size, 0, none⟩) s0).trans c0)
      ((hW.cell (p := ⟨w.heap.size + 1, 0, none⟩) (by show w.heap.size + 1 < _; simp only [World.size_alloc]; omega)).trans c1)
    refine h1.mono ?_
    rintro e w' ⟨v, rfl, hr, hb⟩
    exact ⟨v, rfl, ownsRow_base hr hW.size, hb⟩)
  generalize (if toldE ns [x] = 0 then allD ns x else []) = A at *
  generalize toldE ns [x] = E at *
  have HB3 := hid hB3
  clear k0 k1 kr c0 c1 s0 hF hkl hal hB3 hlen
  go_enter Tryz.func19, Tryz.ntmps19
  go_wp2_with fail
  refine hT.mono ?_
  rintro e v1 ⟨v, rfl, hrow, hb1⟩
  have HRow := hid (ownsRow_base hrow HB3.out.size)
  have HB := hid (HB3.out.trans (hb1.mono HB3.out.size))
  clear hT hb1 HB3 hrow
  go_wp2
  go_ret2
  exact ⟨_, rfl, HRow.out, HB.out⟩
end Go.Proofs.YticenjhhefiboaaGreat

namespace Go.Proofs.YticenjhhefiboaaGreat
open Go.RowKit Go.Lib

theorem firstB_filter (q : Int → Bool) : ∀ a : List Int, firstB q a = (a.filter q).headD 0
  | [] => rfl
  | x :: t => by
    rw [firstB_cons]
    cases h : q x with
    | true => rw [if_pos rfl, List.filter_cons_of_pos h]; rfl
    | false => rw [if_neg Bool.false_ne_true, List.filter_cons_of_neg (by rw [h]; exact Bool.false_ne_true)]; exact firstB_filter q t
theorem firstB_back (q : Int → Bool) (a : List Int) : firstB q a.reverse = (a.filter q).reverse.headD 0 := by
  rw [firstB_filter, List.filter_reverse]
/-- Where the c-th one of those that are accepted stands. -/
theorem split_filter (q : Int → Bool) : ∀ (l : List Int) (c : Nat) (hc : c < (l.filter q).length), ∃ (j : Nat) (hj : j < l.length), l[j] = (l.filter q)[c] ∧ (l.take j).filter q = (l.filter q).take c ∧ (l.drop j).filter q = (l.filter q).drop c ∧ (l.take (j + 1)).filter q = (l.filter q).take (c + 1) ∧ (l.drop (j + 1)).filter q = (l.filter q).drop (c + 1)
  | [], c, hc => absurd hc (by simp)
  | x :: t, c, hc => by
    cases h : q x with
    | true =>
      have hf : (x :: t).filter q = x :: t.filter q := List.filter_cons_of_pos h
      cases c with
      | zero =>
        refine ⟨0, by simp, ?_, by simp, by simp, ?_, by simp [hf]⟩
        · simp [hf]
        · simp [hf, h]
      | succ c =>
        have hc2 : c < (t.filter q).length := by rw [hf] at hc; simpa using hc
        obtain ⟨j, hj, e1, e2, e3, e4, e5⟩ := split_filter q t c hc2
        refine ⟨j + 1, by simp; exact hj, ?_, ?_, ?_, ?_, ?_⟩
        · simp [hf, e1]
        · rw [List.take_succ_cons, List.filter_cons_of_pos h, e2, hf, List.take_succ_cons]
        · rw [List.drop_succ_cons, e3, hf, List.drop_succ_cons]
        · rw [List.take_succ_cons, List.filter_cons_of_pos h, e4, hf, List.take_succ_cons]
        · rw [List.drop_succ_cons, e5, hf, List.drop_succ_cons]
    | false =>
      have hn : ¬ q x = true := by rw [h]; exact Bool.false_ne_true
      have hf : (x :: t).filter q = t.filter q := List.filter_cons_of_neg hn
      have hc2 : c < (t.filter q).length := by rw [hf] at hc; exact hc
      obtain ⟨j, hj, e1, e2, e3, e4, e5⟩ := split_filter q t c hc2
      refine ⟨j + 1, by simp; exact hj, ?_, ?_, ?_, ?_, ?_⟩
      · simp [hf, e1]
      · rw [List.take_succ_cons, List.filter_cons_of_neg hn, e2, hf]
      · rw [List.drop_succ_cons, e3, hf]
      · rw [List.take_succ_cons, List.filter_cons_of_neg hn, e4, hf]
      · rw [List.drop_succ_cons, e5, hf]
section
variable {ns : List NodeD} {root ref : Int} {bef : Bool} {sh : Nat} {rules : List RuleD}
/-- The nodes that are accepted. -/
def tellL (ns : List NodeD) (root : Int) (sh : Nat) (rules : List RuleD) : List Int := (allA ns root).filter (fun y => verdictOf ns sh rules y == 1)
/-- An iterator stands behind c of those that are accepted. -/
structure Behind (ns : List NodeD) (root ref : Int) (bef : Bool) (sh : Nat) (rules : List RuleD) (c : Nat) : Prop where
  right : iterC ns root ref rules = 0
  took : ((allA ns root).take (atN ns root ref bef)).filter (fun y => verdictOf ns sh rules y == 1) = (tellL ns root sh rules).take c
  left : ((allA ns root).drop (atN ns root ref bef)).filter (fun y => verdictOf ns sh rules y == 1) = (tellL ns root sh rules).drop c
theorem Behind.next {c : Nat} (h : Behind ns root ref bef sh rules c) : nextT ns root ref bef sh rules = ((tellL ns root sh rules).drop c).headD 0 := by
  rw [← next_ref h.right, firstB_filter, h.left]
theorem Behind.prev {c : Nat} (h : Behind ns root ref bef sh rules c) : prevT ns root ref bef sh rules = ((tellL ns root sh rules).take c).reverse.headD 0 := by
  rw [← prev_ref h.right, firstB_back, h.took]
theorem idx_at {l : List Int} (hn : l.Nodup) (j : Nat) (hj : j < l.length) : idxI l l[j] 0 = (j : Int) := by
  rw [idxI_idxW l l[j] 0 (List.getElem_mem hj), Nat.zero_add, hn.idxOf_getElem j hj]
theorem behind_start (hc : iterC ns root root rules = 0) : Behind ns root root true sh rules 0 := by
  obtain ⟨hR, hr, _, _, hin⟩ := iterC_ok hc
  have hl : allA ns root = root :: afterA ns root root := all_after hR hr
  have h0 : atN ns root root true = 0 := by
    have hp := (at_place hc).1
    rw [hl] at hp
    have : idxI (root :: afterA ns root root) root 0 = 0 := by unfold idxI; rw [beq_self_eq_true, if_pos rfl]; rfl
    rw [this] at hp
    unfold atN
    rw [if_pos rfl]
    omega
  refine ⟨hc, ?_, ?_⟩
  · rw [h0, List.take_zero, List.take_zero]
    rfl
  · rw [h0, List.drop_zero, List.drop_zero]
    rfl
/-- Where an iterator stands that has told the c-th one, there or back. -/
theorem behind_told (hR : RightF ns) (hr : thereB ns.length root = true) (hf : filterE rules = 0) (c : Nat) (hc : c < (tellL ns root sh rules).length) : Behind ns root (tellL ns root sh rules)[c] true sh rules c ∧ Behind ns root (tellL ns root sh rules)[c] false sh rules (c + 1) ∧ (tellL ns root sh rules)[c] ≠ 0 := by
  obtain ⟨j, hj, e1, e2, e3, e4, e5⟩ := split_filter (fun y => verdictOf ns sh rules y == 1) (allA ns root) c hc
  have hm := (hR.kidsHang.below_iff (ns.length + 1) root (allA ns root)[j] hr (by omega)).1 (List.getElem_mem hj)
  have hn : (allA ns root).Nodup := hR.kidsHang.below_once _ root hr (by omega)
  have hi : iterC ns root (allA ns root)[j] rules = 0 := iterC_of hR hr hf hm.1 hm.2
  have hp := (at_place hi).1
  rw [idx_at hn j hj] at hp
  have ht : atN ns root (allA ns root)[j] true = j := by unfold atN; rw [if_pos rfl]; omega
  have hff : atN ns root (allA ns root)[j] false = j + 1 := by unfold atN; rw [if_neg Bool.false_ne_true]; omega
  have hget : (tellL ns root sh rules)[c] = (allA ns root)[j] := e1.symm
  rw [hget]
  refine ⟨⟨hi, by rw [ht]; exact e2, by rw [ht]; exact e3⟩, ⟨hi, by rw [hff]; exact e4, by rw [hff]; exact e5⟩, there_ne hm.1⟩
end
end Go.Proofs.YticenjhhefiboaaGreat

namespace Go.Proofs.YticenjhhefiboaaGreat
open Go.RowKit Go.Lib Go.Shelf

theorem own_set_far {W : World} {base size n B j : Nat} {e e2 : TypeId} {v : Value} {xs : List Value} {cur : Array Value} {fz : Nat × Nat} (h : W.ownsRow base e size v n xs) (hB : W.heap[B]? = some (.cells cur e2 fz)) (hne : e2 ≠ e) (x : Value) : (W.setCell ⟨B, j, none⟩ x).ownsRow base e size v n xs := by
  obtain ⟨h1, h2⟩ := h
  refine ⟨h1, ?_⟩
  rcases h2 with h2 | ⟨k, cap, cu, hv, hg', hh, r⟩
  · exact .inl h2
  · refine .inr ⟨k, cap, cu, hv, hg', ?_, r⟩
    have hk : k ≠ B := by
      intro e
      rw [e, hB] at hh
      have := Option.some.inj hh
      injection this with _ ht
      exact hne ht
    exact (Below.heap_setCell W ⟨B, j, none⟩ x k hk).trans hh
theorem own_grown {W V : World} {base size n : Nat} {e : TypeId} {v : Value} {xs : List Value} {row : Option Nat} (h : W.ownsRow base e size v n xs) (hg : W.grownBy V row) (hne : ∀ k, v.ownBlock = some k → row ≠ some k) : V.ownsRow base e size v n xs := by
  obtain ⟨h1, h2⟩ := h
  refine ⟨h1, ?_⟩
  rcases h2 with h2 | ⟨k, cap, cu, hv, hg', hh, r⟩
  · exact .inl h2
  · exact .inr ⟨k, cap, cu, hv, hg', heap_growI hh hg (hne k (by rw [hv]; rfl)), r⟩
theorem set5 {X : World} {g : Nat} {a b c d e : Value} {t : TypeId} (h : X.heap[g]? = some (.cells #[a, b, c, d, e] t)) (p0 p1 p2 p3 p4 : Value) : (((((X.setCell ⟨g, 0, none⟩ p0).setCell ⟨g, 1, none⟩ p1).setCell ⟨g, 2, none⟩ p2).setCell ⟨g, 3, none⟩ p3).setCell ⟨g, 4, none⟩ p4).heap[g]? = some (.cells #[p0, p1, p2, p3, p4] t) := by
  have st : ∀ (W : World) (k : Nat) (v : Value) (cur : Array Value), W.heap[g]? = some (.cells cur t) → (W.setCell ⟨g, k, none⟩ v).heap[g]? = some (.cells (cur.setIfInBounds k v) t) := fun W k v cur hW => by
    simp [World.setCell, Array.getElem?_modify, hW]
  exact st _ 4 p4 _ (st _ 3 p3 _ (st _ 2 p2 _ (st _ 1 p1 _ (st _ 0 p0 _ h))))
/-- What lies where. -/
structure AllAt (w : World) (N0 Bf Bt Bi : Nat) (fv sv rv : Value) (root ref : Int) (bef : Bool) (sh : Nat) (o : Option Addr) (c : Nat) (rules : List RuleD) (lv : Value) (l : List Int) (tv : Value) (told : List Int) (W : World) : Prop where
  below : Below w.heap.size w W
  big : N0 ≤ W.heap.size
  fbox : W.heap[Bf]? = some (.cells #[fv] 24)
  tbox : W.heap[Bt]? = some (.cells #[sv, rv] 28)
  ibox : W.heap[Bi]? = some (.cells #[.int .i64 root, .int .i64 ref, .bool bef, .int .u32 (sh : Int), .slice o rules.length c] 30)
  row : W.ownsRow w.heap.size 86 3 (.slice o rules.length c) rules.length (rulesC rules)
  all : W.ownsRow w.heap.size 3 1 lv l.length (l.map (Value.int .i64))
  old : ∀ k, lv.ownBlock = some k → k < N0
  made : W.ownsRow N0 3 1 tv told.length (told.map (Value.int .i64))
  first : w.heap.size ≤ Bi
  start : w.heap.size ≤ N0
section
variable {w W V : World} {N0 Bf Bt Bi : Nat} {fv sv rv : Value} {root ref : Int} {bef : Bool} {sh : Nat} {o : Option Addr} {c : Nat} {rules : List RuleD} {lv : Value} {l : List Int} {tv : Value} {told : List Int}
theorem AllAt.later (h : AllAt w N0 Bf Bt Bi fv sv rv root ref bef sh o c rules lv l tv told W) (hb : Below W.heap.size W V) : AllAt w N0 Bf Bt Bi fv sv rv root ref bef sh o c rules lv l tv told V where
  below := h.below.trans (hb.mono h.below.size)
  big := Nat.le_trans h.big hb.size
  fbox := keep_blk hb h.fbox
  tbox := keep_blk hb h.tbox
  ibox := keep_blk hb h.ibox
  row := own_laterQ h.row hb
  all := own_laterQ h.all hb
  old := h.old
  made := own_laterQ h.made hb
  first := h.first
  start := h.start
/-- Another iterator is put into its box. -/
theorem AllAt.turn (h : AllAt w N0 Bf Bt Bi fv sv rv root ref bef sh o c rules lv l tv told W) (ref2 : Int) (bef2 : Bool) (o2 : Option Addr) (c2 : Nat) (hr : W.ownsRow w.heap.size 86 3 (.slice o2 rules.length c2) rules.length (rulesC rules)) (n1 : Bi ≠ Bf) (n2 : Bi ≠ Bt) :
    AllAt w N0 Bf Bt Bi fv sv rv root ref2 bef2 sh o2 c2 rules lv l tv told (((((W.setCell ⟨Bi, 0, none⟩ (.int .i64 root)).setCell ⟨Bi, 1, none⟩ (.int .i64 ref2)).setCell ⟨Bi, 2, none⟩ (.bool bef2)).setCell ⟨Bi, 3, none⟩ (.int .u32 (sh : Int))).setCell ⟨Bi, 4, none⟩ (.slice o2 rules.length c2)) := by
  have st : ∀ (X : World) (j : Nat) (v x : Value) (bs size n : Nat) (e : TypeId) (xs : List Value) (cur : Array Value), 30 ≠ e → X.heap[Bi]? = some (.cells cur 30) → X.ownsRow bs e size v n xs → (X.setCell ⟨Bi, j, none⟩ x).ownsRow bs e size v n xs := fun X j v x bs size n e xs cur hne hX ho => own_set_far ho hX hne x
  have hx : ∀ (X : World) (k : Nat) (v : Value) (cur : Array Value), X.heap[Bi]? = some (.cells cur 30) → (X.setCell ⟨Bi, k, none⟩ v).heap[Bi]? = some (.cells (cur.setIfInBounds k v) 30) := fun X k v cur hX => by
    simp [World.setCell, Array.getElem?_modify, hX]
  have b0 := h.ibox
  have b1 := hx _ 0 (.int .i64 root) _ b0
  have b2 := hx _ 1 (.int .i64 ref2) _ b1
  have b3 := hx _ 2 (.bool bef2) _ b2
  have b4 := hx _ 3 (.int .u32 (sh : Int)) _ b3
  have five : ∀ (v : Value) (bs size n : Nat) (e : TypeId) (xs : List Value), 30 ≠ e → W.ownsRow bs e size v n xs → (((((W.setCell ⟨Bi, 0, none⟩ (.int .i64 root)).setCell ⟨Bi, 1, none⟩ (.int .i64 ref2)).setCell ⟨Bi, 2, none⟩ (.bool bef2)).setCell ⟨Bi, 3, none⟩ (.int .u32 (sh : Int))).setCell ⟨Bi, 4, none⟩ (.slice o2 rules.length c2)).ownsRow bs e size v n xs := fun v bs size n e xs hne ho =>
    st _ 4 v _ bs size n e xs _ hne b4 (st _ 3 v _ bs size n e xs _ hne b3 (st _ 2 v _ bs size n e xs _ hne b2 (st _ 1 v _ bs size n e xs _ hne b1 (st _ 0 v _ bs size n e xs _ hne b0 ho))))
  exact {
    below := ((((h.below.setCell (p := ⟨Bi, 0, none⟩) h.first _).setCell (p := ⟨Bi, 1, none⟩) h.first _).setCell (p := ⟨Bi, 2, none⟩) h.first _).setCell (p := ⟨Bi, 3, none⟩) h.first _).setCell (p := ⟨Bi, 4, none⟩) h.first _
    big := by simpa using h.big
    fbox := blk_far (j := 4) (blk_far (j := 3) (blk_far (j := 2) (blk_far (j := 1) (blk_far (j := 0) h.fbox _ n1) _ n1) _ n1) _ n1) _ n1
    tbox := blk_far (j := 4) (blk_far (j := 3) (blk_far (j := 2) (blk_far (j := 1) (blk_far (j := 0) h.tbox _ n2) _ n2) _ n2) _ n2) _ n2
    ibox := set5 h.ibox _ _ _ _ _
    row := five _ _ _ _ _ _ (by decide) hr
    all := five _ _ _ _ _ _ (by decide) h.all
    old := h.old
    made := five _ _ _ _ _ _ (by decide) h.made
    first := h.first
    start := h.start }
/-- One more is told. -/
theorem AllAt.more {tmp : Obj} {x : Int} {tv2 : Value} (h : AllAt w N0 Bf Bt Bi fv sv rv root ref bef sh o c rules lv l tv told W) (hg : (W.alloc tmp).grownBy V tv.ownBlock) (ho : V.ownsRow N0 3 1 tv2 (told ++ [x]).length ((told ++ [x]).map (Value.int .i64))) : AllAt w N0 Bf Bt Bi fv sv rv root ref bef sh o c rules lv l tv2 (told ++ [x]) V := by
  have hb0 : Below W.heap.size W (W.alloc tmp) := (Below.refl _ W).alloc (Nat.le_refl _) _
  have h0 := h.later hb0
  have hblk : ∀ k, tv.ownBlock = some k → N0 ≤ k ∧ ∃ cur, (W.alloc tmp).heap[k]? = some (.cells cur 3 (0, 0)) := fun k hk => by
    rcases h0.made.2 with ⟨e, _⟩ | ⟨g, cap, cur, e, hg2, hh, _⟩
    · rw [e] at hk; cases hk
    · rw [e] at hk
      cases hk
      exact ⟨hg2, cur, hh⟩
  have far : ∀ (k : Nat) (cs : Array Value) (t : TypeId), t ≠ 3 → (W.alloc tmp).heap[k]? = some (.cells cs t (0, 0)) → V.heap[k]? = some (.cells cs t (0, 0)) := fun k cs t hne hk => heap_growI hk hg (fun e => by
    obtain ⟨_, cur, hc⟩ := hblk k e
    rw [hk] at hc
    have := Option.some.inj hc
    injection this with _ ht
    exact hne ht)
  exact {
    below := h0.below.trans ⟨hg.os, hg.tape, hg.output, hg.size, fun k hk => hg.block k (Nat.lt_of_lt_of_le hk h0.below.size) (fun e => by
      have := (hblk k e.symm).1
      have := h.start
      omega)⟩
    big := Nat.le_trans h0.big hg.size
    fbox := far _ _ _ (by decide) h0.fbox
    tbox := far _ _ _ (by decide) h0.tbox
    ibox := far _ _ _ (by decide) h0.ibox
    row := own_grown h0.row hg (fun k hk e => by
      rcases h0.row.2 with ⟨e2, _⟩ | ⟨g, cap, cur, e2, _, hh, _⟩
      · rw [e2] at hk; cases hk
      · rw [e2] at hk
        cases hk
        obtain ⟨_, cur2, hc⟩ := hblk _ e
        rw [hh] at hc
        have := Option.some.inj hc
        injection this with _ ht
        exact absurd ht (by decide))
    all := own_grown h0.all hg (fun k hk e => by
      have := (hblk k e).1
      have := h.old k hk
      omega)
    old := h.old
    made := ho
    first := h.first
    start := h.start }
end
end Go.Proofs.YticenjhhefiboaaGreat

namespace Go.Proofs.YticenjhhefiboaaGreat
open Go.RowKit Go.Lib Go.Shelf

theorem nat_less (i : Nat) : ((i : Int) - 1).toNat = i - 1 := by omega
theorem tell_drop {q : Int → Bool} {l : List Int} {k c : Nat} (h : (l.take k).filter q = (l.filter q).take c) : (l.drop k).filter q = (l.filter q).drop c := by
  have e : l.filter q = (l.take k).filter q ++ (l.drop k).filter q := by rw [← List.filter_append, List.take_append_drop]
  have e2 : (l.filter q).take c ++ (l.drop k).filter q = (l.filter q).take c ++ (l.filter q).drop c := by rw [List.take_append_drop, ← h, ← e]
  exact List.append_cancel_left e2
theorem tell_next {q : Int → Bool} {l : List Int} {k c : Nat} (hk : k < l.length) (h : (l.take k).filter q = (l.filter q).take c) :
    (q l[k] = false → (l.take (k + 1)).filter q = (l.filter q).take c) ∧ (q l[k] = true → ∃ hc2 : c < (l.filter q).length, (l.filter q)[c] = l[k] ∧ (l.take (k + 1)).filter q = (l.filter q).take (c + 1)) := by
  have hd := tell_drop h
  rw [List.drop_eq_getElem_cons hk] at hd
  have ht : l.take (k + 1) = l.take k ++ [l[k]] := List.take_succ_eq_append_getElem hk
  refine ⟨fun hq => ?_, fun hq => ?_⟩
  · rw [ht, List.filter_append, h, List.filter_cons_of_neg (by rw [hq]; exact Bool.false_ne_true)]
    simp
  · rw [List.filter_cons_of_pos hq] at hd
    have hc2 : c < (l.filter q).length := by
      by_cases hlt : c < (l.filter q).length
      · exact hlt
      · have h0 : (l.filter q).drop c = [] := List.drop_of_length_le (by omega)
        rw [h0] at hd
        cases hd
    rw [List.drop_eq_getElem_cons hc2] at hd
    have hy := (List.cons.inj hd).1
    refine ⟨hc2, hy.symm, ?_⟩
    rw [ht, List.filter_append, h, List.filter_cons_of_pos hq, List.take_succ_eq_append_getElem hc2, ← hy]
    rfl
theorem told_rootV {ns : List NodeD} (h : RightF ns) (x : Int) : toldE ns [x] = if thereB ns.length x then 0 else 2 := by
  unfold toldE
  rw [(rightD_iff ns).2 h, if_pos rfl]
  cases hn : thereB ns.length x <;> simp [hn]
theorem wrong_self {ns : List NodeD} {rules : List RuleD} (h : RightF ns) (hf : filterE rules = 0) {x : Int} (hx : thereB ns.length x = true) : iterC ns x x rules = 0 := iterC_of h hx hf hx (by rw [pathUp_head h hx]; exact List.mem_cons_self ..)
theorem own_lt {W : World} {base : Nat} {e : TypeId} {size : Nat} {v : Value} {n k : Nat} {xs : List Value} (h : W.ownsRow base e size v n xs) (hk : v.ownBlock = some k) : k < W.heap.size := by
  rcases h.2 with ⟨e1, _⟩ | ⟨g, cap, cur, hv, _, hh, _⟩
  · rw [e1] at hk; cases hk
  · rw [hv] at hk
    cases hk
    exact heap_lt hh
theorem own_slice {W : World} {base : Nat} {e : TypeId} {size : Nat} {v : Value} {n : Nat} {xs : List Value} (h : W.ownsRow base e size v n xs) (hn : 0 < n) : ∃ g c, v = .slice (some ⟨g, 0, none⟩) n c := by
  rcases h.2 with ⟨_, h0⟩ | ⟨g, cap, cur, hv, _⟩
  · omega
  · exact ⟨g, cap, hv⟩

set_option maxRecDepth 100000 in
set_option maxHeartbeats 32000000 in
theorem iall_walk (b off cap : Nat) (ns : List NodeD) (root : Int) (sh : Nat) (ro : Option Addr) (rc : Nat) (rules : List RuleD) (w : World) (hF : FAt w b off cap ns) (hkl : ∀ (i : Nat) (hi : i < ns.length), ns[i].kids.length ≤ 1099511627776) (hal : ∀ (i : Nat) (hi : i < ns.length), ns[i].attrs.length ≤ 1099511627776) (hru : RdR w (.slice ro rules.length rc) rules) (hrl : rules.length ≤ 1099511627776) (hs : sh < 4294967296) (hc : iterC ns root root rules = 0) :
    Calls Tryz.prog 6 #[.agg #[.slice (some ⟨b, off, none⟩) ns.length cap], .int .i64 root, .agg #[.int .u32 (sh : Int), .slice ro rules.length rc]] w fun e w' => e = .returned (.bool true) ∧ Below w.heap.size w w' := by
  obtain ⟨hR, hr, hf, _, _⟩ := iterC_ok hc
  obtain ⟨_, pl2, _, pl4⟩ := at_place hc
  have hFr : ∀ W : World, Below w.heap.size w W → FRd W (some ⟨b, off, none⟩) cap ns := fun W hW => at_rdT (hF.later hW)
  have HN : Hid (∀ W : World, Below w.heap.size w W → _) := fun W hW => inew_any (some ⟨b, off, none⟩) cap ns root sh ro rc rules W (hFr W hW) hkl hal (hru.later hW) hrl hs hc
  have hto : toldE ns [root] = 0 := by rw [told_rootV hR, hr]; rfl
  have HAl : Hid (∀ W : World, Below w.heap.size w W → Calls Tryz.prog 19 #[.agg #[.slice (some ⟨b, off, none⟩) ns.length cap], .int .i64 root] W fun e w' => ∃ v, e = .returned (.tuple #[v, .int .i64 0]) ∧ w'.ownsRow W.heap.size 3 1 v (allA ns root).length ((allA ns root).map (Value.int .i64)) ∧ Below W.heap.size W w') := fun W hW => by
    have := All_any (some ⟨b, off, none⟩) cap root ns W (hFr W hW) hkl hal (fun _ => by have : (allD ns root).length ≤ 4096 := pl2; omega)
    rw [hto] at this
    exact this
  have HAc : Hid (∀ (x : Int) (W : World), Below w.heap.size w W → thereB ns.length x = true → Calls Tryz.prog 20 #[.agg #[.slice (some ⟨b, off, none⟩) ns.length cap], .agg #[.int .u32 (sh : Int), .slice ro rules.length rc], .int .i64 x] W fun e w' => e = .returned (.tuple #[.int .u8 (verdictOf ns sh rules x : Int), .int .i64 0]) ∧ Below W.heap.size W w') := fun x W hW hx => Accept_okI b off cap ns x sh ro rc rules W (hF.later hW) hkl hal (hru.later hW) hs (by
    rw [wrong_iter]
    exact wrong_self hR hf hx)
  have HX : Hid (∀ (ref : Int) (bef : Bool) (o : Option Addr) (c k : Nat) (W : World), Below w.heap.size w W → Behind ns root ref bef sh rules k → RdR W (.slice o rules.length c) rules → _) := fun ref bef o c k W hW hB hr2 => inext_any (some ⟨b, off, none⟩) cap ns root ref bef sh o c rules W (hFr W hW) hkl hal hr2 hrl hs hB.right
  have HP : Hid (∀ (ref : Int) (bef : Bool) (o : Option Addr) (c k : Nat) (W : World), Below w.heap.size w W → Behind ns root ref bef sh rules k → RdR W (.slice o rules.length c) rules → _) := fun ref bef o c k W hW hB hr2 => iprev_any (some ⟨b, off, none⟩) cap ns root ref bef sh o c rules W (hFr W hW) hkl hal hr2 hrl hs hB.right
  have Hpl4 := hid pl4
  have HR := hid (show RightF ns ∧ thereB ns.length root = true ∧ filterE rules = 0 from ⟨hR, hr, hf⟩)
  have HB00 := hid (behind_start (sh := sh) hc)
  have HG := hid (fun W : World => beginsI_true W)
  have hT : tellL ns root sh rules = (allA ns root).filter (fun y => verdictOf ns sh rules y == 1) := rfl
  obtain ⟨bx, g0, g1, sx⟩ := two_new w (.cells #[.slice (some ⟨b, off, none⟩) ns.length cap] 24) (.cells #[.int .u32 (sh : Int), .slice ro rules.length rc] 28)
  have HB0 := hid bx
  have P0_0 := hid g0
  have P1_0 := hid g1
  have cz := (box_cell_l g0).1
  obtain ⟨fz0, fz1⟩ := box2I g1
  have Hl2 := hid pl2
  clear bx g0 g1 sx hF hkl hal hru hc hR hr hf pl4 hFr hto pl2
  obtain ⟨T, hTe⟩ : ∃ T, tellL ns root sh rules = T := ⟨_, rfl⟩
  have HT := hid (hTe.symm.trans hT)
  have HTe := hid hTe
  clear hT hTe
  generalize allA ns root = l at *
  go_enter Tryz.func6, Tryz.ntmps6
  go_upto_region 1 with fail
  generalize ((w.alloc (.cells #[.slice (some ⟨b, off, none⟩) ns.length cap] 24)).alloc (.cells #[.int .u32 (sh : Int), .slice ro rules.length rc] 28)) = V0 at *
  go_wp2_with fail
  refine (HG.out V0).mono ?_
  rintro e V1 ⟨rfl, hb⟩
  have HB1 := hid (HB0.out.trans (hb.mono HB0.out.size))
  have P0_1 := hid (keep_blk hb P0_0.out)
  have P1_1 := hid (keep_blk hb P1_0.out)
  clear hb HB0 P0_0 P1_0 cz fz0 fz1
  have cz := (box_cell_l P0_1.out).1
  obtain ⟨fz0, fz1⟩ := box2I P1_1.out
  go_wp2_with fail
  refine (HN.out V1 HB1.out).mono ?_
  rintro e V2 ⟨oi, ci, rfl, hown, hb⟩
  have ba : Below V2.heap.size V2 (V2.alloc (.cells #[.int .i64 root, .int .i64 root, .bool true, .int .u32 (sh : Int), .slice oi rules.length ci] 30)) := (Below.refl _ V2).alloc (Nat.le_refl _) _
  have P0_2 := hid (keep_blk ba (keep_blk hb P0_1.out))
  have P1_2 := hid (keep_blk ba (keep_blk hb P1_1.out))
  have hn := heap_new V2 (.cells #[.int .i64 root, .int .i64 root, .bool true, .int .u32 (sh : Int), .slice oi rules.length ci] 30)
  have PI := hid hn
  have RO := hid (own_laterQ (own_baseI HB1.out.size hown) ba)
  have HB2 := hid ((HB1.out.trans (hb.mono HB1.out.size)).trans (ba.mono (HB1.out.trans (hb.mono HB1.out.size)).size))
  have hBi := (HB1.out.trans (hb.mono HB1.out.size)).size
  have nf : V2.heap.size ≠ w.heap.size := Nat.ne_of_gt (Nat.lt_of_lt_of_le (heap_lt P0_1.out) hb.size)
  have nt : V2.heap.size ≠ w.heap.size + 1 := Nat.ne_of_gt (Nat.lt_of_lt_of_le (heap_lt P1_1.out) hb.size)
  obtain ⟨Bi, hBie⟩ : ∃ Bi, V2.heap.size = Bi := ⟨_, rfl⟩
  rw [hBie] at PI hBi nf nt
  clear hb ba hn hown HB1 P0_1 P1_1 HN cz fz0 fz1
  go_upto_region 4 with fail
  generalize V2.alloc (.cells #[.int .i64 root, .int .i64 root, .bool true, .int .u32 (sh : Int), .slice oi rules.length ci] 30) = V3 at *
  clear hBie
  have cz := (box_cell_l P0_2.out).1
  go_wp2_with fail
  refine (HAl.out V3 HB2.out).mono ?_
  rintro e V4 ⟨lv, rfl, hlv, hb⟩
  have HA0 : Hid (AllAt w V4.heap.size w.heap.size (w.heap.size + 1) Bi (.slice (some ⟨b, off, none⟩) ns.length cap) (.int .u32 (sh : Int)) (.slice ro rules.length rc) root root true sh oi ci rules lv l (.slice none 0 0) [] V4) := ⟨HB2.out.trans (hb.mono HB2.out.size), Nat.le_refl _, keep_blk hb P0_2.out, keep_blk hb P1_2.out, keep_blk hb PI.out, own_laterQ RO.out hb, own_baseI HB2.out.size hlv, fun k hk => own_lt hlv hk, ⟨rfl, .inl ⟨rfl, rfl⟩⟩, hBi, (HB2.out.trans (hb.mono HB2.out.size)).size⟩
  clear hb hlv HB2 P0_2 P1_2 PI RO HAl cz
  obtain ⟨N0, hN0⟩ : ∃ N0, V4.heap.size = N0 := ⟨_, rfl⟩
  rw [hN0] at HA0
  clear hN0
  go_wp2
  go_loopw [11, 12] (fun t u wr => ∃ (k c : Nat) (ref : Int) (bef : Bool) (oj : Option Addr) (cj : Nat), u = .int .i64 (k : Int) ∧ k ≤ l.length ∧ Hid ((l.take k).filter (fun y => verdictOf ns sh rules y == 1) = T.take c ∧ c ≤ T.length) ∧ Hid (Behind ns root ref bef sh rules c) ∧ Hid (AllAt w N0 w.heap.size (w.heap.size + 1) Bi (.slice (some ⟨b, off, none⟩) ns.length cap) (.int .u32 (sh : Int)) (.slice ro rules.length rc) root ref bef sh oj cj rules lv l t (T.take c) wr)) (fun _ u _ => l.length - (RowKit.intOf u).toNat)
  case atStart => exact ⟨0, 0, root, true, oi, ci, rfl, Nat.zero_le _, ⟨rfl, Nat.zero_le _⟩, HB00, HA0⟩
  case round =>
    obtain ⟨k, c, ref, bef, oj, cj, rfl, hk, hTk, hBh, hAt⟩ := hrel
    clear HA0 HB00
    have hl4 := Hl2.out
    have PF := hid hAt.out.fbox
    have PT := hid hAt.out.tbox
    have WB := hid hAt.out.below
    by_cases hlt : k < l.length
    · obtain ⟨gl, cl, rfl⟩ := own_slice hAt.out.all (by omega)
      have hrd := ownsRow_rdI hAt.out.all
      obtain ⟨o9, c9, e9, _, g9⟩ := hrd
      obtain ⟨b9, off9, e8, hl9, ha9⟩ := g9 (by omega)
      have hx := ha9 k hlt
      simp only [Value.slice.injEq] at e9
      rw [e8] at e9
      obtain ⟨e9a, _, e9x⟩ := e9
      subst e9x
      have e9b := Option.some.inj e9a
      injection e9b with e9c e9d _
      subst e9c e9d
      have hth := Hpl4.out l[k] (List.getElem_mem hlt)
      have hT0 := HT.out
      have htk := tell_next (q := (fun y => verdictOf ns sh rules y == 1)) hlt (by rw [← hT0]; exact hTk.out.1)
      rw [← hT0] at htk
      obtain ⟨y, hy⟩ : ∃ y, l[k] = y := ⟨_, rfl⟩
      rw [hy] at hx hth htk
      have HXC := hid hx
      have Hth := hid hth
      have HTK := hid htk
      have Hl9 := hid hl9
      have p1 : (0 : Int) ≤ (k : Int) := by omega
      have p2 : (k : Int) < (l.length : Int) := by omega
      clear hx hth htk hT0 e9a e8 ha9 g9 hl9
      go_upto_region 13 with fail
      refine wp_region_held_drew (S := fun W => Below wr.heap.size wr W) (by kernel_rfl) (below_drew wr) (fun hHeld => ?_)
      have D0 := hid (below_drew wr)
      generalize wr.drew = X0 at *
      refine wpAnyH_one 0 58 (.agg #[.slice (some ⟨b, off, none⟩) ns.length cap]) hHeld rfl rfl (by kernel_rfl) (fun _ _ _ _ _ h => h) (by kernel_rfl) (by kernel_rfl) (by rfl) ?_ ?_
      · intro V hSw; (try dsimp only at hSw); have cf := (box_cell_l (keep_blk hSw PF.out)).1; go_simp
      simp only [Act.put, List.setIfInBounds_toArray, List.set_cons_zero, List.set_cons_succ]
      refine wpAnyH_one 1 59 (.agg #[.int .u32 (sh : Int), .slice ro rules.length rc]) hHeld rfl rfl (by kernel_rfl) (fun _ _ _ _ _ h => h) (by kernel_rfl) (by kernel_rfl) (by rfl) ?_ ?_
      · intro V hSw; (try dsimp only at hSw); have cg := box2I (keep_blk hSw PT.out); obtain ⟨q0, q1⟩ := cg; go_simp
      simp only [Act.put, List.setIfInBounds_toArray, List.set_cons_zero, List.set_cons_succ]
      refine wpAnyH_one 2 60 (.slice (some ⟨gl, 0, none⟩) l.length cl) hHeld rfl rfl (by kernel_rfl) (fun _ _ _ _ _ h => h) (by kernel_rfl) (by kernel_rfl) (by rfl) ?_ ?_
      · intro V hSw; (try dsimp only at hSw); go_simp
      simp only [Act.put, List.setIfInBounds_toArray, List.set_cons_zero, List.set_cons_succ]
      refine wpAnyH_one 3 61 (.int .i64 (k : Int)) hHeld rfl rfl (by kernel_rfl) (fun _ _ _ _ _ h => h) (by kernel_rfl) (by kernel_rfl) (by rfl) ?_ ?_
      · intro V hSw; (try dsimp only at hSw); go_simp
      simp only [Act.put, List.setIfInBounds_toArray, List.set_cons_zero, List.set_cons_succ]
      refine wpAnyH_one 4 62 (.pointer (some ⟨gl, 0 + k, none⟩)) hHeld rfl rfl (by kernel_rfl) (fun _ _ _ _ _ h => h) (by kernel_rfl) (by kernel_rfl) (by rfl) ?_ ?_
      · intro V hSw; (try dsimp only at hSw); simp only [Nat.zero_add]; go_simp
      simp only [Act.put, List.setIfInBounds_toArray, List.set_cons_zero, List.set_cons_succ]
      refine wpAnyH_one 5 63 (.int .i64 y) hHeld rfl rfl (by kernel_rfl) (fun _ _ _ _ _ h => h) (by kernel_rfl) (by kernel_rfl) (by rfl) ?_ ?_
      · intro V hSw; (try dsimp only at hSw); have cx := (hSw.cell (p := ⟨gl, 0 + k, none⟩) Hl9.out).trans HXC.out; simp only [Nat.zero_add] at cx; go_simp
      simp only [Act.put, List.setIfInBounds_toArray, List.set_cons_zero, List.set_cons_succ]
      refine wpAnyH_ready (rs := [6]) (by kernel_rfl) (by simp) ?_
      refine AllReadyH.cons rfl (fun K hK => ?_) AllReadyH.nil
      go_simp
      go_wp2_with (go_at_call 20; refine (HAc.out y X0 (WB.out.trans (D0.out.mono WB.out.size)) Hth.out).mono ?_; rintro e X1 ⟨rfl, hb⟩; have D1 := hid (D0.out.trans (hb.mono D0.out.size)))
      refine hK.out _ _ D1.out (fun hHeld => ?_)
      clear hK K hb
      refine wpAnyH_one 7 57 (.tuple #[.int .u8 (verdictOf ns sh rules y : Int), .int .i64 0]) hHeld rfl rfl (by kernel_rfl) (fun _ _ _ _ _ h => h) (by kernel_rfl) (by kernel_rfl) (by rfl) ?_ ?_
      · intro V hSw; (try dsimp only at hSw); go_simp
      simp only [Act.put, List.setIfInBounds_toArray, List.set_cons_zero, List.set_cons_succ]
      refine wpAnyH_one 8 65 (.int .u8 (verdictOf ns sh rules y : Int)) hHeld rfl rfl (by kernel_rfl) (fun _ _ _ _ _ h => h) (by kernel_rfl) (by kernel_rfl) (by rfl) ?_ ?_
      · intro V hSw; (try dsimp only at hSw); go_simp
      simp only [Act.put, List.setIfInBounds_toArray, List.set_cons_zero, List.set_cons_succ]
      refine wpAnyH_one 9 66 (.int .i64 0) hHeld rfl rfl (by kernel_rfl) (fun _ _ _ _ _ h => h) (by kernel_rfl) (by kernel_rfl) (by rfl) ?_ ?_
      · intro V hSw; (try dsimp only at hSw); go_simp
      simp only [Act.put, List.setIfInBounds_toArray, List.set_cons_zero, List.set_cons_succ]
      refine wpAnyH_one 10 13 (.int .u8 (verdictOf ns sh rules y : Int)) hHeld rfl rfl (by kernel_rfl) (fun _ _ _ _ _ h => h) (by kernel_rfl) (by kernel_rfl) (by rfl) ?_ ?_
      · intro V hSw; (try dsimp only at hSw); go_simp
      simp only [Act.put, List.setIfInBounds_toArray, List.set_cons_zero, List.set_cons_succ]
      refine wpAnyH_one 11 14 (.int .i64 0) hHeld rfl rfl (by kernel_rfl) (fun _ _ _ _ _ h => h) (by kernel_rfl) (by kernel_rfl) (by rfl) ?_ ?_
      · intro V hSw; (try dsimp only at hSw); go_simp
      simp only [Act.put, List.setIfInBounds_toArray, List.set_cons_zero, List.set_cons_succ]
      refine wpAnyH_done (by kernel_rfl) ?_ _
      have A1 := hid (hAt.out.later D1.out)
      obtain ⟨VD, hVD⟩ : ∃ VD, verdictOf ns sh rules y = VD := ⟨_, rfl⟩
      rw [hVD]
      have hvi : ∀ r : Bool, (VD == 1) = r → ((VD : Int) != 1) = !r := fun r h => by
        rw [bne, ← h]
        congr 1
        by_cases h1 : VD = 1
        · rw [h1]; rfl
        · rw [beq_eq_false_iff_ne.2 h1, beq_eq_false_iff_ne.2 (by omega)]
      have hqe : (fun y => verdictOf ns sh rules y == 1) y = (VD == 1) := by show (verdictOf ns sh rules y == 1) = _; rw [hVD]
      cases hq : (VD == 1) with
      | false =>
        have v1 : ((VD : Int) != 1) = true := hvi false hq
        have HT2 := hid (HTK.out.1 (hqe.trans hq))
        clear hvi hqe hVD HXC Hth HTK D0 D1 hHeld
        go_wp2_with fail
        go_roundw
        case rel => exact ⟨k + 1, c, ref, bef, oj, cj, show Value.int .i64 ((k : Int) + 1) = _ from congrArg (Value.int .i64) (by omega), by omega, ⟨HT2.out, hTk.out.2⟩, hBh, A1⟩
        case measure => simp [RowKit.intOf]; omega
      | true =>
        have v1 : ((VD : Int) != 1) = false := hvi true hq
        obtain ⟨hc2, hTc, hT2⟩ := HTK.out.2 (hqe.trans hq)
        have hnx : nextT ns root ref bef sh rules = y := by
          rw [hBh.out.next, HTe.out, List.drop_eq_getElem_cons hc2]
          exact hTc
        have hy0 : (y == 0) = false := beq_eq_false_iff_ne.2 (there_ne Hth.out)
        have hX := HX.out ref bef oj cj c X1 A1.out.below hBh.out (own_rules A1.out.row)
        rw [hnx] at hX
        simp only [hy0, Bool.false_eq_true, if_false] at hX
        have hB2 := behind_told HR.out.1 HR.out.2.1 HR.out.2.2 (sh := sh) c (by rw [HTe.out]; exact hc2)
        have hBN : Behind ns root y false sh rules (c + 1) := by
          have := hB2.2.1
          simp only [HTe.out] at this
          rw [hTc] at this
          exact this
        have HBN := hid hBN
        have hTa : T.take (c + 1) = T.take c ++ [y] := by rw [List.take_succ_eq_append_getElem hc2, hTc]
        have HTa := hid hTa
        have HT2 := hid hT2
        have cz := (box_cell_l A1.out.fbox).1
        obtain ⟨⟨i0, i1, i2, i3, i4⟩, _⟩ := box5I A1.out.ibox
        have yy : (y != y) = false := by rw [bne, beq_self_eq_true]; rfl
        have HXX := hid ((D1.out.cell (p := ⟨gl, 0 + k, none⟩) Hl9.out).trans HXC.out)
        have Hl1 := hid (Nat.lt_of_lt_of_le Hl9.out D1.out.size)
        have hc3 := hc2
        clear hvi hqe hVD HXC Hth HTK D0 D1 hHeld hnx hB2 hBN hTa hT2 hTc hc2
        go_wp2_with fail
        refine hX.mono ?_
        rintro e X2 ⟨o2, c2, rfl, hown, hb⟩
        have ba : Below X2.heap.size X2 (X2.alloc (.cells #[.int .i64 root, .int .i64 y, .bool false, .int .u32 (sh : Int), .slice o2 rules.length c2] 30)) := (Below.refl _ X2).alloc (Nat.le_refl _) _
        have A3 := hid ((A1.out.later hb).later ba)
        have RO2 := hid (own_laterQ (own_baseI A1.out.below.size hown) ba)
        have hn := heap_new X2 (.cells #[.int .i64 root, .int .i64 y, .bool false, .int .u32 (sh : Int), .slice o2 rules.length c2] 30)
        obtain ⟨⟨j0, j1, j2, j3, j4⟩, _⟩ := box5I hn
        obtain ⟨⟨k0, k1, k2, k3, k4⟩, z0, z1, z2, z3, z4⟩ := box5I A3.out.ibox
        have cx := (ba.cell (p := ⟨gl, 0 + k, none⟩) (Nat.lt_of_lt_of_le Hl1.out hb.size)).trans ((hb.cell (p := ⟨gl, 0 + k, none⟩) Hl1.out).trans HXX.out)
        simp only [Nat.zero_add] at cx
        clear hb ba hn hown hX cz i0 i1 i2 i3 i4 HXX Hl1 A1
        go_upto_region 18 with fail
        generalize X2.alloc (.cells #[.int .i64 root, .int .i64 y, .bool false, .int .u32 (sh : Int), .slice o2 rules.length c2] 30) = X3 at *
        go_upto_region 21 with fail
        have A4 := hid (A3.out.turn y false o2 c2 RO2.out nf nt)
        generalize (((((X3.setCell ⟨Bi, 0, none⟩ (.int .i64 root)).setCell ⟨Bi, 1, none⟩ (.int .i64 y)).setCell ⟨Bi, 2, none⟩ (.bool false)).setCell ⟨Bi, 3, none⟩ (.int .u32 (sh : Int))).setCell ⟨Bi, 4, none⟩ (.slice o2 rules.length c2)) = X4 at *
        clear A3 RO2 j0 j1 j2 j3 j4 k0 k1 k2 k3 k4 z0 z1 z2 z3 z4 cx
        obtain ⟨t0, hi, hz0, hz1, hz2⟩ := info_parts info_int
        have hrow := A4.out.made
        have hTl : (T.take c).length ≤ 4096 := by
          rw [List.length_take]
          have : T.length ≤ 4096 := by rw [HT.out]; exact Nat.le_trans (List.length_filter_le _ _) hl4
          omega
        have m1 : (T.take c).length + 1 ≤ maxLen := Nat.le_trans (show _ ≤ 4097 by omega) (by decide)
        have m2 : ((T.take c).length + 1) * 8 ≤ 140737488355328 := by omega
        have m3 : N0 ≤ (X4.alloc (.cells #[.int .i64 y] 3)).heap.size := by have := A4.out.big; simp; omega
        go_wp2_with (at_builtin; refine wpList_append_own _ rfl _ _ 43 rfl N0 3 t0 (.int .i64 0) 1 8 Tryz.underlying43 hi hz0 hz1 hz2 rfl (by decide) _ _ _ rfl (hrow.alloc _) ⟨X4.heap.size, 0, none⟩ 1 1 [.int .i64 y] rfl rfl (cell_one_new _ _ _) (by simp [Value.oneCell']) m1 m2 m3 ?_; intro v' X5 hown' hgrow _; have A5 := hid (A4.out.more (x := y) (tv2 := v') hgrow (by simpa using hown')))
        rw [← HTa.out] at A5
        clear hrow hown' hgrow A4 m1 m2 m3 hi hz0 hz1 hz2 hTl
        go_wp2_with fail
        go_roundw
        case rel => exact ⟨k + 1, c + 1, y, false, o2, c2, show Value.int .i64 ((k : Int) + 1) = _ from congrArg (Value.int .i64) (by omega), by omega, ⟨HT2.out, hc3⟩, HBN, A5⟩
        case measure => simp [RowKit.intOf]; omega
    · have hkl : k = l.length := by omega
      obtain ⟨ol, cl, rfl⟩ := own_shapeI hAt.out.all
      have hT0 := HT.out
      have hdr := tell_drop (q := (fun y => verdictOf ns sh rules y == 1)) (k := k) (c := c) (l := l) (by rw [← hT0]; exact hTk.out.1)
      rw [← hT0, List.drop_of_length_le (by omega), List.filter_nil] at hdr
      have hcT : T.length ≤ c := List.drop_eq_nil_iff.1 hdr.symm
      have hcE : c = T.length := Nat.le_antisymm hTk.out.2 hcT
      have hnx : nextT ns root ref bef sh rules = 0 := by rw [hBh.out.next, HTe.out, ← hdr]; rfl
      subst hcE
      rw [List.take_length] at hAt
      have hX := HX.out ref bef oj cj T.length wr hAt.out.below hBh.out (own_rules hAt.out.row)
      rw [hnx] at hX
      simp only [beq_self_eq_true, if_true] at hX
      have cz := (box_cell_l PF.out).1
      obtain ⟨⟨i0, i1, i2, i3, i4⟩, _⟩ := box5I hAt.out.ibox
      obtain ⟨ov, cv, hov⟩ := own_shapeI hAt.out.made
      have dl : decide ((k : Int) < (l.length : Int)) = false := decide_eq_false (by omega)
      have hT4 : T.length ≤ 4096 := by rw [HT.out]; exact Nat.le_trans (List.length_filter_le _ _) hl4
      clear hdr hcT hnx hT0 hkl PT WB
      subst hov
      go_wp2_with fail
      refine hX.mono ?_
      rintro e X2 ⟨o2, c2, rfl, hown, hb⟩
      have ba : Below X2.heap.size X2 (X2.alloc (.cells #[.int .i64 root, .int .i64 ref, .bool bef, .int .u32 (sh : Int), .slice o2 rules.length c2] 30)) := (Below.refl _ X2).alloc (Nat.le_refl _) _
      have A3 := hid ((hAt.out.later hb).later ba)
      have RO2 := hid ((own_rules hown).later ba)
      have hn := heap_new X2 (.cells #[.int .i64 root, .int .i64 ref, .bool bef, .int .u32 (sh : Int), .slice o2 rules.length c2] 30)
      obtain ⟨⟨j0, j1, j2, j3, j4⟩, _⟩ := box5I hn
      obtain ⟨⟨k0, k1, k2, k3, k4⟩, _⟩ := box5I A3.out.ibox
      clear hb ba hn hown hX cz i0 i1 i2 i3 i4 hAt PF
      go_upto_region 23 with fail
      generalize X2.alloc (.cells #[.int .i64 root, .int .i64 ref, .bool bef, .int .u32 (sh : Int), .slice o2 rules.length c2] 30) = X3 at *
      go_wp2_with fail
      refine (sameI_any root ref bef sh o2 oj c2 cj rules X3 RO2.out (own_rules A3.out.row) hrl).mono ?_
      rintro e X4 ⟨rfl, hb⟩
      have A4 := hid (A3.out.later hb)
      clear hb A3 RO2 j0 j1 j2 j3 j4 k0 k1 k2 k3 k4
      have hw1 : IntKind.i64.wrap ((T.length : Int) - 1) = (T.length : Int) - 1 := wrap_smallI _ (by omega) (by omega)
      go_wp2
      clear hw1
      go_loopw [20] (fun t ws => ∃ (i : Nat) (rf2 : Int) (bf2 : Bool) (oj2 : Option Addr) (cj2 : Nat), t = .int .i64 ((i : Int) - 1) ∧ i ≤ T.length ∧ Hid (Behind ns root rf2 bf2 sh rules i) ∧ Hid (AllAt w N0 w.heap.size (w.heap.size + 1) Bi (.slice (some ⟨b, off, none⟩) ns.length cap) (.int .u32 (sh : Int)) (.slice ro rules.length rc) root rf2 bf2 sh oj2 cj2 rules (.slice ol l.length cl) l (.slice ov T.length cv) T ws)) (fun t _ => (RowKit.intOf t + 1).toNat)
      case atStart => exact ⟨T.length, ref, bef, oj, cj, rfl, Nat.le_refl _, hBh, A4⟩
      case round =>
        obtain ⟨i, rf2, bf2, oj2, cj2, rfl, hi, hB2, hA2⟩ := hrel
        clear A4 hBh
        have cz := (box_cell_l hA2.out.fbox).1
        obtain ⟨⟨i0, i1, i2, i3, i4⟩, _⟩ := box5I hA2.out.ibox
        have hX := HP.out rf2 bf2 oj2 cj2 i wr hA2.out.below hB2.out (own_rules hA2.out.row)
        by_cases h0 : 0 < i
        · have hi1 : i - 1 < T.length := by omega
          obtain ⟨hBt, _, hz0⟩ := behind_told HR.out.1 HR.out.2.1 HR.out.2.2 (sh := sh) (i - 1) (by rw [HTe.out]; exact hi1)
          have hpv : prevT ns root rf2 bf2 sh rules = T[i - 1] := by
            rw [hB2.out.prev, HTe.out, take_last hi1 (by omega)]
            rfl
          simp only [HTe.out] at hBt hz0
          obtain ⟨gt, ct, e5⟩ := own_slice hA2.out.made (by omega)
          obtain ⟨o7, c7, e7, _, g7⟩ := ownsRow_rdI hA2.out.made
          obtain ⟨b7, off7, e6, hl7, ha7⟩ := g7 (by omega)
          have hx := ha7 (i - 1) hi1
          rw [e5, e6] at e7
          simp only [Value.slice.injEq, Option.some.injEq] at e7
          obtain ⟨e7a, _, e7x⟩ := e7
          injection e7a with e7c e7d _
          subst e7c e7d
          simp only [Value.slice.injEq] at e5
          obtain ⟨e5a, _, e5b⟩ := e5
          subst e5a e5b
          rw [hpv] at hX
          obtain ⟨z, hz⟩ : ∃ z, T[i - 1] = z := ⟨_, rfl⟩
          rw [hz] at hX hBt hz0 hx
          have hzb : (z == 0) = false := beq_eq_false_iff_ne.2 hz0
          simp only [hzb, Bool.false_eq_true, if_false] at hX
          have HBt := hid hBt
          have HXC := hid hx
          have Hl7 := hid hl7
          have zz : (z != z) = false := by rw [bne, beq_self_eq_true]; rfl
          have p1 : (0 : Int) ≤ (i : Int) - 1 := by omega
          have p2 : (i : Int) - 1 < (T.length : Int) := by omega
          have p3 : ((i : Int) - 1).toNat = i - 1 := nat_less i
          clear hBt hx hl7 hpv hz e6 e7x ha7 g7
          go_wp2_with fail
          refine hX.mono ?_
          rintro e X5 ⟨o2, c2, rfl, hown, hb⟩
          have ba : Below X5.heap.size X5 (X5.alloc (.cells #[.int .i64 root, .int .i64 z, .bool true, .int .u32 (sh : Int), .slice o2 rules.length c2] 30)) := (Below.refl _ X5).alloc (Nat.le_refl _) _
          have A5 := hid ((hA2.out.later hb).later ba)
          have RO5 := hid (own_laterQ (own_baseI hA2.out.below.size hown) ba)
          have hn := heap_new X5 (.cells #[.int .i64 root, .int .i64 z, .bool true, .int .u32 (sh : Int), .slice o2 rules.length c2] 30)
          obtain ⟨⟨j0, j1, j2, j3, j4⟩, _⟩ := box5I hn
          obtain ⟨⟨k0, k1, k2, k3, k4⟩, z0, z1, z2, z3, z4⟩ := box5I A5.out.ibox
          have cx := (ba.cell (p := ⟨gt, 0 + (i - 1), none⟩) (Nat.lt_of_lt_of_le Hl7.out hb.size)).trans ((hb.cell (p := ⟨gt, 0 + (i - 1), none⟩) Hl7.out).trans HXC.out)
          simp only [Nat.zero_add] at cx
          clear hb ba hn hown hX cz i0 i1 i2 i3 i4 HXC Hl7 hA2
          go_upto_region 29 with fail
          generalize X5.alloc (.cells #[.int .i64 root, .int .i64 z, .bool true, .int .u32 (sh : Int), .slice o2 rules.length c2] 30) = X6 at *
          have A6 := hid (A5.out.turn z true o2 c2 RO5.out nf nt)
          have hw2 : IntKind.i64.wrap ((i : Int) - 1 - 1) = (i : Int) - 1 - 1 := wrap_smallI _ (by omega) (by omega)
          go_wp2_with fail
          go_roundw
          case rel => exact ⟨i - 1, z, true, o2, c2, congrArg (Value.int .i64) (by omega), by omega, HBt, A6⟩
          case measure => simp [RowKit.intOf]; omega
        · have hi0 : i = 0 := by omega
          subst hi0
          have hpv : prevT ns root rf2 bf2 sh rules = 0 := by rw [hB2.out.prev]; rfl
          rw [hpv] at hX
          simp only [beq_self_eq_true, if_true] at hX
          clear hpv
          go_wp2_with fail
          refine hX.mono ?_
          rintro e X5 ⟨o2, c2, rfl, hown, hb⟩
          have HBE := hid ((hA2.out.later hb).below)
          clear hb hown hX cz i0 i1 i2 i3 i4
          go_wp2
          go_ret
          exact ⟨rfl, HBE.out⟩
end Go.Proofs.YticenjhhefiboaaGreat

namespace Go.Proofs.YticenjhhefiboaaGreat
open Go.RowKit Go.Lib Go.Shelf

set_option maxRecDepth 100000 in
set_option maxHeartbeats 8000000 in
theorem iall_err (o : Option Addr) (cap : Nat) (ns : List NodeD) (root : Int) (sh : Nat) (ro : Option Addr) (rc : Nat) (rules : List RuleD) (w : World) (hF : FRd w o cap ns) (hkl : ∀ (i : Nat) (hi : i < ns.length), ns[i].kids.length ≤ 1099511627776) (hal : ∀ (i : Nat) (hi : i < ns.length), ns[i].attrs.length ≤ 1099511627776) (hru : RdR w (.slice ro rules.length rc) rules) (hrl : rules.length ≤ 1099511627776) (hs : sh < 4294967296) (hc : iterC ns root root rules ≠ 0) :
    Calls Tryz.prog 6 #[.agg #[.slice o ns.length cap], .int .i64 root, .agg #[.int .u32 (sh : Int), .slice ro rules.length rc]] w fun e w' => e = .returned (.bool true) ∧ Below w.heap.size w w' := by
  have HN : Hid (∀ W : World, Below w.heap.size w W → _) := fun W hW => inewE_any o cap ns root sh ro rc rules W (hF.later hW) hkl hal (hru.later hW) hrl hs hc
  have n0 : (iterC ns root root rules != 0) = true := by rw [bne, beq_eq_false_iff_ne.2 hc]; rfl
  have HG := hid (fun W : World => beginsI_true W)
  obtain ⟨bx, g0, g1, sx⟩ := two_new w (.cells #[.slice o ns.length cap] 24) (.cells #[.int .u32 (sh : Int), .slice ro rules.length rc] 28)
  have HB0 := hid bx
  have P0_0 := hid g0
  have P1_0 := hid g1
  clear bx g0 g1 sx hF hkl hal hru hc
  generalize iterC ns root root rules = E at *
  go_enter Tryz.func6, Tryz.ntmps6
  go_upto_region 1 with fail
  generalize ((w.alloc (.cells #[.slice o ns.length cap] 24)).alloc (.cells #[.int .u32 (sh : Int), .slice ro rules.length rc] 28)) = V0 at *
  go_wp2_with fail
  refine (HG.out V0).mono ?_
  rintro e V1 ⟨rfl, hb⟩
  have HB1 := hid (HB0.out.trans (hb.mono HB0.out.size))
  have cz := (box_cell_l (keep_blk hb P0_0.out)).1
  obtain ⟨fz0, fz1⟩ := box2I (keep_blk hb P1_0.out)
  clear hb HB0 P0_0 P1_0
  go_wp2_with fail
  refine (HN.out V1 HB1.out).mono ?_
  rintro e V2 ⟨rfl, hb⟩
  have ba : Below V2.heap.size V2 (V2.alloc (.cells #[.int .i64 0, .int .i64 0, .bool false, .int .u32 0, .slice none 0 0] 30)) := (Below.refl _ V2).alloc (Nat.le_refl _) _
  have hn := heap_new V2 (.cells #[.int .i64 0, .int .i64 0, .bool false, .int .u32 0, .slice none 0 0] 30)
  obtain ⟨⟨j0, j1, j2, j3, j4⟩, _⟩ := box5I hn
  have HB2 := hid ((HB1.out.trans (hb.mono HB1.out.size)).trans (ba.mono (HB1.out.trans (hb.mono HB1.out.size)).size))
  clear hb ba hn HB1 HN cz fz0 fz1
  go_upto_region 4 with fail
  generalize V2.alloc (.cells #[.int .i64 0, .int .i64 0, .bool false, .int .u32 0, .slice none 0 0] 30) = V3 at *
  go_wp2
  go_ret
  exact ⟨rfl, HB2.out⟩
theorem iterateAll_law (o : Option Addr) (cap : Nat) (ns : List NodeD) (root : Int) (sh : Nat) (ro : Option Addr) (rc : Nat) (rules : List RuleD) (w : World) (hF : FRd w o cap ns) (hkl : ∀ (i : Nat) (hi : i < ns.length), ns[i].kids.length ≤ 1099511627776) (hal : ∀ (i : Nat) (hi : i < ns.length), ns[i].attrs.length ≤ 1099511627776) (hru : RdR w (.slice ro rules.length rc) rules) (hrl : rules.length ≤ 1099511627776) (hs : sh < 4294967296) :
    Calls Tryz.prog 6 #[.agg #[.slice o ns.length cap], .int .i64 root, .agg #[.int .u32 (sh : Int), .slice ro rules.length rc]] w fun e w' => e = .returned (.bool true) ∧ Below w.heap.size w w' := by
  by_cases hc : iterC ns root root rules = 0
  · obtain ⟨_, hr, _, _, _⟩ := iterC_ok hc
    obtain ⟨b, off, rfl, hFA⟩ := hF.at_ (by obtain ⟨i, hi, _⟩ := there_idx hr; omega)
    exact iall_walk b off cap ns root sh ro rc rules w hFA hkl hal hru hrl hs hc
  · exact iall_err o cap ns root sh ro rc rules w hF hkl hal hru hrl hs hc
end Go.Proofs.YticenjhhefiboaaGreat

