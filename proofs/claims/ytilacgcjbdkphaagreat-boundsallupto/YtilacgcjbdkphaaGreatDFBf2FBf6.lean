/- bounds: the text of a range within one text (textOf), and Text where both ends lie in one node. -/
/- slices.IndexFunc and DeleteFunc at ints, by a closure that only reads. -/
/- slices.DeleteFunc at ints: what is wanted stays, in order. -/
/- chardata: joined, Content where all is well. -/
/- chardata: Content where all is well. -/
import Derived.Test.YtilacgcjbdkphaaGreatDFBf1
import Derived.Test.YtilacgcjbdkphaaGreatDFBdiFBdi2
import Derived.Lib.SliceRun
import Derived.Lib.LazyBuf
import Derived.Deep.OwnRows
import Derived.Test.YtilacgcjbdkphaaGreatDFPosFNext
namespace Go.Proofs.YtilacgcjbdkphaaGreat
open Go.RowKit Go.Lib Go.Shelf

theorem wrapU32 {z : Int} (h0 : 0 ≤ z) (h1 : z ≤ 1000000) : IntKind.u32.wrap z = z := by
  unfold IntKind.wrap
  simp [IntKind.bits, IntKind.signed]
  omega
theorem dataD_at {ns : List NodeD} {j : Nat} (hj : j < ns.length) : dataD ns ((j : Int) + 1) = ns[j].data := by unfold dataD; rw [nodeOf_at ns j hj]
theorem textB_at {ns : List NodeD} {j : Nat} (hj : j < ns.length) : textB ns ((j : Int) + 1) = textK ns[j].kind := by unfold textB; rw [nodeOf_at ns j hj]

set_option maxRecDepth 100000 in
set_option maxHeartbeats 4000000 in
theorem textOf_SS (b off cap bR bF bL : Nat) (x : Int) (c d : Nat) (ns : List NodeD) (w : World) (hR : RightF ns) (hF : FAt w b off cap ns) (hkl : ∀ (i : Nat) (hi : i < ns.length), ns[i].kids.length ≤ 1099511627776) (hal : ∀ (i : Nat) (hi : i < ns.length), ns[i].attrs.length ≤ 1099511627776) (hx : thereB ns.length x = true) (tx : textB ns x = true) (hcd : c ≤ d) (hd : d ≤ (dataD ns x).length) :
    Calls Tryz.prog 68 #[.agg #[.slice (some ⟨b, off, none⟩) ns.length cap], .agg #[.slice (some ⟨b, off, none⟩) ns.length cap, .slice (some ⟨bR, 0, none⟩) (ns.length + 1) (ns.length + 1), .slice (some ⟨bF, 0, none⟩) (ns.length + 1) (ns.length + 1), .slice (some ⟨bL, 0, none⟩) (ns.length + 1) (ns.length + 1)], .agg #[.int .i64 x, .int .i64 (c : Int), .int .i64 x, .int .i64 (d : Int)]] w fun e w' => ∃ v, e = .returned (.tuple #[v, .int .i64 0]) ∧ w'.ownsRow w.heap.size 70 1 v (((dataD ns x).drop c).take (d - c)).length ((((dataD ns x).drop c).take (d - c)).map uV) ∧ Below w.heap.size w w' := by
  obtain ⟨j, hj, hxj⟩ := there_idx hx
  have hdl := well_dataB (hR.well j hj)
  rw [hxj, textB_at hj] at tx
  rw [hxj, dataD_at hj] at hd ⊢
  have HS : Hid (∀ V : World, Below w.heap.size w V → _) := fun V hV => cSub_ok b off cap j c (d - c) ns V hR (hF.later hV) hkl hal hj tx (by omega)
  have HT : Hid (∀ V : World, Below w.heap.size w V → _) := fun V hV => isText_any b off cap j ns V (hF.later hV) hj
  rw [textB_at hj, tx] at HT
  rw [← hxj] at HS HT ⊢
  obtain ⟨bx, g0, g1, g2, sx⟩ := three_newB w (.cells #[.slice (some ⟨b, off, none⟩) ns.length cap] 24) (.cells #[.slice (some ⟨b, off, none⟩) ns.length cap, .slice (some ⟨bR, 0, none⟩) (ns.length + 1) (ns.length + 1), .slice (some ⟨bF, 0, none⟩) (ns.length + 1) (ns.length + 1), .slice (some ⟨bL, 0, none⟩) (ns.length + 1) (ns.length + 1)] 77) (.cells #[.int .i64 x, .int .i64 (c : Int), .int .i64 x, .int .i64 (d : Int)] 44)
  have Hbx := hid bx
  have HG0 := hid g0
  have HG2 := hid g2
  have f1 : IntKind.u32.wrap (c : Int) = (c : Int) := wrapU32 (by omega) (by omega)
  have f2 : IntKind.i64.wrap ((d : Int) - (c : Int)) = ((d - c : Nat) : Int) := by rw [wrap_smallB (by omega) (by omega)]; omega
  have f3 : IntKind.u32.wrap ((d - c : Nat) : Int) = ((d - c : Nat) : Int) := wrapU32 (by omega) (by omega)
  clear hR hF hkl hal hx tx hd hdl hcd hxj
  generalize ((ns[j].data).drop c).take (d - c) = M at *
  generalize d - c = z at *
  have c0 := (box_cell_l g0).1
  obtain ⟨a0, a1, a2, a3⟩ := rng_cells g2
  have h1 := HT.out _ bx
  clear g0 g1 g2 bx
  go_enter Tryz.func68, Tryz.ntmps68
  go_wp2_with fail
  refine h1.mono ?_
  rintro e v1 ⟨rfl, hb1⟩
  have c0 := (box_cell_l (blkLater hb1 HG0.out)).1
  obtain ⟨a0, a1, a2, a3⟩ := rng_cells (blkLater hb1 HG2.out)
  have HB1 := hid (Hbx.out.trans (hb1.mono Hbx.out.size))
  have h2 := HS.out v1 HB1.out
  clear h1 hb1 HT HS
  go_wp2_with fail
  refine h2.mono ?_
  rintro e v2 ⟨v, rfl, ho, hb2⟩
  obtain ⟨o2, c2, rfl⟩ := own_shapeB ho
  have HO := hid (ownsRow_base ho HB1.out.size)
  have HB2 := hid (HB1.out.trans (hb2.mono HB1.out.size))
  clear h2 ho hb2 c0 a0 a1 a2 a3
  go_wp2
  go_ret2
  exact ⟨_, rfl, HO.out, HB2.out⟩

/-- The text of a range within one node. -/
def textS (ns : List NodeD) (x : Int) (c d : Nat) : List Nat := if textB ns x then ((dataD ns x).drop c).take (d - c) else textD ns (x, (c : Int)) (x, (d : Int))
theorem text_has {k : Nat} (h : textK k = true) : hasDataK k = true := by
  unfold textK at h
  unfold hasDataK
  simp only [Bool.or_eq_true, beq_iff_eq] at h ⊢
  omega
theorem text_nokids {ns : List NodeD} (hR : RightF ns) {x : Int} (hx : thereB ns.length x = true) (tx : textB ns x = true) : kidsD ns x = [] ∧ dataN ns x = (dataD ns x).length := by
  obtain ⟨j, hj, rfl⟩ := there_idx hx
  rw [textB_at hj] at tx
  have e := length_data (well_parts (hR.well j hj)).2.1 (text_has tx)
  unfold lengthD at e
  refine ⟨?_, ?_⟩
  · unfold kidsD
    rw [nodeOf_at ns j hj]
    show ns[j].kids = []
    exact List.length_eq_zero_iff.1 (by omega)
  · rw [dataD_at hj]
    unfold dataN
    rw [nodeOf_at ns j hj]
theorem SS_le {ns : List NodeD} {F : Int → Int} (hR : RightF ns) (hN : Num ns F) {x : Int} {c d : Nat} (hp : isPt ns (x, (c : Int))) (hq : isPt ns (x, (d : Int))) (hv : validD ns (x, (c : Int)) (x, (d : Int)) = true) (tx : textB ns x = true) : c ≤ d ∧ d ≤ (dataD ns x).length := by
  obtain ⟨hk, hd⟩ := text_nokids hR hp.1 tx
  have h1 := (valid_root hv).2
  have n1 := (num_pos hR hR.oneOf hN hp).1
  have n2 := (num_pos hR hR.oneOf hN hq).1
  rw [numD_data hk] at n1 n2
  simp only at n1 n2
  refine ⟨by omega, ?_⟩
  have h2 := hq.2.2
  have e : lenN ns x = (kidsD ns x).length + dataN ns x := rfl
  simp only at h2
  rw [e, hk, hd] at h2
  simp at h2
  omega
set_option maxRecDepth 100000 in
set_option maxHeartbeats 4000000 in
theorem bText_SS (b off cap : Nat) (x : Int) (c : Nat) (d : Nat) (ns : List NodeD) (w : World) (hF : FAt w b off cap ns) (hkl : ∀ (i : Nat) (hi : i < ns.length), ns[i].kids.length ≤ 1099511627776) (hal : ∀ (i : Nat) (hi : i < ns.length), ns[i].attrs.length ≤ 1099511627776) (hE : setE ns (x, (c : Int)) (x, (d : Int)) [] = 0) :
    Calls Tryz.prog 30 #[.agg #[.slice (some ⟨b, off, none⟩) ns.length cap], rngV x c x d] w fun e w' => ∃ v, e = .returned (.tuple #[v, .int .i64 0]) ∧ w'.ownsRow w.heap.size 70 1 v (textS ns x c d).length ((textS ns x c d).map uV) ∧ Below w.heap.size w w' ∧ ∃ F : Int → Int, Num ns F := by
  obtain ⟨hR, hvd, hp, hq, _⟩ := setE_zero hE
  have hroot := (valid_root hvd).1
  have hle := hF.len
  obtain ⟨bx, g0, g1, sx⟩ := two_newB w (.cells #[.slice (some ⟨b, off, none⟩) ns.length cap] 24) (.cells #[.int .i64 x, .int .i64 (c : Int), .int .i64 x, .int .i64 (d : Int)] 44)
  have hFr : FRd w (some ⟨b, off, none⟩) cap ns := ⟨hF.len, fun _ => ⟨b, off, rfl, hF⟩⟩
  have hS := bSettled_ok (some ⟨b, off, none⟩) cap (.slice none 0 0) x c x d [] ns _ (hFr.later bx) hkl hal (nil_rdB _) (by simp) hE
  have HT : Hid (∀ (bR bF bL : Nat) (V : World), Below w.heap.size w V → NumsAt ns V bR bF bL → Calls Tryz.prog 68 #[.agg #[.slice (some ⟨b, off, none⟩) ns.length cap], .agg #[.slice (some ⟨b, off, none⟩) ns.length cap, .slice (some ⟨bR, 0, none⟩) (ns.length + 1) (ns.length + 1), .slice (some ⟨bF, 0, none⟩) (ns.length + 1) (ns.length + 1), .slice (some ⟨bL, 0, none⟩) (ns.length + 1) (ns.length + 1)], .agg #[.int .i64 x, .int .i64 (c : Int), .int .i64 x, .int .i64 (d : Int)]] V fun e w' => ∃ v, e = .returned (.tuple #[v, .int .i64 0]) ∧ w'.ownsRow V.heap.size 70 1 v (textS ns x c d).length ((textS ns x c d).map uV) ∧ Below V.heap.size V w') := fun bR bF bL V hV hN => by
    unfold textS
    cases tx : textB ns x with
    | true =>
      rw [if_pos rfl]
      obtain ⟨_, _, _, hNl⟩ := hN.lists
      have hcd := SS_le hR hNl.num.numF hp hq hvd tx
      exact textOf_SS b off cap bR bF bL x c d ns V hR (hF.later hV) hkl hal hp.1 tx hcd.1 hcd.2
    | false =>
      rw [if_neg Bool.false_ne_true]
      exact textOf_FF b off cap bR bF bL x c x d ns V hle (textC_of b off cap bR bF bL x c x d ns V hR (hF.later hV) hkl hal hN hp hq hroot) hp hq tx tx
  have Hbx := hid bx
  have HG0 := hid g0
  have HG1 := hid g1
  clear hF hkl hal hE hR hvd hp hq hroot hFr g0 g1 bx sx
  unfold rngV at *
  generalize textS ns x c d = TT at *
  go_enter Tryz.func30, Tryz.ntmps30
  go_wp2_with fail
  refine hS.mono ?_
  rintro e v1 ⟨bR, bF, bL, rfl, hN, hb1⟩
  unfold numsV at *
  have hbA : Below v1.heap.size v1 (v1.alloc (.cells #[.slice (some ⟨b, off, none⟩) ns.length cap, .slice (some ⟨bR, 0, none⟩) (ns.length + 1) (ns.length + 1), .slice (some ⟨bF, 0, none⟩) (ns.length + 1) (ns.length + 1), .slice (some ⟨bL, 0, none⟩) (ns.length + 1) (ns.length + 1)] 77)) := (Below.refl _ v1).alloc (Nat.le_refl _) _
  have hB1 := Hbx.out.trans (hb1.mono Hbx.out.size)
  have hB2 := hB1.trans (hbA.mono hB1.size)
  have h1 := HT.out bR bF bL _ hB2 (hN.later hbA)
  have c0 := (box_cell_l (blkLater hbA (blkLater hb1 HG0.out))).1
  obtain ⟨a0, a1, a2, a3⟩ := rng_cells (blkLater hbA (blkLater hb1 HG1.out))
  have HBB := hid hB2
  have HNm : Hid (∃ F : Int → Int, Num ns F) := by
    obtain ⟨_, _, _, hNl⟩ := hN.lists
    exact ⟨_, hNl.num.numF⟩
  clear hS hN hb1 hbA hB1 hB2 HT
  go_wp2_with fail
  refine h1.mono ?_
  rintro e v2 ⟨vr, rfl, hor, hb2⟩
  obtain ⟨orr, crr, rfl⟩ := own_shapeB hor
  have HOr := hid (ownsRow_base hor HBB.out.size)
  have HBr := hid (HBB.out.trans (hb2.mono HBB.out.size))
  clear hor hb2 h1 c0 a0 a1 a2 a3
  go_wp2
  go_ret2
  exact ⟨_, rfl, HOr.out, HBr.out, HNm.out⟩
end Go.Proofs.YtilacgcjbdkphaaGreat

namespace Go.Proofs.YtilacgcjbdkphaaGreat
open Go.RowKit Go.Lib Go.Shelf

/-- The first place where something holds. -/
def firstC (p : Int → Bool) : List Int → Nat → Int
  | [], _ => -1
  | x :: l, k => if p x then (k : Int) else firstC p l (k + 1)
theorem firstC_spec (p : Int → Bool) : ∀ (l : List Int) (k : Nat), (firstC p l k = -1 ∧ ∀ x ∈ l, p x = false) ∨ ∃ (i : Nat) (h : i < l.length), firstC p l k = ((k + i : Nat) : Int) ∧ p l[i] = true ∧ ∀ x ∈ l.take i, p x = false
  | [], _ => .inl ⟨rfl, fun x hx => by cases hx⟩
  | y :: l, k => by
    cases h : p y with
    | true => exact .inr ⟨0, by simp, by rw [firstC, h, if_pos rfl]; rfl, h, fun x hx => by cases hx⟩
    | false =>
      have e : firstC p (y :: l) k = firstC p l (k + 1) := by rw [firstC, h, if_neg Bool.false_ne_true]
      rw [e]
      rcases firstC_spec p l (k + 1) with ⟨e1, ha⟩ | ⟨i, hi, e1, ht, ha⟩
      · refine .inl ⟨e1, fun x hx => ?_⟩
        rcases List.mem_cons.1 hx with rfl | hx
        · exact h
        · exact ha x hx
      · refine .inr ⟨i + 1, by simpa using hi, by rw [e1]; congr 1; omega, by simpa using ht, fun x hx => ?_⟩
        rw [List.take_succ_cons] at hx
        rcases List.mem_cons.1 hx with rfl | hx
        · exact h
        · exact ha x hx

set_option maxRecDepth 100000 in
set_option maxHeartbeats 2000000 in
theorem indexFuncC_any (v pv : Value) (fn : Nat) (l : List Int) (p : Int → Bool) (w : World) (hv : RdI w v l) (hl : l.length ≤ 1099511627776)
    (eg : ∀ args w, (callFunc fn args).run Tryz.prog w = .ok (.enter fn args) w)
    (hp : ∀ x ∈ l, ∀ W : World, Below w.heap.size w W → Calls Tryz.prog fn #[.int .i64 x, pv] W fun e w' => e = .returned (.bool (p x)) ∧ Below W.heap.size W w') :
    Calls Tryz.prog 107 #[v, .func (.func fn) #[] #[pv]] w fun e w' => e = .returned (.int .i64 (firstC p l 0)) ∧ Below w.heap.size w w' := by
  obtain ⟨o, c, rfl, hc, g⟩ := hv
  obtain ⟨N, hN⟩ : ∃ N, firstC p l 0 = N := ⟨_, rfl⟩
  rw [hN]
  have HN : Hid (firstC p (l.drop 0) 0 = N) := hN
  have HP := hid hp
  have G := hid g
  clear hN hp g
  go_enter Tryz.func107, Tryz.ntmps107
  go_wp2
  go_loopw [8] (fun t wr => ∃ k : Nat, k ≤ l.length ∧ t = .int .i64 k ∧ Hid (Below w.heap.size w wr) ∧ Hid (firstC p (l.drop k) k = N)) (fun t _ => l.length - (RowKit.intOf t).toNat)
  case atStart => exact ⟨0, Nat.zero_le _, rfl, Below.refl _ _, HN⟩
  case round =>
    obtain ⟨k, k1, rfl, hB, hK⟩ := hrel
    by_cases hlt : k < l.length
    · obtain ⟨b, off, rfl, hlt1, ha⟩ := G.out (by omega)
      have x1 := (hB.out.cell (p := ⟨b, off + k, none⟩) hlt1).trans (ha k hlt)
      have q1 : (0 : Int) ≤ (k : Int) := by omega
      have q2 : (k : Int) < (l.length : Int) := by omega
      have hk := hK.out
      rw [List.drop_eq_getElem_cons hlt, firstC] at hk
      have Hk := hid hk
      have hC := HP.out l[k] (List.getElem_mem hlt) wr hB.out
      clear hk hK ha G HP
      generalize l[k] = a at *
      generalize p a = R at *
      cases R with
      | true =>
        have hNk : N = (k : Int) := by rw [← Hk.out]; rfl
        subst hNk
        clear Hk
        go_wp2_with (go_at_fn fn; refine hC.mono ?_; rintro e w2 ⟨rfl, hb⟩; have HB2 := hid (hB.out.trans (hb.mono hB.out.size)); clear hb)
        go_ret
        exact ⟨rfl, HB2.out⟩
      | false =>
        have Hn : Hid (firstC p (l.drop (k + 1)) (k + 1) = N) := by
          have h := Hk.out
          rw [if_neg Bool.false_ne_true] at h
          exact h
        clear Hk
        go_wp2_with (go_at_fn fn; refine hC.mono ?_; rintro e w2 ⟨rfl, hb⟩; have HB2 := hid (hB.out.trans (hb.mono hB.out.size)); clear hb)
        go_roundw
        case rel => exact ⟨k + 1, by omega, by go_num, HB2, Hn⟩
        case measure => simp [RowKit.intOf]; omega
    · have hNk : N = -1 := by
        rw [← hK.out, List.drop_eq_nil_of_le (by omega)]
        rfl
      subst hNk
      clear hK G HP
      go_wp2
      go_ret
      exact ⟨rfl, hB.out⟩

theorem keep_step (q : Int → Bool) (l : List Int) (j : Nat) (h : j < l.length) : (l.take (j + 1)).filter q = (l.take j).filter q ++ (if q l[j] = true then [l[j]] else []) := by
  rw [List.take_add_one, List.getElem?_eq_getElem h, List.filter_append]
  congr 1
  show [l[j]].filter q = _
  rw [List.filter_cons, List.filter_nil]
/-- How a row stands while what is not wanted is left out. -/
structure Kept (w : World) (g cap B : Nat) (l : List Int) (q : Int → Bool) (i j : Nat) (wr : World) : Prop where
  base : B ≤ g
  le : j ≤ l.length
  low : i < j
  len : i = ((l.take j).filter q).length
  below : Below B w wr
  row : ∃ f : Nat → Value, wr.rowIs g 3 cap f ∧ (∀ (t : Nat) (h : t < ((l.take j).filter q).length), f t = .int .i64 ((l.take j).filter q)[t]) ∧ ∀ (t : Nat) (_ : j ≤ t) (h : t < l.length), f t = .int .i64 l[t]
theorem Kept.later {w wr V : World} {g cap B i j : Nat} {l : List Int} {q : Int → Bool} (h : Kept w g cap B l q i j wr) (hb : Below wr.heap.size wr V) : Kept w g cap B l q i j V := by
  obtain ⟨f, h1, h2, h3⟩ := h.row
  have hlt := h1.lt
  have hbs := h.base
  exact ⟨h.base, h.le, h.low, h.len, h.below.trans (hb.mono (by omega)), f, h1.of_block (hb.block g h1.lt), h2, h3⟩
theorem Kept.skip {w wr : World} {g cap B i j : Nat} {l : List Int} {q : Int → Bool} (h : Kept w g cap B l q i j wr) (hj : j < l.length) (hq : q l[j] = false) : Kept w g cap B l q i (j + 1) wr := by
  obtain ⟨f, h1, h2, h3⟩ := h.row
  have e : (l.take (j + 1)).filter q = (l.take j).filter q := by rw [keep_step q l j hj, hq, if_neg Bool.false_ne_true, List.append_nil]
  exact ⟨h.base, hj, Nat.lt_succ_of_lt h.low, by rw [e]; exact h.len, h.below, f, h1, fun t ht => by simp only [e] at ht ⊢; exact h2 t ht, fun t ht hl => h3 t (by omega) hl⟩
theorem Kept.keep {w wr : World} {g cap B i j : Nat} {l : List Int} {q : Int → Bool} (h : Kept w g cap B l q i j wr) (hj : j < l.length) (hq : q l[j] = true) : Kept w g cap B l q (i + 1) (j + 1) (wr.setCell ⟨g, i, none⟩ (.int .i64 l[j])) := by
  obtain ⟨f, h1, h2, h3⟩ := h.row
  have hlen := h.len
  have hlow := h.low
  have e : (l.take (j + 1)).filter q = (l.take j).filter q ++ [l[j]] := by rw [keep_step q l j hj, hq, if_pos rfl]
  refine ⟨h.base, hj, by omega, by rw [e, List.length_append, List.length_singleton, ← hlen], h.below.setCell (p := ⟨g, i, none⟩) h.base _, _, h1.set i _, fun t ht => ?_, fun t ht hl => ?_⟩
  · simp only [e] at ht ⊢
    rw [List.length_append, List.length_singleton] at ht
    by_cases ht2 : t = i
    · subst ht2
      rw [if_pos rfl]
      congr 1
      rw [List.getElem_append_right (by omega)]
      simp [← hlen]
    · rw [if_neg ht2, List.getElem_append_left (by omega)]
      exact h2 t (by omega)
  · rw [if_neg (by omega)]
    exact h3 t (by omega) hl
theorem Kept.start {w wr : World} {g cap B k : Nat} {l : List Int} {q : Int → Bool} (hB : B ≤ g) (hw : Below B w wr) (hk : k < l.length) (hq : q l[k] = false) (ha : ∀ x ∈ l.take k, q x = true) {f : Nat → Value} (hr : wr.rowIs g 3 cap f) (hf : ∀ (t : Nat) (h : t < l.length), f t = .int .i64 l[t]) : Kept w g cap B l q k (k + 1) wr := by
  have e : (l.take (k + 1)).filter q = l.take k := by
    rw [keep_step q l k hk, hq, if_neg Bool.false_ne_true, List.append_nil]
    exact List.filter_eq_self.2 ha
  refine ⟨hB, hk, Nat.lt_succ_self _, by rw [e, List.length_take, Nat.min_eq_left (by omega)], hw, f, hr, fun t ht => ?_, fun t _ hl => hf t hl⟩
  simp only [e] at ht ⊢
  rw [List.length_take] at ht
  rw [hf t (by omega), List.getElem_take]
end Go.Proofs.YtilacgcjbdkphaaGreat

namespace Go.Proofs.YtilacgcjbdkphaaGreat
open Go.RowKit Go.Lib Go.Shelf

set_option maxRecDepth 100000 in
set_option maxHeartbeats 2000000 in
theorem delFunc_any (g cap fn B : Nat) (pv : Value) (l : List Int) (p : Int → Bool) (w : World) (f : Nat → Value) (hrow : w.rowIs g 3 cap f) (hf : ∀ (t : Nat) (h : t < l.length), f t = .int .i64 l[t]) (hl : l.length ≤ cap) (hc : l.length ≤ 1099511627776) (hB : B ≤ g)
    (eg : ∀ args w, (callFunc fn args).run Tryz.prog w = .ok (.enter fn args) w)
    (hp : ∀ x ∈ l, ∀ W : World, Below B w W → Calls Tryz.prog fn #[.int .i64 x, pv] W fun e w' => e = .returned (.bool (p x)) ∧ Below W.heap.size W w') :
    Calls Tryz.prog 76 #[.slice (some ⟨g, 0, none⟩) l.length cap, .func (.func fn) #[] #[pv]] w fun e w' => ∃ v, e = .returned v ∧ RdI w' v (l.filter fun x => !p x) ∧ Below B w w' := by
  have hglt := hrow.lt
  have hrd : RdI w (.slice (some ⟨g, 0, none⟩) l.length cap) l := ⟨some ⟨g, 0, none⟩, cap, rfl, hl, fun _ => ⟨g, 0, rfl, hglt, fun j hj => by rw [Nat.zero_add, hrow.cell (show j < cap by omega), hf j hj]⟩⟩
  have hIF := indexFuncC_any _ pv fn l p w hrd hc eg (fun x hx W hW => hp x hx W (hW.mono (by omega)))
  rcases firstC_spec p l 0 with ⟨e1, ha⟩ | ⟨k, hk, e1, ht, ha⟩
  · rw [e1] at hIF
    have e2 : (l.filter fun x => !p x) = l := List.filter_eq_self.2 fun x hx => by rw [ha x hx]; rfl
    rw [e2]
    have HR := hid hrd
    have HBs : Hid (B ≤ w.heap.size) := Nat.le_of_lt (Nat.lt_of_le_of_lt hB hglt)
    clear hp hrd hf hrow e1 e2 ha
    go_enter Tryz.func76, Tryz.ntmps76
    go_wp2_with fail
    refine hIF.mono ?_
    rintro e v1 ⟨rfl, hb⟩
    have HR1 := hid (HR.out.later hb)
    have HB1 := hid (hb.mono HBs.out)
    clear hIF hb
    go_wp2
    go_ret
    exact ⟨_, rfl, HR1.out, HB1.out⟩
  · rw [e1, Nat.zero_add] at hIF
    obtain ⟨q, hq⟩ : ∃ q : Int → Bool, q = fun x => !p x := ⟨_, rfl⟩
    rw [← hq]
    have HQ : Hid (∀ x, q x = !p x) := fun x => by rw [hq]
    have HS : Hid (∀ V : World, Below w.heap.size w V → Kept w g cap B l q k (k + 1) V) := fun V hV => Kept.start hB (hV.mono (by omega)) hk (by rw [HQ.out, ht]; rfl) (fun x hx => by rw [HQ.out, ha x hx]; rfl) (hrow.of_block (hV.block g hglt)) hf
    have HP := hid hp
    have hne1 : ((k : Int) == -1) = false := beq_eq_false_iff_ne.2 (by omega)
    clear hp hrd hf hrow e1 ha ht hq hglt
    go_enter Tryz.func76, Tryz.ntmps76
    go_wp2_with fail
    refine hIF.mono ?_
    rintro e v1 ⟨rfl, hb⟩
    have HK0 := hid (HS.out v1 hb)
    clear hIF hb HS
    go_wp2
    go_loopw [5, 6, 7] (fun s5 s6 _ wr => ∃ i j : Nat, s5 = .int .i64 i ∧ s6 = .int .i64 j ∧ Hid (Kept w g cap B l q i j wr)) (fun _ t _ _ => l.length - (RowKit.intOf t).toNat)
    case atStart => exact ⟨k, k + 1, rfl, by go_num, HK0⟩
    case round =>
      obtain ⟨i, j, rfl, rfl, hK⟩ := hrel
      clear HK0
      have hij := hK.out.low
      have hjl := hK.out.le
      obtain ⟨ff, h1, h2, h3⟩ := hK.out.row
      by_cases hlt : j < l.length
      · have q1 : (0 : Int) ≤ (j : Int) := by omega
        have q2 : (j : Int) < (l.length : Int) := by omega
        have q3 : (0 : Int) ≤ (i : Int) := by omega
        have q4 : (i : Int) < (l.length : Int) := by omega
        have dl : decide ((j : Int) < (l.length : Int)) = true := decide_eq_true q2
        have x1 := h1.cell (show j < cap by omega)
        rw [h3 j (Nat.le_refl _) hlt] at x1
        have hC := HP.out l[j] (List.getElem_mem hlt) wr hK.out.below
        have hqj := HQ.out l[j]
        clear h1 h2 h3
        cases hp2 : p l[j] with
        | true =>
          rw [hp2] at hC hqj
          have HSk := hid (hK.out.skip hlt hqj)
          clear hqj hp2 hK
          generalize l[j] = a at *
          go_wp2_with (go_at_fn fn; refine hC.mono ?_; rintro e w2 ⟨rfl, hb⟩; have HK2 := hid (HSk.out.later hb); clear hb)
          go_roundw
          case rel => exact ⟨i, j + 1, rfl, by go_num, HK2⟩
          case measure => simp [RowKit.intOf]; omega
        | false =>
          rw [hp2] at hC hqj
          have HKp : Hid (∀ V : World, Below wr.heap.size wr V → Kept w g cap B l q (i + 1) (j + 1) (V.setCell ⟨g, i, none⟩ (.int .i64 l[j]))) := fun V hV => (hK.out.later hV).keep hlt hqj
          have HKr : Hid (∀ V : World, Below wr.heap.size wr V → (∃ o, V.cell? ⟨g, i, none⟩ = some o) ∧ V.frozen? ⟨g, i, none⟩ = false) := fun V hV => by
            obtain ⟨f2, y1, _, _⟩ := (hK.out.later hV).row
            exact ⟨⟨_, y1.cell (by omega)⟩, y1.frozen i⟩
          clear hqj hp2 hK
          generalize l[j] = a at *
          go_wp2_with (go_at_fn fn; refine hC.mono ?_; rintro e w2 ⟨rfl, hb⟩; have HK2 := hid (HKp.out w2 hb); obtain ⟨⟨old, y1⟩, z1⟩ := HKr.out w2 hb; clear hb)
          go_roundw
          case rel => exact ⟨i + 1, j + 1, by go_num, by go_num, HK2⟩
          case measure => simp [RowKit.intOf]; omega
      · have hjn : j = l.length := by omega
        subst hjn
        have dl : decide ((l.length : Int) < (l.length : Int)) = false := decide_eq_false (by omega)
        have hcl : ∀ ty, (Builtin.clear_ #[32] ty #[.slice (some ⟨g, i, none⟩) (l.length - i) (cap - i)]).run Tryz.prog wr = .ok (.tuple #[]) (wr.setCells g i (List.replicate (l.length - i) (.int .i64 0))) :=
          fun ty => run_clear_slice wr _ _ ty _ Tryz.underlying32 (fun w => by kernel_rfl) rfl rfl g i _ _ (by omega) (fun t ht => by rw [h1.cell (by omega)]; rfl) (fun t ht => h1.frozen _)
        have hfil : l.take l.length = l := List.take_length
        have HRd : Hid (RdI (wr.setCells g i (List.replicate (l.length - i) (.int .i64 0))) (.slice (some ⟨g, 0, none⟩) i cap) (l.filter q)) := by
          have hlen := hK.out.len
          have hrs := rowIs_setCells (List.replicate (l.length - i) (.int .i64 0)) i wr ff h1
          rw [hfil] at hlen h2
          refine ⟨some ⟨g, 0, none⟩, cap, by rw [← hlen], by omega, fun _ => ⟨g, 0, rfl, hrs.lt, fun t ht => ?_⟩⟩
          rw [Nat.zero_add, hrs.cell (by omega), if_neg (by omega), h2 t ht]
        have HBf : Hid (Below B w (wr.setCells g i (List.replicate (l.length - i) (.int .i64 0)))) := below_setCells hK.out.base _ i wr hK.out.below
        have q3 : (0 : Int) ≤ (i : Int) := by omega
        have q4 : (i : Int) ≤ (l.length : Int) := by omega
        have q5 : (i : Int) ≤ (cap : Int) := by omega
        have q6 : ¬ cap = i := by omega
        clear h1 h2 h3 hfil hK HP HQ
        go_wp2
        go_ret
        exact ⟨_, rfl, HRd.out, HBf.out⟩
end Go.Proofs.YtilacgcjbdkphaaGreat

namespace Go.Proofs.YtilacgcjbdkphaaGreat
open Go.RowKit Go.Lib Go.Shelf

theorem own_shapeN {W : World} {base : Nat} {v : Value} {l : List Nat} (h : W.ownsRow base 70 1 v l.length (l.map uV)) : ∃ o c, v = .slice o l.length c := by
  rcases h.2 with ⟨rfl, h0⟩ | ⟨g, cap, cur, rfl, _⟩
  · exact ⟨none, 0, by rw [h0]⟩
  · exact ⟨_, _, rfl⟩
theorem flat_step (ns : List NodeD) (l : List Int) (k : Nat) (h : k < l.length) : (l.take k).flatMap (dataD ns) ++ dataD ns l[k] = (l.take (k + 1)).flatMap (dataD ns) := by
  rw [List.take_add_one, List.getElem?_eq_getElem h, List.flatMap_append]
  congr 1
  simp
theorem flat_len (ns : List NodeD) (l : List Int) (h : ∀ x ∈ l, (dataD ns x).length ≤ 16384) : (l.flatMap (dataD ns)).length ≤ l.length * 16384 := by
  induction l with
  | nil => simp
  | cons x l ih =>
    rw [List.flatMap_cons, List.length_append, List.length_cons]
    have h1 := h x (List.mem_cons_self ..)
    have h2 := ih fun y hy => h y (List.mem_cons_of_mem _ hy)
    omega
theorem data_small {ns : List NodeD} (hR : RightF ns) {x : Int} (hx : thereB ns.length x = true) : (dataD ns x).length ≤ 16384 := by
  obtain ⟨j, hj, rfl⟩ := there_idx hx
  rw [dataD_at hj]
  exact well_dataB (hR.well j hj)

set_option maxRecDepth 100000 in
set_option maxHeartbeats 2000000 in
theorem cJoined_any (b off cap : Nat) (v : Value) (l : List Int) (ns : List NodeD) (w : World) (hR : RightF ns) (hF : FAt w b off cap ns) (hv : RdI w v l) (hl : l.length ≤ 4096) (hth : ∀ h ∈ l, thereB ns.length h = true) :
    Calls Tryz.prog 79 #[.agg #[.slice (some ⟨b, off, none⟩) ns.length cap], v] w fun e w' => ∃ v', e = .returned v' ∧ w'.ownsRow w.heap.size 70 1 v' (l.flatMap (dataD ns)).length ((l.flatMap (dataD ns)).map uV) ∧ Below w.heap.size w w' := by
  have hle := hF.len
  obtain ⟨ol, cl, rfl, hcl, gl⟩ := hv
  have hbA : Below w.heap.size w (w.alloc (.cells #[.slice (some ⟨b, off, none⟩) ns.length cap] 24)) := (Below.refl _ w).alloc (Nat.le_refl _) _
  have hnw := heap_new w (.cells #[.slice (some ⟨b, off, none⟩) ns.length cap] 24)
  have HT : Hid (∀ (V : World), Below w.heap.size w V → ∀ (k : Nat) (hk : k < l.length), ∃ (bl offl j : Nat) (od : Option Addr) (cd : Nat), ol = some ⟨bl, offl, none⟩ ∧ V.cell? ⟨bl, offl + k, none⟩ = some (.int .i64 ((j : Int) + 1)) ∧ j < ns.length ∧ V.cell? ⟨b, off + j * 16 + 6, none⟩ = some (.slice od (dataD ns l[k]).length cd) ∧ RdN V (.slice od (dataD ns l[k]).length cd) (dataD ns l[k]) ∧ (dataD ns l[k]).length ≤ 16384) := fun V hV k hk => by
    obtain ⟨bl, offl, e, hlt, ha⟩ := gl (by omega)
    have hx := hth l[k] (List.getElem_mem hk)
    obtain ⟨j, hj, hxj⟩ := there_idx hx
    have e2 : dataD ns l[k] = ns[j].data := by rw [hxj]; exact dataD_at hj
    obtain ⟨L, hc, hd, _, _⟩ := hF.at_ j hj
    have n6 := (hc.later hF.lt hV).data
    obtain ⟨D, A, K⟩ := L
    have hd2 := hd
    obtain ⟨od, cd, e1, _⟩ := hd
    simp only at e1 n6 hd2
    subst e1
    refine ⟨bl, offl, j, od, cd, e, ?_, hj, by rw [e2]; exact n6, by rw [e2]; exact hd2.later hV, by rw [e2]; exact well_dataB (hR.well j hj)⟩
    rw [cellLater hV hlt (ha k hk), hxj]
  have hbig := fun k => flat_len ns (l.take k) (fun x hx => data_small hR (hth x (List.mem_of_mem_take hx)))
  have Hbig := hid hbig
  have c0 := (box_cell_l hnw).1
  have hsw : (w.alloc (.cells #[.slice (some ⟨b, off, none⟩) ns.length cap] 24)).heap.size = w.heap.size + 1 := by simp
  have HbA := hid hbA
  obtain ⟨DL, hDL⟩ : ∃ DL, l.flatMap (dataD ns) = DL := ⟨_, rfl⟩
  rw [hDL]
  have HDL := hid hDL
  clear hR hF gl hth hbA hnw hbig hDL
  go_enter Tryz.func79, Tryz.ntmps79
  go_upto_region 1 with fail
  generalize w.alloc (.cells #[.slice (some ⟨b, off, none⟩) ns.length cap] 24) = W0 at *
  obtain ⟨B, hBe⟩ : ∃ B, W0.heap.size = B := ⟨_, rfl⟩
  have HBe := hid hBe
  have h0 : W0.ownsRow B 70 1 (.slice none 0 0) ((l.take 0).flatMap (dataD ns)).length (((l.take 0).flatMap (dataD ns)).map uV) := World.ownsRow_nil _ _ _ _
  have H0 := hid h0
  have HB0 : Hid (Below B W0 W0) := Below.refl _ _
  clear h0 hBe
  go_wp2
  go_loopw [10, 5] (fun t u wr => ∃ (k : Nat) (o2 : Option Addr) (c2 : Nat), k ≤ l.length ∧ t = .int .i64 k ∧ u = .slice o2 ((l.take k).flatMap (dataD ns)).length c2 ∧ Hid (wr.ownsRow B 70 1 (.slice o2 ((l.take k).flatMap (dataD ns)).length c2) ((l.take k).flatMap (dataD ns)).length (((l.take k).flatMap (dataD ns)).map uV)) ∧ Hid (Below B W0 wr)) (fun t _ _ => l.length - (RowKit.intOf t).toNat)
  case atStart => exact ⟨0, none, 0, Nat.zero_le _, rfl, by simp, H0, HB0⟩
  case round =>
    obtain ⟨k, o2, c2, hk, rfl, rfl, hO, hBB⟩ := hrel
    clear H0 HB0
    have hBB2 : Below W0.heap.size W0 wr := by rw [HBe.out]; exact hBB.out
    have hBs : B ≤ wr.heap.size := by rw [← HBe.out]; exact hBB2.size
    have hBw := HbA.out.trans (hBB2.mono HbA.out.size)
    have d0 := cellLater (B := w.heap.size) hBB2 (by omega) c0
    by_cases hlt : k < l.length
    · obtain ⟨bl, offl, j, od, cd, rfl, x1, hj, x2, hrd, hdl⟩ := HT.out wr hBw k hlt
      have hst := flat_step ns l k hlt
      have hlk := Hbig.out k
      rw [List.length_take, Nat.min_eq_left (by omega)] at hlk
      obtain ⟨v8, w8, e8, ho8, hg8⟩ := run_append_rdIN wr B _ _ _ _ 0 hO.out hBs hrd (by omega)
      have hb8 := below_grownIN hO.out hBs hg8
      rw [hst] at ho8
      obtain ⟨o3, c3, rfl⟩ := own_shapeN ho8
      have q1 : (0 : Int) ≤ (k : Int) := by omega
      have q2 : (k : Int) < (l.length : Int) := by omega
      have q3 : (0 : Int) ≤ (j : Int) := by omega
      have q4 : (j : Int) < (ns.length : Int) := by omega
      have dl : decide ((k : Int) < (l.length : Int)) = true := decide_eq_true q2
      have HO3 := hid ho8
      have E8 := hid e8
      have HBB3 := hid (hBB.out.trans hb8)
      clear e8 ho8 hg8 hb8 hst hlk hO hBB hBB2 hBw HT Hbig hrd
      generalize (l.take k).flatMap (dataD ns) = DK at *
      generalize dataD ns l[k] = DD at *
      generalize hDN : (l.take (k + 1)).flatMap (dataD ns) = DN at *
      have HDN := hid hDN
      clear hDN
      go_wp2_with (at_builtin; refine wpList_append_run _ rfl _ _ 53 53 rfl _ _ rfl rfl _ _ E8.out ?_)
      go_roundw
      case rel =>
        have e := HDN.out
        subst e
        exact ⟨k + 1, o3, c3, by omega, by go_num, rfl, HO3, HBB3⟩
      case measure => simp [RowKit.intOf]; omega
    · have hkn : k = l.length := by omega
      subst hkn
      have dl : decide ((l.length : Int) < (l.length : Int)) = false := decide_eq_false (by omega)
      rw [List.take_length, HDL.out] at hO
      rw [List.take_length, HDL.out]
      have HOf := hid (ownsRow_base hO.out (show w.heap.size ≤ B by rw [← HBe.out]; omega))
      have HBf := hid hBw
      clear hO hBB hBB2 hBw HT Hbig d0
      go_wp2
      go_ret
      exact ⟨_, rfl, HOf.out, HBf.out⟩
end Go.Proofs.YtilacgcjbdkphaaGreat

namespace Go.Proofs.YtilacgcjbdkphaaGreat
open Go.RowKit Go.Lib Go.Shelf

set_option maxRecDepth 100000 in
set_option maxHeartbeats 1000000 in
theorem cClo_any (b off cap j g : Nat) (ns : List NodeD) (w : World) (hF : FAt w b off cap ns) (hj : j < ns.length) (hg : w.cell? ⟨g, 0, none⟩ = some (.slice (some ⟨b, off, none⟩) ns.length cap)) :
    Calls Tryz.prog 77 #[.int .i64 ((j : Int) + 1), .pointer (some ⟨g, 0, none⟩)] w fun e w' => e = .returned (.bool (!textB ns ((j : Int) + 1))) ∧ Below w.heap.size w w' := by
  have hK := cKind_any b off cap j ns w hF hj
  have HT : Hid (∀ V : World, _) := fun V => cText_any ns[j].kind V
  rw [textB_at hj]
  clear hF
  generalize ns[j].kind = k at *
  generalize textK k = T at *
  go_enter Tryz.func77, Tryz.ntmps77
  go_wp2_with fail
  refine hK.mono ?_
  rintro e v1 ⟨rfl, hb⟩
  have HB := hid hb
  have h2 := HT.out v1
  clear hK hb HT
  go_wp2_with fail
  refine h2.mono ?_
  rintro e v2 ⟨rfl, rfl⟩
  go_wp2
  go_ret
  exact ⟨rfl, HB.out⟩
theorem cClo_enters : ∀ args w, (callFunc 77 args).run Tryz.prog w = .ok (.enter 77 args) w := fun _ _ => by kernel_rfl

/-- The texts within a node, put together. -/
def contentD (ns : List NodeD) (x : Int) : List Nat := ((allD ns x).filter (textB ns)).flatMap (dataD ns)
theorem own_rdNF {W : World} {base : Nat} {v : Value} {l : List Nat} (h : W.ownsRow base 70 1 v l.length (l.map uV)) : RdN W v l := by
  obtain ⟨_, ⟨rfl, h0⟩ | ⟨g, cap, cur, rfl, hg, hh, hnc, hcm, hcs, htk⟩⟩ := h
  · refine ⟨none, 0, by rw [h0], by omega, fun hp => by omega⟩
  · refine ⟨some ⟨g, 0, none⟩, cap, rfl, hnc, fun hp => ⟨g, 0, rfl, (Array.getElem?_eq_some_iff.1 hh).1, fun t ht => ?_⟩⟩
    rw [Nat.zero_add, cell_of_heap hh]
    have e : (cur.toList.take (l.length * 1))[t]? = some (uV l[t]) := by rw [htk, List.getElem?_map, List.getElem?_eq_getElem ht]; rfl
    rw [List.getElem?_take, if_pos (by omega)] at e
    rw [← Array.getElem?_toList]
    exact e
/-- A row of the call's own, cell by cell. -/
theorem own_rowIs {W : World} {base : Nat} {v : Value} {l : List Int} (h : W.ownsRow base 3 1 v l.length (l.map (Value.int .i64))) (hp : 0 < l.length) : ∃ g cap f, v = .slice (some ⟨g, 0, none⟩) l.length cap ∧ base ≤ g ∧ W.rowIs g 3 cap f ∧ l.length ≤ cap ∧ cap ≤ maxLen ∧ ∀ (t : Nat) (ht : t < l.length), f t = .int .i64 l[t] := by
  obtain ⟨_, ⟨rfl, h0⟩ | ⟨g, cap, cur, rfl, hg, hh, hnc, hcm, hcs, htk⟩⟩ := h
  · omega
  · refine ⟨g, cap, fun t => cur.toList[t]!, rfl, hg, ⟨cur, hh, by omega, fun i hi => ?_⟩, hnc, hcm, fun t ht => ?_⟩
    · have hi2 : i < cur.toList.length := by rw [Array.length_toList]; omega
      rw [← Array.getElem?_toList, List.getElem?_eq_getElem hi2]
      show some cur.toList[i] = some cur.toList[i]!
      rw [getElem!_pos cur.toList i hi2]
    · have e : (cur.toList.take (l.length * 1))[t]? = some (.int .i64 l[t]) := by rw [htk, List.getElem?_map, List.getElem?_eq_getElem ht]; rfl
      rw [List.getElem?_take, if_pos (by omega)] at e
      have hi2 : t < cur.toList.length := by
        rcases Nat.lt_or_ge t cur.toList.length with h | h
        · exact h
        · rw [List.getElem?_eq_none h] at e; cases e
      rw [List.getElem?_eq_getElem hi2] at e
      show cur.toList[t]! = _
      rw [getElem!_pos cur.toList t hi2]
      exact Option.some.inj e

theorem one_newC (w : World) (a : Obj) : Below w.heap.size w (w.alloc a) ∧ (w.alloc a).heap[w.heap.size]? = some a ∧ (w.alloc a).heap.size = w.heap.size + 1 :=
  ⟨(Below.refl _ w).alloc (Nat.le_refl _) _, heap_new w a, by simp⟩
set_option maxRecDepth 100000 in
set_option maxHeartbeats 2000000 in
theorem cContent_ok (b off cap j : Nat) (ns : List NodeD) (w : World) (hR : RightF ns) (hF : FAt w b off cap ns) (hkl : ∀ (i : Nat) (hi : i < ns.length), ns[i].kids.length ≤ 1099511627776) (hal : ∀ (i : Nat) (hi : i < ns.length), ns[i].attrs.length ≤ 1099511627776) (hj : j < ns.length) :
    Calls Tryz.prog 33 #[.agg #[.slice (some ⟨b, off, none⟩) ns.length cap], .int .i64 ((j : Int) + 1)] w fun e w' => ∃ (o : Option Addr) (c : Nat) (is : Bool) (L : List Nat), e = .returned (.tuple #[.slice o L.length c, .bool is, .int .i64 0]) ∧ RdN w' (.slice o L.length c) L ∧ ((ns[j].kind = 1 ∨ ns[j].kind = 11 ∨ ns[j].kind = 12) → L = contentD ns ((j : Int) + 1)) ∧ Below w.heap.size w w' := by
  have hx := thereB_idx ns.length j hj
  have hE : toldE ns [(j : Int) + 1] = 0 := toldE_ok ((rightD_iff ns).2 hR) (by simp [hx])
  have hal4 : (allD ns ((j : Int) + 1)).length ≤ 4096 := Nat.le_trans (hR.kidsHang.below_len (ns.length + 1) _ hx (by omega)) hR.small
  obtain ⟨bx, g0, sx⟩ := one_newC w (.cells #[.slice (some ⟨b, off, none⟩) ns.length cap] 24)
  have hA := All_any (some ⟨b, off, none⟩) cap ((j : Int) + 1) ns _ (hF.later bx).rdF hkl hal (fun _ => by omega)
  rw [hE, if_pos rfl] at hA
  have hath : ∀ h ∈ allD ns ((j : Int) + 1), thereB ns.length h = true := fun h hh => all_there hR hx hh
  have hapos : 0 < (allD ns ((j : Int) + 1)).length := by rw [all_cons hR hx]; simp
  have HKd : Hid (∀ V : World, Below w.heap.size w V → _) := fun V hV => cKind_any b off cap j ns V (hF.later hV) hj
  have HHs : Hid (∀ V : World, _) := fun V => cHas_any ns[j].kind V
  have HJn : Hid (∀ (v : Value) (l : List Int) (V : World), Below w.heap.size w V → RdI V v l → l.length ≤ 4096 → (∀ h ∈ l, thereB ns.length h = true) → _) := fun v l V hV hr h1 h2 => cJoined_any b off cap v l ns V hR (hF.later hV) hr h1 h2
  have HClo : Hid (∀ (h : Int) (V : World), thereB ns.length h = true → Below w.heap.size w V → V.cell? ⟨w.heap.size, 0, none⟩ = some (.slice (some ⟨b, off, none⟩) ns.length cap) → Calls Tryz.prog 77 #[.int .i64 h, .pointer (some ⟨w.heap.size, 0, none⟩)] V fun e w' => e = .returned (.bool (!textB ns h)) ∧ Below V.heap.size V w') := fun h V hh hV hc => by
    obtain ⟨i, hi, rfl⟩ := there_idx hh
    exact cClo_any b off cap i w.heap.size ns V (hF.later hV) hi hc
  have Hbx := hid bx
  have HG0 := hid g0
  have c0 := (box_cell_l g0).1
  have HCD : Hid (contentD ns ((j : Int) + 1) = ((allD ns ((j : Int) + 1)).filter (textB ns)).flatMap (dataD ns)) := rfl
  clear hR hF hkl hal hE hx bx g0
  generalize contentD ns ((j : Int) + 1) = CD at *
  generalize allD ns ((j : Int) + 1) = AL at *
  generalize ns[j].kind = k at *
  go_enter Tryz.func33, Tryz.ntmps33
  go_wp2_with fail
  refine hA.mono ?_
  rintro e v1 ⟨v, rfl, ho, hb1⟩
  obtain ⟨g, capA, ff, rfl, hbg, hrow, hlc, _, hff⟩ := own_rowIs ho hapos
  have HRd := hid (ownsRow_rdI ho)
  have Hrow := hid hrow
  have c1 := (box_cell_l (blkLater hb1 HG0.out)).1
  have HB1 := hid (Hbx.out.trans (hb1.mono Hbx.out.size))
  have h1 := HKd.out v1 HB1.out
  have Hb1 := hid hb1
  have HG1 := hid (blkLater hb1 HG0.out)
  clear hA ho hb1 hrow c0
  go_wp2_with fail
  refine h1.mono ?_
  rintro e v2 ⟨rfl, hb2⟩
  have HB2 := hid (HB1.out.trans (hb2.mono HB1.out.size))
  have HRd2 := hid (HRd.out.later hb2)
  have Hrow2 := hid (Hrow.out.of_block (hb2.block g Hrow.out.lt))
  have c2 := (box_cell_l (blkLater hb2 HG1.out)).1
  have HG2 := hid (blkLater hb2 HG1.out)
  have e9 : ((k : Int) == 9) = (k == 9) := beq_cast k 9
  have e10 : ((k : Int) == 10) = (k == 10) := beq_cast k 10
  clear h1 hb2 c1 HRd Hrow HKd
  by_cases k9 : k = 9
  · subst k9
    clear e9 e10
    go_wp2
    go_ret3
    exact ⟨none, 0, false, [], rfl, nil_rdN _, fun h => by omega, HB2.out⟩
  · by_cases k10 : k = 10
    · subst k10
      clear e9 e10
      go_wp2
      go_ret3
      exact ⟨none, 0, false, [], rfl, nil_rdN _, fun h => by omega, HB2.out⟩
    · rw [beq_eq_false_iff_ne.2 k9] at e9
      rw [beq_eq_false_iff_ne.2 k10] at e10
      have h3 := HHs.out v2
      have Hk : Hid ((textK k || k == 8 || k == 7) = true → ¬ (k = 1 ∨ k = 11 ∨ k = 12)) := fun h => by
        unfold textK at h
        simp only [Bool.or_eq_true, beq_iff_eq] at h
        omega
      generalize (textK k || k == 8 || k == 7) = HD at *
      clear k9 k10
      cases HD with
      | true =>
        have h4 := HJn.out _ AL v2 HB2.out HRd2.out (by omega) hath
        generalize AL.flatMap (dataD ns) = DL at *
        clear HCD HClo
        go_wp2_with fail
        refine h3.mono ?_
        rintro e v3 ⟨rfl, rfl⟩
        go_wp2_with fail
        refine h4.mono ?_
        rintro e v4 ⟨vj, rfl, hoj, hb4⟩
        obtain ⟨oj, cj, rfl⟩ := own_shapeN hoj
        have HO := hid (own_rdNF hoj)
        have HB4 := hid (HB2.out.trans (hb4.mono HB2.out.size))
        clear h3 h4 hoj hb4
        go_wp2
        go_ret3
        exact ⟨oj, cj, true, DL, rfl, HO.out, fun h => absurd h (Hk.out (by simp)), HB4.out⟩
      | false =>
        have hD := delFunc_any g capA 77 (w.heap.size + 1) (.pointer (some ⟨w.heap.size, 0, none⟩)) AL (fun x => !textB ns x) v2 ff Hrow2.out hff hlc (by omega) (by rw [← sx]; exact hbg) cClo_enters (fun x hx V hV => HClo.out x V (hath x hx) (HB2.out.trans (hV.mono (Nat.le_succ _))) ((hV.cell (p := ⟨w.heap.size, 0, none⟩) (Nat.lt_succ_self _)).trans c2))
        have ef : (AL.filter fun x => !(!textB ns x)) = AL.filter (textB ns) := by
          congr 1
          funext x
          simp
        rw [ef] at hD
        have hFLl : (AL.filter (textB ns)).length ≤ 4096 := Nat.le_trans (List.length_filter_le _ _) hal4
        have hFLt : ∀ h ∈ AL.filter (textB ns), thereB ns.length h = true := fun h hh => hath h (List.mem_filter.1 hh).1
        have HJ : Hid (∀ (v : Value) (V : World), Below w.heap.size w V → RdI V v (AL.filter (textB ns)) → Calls Tryz.prog 79 #[.agg #[.slice (some ⟨b, off, none⟩) ns.length cap], v] V fun e w' => ∃ v', e = .returned v' ∧ w'.ownsRow V.heap.size 70 1 v' CD.length (CD.map uV) ∧ Below V.heap.size V w') := fun v V hV hr => by
          rw [HCD.out]
          exact HJn.out v _ V hV hr hFLl hFLt
        clear ef HCD HJn hFLl hFLt HClo hff
        generalize AL.filter (textB ns) = FL at *
        go_wp2_with fail
        refine h3.mono ?_
        rintro e v3 ⟨rfl, rfl⟩
        go_wp2_with fail
        refine hD.mono ?_
        rintro e v4 ⟨vd, rfl, hrd, hb4⟩
        have HB4 := hid (HB2.out.trans (hb4.mono (Nat.le_succ _)))
        have c4 := (hb4.cell (p := ⟨w.heap.size, 0, none⟩) (Nat.lt_succ_self _)).trans c2
        have h5 := HJ.out vd v4 HB4.out hrd
        obtain ⟨od, cd, rfl, _⟩ := hrd
        clear h3 hD hb4 c2 HJ
        go_wp2_with fail
        refine h5.mono ?_
        rintro e v5 ⟨vj, rfl, hoj, hb5⟩
        obtain ⟨oj, cj, rfl⟩ := own_shapeN hoj
        have HO := hid (own_rdNF hoj)
        have HB5 := hid (HB4.out.trans (hb5.mono HB4.out.size))
        clear h5 hoj hb5 c4
        go_wp2
        go_ret3
        exact ⟨oj, cj, true, CD, rfl, HO.out, fun _ => rfl, HB5.out⟩
end Go.Proofs.YtilacgcjbdkphaaGreat

