/- ValidRing, whole. -/
import Derived.Test.YtfaeabjgplahgaaCFVdA
import Derived.Test.YtfaeabjgplahgaaCFVaPFVcS
import Derived.Test.YtfaeabjgplahgaaCFRMade
namespace Go.Proofs.Ytfaeabjgplahgaa
open Go.RowKit Go.Lib Go.Shelf

set_option maxRecDepth 100000 in
set_option maxHeartbeats 4000000 in
theorem refInside_none (o : Option Addr) (cap : Nat) (x : Int) (ns : List NodeD) (w : World) (hF : FRd w o cap ns) (hx : thereB ns.length x = false) :
    Calls Try.prog 9 #[.agg #[.slice o ns.length cap], .int .i64 x] w fun e w' => ∃ v, e = .returned v ∧ RdI w' v [] ∧ Below w.heap.size w w' := by
  have hB0 : Below w.heap.size w (w.alloc (.cells #[.slice o ns.length cap] 24)) := (Below.refl _ w).alloc (Nat.le_refl _) _
  have hO := refNode_any o cap x ns _ (hF.later hB0)
  rw [hx] at hO
  have HB0 := hid hB0
  clear hF hB0 hx
  generalize nodeOrNone ns x = n at *
  go_enter Try.func9, Try.ntmps9
  go_wp2_with fail
  refine hO.mono ?_
  rintro e v1 ⟨L, rfl, h1, h2, h3, hb1⟩
  obtain ⟨od, cd, oa, ca, ok, ck, rfl⟩ := lists_slices h1 h2 h3
  have HB1 := hid (HB0.out.trans (hb1.mono HB0.out.size))
  clear h1 h2 h3 hb1 hO HB0
  unfold nodeV
  go_wp2
  exact bodyPost_ret (v := .slice none 0 0) (by simp [results, Try.results9, go_sem]) rfl ⟨_, rfl, rdI_nil _ _ _, HB1.out.alloc HB1.out.size _⟩

theorem any_take (p : Int) (l : List Int) (k : Nat) (h : k < l.length) : (l.take (k + 1)).any (· == p) = ((l.take k).any (· == p) || l[k] == p) := by
  rw [List.take_succ_eq_append_getElem h, List.any_append, List.any_cons, List.any_nil, Bool.or_false]

set_option maxRecDepth 100000 in
set_option maxHeartbeats 8000000 in
theorem ring_free (o : Option Addr) (cap : Nat) (p x c : Int) (R : Bool) (ns : List NodeD) (w : World) (_hle : ns.length ≤ 1099511627776) (hfree : R = false ∨ (R = true ∧ p < 1) ∨ (R = true ∧ ¬ p < 1 ∧ (ns.length : Int) < p)) (HBg : Hid (∀ W : World, Calls Try.prog 5 #[] W fun e w' => e = .returned (.bool true) ∧ Below W.heap.size W w')) (HRt : Hid (∀ W : World, Below w.heap.size w W → Calls Try.prog 6 #[.agg #[.slice o ns.length cap]] W fun e w' => e = .returned (.bool R) ∧ Below W.heap.size W w')) :
    Calls Try.prog 3 #[.agg #[.slice o ns.length cap], .int .i64 p, .int .i64 x, .int .i64 c] w fun e w' => e = .returned (.bool true) ∧ Below w.heap.size w w' := by
  rcases hfree with rfl | ⟨rfl, h⟩ | ⟨rfl, h, h'⟩
  · go_enter Try.func3, Try.ntmps3
    go_wp2_with fail
    refine (HBg.out _).mono ?_
    rintro e v0 ⟨rfl, hb0⟩
    have HB0 := hid (box_go hb0)
    have cb0 := box_forest hb0
    clear hb0 HBg
    go_wp2_with fail
    refine (HRt.out _ HB0.out).mono ?_
    rintro e v1 ⟨rfl, hb⟩
    have HB1 := hid (HB0.out.trans (hb.mono HB0.out.size))
    clear hb HRt HB0 cb0
    go_wp2
    go_ret
    exact ⟨rfl, HB1.out⟩
  · have d1 : decide (p < 1) = true := decide_eq_true h
    clear h
    go_enter Try.func3, Try.ntmps3
    go_wp2_with fail
    refine (HBg.out _).mono ?_
    rintro e v0 ⟨rfl, hb0⟩
    have HB0 := hid (box_go hb0)
    have cb0 := box_forest hb0
    clear hb0 HBg
    go_wp2_with fail
    refine (HRt.out _ HB0.out).mono ?_
    rintro e v1 ⟨rfl, hb⟩
    have HB1 := hid (HB0.out.trans (hb.mono HB0.out.size))
    clear hb HRt HB0 cb0
    go_wp2
    go_ret
    exact ⟨rfl, HB1.out⟩
  · have d1 : decide (p < 1) = false := decide_eq_false h
    have d2 : decide ((ns.length : Int) < p) = true := decide_eq_true h'
    clear h h'
    go_enter Try.func3, Try.ntmps3
    go_wp2_with fail
    refine (HBg.out _).mono ?_
    rintro e v0 ⟨rfl, hb0⟩
    have HB0 := hid (box_go hb0)
    have cb0 := box_forest hb0
    have hs0 := hb0.size
    simp only [World.size_alloc] at hs0
    clear hb0 HBg
    go_wp2_with fail
    refine (HRt.out _ HB0.out).mono ?_
    rintro e v1 ⟨rfl, hb⟩
    have HB1 := hid (HB0.out.trans (hb.mono HB0.out.size))
    have cb1 := (hb.cell (p := ⟨w.heap.size, 0, none⟩) (by show w.heap.size < v0.heap.size; omega)).trans cb0
    clear hb HRt HB0 cb0
    go_wp2
    go_ret
    exact ⟨rfl, HB1.out⟩

set_option maxRecDepth 100000 in
set_option maxHeartbeats 8000000 in
theorem ring_main (o : Option Addr) (cap : Nat) (p x c R0 S0 R1 R2 : Int) (l : List Int) (ns : List NodeD) (w : World) (_hle : ns.length ≤ 1099511627776) (hp : thereB ns.length p = true) (hll : l.length ≤ 1099511627776) (h0 : (R0 == 0) = false) (h1 : (S0 == 0) = false) (hR : Hid (l.any (· == p) = true → (R1 != 0) = true ∧ (R2 != 0) = true)) (HBg : Hid (∀ W : World, Calls Try.prog 5 #[] W fun e w' => e = .returned (.bool true) ∧ Below W.heap.size W w')) (HRt : Hid (∀ W : World, Below w.heap.size w W → Calls Try.prog 6 #[.agg #[.slice o ns.length cap]] W fun e w' => e = .returned (.bool true) ∧ Below W.heap.size W w'))
    (HI0 : Hid (∀ W : World, Below w.heap.size w W → Calls Try.prog 7 #[.agg #[.slice o ns.length cap], .int .i64 p, .int .i64 p, .int .i64 0] W fun e w' => e = .returned (.int .i64 R0) ∧ Below W.heap.size W w'))
    (HS0 : Hid (∀ W : World, Below w.heap.size w W → Calls Try.prog 8 #[.agg #[.slice o ns.length cap], .int .i64 p, .int .i64 p, .int .i64 c] W fun e w' => e = .returned (.int .i64 S0) ∧ Below W.heap.size W w'))
    (HIn : Hid (∀ W : World, Below w.heap.size w W → Calls Try.prog 9 #[.agg #[.slice o ns.length cap], .int .i64 x] W fun e w' => ∃ v, e = .returned v ∧ RdI w' v l ∧ Below W.heap.size W w'))
    (HI1 : Hid (∀ W : World, Below w.heap.size w W → Calls Try.prog 7 #[.agg #[.slice o ns.length cap], .int .i64 x, .int .i64 p, .int .i64 c] W fun e w' => e = .returned (.int .i64 R1) ∧ Below W.heap.size W w'))
    (HI2 : Hid (∀ W : World, Below w.heap.size w W → Calls Try.prog 8 #[.agg #[.slice o ns.length cap], .int .i64 x, .int .i64 p, .int .i64 c] W fun e w' => e = .returned (.int .i64 R2) ∧ Below W.heap.size W w')) :
    Calls Try.prog 3 #[.agg #[.slice o ns.length cap], .int .i64 p, .int .i64 x, .int .i64 c] w fun e w' => e = .returned (.bool true) ∧ Below w.heap.size w w' := by
  obtain ⟨jp, hjp, ep⟩ := there_idx hp
  have d1 : decide (p < 1) = false := decide_eq_false (by omega)
  have d2 : decide ((ns.length : Int) < p) = false := decide_eq_false (by omega)
  clear hjp ep hp
  have HX : Hid (∀ V : World, Below (w.heap.size + 1) (w.alloc (.cells #[.slice o ns.length cap] 24)) V → V.cell? ⟨w.heap.size, 0, none⟩ = some (.slice o ns.length cap)) := fun V hV => (hV.cell (p := ⟨w.heap.size, 0, none⟩) (by show w.heap.size < w.heap.size + 1; omega)).trans (by simp)
  go_enter Try.func3, Try.ntmps3
  go_wp2_with fail
  refine (HBg.out _).mono ?_
  rintro e v0 ⟨rfl, hb0⟩
  have HB0 : Hid (Below (w.heap.size + 1) (w.alloc (.cells #[.slice o ns.length cap] 24)) v0) := hid (by simpa using hb0)
  have cb := HX.out v0 HB0.out
  clear hb0 HBg
  go_wp2_with fail
  refine (HRt.out _ (bx_below HB0.out)).mono ?_
  rintro e v1 ⟨rfl, hb⟩
  have HB1 := hid (HB0.out.trans (hb.mono (bx_size HB0.out)))
  clear hb HRt HB0 cb
  have cb := HX.out v1 HB1.out
  go_wp2_with fail
  refine (HI0.out _ (bx_below HB1.out)).mono ?_
  rintro e v2 ⟨rfl, hb⟩
  have HB2 := hid (HB1.out.trans (hb.mono (bx_size HB1.out)))
  clear hb HI0 HB1 cb
  have cb := HX.out v2 HB2.out
  go_wp2_with fail
  refine (HS0.out _ (bx_below HB2.out)).mono ?_
  rintro e v3 ⟨rfl, hb⟩
  have HB3 := hid (HB2.out.trans (hb.mono (bx_size HB2.out)))
  clear hb HS0 HB2 cb
  have cb := HX.out v3 HB3.out
  go_wp2_with fail
  refine (HIn.out _ (bx_below HB3.out)).mono ?_
  rintro e v4 ⟨vl, rfl, hl, hb⟩
  have HB4 := hid (HB3.out.trans (hb.mono (bx_size HB3.out)))
  clear hb HIn HB3 cb
  obtain ⟨ol, cl, rfl, hcl, gl⟩ := hl
  have G := hid gl
  clear gl
  go_wp2
  go_loopw [10, 11] (fun h i wr => ∃ k : Nat, k ≤ l.length ∧ h = .bool ((l.take k).any (· == p)) ∧ i = .int .i64 k ∧ wr = v4) (fun _ i _ => l.length - (RowKit.intOf i).toNat)
  case atStart => exact ⟨0, Nat.zero_le _, rfl, rfl, rfl⟩
  case round =>
    obtain ⟨k, hk, rfl, rfl, rfl⟩ := hrel
    by_cases hlt : k < l.length
    · obtain ⟨bl, offl, rfl, hlt1, ha⟩ := G.out (by omega)
      have x1 := ha k hlt
      have Hn := hid (any_take p l k hlt)
      have q1 : (0 : Int) ≤ (k : Int) := by omega
      have q2 : (k : Int) < (l.length : Int) := by omega
      clear ha G hR HI1 HI2
      generalize l[k] = a at *
      generalize (l.take k).any (· == p) = B at *
      cases B with
      | true =>
        have hn : (l.take (k + 1)).any (· == p) = true := Hn.out
        clear Hn x1
        go_wp2
        go_roundw
        case rel => exact ⟨k + 1, by omega, by rw [hn], by go_num, trivial⟩
        case measure => simp [RowKit.intOf]; omega
      | false =>
        have hn : (l.take (k + 1)).any (· == p) = (a == p) := by rw [Hn.out, Bool.false_or]
        clear Hn
        go_wp2
        go_roundw
        case rel => exact ⟨k + 1, by omega, by rw [hn], by go_num, trivial⟩
        case measure => simp [RowKit.intOf]; omega
    · have hkl : k = l.length := by omega
      subst hkl
      have hR' := hR.out
      rw [List.take_length]
      have cb := HX.out _ HB4.out
      clear G hR
      generalize l.any (· == p) = B at *
      cases B with
      | false =>
        clear HI1 HI2 hR'
        go_wp2
        go_ret
        exact ⟨rfl, bx_below HB4.out⟩
      | true =>
        obtain ⟨n1, n2⟩ := hR' rfl
        clear hR'
        go_wp2_with fail
        refine (HI1.out _ (bx_below HB4.out)).mono ?_
        rintro e v5 ⟨rfl, hb⟩
        have HB5 := hid (HB4.out.trans (hb.mono (bx_size HB4.out)))
        clear hb HI1 HB4 cb
        have cb := HX.out v5 HB5.out
        go_wp2_with fail
        refine (HI2.out _ (bx_below HB5.out)).mono ?_
        rintro e v6 ⟨rfl, hb⟩
        have HB6 := hid (HB5.out.trans (hb.mono (bx_size HB5.out)))
        clear hb HI2 HB5 cb
        go_wp2
        go_ret
        exact ⟨rfl, bx_below HB6.out⟩

theorem judge_ring {ns : List NodeD} (rep : Bool) (x p c : Int) (h : holdsD ns x p = true) : judgeD ns rep x p c = 10 := by
  unfold judgeD
  rw [h]
  split <;> rfl
theorem insert_ring {ns : List NodeD} (x p c : Int) (h : holdsD ns x p = true) : insertE ns x p c ≠ 0 := by
  unfold insertE
  rw [judge_ring false x p c h]
  split
  · decide
  · assumption
theorem replace_ring {ns : List NodeD} (x p c : Int) (h : holdsD ns x p = true) : replaceE ns x p c ≠ 0 := by
  unfold replaceE
  rw [judge_ring true x p c h]
  split
  · decide
  · assumption
theorem holds_self {ns : List NodeD} (h : RightF ns) {p : Int} (hp : thereB ns.length p = true) : holdsD ns p p = true := by
  unfold holdsD
  rw [List.contains_eq_mem, decide_eq_true_iff]
  exact h.deepHang.self hp
theorem deep_holds {ns : List NodeD} (h : RightF ns) {x p : Int} (hx : thereB ns.length x = true) (hm : p ∈ deepD ns x) : holdsD ns x p = true := by
  unfold holdsD
  rw [List.contains_eq_mem, decide_eq_true_iff]
  exact ((h.deepHang.below_iff (ns.length + 1) x p hx (by omega)).1 hm).2
theorem validRing_law (o : Option Addr) (cap : Nat) (p x c : Int) (ns : List NodeD) (w : World) (hF : FRd w o cap ns) (hkl : ∀ (i : Nat) (hi : i < ns.length), ns[i].kids.length ≤ 1099511627776) (hal : ∀ (i : Nat) (hi : i < ns.length), ns[i].attrs.length ≤ 1099511627776) :
    Calls Try.prog 3 #[.agg #[.slice o ns.length cap], .int .i64 p, .int .i64 x, .int .i64 c] w fun e w' => e = .returned (.bool true) ∧ Below w.heap.size w w' := by
  have HRt : ∀ W : World, Below w.heap.size w W → _ := fun W hW => refRight_any o cap ns W (hF.later hW) hkl hal
  cases hr : rightD ns with
  | false =>
    rw [hr] at HRt
    exact ring_free o cap p x c false ns w hF.len (.inl rfl) (fun W => beginsV_true W) HRt
  | true =>
    rw [hr] at HRt
    have hR := (rightD_iff ns).1 hr
    by_cases h1 : p < 1
    · exact ring_free o cap p x c true ns w hF.len (.inr (.inl ⟨rfl, h1⟩)) (fun W => beginsV_true W) HRt
    by_cases h2 : (ns.length : Int) < p
    · exact ring_free o cap p x c true ns w hF.len (.inr (.inr ⟨rfl, h1, h2⟩)) (fun W => beginsV_true W) HRt
    have hp : thereB ns.length p = true := by unfold thereB; rw [decide_eq_true (by omega), decide_eq_true (by omega)]; rfl
    have hself := holds_self hR hp
    have HI0 : ∀ W : World, Below w.heap.size w W → _ := fun W hW => Insert_any o cap p p 0 ns W (hF.later hW) hkl hal
    have HS0 : ∀ W : World, Below w.heap.size w W → _ := fun W hW => Replace_any o cap p p c ns W (hF.later hW) hkl hal
    have HI1 : ∀ W : World, Below w.heap.size w W → _ := fun W hW => Insert_any o cap x p c ns W (hF.later hW) hkl hal
    have HI2 : ∀ W : World, Below w.heap.size w W → _ := fun W hW => Replace_any o cap x p c ns W (hF.later hW) hkl hal
    cases hx : thereB ns.length x with
    | false =>
      exact ring_main o cap p x c _ _ _ _ [] ns w hF.len hp (by simp) (beq_eq_false_iff_ne.2 (insert_ring p p 0 hself)) (beq_eq_false_iff_ne.2 (replace_ring p p c hself)) (fun h => by cases h) (fun W => beginsV_true W) HRt HI0 HS0 (fun W hW => refInside_none o cap x ns W (hF.later hW) hx) HI1 HI2
    | true =>
      obtain ⟨j, hj, _⟩ := there_idx hx
      obtain ⟨b, off, rfl, hFA⟩ := hF.at_ (by omega)
      refine ring_main _ cap p x c _ _ _ _ (deepD ns x) ns w hF.len hp (Nat.le_trans (deep_len hR hx) (by decide)) (beq_eq_false_iff_ne.2 (insert_ring p p 0 hself)) (beq_eq_false_iff_ne.2 (replace_ring p p c hself)) (fun h => ?_) (fun W => beginsV_true W) HRt HI0 HS0 (fun W hW => refInside_any b off cap x ns W hR (hFA.later hW) hkl hx) HI1 HI2
      obtain ⟨y, hy, e⟩ := List.any_eq_true.1 h
      have e := eq_of_beq e
      subst e
      have hh := deep_holds hR hx hy
      exact ⟨bne_zero (insert_ring x y c hh), bne_zero (replace_ring x y c hh)⟩
end Go.Proofs.Ytfaeabjgplahgaa
