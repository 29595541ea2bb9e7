/- Whether a node holds another one (has for overOf, holds, Holds). -/
/- The reference of order: Of, Place. -/
/- The reference of order: Root, Ancestors. -/
/- The reference of order: Contains, Common. -/
/- The reference of order: All. -/
/- The reference of order: Above, Top, Holds. -/
/- What hangs on a node through shadow trees (plain). -/
/- slices.Grow at nothing and slices.Concat, at ints. -/
/- The reference of order: Fault. -/
import Derived.Test.YtfaeabjgplahgaaGreatCFRangeFBeg
import Derived.Test.YtfaeabjgplahgaaGreatFRefN
import Derived.Test.YtfaeabjgplahgaaGreatFRefM
import Derived.Deep.RegionLaw
import Derived.Lib.AppendZerosOnto
import Derived.Deep.AppendSrc
import Derived.Test.YtfaeabjgplahgaaGreatCFRMade
import Derived.Test.YtfaeabjgplahgaaGreatCFStandFCmp
namespace Go.Proofs.YtfaeabjgplahgaaGreat
open Go.RowKit Go.Lib Go.Shelf
attribute [local go_sem] Oper.semAt_some

/-- Does a node hold another one, through shadow trees? -/
def holdsD (ns : List NodeD) (a b : Int) : Bool := (pathUp ns (overD ns) b).contains a

set_option maxRecDepth 100000 in
set_option maxHeartbeats 4000000 in
theorem hasO_any (b off cap bh bo bf : Nat) (x a : Int) (ns : List NodeD) (w : World) (hR : RightF ns) (hF : FAt w b off cap ns) (hU : UpAt w b off cap ns.length 96 bh bo bf x) (hx : x = 0 ∨ thereB ns.length x = true) :
    Calls Tryz.prog 125 #[upV bh bo bf, .int .i64 a] w fun e w' => e = .returned (.bool (decide (a ∈ pathUp ns (overD ns) x))) ∧ Below w.heap.size w w' := by
  refine (callsIn_wide (n := 5)).1 ?_
  unfold upV
  refine callsIn_of_wp_marks Tryz.func125 rfl trivial ?_ rfl
  simp only [Tryz.ntmps125, List.size_toArray, List.length_cons, List.length_nil, Nat.reduceAdd, Nat.reduceSub, Array.replicate_succ, Array.replicate_zero, List.push_toArray, List.append_toArray, List.nil_append, List.cons_append]
  gi_wp2
  have c0 := new_cell_l w (.int .i64 a) 3
  have c1 := new_cell_l (w.alloc (.cells #[.int .i64 a] 3)) (.bool false) 4
  simp only [World.size_alloc] at c1
  have hB0 : Below w.heap.size w ((w.alloc (.cells #[.int .i64 a] 3)).alloc (.cells #[.bool false] 4)) := ((Below.refl _ w).alloc (Nat.le_refl _) _).alloc (by simp) _
  have hU2 := hU.later hB0
  refine wpIn_rangeFunc_ownF rfl (by omega) (gf := 99) (lb := #[.pointer (some ⟨bh, 0, none⟩), .pointer (some ⟨bo, 0, none⟩), .pointer (some ⟨bf, 0, none⟩)]) rfl trivial (enters_of Tryz.func99 (by kernel_rfl) rfl)
    (upO_stops (5 - 1) bh bo bf w.heap.size b off cap (by omega) x ns w _ hR hF (Nat.le_refl _) hB0 (by simp; omega) hU.lh hU.lo hU.lf hU2.ch hU2.co hU2.cf hx) belowK_t (belowK_b (by simp; omega)) (Below.refl _ _) (fun _ => rfl)
    (fun pre W => ((∀ y ∈ pre, y ≠ a) ∧ W.cell? ⟨w.heap.size, 0, none⟩ = some (.int .i64 a) ∧ W.cell? ⟨w.heap.size + 1, 0, none⟩ = some (.bool false) ∧ W.frozen? ⟨w.heap.size + 1, 0, none⟩ = false) ∧ Below w.heap.size w W)
    (fun c pre W => (c = .ret ∧ a ∈ pre ∧ W.cell? ⟨w.heap.size + 1, 0, none⟩ = some (.bool true)) ∧ Below w.heap.size w W)
    (OwnFrom.and (Own.from (fun s A B row hs hg hr => ⟨hs.1, cell_kept hs.2.1 hg hr, cell_kept hs.2.2.1 hg hr, (frozen_kept hs.2.2.1 hg hr).trans hs.2.2.2⟩) _) (ownFrom_below (Nat.le_refl _) (by simp; omega)))
    (fun c => OwnFrom.and (Own.from (fun s A B row hs hg hr => ⟨hs.1, hs.2.1, cell_kept hs.2.2 hg hr⟩) _) (ownFrom_below (Nat.le_refl _) (by simp; omega)))
    ⟨⟨by simp, keep_cell_l _ c0.1, c1.1, c1.2⟩, hB0⟩
    (fun z => { tmps := #[.func (.func 99) #[] #[.pointer (some ⟨bh, 0, none⟩), .pointer (some ⟨bo, 0, none⟩), .pointer (some ⟨bf, 0, none⟩)], .int .i64 a, undef, .pointer (some ⟨w.heap.size, 0, none⟩), .pointer (some ⟨w.heap.size + 1, 0, none⟩), .int .i64 z, .func (.func 99) #[] #[.pointer (some ⟨bh, 0, none⟩), .pointer (some ⟨bo, 0, none⟩), .pointer (some ⟨bf, 0, none⟩)], .int .i64 z, undef, undef, undef], defers := [] }) ?assign ?body ?done ?stop
  case assign =>
    intro l z W K hK
    gi_wp2
    exact hK
  case body =>
    rintro l pre z W ⟨⟨hp, hcw, hcr, hfr⟩, hB⟩ _
    gi_wp2
    · rename_i hz
      obtain rfl : z = a := eq_of_beq hz
      exact ⟨KeepsOthers.setCell _ _ _, ⟨rfl, List.mem_append.2 (.inr (by simp)), World.cell?_setCell_same' _ _ _ (by rw [hcr]; rfl)⟩, hB.setCell (p := ⟨w.heap.size + 1, 0, none⟩) (by simp) _⟩
    · rename_i hz
      exact ⟨KeepsOthers.refl _, Below.refl _ _, ⟨fun y hy => (List.mem_append.1 hy).elim (hp y) (fun e e' => by simp at e; subst e; subst e'; simp at hz), hcw, hcr, hfr⟩, hB⟩
  case done =>
    rintro D ys W hD rfl ⟨⟨hne, _, hcr, hfr⟩, hB⟩ hK
    gi_wp2
    have hK' := (KeepsOthers.setCell W ⟨w.heap.size + 1, 0, none⟩ (.bool false)).same D _ hK rfl
    refine ⟨by simp, .inl ⟨_, _, rfl, run_takeDeferred hK', ?_⟩⟩
    have hc5 := cell_kept (World.cell?_setCell_same' W ⟨w.heap.size + 1, 0, none⟩ (.bool false) (by rw [hcr]; rfl)) (grownBy_putObj' _ D (.deferred none)) (fun r e => by cases e; exact ⟨_, hK', rfl⟩)
    refine ⟨.bool false, ?_, by rw [decide_eq_false (fun h => hne a h rfl)], (hB.setCell (p := ⟨w.heap.size + 1, 0, none⟩) (by simp) _).trans (belowK_b (w := w) (Nat.le_refl _) _ D _ _ (by simp at hD; omega) hK' rfl rfl)⟩
    simp [results, Tryz.f125, go_sem, hc5]
  case stop =>
    rintro D c pre W hD hpre ⟨⟨rfl, hin, hcr⟩, hB⟩ hK
    gi_wp2
    refine ⟨by simp, .inl ⟨_, _, rfl, run_takeDeferred hK, ?_⟩⟩
    have hc5 := cell_kept hcr (grownBy_putObj' _ D (.deferred none)) (fun r e => by cases e; exact ⟨_, hK, rfl⟩)
    refine ⟨.bool true, ?_, by rw [decide_eq_true (hpre.subset hin)], hB.trans (belowK_b (w := w) (Nat.le_refl _) W D _ _ (by simp at hD; omega) hK rfl rfl)⟩
    simp [results, Tryz.f125, go_sem, hc5]

set_option maxRecDepth 100000 in
set_option maxHeartbeats 4000000 in
theorem holds_any (b off cap : Nat) (a x : Int) (ns : List NodeD) (w : World) (hR : RightF ns) (hF : FAt w b off cap ns) (hx : thereB ns.length x = true) :
    Calls Tryz.prog 105 #[forestV b off cap ns.length, .int .i64 a, .int .i64 x] w fun e w' => e = .returned (.bool (holdsD ns a x)) ∧ Below w.heap.size w w' := by
  have hcd : holdsD ns a x = decide (a ∈ pathUp ns (overD ns) x) := by
    unfold holdsD
    rw [List.contains_eq_mem]
  rw [hcd]
  have HU : Hid (∀ W : World, _) := fun W => upBy_any b off cap ns.length x 96 W
  have HH : Hid (∀ (bh bo bf : Nat) (W : World), Below w.heap.size w W → UpAt W b off cap ns.length 96 bh bo bf x → _) := fun bh bo bf W hW hU => hasO_any b off cap bh bo bf x a ns W hR (hF.later hW) hU (.inr hx)
  clear hcd hF hR
  unfold forestV upV at *
  generalize decide (a ∈ pathUp ns (overD ns) x) = R at *
  go_enter Tryz.func105, Tryz.ntmps105
  go_wp2_with fail
  refine (HU.out _).mono ?_
  rintro e v1 ⟨rfl, rfl⟩
  have hA := upAt_new b off cap ns.length 96 x (w.alloc (.cells #[.slice (some ⟨b, off, none⟩) ns.length cap] 24))
  have hB := up_below b off cap ns.length 96 x (w.alloc (.cells #[.slice (some ⟨b, off, none⟩) ns.length cap] 24))
  simp only [World.size_alloc] at hA
  have hBw : Below w.heap.size w _ := ((Below.refl _ w).alloc (Nat.le_refl _) _).trans (hB.mono (by simp))
  have hH := HH.out _ _ _ _ hBw hA
  have HB := hid hBw
  clear hBw hB hA
  go_wp2_with fail
  refine hH.mono ?_
  rintro e v2 ⟨rfl, hb2⟩
  have HB2 := hid (HB.out.trans (hb2.mono HB.out.size))
  clear hb2 HB hH
  go_wp2
  go_ret
  exact ⟨rfl, HB2.out⟩

set_option maxRecDepth 100000 in
set_option maxHeartbeats 4000000 in
theorem toldHolds_any (o : Option Addr) (cap u1 u2 u3 : Nat) (R : Bool) (v : Value) (hs : List Int) (ns : List NodeD) (w : World) (hF : FRd w o cap ns) (hkl : ∀ (i : Nat) (hi : i < ns.length), ns[i].kids.length ≤ 1099511627776) (hal : ∀ (i : Nat) (hi : i < ns.length), ns[i].attrs.length ≤ 1099511627776) (hv : RdI w v hs) (hl : hs.length ≤ 1099511627776)
    (hT : toldE ns hs = 0 → ∀ W : World, Below w.heap.size w W → Calls Tryz.prog 104 #[.pointer (some ⟨u1, 0, none⟩), .pointer (some ⟨u2, 0, none⟩), .pointer (some ⟨u3, 0, none⟩)] W fun e w' => e = .returned (.bool R) ∧ Below W.heap.size W w') :
    Calls Tryz.prog 101 #[.agg #[.slice o ns.length cap], .func (.func 104) #[] #[.pointer (some ⟨u1, 0, none⟩), .pointer (some ⟨u2, 0, none⟩), .pointer (some ⟨u3, 0, none⟩)], v] w fun e w' => e = .returned (.tuple #[.bool (if toldE ns hs = 0 then R else false), .int .i64 (toldE ns hs)]) ∧ Below w.heap.size w w' := by
  have HC : Hid (∀ W : World, Below w.heap.size w W → _) := fun W hW => Check_any o cap ns W (hF.later hW) hkl hal
  have hle := hF.len
  obtain ⟨o2, c2, rfl, hc2, g2⟩ := hv
  clear hF hkl hal
  generalize checkN ns = CN at *
  cases hr : rightD ns with
  | false =>
    have e0 : toldE ns hs = 5 := by unfold toldE; rw [hr]; rfl
    have e1 : checkE ns = 5 := by unfold checkE; rw [hr]; rfl
    rw [e0, if_neg (by decide)]
    rw [e1] at HC
    clear hT e0 e1 g2
    go_enter Tryz.func101, Tryz.ntmps101
    go_wp2_with fail
    refine (HC.out _ ((Below.refl _ w).alloc (Nat.le_refl _) _)).mono ?_
    rintro e v1 ⟨rfl, hb1⟩
    go_wp2
    go_ret2
    exact ⟨rfl, box_go hb1⟩
  | true =>
    have e1 : checkE ns = 0 := (checkE_right hr).1
    rw [e1] at HC
    obtain ⟨E, hE⟩ : ∃ E, toldE ns hs = E := ⟨_, rfl⟩
    rw [hE] at hT ⊢
    have HE : Hid ((if (hs.drop 0).all (thereB ns.length) then (0 : Int) else 2) = E) := by
      have := hE
      unfold toldE at this
      rw [hr, if_pos rfl] at this
      exact this
    obtain ⟨T, hTe⟩ : ∃ T, (if E = 0 then R else false) = T := ⟨_, rfl⟩
    rw [hTe]
    have HTe := hid hTe
    have HT := hid hT
    clear hE hT e1 hTe
    go_enter Tryz.func101, Tryz.ntmps101
    go_wp2_with fail
    refine (HC.out _ ((Below.refl _ w).alloc (Nat.le_refl _) _)).mono ?_
    rintro e v1 ⟨rfl, hb1⟩
    have HB1 := hid (box_go hb1)
    have cb := box_forest hb1
    clear hb1 HC
    go_wp2
    go_loopw [24] (fun t wr => ∃ k : Nat, k ≤ hs.length ∧ t = .int .i64 k ∧ wr = v1 ∧ Hid ((if (hs.drop k).all (thereB ns.length) then (0 : Int) else 2) = E)) (fun t _ => hs.length - (RowKit.intOf t).toNat)
    case atStart => exact ⟨0, Nat.zero_le _, rfl, rfl, HE⟩
    case round =>
      obtain ⟨k, k1, rfl, rfl, hK⟩ := hrel
      by_cases hlt : k < hs.length
      · obtain ⟨b, off, rfl, hlt1, ha⟩ := g2 (by omega)
        have x1 := (HB1.out.cell (p := ⟨b, off + k, none⟩) hlt1).trans (ha k hlt)
        have q1 : (0 : Int) ≤ (k : Int) := by omega
        have q2 : (k : Int) < (hs.length : Int) := by omega
        have hk := hK.out
        rw [List.drop_eq_getElem_cons hlt, List.all_cons] at hk
        have Hk := hid hk
        clear hk hK ha g2
        generalize hs[k] = a at *
        by_cases g1 : a < 1
        · have hf : thereB ns.length a = false := by unfold thereB; rw [decide_eq_false (by omega)]; rfl
          have hE2 : E = 2 := by rw [← Hk.out, hf]; rfl
          subst hE2
          have hT0 : T = false := by rw [← HTe.out]; rfl
          subst hT0
          have d1 : decide (a < 1) = true := decide_eq_true g1
          clear Hk hf HT
          go_wp2
          go_ret2
          exact ⟨rfl, HB1.out⟩
        · have d1 : decide (a < 1) = false := decide_eq_false g1
          by_cases g3 : (ns.length : Int) < a
          · have hf : thereB ns.length a = false := by unfold thereB; rw [decide_eq_false (p := a ≤ (ns.length : Int)) (by omega), Bool.and_false]
            have hE2 : E = 2 := by rw [← Hk.out, hf]; rfl
            subst hE2
            have hT0 : T = false := by rw [← HTe.out]; rfl
            subst hT0
            have d2 : decide ((ns.length : Int) < a) = true := decide_eq_true g3
            clear Hk hf HT
            go_wp2
            go_ret2
            exact ⟨rfl, HB1.out⟩
          · have hf : thereB ns.length a = true := by unfold thereB; rw [decide_eq_true (by omega), decide_eq_true (by omega)]; rfl
            have d2 : decide ((ns.length : Int) < a) = false := decide_eq_false g3
            have Hn : Hid ((if (hs.drop (k + 1)).all (thereB ns.length) then (0 : Int) else 2) = E) := by
              have h := Hk.out
              rw [hf, Bool.true_and] at h
              exact h
            clear Hk hf
            go_wp2
            go_roundw
            case rel => exact ⟨k + 1, by omega, by go_num, trivial, Hn⟩
            case measure => simp [RowKit.intOf]; omega
      · have hE0 : E = 0 := by rw [← hK.out, List.drop_eq_nil_of_le (by omega)]; rfl
        subst hE0
        have hT := HT.out rfl wr HB1.out
        have hT0 : T = R := by rw [← HTe.out]; rfl
        subst hT0
        clear hK g2 HT HTe
        go_wp2_with fail
        refine hT.mono ?_
        rintro e v2 ⟨rfl, hb2⟩
        have HB2 := hid (HB1.out.trans (hb2.mono HB1.out.size))
        clear hT hb2
        go_wp2
        go_ret2
        exact ⟨rfl, HB2.out⟩

set_option maxRecDepth 100000 in
set_option maxHeartbeats 2000000 in
theorem Holds1_any (b off cap u1 u2 u3 : Nat) (x y : Int) (ns : List NodeD) (w : World) (hR : RightF ns) (hF : FAt w b off cap ns) (hy : thereB ns.length y = true)
    (c1 : w.cell? ⟨u1, 0, none⟩ = some (.slice (some ⟨b, off, none⟩) ns.length cap)) (c2 : w.cell? ⟨u2, 0, none⟩ = some (.int .i64 x)) (c3 : w.cell? ⟨u3, 0, none⟩ = some (.int .i64 y)) :
    Calls Tryz.prog 104 #[.pointer (some ⟨u1, 0, none⟩), .pointer (some ⟨u2, 0, none⟩), .pointer (some ⟨u3, 0, none⟩)] w fun e w' => e = .returned (.bool (holdsD ns x y)) ∧ Below w.heap.size w w' := by
  have hP := holds_any b off cap x y ns w hR hF hy
  unfold forestV at hP
  generalize holdsD ns x y = P at *
  go_enter Tryz.func104, Tryz.ntmps104
  go_wp2_with fail
  refine hP.mono ?_
  rintro e v1 ⟨rfl, hb1⟩
  have HB := hid hb1
  clear hP hb1
  go_wp2
  go_ret
  exact ⟨rfl, HB.out⟩

set_option maxRecDepth 100000 in
set_option maxHeartbeats 4000000 in
theorem Holds_any (o : Option Addr) (cap : Nat) (x y : Int) (ns : List NodeD) (w : World) (hF : FRd w o cap ns) (hkl : ∀ (i : Nat) (hi : i < ns.length), ns[i].kids.length ≤ 1099511627776) (hal : ∀ (i : Nat) (hi : i < ns.length), ns[i].attrs.length ≤ 1099511627776) :
    Calls Tryz.prog 82 #[.agg #[.slice o ns.length cap], .int .i64 x, .int .i64 y] w fun e w' => e = .returned (.tuple #[.bool (if toldE ns [x, y] = 0 then holdsD ns x y else false), .int .i64 (toldE ns [x, y])]) ∧ Below w.heap.size w w' := by
  have hB4 : Below w.heap.size w ((((w.alloc (.cells #[.slice o ns.length cap] 24)).alloc (.cells #[.int .i64 x] 3)).alloc (.cells #[.int .i64 y] 3)).alloc (.cells #[.int .i64 x, .int .i64 y] 3)) := ((((Below.refl _ w).alloc (Nat.le_refl _) _).alloc (by simp) _).alloc (by simp; omega) _).alloc (by simp; omega) _
  have k0 := new_cell_l w (.slice o ns.length cap) 24
  have k1 := new_cell_l (w.alloc (.cells #[.slice o ns.length cap] 24)) (.int .i64 x) 3
  have k2 := new_cell_l ((w.alloc (.cells #[.slice o ns.length cap] 24)).alloc (.cells #[.int .i64 x] 3)) (.int .i64 y) 3
  have kr := two_rdI (((w.alloc (.cells #[.slice o ns.length cap] 24)).alloc (.cells #[.int .i64 x] 3)).alloc (.cells #[.int .i64 y] 3)) x y 3
  simp only [World.size_alloc] at k1 k2 kr
  have c0 := keep_cell_l (.cells #[.int .i64 x, .int .i64 y] 3) (keep_cell_l (.cells #[.int .i64 y] 3) (keep_cell_l (.cells #[.int .i64 x] 3) k0.1))
  have c1 := keep_cell_l (.cells #[.int .i64 x, .int .i64 y] 3) (keep_cell_l (.cells #[.int .i64 y] 3) k1.1)
  have c2 := keep_cell_l (.cells #[.int .i64 x, .int .i64 y] 3) k2.1
  have hT := toldHolds_any o cap w.heap.size (w.heap.size + 1) (w.heap.size + 1 + 1) (holdsD ns x y) _ [x, y] ns _ (hF.later hB4) hkl hal kr (by simp) (fun hE W hW => by
    obtain ⟨hR, hth⟩ := toldE_zero hE
    have hx := hth x (by simp)
    have hy := hth y (by simp)
    have hpos : 0 < ns.length := by
      obtain ⟨j, hj, _⟩ := there_idx hx
      omega
    obtain ⟨b, off, rfl, hFA⟩ := hF.at_ hpos
    have s0 : w.heap.size < ((((w.alloc (.cells #[.slice (some ⟨b, off, none⟩) ns.length cap] 24)).alloc (.cells #[.int .i64 x] 3)).alloc (.cells #[.int .i64 y] 3)).alloc (.cells #[.int .i64 x, .int .i64 y] 3)).heap.size := by simp only [World.size_alloc]; omega
    exact Holds1_any b off cap _ _ _ x y ns W hR (hFA.later (hB4.trans (hW.mono hB4.size))) hy
      ((hW.cell (p := ⟨w.heap.size, 0, none⟩) s0).trans c0)
      ((hW.cell (p := ⟨w.heap.size + 1, 0, none⟩) (by show w.heap.size + 1 < _; simp only [World.size_alloc]; omega)).trans c1)
      ((hW.cell (p := ⟨w.heap.size + 1 + 1, 0, none⟩) (by show w.heap.size + 1 + 1 < _; simp only [World.size_alloc]; omega)).trans c2))
  generalize (if toldE ns [x, y] = 0 then holdsD ns x y else false) = A at *
  generalize toldE ns [x, y] = E at *
  have HB4 := hid hB4
  clear k0 k1 k2 kr c0 c1 c2 hF hkl hal hB4
  go_enter Tryz.func82, Tryz.ntmps82
  go_wp2_with fail
  refine hT.mono ?_
  rintro e v1 ⟨rfl, hb1⟩
  have HB := hid (HB4.out.trans (hb1.mono HB4.out.size))
  clear hT hb1 HB4
  go_wp2
  go_ret2
  exact ⟨rfl, HB.out⟩
end Go.Proofs.YtfaeabjgplahgaaGreat

namespace Go.Proofs.YtfaeabjgplahgaaGreat
open Go.RowKit Go.Lib Go.Shelf

set_option maxRecDepth 100000 in
set_option maxHeartbeats 4000000 in
theorem refOf_at (b off cap j : Nat) (ns : List NodeD) (w W : World) (hF : FAt w b off cap ns) (hW : Below w.heap.size w W) (hj : j < ns.length) :
    Calls Tryz.prog 74 #[.agg #[.slice (some ⟨b, off, none⟩) ns.length cap], .int .i64 ((j : Int) + 1)] W fun e w' => ∃ L : Lists, e = .returned (nodeV ns[j] L) ∧ RdN w L.data ns[j].data ∧ RdA w L.attrs ns[j].attrs ∧ RdI w L.kids ns[j].kids ∧ Below W.heap.size W w' := by
  have hle := hF.len
  obtain ⟨L, hc, hd, ha, hk⟩ := hF.at_ j hj
  have hs := hW.size
  have hB : Below w.heap.size w ((W.alloc (.cells #[.slice (some ⟨b, off, none⟩) ns.length cap] 24)).alloc (.cells #[.int .u8 0, .string ⟨#[]⟩, .string ⟨#[]⟩, .string ⟨#[]⟩, .string ⟨#[]⟩, .string ⟨#[]⟩, .slice none 0 0, .slice none 0 0, .int .i64 0, .slice none 0 0, .int .i64 0, .int .i64 0, .int .i64 0, .int .u8 0, .bool false, .bool false] 49)) := (hW.alloc hs _).alloc (by simp; omega) _
  obtain ⟨c0, c1, c2, c3, c4, c5, c6, c7, c8, c9, c10, c11, c12, c13, c14, c15⟩ := hc.later hF.lt hB
  have Hd := hid hd
  have Ha := hid ha
  have Hk := hid hk
  obtain ⟨D, A, K⟩ := L
  obtain ⟨od, cd, e1, _⟩ := hd
  obtain ⟨oa, ca, e2, _⟩ := ha
  obtain ⟨ok, ck, e3, _⟩ := hk
  simp only at e1 e2 e3
  subst e1 e2 e3
  have q1 : (0 : Int) ≤ (j : Int) := by omega
  have q2 : (j : Int) < (ns.length : Int) := by omega
  clear hF hc hB hW hs
  generalize ns[j] = n at *
  go_enter Tryz.func74, Tryz.ntmps74
  go_wp2
  have hB2 : ∀ o2 : Obj, Below W.heap.size W ((W.alloc (.cells #[.slice (some ⟨b, off, none⟩) ns.length cap] 24)).alloc o2) := fun o2 => ((Below.refl _ W).alloc (Nat.le_refl _) _).alloc (by simp) _
  exact bodyPost_ret (v := nodeV n ⟨.slice od n.data.length cd, .slice oa n.attrs.length ca, .slice ok n.kids.length ck⟩) (by simp [results, Tryz.results74, go_sem, nodeV]) rfl ⟨⟨.slice od n.data.length cd, .slice oa n.attrs.length ca, .slice ok n.kids.length ck⟩, rfl, Hd.out, Ha.out, Hk.out, hB2 _⟩
theorem refOf_any (b off cap j : Nat) (ns : List NodeD) (w : World) (hF : FAt w b off cap ns) (hj : j < ns.length) :
    Calls Tryz.prog 74 #[.agg #[.slice (some ⟨b, off, none⟩) ns.length cap], .int .i64 ((j : Int) + 1)] w fun e w' => ∃ L : Lists, e = .returned (nodeV ns[j] L) ∧ RdN w' L.data ns[j].data ∧ RdA w' L.attrs ns[j].attrs ∧ RdI w' L.kids ns[j].kids ∧ Below w.heap.size w w' := by
  refine (refOf_at b off cap j ns w w hF (Below.refl _ _) hj).mono ?_
  rintro e w' ⟨L, rfl, h1, h2, h3, hb⟩
  exact ⟨L, rfl, h1.later hb, h2.later hb, h3.later hb, hb⟩

set_option maxRecDepth 100000 in
set_option maxHeartbeats 2000000 in
theorem refPlace_any (v : Value) (l : List Int) (x : Int) (w : World) (hv : RdI w v l) (hl : l.length ≤ 1099511627776) :
    Calls Tryz.prog 75 #[v, .int .i64 x] w fun e w' => e = .returned (.int .i64 (idxI l x 0)) ∧ w' = w := by
  obtain ⟨o, c, rfl, hc, g⟩ := hv
  obtain ⟨N, hN⟩ : ∃ N, idxI l x 0 = N := ⟨_, rfl⟩
  rw [hN]
  have HN : Hid (idxI (l.drop 0) x 0 = N) := hN
  clear hN
  go_enter Tryz.func75, Tryz.ntmps75
  go_wp2
  go_loopw [5] (fun t wr => ∃ k : Nat, k ≤ l.length ∧ t = .int .i64 k ∧ wr = w ∧ Hid (idxI (l.drop k) x k = N)) (fun t _ => l.length - (RowKit.intOf t).toNat)
  case atStart => exact ⟨0, Nat.zero_le _, rfl, rfl, HN⟩
  case round =>
    obtain ⟨k, k1, rfl, rfl, hK⟩ := hrel
    by_cases hlt : k < l.length
    · obtain ⟨b, off, rfl, hlt1, ha⟩ := g (by omega)
      have x1 := ha k hlt
      have q1 : (0 : Int) ≤ (k : Int) := by omega
      have q2 : (k : Int) < (l.length : Int) := by omega
      have hk := hK.out
      rw [List.drop_eq_getElem_cons hlt, idxI] at hk
      have Hk := hid hk
      clear hk hK ha g
      generalize l[k] = a at *
      cases he : (a == x) with
      | true =>
        have hNk : N = (k : Int) := by
          rw [← Hk.out, he]
          rfl
        subst hNk
        clear Hk
        go_wp2
        go_ret
        exact ⟨rfl, rfl⟩
      | false =>
        have Hn : Hid (idxI (l.drop (k + 1)) x (k + 1) = N) := by
          have h := Hk.out
          rw [he, if_neg Bool.false_ne_true] at h
          exact h
        clear Hk
        go_wp2
        go_roundw
        case rel => exact ⟨k + 1, by omega, by go_num, trivial, Hn⟩
        case measure => simp [RowKit.intOf]; omega
    · have hNk : N = -1 := by
        rw [← hK.out, List.drop_eq_nil_of_le (by omega)]
        rfl
      subst hNk
      clear hK g
      go_wp2
      go_ret
      exact ⟨rfl, rfl⟩
end Go.Proofs.YtfaeabjgplahgaaGreat

namespace Go.Proofs.YtfaeabjgplahgaaGreat
open Go.RowKit Go.Lib Go.Shelf

/-- A node's parent, read out of its value. -/
theorem fld_parent (n : NodeD) (D A K : Value) (W : World) : Sem.run Tryz.prog (Instr.field 49 (.agg #[.int .u8 (n.kind : Int), .string n.space, .string n.pre, .string n.loc, .string n.pub, .string n.sys, D, A, .int .i64 n.parent, K, .int .i64 n.doc, .int .i64 n.host, .int .i64 n.shadow, .int .u8 (n.mode : Int), .bool n.manual, .bool n.html]) 6) W = .ok (.int .i64 n.parent) W := by kernel_rfl
theorem lastI_one (x : Int) : lastI [x] = x := rfl
theorem lastI_cons (x : Int) (l : List Int) (h : l ≠ []) : lastI (x :: l) = lastI l := lastI_append [x] l h

set_option maxRecDepth 100000 in
set_option maxHeartbeats 4000000 in
theorem refRoot4_any (b off cap : Nat) (x : Int) (ns : List NodeD) (w : World) (hR : RightF ns) (hF : FAt w b off cap ns) (hx : thereB ns.length x = true) :
    Calls Tryz.prog 38 #[.agg #[.slice (some ⟨b, off, none⟩) ns.length cap], .int .i64 x] w fun e w' => e = .returned (.int .i64 (lastI (pathUp ns (parentD ns) x))) ∧ Below w.heap.size w w' := by
  have HO : Hid (∀ (j : Nat) (hj : j < ns.length) (W : World), Below w.heap.size w W → _) := fun j hj W hW => refOf_any b off cap j ns W (hF.later hW) hj
  obtain ⟨R, hRR⟩ : ∃ R, lastI (pathUp ns (parentD ns) x) = R := ⟨_, rfl⟩
  rw [hRR]
  have HR : Hid (lastI (pathUp ns (parentD ns) x) = R) := hRR
  clear hRR hF
  go_enter Tryz.func38, Tryz.ntmps38
  go_wp2
  go_loopw [1] (fun t wr => ∃ y : Int, thereB ns.length y = true ∧ t = .int .i64 y ∧ Below (w.heap.size + 1) (w.alloc (.cells #[.slice (some ⟨b, off, none⟩) ns.length cap] 24)) wr ∧ Hid (lastI (pathUp ns (parentD ns) y) = R)) (fun t _ => (pathUp ns (parentD ns) (RowKit.intOf t)).length)
  case atStart => exact ⟨x, hx, rfl, Below.refl _ _, HR⟩
  case round =>
    obtain ⟨y, hy, rfl, hB, hr⟩ := hrel
    have hBw := bx_below hB
    have cb : wr.cell? ⟨w.heap.size, 0, none⟩ = some (.slice (some ⟨b, off, none⟩) ns.length cap) := (hB.cell (p := ⟨w.heap.size, 0, none⟩) (by show w.heap.size < w.heap.size + 1; omega)).trans (by simp)
    have hph := pathUp_head hR hy
    obtain ⟨j, hj, rfl⟩ := there_idx hy
    have hpt := hR.parent_there j hj
    rw [parentD_at ns j hj] at hph
    have hO := HO.out j hj wr hBw
    have HO2 : Hid (∀ W : World, Below w.heap.size w W → _) := fun W hW => HO.out j hj W hW
    have HPh := hid hph
    have HPt := hid hpt
    have HB := hid hB
    have HBw := hid hBw
    clear hph hpt hB hBw HR
    generalize ns[j] = n at *
    by_cases h0 : n.parent = 0
    · have hRj : R = (j : Int) + 1 := by
        have h1 := HPh.out
        rw [h0, pathUp_zero] at h1
        rw [← hr.out, h1]
        exact lastI_one _
      subst hRj
      have hne : (n.parent != 0) = false := by rw [h0]; rfl
      clear hr HPh HPt h0
      go_wp2_with fail
      refine hO.mono ?_
      rintro e v1 ⟨L, rfl, h1, h2, h3, hb1⟩
      obtain ⟨od, cd, oa, ca, ok, ck, rfl⟩ := lists_slices h1 h2 h3
      have HB1 := hid (HBw.out.trans (hb1.mono HBw.out.size))
      clear h1 h2 h3 hb1 hO
      unfold nodeV
      have hfl := fld_parent n (.slice od n.data.length cd) (.slice oa n.attrs.length ca) (.slice ok n.kids.length ck)
      go_wp2
      go_ret
      exact ⟨rfl, HB1.out⟩
    · have hne : (n.parent != 0) = true := by rw [bne, beq_eq_false_iff_ne.2 h0]; rfl
      have hpt : thereB ns.length n.parent = true := HPt.out.resolve_left h0
      have Hn : Hid (lastI (pathUp ns (parentD ns) n.parent) = R) := by
        show _ = _
        rw [← hr.out, HPh.out]
        exact (lastI_cons _ _ (hR.kidsHang.ne_nil hpt)).symm
      clear hr HPt
      go_wp2_with fail
      refine hO.mono ?_
      rintro e v1 ⟨L, rfl, h1, h2, h3, hb1⟩
      obtain ⟨od, cd, oa, ca, ok, ck, rfl⟩ := lists_slices h1 h2 h3
      have hs1 := HB.out.size
      simp only [World.size_alloc] at hs1
      have hB1 := HB.out.trans (hb1.mono hs1)
      have cb1 : v1.cell? ⟨w.heap.size, 0, none⟩ = some (.slice (some ⟨b, off, none⟩) ns.length cap) := (hB1.cell (p := ⟨w.heap.size, 0, none⟩) (by show w.heap.size < w.heap.size + 1; omega)).trans (by simp)
      have hO2 := HO2.out v1 (bx_below hB1)
      have HB1 := hid hB1
      clear h1 h2 h3 hb1 hO hB1 hs1
      unfold nodeV
      have hfl := fld_parent n (.slice od n.data.length cd) (.slice oa n.attrs.length ca) (.slice ok n.kids.length ck)
      go_wp2_with fail
      refine hO2.mono ?_
      rintro e v2 ⟨L, rfl, h1, h2, h3, hb2⟩
      obtain ⟨od, cd, oa, ca, ok, ck, rfl⟩ := lists_slices h1 h2 h3
      have hs1 := HB1.out.size
      simp only [World.size_alloc] at hs1
      have HB2 := hid (HB1.out.trans (hb2.mono hs1))
      clear h1 h2 h3 hb2 hO2 hs1
      unfold nodeV
      have hfl := fld_parent n (.slice od n.data.length cd) (.slice oa n.attrs.length ca) (.slice ok n.kids.length ck)
      go_wp2
      go_roundw
      case rel => exact ⟨_, hpt, rfl, HB2.out, Hn⟩
      case measure =>
        simp only [RowKit.intOf]
        rw [HPh.out]
        simp

set_option maxRecDepth 100000 in
set_option maxHeartbeats 4000000 in
theorem refAnc_any (b off cap : Nat) (x : Int) (ns : List NodeD) (w : World) (hR : RightF ns) (hF : FAt w b off cap ns) (hx : thereB ns.length x = true) :
    Calls Tryz.prog 39 #[.agg #[.slice (some ⟨b, off, none⟩) ns.length cap], .int .i64 x] w fun e w' => ∃ v, e = .returned v ∧ RdI w' v (pathUp ns (parentD ns) (parentD ns x)) ∧ Below w.heap.size w w' := by
  obtain ⟨i0, hi, hz0, hz1, hz2⟩ := info_parts info_int
  have HO : Hid (∀ (j : Nat) (hj : j < ns.length) (W : World), Below w.heap.size w W → _) := fun j hj W hW => refOf_any b off cap j ns W (hF.later hW) hj
  have hsmall := hR.small
  have hlen : (pathUp ns (parentD ns) x).length ≤ 4096 := Nat.le_trans (pathUp_len ns _ hR.parentOK hR.ends x (.inr hx)) hR.small
  rw [pathUp_head hR hx, List.length_cons] at hlen
  obtain ⟨P, hP⟩ : ∃ P, pathUp ns (parentD ns) (parentD ns x) = P := ⟨_, rfl⟩
  rw [hP] at hlen ⊢
  have HP : Hid ([] ++ pathUp ns (parentD ns) (parentD ns x) = P) := hP
  clear hP hF
  go_enter Tryz.func39, Tryz.ntmps39
  go_wp2
  go_loopw [1, 5] (fun t v wr => ∃ (y : Int) (done : List Int), thereB ns.length y = true ∧ t = .int .i64 y ∧ Below (w.heap.size + 1) (w.alloc (.cells #[.slice (some ⟨b, off, none⟩) ns.length cap] 24)) wr ∧ wr.ownsRow (w.heap.size + 1) 3 1 v done.length (done.map (Value.int .i64)) ∧ Hid (done ++ pathUp ns (parentD ns) (parentD ns y) = P)) (fun t _ _ => (pathUp ns (parentD ns) (RowKit.intOf t)).length)
  case atStart => exact ⟨x, [], hx, rfl, Below.refl _ _, World.ownsRow_nil _ _ _ _, HP⟩
  case round =>
    obtain ⟨y, done, hy, rfl, hB, hown, hr⟩ := hrel
    have hBw := bx_below hB
    have cb : wr.cell? ⟨w.heap.size, 0, none⟩ = some (.slice (some ⟨b, off, none⟩) ns.length cap) := (hB.cell (p := ⟨w.heap.size, 0, none⟩) (by show w.heap.size < w.heap.size + 1; omega)).trans (by simp)
    have hph := pathUp_head hR hy
    obtain ⟨j, hj, rfl⟩ := there_idx hy
    have hpt := hR.parent_there j hj
    rw [parentD_at ns j hj] at hph hr
    have hO := HO.out j hj wr hBw
    have HO2 : Hid (∀ W : World, Below w.heap.size w W → _) := fun W hW => HO.out j hj W hW
    have HPh := hid hph
    have HPt := hid hpt
    have HB := hid hB
    have HBw := hid hBw
    clear hph hpt hB hBw HP
    generalize ns[j] = n at *
    by_cases h0 : n.parent = 0
    · have hRj : P = done := by
        have h1 := hr.out
        rw [h0, pathUp_zero, List.append_nil] at h1
        exact h1.symm
      subst hRj
      have HOw := hid hown
      have hne : (n.parent != 0) = false := by rw [h0]; rfl
      clear hr HPh HPt hown h0
      go_wp2_with fail
      refine hO.mono ?_
      rintro e v1 ⟨L, rfl, h1, h2, h3, hb1⟩
      obtain ⟨od, cd, oa, ca, ok, ck, rfl⟩ := lists_slices h1 h2 h3
      have HB1 := hid (HBw.out.trans (hb1.mono HBw.out.size))
      have HOw1 := hid (ownsRow_later HOw.out hb1)
      clear h1 h2 h3 hb1 hO HOw
      unfold nodeV
      have hfl := fld_parent n (.slice od n.data.length cd) (.slice oa n.attrs.length ca) (.slice ok n.kids.length ck)
      go_wp2
      go_ret
      exact ⟨_, rfl, ownsRow_rdI HOw1.out, HB1.out⟩
    · have hne : (n.parent != 0) = true := by rw [bne, beq_eq_false_iff_ne.2 h0]; rfl
      have hpt : thereB ns.length n.parent = true := HPt.out.resolve_left h0
      have hr2 := hr.out
      rw [pathUp_head hR hpt] at hr2
      have Hn : Hid ((done ++ [n.parent]) ++ pathUp ns (parentD ns) (parentD ns n.parent) = P) := by
        show _ = _
        rw [List.append_assoc]
        exact hr2
      have hdl : done.length + 1 ≤ 4096 := by
        have := congrArg List.length hr2
        rw [List.length_append, List.length_cons] at this
        omega
      have HOw := hid hown
      clear hr hr2 HPt hown
      go_wp2_with fail
      refine hO.mono ?_
      rintro e v1 ⟨L, rfl, h1, h2, h3, hb1⟩
      obtain ⟨od, cd, oa, ca, ok, ck, rfl⟩ := lists_slices h1 h2 h3
      have hs1 := HB.out.size
      simp only [World.size_alloc] at hs1
      have hB1 := HB.out.trans (hb1.mono hs1)
      have cb1 : v1.cell? ⟨w.heap.size, 0, none⟩ = some (.slice (some ⟨b, off, none⟩) ns.length cap) := (hB1.cell (p := ⟨w.heap.size, 0, none⟩) (by show w.heap.size < w.heap.size + 1; omega)).trans (by simp)
      have hO2 := HO2.out v1 (bx_below hB1)
      have HB1 := hid hB1
      have HOw1 := hid (ownsRow_later HOw.out hb1)
      clear h1 h2 h3 hb1 hO hB1 hs1 HOw
      unfold nodeV
      have hfl := fld_parent n (.slice od n.data.length cd) (.slice oa n.attrs.length ca) (.slice ok n.kids.length ck)
      go_wp2_with fail
      refine hO2.mono ?_
      rintro e v2 ⟨L, rfl, h1, h2, h3, hb2⟩
      obtain ⟨od, cd, oa, ca, ok, ck, rfl⟩ := lists_slices h1 h2 h3
      have hs1 := HB1.out.size
      simp only [World.size_alloc] at hs1
      have HB2 := hid (HB1.out.trans (hb2.mono hs1))
      have hs2 := HB2.out.size
      simp only [World.size_alloc] at hs2
      have hown := ownsRow_later HOw1.out hb2
      clear h1 h2 h3 hb2 hO2 hs1 HOw1
      have m1 : done.length + 1 ≤ maxLen := Nat.le_trans hdl (by decide)
      have m2 : (done.length + 1) * 8 ≤ 140737488355328 := by omega
      have m3 : w.heap.size + 1 ≤ (v2.alloc (.cells #[.int .i64 n.parent] 3)).heap.size := by simp; omega
      unfold nodeV
      have hfl := fld_parent n (.slice od n.data.length cd) (.slice oa n.attrs.length ca) (.slice ok n.kids.length ck)
      go_wp2_with (at_builtin; refine wpList_append_own _ rfl _ _ 26 rfl (w.heap.size + 1) 3 i0 (.int .i64 0) 1 8 Tryz.underlying26 hi hz0 hz1 hz2 rfl (by decide) _ _ _ rfl (hown.alloc _) ⟨v2.heap.size, 0, none⟩ 1 1 [.int .i64 n.parent] rfl rfl (cell_one_new _ _ _) (by simp [Value.oneCell']) m1 m2 m3 ?_; intro v' w1 hown' hgrow _)
      have HB3 : Hid (Below (w.heap.size + 1) v2 w1) := ((Below.refl _ v2).alloc (by omega) _).grown hgrow m3 (fun j hj => (hown.lt j hj).1)
      go_roundw
      case rel => exact ⟨_, done ++ [n.parent], hpt, rfl, HB2.out.trans HB3.out, by simpa using hown', Hn⟩
      case measure =>
        simp only [RowKit.intOf]
        rw [HPh.out]
        simp
end Go.Proofs.YtfaeabjgplahgaaGreat

namespace Go.Proofs.YtfaeabjgplahgaaGreat
open Go.RowKit Go.Lib Go.Shelf

theorem contains_parts {ns : List NodeD} (hR : RightF ns) (a : Int) {b : Int} (hb : thereB ns.length b = true) : containsD ns a b = (a == b || decide (0 ≤ idxI (pathUp ns (parentD ns) (parentD ns b)) a 0)) := by
  unfold containsD
  rw [pathUp_head hR hb, idxI_in, List.contains_cons]
  congr 1
  exact List.contains_eq_mem _ _
theorem forkN_short : ∀ (u t q : List Int), forkN (u ++ t) q ≤ u.length → forkN (u ++ t) q = forkN u q
  | [], t, q, h => by
    have : forkN [] q = 0 := by cases q <;> rfl
    rw [this]
    simpa using h
  | x :: u, t, [], _ => rfl
  | x :: u, t, y :: q, h => by
    rw [List.cons_append, forkN] at h ⊢
    rw [forkN]
    by_cases hxy : (x == y) = true
    · rw [if_pos hxy] at h ⊢
      rw [if_pos hxy]
      rw [List.length_cons] at h
      rw [forkN_short u t q (by omega)]
    · rw [if_neg hxy, if_neg hxy]
theorem pathD_step {ns : List NodeD} (hR : RightF ns) {y : Int} (hy : thereB ns.length y = true) : pathD ns y = pathD ns (parentD ns y) ++ [y] := by
  unfold pathD
  rw [pathUp_head hR hy, List.reverse_cons]
theorem common_here {ns : List NodeD} (hR : RightF ns) {y b : Int} (hy : thereB ns.length y = true) (hb : thereB ns.length b = true) (hc : containsD ns y b = true) : commonD ns y b = y := by
  obtain ⟨pre, hp⟩ := hR.kidsHang.suf hb ((contains_mem ns y b).1 hc)
  have hD : pathD ns b = pathD ns y ++ pre.reverse := by unfold pathD; rw [hp, List.reverse_append]
  obtain ⟨l0, l1⟩ := pathD_last hR hy
  have hf : forkN (pathD ns y) (pathD ns b) = (pathD ns y).length := by
    have := forkN_append (pathD ns y) [] pre.reverse
    rw [List.append_nil] at this
    rw [hD, this]
    have : forkN [] pre.reverse = 0 := by cases pre.reverse <;> rfl
    rw [this, Nat.add_zero]
  unfold commonD
  rw [hf, l1, if_neg]
  intro h
  have := eq_of_beq h
  omega
theorem common_step {ns : List NodeD} (hR : RightF ns) {y b : Int} (hy : thereB ns.length y = true) (hc : containsD ns y b = false) : commonD ns y b = commonD ns (parentD ns y) b := by
  have hs := pathD_step hR hy
  have hlt : forkN (pathD ns y) (pathD ns b) ≤ (pathD ns (parentD ns y)).length := by
    have h1 := (forkN_le (pathD ns y) (pathD ns b)).1
    have h2 : forkN (pathD ns y) (pathD ns b) ≠ (pathD ns y).length := fun h => by
      rw [contains_of_prefix hR hy h] at hc
      cases hc
    have h3 := congrArg List.length hs
    rw [List.length_append, List.length_singleton] at h3
    omega
  have hf : forkN (pathD ns y) (pathD ns b) = forkN (pathD ns (parentD ns y)) (pathD ns b) := by
    rw [hs] at hlt ⊢
    exact forkN_short _ _ _ hlt
  unfold commonD
  rw [hf] at hlt ⊢
  by_cases h0 : forkN (pathD ns (parentD ns y)) (pathD ns b) = 0
  · rw [h0]; rfl
  · rw [if_neg (by simpa using h0), if_neg (by simpa using h0), hs, List.getD_eq_getElem?_getD, List.getElem?_append_left (by omega), ← List.getD_eq_getElem?_getD]
theorem common_none (ns : List NodeD) (b : Int) : commonD ns 0 b = 0 := by
  have h0 : pathD ns 0 = [] := by unfold pathD; rw [pathUp_zero]; rfl
  have : forkN [] (pathD ns b) = 0 := by cases (pathD ns b) <;> rfl
  unfold commonD
  rw [h0, this]
  rfl

end Go.Proofs.YtfaeabjgplahgaaGreat

namespace Go.Proofs.YtfaeabjgplahgaaGreat
open Go.RowKit Go.Lib Go.Shelf

/-- A call of a function at a step of a region that draws its order. -/
theorem step_call {P : Program} (w : World) {ops : Array Oper} {o : Oper} {a : Act} {K : Act → World → Prop} {Q : Exit → Act → World → Prop} {E : Prop} (hgd : o.guard = none) (s x : Operand) (t tn : TypeId) (f : FuncId)
    (ho : o.op = .call { callee := .value (.func f), args := #[s, x], argTypes := #[t, tn] }) (vs vx : Value) (hs : a.eval s = vs) (hx : a.eval x = vx) (hE : (callFunc f #[vs, vx]).run P w = .ok (.enter f #[vs, vx]) w) (R : Ending → World → Prop)
    (hc : Calls P f #[vs, vx] w R) (h : ∀ e w', R e w' → ∃ v, e = .returned v ∧ K (a.put o.dst v) w') :
    if Region.wanted o (yielded ops a.tmps) = true then Oper.wp P o a w K Q else E := by
  have hw : Region.wanted o (yielded ops a.tmps) = true := by simp [Region.wanted, hgd]
  rw [if_pos hw]
  have hf : a.eval (.func f) = .func (.func f) #[] #[] := rfl
  unfold Oper.wp
  simp [execOp, ho, resolve, invoke, hs, hx, hf, hE, Deferred.ofValue]
  refine hc.mono ?_
  rintro e w' hR
  obtain ⟨v, rfl, hK⟩ := h e w' hR
  exact hK

/-- An append at a step of a region that draws its order. -/
theorem step_append_own {P : Program} (w : World) {ops : Array Oper} {o : Oper} {a : Act} {K : Act → World → Prop} {Q : Exit → Act → World → Prop} {E : Prop} (hgd : o.guard = none) (s x : Operand) (t : TypeId)
    (ho : o.op = .call { callee := .builtin .append, args := #[s, x], argTypes := #[t, t] })
    (base : Nat) (e : TypeId) (i : TypeInfo) (z : Value) (size bytes : Nat) (ht : P.underlying t = some (.slice e)) (hi : P.info? e = some i) (hz : i.zero = some z)
    (hsize : i.size = size) (hby : i.bytes = bytes) (hzs : z.cells.size = size) (hsz : 0 < size)
    (v : Value) (n : Nat) (xs : List Value) (hs : a.eval s = v) (hown : w.ownsRow base e size v n xs)
    (ad : Addr) (m c : Nat) (news : List Value) (hx : a.eval x = .slice (some ad) m c) (hl : news.length = m * size) (hnews : ∀ j u, news[j]? = some u → w.cell? (ad.add j) = some u) (h1 : ∀ u ∈ news, u.oneCell' = true)
    (h63 : n + m ≤ maxLen) (hbytes : (n + m) * bytes ≤ 140737488355328) (hbase : base ≤ w.heap.size)
    (h : ∀ v' w', w'.ownsRow base e size v' (n + m) (xs ++ news) → w.grownBy w' v.ownBlock → (v' = .slice none 0 0 ↔ v = .slice none 0 0 ∧ m = 0) → K (a.put o.dst v') w') :
    if Region.wanted o (yielded ops a.tmps) = true then Oper.wp P o a w K Q else E := by
  have hw : Region.wanted o (yielded ops a.tmps) = true := by simp [Region.wanted, hgd]
  rw [if_pos hw]
  exact wp_append_own w s x t ho base e i z size bytes ht hi hz hsize hby hzs hsz v n xs hs hown ad m c news hx hl hnews h1 h63 hbytes hbase h

/-- A node's kids, read out of its value. -/
theorem fld_kids (n : NodeD) (D A K : Value) (W : World) : Sem.run Tryz.prog (Instr.field 49 (.agg #[.int .u8 (n.kind : Int), .string n.space, .string n.pre, .string n.loc, .string n.pub, .string n.sys, D, A, .int .i64 n.parent, K, .int .i64 n.doc, .int .i64 n.host, .int .i64 n.shadow, .int .u8 (n.mode : Int), .bool n.manual, .bool n.html]) 7) W = .ok K W := by kernel_rfl
theorem enterAll (vs vx : Value) (w : World) : (callFunc 44 #[vs, vx]).run Tryz.prog w = .ok (.enter 44 #[vs, vx]) w := by kernel_rfl
theorem own_one (w : World) (B : Nat) (x : Int) (hB : B ≤ w.heap.size) : (w.alloc (.cells #[.int .i64 x] 3)).ownsRow B 3 1 (.slice (some ⟨w.heap.size, 0, none⟩) 1 1) 1 [Value.int .i64 x] :=
  ⟨rfl, .inr ⟨w.heap.size, 1, #[.int .i64 x], rfl, hB, heap_new w _, Nat.le_refl _, (by decide), rfl, rfl⟩⟩

theorem news_cells {w : World} {b off : Nat} {A : List Int} (h : ∀ (j : Nat) (hj : j < A.length), w.cell? ⟨b, off + j, none⟩ = some (.int .i64 A[j])) : ∀ (j : Nat) (u : Value), (A.map (Value.int .i64))[j]? = some u → w.cell? ((⟨b, off, none⟩ : Addr).add j) = some u := fun j u hj => by
  rw [List.getElem?_map] at hj
  obtain ⟨x, hx, rfl⟩ := Option.map_eq_some_iff.1 hj
  obtain ⟨hj', rfl⟩ := List.getElem?_eq_some_iff.1 hx
  have e : (⟨b, off, none⟩ : Addr).add j = ⟨b, off + j, none⟩ := by simp [Addr.add]
  rw [e]
  exact h j hj'
theorem news_one (A : List Int) : ∀ u ∈ A.map (Value.int .i64), u.oneCell' = true := fun u hu => by
  obtain ⟨x, _, rfl⟩ := List.mem_map.1 hu
  rfl

set_option maxRecDepth 100000 in
set_option maxHeartbeats 4000000 in
theorem refAll_step (b off cap j : Nat) (ns : List NodeD) (w : World) (hR : RightF ns) (hF : FAt w b off cap ns) (hj : j < ns.length) (hkl : ns[j].kids.length ≤ 1099511627776)
    (IH : Hid (∀ y ∈ ns[j].kids, ∀ W : World, Below w.heap.size w W → Calls Tryz.prog 44 #[.agg #[.slice (some ⟨b, off, none⟩) ns.length cap], .int .i64 y] W fun e w' => ∃ v, e = .returned v ∧ RdI w' v (allD ns y) ∧ Below W.heap.size W w')) :
    Calls Tryz.prog 44 #[.agg #[.slice (some ⟨b, off, none⟩) ns.length cap], .int .i64 ((j : Int) + 1)] w fun e w' => ∃ v, e = .returned v ∧ RdI w' v (allD ns ((j : Int) + 1)) ∧ Below w.heap.size w w' := by
  have HO : Hid (∀ (W : World), Below w.heap.size w W → _) := fun W hW => refOf_at b off cap j ns w W hF hW hj
  obtain ⟨i0, hi, hz0, hz1, hz2⟩ := info_parts info_int
  have hx : thereB ns.length ((j : Int) + 1) = true := by
    unfold thereB
    rw [decide_eq_true (by omega), decide_eq_true (by omega)]
    rfl
  have hkd : kidsD ns ((j : Int) + 1) = ns[j].kids := by unfold kidsD; rw [nodeOf_at ns j hj]
  have hT := all_cons hR hx
  rw [hkd] at hT
  have hlen : (allD ns ((j : Int) + 1)).length ≤ 4096 := Nat.le_trans (hR.kidsHang.below_len (ns.length + 1) _ hx (by omega)) hR.small
  have hpos : ∀ y ∈ ns[j].kids, 0 < (allD ns y).length := fun y hy => by
    rw [← hkd] at hy
    rw [all_cons hR (hR.kidsHang.down _ y hx hy).1]
    simp
  obtain ⟨T, hTT⟩ : ∃ T, allD ns ((j : Int) + 1) = T := ⟨_, rfl⟩
  rw [hTT] at hT hlen ⊢
  have HT : Hid ([(j : Int) + 1] ++ (ns[j].kids.drop 0).flatMap (allD ns) = T) := hT.symm
  have HP := hid hpos
  clear hF hT hTT hkd hx hpos hR
  have hB0 : Below w.heap.size w ((w.alloc (.cells #[.slice (some ⟨b, off, none⟩) ns.length cap] 24)).alloc (.cells #[.int .i64 ((j : Int) + 1)] 3)) := ((Below.refl _ w).alloc (Nat.le_refl _) _).alloc (by simp) _
  have hO := HO.out _ hB0
  have hr0 := own_one (w.alloc (.cells #[.slice (some ⟨b, off, none⟩) ns.length cap] 24)) (w.heap.size + 1) ((j : Int) + 1) (by simp)
  simp only [World.size_alloc] at hr0
  have HR0 := hid hr0
  have HB1' : Hid (Below (w.heap.size + 1) (w.alloc (.cells #[.slice (some ⟨b, off, none⟩) ns.length cap] 24)) ((w.alloc (.cells #[.slice (some ⟨b, off, none⟩) ns.length cap] 24)).alloc (.cells #[.int .i64 ((j : Int) + 1)] 3))) := (Below.refl _ _).alloc (by simp) _
  clear HO hB0 hr0
  generalize ns[j] = n at *
  go_enter Tryz.func44, Tryz.ntmps44
  go_wp2_with fail
  refine hO.mono ?_
  rintro e v1 ⟨L, rfl, h1, h2, h3, hb1⟩
  obtain ⟨od, cd, oa, ca, ok, ck, rfl⟩ := lists_slices h1 h2 h3
  have HR1 := hid (ownsRow_later HR0.out hb1)
  have HB1 := hid (HB1'.out.trans (hb1.mono (by simp)))
  have hfl := fld_kids n (.slice od n.data.length cd) (.slice oa n.attrs.length ca) (.slice ok n.kids.length ck)
  clear h1 h2 hb1 hO HR0 HB1'
  unfold nodeV
  obtain ⟨o3, c3, e3, hck, gk⟩ := h3
  simp only [Value.slice.injEq] at e3
  obtain ⟨rfl, -, rfl⟩ := e3
  generalize n.kids = ks at *
  go_wp2
  clear hfl
  go_loopw [5, 7] (fun v t wr => ∃ (k : Nat) (done : List Int), k ≤ ks.length ∧ t = .int .i64 k ∧ Below (w.heap.size + 1) (w.alloc (.cells #[.slice (some ⟨b, off, none⟩) ns.length cap] 24)) wr ∧ wr.ownsRow (w.heap.size + 1) 3 1 v done.length (done.map (Value.int .i64)) ∧ Hid (done ++ (ks.drop k).flatMap (allD ns) = T)) (fun _ t _ => ks.length - (RowKit.intOf t).toNat)
  case atStart => exact ⟨0, [(j : Int) + 1], Nat.zero_le _, rfl, HB1.out, HR1.out, HT⟩
  case round =>
    obtain ⟨k, done, hk, rfl, hB, hown, hr⟩ := hrel
    clear HT HR1 HB1
    have hBw := bx_below hB
    have hsb := bx_size hB
    by_cases hlt : k < ks.length
    · obtain ⟨bk, offk, rfl, hltk, hak⟩ := gk (by omega)
      have x1 := (hBw.cell (p := ⟨bk, offk + k, none⟩) hltk).trans (hak k hlt)
      have cb : wr.cell? ⟨w.heap.size, 0, none⟩ = some (.slice (some ⟨b, off, none⟩) ns.length cap) := (hB.cell (p := ⟨w.heap.size, 0, none⟩) (by show w.heap.size < w.heap.size + 1; omega)).trans (by simp)
      have q1 : (0 : Int) ≤ (k : Int) := by omega
      have q2 : (k : Int) < (ks.length : Int) := by omega
      have hrr := hr.out
      rw [List.drop_eq_getElem_cons hlt, List.flatMap_cons, ← List.append_assoc] at hrr
      have hI := IH.out ks[k] (List.getElem_mem hlt) wr.drew hBw.drew
      have hp1 := HP.out ks[k] (List.getElem_mem hlt)
      have hdl : done.length + (allD ns ks[k]).length ≤ 4096 := by
        have h := congrArg List.length hrr
        rw [List.length_append, List.length_append] at h
        omega
      have Hn := hid hrr
      have HB := hid hB
      have HOw := hid hown
      clear hrr hr hB hBw hak gk HP IH hown
      generalize allD ns ks[k] = A at *
      generalize ks[k] = a at *
      go_upto_region 6 with fail
      go_region_law (first
        | (refine step_call _ rfl (.tmp 21) (.tmp 25) 24 3 44 rfl (.agg #[.slice (some ⟨b, off, none⟩) ns.length cap]) (.int .i64 a) (by simp [Act.eval]) (by simp [Act.eval]) (enterAll _ _ _) _ hI ?_; rintro e v2 ⟨vv, rfl, hrd, hb2⟩; refine ⟨vv, rfl, ?_⟩; obtain ⟨o2, c2, rfl, hc2, g2⟩ := hrd; obtain ⟨b2, off2, rfl, hlt2, ha2⟩ := g2 hp1; have HB2 := hid (HB.out.drew.trans (hb2.mono hsb)); have hown2 := ownsRow_later HOw.out.drew hb2)
        | (refine step_append_own _ rfl (.tmp 20) (.tmp 26) 26 rfl (w.heap.size + 1) 3 i0 (.int .i64 0) 1 8 Tryz.underlying26 hi hz0 hz1 hz2 rfl (by decide) _ done.length (done.map (Value.int .i64)) (by simp [Act.eval]) hown2 ⟨b2, off2, none⟩ A.length c2 (A.map (Value.int .i64)) (by simp [Act.eval]) (by simp) (news_cells ha2) (news_one A) (Nat.le_trans hdl (by decide)) (by omega) (bx_size HB2.out) ?_; intro v' w1 hown' hgrow _))
      all_goals
        have HB3 : Hid (Below (w.heap.size + 1) v2 w1) := (Below.refl _ v2).grown hgrow (bx_size HB2.out) (fun j hj => (hown2.lt j hj).1)
        go_wp2
        go_roundw
        case rel => exact ⟨k + 1, done ++ A, by omega, by go_num, HB2.out.trans HB3.out, by simpa using hown', Hn⟩
        case measure => simp [RowKit.intOf]; omega
    · have hTd : T = done := by
        rw [← hr.out, List.drop_eq_nil_of_le (by omega), List.flatMap_nil, List.append_nil]
      subst hTd
      have HBw := hid hBw
      have HOw := hid hown
      clear hr hB hBw gk HP IH hown
      go_wp2
      go_ret
      exact ⟨_, rfl, ownsRow_rdI HOw.out, HBw.out⟩

theorem refAll_go (ns : List NodeD) (hR : RightF ns) (hkl : ∀ (i : Nat) (hi : i < ns.length), ns[i].kids.length ≤ 1099511627776) (b off cap : Nat) : ∀ (f : Nat) (x : Int) (w : World), FAt w b off cap ns → thereB ns.length x = true → ns.length < f + (pathUp ns (parentD ns) x).length →
    Calls Tryz.prog 44 #[.agg #[.slice (some ⟨b, off, none⟩) ns.length cap], .int .i64 x] w fun e w' => ∃ v, e = .returned v ∧ RdI w' v (allD ns x) ∧ Below w.heap.size w w'
  | 0, x, w, _, hx, hf => by
    have := hR.kidsHang.len hx
    omega
  | f + 1, x, w, hF, hx, hf => by
    obtain ⟨j, hj, rfl⟩ := there_idx hx
    refine refAll_step b off cap j ns w hR hF hj (hkl j hj) (fun y hy W hW => ?_)
    have hkd : kidsD ns ((j : Int) + 1) = ns[j].kids := by unfold kidsD; rw [nodeOf_at ns j hj]
    rw [← hkd] at hy
    refine refAll_go ns hR hkl b off cap f y W (hF.later hW) (hR.kidsHang.down _ y hx hy).1 ?_
    rw [hR.kidsHang.deep hx hy]
    omega
theorem refAll_any (b off cap : Nat) (x : Int) (ns : List NodeD) (w : World) (hR : RightF ns) (hF : FAt w b off cap ns) (hkl : ∀ (i : Nat) (hi : i < ns.length), ns[i].kids.length ≤ 1099511627776) (hx : thereB ns.length x = true) :
    Calls Tryz.prog 44 #[.agg #[.slice (some ⟨b, off, none⟩) ns.length cap], .int .i64 x] w fun e w' => ∃ v, e = .returned v ∧ RdI w' v (allD ns x) ∧ Below w.heap.size w w' := refAll_go ns hR hkl b off cap (ns.length + 1) x w hF hx (by omega)
end Go.Proofs.YtfaeabjgplahgaaGreat

namespace Go.Proofs.YtfaeabjgplahgaaGreat
open Go.RowKit Go.Lib Go.Shelf

theorem fld_kind (n : NodeD) (D A K : Value) (W : World) : Sem.run Tryz.prog (Instr.field 49 (.agg #[.int .u8 (n.kind : Int), .string n.space, .string n.pre, .string n.loc, .string n.pub, .string n.sys, D, A, .int .i64 n.parent, K, .int .i64 n.doc, .int .i64 n.host, .int .i64 n.shadow, .int .u8 (n.mode : Int), .bool n.manual, .bool n.html]) 0) W = .ok (.int .u8 (n.kind : Int)) W := by kernel_rfl
theorem fld_host (n : NodeD) (D A K : Value) (W : World) : Sem.run Tryz.prog (Instr.field 49 (.agg #[.int .u8 (n.kind : Int), .string n.space, .string n.pre, .string n.loc, .string n.pub, .string n.sys, D, A, .int .i64 n.parent, K, .int .i64 n.doc, .int .i64 n.host, .int .i64 n.shadow, .int .u8 (n.mode : Int), .bool n.manual, .bool n.html]) 9) W = .ok (.int .i64 n.host) W := by kernel_rfl
theorem over_kind {ns : List NodeD} (h : RightF ns) (j : Nat) (hj : j < ns.length) : overD ns ((j : Int) + 1) = if ns[j].kind == 12 then ns[j].host else ns[j].parent := by
  rw [overD_at ns j hj]
  by_cases hk : ns[j].kind = 12
  · have ht := h.host j hj hk
    have hne : ns[j].host ≠ 0 := fun e => by
      rw [e] at ht
      cases ht
    rw [beq_eq_false_iff_ne.2 hne, if_neg Bool.false_ne_true, hk]
    rfl
  · rw [bare_host (well_parts (h.well j hj)).2.1 hk, beq_eq_false_iff_ne.2 hk, if_neg Bool.false_ne_true]
    rfl
theorem over_there {ns : List NodeD} (h : RightF ns) {x : Int} (hx : thereB ns.length x = true) : overD ns x = 0 ∨ thereB ns.length (overD ns x) = true := by
  obtain ⟨j, hj, rfl⟩ := there_idx hx
  rcases h.overOK j hj with e | ⟨_, e⟩
  · exact .inl e
  · exact .inr e
theorem over_head {ns : List NodeD} (h : RightF ns) {x : Int} (hx : thereB ns.length x = true) : pathUp ns (overD ns) x = x :: pathUp ns (overD ns) (overD ns x) := by
  obtain ⟨j, hj, rfl⟩ := there_idx hx
  exact pathUp_cons ns _ h.overOK h.ends j hj

set_option maxRecDepth 100000 in
set_option maxHeartbeats 4000000 in
theorem refAbove4_any (b off cap : Nat) (x : Int) (ns : List NodeD) (w : World) (hR : RightF ns) (hF : FAt w b off cap ns) (hx : thereB ns.length x = true) :
    Calls Tryz.prog 108 #[.agg #[.slice (some ⟨b, off, none⟩) ns.length cap], .int .i64 x] w fun e w' => e = .returned (.int .i64 (overD ns x)) ∧ Below w.heap.size w w' := by
  have HX : Hid (∀ v1 : World, Below (w.heap.size + 1) (w.alloc (.cells #[.slice (some ⟨b, off, none⟩) ns.length cap] 24)) v1 → v1.cell? ⟨w.heap.size, 0, none⟩ = some (.slice (some ⟨b, off, none⟩) ns.length cap)) := fun v1 hB1 => (hB1.cell (p := ⟨w.heap.size, 0, none⟩) (by show w.heap.size < w.heap.size + 1; omega)).trans (by simp)
  have hB0 : Below (w.heap.size + 1) (w.alloc (.cells #[.slice (some ⟨b, off, none⟩) ns.length cap] 24)) (w.alloc (.cells #[.slice (some ⟨b, off, none⟩) ns.length cap] 24)) := Below.refl _ _
  obtain ⟨j, hj, rfl⟩ := there_idx hx
  have HO : Hid (∀ (W : World), Below w.heap.size w W → _) := fun W hW => refOf_any b off cap j ns W (hF.later hW) hj
  rw [over_kind hR j hj]
  have HB0 := hid hB0
  have hO := HO.out _ (bx_below hB0)
  clear hF hR hx hB0
  generalize ns[j] = n at *
  have ek : ((n.kind : Int) == 12) = (n.kind == 12) := beq_cast n.kind 12
  cases hk : (n.kind == 12)
  all_goals
    rw [hk] at ek
    first | rw [if_pos rfl] | rw [if_neg Bool.false_ne_true]
    clear hk
    go_enter Tryz.func108, Tryz.ntmps108
    go_wp2_with fail
    refine hO.mono ?_
    rintro e v1 ⟨L, rfl, h1, h2, h3, hb1⟩
    obtain ⟨od, cd, oa, ca, ok, ck, rfl⟩ := lists_slices h1 h2 h3
    have hB1 := HB0.out.trans (hb1.mono (by simp))
    have cb1 := HX.out v1 hB1
    have hO2 := HO.out v1 (bx_below hB1)
    have HB1 := hid hB1
    clear h1 h2 h3 hb1 hO hB1 HO
    unfold nodeV
    have hfl := fld_kind n (.slice od n.data.length cd) (.slice oa n.attrs.length ca) (.slice ok n.kids.length ck)
    go_wp2_with fail
    refine hO2.mono ?_
    rintro e v2 ⟨L, rfl, h1, h2, h3, hb2⟩
    obtain ⟨od2, cd2, oa2, ca2, ok2, ck2, rfl⟩ := lists_slices h1 h2 h3
    have HB2 := hid (HB1.out.trans (hb2.mono (bx_size HB1.out)))
    clear h1 h2 h3 hb2 hO2 hfl
    unfold nodeV
    have hfh := fld_host n (.slice od2 n.data.length cd2) (.slice oa2 n.attrs.length ca2) (.slice ok2 n.kids.length ck2)
    have hfp := fld_parent n (.slice od2 n.data.length cd2) (.slice oa2 n.attrs.length ca2) (.slice ok2 n.kids.length ck2)
    go_wp2
    go_ret
    exact ⟨rfl, bx_below HB2.out⟩

theorem holds_here (ns : List NodeD) {a b : Int} (hR : RightF ns) (hb : thereB ns.length b = true) : holdsD ns a b = (b == a || holdsD ns a (overD ns b)) := by
  unfold holdsD
  rw [over_head hR hb, List.contains_cons]
  congr 1
  rw [Bool.eq_iff_iff, beq_iff_eq, beq_iff_eq]
  exact ⟨Eq.symm, Eq.symm⟩
set_option maxRecDepth 100000 in
set_option maxHeartbeats 4000000 in
theorem refHolds_any (b off cap : Nat) (a x : Int) (ns : List NodeD) (w : World) (hR : RightF ns) (hF : FAt w b off cap ns) (ha : thereB ns.length a = true) (hx : thereB ns.length x = true) :
    Calls Tryz.prog 87 #[.agg #[.slice (some ⟨b, off, none⟩) ns.length cap], .int .i64 a, .int .i64 x] w fun e w' => e = .returned (.bool (holdsD ns a x)) ∧ Below w.heap.size w w' := by
  have HA : Hid (∀ (z : Int) (hz : thereB ns.length z = true) (W : World), Below w.heap.size w W → _) := fun z hz W hW => refAbove4_any b off cap z ns W hR (hF.later hW) hz
  obtain ⟨R, hRR⟩ : ∃ R, holdsD ns a x = R := ⟨_, rfl⟩
  rw [hRR]
  have HR : Hid (holdsD ns a x = R) := hRR
  have ha0 := there_ne ha
  clear hRR hF
  go_enter Tryz.func87, Tryz.ntmps87
  go_wp2
  go_loopw [2] (fun t wr => ∃ y : Int, (y = 0 ∨ thereB ns.length y = true) ∧ t = .int .i64 y ∧ Below (w.heap.size + 1) (w.alloc (.cells #[.slice (some ⟨b, off, none⟩) ns.length cap] 24)) wr ∧ Hid (holdsD ns a y = R)) (fun t _ => (pathUp ns (overD ns) (RowKit.intOf t)).length)
  case atStart => exact ⟨x, .inr hx, rfl, Below.refl _ _, HR⟩
  case round =>
    obtain ⟨y, hy, rfl, hB, hr⟩ := hrel
    have hBw := bx_below hB
    have cb : wr.cell? ⟨w.heap.size, 0, none⟩ = some (.slice (some ⟨b, off, none⟩) ns.length cap) := (hB.cell (p := ⟨w.heap.size, 0, none⟩) (by show w.heap.size < w.heap.size + 1; omega)).trans (by simp)
    have HB := hid hB
    have HBw := hid hBw
    clear hB hBw HR
    by_cases hy0 : y = 0
    · have hRf : R = false := by
        rw [← hr.out, hy0]
        unfold holdsD
        rw [pathUp_zero]
        rfl
      subst hRf hy0
      have hne : ((0 : Int) == a) = false := beq_eq_false_iff_ne.2 (fun e => ha0 e.symm)
      clear hr hy
      go_wp2
      go_ret
      exact ⟨rfl, HBw.out⟩
    · have hyt := hy.resolve_left hy0
      have hyn : (y != 0) = true := by rw [bne, beq_eq_false_iff_ne.2 hy0]; rfl
      have hs := holds_here ns (a := a) hR hyt
      cases hya : (y == a) with
      | true =>
        have hRt : R = true := by rw [← hr.out, hs, hya]; rfl
        subst hRt
        have hyb : (y != a) = false := by rw [bne, hya]; rfl
        clear hr hy hs
        go_wp2
        go_ret
        exact ⟨rfl, HBw.out⟩
      | false =>
        have hyb : (y != a) = true := by rw [bne, hya]; rfl
        have Hn : Hid (holdsD ns a (overD ns y) = R) := by
          show _ = _
          rw [← hr.out, hs, hya, Bool.false_or]
        have hA := HA.out y hyt wr HBw.out
        have HPh := hid (over_head hR hyt)
        have HPt := hid (over_there hR hyt)
        clear hr hy hs
        go_wp2_with fail
        refine hA.mono ?_
        rintro e v1 ⟨rfl, hb1⟩
        have HB1 := hid (HB.out.trans (hb1.mono (bx_size HB.out)))
        clear hb1 hA
        go_wp2
        go_roundw
        case rel => exact ⟨_, HPt.out, rfl, HB1.out, Hn⟩
        case measure =>
          simp only [RowKit.intOf]
          rw [HPh.out]
          simp
end Go.Proofs.YtfaeabjgplahgaaGreat

namespace Go.Proofs.YtfaeabjgplahgaaGreat
open Go.RowKit Go.Lib Go.Shelf

def hangD (ns : List NodeD) (x : Int) : List Int := match nodeOf ns x with
  | some n => if n.shadow == 0 then n.kids else n.shadow :: n.kids
  | none => []
theorem hangD_at (ns : List NodeD) (j : Nat) (hj : j < ns.length) : hangD ns ((j : Int) + 1) = if ns[j].shadow == 0 then ns[j].kids else ns[j].shadow :: ns[j].kids := by unfold hangD; rw [nodeOf_at ns j hj]
theorem bare_no_shadow {n : NodeD} (h : bareD n = true) (hk : n.kind ≠ 1) : n.shadow = 0 := by
  unfold bareD at h
  simp only [Bool.and_eq_true] at h
  have h1 := h.1.1.1.1.1.1.1
  rw [beq_eq_false_iff_ne.2 hk] at h1
  simp at h1
  exact h1.2
theorem shadow_down {ns : List NodeD} (h : RightF ns) (j : Nat) (hj : j < ns.length) (h0 : ns[j].shadow ≠ 0) : ∃ (i : Nat) (hi : i < ns.length), ns[j].shadow = (i : Int) + 1 ∧ ns[i].kind = 12 ∧ ns[i].host = (j : Int) + 1 := by
  have hs := h.shadow j hj
  have hb := (well_parts (h.well j hj)).2.1
  have hk : ns[j].kind = 1 := by
    by_cases hk : ns[j].kind = 1
    · exact hk
    · exact absurd (bare_no_shadow hb hk) h0
  unfold rightShadowD at hs
  rw [hk, if_neg (by decide), beq_eq_false_iff_ne.2 h0, Bool.false_or] at hs
  cases hn : nodeOf ns ns[j].shadow with
  | none => rw [hn] at hs; cases hs
  | some u =>
    rw [hn] at hs
    obtain ⟨i, hi, e, e2⟩ := nodeOf_idx hn
    subst e2
    simp only [Bool.and_eq_true, beq_iff_eq] at hs
    exact ⟨i, hi, e, hs.1, hs.2⟩
theorem shadow_back {ns : List NodeD} (h : RightF ns) (j : Nat) (hj : j < ns.length) (hk : ns[j].kind = 12) : ∃ (i : Nat) (hi : i < ns.length), ns[j].host = (i : Int) + 1 ∧ ns[i].shadow = (j : Int) + 1 := by
  have hs := h.shadow j hj
  unfold rightShadowD at hs
  rw [hk, if_pos (by decide)] at hs
  cases hn : nodeOf ns ns[j].host with
  | none => rw [hn] at hs; cases hs
  | some u =>
    rw [hn] at hs
    obtain ⟨i, hi, e, e2⟩ := nodeOf_idx hn
    subst e2
    simp only [Bool.and_eq_true, beq_iff_eq] at hs
    exact ⟨i, hi, e, hs.2⟩
theorem over_kid {ns : List NodeD} (h : RightF ns) {x y : Int} (hx : thereB ns.length x = true) (hy : y ∈ kidsD ns x) : thereB ns.length y = true ∧ overD ns y = x ∧ parentD ns y = x := by
  obtain ⟨ht, hp⟩ := h.kidsHang.down x y hx hy
  refine ⟨ht, ?_, hp⟩
  obtain ⟨i, hi, rfl⟩ := there_idx ht
  rw [parentD_at ns i hi] at hp
  have hk : ns[i].kind ≠ 12 := fun hk => there_ne hx (by rw [← hp]; exact bare_shadow (well_parts (h.well i hi)).2.1 hk)
  rw [over_kind h i hi, beq_eq_false_iff_ne.2 hk, if_neg Bool.false_ne_true, hp]
theorem kidsD_at (ns : List NodeD) (j : Nat) (hj : j < ns.length) : kidsD ns ((j : Int) + 1) = ns[j].kids := by unfold kidsD; rw [nodeOf_at ns j hj]
/-- What hangs on a node, shadow trees too, has it above. -/
theorem RightF.deepHang {ns : List NodeD} (h : RightF ns) : Hangs ns (overD ns) (hangD ns) where
  ok := h.overOK
  ends := h.ends
  down := fun x y hx hy => by
    obtain ⟨j, hj, rfl⟩ := there_idx hx
    rw [hangD_at ns j hj] at hy
    have kid : y ∈ ns[j].kids → thereB ns.length y = true ∧ overD ns y = (j : Int) + 1 := fun hm => by
      have := over_kid h hx (y := y) (by rw [kidsD_at ns j hj]; exact hm)
      exact ⟨this.1, this.2.1⟩
    by_cases h0 : ns[j].shadow = 0
    · rw [h0, show ((0 : Int) == 0) = true from rfl, if_pos rfl] at hy
      exact kid hy
    · rw [beq_eq_false_iff_ne.2 h0, if_neg Bool.false_ne_true] at hy
      rcases List.mem_cons.1 hy with e | hm
      · obtain ⟨i, hi, e1, e2, e3⟩ := shadow_down h j hj h0
        rw [e, e1]
        exact ⟨thereB_idx _ _ hi, by rw [over_kind h i hi, e2, e3]; rfl⟩
      · exact kid hm
  back := fun y hy h0 => by
    obtain ⟨j, hj, rfl⟩ := there_idx hy
    by_cases hk : ns[j].kind = 12
    · have e : overD ns ((j : Int) + 1) = ns[j].host := by rw [over_kind h j hj, hk]; rfl
      obtain ⟨i, hi, e1, e2⟩ := shadow_back h j hj hk
      rw [e, e1, hangD_at ns i hi, e2, if_neg]
      · simp
      · intro hh
        have := eq_of_beq hh
        omega
    · have e : overD ns ((j : Int) + 1) = parentD ns ((j : Int) + 1) := by rw [over_kind h j hj, beq_eq_false_iff_ne.2 hk, if_neg Bool.false_ne_true, parentD_at ns j hj]
      rw [e] at h0 ⊢
      have hm := h.kid hy h0
      obtain ⟨i, hi, e1⟩ := there_idx (h.kidsHang.up_there hy h0)
      rw [e1] at hm ⊢
      rw [kidsD_at ns i hi] at hm
      rw [hangD_at ns i hi]
      split
      · exact hm
      · exact List.mem_cons_of_mem _ hm
  once := fun x hx => by
    have ho := h.kidsHang.once x hx
    obtain ⟨j, hj, rfl⟩ := there_idx hx
    rw [hangD_at ns j hj]
    rw [kidsD_at ns j hj] at ho
    by_cases h0 : ns[j].shadow = 0
    · rw [h0, show ((0 : Int) == 0) = true from rfl, if_pos rfl]
      exact ho
    · rw [beq_eq_false_iff_ne.2 h0, if_neg Bool.false_ne_true]
      refine List.nodup_cons.2 ⟨fun hm => ?_, ho⟩
      obtain ⟨i, hi, e1, e2, e3⟩ := shadow_down h j hj h0
      have hp := (over_kid h hx (y := ns[j].shadow) (by rw [kidsD_at ns j hj]; exact hm)).2.2
      rw [e1, parentD_at ns i hi, bare_shadow (well_parts (h.well i hi)).2.1 e2] at hp
      omega
/-- A node and what lies in it, shadow trees too. -/
def deepD (ns : List NodeD) (x : Int) : List Int := belowF (hangD ns) (ns.length + 1) x
theorem deep_cons {ns : List NodeD} (h : RightF ns) {x : Int} (hx : thereB ns.length x = true) : deepD ns x = x :: (hangD ns x).flatMap (deepD ns) := h.deepHang.cons hx
theorem deep_len {ns : List NodeD} (h : RightF ns) {x : Int} (hx : thereB ns.length x = true) : (deepD ns x).length ≤ 4096 := Nat.le_trans (h.deepHang.below_len (ns.length + 1) x hx (by omega)) h.small
end Go.Proofs.YtfaeabjgplahgaaGreat

namespace Go.Proofs.YtfaeabjgplahgaaGreat
open Go.RowKit Go.Lib Go.Shelf

/-- Units that are put behind a row of the call's own. -/
theorem run_append_rdI (w : World) (B : Nat) (v src : Value) (done us : List Int) (ty : TypeId) (hown : w.ownsRow B 3 1 v done.length (done.map (Value.int .i64))) (hB : B ≤ w.heap.size) (hr : RdI w src us) (hn : done.length + us.length ≤ 4398046511104) :
    ∃ v' w', (Builtin.append_ #[26, 26] ty #[v, src]).run Tryz.prog w = .ok v' w' ∧ w'.ownsRow B 3 1 v' (done ++ us).length ((done ++ us).map (Value.int .i64)) ∧ w.grownBy w' v.ownBlock := by
  obtain ⟨i0, hi, hz0, hz1, hz2⟩ := info_parts info_int
  have hcase : (∃ cap, src = .slice none 0 cap ∧ us = []) ∨ ∃ a cap, src = .slice (some a) us.length cap ∧ (∀ (j : Nat) (h : j < us.length), w.cell? (a.add j) = some (.int .i64 us[j])) := by
    obtain ⟨o, cap, rfl, _, g⟩ := hr
    by_cases h0 : us.length = 0
    · have hn : us = [] := List.eq_nil_of_length_eq_zero h0
      subst hn
      cases o with
      | none => exact .inl ⟨cap, rfl, rfl⟩
      | some a => exact .inr ⟨a, cap, rfl, fun j hj => by simp at hj⟩
    · obtain ⟨b, off, rfl, _, ha⟩ := g (by omega)
      refine .inr ⟨⟨b, off, none⟩, cap, rfl, fun j hj => ?_⟩
      have e : (⟨b, off, none⟩ : Addr).add j = ⟨b, off + j, none⟩ := by simp [Addr.add]
      rw [e]
      exact ha j hj
  rcases hcase with ⟨cap, rfl, rfl⟩ | ⟨a, cap, rfl, hc⟩
  · refine ⟨v, w, ?_, by simpa using hown, ⟨rfl, rfl, rfl, Nat.le_refl _, fun _ _ _ => rfl⟩⟩
    rcases hown.2 with ⟨hv, _⟩ | ⟨g, c, cur, hv, _, hg, hnc, _⟩
    · subst hv
      have hs := Src.ofNil (P := Tryz.prog) w (size := i0.size) Tryz.underlying26 cap
      simp [Builtin.append_, run_underlying Tryz.underlying26, sizeOf, typeInfo, hi, Builtin.lenOf]
      rw [hs.cells]
      rfl
    · subst hv
      have hs := Src.ofNil (P := Tryz.prog) w (size := i0.size) Tryz.underlying26 cap
      have h := run_append_room_src w 26 26 ty 3 i0 Tryz.underlying26 hi g 0 done.length c (.slice none 0 cap) 0 [] hs (by omega) (fun j hj => by simp at hj) (fun j hj => by simp at hj)
      exact h
  · obtain ⟨v', w', h1, h2, h3, _⟩ := run_append_own (P := Tryz.prog) w B 26 ty 3 i0 (.int .i64 0) 1 8 Tryz.underlying26 hi hz0 hz1 hz2 rfl (by decide) v done.length (done.map (Value.int .i64)) hown a us.length cap (us.map (Value.int .i64)) (by simp) (fun j u hj => by
      rw [List.getElem?_map] at hj
      obtain ⟨x, hx, rfl⟩ := Option.map_eq_some_iff.1 hj
      obtain ⟨hj', rfl⟩ := List.getElem?_eq_some_iff.1 hx
      exact hc j hj') (fun u hu => by obtain ⟨x, _, rfl⟩ := List.mem_map.1 hu; rfl) (by unfold maxLen; omega) (by omega) hB
    exact ⟨v', w', h1, by simpa using h2, h3⟩

theorem below_grownI {B : Nat} {w w1 : World} {v : Value} {n : Nat} {xs : List Value} (hown : w.ownsRow B 3 1 v n xs) (hB : B ≤ w.heap.size) (hg : w.grownBy w1 v.ownBlock) : Below B w w1 :=
  (Below.refl B w).grown hg hB (fun j hj => (hown.lt j hj).1)

set_option maxRecDepth 100000 in
set_option maxHeartbeats 1000000 in
theorem grow_nil (n : Nat) (w : World) (hn : n ≤ 1099511627776) :
    Calls Tryz.prog 100 #[.slice none 0 0, .int .i64 n] w fun e w' => ∃ v, e = .returned v ∧ w'.ownsRow w.heap.size 3 1 v 0 (([] : List Int).map (Value.int .i64)) ∧ Below w.heap.size w w' := by
  obtain ⟨i0, hi, hz0, hz1, hz2⟩ := info_parts info_int
  by_cases h0 : n = 0
  · subst h0
    go_enter Tryz.func100, Tryz.ntmps100
    go_wp2
    go_ret
    exact ⟨_, rfl, World.ownsRow_nil _ _ _ _, Below.refl _ _⟩
  · have h1 : ¬ ((n : Int) < 0) := by omega
    have h2 : (0 : Int) < (n : Int) := by omega
    have hold : (Builtin.firstCells i0.size 0 (.slice none 0 0)).run Tryz.prog w.drew = .ok ([] : List Value).toArray w.drew := run_firstCells_none w.drew i0.size 0 0 0
    have hap := fun ty => run_append_grow_zeros (P := Tryz.prog) w 26 3 ty 3 i0 (.int .i64 0) .i64 .i64 Tryz.underlying26 Tryz.underlying3 hi hz0 none 0 0 [] hold n (by omega) (by omega) (by omega) (by omega) (by rw [hz2]; omega) (growslice_fits (by omega) (by rw [hz2]; omega))
    have hge := grownCap_ge w (0 + n) 0 3
    have hlm := grownCap_le_maxLen w (0 + n) 0 3 (by unfold maxLen; omega)
    generalize grownCap w (0 + n) 0 3 = G at *
    have hcs : (([] : List Value).toArray ++ Builtin.zeroCells (Value.int .i64 0).cells n ++ Builtin.zeroCells (Value.int .i64 0).cells (G - (0 + n))).size = G := by
      simp [Builtin.zeroCells, Value.cells]
      omega
    generalize ([] : List Value).toArray ++ Builtin.zeroCells (Value.int .i64 0).cells n ++ Builtin.zeroCells (Value.int .i64 0).cells (G - (0 + n)) = C at *
    have hown : ((w.drew).alloc (.cells C 3)).ownsRow w.heap.size 3 1 (.slice (some ⟨w.heap.size, 0, none⟩) 0 G) 0 (([] : List Int).map (Value.int .i64)) :=
      ⟨rfl, .inr ⟨w.heap.size, G, C, rfl, Nat.le_refl _, heap_new w.drew _, Nat.zero_le _, hlm, by omega, rfl⟩⟩
    simp only [Nat.zero_add] at hap hge
    unfold maxLen at hlm
    go_enter Tryz.func100, Tryz.ntmps100
    go_wp2_with (at_builtin; refine wpList_append_run _ rfl _ _ 26 3 rfl _ _ rfl rfl _ _ (hap _) ?_)
    go_ret
    exact ⟨_, rfl, hown, ((Below.refl _ w).drew).alloc (Nat.le_refl _) _⟩

/-- Strings of units that lie one behind the other. -/
def CellsLI (w : World) (g : Nat) (L : List (Value × List Int)) : Prop := ∀ (j : Nat) (h : j < L.length), w.cell? ⟨g, j, none⟩ = some L[j].1 ∧ RdI w L[j].1 L[j].2
theorem CellsLI.later {w W : World} {g : Nat} {L : List (Value × List Int)} (h : CellsLI w g L) (hg : g < w.heap.size) (hb : Below w.heap.size w W) : CellsLI W g L := fun j hj =>
  ⟨(hb.cell (p := ⟨g, j, none⟩) hg).trans (h j hj).1, (h j hj).2.later hb⟩
def sumL (L : List (Value × List Int)) : Nat := (L.map (·.2.length)).sum
def catL (L : List (Value × List Int)) : List Int := L.flatMap (·.2)
theorem catL_len (L : List (Value × List Int)) : (catL L).length = sumL L := by
  simp [catL, sumL, List.length_flatMap]
theorem take_step (L : List (Value × List Int)) (k : Nat) (h : k < L.length) : L.take (k + 1) = L.take k ++ [L[k]] := by
  rw [List.take_add_one, List.getElem?_eq_getElem h]
  rfl
theorem sum_step (L : List (Value × List Int)) (k : Nat) (h : k < L.length) : sumL (L.take (k + 1)) = sumL (L.take k) + L[k].2.length := by
  unfold sumL
  rw [take_step L k h, List.map_append, List.sum_append, List.map_cons, List.map_nil, List.sum_cons, List.sum_nil, Nat.add_zero]
theorem cat_step (L : List (Value × List Int)) (k : Nat) (h : k < L.length) : catL (L.take (k + 1)) = catL (L.take k) ++ L[k].2 := by
  unfold catL
  rw [take_step L k h, List.flatMap_append, List.flatMap_cons, List.flatMap_nil, List.append_nil]
theorem sum_le (L : List (Value × List Int)) (k : Nat) : sumL (L.take k) ≤ sumL L := by
  have h : sumL L = sumL (L.take k) + sumL (L.drop k) := by
    unfold sumL
    rw [← List.sum_append, ← List.map_append, List.take_append_drop]
  omega

set_option maxRecDepth 100000 in
set_option maxHeartbeats 2000000 in
theorem concat_any (g cap : Nat) (L : List (Value × List Int)) (w : World) (hg : g < w.heap.size) (hc : CellsLI w g L) (hl : L.length ≤ 1000) (hs : sumL L ≤ 1099511627776) :
    Calls Tryz.prog 68 #[.slice (some ⟨g, 0, none⟩) L.length cap] w fun e w' => ∃ v, e = .returned v ∧ w'.ownsRow w.heap.size 3 1 v (catL L).length ((catL L).map (Value.int .i64)) ∧ Below w.heap.size w w' := by
  have HG : Hid (∀ n W, n ≤ 1099511627776 → _) := grow_nil
  go_enter Tryz.func68, Tryz.ntmps68
  go_wp2
  go_loopw [3, 11] (fun sz i wr => ∃ k : Nat, k ≤ L.length ∧ i = .int .i64 k ∧ sz = .int .i64 (sumL (L.take k)) ∧ w = wr) (fun _ i _ => L.length - (RowKit.intOf i).toNat)
  case atStart => exact ⟨0, Nat.zero_le _, rfl, rfl, rfl⟩
  case round =>
    obtain ⟨k, hk, rfl, rfl, rfl⟩ := hrel
    by_cases hlt : k < L.length
    · obtain ⟨hx, hrd⟩ := hc k hlt
      have hst := sum_step L k hlt
      have hle := sum_le L (k + 1)
      obtain ⟨o, c, hv, -⟩ := hrd
      rw [hv] at hx
      generalize L[k].2.length = m at *
      generalize sumL (L.take k) = a at *
      have q : ¬ ((a : Int) + (m : Int) < 0) := by omega
      go_wp2
      go_roundw
      case rel => exact ⟨k + 1, by omega, by go_num, by rw [hst]; go_num, trivial⟩
      case measure => simp [RowKit.intOf]; omega
    · have hkl : k = L.length := by omega
      subst hkl
      rw [List.take_length]
      have hG := HG.out (sumL L) w (by omega)
      go_wp2_with (go_at_call 100; refine hG.mono ?_; rintro e w1 ⟨v1, rfl, ho1, hb1⟩)
      go_loopw [6, 27] (fun v i wr => ∃ k : Nat, k ≤ L.length ∧ i = .int .i64 k ∧ wr.ownsRow w.heap.size 3 1 v (catL (L.take k)).length ((catL (L.take k)).map (Value.int .i64)) ∧ Below w.heap.size w wr) (fun _ i _ => L.length - (RowKit.intOf i).toNat)
      case atStart => exact ⟨0, Nat.zero_le _, rfl, ho1, hb1⟩
      case round =>
        obtain ⟨k, hk, rfl, ho, hb⟩ := hrel
        by_cases hlt : k < L.length
        · obtain ⟨hx, hrd⟩ := hc.later hg hb k hlt
          have hst := cat_step L k hlt
          have hss := sum_step L k hlt
          have hle := sum_le L (k + 1)
          have hcl := catL_len (L.take k)
          obtain ⟨v', w', h1, h2, h3⟩ := run_append_rdI wr w.heap.size _ _ _ _ 26 ho hb.size hrd (by rw [hcl]; omega)
          have hb2 := hb.trans (below_grownI ho hb.size h3)
          rw [← hst] at h2
          generalize L[k].1 = x at *
          go_wp2_with (at_builtin; refine wpList_append_run _ rfl _ _ 26 26 rfl _ _ rfl rfl _ _ h1 ?_)
          go_roundw
          case rel => exact ⟨k + 1, by omega, by go_num, h2, hb2⟩
          case measure => simp [RowKit.intOf]; omega
        · have hkl : k = L.length := by omega
          subst hkl
          rw [List.take_length] at ho
          go_wp2
          go_ret
          exact ⟨_, rfl, ho, hb⟩
end Go.Proofs.YtfaeabjgplahgaaGreat

namespace Go.Proofs.YtfaeabjgplahgaaGreat
open Go.RowKit Go.Lib Go.Shelf

set_option maxRecDepth 100000 in
set_option maxHeartbeats 4000000 in
theorem refFault_any (o : Option Addr) (cap : Nat) (v : Value) (l : List Int) (ns : List NodeD) (w : World) (hF : FRd w o cap ns) (hkl : ∀ (i : Nat) (hi : i < ns.length), ns[i].kids.length ≤ 1099511627776) (hal : ∀ (i : Nat) (hi : i < ns.length), ns[i].attrs.length ≤ 1099511627776) (hv : RdI w v l) (hl : l.length ≤ 1099511627776) :
    Calls Tryz.prog 34 #[.agg #[.slice o ns.length cap], v] w fun e w' => e = .returned (.int .i64 (toldE ns l)) ∧ Below w.heap.size w w' := by
  have HRt : Hid (∀ (W : World), Below w.heap.size w W → _) := fun W hW => refRight_any o cap ns W (hF.later hW) hkl hal
  obtain ⟨ol, cl, rfl, hcl, gl⟩ := hv
  have hle := hF.len
  have hB0 : Below (w.heap.size + 1) (w.alloc (.cells #[.slice o ns.length cap] 24)) (w.alloc (.cells #[.slice o ns.length cap] 24)) := Below.refl _ _
  have hRt := HRt.out _ (bx_below hB0)
  have HB0 := hid hB0
  clear HRt hF hkl hal hB0
  unfold toldE
  cases hr : rightD ns with
  | false =>
    rw [if_neg Bool.false_ne_true]
    rw [hr] at hRt
    go_enter Tryz.func34, Tryz.ntmps34
    go_wp2_with fail
    refine hRt.mono ?_
    rintro e v1 ⟨rfl, hb1⟩
    have HB1 := hid (HB0.out.trans (hb1.mono (by simp)))
    clear hRt hb1
    go_wp2
    go_ret
    exact ⟨rfl, bx_below HB1.out⟩
  | true =>
    rw [if_pos rfl]
    rw [hr] at hRt
    obtain ⟨R, hRR⟩ : ∃ R : Int, (if l.all (thereB ns.length) = true then (0 : Int) else 2) = R := ⟨_, rfl⟩
    rw [hRR]
    have HR : Hid ((if (l.drop 0).all (thereB ns.length) = true then (0 : Int) else 2) = R) := hRR
    clear hRR hr
    go_enter Tryz.func34, Tryz.ntmps34
    go_wp2_with fail
    refine hRt.mono ?_
    rintro e v1 ⟨rfl, hb1⟩
    have HB1 := hid (HB0.out.trans (hb1.mono (by simp)))
    clear hRt hb1 HB0
    go_wp2
    go_loopw [5] (fun t wr => ∃ k : Nat, k ≤ l.length ∧ t = .int .i64 k ∧ Below (w.heap.size + 1) (w.alloc (.cells #[.slice o ns.length cap] 24)) wr ∧ Hid ((if (l.drop k).all (thereB ns.length) = true then (0 : Int) else 2) = R)) (fun t _ => l.length - (RowKit.intOf t).toNat)
    case atStart => exact ⟨0, Nat.zero_le _, rfl, HB1.out, HR⟩
    case round =>
      obtain ⟨k, hk, rfl, hB, hK⟩ := hrel
      clear HR HB1
      have hBw := bx_below hB
      by_cases hlt : k < l.length
      · obtain ⟨b2, off2, rfl, hlt2, ha2⟩ := gl (by omega)
        have x1 := (hBw.cell (p := ⟨b2, off2 + k, none⟩) hlt2).trans (ha2 k hlt)
        have cb : wr.cell? ⟨w.heap.size, 0, none⟩ = some (.slice o ns.length cap) := (hB.cell (p := ⟨w.heap.size, 0, none⟩) (by show w.heap.size < w.heap.size + 1; omega)).trans (by simp)
        have q1 : (0 : Int) ≤ (k : Int) := by omega
        have q2 : (k : Int) < (l.length : Int) := by omega
        have hk2 := hK.out
        rw [List.drop_eq_getElem_cons hlt, List.all_cons] at hk2
        have HB := hid hB
        clear hK gl ha2 hB hBw
        generalize l[k] = z at *
        by_cases z1 : z < 1
        · have d1 : decide (z < 1) = true := decide_eq_true z1
          have hR2 : R = 2 := by
            rw [← hk2]
            unfold thereB
            rw [decide_eq_false (by omega : ¬ 1 ≤ z)]
            rfl
          subst hR2
          clear hk2
          go_upto_region 6 with fail
          go_quiet (fail)
          go_wp2
          go_ret
          exact ⟨rfl, bx_below (HB.out.trans (drewN_below _ _ _))⟩
        · have d1 : decide (z < 1) = false := decide_eq_false z1
          by_cases z2 : (ns.length : Int) < z
          · have d2 : decide ((ns.length : Int) < z) = true := decide_eq_true z2
            have hR2 : R = 2 := by
              rw [← hk2]
              unfold thereB
              rw [decide_eq_false (by omega : ¬ z ≤ (ns.length : Int)), Bool.and_false]
              rfl
            subst hR2
            clear hk2
            go_upto_region 6 with fail
            go_quiet (fail)
            go_wp2
            go_ret
            exact ⟨rfl, bx_below (HB.out.trans (drewN_below _ _ _))⟩
          · have d2 : decide ((ns.length : Int) < z) = false := decide_eq_false z2
            have ht : thereB ns.length z = true := by
              unfold thereB
              rw [decide_eq_true (by omega), decide_eq_true (by omega)]
              rfl
            rw [ht, Bool.true_and] at hk2
            have Hn := hid hk2
            clear hk2 ht
            go_upto_region 6 with fail
            go_quiet (fail)
            go_wp2
            go_roundw
            case rel => exact ⟨k + 1, by omega, by go_num, HB.out.trans (drewN_below _ _ _), Hn⟩
            case measure => simp [RowKit.intOf]; omega
      · have hRR : R = 0 := by
          rw [← hK.out, List.drop_eq_nil_of_le (by omega)]
          rfl
        subst hRR
        have HBw := hid hBw
        clear hK gl hB hBw
        go_wp2
        go_ret
        exact ⟨rfl, HBw.out⟩
end Go.Proofs.YtfaeabjgplahgaaGreat
