/- Whether a node holds another one (has for overOf, holds, Holds). -/
/- The node behind one in the order of its tree (siblingBehind, behind). -/
/- The calls of order that ask one handle: Next. -/
import Derived.Test.YtfaeabjgplahgaaGreatCFConFTree
import Derived.Test.YtfaeabjgplahgaaGreatCFUpFFork
import Derived.Test.YtfaeabjgplahgaaGreatCFStandFCmp
import Derived.Deep.DeepCutAuto
namespace Go.Proofs.YtfaeabjgplahgaaGreat
open Go.RowKit Go.Lib Go.Shelf
attribute [local go_sem] Oper.semAt_some

/-- Does a node hold another one, through shadow trees? -/
def holdsD (ns : List NodeD) (a b : Int) : Bool := (pathUp ns (overD ns) b).contains a

set_option maxRecDepth 100000 in
set_option maxHeartbeats 4000000 in
theorem hasO_any (b off cap bh bo bf : Nat) (x a : Int) (ns : List NodeD) (w : World) (hR : RightF ns) (hF : FAt w b off cap ns) (hU : UpAt w b off cap ns.length 96 bh bo bf x) (hx : x = 0 ∨ thereB ns.length x = true) :
    Calls Tryz.prog 125 #[upV bh bo bf, .int .i64 a] w fun e w' => e = .returned (.bool (decide (a ∈ pathUp ns (overD ns) x))) ∧ Below w.heap.size w w' := by
  refine (callsIn_wide (n := 5)).1 ?_
  unfold upV
  refine callsIn_of_wp_marks Tryz.func125 rfl trivial ?_ rfl
  simp only [Tryz.ntmps125, List.size_toArray, List.length_cons, List.length_nil, Nat.reduceAdd, Nat.reduceSub, Array.replicate_succ, Array.replicate_zero, List.push_toArray, List.append_toArray, List.nil_append, List.cons_append]
  gi_wp2
  have c0 := new_cell_l w (.int .i64 a) 3
  have c1 := new_cell_l (w.alloc (.cells #[.int .i64 a] 3)) (.bool false) 4
  simp only [World.size_alloc] at c1
  have hB0 : Below w.heap.size w ((w.alloc (.cells #[.int .i64 a] 3)).alloc (.cells #[.bool false] 4)) := ((Below.refl _ w).alloc (Nat.le_refl _) _).alloc (by simp) _
  have hU2 := hU.later hB0
  refine wpIn_rangeFunc_ownF rfl (by omega) (gf := 99) (lb := #[.pointer (some ⟨bh, 0, none⟩), .pointer (some ⟨bo, 0, none⟩), .pointer (some ⟨bf, 0, none⟩)]) rfl trivial (enters_of Tryz.func99 (by kernel_rfl) rfl)
    (upO_stops (5 - 1) bh bo bf w.heap.size b off cap (by omega) x ns w _ hR hF (Nat.le_refl _) hB0 (by simp; omega) hU.lh hU.lo hU.lf hU2.ch hU2.co hU2.cf hx) belowK_t (belowK_b (by simp; omega)) (Below.refl _ _) (fun _ => rfl)
    (fun pre W => ((∀ y ∈ pre, y ≠ a) ∧ W.cell? ⟨w.heap.size, 0, none⟩ = some (.int .i64 a) ∧ W.cell? ⟨w.heap.size + 1, 0, none⟩ = some (.bool false) ∧ W.frozen? ⟨w.heap.size + 1, 0, none⟩ = false) ∧ Below w.heap.size w W)
    (fun c pre W => (c = .ret ∧ a ∈ pre ∧ W.cell? ⟨w.heap.size + 1, 0, none⟩ = some (.bool true)) ∧ Below w.heap.size w W)
    (OwnFrom.and (Own.from (fun s A B row hs hg hr => ⟨hs.1, cell_kept hs.2.1 hg hr, cell_kept hs.2.2.1 hg hr, (frozen_kept hs.2.2.1 hg hr).trans hs.2.2.2⟩) _) (ownFrom_below (Nat.le_refl _) (by simp; omega)))
    (fun c => OwnFrom.and (Own.from (fun s A B row hs hg hr => ⟨hs.1, hs.2.1, cell_kept hs.2.2 hg hr⟩) _) (ownFrom_below (Nat.le_refl _) (by simp; omega)))
    ⟨⟨by simp, keep_cell_l _ c0.1, c1.1, c1.2⟩, hB0⟩
    (fun z => { tmps := #[.func (.func 99) #[] #[.pointer (some ⟨bh, 0, none⟩), .pointer (some ⟨bo, 0, none⟩), .pointer (some ⟨bf, 0, none⟩)], .int .i64 a, undef, .pointer (some ⟨w.heap.size, 0, none⟩), .pointer (some ⟨w.heap.size + 1, 0, none⟩), .int .i64 z, .func (.func 99) #[] #[.pointer (some ⟨bh, 0, none⟩), .pointer (some ⟨bo, 0, none⟩), .pointer (some ⟨bf, 0, none⟩)], .int .i64 z, undef, undef, undef], defers := [] }) ?assign ?body ?done ?stop
  case assign =>
    intro l z W K hK
    gi_wp2
    exact hK
  case body =>
    rintro l pre z W ⟨⟨hp, hcw, hcr, hfr⟩, hB⟩ _
    gi_wp2
    · rename_i hz
      obtain rfl : z = a := eq_of_beq hz
      exact ⟨KeepsOthers.setCell _ _ _, ⟨rfl, List.mem_append.2 (.inr (by simp)), World.cell?_setCell_same' _ _ _ (by rw [hcr]; rfl)⟩, hB.setCell (p := ⟨w.heap.size + 1, 0, none⟩) (by simp) _⟩
    · rename_i hz
      exact ⟨KeepsOthers.refl _, Below.refl _ _, ⟨fun y hy => (List.mem_append.1 hy).elim (hp y) (fun e e' => by simp at e; subst e; subst e'; simp at hz), hcw, hcr, hfr⟩, hB⟩
  case done =>
    rintro D ys W hD rfl ⟨⟨hne, _, hcr, hfr⟩, hB⟩ hK
    gi_wp2
    have hK' := (KeepsOthers.setCell W ⟨w.heap.size + 1, 0, none⟩ (.bool false)).same D _ hK rfl
    refine ⟨by simp, .inl ⟨_, _, rfl, run_takeDeferred hK', ?_⟩⟩
    have hc5 := cell_kept (World.cell?_setCell_same' W ⟨w.heap.size + 1, 0, none⟩ (.bool false) (by rw [hcr]; rfl)) (grownBy_putObj' _ D (.deferred none)) (fun r e => by cases e; exact ⟨_, hK', rfl⟩)
    refine ⟨.bool false, ?_, by rw [decide_eq_false (fun h => hne a h rfl)], (hB.setCell (p := ⟨w.heap.size + 1, 0, none⟩) (by simp) _).trans (belowK_b (w := w) (Nat.le_refl _) _ D _ _ (by simp at hD; omega) hK' rfl rfl)⟩
    simp [results, Tryz.f125, go_sem, hc5]
  case stop =>
    rintro D c pre W hD hpre ⟨⟨rfl, hin, hcr⟩, hB⟩ hK
    gi_wp2
    refine ⟨by simp, .inl ⟨_, _, rfl, run_takeDeferred hK, ?_⟩⟩
    have hc5 := cell_kept hcr (grownBy_putObj' _ D (.deferred none)) (fun r e => by cases e; exact ⟨_, hK, rfl⟩)
    refine ⟨.bool true, ?_, by rw [decide_eq_true (hpre.subset hin)], hB.trans (belowK_b (w := w) (Nat.le_refl _) W D _ _ (by simp at hD; omega) hK rfl rfl)⟩
    simp [results, Tryz.f125, go_sem, hc5]

set_option maxRecDepth 100000 in
set_option maxHeartbeats 4000000 in
theorem holds_any (b off cap : Nat) (a x : Int) (ns : List NodeD) (w : World) (hR : RightF ns) (hF : FAt w b off cap ns) (hx : thereB ns.length x = true) :
    Calls Tryz.prog 105 #[forestV b off cap ns.length, .int .i64 a, .int .i64 x] w fun e w' => e = .returned (.bool (holdsD ns a x)) ∧ Below w.heap.size w w' := by
  have hcd : holdsD ns a x = decide (a ∈ pathUp ns (overD ns) x) := by
    unfold holdsD
    rw [List.contains_eq_mem]
  rw [hcd]
  have HU : Hid (∀ W : World, _) := fun W => upBy_any b off cap ns.length x 96 W
  have HH : Hid (∀ (bh bo bf : Nat) (W : World), Below w.heap.size w W → UpAt W b off cap ns.length 96 bh bo bf x → _) := fun bh bo bf W hW hU => hasO_any b off cap bh bo bf x a ns W hR (hF.later hW) hU (.inr hx)
  clear hcd hF hR
  unfold forestV upV at *
  generalize decide (a ∈ pathUp ns (overD ns) x) = R at *
  go_enter Tryz.func105, Tryz.ntmps105
  go_wp2_with fail
  refine (HU.out _).mono ?_
  rintro e v1 ⟨rfl, rfl⟩
  have hA := upAt_new b off cap ns.length 96 x (w.alloc (.cells #[.slice (some ⟨b, off, none⟩) ns.length cap] 24))
  have hB := up_below b off cap ns.length 96 x (w.alloc (.cells #[.slice (some ⟨b, off, none⟩) ns.length cap] 24))
  simp only [World.size_alloc] at hA
  have hBw : Below w.heap.size w _ := ((Below.refl _ w).alloc (Nat.le_refl _) _).trans (hB.mono (by simp))
  have hH := HH.out _ _ _ _ hBw hA
  have HB := hid hBw
  clear hBw hB hA
  go_wp2_with fail
  refine hH.mono ?_
  rintro e v2 ⟨rfl, hb2⟩
  have HB2 := hid (HB.out.trans (hb2.mono HB.out.size))
  clear hb2 HB hH
  go_wp2
  go_ret
  exact ⟨rfl, HB2.out⟩

set_option maxRecDepth 100000 in
set_option maxHeartbeats 4000000 in
theorem toldHolds_any (o : Option Addr) (cap u1 u2 u3 : Nat) (R : Bool) (v : Value) (hs : List Int) (ns : List NodeD) (w : World) (hF : FRd w o cap ns) (hkl : ∀ (i : Nat) (hi : i < ns.length), ns[i].kids.length ≤ 1099511627776) (hal : ∀ (i : Nat) (hi : i < ns.length), ns[i].attrs.length ≤ 1099511627776) (hv : RdI w v hs) (hl : hs.length ≤ 1099511627776)
    (hT : toldE ns hs = 0 → ∀ W : World, Below w.heap.size w W → Calls Tryz.prog 104 #[.pointer (some ⟨u1, 0, none⟩), .pointer (some ⟨u2, 0, none⟩), .pointer (some ⟨u3, 0, none⟩)] W fun e w' => e = .returned (.bool R) ∧ Below W.heap.size W w') :
    Calls Tryz.prog 101 #[.agg #[.slice o ns.length cap], .func (.func 104) #[] #[.pointer (some ⟨u1, 0, none⟩), .pointer (some ⟨u2, 0, none⟩), .pointer (some ⟨u3, 0, none⟩)], v] w fun e w' => e = .returned (.tuple #[.bool (if toldE ns hs = 0 then R else false), .int .i64 (toldE ns hs)]) ∧ Below w.heap.size w w' := by
  have HC : Hid (∀ W : World, Below w.heap.size w W → _) := fun W hW => Check_any o cap ns W (hF.later hW) hkl hal
  have hle := hF.len
  obtain ⟨o2, c2, rfl, hc2, g2⟩ := hv
  clear hF hkl hal
  generalize checkN ns = CN at *
  cases hr : rightD ns with
  | false =>
    have e0 : toldE ns hs = 5 := by unfold toldE; rw [hr]; rfl
    have e1 : checkE ns = 5 := by unfold checkE; rw [hr]; rfl
    rw [e0, if_neg (by decide)]
    rw [e1] at HC
    clear hT e0 e1 g2
    go_enter Tryz.func101, Tryz.ntmps101
    go_wp2_with fail
    refine (HC.out _ ((Below.refl _ w).alloc (Nat.le_refl _) _)).mono ?_
    rintro e v1 ⟨rfl, hb1⟩
    go_wp2
    go_ret2
    exact ⟨rfl, box_go hb1⟩
  | true =>
    have e1 : checkE ns = 0 := (checkE_right hr).1
    rw [e1] at HC
    obtain ⟨E, hE⟩ : ∃ E, toldE ns hs = E := ⟨_, rfl⟩
    rw [hE] at hT ⊢
    have HE : Hid ((if (hs.drop 0).all (thereB ns.length) then (0 : Int) else 2) = E) := by
      have := hE
      unfold toldE at this
      rw [hr, if_pos rfl] at this
      exact this
    obtain ⟨T, hTe⟩ : ∃ T, (if E = 0 then R else false) = T := ⟨_, rfl⟩
    rw [hTe]
    have HTe := hid hTe
    have HT := hid hT
    clear hE hT e1 hTe
    go_enter Tryz.func101, Tryz.ntmps101
    go_wp2_with fail
    refine (HC.out _ ((Below.refl _ w).alloc (Nat.le_refl _) _)).mono ?_
    rintro e v1 ⟨rfl, hb1⟩
    have HB1 := hid (box_go hb1)
    have cb := box_forest hb1
    clear hb1 HC
    go_wp2
    go_loopw [24] (fun t wr => ∃ k : Nat, k ≤ hs.length ∧ t = .int .i64 k ∧ wr = v1 ∧ Hid ((if (hs.drop k).all (thereB ns.length) then (0 : Int) else 2) = E)) (fun t _ => hs.length - (RowKit.intOf t).toNat)
    case atStart => exact ⟨0, Nat.zero_le _, rfl, rfl, HE⟩
    case round =>
      obtain ⟨k, k1, rfl, rfl, hK⟩ := hrel
      by_cases hlt : k < hs.length
      · obtain ⟨b, off, rfl, hlt1, ha⟩ := g2 (by omega)
        have x1 := (HB1.out.cell (p := ⟨b, off + k, none⟩) hlt1).trans (ha k hlt)
        have q1 : (0 : Int) ≤ (k : Int) := by omega
        have q2 : (k : Int) < (hs.length : Int) := by omega
        have hk := hK.out
        rw [List.drop_eq_getElem_cons hlt, List.all_cons] at hk
        have Hk := hid hk
        clear hk hK ha g2
        generalize hs[k] = a at *
        by_cases g1 : a < 1
        · have hf : thereB ns.length a = false := by unfold thereB; rw [decide_eq_false (by omega)]; rfl
          have hE2 : E = 2 := by rw [← Hk.out, hf]; rfl
          subst hE2
          have hT0 : T = false := by rw [← HTe.out]; rfl
          subst hT0
          have d1 : decide (a < 1) = true := decide_eq_true g1
          clear Hk hf HT
          go_wp2
          go_ret2
          exact ⟨rfl, HB1.out⟩
        · have d1 : decide (a < 1) = false := decide_eq_false g1
          by_cases g3 : (ns.length : Int) < a
          · have hf : thereB ns.length a = false := by unfold thereB; rw [decide_eq_false (p := a ≤ (ns.length : Int)) (by omega), Bool.and_false]
            have hE2 : E = 2 := by rw [← Hk.out, hf]; rfl
            subst hE2
            have hT0 : T = false := by rw [← HTe.out]; rfl
            subst hT0
            have d2 : decide ((ns.length : Int) < a) = true := decide_eq_true g3
            clear Hk hf HT
            go_wp2
            go_ret2
            exact ⟨rfl, HB1.out⟩
          · have hf : thereB ns.length a = true := by unfold thereB; rw [decide_eq_true (by omega), decide_eq_true (by omega)]; rfl
            have d2 : decide ((ns.length : Int) < a) = false := decide_eq_false g3
            have Hn : Hid ((if (hs.drop (k + 1)).all (thereB ns.length) then (0 : Int) else 2) = E) := by
              have h := Hk.out
              rw [hf, Bool.true_and] at h
              exact h
            clear Hk hf
            go_wp2
            go_roundw
            case rel => exact ⟨k + 1, by omega, by go_num, trivial, Hn⟩
            case measure => simp [RowKit.intOf]; omega
      · have hE0 : E = 0 := by rw [← hK.out, List.drop_eq_nil_of_le (by omega)]; rfl
        subst hE0
        have hT := HT.out rfl wr HB1.out
        have hT0 : T = R := by rw [← HTe.out]; rfl
        subst hT0
        clear hK g2 HT HTe
        go_wp2_with fail
        refine hT.mono ?_
        rintro e v2 ⟨rfl, hb2⟩
        have HB2 := hid (HB1.out.trans (hb2.mono HB1.out.size))
        clear hT hb2
        go_wp2
        go_ret2
        exact ⟨rfl, HB2.out⟩

set_option maxRecDepth 100000 in
set_option maxHeartbeats 2000000 in
theorem Holds1_any (b off cap u1 u2 u3 : Nat) (x y : Int) (ns : List NodeD) (w : World) (hR : RightF ns) (hF : FAt w b off cap ns) (hy : thereB ns.length y = true)
    (c1 : w.cell? ⟨u1, 0, none⟩ = some (.slice (some ⟨b, off, none⟩) ns.length cap)) (c2 : w.cell? ⟨u2, 0, none⟩ = some (.int .i64 x)) (c3 : w.cell? ⟨u3, 0, none⟩ = some (.int .i64 y)) :
    Calls Tryz.prog 104 #[.pointer (some ⟨u1, 0, none⟩), .pointer (some ⟨u2, 0, none⟩), .pointer (some ⟨u3, 0, none⟩)] w fun e w' => e = .returned (.bool (holdsD ns x y)) ∧ Below w.heap.size w w' := by
  have hP := holds_any b off cap x y ns w hR hF hy
  unfold forestV at hP
  generalize holdsD ns x y = P at *
  go_enter Tryz.func104, Tryz.ntmps104
  go_wp2_with fail
  refine hP.mono ?_
  rintro e v1 ⟨rfl, hb1⟩
  have HB := hid hb1
  clear hP hb1
  go_wp2
  go_ret
  exact ⟨rfl, HB.out⟩

set_option maxRecDepth 100000 in
set_option maxHeartbeats 4000000 in
theorem Holds_any (o : Option Addr) (cap : Nat) (x y : Int) (ns : List NodeD) (w : World) (hF : FRd w o cap ns) (hkl : ∀ (i : Nat) (hi : i < ns.length), ns[i].kids.length ≤ 1099511627776) (hal : ∀ (i : Nat) (hi : i < ns.length), ns[i].attrs.length ≤ 1099511627776) :
    Calls Tryz.prog 82 #[.agg #[.slice o ns.length cap], .int .i64 x, .int .i64 y] w fun e w' => e = .returned (.tuple #[.bool (if toldE ns [x, y] = 0 then holdsD ns x y else false), .int .i64 (toldE ns [x, y])]) ∧ Below w.heap.size w w' := by
  have hB4 : Below w.heap.size w ((((w.alloc (.cells #[.slice o ns.length cap] 24)).alloc (.cells #[.int .i64 x] 3)).alloc (.cells #[.int .i64 y] 3)).alloc (.cells #[.int .i64 x, .int .i64 y] 3)) := ((((Below.refl _ w).alloc (Nat.le_refl _) _).alloc (by simp) _).alloc (by simp; omega) _).alloc (by simp; omega) _
  have k0 := new_cell_l w (.slice o ns.length cap) 24
  have k1 := new_cell_l (w.alloc (.cells #[.slice o ns.length cap] 24)) (.int .i64 x) 3
  have k2 := new_cell_l ((w.alloc (.cells #[.slice o ns.length cap] 24)).alloc (.cells #[.int .i64 x] 3)) (.int .i64 y) 3
  have kr := two_rdI (((w.alloc (.cells #[.slice o ns.length cap] 24)).alloc (.cells #[.int .i64 x] 3)).alloc (.cells #[.int .i64 y] 3)) x y 3
  simp only [World.size_alloc] at k1 k2 kr
  have c0 := keep_cell_l (.cells #[.int .i64 x, .int .i64 y] 3) (keep_cell_l (.cells #[.int .i64 y] 3) (keep_cell_l (.cells #[.int .i64 x] 3) k0.1))
  have c1 := keep_cell_l (.cells #[.int .i64 x, .int .i64 y] 3) (keep_cell_l (.cells #[.int .i64 y] 3) k1.1)
  have c2 := keep_cell_l (.cells #[.int .i64 x, .int .i64 y] 3) k2.1
  have hT := toldHolds_any o cap w.heap.size (w.heap.size + 1) (w.heap.size + 1 + 1) (holdsD ns x y) _ [x, y] ns _ (hF.later hB4) hkl hal kr (by simp) (fun hE W hW => by
    obtain ⟨hR, hth⟩ := toldE_zero hE
    have hx := hth x (by simp)
    have hy := hth y (by simp)
    have hpos : 0 < ns.length := by
      obtain ⟨j, hj, _⟩ := there_idx hx
      omega
    obtain ⟨b, off, rfl, hFA⟩ := hF.at_ hpos
    have s0 : w.heap.size < ((((w.alloc (.cells #[.slice (some ⟨b, off, none⟩) ns.length cap] 24)).alloc (.cells #[.int .i64 x] 3)).alloc (.cells #[.int .i64 y] 3)).alloc (.cells #[.int .i64 x, .int .i64 y] 3)).heap.size := by simp only [World.size_alloc]; omega
    exact Holds1_any b off cap _ _ _ x y ns W hR (hFA.later (hB4.trans (hW.mono hB4.size))) hy
      ((hW.cell (p := ⟨w.heap.size, 0, none⟩) s0).trans c0)
      ((hW.cell (p := ⟨w.heap.size + 1, 0, none⟩) (by show w.heap.size + 1 < _; simp only [World.size_alloc]; omega)).trans c1)
      ((hW.cell (p := ⟨w.heap.size + 1 + 1, 0, none⟩) (by show w.heap.size + 1 + 1 < _; simp only [World.size_alloc]; omega)).trans c2))
  generalize (if toldE ns [x, y] = 0 then holdsD ns x y else false) = A at *
  generalize toldE ns [x, y] = E at *
  have HB4 := hid hB4
  clear k0 k1 k2 kr c0 c1 c2 hF hkl hal hB4
  go_enter Tryz.func82, Tryz.ntmps82
  go_wp2_with fail
  refine hT.mono ?_
  rintro e v1 ⟨rfl, hb1⟩
  have HB := hid (HB4.out.trans (hb1.mono HB4.out.size))
  clear hT hb1 HB4
  go_wp2
  go_ret2
  exact ⟨rfl, HB.out⟩
end Go.Proofs.YtfaeabjgplahgaaGreat

namespace Go.Proofs.YtfaeabjgplahgaaGreat
open Go.RowKit Go.Lib Go.Shelf
attribute [local go_sem] Oper.semAt_some

theorem wrap_small {z : Int} (h1 : 0 ≤ z) (h2 : z ≤ 4398046511104) : IntKind.i64.wrap z = z := by
  simp [IntKind.wrap, IntKind.signed, IntKind.bits]
  omega
/-- Where a kid stands. -/
theorem index_in {ns : List NodeD} (h : RightF ns) {x : Int} (hx : thereB ns.length x = true) (hp : parentD ns x ≠ 0) : ∃ k : Nat, indexD ns x = (k : Int) ∧ k < (kidsD ns (parentD ns x)).length := by
  have hk := h.kid hx hp
  refine ⟨(kidsD ns (parentD ns x)).idxOf x, ?_, List.idxOf_lt_length_of_mem hk⟩
  unfold indexD
  rw [beq_eq_false_iff_ne.2 hp, if_neg Bool.false_ne_true, idxI_idx _ _ _ hk]
  simp

set_option maxRecDepth 100000 in
set_option maxHeartbeats 8000000 in
theorem sib_any (b off cap : Nat) (x : Int) (ns : List NodeD) (w : World) (hR : RightF ns) (hF : FAt w b off cap ns) (hx : thereB ns.length x = true) (hkl : ∀ (i : Nat) (hi : i < ns.length), ns[i].kids.length ≤ 1099511627776) :
    Calls Tryz.prog 103 #[forestV b off cap ns.length, .int .i64 x] w fun e w' => e = .returned (.int .i64 (sibD ns x)) ∧ Below w.heap.size w w' := by
  have HI : Hid (∀ W : World, Below w.heap.size w W → _) := fun W hW => indexOf_any b off cap x ns W hR (hF.later hW) hx hkl
  obtain ⟨j, hj, rfl⟩ := there_idx hx
  have HP : Hid (∀ W : World, Below w.heap.size w W → _) := fun W hW => parentOf_D b off cap j ns W (hF.later hW) hj
  obtain ⟨S, hS⟩ : ∃ S, sibD ns ((j : Int) + 1) = S := ⟨_, rfl⟩
  rw [hS]
  have HS := hid hS
  unfold sibD at HS
  clear hS
  by_cases hp0 : parentD ns ((j : Int) + 1) = 0
  · have hS0 : S = 0 := by rw [← HS.out, hp0]; rfl
    subst hS0
    rw [hp0] at HP
    clear HS HI hF hR hkl hx
    unfold forestV at *
    go_enter Tryz.func103, Tryz.ntmps103
    go_wp2_with fail
    refine (HP.out _ ((Below.refl _ w).alloc (Nat.le_refl _) _)).mono ?_
    rintro e v1 ⟨rfl, hb1⟩
    have HB1 := hid (box_go hb1)
    clear hb1
    go_wp2
    go_ret
    exact ⟨rfl, HB1.out⟩
  · obtain ⟨iI, hiI, hlt⟩ := index_in hR hx hp0
    rw [beq_eq_false_iff_ne.2 hp0, if_neg Bool.false_ne_true, hiI] at HS
    obtain ⟨i, hi, hpi⟩ := there_idx (hR.kidsHang.up_there hx hp0)
    have hkd : kidsD ns (parentD ns ((j : Int) + 1)) = ns[i].kids := by rw [hpi]; unfold kidsD; rw [nodeOf_at ns i hi]
    rw [hkd] at HS hlt
    rw [hiI] at HI
    rw [hpi] at HP
    have HK : Hid (∀ W : World, Below w.heap.size w W → _) := fun W hW => kidsOf_at b off cap i ns w W hF hW hi
    have hl := hkl i hi
    have hi0 : (((i : Int) + 1) == 0) = false := beq_eq_false_iff_ne.2 (by omega)
    have hw : IntKind.i64.wrap ((iI : Int) + 1) = (iI : Int) + 1 := wrap_small (by omega) (by omega)
    clear hF hR hkl hx hkd hpi hp0 hiI
    unfold forestV at *
    generalize ns[i].kids = ks at *
    go_enter Tryz.func103, Tryz.ntmps103
    go_wp2_with fail
    refine (HP.out _ ((Below.refl _ w).alloc (Nat.le_refl _) _)).mono ?_
    rintro e v1 ⟨rfl, hb1⟩
    have HB0 : Hid (Below w.heap.size w v1.drew) := (box_go hb1).drew
    have c0 := box_forest hb1
    have hs1 := hb1.size
    simp only [World.size_alloc] at hs1
    have H0 : Hid (v1.drew.cell? ⟨w.heap.size, 0, none⟩ = some (.slice (some ⟨b, off, none⟩) ns.length cap)) := c0
    have HL : Hid (w.heap.size < v1.drew.heap.size) := by show w.heap.size < v1.heap.size; omega
    clear hb1 HP c0 hs1
    go_upto_region 4 with fail
    go_cut [6, 7] (fun t u wx => (∃ ok ck, t = .slice ok ks.length ck ∧ Hid (RdI w (.slice ok ks.length ck) ks)) ∧ u = .int .i64 ((iI : Int) + 1) ∧ Hid (Below w.heap.size w wx))
    case first =>
      go_region_held (fun W => W.cell? ⟨w.heap.size, 0, none⟩ = some (.slice (some ⟨b, off, none⟩) ns.length cap)) (first | exact hSw | exact hSv | exact H0.out | go_keep) (first
        | (go_at_call 28; refine (HK.out _ HB0.out).mono ?_; rintro e vA ⟨vk, rfl, hr, hbA⟩; have hSv := (hbA.cell (p := ⟨w.heap.size, 0, none⟩) HL.out).trans H0.out; have hBv := HB0.out.trans (hbA.mono HB0.out.size); have hLv := Nat.lt_of_lt_of_le HL.out hbA.size; have Hrd := hid hr; obtain ⟨ok, ck, rfl, _, _⟩ := hr; clear HB0)
        | (go_at_call 71; refine (HI.out _ HB0.out).mono ?_; rintro e vA ⟨rfl, hbA⟩; have hSv := (hbA.cell (p := ⟨w.heap.size, 0, none⟩) HL.out).trans H0.out; have hBv := HB0.out.trans (hbA.mono HB0.out.size); have hLv := Nat.lt_of_lt_of_le HL.out hbA.size; clear HB0)
        | (go_at_call 28; refine (HK.out _ hBv).mono ?_; rintro e vB ⟨vk, rfl, hr, hbB⟩; have hSw := (hbB.cell (p := ⟨w.heap.size, 0, none⟩) hLv).trans hSv; have hBw := hBv.trans (hbB.mono hBv.size); have Hrd := hid hr; obtain ⟨ok, ck, rfl, _, _⟩ := hr; clear hBv)
        | (go_at_call 71; refine (HI.out _ hBv).mono ?_; rintro e vB ⟨rfl, hbB⟩; have hSw := (hbB.cell (p := ⟨w.heap.size, 0, none⟩) hLv).trans hSv; have hBw := hBv.trans (hbB.mono hBv.size); clear hBv))
      all_goals
        go_wp2_with fail
        go_meet
        exact ⟨⟨_, _, rfl, Hrd⟩, rfl, hBw⟩
    case rest =>
      obtain ⟨⟨ok, ck, rfl, hr⟩, rfl, hB⟩ := hcut
      clear HK HI H0 HL HB0
      by_cases he : iI + 1 = ks.length
      · have hS0 : S = 0 := by
          rw [← HS.out, show ((iI : Int) + 1).toNat = iI + 1 by omega, he, List.getD_eq_getElem?_getD, List.getElem?_eq_none (Nat.le_refl _)]
          rfl
        subst hS0
        have e1 : (((iI : Int) + 1) == (ks.length : Int)) = true := beq_iff_eq.2 (by omega)
        clear HS hr
        go_wp2
        go_ret
        exact ⟨rfl, hB.out⟩
      · have hl2 : iI + 1 < ks.length := by omega
        have e1 : (((iI : Int) + 1) == (ks.length : Int)) = false := beq_eq_false_iff_ne.2 (by omega)
        have hSk : S = ks[iI + 1] := by
          rw [← HS.out, show ((iI : Int) + 1).toNat = iI + 1 by omega, List.getD_eq_getElem?_getD, List.getElem?_eq_getElem hl2]
          rfl
        have hrd := hr.out
        obtain ⟨o', c', e', hc', g⟩ := hrd
        simp only [Value.slice.injEq] at e'
        obtain ⟨rfl, _, rfl⟩ := e'
        obtain ⟨bk, offk, rfl, hltk, hak⟩ := g (by omega)
        have x1 := (hB.out.cell (p := ⟨bk, offk + (iI + 1), none⟩) hltk).trans (hak (iI + 1) hl2)
        rw [← hSk] at x1
        have q1 : (0 : Int) ≤ (iI : Int) + 1 := by omega
        have q2 : (iI : Int) + 1 < (ks.length : Int) := by omega
        have q3 : ((iI : Int) + 1).toNat = iI + 1 := by omega
        clear HS hr hak g hSk
        go_wp2
        go_ret
        exact ⟨rfl, hB.out⟩

theorem firstD_prefix (g : Int → Int) : ∀ (p : List Int) (z : Int) (t : List Int), (∀ y ∈ p, g y = 0) → g z ≠ 0 → firstD g (p ++ z :: t) = g z
  | [], z, t, _, hz => by rw [List.nil_append, firstD, beq_eq_false_iff_ne.2 hz]; rfl
  | y :: p, z, t, hp, hz => by
    rw [List.cons_append, firstD, hp y (by simp), beq_self_eq_true, if_pos rfl]
    exact firstD_prefix g p z t (fun v hv => hp v (by simp [hv])) hz
theorem firstD_none (g : Int → Int) : ∀ (p : List Int), (∀ y ∈ p, g y = 0) → firstD g p = 0
  | [], _ => rfl
  | y :: p, hp => by
    rw [firstD, hp y (by simp), beq_self_eq_true, if_pos rfl]
    exact firstD_none g p (fun v hv => hp v (by simp [hv]))

set_option maxRecDepth 100000 in
set_option maxHeartbeats 8000000 in
theorem behind_any (b off cap : Nat) (x : Int) (ns : List NodeD) (w : World) (hR : RightF ns) (hF : FAt w b off cap ns) (hx : thereB ns.length x = true) (hkl : ∀ (i : Nat) (hi : i < ns.length), ns[i].kids.length ≤ 1099511627776) :
    Calls Tryz.prog 78 #[forestV b off cap ns.length, .int .i64 x] w fun e w' => e = .returned (.int .i64 (nextD ns x)) ∧ Below w.heap.size w w' := by
  obtain ⟨j, hj, hxj⟩ := there_idx hx
  have hkd : kidsD ns x = ns[j].kids := by rw [hxj]; unfold kidsD; rw [nodeOf_at ns j hj]
  have hB2 : Below w.heap.size w ((w.alloc (.cells #[.slice (some ⟨b, off, none⟩) ns.length cap] 24)).alloc (.cells #[.int .i64 0] 3)) := ((Below.refl _ w).alloc (Nat.le_refl _) _).alloc (by simp) _
  have hK := kidsOf_at b off cap j ns w ((w.alloc (.cells #[.slice (some ⟨b, off, none⟩) ns.length cap] 24)).alloc (.cells #[.int .i64 0] 3)) hF hB2 hj
  rw [← hxj, ← hkd] at hK
  have hl := hkl j hj
  rw [← hkd] at hl
  have k0 := keep_cell_l (.cells #[.int .i64 0] 3) (new_cell_l w (.slice (some ⟨b, off, none⟩) ns.length cap) 24).1
  have k1 := new_cell_l (w.alloc (.cells #[.slice (some ⟨b, off, none⟩) ns.length cap] 24)) (.int .i64 0) 3
  simp only [World.size_alloc] at k1
  have HB2 := hid hB2
  cases hks : kidsD ns x with
  | cons k0' t =>
    have hn : nextD ns x = k0' := by unfold nextD; rw [hks]
    rw [hn]
    rw [hks] at hK hl
    clear hn hkd hxj hks hF hR hkl hx hB2 hj
    unfold forestV at *
    go_enter Tryz.func78, Tryz.ntmps78
    go_wp2_with fail
    refine hK.mono ?_
    rintro e v1 ⟨vk, rfl, hr, hb1⟩
    obtain ⟨ok, ck, rfl, hc, g⟩ := hr
    obtain ⟨bk, offk, rfl, hltk, hak⟩ := g (by simp)
    have HB3 := hid (HB2.out.trans (hb1.mono HB2.out.size))
    have x1 := (HB3.out.cell (p := ⟨bk, offk + 0, none⟩) hltk).trans (hak 0 (by simp))
    have z0 := (hb1.cell (p := ⟨w.heap.size + 1, 0, none⟩) (by simp)).trans k1.1
    have z1 := (frozen_kept k1.1 (grown_of_below hb1) (fun r e => by cases e)).trans k1.2
    have q1 : (0 : Int) < ((k0' :: t).length : Int) := by simp
    simp only [List.getElem_cons_zero, Nat.add_zero] at x1
    clear hK hb1 hak g k0 k1
    generalize (k0' :: t).length = n at *
    go_wp2
    exact bodyPost_ret (v := .int .i64 k0') (by simp [results, Tryz.results78, go_sem, z0]) rfl ⟨rfl, HB3.out.setCell (p := ⟨w.heap.size + 1, 0, none⟩) (Nat.le_succ _) _⟩
  | nil =>
    have hn : nextD ns x = firstD (sibD ns) (pathUp ns (parentD ns) x) := by unfold nextD; rw [hks]
    rw [hn]
    rw [hks] at hK
    have HU : Hid (∀ W : World, _) := fun W => upBy_any b off cap ns.length x 67 W
    have HSb : Hid (∀ (z : Int) (W : World), thereB ns.length z = true → Below w.heap.size w W → _) := fun z W hz hW => sib_any b off cap z ns W hR (hF.later hW) hz hkl
    clear hn hkd hxj hks hl hkl
    refine (callsIn_wide (n := 6)).1 ?_
    unfold forestV at *
    refine callsIn_of_wp_marks Tryz.func78 rfl trivial ?_ rfl
    simp only [Tryz.ntmps78, List.size_toArray, List.length_cons, List.length_nil, Nat.reduceAdd, Nat.reduceSub, Array.replicate_succ, Array.replicate_zero, List.push_toArray, List.append_toArray, List.nil_append, List.cons_append]
    gi_wp2
    refine ⟨trivial, (callsIn_wide.2 hK).mono ?_⟩
    rintro e v1 ⟨vk, rfl, hr, hb1⟩
    obtain ⟨ok, ck, rfl, hc, g⟩ := hr
    have hs2 := hb1.size
    simp only [World.size_alloc] at hs2
    have HB3 := hid (HB2.out.trans (hb1.mono HB2.out.size))
    have y0 := (hb1.cell (p := ⟨w.heap.size, 0, none⟩) (by show w.heap.size < _; simp only [World.size_alloc]; omega)).trans k0
    have z0 := (hb1.cell (p := ⟨w.heap.size + 1, 0, none⟩) (by simp)).trans k1.1
    have z1 := (frozen_kept k1.1 (grown_of_below hb1) (fun r e => by cases e)).trans k1.2
    clear hK hb1 g k0 k1 hc HB2
    gi_wp2
    refine ⟨trivial, (callsIn_wide.2 (HU.out _)).mono ?_⟩
    rintro e v2 ⟨rfl, rfl⟩
    gi_wp2
    have hU := upAt_new b off cap ns.length 67 x v1
    have hUB := up_below b off cap ns.length 67 x v1
    have hBV : Below w.heap.size w (((v1.alloc (.cells #[.slice (some ⟨b, off, none⟩) ns.length cap] 24)).alloc (.cells #[.int .i64 x] 3)).alloc (.cells #[.func (.func 67) #[] #[]] 61)) := HB3.out.trans (hUB.mono HB3.out.size)
    have y1 := keep_cell_l (.cells #[.func (.func 67) #[] #[]] 61) (keep_cell_l (.cells #[.int .i64 x] 3) (keep_cell_l (.cells #[.slice (some ⟨b, off, none⟩) ns.length cap] 24) y0))
    have z2 := keep_cell_l (.cells #[.func (.func 67) #[] #[]] 61) (keep_cell_l (.cells #[.int .i64 x] 3) (keep_cell_l (.cells #[.slice (some ⟨b, off, none⟩) ns.length cap] 24) z0))
    have z3 := (frozen_kept z0 (grown_of_below hUB) (fun r e => by cases e)).trans z1
    have hsV : (((v1.alloc (.cells #[.slice (some ⟨b, off, none⟩) ns.length cap] 24)).alloc (.cells #[.int .i64 x] 3)).alloc (.cells #[.func (.func 67) #[] #[]] 61)).heap.size = v1.heap.size + 1 + 1 + 1 := by simp
    have hle : w.heap.size ≤ v1.heap.size := HB3.out.size
    refine wpIn_rangeFunc_ownF (α := There ns) rfl (by omega) (gf := 99) (lb := #[.pointer (some ⟨v1.heap.size + 1, 0, none⟩), .pointer (some ⟨v1.heap.size + 1 + 1, 0, none⟩), .pointer (some ⟨v1.heap.size, 0, none⟩)]) rfl trivial (enters_of Tryz.func99 (by kernel_rfl) rfl)
      (upP_stopsT (6 - 1) (v1.heap.size + 1) (v1.heap.size + 1 + 1) v1.heap.size (v1.heap.size + 1 + 1 + 1) b off cap (by omega) x ns w _ hR hF (by omega) hBV (by rw [hsV]; exact Nat.le_refl _) (by omega) (by omega) (by omega) hU.ch hU.co hU.cf (.inr hx)) belowK_t (belowK_b (by rw [hsV]; exact Nat.le_refl _)) (Below.refl _ _) (fun _ => rfl)
      (fun pre W => ((∀ y ∈ pre, sibD ns y.1 = 0) ∧ W.cell? ⟨w.heap.size, 0, none⟩ = some (.slice (some ⟨b, off, none⟩) ns.length cap) ∧ W.cell? ⟨w.heap.size + 1, 0, none⟩ = some (.int .i64 0) ∧ W.frozen? ⟨w.heap.size + 1, 0, none⟩ = false ∧ v1.heap.size + 1 + 1 + 1 ≤ W.heap.size) ∧ Below w.heap.size w W)
      (fun c pre W => (c = .ret ∧ ∃ (p0 : List (There ns)) (z : There ns), pre = p0 ++ [z] ∧ (∀ y ∈ p0, sibD ns y.1 = 0) ∧ sibD ns z.1 ≠ 0 ∧ W.cell? ⟨w.heap.size + 1, 0, none⟩ = some (.int .i64 (sibD ns z.1))) ∧ Below w.heap.size w W)
      (OwnFrom.and (Own.from (fun s A B row hs hg hr => ⟨hs.1, cell_kept hs.2.1 hg hr, cell_kept hs.2.2.1 hg hr, (frozen_kept hs.2.2.1 hg hr).trans hs.2.2.2.1, Nat.le_trans hs.2.2.2.2 hg.size⟩) _) (ownFrom_below (Nat.le_refl _) (by rw [hsV]; omega)))
      (fun c => OwnFrom.and (Own.from (fun s A B row hs hg hr => by
        obtain ⟨h1, p0, z, h2, h3, h4, h5⟩ := hs
        exact ⟨h1, p0, z, h2, h3, h4, cell_kept h5 hg hr⟩) _) (ownFrom_below (Nat.le_refl _) (by rw [hsV]; omega)))
      ⟨⟨by simp, y1, z2, z3, by rw [hsV]; exact Nat.le_refl _⟩, hBV⟩
      (fun z => { tmps := #[.agg #[.slice (some ⟨b, off, none⟩) ns.length cap], .int .i64 x, .pointer (some ⟨w.heap.size, 0, none⟩), undef, .pointer (some ⟨w.heap.size + 1, 0, none⟩), .slice ok 0 ck, .int .i64 z.1, undef, .agg #[.slice (some ⟨b, off, none⟩) ns.length cap], .int .i64 x, .slice ok 0 ck, .slice ok 0 ck, .int .i64 0, .bool false, undef, undef, undef, .agg #[.slice (some ⟨b, off, none⟩) ns.length cap], .int .i64 x, .func (.func 99) #[] #[.pointer (some ⟨v1.heap.size + 1, 0, none⟩), .pointer (some ⟨v1.heap.size + 1 + 1, 0, none⟩), .pointer (some ⟨v1.heap.size, 0, none⟩)], .int .i64 z.1, undef, undef, undef, undef, undef, undef], defers := [] }) ?assign ?body ?done ?stop
    case assign =>
      intro l z W K hK
      gi_wp2
      exact hK
    case body =>
      rintro l pre z W ⟨⟨hp, hcf, hcr, hfr, hsz⟩, hB⟩ _
      have hSb := HSb.out z.1 W z.2 hB
      have HB := hid hB
      clear hB
      gi_wp2
      refine ⟨trivial, (callsIn_wide.2 hSb).mono ?_⟩
      rintro e v3 ⟨rfl, hb3⟩
      have hcf3 := cell_kept hcf (grown_of_below hb3) (fun r e => by cases e)
      have hcr3 := cell_kept hcr (grown_of_below hb3) (fun r e => by cases e)
      have hfr3 := (frozen_kept hcr (grown_of_below hb3) (fun r e => by cases e)).trans hfr
      have HB3' := hid (HB.out.trans (hb3.mono HB.out.size))
      have hko : KeepsOthers W v3 := KeepsOthers.of_grownBy (grown_of_below hb3) (fun j o ej _ => by cases ej)
      clear hSb
      by_cases hz : sibD ns z.1 = 0
      · have hz' : (sibD ns z.1 != 0) = false := by rw [bne, hz]; rfl
        have Hz := hid hz
        clear hz
        gi_wp2
        refine ⟨hko, hb3.mono hsz, ⟨fun y hy => ?_, hcf3, hcr3, hfr3, Nat.le_trans hsz hb3.size⟩, HB3'.out⟩
        rcases List.mem_append.1 hy with a | a
        · exact hp y a
        · rw [List.mem_singleton.1 a]; exact Hz.out
      · have hz' : (sibD ns z.1 != 0) = true := by rw [bne, beq_eq_false_iff_ne.2 hz]; rfl
        have Hz := hid hz
        clear hz
        gi_wp2
        exact ⟨hko.trans (KeepsOthers.setCell _ _ _), ⟨rfl, pre, z, rfl, hp, Hz.out, World.cell?_setCell_same' _ _ _ (by rw [hcr3]; rfl)⟩, HB3'.out.setCell (p := ⟨w.heap.size + 1, 0, none⟩) (Nat.le_succ _) _⟩
    case done =>
      rintro D ys W hD hys ⟨⟨hp, _, hcr, hfr, _⟩, hB⟩ hK
      have hf0 : firstD (sibD ns) (pathUp ns (parentD ns) x) = 0 := by
        rw [← hys]
        refine firstD_none _ _ (fun y hy => ?_)
        obtain ⟨u, hu, rfl⟩ := List.mem_map.1 hy
        exact hp u hu
      gi_wp2
      have hK' := (KeepsOthers.setCell W ⟨w.heap.size + 1, 0, none⟩ (.int .i64 0)).same D _ hK rfl
      refine ⟨by simp, .inl ⟨_, _, rfl, run_takeDeferred hK', ?_⟩⟩
      have hc5 := cell_kept (World.cell?_setCell_same' W ⟨w.heap.size + 1, 0, none⟩ (.int .i64 0) (by rw [hcr]; rfl)) (grownBy_putObj' _ D (.deferred none)) (fun r e => by cases e; exact ⟨_, hK', rfl⟩)
      refine ⟨.int .i64 0, ?_, by rw [hf0], (hB.setCell (p := ⟨w.heap.size + 1, 0, none⟩) (Nat.le_succ _) _).trans (belowK_b (w := w) (Nat.le_refl _) _ D _ _ (by rw [hsV] at hD; omega) hK' rfl rfl)⟩
      simp [results, Tryz.f78, go_sem, hc5]
    case stop =>
      rintro D c pre W hD hpre ⟨⟨rfl, p0, z, rfl, hp, hz, hcr⟩, hB⟩ hK
      have hf0 : firstD (sibD ns) (pathUp ns (parentD ns) x) = sibD ns z.1 := by
        obtain ⟨t, ht⟩ := hpre
        rw [← ht, List.map_append, List.append_assoc]
        refine firstD_prefix _ _ _ _ (fun y hy => ?_) hz
        obtain ⟨u, hu, rfl⟩ := List.mem_map.1 hy
        exact hp u hu
      gi_wp2
      refine ⟨by simp, .inl ⟨_, _, rfl, run_takeDeferred hK, ?_⟩⟩
      have hc5 := cell_kept hcr (grownBy_putObj' _ D (.deferred none)) (fun r e => by cases e; exact ⟨_, hK, rfl⟩)
      refine ⟨.int .i64 (sibD ns z.1), ?_, by rw [hf0], hB.trans (belowK_b (w := w) (Nat.le_refl _) W D _ _ (by rw [hsV] at hD; omega) hK rfl rfl)⟩
      simp [results, Tryz.f78, go_sem, hc5]
end Go.Proofs.YtfaeabjgplahgaaGreat

namespace Go.Proofs.YtfaeabjgplahgaaGreat
open Go.RowKit Go.Lib Go.Shelf

set_option maxRecDepth 100000 in
set_option maxHeartbeats 2000000 in
theorem Next1_any (b off cap u1 u2 : Nat) (x : Int) (ns : List NodeD) (w : World) (hR : RightF ns) (hF : FAt w b off cap ns) (hx : thereB ns.length x = true) (hkl : ∀ (i : Nat) (hi : i < ns.length), ns[i].kids.length ≤ 1099511627776)
    (c1 : w.cell? ⟨u1, 0, none⟩ = some (.slice (some ⟨b, off, none⟩) ns.length cap)) (c2 : w.cell? ⟨u2, 0, none⟩ = some (.int .i64 x)) :
    Calls Tryz.prog 77 #[.pointer (some ⟨u1, 0, none⟩), .pointer (some ⟨u2, 0, none⟩)] w fun e w' => e = .returned (.int .i64 (nextD ns x)) ∧ Below w.heap.size w w' := by
  have hP := behind_any b off cap x ns w hR hF hx hkl
  unfold forestV at hP
  generalize nextD ns x = P at *
  clear hkl
  go_enter Tryz.func77, Tryz.ntmps77
  go_wp2_with fail
  refine hP.mono ?_
  rintro e v1 ⟨rfl, hb1⟩
  have HB := hid hb1
  clear hP hb1
  go_wp2
  go_ret
  exact ⟨rfl, HB.out⟩

set_option maxRecDepth 100000 in
set_option maxHeartbeats 4000000 in
theorem toldNext_any (o : Option Addr) (cap u1 u2 : Nat) (R : Int) (v : Value) (hs : List Int) (ns : List NodeD) (w : World) (hF : FRd w o cap ns) (hkl : ∀ (i : Nat) (hi : i < ns.length), ns[i].kids.length ≤ 1099511627776) (hal : ∀ (i : Nat) (hi : i < ns.length), ns[i].attrs.length ≤ 1099511627776) (hv : RdI w v hs) (hl : hs.length ≤ 1099511627776)
    (hT : toldE ns hs = 0 → ∀ W : World, Below w.heap.size w W → Calls Tryz.prog 77 #[.pointer (some ⟨u1, 0, none⟩), .pointer (some ⟨u2, 0, none⟩)] W fun e w' => e = .returned (.int .i64 R) ∧ Below W.heap.size W w') :
    Calls Tryz.prog 55 #[.agg #[.slice o ns.length cap], .func (.func 77) #[] #[.pointer (some ⟨u1, 0, none⟩), .pointer (some ⟨u2, 0, none⟩)], v] w fun e w' => e = .returned (.tuple #[.int .i64 (if toldE ns hs = 0 then R else 0), .int .i64 (toldE ns hs)]) ∧ Below w.heap.size w w' := by
  have HC : Hid (∀ W : World, Below w.heap.size w W → _) := fun W hW => Check_any o cap ns W (hF.later hW) hkl hal
  have hle := hF.len
  obtain ⟨o2, c2, rfl, hc2, g2⟩ := hv
  clear hF hkl hal
  generalize checkN ns = CN at *
  cases hr : rightD ns with
  | false =>
    have e0 : toldE ns hs = 5 := by unfold toldE; rw [hr]; rfl
    have e1 : checkE ns = 5 := by unfold checkE; rw [hr]; rfl
    rw [e0, if_neg (by decide)]
    rw [e1] at HC
    clear hT e0 e1 g2
    go_enter Tryz.func55, Tryz.ntmps55
    go_wp2_with fail
    refine (HC.out _ ((Below.refl _ w).alloc (Nat.le_refl _) _)).mono ?_
    rintro e v1 ⟨rfl, hb1⟩
    go_wp2
    go_ret2
    exact ⟨rfl, box_go hb1⟩
  | true =>
    have e1 : checkE ns = 0 := (checkE_right hr).1
    rw [e1] at HC
    obtain ⟨E, hE⟩ : ∃ E, toldE ns hs = E := ⟨_, rfl⟩
    rw [hE] at hT ⊢
    have HE : Hid ((if (hs.drop 0).all (thereB ns.length) then (0 : Int) else 2) = E) := by
      have := hE
      unfold toldE at this
      rw [hr, if_pos rfl] at this
      exact this
    obtain ⟨T, hTe⟩ : ∃ T, (if E = 0 then R else 0) = T := ⟨_, rfl⟩
    rw [hTe]
    have HTe := hid hTe
    have HT := hid hT
    clear hE hT e1 hTe
    go_enter Tryz.func55, Tryz.ntmps55
    go_wp2_with fail
    refine (HC.out _ ((Below.refl _ w).alloc (Nat.le_refl _) _)).mono ?_
    rintro e v1 ⟨rfl, hb1⟩
    have HB1 := hid (box_go hb1)
    have cb := box_forest hb1
    clear hb1 HC
    go_wp2
    go_loopw [24] (fun t wr => ∃ k : Nat, k ≤ hs.length ∧ t = .int .i64 k ∧ wr = v1 ∧ Hid ((if (hs.drop k).all (thereB ns.length) then (0 : Int) else 2) = E)) (fun t _ => hs.length - (RowKit.intOf t).toNat)
    case atStart => exact ⟨0, Nat.zero_le _, rfl, rfl, HE⟩
    case round =>
      obtain ⟨k, k1, rfl, rfl, hK⟩ := hrel
      by_cases hlt : k < hs.length
      · obtain ⟨b, off, rfl, hlt1, ha⟩ := g2 (by omega)
        have x1 := (HB1.out.cell (p := ⟨b, off + k, none⟩) hlt1).trans (ha k hlt)
        have q1 : (0 : Int) ≤ (k : Int) := by omega
        have q2 : (k : Int) < (hs.length : Int) := by omega
        have hk := hK.out
        rw [List.drop_eq_getElem_cons hlt, List.all_cons] at hk
        have Hk := hid hk
        clear hk hK ha g2
        generalize hs[k] = a at *
        by_cases g1 : a < 1
        · have hf : thereB ns.length a = false := by unfold thereB; rw [decide_eq_false (by omega)]; rfl
          have hE2 : E = 2 := by rw [← Hk.out, hf]; rfl
          subst hE2
          have hT0 : T = 0 := by rw [← HTe.out]; rfl
          subst hT0
          have d1 : decide (a < 1) = true := decide_eq_true g1
          clear Hk hf HT
          go_wp2
          go_ret2
          exact ⟨rfl, HB1.out⟩
        · have d1 : decide (a < 1) = false := decide_eq_false g1
          by_cases g3 : (ns.length : Int) < a
          · have hf : thereB ns.length a = false := by unfold thereB; rw [decide_eq_false (p := a ≤ (ns.length : Int)) (by omega), Bool.and_false]
            have hE2 : E = 2 := by rw [← Hk.out, hf]; rfl
            subst hE2
            have hT0 : T = 0 := by rw [← HTe.out]; rfl
            subst hT0
            have d2 : decide ((ns.length : Int) < a) = true := decide_eq_true g3
            clear Hk hf HT
            go_wp2
            go_ret2
            exact ⟨rfl, HB1.out⟩
          · have hf : thereB ns.length a = true := by unfold thereB; rw [decide_eq_true (by omega), decide_eq_true (by omega)]; rfl
            have d2 : decide ((ns.length : Int) < a) = false := decide_eq_false g3
            have Hn : Hid ((if (hs.drop (k + 1)).all (thereB ns.length) then (0 : Int) else 2) = E) := by
              have h := Hk.out
              rw [hf, Bool.true_and] at h
              exact h
            clear Hk hf
            go_wp2
            go_roundw
            case rel => exact ⟨k + 1, by omega, by go_num, trivial, Hn⟩
            case measure => simp [RowKit.intOf]; omega
      · have hE0 : E = 0 := by rw [← hK.out, List.drop_eq_nil_of_le (by omega)]; rfl
        subst hE0
        have hT := HT.out rfl wr HB1.out
        have hT0 : T = R := by rw [← HTe.out]; rfl
        subst hT0
        clear hK g2 HT HTe
        go_wp2_with fail
        refine hT.mono ?_
        rintro e v2 ⟨rfl, hb2⟩
        have HB2 := hid (HB1.out.trans (hb2.mono HB1.out.size))
        clear hT hb2
        go_wp2
        go_ret2
        exact ⟨rfl, HB2.out⟩

set_option maxRecDepth 100000 in
set_option maxHeartbeats 4000000 in
theorem Next_any (o : Option Addr) (cap : Nat) (x : Int) (ns : List NodeD) (w : World) (hF : FRd w o cap ns) (hkl : ∀ (i : Nat) (hi : i < ns.length), ns[i].kids.length ≤ 1099511627776) (hal : ∀ (i : Nat) (hi : i < ns.length), ns[i].attrs.length ≤ 1099511627776) :
    Calls Tryz.prog 42 #[.agg #[.slice o ns.length cap], .int .i64 x] w fun e w' => e = .returned (.tuple #[.int .i64 (if toldE ns [x] = 0 then nextD ns x else 0), .int .i64 (toldE ns [x])]) ∧ Below w.heap.size w w' := by
  have hB3 : Below w.heap.size w (((w.alloc (.cells #[.slice o ns.length cap] 24)).alloc (.cells #[.int .i64 x] 3)).alloc (.cells #[.int .i64 x] 3)) := (((Below.refl _ w).alloc (Nat.le_refl _) _).alloc (by simp) _).alloc (by simp; omega) _
  have k0 := new_cell_l w (.slice o ns.length cap) 24
  have k1 := new_cell_l (w.alloc (.cells #[.slice o ns.length cap] 24)) (.int .i64 x) 3
  have kr := one_rdI ((w.alloc (.cells #[.slice o ns.length cap] 24)).alloc (.cells #[.int .i64 x] 3)) x 3
  simp only [World.size_alloc] at k1 kr
  have c0 := keep_cell_l (.cells #[.int .i64 x] 3) (keep_cell_l (.cells #[.int .i64 x] 3) k0.1)
  have c1 := keep_cell_l (.cells #[.int .i64 x] 3) k1.1
  have s0 : w.heap.size < (((w.alloc (.cells #[.slice o ns.length cap] 24)).alloc (.cells #[.int .i64 x] 3)).alloc (.cells #[.int .i64 x] 3)).heap.size := by simp only [World.size_alloc]; omega
  have hT := toldNext_any o cap w.heap.size (w.heap.size + 1) (nextD ns x) (.slice (some ⟨w.heap.size + 1 + 1, 0, none⟩) 1 1) [x] ns (((w.alloc (.cells #[.slice o ns.length cap] 24)).alloc (.cells #[.int .i64 x] 3)).alloc (.cells #[.int .i64 x] 3)) (hF.later hB3) hkl hal kr (by simp) (fun hE W hW => by
    obtain ⟨hR, hth⟩ := toldE_zero hE
    have hx := hth x (by simp)
    obtain ⟨i, hi, _⟩ := there_idx hx
    obtain ⟨b, off, rfl, hFA⟩ := hF.at_ (by omega)
    have hBW := hB3.trans (hW.mono hB3.size)
    have h1 := Next1_any b off cap w.heap.size (w.heap.size + 1) x ns W hR (hFA.later hBW) hx hkl
      ((hW.cell (p := ⟨w.heap.size, 0, none⟩) s0).trans c0)
      ((hW.cell (p := ⟨w.heap.size + 1, 0, none⟩) (by show w.heap.size + 1 < _; simp only [World.size_alloc]; omega)).trans c1)
    exact h1)
  generalize (if toldE ns [x] = 0 then nextD ns x else 0) = A at *
  generalize toldE ns [x] = E at *
  have HB3 := hid hB3
  clear k0 k1 kr c0 c1 s0 hF hkl hal hB3
  go_enter Tryz.func42, Tryz.ntmps42
  go_wp2_with fail
  refine hT.mono ?_
  rintro e v1 ⟨rfl, hb1⟩
  have HB := hid (HB3.out.trans (hb1.mono HB3.out.size))
  clear hT hb1 HB3
  go_wp2
  go_ret2
  exact ⟨rfl, HB.out⟩
end Go.Proofs.YtfaeabjgplahgaaGreat
