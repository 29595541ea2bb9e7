/- OrderTurned's own walk, its 'begins' as a premise. -/
/- OrderTurned, whole. -/
import Derived.Test.YtnolcbjaijoloaaCFStandFCmp
import Derived.Test.YtnolcbjaijoloaaCFIntsFBeg
import Derived.Test.YtnolcbjaijoloaaCFRMade
namespace Go.Proofs.Ytnolcbjaijoloaa
open Go.RowKit Go.Lib Go.Shelf

theorem toldE_turned (ns : List NodeD) (x y : Int) : toldE ns [y, x] = toldE ns [x, y] := by
  unfold toldE
  simp only [List.all_cons, List.all_nil, Bool.and_true]
  rw [Bool.and_comm]

set_option maxRecDepth 100000 in
set_option maxHeartbeats 8000000 in
theorem turned_walk (HBg : Hid (∀ W : World, Calls Try.prog 6 #[] W fun e w' => e = .returned (.bool true) ∧ Below W.heap.size W w')) (o : Option Addr) (cap : Nat) (x y : Int) (ns : List NodeD) (w : World) (hF : FRd w o cap ns) (hkl : ∀ (i : Nat) (hi : i < ns.length), ns[i].kids.length ≤ 1099511627776) (hal : ∀ (i : Nat) (hi : i < ns.length), ns[i].attrs.length ≤ 1099511627776) :
    Calls Try.prog 4 #[.agg #[.slice o ns.length cap], .int .i64 x, .int .i64 y] w fun e w' => e = .returned (.bool true) ∧ Below w.heap.size w w' := by
  have H1 : Hid (∀ W : World, Below w.heap.size w W → _) := fun W hW => Compare_any o cap x y ns W (hF.later hW) hkl hal
  have H2 : Hid (∀ W : World, Below w.heap.size w W → _) := fun W hW => Compare_any o cap y x ns W (hF.later hW) hkl hal
  have HP : Hid (toldE ns [x, y] = 0 → _) := fun h => by
    obtain ⟨hR, hth⟩ := toldE_zero h
    exact position_turned hR (hth x (by simp)) (hth y (by simp))
  rw [toldE_turned ns x y] at H2
  generalize positionD ns x y = N at *
  generalize positionD ns y x = M at *
  generalize toldE ns [x, y] = E at *
  clear hF hkl hal
  have go : ∀ (A B : Int), (if E = 0 then N else 0) = A → (if E = 0 then M else 0) = B → (E ≠ 0 ∨ (E = 0 ∧ ((x = y ∧ A = 0 ∧ B = 0) ∨ (x ≠ y ∧ ((A = 35 ∧ B = 37) ∨ (A = 37 ∧ B = 35) ∨ (A = 10 ∧ B = 20) ∨ (A = 20 ∧ B = 10) ∨ (A = 2 ∧ B = 4) ∨ (A = 4 ∧ B = 2)))))) →
      Calls Try.prog 4 #[.agg #[.slice o ns.length cap], .int .i64 x, .int .i64 y] w fun e w' => e = .returned (.bool true) ∧ Below w.heap.size w w' := by
    intro A B hA hB hc
    rw [hA] at H1
    rw [hB] at H2
    clear hA hB HP
    rcases hc with hE | ⟨rfl, ⟨rfl, rfl, rfl⟩ | ⟨hxy, ⟨rfl, rfl⟩ | ⟨rfl, rfl⟩ | ⟨rfl, rfl⟩ | ⟨rfl, rfl⟩ | ⟨rfl, rfl⟩ | ⟨rfl, rfl⟩⟩⟩
    all_goals
      try have hxe : (x == y) = false := beq_eq_false_iff_ne.2 (by assumption)
      try have hEn : (E != 0) = true := by rw [bne, beq_eq_false_iff_ne.2 (by assumption)]; rfl
      go_enter Try.func4, Try.ntmps4
      go_wp2_with fail
      refine (HBg.out _).mono ?_
      rintro e v0 ⟨rfl, hb0⟩
      have hB0 := box_go hb0
      have cb := box_forest hb0
      have HB0 := hid hB0
      have hs0 := hb0.size
      simp only [World.size_alloc] at hs0
      clear hb0 hB0
      go_wp2_with fail
      refine (H1.out _ HB0.out).mono ?_
      rintro e v1 ⟨rfl, hb1⟩
      have HB1 := hid (HB0.out.trans (hb1.mono HB0.out.size))
      have cb1 := (hb1.cell (p := ⟨w.heap.size, 0, none⟩) (by show w.heap.size < v0.heap.size; omega)).trans cb
      clear hb1 cb
      go_wp2_with fail
      refine (H2.out _ HB1.out).mono ?_
      rintro e v2 ⟨rfl, hb2⟩
      have HB2 := hid (HB1.out.trans (hb2.mono HB1.out.size))
      clear hb2 cb1
      go_wp2
      go_ret
      exact ⟨rfl, HB2.out⟩
  by_cases hE : E = 0
  · have h := HP.out hE
    refine go N M (by rw [if_pos hE]) (by rw [if_pos hE]) (.inr ⟨hE, h⟩)
  · exact go 0 0 (by rw [if_neg hE]) (by rw [if_neg hE]) (.inl hE)
end Go.Proofs.Ytnolcbjaijoloaa

namespace Go.Proofs.Ytnolcbjaijoloaa
open Go.RowKit Go.Lib
theorem orderTurned_law (o : Option Addr) (cap : Nat) (x y : Int) (ns : List NodeD) (w : World) (hF : FRd w o cap ns) (hkl : ∀ (i : Nat) (hi : i < ns.length), ns[i].kids.length ≤ 1099511627776) (hal : ∀ (i : Nat) (hi : i < ns.length), ns[i].attrs.length ≤ 1099511627776) :
    Calls Try.prog 4 #[.agg #[.slice o ns.length cap], .int .i64 x, .int .i64 y] w fun e w' => e = .returned (.bool true) ∧ Below w.heap.size w w' :=
  turned_walk (fun W => begins_any (fun b W h => by have := refRight_any (some ⟨b, 0, none⟩) 3 smallNs W h.rd (all_kids (by decide +kernel)) (all_attrs (by decide +kernel)); rw [small_right] at this; exact this) W) o cap x y ns w hF hkl hal
end Go.Proofs.Ytnolcbjaijoloaa
