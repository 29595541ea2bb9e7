/- OrderTwos' own walk. -/
/- OrderTwos, whole. -/
import Derived.Test.YtnolcbjaijoloaaGreatCFR4AFR4G
import Derived.Test.YtnolcbjaijoloaaGreatCFHolds
import Derived.Test.YtnolcbjaijoloaaGreatCFStandFCmpC
import Derived.Test.YtnolcbjaijoloaaGreatCFIntsFBegT
namespace Go.Proofs.YtnolcbjaijoloaaGreat
open Go.RowKit Go.Lib Go.Shelf

set_option maxRecDepth 100000 in
set_option maxHeartbeats 8000000 in
theorem refused_any (o : Option Addr) (cap : Nat) (x y E : Int) (ns : List NodeD) (w : World)
    (H1 : Hid (∀ W : World, Below w.heap.size w W → Calls Tryz.prog 24 #[.agg #[.slice o ns.length cap], .int .i64 x, .int .i64 y] W fun e w' => e = .returned (.tuple #[.bool false, .int .i64 E]) ∧ Below W.heap.size W w'))
    (H2 : Hid (∀ W : World, Below w.heap.size w W → Calls Tryz.prog 25 #[.agg #[.slice o ns.length cap], .int .i64 x, .int .i64 y] W fun e w' => e = .returned (.tuple #[.int .i64 0, .int .i64 E]) ∧ Below W.heap.size W w'))
    (H3 : Hid (∀ W : World, Below w.heap.size w W → Calls Tryz.prog 26 #[.agg #[.slice o ns.length cap], .int .i64 x, .int .i64 y] W fun e w' => e = .returned (.tuple #[.int .i64 0, .bool false, .int .i64 E]) ∧ Below W.heap.size W w'))
    (H4 : Hid (∀ W : World, Below w.heap.size w W → Calls Tryz.prog 27 #[.agg #[.slice o ns.length cap], .int .i64 x, .int .i64 y] W fun e w' => e = .returned (.tuple #[.int .i64 0, .int .i64 E]) ∧ Below W.heap.size W w'))
    (H5 : Hid (∀ W : World, Below w.heap.size w W → Calls Tryz.prog 34 #[.agg #[.slice o ns.length cap], .int .i64 x, .int .i64 y] W fun e w' => e = .returned (.tuple #[.bool false, .int .i64 E]) ∧ Below W.heap.size W w')) :
    Calls Tryz.prog 23 #[.agg #[.slice o ns.length cap], .int .i64 x, .int .i64 y, .int .i64 E] w fun e w' => e = .returned (.bool true) ∧ Below w.heap.size w w' := by
  have hB0 : Below (w.heap.size + 1) (w.alloc (.cells #[.slice o ns.length cap] 24)) (w.alloc (.cells #[.slice o ns.length cap] 24)) := Below.refl _ _
  have HX : Hid (∀ v1 : World, Below (w.heap.size + 1) (w.alloc (.cells #[.slice o ns.length cap] 24)) v1 → v1.cell? ⟨w.heap.size, 0, none⟩ = some (.slice o ns.length cap)) := fun v1 hB1 => (hB1.cell (p := ⟨w.heap.size, 0, none⟩) (by show w.heap.size < w.heap.size + 1; omega)).trans (by simp)
  have HB0 := hid hB0
  clear hB0
  go_enter Tryz.func23, Tryz.ntmps23
  go_wp2_with fail
  refine (H1.out _ (bx_below HB0.out)).mono ?_
  rintro e v1 ⟨rfl, hb1⟩
  have HB1 := hid (HB0.out.trans (hb1.mono (by simp)))
  have c1 := HX.out v1 HB1.out
  clear hb1 HB0 H1
  go_wp2_with fail
  refine (H2.out _ (bx_below HB1.out)).mono ?_
  rintro e v2 ⟨rfl, hb2⟩
  have HB2 := hid (HB1.out.trans (hb2.mono (bx_size HB1.out)))
  have c2 := HX.out v2 HB2.out
  clear hb2 HB1 H2 c1
  go_wp2_with fail
  refine (H3.out _ (bx_below HB2.out)).mono ?_
  rintro e v3 ⟨rfl, hb3⟩
  have HB3 := hid (HB2.out.trans (hb3.mono (bx_size HB2.out)))
  have c3 := HX.out v3 HB3.out
  clear hb3 HB2 H3 c2
  go_wp2_with fail
  refine (H4.out _ (bx_below HB3.out)).mono ?_
  rintro e v4 ⟨rfl, hb4⟩
  have HB4 := hid (HB3.out.trans (hb4.mono (bx_size HB3.out)))
  have c4 := HX.out v4 HB4.out
  clear hb4 HB3 H4 c3
  go_wp2_with fail
  refine (H5.out _ (bx_below HB4.out)).mono ?_
  rintro e v5 ⟨rfl, hb5⟩
  have HB5 := hid (HB4.out.trans (hb5.mono (bx_size HB4.out)))
  clear hb5 HB4 H5 c4
  go_wp2
  go_ret
  exact ⟨rfl, bx_below HB5.out⟩

set_option maxRecDepth 100000 in
set_option maxHeartbeats 8000000 in
theorem twos_refused (o : Option Addr) (cap : Nat) (x y E : Int) (ns : List NodeD) (w : World) (hE : (E != 0) = true)
    (HBg : Hid (∀ W : World, Calls Tryz.prog 6 #[] W fun e w' => e = .returned (.bool true) ∧ Below W.heap.size W w'))
    (HFa : Hid (∀ (v : Value) (W : World), Below w.heap.size w W → RdI W v [x, y] → Calls Tryz.prog 7 #[.agg #[.slice o ns.length cap], v] W fun e w' => e = .returned (.int .i64 E) ∧ Below W.heap.size W w'))
    (HRe : Hid (∀ (W : World), Below w.heap.size w W → Calls Tryz.prog 23 #[.agg #[.slice o ns.length cap], .int .i64 x, .int .i64 y, .int .i64 E] W fun e w' => e = .returned (.bool true) ∧ Below W.heap.size W w')) :
    Calls Tryz.prog 4 #[.agg #[.slice o ns.length cap], .int .i64 x, .int .i64 y] w fun e w' => e = .returned (.bool true) ∧ Below w.heap.size w w' := by
  have hB0 : Below (w.heap.size + 1) (w.alloc (.cells #[.slice o ns.length cap] 24)) (w.alloc (.cells #[.slice o ns.length cap] 24)) := Below.refl _ _
  have HX : Hid (∀ v1 : World, Below (w.heap.size + 1) (w.alloc (.cells #[.slice o ns.length cap] 24)) v1 → v1.cell? ⟨w.heap.size, 0, none⟩ = some (.slice o ns.length cap)) := fun v1 hB1 => (hB1.cell (p := ⟨w.heap.size, 0, none⟩) (by show w.heap.size < w.heap.size + 1; omega)).trans (by simp)
  have HB0 := hid hB0
  clear hB0
  go_enter Tryz.func4, Tryz.ntmps4
  go_wp2_with fail
  refine (HBg.out _).mono ?_
  rintro e v1 ⟨rfl, hb1⟩
  have HB1 := hid (HB0.out.trans (hb1.mono (by simp)))
  have c1 := HX.out v1 HB1.out
  clear hb1 HB0
  go_wp2_with fail
  have hr2 := two_rdI v1 x y 3
  have hBa : Below w.heap.size w (v1.alloc (.cells #[.int .i64 x, .int .i64 y] 3)) := (bx_below HB1.out).alloc (Nat.le_of_succ_le (bx_size HB1.out)) _
  refine (HFa.out _ _ hBa hr2).mono ?_
  rintro e v2 ⟨rfl, hb2⟩
  have HB2 := hid (chain_alloc HB1.out (bx_size HB1.out) hb2)
  have c2 := HX.out v2 HB2.out
  clear hb2 HB1 HFa hr2 hBa c1
  go_wp2_with fail
  refine (HRe.out _ (bx_below HB2.out)).mono ?_
  rintro e v3 ⟨rfl, hb3⟩
  have HB3 := hid (HB2.out.trans (hb3.mono (bx_size HB2.out)))
  clear hb3 HB2 HRe c2
  go_wp2
  go_ret
  exact ⟨rfl, bx_below HB3.out⟩

set_option maxRecDepth 100000 in
set_option maxHeartbeats 8000000 in
theorem twos_right (o : Option Addr) (cap : Nat) (x y : Int) (C M : Bool) (K N U : Int) (ns : List NodeD) (w : World)
    (HBg : Hid (∀ W : World, Calls Tryz.prog 6 #[] W fun e w' => e = .returned (.bool true) ∧ Below W.heap.size W w'))
    (HFa : Hid (∀ (v : Value) (W : World), Below w.heap.size w W → RdI W v [x, y] → Calls Tryz.prog 7 #[.agg #[.slice o ns.length cap], v] W fun e w' => e = .returned (.int .i64 0) ∧ Below W.heap.size W w'))
    (H1 : Hid (∀ W : World, Below w.heap.size w W → Calls Tryz.prog 24 #[.agg #[.slice o ns.length cap], .int .i64 x, .int .i64 y] W fun e w' => e = .returned (.tuple #[.bool C, .int .i64 0]) ∧ Below W.heap.size W w'))
    (H2 : Hid (∀ W : World, Below w.heap.size w W → Calls Tryz.prog 25 #[.agg #[.slice o ns.length cap], .int .i64 x, .int .i64 y] W fun e w' => e = .returned (.tuple #[.int .i64 K, .int .i64 0]) ∧ Below W.heap.size W w'))
    (H3 : Hid (∀ W : World, Below w.heap.size w W → Calls Tryz.prog 26 #[.agg #[.slice o ns.length cap], .int .i64 x, .int .i64 y] W fun e w' => e = .returned (.tuple #[.int .i64 N, .bool M, .int .i64 0]) ∧ Below W.heap.size W w'))
    (H4 : Hid (∀ W : World, Below w.heap.size w W → Calls Tryz.prog 27 #[.agg #[.slice o ns.length cap], .int .i64 x, .int .i64 y] W fun e w' => e = .returned (.tuple #[.int .i64 U, .int .i64 0]) ∧ Below W.heap.size W w'))
    (H5 : Hid (∀ W : World, Below w.heap.size w W → Calls Tryz.prog 28 #[.agg #[.slice o ns.length cap], .int .i64 x, .int .i64 y] W fun e w' => e = .returned (.tuple #[.int .i64 N, .bool M]) ∧ Below W.heap.size W w'))
    (H6 : Hid (∀ W : World, Below w.heap.size w W → Calls Tryz.prog 29 #[.agg #[.slice o ns.length cap], .int .i64 x, .int .i64 y] W fun e w' => e = .returned (.bool C) ∧ Below W.heap.size W w'))
    (H7 : Hid (∀ W : World, Below w.heap.size w W → Calls Tryz.prog 30 #[.agg #[.slice o ns.length cap], .int .i64 x, .int .i64 y] W fun e w' => e = .returned (.int .i64 K) ∧ Below W.heap.size W w'))
    (H8 : Hid (∀ W : World, Below w.heap.size w W → Calls Tryz.prog 31 #[.agg #[.slice o ns.length cap], .int .i64 x, .int .i64 y] W fun e w' => e = .returned (.int .i64 U) ∧ Below W.heap.size W w')) :
    Calls Tryz.prog 4 #[.agg #[.slice o ns.length cap], .int .i64 x, .int .i64 y] w fun e w' => e = .returned (.bool true) ∧ Below w.heap.size w w' := by
  have hB0 : Below (w.heap.size + 1) (w.alloc (.cells #[.slice o ns.length cap] 24)) (w.alloc (.cells #[.slice o ns.length cap] 24)) := Below.refl _ _
  have HX : Hid (∀ v1 : World, Below (w.heap.size + 1) (w.alloc (.cells #[.slice o ns.length cap] 24)) v1 → v1.cell? ⟨w.heap.size, 0, none⟩ = some (.slice o ns.length cap)) := fun v1 hB1 => (hB1.cell (p := ⟨w.heap.size, 0, none⟩) (by show w.heap.size < w.heap.size + 1; omega)).trans (by simp)
  have HB0 := hid hB0
  clear hB0
  go_enter Tryz.func4, Tryz.ntmps4
  go_wp2_with fail
  refine (HBg.out _).mono ?_
  rintro e v1 ⟨rfl, hb1⟩
  have HB1 := hid (HB0.out.trans (hb1.mono (by simp)))
  have c1 := HX.out v1 HB1.out
  clear hb1 HB0
  go_wp2_with fail
  have hr2 := two_rdI v1 x y 3
  have hBa : Below w.heap.size w (v1.alloc (.cells #[.int .i64 x, .int .i64 y] 3)) := (bx_below HB1.out).alloc (Nat.le_of_succ_le (bx_size HB1.out)) _
  refine (HFa.out _ _ hBa hr2).mono ?_
  rintro e v2 ⟨rfl, hb2⟩
  have HB2 := hid (chain_alloc HB1.out (bx_size HB1.out) hb2)
  have c2 := HX.out v2 HB2.out
  clear hb2 HB1 HFa hr2 hBa c1
  go_wp2_with fail
  refine (H1.out _ (bx_below HB2.out)).mono ?_
  rintro e v3 ⟨rfl, hb3⟩
  have HB3 := hid (HB2.out.trans (hb3.mono (bx_size HB2.out)))
  have c3 := HX.out v3 HB3.out
  clear hb3 HB2 H1 c2
  go_wp2_with fail
  refine (H2.out _ (bx_below HB3.out)).mono ?_
  rintro e v4 ⟨rfl, hb4⟩
  have HB4 := hid (HB3.out.trans (hb4.mono (bx_size HB3.out)))
  have c4 := HX.out v4 HB4.out
  clear hb4 HB3 H2 c3
  go_wp2_with fail
  refine (H3.out _ (bx_below HB4.out)).mono ?_
  rintro e v5 ⟨rfl, hb5⟩
  have HB5 := hid (HB4.out.trans (hb5.mono (bx_size HB4.out)))
  have c5 := HX.out v5 HB5.out
  clear hb5 HB4 H3 c4
  go_wp2_with fail
  refine (H4.out _ (bx_below HB5.out)).mono ?_
  rintro e v6 ⟨rfl, hb6⟩
  have HB6 := hid (HB5.out.trans (hb6.mono (bx_size HB5.out)))
  have c6 := HX.out v6 HB6.out
  clear hb6 HB5 H4 c5
  go_wp2_with fail
  refine (H5.out _ (bx_below HB6.out)).mono ?_
  rintro e v7 ⟨rfl, hb7⟩
  have HB7 := hid (HB6.out.trans (hb7.mono (bx_size HB6.out)))
  have c7 := HX.out v7 HB7.out
  clear hb7 HB6 H5 c6
  go_wp2_with fail
  refine (H6.out _ (bx_below HB7.out)).mono ?_
  rintro e v8 ⟨rfl, hb8⟩
  have HB8 := hid (HB7.out.trans (hb8.mono (bx_size HB7.out)))
  have c8 := HX.out v8 HB8.out
  clear hb8 HB7 H6 c7
  go_wp2_with fail
  refine (H7.out _ (bx_below HB8.out)).mono ?_
  rintro e v9 ⟨rfl, hb9⟩
  have HB9 := hid (HB8.out.trans (hb9.mono (bx_size HB8.out)))
  have c9 := HX.out v9 HB9.out
  clear hb9 HB8 H7 c8
  go_wp2_with fail
  refine (H8.out _ (bx_below HB9.out)).mono ?_
  rintro e v10 ⟨rfl, hb10⟩
  have HB10 := hid (HB9.out.trans (hb10.mono (bx_size HB9.out)))
  have c10 := HX.out v10 HB10.out
  clear hb10 HB9 H8 c9
  go_wp2
  go_ret
  exact ⟨rfl, bx_below HB10.out⟩
end Go.Proofs.YtnolcbjaijoloaaGreat

namespace Go.Proofs.YtnolcbjaijoloaaGreat
open Go.RowKit Go.Lib Go.Shelf

theorem orderTwos_law (o : Option Addr) (cap : Nat) (x y : Int) (ns : List NodeD) (w : World) (hF : FRd w o cap ns) (hkl : ∀ (i : Nat) (hi : i < ns.length), ns[i].kids.length ≤ 1099511627776) (hal : ∀ (i : Nat) (hi : i < ns.length), ns[i].attrs.length ≤ 1099511627776) :
    Calls Tryz.prog 4 #[.agg #[.slice o ns.length cap], .int .i64 x, .int .i64 y] w fun e w' => e = .returned (.bool true) ∧ Below w.heap.size w w' := by
  have H1 : ∀ W : World, Below w.heap.size w W → _ := fun W hW => Contains_any o cap x y ns W (hF.later hW) hkl hal
  have H2 : ∀ W : World, Below w.heap.size w W → _ := fun W hW => Common_any o cap x y ns W (hF.later hW) hkl hal
  have H3 : ∀ W : World, Below w.heap.size w W → _ := fun W hW => Cmp_any o cap x y ns W (hF.later hW) hkl hal
  have H4 : ∀ W : World, Below w.heap.size w W → _ := fun W hW => Compare_any o cap x y ns W (hF.later hW) hkl hal
  have H5 : ∀ W : World, Below w.heap.size w W → _ := fun W hW => Holds_any o cap x y ns W (hF.later hW) hkl hal
  have HFa : ∀ (v : Value) (W : World), Below w.heap.size w W → RdI W v [x, y] → _ := fun v W hW hv => refFault_any o cap v [x, y] ns W (hF.later hW) hkl hal hv (by simp)
  by_cases hE : toldE ns [x, y] = 0
  · obtain ⟨hR, hth⟩ := toldE_zero hE
    have hx := hth x (by simp)
    have hy := hth y (by simp)
    obtain ⟨j, hj, _⟩ := there_idx hx
    obtain ⟨b, off, rfl, hFA⟩ := hF.at_ (by omega)
    simp only [hE, if_true] at H1 H2 H3 H4 HFa
    exact twos_right _ cap x y _ _ _ _ _ ns w (fun W => begins_true W) HFa H1 H2 H3 H4
      (fun W hW => refCmp_any b off cap x y ns W hR (hFA.later hW) hkl hx hy) (fun W hW => refContains_any b off cap x y ns W hR (hFA.later hW) hy)
      (fun W hW => refCommon_any b off cap x y ns W hR (hFA.later hW) hx hy) (fun W hW => refCompare_any b off cap x y ns W hR (hFA.later hW) hkl hx hy)
  · have hne : (toldE ns [x, y] != 0) = true := by rw [bne, beq_eq_false_iff_ne.2 hE]; rfl
    simp only [if_neg hE] at H1 H2 H3 H4 H5
    generalize toldE ns [x, y] = E at *
    refine twos_refused o cap x y E ns w hne (fun W => begins_true W) HFa (fun W hW => refused_any o cap x y E ns W (fun V hV => H1 V (hW.trans (hV.mono hW.size))) (fun V hV => H2 V (hW.trans (hV.mono hW.size))) (fun V hV => H3 V (hW.trans (hV.mono hW.size))) (fun V hV => H4 V (hW.trans (hV.mono hW.size))) (fun V hV => H5 V (hW.trans (hV.mono hW.size))))
end Go.Proofs.YtnolcbjaijoloaaGreat
