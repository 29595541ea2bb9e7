/- canopylaw21: lives, walked. -/
import Derived.Test.YtgelclbjbjpacaaLnO
namespace Go.Proofs.Ytgelclbjbjpacaa
open Go.RowKit Go.Lib Go.Shelf

theorem one_rdI {W : World} {B : Nat} {x : Int} (h : W.heap[B]? = some (.cells #[.int .i64 x] 3)) : RdI W (.slice (some ⟨B, 0, none⟩) 1 1) [x] := by
  refine ⟨_, 1, rfl, by simp, fun _ => ⟨B, 0, rfl, (Array.getElem?_eq_some_iff.1 h).1, fun j hj => ?_⟩⟩
  have h0 : j = 0 := by simp at hj; omega
  subst h0
  exact box1 h
set_option maxRecDepth 100000 in
set_option maxHeartbeats 1000000 in
theorem lives_any (w : World) : Calls Try.prog 10 #[] w fun e w' => e = .returned (.bool true) ∧ Below w.heap.size w w' := by
  have HA1 : Hid (∀ V : World, _) := fun V => lives_a1 V
  have HA2 : Hid (∀ (V : World) (v : Value), RdL V v [lx1] → _) := fun V v h => lives_a2 V v h
  have HD : Hid (∀ (V : World) (v : Value), RdL V v [lx1, lx2] → _) := fun V v h => lives_d V v h
  have HRm : Hid (∀ (V : World) (v : Value), RdL V v [lx1, lx2] → _) := fun V v h => lives_r V v h
  have HH : Hid (∀ (V : World) (v : Value), RdL V v [lx1, lx2] → _) := fun V v h => lives_h V v h
  have HI : Hid (∀ (V : World) (v1 v2 : Value), RdI V v1 [2] → RdI V v2 [2] → _) := fun V v1 v2 h1 h2 => ints3_any v1 v2 [2] [2] V h1 h2 (by decide)
  rw [show (([2] : List Int) == [2]) = true from rfl] at HI
  unfold lstV lx0 wheelB at HA1 HA2
  unfold wheelB at HD HRm HH
  dsimp only at HA1 HA2
  go_enter Try.func10, Try.ntmps10
  go_upto_region 2 with (go_at_call 8; refine (HA1.out _).mono ?_; rintro e w1 ⟨o1, c1, rfl, hown, hb⟩; have HB1 := hid hb; have HO1 := hid (own_later hown ((Below.refl _ w1).alloc (Nat.le_refl _) (.cells #[.slice o1 1 c1, .int .i64 2] 24))); have HX1 := hid (heap_new w1 (.cells #[.slice o1 1 c1, .int .i64 2] 24)); have HBa : Hid (Below w1.heap.size w1 (w1.alloc (.cells #[.slice o1 1 c1, .int .i64 2] 24))) := (Below.refl _ w1).alloc (Nat.le_refl _) _; clear hb hown HA1)
  go_upto_region 3 with (go_at_call 8; refine (HA2.out _ _ (own_rdL (l := [lx1]) HO1.out)).mono ?_; rintro e w2 ⟨o2, c2, rfl, hown, hb⟩; have hx2 := blkLater hb HX1.out; have e0 := set_box (k := 0) (v := .slice o2 2 c2) hx2; have e1 := set_box (k := 1) (v := .int .i64 3) e0; have HO2 := hid (own_set (o := 1) (own_set (o := 0) hown hx2 (by decide) (.slice o2 2 c2)) e0 (by decide) (.int .i64 3)); have HX2 : Hid (((w2.setCell ⟨w1.heap.size, 0, none⟩ (.slice o2 2 c2)).setCell ⟨w1.heap.size, 1, none⟩ (.int .i64 3)).heap[w1.heap.size]? = some (.cells #[.slice o2 2 c2, .int .i64 3] 24)) := e1; have hb1 := HB1.out.trans (HBa.out.mono HB1.out.size); have HB2 := hid (((hb1.trans (hb.mono hb1.size)).setCell (p := ⟨w1.heap.size, 0, none⟩) HB1.out.size (.slice o2 2 c2)).setCell (p := ⟨w1.heap.size, 1, none⟩) HB1.out.size (.int .i64 3)); obtain ⟨p0, p1, pf0, pf1⟩ := box_cells hx2; clear hb hb1 hown e0 e1 hx2 HA2 HO1 HX1 HBa)
  go_upto_region 4 with (go_at_call 22; refine (HD.out _ _ (own_rdL (l := [lx1, lx2]) HO2.out)).mono ?_; rintro e w3 ⟨o3, c3, rfl, hown, hb⟩; have HO3 := hid (own_later HO2.out hb); have HX3 := hid (blkLater hb HX2.out); have HB3 := hid (HB2.out.trans (hb.mono HB2.out.size)); have HD3 := hid hown; obtain ⟨q0, q1, qf0, qf1⟩ := box_cells HX3.out; clear hb hown HD HO2 HX2)
  go_upto_region 5 with (go_at_call 16; refine (HRm.out _ _ (own_rdL (l := [lx1, lx2]) HO3.out)).mono ?_; rintro e w4 ⟨o4, m4, c4, rfl, hb⟩; have hba : Below w4.heap.size w4 (w4.alloc (.cells #[.slice o4 m4 c4, .int .i64 3] 24)) := (Below.refl _ w4).alloc (Nat.le_refl _) _; have hbb := hb.trans (hba.mono hb.size); have HO4 := hid (own_later HO3.out hbb); have HX4 := hid (blkLater hbb HX3.out); have HB4 := hid (HB3.out.trans (hbb.mono HB3.out.size)); have HD4 := hid (own_later HD3.out hbb); obtain ⟨r0, r1, rf0, rf1⟩ := box_cells HX4.out; obtain ⟨oo, cc, he, hcc, gg⟩ := own_rdL (l := [lx1, lx2]) HO4.out; obtain ⟨bb, off, rfl, hlt, ha⟩ := gg (by decide); simp only [Value.slice.injEq] at he; obtain ⟨rfl, _, rfl⟩ := he; have y0 := (ha 0 (by decide)).pas; have y1 := (ha 1 (by decide)).pas; clear hb hba hbb HO3 HX3 HD3 HRm gg ha)
  have y0' : (w4.alloc (.cells #[.slice o4 m4 c4, .int .i64 3] 24)).cell? ⟨bb, off + 6, none⟩ = some (.int .u8 1) := by rw [Nat.zero_mul, Nat.add_zero] at y0; exact y0
  have y1' : (w4.alloc (.cells #[.slice o4 m4 c4, .int .i64 3] 24)).cell? ⟨bb, off + 8 + 6, none⟩ = some (.int .u8 2) := by rw [Nat.one_mul] at y1; exact y1
  clear y0 y1
  generalize w4.alloc (.cells #[.slice o4 m4 c4, .int .i64 3] 24) = W4 at *
  have HBa4 : Hid (Below W4.heap.size W4 (W4.alloc (.cells #[.int .i64 2] 3))) := (Below.refl _ _).alloc (Nat.le_refl _) _
  go_wp2_with (first
    | (go_at_call 24; refine (HI.out _ _ _ (own_rdI (l := [2]) (own_later HD4.out HBa4.out)) (one_rdI (heap_new W4 _))).mono ?_; rintro e w5 ⟨rfl, hb⟩; have hba := HBa4.out.trans (hb.mono HBa4.out.size); have HO5 := hid (own_later HO4.out hba); have HX5 := hid (blkLater hba HX4.out); obtain ⟨s0, s1, sf0, sf1⟩ := box_cells HX5.out; have HB5 := hid (HB4.out.trans (hba.mono HB4.out.size)); clear hb hba HI)
    | (go_at_call 25; refine (HH.out _ _ (own_rdL (l := [lx1, lx2]) HO5.out)).mono ?_; rintro e w6 ⟨rfl, hb⟩; have HB6 := hid (HB5.out.trans (hb.mono HB5.out.size)); clear hb HH))
  go_ret
  exact ⟨rfl, HB6.out⟩
end Go.Proofs.Ytgelclbjbjpacaa
