/- The walk of the law NamesParts. -/
import Derived.Test.YtipkdbhdpmkjcabDoorRefRest2
import Derived.Test.YtipkdbhdpmkjcabDoorBegins
import Derived.Test.YtipkdbhdpmkjcabDoorSteps
import Derived.Test.YtipkdbhdpmkjcabDoorExtrK
import Derived.Deep.RegionWith
namespace Go.Proofs.YtipkdbhdpmkjcabDoor
open Go.RowKit Go.Lib

set_option maxRecDepth 100000 in
set_option maxHeartbeats 8000000 in
theorem partsLaw (s a p l : ByteArray) (w : World) (hs : s.size ≤ 17592186044416) (_ha : a.size ≤ 140737488351232) (hp : p.size ≤ 140737488351232) (hl : l.size ≤ 140737488351232) (h : Laid w) :
    Calls Tryd.prog 5 #[.string s, nameV a p l] w fun e w' => e = .returned (.bool true) ∧ Below w.heap.size w w' := by
  have hS := fun W (hW : Laid W) => split_any s W (by omega) hW
  have hRS := fun W => rsplit_any s W hs
  have hQ := fun W => qualified_any a p l W (by omega) (by omega)
  have hRQ := fun W => rqualified_any a p l W (by omega) (by omega)
  have hV := fun W (hW : Laid W) => validate_any s W (by omega) hW
  have hRV := fun W => rvalidate_any s W
  generalize splitS s = N at hS hRS
  generalize qualS p l = qs at hQ hRQ
  generalize validateE s = ve at hV hRV
  obtain ⟨n1, n2⟩ := N
  have HB : Hid (∀ W, Laid W → _) := fun W (hW : Laid W) => begins_any W hW
  have HS : Hid (∀ W, Laid W → _) := hS
  have HRS : Hid (∀ W : World, _) := hRS
  have HQ : Hid (∀ W : World, _) := hQ
  have HRQ : Hid (∀ W : World, _) := hRQ
  have HV : Hid (∀ W, Laid W → _) := hV
  have HRV : Hid (∀ W : World, _) := hRV
  clear hS hRS hQ hRQ hV hRV
  have L := (St.start h).later ((Below.refl _ w).alloc (Nat.le_refl _) (.cells #[.string a, .string p, .string l] 26))
  go_enter Tryd.func5, Tryd.ntmps5
  go_wp2_with fail
  refine (HS.out _ L.laid).mono ?_
  rintro e w1 ⟨rfl, hb1⟩
  obtain ⟨hlt1, _, c0, c1, c2, _, _, _⟩ := kept3 (by simpa using hb1)
  have kn : Kn w.heap.size a p l w1 := ⟨c0, c1, c2, hlt1⟩
  replace L := L.later hb1
  clear hb1 hlt1 c0 c1 c2
  go_wp2_with fail
  refine (HRS.out _).mono ?_
  rintro e w2 ⟨rfl, hb2⟩
  replace kn := kn.later hb2
  replace L := L.later hb2
  clear hb2
  have g1 : (n1.toList == n1.toList) = true := by simp
  have g2 : (n2.toList == n2.toList) = true := by simp
  have g3 : (qs.toList == qs.toList) = true := by simp
  have g4 : (ve == ve) = true := by simp
  have Ld := L.later ((Below.refl _ _).drew)
  have knd := kn.later ((Below.refl _ _).drew)
  have knd0 := knd
  obtain ⟨y0, y1, y2, y3⟩ := knd
  go_upto_region 2 with fail
  go_region_with (first
    | (go_at_call 25; refine (HQ.out _).mono ?_; rintro e v1 ⟨rfl, hb⟩; have L4 := Ld.later hb; have kn1 := knd0.later hb; clear hb; obtain ⟨z0, z1, z2, z3⟩ := kn1)
    | (go_at_call 26; refine (HRQ.out _).mono ?_; rintro e v2 ⟨rfl, hb⟩; have L5 := L4.later hb; clear hb)
    | (go_at_call 27; refine (HV.out _ L5.laid).mono ?_; rintro e v3 ⟨rfl, hb⟩; have L6 := L5.later hb; clear hb)
    | (go_at_call 28; refine (HRV.out _).mono ?_; rintro e v4 ⟨rfl, hb⟩; have L7 := L6.later hb; clear hb)
    | (go_at_call 12; refine (HB.out _ L7.laid).mono ?_; rintro e v5 ⟨rfl, hb⟩; have L8 := L7.later hb; clear hb))
  all_goals
    go_wp2
    go_ret
    exact ⟨rfl, L8.bel⟩
end Go.Proofs.YtipkdbhdpmkjcabDoor
