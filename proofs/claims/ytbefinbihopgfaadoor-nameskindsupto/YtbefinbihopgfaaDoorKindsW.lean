/- The walk of the law NamesKinds. -/
import Derived.Test.YtbefinbihopgfaaDoorRefHosts
import Derived.Test.YtbefinbihopgfaaDoorRefRest
import Derived.Test.YtbefinbihopgfaaDoorBegins
import Derived.Test.YtbefinbihopgfaaDoorSteps
namespace Go.Proofs.YtbefinbihopgfaaDoor
open Go.RowKit Go.Lib

set_option maxRecDepth 100000 in
set_option maxHeartbeats 4000000 in
theorem kindsLaw (s : ByteArray) (w : World) (hs : s.size ≤ 1048576) (h : Laid w) :
    Calls Tryd.prog 5 #[.string s] w fun e w' => e = .returned (.bool true) ∧ Below w.heap.size w w' := by
  have H1 : Hid (∀ W, Laid W → _) := fun W (hW : Laid W) => name_any s W (by omega) hW
  have H2 : Hid (∀ W : World, _) := fun W => rname_any s W (by omega)
  have H3 : Hid (∀ W, Laid W → _) := fun W (hW : Laid W) => nc_any s W (by omega) hW
  have H4 : Hid (∀ W : World, _) := fun W => rnc_any s W (by omega)
  have H5 : Hid (∀ W, Laid W → _) := fun W (hW : Laid W) => qname_any s W (by omega) hW
  have H6 : Hid (∀ W : World, _) := fun W => rqname_any s W (by omega)
  have H7 : Hid (∀ W, Laid W → _) := fun W (hW : Laid W) => custom_any s W (by omega) hW
  have H8 : Hid (∀ W : World, _) := fun W => rcustom_any s W (by omega)
  have H9 : Hid (∀ W, Laid W → _) := fun W (hW : Laid W) => hosts_any s W (by omega) hW
  have H10 : Hid (∀ W : World, _) := fun W => rhosts_any s W (by omega)
  have HB : Hid (∀ W, Laid W → _) := fun W (hW : Laid W) => begins_any W hW
  generalize nameB s.data.toList = b1 at *
  generalize ncB s.data.toList = b2 at *
  generalize qnameB s.data.toList = b3 at *
  generalize customB s.data.toList = b4 at *
  generalize hostsB s.data.toList = b5 at *
  have g1 : (b1 == b1) = true := by simp
  have g2 : (b2 == b2) = true := by simp
  have g3 : (b3 == b3) = true := by simp
  have g4 : (b4 == b4) = true := by simp
  have g5 : (b5 == b5) = true := by simp
  have L := St.start h
  go_enter Tryd.func5, Tryd.ntmps5
  go_wp2_with fail
  refine (H1.out _ L.laid).mono ?_
  rintro e w1 ⟨rfl, hb⟩
  replace L := L.later hb
  clear hb
  go_wp2_with fail
  refine (H2.out _).mono ?_
  rintro e w2 ⟨rfl, hb⟩
  replace L := L.later hb
  clear hb
  go_wp2_with fail
  refine (H3.out _ L.laid).mono ?_
  rintro e w3 ⟨rfl, hb⟩
  replace L := L.later hb
  clear hb
  go_wp2_with fail
  refine (H4.out _).mono ?_
  rintro e w4 ⟨rfl, hb⟩
  replace L := L.later hb
  clear hb
  go_wp2_with fail
  refine (H5.out _ L.laid).mono ?_
  rintro e w5 ⟨rfl, hb⟩
  replace L := L.later hb
  clear hb
  go_wp2_with fail
  refine (H6.out _).mono ?_
  rintro e w6 ⟨rfl, hb⟩
  replace L := L.later hb
  clear hb
  go_wp2_with fail
  refine (H7.out _ L.laid).mono ?_
  rintro e w7 ⟨rfl, hb⟩
  replace L := L.later hb
  clear hb
  go_wp2_with fail
  refine (H8.out _).mono ?_
  rintro e w8 ⟨rfl, hb⟩
  replace L := L.later hb
  clear hb
  go_wp2_with fail
  refine (H9.out _ L.laid).mono ?_
  rintro e w9 ⟨rfl, hb⟩
  replace L := L.later hb
  clear hb
  go_wp2_with fail
  refine (H10.out _).mono ?_
  rintro e w10 ⟨rfl, hb⟩
  replace L := L.later hb
  clear hb
  go_wp2_with fail
  refine (HB.out _ L.laid).mono ?_
  rintro e w11 ⟨rfl, hb⟩
  replace L := L.later hb
  clear hb
  go_wp2
  go_ret
  exact ⟨rfl, L.bel⟩
end Go.Proofs.YtbefinbihopgfaaDoor
