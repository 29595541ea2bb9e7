/- The walk of units.Fold. -/
import Derived.Test.YtbefinbihopgfaaDoorULow
namespace Go.Proofs.YtbefinbihopgfaaDoor
open Go.RowKit Go.Lib

/-- Texts that are one but for the case of ASCII letters. -/
def foldB (s t : ByteArray) : Bool := lowD s.data.toList == lowD t.data.toList

theorem toList_mk (l : List UInt8) : (⟨l.toArray⟩ : ByteArray).toList = l := by
  rw [Lib.toList_data]

set_option maxHeartbeats 1000000 in
theorem fold_any (s t : ByteArray) (w : World) (hs : s.size ≤ 9223372036854775807) (ht : t.size ≤ 9223372036854775807) :
    Calls Tryd.prog 14 #[.string s, .string t] w fun e w' => e = .returned (.bool (foldB s t)) ∧ Below w.heap.size w w' := by
  have h1 := lower_any s w hs
  have h2 := fun W => lower_any t W ht
  go_enter Tryd.func14, Tryd.ntmps14
  go_wp2_with fail
  refine h1.mono ?_
  rintro e w1 ⟨rfl, b1⟩
  go_wp2_with fail
  refine (h2 _).mono ?_
  rintro e w2 ⟨rfl, b2⟩
  go_wp2
  go_ret
  refine ⟨?_, b1.trans (b2.mono b1.size)⟩
  simp [foldB]
end Go.Proofs.YtbefinbihopgfaaDoor
