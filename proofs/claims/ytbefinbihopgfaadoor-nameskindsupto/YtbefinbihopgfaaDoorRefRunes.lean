/- The walks of the document's own Start and Part. -/
import Derived.Test.YtbefinbihopgfaaDoorPlain
import Derived.Test.YtbefinbihopgfaaDoorProg
import Derived.WalkKit
import Derived.WalkSpells
import Derived.WalkLawsBesides
namespace Go.Proofs.YtbefinbihopgfaaDoor
open Go.RowKit

def wideB (r : Int) : Bool := decide (880 ≤ r ∧ r ≤ 893 ∨ 895 ≤ r ∧ r ≤ 8191 ∨ 8204 ≤ r ∧ r ≤ 8205 ∨ 8304 ≤ r ∧ r ≤ 8591 ∨ 11264 ≤ r ∧ r ≤ 12271 ∨ 12289 ≤ r ∧ r ≤ 55295 ∨ 63744 ≤ r ∧ r ≤ 64975 ∨ 65008 ≤ r ∧ r ≤ 65533 ∨ 65536 ≤ r ∧ r ≤ 983039)
theorem ret_bool {a b : Bool} (h : a = b) : Ending.returned (.bool a) = .returned (.bool b) := by rw [h]

end Go.Proofs.YtbefinbihopgfaaDoor
