/- The last one that an iterator gives (lastOf, rootOf, topOf). -/
import Derived.Test.YthkjkcojbepfmaaFHas
import Derived.Test.YthkjkcojbepfmaaFRange
namespace Go.Proofs.Ythkjkcojbepfmaa
open Go.RowKit Go.Lib Go.Shelf
attribute [local go_sem] Oper.semAt_some

/-- The last one; 0: there is none. -/
def lastI (l : List Int) : Int := l.getLastD 0
theorem last_snoc (pre : List Int) (z : Int) : lastI (pre ++ [z]) = z := by simp [lastI, List.getLastD_eq_getLast?]

end Go.Proofs.Ythkjkcojbepfmaa
