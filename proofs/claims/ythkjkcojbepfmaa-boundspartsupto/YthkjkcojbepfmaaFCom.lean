/- The walk of Common. -/
import Derived.Test.YthkjkcojbepfmaaFCmp
namespace Go.Proofs.Ythkjkcojbepfmaa
open Go.RowKit Go.Lib Go.Shelf

/-- The deepest one that contains both. -/
def commonD (ns : List NodeD) (a b : Int) : Int := if forkN (pathD ns a) (pathD ns b) == 0 then 0 else (pathD ns a).getD (forkN (pathD ns a) (pathD ns b) - 1) 0

end Go.Proofs.Ythkjkcojbepfmaa
