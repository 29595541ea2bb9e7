/- What compareDocumentPosition answers (positionOf, Compare). -/
import Derived.Test.YthkjkcojbepfmaaFStand
import Derived.Test.YthkjkcojbepfmaaFCheck
namespace Go.Proofs.Ythkjkcojbepfmaa
open Go.RowKit Go.Lib Go.Shelf

/-- The error of a call of order, by its forest and its handles. -/
def toldE (ns : List NodeD) (hs : List Int) : Int := if rightD ns then (if hs.all (thereB ns.length) then 0 else 2) else 5
theorem toldE_ok {ns : List NodeD} {hs : List Int} (h1 : rightD ns = true) (h2 : hs.all (thereB ns.length) = true) : toldE ns hs = 0 := by unfold toldE; rw [h1, h2]; rfl

end Go.Proofs.Ythkjkcojbepfmaa
