/- From what the rows list of the variables to the decoder's tables. -/
import Derived.Test.YtbefinbihopgfaaDoorUWLow
import Derived.Test.YtbefinbihopgfaaDoorRows
import Derived.Lib.LaidU8T
import GoSem.PinnedTables
import Derived.OpenShut
import Derived.Deep.Strs
import Derived.ProofKit
namespace Go.Proofs.YtbefinbihopgfaaDoor
open Go.RowKit Go.Lib Go.Deep Go.Shelf

theorem xU8 : U8Extra Tryd.prog Tryd.laysValid_ren := ⟨by kernel_rfl, by kernel_rfl, by kernel_rfl, by kernel_rfl, by kernel_rfl, by kernel_rfl, by kernel_rfl⟩
theorem first_eq : Go.Pinned.utf8First = Lib.firstData := by kernel_rfl
theorem accept_eq : (Rows.laid_unicode_utf8_acceptRanges : DataW Unit) = Lib.acceptData := by kernel_rfl
def laidTabs : List (String × DataW Unit) := [("unicode/utf8.acceptRanges", Rows.laid_unicode_utf8_acceptRanges), ("unicode/utf8.first", Rows.laid_unicode_utf8_first)]
theorem tabs_of_met {w : World} (h : laidMet Tryd.prog laidTabs w) : Tabs w :=
  utf8Tabs_of_readsT (U8Types.of196 Tryd.laysValid) xU8 (show VarReads Tryd.prog w "unicode/utf8.first" Lib.firstData from first_eq ▸ Lib.laidMet.reads h (.tail _ (.head _))) (accept_eq ▸ Lib.laidMet.reads h (.head _))
end Go.Proofs.YtbefinbihopgfaaDoor
