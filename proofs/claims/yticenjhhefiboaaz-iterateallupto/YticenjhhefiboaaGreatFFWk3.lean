/- The reference of walk: what a filter says of a node (Verdict). -/
import Derived.Test.YticenjhhefiboaaGreatFFWkPFWkI
import Derived.Test.YticenjhhefiboaaGreatFRefN
namespace Go.Proofs.YticenjhhefiboaaGreat
open Go.RowKit Go.Lib

end Go.Proofs.YticenjhhefiboaaGreat

