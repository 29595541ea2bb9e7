/- loop: the law's own 'call', kind by kind. -/
import Derived.Test.YtaliecmdkloceaaLpS
import Derived.Test.YtaliecmdkloceaaLpT
namespace Go.Proofs.Ytaliecmdkloceaa
open Go.RowKit Go.Lib Go.Shelf

end Go.Proofs.Ytaliecmdkloceaa
