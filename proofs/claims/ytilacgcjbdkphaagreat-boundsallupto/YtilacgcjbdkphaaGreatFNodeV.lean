/- A node as a value; what is right of a node, put together. -/
import Derived.Test.YtilacgcjbdkphaaGreatFForest
namespace Go.Proofs.YtilacgcjbdkphaaGreat
open Go.RowKit Go.Lib

def nodeV (n : NodeD) (L : Lists) : Value := .agg #[.int .u8 (n.kind : Int), .string n.space, .string n.pre, .string n.loc, .string n.pub, .string n.sys, L.data, L.attrs, .int .i64 n.parent, L.kids, .int .i64 n.doc, .int .i64 n.host, .int .i64 n.shadow, .int .u8 (n.mode : Int), .bool n.manual, .bool n.html]
def rightB (W E M H D S K : Bool) : Bool := W && !E && !M && H && D && S && K
end Go.Proofs.YtilacgcjbdkphaaGreat
