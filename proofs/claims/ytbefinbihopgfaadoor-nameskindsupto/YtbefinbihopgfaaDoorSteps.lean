/- Small steps for walks over many calls that keep what lay. -/
import Derived.Test.YtbefinbihopgfaaDoorBegins
namespace Go.Proofs.YtbefinbihopgfaaDoor
open Go.RowKit Go.Lib

/-- A world behind w: the variables hold what they held, all that lay lies. -/
structure St (w W : World) : Prop where
  laid : Laid W
  bel : Below w.heap.size w W
theorem St.start {w : World} (h : Laid w) : St w w := ⟨h, Below.refl _ _⟩
theorem St.later {w W W' : World} (s : St w W) (hb : Below W.heap.size W W') : St w W' := ⟨s.laid.later hb, s.bel.trans (hb.mono s.bel.size)⟩
end Go.Proofs.YtbefinbihopgfaaDoor
