/- wellMade, of a node as it lies: its answer is wellMadeD of FPlain. -/
import Derived.Test.YthkjkcojbepfmaaFMade
import Derived.Test.YthkjkcojbepfmaaFNodeV
namespace Go.Proofs.Ythkjkcojbepfmaa
open Go.RowKit Go.Lib

theorem wellMade_node (n : NodeD) (L : Lists) (w : World) (h1 : RdN w L.data n.data) (h2 : RdA w L.attrs n.attrs) (h3 : RdI w L.kids n.kids) (hl : n.attrs.length ≤ 1099511627776) :
    Calls Try.prog 65 #[nodeV n L] w fun e w' => e = .returned (.bool (wellMadeD n)) ∧ Below w.heap.size w w' := by
  obtain ⟨D, A, K⟩ := L
  obtain ⟨od, cd, e1, _⟩ := h1
  obtain ⟨ok, ck, e3, _⟩ := h3
  have h2' := h2
  obtain ⟨oa, ca, e2, _⟩ := h2'
  simp only at e1 e2 e3 h2
  subst e1 e2 e3
  exact wellMade_any n.kind n.space n.pre n.loc n.pub n.sys od oa ok n.data.length n.attrs.length n.kids.length cd ca ck n.parent n.doc n.host n.shadow n.mode n.manual n.html n.attrs w h2 hl
end Go.Proofs.Ythkjkcojbepfmaa
