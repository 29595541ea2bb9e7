/- The reference of forest: Node, kindOf, Above, count. -/
import Derived.Test.YtilacgcjbdkphaaGreatFSurW
import Derived.Test.YtilacgcjbdkphaaGreatFNodeV
import Derived.Test.YtilacgcjbdkphaaGreatFAttrs
import Derived.Test.YtilacgcjbdkphaaGreatFBareL
import Derived.Test.YtilacgcjbdkphaaGreatFShadow
import Derived.Test.YtilacgcjbdkphaaGreatFKids
namespace Go.Proofs.YtilacgcjbdkphaaGreat
open Go.RowKit Go.Lib

def noBytesF : ByteArray := ⟨#[]⟩
/-- No node, and what is handed back where there is none. -/
def noNode : NodeD := ⟨0, noBytesF, noBytesF, noBytesF, noBytesF, noBytesF, [], [], 0, [], 0, 0, 0, 0, false, false⟩
def nodeOrNone (ns : List NodeD) (x : Int) : NodeD := (nodeOf ns x).getD noNode

theorem nil_rdN (w : World) : RdN w (.slice none 0 0) [] := ⟨none, 0, rfl, Nat.le_refl _, fun h => absurd h (Nat.lt_irrefl _)⟩
theorem nil_rdI (w : World) : RdI w (.slice none 0 0) [] := ⟨none, 0, rfl, Nat.le_refl _, fun h => absurd h (Nat.lt_irrefl _)⟩
theorem nil_rdA (w : World) : RdA w (.slice none 0 0) [] := ⟨none, 0, rfl, Nat.le_refl _, fun h => absurd h (Nat.lt_irrefl _)⟩

set_option maxRecDepth 100000 in
set_option maxHeartbeats 4000000 in
theorem refNode_any (o : Option Addr) (cap : Nat) (x : Int) (ns : List NodeD) (w : World) (hF : FRd w o cap ns) :
    Calls Tryz.prog 39 #[.agg #[.slice o ns.length cap], .int .i64 x] w fun e w' => ∃ L : Lists, e = .returned (.tuple #[nodeV (nodeOrNone ns x) L, .bool (thereB ns.length x)]) ∧ RdN w' L.data (nodeOrNone ns x).data ∧ RdA w' L.attrs (nodeOrNone ns x).attrs ∧ RdI w' L.kids (nodeOrNone ns x).kids ∧ Below w.heap.size w w' := by
  have hle := hF.len
  cases ht : thereB ns.length x with
  | false =>
    have hn : nodeOrNone ns x = noNode := by unfold nodeOrNone nodeOf; rw [ht]; rfl
    rw [hn]
    clear hn hF
    by_cases g1 : x < 1
    · have d1 : decide (x < 1) = true := decide_eq_true g1
      clear ht
      go_enter Tryz.func39, Tryz.ntmps39
      go_wp2
      exact bodyPost_ret (v := .tuple #[nodeV noNode ⟨.slice none 0 0, .slice none 0 0, .slice none 0 0⟩, .bool false]) (by simp [results, Tryz.results39, go_sem, nodeV, noNode, noBytesF]) rfl ⟨⟨.slice none 0 0, .slice none 0 0, .slice none 0 0⟩, rfl, nil_rdN _, nil_rdA _, nil_rdI _, ((Below.refl _ w).alloc (Nat.le_refl _) _).alloc (by simp) _⟩
    · have d1 : decide (x < 1) = false := decide_eq_false g1
      have d2 : decide ((ns.length : Int) < x) = true := decide_eq_true (by
        unfold thereB at ht
        rw [decide_eq_true (by omega), Bool.true_and] at ht
        have := of_decide_eq_false ht
        omega)
      clear ht
      go_enter Tryz.func39, Tryz.ntmps39
      go_wp2
      exact bodyPost_ret (v := .tuple #[nodeV noNode ⟨.slice none 0 0, .slice none 0 0, .slice none 0 0⟩, .bool false]) (by simp [results, Tryz.results39, go_sem, nodeV, noNode, noBytesF]) rfl ⟨⟨.slice none 0 0, .slice none 0 0, .slice none 0 0⟩, rfl, nil_rdN _, nil_rdA _, nil_rdI _, ((Below.refl _ w).alloc (Nat.le_refl _) _).alloc (by simp) _⟩
  | true =>
    obtain ⟨j, hj, rfl⟩ := there_idx ht
    have hn : nodeOrNone ns ((j : Int) + 1) = ns[j] := by unfold nodeOrNone; rw [nodeOf_at ns j hj]; rfl
    rw [hn]
    obtain ⟨b, off, rfl, hFA⟩ := hF.at_ (by omega)
    obtain ⟨L, hc, hd, ha, hk⟩ := hFA.at_ j hj
    have hB : Below w.heap.size w ((w.alloc (.cells #[.slice (some ⟨b, off, none⟩) ns.length cap] 24)).alloc (.cells #[.int .u8 0, .string ⟨#[]⟩, .string ⟨#[]⟩, .string ⟨#[]⟩, .string ⟨#[]⟩, .string ⟨#[]⟩, .slice none 0 0, .slice none 0 0, .int .i64 0, .slice none 0 0, .int .i64 0, .int .i64 0, .int .i64 0, .int .u8 0, .bool false, .bool false] 64)) := ((Below.refl _ w).alloc (Nat.le_refl _) _).alloc (by simp) _
    obtain ⟨c0, c1, c2, c3, c4, c5, c6, c7, c8, c9, c10, c11, c12, c13, c14, c15⟩ := hc.later hFA.lt hB
    have Hd := hid hd
    have Ha := hid ha
    have Hk := hid hk
    obtain ⟨D, A, K⟩ := L
    obtain ⟨od, cd, e1, _⟩ := hd
    obtain ⟨oa, ca, e2, _⟩ := ha
    obtain ⟨ok, ck, e3, _⟩ := hk
    simp only at e1 e2 e3
    subst e1 e2 e3
    have d1 : decide (((j : Int) + 1) < 1) = false := decide_eq_false (by omega)
    have d2 : decide ((ns.length : Int) < (j : Int) + 1) = false := decide_eq_false (by omega)
    have q1 : (0 : Int) ≤ (j : Int) := by omega
    have q2 : (j : Int) < (ns.length : Int) := by omega
    clear hn ht hF hFA hc hB
    generalize ns[j] = n at *
    go_enter Tryz.func39, Tryz.ntmps39
    go_wp2
    have hB2 : ∀ o2 : Obj, Below w.heap.size w ((w.alloc (.cells #[.slice (some ⟨b, off, none⟩) ns.length cap] 24)).alloc o2) := fun o2 => ((Below.refl _ w).alloc (Nat.le_refl _) _).alloc (by simp) _
    exact bodyPost_ret (v := .tuple #[nodeV n ⟨.slice od n.data.length cd, .slice oa n.attrs.length ca, .slice ok n.kids.length ck⟩, .bool true]) (by simp [results, Tryz.results39, go_sem, nodeV]) rfl ⟨⟨.slice od n.data.length cd, .slice oa n.attrs.length ca, .slice ok n.kids.length ck⟩, rfl, Hd.out.later (hB2 _), Ha.out.later (hB2 _), Hk.out.later (hB2 _), hB2 _⟩
end Go.Proofs.YtilacgcjbdkphaaGreat
