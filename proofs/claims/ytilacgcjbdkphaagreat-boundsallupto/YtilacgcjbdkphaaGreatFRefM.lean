/- The reference of forest: kindOf, Above, count, ring. -/
import Derived.Test.YtilacgcjbdkphaaGreatFRefN
namespace Go.Proofs.YtilacgcjbdkphaaGreat
open Go.RowKit Go.Lib

/-- A node's value, in its cells. -/
theorem node_box {W : World} (n : NodeD) (L : Lists) : NodeCells (W.alloc (.cells #[.int .u8 (n.kind : Int), .string n.space, .string n.pre, .string n.loc, .string n.pub, .string n.sys, L.data, L.attrs, .int .i64 n.parent, L.kids, .int .i64 n.doc, .int .i64 n.host, .int .i64 n.shadow, .int .u8 (n.mode : Int), .bool n.manual, .bool n.html] 64)) W.heap.size 0 n L := by
  have h := heap_new W (.cells #[.int .u8 (n.kind : Int), .string n.space, .string n.pre, .string n.loc, .string n.pub, .string n.sys, L.data, L.attrs, .int .i64 n.parent, L.kids, .int .i64 n.doc, .int .i64 n.host, .int .i64 n.shadow, .int .u8 (n.mode : Int), .bool n.manual, .bool n.html] 64)
  constructor <;> (rw [cell_of_heap h]; rfl)
theorem lists_slices {W : World} {n : NodeD} {L : Lists} (h1 : RdN W L.data n.data) (h2 : RdA W L.attrs n.attrs) (h3 : RdI W L.kids n.kids) : ∃ od cd oa ca ok ck, L = ⟨.slice od n.data.length cd, .slice oa n.attrs.length ca, .slice ok n.kids.length ck⟩ := by
  obtain ⟨D, A, K⟩ := L
  obtain ⟨od, cd, e1, _⟩ := h1
  obtain ⟨oa, ca, e2, _⟩ := h2
  obtain ⟨ok, ck, e3, _⟩ := h3
  simp only at e1 e2 e3
  subst e1 e2 e3
  exact ⟨_, _, _, _, _, _, rfl⟩

set_option maxRecDepth 100000 in
set_option maxHeartbeats 2000000 in
theorem refKind_any (o : Option Addr) (cap : Nat) (x : Int) (ns : List NodeD) (w : World) (hF : FRd w o cap ns) :
    Calls Tryz.prog 127 #[.agg #[.slice o ns.length cap], .int .i64 x] w fun e w' => e = .returned (.int .u8 (kindAt ns x : Int)) ∧ Below w.heap.size w w' := by
  have hk : kindAt ns x = (nodeOrNone ns x).kind := by
    unfold kindAt nodeOrNone
    cases nodeOf ns x <;> rfl
  rw [hk]
  have HN : Hid (∀ W : World, Below w.heap.size w W → _) := fun W hW => refNode_any o cap x ns W (hF.later hW)
  clear hF hk
  generalize nodeOrNone ns x = n at *
  go_enter Tryz.func127, Tryz.ntmps127
  go_wp2_with fail
  refine (HN.out _ ((Below.refl _ w).alloc (Nat.le_refl _) _)).mono ?_
  rintro e v1 ⟨L, rfl, h1, h2, h3, hb1⟩
  obtain ⟨od, cd, oa, ca, ok, ck, rfl⟩ := lists_slices h1 h2 h3
  have HB := hid (box_go hb1)
  clear h1 h2 h3 hb1 HN
  unfold nodeV
  go_wp2
  go_ret
  exact ⟨rfl, HB.out.trans ((Below.refl _ v1).alloc HB.out.size _)⟩

set_option maxRecDepth 100000 in
set_option maxHeartbeats 2000000 in
theorem refAbove_any (n : NodeD) (od oa ok : Option Addr) (ld la lk cd ca ck : Nat) (w : World) :
    Calls Tryz.prog 129 #[nodeV n ⟨.slice od ld cd, .slice oa la ca, .slice ok lk ck⟩] w fun e w' => e = .returned (.int .i64 (aboveD n)) ∧ Below w.heap.size w w' := by
  have hec : ((n.kind : Int) == 12) = (n.kind == 12) := beq_cast n.kind 12
  unfold aboveD nodeV
  generalize (n.kind == 12) = K at *
  cases K with
  | true =>
    rw [if_pos rfl]
    go_enter Tryz.func129, Tryz.ntmps129
    go_wp2
    go_ret
    exact ⟨rfl, (Below.refl _ w).alloc (Nat.le_refl _) _⟩
  | false =>
    rw [if_neg Bool.false_ne_true]
    go_enter Tryz.func129, Tryz.ntmps129
    go_wp2
    go_ret
    exact ⟨rfl, (Below.refl _ w).alloc (Nat.le_refl _) _⟩

/-- How often a number stands in a list. -/
def countI (l : List Int) (x : Int) : Nat := l.foldl (fun n y => if y == x then n + 1 else n) 0
def countTo (l : List Int) (x : Int) (k : Nat) : Nat := countI (l.take k) x
theorem countTo_succ (l : List Int) (x : Int) (k : Nat) (h : k < l.length) : countTo l x (k + 1) = if l[k] == x then countTo l x k + 1 else countTo l x k := by
  unfold countTo countI
  rw [List.take_add_one, List.getElem?_eq_getElem h, List.foldl_append]
  rfl
theorem countTo_le (l : List Int) (x : Int) : ∀ k, k ≤ l.length → countTo l x k ≤ k
  | 0, _ => Nat.le_refl _
  | k + 1, h => by
    have := countTo_le l x k (by omega)
    rw [countTo_succ l x k (by omega)]
    split <;> omega

set_option maxRecDepth 100000 in
set_option maxHeartbeats 2000000 in
theorem refCount_any (v : Value) (l : List Int) (x : Int) (w : World) (hv : RdI w v l) (hl : l.length ≤ 1099511627776) :
    Calls Tryz.prog 126 #[v, .int .i64 x] w fun e w' => e = .returned (.int .i64 (countI l x : Int)) ∧ w' = w := by
  obtain ⟨o, c, rfl, hc, g⟩ := hv
  have hN : countI l x = countTo l x l.length := by unfold countTo; rw [List.take_length]
  rw [hN]
  clear hN
  go_enter Tryz.func126, Tryz.ntmps126
  go_wp2
  go_loopw [5, 10] (fun t i wr => ∃ k : Nat, k ≤ l.length ∧ t = .int .i64 (countTo l x k : Int) ∧ i = .int .i64 k ∧ wr = w) (fun _ i _ => l.length - (RowKit.intOf i).toNat)
  case atStart => exact ⟨0, Nat.zero_le _, rfl, rfl, rfl⟩
  case round =>
    obtain ⟨k, k1, rfl, rfl, rfl⟩ := hrel
    by_cases hlt : k < l.length
    · obtain ⟨b, off, rfl, hlt1, ha⟩ := g (by omega)
      have x1 := ha k hlt
      have q1 : (0 : Int) ≤ (k : Int) := by omega
      have q2 : (k : Int) < (l.length : Int) := by omega
      have hle := countTo_le l x k k1
      have Hs := hid (countTo_succ l x k hlt)
      clear ha g
      generalize hcc : countTo l x k = cc at *
      clear hcc
      generalize l[k] = a at *
      cases he : (a == x) with
      | true =>
        go_wp2
        go_roundw
        case rel => exact ⟨k + 1, by omega, by rw [Hs.out, he]; go_num, by go_num, trivial⟩
        case measure => simp [RowKit.intOf]; omega
      | false =>
        go_wp2
        go_roundw
        case rel => exact ⟨k + 1, by omega, by rw [Hs.out, he]; rfl, by go_num, trivial⟩
        case measure => simp [RowKit.intOf]; omega
    · have hk : k = l.length := by omega
      subst hk
      clear g
      go_wp2
      go_ret
      exact ⟨rfl, rfl⟩
end Go.Proofs.YtilacgcjbdkphaaGreat
