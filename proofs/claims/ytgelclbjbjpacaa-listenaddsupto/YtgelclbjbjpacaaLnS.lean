/- The reference of listen: Same, where both are the same. -/
import Derived.Test.YtgelclbjbjpacaaLnH
import Derived.Deep.DeepCutAuto
import Derived.Deep.CutRange
namespace Go.Proofs.Ytgelclbjbjpacaa
open Go.RowKit Go.Lib Go.Shelf

/-- Listeners in a box of their own, and the row that they name. -/
structure RowB (B : Nat) (v : Value) (l : List LstD) (next : Int) (V : World) : Prop where
  box : V.heap[B]? = some (.cells #[v, .int .i64 next] 24)
  rd : RdL V v l
theorem RowB.later {B : Nat} {v : Value} {l : List LstD} {next : Int} {V W : World} (h : RowB B v l next V) (hb : Below V.heap.size V W) : RowB B v l next W := ⟨blkLater hb h.box, h.rd.later hb⟩

set_option maxRecDepth 100000 in
set_option maxHeartbeats 4000000 in
theorem same_eq (v1 v2 : Value) (l : List LstD) (n : Int) (w : World) (h1 : RdL w v1 l) (h2 : RdL w v2 l) (hl : l.length ≤ 1099511627776) :
    Calls Try.prog 11 #[.agg #[v1, .int .i64 n], .agg #[v2, .int .i64 n]] w fun e w' => e = .returned (.bool true) ∧ Below w.heap.size w w' := by
  have h2n := two_new w (.cells #[v1, .int .i64 n] 24) (.cells #[v2, .int .i64 n] 24)
  have r1 := h1.later h2n.1
  have r2 := h2.later h2n.1
  obtain ⟨a0, a1, a2, a3⟩ := box_cells h2n.2.1
  obtain ⟨b0, b1, b2, b3⟩ := box_cells h2n.2.2.1
  have HB := hid h2n.1
  obtain ⟨o1, c1, rfl, hc1, g1⟩ := r1
  obtain ⟨o2, c2, rfl, hc2, g2⟩ := r2
  have G1 := hid g1
  have G2 := hid g2
  clear h1 h2 h2n g1 g2
  go_enter Try.func11, Try.ntmps11
  go_upto_region 1 with fail
  generalize (w.alloc (.cells #[.slice o1 l.length c1, .int .i64 n] 24)).alloc (.cells #[.slice o2 l.length c2, .int .i64 n] 24) = W0 at *
  go_wp2
  go_loopw [38] (fun t wr => ∃ k m : Nat, k ≤ l.length ∧ t = .int .i64 k ∧ wr = W0.drewN m) (fun t _ => l.length - (RowKit.intOf t).toNat)
  case atStart => exact ⟨0, 0, Nat.zero_le _, rfl, rfl⟩
  case round =>
    obtain ⟨k, m, k1, rfl, rfl⟩ := hrel
    by_cases hlt : k < l.length
    · obtain ⟨b1', off1, rfl, hlt1, ha1⟩ := G1.out (by omega)
      obtain ⟨b2', off2, rfl, hlt2, ha2⟩ := G2.out (by omega)
      obtain ⟨x0, x1, x2, x3, x4, x5, x6, x7⟩ := ha1 k hlt
      obtain ⟨y0, y1, y2, y3, y4, y5, y6, y7⟩ := ha2 k hlt
      have q1 : (0 : Int) ≤ (k : Int) := by omega
      have q2 : (k : Int) < (l.length : Int) := by omega
      clear ha1 ha2 G1 G2
      generalize l[k] = a at *
      go_upto_region 6 with fail
      go_quiet (fail)
      go_wp2
      go_roundw
      case rel => exact ⟨k + 1, m + nq, by omega, by go_num, by simp⟩
      case measure => simp [RowKit.intOf]; omega
    · clear G1 G2
      go_wp2
      go_ret
      exact ⟨rfl, HB.out.trans ⟨rfl, rfl, rfl, Nat.le_refl _, fun _ _ => rfl⟩⟩
end Go.Proofs.Ytgelclbjbjpacaa
