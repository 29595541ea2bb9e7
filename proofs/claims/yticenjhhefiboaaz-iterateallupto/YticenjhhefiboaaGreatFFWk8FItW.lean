/- The reference of walk: why a filter is none, what is asked of a node (Wrong, canopyref05.Wrong, Accept). -/
/- The reference of order: Fault. -/
/- What a filter says of a node, the program's word and the reference's (Accept); two walkers that are one (Same). -/
/- The reference of iterate: iterators that are one (canopyref14.SameFilter, Same), a new one (New), which are right (Check). -/
import Derived.Test.YticenjhhefiboaaGreatFFWk3
import Derived.Test.YticenjhhefiboaaGreatFFWkGFItR
import Derived.Test.YticenjhhefiboaaGreatFFRMade
import Derived.Test.YticenjhhefiboaaGreatFFUpFR4D
namespace Go.Proofs.YticenjhhefiboaaGreat
open Go.RowKit Go.Lib

end Go.Proofs.YticenjhhefiboaaGreat

namespace Go.Proofs.YticenjhhefiboaaGreat
open Go.RowKit Go.Lib Go.Shelf

end Go.Proofs.YticenjhhefiboaaGreat

namespace Go.Proofs.YticenjhhefiboaaGreat
open Go.RowKit Go.Lib Go.Shelf

section
variable {w : World} {o : Option Addr} {cap n k : Nat} {sh x : Int} {ro : Option Addr} {rc : Nat}
end
end Go.Proofs.YticenjhhefiboaaGreat

namespace Go.Proofs.YticenjhhefiboaaGreat
open Go.RowKit Go.Lib Go.Shelf

set_option maxRecDepth 100000 in
set_option maxHeartbeats 4000000 in
theorem sameF_any (sh : Nat) (ro ro2 : Option Addr) (rc rc2 : Nat) (rules : List RuleD) (w : World) (h1 : RdR w (.slice ro rules.length rc) rules) (h2 : RdR w (.slice ro2 rules.length rc2) rules) (hrl : rules.length ≤ 1099511627776) :
    Calls Tryz.prog 23 #[.agg #[.int .u32 (sh : Int), .slice ro rules.length rc], .agg #[.int .u32 (sh : Int), .slice ro2 rules.length rc2]] w fun e w' => e = .returned (.bool true) ∧ Below w.heap.size w w' := by
  obtain ⟨hB0, t0, t1, sx⟩ := two_new w (.cells #[.int .u32 (sh : Int), .slice ro rules.length rc] 28) (.cells #[.int .u32 (sh : Int), .slice ro2 rules.length rc2] 28)
  obtain ⟨a0, a1⟩ := box2I t0
  obtain ⟨b0, b1⟩ := box2I t1
  have e3 : ((sh : Int) != (sh : Int)) = false := bne_self_eq_false _
  have e4 : ((rules.length : Int) != (rules.length : Int)) = false := bne_self_eq_false _
  obtain ⟨o1, c1, he1, hc1, g1⟩ := h1
  obtain ⟨rfl, rfl⟩ : o1 = ro ∧ c1 = rc := by
    simp only [Value.slice.injEq] at he1
    exact ⟨he1.1.symm, he1.2.2.symm⟩
  obtain ⟨o2, c2, he2, hc2, g2⟩ := h2
  obtain ⟨rfl, rfl⟩ : o2 = ro2 ∧ c2 = rc2 := by
    simp only [Value.slice.injEq] at he2
    exact ⟨he2.1.symm, he2.2.2.symm⟩
  have G1 := hid g1
  have G2 := hid g2
  have HB0 := hid hB0
  clear g1 g2 he1 he2 hB0 t0 t1 sx
  generalize hV : ((w.alloc (.cells #[.int .u32 (sh : Int), .slice o1 rules.length c1] 28)).alloc (.cells #[.int .u32 (sh : Int), .slice o2 rules.length c2] 28)) = V at *
  go_enter Tryz.func23, Tryz.ntmps23
  have HV := hid hV
  clear hV
  go_wp2
  go_loopw [5] (fun t wr => ∃ k m : Nat, k ≤ rules.length ∧ t = .int .i64 k ∧ wr = V.drewN m) (fun t _ => rules.length - (RowKit.intOf t).toNat)
  case atStart => exact ⟨0, 0, Nat.zero_le _, rfl, HV.out⟩
  case round =>
    obtain ⟨k, m, k1, rfl, rfl⟩ := hrel
    by_cases l1 : k < rules.length
    · obtain ⟨b1', off1, rfl, hlt1, ha1⟩ := G1.out (by omega)
      obtain ⟨b2', off2, rfl, hlt2, ha2⟩ := G2.out (by omega)
      obtain ⟨x0, x1, x2⟩ := (ha1 k l1).later hlt1 HB0.out
      obtain ⟨y0, y1, y2⟩ := (ha2 k l1).later hlt2 HB0.out
      have q1 : (0 : Int) ≤ (k : Int) := by omega
      have q2 : (k : Int) < (rules.length : Int) := by omega
      clear ha1 ha2 G1 G2
      generalize rules[k] = r at *
      obtain ⟨r0, r1, r2⟩ := r
      simp only at *
      go_upto_region 6 with fail
      go_quiet (fail)
      go_wp2
      go_roundw
      case rel => exact ⟨k + 1, m + nq, by omega, by go_num, by simp⟩
      case measure => simp [RowKit.intOf]; omega
    · have hkp : k = rules.length := by omega
      subst hkp
      clear G1 G2 l1 k1
      go_wp2
      go_ret
      exact ⟨rfl, HB0.out.trans ((drewN_below _ _ _).mono HB0.out.size)⟩
set_option maxRecDepth 100000 in
set_option maxHeartbeats 4000000 in
theorem sameI_any (root ref : Int) (bef : Bool) (sh : Nat) (ro ro2 : Option Addr) (rc rc2 : Nat) (rules : List RuleD) (w : World) (h1 : RdR w (.slice ro rules.length rc) rules) (h2 : RdR w (.slice ro2 rules.length rc2) rules) (hrl : rules.length ≤ 1099511627776) :
    Calls Tryz.prog 9 #[.agg #[.int .i64 root, .int .i64 ref, .bool bef, .int .u32 (sh : Int), .slice ro rules.length rc], .agg #[.int .i64 root, .int .i64 ref, .bool bef, .int .u32 (sh : Int), .slice ro2 rules.length rc2]] w fun e w' => e = .returned (.bool true) ∧ Below w.heap.size w w' := by
  obtain ⟨hB0, g0, g1, sx⟩ := two_new w (.cells #[.int .i64 root, .int .i64 ref, .bool bef, .int .u32 (sh : Int), .slice ro rules.length rc] 30) (.cells #[.int .i64 root, .int .i64 ref, .bool bef, .int .u32 (sh : Int), .slice ro2 rules.length rc2] 30)
  obtain ⟨⟨a0, a1, a2, a3, a4⟩, _⟩ := box5I g0
  obtain ⟨⟨b0, b1, b2, b3, b4⟩, _⟩ := box5I g1
  have e1 : (root == root) = true := beq_self_eq_true _
  have e2 : (ref == ref) = true := beq_self_eq_true _
  have e3 : (bef == bef) = true := beq_self_eq_true _
  have HS := hid (sameF_any sh ro ro2 rc rc2 rules ((w.alloc (.cells #[.int .i64 root, .int .i64 ref, .bool bef, .int .u32 (sh : Int), .slice ro rules.length rc] 30)).alloc (.cells #[.int .i64 root, .int .i64 ref, .bool bef, .int .u32 (sh : Int), .slice ro2 rules.length rc2] 30)) (h1.later hB0) (h2.later hB0) hrl)
  have HB0 := hid hB0
  clear h1 h2 hB0 g0 g1 sx
  go_enter Tryz.func9, Tryz.ntmps9
  go_upto_region 1 with fail
  generalize ((w.alloc (.cells #[.int .i64 root, .int .i64 ref, .bool bef, .int .u32 (sh : Int), .slice ro rules.length rc] 30)).alloc (.cells #[.int .i64 root, .int .i64 ref, .bool bef, .int .u32 (sh : Int), .slice ro2 rules.length rc2] 30)) = V at *
  go_wp2_with fail
  refine HS.out.mono ?_
  rintro e v1 ⟨rfl, hb⟩
  have HB := hid (HB0.out.trans (hb.mono HB0.out.size))
  clear hb HB0 HS a0 a1 a2 a3 a4 b0 b1 b2 b3 b4
  go_wp2
  go_ret
  exact ⟨rfl, HB.out⟩
theorem wrong_iter (ns : List NodeD) (root : Int) (rules : List RuleD) : wrongE ns [root] rules = iterC ns root root rules := by
  unfold wrongE missE iterC iterE
  cases hr : rightD ns with
  | false => rfl
  | true =>
    cases ht : thereB ns.length root with
    | false => simp [ht]
    | true =>
      have hin : root ∈ pathUp ns (parentD ns) root := by rw [pathUp_head ((rightD_iff ns).1 hr) ht]; exact List.mem_cons_self ..
      simp [ht, hin]
end Go.Proofs.YticenjhhefiboaaGreat

