/- Where the arguments hold at most 1048576 values and letters the law WalkAccepts answers true: every filter says of every node what the reference says, and every walker begins as it says. -/
/- The reference of walk: what a filter says of a node (Verdict). -/
/- What a walker reaches is accepted and lies within the root (WalkWithin): the law's walk. -/
/- The reference of walk: why a filter is none, what is asked of a node (Wrong, canopyref05.Wrong, Accept). -/
/- What a filter says of a node, the program's word and the reference's (Accept); two walkers that are one (Same). -/
/- walk: what a filter says of a node that is asked for (Accept). -/
/- Two walkers that are one (canopyref13.Same). -/
/- A region that draws its order, gone through step by step under a condition on the world: operations whose value is known, operations whose guards say no, and what is left. No program in this text. -/
/- The reference of walk: a walker that is made (canopyref13.New). -/
/- Every filter says of every node what the reference says; every walker begins so (WalkAccepts). -/
import Derived.Test.YteflknfejjdkfaaCFWkCFWkF
import Derived.Test.YteflknfejjdkfaaFRefN
import Derived.Test.YteflknfejjdkfaaCFWkIFWkN
import Derived.Test.YteflknfejjdkfaaCFWkRFWk1
import Derived.Test.YteflknfejjdkfaaCFUpFR4C
import Derived.Test.YteflknfejjdkfaaFRMade
import Derived.Deep.RegionLaw
import Derived.Test.YteflknfejjdkfaaCFWkPFWkS
import Derived.Test.YteflknfejjdkfaaFSkip
import Derived.Deep.RegionHeld
import Derived.Test.YteflknfejjdkfaaCFWk2
import Derived.Test.YteflknfejjdkfaaCFWkXFWkY
import Derived.Test.YteflknfejjdkfaaCFOpenFWk4
import Derived.Test.YteflknfejjdkfaaRows
import Derived.ProofKit
import Derived.OpenShut
import Derived.JoinedCond
namespace Go.Proofs.Yteflknfejjdkfaa
open Go.RowKit Go.Lib

theorem box1w {w V : World} {a c d : Value} {t u : TypeId} {o3 : Obj} (hb : Below (((w.alloc (.cells #[a] t)).alloc (.cells #[c, d] u))).heap.size ((w.alloc (.cells #[a] t)).alloc (.cells #[c, d] u)) V) : (V.alloc o3).cell? ⟨w.heap.size, 0, none⟩ = some a ∧ (V.alloc o3).cell? ⟨w.heap.size + 1, 0, none⟩ = some c ∧ (V.alloc o3).cell? ⟨w.heap.size + 1, 1, none⟩ = some d := by
  have hn : V.heap[w.heap.size + 1]? = some (.cells #[c, d] u) := by
    have := vheapW (w.alloc (.cells #[a] t)) (.cells #[c, d] u)
    rw [World.size_alloc] at this
    exact (hb.block (w.heap.size + 1) (by simp)).trans this
  have hk : ∀ j : Nat, V.cell? ⟨w.heap.size + 1, j, none⟩ = #[c, d][j]? := fun j => by
    unfold World.cell?
    simp only [hn]
    exact if_neg (by decide)
  have hz := hb.size
  simp only [World.size_alloc] at hz
  exact ⟨(World.cell?_alloc_lt _ _ _ (by show w.heap.size < _; omega)).trans ((hb.cell (p := ⟨w.heap.size, 0, none⟩) (by simp; omega)).trans (by simp)), (World.cell?_alloc_lt _ _ _ (by show w.heap.size + 1 < _; omega)).trans ((hk 0).trans rfl), (World.cell?_alloc_lt _ _ _ (by show w.heap.size + 1 < _; omega)).trans ((hk 1).trans rfl)⟩

theorem shr_bit (sh j : Nat) : (((sh : Int) / ((2 ^ j : Nat) : Int)) % 2 == 0) = !Nat.testBit sh j := by
  have h1 : ((sh : Int) / ((2 ^ j : Nat) : Int)) % 2 = ((sh / 2 ^ j % 2 : Nat) : Int) := by
    rw [Int.natCast_emod, Int.natCast_ediv]; rfl
  rw [h1, Nat.testBit_eq_decide_div_mod_eq]
  have h2 : sh / 2 ^ j % 2 = 0 ∨ sh / 2 ^ j % 2 = 1 := by omega
  rcases h2 with h | h <;> rw [h] <;> rfl
theorem shr_bit2 (sh j : Nat) : (((sh : Int) / 2 ^ j).tmod 2 == 0) = !Nat.testBit sh j := by
  have h0 : ((sh : Int) / 2 ^ j).tmod 2 = ((sh : Int) / ((2 ^ j : Nat) : Int)) % 2 := by
    have : (2 : Int) ^ j = ((2 ^ j : Nat) : Int) := by simp
    rw [this]
    have h : (0 : Int) ≤ (sh : Int) / ((2 ^ j : Nat) : Int) := Int.ediv_nonneg (Int.natCast_nonneg _) (Int.natCast_nonneg _)
    exact Int.tmod_eq_emod_of_nonneg h
  rw [h0]
  exact shr_bit sh j

set_option linter.unusedSimpArgs false in
set_option maxRecDepth 100000 in
set_option maxHeartbeats 8000000 in
theorem refVerdict_any (b off cap : Nat) (x : Int) (sh : Nat) (ro : Option Addr) (rc : Nat) (rules : List RuleD) (ns : List NodeD) (W : World) (hR : RightF ns) (hF : FAt W b off cap ns) (hx : thereB ns.length x = true) (hs : sh < 4294967296) (hr : RdR W (.slice ro rules.length rc) rules) (hf : rules.length ≤ 64) :
    Calls Try.prog 16 #[.agg #[.slice (some ⟨b, off, none⟩) ns.length cap], .agg #[.int .u32 (sh : Int), .slice ro rules.length rc], .int .i64 x] W fun e w' => e = .returned (.int .u8 (verdictOf ns sh rules x : Int)) ∧ Below W.heap.size W w' := by
  obtain ⟨j, hj, rfl⟩ := there_idx hx
  rw [verdictOf_at ns sh rules j hj]
  have hkn : knownK ns[j].kind = true := (well_parts (hR.well j hj)).1
  have hB0 : Below W.heap.size W ((W.alloc (.cells #[.slice (some ⟨b, off, none⟩) ns.length cap] 24)).alloc (.cells #[.int .u32 (sh : Int), .slice ro rules.length rc] 28)) := ((Below.refl _ W).alloc (Nat.le_refl _) _).alloc (by simp) _
  have HN := hid (refNode_any (some ⟨b, off, none⟩) cap ((j : Int) + 1) ns _ (⟨hF.len, fun _ => ⟨b, off, rfl, hF.later hB0⟩⟩ : FRd ((W.alloc (.cells #[.slice (some ⟨b, off, none⟩) ns.length cap] 24)).alloc (.cells #[.int .u32 (sh : Int), .slice ro rules.length rc] 28)) (some ⟨b, off, none⟩) cap ns))
  have hno : nodeOrNone ns ((j : Int) + 1) = ns[j] := by unfold nodeOrNone; rw [nodeOf_at ns j hj]; rfl
  rw [hno] at HN
  have HB0 := hid hB0
  have HRr := hid hr
  clear hB0 hno hF hr hR hx
  generalize ns[j] = n at *
  unfold verdictD
  cases hsh : shownB sh n.kind with
  | false =>
    rw [if_neg Bool.false_ne_true]
    cases e12 : (n.kind == 12) with
    | true =>
      have e12i : ((n.kind : Int) == 12) = true := (beq_cast n.kind 12).trans e12
      have hbit : ((sh : Int) / 1024 % 2 == 0) = true := (shr_bit sh 10).trans (by unfold shownB at hsh; rw [e12] at hsh; exact congrArg not hsh)
      clear hsh e12
      go_enter Try.func16, Try.ntmps16
      go_wp2_with fail
      refine HN.out.mono ?_
      rintro e v1 ⟨L, rfl, h1, h2, h3, hb⟩
      obtain ⟨D, A, K⟩ := L
      obtain ⟨od, cd, e1, _⟩ := h1
      obtain ⟨oa, ca, e2, _⟩ := h2
      obtain ⟨ok, ck, e3, _⟩ := h3
      simp only at e1 e2 e3
      subst e1 e2 e3
      unfold nodeV
      obtain ⟨n0, n1, n2, n3, n4, n5, n6, n7, n8, n9, n10, n11, n12, n13, n14, n15⟩ := n
      simp only at *
      obtain ⟨q0, q1, q2⟩ := box1w (o3 := .cells #[.int .u8 (n0 : Int), .string n1, .string n2, .string n3, .string n4, .string n5, .slice od n6.length cd, .slice oa n7.length ca, .int .i64 n8, .slice ok n9.length ck, .int .i64 n10, .int .i64 n11, .int .i64 n12, .int .u8 (n13 : Int), .bool n14, .bool n15] 64) hb
      have HB1 := hid (HB0.out.trans (hb.mono HB0.out.size))
      clear hb HN
      have hlo : 1 ≤ n0 ∧ n0 ≤ 12 := by rcases known_cases hkn with h | h | h | h | h | h | h | h | h <;> omega
      obtain ⟨ro', rc', hro, hcap, g⟩ := HRr.out
      obtain ⟨rfl, rfl⟩ : ro' = ro ∧ rc' = rc := by
        simp only [Value.slice.injEq] at hro
        exact ⟨hro.1.symm, hro.2.2.symm⟩
      have G := hid g
      clear g hro HRr
      have HBA := hid (HB1.out.alloc HB1.out.size (.cells #[.int .u8 (n0 : Int), .string n1, .string n2, .string n3, .string n4, .string n5, .slice od n6.length cd, .slice oa n7.length ca, .int .i64 n8, .slice ok n9.length ck, .int .i64 n10, .int .i64 n11, .int .i64 n12, .int .u8 (n13 : Int), .bool n14, .bool n15] 64))
      go_wp2
      go_ret
      exact ⟨rfl, HBA.out⟩
    | false =>
      have e12i : ((n.kind : Int) == 12) = false := (beq_cast n.kind 12).trans e12
      have hbit : (((sh : Int) / 2 ^ (n.kind - 1)).tmod 2 == 0) = true := (shr_bit2 sh (n.kind - 1)).trans (by unfold shownB at hsh; rw [e12] at hsh; exact congrArg not hsh)
      clear hsh e12
      go_enter Try.func16, Try.ntmps16
      go_wp2_with fail
      refine HN.out.mono ?_
      rintro e v1 ⟨L, rfl, h1, h2, h3, hb⟩
      obtain ⟨D, A, K⟩ := L
      obtain ⟨od, cd, e1, _⟩ := h1
      obtain ⟨oa, ca, e2, _⟩ := h2
      obtain ⟨ok, ck, e3, _⟩ := h3
      simp only at e1 e2 e3
      subst e1 e2 e3
      unfold nodeV
      obtain ⟨n0, n1, n2, n3, n4, n5, n6, n7, n8, n9, n10, n11, n12, n13, n14, n15⟩ := n
      simp only at *
      obtain ⟨q0, q1, q2⟩ := box1w (o3 := .cells #[.int .u8 (n0 : Int), .string n1, .string n2, .string n3, .string n4, .string n5, .slice od n6.length cd, .slice oa n7.length ca, .int .i64 n8, .slice ok n9.length ck, .int .i64 n10, .int .i64 n11, .int .i64 n12, .int .u8 (n13 : Int), .bool n14, .bool n15] 64) hb
      have HB1 := hid (HB0.out.trans (hb.mono HB0.out.size))
      clear hb HN
      have hlo : 1 ≤ n0 ∧ n0 ≤ 12 := by rcases known_cases hkn with h | h | h | h | h | h | h | h | h <;> omega
      obtain ⟨ro', rc', hro, hcap, g⟩ := HRr.out
      obtain ⟨rfl, rfl⟩ : ro' = ro ∧ rc' = rc := by
        simp only [Value.slice.injEq] at hro
        exact ⟨hro.1.symm, hro.2.2.symm⟩
      have G := hid g
      clear g hro HRr
      have HBA := hid (HB1.out.alloc HB1.out.size (.cells #[.int .u8 (n0 : Int), .string n1, .string n2, .string n3, .string n4, .string n5, .slice od n6.length cd, .slice oa n7.length ca, .int .i64 n8, .slice ok n9.length ck, .int .i64 n10, .int .i64 n11, .int .i64 n12, .int .u8 (n13 : Int), .bool n14, .bool n15] 64))
      go_wp2
      go_ret
      exact ⟨rfl, HBA.out⟩
  | true =>
    rw [if_pos rfl]
    obtain ⟨R, hR⟩ : ∃ R, ruledD rules n.kind n.loc = R := ⟨_, rfl⟩
    rw [hR]
    have HR : Hid (ruledD (rules.drop 0) n.kind n.loc = R) := hR
    clear hR
    cases e12 : (n.kind == 12) with
    | true =>
      have e12i : ((n.kind : Int) == 12) = true := (beq_cast n.kind 12).trans e12
      have hbit : ((sh : Int) / 1024 % 2 == 0) = false := (shr_bit sh 10).trans (by unfold shownB at hsh; rw [e12] at hsh; exact congrArg not hsh)
      clear hsh e12
      go_enter Try.func16, Try.ntmps16
      go_wp2_with fail
      refine HN.out.mono ?_
      rintro e v1 ⟨L, rfl, h1, h2, h3, hb⟩
      obtain ⟨D, A, K⟩ := L
      obtain ⟨od, cd, e1, _⟩ := h1
      obtain ⟨oa, ca, e2, _⟩ := h2
      obtain ⟨ok, ck, e3, _⟩ := h3
      simp only at e1 e2 e3
      subst e1 e2 e3
      unfold nodeV
      obtain ⟨n0, n1, n2, n3, n4, n5, n6, n7, n8, n9, n10, n11, n12, n13, n14, n15⟩ := n
      simp only at *
      obtain ⟨q0, q1, q2⟩ := box1w (o3 := .cells #[.int .u8 (n0 : Int), .string n1, .string n2, .string n3, .string n4, .string n5, .slice od n6.length cd, .slice oa n7.length ca, .int .i64 n8, .slice ok n9.length ck, .int .i64 n10, .int .i64 n11, .int .i64 n12, .int .u8 (n13 : Int), .bool n14, .bool n15] 64) hb
      have HB1 := hid (HB0.out.trans (hb.mono HB0.out.size))
      clear hb HN
      have hlo : 1 ≤ n0 ∧ n0 ≤ 12 := by rcases known_cases hkn with h | h | h | h | h | h | h | h | h <;> omega
      obtain ⟨ro', rc', hro, hcap, g⟩ := HRr.out
      obtain ⟨rfl, rfl⟩ : ro' = ro ∧ rc' = rc := by
        simp only [Value.slice.injEq] at hro
        exact ⟨hro.1.symm, hro.2.2.symm⟩
      have G := hid g
      clear g hro HRr
      have HBA := hid (HB1.out.alloc HB1.out.size (.cells #[.int .u8 (n0 : Int), .string n1, .string n2, .string n3, .string n4, .string n5, .slice od n6.length cd, .slice oa n7.length ca, .int .i64 n8, .slice ok n9.length ck, .int .i64 n10, .int .i64 n11, .int .i64 n12, .int .u8 (n13 : Int), .bool n14, .bool n15] 64))
      go_wp2
      go_loopw [33] (fun t wr => ∃ k : Nat, k ≤ rules.length ∧ t = .int .i64 k ∧ Hid (Below (v1.heap.size + 1) (v1.alloc (.cells #[.int .u8 (n0 : Int), .string n1, .string n2, .string n3, .string n4, .string n5, .slice od n6.length cd, .slice oa n7.length ca, .int .i64 n8, .slice ok n9.length ck, .int .i64 n10, .int .i64 n11, .int .i64 n12, .int .u8 (n13 : Int), .bool n14, .bool n15] 64)) wr) ∧ Hid (ruledD (rules.drop k) n0 n3 = R)) (fun t _ => rules.length - (RowKit.intOf t).toNat)
      case atStart => exact ⟨0, Nat.zero_le _, rfl, Below.refl _ _, HR⟩
      case round =>
        obtain ⟨k, k1, rfl, hB, hK⟩ := hrel
        have hsz := hB.out.size
        simp only [World.size_alloc] at hsz
        have hBW : Below W.heap.size W wr := (HB1.out.alloc HB1.out.size _).trans (hB.out.mono (by have := HB1.out.size; omega))
        by_cases hlt : k < rules.length
        · obtain ⟨rb, roff, rfl, rlt, ra⟩ := G.out (by omega)
          obtain ⟨r0, r1, r2⟩ := (ra k hlt).later rlt hBW
          have p1 : (0 : Int) ≤ (k : Int) := by omega
          have p2 : (k : Int) < (rules.length : Int) := by omega
          have hkk := hK.out
          rw [List.drop_eq_getElem_cons hlt, ruledD] at hkk
          have Hk := hid hkk
          clear hkk hK ra G
          generalize rules[k] = r at *
          obtain ⟨y0, y1, y2⟩ := r
          simp only at *
          have hB2 : Below (v1.heap.size + 1) (v1.alloc (.cells #[.int .u8 (n0 : Int), .string n1, .string n2, .string n3, .string n4, .string n5, .slice od n6.length cd, .slice oa n7.length ca, .int .i64 n8, .slice ok n9.length ck, .int .i64 n10, .int .i64 n11, .int .i64 n12, .int .u8 (n13 : Int), .bool n14, .bool n15] 64)) (wr.alloc (.cells #[.int .u8 (y0 : Int), .string y1, .int .u8 (y2 : Int)] 70)) := hB.out.alloc hsz _
          have g0 : (wr.alloc (.cells #[.int .u8 (y0 : Int), .string y1, .int .u8 (y2 : Int)] 70)).cell? ⟨v1.heap.size, 0, none⟩ = some (.int .u8 (n0 : Int)) := (hB2.cell (p := ⟨v1.heap.size, 0, none⟩) (by show v1.heap.size < v1.heap.size + 1; omega)).trans (by simp)
          have g3 : (wr.alloc (.cells #[.int .u8 (y0 : Int), .string y1, .int .u8 (y2 : Int)] 70)).cell? ⟨v1.heap.size, 3, none⟩ = some (.string n3) := (hB2.cell (p := ⟨v1.heap.size, 3, none⟩) (by show v1.heap.size < v1.heap.size + 1; omega)).trans (by simp)
          have z1 : ((y0 : Int) == 0) = (y0 == 0) := beq_cast _ 0
          have z2 : ((y0 : Int) == (n0 : Int)) = (y0 == n0) := beq_cast _ _
          have h1 := noneS_toList y1; have h1' := noneS_empty y1
          have z3 : (y1.toList == n3.toList) = (y1.data.toList == n3.data.toList) := by rw [Lib.toList_data, Lib.toList_data]
          have hfd : fitsB ⟨y0, y1, y2⟩ n0 n3 = ((y0 == 0 || y0 == n0) && (noneS y1 || y1.data.toList == n3.data.toList)) := rfl
          rw [hfd] at Hk
          have HBW := hid hBW
          have HB3 := hid (hBW.alloc hBW.size (.cells #[.int .u8 (y0 : Int), .string y1, .int .u8 (y2 : Int)] 70))
          have HB4 := hid hB2
          clear hB2 hBW hfd
          generalize noneS y1 = b3 at *
          generalize (y1.data.toList == n3.data.toList) = b4 at *
          generalize (y0 == 0) = b1 at *
          generalize (y0 == n0) = b2 at *
          cases b1 <;> cases b2 <;> cases b3 <;> cases b4
          all_goals
            simp only [Bool.or_true, Bool.or_false, Bool.true_or, Bool.false_or, Bool.and_true, Bool.and_false, Bool.true_and, Bool.false_and, if_true, if_false, Bool.false_eq_true] at Hk
            first
              | (have hRy : y2 = R := Hk.out
                 subst hRy
                 clear Hk
                 go_wp2
                 go_ret
                 exact ⟨rfl, HB3.out⟩)
              | (go_wp2
                 go_roundw
                 case rel => exact ⟨k + 1, by omega, by go_num, HB4, Hk⟩
                 case measure => simp [RowKit.intOf]; omega)
        · have hR1 : R = 1 := by
            rw [← hK.out, List.drop_eq_nil_of_le (by omega)]
            rfl
          subst hR1
          clear hK G
          go_wp2
          go_ret
          exact ⟨rfl, hBW⟩
    | false =>
      have e12i : ((n.kind : Int) == 12) = false := (beq_cast n.kind 12).trans e12
      have hbit : (((sh : Int) / 2 ^ (n.kind - 1)).tmod 2 == 0) = false := (shr_bit2 sh (n.kind - 1)).trans (by unfold shownB at hsh; rw [e12] at hsh; exact congrArg not hsh)
      clear hsh e12
      go_enter Try.func16, Try.ntmps16
      go_wp2_with fail
      refine HN.out.mono ?_
      rintro e v1 ⟨L, rfl, h1, h2, h3, hb⟩
      obtain ⟨D, A, K⟩ := L
      obtain ⟨od, cd, e1, _⟩ := h1
      obtain ⟨oa, ca, e2, _⟩ := h2
      obtain ⟨ok, ck, e3, _⟩ := h3
      simp only at e1 e2 e3
      subst e1 e2 e3
      unfold nodeV
      obtain ⟨n0, n1, n2, n3, n4, n5, n6, n7, n8, n9, n10, n11, n12, n13, n14, n15⟩ := n
      simp only at *
      obtain ⟨q0, q1, q2⟩ := box1w (o3 := .cells #[.int .u8 (n0 : Int), .string n1, .string n2, .string n3, .string n4, .string n5, .slice od n6.length cd, .slice oa n7.length ca, .int .i64 n8, .slice ok n9.length ck, .int .i64 n10, .int .i64 n11, .int .i64 n12, .int .u8 (n13 : Int), .bool n14, .bool n15] 64) hb
      have HB1 := hid (HB0.out.trans (hb.mono HB0.out.size))
      clear hb HN
      have hlo : 1 ≤ n0 ∧ n0 ≤ 12 := by rcases known_cases hkn with h | h | h | h | h | h | h | h | h <;> omega
      obtain ⟨ro', rc', hro, hcap, g⟩ := HRr.out
      obtain ⟨rfl, rfl⟩ : ro' = ro ∧ rc' = rc := by
        simp only [Value.slice.injEq] at hro
        exact ⟨hro.1.symm, hro.2.2.symm⟩
      have G := hid g
      clear g hro HRr
      have HBA := hid (HB1.out.alloc HB1.out.size (.cells #[.int .u8 (n0 : Int), .string n1, .string n2, .string n3, .string n4, .string n5, .slice od n6.length cd, .slice oa n7.length ca, .int .i64 n8, .slice ok n9.length ck, .int .i64 n10, .int .i64 n11, .int .i64 n12, .int .u8 (n13 : Int), .bool n14, .bool n15] 64))
      go_wp2
      go_loopw [33] (fun t wr => ∃ k : Nat, k ≤ rules.length ∧ t = .int .i64 k ∧ Hid (Below (v1.heap.size + 1) (v1.alloc (.cells #[.int .u8 (n0 : Int), .string n1, .string n2, .string n3, .string n4, .string n5, .slice od n6.length cd, .slice oa n7.length ca, .int .i64 n8, .slice ok n9.length ck, .int .i64 n10, .int .i64 n11, .int .i64 n12, .int .u8 (n13 : Int), .bool n14, .bool n15] 64)) wr) ∧ Hid (ruledD (rules.drop k) n0 n3 = R)) (fun t _ => rules.length - (RowKit.intOf t).toNat)
      case atStart => exact ⟨0, Nat.zero_le _, rfl, Below.refl _ _, HR⟩
      case round =>
        obtain ⟨k, k1, rfl, hB, hK⟩ := hrel
        have hsz := hB.out.size
        simp only [World.size_alloc] at hsz
        have hBW : Below W.heap.size W wr := (HB1.out.alloc HB1.out.size _).trans (hB.out.mono (by have := HB1.out.size; omega))
        by_cases hlt : k < rules.length
        · obtain ⟨rb, roff, rfl, rlt, ra⟩ := G.out (by omega)
          obtain ⟨r0, r1, r2⟩ := (ra k hlt).later rlt hBW
          have p1 : (0 : Int) ≤ (k : Int) := by omega
          have p2 : (k : Int) < (rules.length : Int) := by omega
          have hkk := hK.out
          rw [List.drop_eq_getElem_cons hlt, ruledD] at hkk
          have Hk := hid hkk
          clear hkk hK ra G
          generalize rules[k] = r at *
          obtain ⟨y0, y1, y2⟩ := r
          simp only at *
          have hB2 : Below (v1.heap.size + 1) (v1.alloc (.cells #[.int .u8 (n0 : Int), .string n1, .string n2, .string n3, .string n4, .string n5, .slice od n6.length cd, .slice oa n7.length ca, .int .i64 n8, .slice ok n9.length ck, .int .i64 n10, .int .i64 n11, .int .i64 n12, .int .u8 (n13 : Int), .bool n14, .bool n15] 64)) (wr.alloc (.cells #[.int .u8 (y0 : Int), .string y1, .int .u8 (y2 : Int)] 70)) := hB.out.alloc hsz _
          have g0 : (wr.alloc (.cells #[.int .u8 (y0 : Int), .string y1, .int .u8 (y2 : Int)] 70)).cell? ⟨v1.heap.size, 0, none⟩ = some (.int .u8 (n0 : Int)) := (hB2.cell (p := ⟨v1.heap.size, 0, none⟩) (by show v1.heap.size < v1.heap.size + 1; omega)).trans (by simp)
          have g3 : (wr.alloc (.cells #[.int .u8 (y0 : Int), .string y1, .int .u8 (y2 : Int)] 70)).cell? ⟨v1.heap.size, 3, none⟩ = some (.string n3) := (hB2.cell (p := ⟨v1.heap.size, 3, none⟩) (by show v1.heap.size < v1.heap.size + 1; omega)).trans (by simp)
          have z1 : ((y0 : Int) == 0) = (y0 == 0) := beq_cast _ 0
          have z2 : ((y0 : Int) == (n0 : Int)) = (y0 == n0) := beq_cast _ _
          have h1 := noneS_toList y1; have h1' := noneS_empty y1
          have z3 : (y1.toList == n3.toList) = (y1.data.toList == n3.data.toList) := by rw [Lib.toList_data, Lib.toList_data]
          have hfd : fitsB ⟨y0, y1, y2⟩ n0 n3 = ((y0 == 0 || y0 == n0) && (noneS y1 || y1.data.toList == n3.data.toList)) := rfl
          rw [hfd] at Hk
          have HBW := hid hBW
          have HB3 := hid (hBW.alloc hBW.size (.cells #[.int .u8 (y0 : Int), .string y1, .int .u8 (y2 : Int)] 70))
          have HB4 := hid hB2
          clear hB2 hBW hfd
          generalize noneS y1 = b3 at *
          generalize (y1.data.toList == n3.data.toList) = b4 at *
          generalize (y0 == 0) = b1 at *
          generalize (y0 == n0) = b2 at *
          cases b1 <;> cases b2 <;> cases b3 <;> cases b4
          all_goals
            simp only [Bool.or_true, Bool.or_false, Bool.true_or, Bool.false_or, Bool.and_true, Bool.and_false, Bool.true_and, Bool.false_and, if_true, if_false, Bool.false_eq_true] at Hk
            first
              | (have hRy : y2 = R := Hk.out
                 subst hRy
                 clear Hk
                 go_wp2
                 go_ret
                 exact ⟨rfl, HB3.out⟩)
              | (go_wp2
                 go_roundw
                 case rel => exact ⟨k + 1, by omega, by go_num, HB4, Hk⟩
                 case measure => simp [RowKit.intOf]; omega)
        · have hR1 : R = 1 := by
            rw [← hK.out, List.drop_eq_nil_of_le (by omega)]
            rfl
          subst hR1
          clear hK G
          go_wp2
          go_ret
          exact ⟨rfl, hBW⟩
end Go.Proofs.Yteflknfejjdkfaa

namespace Go.Proofs.Yteflknfejjdkfaa
open Go.RowKit Go.Lib

/-- What 'lives' answers. -/
def LivesW : Prop := ∀ w : World, Calls Try.prog 11 #[] w fun e w' => e = .returned (.bool true) ∧ Below w.heap.size w w'

theorem boxesFW {w V : World} {f r c s l : Value} {t u : TypeId} (hb : Below (w.heap.size + 2) ((w.alloc (.cells #[f] t)).alloc (.cells #[r, c, s, l] u)) V) :
    V.cell? ⟨w.heap.size, 0, none⟩ = some f ∧ V.cell? ⟨w.heap.size + 1, 0, none⟩ = some r ∧ V.cell? ⟨w.heap.size + 1, 1, none⟩ = some c ∧ V.cell? ⟨w.heap.size + 1, 2, none⟩ = some s ∧ V.cell? ⟨w.heap.size + 1, 3, none⟩ = some l := by
  have hn : V.heap[w.heap.size + 1]? = some (.cells #[r, c, s, l] u) := by
    have := vheapW (w.alloc (.cells #[f] t)) (.cells #[r, c, s, l] u)
    rw [World.size_alloc] at this
    exact (hb.block (w.heap.size + 1) (by omega)).trans this
  have hk : ∀ j : Nat, V.cell? ⟨w.heap.size + 1, j, none⟩ = #[r, c, s, l][j]? := fun j => by
    unfold World.cell?
    simp only [hn]
    exact if_neg (by decide)
  exact ⟨(hb.cell (p := ⟨w.heap.size, 0, none⟩) (by show w.heap.size < w.heap.size + 2; omega)).trans (by simp), (hk 0).trans rfl, (hk 1).trans rfl, (hk 2).trans rfl, (hk 3).trans rfl⟩
theorem below_two (w : World) (o1 o2 : Obj) : Below w.heap.size w ((w.alloc o1).alloc o2) := ((Below.refl _ w).alloc (Nat.le_refl _) _).alloc (by simp) _

set_option maxRecDepth 100000 in
set_option maxHeartbeats 4000000 in
theorem sameZero (w : World) : Calls Try.prog 12 #[.agg #[.int .i64 0, .int .i64 0, .int .u32 0, .slice none 0 0], .agg #[.int .i64 0, .int .i64 0, .int .u32 0, .slice none 0 0]] w fun e w' => e = .returned (.bool true) ∧ Below w.heap.size w w' := by
  have HB0 := hid (below_two w (.cells #[.int .i64 0, .int .i64 0, .int .u32 0, .slice none 0 0] 34) (.cells #[.int .i64 0, .int .i64 0, .int .u32 0, .slice none 0 0] 34))
  go_enter Try.func12, Try.ntmps12
  go_wp2
  go_loopw [42] (fun t wr => t = .int .i64 0 ∧ wr = (w.alloc (.cells #[.int .i64 0, .int .i64 0, .int .u32 0, .slice none 0 0] 34)).alloc (.cells #[.int .i64 0, .int .i64 0, .int .u32 0, .slice none 0 0] 34)) (fun _ _ => 0)
  case atStart => exact ⟨rfl, rfl⟩
  case round =>
    obtain ⟨rfl, rfl⟩ := hrel
    go_wp2
    go_ret
    exact ⟨rfl, HB0.out⟩

set_option maxRecDepth 100000 in
set_option maxHeartbeats 4000000 in
theorem within_err (o : Option Addr) (cap n : Nat) (root cur sh : Int) (ro : Option Addr) (rc k : Nat) (way : Int) (E : Int) (w : World) (hne : (E != 0) = true) (HL : LivesW)
    (HS : ∀ W : World, Below w.heap.size w W → Calls Try.prog 17 #[.agg #[.slice o n cap], .agg #[.int .i64 root, .int .i64 cur, .int .u32 sh, .slice ro k rc], .int .u8 way] W fun e w' => e = .returned (.tuple #[.agg #[.int .i64 0, .int .i64 0, .int .u32 0, .slice none 0 0], .int .i64 0, .int .i64 E]) ∧ Below W.heap.size W w') :
    Calls Try.prog 6 #[.agg #[.slice o n cap], .agg #[.int .i64 root, .int .i64 cur, .int .u32 sh, .slice ro k rc], .int .u8 way] w fun e w' => e = .returned (.bool true) ∧ Below w.heap.size w w' := by
  have HB0 := hid (below_two w (.cells #[.slice o n cap] 24) (.cells #[.int .i64 root, .int .i64 cur, .int .u32 sh, .slice ro k rc] 34))
  have hL := HL ((w.alloc (.cells #[.slice o n cap] 24)).alloc (.cells #[.int .i64 root, .int .i64 cur, .int .u32 sh, .slice ro k rc] 34))
  have HS0 := hid HS
  clear HS
  go_enter Try.func6, Try.ntmps6
  go_wp2_with fail
  refine hL.mono ?_
  rintro e v1 ⟨rfl, h1⟩
  simp only [World.size_alloc] at h1
  obtain ⟨q0, q1, q2, q3, q4⟩ := boxesFW h1
  have HB1 := hid (HB0.out.trans (h1.mono (by omega)))
  have hS := HS0.out v1 HB1.out
  clear hL h1 HS0
  go_wp2_with fail
  refine hS.mono ?_
  rintro e v2 ⟨rfl, h2⟩
  have HB2 := hid (HB1.out.trans (h2.mono HB1.out.size))
  have hZ := sameZero (v2.alloc (.cells #[.int .i64 0, .int .i64 0, .int .u32 0, .slice none 0 0] 34))
  clear hS h2 q0 q1 q2 q3 q4
  go_wp2_with fail
  refine hZ.mono ?_
  rintro e v3 ⟨rfl, h3⟩
  go_wp2
  go_ret
  exact ⟨rfl, (HB2.out.alloc HB2.out.size _).trans (h3.mono (HB2.out.alloc HB2.out.size _).size)⟩

set_option maxRecDepth 100000 in
set_option maxHeartbeats 4000000 in
theorem within_zero (o : Option Addr) (cap n : Nat) (root cur sh : Int) (ro : Option Addr) (rc k : Nat) (way : Int) (w : World) (HL : LivesW)
    (HS : ∀ W : World, Below w.heap.size w W → Calls Try.prog 17 #[.agg #[.slice o n cap], .agg #[.int .i64 root, .int .i64 cur, .int .u32 sh, .slice ro k rc], .int .u8 way] W fun e w' => ∃ vo vc, e = .returned (.tuple #[.agg #[.int .i64 root, .int .i64 cur, .int .u32 sh, .slice vo k vc], .int .i64 0, .int .i64 0]) ∧ Below W.heap.size W w') :
    Calls Try.prog 6 #[.agg #[.slice o n cap], .agg #[.int .i64 root, .int .i64 cur, .int .u32 sh, .slice ro k rc], .int .u8 way] w fun e w' => e = .returned (.bool true) ∧ Below w.heap.size w w' := by
  have HB0 := hid (below_two w (.cells #[.slice o n cap] 24) (.cells #[.int .i64 root, .int .i64 cur, .int .u32 sh, .slice ro k rc] 34))
  have hL := HL ((w.alloc (.cells #[.slice o n cap] 24)).alloc (.cells #[.int .i64 root, .int .i64 cur, .int .u32 sh, .slice ro k rc] 34))
  have HS0 := hid HS
  have hcc : (cur == cur) = true := beq_self_eq_true _
  clear HS
  go_enter Try.func6, Try.ntmps6
  go_wp2_with fail
  refine hL.mono ?_
  rintro e v1 ⟨rfl, h1⟩
  simp only [World.size_alloc] at h1
  obtain ⟨q0, q1, q2, q3, q4⟩ := boxesFW h1
  have H1 := hid h1
  have HB1 := hid (HB0.out.trans (h1.mono (by omega)))
  have hS := HS0.out v1 HB1.out
  clear hL h1 HS0
  go_wp2_with fail
  refine hS.mono ?_
  rintro e v2 ⟨vo, vc, rfl, h2⟩
  have hz1 := H1.out.size
  simp only [World.size_alloc] at hz1
  have HX := hid (H1.out.trans (h2.mono (by omega)))
  have hz2 := HX.out.size
  simp only [World.size_alloc] at hz2
  have HB2 := hid (HB1.out.trans (h2.mono HB1.out.size))
  clear hS h2 q0 q1 q2 q3 q4
  obtain ⟨q0, q1, q2, q3, q4⟩ := boxesFW (HX.out.alloc hz2 (.cells #[.int .i64 root, .int .i64 cur, .int .u32 sh, .slice vo k vc] 34))
  clear hz1 hz2
  go_wp2
  go_ret
  exact ⟨rfl, HB2.out.alloc HB2.out.size _⟩

set_option maxRecDepth 100000 in
set_option maxHeartbeats 4000000 in
theorem within_there (o : Option Addr) (cap n : Nat) (root cur sh : Int) (ro : Option Addr) (rc k : Nat) (way D : Int) (C1 : Bool) (w : World) (HL : LivesW) (hD : (D == 0) = false)
    (HS : ∀ W : World, Below w.heap.size w W → Calls Try.prog 17 #[.agg #[.slice o n cap], .agg #[.int .i64 root, .int .i64 cur, .int .u32 sh, .slice ro k rc], .int .u8 way] W fun e w' => ∃ vo vc, e = .returned (.tuple #[.agg #[.int .i64 root, .int .i64 D, .int .u32 sh, .slice vo k vc], .int .i64 D, .int .i64 0]) ∧ Below W.heap.size W w')
    (HV : ∀ W : World, Below w.heap.size w W → Calls Try.prog 16 #[.agg #[.slice o n cap], .agg #[.int .u32 sh, .slice ro k rc], .int .i64 D] W fun e w' => e = .returned (.int .u8 1) ∧ Below W.heap.size W w')
    (HC : ∀ W : World, Below w.heap.size w W → Calls Try.prog 18 #[.agg #[.slice o n cap], .int .i64 root, .int .i64 cur] W fun e w' => e = .returned (.bool C1) ∧ Below W.heap.size W w')
    (HD : C1 = true → ∀ W : World, Below w.heap.size w W → Calls Try.prog 18 #[.agg #[.slice o n cap], .int .i64 root, .int .i64 D] W fun e w' => e = .returned (.bool true) ∧ Below W.heap.size W w') :
    Calls Try.prog 6 #[.agg #[.slice o n cap], .agg #[.int .i64 root, .int .i64 cur, .int .u32 sh, .slice ro k rc], .int .u8 way] w fun e w' => e = .returned (.bool true) ∧ Below w.heap.size w w' := by
  have HB0 := hid (below_two w (.cells #[.slice o n cap] 24) (.cells #[.int .i64 root, .int .i64 cur, .int .u32 sh, .slice ro k rc] 34))
  have hL := HL ((w.alloc (.cells #[.slice o n cap] 24)).alloc (.cells #[.int .i64 root, .int .i64 cur, .int .u32 sh, .slice ro k rc] 34))
  have HS0 := hid HS
  have HV0 := hid HV
  have HC0 := hid HC
  have HD0 := hid HD
  have hDD : (D != D) = false := bne_self_eq_false _
  have hrr : (root != root) = false := bne_self_eq_false _
  clear HS HV HC HD
  go_enter Try.func6, Try.ntmps6
  go_wp2_with fail
  refine hL.mono ?_
  rintro e v1 ⟨rfl, h1⟩
  simp only [World.size_alloc] at h1
  obtain ⟨q0, q1, q2, q3, q4⟩ := boxesFW h1
  have H1 := hid h1
  have HB1 := hid (HB0.out.trans (h1.mono (by omega)))
  have hS := HS0.out v1 HB1.out
  clear hL h1 HS0
  go_wp2_with fail
  refine hS.mono ?_
  rintro e v2 ⟨vo, vc, rfl, h2⟩
  have hz1 := H1.out.size
  simp only [World.size_alloc] at hz1
  have HX := hid (H1.out.trans (h2.mono (by omega)))
  have hz2 := HX.out.size
  simp only [World.size_alloc] at hz2
  have HX2 := hid (HX.out.alloc hz2 (.cells #[.int .i64 root, .int .i64 D, .int .u32 sh, .slice vo k vc] 34))
  have HB2 := hid ((HB1.out.trans (h2.mono HB1.out.size)).alloc (HB1.out.trans (h2.mono HB1.out.size)).size (.cells #[.int .i64 root, .int .i64 D, .int .u32 sh, .slice vo k vc] 34))
  clear hS h2 q0 q1 q2 q3 q4
  obtain ⟨q0, q1, q2, q3, q4⟩ := boxesFW HX2.out
  have hV := HV0.out _ HB2.out
  clear hz1 hz2 HV0 HX H1
  go_wp2_with fail
  refine hV.mono ?_
  rintro e v3 ⟨rfl, h3⟩
  have hz1 := HX2.out.size
  simp only [World.size_alloc] at hz1
  have HX3 := hid (HX2.out.trans (h3.mono (by simp only [World.size_alloc]; omega)))
  have HB3 := hid (HB2.out.trans (h3.mono HB2.out.size))
  clear hV h3 q0 q1 q2 q3 q4 hz1
  obtain ⟨q0, q1, q2, q3, q4⟩ := boxesFW HX3.out
  have hC := HC0.out v3 HB3.out
  clear HC0 HX2
  cases C1 with
  | false =>
    clear HD0
    go_wp2_with fail
    refine hC.mono ?_
    rintro e v4 ⟨rfl, h4⟩
    clear q0 q1 q2 q3 q4
    go_wp2
    go_ret
    exact ⟨rfl, HB3.out.trans (h4.mono HB3.out.size)⟩
  | true =>
    go_wp2_with fail
    refine hC.mono ?_
    rintro e v4 ⟨rfl, h4⟩
    have hz1 := HX3.out.size
    simp only [World.size_alloc] at hz1
    have HX4 := hid (HX3.out.trans (h4.mono (by omega)))
    have HB4 := hid (HB3.out.trans (h4.mono HB3.out.size))
    have hD4 := HD0.out (by first | exact trivial | rfl) v4 HB4.out
    clear q0 q1 q2 q3 q4 h4 hz1 hC HD0
    obtain ⟨q0, q1, q2, q3, q4⟩ := boxesFW HX4.out
    go_wp2_with fail
    refine hD4.mono ?_
    rintro e v5 ⟨rfl, h5⟩
    clear q0 q1 q2 q3 q4
    go_wp2
    go_ret
    exact ⟨rfl, HB4.out.trans (h5.mono HB4.out.size)⟩

theorem walkWithin_law (HL : LivesW) (o : Option Addr) (cap : Nat) (ns : List NodeD) (root cur : Int) (sh : Nat) (ro : Option Addr) (rc : Nat) (rules : List RuleD) (way : Nat) (w : World) (hF : FRd w o cap ns) (hkl : ∀ (i : Nat) (hi : i < ns.length), ns[i].kids.length ≤ 1099511627776) (hal : ∀ (i : Nat) (hi : i < ns.length), ns[i].attrs.length ≤ 1099511627776) (hru : RdR w (.slice ro rules.length rc) rules) (hrl : rules.length ≤ 1099511627776) (hs : sh < 4294967296) (h256 : way < 256) :
    Calls Try.prog 6 #[.agg #[.slice o ns.length cap], .agg #[.int .i64 root, .int .i64 cur, .int .u32 (sh : Int), .slice ro rules.length rc], .int .u8 (way : Int)] w fun e w' => e = .returned (.bool true) ∧ Below w.heap.size w w' := by
  by_cases hE : stepE ns root cur rules way = 0
  · have hE0 : wrongE ns [root, cur] rules = 0 ∧ isWay way = true := by
      unfold stepE at hE
      split at hE
      · rename_i h
        refine ⟨h, ?_⟩
        cases hw : isWay way with
        | true => rfl
        | false => rw [hw] at hE; exact absurd hE (by decide)
      · rename_i h; exact absurd hE h
    obtain ⟨hR, hth, hfe⟩ := wrongE_ok hE0.1
    have hrt := hth root (by simp)
    have hct := hth cur (by simp)
    obtain ⟨j, hj, _⟩ := there_idx hrt
    obtain ⟨b, off, rfl, hFA⟩ := hF.at_ (by omega)
    have hS : ∀ W : World, Below w.heap.size w W → _ := fun W hW => Step_ok b off cap ns root cur sh ro rc rules way W (hFA.later hW) hkl hal (hru.later hW) hrl hs hE
    by_cases h0 : stepD ns root sh rules way cur = 0
    · refine within_zero _ cap ns.length root cur sh ro rc rules.length way w HL (fun W hW => (hS W hW).mono ?_)
      rintro e w' ⟨vo, vc, rfl, _, hb⟩
      rw [h0, if_pos rfl]
      exact ⟨vo, vc, rfl, hb⟩
    · obtain ⟨ht, hv, hin, _⟩ := (stepD_good hR hrt sh rules hE0.2 hct).resolve_left h0
      refine within_there _ cap ns.length root cur sh ro rc rules.length way (stepD ns root sh rules way cur) (containsD ns root cur) w HL (beq_eq_false_iff_ne.2 h0) (fun W hW => (hS W hW).mono ?_) (fun W hW => ?_) (fun W hW => refContains_any b off cap root cur ns W hR (hFA.later hW) hct) (fun hc W hW => ?_)
      · rintro e w' ⟨vo, vc, rfl, _, hb⟩
        rw [if_neg h0]
        exact ⟨vo, vc, rfl, hb⟩
      · have := refVerdict_any b off cap (stepD ns root sh rules way cur) sh ro rc rules ns W hR (hFA.later hW) ht hs (hru.later hW) (filterE_ok hfe).1
        rw [hv] at this
        exact this
      · have := refContains_any b off cap root (stepD ns root sh rules way cur) ns W hR (hFA.later hW) ht
        have hc' : containsD ns root (stepD ns root sh rules way cur) = true := by
          unfold containsD at hc ⊢
          rw [List.contains_iff_mem] at hc ⊢
          exact hin hc
        rw [hc'] at this
        exact this
  · exact within_err o cap ns.length root cur sh ro rc rules.length way (stepE ns root cur rules way) w (by rw [bne, beq_eq_false_iff_ne.2 hE]; rfl) HL (fun W hW => Step_err o cap ns root cur sh ro rc rules way W (hF.later hW) hkl hal (hru.later hW) hrl h256 hE)
end Go.Proofs.Yteflknfejjdkfaa

namespace Go.Proofs.Yteflknfejjdkfaa
open Go.RowKit Go.Lib

theorem mute_bits (v : Nat) : (decide ((v : Int) < 1) || decide (3 < (v : Int))) = (!(v == 1) && !(v == 2) && !(v == 3)) := by
  by_cases h1 : v = 1
  · subst h1; rfl
  · by_cases h2 : v = 2
    · subst h2; rfl
    · by_cases h3 : v = 3
      · subst h3; rfl
      · rw [beq_eq_false_iff_ne.2 h1, beq_eq_false_iff_ne.2 h2, beq_eq_false_iff_ne.2 h3]
        by_cases h0 : (v : Int) < 1
        · rw [decide_eq_true h0]; rfl
        · rw [decide_eq_false h0, decide_eq_true (by omega : 3 < (v : Int))]; rfl

set_option maxRecDepth 100000 in
set_option maxHeartbeats 4000000 in
theorem refFilter_any (sh : Nat) (ro : Option Addr) (rc : Nat) (rules : List RuleD) (W : World) (hr : RdR W (.slice ro rules.length rc) rules) (hrl : rules.length ≤ 1099511627776) :
    Calls Try.prog 22 #[.agg #[.int .u32 (sh : Int), .slice ro rules.length rc]] W fun e w' => e = .returned (.int .i64 (filterE rules)) ∧ Below W.heap.size W w' := by
  have HB0 := hid ((Below.refl W.heap.size W).alloc (Nat.le_refl _) (.cells #[.int .u32 (sh : Int), .slice ro rules.length rc] 28))
  unfold filterE
  by_cases h64 : 64 < rules.length
  · rw [if_pos h64]
    have e1 : (64 : Int) < (rules.length : Int) := by omega
    clear hr
    go_enter Try.func22, Try.ntmps22
    go_wp2
    go_ret
    exact ⟨rfl, HB0.out⟩
  · rw [if_neg h64]
    have e1 : ¬ (64 : Int) < (rules.length : Int) := by omega
    obtain ⟨R, hR⟩ : ∃ R, rules.any mute = R := ⟨_, rfl⟩
    rw [hR]
    have HR : Hid ((rules.drop 0).any mute = R) := hR
    obtain ⟨ro', rc', hro, hcap, g⟩ := hr
    obtain ⟨rfl, rfl⟩ : ro' = ro ∧ rc' = rc := by
      simp only [Value.slice.injEq] at hro
      exact ⟨hro.1.symm, hro.2.2.symm⟩
    have G := hid g
    clear hR g hro h64
    go_enter Try.func22, Try.ntmps22
    go_wp2
    go_loopw [12] (fun t wr => ∃ k : Nat, k ≤ rules.length ∧ t = .int .i64 k ∧ Hid (Below W.heap.size W wr) ∧ Hid ((rules.drop k).any mute = R)) (fun t _ => rules.length - (RowKit.intOf t).toNat)
    case atStart => exact ⟨0, Nat.zero_le _, rfl, HB0, HR⟩
    case round =>
      obtain ⟨k, k1, rfl, hB, hK⟩ := hrel
      by_cases hlt : k < rules.length
      · obtain ⟨rb, roff, rfl, rlt, ra⟩ := G.out (by omega)
        obtain ⟨r0, r1, r2⟩ := (ra k hlt).later rlt hB.out
        have p1 : (0 : Int) ≤ (k : Int) := by omega
        have p2 : (k : Int) < (rules.length : Int) := by omega
        have hkk := hK.out
        rw [List.drop_eq_getElem_cons hlt, List.any_cons] at hkk
        have Hk := hid hkk
        clear hkk hK ra G HR
        generalize rules[k] = r at *
        obtain ⟨y0, y1, y2⟩ := r
        have hm : mute ⟨y0, y1, y2⟩ = (decide ((y2 : Int) < 1) || decide (3 < (y2 : Int))) := (mute_bits y2).symm
        rw [hm] at Hk
        simp only at *
        have HB2 := hid (hB.out.alloc hB.out.size (.cells #[.int .u8 (y0 : Int), .string y1, .int .u8 (y2 : Int)] 70))
        clear hm
        by_cases a1 : (y2 : Int) < 1
        · have hRt : R = true := by rw [← Hk.out, decide_eq_true a1]; rfl
          subst hRt
          clear Hk
          go_wp2
          go_ret
          exact ⟨rfl, HB2.out⟩
        · by_cases a2 : 3 < (y2 : Int)
          · have hRt : R = true := by rw [← Hk.out, decide_eq_true a2, Bool.or_true]; rfl
            subst hRt
            clear Hk
            go_wp2
            go_ret
            exact ⟨rfl, HB2.out⟩
          · have Hn : Hid ((rules.drop (k + 1)).any mute = R) := by
              have := Hk.out
              rw [decide_eq_false a1, decide_eq_false a2] at this
              exact this
            clear Hk
            go_wp2
            go_roundw
            case rel => exact ⟨k + 1, by omega, by go_num, HB2, Hn⟩
            case measure => simp [RowKit.intOf]; omega
      · have hRf : R = false := by
          rw [← hK.out, List.drop_eq_nil_of_le (by omega)]
          rfl
        subst hRf
        clear hK G HR
        go_wp2
        go_ret
        exact ⟨rfl, hB.out⟩

theorem box1f {w V : World} {a : Value} {t : TypeId} (hb : Below (w.alloc (.cells #[a] t)).heap.size (w.alloc (.cells #[a] t)) V) : V.cell? ⟨w.heap.size, 0, none⟩ = some a :=
  (hb.cell (p := ⟨w.heap.size, 0, none⟩) (by simp)).trans (by simp)
theorem missE_one {ns : List NodeD} {x : Int} : missE ns [x] = if rightD ns then (if thereB ns.length x then 0 else 2) else 5 := by
  unfold missE
  simp only [List.all_cons, List.all_nil, Bool.and_true]

set_option maxRecDepth 100000 in
set_option maxHeartbeats 4000000 in
theorem ref05Wrong_any (o : Option Addr) (cap : Nat) (x : Int) (ns : List NodeD) (w : World) (hF : FRd w o cap ns) (hkl : ∀ (i : Nat) (hi : i < ns.length), ns[i].kids.length ≤ 1099511627776) (hal : ∀ (i : Nat) (hi : i < ns.length), ns[i].attrs.length ≤ 1099511627776) :
    Calls Try.prog 21 #[.agg #[.slice o ns.length cap], .int .i64 x] w fun e w' => e = .returned (.int .i64 (missE ns [x])) ∧ Below w.heap.size w w' := by
  have hB0 : Below w.heap.size w (w.alloc (.cells #[.slice o ns.length cap] 24)) := (Below.refl _ w).alloc (Nat.le_refl _) _
  have HR := hid (refRight_any o cap ns _ (hF.later hB0) hkl hal)
  have HN : Hid (∀ W : World, Below w.heap.size w W → _) := fun W hW => refNode_any o cap x ns W (hF.later hW)
  have HB0 := hid hB0
  rw [missE_one]
  clear hF hkl hal hB0
  cases hr : rightD ns with
  | false =>
    rw [hr] at HR
    rw [if_neg Bool.false_ne_true]
    clear hr HN
    go_enter Try.func21, Try.ntmps21
    go_wp2_with fail
    refine HR.out.mono ?_
    rintro e v1 ⟨rfl, hb⟩
    go_wp2
    go_ret
    exact ⟨rfl, HB0.out.trans (hb.mono HB0.out.size)⟩
  | true =>
    rw [hr] at HR
    rw [if_pos rfl]
    clear hr
    cases ht : thereB ns.length x with
    | false =>
      rw [ht] at HN
      rw [if_neg Bool.false_ne_true]
      clear ht
      go_enter Try.func21, Try.ntmps21
      go_wp2_with fail
      refine HR.out.mono ?_
      rintro e v1 ⟨rfl, hb⟩
      have q0 := box1f hb
      have HB1 := hid (HB0.out.trans (hb.mono HB0.out.size))
      have hN := HN.out v1 HB1.out
      clear hb HN
      go_wp2_with fail
      refine hN.mono ?_
      rintro e v2 ⟨L, rfl, h1, h2, h3, hb⟩
      obtain ⟨D, A, K⟩ := L
      obtain ⟨od, cd, e1, _⟩ := h1
      obtain ⟨oa, ca, e2, _⟩ := h2
      obtain ⟨ok, ck, e3, _⟩ := h3
      simp only at e1 e2 e3
      subst e1 e2 e3
      have HB2 := hid (HB1.out.trans (hb.mono HB1.out.size))
      unfold nodeV
      clear hb hN q0
      go_wp2
      go_ret
      exact ⟨rfl, HB2.out.alloc HB2.out.size _⟩
    | true =>
      rw [ht] at HN
      rw [if_pos rfl]
      clear ht
      go_enter Try.func21, Try.ntmps21
      go_wp2_with fail
      refine HR.out.mono ?_
      rintro e v1 ⟨rfl, hb⟩
      have q0 := box1f hb
      have HB1 := hid (HB0.out.trans (hb.mono HB0.out.size))
      have hN := HN.out v1 HB1.out
      clear hb HN
      go_wp2_with fail
      refine hN.mono ?_
      rintro e v2 ⟨L, rfl, h1, h2, h3, hb⟩
      obtain ⟨D, A, K⟩ := L
      obtain ⟨od, cd, e1, _⟩ := h1
      obtain ⟨oa, ca, e2, _⟩ := h2
      obtain ⟨ok, ck, e3, _⟩ := h3
      simp only at e1 e2 e3
      subst e1 e2 e3
      have HB2 := hid (HB1.out.trans (hb.mono HB1.out.size))
      unfold nodeV
      clear hb hN q0
      go_wp2
      go_ret
      exact ⟨rfl, HB2.out.alloc HB2.out.size _⟩
end Go.Proofs.Yteflknfejjdkfaa

namespace Go.Proofs.Yteflknfejjdkfaa
open Go.RowKit Go.Lib Go.Shelf

theorem boxesFT {w V : World} {f c d : Value} {t u : TypeId} (hb : Below (w.heap.size + 2) ((w.alloc (.cells #[f] t)).alloc (.cells #[c, d] u)) V) :
    V.cell? ⟨w.heap.size, 0, none⟩ = some f ∧ V.cell? ⟨w.heap.size + 1, 0, none⟩ = some c ∧ V.cell? ⟨w.heap.size + 1, 1, none⟩ = some d := by
  have hn : V.heap[w.heap.size + 1]? = some (.cells #[c, d] u) := by
    have := vheapW (w.alloc (.cells #[f] t)) (.cells #[c, d] u)
    rw [World.size_alloc] at this
    exact (hb.block (w.heap.size + 1) (by omega)).trans this
  have hk : ∀ j : Nat, V.cell? ⟨w.heap.size + 1, j, none⟩ = #[c, d][j]? := fun j => by
    unfold World.cell?
    simp only [hn]
    exact if_neg (by decide)
  exact ⟨(hb.cell (p := ⟨w.heap.size, 0, none⟩) (by show w.heap.size < w.heap.size + 2; omega)).trans (by simp), (hk 0).trans rfl, (hk 1).trans rfl⟩

section
variable {w : World} {o : Option Addr} {cap n k : Nat} {sh x : Int} {ro : Option Addr} {rc : Nat}
set_option maxRecDepth 100000 in
set_option maxHeartbeats 4000000 in
theorem refAccept_miss (M : Int) (h0 : (M == 0) = false)
    (HM : ∀ W : World, Below w.heap.size w W → Calls Try.prog 21 #[.agg #[.slice o n cap], .int .i64 x] W fun e w' => e = .returned (.int .i64 M) ∧ Below W.heap.size W w') :
    Calls Try.prog 8 #[.agg #[.slice o n cap], .agg #[.int .u32 sh, .slice ro k rc], .int .i64 x] w fun e w' => e = .returned (.tuple #[.int .u8 0, .int .i64 M]) ∧ Below w.heap.size w w' := by
  have HB0 := hid (below_two w (.cells #[.slice o n cap] 24) (.cells #[.int .u32 sh, .slice ro k rc] 28))
  have hM := HM _ HB0.out
  have h1 : (M != 0) = true := by rw [bne, h0]; rfl
  clear HM
  go_enter Try.func8, Try.ntmps8
  go_wp2_with fail
  refine hM.mono ?_
  rintro e v1 ⟨rfl, hb⟩
  have HB1 := hid (HB0.out.trans (hb.mono HB0.out.size))
  clear hM hb
  go_wp2
  go_ret2
  exact ⟨rfl, HB1.out⟩
set_option maxRecDepth 100000 in
set_option maxHeartbeats 4000000 in
theorem refAccept_filter (E : Int) (h0 : (E != 0) = true)
    (HM : ∀ W : World, Below w.heap.size w W → Calls Try.prog 21 #[.agg #[.slice o n cap], .int .i64 x] W fun e w' => e = .returned (.int .i64 0) ∧ Below W.heap.size W w')
    (HE : ∀ W : World, Below w.heap.size w W → Calls Try.prog 22 #[.agg #[.int .u32 sh, .slice ro k rc]] W fun e w' => e = .returned (.int .i64 E) ∧ Below W.heap.size W w') :
    Calls Try.prog 8 #[.agg #[.slice o n cap], .agg #[.int .u32 sh, .slice ro k rc], .int .i64 x] w fun e w' => e = .returned (.tuple #[.int .u8 0, .int .i64 E]) ∧ Below w.heap.size w w' := by
  have HB0 := hid (below_two w (.cells #[.slice o n cap] 24) (.cells #[.int .u32 sh, .slice ro k rc] 28))
  have hM := HM _ HB0.out
  have HE0 := hid HE
  clear HM HE
  go_enter Try.func8, Try.ntmps8
  go_wp2_with fail
  refine hM.mono ?_
  rintro e v1 ⟨rfl, hb⟩
  simp only [World.size_alloc] at hb
  obtain ⟨q0, q1, q2⟩ := boxesFT hb
  have HB1 := hid (HB0.out.trans (hb.mono (by omega)))
  have hE := HE0.out v1 HB1.out
  clear hM hb HE0
  go_wp2_with fail
  refine hE.mono ?_
  rintro e v2 ⟨rfl, hb⟩
  clear q0 q1 q2 hE
  go_wp2
  go_ret2
  exact ⟨rfl, HB1.out.trans (hb.mono HB1.out.size)⟩
set_option maxRecDepth 100000 in
set_option maxHeartbeats 4000000 in
theorem refAccept_good (v : Nat)
    (HM : ∀ W : World, Below w.heap.size w W → Calls Try.prog 21 #[.agg #[.slice o n cap], .int .i64 x] W fun e w' => e = .returned (.int .i64 0) ∧ Below W.heap.size W w')
    (HE : ∀ W : World, Below w.heap.size w W → Calls Try.prog 22 #[.agg #[.int .u32 sh, .slice ro k rc]] W fun e w' => e = .returned (.int .i64 0) ∧ Below W.heap.size W w')
    (HV : ∀ W : World, Below w.heap.size w W → Calls Try.prog 16 #[.agg #[.slice o n cap], .agg #[.int .u32 sh, .slice ro k rc], .int .i64 x] W fun e w' => e = .returned (.int .u8 (v : Int)) ∧ Below W.heap.size W w') :
    Calls Try.prog 8 #[.agg #[.slice o n cap], .agg #[.int .u32 sh, .slice ro k rc], .int .i64 x] w fun e w' => e = .returned (.tuple #[.int .u8 (v : Int), .int .i64 0]) ∧ Below w.heap.size w w' := by
  have HB0 := hid (below_two w (.cells #[.slice o n cap] 24) (.cells #[.int .u32 sh, .slice ro k rc] 28))
  have hM := HM _ HB0.out
  have HE0 := hid HE
  have HV0 := hid HV
  clear HM HE HV
  go_enter Try.func8, Try.ntmps8
  go_wp2_with fail
  refine hM.mono ?_
  rintro e v1 ⟨rfl, hb⟩
  simp only [World.size_alloc] at hb
  obtain ⟨q0, q1, q2⟩ := boxesFT hb
  have HX := hid hb
  have HB1 := hid (HB0.out.trans (hb.mono (by omega)))
  have hE := HE0.out v1 HB1.out
  clear hM hb HE0
  go_wp2_with fail
  refine hE.mono ?_
  rintro e v2 ⟨rfl, hb⟩
  clear q0 q1 q2 hE
  have hz := HX.out.size
  simp only [World.size_alloc] at hz
  obtain ⟨q0, q1, q2⟩ := boxesFT (HX.out.trans (hb.mono (by omega)))
  have HB2 := hid (HB1.out.trans (hb.mono HB1.out.size))
  have hV := HV0.out v2 HB2.out
  clear hb HX HV0 hz
  go_wp2_with fail
  refine hV.mono ?_
  rintro e v3 ⟨rfl, hb⟩
  clear q0 q1 q2 hV
  go_wp2
  go_ret2
  exact ⟨rfl, HB2.out.trans (hb.mono HB2.out.size)⟩
end
/-- What a filter says, and why not. -/
def acceptV (ns : List NodeD) (sh : Nat) (rules : List RuleD) (x : Int) : Nat := if wrongE ns [x] rules = 0 then verdictOf ns sh rules x else 0
theorem refAccept_any (o : Option Addr) (cap : Nat) (ns : List NodeD) (x : Int) (sh : Nat) (ro : Option Addr) (rc : Nat) (rules : List RuleD) (w : World) (hF : FRd w o cap ns) (hkl : ∀ (i : Nat) (hi : i < ns.length), ns[i].kids.length ≤ 1099511627776) (hal : ∀ (i : Nat) (hi : i < ns.length), ns[i].attrs.length ≤ 1099511627776) (hru : RdR w (.slice ro rules.length rc) rules) (hrl : rules.length ≤ 1099511627776) (hs : sh < 4294967296) :
    Calls Try.prog 8 #[.agg #[.slice o ns.length cap], .agg #[.int .u32 (sh : Int), .slice ro rules.length rc], .int .i64 x] w fun e w' => e = .returned (.tuple #[.int .u8 (acceptV ns sh rules x : Int), .int .i64 (wrongE ns [x] rules)]) ∧ Below w.heap.size w w' := by
  have hM : ∀ W : World, Below w.heap.size w W → _ := fun W hW => ref05Wrong_any o cap x ns W (hF.later hW) hkl hal
  have hE : ∀ W : World, Below w.heap.size w W → _ := fun W hW => refFilter_any sh ro rc rules W (hru.later hW) hrl
  unfold acceptV
  by_cases hm : missE ns [x] = 0
  · have hw : wrongE ns [x] rules = filterE rules := by unfold wrongE; rw [if_pos hm]
    rw [hm] at hM
    rw [hw]
    by_cases hf : filterE rules = 0
    · rw [if_pos hf]
      rw [hf] at hE ⊢
      obtain ⟨hR, hth, hfe⟩ := wrongE_ok (hw.trans hf)
      have hx := hth x (by simp)
      obtain ⟨j, hj, _⟩ := there_idx hx
      obtain ⟨b, off, rfl, hFA⟩ := hF.at_ (by omega)
      exact refAccept_good (verdictOf ns sh rules x) hM hE (fun W hW => refVerdict_any b off cap x sh ro rc rules ns W hR (hFA.later hW) hx hs (hru.later hW) (filterE_ok hfe).1)
    · rw [if_neg hf]
      exact refAccept_filter (filterE rules) (by rw [bne, beq_eq_false_iff_ne.2 hf]; rfl) hM hE
  · have hw : wrongE ns [x] rules = missE ns [x] := by unfold wrongE; rw [if_neg hm]
    rw [hw, if_neg hm]
    exact refAccept_miss (missE ns [x]) (beq_eq_false_iff_ne.2 hm) hM
end Go.Proofs.Yteflknfejjdkfaa

namespace Go.Proofs.Yteflknfejjdkfaa
open Go.RowKit Go.Lib Go.Shelf

theorem below_three (w : World) (o1 o2 o3 : Obj) : Below w.heap.size w (((w.alloc o1).alloc o2).alloc o3) := (((Below.refl _ w).alloc (Nat.le_refl _) _).alloc (by simp) _).alloc (by simp; omega) _

set_option maxRecDepth 100000 in
set_option maxHeartbeats 4000000 in
theorem Accept_err (o : Option Addr) (cap : Nat) (ns : List NodeD) (x : Int) (sh : Nat) (ro : Option Addr) (rc : Nat) (rules : List RuleD) (w : World) (hF : FRd w o cap ns) (hkl : ∀ (i : Nat) (hi : i < ns.length), ns[i].kids.length ≤ 1099511627776) (hal : ∀ (i : Nat) (hi : i < ns.length), ns[i].attrs.length ≤ 1099511627776) (hru : RdR w (.slice ro rules.length rc) rules) (hrl : rules.length ≤ 1099511627776) (hE : wrongE ns [x] rules ≠ 0) :
    Calls Try.prog 7 #[.agg #[.slice o ns.length cap], .agg #[.int .u32 (sh : Int), .slice ro rules.length rc], .int .i64 x] w fun e w' => e = .returned (.tuple #[.int .u8 0, .int .i64 (wrongE ns [x] rules)]) ∧ Below w.heap.size w w' := by
  have HB0 := hid (below_three w (.cells #[.slice o ns.length cap] 24) (.cells #[.int .u32 (sh : Int), .slice ro rules.length rc] 28) (.cells #[.int .i64 x] 3))
  have kr := one_rdI ((w.alloc (.cells #[.slice o ns.length cap] 24)).alloc (.cells #[.int .u32 (sh : Int), .slice ro rules.length rc] 28)) x 3
  simp only [World.size_alloc] at kr
  have HW := hid (wrong_any o cap sh ro rc rules _ [x] ns _ (hF.later HB0.out) hkl hal kr (by simp) (hru.later HB0.out) hrl)
  have n0 : (wrongE ns [x] rules != 0) = true := by rw [bne, beq_eq_false_iff_ne.2 hE]; rfl
  clear hF hkl hal hru kr hE
  generalize wrongE ns [x] rules = E at *
  go_enter Try.func7, Try.ntmps7
  go_wp2_with fail
  refine HW.out.mono ?_
  rintro e v1 ⟨rfl, hb⟩
  have HB1 := hid (HB0.out.trans (hb.mono HB0.out.size))
  clear hb HW
  go_wp2
  go_ret2
  exact ⟨rfl, HB1.out⟩

theorem boxes3T {w V : World} {f c d : Value} {t u : TypeId} {o3 : Obj} (hb : Below (w.heap.size + 1 + 1 + 1) (((w.alloc (.cells #[f] t)).alloc (.cells #[c, d] u)).alloc o3) V) :
    V.cell? ⟨w.heap.size, 0, none⟩ = some f ∧ V.cell? ⟨w.heap.size + 1, 0, none⟩ = some c ∧ V.cell? ⟨w.heap.size + 1, 1, none⟩ = some d :=
  boxesFT (((Below.refl (w.heap.size + 2) _).alloc (by simp) o3).trans (hb.mono (by omega)))
set_option maxRecDepth 100000 in
set_option maxHeartbeats 4000000 in
theorem Accept_ok (b off cap : Nat) (ns : List NodeD) (x : Int) (sh : Nat) (ro : Option Addr) (rc : Nat) (rules : List RuleD) (w : World) (hF : FAt w b off cap ns) (hkl : ∀ (i : Nat) (hi : i < ns.length), ns[i].kids.length ≤ 1099511627776) (hal : ∀ (i : Nat) (hi : i < ns.length), ns[i].attrs.length ≤ 1099511627776) (hru : RdR w (.slice ro rules.length rc) rules) (hs : sh < 4294967296) (hE : wrongE ns [x] rules = 0) :
    Calls Try.prog 7 #[.agg #[.slice (some ⟨b, off, none⟩) ns.length cap], .agg #[.int .u32 (sh : Int), .slice ro rules.length rc], .int .i64 x] w fun e w' => e = .returned (.tuple #[.int .u8 (verdictOf ns sh rules x : Int), .int .i64 0]) ∧ Below w.heap.size w w' := by
  obtain ⟨hR, hth, hfe⟩ := wrongE_ok hE
  have hx := hth x (by simp)
  have hfew := (filterE_ok hfe).1
  have HB0 := hid (below_three w (.cells #[.slice (some ⟨b, off, none⟩) ns.length cap] 24) (.cells #[.int .u32 (sh : Int), .slice ro rules.length rc] 28) (.cells #[.int .i64 x] 3))
  have kr := one_rdI ((w.alloc (.cells #[.slice (some ⟨b, off, none⟩) ns.length cap] 24)).alloc (.cells #[.int .u32 (sh : Int), .slice ro rules.length rc] 28)) x 3
  simp only [World.size_alloc] at kr
  have HW := hid (wrong_any (some ⟨b, off, none⟩) cap sh ro rc rules _ [x] ns _ ((⟨hF.len, fun _ => ⟨b, off, rfl, hF⟩⟩ : FRd w (some ⟨b, off, none⟩) cap ns).later HB0.out) hkl hal kr (by simp) (hru.later HB0.out) (by omega))
  rw [hE] at HW
  obtain ⟨j, hj, rfl⟩ := there_idx hx
  rw [verdictOf_at ns sh rules j hj]
  have hle := hF.len
  have q1 : (0 : Int) ≤ (j : Int) := by omega
  have q2 : (j : Int) < (ns.length : Int) := by omega
  have hwr : IntKind.i64.wrap (j : Int) = (j : Int) := by simp [IntKind.wrap, IntKind.bits, IntKind.signed]; omega
  have hin : 0 ≤ (j : Int) ∧ (j : Int) < (ns.length : Int) := by omega
  have hwr2 : (j : Int) + 1 - 1 = (j : Int) := by omega
  obtain ⟨L, hc, hd, ha, hk⟩ := hF.at_ j hj
  have HC := hid hc
  have hlt := hF.lt
  have hkn : knownK ns[j].kind = true := (well_parts (hR.well j hj)).1
  obtain ⟨D, A, K⟩ := L
  obtain ⟨od, cd, e1, _⟩ := hd
  obtain ⟨oa, ca, e2, _⟩ := ha
  obtain ⟨ok, ck, e3, _⟩ := hk
  simp only at e1 e2 e3
  subst e1 e2 e3
  have HV : Hid (∀ V : World, Below w.heap.size w V → _) := fun V hV => verdict_any sh ro rc rules ns[j] od oa ok ns[j].data.length cd ns[j].attrs.length ca ns[j].kids.length ck V hkn hs (hru.later hV) hfew
  unfold nodeV at HV
  clear hc hF hkl hal hru kr hE hR hth hfe hx hkn hfew
  generalize verdictD sh rules ns[j].kind ns[j].loc = R at *
  generalize ns[j] = n at *
  go_enter Try.func7, Try.ntmps7
  go_upto_region 4 with (go_at_call 19; refine HW.out.mono ?_; rintro e v1 ⟨rfl, hb⟩; have HB1 := hid (HB0.out.trans (hb.mono HB0.out.size)); have HX := hid hb; clear hb)
  have hX := HX.out
  simp only [World.size_alloc] at hX
  obtain ⟨c0, c1, c2, c3, c4, c5, c6, c7, c8, c9, c10, c11, c12, c13, c14, c15⟩ := HC.out.later hlt HB1.out
  obtain ⟨q0, r0, r1⟩ := boxes3T hX
  simp only at c6 c7 c9
  clear hX HX HW HB0 HC
  go_region_law (first
    | (refine wstep_call _ rfl (.tmp 17) (.tmp 23) 28 64 20 rfl (.agg #[.int .u32 (sh : Int), .slice ro rules.length rc]) (.agg #[.int .u8 (n.kind : Int), .string n.space, .string n.pre, .string n.loc, .string n.pub, .string n.sys, .slice od n.data.length cd, .slice oa n.attrs.length ca, .int .i64 n.parent, .slice ok n.kids.length ck, .int .i64 n.doc, .int .i64 n.host, .int .i64 n.shadow, .int .u8 (n.mode : Int), .bool n.manual, .bool n.html]) (by simp [Act.eval]) (by simp [Act.eval]) (enterVerdict _ _ _) _ (HV.out _ HB1.out.drew) ?_; rintro e v2 ⟨rfl, hb1⟩; refine ⟨_, rfl, ?_⟩; have HB2 := hid (Below.trans HB1.out.drew (hb1.mono (Below.size HB1.out.drew))); clear hb1)
    | (refine wstep_call _ rfl (.tmp 17) (.tmp 23) 28 64 20 rfl (.agg #[.int .u32 (sh : Int), .slice ro rules.length rc]) (.agg #[.int .u8 (n.kind : Int), .string n.space, .string n.pre, .string n.loc, .string n.pub, .string n.sys, .slice od n.data.length cd, .slice oa n.attrs.length ca, .int .i64 n.parent, .slice ok n.kids.length ck, .int .i64 n.doc, .int .i64 n.host, .int .i64 n.shadow, .int .u8 (n.mode : Int), .bool n.manual, .bool n.html]) (by simp [Act.eval]) (by simp [Act.eval]) (enterVerdict _ _ _) _ (HV.out _ HB1.out) ?_; rintro e v2 ⟨rfl, hb1⟩; refine ⟨_, rfl, ?_⟩; have HB2 := hid (Below.trans HB1.out (hb1.mono (Below.size HB1.out))); clear hb1))
  all_goals
    go_wp2
    go_ret2
    exact ⟨rfl, HB2.out⟩
end Go.Proofs.Yteflknfejjdkfaa

namespace Go.Proofs.Yteflknfejjdkfaa
open Go.RowKit Go.Lib Go.Shelf

theorem boxes44 {w V : World} {a0 a1 a2 a3 b0 b1 b2 b3 : Value} {t u : TypeId} (hb : Below (w.heap.size + 2) ((w.alloc (.cells #[a0, a1, a2, a3] t)).alloc (.cells #[b0, b1, b2, b3] u)) V) :
    (V.cell? ⟨w.heap.size, 0, none⟩ = some a0 ∧ V.cell? ⟨w.heap.size, 1, none⟩ = some a1 ∧ V.cell? ⟨w.heap.size, 2, none⟩ = some a2 ∧ V.cell? ⟨w.heap.size, 3, none⟩ = some a3) ∧ V.cell? ⟨w.heap.size + 1, 0, none⟩ = some b0 ∧ V.cell? ⟨w.heap.size + 1, 1, none⟩ = some b1 ∧ V.cell? ⟨w.heap.size + 1, 2, none⟩ = some b2 ∧ V.cell? ⟨w.heap.size + 1, 3, none⟩ = some b3 := by
  have hn : V.heap[w.heap.size + 1]? = some (.cells #[b0, b1, b2, b3] u) := by
    have := vheapW (w.alloc (.cells #[a0, a1, a2, a3] t)) (.cells #[b0, b1, b2, b3] u)
    rw [World.size_alloc] at this
    exact (hb.block (w.heap.size + 1) (by omega)).trans this
  have hm : V.heap[w.heap.size]? = some (.cells #[a0, a1, a2, a3] t) := by
    refine (hb.block w.heap.size (by omega)).trans ?_
    rw [Below.heap_alloc _ _ _ (by simp)]
    exact vheapW w _
  have hk : ∀ j : Nat, V.cell? ⟨w.heap.size + 1, j, none⟩ = #[b0, b1, b2, b3][j]? := fun j => by
    unfold World.cell?
    simp only [hn]
    exact if_neg (by decide)
  have hl : ∀ j : Nat, V.cell? ⟨w.heap.size, j, none⟩ = #[a0, a1, a2, a3][j]? := fun j => by
    unfold World.cell?
    simp only [hm]
    exact if_neg (by decide)
  exact ⟨⟨(hl 0).trans rfl, (hl 1).trans rfl, (hl 2).trans rfl, (hl 3).trans rfl⟩, (hk 0).trans rfl, (hk 1).trans rfl, (hk 2).trans rfl, (hk 3).trans rfl⟩

set_option maxRecDepth 100000 in
set_option maxHeartbeats 4000000 in
theorem sameW_any (root cur sh : Int) (ro ro2 : Option Addr) (rc rc2 : Nat) (rules : List RuleD) (w : World) (h1 : RdR w (.slice ro rules.length rc) rules) (h2 : RdR w (.slice ro2 rules.length rc2) rules) (hrl : rules.length ≤ 1099511627776) :
    Calls Try.prog 12 #[.agg #[.int .i64 root, .int .i64 cur, .int .u32 sh, .slice ro rules.length rc], .agg #[.int .i64 root, .int .i64 cur, .int .u32 sh, .slice ro2 rules.length rc2]] w fun e w' => e = .returned (.bool true) ∧ Below w.heap.size w w' := by
  have hB0 : Below w.heap.size w ((w.alloc (.cells #[.int .i64 root, .int .i64 cur, .int .u32 sh, .slice ro rules.length rc] 34)).alloc (.cells #[.int .i64 root, .int .i64 cur, .int .u32 sh, .slice ro2 rules.length rc2] 34)) := ((Below.refl _ w).alloc (Nat.le_refl _) _).alloc (by simp) _
  obtain ⟨⟨a0, a1, a2, a3⟩, b0, b1, b2, b3⟩ := boxes44 (Below.refl (w.heap.size + 2) ((w.alloc (.cells #[.int .i64 root, .int .i64 cur, .int .u32 sh, .slice ro rules.length rc] 34)).alloc (.cells #[.int .i64 root, .int .i64 cur, .int .u32 sh, .slice ro2 rules.length rc2] 34)))
  have e1 : (root != root) = false := bne_self_eq_false _
  have e2 : (cur != cur) = false := bne_self_eq_false _
  have e3 : (sh != sh) = false := bne_self_eq_false _
  have e4 : ((rules.length : Int) != (rules.length : Int)) = false := bne_self_eq_false _
  obtain ⟨o1, c1, he1, hc1, g1⟩ := h1
  obtain ⟨rfl, rfl⟩ : o1 = ro ∧ c1 = rc := by
    simp only [Value.slice.injEq] at he1
    exact ⟨he1.1.symm, he1.2.2.symm⟩
  obtain ⟨o2, c2, he2, hc2, g2⟩ := h2
  obtain ⟨rfl, rfl⟩ : o2 = ro2 ∧ c2 = rc2 := by
    simp only [Value.slice.injEq] at he2
    exact ⟨he2.1.symm, he2.2.2.symm⟩
  have G1 := hid g1
  have G2 := hid g2
  have HB0 := hid hB0
  clear g1 g2 he1 he2 hB0
  generalize hV : ((w.alloc (.cells #[.int .i64 root, .int .i64 cur, .int .u32 sh, .slice o1 rules.length c1] 34)).alloc (.cells #[.int .i64 root, .int .i64 cur, .int .u32 sh, .slice o2 rules.length c2] 34)) = V at *
  go_enter Try.func12, Try.ntmps12
  have HV := hid hV
  clear hV
  go_wp2
  go_loopw [42] (fun t wr => ∃ k m : Nat, k ≤ rules.length ∧ t = .int .i64 k ∧ wr = V.drewN m) (fun t _ => rules.length - (RowKit.intOf t).toNat)
  case atStart => exact ⟨0, 0, Nat.zero_le _, rfl, HV.out⟩
  case round =>
    obtain ⟨k, m, k1, rfl, rfl⟩ := hrel
    by_cases l1 : k < rules.length
    · obtain ⟨b1', off1, rfl, hlt1, ha1⟩ := G1.out (by omega)
      obtain ⟨b2', off2, rfl, hlt2, ha2⟩ := G2.out (by omega)
      obtain ⟨x0, x1, x2⟩ := (ha1 k l1).later hlt1 HB0.out
      obtain ⟨y0, y1, y2⟩ := (ha2 k l1).later hlt2 HB0.out
      have q1 : (0 : Int) ≤ (k : Int) := by omega
      have q2 : (k : Int) < (rules.length : Int) := by omega
      clear ha1 ha2 G1 G2
      generalize rules[k] = r at *
      obtain ⟨r0, r1, r2⟩ := r
      simp only at *
      go_upto_region 6 with fail
      go_quiet (fail)
      go_wp2
      go_roundw
      case rel => exact ⟨k + 1, m + nq, by omega, by go_num, by simp⟩
      case measure => simp [RowKit.intOf]; omega
    · have hkp : k = rules.length := by omega
      subst hkp
      clear G1 G2 l1 k1
      go_wp2
      go_ret
      exact ⟨rfl, HB0.out.trans ((drewN_below _ _ _).mono HB0.out.size)⟩
end Go.Proofs.Yteflknfejjdkfaa

namespace Go.Proofs.Yteflknfejjdkfaa
open Go.RowKit

section
variable {P : Program} {md : Region.Mode} {ops : Array Oper} {Q : Exit → Act → World → Prop} {S : World → Prop}

theorem wpAnyH_skips (us : List (Nat × Nat)) (fuel : Nat) {listed : Array Bool} {a : Act} {w : World} (hS : S w) (hs : Region.noSelect ops = true) (hQ : ∀ c (a : Act) (t : Tmp) (v : Value) w, Q (.panic c) (a.put (some t) v) w → Q (.panic c) a w) (h1 : skipsOk md ops us listed = true) (h2 : unwanted ops us a = true)
    (h : wpAnyH P md ops Q S fuel (listedAfter us listed) (actAfter us a) w) : wpAnyH P md ops Q S (fuel + us.length) listed a w := by
  induction us generalizing listed a with
  | nil => exact h
  | cons i us ih =>
    simp only [skipsOk, Bool.and_eq_true, beq_iff_eq, Option.map_eq_some_iff] at h1
    obtain ⟨⟨oi, hoi, hd⟩, g2, g3, g4⟩ := h1
    simp only [unwanted, Bool.and_eq_true, hoi, Option.map_some, Option.getD_some, Bool.not_eq_true'] at h2
    simp only [actAfter, listedAfter] at h
    refine wpAnyH_take (i := i.1) (v := undef) hoi hs g2 g3 (fun c a w h => hQ c a i.2 _ w (hd ▸ h)) (Or.inr ⟨h2.1, rfl⟩) hS ?_
    rw [hd]
    exact ih g4 h2.2 h
/-- An operation that yields a value in every world that meets the condition, taken first. -/
theorem wpAnyH_one (i t : Nat) (v : Value) {oi : Oper} {fuel : Nat} {listed : Array Bool} {a : Act} {w : World} (hS : S w) (hi : ops[i]? = some oi) (hd : oi.dst = some t) (hs : Region.noSelect ops = true) (hQ : ∀ c (a : Act) (t : Tmp) (v : Value) w, Q (.panic c) (a.put (some t) v) w → Q (.panic c) a w)
    (hf : Region.free md ops listed i = true) (hr : (Region.ready md ops listed).contains i = true) (hw : Region.wanted oi (yielded ops a.tmps) = true) (hx : ∀ w, S w → (execOp a.eval oi).run P w = .ok (.value v) w)
    (h : wpAnyH P md ops Q S fuel (listed.setIfInBounds i true) (a.put (some t) v) w) : wpAnyH P md ops Q S (fuel + 1) listed a w :=
  wpAnyH_take (i := i) (v := v) hi hs hf hr (fun c a w h => hQ c a t _ w (hd ▸ h)) (Or.inl ⟨hw, hx⟩) hS (hd ▸ h)
end
end Go.Proofs.Yteflknfejjdkfaa

namespace Go.Proofs.Yteflknfejjdkfaa
open Go.RowKit Go.Lib Go.Shelf

theorem three_heapN {w V : World} {o1 o2 o3 : Obj} (hb : Below (w.heap.size + 1 + 1 + 1) (((w.alloc o1).alloc o2).alloc o3) V) : V.heap[w.heap.size + 1 + 1]? = some o3 ∧ Below (w.heap.size + 2) ((w.alloc o1).alloc o2) V := by
  have hn := vheapW ((w.alloc o1).alloc o2) o3
  simp only [World.size_alloc] at hn
  exact ⟨(hb.block _ (by omega)).trans hn, ((Below.refl (w.heap.size + 2) _).alloc (by simp) o3).trans (hb.mono (by omega))⟩
theorem grown_keep {V w1 : World} {o : Obj} {v : Value} {k g : Nat} {x : Obj} (h : V.heap[k]? = some x) (hg : (V.alloc o).grownBy w1 v.ownBlock) (hv : v.ownBlock = some g) (hne : k ≠ g) : w1.heap[k]? = some x := by
  have hlt := (Array.getElem?_eq_some_iff.1 h).1
  exact (hg.block k (by simp only [World.size_alloc]; omega) (by rw [hv]; simp only [ne_eq, Option.some.injEq]; exact hne)).trans ((Below.heap_alloc V o k hlt).trans h)
theorem below_four2 {W V : World} {n B : Nat} {a b c d : Value} (h : Below n W V) (hB : n ≤ B) : Below n W ((((V.setCell ⟨B, 0, none⟩ a).setCell ⟨B, 1, none⟩ b).setCell ⟨B, 2, none⟩ c).setCell ⟨B, 3, none⟩ d) :=
  (((h.setCell (p := ⟨B, 0, none⟩) hB _).setCell (p := ⟨B, 1, none⟩) hB _).setCell (p := ⟨B, 2, none⟩) hB _).setCell (p := ⟨B, 3, none⟩) hB _
section
variable {w : World} {o : Option Addr} {cap n : Nat} {sh : Nat} {x : Int} {ro : Option Addr} {rc : Nat} {l : List RuleD}
set_option linter.unusedSimpArgs false in
set_option maxRecDepth 100000 in
set_option maxHeartbeats 4000000 in
theorem refNew_miss (M : Int) (h0 : (M == 0) = false) (HM : ∀ W : World, Below w.heap.size w W → Calls Try.prog 21 #[.agg #[.slice o n cap], .int .i64 x] W fun e w' => e = .returned (.int .i64 M) ∧ Below W.heap.size W w') :
    Calls Try.prog 10 #[.agg #[.slice o n cap], .int .i64 x, .agg #[.int .u32 (sh : Int), .slice ro l.length rc]] w fun e w' => e = .returned (.tuple #[.agg #[.int .i64 0, .int .i64 0, .int .u32 0, .slice none 0 0], .int .i64 M]) ∧ Below w.heap.size w w' := by
  have HB0 := hid (below_two w (.cells #[.slice o n cap] 24) (.cells #[.int .u32 (sh : Int), .slice ro l.length rc] 28))
  have HB3 := hid (HB0.out.alloc (by simp; omega) (.cells #[.int .i64 0, .int .i64 0, .int .u32 0, .slice none 0 0] 34))
  have hM := HM _ HB3.out
  have h1 : (M != 0) = true := by rw [bne, h0]; rfl
  clear HM
  go_enter Try.func10, Try.ntmps10
  go_wp2_with fail
  refine hM.mono ?_
  rintro e v1 ⟨rfl, hb⟩
  simp only [World.size_alloc] at hb
  obtain ⟨kw, hX⟩ := three_heapN hb
  obtain ⟨q0, q1, q2⟩ := boxesFT hX
  have HB1 := hid (HB3.out.trans (hb.mono (by omega)))
  have HX := hid hX
  have HW := hid kw
  have HH := hid hb
  clear hb hX kw hM
  clear q0 q1 q2 HX HH
  obtain ⟨i0, i1, i2, i3⟩ := cells4 HW.out
  obtain ⟨f0, f1, f2, f3⟩ := free4 HW.out
  go_wp2
  have hn := four_set HW.out (.int .i64 0) (.int .i64 0) (.int .u32 0) (.slice none 0 0)
  obtain ⟨j0, j1, j2, j3⟩ := cells4 hn
  exact bodyPost_ret (v := .tuple #[.agg #[.int .i64 0, .int .i64 0, .int .u32 0, .slice none 0 0], .int .i64 M]) (by simp [results, Try.results10, go_sem, j0, j1, j2, j3]) rfl ⟨rfl, below_four HB1.out (by omega)⟩
set_option linter.unusedSimpArgs false in
set_option maxRecDepth 100000 in
set_option maxHeartbeats 4000000 in
theorem refNew_filter (E : Int) (h0 : (E != 0) = true) (HM : ∀ W : World, Below w.heap.size w W → Calls Try.prog 21 #[.agg #[.slice o n cap], .int .i64 x] W fun e w' => e = .returned (.int .i64 0) ∧ Below W.heap.size W w') (HE : ∀ W : World, Below w.heap.size w W → Calls Try.prog 22 #[.agg #[.int .u32 (sh : Int), .slice ro l.length rc]] W fun e w' => e = .returned (.int .i64 E) ∧ Below W.heap.size W w') :
    Calls Try.prog 10 #[.agg #[.slice o n cap], .int .i64 x, .agg #[.int .u32 (sh : Int), .slice ro l.length rc]] w fun e w' => e = .returned (.tuple #[.agg #[.int .i64 0, .int .i64 0, .int .u32 0, .slice none 0 0], .int .i64 E]) ∧ Below w.heap.size w w' := by
  have HB0 := hid (below_two w (.cells #[.slice o n cap] 24) (.cells #[.int .u32 (sh : Int), .slice ro l.length rc] 28))
  have HB3 := hid (HB0.out.alloc (by simp; omega) (.cells #[.int .i64 0, .int .i64 0, .int .u32 0, .slice none 0 0] 34))
  have hM := HM _ HB3.out
  have HE0 := hid HE
  clear HM HE
  go_enter Try.func10, Try.ntmps10
  go_wp2_with fail
  refine hM.mono ?_
  rintro e v1 ⟨rfl, hb⟩
  simp only [World.size_alloc] at hb
  obtain ⟨kw, hX⟩ := three_heapN hb
  obtain ⟨q0, q1, q2⟩ := boxesFT hX
  have HB1 := hid (HB3.out.trans (hb.mono (by omega)))
  have HX := hid hX
  have HW := hid kw
  have HH := hid hb
  clear hb hX kw hM
  have hE := HE0.out v1 HB1.out
  clear HE0
  go_wp2_with fail
  refine hE.mono ?_
  rintro e v2 ⟨rfl, hb⟩
  have hz := HH.out.size
  simp only [World.size_alloc] at hz
  obtain ⟨kw, hX⟩ := three_heapN (HH.out.trans (hb.mono hz))
  have HB2 := hid (HB1.out.trans (hb.mono HB1.out.size))
  clear HB1 HX HW HH hE hz hb q0 q1 q2
  have HB1 := HB2
  have HX := hid hX
  have HW := hid kw
  clear hX kw HB2
  obtain ⟨i0, i1, i2, i3⟩ := cells4 HW.out
  obtain ⟨f0, f1, f2, f3⟩ := free4 HW.out
  go_wp2
  have hn := four_set HW.out (.int .i64 0) (.int .i64 0) (.int .u32 0) (.slice none 0 0)
  obtain ⟨j0, j1, j2, j3⟩ := cells4 hn
  exact bodyPost_ret (v := .tuple #[.agg #[.int .i64 0, .int .i64 0, .int .u32 0, .slice none 0 0], .int .i64 E]) (by simp [results, Try.results10, go_sem, j0, j1, j2, j3]) rfl ⟨rfl, below_four HB1.out (by omega)⟩
set_option linter.unusedSimpArgs false in
set_option maxRecDepth 100000 in
set_option maxHeartbeats 4000000 in
theorem refNew_good (ad : Addr) (hr : RdR w (.slice (some ad) l.length rc) l) (hl : l.length ≤ 64) (HM : ∀ W : World, Below w.heap.size w W → Calls Try.prog 21 #[.agg #[.slice o n cap], .int .i64 x] W fun e w' => e = .returned (.int .i64 0) ∧ Below W.heap.size W w') (HE : ∀ W : World, Below w.heap.size w W → Calls Try.prog 22 #[.agg #[.int .u32 (sh : Int), .slice (some ad) l.length rc]] W fun e w' => e = .returned (.int .i64 0) ∧ Below W.heap.size W w') :
    Calls Try.prog 10 #[.agg #[.slice o n cap], .int .i64 x, .agg #[.int .u32 (sh : Int), .slice (some ad) l.length rc]] w fun e w' => ∃ vo vc, e = .returned (.tuple #[.agg #[.int .i64 x, .int .i64 x, .int .u32 (sh : Int), .slice vo l.length vc], .int .i64 0]) ∧ w'.ownsRow w.heap.size 70 3 (.slice vo l.length vc) l.length (rulesC l) ∧ Below w.heap.size w w' := by
  obtain ⟨i0, hi, hz0, hz1, hz2⟩ := info_parts info_rule
  have HB0 := hid (below_two w (.cells #[.slice o n cap] 24) (.cells #[.int .u32 (sh : Int), .slice (some ad) l.length rc] 28))
  have HB3 := hid (HB0.out.alloc (by simp; omega) (.cells #[.int .i64 0, .int .i64 0, .int .u32 0, .slice none 0 0] 34))
  have hM := HM _ HB3.out
  have HE0 := hid HE
  have HR0 := hid hr
  clear HM HE hr
  go_enter Try.func10, Try.ntmps10
  go_wp2_with fail
  refine hM.mono ?_
  rintro e v1 ⟨rfl, hb⟩
  simp only [World.size_alloc] at hb
  obtain ⟨kw, hX⟩ := three_heapN hb
  obtain ⟨q0, q1, q2⟩ := boxesFT hX
  have HB1 := hid (HB3.out.trans (hb.mono (by omega)))
  have HX := hid hX
  have HW := hid kw
  have HH := hid hb
  clear hb hX kw hM
  have hE := HE0.out v1 HB1.out
  clear HE0
  go_wp2_with fail
  refine hE.mono ?_
  rintro e v2 ⟨rfl, hb⟩
  have hz := HH.out.size
  simp only [World.size_alloc] at hz
  obtain ⟨kw, hX⟩ := three_heapN (HH.out.trans (hb.mono hz))
  have HB2 := hid (HB1.out.trans (hb.mono HB1.out.size))
  clear HB1 HX HW HH hE hz hb q0 q1 q2
  have HB1 := HB2
  have HX := hid hX
  have HW := hid kw
  clear hX kw HB2
  have hnews : ∀ (j : Nat) (u : Value), (rulesC l)[j]? = some u → v2.cell? (ad.add j) = some u := fun j u hj => by
    obtain ⟨o', c', he, hc, g⟩ := HR0.out.later HB1.out
    have hp : 0 < l.length := by
      have hlt : j < (rulesC l).length := (List.getElem?_eq_some_iff.1 hj).1
      rw [rulesC_len] at hlt
      omega
    obtain ⟨b, off, h, _, ha⟩ := g hp
    simp only [Value.slice.injEq] at he
    rw [h] at he
    cases he.1
    exact rules_news ha j u hj
  have Hnews : Hid (∀ (j : Nat) (u : Value), (rulesC l)[j]? = some u → (v2.drew.alloc (.cells #[] 70)).cell? (ad.add j) = some u) := fun j u hj => cell_kept (W := v2.drew) (hnews j u hj) (World.grownBy_alloc v2.drew _ none) (fun r e => by cases e)
  have Hone := hid (rules_one l)
  have Hlen := hid (rulesC_len l)
  have Hown : Hid ((v2.drew.alloc (.cells #[] 70)).ownsRow v2.heap.size 70 3 (.slice (some ⟨v2.heap.size, 0, none⟩) 0 0) 0 []) := ⟨rfl, .inr ⟨v2.heap.size, 0, #[], rfl, Nat.le_refl _, vheapW v2.drew _, Nat.le_refl _, Nat.zero_le _, rfl, rfl⟩⟩
  have hX2 := HX.out.size
  simp only [World.size_alloc] at hX2
  have HX1 : Hid (Below (w.heap.size + 2) ((w.alloc (.cells #[.slice o n cap] 24)).alloc (.cells #[.int .u32 (sh : Int), .slice (some ad) l.length rc] 28)) (v2.drew.alloc (.cells #[] 70))) := HX.out.drew.alloc (show w.heap.size + 2 ≤ v2.heap.size from hX2) _
  have HBn : Hid (Below w.heap.size w (v2.drew.alloc (.cells #[] 70))) := HB1.out.drew.alloc (show w.heap.size ≤ v2.heap.size from HB1.out.size) _
  have hwl := (Array.getElem?_eq_some_iff.1 HW.out).1
  have hnw : w.heap.size + 1 + 1 ≠ v2.heap.size := by omega
  have m1 : 0 + l.length ≤ maxLen := by simp only [maxLen]; omega
  have m2 : (0 + l.length) * 32 ≤ 140737488355328 := by omega
  have m3 : v2.heap.size ≤ (v2.drew.alloc (.cells #[] 70)).heap.size := by rw [World.size_alloc]; exact Nat.le_succ _
  have own_lt : ∀ k, (Value.slice (some ⟨v2.heap.size, 0, none⟩) 0 0).ownBlock = some k → w.heap.size ≤ k := fun k hk => by simp only [Value.ownBlock, Option.some.injEq] at hk; have := HB1.out.size; omega
  have own_lt2 : ∀ k, (Value.slice (some ⟨v2.heap.size, 0, none⟩) 0 0).ownBlock = some k → w.heap.size + 2 ≤ k := fun k hk => by simp only [Value.ownBlock, Option.some.injEq] at hk; omega
  clear hnews HR0
  go_upto_region 6 with fail
  refine wp_region_held_drew (S := (fun V => Below (w.heap.size + 2) ((w.alloc (.cells #[.slice o n cap] 24)).alloc (.cells #[.int .u32 (sh : Int), .slice (some ad) l.length rc] 28)) V)) (by kernel_rfl) (HX.out.drew) (fun hHeld => ?_)
  refine wpAnyH_one 0 20 (.int .i64 x) hHeld rfl rfl (by kernel_rfl) (fun _ _ _ _ _ h => h) (by kernel_rfl) (by kernel_rfl) (by rfl) ?_ ?_
  · intro V hSw; (try dsimp only at hSw); go_simp
  simp only [Act.put, List.setIfInBounds_toArray, List.set_cons_zero, List.set_cons_succ]
  refine wpAnyH_one 1 21 (.int .i64 x) hHeld rfl rfl (by kernel_rfl) (fun _ _ _ _ _ h => h) (by kernel_rfl) (by kernel_rfl) (by rfl) ?_ ?_
  · intro V hSw; (try dsimp only at hSw); go_simp
  simp only [Act.put, List.setIfInBounds_toArray, List.set_cons_zero, List.set_cons_succ]
  refine wpAnyH_one 2 22 (.pointer (some ⟨w.heap.size + 1, 0, none⟩)) hHeld rfl rfl (by kernel_rfl) (fun _ _ _ _ _ h => h) (by kernel_rfl) (by kernel_rfl) (by rfl) ?_ ?_
  · intro V hSw; (try dsimp only at hSw); go_simp
  simp only [Act.put, List.setIfInBounds_toArray, List.set_cons_zero, List.set_cons_succ]
  refine wpAnyH_one 3 23 (.int .u32 (sh : Int)) hHeld rfl rfl (by kernel_rfl) (fun _ _ _ _ _ h => h) (by kernel_rfl) (by kernel_rfl) (by rfl) ?_ ?_
  · intro V hSw; (try dsimp only at hSw); obtain ⟨q0, q1, q2⟩ := boxesFT hSw; go_simp
  simp only [Act.put, List.setIfInBounds_toArray, List.set_cons_zero, List.set_cons_succ]
  refine wpAnyH_one 5 25 (.pointer (some ⟨w.heap.size + 1, 1, none⟩)) hHeld rfl rfl (by kernel_rfl) (fun _ _ _ _ _ h => h) (by kernel_rfl) (by kernel_rfl) (by rfl) ?_ ?_
  · intro V hSw; (try dsimp only at hSw); go_simp
  simp only [Act.put, List.setIfInBounds_toArray, List.set_cons_zero, List.set_cons_succ]
  refine wpAnyH_one 6 26 (.slice (some ad) l.length rc) hHeld rfl rfl (by kernel_rfl) (fun _ _ _ _ _ h => h) (by kernel_rfl) (by kernel_rfl) (by rfl) ?_ ?_
  · intro V hSw; (try dsimp only at hSw); obtain ⟨q0, q1, q2⟩ := boxesFT hSw; go_simp
  simp only [Act.put, List.setIfInBounds_toArray, List.set_cons_zero, List.set_cons_succ]
  refine wpAnyH_ready (rs := [4]) (by kernel_rfl) (by simp) ?_
  refine AllReadyH.cons rfl (fun K hK => ?_) AllReadyH.nil
  go_simp
  refine hK.out _ _ (HX1.out) (fun hHeld => ?_)
  clear hK K
  refine wpAnyH_ready (rs := [7]) (by kernel_rfl) (by simp) ?_
  refine AllReadyH.cons rfl (fun K hK => ?_) AllReadyH.nil
  refine wp_append_own _ (.tmp 24) (.tmp 26) 26 rfl v2.heap.size 70 i0 (.agg #[.int .u8 0, .string ⟨#[]⟩, .int .u8 0]) 3 32 Try.underlying26 hi hz0 hz1 hz2 rfl (by decide) (.slice (some ⟨v2.heap.size, 0, none⟩) 0 0) 0 [] rfl Hown.out ad l.length rc (rulesC l) rfl Hlen.out Hnews.out Hone.out m1 m2 m3 ?_
  intro v' w1 hown' hgrow _
  rw [Nat.zero_add, List.nil_append] at hown'
  obtain ⟨vo, vc, rfl⟩ := own_shape hown'
  have HO := hid hown'
  have HX2 := hid (HX1.out.grown hgrow (by have := HX1.out.size; simp only [World.size_alloc] at this ⊢; omega) own_lt2)
  have HB2 := hid (HBn.out.grown hgrow HBn.out.size own_lt)
  have hkw := grown_keep (V := v2.drew) HW.out hgrow rfl hnw
  have HW2 := hid hkw
  clear hown' hgrow hkw
  refine hK.out _ _ HX2.out (fun hHeld => ?_)
  clear hK K
  simp only [Act.put, List.setIfInBounds_toArray, List.set_cons_zero, List.set_cons_succ]
  refine wpAnyH_one 8 28 (.agg #[.int .u32 (sh : Int), .slice vo l.length vc]) hHeld rfl rfl (by kernel_rfl) (fun _ _ _ _ _ h => h) (by kernel_rfl) (by kernel_rfl) (by rfl) ?_ ?_
  · intro V hSw; (try dsimp only at hSw); go_simp
  simp only [Act.put, List.setIfInBounds_toArray, List.set_cons_zero, List.set_cons_succ]
  refine wpAnyH_one 9 29 (.agg #[.int .i64 x, .int .i64 x, .int .u32 (sh : Int), .slice vo l.length vc]) hHeld rfl rfl (by kernel_rfl) (fun _ _ _ _ _ h => h) (by kernel_rfl) (by kernel_rfl) (by rfl) ?_ ?_
  · intro V hSw; (try dsimp only at hSw); go_simp
  simp only [Act.put, List.setIfInBounds_toArray, List.set_cons_zero, List.set_cons_succ]
  obtain ⟨i0', i1, i2, i3⟩ := cells4 HW2.out
  obtain ⟨f0, f1, f2, f3⟩ := free4 HW2.out
  refine wpAnyH_ready (rs := [10]) (by kernel_rfl) (by simp) ?_
  refine AllReadyH.cons rfl (fun K hK => ?_) AllReadyH.nil
  go_simp
  refine hK.out _ _ (below_four2 HX2.out (Nat.le_refl _)) (fun hHeld => ?_)
  clear hK K
  refine wpAnyH_one 11 7 (.int .i64 0) hHeld rfl rfl (by kernel_rfl) (fun _ _ _ _ _ h => h) (by kernel_rfl) (by kernel_rfl) (by rfl) ?_ ?_
  · intro V hSw; (try dsimp only at hSw); go_simp
  simp only [Act.put, List.setIfInBounds_toArray, List.set_cons_zero, List.set_cons_succ]
  refine wpAnyH_done (by kernel_rfl) ?_ _
  go_wp2_with fail
  have hn := four_set HW2.out (.int .i64 x) (.int .i64 x) (.int .u32 (sh : Int)) (.slice vo l.length vc)
  obtain ⟨j0, j1, j2, j3⟩ := cells4 hn
  exact bodyPost_ret (v := .tuple #[.agg #[.int .i64 x, .int .i64 x, .int .u32 (sh : Int), .slice vo l.length vc], .int .i64 0]) (by simp [results, Try.results10, go_sem, j0, j1, j2, j3]) rfl ⟨vo, vc, rfl, own_base HB1.out.size (own_four HO.out hwl), below_four HB2.out (by omega)⟩
set_option linter.unusedSimpArgs false in
set_option maxRecDepth 100000 in
set_option maxHeartbeats 4000000 in
theorem refNew_nil (HM : ∀ W : World, Below w.heap.size w W → Calls Try.prog 21 #[.agg #[.slice o n cap], .int .i64 x] W fun e w' => e = .returned (.int .i64 0) ∧ Below W.heap.size W w') (HE : ∀ W : World, Below w.heap.size w W → Calls Try.prog 22 #[.agg #[.int .u32 (sh : Int), .slice none 0 rc]] W fun e w' => e = .returned (.int .i64 0) ∧ Below W.heap.size W w') :
    Calls Try.prog 10 #[.agg #[.slice o n cap], .int .i64 x, .agg #[.int .u32 (sh : Int), .slice none 0 rc]] w fun e w' => ∃ vo vc, e = .returned (.tuple #[.agg #[.int .i64 x, .int .i64 x, .int .u32 (sh : Int), .slice vo 0 vc], .int .i64 0]) ∧ Below w.heap.size w w' := by
  have HB0 := hid (below_two w (.cells #[.slice o n cap] 24) (.cells #[.int .u32 (sh : Int), .slice none 0 rc] 28))
  have HB3 := hid (HB0.out.alloc (by simp; omega) (.cells #[.int .i64 0, .int .i64 0, .int .u32 0, .slice none 0 0] 34))
  have hM := HM _ HB3.out
  have HE0 := hid HE
  clear HM HE
  go_enter Try.func10, Try.ntmps10
  go_wp2_with fail
  refine hM.mono ?_
  rintro e v1 ⟨rfl, hb⟩
  simp only [World.size_alloc] at hb
  obtain ⟨kw, hX⟩ := three_heapN hb
  obtain ⟨q0, q1, q2⟩ := boxesFT hX
  have HB1 := hid (HB3.out.trans (hb.mono (by omega)))
  have HX := hid hX
  have HW := hid kw
  have HH := hid hb
  clear hb hX kw hM
  have hE := HE0.out v1 HB1.out
  clear HE0
  go_wp2_with fail
  refine hE.mono ?_
  rintro e v2 ⟨rfl, hb⟩
  have hz := HH.out.size
  simp only [World.size_alloc] at hz
  obtain ⟨kw, hX⟩ := three_heapN (HH.out.trans (hb.mono hz))
  have HB2 := hid (HB1.out.trans (hb.mono HB1.out.size))
  clear HB1 HX HW HH hE hz hb q0 q1 q2
  have HB1 := HB2
  have HX := hid hX
  have HW := hid kw
  clear hX kw HB2
  have hX2 := HX.out.size
  simp only [World.size_alloc] at hX2
  have HX1 : Hid (Below (w.heap.size + 2) ((w.alloc (.cells #[.slice o n cap] 24)).alloc (.cells #[.int .u32 (sh : Int), .slice none 0 rc] 28)) (v2.drew.alloc (.cells #[] 70))) := HX.out.drew.alloc (show w.heap.size + 2 ≤ v2.heap.size from hX2) _
  have HB2 : Hid (Below w.heap.size w (v2.drew.alloc (.cells #[] 70))) := HB1.out.drew.alloc (show w.heap.size ≤ v2.heap.size from HB1.out.size) _
  have hwl := (Array.getElem?_eq_some_iff.1 HW.out).1
  have HW2 : Hid ((v2.drew.alloc (.cells #[] 70)).heap[w.heap.size + 1 + 1]? = some (.cells #[.int .i64 0, .int .i64 0, .int .u32 0, .slice none 0 0] 34)) := (Below.heap_alloc v2.drew _ _ hwl).trans HW.out
  go_upto_region 6 with fail
  refine wp_region_held_drew (S := (fun V => Below (w.heap.size + 2) ((w.alloc (.cells #[.slice o n cap] 24)).alloc (.cells #[.int .u32 (sh : Int), .slice none 0 rc] 28)) V)) (by kernel_rfl) (HX.out.drew) (fun hHeld => ?_)
  refine wpAnyH_one 0 20 (.int .i64 x) hHeld rfl rfl (by kernel_rfl) (fun _ _ _ _ _ h => h) (by kernel_rfl) (by kernel_rfl) (by rfl) ?_ ?_
  · intro V hSw; (try dsimp only at hSw); go_simp
  simp only [Act.put, List.setIfInBounds_toArray, List.set_cons_zero, List.set_cons_succ]
  refine wpAnyH_one 1 21 (.int .i64 x) hHeld rfl rfl (by kernel_rfl) (fun _ _ _ _ _ h => h) (by kernel_rfl) (by kernel_rfl) (by rfl) ?_ ?_
  · intro V hSw; (try dsimp only at hSw); go_simp
  simp only [Act.put, List.setIfInBounds_toArray, List.set_cons_zero, List.set_cons_succ]
  refine wpAnyH_one 2 22 (.pointer (some ⟨w.heap.size + 1, 0, none⟩)) hHeld rfl rfl (by kernel_rfl) (fun _ _ _ _ _ h => h) (by kernel_rfl) (by kernel_rfl) (by rfl) ?_ ?_
  · intro V hSw; (try dsimp only at hSw); go_simp
  simp only [Act.put, List.setIfInBounds_toArray, List.set_cons_zero, List.set_cons_succ]
  refine wpAnyH_one 3 23 (.int .u32 (sh : Int)) hHeld rfl rfl (by kernel_rfl) (fun _ _ _ _ _ h => h) (by kernel_rfl) (by kernel_rfl) (by rfl) ?_ ?_
  · intro V hSw; (try dsimp only at hSw); obtain ⟨q0, q1, q2⟩ := boxesFT hSw; go_simp
  simp only [Act.put, List.setIfInBounds_toArray, List.set_cons_zero, List.set_cons_succ]
  refine wpAnyH_one 5 25 (.pointer (some ⟨w.heap.size + 1, 1, none⟩)) hHeld rfl rfl (by kernel_rfl) (fun _ _ _ _ _ h => h) (by kernel_rfl) (by kernel_rfl) (by rfl) ?_ ?_
  · intro V hSw; (try dsimp only at hSw); go_simp
  simp only [Act.put, List.setIfInBounds_toArray, List.set_cons_zero, List.set_cons_succ]
  refine wpAnyH_one 6 26 (.slice none 0 rc) hHeld rfl rfl (by kernel_rfl) (fun _ _ _ _ _ h => h) (by kernel_rfl) (by kernel_rfl) (by rfl) ?_ ?_
  · intro V hSw; (try dsimp only at hSw); obtain ⟨q0, q1, q2⟩ := boxesFT hSw; go_simp
  simp only [Act.put, List.setIfInBounds_toArray, List.set_cons_zero, List.set_cons_succ]
  refine wpAnyH_ready (rs := [4]) (by kernel_rfl) (by simp) ?_
  refine AllReadyH.cons rfl (fun K hK => ?_) AllReadyH.nil
  go_simp
  refine hK.out _ _ (HX1.out) (fun hHeld => ?_)
  clear hK K
  refine wpAnyH_ready (rs := [7]) (by kernel_rfl) (by simp) ?_
  refine AllReadyH.cons rfl (fun K hK => ?_) AllReadyH.nil
  go_simp
  refine hK.out _ _ (HX1.out) (fun hHeld => ?_)
  clear hK K
  refine wpAnyH_one 8 28 (.agg #[.int .u32 (sh : Int), .slice (some ⟨v2.heap.size, 0, none⟩) 0 0]) hHeld rfl rfl (by kernel_rfl) (fun _ _ _ _ _ h => h) (by kernel_rfl) (by kernel_rfl) (by rfl) ?_ ?_
  · intro V hSw; (try dsimp only at hSw); go_simp
  simp only [Act.put, List.setIfInBounds_toArray, List.set_cons_zero, List.set_cons_succ]
  refine wpAnyH_one 9 29 (.agg #[.int .i64 x, .int .i64 x, .int .u32 (sh : Int), .slice (some ⟨v2.heap.size, 0, none⟩) 0 0]) hHeld rfl rfl (by kernel_rfl) (fun _ _ _ _ _ h => h) (by kernel_rfl) (by kernel_rfl) (by rfl) ?_ ?_
  · intro V hSw; (try dsimp only at hSw); go_simp
  simp only [Act.put, List.setIfInBounds_toArray, List.set_cons_zero, List.set_cons_succ]
  obtain ⟨i0', i1, i2, i3⟩ := cells4 HW.out
  obtain ⟨f0, f1, f2, f3⟩ := free4 HW.out
  refine wpAnyH_ready (rs := [10]) (by kernel_rfl) (by simp) ?_
  refine AllReadyH.cons rfl (fun K hK => ?_) AllReadyH.nil
  go_simp
  refine hK.out _ _ (((below_four2 HX.out (Nat.le_refl _)).alloc (by simp only [World.size_setCell]; exact hX2) _).drew) (fun hHeld => ?_)
  clear hK K
  refine wpAnyH_one 11 7 (.int .i64 0) hHeld rfl rfl (by kernel_rfl) (fun _ _ _ _ _ h => h) (by kernel_rfl) (by kernel_rfl) (by rfl) ?_ ?_
  · intro V hSw; (try dsimp only at hSw); go_simp
  simp only [Act.put, List.setIfInBounds_toArray, List.set_cons_zero, List.set_cons_succ]
  refine wpAnyH_done (by kernel_rfl) ?_ _
  go_wp2_with fail
  have hn := (Below.heap_alloc ((((v2.setCell ⟨w.heap.size + 1 + 1, 0, none⟩ (.int .i64 x)).setCell ⟨w.heap.size + 1 + 1, 1, none⟩ (.int .i64 x)).setCell ⟨w.heap.size + 1 + 1, 2, none⟩ (.int .u32 (sh : Int))).setCell ⟨w.heap.size + 1 + 1, 3, none⟩ (.slice (some ⟨v2.heap.size, 0, none⟩) 0 0)) (.cells #[] 70) (w.heap.size + 1 + 1) (by simp only [World.size_setCell]; exact hwl)).trans (four_set HW.out (.int .i64 x) (.int .i64 x) (.int .u32 (sh : Int)) (.slice (some ⟨v2.heap.size, 0, none⟩) 0 0))
  obtain ⟨j0, j1, j2, j3⟩ := cells4 hn
  exact bodyPost_ret (v := .tuple #[.agg #[.int .i64 x, .int .i64 x, .int .u32 (sh : Int), .slice (some ⟨v2.heap.size, 0, none⟩) 0 0], .int .i64 0]) (by simp [results, Try.results10, go_sem, j0, j1, j2, j3]) rfl ⟨_, _, rfl, ((below_four HB1.out (by omega)).alloc (by simp only [World.size_setCell]; exact HB1.out.size) _).drew⟩
end
end Go.Proofs.Yteflknfejjdkfaa

namespace Go.Proofs.Yteflknfejjdkfaa
open Go.RowKit Go.Lib Go.Shelf

set_option maxRecDepth 100000 in
set_option maxHeartbeats 8000000 in
theorem accepts_walk (o : Option Addr) (cap n : Nat) (sh x : Int) (ro : Option Addr) (rc k : Nat) (A E r c s : Int) (L : List RuleD) (w : World) (hLl : L.length ≤ 1099511627776) (HL : LivesW)
    (HA : ∀ W : World, Below w.heap.size w W → Calls Try.prog 7 #[.agg #[.slice o n cap], .agg #[.int .u32 sh, .slice ro k rc], .int .i64 x] W fun e w' => e = .returned (.tuple #[.int .u8 A, .int .i64 E]) ∧ Below W.heap.size W w')
    (HB : ∀ W : World, Below w.heap.size w W → Calls Try.prog 8 #[.agg #[.slice o n cap], .agg #[.int .u32 sh, .slice ro k rc], .int .i64 x] W fun e w' => e = .returned (.tuple #[.int .u8 A, .int .i64 E]) ∧ Below W.heap.size W w')
    (HN : ∀ W : World, Below w.heap.size w W → Calls Try.prog 9 #[.agg #[.slice o n cap], .int .i64 x, .agg #[.int .u32 sh, .slice ro k rc]] W fun e w' => ∃ vo vc, e = .returned (.tuple #[.agg #[.int .i64 r, .int .i64 c, .int .u32 s, .slice vo L.length vc], .int .i64 E]) ∧ RdR w' (.slice vo L.length vc) L ∧ Below W.heap.size W w')
    (HR : ∀ W : World, Below w.heap.size w W → Calls Try.prog 10 #[.agg #[.slice o n cap], .int .i64 x, .agg #[.int .u32 sh, .slice ro k rc]] W fun e w' => ∃ vo vc, e = .returned (.tuple #[.agg #[.int .i64 r, .int .i64 c, .int .u32 s, .slice vo L.length vc], .int .i64 E]) ∧ RdR w' (.slice vo L.length vc) L ∧ Below W.heap.size W w') :
    Calls Try.prog 3 #[.agg #[.slice o n cap], .agg #[.int .u32 sh, .slice ro k rc], .int .i64 x] w fun e w' => e = .returned (.bool true) ∧ Below w.heap.size w w' := by
  have HB0 := hid (below_two w (.cells #[.slice o n cap] 24) (.cells #[.int .u32 sh, .slice ro k rc] 28))
  have hA := HA _ HB0.out
  have HX0 : Hid (∀ V : World, Below (w.heap.size + 2) ((w.alloc (.cells #[.slice o n cap] 24)).alloc (.cells #[.int .u32 sh, .slice ro k rc] 28)) V → w.heap.size + 2 ≤ V.heap.size) := fun V h => by have := h.size; simp only [World.size_alloc] at this; exact this
  have HU : Hid (∀ V : World, Below (w.heap.size + 2) ((w.alloc (.cells #[.slice o n cap] 24)).alloc (.cells #[.int .u32 sh, .slice ro k rc] 28)) V → Below w.heap.size w V) := fun V h => HB0.out.trans (h.mono (by omega))
  have eA : (A == A) = true := beq_self_eq_true _
  have eE : (E == E) = true := beq_self_eq_true _
  have HB' := hid HB
  have HN' := hid HN
  have HR' := hid HR
  clear HA HB HN HR
  go_enter Try.func3, Try.ntmps3
  go_wp2_with fail
  refine hA.mono ?_
  rintro e v1 ⟨rfl, hb⟩
  simp only [World.size_alloc] at hb
  have H1 := hid hb
  obtain ⟨q0, q1, q2⟩ := boxesFT hb
  have hBc := HB'.out v1 (HU.out _ hb)
  clear hb hA HB'
  go_wp2_with fail
  refine hBc.mono ?_
  rintro e v2 ⟨rfl, hb⟩
  have H2 := hid (H1.out.trans (hb.mono (HX0.out _ H1.out)))
  clear hb hBc q0 q1 q2
  obtain ⟨q0, q1, q2⟩ := boxesFT H2.out
  have hN := HN'.out v2 (HU.out _ H2.out)
  clear HN' H1
  go_wp2_with fail
  refine hN.mono ?_
  rintro e v3 ⟨vo, vc, rfl, hr3, hb⟩
  have H3 := hid (H2.out.trans (hb.mono (HX0.out _ H2.out)))
  have HR3 := hid hr3
  clear hb hN q0 q1 q2 H2 hr3
  have H3a := hid (H3.out.alloc (HX0.out _ H3.out) (.cells #[.int .i64 r, .int .i64 c, .int .u32 s, .slice vo L.length vc] 34))
  obtain ⟨q0, q1, q2⟩ := boxesFT H3a.out
  have hR := HR'.out _ (HU.out _ H3a.out)
  clear HR'
  go_wp2_with fail
  refine hR.mono ?_
  rintro e v4 ⟨vo2, vc2, rfl, hr4, hb⟩
  have H4 := hid (H3a.out.trans (hb.mono (HX0.out _ H3a.out)))
  have HK3 := hid (keep_at (vheapW v3 (.cells #[.int .i64 r, .int .i64 c, .int .u32 s, .slice vo L.length vc] 34)) hb (Nat.le_refl _))
  have HR3' := hid ((HR3.out.later ((Below.refl _ v3).alloc (Nat.le_refl _) (.cells #[.int .i64 r, .int .i64 c, .int .u32 s, .slice vo L.length vc] 34))).later hb)
  have HR4 := hid hr4
  clear hb hR q0 q1 q2 H3 H3a HR3 hr4
  have hLv := HL (v4.alloc (.cells #[.int .i64 r, .int .i64 c, .int .u32 s, .slice vo2 L.length vc2] 34))
  go_wp2_with fail
  refine hLv.mono ?_
  rintro e v5 ⟨rfl, hb⟩
  have hB45 : Below v4.heap.size v4 v5 := ((Below.refl _ v4).alloc (Nat.le_refl _) _).trans (hb.mono (by simp))
  have HB5 := hid ((HU.out _ H4.out).trans (hB45.mono (HU.out _ H4.out).size))
  obtain ⟨c0, c1, c2, c3⟩ := cells4 (keep_at HK3.out hB45 (Nat.le_refl _))
  obtain ⟨d0, d1, d2, d3⟩ := cells4 (keep_at (vheapW v4 (.cells #[.int .i64 r, .int .i64 c, .int .u32 s, .slice vo2 L.length vc2] 34)) hb (Nat.le_refl _))
  have hSm := sameW_any r c s vo vo2 vc vc2 L v5 (HR3'.out.later hB45) (HR4.out.later hB45) hLl
  clear hb hLv hB45 HK3 HR3' HR4 H4
  go_wp2_with fail
  refine hSm.mono ?_
  rintro e v6 ⟨rfl, hb⟩
  clear c0 c1 c2 c3 d0 d1 d2 d3
  go_wp2
  go_ret
  exact ⟨rfl, HB5.out.trans (hb.mono HB5.out.size)⟩

theorem walkAccepts_law (HL : LivesW) (o : Option Addr) (cap : Nat) (ns : List NodeD) (sh : Nat) (ro : Option Addr) (rc : Nat) (rules : List RuleD) (x : Int) (w : World) (hF : FRd w o cap ns) (hkl : ∀ (i : Nat) (hi : i < ns.length), ns[i].kids.length ≤ 1099511627776) (hal : ∀ (i : Nat) (hi : i < ns.length), ns[i].attrs.length ≤ 1099511627776) (hru : RdR w (.slice ro rules.length rc) rules) (hrl : rules.length ≤ 1099511627776) (hs : sh < 4294967296) :
    Calls Try.prog 3 #[.agg #[.slice o ns.length cap], .agg #[.int .u32 (sh : Int), .slice ro rules.length rc], .int .i64 x] w fun e w' => e = .returned (.bool true) ∧ Below w.heap.size w w' := by
  have hB : ∀ W : World, Below w.heap.size w W → _ := fun W hW => refAccept_any o cap ns x sh ro rc rules W (hF.later hW) hkl hal (hru.later hW) hrl hs
  have hM : ∀ W : World, Below w.heap.size w W → _ := fun W hW => ref05Wrong_any o cap x ns W (hF.later hW) hkl hal
  have hf : ∀ W : World, Below w.heap.size w W → _ := fun W hW => refFilter_any sh ro rc rules W (hru.later hW) hrl
  by_cases hE : wrongE ns [x] rules = 0
  · obtain ⟨hR, hth, hfe⟩ := wrongE_ok hE
    have hx := hth x (by simp)
    obtain ⟨j, hj, _⟩ := there_idx hx
    obtain ⟨b, off, rfl, hFA⟩ := hF.at_ (by omega)
    have hm : missE ns [x] = 0 := by
      by_cases h : missE ns [x] = 0
      · exact h
      · unfold wrongE at hE
        rw [if_neg h] at hE
        exact absurd hE h
    rw [hm] at hM
    rw [hfe] at hf
    refine accepts_walk _ cap ns.length sh x ro rc rules.length (verdictOf ns sh rules x) 0 x x sh rules w hrl HL (fun W hW => Accept_ok b off cap ns x sh ro rc rules W (hFA.later hW) hkl hal (hru.later hW) hs hE) (fun W hW => ?_) (fun W hW => ?_) (fun W hW => ?_)
    · have := hB W hW
      unfold acceptV at this
      rw [if_pos hE, hE] at this
      exact this
    · refine (New_ok _ cap ns x sh ro rc rules W (hF.later hW) hkl hal (hru.later hW) hrl hE).mono ?_
      rintro e w' ⟨vo, vc, rfl, hown, hb⟩
      exact ⟨vo, vc, rfl, own_rules hown, hb⟩
    · have hWM : ∀ V : World, Below W.heap.size W V → _ := fun V hV => hM V (hW.trans (hV.mono hW.size))
      have hWf : ∀ V : World, Below W.heap.size W V → _ := fun V hV => hf V (hW.trans (hV.mono hW.size))
      cases ro with
      | some ad =>
        refine (refNew_good ad (hru.later hW) (filterE_ok hfe).1 hWM hWf).mono ?_
        rintro e w' ⟨vo, vc, rfl, hown, hb⟩
        exact ⟨vo, vc, rfl, own_rules hown, hb⟩
      | none =>
        have h0 : rules = [] := by
          obtain ⟨o', c', he, _, g⟩ := hru
          cases rules with
          | nil => rfl
          | cons r t =>
            obtain ⟨b2, off2, h, _⟩ := g (by simp)
            rw [h] at he
            simp at he
        subst h0
        refine (refNew_nil hWM hWf).mono ?_
        rintro e w' ⟨vo, vc, rfl, hb⟩
        exact ⟨vo, vc, rfl, ⟨vo, vc, rfl, Nat.zero_le _, fun h => absurd h (Nat.lt_irrefl _)⟩, hb⟩
  · refine accepts_walk o cap ns.length sh x ro rc rules.length 0 (wrongE ns [x] rules) 0 0 0 [] w (by decide) HL (fun W hW => Accept_err o cap ns x sh ro rc rules W (hF.later hW) hkl hal (hru.later hW) hrl hE) (fun W hW => ?_) (fun W hW => ?_) (fun W hW => ?_)
    · have := hB W hW
      unfold acceptV at this
      rw [if_neg hE] at this
      exact this
    · refine (New_err o cap ns x sh ro rc rules W (hF.later hW) hkl hal (hru.later hW) hrl hE).mono ?_
      rintro e w' ⟨rfl, hb⟩
      exact ⟨none, 0, rfl, nil_rdR _, hb⟩
    · have hWM : ∀ V : World, Below W.heap.size W V → _ := fun V hV => hM V (hW.trans (hV.mono hW.size))
      have hWf : ∀ V : World, Below W.heap.size W V → _ := fun V hV => hf V (hW.trans (hV.mono hW.size))
      by_cases hm : missE ns [x] = 0
      · have hw : wrongE ns [x] rules = filterE rules := by unfold wrongE; rw [if_pos hm]
        rw [hm] at hWM
        rw [hw] at hE ⊢
        refine (refNew_filter (filterE rules) (by rw [bne, beq_eq_false_iff_ne.2 hE]; rfl) hWM hWf).mono ?_
        rintro e w' ⟨rfl, hb⟩
        exact ⟨none, 0, rfl, nil_rdR _, hb⟩
      · have hw : wrongE ns [x] rules = missE ns [x] := by unfold wrongE; rw [if_neg hm]
        rw [hw]
        refine (refNew_miss (missE ns [x]) (beq_eq_false_iff_ne.2 hm) hWM).mono ?_
        rintro e w' ⟨rfl, hb⟩
        exact ⟨none, 0, rfl, nil_rdR _, hb⟩
end Go.Proofs.Yteflknfejjdkfaa

namespace Go.Proofs.Yteflknfejjdkfaa
open Go.RowKit Go.Lib Go.ChangeShapes Go.WideShapes Go.ChangeAt

theorem Try.ownWalkAccepts : ownKnob Try.prog.godebug = none := by kernel_rfl

set_option maxRecDepth 100000 in
theorem walkAccepts_lifted (HL : LivesW) (os : Os) (started : os.Started) (H : Type) (enc : TypeId × Value → H) (F : Stop.Interp) :
    ReturnsInHanded {} Try.checked os 3 .any ((Rows.OpenSpec.upto Rows.walkAcceptsSpec).pre6 enc Try.prog Try.f3 Rows.walkAcceptsUptoRow.domain false) (((Rows.OpenSpec.upto Rows.walkAcceptsSpec).at F).post enc Try.prog Try.f3 false true false false) := by
  refine returnsInHanded_of_cond (C := Try.checked) (s := Rows.OpenSpec.upto Rows.walkAcceptsSpec) (k := Rows.uptoSmall) rfl Try.ownWalkAccepts started (by kernel_rfl) Try.func3
    (OpenSpec.witness (enc := enc) (C := Try.checked) (s := Rows.OpenSpec.upto Rows.walkAcceptsSpec) (k := Rows.uptoSmall) rfl false ⟨#[], #[.agg #[.slice none 0 0], .agg #[.int .u32 0, .slice none 0 0], .int .i64 0], []⟩ 8 (by kernel_rfl) (by kernel_rfl) (by kernel_rfl)
      (x := ([.agg [.nil], .agg [.lit (.int .u32 0), .nil], .lit (.int .i64 0)], [], [])) (by kernel_rfl) rfl (by kernel_rfl)) ?_
  intro W base args ds gs before hval0 hW _ hk _
  have hval : ∀ (j : Nat) t v, Try.f3.params[j]? = some t → args[j]? = some v → Value.okWide Try.prog W .any base t v := hval0
  have hW' := hW
  obtain ⟨p, q, hA0, hV, rfl, _, _⟩ := hW
  have hA : DataW.TrodAll enc Try.prog W 0 (fun _ => true) true Try.f3.params.toList args.toList ds p := hA0
  rw [Try.params3] at hA hval
  obtain ⟨v0, vs0, d0, ds0, p0, q0, hargs, rfl, rfl, h0, r0t⟩ := trodAll_cons hA
  obtain ⟨v1, vs1, d1, ds1, p1, q1, rfl, rfl, rfl, h1, r1t⟩ := trodAll_cons r0t
  obtain ⟨v2, vs2, d2, ds2, p2, q2, rfl, rfl, rfl, h2, r2t⟩ := trodAll_cons r1t
  obtain ⟨rfl, rfl, rfl⟩ := trodAll_nil r2t
  obtain rfl : args = #[v0, v1, v2] := by cases args; simp_all
  obtain ⟨rfl, rfl⟩ := trodVars_none hV
  obtain ⟨o0, cap0, ns0, rfl, hF0, bn0, bk0⟩ := open_forest (hval 0 24 v0 rfl rfl) h0
  obtain ⟨sh1, ro1, rc1, rules1, rfl, hs1, hru1, br1⟩ := open_filter (hval 1 28 v1 rfl rfl) h1
  obtain ⟨x2, rfl, rfl, rfl, wx2⟩ := open_int Try.underlying3 (hval 2 3 v2 rfl rfl) h2
  have hkk := of_decide_eq_true hk
  simp [Rows.uptoBulkAll] at hkk
  have hlt := hW'.lt
  refine (walkAccepts_law HL o0 cap0 ns0 sh1 ro1 rc1 rules1 x2 W (hF0 (by omega)) (fun i hi => by have := (bk0 i hi).1; omega) (fun i hi => by have := (bk0 i hi).2; omega) hru1 (by omega) hs1).mono fun e W' ⟨he, hb⟩ => ?_
  subst he
  exact ⟨_, rfl, _, _, _, [], _, [], hW', trodAll_mk1 (shut_bool Try.underlying4 _), trodAll_cons_mk (Below.trod Try.fLaidOut (by kernel_rfl) (of_decide_eq_true (by kernel_rfl)) h0 hb (fun y hy => hlt y (by simp [hy]))) (trodAll_cons_mk (Below.trod Try.fLaidOut (by kernel_rfl) (of_decide_eq_true (by kernel_rfl)) h1 hb (fun y hy => hlt y (by simp [hy]))) (trodAll_cons_mk (shut_int Try.underlying3 wx2) trodAll_mk0)), rfl, hb.frame _, fun h => by cases h⟩

theorem walkAccepts_upto : Rows.WalkAcceptsUptoSaid :=
  OpenClaim.holds_of_cond 3 Try.f3 rfl rfl rfl rfl rfl rfl rfl ⟨rfl, rfl, rfl, rfl, rfl⟩ rfl rfl rfl rfl rfl (by kernel_rfl) Try.func3 (by kernel_rfl)
    (of_decide_eq_true (by kernel_rfl)) (by unfold Func.isWrapper; first | (rw [if_pos (by decide +kernel)]; kernel_rfl) | (rw [if_neg (by decide +kernel)]; exact ⟨rfl, rfl⟩))
    (fun os started H enc _ F => walkAccepts_lifted (livesW_true treeW_any) os started H enc F)
end Go.Proofs.Yteflknfejjdkfaa
