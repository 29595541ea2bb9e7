/- Where the arguments hold at most 1048576 values and letters the law WalkShown answers true: a walk on from the root reaches what is shown, in tree order, and a walk back from its last node comes the same way. -/
/- The reference of walk: what a filter says of a node (Verdict). -/
/- What a walker reaches is accepted and lies within the root (WalkWithin): the law's walk. -/
/- Without a filter the ways lead back: plain. -/
/- What is shown within a root, in tree order, is what a walk on from the root reaches; a walk back from its last node comes the same way: plain. -/
/- What a walk on reaches is what is shown, and a walk back comes the same way: plain, for a forest and a filter. -/
/- What is shown within a node (canopylaw13.shown). -/
/- A walk on from the root reaches what is shown; a walk back from its last node comes the same way (WalkShown): the law's walk. -/
/- A walk on from the root reaches what is shown; a walk back from its last node comes the same way (WalkShown): the law, for every forest, root and filter. -/
import Derived.Test.YteflknfejjdkfaaCFWkCFWkF
import Derived.Test.YteflknfejjdkfaaFRefN
import Derived.Test.YteflknfejjdkfaaCFWkIFWkN
import Derived.Test.YteflknfejjdkfaaCFWkRFWk1
import Derived.Test.YteflknfejjdkfaaCFUpFR4C
import Derived.Lib.AppendZeros
import Derived.Laws.OwnMore
import Derived.Test.YteflknfejjdkfaaCFWk2
import Derived.Test.YteflknfejjdkfaaCFWkXFWkY
import Derived.Test.YteflknfejjdkfaaCFOpenFWk4
import Derived.Test.YteflknfejjdkfaaRows
import Derived.ProofKit
import Derived.OpenShut
import Derived.JoinedCond
namespace Go.Proofs.Yteflknfejjdkfaa
open Go.RowKit Go.Lib

theorem box1w {w V : World} {a c d : Value} {t u : TypeId} {o3 : Obj} (hb : Below (((w.alloc (.cells #[a] t)).alloc (.cells #[c, d] u))).heap.size ((w.alloc (.cells #[a] t)).alloc (.cells #[c, d] u)) V) : (V.alloc o3).cell? ⟨w.heap.size, 0, none⟩ = some a ∧ (V.alloc o3).cell? ⟨w.heap.size + 1, 0, none⟩ = some c ∧ (V.alloc o3).cell? ⟨w.heap.size + 1, 1, none⟩ = some d := by
  have hn : V.heap[w.heap.size + 1]? = some (.cells #[c, d] u) := by
    have := vheapW (w.alloc (.cells #[a] t)) (.cells #[c, d] u)
    rw [World.size_alloc] at this
    exact (hb.block (w.heap.size + 1) (by simp)).trans this
  have hk : ∀ j : Nat, V.cell? ⟨w.heap.size + 1, j, none⟩ = #[c, d][j]? := fun j => by
    unfold World.cell?
    simp only [hn]
    exact if_neg (by decide)
  have hz := hb.size
  simp only [World.size_alloc] at hz
  exact ⟨(World.cell?_alloc_lt _ _ _ (by show w.heap.size < _; omega)).trans ((hb.cell (p := ⟨w.heap.size, 0, none⟩) (by simp; omega)).trans (by simp)), (World.cell?_alloc_lt _ _ _ (by show w.heap.size + 1 < _; omega)).trans ((hk 0).trans rfl), (World.cell?_alloc_lt _ _ _ (by show w.heap.size + 1 < _; omega)).trans ((hk 1).trans rfl)⟩

theorem shr_bit (sh j : Nat) : (((sh : Int) / ((2 ^ j : Nat) : Int)) % 2 == 0) = !Nat.testBit sh j := by
  have h1 : ((sh : Int) / ((2 ^ j : Nat) : Int)) % 2 = ((sh / 2 ^ j % 2 : Nat) : Int) := by
    rw [Int.natCast_emod, Int.natCast_ediv]; rfl
  rw [h1, Nat.testBit_eq_decide_div_mod_eq]
  have h2 : sh / 2 ^ j % 2 = 0 ∨ sh / 2 ^ j % 2 = 1 := by omega
  rcases h2 with h | h <;> rw [h] <;> rfl
theorem shr_bit2 (sh j : Nat) : (((sh : Int) / 2 ^ j).tmod 2 == 0) = !Nat.testBit sh j := by
  have h0 : ((sh : Int) / 2 ^ j).tmod 2 = ((sh : Int) / ((2 ^ j : Nat) : Int)) % 2 := by
    have : (2 : Int) ^ j = ((2 ^ j : Nat) : Int) := by simp
    rw [this]
    have h : (0 : Int) ≤ (sh : Int) / ((2 ^ j : Nat) : Int) := Int.ediv_nonneg (Int.natCast_nonneg _) (Int.natCast_nonneg _)
    exact Int.tmod_eq_emod_of_nonneg h
  rw [h0]
  exact shr_bit sh j

set_option linter.unusedSimpArgs false in
set_option maxRecDepth 100000 in
set_option maxHeartbeats 8000000 in
theorem refVerdict_any (b off cap : Nat) (x : Int) (sh : Nat) (ro : Option Addr) (rc : Nat) (rules : List RuleD) (ns : List NodeD) (W : World) (hR : RightF ns) (hF : FAt W b off cap ns) (hx : thereB ns.length x = true) (hs : sh < 4294967296) (hr : RdR W (.slice ro rules.length rc) rules) (hf : rules.length ≤ 64) :
    Calls Try.prog 16 #[.agg #[.slice (some ⟨b, off, none⟩) ns.length cap], .agg #[.int .u32 (sh : Int), .slice ro rules.length rc], .int .i64 x] W fun e w' => e = .returned (.int .u8 (verdictOf ns sh rules x : Int)) ∧ Below W.heap.size W w' := by
  obtain ⟨j, hj, rfl⟩ := there_idx hx
  rw [verdictOf_at ns sh rules j hj]
  have hkn : knownK ns[j].kind = true := (well_parts (hR.well j hj)).1
  have hB0 : Below W.heap.size W ((W.alloc (.cells #[.slice (some ⟨b, off, none⟩) ns.length cap] 24)).alloc (.cells #[.int .u32 (sh : Int), .slice ro rules.length rc] 28)) := ((Below.refl _ W).alloc (Nat.le_refl _) _).alloc (by simp) _
  have HN := hid (refNode_any (some ⟨b, off, none⟩) cap ((j : Int) + 1) ns _ (⟨hF.len, fun _ => ⟨b, off, rfl, hF.later hB0⟩⟩ : FRd ((W.alloc (.cells #[.slice (some ⟨b, off, none⟩) ns.length cap] 24)).alloc (.cells #[.int .u32 (sh : Int), .slice ro rules.length rc] 28)) (some ⟨b, off, none⟩) cap ns))
  have hno : nodeOrNone ns ((j : Int) + 1) = ns[j] := by unfold nodeOrNone; rw [nodeOf_at ns j hj]; rfl
  rw [hno] at HN
  have HB0 := hid hB0
  have HRr := hid hr
  clear hB0 hno hF hr hR hx
  generalize ns[j] = n at *
  unfold verdictD
  cases hsh : shownB sh n.kind with
  | false =>
    rw [if_neg Bool.false_ne_true]
    cases e12 : (n.kind == 12) with
    | true =>
      have e12i : ((n.kind : Int) == 12) = true := (beq_cast n.kind 12).trans e12
      have hbit : ((sh : Int) / 1024 % 2 == 0) = true := (shr_bit sh 10).trans (by unfold shownB at hsh; rw [e12] at hsh; exact congrArg not hsh)
      clear hsh e12
      go_enter Try.func16, Try.ntmps16
      go_wp2_with fail
      refine HN.out.mono ?_
      rintro e v1 ⟨L, rfl, h1, h2, h3, hb⟩
      obtain ⟨D, A, K⟩ := L
      obtain ⟨od, cd, e1, _⟩ := h1
      obtain ⟨oa, ca, e2, _⟩ := h2
      obtain ⟨ok, ck, e3, _⟩ := h3
      simp only at e1 e2 e3
      subst e1 e2 e3
      unfold nodeV
      obtain ⟨n0, n1, n2, n3, n4, n5, n6, n7, n8, n9, n10, n11, n12, n13, n14, n15⟩ := n
      simp only at *
      obtain ⟨q0, q1, q2⟩ := box1w (o3 := .cells #[.int .u8 (n0 : Int), .string n1, .string n2, .string n3, .string n4, .string n5, .slice od n6.length cd, .slice oa n7.length ca, .int .i64 n8, .slice ok n9.length ck, .int .i64 n10, .int .i64 n11, .int .i64 n12, .int .u8 (n13 : Int), .bool n14, .bool n15] 64) hb
      have HB1 := hid (HB0.out.trans (hb.mono HB0.out.size))
      clear hb HN
      have hlo : 1 ≤ n0 ∧ n0 ≤ 12 := by rcases known_cases hkn with h | h | h | h | h | h | h | h | h <;> omega
      obtain ⟨ro', rc', hro, hcap, g⟩ := HRr.out
      obtain ⟨rfl, rfl⟩ : ro' = ro ∧ rc' = rc := by
        simp only [Value.slice.injEq] at hro
        exact ⟨hro.1.symm, hro.2.2.symm⟩
      have G := hid g
      clear g hro HRr
      have HBA := hid (HB1.out.alloc HB1.out.size (.cells #[.int .u8 (n0 : Int), .string n1, .string n2, .string n3, .string n4, .string n5, .slice od n6.length cd, .slice oa n7.length ca, .int .i64 n8, .slice ok n9.length ck, .int .i64 n10, .int .i64 n11, .int .i64 n12, .int .u8 (n13 : Int), .bool n14, .bool n15] 64))
      go_wp2
      go_ret
      exact ⟨rfl, HBA.out⟩
    | false =>
      have e12i : ((n.kind : Int) == 12) = false := (beq_cast n.kind 12).trans e12
      have hbit : (((sh : Int) / 2 ^ (n.kind - 1)).tmod 2 == 0) = true := (shr_bit2 sh (n.kind - 1)).trans (by unfold shownB at hsh; rw [e12] at hsh; exact congrArg not hsh)
      clear hsh e12
      go_enter Try.func16, Try.ntmps16
      go_wp2_with fail
      refine HN.out.mono ?_
      rintro e v1 ⟨L, rfl, h1, h2, h3, hb⟩
      obtain ⟨D, A, K⟩ := L
      obtain ⟨od, cd, e1, _⟩ := h1
      obtain ⟨oa, ca, e2, _⟩ := h2
      obtain ⟨ok, ck, e3, _⟩ := h3
      simp only at e1 e2 e3
      subst e1 e2 e3
      unfold nodeV
      obtain ⟨n0, n1, n2, n3, n4, n5, n6, n7, n8, n9, n10, n11, n12, n13, n14, n15⟩ := n
      simp only at *
      obtain ⟨q0, q1, q2⟩ := box1w (o3 := .cells #[.int .u8 (n0 : Int), .string n1, .string n2, .string n3, .string n4, .string n5, .slice od n6.length cd, .slice oa n7.length ca, .int .i64 n8, .slice ok n9.length ck, .int .i64 n10, .int .i64 n11, .int .i64 n12, .int .u8 (n13 : Int), .bool n14, .bool n15] 64) hb
      have HB1 := hid (HB0.out.trans (hb.mono HB0.out.size))
      clear hb HN
      have hlo : 1 ≤ n0 ∧ n0 ≤ 12 := by rcases known_cases hkn with h | h | h | h | h | h | h | h | h <;> omega
      obtain ⟨ro', rc', hro, hcap, g⟩ := HRr.out
      obtain ⟨rfl, rfl⟩ : ro' = ro ∧ rc' = rc := by
        simp only [Value.slice.injEq] at hro
        exact ⟨hro.1.symm, hro.2.2.symm⟩
      have G := hid g
      clear g hro HRr
      have HBA := hid (HB1.out.alloc HB1.out.size (.cells #[.int .u8 (n0 : Int), .string n1, .string n2, .string n3, .string n4, .string n5, .slice od n6.length cd, .slice oa n7.length ca, .int .i64 n8, .slice ok n9.length ck, .int .i64 n10, .int .i64 n11, .int .i64 n12, .int .u8 (n13 : Int), .bool n14, .bool n15] 64))
      go_wp2
      go_ret
      exact ⟨rfl, HBA.out⟩
  | true =>
    rw [if_pos rfl]
    obtain ⟨R, hR⟩ : ∃ R, ruledD rules n.kind n.loc = R := ⟨_, rfl⟩
    rw [hR]
    have HR : Hid (ruledD (rules.drop 0) n.kind n.loc = R) := hR
    clear hR
    cases e12 : (n.kind == 12) with
    | true =>
      have e12i : ((n.kind : Int) == 12) = true := (beq_cast n.kind 12).trans e12
      have hbit : ((sh : Int) / 1024 % 2 == 0) = false := (shr_bit sh 10).trans (by unfold shownB at hsh; rw [e12] at hsh; exact congrArg not hsh)
      clear hsh e12
      go_enter Try.func16, Try.ntmps16
      go_wp2_with fail
      refine HN.out.mono ?_
      rintro e v1 ⟨L, rfl, h1, h2, h3, hb⟩
      obtain ⟨D, A, K⟩ := L
      obtain ⟨od, cd, e1, _⟩ := h1
      obtain ⟨oa, ca, e2, _⟩ := h2
      obtain ⟨ok, ck, e3, _⟩ := h3
      simp only at e1 e2 e3
      subst e1 e2 e3
      unfold nodeV
      obtain ⟨n0, n1, n2, n3, n4, n5, n6, n7, n8, n9, n10, n11, n12, n13, n14, n15⟩ := n
      simp only at *
      obtain ⟨q0, q1, q2⟩ := box1w (o3 := .cells #[.int .u8 (n0 : Int), .string n1, .string n2, .string n3, .string n4, .string n5, .slice od n6.length cd, .slice oa n7.length ca, .int .i64 n8, .slice ok n9.length ck, .int .i64 n10, .int .i64 n11, .int .i64 n12, .int .u8 (n13 : Int), .bool n14, .bool n15] 64) hb
      have HB1 := hid (HB0.out.trans (hb.mono HB0.out.size))
      clear hb HN
      have hlo : 1 ≤ n0 ∧ n0 ≤ 12 := by rcases known_cases hkn with h | h | h | h | h | h | h | h | h <;> omega
      obtain ⟨ro', rc', hro, hcap, g⟩ := HRr.out
      obtain ⟨rfl, rfl⟩ : ro' = ro ∧ rc' = rc := by
        simp only [Value.slice.injEq] at hro
        exact ⟨hro.1.symm, hro.2.2.symm⟩
      have G := hid g
      clear g hro HRr
      have HBA := hid (HB1.out.alloc HB1.out.size (.cells #[.int .u8 (n0 : Int), .string n1, .string n2, .string n3, .string n4, .string n5, .slice od n6.length cd, .slice oa n7.length ca, .int .i64 n8, .slice ok n9.length ck, .int .i64 n10, .int .i64 n11, .int .i64 n12, .int .u8 (n13 : Int), .bool n14, .bool n15] 64))
      go_wp2
      go_loopw [33] (fun t wr => ∃ k : Nat, k ≤ rules.length ∧ t = .int .i64 k ∧ Hid (Below (v1.heap.size + 1) (v1.alloc (.cells #[.int .u8 (n0 : Int), .string n1, .string n2, .string n3, .string n4, .string n5, .slice od n6.length cd, .slice oa n7.length ca, .int .i64 n8, .slice ok n9.length ck, .int .i64 n10, .int .i64 n11, .int .i64 n12, .int .u8 (n13 : Int), .bool n14, .bool n15] 64)) wr) ∧ Hid (ruledD (rules.drop k) n0 n3 = R)) (fun t _ => rules.length - (RowKit.intOf t).toNat)
      case atStart => exact ⟨0, Nat.zero_le _, rfl, Below.refl _ _, HR⟩
      case round =>
        obtain ⟨k, k1, rfl, hB, hK⟩ := hrel
        have hsz := hB.out.size
        simp only [World.size_alloc] at hsz
        have hBW : Below W.heap.size W wr := (HB1.out.alloc HB1.out.size _).trans (hB.out.mono (by have := HB1.out.size; omega))
        by_cases hlt : k < rules.length
        · obtain ⟨rb, roff, rfl, rlt, ra⟩ := G.out (by omega)
          obtain ⟨r0, r1, r2⟩ := (ra k hlt).later rlt hBW
          have p1 : (0 : Int) ≤ (k : Int) := by omega
          have p2 : (k : Int) < (rules.length : Int) := by omega
          have hkk := hK.out
          rw [List.drop_eq_getElem_cons hlt, ruledD] at hkk
          have Hk := hid hkk
          clear hkk hK ra G
          generalize rules[k] = r at *
          obtain ⟨y0, y1, y2⟩ := r
          simp only at *
          have hB2 : Below (v1.heap.size + 1) (v1.alloc (.cells #[.int .u8 (n0 : Int), .string n1, .string n2, .string n3, .string n4, .string n5, .slice od n6.length cd, .slice oa n7.length ca, .int .i64 n8, .slice ok n9.length ck, .int .i64 n10, .int .i64 n11, .int .i64 n12, .int .u8 (n13 : Int), .bool n14, .bool n15] 64)) (wr.alloc (.cells #[.int .u8 (y0 : Int), .string y1, .int .u8 (y2 : Int)] 70)) := hB.out.alloc hsz _
          have g0 : (wr.alloc (.cells #[.int .u8 (y0 : Int), .string y1, .int .u8 (y2 : Int)] 70)).cell? ⟨v1.heap.size, 0, none⟩ = some (.int .u8 (n0 : Int)) := (hB2.cell (p := ⟨v1.heap.size, 0, none⟩) (by show v1.heap.size < v1.heap.size + 1; omega)).trans (by simp)
          have g3 : (wr.alloc (.cells #[.int .u8 (y0 : Int), .string y1, .int .u8 (y2 : Int)] 70)).cell? ⟨v1.heap.size, 3, none⟩ = some (.string n3) := (hB2.cell (p := ⟨v1.heap.size, 3, none⟩) (by show v1.heap.size < v1.heap.size + 1; omega)).trans (by simp)
          have z1 : ((y0 : Int) == 0) = (y0 == 0) := beq_cast _ 0
          have z2 : ((y0 : Int) == (n0 : Int)) = (y0 == n0) := beq_cast _ _
          have h1 := noneS_toList y1; have h1' := noneS_empty y1
          have z3 : (y1.toList == n3.toList) = (y1.data.toList == n3.data.toList) := by rw [Lib.toList_data, Lib.toList_data]
          have hfd : fitsB ⟨y0, y1, y2⟩ n0 n3 = ((y0 == 0 || y0 == n0) && (noneS y1 || y1.data.toList == n3.data.toList)) := rfl
          rw [hfd] at Hk
          have HBW := hid hBW
          have HB3 := hid (hBW.alloc hBW.size (.cells #[.int .u8 (y0 : Int), .string y1, .int .u8 (y2 : Int)] 70))
          have HB4 := hid hB2
          clear hB2 hBW hfd
          generalize noneS y1 = b3 at *
          generalize (y1.data.toList == n3.data.toList) = b4 at *
          generalize (y0 == 0) = b1 at *
          generalize (y0 == n0) = b2 at *
          cases b1 <;> cases b2 <;> cases b3 <;> cases b4
          all_goals
            simp only [Bool.or_true, Bool.or_false, Bool.true_or, Bool.false_or, Bool.and_true, Bool.and_false, Bool.true_and, Bool.false_and, if_true, if_false, Bool.false_eq_true] at Hk
            first
              | (have hRy : y2 = R := Hk.out
                 subst hRy
                 clear Hk
                 go_wp2
                 go_ret
                 exact ⟨rfl, HB3.out⟩)
              | (go_wp2
                 go_roundw
                 case rel => exact ⟨k + 1, by omega, by go_num, HB4, Hk⟩
                 case measure => simp [RowKit.intOf]; omega)
        · have hR1 : R = 1 := by
            rw [← hK.out, List.drop_eq_nil_of_le (by omega)]
            rfl
          subst hR1
          clear hK G
          go_wp2
          go_ret
          exact ⟨rfl, hBW⟩
    | false =>
      have e12i : ((n.kind : Int) == 12) = false := (beq_cast n.kind 12).trans e12
      have hbit : (((sh : Int) / 2 ^ (n.kind - 1)).tmod 2 == 0) = false := (shr_bit2 sh (n.kind - 1)).trans (by unfold shownB at hsh; rw [e12] at hsh; exact congrArg not hsh)
      clear hsh e12
      go_enter Try.func16, Try.ntmps16
      go_wp2_with fail
      refine HN.out.mono ?_
      rintro e v1 ⟨L, rfl, h1, h2, h3, hb⟩
      obtain ⟨D, A, K⟩ := L
      obtain ⟨od, cd, e1, _⟩ := h1
      obtain ⟨oa, ca, e2, _⟩ := h2
      obtain ⟨ok, ck, e3, _⟩ := h3
      simp only at e1 e2 e3
      subst e1 e2 e3
      unfold nodeV
      obtain ⟨n0, n1, n2, n3, n4, n5, n6, n7, n8, n9, n10, n11, n12, n13, n14, n15⟩ := n
      simp only at *
      obtain ⟨q0, q1, q2⟩ := box1w (o3 := .cells #[.int .u8 (n0 : Int), .string n1, .string n2, .string n3, .string n4, .string n5, .slice od n6.length cd, .slice oa n7.length ca, .int .i64 n8, .slice ok n9.length ck, .int .i64 n10, .int .i64 n11, .int .i64 n12, .int .u8 (n13 : Int), .bool n14, .bool n15] 64) hb
      have HB1 := hid (HB0.out.trans (hb.mono HB0.out.size))
      clear hb HN
      have hlo : 1 ≤ n0 ∧ n0 ≤ 12 := by rcases known_cases hkn with h | h | h | h | h | h | h | h | h <;> omega
      obtain ⟨ro', rc', hro, hcap, g⟩ := HRr.out
      obtain ⟨rfl, rfl⟩ : ro' = ro ∧ rc' = rc := by
        simp only [Value.slice.injEq] at hro
        exact ⟨hro.1.symm, hro.2.2.symm⟩
      have G := hid g
      clear g hro HRr
      have HBA := hid (HB1.out.alloc HB1.out.size (.cells #[.int .u8 (n0 : Int), .string n1, .string n2, .string n3, .string n4, .string n5, .slice od n6.length cd, .slice oa n7.length ca, .int .i64 n8, .slice ok n9.length ck, .int .i64 n10, .int .i64 n11, .int .i64 n12, .int .u8 (n13 : Int), .bool n14, .bool n15] 64))
      go_wp2
      go_loopw [33] (fun t wr => ∃ k : Nat, k ≤ rules.length ∧ t = .int .i64 k ∧ Hid (Below (v1.heap.size + 1) (v1.alloc (.cells #[.int .u8 (n0 : Int), .string n1, .string n2, .string n3, .string n4, .string n5, .slice od n6.length cd, .slice oa n7.length ca, .int .i64 n8, .slice ok n9.length ck, .int .i64 n10, .int .i64 n11, .int .i64 n12, .int .u8 (n13 : Int), .bool n14, .bool n15] 64)) wr) ∧ Hid (ruledD (rules.drop k) n0 n3 = R)) (fun t _ => rules.length - (RowKit.intOf t).toNat)
      case atStart => exact ⟨0, Nat.zero_le _, rfl, Below.refl _ _, HR⟩
      case round =>
        obtain ⟨k, k1, rfl, hB, hK⟩ := hrel
        have hsz := hB.out.size
        simp only [World.size_alloc] at hsz
        have hBW : Below W.heap.size W wr := (HB1.out.alloc HB1.out.size _).trans (hB.out.mono (by have := HB1.out.size; omega))
        by_cases hlt : k < rules.length
        · obtain ⟨rb, roff, rfl, rlt, ra⟩ := G.out (by omega)
          obtain ⟨r0, r1, r2⟩ := (ra k hlt).later rlt hBW
          have p1 : (0 : Int) ≤ (k : Int) := by omega
          have p2 : (k : Int) < (rules.length : Int) := by omega
          have hkk := hK.out
          rw [List.drop_eq_getElem_cons hlt, ruledD] at hkk
          have Hk := hid hkk
          clear hkk hK ra G
          generalize rules[k] = r at *
          obtain ⟨y0, y1, y2⟩ := r
          simp only at *
          have hB2 : Below (v1.heap.size + 1) (v1.alloc (.cells #[.int .u8 (n0 : Int), .string n1, .string n2, .string n3, .string n4, .string n5, .slice od n6.length cd, .slice oa n7.length ca, .int .i64 n8, .slice ok n9.length ck, .int .i64 n10, .int .i64 n11, .int .i64 n12, .int .u8 (n13 : Int), .bool n14, .bool n15] 64)) (wr.alloc (.cells #[.int .u8 (y0 : Int), .string y1, .int .u8 (y2 : Int)] 70)) := hB.out.alloc hsz _
          have g0 : (wr.alloc (.cells #[.int .u8 (y0 : Int), .string y1, .int .u8 (y2 : Int)] 70)).cell? ⟨v1.heap.size, 0, none⟩ = some (.int .u8 (n0 : Int)) := (hB2.cell (p := ⟨v1.heap.size, 0, none⟩) (by show v1.heap.size < v1.heap.size + 1; omega)).trans (by simp)
          have g3 : (wr.alloc (.cells #[.int .u8 (y0 : Int), .string y1, .int .u8 (y2 : Int)] 70)).cell? ⟨v1.heap.size, 3, none⟩ = some (.string n3) := (hB2.cell (p := ⟨v1.heap.size, 3, none⟩) (by show v1.heap.size < v1.heap.size + 1; omega)).trans (by simp)
          have z1 : ((y0 : Int) == 0) = (y0 == 0) := beq_cast _ 0
          have z2 : ((y0 : Int) == (n0 : Int)) = (y0 == n0) := beq_cast _ _
          have h1 := noneS_toList y1; have h1' := noneS_empty y1
          have z3 : (y1.toList == n3.toList) = (y1.data.toList == n3.data.toList) := by rw [Lib.toList_data, Lib.toList_data]
          have hfd : fitsB ⟨y0, y1, y2⟩ n0 n3 = ((y0 == 0 || y0 == n0) && (noneS y1 || y1.data.toList == n3.data.toList)) := rfl
          rw [hfd] at Hk
          have HBW := hid hBW
          have HB3 := hid (hBW.alloc hBW.size (.cells #[.int .u8 (y0 : Int), .string y1, .int .u8 (y2 : Int)] 70))
          have HB4 := hid hB2
          clear hB2 hBW hfd
          generalize noneS y1 = b3 at *
          generalize (y1.data.toList == n3.data.toList) = b4 at *
          generalize (y0 == 0) = b1 at *
          generalize (y0 == n0) = b2 at *
          cases b1 <;> cases b2 <;> cases b3 <;> cases b4
          all_goals
            simp only [Bool.or_true, Bool.or_false, Bool.true_or, Bool.false_or, Bool.and_true, Bool.and_false, Bool.true_and, Bool.false_and, if_true, if_false, Bool.false_eq_true] at Hk
            first
              | (have hRy : y2 = R := Hk.out
                 subst hRy
                 clear Hk
                 go_wp2
                 go_ret
                 exact ⟨rfl, HB3.out⟩)
              | (go_wp2
                 go_roundw
                 case rel => exact ⟨k + 1, by omega, by go_num, HB4, Hk⟩
                 case measure => simp [RowKit.intOf]; omega)
        · have hR1 : R = 1 := by
            rw [← hK.out, List.drop_eq_nil_of_le (by omega)]
            rfl
          subst hR1
          clear hK G
          go_wp2
          go_ret
          exact ⟨rfl, hBW⟩
end Go.Proofs.Yteflknfejjdkfaa

namespace Go.Proofs.Yteflknfejjdkfaa
open Go.RowKit Go.Lib

/-- What 'lives' answers. -/
def LivesW : Prop := ∀ w : World, Calls Try.prog 11 #[] w fun e w' => e = .returned (.bool true) ∧ Below w.heap.size w w'

theorem boxesFW {w V : World} {f r c s l : Value} {t u : TypeId} (hb : Below (w.heap.size + 2) ((w.alloc (.cells #[f] t)).alloc (.cells #[r, c, s, l] u)) V) :
    V.cell? ⟨w.heap.size, 0, none⟩ = some f ∧ V.cell? ⟨w.heap.size + 1, 0, none⟩ = some r ∧ V.cell? ⟨w.heap.size + 1, 1, none⟩ = some c ∧ V.cell? ⟨w.heap.size + 1, 2, none⟩ = some s ∧ V.cell? ⟨w.heap.size + 1, 3, none⟩ = some l := by
  have hn : V.heap[w.heap.size + 1]? = some (.cells #[r, c, s, l] u) := by
    have := vheapW (w.alloc (.cells #[f] t)) (.cells #[r, c, s, l] u)
    rw [World.size_alloc] at this
    exact (hb.block (w.heap.size + 1) (by omega)).trans this
  have hk : ∀ j : Nat, V.cell? ⟨w.heap.size + 1, j, none⟩ = #[r, c, s, l][j]? := fun j => by
    unfold World.cell?
    simp only [hn]
    exact if_neg (by decide)
  exact ⟨(hb.cell (p := ⟨w.heap.size, 0, none⟩) (by show w.heap.size < w.heap.size + 2; omega)).trans (by simp), (hk 0).trans rfl, (hk 1).trans rfl, (hk 2).trans rfl, (hk 3).trans rfl⟩
theorem below_two (w : World) (o1 o2 : Obj) : Below w.heap.size w ((w.alloc o1).alloc o2) := ((Below.refl _ w).alloc (Nat.le_refl _) _).alloc (by simp) _

set_option maxRecDepth 100000 in
set_option maxHeartbeats 4000000 in
theorem sameZero (w : World) : Calls Try.prog 12 #[.agg #[.int .i64 0, .int .i64 0, .int .u32 0, .slice none 0 0], .agg #[.int .i64 0, .int .i64 0, .int .u32 0, .slice none 0 0]] w fun e w' => e = .returned (.bool true) ∧ Below w.heap.size w w' := by
  have HB0 := hid (below_two w (.cells #[.int .i64 0, .int .i64 0, .int .u32 0, .slice none 0 0] 34) (.cells #[.int .i64 0, .int .i64 0, .int .u32 0, .slice none 0 0] 34))
  go_enter Try.func12, Try.ntmps12
  go_wp2
  go_loopw [42] (fun t wr => t = .int .i64 0 ∧ wr = (w.alloc (.cells #[.int .i64 0, .int .i64 0, .int .u32 0, .slice none 0 0] 34)).alloc (.cells #[.int .i64 0, .int .i64 0, .int .u32 0, .slice none 0 0] 34)) (fun _ _ => 0)
  case atStart => exact ⟨rfl, rfl⟩
  case round =>
    obtain ⟨rfl, rfl⟩ := hrel
    go_wp2
    go_ret
    exact ⟨rfl, HB0.out⟩

set_option maxRecDepth 100000 in
set_option maxHeartbeats 4000000 in
theorem within_err (o : Option Addr) (cap n : Nat) (root cur sh : Int) (ro : Option Addr) (rc k : Nat) (way : Int) (E : Int) (w : World) (hne : (E != 0) = true) (HL : LivesW)
    (HS : ∀ W : World, Below w.heap.size w W → Calls Try.prog 17 #[.agg #[.slice o n cap], .agg #[.int .i64 root, .int .i64 cur, .int .u32 sh, .slice ro k rc], .int .u8 way] W fun e w' => e = .returned (.tuple #[.agg #[.int .i64 0, .int .i64 0, .int .u32 0, .slice none 0 0], .int .i64 0, .int .i64 E]) ∧ Below W.heap.size W w') :
    Calls Try.prog 6 #[.agg #[.slice o n cap], .agg #[.int .i64 root, .int .i64 cur, .int .u32 sh, .slice ro k rc], .int .u8 way] w fun e w' => e = .returned (.bool true) ∧ Below w.heap.size w w' := by
  have HB0 := hid (below_two w (.cells #[.slice o n cap] 24) (.cells #[.int .i64 root, .int .i64 cur, .int .u32 sh, .slice ro k rc] 34))
  have hL := HL ((w.alloc (.cells #[.slice o n cap] 24)).alloc (.cells #[.int .i64 root, .int .i64 cur, .int .u32 sh, .slice ro k rc] 34))
  have HS0 := hid HS
  clear HS
  go_enter Try.func6, Try.ntmps6
  go_wp2_with fail
  refine hL.mono ?_
  rintro e v1 ⟨rfl, h1⟩
  simp only [World.size_alloc] at h1
  obtain ⟨q0, q1, q2, q3, q4⟩ := boxesFW h1
  have HB1 := hid (HB0.out.trans (h1.mono (by omega)))
  have hS := HS0.out v1 HB1.out
  clear hL h1 HS0
  go_wp2_with fail
  refine hS.mono ?_
  rintro e v2 ⟨rfl, h2⟩
  have HB2 := hid (HB1.out.trans (h2.mono HB1.out.size))
  have hZ := sameZero (v2.alloc (.cells #[.int .i64 0, .int .i64 0, .int .u32 0, .slice none 0 0] 34))
  clear hS h2 q0 q1 q2 q3 q4
  go_wp2_with fail
  refine hZ.mono ?_
  rintro e v3 ⟨rfl, h3⟩
  go_wp2
  go_ret
  exact ⟨rfl, (HB2.out.alloc HB2.out.size _).trans (h3.mono (HB2.out.alloc HB2.out.size _).size)⟩

set_option maxRecDepth 100000 in
set_option maxHeartbeats 4000000 in
theorem within_zero (o : Option Addr) (cap n : Nat) (root cur sh : Int) (ro : Option Addr) (rc k : Nat) (way : Int) (w : World) (HL : LivesW)
    (HS : ∀ W : World, Below w.heap.size w W → Calls Try.prog 17 #[.agg #[.slice o n cap], .agg #[.int .i64 root, .int .i64 cur, .int .u32 sh, .slice ro k rc], .int .u8 way] W fun e w' => ∃ vo vc, e = .returned (.tuple #[.agg #[.int .i64 root, .int .i64 cur, .int .u32 sh, .slice vo k vc], .int .i64 0, .int .i64 0]) ∧ Below W.heap.size W w') :
    Calls Try.prog 6 #[.agg #[.slice o n cap], .agg #[.int .i64 root, .int .i64 cur, .int .u32 sh, .slice ro k rc], .int .u8 way] w fun e w' => e = .returned (.bool true) ∧ Below w.heap.size w w' := by
  have HB0 := hid (below_two w (.cells #[.slice o n cap] 24) (.cells #[.int .i64 root, .int .i64 cur, .int .u32 sh, .slice ro k rc] 34))
  have hL := HL ((w.alloc (.cells #[.slice o n cap] 24)).alloc (.cells #[.int .i64 root, .int .i64 cur, .int .u32 sh, .slice ro k rc] 34))
  have HS0 := hid HS
  have hcc : (cur == cur) = true := beq_self_eq_true _
  clear HS
  go_enter Try.func6, Try.ntmps6
  go_wp2_with fail
  refine hL.mono ?_
  rintro e v1 ⟨rfl, h1⟩
  simp only [World.size_alloc] at h1
  obtain ⟨q0, q1, q2, q3, q4⟩ := boxesFW h1
  have H1 := hid h1
  have HB1 := hid (HB0.out.trans (h1.mono (by omega)))
  have hS := HS0.out v1 HB1.out
  clear hL h1 HS0
  go_wp2_with fail
  refine hS.mono ?_
  rintro e v2 ⟨vo, vc, rfl, h2⟩
  have hz1 := H1.out.size
  simp only [World.size_alloc] at hz1
  have HX := hid (H1.out.trans (h2.mono (by omega)))
  have hz2 := HX.out.size
  simp only [World.size_alloc] at hz2
  have HB2 := hid (HB1.out.trans (h2.mono HB1.out.size))
  clear hS h2 q0 q1 q2 q3 q4
  obtain ⟨q0, q1, q2, q3, q4⟩ := boxesFW (HX.out.alloc hz2 (.cells #[.int .i64 root, .int .i64 cur, .int .u32 sh, .slice vo k vc] 34))
  clear hz1 hz2
  go_wp2
  go_ret
  exact ⟨rfl, HB2.out.alloc HB2.out.size _⟩

set_option maxRecDepth 100000 in
set_option maxHeartbeats 4000000 in
theorem within_there (o : Option Addr) (cap n : Nat) (root cur sh : Int) (ro : Option Addr) (rc k : Nat) (way D : Int) (C1 : Bool) (w : World) (HL : LivesW) (hD : (D == 0) = false)
    (HS : ∀ W : World, Below w.heap.size w W → Calls Try.prog 17 #[.agg #[.slice o n cap], .agg #[.int .i64 root, .int .i64 cur, .int .u32 sh, .slice ro k rc], .int .u8 way] W fun e w' => ∃ vo vc, e = .returned (.tuple #[.agg #[.int .i64 root, .int .i64 D, .int .u32 sh, .slice vo k vc], .int .i64 D, .int .i64 0]) ∧ Below W.heap.size W w')
    (HV : ∀ W : World, Below w.heap.size w W → Calls Try.prog 16 #[.agg #[.slice o n cap], .agg #[.int .u32 sh, .slice ro k rc], .int .i64 D] W fun e w' => e = .returned (.int .u8 1) ∧ Below W.heap.size W w')
    (HC : ∀ W : World, Below w.heap.size w W → Calls Try.prog 18 #[.agg #[.slice o n cap], .int .i64 root, .int .i64 cur] W fun e w' => e = .returned (.bool C1) ∧ Below W.heap.size W w')
    (HD : C1 = true → ∀ W : World, Below w.heap.size w W → Calls Try.prog 18 #[.agg #[.slice o n cap], .int .i64 root, .int .i64 D] W fun e w' => e = .returned (.bool true) ∧ Below W.heap.size W w') :
    Calls Try.prog 6 #[.agg #[.slice o n cap], .agg #[.int .i64 root, .int .i64 cur, .int .u32 sh, .slice ro k rc], .int .u8 way] w fun e w' => e = .returned (.bool true) ∧ Below w.heap.size w w' := by
  have HB0 := hid (below_two w (.cells #[.slice o n cap] 24) (.cells #[.int .i64 root, .int .i64 cur, .int .u32 sh, .slice ro k rc] 34))
  have hL := HL ((w.alloc (.cells #[.slice o n cap] 24)).alloc (.cells #[.int .i64 root, .int .i64 cur, .int .u32 sh, .slice ro k rc] 34))
  have HS0 := hid HS
  have HV0 := hid HV
  have HC0 := hid HC
  have HD0 := hid HD
  have hDD : (D != D) = false := bne_self_eq_false _
  have hrr : (root != root) = false := bne_self_eq_false _
  clear HS HV HC HD
  go_enter Try.func6, Try.ntmps6
  go_wp2_with fail
  refine hL.mono ?_
  rintro e v1 ⟨rfl, h1⟩
  simp only [World.size_alloc] at h1
  obtain ⟨q0, q1, q2, q3, q4⟩ := boxesFW h1
  have H1 := hid h1
  have HB1 := hid (HB0.out.trans (h1.mono (by omega)))
  have hS := HS0.out v1 HB1.out
  clear hL h1 HS0
  go_wp2_with fail
  refine hS.mono ?_
  rintro e v2 ⟨vo, vc, rfl, h2⟩
  have hz1 := H1.out.size
  simp only [World.size_alloc] at hz1
  have HX := hid (H1.out.trans (h2.mono (by omega)))
  have hz2 := HX.out.size
  simp only [World.size_alloc] at hz2
  have HX2 := hid (HX.out.alloc hz2 (.cells #[.int .i64 root, .int .i64 D, .int .u32 sh, .slice vo k vc] 34))
  have HB2 := hid ((HB1.out.trans (h2.mono HB1.out.size)).alloc (HB1.out.trans (h2.mono HB1.out.size)).size (.cells #[.int .i64 root, .int .i64 D, .int .u32 sh, .slice vo k vc] 34))
  clear hS h2 q0 q1 q2 q3 q4
  obtain ⟨q0, q1, q2, q3, q4⟩ := boxesFW HX2.out
  have hV := HV0.out _ HB2.out
  clear hz1 hz2 HV0 HX H1
  go_wp2_with fail
  refine hV.mono ?_
  rintro e v3 ⟨rfl, h3⟩
  have hz1 := HX2.out.size
  simp only [World.size_alloc] at hz1
  have HX3 := hid (HX2.out.trans (h3.mono (by simp only [World.size_alloc]; omega)))
  have HB3 := hid (HB2.out.trans (h3.mono HB2.out.size))
  clear hV h3 q0 q1 q2 q3 q4 hz1
  obtain ⟨q0, q1, q2, q3, q4⟩ := boxesFW HX3.out
  have hC := HC0.out v3 HB3.out
  clear HC0 HX2
  cases C1 with
  | false =>
    clear HD0
    go_wp2_with fail
    refine hC.mono ?_
    rintro e v4 ⟨rfl, h4⟩
    clear q0 q1 q2 q3 q4
    go_wp2
    go_ret
    exact ⟨rfl, HB3.out.trans (h4.mono HB3.out.size)⟩
  | true =>
    go_wp2_with fail
    refine hC.mono ?_
    rintro e v4 ⟨rfl, h4⟩
    have hz1 := HX3.out.size
    simp only [World.size_alloc] at hz1
    have HX4 := hid (HX3.out.trans (h4.mono (by omega)))
    have HB4 := hid (HB3.out.trans (h4.mono HB3.out.size))
    have hD4 := HD0.out (by first | exact trivial | rfl) v4 HB4.out
    clear q0 q1 q2 q3 q4 h4 hz1 hC HD0
    obtain ⟨q0, q1, q2, q3, q4⟩ := boxesFW HX4.out
    go_wp2_with fail
    refine hD4.mono ?_
    rintro e v5 ⟨rfl, h5⟩
    clear q0 q1 q2 q3 q4
    go_wp2
    go_ret
    exact ⟨rfl, HB4.out.trans (h5.mono HB4.out.size)⟩

theorem walkWithin_law (HL : LivesW) (o : Option Addr) (cap : Nat) (ns : List NodeD) (root cur : Int) (sh : Nat) (ro : Option Addr) (rc : Nat) (rules : List RuleD) (way : Nat) (w : World) (hF : FRd w o cap ns) (hkl : ∀ (i : Nat) (hi : i < ns.length), ns[i].kids.length ≤ 1099511627776) (hal : ∀ (i : Nat) (hi : i < ns.length), ns[i].attrs.length ≤ 1099511627776) (hru : RdR w (.slice ro rules.length rc) rules) (hrl : rules.length ≤ 1099511627776) (hs : sh < 4294967296) (h256 : way < 256) :
    Calls Try.prog 6 #[.agg #[.slice o ns.length cap], .agg #[.int .i64 root, .int .i64 cur, .int .u32 (sh : Int), .slice ro rules.length rc], .int .u8 (way : Int)] w fun e w' => e = .returned (.bool true) ∧ Below w.heap.size w w' := by
  by_cases hE : stepE ns root cur rules way = 0
  · have hE0 : wrongE ns [root, cur] rules = 0 ∧ isWay way = true := by
      unfold stepE at hE
      split at hE
      · rename_i h
        refine ⟨h, ?_⟩
        cases hw : isWay way with
        | true => rfl
        | false => rw [hw] at hE; exact absurd hE (by decide)
      · rename_i h; exact absurd hE h
    obtain ⟨hR, hth, hfe⟩ := wrongE_ok hE0.1
    have hrt := hth root (by simp)
    have hct := hth cur (by simp)
    obtain ⟨j, hj, _⟩ := there_idx hrt
    obtain ⟨b, off, rfl, hFA⟩ := hF.at_ (by omega)
    have hS : ∀ W : World, Below w.heap.size w W → _ := fun W hW => Step_ok b off cap ns root cur sh ro rc rules way W (hFA.later hW) hkl hal (hru.later hW) hrl hs hE
    by_cases h0 : stepD ns root sh rules way cur = 0
    · refine within_zero _ cap ns.length root cur sh ro rc rules.length way w HL (fun W hW => (hS W hW).mono ?_)
      rintro e w' ⟨vo, vc, rfl, _, hb⟩
      rw [h0, if_pos rfl]
      exact ⟨vo, vc, rfl, hb⟩
    · obtain ⟨ht, hv, hin, _⟩ := (stepD_good hR hrt sh rules hE0.2 hct).resolve_left h0
      refine within_there _ cap ns.length root cur sh ro rc rules.length way (stepD ns root sh rules way cur) (containsD ns root cur) w HL (beq_eq_false_iff_ne.2 h0) (fun W hW => (hS W hW).mono ?_) (fun W hW => ?_) (fun W hW => refContains_any b off cap root cur ns W hR (hFA.later hW) hct) (fun hc W hW => ?_)
      · rintro e w' ⟨vo, vc, rfl, _, hb⟩
        rw [if_neg h0]
        exact ⟨vo, vc, rfl, hb⟩
      · have := refVerdict_any b off cap (stepD ns root sh rules way cur) sh ro rc rules ns W hR (hFA.later hW) ht hs (hru.later hW) (filterE_ok hfe).1
        rw [hv] at this
        exact this
      · have := refContains_any b off cap root (stepD ns root sh rules way cur) ns W hR (hFA.later hW) ht
        have hc' : containsD ns root (stepD ns root sh rules way cur) = true := by
          unfold containsD at hc ⊢
          rw [List.contains_iff_mem] at hc ⊢
          exact hin hc
        rw [hc'] at this
        exact this
  · exact within_err o cap ns.length root cur sh ro rc rules.length way (stepE ns root cur rules way) w (by rw [bne, beq_eq_false_iff_ne.2 hE]; rfl) HL (fun W hW => Step_err o cap ns root cur sh ro rc rules way W (hF.later hW) hkl hal (hru.later hW) hrl h256 hE)
end Go.Proofs.Yteflknfejjdkfaa

namespace Go.Proofs.Yteflknfejjdkfaa
open Go.RowKit Go.Lib

theorem nextH_back {ns : List NodeD} {up : Int → Int} {hang hang' : Int → List Int} (h : Hangs ns up hang) (h' : Hangs ns up hang') (hrev : ∀ x, hang' x = (hang x).reverse) {x : Int} (hx : thereB ns.length x = true) (h0 : nextH up hang x ≠ 0) : nextH up hang' (nextH up hang x) = x := by
  unfold nextH at h0 ⊢
  cases hl : laterH up hang x with
  | nil => rw [hl] at h0; exact absurd rfl h0
  | cons s rest =>
    have hu : up x ≠ 0 := (h.next hx hl).2.2.1
    have hp := h.up_there hx hu
    have hm := h.back x hx hu
    obtain ⟨s1, s2, hs⟩ := List.append_of_mem hm
    have h2 := h.later_at hp hs
    rw [hl] at h2
    rw [← h2] at hs
    have hr : hang' (up x) = rest.reverse ++ s :: (x :: s1.reverse) := by
      rw [hrev, hs]
      simp
    have h3 := h'.later_at hp hr
    show (laterH up hang' s).headD 0 = x
    rw [h3]
    rfl
theorem shownB_any {k : Nat} (hk : knownK k = true) : shownB 4294967295 k = true := by
  rcases known_cases hk with h | h | h | h | h | h | h | h | h <;> (subst h; rfl)
theorem verdict_any1 {ns : List NodeD} (hR : RightF ns) {x : Int} (hx : thereB ns.length x = true) : verdictOf ns 4294967295 [] x = 1 := by
  obtain ⟨j, hj, rfl⟩ := there_idx hx
  rw [verdictOf_at ns _ _ j hj]
  have hkn : knownK ns[j].kind = true := (well_parts (hR.well j hj)).1
  unfold verdictD
  rw [shownB_any hkn, if_pos rfl]
  rfl
section
variable {t : TourD}
theorem TourD.down_all (h : t.OK) (ha : ∀ x, thereB t.ns.length x = true → t.acc x = true) {x : Int} (hx : thereB t.ns.length x = true) : t.downD x = t.kid x := by
  unfold TourD.downD
  refine resM_end ?_
  unfold TourD.downS
  rcases TourD.kid_ok h hx with e | ⟨e, _, _⟩
  · rw [btrue e, Bool.true_or, if_pos rfl]
  · rw [ha _ e, Bool.or_true, if_pos rfl]
theorem TourD.up_all (h : t.OK) (ha : ∀ x, thereB t.ns.length x = true → t.acc x = true) {x : Int} (hx : thereB t.ns.length x = true) (hr : x ≠ t.root) (h0 : t.up x ≠ 0) : t.upD x = t.up x := by
  unfold TourD.upD
  refine resM_end ?_
  unfold TourD.upS
  rw [bfalse hr, bfalse h0, Bool.false_or, if_neg Bool.false_ne_true, ha _ ((TourD.up_ok h hx).resolve_left h0), if_pos rfl]
theorem TourD.along_all (h : t.OK) (ha : ∀ x, thereB t.ns.length x = true → t.acc x = true) {x : Int} (hx : thereB t.ns.length x = true) (hr : x ≠ t.root) : t.alongD x = t.next x := by
  unfold TourD.alongD
  rw [bfalse hr, if_neg Bool.false_ne_true]
  refine resM_end ?_
  unfold TourD.alongS
  rcases TourD.next_ok h hx with ⟨e, _⟩ | ⟨e, _, _⟩
  · show (if (t.next x == 0) = true then _ else _) = _
    rw [btrue e, if_pos rfl, e]
    rcases TourD.up_ok h hx with u | u
    · show (if (t.up x == 0 || t.up x == t.root || t.acc (t.up x)) = true then _ else _) = _
      rw [btrue u, Bool.true_or, Bool.true_or, if_pos rfl]
    · show (if (t.up x == 0 || t.up x == t.root || t.acc (t.up x)) = true then _ else _) = _
      rw [ha _ u, Bool.or_true, if_pos rfl]
  · show (if (t.next x == 0) = true then _ else if t.acc (t.next x) = true then _ else _) = _
    rw [bfalse (there_ne e), if_neg Bool.false_ne_true, ha _ e, if_pos rfl]
end
theorem hangD_turn (ns : List NodeD) (rev : Bool) (x : Int) : hangD ns (!rev) x = (hangD ns rev x).reverse := by
  cases rev with
  | false => rfl
  | true => show kidsD ns x = (revKids ns x).reverse; unfold revKids; rw [List.reverse_reverse]
/-- The pairs of ways. -/
def pairW (i : Nat) : Nat × Nat := if i = 0 then (2, 1) else if i = 1 then (3, 1) else if i = 2 then (5, 4) else (4, 5)
theorem pair_cases {i : Nat} (h : i < 4) : i = 0 ∨ i = 1 ∨ i = 2 ∨ i = 3 := by omega
theorem step_back {ns : List NodeD} (h : RightF ns) {root : Int} (hr : thereB ns.length root = true) {x : Int} (hx : thereB ns.length x = true) {i : Nat} (hi : i < 4) (h0 : stepD ns root 4294967295 [] (pairW i).1 x ≠ 0) (h1 : stepD ns root 4294967295 [] (pairW i).1 x ≠ root) :
    stepD ns root 4294967295 [] (pairW i).2 (stepD ns root 4294967295 [] (pairW i).1 x) = x := by
  have hok := fun rev => tourD_ok h hr 4294967295 [] rev
  have ha : ∀ (rev : Bool) (y : Int), thereB ns.length y = true → (tourD ns root 4294967295 [] rev).acc y = true := fun rev y hy => by
    show (verdictOf ns 4294967295 [] y == 1) = true
    rw [verdict_any1 h hy]
    rfl
  have hdown : ∀ rev rev' : Bool, (tourD ns root 4294967295 [] rev).downD x ≠ 0 → (tourD ns root 4294967295 [] rev).downD x ≠ root → (tourD ns root 4294967295 [] rev').upD ((tourD ns root 4294967295 [] rev).downD x) = x := fun rev rev' e0 e1 => by
    rw [TourD.down_all (hok rev) (ha rev) hx] at e0 e1 ⊢
    obtain ⟨a, b, _⟩ := (TourD.kid_ok (hok rev) hx).resolve_left e0
    have b' : (tourD ns root 4294967295 [] rev').up ((tourD ns root 4294967295 [] rev).kid x) = x := b
    rw [TourD.up_all (hok rev') (ha rev') a e1 (by rw [b']; exact there_ne hx), b']
  have halong : ∀ rev : Bool, (tourD ns root 4294967295 [] rev).alongD x ≠ 0 → (tourD ns root 4294967295 [] rev).alongD x ≠ root → (tourD ns root 4294967295 [] (!rev)).alongD ((tourD ns root 4294967295 [] rev).alongD x) = x := fun rev e0 e1 => by
    have hxr : x ≠ root := fun e => by
      unfold TourD.alongD at e0
      rw [show (x == (tourD ns root 4294967295 [] rev).root) = true from btrue e, if_pos rfl] at e0
      exact e0 rfl
    rw [TourD.along_all (hok rev) (ha rev) hx hxr] at e0 e1 ⊢
    have hn : thereB ns.length ((tourD ns root 4294967295 [] rev).next x) = true := by
      rcases TourD.next_ok (hok rev) hx with ⟨e, _⟩ | ⟨e, _⟩
      · exact absurd e e0
      · exact e
    rw [TourD.along_all (hok (!rev)) (ha (!rev)) hn e1]
    exact nextH_back (hok rev).hangs (hok (!rev)).hangs (hangD_turn ns rev) hx e0
  rcases pair_cases hi with rfl | rfl | rfl | rfl
  · exact hdown false false h0 h1
  · exact hdown true false h0 h1
  · exact halong false h0 h1
  · exact halong true h0 h1
theorem pair_way {i : Nat} (hi : i < 4) : isWay (pairW i).1 = true ∧ isWay (pairW i).2 = true := by
  rcases pair_cases hi with rfl | rfl | rfl | rfl <;> exact ⟨rfl, rfl⟩
end Go.Proofs.Yteflknfejjdkfaa

namespace Go.Proofs.Yteflknfejjdkfaa
open Go.RowKit Go.Lib

section
variable {t : TourD}
/-- What is shown of a node and within it: the node itself first, or last. -/
def TourD.seenF (t : TourD) (p : Bool) : Nat → Int → List Int
  | 0, _ => []
  | n + 1, x => if t.rej x then [] else (if p && t.acc x then [x] else []) ++ (t.hang x).flatMap (t.seenF p n) ++ (if !p && t.acc x then [x] else [])
def TourD.seen (t : TourD) (p : Bool) (x : Int) : List Int := t.seenF p (t.ns.length + 1) x
theorem TourD.seenF_stable (h : t.OK) (p : Bool) : ∀ (f g : Nat) (x : Int), thereB t.ns.length x = true → t.ns.length < f + t.len x → t.ns.length < g + t.len x → t.seenF p f x = t.seenF p g x
  | 0, _, x, hx, hf, _ => by have := TourD.len_le h hx; omega
  | _ + 1, 0, x, hx, _, hg => by have := TourD.len_le h hx; omega
  | f + 1, g + 1, x, hx, hf, hg => by
    rw [TourD.seenF, TourD.seenF]
    have he : (t.hang x).flatMap (t.seenF p f) = (t.hang x).flatMap (t.seenF p g) := by
      rw [List.flatMap_def, List.flatMap_def]
      congr 1
      refine List.map_congr_left fun k hk => ?_
      have hd : t.len k = t.len x + 1 := h.hangs.deep hx hk
      exact TourD.seenF_stable h p f g k (h.hangs.down x k hx hk).1 (by omega) (by omega)
    rw [he]
theorem TourD.seen_eq (h : t.OK) (p : Bool) {x : Int} (hx : thereB t.ns.length x = true) : t.seen p x = if t.rej x then [] else (if p && t.acc x then [x] else []) ++ (t.hang x).flatMap (t.seen p) ++ (if !p && t.acc x then [x] else []) := by
  show t.seenF p (t.ns.length + 1) x = _
  rw [TourD.seenF]
  have he : (t.hang x).flatMap (t.seenF p t.ns.length) = (t.hang x).flatMap (t.seen p) := by
    rw [List.flatMap_def, List.flatMap_def]
    congr 1
    refine List.map_congr_left fun k hk => ?_
    have hd : t.len k = t.len x + 1 := h.hangs.deep hx hk
    exact TourD.seenF_stable h p _ _ k (h.hangs.down x k hx hk).1 (by omega) (by omega)
  rw [he]
/-- A node strictly within the root. -/
def TourD.sub (t : TourD) (x : Int) : Prop := thereB t.ns.length x = true ∧ t.inn (t.up x)
theorem TourD.len_inn (h : t.OK) {x : Int} (hx : thereB t.ns.length x = true) (hi : t.inn x) : t.len t.root ≤ t.len x := by
  obtain ⟨pre, hp⟩ := h.hangs.suf hx hi
  unfold TourD.len lenH
  rw [hp, List.length_append]
  omega
theorem TourD.sub_up (h : t.OK) {x : Int} (hx : t.sub x) : t.up x ≠ 0 ∧ thereB t.ns.length (t.up x) = true := by
  rcases TourD.up_ok h hx.1 with h0 | h1
  · have := hx.2
    unfold TourD.inn at this
    rw [h0, pathUp_zero] at this
    cases this
  · exact ⟨there_ne h1, h1⟩
theorem TourD.sub_ne (h : t.OK) {x : Int} (hx : t.sub x) : x ≠ t.root := by
  intro e
  have h1 := (TourD.sub_up h hx).2
  have h2 := TourD.len_inn h h1 hx.2
  have h3 := TourD.up_len h hx.1
  rw [e] at h3 h2
  omega
theorem TourD.sub_inn (h : t.OK) {x : Int} (hx : t.sub x) : t.inn x := TourD.inn_of h hx.1 hx.2
theorem TourD.sub_of (h : t.OK) {x : Int} (hx : thereB t.ns.length x = true) (hi : t.inn x) (hr : x ≠ t.root) : t.sub x := ⟨hx, TourD.inn_up h hx (bfalse hr) hi⟩
theorem TourD.sub_next (h : t.OK) {x s : Int} {r : List Int} (hx : t.sub x) (hl : laterH t.up t.hang x = s :: r) : t.sub s ∧ laterH t.up t.hang s = r ∧ t.up s = t.up x := by
  obtain ⟨a, b, _, c, _⟩ := h.hangs.next hx.1 hl
  exact ⟨⟨a, by rw [b]; exact hx.2⟩, c, b⟩
theorem TourD.sub_kid (h : t.OK) {x k : Int} {r : List Int} (hx : thereB t.ns.length x = true) (hi : t.inn x) (hk : t.hang x = k :: r) : t.sub k ∧ laterH t.up t.hang k = r ∧ t.up k = x := by
  obtain ⟨a, b, c, _⟩ := h.hangs.kid hx hk
  exact ⟨⟨a, by rw [b]; exact hi⟩, c, b⟩
/-- What is shown behind a node and all within it. -/
def TourD.tailF (t : TourD) : Nat → Int → List Int
  | 0, _ => []
  | n + 1, x => if x == t.root then [] else (laterH t.up t.hang x).flatMap (t.seen true) ++ t.tailF n (t.up x)
def TourD.tail (t : TourD) (x : Int) : List Int := t.tailF (t.len x) x
theorem TourD.tail_root : t.tail t.root = [] := by
  unfold TourD.tail
  cases t.len t.root with
  | zero => rfl
  | succ n => rw [TourD.tailF, beq_self_eq_true, if_pos rfl]
theorem TourD.tail_eq (h : t.OK) {x : Int} (hx : thereB t.ns.length x = true) (hr : x ≠ t.root) : t.tail x = (laterH t.up t.hang x).flatMap (t.seen true) ++ t.tail (t.up x) := by
  unfold TourD.tail
  rw [TourD.up_len h hx, TourD.tailF, bfalse hr, if_neg Bool.false_ne_true]
def TourD.fromL (t : TourD) (x : Int) : List Int := if x == 0 then [] else t.seen true x ++ t.tail x
theorem TourD.from_zero : t.fromL 0 = [] := rfl
theorem TourD.from_some {x : Int} (hx : x ≠ 0) : t.fromL x = t.seen true x ++ t.tail x := by unfold TourD.fromL; rw [bfalse hx, if_neg Bool.false_ne_true]
theorem TourD.tail_over (h : t.OK) : ∀ (n : Nat) (x : Int), t.len x ≤ n → thereB t.ns.length x = true → t.inn x → t.tail x = t.fromL (t.over x)
  | 0, x, hn, hx, _ => by have := TourD.up_len h hx; omega
  | n + 1, x, hn, hx, hi => by
    by_cases hr : x = t.root
    · rw [hr, TourD.tail_root]
      unfold TourD.over
      rw [beq_self_eq_true, if_pos rfl]
      rfl
    · have hs := TourD.sub_of h hx hi hr
      have hov : t.over x = t.past x 0 := by unfold TourD.over; rw [bfalse hr, if_neg Bool.false_ne_true]
      rw [hov, TourD.tail_eq h hx hr]
      cases hl : laterH t.up t.hang x with
      | nil =>
        have hn0 : t.next x = 0 := by unfold TourD.next nextH; rw [hl]; rfl
        rw [List.flatMap_nil, List.nil_append]
        obtain ⟨u0, u1⟩ := TourD.sub_up h hs
        by_cases hur : t.up x = t.root
        · rw [TourD.past_stop 0 hx hn0 (by rw [btrue hur]; rfl), hur, TourD.tail_root]
          rfl
        · rw [TourD.past_up h 0 hx hn0 (by rw [bfalse hur, bfalse u0]; rfl), TourD.tail_over h n (t.up x) (by have := TourD.up_len h hx; omega) u1 hs.2]
          unfold TourD.over
          rw [bfalse hur, if_neg Bool.false_ne_true]
      | cons s r =>
        obtain ⟨a, b, c⟩ := TourD.sub_next h hs hl
        have hnx : t.next x = s := by unfold TourD.next nextH; rw [hl]; rfl
        rw [TourD.past_next 0 hx (by rw [hnx]; exact there_ne a.1), hnx, TourD.from_some (there_ne a.1), TourD.tail_eq h a.1 (TourD.sub_ne h a), b, c, List.flatMap_cons, List.append_assoc]
/-- What is shown behind a node, what is within it too. -/
def TourD.behind (t : TourD) (y : Int) : List Int := (t.hang y).flatMap (t.seen true) ++ t.tail y
theorem TourD.behind_eq (h : t.OK) {y : Int} (hy : thereB t.ns.length y = true) (hi : t.inn y) : t.behind y = t.fromL (if t.kid y == 0 then t.over y else t.kid y) := by
  unfold TourD.behind
  cases hk : t.hang y with
  | nil =>
    have h0 : t.kid y = 0 := by unfold TourD.kid kidH; rw [hk]; rfl
    rw [btrue h0, if_pos rfl, List.flatMap_nil, List.nil_append]
    exact TourD.tail_over h _ y (Nat.le_refl _) hy hi
  | cons k r =>
    have h0 : t.kid y = k := by unfold TourD.kid kidH; rw [hk]; rfl
    obtain ⟨a, b, c⟩ := TourD.sub_kid h hy hi hk
    rw [h0, bfalse (there_ne a.1), if_neg Bool.false_ne_true, TourD.from_some (there_ne a.1), TourD.tail_eq h a.1 (TourD.sub_ne h a), b, c, List.flatMap_cons, List.append_assoc]
theorem TourD.hang_nil {x : Int} (h : t.OK) (hx : thereB t.ns.length x = true) (h0 : t.kid x = 0) : t.hang x = [] := by
  cases hk : t.hang x with
  | nil => rfl
  | cons k r =>
    have h1 : t.kid x = k := by unfold TourD.kid kidH; rw [hk]; rfl
    exact absurd (h1.symm.trans h0) (there_ne (h.hangs.kid hx hk).1)
/-- A node that is not gone into, and not accepted, has nothing to show. -/
theorem TourD.seen_none (h : t.OK) (p : Bool) {x : Int} (hx : thereB t.ns.length x = true) (ha : t.acc x = false) (hi : t.into x = 0) : t.seen p x = [] := by
  rw [TourD.seen_eq h p hx]
  cases hr : t.rej x with
  | true => rfl
  | false =>
    have h0 : t.kid x = 0 := by unfold TourD.into at hi; rw [hr, if_neg Bool.false_ne_true] at hi; exact hi
    rw [TourD.hang_nil h hx h0, ha, Bool.and_false, Bool.and_false]
    rfl
theorem TourD.from_on (h : t.OK) (hd : ∀ x, t.acc x = true → t.rej x = false) : ∀ (n : Nat) (x : Int), t.rank x ≤ n → t.ok x → (x ≠ 0 → t.sub x) → t.fromL x = if t.onR x == 0 then [] else t.onR x :: t.behind (t.onR x) := by
  intro n
  induction n with
  | zero =>
    intro x hn hx _
    rcases hx with rfl | hx
    · rw [TourD.on_end (t := t) (x := 0) rfl]
      rfl
    · have := TourD.after_lt h hx
      omega
  | succ n ih =>
    intro x hn hx hsub
    rcases hx with rfl | hx
    · rw [TourD.on_end (t := t) (x := 0) rfl]
      rfl
    · have hs := hsub (there_ne hx)
      rw [TourD.from_some (there_ne hx)]
      cases ha : t.acc x with
      | true =>
        rw [TourD.on_end (by rw [ha, Bool.or_true]), bfalse (there_ne hx), if_neg Bool.false_ne_true, TourD.seen_eq h true hx, hd x ha, ha]
        unfold TourD.behind
        simp
      | false =>
        by_cases hi : t.into x = 0
        · rw [TourD.seen_none h true hx ha hi, List.nil_append, TourD.on_over h hx ha hi, TourD.tail_over h _ x (Nat.le_refl _) hx (TourD.sub_inn h hs)]
          obtain ⟨ok, lt⟩ := TourD.over_lt h hx
          refine ih (t.over x) (by omega) ok (fun h0 => ?_)
          rcases TourD.fine_over (c := True) h hx ⟨Nat.le_refl _, fun _ => TourD.sub_inn h hs⟩ with h1 | ⟨_, h2⟩
          · exact absurd h1 h0
          · exact ⟨ok.resolve_left h0, h2 trivial⟩
        · obtain ⟨e1, e2, e3, e4, e5⟩ := (TourD.into_ok h hx).resolve_left hi
          have e6 : t.seen true x ++ t.tail x = t.behind x := by
            rw [TourD.seen_eq h true hx, e2, ha]
            unfold TourD.behind
            simp
          rw [e6, TourD.on_into h hx ha hi, TourD.behind_eq h hx (TourD.sub_inn h hs), ← e1, bfalse hi, if_neg Bool.false_ne_true]
          exact ih (t.into x) (by omega) (.inr e3) (fun _ => ⟨e3, by rw [e4]; exact TourD.sub_inn h hs⟩)
/-- What a walk on reaches next. -/
theorem TourD.behind_on (h : t.OK) (hd : ∀ x, t.acc x = true → t.rej x = false) {y : Int} (hy : thereB t.ns.length y = true) (hi : t.inn y) : t.behind y = if t.onD y == 0 then [] else t.onD y :: t.behind (t.onD y) := by
  rw [TourD.behind_eq h hy hi]
  refine TourD.from_on h hd _ _ (Nat.le_refl _) ?_ ?_
  · split
    · exact (TourD.over_lt h hy).1
    · exact (TourD.kid_ok h hy).imp id (fun k => k.1)
  · intro h0
    revert h0
    split
    · intro h0
      rcases TourD.fine_over (c := True) h hy ⟨Nat.le_refl _, fun _ => hi⟩ with h1 | ⟨_, h2⟩
      · exact absurd h1 h0
      · exact ⟨(TourD.over_lt h hy).1.resolve_left h0, h2 trivial⟩
    · intro h0
      obtain ⟨a, b, _⟩ := (TourD.kid_ok h hy).resolve_left h0
      exact ⟨a, by rw [b]; exact hi⟩
/-- What is shown ahead of a node, nearest first, and the nodes over it. -/
def TourD.frontF (t : TourD) : Nat → Int → List Int
  | 0, _ => []
  | n + 1, x => if x == t.root then [] else (laterH t.up t.hang x).flatMap (t.seen false) ++ ((if t.acc (t.up x) then [t.up x] else []) ++ t.frontF n (t.up x))
def TourD.front (t : TourD) (x : Int) : List Int := t.frontF (t.len x) x
theorem TourD.front_root : t.front t.root = [] := by
  unfold TourD.front
  cases t.len t.root with
  | zero => rfl
  | succ n => rw [TourD.frontF, beq_self_eq_true, if_pos rfl]
theorem TourD.front_eq (h : t.OK) {x : Int} (hx : thereB t.ns.length x = true) (hr : x ≠ t.root) : t.front x = (laterH t.up t.hang x).flatMap (t.seen false) ++ ((if t.acc (t.up x) then [t.up x] else []) ++ t.front (t.up x)) := by
  unfold TourD.front
  rw [TourD.up_len h hx, TourD.frontF, bfalse hr, if_neg Bool.false_ne_true]
theorem TourD.front_bottom (h : t.OK) (hd : ∀ x, t.acc x = true → t.rej x = false) : ∀ (n : Nat) (s : Int), t.rank s ≤ n → t.sub s → t.sub (t.bottom s) ∧ t.seen false s ++ t.front s = (if t.acc (t.bottom s) then [t.bottom s] else []) ++ t.front (t.bottom s) := by
  intro n
  induction n with
  | zero =>
    intro s hn hs
    have := TourD.after_lt h hs.1
    omega
  | succ n ih =>
    intro s hn hs
    by_cases hi : t.into s = 0
    · rw [TourD.bottom_end hi]
      refine ⟨hs, ?_⟩
      cases ha : t.acc s with
      | false => rw [TourD.seen_none h false hs.1 ha hi]; rfl
      | true =>
        have hr := hd s ha
        have h0 : t.kid s = 0 := by unfold TourD.into at hi; rw [hr, if_neg Bool.false_ne_true] at hi; exact hi
        rw [TourD.seen_eq h false hs.1, hr, ha, TourD.hang_nil h hs.1 h0]
        rfl
    · obtain ⟨e1, e2, e3, e4, e5⟩ := (TourD.into_ok h hs.1).resolve_left hi
      have hin := TourD.sub_inn h hs
      have hk : t.sub (t.into s) := ⟨e3, by rw [e4]; exact hin⟩
      rw [TourD.bottom_go h hs.1 hi]
      obtain ⟨g1, g2⟩ := ih (t.into s) (by omega) hk
      refine ⟨g1, ?_⟩
      rw [← g2]
      cases hh : t.hang s with
      | nil =>
        rw [e1] at hi
        exact absurd (by unfold TourD.kid kidH; rw [hh]; rfl) hi
      | cons k r =>
        have hk1 : t.into s = k := by rw [e1]; unfold TourD.kid kidH; rw [hh]; rfl
        obtain ⟨a, b, c⟩ := TourD.sub_kid h hs.1 hin hh
        rw [hk1, TourD.front_eq h a.1 (TourD.sub_ne h a), b, c, TourD.seen_eq h false hs.1, e2, hh]
        simp
theorem TourD.front_back (h : t.OK) (hd : ∀ x, t.acc x = true → t.rej x = false) : ∀ (n : Nat) (x : Int), t.post x ≤ n → t.sub x → t.front x = if t.backR x == 0 then [] else t.backR x :: t.front (t.backR x) := by
  intro n
  induction n with
  | zero =>
    intro x hn hx
    have h1 := TourD.up_len h hx.1
    unfold TourD.post at hn
    omega
  | succ n ih =>
    intro x hn hx
    rw [TourD.front_eq h hx.1 (TourD.sub_ne h hx)]
    obtain ⟨u0, u1⟩ := TourD.sub_up h hx
    cases hl : laterH t.up t.hang x with
    | nil =>
      have hn0 : t.next x = 0 := by unfold TourD.next nextH; rw [hl]; rfl
      have hc : (x == t.root || t.up x == 0) = false := by rw [bfalse (TourD.sub_ne h hx), bfalse u0]; rfl
      rw [List.flatMap_nil, List.nil_append]
      cases ha : t.acc (t.up x) with
      | true =>
        rw [TourD.back_up hn0 hc ha, bfalse u0]
        simp
      | false =>
        by_cases hr : t.up x = t.root
        · rw [TourD.back_root hn0 hc ha (btrue hr), hr, TourD.front_root]
          rfl
        · rw [TourD.back_over h hx.1 hn0 hc ha (bfalse hr)]
          have := TourD.up_postW h hx.1 hn0
          have := ih (t.up x) (by omega) (TourD.sub_of h u1 hx.2 hr)
          rw [← this]
          simp
    | cons s r =>
      have hnx : t.next x = s := by unfold TourD.next nextH; rw [hl]; rfl
      obtain ⟨a, b, c⟩ := TourD.sub_next h hx hl
      have hn0 : t.next x ≠ 0 := by rw [hnx]; exact there_ne a.1
      obtain ⟨g1, g2⟩ := TourD.front_bottom h hd _ s (Nat.le_refl _) a
      have e : (s :: r).flatMap (t.seen false) ++ ((if t.acc (t.up x) then [t.up x] else []) ++ t.front (t.up x)) = t.seen false s ++ t.front s := by
        rw [TourD.front_eq h a.1 (TourD.sub_ne h a), b, c]
        simp
      rw [e, g2]
      cases ha : t.acc (t.bottom s) with
      | true =>
        rw [TourD.back_hit hn0 (by rw [hnx]; exact ha), hnx, bfalse (there_ne g1.1)]
        simp
      | false =>
        have hstep : t.backS x = .inl (t.bottom s) := by unfold TourD.backS; rw [bfalse hn0, if_neg Bool.false_ne_true, hnx, ha, if_neg Bool.false_ne_true]
        have hp := (TourD.back_dec h x _ hx.1 hstep).2
        rw [TourD.back_go h hx.1 hn0 (by rw [hnx]; exact ha), hnx, ← ih (t.bottom s) (by omega) g1]
        simp
theorem TourD.front_backD (h : t.OK) (hd : ∀ x, t.acc x = true → t.rej x = false) {x : Int} (hx : thereB t.ns.length x = true) (hi : t.inn x) : t.front x = if t.backD x == 0 then [] else t.backD x :: t.front (t.backD x) := by
  unfold TourD.backD
  by_cases hr : x = t.root
  · rw [btrue hr, if_pos rfl, hr, TourD.front_root]
    rfl
  · rw [bfalse hr, if_neg Bool.false_ne_true]
    exact TourD.front_back h hd _ x (Nat.le_refl _) (TourD.sub_of h hx hi hr)
/-- A node with nothing rejected over it, nor itself. -/
inductive TourD.Clean (t : TourD) : Int → Prop
  | root : TourD.Clean t t.root
  | kid (p k : Int) : TourD.Clean t p → k ∈ t.hang p → t.rej k = false → TourD.Clean t k
theorem TourD.Clean.inn {x : Int} (hc : t.Clean x) (h : t.OK) : thereB t.ns.length x = true ∧ t.inn x := by
  induction hc with
  | root => exact ⟨h.root, h.hangs.self h.root⟩
  | kid p k _ hk _ ih =>
    obtain ⟨a, b⟩ := h.hangs.down p k ih.1 hk
    exact ⟨a, TourD.inn_of h a (by rw [b]; exact ih.2)⟩
theorem TourD.seenF_clean (p : Bool) : ∀ (n : Nat) (x k y : Int), t.Clean x → k ∈ t.hang x → y ∈ t.seenF p n k → t.Clean y ∧ t.acc y = true := by
  intro n
  induction n with
  | zero => intro x k y _ _ hy; cases hy
  | succ n ih =>
    intro x k y hx hk hy
    rw [TourD.seenF] at hy
    cases hr : t.rej k with
    | true => rw [hr, if_pos rfl] at hy; cases hy
    | false =>
      have hc := TourD.Clean.kid x k hx hk hr
      rw [hr, if_neg Bool.false_ne_true, List.mem_append, List.mem_append] at hy
      have hone : ∀ q : Bool, y ∈ (if q && t.acc k then [k] else []) → t.Clean y ∧ t.acc y = true := fun q hq => by
        cases ha : t.acc k with
        | false => rw [ha, Bool.and_false] at hq; cases hq
        | true =>
          cases q with
          | false => cases hq
          | true =>
            rw [ha] at hq
            have : y = k := by simpa using hq
            subst this
            exact ⟨hc, ha⟩
      rcases hy with (hy | hy) | hy
      · exact hone p hy
      · obtain ⟨k', hk', hy⟩ := List.mem_flatMap.1 hy
        exact ih k k' y hc hk' hy
      · exact hone (!p) hy
end
section
variable {f b : TourD}
/-- Two tours of one tree, the one the other way round. -/
structure TourD.Twin (f b : TourD) : Prop where
  ns : b.ns = f.ns
  root : b.root = f.root
  up : b.up = f.up
  hang : ∀ x, b.hang x = (f.hang x).reverse
  acc : b.acc = f.acc
  rej : b.rej = f.rej
theorem TourD.seen_turn (hT : f.Twin b) : ∀ (n : Nat) (x : Int), b.seenF false n x = (f.seenF true n x).reverse := by
  intro n
  induction n with
  | zero => intro x; rfl
  | succ n ih =>
    intro x
    have he : b.seenF false n = List.reverse ∘ f.seenF true n := funext ih
    rw [TourD.seenF, TourD.seenF, hT.acc, hT.rej, hT.hang, he]
    cases f.rej x with
    | true => rfl
    | false =>
      cases f.acc x with
      | true => simp [List.reverse_flatMap]
      | false => simp [List.reverse_flatMap]
theorem TourD.clean_front (hf : f.OK) (hb : b.OK) (hT : f.Twin b) {x : Int} (hc : f.Clean x) : (f.behind f.root).reverse ++ (if f.acc f.root then [f.root] else []) = (f.behind x).reverse ++ ((if f.acc x then [x] else []) ++ b.front x) := by
  induction hc with
  | root =>
    rw [← hT.root, TourD.front_root]
    simp
  | kid p k hp hk hr ih =>
    obtain ⟨p1, p2⟩ := hp.inn hf
    obtain ⟨k1, k2⟩ := hf.hangs.down p k p1 hk
    have hks : f.sub k := ⟨k1, by rw [k2]; exact p2⟩
    have hkn := TourD.sub_ne hf hks
    obtain ⟨s1, s2, hs⟩ := List.append_of_mem hk
    have hl := hf.hangs.later_at p1 hs
    have hs' : b.hang p = s2.reverse ++ k :: s1.reverse := by rw [hT.hang, hs]; simp
    have hl' : laterH b.up b.hang k = s1.reverse := hb.hangs.later_at (by rw [hT.ns]; exact p1) hs'
    have e1 : f.behind p = s1.flatMap (f.seen true) ++ (f.seen true k ++ (s2.flatMap (f.seen true) ++ f.tail p)) := by
      unfold TourD.behind
      rw [hs]
      simp
    have e2 : f.behind k = (f.hang k).flatMap (f.seen true) ++ (s2.flatMap (f.seen true) ++ f.tail p) := by
      unfold TourD.behind
      rw [TourD.tail_eq hf k1 hkn, hl, k2]
    have e3 : f.seen true k = (if f.acc k then [k] else []) ++ (f.hang k).flatMap (f.seen true) := by
      rw [TourD.seen_eq hf true k1, hr]
      simp
    have e4 : b.front k = (s1.flatMap (f.seen true)).reverse ++ ((if f.acc p then [p] else []) ++ b.front p) := by
      rw [TourD.front_eq hb (by rw [hT.ns]; exact k1) (by rw [hT.root]; exact hkn), hl', hT.up, k2, hT.acc]
      congr 1
      have he : b.seen false = List.reverse ∘ f.seen true := funext fun y => by
        unfold TourD.seen
        rw [hT.ns]
        exact TourD.seen_turn hT _ y
      rw [he, List.reverse_flatMap]
    rw [ih, e1, e2, e3, e4]
    cases f.acc k with
    | true => simp
    | false => simp
end
/-- What is shown within a root. -/
def shownD (ns : List NodeD) (sh : Nat) (rules : List RuleD) (root x : Int) : List Int := (tourD ns root sh rules false).seen true x
def shownR (ns : List NodeD) (sh : Nat) (rules : List RuleD) (root : Int) : List Int := (kidsD ns root).flatMap (shownD ns sh rules root)
end Go.Proofs.Yteflknfejjdkfaa

namespace Go.Proofs.Yteflknfejjdkfaa
open Go.RowKit Go.Lib

theorem tourD_once (ns : List NodeD) (root : Int) (sh : Nat) (rules : List RuleD) (rev : Bool) : ∀ x, (tourD ns root sh rules rev).acc x = true → (tourD ns root sh rules rev).rej x = false := fun x hx => by
  have h1 : verdictOf ns sh rules x = 1 := eq_of_beq hx
  show (verdictOf ns sh rules x == 2) = false
  rw [h1]
  rfl
theorem tourD_twin (ns : List NodeD) (root : Int) (sh : Nat) (rules : List RuleD) : (tourD ns root sh rules false).Twin (tourD ns root sh rules true) := ⟨rfl, rfl, rfl, fun x => hangD_turn ns false x, rfl, rfl⟩
section
variable {ns : List NodeD}
theorem on_behind (h : RightF ns) {root : Int} (hr : thereB ns.length root = true) (sh : Nat) (rules : List RuleD) : ∀ (n : Nat) (y : Int), wayM ns root sh rules 7 y ≤ n → thereB ns.length y = true → (tourD ns root sh rules false).inn y → reachD ns root sh rules 7 y = (tourD ns root sh rules false).behind y := by
  intro n
  induction n with
  | zero =>
    intro y hn hy hi
    rw [reachD_eq h hr sh rules rfl hy, TourD.behind_on (tourD_ok h hr sh rules false) (tourD_once _ _ _ _ _) hy hi]
    show (if (tourD ns root sh rules false).onD y == 0 then [] else _) = _
    by_cases h0 : (tourD ns root sh rules false).onD y = 0
    · rw [btrue h0, if_pos rfl, if_pos rfl]
    · have := ((stepD_good h hr sh rules (way := 7) rfl hy).resolve_left h0).2.2.2
      omega
  | succ n ih =>
    intro y hn hy hi
    rw [reachD_eq h hr sh rules rfl hy, TourD.behind_on (tourD_ok h hr sh rules false) (tourD_once _ _ _ _ _) hy hi]
    show (if (tourD ns root sh rules false).onD y == 0 then [] else (tourD ns root sh rules false).onD y :: reachD ns root sh rules 7 ((tourD ns root sh rules false).onD y)) = _
    by_cases h0 : (tourD ns root sh rules false).onD y = 0
    · rw [btrue h0, if_pos rfl, if_pos rfl]
    · obtain ⟨a, _, c, d⟩ := (stepD_good h hr sh rules (way := 7) rfl hy).resolve_left h0
      rw [bfalse h0, if_neg Bool.false_ne_true, if_neg Bool.false_ne_true]
      congr 1
      exact ih ((tourD ns root sh rules false).onD y) (by have : wayM ns root sh rules 7 ((tourD ns root sh rules false).onD y) < wayM ns root sh rules 7 y := d; omega) a (c hi)
theorem on_shown (h : RightF ns) {root : Int} (hr : thereB ns.length root = true) (sh : Nat) (rules : List RuleD) : reachD ns root sh rules 7 root = shownR ns sh rules root := by
  have hok := tourD_ok h hr sh rules false
  rw [on_behind h hr sh rules _ root (Nat.le_refl _) hr (hok.hangs.self hr)]
  unfold TourD.behind
  have : (tourD ns root sh rules false).tail root = [] := TourD.tail_root (t := tourD ns root sh rules false)
  rw [this, List.append_nil]
  rfl
theorem back_front (h : RightF ns) {root : Int} (hr : thereB ns.length root = true) (sh : Nat) (rules : List RuleD) : ∀ (n : Nat) (y : Int), wayM ns root sh rules 6 y ≤ n → thereB ns.length y = true → (tourD ns root sh rules true).inn y → reachD ns root sh rules 6 y = (tourD ns root sh rules true).front y := by
  intro n
  induction n with
  | zero =>
    intro y hn hy hi
    rw [reachD_eq h hr sh rules rfl hy, TourD.front_backD (tourD_ok h hr sh rules true) (tourD_once _ _ _ _ _) hy hi]
    show (if (tourD ns root sh rules true).backD y == 0 then [] else _) = _
    by_cases h0 : (tourD ns root sh rules true).backD y = 0
    · rw [btrue h0, if_pos rfl, if_pos rfl]
    · have := ((stepD_good h hr sh rules (way := 6) rfl hy).resolve_left h0).2.2.2
      omega
  | succ n ih =>
    intro y hn hy hi
    rw [reachD_eq h hr sh rules rfl hy, TourD.front_backD (tourD_ok h hr sh rules true) (tourD_once _ _ _ _ _) hy hi]
    show (if (tourD ns root sh rules true).backD y == 0 then [] else (tourD ns root sh rules true).backD y :: reachD ns root sh rules 6 ((tourD ns root sh rules true).backD y)) = _
    by_cases h0 : (tourD ns root sh rules true).backD y = 0
    · rw [btrue h0, if_pos rfl, if_pos rfl]
    · obtain ⟨a, _, c, d⟩ := (stepD_good h hr sh rules (way := 6) rfl hy).resolve_left h0
      rw [bfalse h0, if_neg Bool.false_ne_true, if_neg Bool.false_ne_true]
      congr 1
      exact ih ((tourD ns root sh rules true).backD y) (by have : wayM ns root sh rules 6 ((tourD ns root sh rules true).backD y) < wayM ns root sh rules 6 y := d; omega) a (c hi)
/-- Behind the last nothing more is shown. -/
theorem behind_last (h : RightF ns) {root : Int} (hr : thereB ns.length root = true) (sh : Nat) (rules : List RuleD) : ∀ (n : Nat) (y : Int) (l : List Int) (z : Int), l.length ≤ n → thereB ns.length y = true → (tourD ns root sh rules false).inn y → (tourD ns root sh rules false).behind y = l ++ [z] → (tourD ns root sh rules false).behind z = [] := by
  intro n
  induction n with
  | zero =>
    intro y l z hn hy hi he
    have hl : l = [] := List.length_eq_zero_iff.1 (by omega)
    subst hl
    rw [TourD.behind_on (tourD_ok h hr sh rules false) (tourD_once _ _ _ _ _) hy hi] at he
    by_cases h0 : (tourD ns root sh rules false).onD y = 0
    · rw [btrue h0, if_pos rfl] at he; cases he
    · rw [bfalse h0, if_neg Bool.false_ne_true] at he
      simp only [List.nil_append, List.cons.injEq] at he
      rw [← he.1]
      exact he.2
  | succ n ih =>
    intro y l z hn hy hi he
    rw [TourD.behind_on (tourD_ok h hr sh rules false) (tourD_once _ _ _ _ _) hy hi] at he
    by_cases h0 : (tourD ns root sh rules false).onD y = 0
    · rw [btrue h0, if_pos rfl] at he
      exact absurd he.symm (by simp)
    · rw [bfalse h0, if_neg Bool.false_ne_true] at he
      cases l with
      | nil =>
        simp only [List.nil_append, List.cons.injEq] at he
        rw [← he.1]
        exact he.2
      | cons a m =>
        simp only [List.cons_append, List.cons.injEq] at he
        obtain ⟨g1, _, g3, _⟩ := (stepD_good h hr sh rules (way := 7) rfl hy).resolve_left h0
        exact ih _ m z (by simp only [List.length_cons] at hn; omega) g1 (g3 hi) he.2
theorem back_shown (h : RightF ns) {root : Int} (hr : thereB ns.length root = true) (sh : Nat) (rules : List RuleD) (l : List Int) (z : Int) (he : shownR ns sh rules root = l ++ [z]) : thereB ns.length z = true ∧ reachD ns root sh rules 6 z = l.reverse ++ (if verdictOf ns sh rules root == 1 then [root] else []) := by
  have hf := tourD_ok h hr sh rules false
  have hb := tourD_ok h hr sh rules true
  have hroot : (tourD ns root sh rules false).behind root = l ++ [z] := by
    unfold TourD.behind
    have : (tourD ns root sh rules false).tail root = [] := TourD.tail_root (t := tourD ns root sh rules false)
    rw [this, List.append_nil]
    exact he
  have hin : (tourD ns root sh rules false).inn root := hf.hangs.self hr
  have hz0 := behind_last h hr sh rules _ root l z (Nat.le_refl _) hr hin hroot
  have hzm : z ∈ shownR ns sh rules root := by rw [he]; simp
  obtain ⟨k, hk, hzk⟩ := List.mem_flatMap.1 hzm
  obtain ⟨hc, ha⟩ := TourD.seenF_clean (t := tourD ns root sh rules false) true _ root k z (TourD.Clean.root (t := tourD ns root sh rules false)) hk hzk
  obtain ⟨z1, z2⟩ := hc.inn hf
  refine ⟨z1, ?_⟩
  rw [back_front h hr sh rules _ z (Nat.le_refl _) z1 z2]
  have hK := TourD.clean_front hf hb (tourD_twin ns root sh rules) hc
  have hK' : ((tourD ns root sh rules false).behind root).reverse ++ (if verdictOf ns sh rules root == 1 then [root] else []) = ((tourD ns root sh rules false).behind z).reverse ++ ((if (tourD ns root sh rules false).acc z then [z] else []) ++ (tourD ns root sh rules true).front z) := hK
  rw [hroot, hz0, ha] at hK'
  simp only [List.reverse_append, List.reverse_cons, List.reverse_nil, List.nil_append, if_true, List.cons_append, List.cons.injEq, true_and] at hK'
  exact hK'.symm
end
end Go.Proofs.Yteflknfejjdkfaa

namespace Go.Proofs.Yteflknfejjdkfaa
open Go.RowKit Go.Lib Go.Shelf

/-- Behind the boxes of a forest and of a filter. -/
def AtT (w : World) (f s l : Value) (V : World) : Prop := Below (w.heap.size + 2) ((w.alloc (.cells #[f] 24)).alloc (.cells #[s, l] 28)) V
section
variable {w V V' : World} {f s l : Value}
theorem AtT.cells (h : AtT w f s l V) : V.cell? ⟨w.heap.size, 0, none⟩ = some f ∧ V.cell? ⟨w.heap.size + 1, 0, none⟩ = some s ∧ V.cell? ⟨w.heap.size + 1, 1, none⟩ = some l := by
  have hn : V.heap[w.heap.size + 1]? = some (.cells #[s, l] 28) := by
    have := vheapW (w.alloc (.cells #[f] 24)) (.cells #[s, l] 28)
    rw [World.size_alloc] at this
    exact (Below.block h (w.heap.size + 1) (by omega)).trans this
  have hk : ∀ j : Nat, V.cell? ⟨w.heap.size + 1, j, none⟩ = #[s, l][j]? := fun j => by
    unfold World.cell?
    simp only [hn]
    exact if_neg (by decide)
  exact ⟨(Below.cell h (p := ⟨w.heap.size, 0, none⟩) (by show w.heap.size < w.heap.size + 2; omega)).trans (by simp), (hk 0).trans rfl, (hk 1).trans rfl⟩
theorem AtT.size (h : AtT w f s l V) : w.heap.size + 2 ≤ V.heap.size := by
  have := Below.size h
  simp only [World.size_alloc] at this
  exact this
theorem AtT.below (h : AtT w f s l V) : Below w.heap.size w V := (((Below.refl _ w).alloc (Nat.le_refl _) _).alloc (by simp) _).trans (Below.mono h (by omega))
theorem AtT.step (h : AtT w f s l V) (hb : Below V.heap.size V V') : AtT w f s l V' := Below.trans h (hb.mono h.size)
theorem AtT.on (h : AtT w f s l V) (hb : Below (w.heap.size + 2) V V') : AtT w f s l V' := Below.trans h hb
theorem AtT.first (w : World) (f s l : Value) : AtT w f s l ((w.alloc (.cells #[f] 24)).alloc (.cells #[s, l] 28)) := Below.refl _ _
end
/-- A node, its lists read where they lay first. -/
theorem refNode_at (b off cap j : Nat) (ns : List NodeD) (w W : World) (hF : FAt w b off cap ns) (hW : Below w.heap.size w W) (hj : j < ns.length) :
    Calls Try.prog 27 #[.agg #[.slice (some ⟨b, off, none⟩) ns.length cap], .int .i64 ((j : Int) + 1)] W fun e w' => ∃ L : Lists, e = .returned (.tuple #[nodeV ns[j] L, .bool true]) ∧ RdN w L.data ns[j].data ∧ RdA w L.attrs ns[j].attrs ∧ RdI w L.kids ns[j].kids ∧ Below W.heap.size W w' := by
  have hle := hF.len
  obtain ⟨L, hc, hd, ha, hk⟩ := hF.at_ j hj
  have hs := hW.size
  have hB : Below w.heap.size w ((W.alloc (.cells #[.slice (some ⟨b, off, none⟩) ns.length cap] 24)).alloc (.cells #[.int .u8 0, .string ⟨#[]⟩, .string ⟨#[]⟩, .string ⟨#[]⟩, .string ⟨#[]⟩, .string ⟨#[]⟩, .slice none 0 0, .slice none 0 0, .int .i64 0, .slice none 0 0, .int .i64 0, .int .i64 0, .int .i64 0, .int .u8 0, .bool false, .bool false] 64)) := (hW.alloc hs _).alloc (by simp; omega) _
  obtain ⟨c0, c1, c2, c3, c4, c5, c6, c7, c8, c9, c10, c11, c12, c13, c14, c15⟩ := hc.later hF.lt hB
  have Hd := hid hd
  have Ha := hid ha
  have Hk := hid hk
  obtain ⟨D, A, K⟩ := L
  obtain ⟨od, cd, e1, _⟩ := hd
  obtain ⟨oa, ca, e2, _⟩ := ha
  obtain ⟨ok, ck, e3, _⟩ := hk
  simp only at e1 e2 e3
  subst e1 e2 e3
  have d1 : decide (((j : Int) + 1) < 1) = false := decide_eq_false (by omega)
  have d2 : decide ((ns.length : Int) < (j : Int) + 1) = false := decide_eq_false (by omega)
  have q1 : (0 : Int) ≤ (j : Int) := by omega
  have q2 : (j : Int) < (ns.length : Int) := by omega
  clear hF hc hB hW hs
  generalize ns[j] = n at *
  go_enter Try.func27, Try.ntmps27
  go_wp2
  have hB2 : ∀ o2 : Obj, Below W.heap.size W ((W.alloc (.cells #[.slice (some ⟨b, off, none⟩) ns.length cap] 24)).alloc o2) := fun o2 => ((Below.refl _ W).alloc (Nat.le_refl _) _).alloc (by simp) _
  exact bodyPost_ret (v := .tuple #[nodeV n ⟨.slice od n.data.length cd, .slice oa n.attrs.length ca, .slice ok n.kids.length ck⟩, .bool true]) (by simp [results, Try.results27, go_sem, nodeV]) rfl ⟨⟨.slice od n.data.length cd, .slice oa n.attrs.length ca, .slice ok n.kids.length ck⟩, rfl, Hd.out, Ha.out, Hk.out, hB2 _⟩

/-- What is shown of a node, or within a root. -/
def shownL (ns : List NodeD) (sh : Nat) (rules : List RuleD) (root : Int) (rb : Bool) (x : Int) : List Int := if rb then (kidsD ns x).flatMap (shownD ns sh rules root) else shownD ns sh rules root x
theorem newsW {w : World} {b off : Nat} {A : List Int} (h : ∀ (j : Nat) (hj : j < A.length), w.cell? ⟨b, off + j, none⟩ = some (.int .i64 A[j])) : ∀ (j : Nat) (u : Value), (A.map (Value.int .i64))[j]? = some u → w.cell? ((⟨b, off, none⟩ : Addr).add j) = some u := fun j u hj => by
  rw [List.getElem?_map] at hj
  obtain ⟨x, hx, rfl⟩ := Option.map_eq_some_iff.1 hj
  obtain ⟨hj', rfl⟩ := List.getElem?_eq_some_iff.1 hx
  have e : (⟨b, off, none⟩ : Addr).add j = ⟨b, off + j, none⟩ := by simp [Addr.add]
  rw [e]
  exact h j hj'
theorem newsW1 (A : List Int) : ∀ u ∈ A.map (Value.int .i64), u.oneCell' = true := fun u hu => by
  obtain ⟨x, _, rfl⟩ := List.mem_map.1 hu
  rfl

set_option maxRecDepth 100000 in
set_option maxHeartbeats 8000000 in
theorem shown_step (b off cap j : Nat) (ns : List NodeD) (root : Int) (sh : Nat) (ro : Option Addr) (rc : Nat) (rules : List RuleD) (rb : Bool) (w : World) (hR : RightF ns) (hroot0 : thereB ns.length root = true) (hF : FAt w b off cap ns) (hj : j < ns.length) (hs : sh < 4294967296) (hru : RdR w (.slice ro rules.length rc) rules) (hf : rules.length ≤ 64)
    (hT : (shownL ns sh rules root rb ((j : Int) + 1)).length ≤ 4096)
    (IH : ∀ y ∈ ns[j].kids, ∀ V : World, Below w.heap.size w V → Calls Try.prog 15 #[.agg #[.slice (some ⟨b, off, none⟩) ns.length cap], .agg #[.int .u32 (sh : Int), .slice ro rules.length rc], .int .i64 y, .bool false] V fun e v => ∃ u, e = .returned u ∧ RdI v u (shownD ns sh rules root y) ∧ (shownD ns sh rules root y = [] → u = .slice none 0 0) ∧ Below V.heap.size V v) :
    Calls Try.prog 15 #[.agg #[.slice (some ⟨b, off, none⟩) ns.length cap], .agg #[.int .u32 (sh : Int), .slice ro rules.length rc], .int .i64 ((j : Int) + 1), .bool rb] w fun e w' => ∃ u, e = .returned u ∧ RdI w' u (shownL ns sh rules root rb ((j : Int) + 1)) ∧ (shownL ns sh rules root rb ((j : Int) + 1) = [] → u = .slice none 0 0) ∧ Below w.heap.size w w' := by
  obtain ⟨i0, hi, hz0, hz1, hz2⟩ := info_parts info_int
  have hx : thereB ns.length ((j : Int) + 1) = true := thereB_idx _ _ hj
  have HV : Hid (∀ V : World, AtT w (.slice (some ⟨b, off, none⟩) ns.length cap) (.int .u32 (sh : Int)) (.slice ro rules.length rc) V → _) := fun V hV => refVerdict_any b off cap ((j : Int) + 1) sh ro rc rules ns V hR (hF.later hV.below) hx hs (hru.later hV.below) hf
  have HN : Hid (∀ V : World, AtT w (.slice (some ⟨b, off, none⟩) ns.length cap) (.int .u32 (sh : Int)) (.slice ro rules.length rc) V → _) := fun V hV => refNode_at b off cap j ns w V hF hV.below hj
  have HI := hid IH
  have HA0 : AtT w (.slice (some ⟨b, off, none⟩) ns.length cap) (.int .u32 (sh : Int)) (.slice ro rules.length rc) ((w.alloc (.cells #[.slice (some ⟨b, off, none⟩) ns.length cap] 24)).alloc (.cells #[.int .u32 (sh : Int), .slice ro rules.length rc] 28)) := AtT.first _ _ _ _
  have hkd : kidsD ns ((j : Int) + 1) = ns[j].kids := by unfold kidsD; rw [nodeOf_at ns j hj]
  have hkn := hR.kids_len j hj
  obtain ⟨T, hTT⟩ : ∃ T, shownL ns sh rules root rb ((j : Int) + 1) = T := ⟨_, rfl⟩
  have hT0 : T = if rb then ns[j].kids.flatMap (shownD ns sh rules root) else if verdictOf ns sh rules ((j : Int) + 1) = 2 then [] else (if verdictOf ns sh rules ((j : Int) + 1) = 1 then [(j : Int) + 1] else []) ++ ns[j].kids.flatMap (shownD ns sh rules root) := by
    rw [← hTT]
    unfold shownL
    cases rb with
    | true => rw [if_pos rfl, if_pos rfl, hkd]
    | false =>
      rw [if_neg Bool.false_ne_true, if_neg Bool.false_ne_true]
      show (tourD ns root sh rules false).seen true ((j : Int) + 1) = _
      rw [TourD.seen_eq (tourD_ok hR hroot0 sh rules false) true hx]
      show (if (verdictOf ns sh rules ((j : Int) + 1) == 2) = true then [] else (if (true && verdictOf ns sh rules ((j : Int) + 1) == 1) = true then [(j : Int) + 1] else []) ++ (kidsD ns ((j : Int) + 1)).flatMap (shownD ns sh rules root) ++ []) = _
      rw [hkd, Bool.true_and, List.append_nil]
      simp only [beq_iff_eq]
  rw [hTT] at hT ⊢
  have HT0 := hid hT0
  clear hR hF hru hf IH hTT hT0 hkd
  have HJ := hid hj
  have HP : Hid (∀ y ∈ ns[j].kids, ∀ V : World, _) := HI.out
  clear HI
  obtain ⟨q0, q1, q2⟩ := HA0.cells
  have HO0 : Hid (((w.alloc (.cells #[.slice (some ⟨b, off, none⟩) ns.length cap] 24)).alloc (.cells #[.int .u32 (sh : Int), .slice ro rules.length rc] 28)).ownsRow (w.heap.size + 2) 3 1 (.slice none 0 0) ([] : List Int).length (([] : List Int).map (Value.int .i64))) := World.ownsRow_nil _ _ _ _
  cases rb with
  | true =>
    go_enter Try.func15, Try.ntmps15
    go_wp2_with fail
    have hN := HN.out ((w.alloc (.cells #[.slice (some ⟨b, off, none⟩) ns.length cap] 24)).alloc (.cells #[.int .u32 (sh : Int), .slice ro rules.length rc] 28)) HA0
    have HT1 : Hid (([] : List Int) ++ (ns[j].kids.drop 0).flatMap (shownD ns sh rules root) = T) := by
      show _ = _
      rw [HT0.out]
      rfl
    clear HT0 HV HN
    refine hN.mono ?_
    rintro e v3 ⟨L, rfl, h1, h2, h3, hb3⟩
    obtain ⟨D, A, K⟩ := L
    obtain ⟨od, cd, e1, _⟩ := h1
    obtain ⟨oa, ca, e2, _⟩ := h2
    obtain ⟨ok, ck, e3, hck, gk⟩ := h3
    simp only at e1 e2 e3
    subst e1 e2 e3
    have hA3 := HA0.step hb3
    have HOw0 := hid (ownsRow_later HO0.out hb3)
    unfold nodeV
    clear hb3 hN q0 q1 q2
    generalize ns[j] = n at *
    have hA4 : AtT w (.slice (some ⟨b, off, none⟩) ns.length cap) (.int .u32 (sh : Int)) (.slice ro rules.length rc) (v3.alloc (.cells #[.int .u8 (n.kind : Int), .string n.space, .string n.pre, .string n.loc, .string n.pub, .string n.sys, .slice od n.data.length cd, .slice oa n.attrs.length ca, .int .i64 n.parent, .slice ok n.kids.length ck, .int .i64 n.doc, .int .i64 n.host, .int .i64 n.shadow, .int .u8 (n.mode : Int), .bool n.manual, .bool n.html] 64)) := hA3.step ((Below.refl _ _).alloc (Nat.le_refl _) _)
    have HOw := hid (HOw0.out.alloc (.cells #[.int .u8 (n.kind : Int), .string n.space, .string n.pre, .string n.loc, .string n.pub, .string n.sys, .slice od n.data.length cd, .slice oa n.attrs.length ca, .int .i64 n.parent, .slice ok n.kids.length ck, .int .i64 n.doc, .int .i64 n.host, .int .i64 n.shadow, .int .u8 (n.mode : Int), .bool n.manual, .bool n.html] 64))
    clear HOw0 hA3
    generalize n.kids = ks at *
    go_wp2
    go_loopw [10, 42] (fun o t wr => ∃ (k : Nat) (done : List Int), k ≤ ks.length ∧ t = .int .i64 k ∧ AtT w (.slice (some ⟨b, off, none⟩) ns.length cap) (.int .u32 (sh : Int)) (.slice ro rules.length rc) wr ∧ wr.ownsRow (w.heap.size + 2) 3 1 o done.length (done.map (Value.int .i64)) ∧ Hid (done = [] → o = .slice none 0 0) ∧ Hid (done ++ (ks.drop k).flatMap (shownD ns sh rules root) = T)) (fun _ t _ => ks.length - (RowKit.intOf t).toNat)
    case atStart => exact ⟨0, ([] : List Int), Nat.zero_le _, rfl, hA4, HOw.out, (fun _ => rfl), HT1⟩
    case round =>
      obtain ⟨k, done, hk, rfl, hB, hown, Hnil, hr⟩ := hrel
      clear HT1 HOw hA4
      obtain ⟨q0, q1, q2⟩ := hB.cells
      by_cases hlt : k < ks.length
      · obtain ⟨bk, offk, rfl, hltk, hak⟩ := gk (by omega)
        have x1 := (hB.below.cell (p := ⟨bk, offk + k, none⟩) hltk).trans (hak k hlt)
        have p1 : (0 : Int) ≤ (k : Int) := by omega
        have p2 : (k : Int) < (ks.length : Int) := by omega
        have hrr := hr.out
        rw [List.drop_eq_getElem_cons hlt, List.flatMap_cons, ← List.append_assoc] at hrr
        have hI := HP.out ks[k] (List.getElem_mem hlt) wr hB.below
        have hdl : done.length + (shownD ns sh rules root ks[k]).length ≤ 4096 := by
          have h := congrArg List.length hrr
          rw [List.length_append, List.length_append] at h
          omega
        have Hn := hid hrr
        have HOw := hid hown
        clear hrr hr hak gk HP hown
        generalize shownD ns sh rules root ks[k] = A at *
        generalize ks[k] = a at *
        go_wp2_with fail
        refine hI.mono ?_
        rintro e v5 ⟨u, rfl, hrd, hun, hb5⟩
        have hB5 := hB.step hb5
        have hown5 := ownsRow_later HOw.out hb5
        clear hI hb5 q0 q1 q2 HOw
        by_cases hA0 : A = []
        · have hu := hun hA0
          subst hu
          have hn2 := Hn.out
          rw [hA0, List.append_nil] at hn2
          have Hn2 := hid hn2
          have hap := run_append_owned_none (P := Try.prog) v5 (w.heap.size + 2) 40 40 3 i0 1 Try.underlying40 hi _ _ _ hown5
          clear hrd hun Hn hn2 hA0 hdl
          go_wp2_with (at_builtin; refine wpList_append_run _ rfl _ _ 40 40 rfl _ _ rfl rfl _ _ hap ?_)
          clear hap
          go_roundw
          case rel => exact ⟨k + 1, done, by omega, by go_num, hB5, hown5, Hnil, Hn2⟩
          case measure => simp [RowKit.intOf]; omega
        · obtain ⟨o2, c2, rfl, hc2, g2⟩ := hrd
          have hAl : 0 < A.length := List.length_pos_iff.2 hA0
          obtain ⟨b2, off2, rfl, hlt2, ha2⟩ := g2 hAl
          have hne : done ++ A = [] → False := fun h => hA0 (List.append_eq_nil_iff.1 h).2
          have HNe := hid hne
          have hz := hB5.size
          clear hun g2 hne hA0
          go_wp2_with (at_builtin; refine wpList_append_own _ rfl _ _ 40 rfl (w.heap.size + 2) 3 i0 (.int .i64 0) 1 8 Try.underlying40 hi hz0 hz1 hz2 rfl (by decide) _ _ _ rfl hown5 ⟨b2, off2, none⟩ A.length c2 (A.map (Value.int .i64)) rfl (by simp) (newsW ha2) (newsW1 A) (Nat.le_trans hdl (by decide)) (by omega) hz ?_; intro v' w1 hown' hgrow _)
          have hB6 := hB5.on ((Below.refl _ v5).grown hgrow hz (fun j hj => (hown5.lt j hj).1))
          go_roundw
          case rel => exact ⟨k + 1, done ++ A, by omega, by go_num, hB6, by simpa using hown', fun h => (HNe.out h).elim, Hn⟩
          case measure => simp [RowKit.intOf]; omega
      · have hTd : T = done := by
          rw [← hr.out, List.drop_eq_nil_of_le (by omega), List.flatMap_nil, List.append_nil]
        subst hTd
        have HOw := hid hown
        clear hr gk HP hown q0 q1 q2
        go_wp2
        go_ret
        exact ⟨_, rfl, ownsRow_rdI HOw.out, Hnil.out, hB.below⟩
  | false =>
    have hV := HV.out _ HA0
    go_enter Try.func15, Try.ntmps15
    go_wp2_with fail
    refine hV.mono ?_
    rintro e v1 ⟨rfl, hb1⟩
    have hA1 := HA0.step hb1
    have HO1 := hid (ownsRow_later HO0.out hb1)
    clear hV hb1 HO0 q0 q1 q2
    obtain ⟨q0, q1, q2⟩ := hA1.cells
    by_cases h2 : verdictOf ns sh rules ((j : Int) + 1) = 2
    · have hT2 : T = [] := by rw [HT0.out, if_neg Bool.false_ne_true, if_pos h2]
      subst hT2
      rw [h2]
      clear HT0 HP HN HV HO1 h2
      go_wp2
      go_ret
      exact ⟨_, rfl, nil_rdI _, rfl, hA1.below⟩
    · have g2 : ((verdictOf ns sh rules ((j : Int) + 1) : Int) == 2) = false := beq_eq_false_iff_ne.2 (by omega)
      by_cases h1 : verdictOf ns sh rules ((j : Int) + 1) = 1
      · have hz := hA1.size
        have m3 : w.heap.size + 2 ≤ (v1.alloc (.cells #[.int .i64 ((j : Int) + 1)] 3)).heap.size := by simp; omega
        have hAa : AtT w (.slice (some ⟨b, off, none⟩) ns.length cap) (.int .u32 (sh : Int)) (.slice ro rules.length rc) (v1.alloc (.cells #[.int .i64 ((j : Int) + 1)] 3)) := hA1.step ((Below.refl _ _).alloc (Nat.le_refl _) _)
        have hO1 := HO1.out.alloc (.cells #[.int .i64 ((j : Int) + 1)] 3)
        rw [h1]
        clear g2 HA0
        go_wp2_with (at_builtin; refine wpList_append_own _ rfl _ _ 40 rfl (w.heap.size + 2) 3 i0 (.int .i64 0) 1 8 Try.underlying40 hi hz0 hz1 hz2 rfl (by decide) _ _ _ rfl hO1 ⟨v1.heap.size, 0, none⟩ 1 1 [.int .i64 ((j : Int) + 1)] rfl rfl (cell_one_new _ _ _) (by simp [Value.oneCell']) (by decide) (by decide) m3 ?_; intro v' w1 hown' hgrow _; have hA2 := hAa.on ((Below.refl _ (v1.alloc (.cells #[.int .i64 ((j : Int) + 1)] 3))).grown hgrow m3 (fun j hj => (hO1.lt j hj).1)); have p0 := hA2.cells.1)
        have hOw1 : w1.ownsRow (w.heap.size + 2) 3 1 v' [(j : Int) + 1].length ([(j : Int) + 1].map (Value.int .i64)) := by simpa using hown'
        clear p0 hown' hgrow
        have hN := HN.out w1 hA2
        have HT1 : Hid ([(j : Int) + 1] ++ (ns[j].kids.drop 0).flatMap (shownD ns sh rules root) = T) := by
          show _ = _
          rw [HT0.out]
          rw [if_neg Bool.false_ne_true, if_neg h2, if_pos h1]; rfl
        clear HT0 HV HN
        refine hN.mono ?_
        rintro e v3 ⟨L, rfl, h1, h2, h3, hb3⟩
        obtain ⟨D, A, K⟩ := L
        obtain ⟨od, cd, e1, _⟩ := h1
        obtain ⟨oa, ca, e2, _⟩ := h2
        obtain ⟨ok, ck, e3, hck, gk⟩ := h3
        simp only at e1 e2 e3
        subst e1 e2 e3
        have hA3 := hA2.step hb3
        have HOw0 := hid (ownsRow_later hOw1 hb3)
        unfold nodeV
        clear hb3 hN q0 q1 q2
        generalize ns[j] = n at *
        have hA4 : AtT w (.slice (some ⟨b, off, none⟩) ns.length cap) (.int .u32 (sh : Int)) (.slice ro rules.length rc) (v3.alloc (.cells #[.int .u8 (n.kind : Int), .string n.space, .string n.pre, .string n.loc, .string n.pub, .string n.sys, .slice od n.data.length cd, .slice oa n.attrs.length ca, .int .i64 n.parent, .slice ok n.kids.length ck, .int .i64 n.doc, .int .i64 n.host, .int .i64 n.shadow, .int .u8 (n.mode : Int), .bool n.manual, .bool n.html] 64)) := hA3.step ((Below.refl _ _).alloc (Nat.le_refl _) _)
        have HOw := hid (HOw0.out.alloc (.cells #[.int .u8 (n.kind : Int), .string n.space, .string n.pre, .string n.loc, .string n.pub, .string n.sys, .slice od n.data.length cd, .slice oa n.attrs.length ca, .int .i64 n.parent, .slice ok n.kids.length ck, .int .i64 n.doc, .int .i64 n.host, .int .i64 n.shadow, .int .u8 (n.mode : Int), .bool n.manual, .bool n.html] 64))
        clear HOw0 hA3
        generalize n.kids = ks at *
        go_wp2
        go_loopw [10, 42] (fun o t wr => ∃ (k : Nat) (done : List Int), k ≤ ks.length ∧ t = .int .i64 k ∧ AtT w (.slice (some ⟨b, off, none⟩) ns.length cap) (.int .u32 (sh : Int)) (.slice ro rules.length rc) wr ∧ wr.ownsRow (w.heap.size + 2) 3 1 o done.length (done.map (Value.int .i64)) ∧ Hid (done = [] → o = .slice none 0 0) ∧ Hid (done ++ (ks.drop k).flatMap (shownD ns sh rules root) = T)) (fun _ t _ => ks.length - (RowKit.intOf t).toNat)
        case atStart => exact ⟨0, [(j : Int) + 1], Nat.zero_le _, rfl, hA4, HOw.out, (fun h => (List.cons_ne_nil _ _ h).elim), HT1⟩
        case round =>
          obtain ⟨k, done, hk, rfl, hB, hown, Hnil, hr⟩ := hrel
          clear HT1 HOw hA4
          obtain ⟨q0, q1, q2⟩ := hB.cells
          by_cases hlt : k < ks.length
          · obtain ⟨bk, offk, rfl, hltk, hak⟩ := gk (by omega)
            have x1 := (hB.below.cell (p := ⟨bk, offk + k, none⟩) hltk).trans (hak k hlt)
            have p1 : (0 : Int) ≤ (k : Int) := by omega
            have p2 : (k : Int) < (ks.length : Int) := by omega
            have hrr := hr.out
            rw [List.drop_eq_getElem_cons hlt, List.flatMap_cons, ← List.append_assoc] at hrr
            have hI := HP.out ks[k] (List.getElem_mem hlt) wr hB.below
            have hdl : done.length + (shownD ns sh rules root ks[k]).length ≤ 4096 := by
              have h := congrArg List.length hrr
              rw [List.length_append, List.length_append] at h
              omega
            have Hn := hid hrr
            have HOw := hid hown
            clear hrr hr hak gk HP hown
            generalize shownD ns sh rules root ks[k] = A at *
            generalize ks[k] = a at *
            go_wp2_with fail
            refine hI.mono ?_
            rintro e v5 ⟨u, rfl, hrd, hun, hb5⟩
            have hB5 := hB.step hb5
            have hown5 := ownsRow_later HOw.out hb5
            clear hI hb5 q0 q1 q2 HOw
            by_cases hA0 : A = []
            · have hu := hun hA0
              subst hu
              have hn2 := Hn.out
              rw [hA0, List.append_nil] at hn2
              have Hn2 := hid hn2
              have hap := run_append_owned_none (P := Try.prog) v5 (w.heap.size + 2) 40 40 3 i0 1 Try.underlying40 hi _ _ _ hown5
              clear hrd hun Hn hn2 hA0 hdl
              go_wp2_with (at_builtin; refine wpList_append_run _ rfl _ _ 40 40 rfl _ _ rfl rfl _ _ hap ?_)
              clear hap
              go_roundw
              case rel => exact ⟨k + 1, done, by omega, by go_num, hB5, hown5, Hnil, Hn2⟩
              case measure => simp [RowKit.intOf]; omega
            · obtain ⟨o2, c2, rfl, hc2, g2⟩ := hrd
              have hAl : 0 < A.length := List.length_pos_iff.2 hA0
              obtain ⟨b2, off2, rfl, hlt2, ha2⟩ := g2 hAl
              have hne : done ++ A = [] → False := fun h => hA0 (List.append_eq_nil_iff.1 h).2
              have HNe := hid hne
              have hz := hB5.size
              clear hun g2 hne hA0
              go_wp2_with (at_builtin; refine wpList_append_own _ rfl _ _ 40 rfl (w.heap.size + 2) 3 i0 (.int .i64 0) 1 8 Try.underlying40 hi hz0 hz1 hz2 rfl (by decide) _ _ _ rfl hown5 ⟨b2, off2, none⟩ A.length c2 (A.map (Value.int .i64)) rfl (by simp) (newsW ha2) (newsW1 A) (Nat.le_trans hdl (by decide)) (by omega) hz ?_; intro v' w1 hown' hgrow _)
              have hB6 := hB5.on ((Below.refl _ v5).grown hgrow hz (fun j hj => (hown5.lt j hj).1))
              go_roundw
              case rel => exact ⟨k + 1, done ++ A, by omega, by go_num, hB6, by simpa using hown', fun h => (HNe.out h).elim, Hn⟩
              case measure => simp [RowKit.intOf]; omega
          · have hTd : T = done := by
              rw [← hr.out, List.drop_eq_nil_of_le (by omega), List.flatMap_nil, List.append_nil]
            subst hTd
            have HOw := hid hown
            clear hr gk HP hown q0 q1 q2
            go_wp2
            go_ret
            exact ⟨_, rfl, ownsRow_rdI HOw.out, Hnil.out, hB.below⟩
      · have g1 : ((verdictOf ns sh rules ((j : Int) + 1) : Int) == 1) = false := beq_eq_false_iff_ne.2 (by omega)
        go_wp2_with fail
        have hN := HN.out v1 hA1
        have HT1 : Hid (([] : List Int) ++ (ns[j].kids.drop 0).flatMap (shownD ns sh rules root) = T) := by
          show _ = _
          rw [HT0.out]
          rw [if_neg Bool.false_ne_true, if_neg h2, if_neg h1]; rfl
        clear HT0 HV HN
        refine hN.mono ?_
        rintro e v3 ⟨L, rfl, h1, h2, h3, hb3⟩
        obtain ⟨D, A, K⟩ := L
        obtain ⟨od, cd, e1, _⟩ := h1
        obtain ⟨oa, ca, e2, _⟩ := h2
        obtain ⟨ok, ck, e3, hck, gk⟩ := h3
        simp only at e1 e2 e3
        subst e1 e2 e3
        have hA3 := hA1.step hb3
        have HOw0 := hid (ownsRow_later HO1.out hb3)
        unfold nodeV
        clear hb3 hN q0 q1 q2
        generalize ns[j] = n at *
        have hA4 : AtT w (.slice (some ⟨b, off, none⟩) ns.length cap) (.int .u32 (sh : Int)) (.slice ro rules.length rc) (v3.alloc (.cells #[.int .u8 (n.kind : Int), .string n.space, .string n.pre, .string n.loc, .string n.pub, .string n.sys, .slice od n.data.length cd, .slice oa n.attrs.length ca, .int .i64 n.parent, .slice ok n.kids.length ck, .int .i64 n.doc, .int .i64 n.host, .int .i64 n.shadow, .int .u8 (n.mode : Int), .bool n.manual, .bool n.html] 64)) := hA3.step ((Below.refl _ _).alloc (Nat.le_refl _) _)
        have HOw := hid (HOw0.out.alloc (.cells #[.int .u8 (n.kind : Int), .string n.space, .string n.pre, .string n.loc, .string n.pub, .string n.sys, .slice od n.data.length cd, .slice oa n.attrs.length ca, .int .i64 n.parent, .slice ok n.kids.length ck, .int .i64 n.doc, .int .i64 n.host, .int .i64 n.shadow, .int .u8 (n.mode : Int), .bool n.manual, .bool n.html] 64))
        clear HOw0 hA3
        generalize n.kids = ks at *
        go_wp2
        go_loopw [10, 42] (fun o t wr => ∃ (k : Nat) (done : List Int), k ≤ ks.length ∧ t = .int .i64 k ∧ AtT w (.slice (some ⟨b, off, none⟩) ns.length cap) (.int .u32 (sh : Int)) (.slice ro rules.length rc) wr ∧ wr.ownsRow (w.heap.size + 2) 3 1 o done.length (done.map (Value.int .i64)) ∧ Hid (done = [] → o = .slice none 0 0) ∧ Hid (done ++ (ks.drop k).flatMap (shownD ns sh rules root) = T)) (fun _ t _ => ks.length - (RowKit.intOf t).toNat)
        case atStart => exact ⟨0, ([] : List Int), Nat.zero_le _, rfl, hA4, HOw.out, (fun _ => rfl), HT1⟩
        case round =>
          obtain ⟨k, done, hk, rfl, hB, hown, Hnil, hr⟩ := hrel
          clear HT1 HOw hA4
          obtain ⟨q0, q1, q2⟩ := hB.cells
          by_cases hlt : k < ks.length
          · obtain ⟨bk, offk, rfl, hltk, hak⟩ := gk (by omega)
            have x1 := (hB.below.cell (p := ⟨bk, offk + k, none⟩) hltk).trans (hak k hlt)
            have p1 : (0 : Int) ≤ (k : Int) := by omega
            have p2 : (k : Int) < (ks.length : Int) := by omega
            have hrr := hr.out
            rw [List.drop_eq_getElem_cons hlt, List.flatMap_cons, ← List.append_assoc] at hrr
            have hI := HP.out ks[k] (List.getElem_mem hlt) wr hB.below
            have hdl : done.length + (shownD ns sh rules root ks[k]).length ≤ 4096 := by
              have h := congrArg List.length hrr
              rw [List.length_append, List.length_append] at h
              omega
            have Hn := hid hrr
            have HOw := hid hown
            clear hrr hr hak gk HP hown
            generalize shownD ns sh rules root ks[k] = A at *
            generalize ks[k] = a at *
            go_wp2_with fail
            refine hI.mono ?_
            rintro e v5 ⟨u, rfl, hrd, hun, hb5⟩
            have hB5 := hB.step hb5
            have hown5 := ownsRow_later HOw.out hb5
            clear hI hb5 q0 q1 q2 HOw
            by_cases hA0 : A = []
            · have hu := hun hA0
              subst hu
              have hn2 := Hn.out
              rw [hA0, List.append_nil] at hn2
              have Hn2 := hid hn2
              have hap := run_append_owned_none (P := Try.prog) v5 (w.heap.size + 2) 40 40 3 i0 1 Try.underlying40 hi _ _ _ hown5
              clear hrd hun Hn hn2 hA0 hdl
              go_wp2_with (at_builtin; refine wpList_append_run _ rfl _ _ 40 40 rfl _ _ rfl rfl _ _ hap ?_)
              clear hap
              go_roundw
              case rel => exact ⟨k + 1, done, by omega, by go_num, hB5, hown5, Hnil, Hn2⟩
              case measure => simp [RowKit.intOf]; omega
            · obtain ⟨o2, c2, rfl, hc2, g2⟩ := hrd
              have hAl : 0 < A.length := List.length_pos_iff.2 hA0
              obtain ⟨b2, off2, rfl, hlt2, ha2⟩ := g2 hAl
              have hne : done ++ A = [] → False := fun h => hA0 (List.append_eq_nil_iff.1 h).2
              have HNe := hid hne
              have hz := hB5.size
              clear hun g2 hne hA0
              go_wp2_with (at_builtin; refine wpList_append_own _ rfl _ _ 40 rfl (w.heap.size + 2) 3 i0 (.int .i64 0) 1 8 Try.underlying40 hi hz0 hz1 hz2 rfl (by decide) _ _ _ rfl hown5 ⟨b2, off2, none⟩ A.length c2 (A.map (Value.int .i64)) rfl (by simp) (newsW ha2) (newsW1 A) (Nat.le_trans hdl (by decide)) (by omega) hz ?_; intro v' w1 hown' hgrow _)
              have hB6 := hB5.on ((Below.refl _ v5).grown hgrow hz (fun j hj => (hown5.lt j hj).1))
              go_roundw
              case rel => exact ⟨k + 1, done ++ A, by omega, by go_num, hB6, by simpa using hown', fun h => (HNe.out h).elim, Hn⟩
              case measure => simp [RowKit.intOf]; omega
          · have hTd : T = done := by
              rw [← hr.out, List.drop_eq_nil_of_le (by omega), List.flatMap_nil, List.append_nil]
            subst hTd
            have HOw := hid hown
            clear hr gk HP hown q0 q1 q2
            go_wp2
            go_ret
            exact ⟨_, rfl, ownsRow_rdI HOw.out, Hnil.out, hB.below⟩

theorem seen_len (ns : List NodeD) (root : Int) (sh : Nat) (rules : List RuleD) : ∀ (n : Nat) (x : Int), ((tourD ns root sh rules false).seenF true n x).length ≤ (belowF (kidsD ns) n x).length := by
  intro n
  induction n with
  | zero => intro x; exact Nat.le_refl _
  | succ n ih =>
    intro x
    rw [TourD.seenF, belowF, List.length_cons]
    have hl : (((tourD ns root sh rules false).hang x).flatMap ((tourD ns root sh rules false).seenF true n)).length ≤ ((kidsD ns x).flatMap (belowF (kidsD ns) n)).length := by
      show ((kidsD ns x).flatMap _).length ≤ _
      induction kidsD ns x with
      | nil => exact Nat.le_refl _
      | cons k t ihk =>
        rw [List.flatMap_cons, List.flatMap_cons, List.length_append, List.length_append]
        have := ih k
        omega
    split
    · exact Nat.zero_le _
    · rw [List.length_append, List.length_append]
      have h1 : (if (true && (tourD ns root sh rules false).acc x) = true then [x] else []).length ≤ 1 := by split <;> simp
      have h2 : (if (!true && (tourD ns root sh rules false).acc x) = true then [x] else []).length = 0 := rfl
      omega
theorem shownL_len {ns : List NodeD} (h : RightF ns) (root : Int) (sh : Nat) (rules : List RuleD) (rb : Bool) {x : Int} (hx : thereB ns.length x = true) : (shownL ns sh rules root rb x).length ≤ 4096 := by
  have hb := Nat.le_trans (h.kidsHang.below_len (ns.length + 1) x hx (by omega)) h.small
  cases rb with
  | false => exact Nat.le_trans (seen_len ns root sh rules _ x) hb
  | true =>
    rw [h.kidsHang.consW hx, List.length_cons] at hb
    show ((kidsD ns x).flatMap (shownD ns sh rules root)).length ≤ 4096
    have : ((kidsD ns x).flatMap (shownD ns sh rules root)).length ≤ ((kidsD ns x).flatMap (belowF (kidsD ns) (ns.length + 1))).length := by
      induction kidsD ns x with
      | nil => exact Nat.le_refl _
      | cons k t ihk =>
        rw [List.flatMap_cons, List.flatMap_cons, List.length_append, List.length_append]
        have := seen_len ns root sh rules (ns.length + 1) k
        have hk : (shownD ns sh rules root k).length ≤ (belowF (kidsD ns) (ns.length + 1) k).length := this
        omega
    omega
theorem shown_go (ns : List NodeD) (hR : RightF ns) (root : Int) (hr : thereB ns.length root = true) (b off cap : Nat) (sh : Nat) (ro : Option Addr) (rc : Nat) (rules : List RuleD) (hs : sh < 4294967296) (hf : rules.length ≤ 64) : ∀ (f : Nat) (x : Int) (rb : Bool) (w : World), FAt w b off cap ns → RdR w (.slice ro rules.length rc) rules → thereB ns.length x = true → ns.length < f + (pathUp ns (parentD ns) x).length →
    Calls Try.prog 15 #[.agg #[.slice (some ⟨b, off, none⟩) ns.length cap], .agg #[.int .u32 (sh : Int), .slice ro rules.length rc], .int .i64 x, .bool rb] w fun e w' => ∃ u, e = .returned u ∧ RdI w' u (shownL ns sh rules root rb x) ∧ (shownL ns sh rules root rb x = [] → u = .slice none 0 0) ∧ Below w.heap.size w w'
  | 0, x, _, _, _, _, hx, hl => by have := pathUp_len ns _ hR.parentOK hR.ends x (.inr hx); omega
  | f + 1, x, rb, w, hF, hru, hx, hl => by
    have hlen := shownL_len hR root sh rules rb hx
    have hkd := hR.kidsHang.down x
    have hdp : ∀ y ∈ kidsD ns x, (pathUp ns (parentD ns) y).length = (pathUp ns (parentD ns) x).length + 1 := fun y hy => hR.kidsHang.deep hx hy
    obtain ⟨j, hj, rfl⟩ := there_idx hx
    refine shown_step b off cap j ns root sh ro rc rules rb w hR hr hF hj hs hru hf hlen (fun y hy V hV => ?_)
    have hk : kidsD ns ((j : Int) + 1) = ns[j].kids := by unfold kidsD; rw [nodeOf_at ns j hj]
    rw [← hk] at hy
    exact shown_go ns hR root hr b off cap sh ro rc rules hs hf f y false V (hF.later hV) (hru.later hV) (hkd y hx hy).1 (by have := hdp y hy; omega)
theorem shown_any (b off cap : Nat) (ns : List NodeD) (root : Int) (sh : Nat) (ro : Option Addr) (rc : Nat) (rules : List RuleD) (w : World) (hR : RightF ns) (hr : thereB ns.length root = true) (hF : FAt w b off cap ns) (hs : sh < 4294967296) (hru : RdR w (.slice ro rules.length rc) rules) (hf : rules.length ≤ 64) :
    Calls Try.prog 15 #[.agg #[.slice (some ⟨b, off, none⟩) ns.length cap], .agg #[.int .u32 (sh : Int), .slice ro rules.length rc], .int .i64 root, .bool true] w fun e w' => ∃ u, e = .returned u ∧ RdI w' u (shownR ns sh rules root) ∧ Below w.heap.size w w' :=
  (shown_go ns hR root hr b off cap sh ro rc rules hs hf (ns.length + 1) root true w hF hru hr (by omega)).mono fun e w' h => by
    obtain ⟨u, h1, h2, _, h4⟩ := h
    exact ⟨u, h1, h2, h4⟩
theorem shownR_len {ns : List NodeD} (h : RightF ns) {root : Int} (hr : thereB ns.length root = true) (sh : Nat) (rules : List RuleD) : (shownR ns sh rules root).length ≤ 4096 := shownL_len h root sh rules true hr
end Go.Proofs.Yteflknfejjdkfaa

namespace Go.Proofs.Yteflknfejjdkfaa
open Go.RowKit Go.Lib Go.Shelf

/-- Behind the box of a walker, at the block B = v2.heap.size. -/
structure WalkBox (v2 : World) (r c s l : Value) (V : World) : Prop where
  bel : Below v2.heap.size v2 V
  box : V.heap[v2.heap.size]? = some (.cells #[r, c, s, l] 34 (0, 0))
section
variable {v2 V V' : World} {r c s l : Value}
theorem WalkBox.lt (h : WalkBox v2 r c s l V) : v2.heap.size < V.heap.size := by
  by_cases hc : v2.heap.size < V.heap.size
  · exact hc
  · have := h.box
    rw [Array.getElem?_eq_none (by omega)] at this
    cases this
theorem WalkBox.cells (h : WalkBox v2 r c s l V) : V.cell? ⟨v2.heap.size, 0, none⟩ = some r ∧ V.cell? ⟨v2.heap.size, 1, none⟩ = some c ∧ V.cell? ⟨v2.heap.size, 2, none⟩ = some s ∧ V.cell? ⟨v2.heap.size, 3, none⟩ = some l ∧ V.frozen? ⟨v2.heap.size, 1, none⟩ = false := by
  have hb := h.box
  refine ⟨?_, ?_, ?_, ?_, ?_⟩ <;> simp [World.cell?, World.frozen?, hb]
theorem WalkBox.step (h : WalkBox v2 r c s l V) (hb : Below V.heap.size V V') : WalkBox v2 r c s l V' := ⟨h.bel.trans (hb.mono h.bel.size), (hb.block _ h.lt).trans h.box⟩
theorem WalkBox.set (h : WalkBox v2 r c s l V) (x : Value) : WalkBox v2 r x s l (V.setCell ⟨v2.heap.size, 1, none⟩ x) := ⟨h.bel.setCell (Nat.le_refl _) _, by simp [World.setCell, Array.getElem?_modify, h.box]⟩
theorem WalkBox.first (v2 : World) (r c s l : Value) : WalkBox v2 r c s l (v2.alloc (.cells #[r, c, s, l] 34)) := ⟨(Below.refl _ _).alloc (Nat.le_refl _) _, heap_new v2 _⟩
end

theorem rdI_some {W : World} {b off len cap : Nat} {l : List Int} (h : RdI W (.slice (some ⟨b, off, none⟩) len cap) l) (hl : 0 < l.length) : b < W.heap.size ∧ ∀ (j : Nat) (hj : j < l.length), W.cell? ⟨b, off + j, none⟩ = some (.int .i64 l[j]) := by
  obtain ⟨o, c, e, hc, g⟩ := h
  injection e with e1 e2 e3
  obtain ⟨b', off', e4, hlt, ha⟩ := g hl
  rw [← e1] at e4
  injection e4 with e5
  injection e5 with e6 e7
  subst e6 e7
  exact ⟨hlt, ha⟩

set_option maxRecDepth 100000 in
set_option maxHeartbeats 4000000 in
theorem shown_err (o : Option Addr) (cap n : Nat) (root sh : Int) (ro : Option Addr) (rc k : Nat) (E : Int) (w : World) (hne : (E != 0) = true) (HL : LivesW)
    (HS : ∀ W : World, Below w.heap.size w W → Calls Try.prog 9 #[.agg #[.slice o n cap], .int .i64 root, .agg #[.int .u32 sh, .slice ro k rc]] W fun e w' => e = .returned (.tuple #[.agg #[.int .i64 0, .int .i64 0, .int .u32 0, .slice none 0 0], .int .i64 E]) ∧ Below W.heap.size W w') :
    Calls Try.prog 4 #[.agg #[.slice o n cap], .int .i64 root, .agg #[.int .u32 sh, .slice ro k rc]] w fun e w' => e = .returned (.bool true) ∧ Below w.heap.size w w' := by
  have hA0 := AtT.first w (.slice o n cap) (.int .u32 sh) (.slice ro k rc)
  have hL := HL ((w.alloc (.cells #[.slice o n cap] 24)).alloc (.cells #[.int .u32 sh, .slice ro k rc] 28))
  have HS0 := hid HS
  clear HS
  go_enter Try.func4, Try.ntmps4
  go_wp2_with fail
  refine hL.mono ?_
  rintro e v1 ⟨rfl, h1⟩
  have hA1 := hA0.step h1
  obtain ⟨q0, q1, q2⟩ := hA1.cells
  have hS := HS0.out v1 hA1.below
  clear hL h1 HS0 hA0
  go_wp2_with fail
  refine hS.mono ?_
  rintro e v2 ⟨rfl, h2⟩
  have hA2 := hA1.step h2
  have hZ := sameZero (v2.alloc (.cells #[.int .i64 0, .int .i64 0, .int .u32 0, .slice none 0 0] 34))
  clear hS h2 q0 q1 q2
  go_wp2_with fail
  refine hZ.mono ?_
  rintro e v3 ⟨rfl, h3⟩
  go_wp2
  go_ret
  exact ⟨rfl, ((hA2.step ((Below.refl _ _).alloc (Nat.le_refl _) _)).step h3).below⟩

set_option maxRecDepth 100000 in
set_option maxHeartbeats 8000000 in
theorem shown_nil (o : Option Addr) (cap n : Nat) (root sh : Int) (ro : Option Addr) (rc : Nat) (rules : List RuleD) (w : World) (HL : LivesW)
    (HNew : ∀ W : World, Below w.heap.size w W → Calls Try.prog 9 #[.agg #[.slice o n cap], .int .i64 root, .agg #[.int .u32 sh, .slice ro rules.length rc]] W fun e w' => ∃ vo vc, e = .returned (.tuple #[.agg #[.int .i64 root, .int .i64 root, .int .u32 sh, .slice vo rules.length vc], .int .i64 0]) ∧ RdR w' (.slice vo rules.length vc) rules ∧ Below W.heap.size W w')
    (HOn : ∀ (W : World) (vo : Option Addr) (vc : Nat), Below w.heap.size w W → RdR W (.slice vo rules.length vc) rules → Calls Try.prog 13 #[.agg #[.slice o n cap], .agg #[.int .i64 root, .int .i64 root, .int .u32 sh, .slice vo rules.length vc], .int .u8 7] W fun e w' => ∃ v, e = .returned (.tuple #[v, .int .i64 0]) ∧ w'.ownsRow W.heap.size 3 1 v (([] : List Int)).length ((([] : List Int)).map (Value.int .i64)) ∧ Below W.heap.size W w')
    (HSh : ∀ W : World, Below w.heap.size w W → Calls Try.prog 15 #[.agg #[.slice o n cap], .agg #[.int .u32 sh, .slice ro rules.length rc], .int .i64 root, .bool true] W fun e w' => ∃ u, e = .returned u ∧ RdI w' u (([] : List Int)) ∧ Below W.heap.size W w') :
    Calls Try.prog 4 #[.agg #[.slice o n cap], .int .i64 root, .agg #[.int .u32 sh, .slice ro rules.length rc]] w fun e w' => e = .returned (.bool true) ∧ Below w.heap.size w w' := by
  have hA0 := AtT.first w (.slice o n cap) (.int .u32 sh) (.slice ro rules.length rc)
  have hL := HL ((w.alloc (.cells #[.slice o n cap] 24)).alloc (.cells #[.int .u32 sh, .slice ro rules.length rc] 28))
  have XNew := hid HNew
  have XOn := hid HOn
  have XSh := hid HSh
  clear HNew HOn HSh 
  go_enter Try.func4, Try.ntmps4
  go_wp2_with fail
  refine hL.mono ?_
  rintro e v1 ⟨rfl, h1⟩
  have hA1 := hA0.step h1
  obtain ⟨q0, q1, q2⟩ := hA1.cells
  have hN := XNew.out v1 hA1.below
  clear hL h1 XNew hA0
  go_wp2_with fail
  refine hN.mono ?_
  rintro e v2 ⟨vo, vc, rfl, hru, h2⟩
  have HRU := hid hru
  have HZ2 := hid (hA1.step h2).size
  have hA3 := (hA1.step h2).step ((Below.refl _ _).alloc (Nat.le_refl _) (.cells #[.int .i64 root, .int .i64 root, .int .u32 sh, .slice vo rules.length vc] 34))
  have hS3 := WalkBox.first v2 (.int .i64 root) (.int .i64 root) (.int .u32 sh) (.slice vo rules.length vc)
  clear hN h2 q0 q1 q2 hA1 hru
  obtain ⟨q0, q1, q2⟩ := hA3.cells
  obtain ⟨p0, p1, p2, p3, p4⟩ := hS3.cells
  have hO := XOn.out _ vo vc hA3.below (HRU.out.later hS3.bel)
  clear XOn
  go_wp2_with fail
  refine hO.mono ?_
  rintro e v4 ⟨lv, rfl, hown, h4⟩
  have hA4 := hA3.step h4
  have hS4 := hS3.step h4
  have HOW := hid hown
  clear hO h4 hown q0 q1 q2 p0 p1 p2 p3 p4 hA3 hS3
  obtain ⟨q0, q1, q2⟩ := hA4.cells
  have hH := XSh.out v4 hA4.below
  clear XSh
  go_wp2_with fail
  refine hH.mono ?_
  rintro e v5 ⟨u, rfl, hu, h5⟩
  have hA5 := hA4.step h5
  have hS5 := hS4.step h5
  have HOW5 := hid (ownsRow_later HOW.out h5)
  clear hH h5 q0 q1 q2 hA4 hS4 HOW
  have hI := ints3_any lv u ([] : List Int) ([] : List Int) v5 (ownsRow_rdI HOW5.out) hu (Nat.zero_le _)
  clear hu
  go_wp2_with fail
  refine hI.mono ?_
  rintro e v6 ⟨rfl, h6⟩
  rw [beq_self_eq_true]
  have hA6 := hA5.step h6
  have hS6 := hS5.step h6
  have HOW6 := hid (ownsRow_later HOW5.out h6)
  clear hI h6 hA5 hS5 HOW5
  obtain ⟨lo, lc, rfl, _, _⟩ := ownsRow_rdI HOW6.out
  clear HOW6
  go_wp2
  go_ret
  exact ⟨rfl, hA6.below⟩

set_option maxRecDepth 100000 in
set_option maxHeartbeats 8000000 in
theorem shown_cons (o : Option Addr) (cap n : Nat) (root sh : Int) (ro : Option Addr) (rc : Nat) (rules : List RuleD) (m : List Int) (z : Int) (vv : Nat) (w : World) (HL : LivesW)
    (HNew : ∀ W : World, Below w.heap.size w W → Calls Try.prog 9 #[.agg #[.slice o n cap], .int .i64 root, .agg #[.int .u32 sh, .slice ro rules.length rc]] W fun e w' => ∃ vo vc, e = .returned (.tuple #[.agg #[.int .i64 root, .int .i64 root, .int .u32 sh, .slice vo rules.length vc], .int .i64 0]) ∧ RdR w' (.slice vo rules.length vc) rules ∧ Below W.heap.size W w')
    (HOn : ∀ (W : World) (vo : Option Addr) (vc : Nat), Below w.heap.size w W → RdR W (.slice vo rules.length vc) rules → Calls Try.prog 13 #[.agg #[.slice o n cap], .agg #[.int .i64 root, .int .i64 root, .int .u32 sh, .slice vo rules.length vc], .int .u8 7] W fun e w' => ∃ v, e = .returned (.tuple #[v, .int .i64 0]) ∧ w'.ownsRow W.heap.size 3 1 v (m ++ [z]).length ((m ++ [z]).map (Value.int .i64)) ∧ Below W.heap.size W w')
    (HSh : ∀ W : World, Below w.heap.size w W → Calls Try.prog 15 #[.agg #[.slice o n cap], .agg #[.int .u32 sh, .slice ro rules.length rc], .int .i64 root, .bool true] W fun e w' => ∃ u, e = .returned u ∧ RdI w' u (m ++ [z]) ∧ Below W.heap.size W w')
    (HBk : ∀ (W : World) (vo : Option Addr) (vc : Nat), Below w.heap.size w W → RdR W (.slice vo rules.length vc) rules → Calls Try.prog 13 #[.agg #[.slice o n cap], .agg #[.int .i64 root, .int .i64 z, .int .u32 sh, .slice vo rules.length vc], .int .u8 6] W fun e w' => ∃ v, e = .returned (.tuple #[v, .int .i64 0]) ∧ w'.ownsRow W.heap.size 3 1 v (m.reverse ++ (if vv = 1 then [root] else [])).length ((m.reverse ++ (if vv = 1 then [root] else [])).map (Value.int .i64)) ∧ Below W.heap.size W w')
    (HV : ∀ W : World, Below w.heap.size w W → Calls Try.prog 16 #[.agg #[.slice o n cap], .agg #[.int .u32 sh, .slice ro rules.length rc], .int .i64 root] W fun e w' => e = .returned (.int .u8 (vv : Int)) ∧ Below W.heap.size W w')
    (hlen : m.length + 1 ≤ 4096) :
    Calls Try.prog 4 #[.agg #[.slice o n cap], .int .i64 root, .agg #[.int .u32 sh, .slice ro rules.length rc]] w fun e w' => e = .returned (.bool true) ∧ Below w.heap.size w w' := by
  have hA0 := AtT.first w (.slice o n cap) (.int .u32 sh) (.slice ro rules.length rc)
  have hL := HL ((w.alloc (.cells #[.slice o n cap] 24)).alloc (.cells #[.int .u32 sh, .slice ro rules.length rc] 28))
  have XNew := hid HNew
  have XOn := hid HOn
  have XSh := hid HSh
  have XBk := hid HBk
  have XV := hid HV
  clear HNew HOn HSh HBk HV
  go_enter Try.func4, Try.ntmps4
  go_wp2_with fail
  refine hL.mono ?_
  rintro e v1 ⟨rfl, h1⟩
  have hA1 := hA0.step h1
  obtain ⟨q0, q1, q2⟩ := hA1.cells
  have hN := XNew.out v1 hA1.below
  clear hL h1 XNew hA0
  go_wp2_with fail
  refine hN.mono ?_
  rintro e v2 ⟨vo, vc, rfl, hru, h2⟩
  have HRU := hid hru
  have HZ2 := hid (hA1.step h2).size
  have hA3 := (hA1.step h2).step ((Below.refl _ _).alloc (Nat.le_refl _) (.cells #[.int .i64 root, .int .i64 root, .int .u32 sh, .slice vo rules.length vc] 34))
  have hS3 := WalkBox.first v2 (.int .i64 root) (.int .i64 root) (.int .u32 sh) (.slice vo rules.length vc)
  clear hN h2 q0 q1 q2 hA1 hru
  obtain ⟨q0, q1, q2⟩ := hA3.cells
  obtain ⟨p0, p1, p2, p3, p4⟩ := hS3.cells
  have hO := XOn.out _ vo vc hA3.below (HRU.out.later hS3.bel)
  clear XOn
  go_wp2_with fail
  refine hO.mono ?_
  rintro e v4 ⟨lv, rfl, hown, h4⟩
  have hA4 := hA3.step h4
  have hS4 := hS3.step h4
  have HOW := hid hown
  clear hO h4 hown q0 q1 q2 p0 p1 p2 p3 p4 hA3 hS3
  obtain ⟨q0, q1, q2⟩ := hA4.cells
  have hH := XSh.out v4 hA4.below
  clear XSh
  go_wp2_with fail
  refine hH.mono ?_
  rintro e v5 ⟨u, rfl, hu, h5⟩
  have hA5 := hA4.step h5
  have hS5 := hS4.step h5
  have HOW5 := hid (ownsRow_later HOW.out h5)
  clear hH h5 q0 q1 q2 hA4 hS4 HOW
  have hI := ints3_any lv u (m ++ [z]) (m ++ [z]) v5 (ownsRow_rdI HOW5.out) hu (by rw [List.length_append]; show m.length + 1 ≤ _; omega)
  clear hu
  go_wp2_with fail
  refine hI.mono ?_
  rintro e v6 ⟨rfl, h6⟩
  rw [beq_self_eq_true]
  have hA6 := hA5.step h6
  have hS6 := hS5.step h6
  have HOW6 := hid (ownsRow_later HOW5.out h6)
  clear hI h6 hA5 hS5 HOW5
  obtain ⟨i0, hi, hz0, hz1, hz2⟩ := info_parts info_int
  have hll : (m ++ [z]).length = m.length + 1 := by simp
  obtain ⟨lo, lc, rfl, hlc, g⟩ := ownsRow_rdI HOW6.out
  obtain ⟨lb, loff, rfl, hlt, ha⟩ := g (by omega)
  have x1 := ha m.length (by omega)
  rw [List.getElem_append_right (Nat.le_refl _)] at x1
  simp only [Nat.sub_self, List.getElem_cons_zero] at x1
  obtain ⟨q0, q1, q2⟩ := hA6.cells
  obtain ⟨p0, p1, p2, p3, p4⟩ := hS6.cells
  have n0 : ((((m.length + 1 : Nat) : Int)) == 0) = false := beq_eq_false_iff_ne.2 (by omega)
  have n1 : IntKind.i64.wrap (((m.length + 1 : Nat) : Int) - 1) = (m.length : Int) := by rw [show (((m.length + 1 : Nat) : Int) - 1) = (m.length : Int) by omega]; simp [IntKind.wrap, IntKind.bits, IntKind.signed]; omega
  have n2 : (0 : Int) ≤ (m.length : Int) := by omega
  have n3 : (m.length : Int) < ((m.length + 1 : Nat) : Int) := by omega
  have HS7 := hid (hS6.set (.int .i64 z))
  have HA7 : Hid (AtT w (.slice o n cap) (.int .u32 sh) (.slice ro rules.length rc) (v6.setCell ⟨v2.heap.size, 1, none⟩ (.int .i64 z))) := hA6.on ((Below.refl _ _).setCell HZ2.out _)
  have HOW7 := hid (ownsRow_setCell_below HOW6.out (a := ⟨v2.heap.size, 1, none⟩) (by simp [World.size_alloc]) (.int .i64 z))
  have r0 := HA7.out.cells.1
  obtain ⟨s0, s1, s2, s3, s4⟩ := HS7.out.cells
  have hB := XBk.out _ vo vc HA7.out.below (HRU.out.later HS7.out.bel)
  rw [hll]
  clear g ha hlc XBk hll hA6 hS6
  go_wp2_with fail
  refine hB.mono ?_
  rintro e v8 ⟨bv, rfl, hbo, h8⟩
  have hA8 := HA7.out.step h8
  have HL8 := hid (rdI_some ((ownsRow_rdI HOW7.out).later h8) (by simp))
  have HBV := hid hbo
  clear hB h8 hbo x1 q0 q1 q2 p0 p1 p2 p3 p4 r0 s0 s1 s2 s3 s4 HS7 HA7 HOW7 HOW6 n0 n1 n2 n3 HRU hlt
  go_wp2
  go_loopw [13, 14] (fun x13 t wr => ∃ (k : Nat) (done : List Int), k ≤ m.length ∧ t = .int .i64 ((k : Int) - 1) ∧ Below v8.heap.size v8 wr ∧ wr.ownsRow v8.heap.size 3 1 x13 done.length (done.map (Value.int .i64)) ∧ Hid (done ++ (m.take k).reverse = m.reverse)) (fun _ t _ => (RowKit.intOf t + 1).toNat)
  case atStart => exact ⟨m.length, [], Nat.le_refl _, by go_num, Below.refl _ _, World.ownsRow_nil _ _ _ _, by rw [List.take_length]; rfl⟩
  case round =>
    obtain ⟨k, done, hk, rfl, hW, hown, hr⟩ := hrel
    have hAw := hA8.step hW
    obtain ⟨q0, q1, q2⟩ := hAw.cells
    have HBW := hid hW
    cases k with
    | zero =>
      have hd : done = m.reverse := by simpa using hr.out
      subst hd
      have HOW := hid hown
      have hV := XV.out wr hAw.below
      have g0 : (((0 : Nat) : Int) - 1) = -1 := rfl
      rw [g0]
      clear hr HL8 hown hW g0 hk
      go_wp2_with fail
      refine hV.mono ?_
      rintro e v9 ⟨rfl, h9⟩
      have hA9 := hAw.step h9
      have hown9 := ownsRow_later HOW.out h9
      have HW9 := hid (HBW.out.trans (h9.mono HBW.out.size))
      clear hV h9 q0 q1 q2 HOW
      by_cases hv : vv = 1
      · subst hv
        have hz := HW9.out.size
        have hml : m.reverse.length = m.length := List.length_reverse
        have m1 : m.reverse.length + 1 ≤ maxLen := by rw [hml]; exact Nat.le_trans hlen (by decide)
        have m2 : (m.reverse.length + 1) * 8 ≤ 140737488355328 := by rw [hml]; omega
        have m3 : v8.heap.size ≤ (v9.alloc (.cells #[.int .i64 root] 3)).heap.size := by simp; omega
        have hownA := hown9.alloc (.cells #[.int .i64 root] 3)
        have HA10 := hid (hA9.step ((Below.refl _ _).alloc (Nat.le_refl _) (.cells #[.int .i64 root] 3)))
        have HBA := hid (HW9.out.alloc hz (.cells #[.int .i64 root] 3))
        clear hml hz
        go_wp2_with (at_builtin; refine wpList_append_own _ rfl _ _ 40 rfl v8.heap.size 3 i0 (.int .i64 0) 1 8 Try.underlying40 hi hz0 hz1 hz2 rfl (by decide) _ _ _ rfl hownA ⟨v9.heap.size, 0, none⟩ 1 1 [.int .i64 root] rfl rfl (cell_one_new _ _ _) (by simp [Value.oneCell']) m1 m2 m3 ?_; intro v' w1 hown' hgrow _)
        have hB10 := (Below.refl v8.heap.size (v9.alloc (.cells #[.int .i64 root] 3))).grown hgrow m3 (fun j hj => (hownA.lt j hj).1)
        have hW10 := HBA.out.trans hB10
        have hI := ints3_any bv v' (m.reverse ++ [root]) (m.reverse ++ [root]) w1 ((ownsRow_rdI HBV.out).later hW10) (ownsRow_rdI (by simpa using hown')) (by rw [List.length_append, List.length_reverse]; show m.length + 1 ≤ _; omega)
        have HF := hid (hA8.step hW10)
        clear hown' hgrow hB10 hW10 hownA hown9
        go_wp2_with fail
        refine hI.mono ?_
        rintro e v11 ⟨rfl, h11⟩
        rw [beq_self_eq_true]
        go_wp2
        go_ret
        exact ⟨rfl, (HF.out.step h11).below⟩
      · have g1 : ((vv : Int) == 1) = false := beq_eq_false_iff_ne.2 (by omega)
        have HBV2 := HBV.out
        rw [if_neg hv, List.append_nil] at HBV2
        obtain ⟨X, hX⟩ : ∃ X : Value, X = _ ∧ v9.ownsRow v8.heap.size 3 1 X m.reverse.length (m.reverse.map (Value.int .i64)) := ⟨_, rfl, hown9⟩
        have hI := ints3_any bv X m.reverse m.reverse v9 ((ownsRow_rdI HBV2).later HW9.out) (ownsRow_rdI hX.2) (by rw [List.length_reverse]; omega)
        rw [hX.1] at hI
        clear hX HBV2 HBV hown9
        go_wp2_with fail
        refine hI.mono ?_
        rintro e v11 ⟨rfl, h11⟩
        rw [beq_self_eq_true]
        go_wp2
        go_ret
        exact ⟨rfl, (hA9.step h11).below⟩
    | succ k =>
      have e0 : (((k + 1 : Nat) : Int) - 1) = (k : Int) := by omega
      have y1 := (hW.cell (p := ⟨lb, loff + k, none⟩) HL8.out.1).trans (HL8.out.2 k (by simp; omega))
      rw [List.getElem_append_left (by omega)] at y1
      have p1 : (0 : Int) ≤ (k : Int) := by omega
      have p2 : (k : Int) < ((m.length + 1 : Nat) : Int) := by omega
      have hrr := hr.out
      rw [List.take_succ_eq_append_getElem (by omega : k < m.length), List.reverse_append] at hrr
      have Hn : Hid ((done ++ [m[k]]) ++ (m.take k).reverse = m.reverse) := by
        show _ = _
        rw [← hrr]
        simp
      have hdl : done.length + 1 ≤ 4096 := by
        have h := congrArg List.length hrr
        simp only [List.length_append, List.length_reverse, List.length_singleton] at h
        omega
      have hz := hW.size
      have m1 : done.length + 1 ≤ maxLen := Nat.le_trans hdl (by decide)
      have m2 : (done.length + 1) * 8 ≤ 140737488355328 := by omega
      have hk' : k ≤ m.length := by omega
      rw [e0]
      clear hr hrr hdl e0 q0 q1 q2 hW
      generalize m[k] = a at *
      clear hk
      have m3 : v8.heap.size ≤ (wr.alloc (.cells #[.int .i64 a] 3)).heap.size := by simp; omega
      have hownA := hown.alloc (.cells #[.int .i64 a] 3)
      have HBA := hid (HBW.out.alloc hz (.cells #[.int .i64 a] 3))
      have HOWA := hid hown
      clear hz hown
      go_wp2_with (at_builtin; refine wpList_append_own _ rfl _ _ 40 rfl v8.heap.size 3 i0 (.int .i64 0) 1 8 Try.underlying40 hi hz0 hz1 hz2 rfl (by decide) _ _ _ rfl hownA ⟨wr.heap.size, 0, none⟩ 1 1 [.int .i64 a] rfl rfl (cell_one_new _ _ _) (by simp [Value.oneCell']) m1 m2 m3 ?_; intro v' w1 hown' hgrow _)
      have HB1 := hid (HBA.out.trans ((Below.refl v8.heap.size (wr.alloc (.cells #[.int .i64 a] 3))).grown hgrow m3 (fun j hj => (hownA.lt j hj).1)))
      go_roundw
      case rel => exact ⟨k, done ++ [a], hk', by go_num, HB1.out, by simpa using hown', Hn⟩
      case measure => simp [RowKit.intOf]
end Go.Proofs.Yteflknfejjdkfaa

namespace Go.Proofs.Yteflknfejjdkfaa
open Go.RowKit Go.Lib

theorem stepE_of {ns : List NodeD} (hR : RightF ns) {a b : Int} (ha : thereB ns.length a = true) (hb : thereB ns.length b = true) {rules : List RuleD} (hf : filterE rules = 0) {way : Nat} (hw : isWay way = true) : stepE ns a b rules way = 0 := by
  have hm : missE ns [a, b] = 0 := by
    unfold missE
    rw [(rightD_iff ns).2 hR, if_pos rfl, show [a, b].all (thereB ns.length) = true by simp [ha, hb], if_pos rfl]
  unfold stepE wrongE
  rw [if_pos hm, if_pos hf, hw, if_pos rfl]
theorem walkShown_law (HL : LivesW) (o : Option Addr) (cap : Nat) (ns : List NodeD) (root : Int) (sh : Nat) (ro : Option Addr) (rc : Nat) (rules : List RuleD) (w : World) (hF : FRd w o cap ns) (hkl : ∀ (i : Nat) (hi : i < ns.length), ns[i].kids.length ≤ 1099511627776) (hal : ∀ (i : Nat) (hi : i < ns.length), ns[i].attrs.length ≤ 1099511627776) (hru : RdR w (.slice ro rules.length rc) rules) (hrl : rules.length ≤ 1099511627776) (hs : sh < 4294967296) :
    Calls Try.prog 4 #[.agg #[.slice o ns.length cap], .int .i64 root, .agg #[.int .u32 (sh : Int), .slice ro rules.length rc]] w fun e w' => e = .returned (.bool true) ∧ Below w.heap.size w w' := by
  by_cases hE : wrongE ns [root] rules = 0
  · obtain ⟨hR, hth, hfe⟩ := wrongE_ok hE
    have hr := hth root (by simp)
    obtain ⟨j, hj, _⟩ := there_idx hr
    obtain ⟨b, off, rfl, hFA⟩ := hF.at_ (by omega)
    have hNew : ∀ W : World, Below w.heap.size w W → Calls Try.prog 9 #[.agg #[.slice (some ⟨b, off, none⟩) ns.length cap], .int .i64 root, .agg #[.int .u32 (sh : Int), .slice ro rules.length rc]] W fun e w' => ∃ vo vc, e = .returned (.tuple #[.agg #[.int .i64 root, .int .i64 root, .int .u32 (sh : Int), .slice vo rules.length vc], .int .i64 0]) ∧ RdR w' (.slice vo rules.length vc) rules ∧ Below W.heap.size W w' := fun W hW =>
      (New_ok (some ⟨b, off, none⟩) cap ns root sh ro rc rules W (hF.later hW) hkl hal (hru.later hW) hrl hE).mono fun e w' h => by
        obtain ⟨vo, vc, h1, h2, h3⟩ := h
        exact ⟨vo, vc, h1, own_rules h2, h3⟩
    have hAll : ∀ (way : Nat) (_ : isWay way = true) (cur : Int) (_ : thereB ns.length cur = true) (W : World) (vo : Option Addr) (vc : Nat), Below w.heap.size w W → RdR W (.slice vo rules.length vc) rules → _ := fun way hw cur hc W vo vc hW hv => All_ok b off cap ns root cur sh vo vc rules way W (hFA.later hW) hkl hal hv hrl hs (stepE_of hR hr hc hfe hw)
    have hSh : ∀ W : World, Below w.heap.size w W → _ := fun W hW => shown_any b off cap ns root sh ro rc rules W hR hr (hFA.later hW) hs (hru.later hW) (filterE_ok hfe).1
    have h7 : ∀ (W : World) (vo : Option Addr) (vc : Nat), Below w.heap.size w W → RdR W (.slice vo rules.length vc) rules → _ := hAll 7 rfl root hr
    have hlen := shownR_len hR hr sh rules
    rw [on_shown hR hr sh rules] at h7
    rcases List.eq_nil_or_concat (shownR ns sh rules root) with h0 | ⟨m, z, hmz⟩
    · rw [h0] at h7 hSh
      exact shown_nil (some ⟨b, off, none⟩) cap ns.length root sh ro rc rules w HL hNew h7 hSh
    · rw [List.concat_eq_append] at hmz
      rw [hmz] at h7 hSh hlen
      obtain ⟨hz, hbk⟩ := back_shown hR hr sh rules m z hmz
      have h6 : ∀ (W : World) (vo : Option Addr) (vc : Nat), Below w.heap.size w W → RdR W (.slice vo rules.length vc) rules → _ := hAll 6 rfl z hz
      rw [hbk] at h6
      simp only [beq_iff_eq] at h6
      exact shown_cons (some ⟨b, off, none⟩) cap ns.length root sh ro rc rules m z (verdictOf ns sh rules root) w HL hNew h7 hSh h6 (fun W hW => refVerdict_any b off cap root sh ro rc rules ns W hR (hFA.later hW) hr hs (hru.later hW) (filterE_ok hfe).1) (by rw [List.length_append] at hlen; exact hlen)
  · exact shown_err o cap ns.length root sh ro rc rules.length (wrongE ns [root] rules) w (by rw [bne, beq_eq_false_iff_ne.2 hE]; rfl) HL (fun W hW => New_err o cap ns root sh ro rc rules W (hF.later hW) hkl hal (hru.later hW) hrl hE)
end Go.Proofs.Yteflknfejjdkfaa

namespace Go.Proofs.Yteflknfejjdkfaa
open Go.RowKit Go.Lib Go.ChangeShapes Go.WideShapes Go.ChangeAt

theorem Try.ownWalkShown : ownKnob Try.prog.godebug = none := by kernel_rfl

set_option maxRecDepth 100000 in
theorem walkShown_lifted (HL : LivesW) (os : Os) (started : os.Started) (H : Type) (enc : TypeId × Value → H) (F : Stop.Interp) :
    ReturnsInHanded {} Try.checked os 4 .any ((Rows.OpenSpec.upto Rows.walkShownSpec).pre6 enc Try.prog Try.f4 Rows.walkShownUptoRow.domain false) (((Rows.OpenSpec.upto Rows.walkShownSpec).at F).post enc Try.prog Try.f4 false true false false) := by
  refine returnsInHanded_of_cond (C := Try.checked) (s := Rows.OpenSpec.upto Rows.walkShownSpec) (k := Rows.uptoSmall) rfl Try.ownWalkShown started (by kernel_rfl) Try.func4
    (OpenSpec.witness (enc := enc) (C := Try.checked) (s := Rows.OpenSpec.upto Rows.walkShownSpec) (k := Rows.uptoSmall) rfl false ⟨#[], #[.agg #[.slice none 0 0], .int .i64 0, .agg #[.int .u32 0, .slice none 0 0]], []⟩ 8 (by kernel_rfl) (by kernel_rfl) (by kernel_rfl)
      (x := ([.agg [.nil], .lit (.int .i64 0), .agg [.lit (.int .u32 0), .nil]], [], [])) (by kernel_rfl) rfl (by kernel_rfl)) ?_
  intro W base args ds gs before hval0 hW _ hk _
  have hval : ∀ (j : Nat) t v, Try.f4.params[j]? = some t → args[j]? = some v → Value.okWide Try.prog W .any base t v := hval0
  have hW' := hW
  obtain ⟨p, q, hA0, hV, rfl, _, _⟩ := hW
  have hA : DataW.TrodAll enc Try.prog W 0 (fun _ => true) true Try.f4.params.toList args.toList ds p := hA0
  rw [Try.params4] at hA hval
  obtain ⟨v0, vs0, d0, ds0, p0, q0, hargs, rfl, rfl, h0, r0t⟩ := trodAll_cons hA
  obtain ⟨v1, vs1, d1, ds1, p1, q1, rfl, rfl, rfl, h1, r1t⟩ := trodAll_cons r0t
  obtain ⟨v2, vs2, d2, ds2, p2, q2, rfl, rfl, rfl, h2, r2t⟩ := trodAll_cons r1t
  obtain ⟨rfl, rfl, rfl⟩ := trodAll_nil r2t
  obtain rfl : args = #[v0, v1, v2] := by cases args; simp_all
  obtain ⟨rfl, rfl⟩ := trodVars_none hV
  obtain ⟨o0, cap0, ns0, rfl, hF0, bn0, bk0⟩ := open_forest (hval 0 24 v0 rfl rfl) h0
  obtain ⟨x1, rfl, rfl, rfl, wx1⟩ := open_int Try.underlying3 (hval 1 3 v1 rfl rfl) h1
  obtain ⟨sh2, ro2, rc2, rules2, rfl, hs2, hru2, br2⟩ := open_filter (hval 2 28 v2 rfl rfl) h2
  have hkk := of_decide_eq_true hk
  simp [Rows.uptoBulkAll] at hkk
  have hlt := hW'.lt
  refine (walkShown_law HL o0 cap0 ns0 x1 sh2 ro2 rc2 rules2 W (hF0 (by omega)) (fun i hi => by have := (bk0 i hi).1; omega) (fun i hi => by have := (bk0 i hi).2; omega) hru2 (by omega) hs2).mono fun e W' ⟨he, hb⟩ => ?_
  subst he
  exact ⟨_, rfl, _, _, _, [], _, [], hW', trodAll_mk1 (shut_bool Try.underlying4 _), trodAll_cons_mk (Below.trod Try.fLaidOut (by kernel_rfl) (of_decide_eq_true (by kernel_rfl)) h0 hb (fun y hy => hlt y (by simp [hy]))) (trodAll_cons_mk (shut_int Try.underlying3 wx1) (trodAll_cons_mk (Below.trod Try.fLaidOut (by kernel_rfl) (of_decide_eq_true (by kernel_rfl)) h2 hb (fun y hy => hlt y (by simp [hy]))) trodAll_mk0)), rfl, hb.frame _, fun h => by cases h⟩

theorem walkShown_upto : Rows.WalkShownUptoSaid :=
  OpenClaim.holds_of_cond 4 Try.f4 rfl rfl rfl rfl rfl rfl rfl ⟨rfl, rfl, rfl, rfl, rfl⟩ rfl rfl rfl rfl rfl (by kernel_rfl) Try.func4 (by kernel_rfl)
    (of_decide_eq_true (by kernel_rfl)) (by unfold Func.isWrapper; first | (rw [if_pos (by decide +kernel)]; kernel_rfl) | (rw [if_neg (by decide +kernel)]; exact ⟨rfl, rfl⟩))
    (fun os started H enc _ F => walkShown_lifted (livesW_true treeW_any) os started H enc F)
end Go.Proofs.Yteflknfejjdkfaa
