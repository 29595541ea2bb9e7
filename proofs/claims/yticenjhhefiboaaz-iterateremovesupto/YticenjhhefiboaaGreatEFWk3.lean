/- The reference of walk: what a filter says of a node (Verdict). -/
import Derived.Test.YticenjhhefiboaaGreatEFWkPFWkI
import Derived.Test.YticenjhhefiboaaGreatFRefN
namespace Go.Proofs.YticenjhhefiboaaGreat
open Go.RowKit Go.Lib

theorem box1w {w V : World} {a c d : Value} {t u : TypeId} {o3 : Obj} (hb : Below (((w.alloc (.cells #[a] t)).alloc (.cells #[c, d] u))).heap.size ((w.alloc (.cells #[a] t)).alloc (.cells #[c, d] u)) V) : (V.alloc o3).cell? ⟨w.heap.size, 0, none⟩ = some a ∧ (V.alloc o3).cell? ⟨w.heap.size + 1, 0, none⟩ = some c ∧ (V.alloc o3).cell? ⟨w.heap.size + 1, 1, none⟩ = some d := by
  have hn : V.heap[w.heap.size + 1]? = some (.cells #[c, d] u) := by
    have := vheapW (w.alloc (.cells #[a] t)) (.cells #[c, d] u)
    rw [World.size_alloc] at this
    exact (hb.block (w.heap.size + 1) (by simp)).trans this
  have hk : ∀ j : Nat, V.cell? ⟨w.heap.size + 1, j, none⟩ = #[c, d][j]? := fun j => by
    unfold World.cell?
    simp only [hn]
    exact if_neg (by decide)
  have hz := hb.size
  simp only [World.size_alloc] at hz
  exact ⟨(World.cell?_alloc_lt _ _ _ (by show w.heap.size < _; omega)).trans ((hb.cell (p := ⟨w.heap.size, 0, none⟩) (by simp; omega)).trans (by simp)), (World.cell?_alloc_lt _ _ _ (by show w.heap.size + 1 < _; omega)).trans ((hk 0).trans rfl), (World.cell?_alloc_lt _ _ _ (by show w.heap.size + 1 < _; omega)).trans ((hk 1).trans rfl)⟩

theorem shr_bit (sh j : Nat) : (((sh : Int) / ((2 ^ j : Nat) : Int)) % 2 == 0) = !Nat.testBit sh j := by
  have h1 : ((sh : Int) / ((2 ^ j : Nat) : Int)) % 2 = ((sh / 2 ^ j % 2 : Nat) : Int) := by
    rw [Int.natCast_emod, Int.natCast_ediv]; rfl
  rw [h1, Nat.testBit_eq_decide_div_mod_eq]
  have h2 : sh / 2 ^ j % 2 = 0 ∨ sh / 2 ^ j % 2 = 1 := by omega
  rcases h2 with h | h <;> rw [h] <;> rfl
theorem shr_bit2 (sh j : Nat) : (((sh : Int) / 2 ^ j).tmod 2 == 0) = !Nat.testBit sh j := by
  have h0 : ((sh : Int) / 2 ^ j).tmod 2 = ((sh : Int) / ((2 ^ j : Nat) : Int)) % 2 := by
    have : (2 : Int) ^ j = ((2 ^ j : Nat) : Int) := by simp
    rw [this]
    have h : (0 : Int) ≤ (sh : Int) / ((2 ^ j : Nat) : Int) := Int.ediv_nonneg (Int.natCast_nonneg _) (Int.natCast_nonneg _)
    exact Int.tmod_eq_emod_of_nonneg h
  rw [h0]
  exact shr_bit sh j

set_option linter.unusedSimpArgs false in
set_option maxRecDepth 100000 in
set_option maxHeartbeats 8000000 in
theorem refVerdict_any (b off cap : Nat) (x : Int) (sh : Nat) (ro : Option Addr) (rc : Nat) (rules : List RuleD) (ns : List NodeD) (W : World) (hR : RightF ns) (hF : FAt W b off cap ns) (hx : thereB ns.length x = true) (hs : sh < 4294967296) (hr : RdR W (.slice ro rules.length rc) rules) (hf : rules.length ≤ 64) :
    Calls Tryz.prog 51 #[.agg #[.slice (some ⟨b, off, none⟩) ns.length cap], .agg #[.int .u32 (sh : Int), .slice ro rules.length rc], .int .i64 x] W fun e w' => e = .returned (.int .u8 (verdictOf ns sh rules x : Int)) ∧ Below W.heap.size W w' := by
  obtain ⟨j, hj, rfl⟩ := there_idx hx
  rw [verdictOf_at ns sh rules j hj]
  have hkn : knownK ns[j].kind = true := (well_parts (hR.well j hj)).1
  have hB0 : Below W.heap.size W ((W.alloc (.cells #[.slice (some ⟨b, off, none⟩) ns.length cap] 24)).alloc (.cells #[.int .u32 (sh : Int), .slice ro rules.length rc] 28)) := ((Below.refl _ W).alloc (Nat.le_refl _) _).alloc (by simp) _
  have HN := hid (refNode_any (some ⟨b, off, none⟩) cap ((j : Int) + 1) ns _ (⟨hF.len, fun _ => ⟨b, off, rfl, hF.later hB0⟩⟩ : FRd ((W.alloc (.cells #[.slice (some ⟨b, off, none⟩) ns.length cap] 24)).alloc (.cells #[.int .u32 (sh : Int), .slice ro rules.length rc] 28)) (some ⟨b, off, none⟩) cap ns))
  have hno : nodeOrNone ns ((j : Int) + 1) = ns[j] := by unfold nodeOrNone; rw [nodeOf_at ns j hj]; rfl
  rw [hno] at HN
  have HB0 := hid hB0
  have HRr := hid hr
  clear hB0 hno hF hr hR hx
  generalize ns[j] = n at *
  unfold verdictD
  cases hsh : shownB sh n.kind with
  | false =>
    rw [if_neg Bool.false_ne_true]
    cases e12 : (n.kind == 12) with
    | true =>
      have e12i : ((n.kind : Int) == 12) = true := (beq_cast n.kind 12).trans e12
      have hbit : ((sh : Int) / 1024 % 2 == 0) = true := (shr_bit sh 10).trans (by unfold shownB at hsh; rw [e12] at hsh; exact congrArg not hsh)
      clear hsh e12
      go_enter Tryz.func51, Tryz.ntmps51
      go_wp2_with fail
      refine HN.out.mono ?_
      rintro e v1 ⟨L, rfl, h1, h2, h3, hb⟩
      obtain ⟨D, A, K⟩ := L
      obtain ⟨od, cd, e1, _⟩ := h1
      obtain ⟨oa, ca, e2, _⟩ := h2
      obtain ⟨ok, ck, e3, _⟩ := h3
      simp only at e1 e2 e3
      subst e1 e2 e3
      unfold nodeV
      obtain ⟨n0, n1, n2, n3, n4, n5, n6, n7, n8, n9, n10, n11, n12, n13, n14, n15⟩ := n
      simp only at *
      obtain ⟨q0, q1, q2⟩ := box1w (o3 := .cells #[.int .u8 (n0 : Int), .string n1, .string n2, .string n3, .string n4, .string n5, .slice od n6.length cd, .slice oa n7.length ca, .int .i64 n8, .slice ok n9.length ck, .int .i64 n10, .int .i64 n11, .int .i64 n12, .int .u8 (n13 : Int), .bool n14, .bool n15] 83) hb
      have HB1 := hid (HB0.out.trans (hb.mono HB0.out.size))
      clear hb HN
      have hlo : 1 ≤ n0 ∧ n0 ≤ 12 := by rcases known_cases hkn with h | h | h | h | h | h | h | h | h <;> omega
      obtain ⟨ro', rc', hro, hcap, g⟩ := HRr.out
      obtain ⟨rfl, rfl⟩ : ro' = ro ∧ rc' = rc := by
        simp only [Value.slice.injEq] at hro
        exact ⟨hro.1.symm, hro.2.2.symm⟩
      have G := hid g
      clear g hro HRr
      have HBA := hid (HB1.out.alloc HB1.out.size (.cells #[.int .u8 (n0 : Int), .string n1, .string n2, .string n3, .string n4, .string n5, .slice od n6.length cd, .slice oa n7.length ca, .int .i64 n8, .slice ok n9.length ck, .int .i64 n10, .int .i64 n11, .int .i64 n12, .int .u8 (n13 : Int), .bool n14, .bool n15] 83))
      go_wp2
      go_ret
      exact ⟨rfl, HBA.out⟩
    | false =>
      have e12i : ((n.kind : Int) == 12) = false := (beq_cast n.kind 12).trans e12
      have hbit : (((sh : Int) / 2 ^ (n.kind - 1)).tmod 2 == 0) = true := (shr_bit2 sh (n.kind - 1)).trans (by unfold shownB at hsh; rw [e12] at hsh; exact congrArg not hsh)
      clear hsh e12
      go_enter Tryz.func51, Tryz.ntmps51
      go_wp2_with fail
      refine HN.out.mono ?_
      rintro e v1 ⟨L, rfl, h1, h2, h3, hb⟩
      obtain ⟨D, A, K⟩ := L
      obtain ⟨od, cd, e1, _⟩ := h1
      obtain ⟨oa, ca, e2, _⟩ := h2
      obtain ⟨ok, ck, e3, _⟩ := h3
      simp only at e1 e2 e3
      subst e1 e2 e3
      unfold nodeV
      obtain ⟨n0, n1, n2, n3, n4, n5, n6, n7, n8, n9, n10, n11, n12, n13, n14, n15⟩ := n
      simp only at *
      obtain ⟨q0, q1, q2⟩ := box1w (o3 := .cells #[.int .u8 (n0 : Int), .string n1, .string n2, .string n3, .string n4, .string n5, .slice od n6.length cd, .slice oa n7.length ca, .int .i64 n8, .slice ok n9.length ck, .int .i64 n10, .int .i64 n11, .int .i64 n12, .int .u8 (n13 : Int), .bool n14, .bool n15] 83) hb
      have HB1 := hid (HB0.out.trans (hb.mono HB0.out.size))
      clear hb HN
      have hlo : 1 ≤ n0 ∧ n0 ≤ 12 := by rcases known_cases hkn with h | h | h | h | h | h | h | h | h <;> omega
      obtain ⟨ro', rc', hro, hcap, g⟩ := HRr.out
      obtain ⟨rfl, rfl⟩ : ro' = ro ∧ rc' = rc := by
        simp only [Value.slice.injEq] at hro
        exact ⟨hro.1.symm, hro.2.2.symm⟩
      have G := hid g
      clear g hro HRr
      have HBA := hid (HB1.out.alloc HB1.out.size (.cells #[.int .u8 (n0 : Int), .string n1, .string n2, .string n3, .string n4, .string n5, .slice od n6.length cd, .slice oa n7.length ca, .int .i64 n8, .slice ok n9.length ck, .int .i64 n10, .int .i64 n11, .int .i64 n12, .int .u8 (n13 : Int), .bool n14, .bool n15] 83))
      go_wp2
      go_ret
      exact ⟨rfl, HBA.out⟩
  | true =>
    rw [if_pos rfl]
    obtain ⟨R, hR⟩ : ∃ R, ruledD rules n.kind n.loc = R := ⟨_, rfl⟩
    rw [hR]
    have HR : Hid (ruledD (rules.drop 0) n.kind n.loc = R) := hR
    clear hR
    cases e12 : (n.kind == 12) with
    | true =>
      have e12i : ((n.kind : Int) == 12) = true := (beq_cast n.kind 12).trans e12
      have hbit : ((sh : Int) / 1024 % 2 == 0) = false := (shr_bit sh 10).trans (by unfold shownB at hsh; rw [e12] at hsh; exact congrArg not hsh)
      clear hsh e12
      go_enter Tryz.func51, Tryz.ntmps51
      go_wp2_with fail
      refine HN.out.mono ?_
      rintro e v1 ⟨L, rfl, h1, h2, h3, hb⟩
      obtain ⟨D, A, K⟩ := L
      obtain ⟨od, cd, e1, _⟩ := h1
      obtain ⟨oa, ca, e2, _⟩ := h2
      obtain ⟨ok, ck, e3, _⟩ := h3
      simp only at e1 e2 e3
      subst e1 e2 e3
      unfold nodeV
      obtain ⟨n0, n1, n2, n3, n4, n5, n6, n7, n8, n9, n10, n11, n12, n13, n14, n15⟩ := n
      simp only at *
      obtain ⟨q0, q1, q2⟩ := box1w (o3 := .cells #[.int .u8 (n0 : Int), .string n1, .string n2, .string n3, .string n4, .string n5, .slice od n6.length cd, .slice oa n7.length ca, .int .i64 n8, .slice ok n9.length ck, .int .i64 n10, .int .i64 n11, .int .i64 n12, .int .u8 (n13 : Int), .bool n14, .bool n15] 83) hb
      have HB1 := hid (HB0.out.trans (hb.mono HB0.out.size))
      clear hb HN
      have hlo : 1 ≤ n0 ∧ n0 ≤ 12 := by rcases known_cases hkn with h | h | h | h | h | h | h | h | h <;> omega
      obtain ⟨ro', rc', hro, hcap, g⟩ := HRr.out
      obtain ⟨rfl, rfl⟩ : ro' = ro ∧ rc' = rc := by
        simp only [Value.slice.injEq] at hro
        exact ⟨hro.1.symm, hro.2.2.symm⟩
      have G := hid g
      clear g hro HRr
      have HBA := hid (HB1.out.alloc HB1.out.size (.cells #[.int .u8 (n0 : Int), .string n1, .string n2, .string n3, .string n4, .string n5, .slice od n6.length cd, .slice oa n7.length ca, .int .i64 n8, .slice ok n9.length ck, .int .i64 n10, .int .i64 n11, .int .i64 n12, .int .u8 (n13 : Int), .bool n14, .bool n15] 83))
      go_wp2
      go_loopw [33] (fun t wr => ∃ k : Nat, k ≤ rules.length ∧ t = .int .i64 k ∧ Hid (Below (v1.heap.size + 1) (v1.alloc (.cells #[.int .u8 (n0 : Int), .string n1, .string n2, .string n3, .string n4, .string n5, .slice od n6.length cd, .slice oa n7.length ca, .int .i64 n8, .slice ok n9.length ck, .int .i64 n10, .int .i64 n11, .int .i64 n12, .int .u8 (n13 : Int), .bool n14, .bool n15] 83)) wr) ∧ Hid (ruledD (rules.drop k) n0 n3 = R)) (fun t _ => rules.length - (RowKit.intOf t).toNat)
      case atStart => exact ⟨0, Nat.zero_le _, rfl, Below.refl _ _, HR⟩
      case round =>
        obtain ⟨k, k1, rfl, hB, hK⟩ := hrel
        have hsz := hB.out.size
        simp only [World.size_alloc] at hsz
        have hBW : Below W.heap.size W wr := (HB1.out.alloc HB1.out.size _).trans (hB.out.mono (by have := HB1.out.size; omega))
        by_cases hlt : k < rules.length
        · obtain ⟨rb, roff, rfl, rlt, ra⟩ := G.out (by omega)
          obtain ⟨r0, r1, r2⟩ := (ra k hlt).later rlt hBW
          have p1 : (0 : Int) ≤ (k : Int) := by omega
          have p2 : (k : Int) < (rules.length : Int) := by omega
          have hkk := hK.out
          rw [List.drop_eq_getElem_cons hlt, ruledD] at hkk
          have Hk := hid hkk
          clear hkk hK ra G
          generalize rules[k] = r at *
          obtain ⟨y0, y1, y2⟩ := r
          simp only at *
          have hB2 : Below (v1.heap.size + 1) (v1.alloc (.cells #[.int .u8 (n0 : Int), .string n1, .string n2, .string n3, .string n4, .string n5, .slice od n6.length cd, .slice oa n7.length ca, .int .i64 n8, .slice ok n9.length ck, .int .i64 n10, .int .i64 n11, .int .i64 n12, .int .u8 (n13 : Int), .bool n14, .bool n15] 83)) (wr.alloc (.cells #[.int .u8 (y0 : Int), .string y1, .int .u8 (y2 : Int)] 86)) := hB.out.alloc hsz _
          have g0 : (wr.alloc (.cells #[.int .u8 (y0 : Int), .string y1, .int .u8 (y2 : Int)] 86)).cell? ⟨v1.heap.size, 0, none⟩ = some (.int .u8 (n0 : Int)) := (hB2.cell (p := ⟨v1.heap.size, 0, none⟩) (by show v1.heap.size < v1.heap.size + 1; omega)).trans (by simp)
          have g3 : (wr.alloc (.cells #[.int .u8 (y0 : Int), .string y1, .int .u8 (y2 : Int)] 86)).cell? ⟨v1.heap.size, 3, none⟩ = some (.string n3) := (hB2.cell (p := ⟨v1.heap.size, 3, none⟩) (by show v1.heap.size < v1.heap.size + 1; omega)).trans (by simp)
          have z1 : ((y0 : Int) == 0) = (y0 == 0) := beq_cast _ 0
          have z2 : ((y0 : Int) == (n0 : Int)) = (y0 == n0) := beq_cast _ _
          have h1 := noneS_toList y1; have h1' := noneS_empty y1
          have z3 : (y1.toList == n3.toList) = (y1.data.toList == n3.data.toList) := by rw [Lib.toList_data, Lib.toList_data]
          have hfd : fitsB ⟨y0, y1, y2⟩ n0 n3 = ((y0 == 0 || y0 == n0) && (noneS y1 || y1.data.toList == n3.data.toList)) := rfl
          rw [hfd] at Hk
          have HBW := hid hBW
          have HB3 := hid (hBW.alloc hBW.size (.cells #[.int .u8 (y0 : Int), .string y1, .int .u8 (y2 : Int)] 86))
          have HB4 := hid hB2
          clear hB2 hBW hfd
          generalize noneS y1 = b3 at *
          generalize (y1.data.toList == n3.data.toList) = b4 at *
          generalize (y0 == 0) = b1 at *
          generalize (y0 == n0) = b2 at *
          cases b1 <;> cases b2 <;> cases b3 <;> cases b4
          all_goals
            simp only [Bool.or_true, Bool.or_false, Bool.true_or, Bool.false_or, Bool.and_true, Bool.and_false, Bool.true_and, Bool.false_and, if_true, if_false, Bool.false_eq_true] at Hk
            first
              | (have hRy : y2 = R := Hk.out
                 subst hRy
                 clear Hk
                 go_wp2
                 go_ret
                 exact ⟨rfl, HB3.out⟩)
              | (go_wp2
                 go_roundw
                 case rel => exact ⟨k + 1, by omega, by go_num, HB4, Hk⟩
                 case measure => simp [RowKit.intOf]; omega)
        · have hR1 : R = 1 := by
            rw [← hK.out, List.drop_eq_nil_of_le (by omega)]
            rfl
          subst hR1
          clear hK G
          go_wp2
          go_ret
          exact ⟨rfl, hBW⟩
    | false =>
      have e12i : ((n.kind : Int) == 12) = false := (beq_cast n.kind 12).trans e12
      have hbit : (((sh : Int) / 2 ^ (n.kind - 1)).tmod 2 == 0) = false := (shr_bit2 sh (n.kind - 1)).trans (by unfold shownB at hsh; rw [e12] at hsh; exact congrArg not hsh)
      clear hsh e12
      go_enter Tryz.func51, Tryz.ntmps51
      go_wp2_with fail
      refine HN.out.mono ?_
      rintro e v1 ⟨L, rfl, h1, h2, h3, hb⟩
      obtain ⟨D, A, K⟩ := L
      obtain ⟨od, cd, e1, _⟩ := h1
      obtain ⟨oa, ca, e2, _⟩ := h2
      obtain ⟨ok, ck, e3, _⟩ := h3
      simp only at e1 e2 e3
      subst e1 e2 e3
      unfold nodeV
      obtain ⟨n0, n1, n2, n3, n4, n5, n6, n7, n8, n9, n10, n11, n12, n13, n14, n15⟩ := n
      simp only at *
      obtain ⟨q0, q1, q2⟩ := box1w (o3 := .cells #[.int .u8 (n0 : Int), .string n1, .string n2, .string n3, .string n4, .string n5, .slice od n6.length cd, .slice oa n7.length ca, .int .i64 n8, .slice ok n9.length ck, .int .i64 n10, .int .i64 n11, .int .i64 n12, .int .u8 (n13 : Int), .bool n14, .bool n15] 83) hb
      have HB1 := hid (HB0.out.trans (hb.mono HB0.out.size))
      clear hb HN
      have hlo : 1 ≤ n0 ∧ n0 ≤ 12 := by rcases known_cases hkn with h | h | h | h | h | h | h | h | h <;> omega
      obtain ⟨ro', rc', hro, hcap, g⟩ := HRr.out
      obtain ⟨rfl, rfl⟩ : ro' = ro ∧ rc' = rc := by
        simp only [Value.slice.injEq] at hro
        exact ⟨hro.1.symm, hro.2.2.symm⟩
      have G := hid g
      clear g hro HRr
      have HBA := hid (HB1.out.alloc HB1.out.size (.cells #[.int .u8 (n0 : Int), .string n1, .string n2, .string n3, .string n4, .string n5, .slice od n6.length cd, .slice oa n7.length ca, .int .i64 n8, .slice ok n9.length ck, .int .i64 n10, .int .i64 n11, .int .i64 n12, .int .u8 (n13 : Int), .bool n14, .bool n15] 83))
      go_wp2
      go_loopw [33] (fun t wr => ∃ k : Nat, k ≤ rules.length ∧ t = .int .i64 k ∧ Hid (Below (v1.heap.size + 1) (v1.alloc (.cells #[.int .u8 (n0 : Int), .string n1, .string n2, .string n3, .string n4, .string n5, .slice od n6.length cd, .slice oa n7.length ca, .int .i64 n8, .slice ok n9.length ck, .int .i64 n10, .int .i64 n11, .int .i64 n12, .int .u8 (n13 : Int), .bool n14, .bool n15] 83)) wr) ∧ Hid (ruledD (rules.drop k) n0 n3 = R)) (fun t _ => rules.length - (RowKit.intOf t).toNat)
      case atStart => exact ⟨0, Nat.zero_le _, rfl, Below.refl _ _, HR⟩
      case round =>
        obtain ⟨k, k1, rfl, hB, hK⟩ := hrel
        have hsz := hB.out.size
        simp only [World.size_alloc] at hsz
        have hBW : Below W.heap.size W wr := (HB1.out.alloc HB1.out.size _).trans (hB.out.mono (by have := HB1.out.size; omega))
        by_cases hlt : k < rules.length
        · obtain ⟨rb, roff, rfl, rlt, ra⟩ := G.out (by omega)
          obtain ⟨r0, r1, r2⟩ := (ra k hlt).later rlt hBW
          have p1 : (0 : Int) ≤ (k : Int) := by omega
          have p2 : (k : Int) < (rules.length : Int) := by omega
          have hkk := hK.out
          rw [List.drop_eq_getElem_cons hlt, ruledD] at hkk
          have Hk := hid hkk
          clear hkk hK ra G
          generalize rules[k] = r at *
          obtain ⟨y0, y1, y2⟩ := r
          simp only at *
          have hB2 : Below (v1.heap.size + 1) (v1.alloc (.cells #[.int .u8 (n0 : Int), .string n1, .string n2, .string n3, .string n4, .string n5, .slice od n6.length cd, .slice oa n7.length ca, .int .i64 n8, .slice ok n9.length ck, .int .i64 n10, .int .i64 n11, .int .i64 n12, .int .u8 (n13 : Int), .bool n14, .bool n15] 83)) (wr.alloc (.cells #[.int .u8 (y0 : Int), .string y1, .int .u8 (y2 : Int)] 86)) := hB.out.alloc hsz _
          have g0 : (wr.alloc (.cells #[.int .u8 (y0 : Int), .string y1, .int .u8 (y2 : Int)] 86)).cell? ⟨v1.heap.size, 0, none⟩ = some (.int .u8 (n0 : Int)) := (hB2.cell (p := ⟨v1.heap.size, 0, none⟩) (by show v1.heap.size < v1.heap.size + 1; omega)).trans (by simp)
          have g3 : (wr.alloc (.cells #[.int .u8 (y0 : Int), .string y1, .int .u8 (y2 : Int)] 86)).cell? ⟨v1.heap.size, 3, none⟩ = some (.string n3) := (hB2.cell (p := ⟨v1.heap.size, 3, none⟩) (by show v1.heap.size < v1.heap.size + 1; omega)).trans (by simp)
          have z1 : ((y0 : Int) == 0) = (y0 == 0) := beq_cast _ 0
          have z2 : ((y0 : Int) == (n0 : Int)) = (y0 == n0) := beq_cast _ _
          have h1 := noneS_toList y1; have h1' := noneS_empty y1
          have z3 : (y1.toList == n3.toList) = (y1.data.toList == n3.data.toList) := by rw [Lib.toList_data, Lib.toList_data]
          have hfd : fitsB ⟨y0, y1, y2⟩ n0 n3 = ((y0 == 0 || y0 == n0) && (noneS y1 || y1.data.toList == n3.data.toList)) := rfl
          rw [hfd] at Hk
          have HBW := hid hBW
          have HB3 := hid (hBW.alloc hBW.size (.cells #[.int .u8 (y0 : Int), .string y1, .int .u8 (y2 : Int)] 86))
          have HB4 := hid hB2
          clear hB2 hBW hfd
          generalize noneS y1 = b3 at *
          generalize (y1.data.toList == n3.data.toList) = b4 at *
          generalize (y0 == 0) = b1 at *
          generalize (y0 == n0) = b2 at *
          cases b1 <;> cases b2 <;> cases b3 <;> cases b4
          all_goals
            simp only [Bool.or_true, Bool.or_false, Bool.true_or, Bool.false_or, Bool.and_true, Bool.and_false, Bool.true_and, Bool.false_and, if_true, if_false, Bool.false_eq_true] at Hk
            first
              | (have hRy : y2 = R := Hk.out
                 subst hRy
                 clear Hk
                 go_wp2
                 go_ret
                 exact ⟨rfl, HB3.out⟩)
              | (go_wp2
                 go_roundw
                 case rel => exact ⟨k + 1, by omega, by go_num, HB4, Hk⟩
                 case measure => simp [RowKit.intOf]; omega)
        · have hR1 : R = 1 := by
            rw [← hK.out, List.drop_eq_nil_of_le (by omega)]
            rfl
          subst hR1
          clear hK G
          go_wp2
          go_ret
          exact ⟨rfl, hBW⟩
end Go.Proofs.YticenjhhefiboaaGreat

