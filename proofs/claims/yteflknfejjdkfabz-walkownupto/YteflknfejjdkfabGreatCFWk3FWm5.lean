/- The reference of walk: what a filter says of a node (Verdict). -/
/- The reference of walk: a node's parent, its first kid or its last one (parent, kid). -/
/- The reference of walk: which of its parent's kids a node is; the kid beside it (Place, Beside, beside). -/
/- The reference of walk: the kid beside a node (canopyref05.Beside). -/
/- The reference of walk: the next on the way (beside). -/
/- The reference of walk: the parent that is accepted (Up). -/
/- The reference of walk: what its ways have in common: two boxes, and the calls of parent, Verdict, kid and beside. -/
import Derived.Test.YteflknfejjdkfabGreatCFWkCFWkF
import Derived.Test.YteflknfejjdkfabGreatFRefN
namespace Go.Proofs.YteflknfejjdkfabGreat
open Go.RowKit Go.Lib

theorem box1w {w V : World} {a c d : Value} {t u : TypeId} {o3 : Obj} (hb : Below (((w.alloc (.cells #[a] t)).alloc (.cells #[c, d] u))).heap.size ((w.alloc (.cells #[a] t)).alloc (.cells #[c, d] u)) V) : (V.alloc o3).cell? ⟨w.heap.size, 0, none⟩ = some a ∧ (V.alloc o3).cell? ⟨w.heap.size + 1, 0, none⟩ = some c ∧ (V.alloc o3).cell? ⟨w.heap.size + 1, 1, none⟩ = some d := by
  have hn : V.heap[w.heap.size + 1]? = some (.cells #[c, d] u) := by
    have := vheapW (w.alloc (.cells #[a] t)) (.cells #[c, d] u)
    rw [World.size_alloc] at this
    exact (hb.block (w.heap.size + 1) (by simp)).trans this
  have hk : ∀ j : Nat, V.cell? ⟨w.heap.size + 1, j, none⟩ = #[c, d][j]? := fun j => by
    unfold World.cell?
    simp only [hn]
    exact if_neg (by decide)
  have hz := hb.size
  simp only [World.size_alloc] at hz
  exact ⟨(World.cell?_alloc_lt _ _ _ (by show w.heap.size < _; omega)).trans ((hb.cell (p := ⟨w.heap.size, 0, none⟩) (by simp; omega)).trans (by simp)), (World.cell?_alloc_lt _ _ _ (by show w.heap.size + 1 < _; omega)).trans ((hk 0).trans rfl), (World.cell?_alloc_lt _ _ _ (by show w.heap.size + 1 < _; omega)).trans ((hk 1).trans rfl)⟩

theorem shr_bit (sh j : Nat) : (((sh : Int) / ((2 ^ j : Nat) : Int)) % 2 == 0) = !Nat.testBit sh j := by
  have h1 : ((sh : Int) / ((2 ^ j : Nat) : Int)) % 2 = ((sh / 2 ^ j % 2 : Nat) : Int) := by
    rw [Int.natCast_emod, Int.natCast_ediv]; rfl
  rw [h1, Nat.testBit_eq_decide_div_mod_eq]
  have h2 : sh / 2 ^ j % 2 = 0 ∨ sh / 2 ^ j % 2 = 1 := by omega
  rcases h2 with h | h <;> rw [h] <;> rfl
theorem shr_bit2 (sh j : Nat) : (((sh : Int) / 2 ^ j).tmod 2 == 0) = !Nat.testBit sh j := by
  have h0 : ((sh : Int) / 2 ^ j).tmod 2 = ((sh : Int) / ((2 ^ j : Nat) : Int)) % 2 := by
    have : (2 : Int) ^ j = ((2 ^ j : Nat) : Int) := by simp
    rw [this]
    have h : (0 : Int) ≤ (sh : Int) / ((2 ^ j : Nat) : Int) := Int.ediv_nonneg (Int.natCast_nonneg _) (Int.natCast_nonneg _)
    exact Int.tmod_eq_emod_of_nonneg h
  rw [h0]
  exact shr_bit sh j

set_option linter.unusedSimpArgs false in
set_option maxRecDepth 100000 in
set_option maxHeartbeats 8000000 in
theorem refVerdict_any (b off cap : Nat) (x : Int) (sh : Nat) (ro : Option Addr) (rc : Nat) (rules : List RuleD) (ns : List NodeD) (W : World) (hR : RightF ns) (hF : FAt W b off cap ns) (hx : thereB ns.length x = true) (hs : sh < 4294967296) (hr : RdR W (.slice ro rules.length rc) rules) (hf : rules.length ≤ 64) :
    Calls Tryz.prog 33 #[.agg #[.slice (some ⟨b, off, none⟩) ns.length cap], .agg #[.int .u32 (sh : Int), .slice ro rules.length rc], .int .i64 x] W fun e w' => e = .returned (.int .u8 (verdictOf ns sh rules x : Int)) ∧ Below W.heap.size W w' := by
  obtain ⟨j, hj, rfl⟩ := there_idx hx
  rw [verdictOf_at ns sh rules j hj]
  have hkn : knownK ns[j].kind = true := (well_parts (hR.well j hj)).1
  have hB0 : Below W.heap.size W ((W.alloc (.cells #[.slice (some ⟨b, off, none⟩) ns.length cap] 24)).alloc (.cells #[.int .u32 (sh : Int), .slice ro rules.length rc] 28)) := ((Below.refl _ W).alloc (Nat.le_refl _) _).alloc (by simp) _
  have HN := hid (refNode_any (some ⟨b, off, none⟩) cap ((j : Int) + 1) ns _ (⟨hF.len, fun _ => ⟨b, off, rfl, hF.later hB0⟩⟩ : FRd ((W.alloc (.cells #[.slice (some ⟨b, off, none⟩) ns.length cap] 24)).alloc (.cells #[.int .u32 (sh : Int), .slice ro rules.length rc] 28)) (some ⟨b, off, none⟩) cap ns))
  have hno : nodeOrNone ns ((j : Int) + 1) = ns[j] := by unfold nodeOrNone; rw [nodeOf_at ns j hj]; rfl
  rw [hno] at HN
  have HB0 := hid hB0
  have HRr := hid hr
  clear hB0 hno hF hr hR hx
  generalize ns[j] = n at *
  unfold verdictD
  cases hsh : shownB sh n.kind with
  | false =>
    rw [if_neg Bool.false_ne_true]
    cases e12 : (n.kind == 12) with
    | true =>
      have e12i : ((n.kind : Int) == 12) = true := (beq_cast n.kind 12).trans e12
      have hbit : ((sh : Int) / 1024 % 2 == 0) = true := (shr_bit sh 10).trans (by unfold shownB at hsh; rw [e12] at hsh; exact congrArg not hsh)
      clear hsh e12
      go_enter Tryz.func33, Tryz.ntmps33
      go_wp2_with fail
      refine HN.out.mono ?_
      rintro e v1 ⟨L, rfl, h1, h2, h3, hb⟩
      obtain ⟨D, A, K⟩ := L
      obtain ⟨od, cd, e1, _⟩ := h1
      obtain ⟨oa, ca, e2, _⟩ := h2
      obtain ⟨ok, ck, e3, _⟩ := h3
      simp only at e1 e2 e3
      subst e1 e2 e3
      unfold nodeV
      obtain ⟨n0, n1, n2, n3, n4, n5, n6, n7, n8, n9, n10, n11, n12, n13, n14, n15⟩ := n
      simp only at *
      obtain ⟨q0, q1, q2⟩ := box1w (o3 := .cells #[.int .u8 (n0 : Int), .string n1, .string n2, .string n3, .string n4, .string n5, .slice od n6.length cd, .slice oa n7.length ca, .int .i64 n8, .slice ok n9.length ck, .int .i64 n10, .int .i64 n11, .int .i64 n12, .int .u8 (n13 : Int), .bool n14, .bool n15] 68) hb
      have HB1 := hid (HB0.out.trans (hb.mono HB0.out.size))
      clear hb HN
      have hlo : 1 ≤ n0 ∧ n0 ≤ 12 := by rcases known_cases hkn with h | h | h | h | h | h | h | h | h <;> omega
      obtain ⟨ro', rc', hro, hcap, g⟩ := HRr.out
      obtain ⟨rfl, rfl⟩ : ro' = ro ∧ rc' = rc := by
        simp only [Value.slice.injEq] at hro
        exact ⟨hro.1.symm, hro.2.2.symm⟩
      have G := hid g
      clear g hro HRr
      have HBA := hid (HB1.out.alloc HB1.out.size (.cells #[.int .u8 (n0 : Int), .string n1, .string n2, .string n3, .string n4, .string n5, .slice od n6.length cd, .slice oa n7.length ca, .int .i64 n8, .slice ok n9.length ck, .int .i64 n10, .int .i64 n11, .int .i64 n12, .int .u8 (n13 : Int), .bool n14, .bool n15] 68))
      go_wp2
      go_ret
      exact ⟨rfl, HBA.out⟩
    | false =>
      have e12i : ((n.kind : Int) == 12) = false := (beq_cast n.kind 12).trans e12
      have hbit : (((sh : Int) / 2 ^ (n.kind - 1)).tmod 2 == 0) = true := (shr_bit2 sh (n.kind - 1)).trans (by unfold shownB at hsh; rw [e12] at hsh; exact congrArg not hsh)
      clear hsh e12
      go_enter Tryz.func33, Tryz.ntmps33
      go_wp2_with fail
      refine HN.out.mono ?_
      rintro e v1 ⟨L, rfl, h1, h2, h3, hb⟩
      obtain ⟨D, A, K⟩ := L
      obtain ⟨od, cd, e1, _⟩ := h1
      obtain ⟨oa, ca, e2, _⟩ := h2
      obtain ⟨ok, ck, e3, _⟩ := h3
      simp only at e1 e2 e3
      subst e1 e2 e3
      unfold nodeV
      obtain ⟨n0, n1, n2, n3, n4, n5, n6, n7, n8, n9, n10, n11, n12, n13, n14, n15⟩ := n
      simp only at *
      obtain ⟨q0, q1, q2⟩ := box1w (o3 := .cells #[.int .u8 (n0 : Int), .string n1, .string n2, .string n3, .string n4, .string n5, .slice od n6.length cd, .slice oa n7.length ca, .int .i64 n8, .slice ok n9.length ck, .int .i64 n10, .int .i64 n11, .int .i64 n12, .int .u8 (n13 : Int), .bool n14, .bool n15] 68) hb
      have HB1 := hid (HB0.out.trans (hb.mono HB0.out.size))
      clear hb HN
      have hlo : 1 ≤ n0 ∧ n0 ≤ 12 := by rcases known_cases hkn with h | h | h | h | h | h | h | h | h <;> omega
      obtain ⟨ro', rc', hro, hcap, g⟩ := HRr.out
      obtain ⟨rfl, rfl⟩ : ro' = ro ∧ rc' = rc := by
        simp only [Value.slice.injEq] at hro
        exact ⟨hro.1.symm, hro.2.2.symm⟩
      have G := hid g
      clear g hro HRr
      have HBA := hid (HB1.out.alloc HB1.out.size (.cells #[.int .u8 (n0 : Int), .string n1, .string n2, .string n3, .string n4, .string n5, .slice od n6.length cd, .slice oa n7.length ca, .int .i64 n8, .slice ok n9.length ck, .int .i64 n10, .int .i64 n11, .int .i64 n12, .int .u8 (n13 : Int), .bool n14, .bool n15] 68))
      go_wp2
      go_ret
      exact ⟨rfl, HBA.out⟩
  | true =>
    rw [if_pos rfl]
    obtain ⟨R, hR⟩ : ∃ R, ruledD rules n.kind n.loc = R := ⟨_, rfl⟩
    rw [hR]
    have HR : Hid (ruledD (rules.drop 0) n.kind n.loc = R) := hR
    clear hR
    cases e12 : (n.kind == 12) with
    | true =>
      have e12i : ((n.kind : Int) == 12) = true := (beq_cast n.kind 12).trans e12
      have hbit : ((sh : Int) / 1024 % 2 == 0) = false := (shr_bit sh 10).trans (by unfold shownB at hsh; rw [e12] at hsh; exact congrArg not hsh)
      clear hsh e12
      go_enter Tryz.func33, Tryz.ntmps33
      go_wp2_with fail
      refine HN.out.mono ?_
      rintro e v1 ⟨L, rfl, h1, h2, h3, hb⟩
      obtain ⟨D, A, K⟩ := L
      obtain ⟨od, cd, e1, _⟩ := h1
      obtain ⟨oa, ca, e2, _⟩ := h2
      obtain ⟨ok, ck, e3, _⟩ := h3
      simp only at e1 e2 e3
      subst e1 e2 e3
      unfold nodeV
      obtain ⟨n0, n1, n2, n3, n4, n5, n6, n7, n8, n9, n10, n11, n12, n13, n14, n15⟩ := n
      simp only at *
      obtain ⟨q0, q1, q2⟩ := box1w (o3 := .cells #[.int .u8 (n0 : Int), .string n1, .string n2, .string n3, .string n4, .string n5, .slice od n6.length cd, .slice oa n7.length ca, .int .i64 n8, .slice ok n9.length ck, .int .i64 n10, .int .i64 n11, .int .i64 n12, .int .u8 (n13 : Int), .bool n14, .bool n15] 68) hb
      have HB1 := hid (HB0.out.trans (hb.mono HB0.out.size))
      clear hb HN
      have hlo : 1 ≤ n0 ∧ n0 ≤ 12 := by rcases known_cases hkn with h | h | h | h | h | h | h | h | h <;> omega
      obtain ⟨ro', rc', hro, hcap, g⟩ := HRr.out
      obtain ⟨rfl, rfl⟩ : ro' = ro ∧ rc' = rc := by
        simp only [Value.slice.injEq] at hro
        exact ⟨hro.1.symm, hro.2.2.symm⟩
      have G := hid g
      clear g hro HRr
      have HBA := hid (HB1.out.alloc HB1.out.size (.cells #[.int .u8 (n0 : Int), .string n1, .string n2, .string n3, .string n4, .string n5, .slice od n6.length cd, .slice oa n7.length ca, .int .i64 n8, .slice ok n9.length ck, .int .i64 n10, .int .i64 n11, .int .i64 n12, .int .u8 (n13 : Int), .bool n14, .bool n15] 68))
      go_wp2
      go_loopw [33] (fun t wr => ∃ k : Nat, k ≤ rules.length ∧ t = .int .i64 k ∧ Hid (Below (v1.heap.size + 1) (v1.alloc (.cells #[.int .u8 (n0 : Int), .string n1, .string n2, .string n3, .string n4, .string n5, .slice od n6.length cd, .slice oa n7.length ca, .int .i64 n8, .slice ok n9.length ck, .int .i64 n10, .int .i64 n11, .int .i64 n12, .int .u8 (n13 : Int), .bool n14, .bool n15] 68)) wr) ∧ Hid (ruledD (rules.drop k) n0 n3 = R)) (fun t _ => rules.length - (RowKit.intOf t).toNat)
      case atStart => exact ⟨0, Nat.zero_le _, rfl, Below.refl _ _, HR⟩
      case round =>
        obtain ⟨k, k1, rfl, hB, hK⟩ := hrel
        have hsz := hB.out.size
        simp only [World.size_alloc] at hsz
        have hBW : Below W.heap.size W wr := (HB1.out.alloc HB1.out.size _).trans (hB.out.mono (by have := HB1.out.size; omega))
        by_cases hlt : k < rules.length
        · obtain ⟨rb, roff, rfl, rlt, ra⟩ := G.out (by omega)
          obtain ⟨r0, r1, r2⟩ := (ra k hlt).later rlt hBW
          have p1 : (0 : Int) ≤ (k : Int) := by omega
          have p2 : (k : Int) < (rules.length : Int) := by omega
          have hkk := hK.out
          rw [List.drop_eq_getElem_cons hlt, ruledD] at hkk
          have Hk := hid hkk
          clear hkk hK ra G
          generalize rules[k] = r at *
          obtain ⟨y0, y1, y2⟩ := r
          simp only at *
          have hB2 : Below (v1.heap.size + 1) (v1.alloc (.cells #[.int .u8 (n0 : Int), .string n1, .string n2, .string n3, .string n4, .string n5, .slice od n6.length cd, .slice oa n7.length ca, .int .i64 n8, .slice ok n9.length ck, .int .i64 n10, .int .i64 n11, .int .i64 n12, .int .u8 (n13 : Int), .bool n14, .bool n15] 68)) (wr.alloc (.cells #[.int .u8 (y0 : Int), .string y1, .int .u8 (y2 : Int)] 39)) := hB.out.alloc hsz _
          have g0 : (wr.alloc (.cells #[.int .u8 (y0 : Int), .string y1, .int .u8 (y2 : Int)] 39)).cell? ⟨v1.heap.size, 0, none⟩ = some (.int .u8 (n0 : Int)) := (hB2.cell (p := ⟨v1.heap.size, 0, none⟩) (by show v1.heap.size < v1.heap.size + 1; omega)).trans (by simp)
          have g3 : (wr.alloc (.cells #[.int .u8 (y0 : Int), .string y1, .int .u8 (y2 : Int)] 39)).cell? ⟨v1.heap.size, 3, none⟩ = some (.string n3) := (hB2.cell (p := ⟨v1.heap.size, 3, none⟩) (by show v1.heap.size < v1.heap.size + 1; omega)).trans (by simp)
          have z1 : ((y0 : Int) == 0) = (y0 == 0) := beq_cast _ 0
          have z2 : ((y0 : Int) == (n0 : Int)) = (y0 == n0) := beq_cast _ _
          have h1 := noneS_toList y1; have h1' := noneS_empty y1
          have z3 : (y1.toList == n3.toList) = (y1.data.toList == n3.data.toList) := by rw [Lib.toList_data, Lib.toList_data]
          have hfd : fitsB ⟨y0, y1, y2⟩ n0 n3 = ((y0 == 0 || y0 == n0) && (noneS y1 || y1.data.toList == n3.data.toList)) := rfl
          rw [hfd] at Hk
          have HBW := hid hBW
          have HB3 := hid (hBW.alloc hBW.size (.cells #[.int .u8 (y0 : Int), .string y1, .int .u8 (y2 : Int)] 39))
          have HB4 := hid hB2
          clear hB2 hBW hfd
          generalize noneS y1 = b3 at *
          generalize (y1.data.toList == n3.data.toList) = b4 at *
          generalize (y0 == 0) = b1 at *
          generalize (y0 == n0) = b2 at *
          cases b1 <;> cases b2 <;> cases b3 <;> cases b4
          all_goals
            simp only [Bool.or_true, Bool.or_false, Bool.true_or, Bool.false_or, Bool.and_true, Bool.and_false, Bool.true_and, Bool.false_and, if_true, if_false, Bool.false_eq_true] at Hk
            first
              | (have hRy : y2 = R := Hk.out
                 subst hRy
                 clear Hk
                 go_wp2
                 go_ret
                 exact ⟨rfl, HB3.out⟩)
              | (go_wp2
                 go_roundw
                 case rel => exact ⟨k + 1, by omega, by go_num, HB4, Hk⟩
                 case measure => simp [RowKit.intOf]; omega)
        · have hR1 : R = 1 := by
            rw [← hK.out, List.drop_eq_nil_of_le (by omega)]
            rfl
          subst hR1
          clear hK G
          go_wp2
          go_ret
          exact ⟨rfl, hBW⟩
    | false =>
      have e12i : ((n.kind : Int) == 12) = false := (beq_cast n.kind 12).trans e12
      have hbit : (((sh : Int) / 2 ^ (n.kind - 1)).tmod 2 == 0) = false := (shr_bit2 sh (n.kind - 1)).trans (by unfold shownB at hsh; rw [e12] at hsh; exact congrArg not hsh)
      clear hsh e12
      go_enter Tryz.func33, Tryz.ntmps33
      go_wp2_with fail
      refine HN.out.mono ?_
      rintro e v1 ⟨L, rfl, h1, h2, h3, hb⟩
      obtain ⟨D, A, K⟩ := L
      obtain ⟨od, cd, e1, _⟩ := h1
      obtain ⟨oa, ca, e2, _⟩ := h2
      obtain ⟨ok, ck, e3, _⟩ := h3
      simp only at e1 e2 e3
      subst e1 e2 e3
      unfold nodeV
      obtain ⟨n0, n1, n2, n3, n4, n5, n6, n7, n8, n9, n10, n11, n12, n13, n14, n15⟩ := n
      simp only at *
      obtain ⟨q0, q1, q2⟩ := box1w (o3 := .cells #[.int .u8 (n0 : Int), .string n1, .string n2, .string n3, .string n4, .string n5, .slice od n6.length cd, .slice oa n7.length ca, .int .i64 n8, .slice ok n9.length ck, .int .i64 n10, .int .i64 n11, .int .i64 n12, .int .u8 (n13 : Int), .bool n14, .bool n15] 68) hb
      have HB1 := hid (HB0.out.trans (hb.mono HB0.out.size))
      clear hb HN
      have hlo : 1 ≤ n0 ∧ n0 ≤ 12 := by rcases known_cases hkn with h | h | h | h | h | h | h | h | h <;> omega
      obtain ⟨ro', rc', hro, hcap, g⟩ := HRr.out
      obtain ⟨rfl, rfl⟩ : ro' = ro ∧ rc' = rc := by
        simp only [Value.slice.injEq] at hro
        exact ⟨hro.1.symm, hro.2.2.symm⟩
      have G := hid g
      clear g hro HRr
      have HBA := hid (HB1.out.alloc HB1.out.size (.cells #[.int .u8 (n0 : Int), .string n1, .string n2, .string n3, .string n4, .string n5, .slice od n6.length cd, .slice oa n7.length ca, .int .i64 n8, .slice ok n9.length ck, .int .i64 n10, .int .i64 n11, .int .i64 n12, .int .u8 (n13 : Int), .bool n14, .bool n15] 68))
      go_wp2
      go_loopw [33] (fun t wr => ∃ k : Nat, k ≤ rules.length ∧ t = .int .i64 k ∧ Hid (Below (v1.heap.size + 1) (v1.alloc (.cells #[.int .u8 (n0 : Int), .string n1, .string n2, .string n3, .string n4, .string n5, .slice od n6.length cd, .slice oa n7.length ca, .int .i64 n8, .slice ok n9.length ck, .int .i64 n10, .int .i64 n11, .int .i64 n12, .int .u8 (n13 : Int), .bool n14, .bool n15] 68)) wr) ∧ Hid (ruledD (rules.drop k) n0 n3 = R)) (fun t _ => rules.length - (RowKit.intOf t).toNat)
      case atStart => exact ⟨0, Nat.zero_le _, rfl, Below.refl _ _, HR⟩
      case round =>
        obtain ⟨k, k1, rfl, hB, hK⟩ := hrel
        have hsz := hB.out.size
        simp only [World.size_alloc] at hsz
        have hBW : Below W.heap.size W wr := (HB1.out.alloc HB1.out.size _).trans (hB.out.mono (by have := HB1.out.size; omega))
        by_cases hlt : k < rules.length
        · obtain ⟨rb, roff, rfl, rlt, ra⟩ := G.out (by omega)
          obtain ⟨r0, r1, r2⟩ := (ra k hlt).later rlt hBW
          have p1 : (0 : Int) ≤ (k : Int) := by omega
          have p2 : (k : Int) < (rules.length : Int) := by omega
          have hkk := hK.out
          rw [List.drop_eq_getElem_cons hlt, ruledD] at hkk
          have Hk := hid hkk
          clear hkk hK ra G
          generalize rules[k] = r at *
          obtain ⟨y0, y1, y2⟩ := r
          simp only at *
          have hB2 : Below (v1.heap.size + 1) (v1.alloc (.cells #[.int .u8 (n0 : Int), .string n1, .string n2, .string n3, .string n4, .string n5, .slice od n6.length cd, .slice oa n7.length ca, .int .i64 n8, .slice ok n9.length ck, .int .i64 n10, .int .i64 n11, .int .i64 n12, .int .u8 (n13 : Int), .bool n14, .bool n15] 68)) (wr.alloc (.cells #[.int .u8 (y0 : Int), .string y1, .int .u8 (y2 : Int)] 39)) := hB.out.alloc hsz _
          have g0 : (wr.alloc (.cells #[.int .u8 (y0 : Int), .string y1, .int .u8 (y2 : Int)] 39)).cell? ⟨v1.heap.size, 0, none⟩ = some (.int .u8 (n0 : Int)) := (hB2.cell (p := ⟨v1.heap.size, 0, none⟩) (by show v1.heap.size < v1.heap.size + 1; omega)).trans (by simp)
          have g3 : (wr.alloc (.cells #[.int .u8 (y0 : Int), .string y1, .int .u8 (y2 : Int)] 39)).cell? ⟨v1.heap.size, 3, none⟩ = some (.string n3) := (hB2.cell (p := ⟨v1.heap.size, 3, none⟩) (by show v1.heap.size < v1.heap.size + 1; omega)).trans (by simp)
          have z1 : ((y0 : Int) == 0) = (y0 == 0) := beq_cast _ 0
          have z2 : ((y0 : Int) == (n0 : Int)) = (y0 == n0) := beq_cast _ _
          have h1 := noneS_toList y1; have h1' := noneS_empty y1
          have z3 : (y1.toList == n3.toList) = (y1.data.toList == n3.data.toList) := by rw [Lib.toList_data, Lib.toList_data]
          have hfd : fitsB ⟨y0, y1, y2⟩ n0 n3 = ((y0 == 0 || y0 == n0) && (noneS y1 || y1.data.toList == n3.data.toList)) := rfl
          rw [hfd] at Hk
          have HBW := hid hBW
          have HB3 := hid (hBW.alloc hBW.size (.cells #[.int .u8 (y0 : Int), .string y1, .int .u8 (y2 : Int)] 39))
          have HB4 := hid hB2
          clear hB2 hBW hfd
          generalize noneS y1 = b3 at *
          generalize (y1.data.toList == n3.data.toList) = b4 at *
          generalize (y0 == 0) = b1 at *
          generalize (y0 == n0) = b2 at *
          cases b1 <;> cases b2 <;> cases b3 <;> cases b4
          all_goals
            simp only [Bool.or_true, Bool.or_false, Bool.true_or, Bool.false_or, Bool.and_true, Bool.and_false, Bool.true_and, Bool.false_and, if_true, if_false, Bool.false_eq_true] at Hk
            first
              | (have hRy : y2 = R := Hk.out
                 subst hRy
                 clear Hk
                 go_wp2
                 go_ret
                 exact ⟨rfl, HB3.out⟩)
              | (go_wp2
                 go_roundw
                 case rel => exact ⟨k + 1, by omega, by go_num, HB4, Hk⟩
                 case measure => simp [RowKit.intOf]; omega)
        · have hR1 : R = 1 := by
            rw [← hK.out, List.drop_eq_nil_of_le (by omega)]
            rfl
          subst hR1
          clear hK G
          go_wp2
          go_ret
          exact ⟨rfl, hBW⟩
end Go.Proofs.YteflknfejjdkfabGreat

namespace Go.Proofs.YteflknfejjdkfabGreat
open Go.RowKit Go.Lib

theorem box1m {w V : World} {a : Value} {t : TypeId} (hb : Below (w.alloc (.cells #[a] t)).heap.size (w.alloc (.cells #[a] t)) V) : V.cell? ⟨w.heap.size, 0, none⟩ = some a :=
  (hb.cell (p := ⟨w.heap.size, 0, none⟩) (by simp)).trans (by simp)
theorem parent_none (ns : List NodeD) (x : Int) : (nodeOrNone ns x).parent = parentD ns x := by
  unfold nodeOrNone parentD
  cases nodeOf ns x <;> rfl
theorem head_get : ∀ {l : List Int} (h : 0 < l.length), l[0] = l.headD 0
  | [], h => absurd h (Nat.lt_irrefl _)
  | _ :: _, _ => rfl
theorem last_get {l : List Int} (h : l.length - 1 < l.length) : l[l.length - 1] = l.reverse.headD 0 := by
  have hne : l ≠ [] := fun e => by rw [e] at h; exact Nat.lt_irrefl _ h
  rw [← List.getLast_eq_getElem hne, List.headD_eq_head?_getD, List.head?_reverse]
  first
    | (rw [List.getLast?_eq_some_getLast hne]; rfl)
    | (rw [List.getLast?_eq_getLast hne]; rfl)
    | simp [List.getLast?_eq_getLast, hne]
theorem kids_none (ns : List NodeD) (x : Int) : (nodeOrNone ns x).kids = kidsD ns x := by
  unfold nodeOrNone kidsD
  cases nodeOf ns x <;> rfl

set_option maxRecDepth 100000 in
set_option maxHeartbeats 4000000 in
theorem refParent13_any (o : Option Addr) (cap : Nat) (x : Int) (ns : List NodeD) (w : World) (hF : FRd w o cap ns) :
    Calls Tryz.prog 32 #[.agg #[.slice o ns.length cap], .int .i64 x] w fun e w' => e = .returned (.int .i64 (parentD ns x)) ∧ Below w.heap.size w w' := by
  have hB0 : Below w.heap.size w (w.alloc (.cells #[.slice o ns.length cap] 24)) := (Below.refl _ w).alloc (Nat.le_refl _) _
  have HN := hid (refNode_any o cap x ns _ (hF.later hB0))
  have HB0 := hid hB0
  have hp := parent_none ns x
  clear hF hB0
  generalize nodeOrNone ns x = n at *
  generalize parentD ns x = P at *
  subst hp
  go_enter Tryz.func32, Tryz.ntmps32
  go_wp2_with fail
  refine HN.out.mono ?_
  rintro e v1 ⟨L, rfl, h1, h2, h3, hb⟩
  obtain ⟨D, A, K⟩ := L
  obtain ⟨od, cd, e1, _⟩ := h1
  obtain ⟨oa, ca, e2, _⟩ := h2
  obtain ⟨ok, ck, e3, _⟩ := h3
  simp only at e1 e2 e3
  subst e1 e2 e3
  have HB1 := hid (HB0.out.trans (hb.mono HB0.out.size))
  unfold nodeV
  clear hb HN
  go_wp2
  go_ret
  exact ⟨rfl, HB1.out.alloc HB1.out.size _⟩

set_option maxRecDepth 100000 in
set_option maxHeartbeats 4000000 in
theorem refKid13_any (o : Option Addr) (cap : Nat) (x : Int) (last : Bool) (ns : List NodeD) (w : World) (hF : FRd w o cap ns) (hkl : (kidsD ns x).length ≤ 4096) :
    Calls Tryz.prog 34 #[.agg #[.slice o ns.length cap], .int .i64 x, .bool last] w fun e w' => e = .returned (.int .i64 (kidH (hangD ns last) x)) ∧ Below w.heap.size w w' := by
  have hB0 : Below w.heap.size w (w.alloc (.cells #[.slice o ns.length cap] 24)) := (Below.refl _ w).alloc (Nat.le_refl _) _
  have HN := hid (refNode_any o cap x ns _ (hF.later hB0))
  have HB0 := hid hB0
  have hk := kids_none ns x
  have hres : kidH (hangD ns last) x = if last then (kidsD ns x).reverse.headD 0 else (kidsD ns x).headD 0 := by
    cases last <;> rfl
  rw [hres]
  rw [← hk] at hkl ⊢
  clear hF hB0 hres hk
  generalize nodeOrNone ns x = n at *
  obtain ⟨R, hR⟩ : ∃ R, (if last then n.kids.reverse.headD 0 else n.kids.headD 0) = R := ⟨_, rfl⟩
  rw [hR]
  have HR := hid hR
  clear hR
  go_enter Tryz.func34, Tryz.ntmps34
  go_wp2_with fail
  refine HN.out.mono ?_
  rintro e v1 ⟨L, rfl, h1, h2, h3, hb⟩
  obtain ⟨D, A, K⟩ := L
  obtain ⟨od, cd, e1, _⟩ := h1
  obtain ⟨oa, ca, e2, _⟩ := h2
  obtain ⟨ok, ck, e3, _, g⟩ := h3
  simp only at e1 e2 e3
  subst e1 e2 e3
  have HB1 := hid (HB0.out.trans (hb.mono HB0.out.size))
  unfold nodeV
  clear hb HN
  by_cases h0 : n.kids.length = 0
  · have hn : n.kids = [] := List.length_eq_zero_iff.1 h0
    have hR0 : R = 0 := by rw [← HR.out, hn]; cases last <;> rfl
    subst hR0
    rw [h0]
    clear g HR
    go_wp2
    go_ret
    exact ⟨rfl, HB1.out.alloc HB1.out.size _⟩
  · obtain ⟨b, off, rfl, hlt, ha⟩ := g (by omega)
    have z0 : ((n.kids.length : Int) == 0) = false := beq_eq_false_iff_ne.2 (by omega)
    have hB2 : Below v1.heap.size v1 (v1.alloc (.cells #[.int .u8 (n.kind : Int), .string n.space, .string n.pre, .string n.loc, .string n.pub, .string n.sys, .slice od n.data.length cd, .slice oa n.attrs.length ca, .int .i64 n.parent, .slice (some ⟨b, off, none⟩) n.kids.length ck, .int .i64 n.doc, .int .i64 n.host, .int .i64 n.shadow, .int .u8 (n.mode : Int), .bool n.manual, .bool n.html] 68)) := (Below.refl _ v1).alloc (Nat.le_refl _) _
    cases last with
    | false =>
      have hc := (hB2.cell (p := ⟨b, off + 0, none⟩) hlt).trans (ha 0 (by omega))
      rw [Nat.add_zero] at hc
      have hR0 : n.kids[0] = R := (head_get (by omega)).trans HR.out
      rw [hR0] at hc
      have q2 : (0 : Int) < (n.kids.length : Int) := by omega
      clear hR0 g ha HR hB2
      go_wp2
      go_ret
      exact ⟨rfl, HB1.out.alloc HB1.out.size _⟩
    | true =>
      have hl1 : n.kids.length - 1 < n.kids.length := by omega
      have hc := (hB2.cell (p := ⟨b, off + (n.kids.length - 1), none⟩) hlt).trans (ha (n.kids.length - 1) hl1)
      have hR0 : n.kids[n.kids.length - 1] = R := (last_get hl1).trans HR.out
      rw [hR0] at hc
      obtain ⟨m, hm⟩ : ∃ m : Nat, n.kids.length = m + 1 := ⟨n.kids.length - 1, by omega⟩
      rw [hm] at hc
      have hs : ((n.kids.length : Int) - 1) = (m : Int) := by omega
      have q1 : (0 : Int) ≤ (m : Int) := by omega
      have q2 : (m : Int) < (n.kids.length : Int) := by omega
      have hw : IntKind.i64.wrap (m : Int) = (m : Int) := by simp [IntKind.wrap, IntKind.bits, IntKind.signed]; omega
      rw [Nat.add_sub_cancel] at hc
      clear hR0 g ha HR hB2
      go_wp2
      go_ret
      exact ⟨rfl, HB1.out.alloc HB1.out.size _⟩
end Go.Proofs.YteflknfejjdkfabGreat

namespace Go.Proofs.YteflknfejjdkfabGreat
open Go.RowKit Go.Lib

set_option maxRecDepth 100000 in
set_option maxHeartbeats 4000000 in
theorem refPlace5_any (o : Option Addr) (cap : Nat) (x : Int) (ns : List NodeD) (w : World) (hF : FRd w o cap ns) (hkl : (kidsD ns (parentD ns x)).length ≤ 4096) :
    Calls Tryz.prog 64 #[.agg #[.slice o ns.length cap], .int .i64 x] w fun e w' => e = .returned (.int .i64 (idxI (kidsD ns (parentD ns x)) x 0)) ∧ Below w.heap.size w w' := by
  have hB0 : Below w.heap.size w (w.alloc (.cells #[.slice o ns.length cap] 24)) := (Below.refl _ w).alloc (Nat.le_refl _) _
  have HN := hid (refNode_any o cap x ns _ (hF.later hB0))
  have HN2 : Hid (∀ W : World, Below w.heap.size w W → _) := fun W hW => refNode_any o cap (parentD ns x) ns W (hF.later hW)
  have HB0 := hid hB0
  have hp := parent_none ns x
  have hk := kids_none ns (parentD ns x)
  rw [← hk] at hkl ⊢
  clear hF hB0 hk
  obtain ⟨P, hP⟩ : ∃ P, parentD ns x = P := ⟨_, rfl⟩
  rw [hP] at hp HN2 hkl ⊢
  generalize nodeOrNone ns P = q at *
  generalize nodeOrNone ns x = n at *
  clear hP
  obtain ⟨R, hR⟩ : ∃ R, idxI q.kids x 0 = R := ⟨_, rfl⟩
  rw [hR]
  have HR : Hid (idxI (q.kids.drop 0) x 0 = R) := hR
  clear hR
  subst hp
  go_enter Tryz.func64, Tryz.ntmps64
  go_wp2_with fail
  refine HN.out.mono ?_
  rintro e v1 ⟨L, rfl, h1, h2, h3, hb⟩
  obtain ⟨D, A, K⟩ := L
  obtain ⟨od, cd, e1, _⟩ := h1
  obtain ⟨oa, ca, e2, _⟩ := h2
  obtain ⟨ok, ck, e3, _⟩ := h3
  simp only at e1 e2 e3
  subst e1 e2 e3
  have q0 := box1m hb
  have HB1 := hid (HB0.out.trans (hb.mono HB0.out.size))
  have HB1a := hid (HB1.out.alloc HB1.out.size (.cells #[.int .u8 (n.kind : Int), .string n.space, .string n.pre, .string n.loc, .string n.pub, .string n.sys, .slice od n.data.length cd, .slice oa n.attrs.length ca, .int .i64 n.parent, .slice ok n.kids.length ck, .int .i64 n.doc, .int .i64 n.host, .int .i64 n.shadow, .int .u8 (n.mode : Int), .bool n.manual, .bool n.html] 68))
  have hN2 := HN2.out _ HB1a.out
  have hlt0 := World.block_lt_of_cell? _ _ q0
  have q1 : (v1.alloc (.cells #[.int .u8 (n.kind : Int), .string n.space, .string n.pre, .string n.loc, .string n.pub, .string n.sys, .slice od n.data.length cd, .slice oa n.attrs.length ca, .int .i64 n.parent, .slice ok n.kids.length ck, .int .i64 n.doc, .int .i64 n.host, .int .i64 n.shadow, .int .u8 (n.mode : Int), .bool n.manual, .bool n.html] 68)).cell? ⟨w.heap.size, 0, none⟩ = some (.slice o ns.length cap) := (World.cell?_alloc_lt _ _ _ hlt0).trans q0
  unfold nodeV
  clear hb HN HN2 hlt0
  go_wp2_with fail
  refine hN2.mono ?_
  rintro e v2 ⟨L, rfl, h1, h2, h3, hb⟩
  obtain ⟨D, A, K⟩ := L
  obtain ⟨od2, cd2, e1, _⟩ := h1
  obtain ⟨oa2, ca2, e2, _⟩ := h2
  obtain ⟨ok2, ck2, e3, _, g⟩ := h3
  simp only at e1 e2 e3
  subst e1 e2 e3
  have HB2 := hid (HB1a.out.trans (hb.mono HB1a.out.size))
  have G := hid g
  unfold nodeV
  clear hb hN2 q0 q1 g
  go_wp2
  go_loopw [27] (fun t wr => ∃ k : Nat, k ≤ q.kids.length ∧ t = .int .i64 k ∧ wr = (v2.alloc (.cells #[.int .u8 (q.kind : Int), .string q.space, .string q.pre, .string q.loc, .string q.pub, .string q.sys, .slice od2 q.data.length cd2, .slice oa2 q.attrs.length ca2, .int .i64 q.parent, .slice ok2 q.kids.length ck2, .int .i64 q.doc, .int .i64 q.host, .int .i64 q.shadow, .int .u8 (q.mode : Int), .bool q.manual, .bool q.html] 68)) ∧ Hid (idxI (q.kids.drop k) x k = R)) (fun t _ => q.kids.length - (RowKit.intOf t).toNat)
  case atStart => exact ⟨0, Nat.zero_le _, rfl, rfl, HR⟩
  case round =>
    obtain ⟨k, k1, rfl, rfl, hK⟩ := hrel
    by_cases l1 : k < q.kids.length
    · obtain ⟨b, off, rfl, hlt, ha⟩ := G.out (by omega)
      have hc : (v2.alloc (.cells #[.int .u8 (q.kind : Int), .string q.space, .string q.pre, .string q.loc, .string q.pub, .string q.sys, .slice od2 q.data.length cd2, .slice oa2 q.attrs.length ca2, .int .i64 q.parent, .slice (some ⟨b, off, none⟩) q.kids.length ck2, .int .i64 q.doc, .int .i64 q.host, .int .i64 q.shadow, .int .u8 (q.mode : Int), .bool q.manual, .bool q.html] 68)).cell? ⟨b, off + k, none⟩ = some (.int .i64 q.kids[k]) := (World.cell?_alloc_lt _ _ _ hlt).trans (ha k l1)
      have p1 : (0 : Int) ≤ (k : Int) := by omega
      have p2 : (k : Int) < (q.kids.length : Int) := by omega
      have hkk := hK.out
      rw [List.drop_eq_getElem_cons l1, idxI] at hkk
      have Hk := hid hkk
      clear hkk hK ha G HR
      generalize q.kids[k] = y at *
      cases he : (y == x) with
      | true =>
        have hRk : R = (k : Int) := by rw [← Hk.out, he, if_pos rfl]
        subst hRk
        clear Hk
        go_wp2
        go_ret
        exact ⟨rfl, HB2.out.alloc HB2.out.size _⟩
      | false =>
        have Hn : Hid (idxI (q.kids.drop (k + 1)) x (k + 1) = R) := by
          have := Hk.out
          rw [he, if_neg Bool.false_ne_true] at this
          exact this
        clear Hk
        go_wp2
        go_roundw
        case rel => exact ⟨k + 1, by omega, by go_num, (by first | exact trivial | rfl), Hn⟩
        case measure => simp [RowKit.intOf]; omega
    · have hRn : R = -1 := by
        rw [← hK.out, List.drop_eq_nil_of_le (by omega)]
        rfl
      subst hRn
      have hkp : k = q.kids.length := by omega
      subst hkp
      clear hK G HR l1 k1
      go_wp2
      go_ret
      exact ⟨rfl, HB2.out.alloc HB2.out.size _⟩
end Go.Proofs.YteflknfejjdkfabGreat

namespace Go.Proofs.YteflknfejjdkfabGreat
open Go.RowKit Go.Lib

theorem cell_keep {V U : World} {p : Addr} {v : Value} (h : V.cell? p = some v) (hb : Below V.heap.size V U) : U.cell? p = some v := (hb.cell (World.block_lt_of_cell? _ _ h)).trans h
theorem heap_keep {V U : World} {k : Nat} {x : Obj} (h : V.heap[k]? = some x) (hb : Below V.heap.size V U) : U.heap[k]? = some x := (hb.block k (Array.getElem?_eq_some_iff.1 h).1).trans h
theorem node_cells {V : World} {B : Nat} {t : TypeId} {c0 c1 c2 c3 c4 c5 c6 c7 c8 c9 c10 c11 c12 c13 c14 c15 : Value} (h : V.heap[B]? = some (.cells #[c0, c1, c2, c3, c4, c5, c6, c7, c8, c9, c10, c11, c12, c13, c14, c15] t)) : V.cell? ⟨B, 8, none⟩ = some c8 ∧ V.cell? ⟨B, 9, none⟩ = some c9 := by
  have hk : ∀ j : Nat, V.cell? ⟨B, j, none⟩ = #[c0, c1, c2, c3, c4, c5, c6, c7, c8, c9, c10, c11, c12, c13, c14, c15][j]? := fun j => by
    unfold World.cell?
    simp only [h]
    exact if_neg (by decide)
  exact ⟨(hk 8).trans rfl, (hk 9).trans rfl⟩
theorem idxI_bounds : ∀ (l : List Int) (x : Int) (k : Nat), -1 ≤ idxI l x k ∧ idxI l x k < ((k + l.length : Nat) : Int) ∨ (l = [] ∧ idxI l x k = -1)
  | [], _, _ => .inr ⟨rfl, rfl⟩
  | y :: t, x, k => by
    refine .inl ?_
    unfold idxI
    split
    · simp; omega
    · rcases idxI_bounds t x (k + 1) with h | ⟨_, h⟩
      · simp only [List.length_cons]; omega
      · rw [h]; simp only [List.length_cons]; omega
theorem wrap_small (j : Int) (h1 : -2 ≤ j) (h2 : j ≤ 5000) : IntKind.i64.wrap j = j := by
  simp [IntKind.wrap, IntKind.bits, IntKind.signed]
  omega
theorem sum_small {I d J : Int} (h : -1 ≤ I ∧ I < 4096) (hd : d = 1 ∨ d = -1) (hJ : I + d = J) : -2 ≤ J ∧ J ≤ 5000 := by omega
/-- The kid that stands so far from one. -/
def besideR (ns : List NodeD) (x d : Int) : Int := if parentD ns x = 0 then 0 else sibI (kidsD ns (parentD ns x)) x d

set_option maxRecDepth 100000 in
set_option maxHeartbeats 4000000 in
theorem refBeside5_any (o : Option Addr) (cap : Nat) (x d : Int) (ns : List NodeD) (w : World) (hF : FRd w o cap ns) (hkl : (kidsD ns (parentD ns x)).length ≤ 4096) (hd : d = 1 ∨ d = -1) :
    Calls Tryz.prog 51 #[.agg #[.slice o ns.length cap], .int .i64 x, .int .i64 d] w fun e w' => e = .returned (.int .i64 (besideR ns x d)) ∧ Below w.heap.size w w' := by
  have hB0 : Below w.heap.size w (w.alloc (.cells #[.slice o ns.length cap] 24)) := (Below.refl _ w).alloc (Nat.le_refl _) _
  have HN := hid (refNode_any o cap x ns _ (hF.later hB0))
  have HN2 : Hid (∀ W : World, Below w.heap.size w W → _) := fun W hW => refNode_any o cap (parentD ns x) ns W (hF.later hW)
  have HP : Hid (∀ W : World, Below w.heap.size w W → _) := fun W hW => refPlace5_any o cap x ns W (hF.later hW) hkl
  have HB0 := hid hB0
  have hp := parent_none ns x
  have hk := kids_none ns (parentD ns x)
  unfold besideR
  rw [← hk] at hkl HP ⊢
  clear hF hB0 hk
  obtain ⟨P, hP⟩ : ∃ P, parentD ns x = P := ⟨_, rfl⟩
  rw [hP] at hp HN2 hkl HP ⊢
  generalize nodeOrNone ns P = q at *
  generalize nodeOrNone ns x = n at *
  clear hP
  subst hp
  have hix : -1 ≤ idxI q.kids x 0 ∧ idxI q.kids x 0 < 4096 := by
    rcases idxI_bounds q.kids x 0 with h | ⟨_, h⟩
    · omega
    · rw [h]; omega
  obtain ⟨I, hI⟩ : ∃ I, idxI q.kids x 0 = I := ⟨_, rfl⟩
  obtain ⟨R, hR⟩ : ∃ R, (if n.parent = 0 then 0 else sibI q.kids x d) = R := ⟨_, rfl⟩
  rw [hR]
  unfold sibI at hR
  rw [hI] at hix HP hR
  have HR := hid hR
  clear hR hI
  go_enter Tryz.func51, Tryz.ntmps51
  go_wp2_with fail
  refine HN.out.mono ?_
  rintro e v1 ⟨L, rfl, h1, h2, h3, hb⟩
  obtain ⟨D, A, K⟩ := L
  obtain ⟨od, cd, e1, _⟩ := h1
  obtain ⟨oa, ca, e2, _⟩ := h2
  obtain ⟨ok, ck, e3, _⟩ := h3
  simp only at e1 e2 e3
  subst e1 e2 e3
  have q0 := box1m hb
  have HB1 := hid (HB0.out.trans (hb.mono HB0.out.size))
  have HB1a := hid (HB1.out.alloc HB1.out.size (.cells #[.int .u8 (n.kind : Int), .string n.space, .string n.pre, .string n.loc, .string n.pub, .string n.sys, .slice od n.data.length cd, .slice oa n.attrs.length ca, .int .i64 n.parent, .slice ok n.kids.length ck, .int .i64 n.doc, .int .i64 n.host, .int .i64 n.shadow, .int .u8 (n.mode : Int), .bool n.manual, .bool n.html] 68))
  have hN2 := HN2.out _ HB1a.out
  have hlt0 := World.block_lt_of_cell? _ _ q0
  have q1 : (v1.alloc (.cells #[.int .u8 (n.kind : Int), .string n.space, .string n.pre, .string n.loc, .string n.pub, .string n.sys, .slice od n.data.length cd, .slice oa n.attrs.length ca, .int .i64 n.parent, .slice ok n.kids.length ck, .int .i64 n.doc, .int .i64 n.host, .int .i64 n.shadow, .int .u8 (n.mode : Int), .bool n.manual, .bool n.html] 68)).cell? ⟨w.heap.size, 0, none⟩ = some (.slice o ns.length cap) := (World.cell?_alloc_lt _ _ _ hlt0).trans q0
  unfold nodeV
  clear hb HN HN2 hlt0
  go_wp2_with fail
  refine hN2.mono ?_
  rintro e v2 ⟨L, rfl, h1, h2, h3, hb⟩
  obtain ⟨D, A, K⟩ := L
  obtain ⟨od2, cd2, e1, _⟩ := h1
  obtain ⟨oa2, ca2, e2, _⟩ := h2
  obtain ⟨ok2, ck2, e3, _, g⟩ := h3
  simp only at e1 e2 e3
  subst e1 e2 e3
  have HB2 := hid (HB1a.out.trans (hb.mono HB1a.out.size))
  have G := hid g
  unfold nodeV
  have HK1 := hid (heap_keep (vheapW v1 (.cells #[.int .u8 (n.kind : Int), .string n.space, .string n.pre, .string n.loc, .string n.pub, .string n.sys, .slice od n.data.length cd, .slice oa n.attrs.length ca, .int .i64 n.parent, .slice ok n.kids.length ck, .int .i64 n.doc, .int .i64 n.host, .int .i64 n.shadow, .int .u8 (n.mode : Int), .bool n.manual, .bool n.html] 68)) hb)
  have q2 := cell_keep q1 hb
  have hlt0 := World.block_lt_of_cell? _ _ q2
  have q3 : (v2.alloc (.cells #[.int .u8 (q.kind : Int), .string q.space, .string q.pre, .string q.loc, .string q.pub, .string q.sys, .slice od2 q.data.length cd2, .slice oa2 q.attrs.length ca2, .int .i64 q.parent, .slice ok2 q.kids.length ck2, .int .i64 q.doc, .int .i64 q.host, .int .i64 q.shadow, .int .u8 (q.mode : Int), .bool q.manual, .bool q.html] 68)).cell? ⟨w.heap.size, 0, none⟩ = some (.slice o ns.length cap) := (World.cell?_alloc_lt _ _ _ hlt0).trans q2
  have HB2a := hid (HB2.out.alloc HB2.out.size (.cells #[.int .u8 (q.kind : Int), .string q.space, .string q.pre, .string q.loc, .string q.pub, .string q.sys, .slice od2 q.data.length cd2, .slice oa2 q.attrs.length ca2, .int .i64 q.parent, .slice ok2 q.kids.length ck2, .int .i64 q.doc, .int .i64 q.host, .int .i64 q.shadow, .int .u8 (q.mode : Int), .bool q.manual, .bool q.html] 68))
  have hPl := HP.out _ HB2a.out
  clear hb hN2 q0 q1 g q2 hlt0 HP
  go_wp2_with fail
  refine hPl.mono ?_
  rintro e v3 ⟨rfl, hb⟩
  have hC : Below v2.heap.size v2 v3 := ((Below.refl _ v2).alloc (Nat.le_refl _) _).trans (hb.mono (by simp))
  obtain ⟨a8, a9⟩ := node_cells (heap_keep HK1.out hC)
  obtain ⟨b8, b9⟩ := node_cells (heap_keep (vheapW v2 (.cells #[.int .u8 (q.kind : Int), .string q.space, .string q.pre, .string q.loc, .string q.pub, .string q.sys, .slice od2 q.data.length cd2, .slice oa2 q.attrs.length ca2, .int .i64 q.parent, .slice ok2 q.kids.length ck2, .int .i64 q.doc, .int .i64 q.host, .int .i64 q.shadow, .int .u8 (q.mode : Int), .bool q.manual, .bool q.html] 68)) hb)
  have HB3 := hid (HB2.out.trans (hC.mono HB2.out.size))
  have HC := hid hC
  clear hb hPl q3 hC HK1 HB2a
  obtain ⟨J, hJ⟩ : ∃ J, I + d = J := ⟨_, rfl⟩
  rw [hJ] at HR
  have hw : IntKind.i64.wrap (I + d) = J := by
    rw [hJ]
    exact wrap_small J (sum_small hix hd hJ).1 (sum_small hix hd hJ).2
  clear hJ
  by_cases h0 : n.parent = 0
  · have hR0 : R = 0 := by rw [← HR.out, if_pos h0]
    subst hR0
    have e0 : (n.parent == 0) = true := beq_iff_eq.2 h0
    clear HR h0 b8 b9 G HC
    go_wp2
    go_ret
    exact ⟨rfl, HB3.out⟩
  · have e0 : (n.parent == 0) = false := beq_eq_false_iff_ne.2 h0
    have hR1 := HR.out
    rw [if_neg h0] at hR1
    have HR1 := hid hR1
    clear HR hR1 h0
    by_cases h1 : J < 0
    · have hR0 : R = 0 := by rw [← HR1.out, if_pos (.inl h1)]
      subst hR0
      clear HR1 b8 b9 G HC
      go_wp2
      go_ret
      exact ⟨rfl, HB3.out⟩
    · by_cases h2 : (q.kids.length : Int) ≤ J
      · have hR0 : R = 0 := by rw [← HR1.out, if_pos (.inr h2)]
        subst hR0
        clear HR1 G HC
        go_wp2
        go_ret
        exact ⟨rfl, HB3.out⟩
      · obtain ⟨m, rfl⟩ : ∃ m : Nat, J = (m : Int) := ⟨J.toNat, by omega⟩
        have hm : m < q.kids.length := by omega
        obtain ⟨b, off, rfl, hlt, ha⟩ := G.out (by omega)
        have hc := (HC.out.cell (p := ⟨b, off + m, none⟩) hlt).trans (ha m hm)
        have hRm : q.kids[m] = R := by
          rw [← HR1.out, if_neg (by omega)]
          simp [hm]
        rw [hRm] at hc
        have p1 : (0 : Int) ≤ (m : Int) := by omega
        have p2 : (m : Int) < (q.kids.length : Int) := by omega
        clear hRm ha HR1 G HC
        go_wp2
        go_ret
        exact ⟨rfl, HB3.out⟩
end Go.Proofs.YteflknfejjdkfabGreat

namespace Go.Proofs.YteflknfejjdkfabGreat
open Go.RowKit Go.Lib

theorem besideR_next {ns : List NodeD} (h : RightF ns) {x : Int} (hx : thereB ns.length x = true) (back : Bool) : besideR ns x (if back then -1 else 1) = nextH (parentD ns) (hangD ns back) x := by
  obtain ⟨a, b⟩ := sib_dir h hx
  have e : ∀ d, besideR ns x d = if parentD ns x == 0 then 0 else sibI (kidsD ns (parentD ns x)) x d := fun d => by
    unfold besideR
    by_cases h0 : parentD ns x = 0
    · rw [if_pos h0, beq_iff_eq.2 h0, if_pos rfl]
    · rw [if_neg h0, beq_eq_false_iff_ne.2 h0, if_neg Bool.false_ne_true]
  cases back with
  | false => exact (e 1).trans a
  | true => exact (e (-1)).trans b

set_option maxRecDepth 100000 in
set_option maxHeartbeats 4000000 in
theorem refbeside_any (o : Option Addr) (cap : Nat) (x : Int) (back : Bool) (ns : List NodeD) (w : World) (hF : FRd w o cap ns) (hR : RightF ns) (hx : thereB ns.length x = true) (hkl : (kidsD ns (parentD ns x)).length ≤ 4096) :
    Calls Tryz.prog 35 #[.agg #[.slice o ns.length cap], .int .i64 x, .bool back] w fun e w' => e = .returned (.int .i64 (nextH (parentD ns) (hangD ns back) x)) ∧ Below w.heap.size w w' := by
  have hB0 : Below w.heap.size w (w.alloc (.cells #[.slice o ns.length cap] 24)) := (Below.refl _ w).alloc (Nat.le_refl _) _
  rw [← besideR_next hR hx back]
  have HP : Hid (∀ d : Int, d = 1 ∨ d = -1 → _) := fun d hd => refBeside5_any o cap x d ns _ (hF.later hB0) hkl hd
  have HB0 := hid hB0
  clear hF hB0 hkl hR hx
  cases back with
  | false =>
    have h := HP.out 1 (.inl rfl)
    clear HP
    show Calls Tryz.prog 35 #[.agg #[.slice o ns.length cap], .int .i64 x, .bool false] w fun e w' => e = .returned (.int .i64 (besideR ns x 1)) ∧ Below w.heap.size w w'
    generalize besideR ns x 1 = R at *
    go_enter Tryz.func35, Tryz.ntmps35
    go_wp2_with fail
    refine h.mono ?_
    rintro e v1 ⟨rfl, hb⟩
    go_wp2
    go_ret
    exact ⟨rfl, HB0.out.trans (hb.mono HB0.out.size)⟩
  | true =>
    have h := HP.out (-1) (.inr rfl)
    clear HP
    show Calls Tryz.prog 35 #[.agg #[.slice o ns.length cap], .int .i64 x, .bool true] w fun e w' => e = .returned (.int .i64 (besideR ns x (-1))) ∧ Below w.heap.size w w'
    generalize besideR ns x (-1) = R at *
    go_enter Tryz.func35, Tryz.ntmps35
    go_wp2_with fail
    refine h.mono ?_
    rintro e v1 ⟨rfl, hb⟩
    go_wp2
    go_ret
    exact ⟨rfl, HB0.out.trans (hb.mono HB0.out.size)⟩
end Go.Proofs.YteflknfejjdkfabGreat

namespace Go.Proofs.YteflknfejjdkfabGreat
open Go.RowKit Go.Lib

theorem boxesFV {w V : World} {f r c s l : Value} {t u : TypeId} (hb : Below (w.heap.size + 2) ((w.alloc (.cells #[f] t)).alloc (.cells #[r, c, s, l] u)) V) :
    V.cell? ⟨w.heap.size, 0, none⟩ = some f ∧ V.cell? ⟨w.heap.size + 1, 0, none⟩ = some r ∧ V.cell? ⟨w.heap.size + 1, 1, none⟩ = some c ∧ V.cell? ⟨w.heap.size + 1, 2, none⟩ = some s ∧ V.cell? ⟨w.heap.size + 1, 3, none⟩ = some l := by
  have hn : V.heap[w.heap.size + 1]? = some (.cells #[r, c, s, l] u) := by
    have := vheapW (w.alloc (.cells #[f] t)) (.cells #[r, c, s, l] u)
    rw [World.size_alloc] at this
    exact (hb.block (w.heap.size + 1) (by omega)).trans this
  have hk : ∀ j : Nat, V.cell? ⟨w.heap.size + 1, j, none⟩ = #[r, c, s, l][j]? := fun j => by
    unfold World.cell?
    simp only [hn]
    exact if_neg (by decide)
  exact ⟨(hb.cell (p := ⟨w.heap.size, 0, none⟩) (by show w.heap.size < w.heap.size + 2; omega)).trans (by simp), (hk 0).trans rfl, (hk 1).trans rfl, (hk 2).trans rfl, (hk 3).trans rfl⟩
theorem below_twoV (w : World) (o1 o2 : Obj) : Below w.heap.size w ((w.alloc o1).alloc o2) := ((Below.refl _ w).alloc (Nat.le_refl _) _).alloc (by simp) _

set_option maxRecDepth 100000 in
set_option maxHeartbeats 4000000 in
theorem refUp_any (b off cap : Nat) (ns : List NodeD) (root cur : Int) (sh : Nat) (ro : Option Addr) (rc : Nat) (rules : List RuleD) (rev : Bool) (w : World) (hR : RightF ns) (hF : FAt w b off cap ns) (hr : thereB ns.length root = true) (hc : thereB ns.length cur = true) (hs : sh < 4294967296) (hru : RdR w (.slice ro rules.length rc) rules) (hf : rules.length ≤ 64) :
    Calls Tryz.prog 17 #[.agg #[.slice (some ⟨b, off, none⟩) ns.length cap], .agg #[.int .i64 root, .int .i64 cur, .int .u32 (sh : Int), .slice ro rules.length rc]] w fun e w' => e = .returned (.int .i64 ((tourD ns root sh rules rev).upD cur)) ∧ Below w.heap.size w w' := by
  have HB0 := hid (below_twoV w (.cells #[.slice (some ⟨b, off, none⟩) ns.length cap] 24) (.cells #[.int .i64 root, .int .i64 cur, .int .u32 (sh : Int), .slice ro rules.length rc] 30))
  have hFR : FRd w (some ⟨b, off, none⟩) cap ns := ⟨hF.len, fun _ => ⟨b, off, rfl, hF⟩⟩
  have HP : Hid (∀ (x : Int) (W : World), Below w.heap.size w W → _) := fun x W hW => refParent13_any (some ⟨b, off, none⟩) cap x ns W (hFR.later hW)
  have HV : Hid (∀ (x : Int) (W : World), thereB ns.length x = true → Below w.heap.size w W → _) := fun x W hx hW => refVerdict_any b off cap x sh ro rc rules ns W hR (hF.later hW) hx hs (hru.later hW) hf
  have HO := hid (tourD_ok hR hr sh rules rev)
  have HX0 : Hid (∀ V : World, Below (w.heap.size + 2) ((w.alloc (.cells #[.slice (some ⟨b, off, none⟩) ns.length cap] 24)).alloc (.cells #[.int .i64 root, .int .i64 cur, .int .u32 (sh : Int), .slice ro rules.length rc] 30)) V → w.heap.size + 2 ≤ V.heap.size ∧ Below w.heap.size w V) := fun V h => ⟨by have := h.size; simp only [World.size_alloc] at this; exact this, HB0.out.trans (h.mono (by omega))⟩
  have HT : Hid (∀ y : Int, thereB ns.length y = true → _) := fun y hy => (tourD_ok hR hr sh rules rev).hangs.up_len hy
  obtain ⟨R, hRR⟩ : ∃ R, (tourD ns root sh rules rev).upD cur = R := ⟨_, rfl⟩
  rw [hRR]
  have HRR := hid hRR
  clear hR hF hFR hr hru hRR
  go_enter Tryz.func17, Tryz.ntmps17
  go_wp2
  go_loopw [5] (fun t wr => ∃ x : Int, t = .int .i64 x ∧ ((x = 0 ∧ R = 0) ∨ (thereB ns.length x = true ∧ (tourD ns root sh rules rev).upD x = R)) ∧ Hid (Below (w.heap.size + 2) ((w.alloc (.cells #[.slice (some ⟨b, off, none⟩) ns.length cap] 24)).alloc (.cells #[.int .i64 root, .int .i64 cur, .int .u32 (sh : Int), .slice ro rules.length rc] 30)) wr)) (fun t _ => lenH ns (parentD ns) (RowKit.intOf t))
  case atStart => exact ⟨cur, rfl, .inr ⟨hc, HRR.out⟩, Below.refl _ _⟩
  case round =>
    obtain ⟨x, rfl, hx, hB⟩ := hrel
    obtain ⟨q0, q1, q2, q3, q4⟩ := boxesFV hB.out
    rcases hx with ⟨rfl, rfl⟩ | ⟨hx, hxR⟩
    · clear HP HV HO HT HRR
      go_wp2
      go_ret
      exact ⟨rfl, (HX0.out _ hB.out).2⟩
    · have e0 : (x != 0) = true := by rw [bne, beq_eq_false_iff_ne.2 (there_ne hx)]; rfl
      by_cases er : x = root
      · have hR0 : R = 0 := by rw [← hxR]; exact TourD.up_stop (by show (x == root || _) = true; rw [beq_iff_eq.2 er]; rfl)
        subst hR0
        have e1 : (x != root) = false := by rw [bne, beq_iff_eq.2 er]; rfl
        clear HP HV HO HT HRR er hxR
        go_wp2
        go_ret
        exact ⟨rfl, (HX0.out _ hB.out).2⟩
      · have e1 : (x != root) = true := by rw [bne, beq_eq_false_iff_ne.2 er]; rfl
        have hP := HP.out x wr (HX0.out _ hB.out).2
        have hlen : lenH ns (parentD ns) x = lenH ns (parentD ns) (parentD ns x) + 1 := HT.out x hx
        clear HP
        go_wp2_with fail
        refine hP.mono ?_
        rintro e v1 ⟨rfl, hb⟩
        have HB1 := hid (hB.out.trans (hb.mono (HX0.out _ hB.out).1))
        clear hb hP q0 q1 q2 q3 q4
        obtain ⟨q0, q1, q2, q3, q4⟩ := boxesFV HB1.out
        have hst : parentD ns x = 0 → R = 0 := fun h0 => by rw [← hxR]; exact TourD.up_stop (by show (x == root || parentD ns x == 0) = true; rw [beq_iff_eq.2 h0, Bool.or_true])
        have hgo : parentD ns x ≠ 0 → (x == (tourD ns root sh rules rev).root || (tourD ns root sh rules rev).up x == 0) = false := fun h0 => by show (x == root || parentD ns x == 0) = false; rw [beq_eq_false_iff_ne.2 er, beq_eq_false_iff_ne.2 h0]; rfl
        by_cases h0 : parentD ns x = 0
        · have hR0 := hst h0
          subst hR0
          have hl0 : lenH ns (parentD ns) 0 < lenH ns (parentD ns) x := by rw [h0] at hlen; omega
          rw [h0]
          clear HV HO HT HRR hst hgo h0 er hxR hlen
          go_wp2
          go_roundw
          case rel => exact ⟨0, rfl, .inl ⟨rfl, by first | exact trivial | rfl⟩, HB1⟩
          case measure => exact hl0
        · have hp : thereB ns.length (parentD ns x) = true := (HO.out.hangs.up_or hx).resolve_left h0
          have n0 : (parentD ns x != 0) = true := by rw [bne, beq_eq_false_iff_ne.2 h0]; rfl
          have hV := HV.out (parentD ns x) v1 hp (HX0.out _ HB1.out).2
          have hl0 : lenH ns (parentD ns) (parentD ns x) < lenH ns (parentD ns) x := by omega
          have hhit : verdictOf ns sh rules (parentD ns x) = 1 → parentD ns x = R := fun hv => by
            rw [← hxR]
            exact (TourD.up_hit (hgo h0) (by show (verdictOf ns sh rules (parentD ns x) == 1) = true; rw [hv]; rfl)).symm
          have hnext : verdictOf ns sh rules (parentD ns x) ≠ 1 → (tourD ns root sh rules rev).upD (parentD ns x) = R := fun hv => by
            rw [← hxR]
            exact (TourD.up_go HO.out hx (hgo h0) (by show (verdictOf ns sh rules (parentD ns x) == 1) = false; exact beq_eq_false_iff_ne.2 hv)).symm
          clear HV HO HT HRR hst hgo h0 er hxR hlen
          generalize parentD ns x = P at *
          go_wp2_with fail
          refine hV.mono ?_
          rintro e v2 ⟨rfl, hb⟩
          have HB2 := hid (HB1.out.trans (hb.mono (HX0.out _ HB1.out).1))
          clear hb hV q0 q1 q2 q3 q4
          by_cases hv : verdictOf ns sh rules P = 1
          · have hPR := hhit hv
            subst hPR
            rw [hv]
            clear hhit hnext hv
            go_wp2
            go_ret
            exact ⟨rfl, (HX0.out _ HB2.out).2⟩
          · have Hn := hid (hnext hv)
            have e1' : ((verdictOf ns sh rules P : Int) == 1) = false := (beq_cast _ 1).trans (beq_eq_false_iff_ne.2 hv)
            clear hhit hnext hv
            go_wp2
            go_roundw
            case rel => exact ⟨P, rfl, .inr ⟨hp, Hn.out⟩, HB2⟩
            case measure => exact hl0
end Go.Proofs.YteflknfejjdkfabGreat

namespace Go.Proofs.YteflknfejjdkfabGreat
open Go.RowKit Go.Lib

/-- Behind the boxes of a forest and of a walker. -/
def AtF (w : World) (f r c s l : Value) (V : World) : Prop := Below (w.heap.size + 2) ((w.alloc (.cells #[f] 24)).alloc (.cells #[r, c, s, l] 30)) V
section
variable {w V V' : World} {f r c s l : Value}
theorem AtF.cells (h : AtF w f r c s l V) : V.cell? ⟨w.heap.size, 0, none⟩ = some f ∧ V.cell? ⟨w.heap.size + 1, 0, none⟩ = some r ∧ V.cell? ⟨w.heap.size + 1, 1, none⟩ = some c ∧ V.cell? ⟨w.heap.size + 1, 2, none⟩ = some s ∧ V.cell? ⟨w.heap.size + 1, 3, none⟩ = some l := boxesFV h
theorem AtF.size (h : AtF w f r c s l V) : w.heap.size + 2 ≤ V.heap.size := by
  have := Below.size h
  simp only [World.size_alloc] at this
  exact this
theorem AtF.below (h : AtF w f r c s l V) : Below w.heap.size w V := (below_twoV w _ _).trans (Below.mono h (by omega))
theorem AtF.step (h : AtF w f r c s l V) (hb : Below V.heap.size V V') : AtF w f r c s l V' := Below.trans h (hb.mono h.size)
theorem AtF.first (w : World) (f r c s l : Value) : AtF w f r c s l ((w.alloc (.cells #[f] 24)).alloc (.cells #[r, c, s, l] 30)) := Below.refl _ _
end
theorem kidsD_few {ns : List NodeD} (h : RightF ns) (x : Int) : (kidsD ns x).length ≤ 4096 := by
  by_cases ht : thereB ns.length x = true
  · obtain ⟨i, hi, rfl⟩ := there_idx ht
    unfold kidsD
    rw [nodeOf_at ns i hi]
    exact h.kids_len i hi
  · unfold kidsD nodeOf
    rw [if_neg ht]
    exact Nat.zero_le _
/-- The calls that the ways make. -/
structure Ref13 (w : World) (b off cap : Nat) (ns : List NodeD) (root cur : Int) (sh : Nat) (ro : Option Addr) (rc : Nat) (rules : List RuleD) : Prop where
  par : ∀ (x : Int) (V : World), AtF w (.slice (some ⟨b, off, none⟩) ns.length cap) (.int .i64 root) (.int .i64 cur) (.int .u32 (sh : Int)) (.slice ro rules.length rc) V → Calls Tryz.prog 32 #[.agg #[.slice (some ⟨b, off, none⟩) ns.length cap], .int .i64 x] V fun e v => e = .returned (.int .i64 (parentD ns x)) ∧ AtF w (.slice (some ⟨b, off, none⟩) ns.length cap) (.int .i64 root) (.int .i64 cur) (.int .u32 (sh : Int)) (.slice ro rules.length rc) v
  ver : ∀ (x : Int) (V : World), thereB ns.length x = true → AtF w (.slice (some ⟨b, off, none⟩) ns.length cap) (.int .i64 root) (.int .i64 cur) (.int .u32 (sh : Int)) (.slice ro rules.length rc) V → Calls Tryz.prog 33 #[.agg #[.slice (some ⟨b, off, none⟩) ns.length cap], .agg #[.int .u32 (sh : Int), .slice ro rules.length rc], .int .i64 x] V fun e v => e = .returned (.int .u8 (verdictOf ns sh rules x : Int)) ∧ AtF w (.slice (some ⟨b, off, none⟩) ns.length cap) (.int .i64 root) (.int .i64 cur) (.int .u32 (sh : Int)) (.slice ro rules.length rc) v
  kid : ∀ (rev : Bool) (x : Int) (V : World), AtF w (.slice (some ⟨b, off, none⟩) ns.length cap) (.int .i64 root) (.int .i64 cur) (.int .u32 (sh : Int)) (.slice ro rules.length rc) V → Calls Tryz.prog 34 #[.agg #[.slice (some ⟨b, off, none⟩) ns.length cap], .int .i64 x, .bool rev] V fun e v => e = .returned (.int .i64 (kidH (hangD ns rev) x)) ∧ AtF w (.slice (some ⟨b, off, none⟩) ns.length cap) (.int .i64 root) (.int .i64 cur) (.int .u32 (sh : Int)) (.slice ro rules.length rc) v
  bes : ∀ (rev : Bool) (x : Int) (V : World), thereB ns.length x = true → AtF w (.slice (some ⟨b, off, none⟩) ns.length cap) (.int .i64 root) (.int .i64 cur) (.int .u32 (sh : Int)) (.slice ro rules.length rc) V → Calls Tryz.prog 35 #[.agg #[.slice (some ⟨b, off, none⟩) ns.length cap], .int .i64 x, .bool rev] V fun e v => e = .returned (.int .i64 (nextH (parentD ns) (hangD ns rev) x)) ∧ AtF w (.slice (some ⟨b, off, none⟩) ns.length cap) (.int .i64 root) (.int .i64 cur) (.int .u32 (sh : Int)) (.slice ro rules.length rc) v
theorem ref13 (b off cap : Nat) (ns : List NodeD) (root cur : Int) (sh : Nat) (ro : Option Addr) (rc : Nat) (rules : List RuleD) (w : World) (hR : RightF ns) (hF : FAt w b off cap ns) (hs : sh < 4294967296) (hru : RdR w (.slice ro rules.length rc) rules) (hf : rules.length ≤ 64) : Ref13 w b off cap ns root cur sh ro rc rules := by
  have hFR : FRd w (some ⟨b, off, none⟩) cap ns := ⟨hF.len, fun _ => ⟨b, off, rfl, hF⟩⟩
  exact ⟨fun x V hV => (refParent13_any _ cap x ns V (hFR.later hV.below)).mono fun e v h => ⟨h.1, hV.step h.2⟩,
    fun x V hx hV => (refVerdict_any b off cap x sh ro rc rules ns V hR (hF.later hV.below) hx hs (hru.later hV.below) hf).mono fun e v h => ⟨h.1, hV.step h.2⟩,
    fun rev x V hV => (refKid13_any _ cap x rev ns V (hFR.later hV.below) (kidsD_few hR x)).mono fun e v h => ⟨h.1, hV.step h.2⟩,
    fun rev x V hx hV => (refbeside_any _ cap x rev ns V (hFR.later hV.below) hR hx (kidsD_few hR _)).mono fun e v h => ⟨h.1, hV.step h.2⟩⟩
theorem bne_t {x y : Int} (h : x ≠ y) : (x != y) = true := by rw [bne, beq_eq_false_iff_ne.2 h]; rfl
theorem bne_f {x y : Int} (h : x = y) : (x != y) = false := by rw [bne, beq_iff_eq.2 h]; rfl
theorem ver_eq {k m : Nat} (h : k = m) : ((k : Int) == (m : Int)) = true := by rw [h]; exact beq_iff_eq.2 rfl
theorem ver_ne {k m : Nat} (h : k ≠ m) : ((k : Int) == (m : Int)) = false := beq_eq_false_iff_ne.2 (by omega)
theorem ver_bne_t {k m : Nat} (h : k ≠ m) : ((k : Int) != (m : Int)) = true := bne_t (by omega)
theorem ver_bne_f {k m : Nat} (h : k = m) : ((k : Int) != (m : Int)) = false := bne_f (by omega)
section
variable {t : TourD}
theorem TourD.side_go (h : t.OK) {y s : Int} (hy : thereB t.ns.length y = true) (hs : thereB t.ns.length s = true) (ha : t.acc s = false) : t.alongI (s, t.aside s) ∧ t.alongR y s = t.alongR s (t.aside s) ∧ t.alongM (s, t.aside s) < t.alongM (y, s) := by
  have hst : t.alongS (y, s) = .inl (s, t.aside s) := by unfold TourD.alongS; simp only [bfalse (there_ne hs), Bool.false_eq_true, if_false, ha]
  obtain ⟨a, b⟩ := TourD.along_dec h (y, s) _ ⟨hy, .inr hs, fun e => absurd e (there_ne hs)⟩ hst
  exact ⟨a, TourD.along_go h hy hs ha, b⟩
theorem TourD.side_up (h : t.OK) {y : Int} (hy : thereB t.ns.length y = true) (hn : t.next y = 0) (hc : (t.up y == 0 || t.up y == t.root || t.acc (t.up y)) = false) : t.alongR y 0 = t.alongR (t.up y) (t.next (t.up y)) ∧ t.alongM (t.up y, t.next (t.up y)) < t.alongM (y, 0) := by
  have hst : t.alongS (y, 0) = .inl (t.up y, t.next (t.up y)) := by
    unfold TourD.alongS
    simp only [beq_self_eq_true, if_true]
    rw [hc, if_neg Bool.false_ne_true]
  exact ⟨TourD.along_up h hy hn hc, (TourD.along_dec h (y, 0) _ ⟨hy, .inl rfl, fun _ => hn⟩ hst).2⟩
theorem TourD.past_none (h : t.OK) (e : Int) {y : Int} (hy : thereB t.ns.length y = true) (hn : t.next y = 0) (hc : t.up y = 0 ∨ t.up y = t.root ∨ t.up y = e) : t.past y e = 0 := by
  cases hb : (t.up y == t.root || t.up y == e) with
  | true => exact TourD.past_stop e hy hn hb
  | false =>
    rcases hc with h0 | h1 | h2
    · rw [TourD.past_up h e hy hn hb, h0]
      exact TourD.past_zero e
    · rw [btrue h1] at hb
      cases hb
    · rw [btrue h2, Bool.or_true] at hb
      cases hb
/-- Where a walk on goes on from a node of which a filter has said this. -/
def TourD.gon (t : TourD) (x v : Int) : Int := if v == 2 || t.kid x == 0 then t.over x else t.kid x
theorem TourD.gon_first (cur : Int) : t.onD cur = t.onR (t.gon cur 1) := rfl
theorem TourD.gon_on (h : t.OK) {x : Int} (hx : thereB t.ns.length x = true) (ha : t.acc x = false) (v : Int) (hv : (v == 2) = t.rej x) : t.onR x = t.onR (t.gon x v) ∧ t.rank (t.gon x v) < t.rank x := by
  unfold TourD.gon
  rw [hv]
  cases hr : t.rej x with
  | true =>
    have hi : t.into x = 0 := by unfold TourD.into; rw [hr, if_pos rfl]
    rw [Bool.true_or, if_pos rfl]
    exact ⟨TourD.on_over h hx ha hi, (TourD.over_lt h hx).2⟩
  | false =>
    have hi : t.into x = t.kid x := by unfold TourD.into; rw [hr, if_neg Bool.false_ne_true]
    rw [Bool.false_or]
    by_cases hk : t.kid x = 0
    · rw [btrue hk, if_pos rfl]
      exact ⟨TourD.on_over h hx ha (hi.trans hk), (TourD.over_lt h hx).2⟩
    · rw [bfalse hk, if_neg Bool.false_ne_true]
      have h1 := TourD.on_into h hx ha (by rw [hi]; exact hk)
      rw [hi] at h1
      obtain ⟨_, _, h2⟩ := (TourD.kid_ok h hx).resolve_left hk
      exact ⟨h1, by omega⟩
theorem TourD.gon_over {x v : Int} (hc : v = 2 ∨ t.kid x = 0) : t.gon x v = t.over x := by
  unfold TourD.gon
  rcases hc with h | h
  · rw [btrue h, Bool.true_or, if_pos rfl]
  · rw [btrue h, Bool.or_true, if_pos rfl]
theorem TourD.gon_kid {x v : Int} (h1 : v ≠ 2) (h2 : t.kid x ≠ 0) : t.gon x v = t.kid x := by
  unfold TourD.gon
  rw [bfalse h1, bfalse h2, Bool.false_or, if_neg Bool.false_ne_true]
theorem TourD.over_root : t.over t.root = 0 := by
  unfold TourD.over
  rw [beq_self_eq_true, if_pos rfl]
theorem TourD.over_next {z : Int} (hz : thereB t.ns.length z = true) (hr : z ≠ t.root) (hn : t.next z ≠ 0) : t.over z = t.next z := by
  unfold TourD.over
  rw [bfalse hr, if_neg Bool.false_ne_true]
  exact TourD.past_next 0 hz hn
theorem TourD.over_up (h : t.OK) {z : Int} (hz : thereB t.ns.length z = true) (hr : z ≠ t.root) (hn : t.next z = 0) : (t.up z = 0 → t.over z = 0) ∧ (t.up z ≠ 0 → t.over z = t.over (t.up z)) := by
  have ho : t.over z = t.past z 0 := by unfold TourD.over; rw [bfalse hr, if_neg Bool.false_ne_true]
  rw [ho]
  refine ⟨fun h0 => TourD.past_none h 0 hz hn (.inl h0), fun h0 => ?_⟩
  by_cases hu : t.up z = t.root
  · rw [hu, TourD.over_root]
    exact TourD.past_none h 0 hz hn (.inr (.inl hu))
  · unfold TourD.over
    rw [bfalse hu, if_neg Bool.false_ne_true]
    exact TourD.past_up h 0 hz hn (by rw [bfalse hu, bfalse h0]; rfl)
theorem TourD.back_goM (h : t.OK) {y : Int} (hy : thereB t.ns.length y = true) (hn : t.next y ≠ 0) (ha : t.acc (t.bottom (t.next y)) = false) : thereB t.ns.length (t.bottom (t.next y)) = true ∧ t.post (t.bottom (t.next y)) < t.post y := by
  have hst : t.backS y = .inl (t.bottom (t.next y)) := by
    unfold TourD.backS
    rw [bfalse hn, if_neg Bool.false_ne_true, ha, if_neg Bool.false_ne_true]
  exact TourD.back_dec h y _ hy hst
end
end Go.Proofs.YteflknfejjdkfabGreat
