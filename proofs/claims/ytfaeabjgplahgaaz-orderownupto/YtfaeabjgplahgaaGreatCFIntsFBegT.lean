/- Whether two lists of numbers are one (canopyref04.Ints). -/
/- The small forest of the statements of order. -/
/- The opening test of the statements of order (begins), the reference's word on the small forest a premise. -/
/- The opening test of the statements of order answers true. -/
import Derived.Test.YtfaeabjgplahgaaGreatCFUpFFork
import Derived.Test.YtfaeabjgplahgaaGreatFRefK
import Derived.Test.YtfaeabjgplahgaaGreatCFStandFCmp
import Derived.Test.YtfaeabjgplahgaaGreatCFRangeFAllC
import Derived.Test.YtfaeabjgplahgaaGreatCFRMade
namespace Go.Proofs.YtfaeabjgplahgaaGreat
open Go.RowKit Go.Lib Go.Shelf

theorem beq_drop (p q : List Int) (k : Nat) (h1 : k < p.length) (h2 : k < q.length) : (p.drop k == q.drop k) = (p[k] == q[k] && (p.drop (k + 1) == q.drop (k + 1))) := by
  rw [List.drop_eq_getElem_cons h1, List.drop_eq_getElem_cons h2]
  rfl
theorem beq_len {p q : List Int} (h : p.length ≠ q.length) : (p == q) = false := beq_eq_false_iff_ne.2 (fun e => h (congrArg List.length e))

set_option maxRecDepth 100000 in
set_option maxHeartbeats 4000000 in
theorem ints_any (v1 v2 : Value) (p q : List Int) (w : World) (hp : RdI w v1 p) (hq : RdI w v2 q) (lp : p.length ≤ 1099511627776) :
    Calls Tryz.prog 24 #[v1, v2] w fun e w' => e = .returned (.bool (p == q)) ∧ Below w.heap.size w w' := by
  obtain ⟨o1, c1, rfl, hc1, g1⟩ := hp
  obtain ⟨o2, c2, rfl, hc2, g2⟩ := hq
  by_cases hl : p.length = q.length
  · obtain ⟨R, hR⟩ : ∃ R, (p == q) = R := ⟨_, rfl⟩
    rw [hR]
    have HR : Hid ((p.drop 0 == q.drop 0) = R) := hR
    have e1 : ((p.length : Int) != (q.length : Int)) = false := by rw [hl]; simp
    clear hR
    go_enter Tryz.func24, Tryz.ntmps24
    go_wp2
    go_loopw [5] (fun t wr => ∃ k m : Nat, k ≤ p.length ∧ t = .int .i64 k ∧ wr = w.drewN m ∧ Hid ((p.drop k == q.drop k) = R)) (fun t _ => p.length - (RowKit.intOf t).toNat)
    case atStart => exact ⟨0, 0, Nat.zero_le _, rfl, rfl, HR⟩
    case round =>
      obtain ⟨k, m, k1, rfl, rfl, hK⟩ := hrel
      clear HR
      by_cases l1 : k < p.length
      · have l2 : k < q.length := by omega
        obtain ⟨b1, off1, rfl, hlt1, ha1⟩ := g1 (by omega)
        obtain ⟨b2, off2, rfl, hlt2, ha2⟩ := g2 (by omega)
        have x1 := ha1 k l1
        have x2 := ha2 k l2
        have Hf := hid (beq_drop p q k l1 l2)
        have q1 : (0 : Int) ≤ (k : Int) := by omega
        have q2 : (k : Int) < (p.length : Int) := by omega
        have q3 : (k : Int) < (q.length : Int) := by omega
        clear ha1 ha2 g1 g2
        generalize p[k] = a at *
        generalize q[k] = a2 at *
        cases he : (a == a2) with
        | true =>
          have Hn : Hid ((p.drop (k + 1) == q.drop (k + 1)) = R) := by
            show _ = _
            rw [← hK.out, Hf.out, he, Bool.true_and]
          have hne : (a != a2) = false := by rw [bne, he]; rfl
          clear Hf hK e1 hl
          go_upto_region 6 with fail
          go_quiet (fail)
          go_wp2
          go_roundw
          case rel => exact ⟨k + 1, m + nq, by omega, by go_num, by simp, Hn⟩
          case measure => simp [RowKit.intOf]; omega
        | false =>
          have hRf : R = false := by rw [← hK.out, Hf.out, he, Bool.false_and]
          have hne : (a != a2) = true := by rw [bne, he]; rfl
          subst hRf
          clear Hf hK e1 hl
          go_upto_region 6 with fail
          go_quiet (fail)
          go_wp2
          go_ret
          exact ⟨rfl, (drewN_below _ _ _).trans (drewN_below _ _ _)⟩
      · have hRt : R = true := by
          rw [← hK.out, List.drop_eq_nil_of_le (by omega), List.drop_eq_nil_of_le (by omega)]
          rfl
        subst hRt
        clear hK g1 g2 e1 hl
        go_wp2
        go_ret
        exact ⟨rfl, drewN_below _ _ _⟩
  · rw [beq_len hl]
    have e1 : ((p.length : Int) != (q.length : Int)) = true := by rw [bne, beq_eq_false_iff_ne.2 (by omega)]; rfl
    clear g1 g2
    go_enter Tryz.func24, Tryz.ntmps24
    go_wp2
    go_ret
    exact ⟨rfl, Below.refl _ _⟩
end Go.Proofs.YtfaeabjgplahgaaGreat

namespace Go.Proofs.YtfaeabjgplahgaaGreat
open Go.RowKit Go.Lib

def blankNode : NodeD := ⟨0, noBytesF, noBytesF, noBytesF, noBytesF, noBytesF, [], [], 0, [], 0, 0, 0, 0, false, false⟩
/-- A document, an element in it, a text in that. -/
def smallNs : List NodeD := [{ blankNode with kind := 9, kids := [2], doc := 1 }, { blankNode with kind := 1, loc := ⟨#[97]⟩, parent := 1, kids := [3], doc := 1 }, { blankNode with kind := 3, data := [65], parent := 2, doc := 1 }]

theorem five_1 (w : World) (a b c d e : Obj) : (((((w.alloc a).alloc b).alloc c).alloc d).alloc e).heap[w.heap.size + 1]? = some b := by
  have h := heap_new (w.alloc a) b
  simp only [World.size_alloc] at h
  rw [Below.heap_alloc _ _ _ (by simp only [World.size_alloc]; omega), Below.heap_alloc _ _ _ (by simp only [World.size_alloc]; omega), Below.heap_alloc _ _ _ (by simp only [World.size_alloc]; omega)]
  exact h
theorem five_2 (w : World) (a b c d e : Obj) : (((((w.alloc a).alloc b).alloc c).alloc d).alloc e).heap[w.heap.size + 1 + 1]? = some c := by
  have h := heap_new ((w.alloc a).alloc b) c
  simp only [World.size_alloc] at h
  rw [Below.heap_alloc _ _ _ (by simp only [World.size_alloc]; omega), Below.heap_alloc _ _ _ (by simp only [World.size_alloc]; omega)]
  exact h
theorem five_3 (w : World) (a b c d e : Obj) : (((((w.alloc a).alloc b).alloc c).alloc d).alloc e).heap[w.heap.size + 1 + 1 + 1]? = some d := by
  have h := heap_new (((w.alloc a).alloc b).alloc c) d
  simp only [World.size_alloc] at h
  rw [Below.heap_alloc _ _ _ (by simp only [World.size_alloc]; omega)]
  exact h
theorem five_4 (w : World) (a b c d e : Obj) : (((((w.alloc a).alloc b).alloc c).alloc d).alloc e).heap[w.heap.size + 1 + 1 + 1 + 1]? = some e := by
  have h := heap_new ((((w.alloc a).alloc b).alloc c).alloc d) e
  simp only [World.size_alloc] at h
  exact h
theorem five_below (w : World) (a b c d e : Obj) : Below w.heap.size w (((((w.alloc a).alloc b).alloc c).alloc d).alloc e) :=
  (((((Below.refl _ w).alloc (Nat.le_refl _) a).alloc (by simp) b).alloc (by simp; omega) c).alloc (by simp; omega) d).alloc (by simp; omega) e
theorem one_rdI' {W : World} {g : Nat} {x : Int} {t : TypeId} (h : W.heap[g]? = some (.cells #[.int .i64 x] t (0, 0))) : RdI W (.slice (some ⟨g, 0, none⟩) 1 1) [x] :=
  ⟨_, 1, rfl, Nat.le_refl _, fun _ => ⟨g, 0, rfl, (Array.getElem?_eq_some_iff.1 h).1, fun j hj => by
    match j, hj with
    | 0, _ => rw [cell_of_heap h]; rfl⟩⟩
theorem one_rdN' {W : World} {g x : Nat} {t : TypeId} (h : W.heap[g]? = some (.cells #[.int .u16 (x : Int)] t (0, 0))) : RdN W (.slice (some ⟨g, 0, none⟩) 1 1) [x] :=
  ⟨_, 1, rfl, Nat.le_refl _, fun _ => ⟨g, 0, rfl, (Array.getElem?_eq_some_iff.1 h).1, fun j hj => by
    match j, hj with
    | 0, _ => rw [cell_of_heap h]; rfl⟩⟩
theorem small_at {W : World} {b g1 g2 g3 : Nat} {t1 t2 t3 t : TypeId} (h1 : W.heap[g1]? = some (.cells #[.int .i64 2] t1 (0, 0))) (h2 : W.heap[g2]? = some (.cells #[.int .i64 3] t2 (0, 0))) (h3 : W.heap[g3]? = some (.cells #[.int .u16 65] t3 (0, 0)))
    (h : W.heap[b]? = some (.cells #[.int .u8 9, .string ⟨#[]⟩, .string ⟨#[]⟩, .string ⟨#[]⟩, .string ⟨#[]⟩, .string ⟨#[]⟩, .slice none 0 0, .slice none 0 0, .int .i64 0, .slice (some ⟨g1, 0, none⟩) 1 1, .int .i64 1, .int .i64 0, .int .i64 0, .int .u8 0, .bool false, .bool false, .int .u8 1, .string ⟨#[]⟩, .string ⟨#[]⟩, .string ⟨#[97]⟩, .string ⟨#[]⟩, .string ⟨#[]⟩, .slice none 0 0, .slice none 0 0, .int .i64 1, .slice (some ⟨g2, 0, none⟩) 1 1, .int .i64 1, .int .i64 0, .int .i64 0, .int .u8 0, .bool false, .bool false, .int .u8 3, .string ⟨#[]⟩, .string ⟨#[]⟩, .string ⟨#[]⟩, .string ⟨#[]⟩, .string ⟨#[]⟩, .slice (some ⟨g3, 0, none⟩) 1 1, .slice none 0 0, .int .i64 2, .slice none 0 0, .int .i64 1, .int .i64 0, .int .i64 0, .int .u8 0, .bool false, .bool false] t (0, 0))) : FAt W b 0 3 smallNs := by
  refine ⟨(Array.getElem?_eq_some_iff.1 h).1, by decide, by decide, fun i hi => ?_⟩
  match i, hi with
  | 0, _ => exact ⟨⟨.slice none 0 0, .slice none 0 0, .slice (some ⟨g1, 0, none⟩) 1 1⟩, by constructor <;> (rw [cell_of_heap h]; rfl), nil_rdN W, nil_rdA W, one_rdI' h1⟩
  | 1, _ => exact ⟨⟨.slice none 0 0, .slice none 0 0, .slice (some ⟨g2, 0, none⟩) 1 1⟩, by constructor <;> (rw [cell_of_heap h]; rfl), nil_rdN W, nil_rdA W, one_rdI' h2⟩
  | 2, _ => exact ⟨⟨.slice (some ⟨g3, 0, none⟩) 1 1, .slice none 0 0, .slice none 0 0⟩, by constructor <;> (rw [cell_of_heap h]; rfl), one_rdN' h3, nil_rdA W, nil_rdI W⟩

set_option maxRecDepth 100000 in
set_option maxHeartbeats 4000000 in
theorem small_any (w : World) :
    Calls Tryz.prog 19 #[] w fun e w' => ∃ b : Nat, e = .returned (.agg #[.slice (some ⟨b, 0, none⟩) 3 3]) ∧ FAt w' b 0 3 smallNs ∧ Below w.heap.size w w' := by
  go_enter Tryz.func19, Tryz.ntmps19
  go_wp2
  exact bodyPost_ret (v := .agg #[.slice (some ⟨w.heap.size + 1 + 1 + 1 + 1, 0, none⟩) 3 3]) (by simp [results, Tryz.results19, go_sem]) rfl ⟨_, rfl, small_at (five_1 _ _ _ _ _ _) (five_2 _ _ _ _ _ _) (five_3 _ _ _ _ _ _) (five_4 _ _ _ _ _ _), five_below _ _ _ _ _ _⟩
theorem small_right : rightD smallNs = true := by decide +kernel
theorem small_answers : positionD smallNs 3 2 = 10 ∧ toldE smallNs [3, 2] = 0 ∧ toldE smallNs [4] = 2 ∧ toldE [{ blankNode with kind := 99 }] [1] = 5 := by decide +kernel
end Go.Proofs.YtfaeabjgplahgaaGreat

namespace Go.Proofs.YtfaeabjgplahgaaGreat
open Go.RowKit Go.Lib Go.Shelf

def badNs : List NodeD := [{ blankNode with kind := 99 }]
theorem bad_at {W : World} {b : Nat} {t : TypeId} (h : W.heap[b]? = some (.cells #[.int .u8 99, .string ⟨#[]⟩, .string ⟨#[]⟩, .string ⟨#[]⟩, .string ⟨#[]⟩, .string ⟨#[]⟩, .slice none 0 0, .slice none 0 0, .int .i64 0, .slice none 0 0, .int .i64 0, .int .i64 0, .int .i64 0, .int .u8 0, .bool false, .bool false] t (0, 0))) : FAt W b 0 1 badNs := by
  refine ⟨(Array.getElem?_eq_some_iff.1 h).1, by decide, by decide, fun i hi => ?_⟩
  match i, hi with
  | 0, _ => exact ⟨⟨.slice none 0 0, .slice none 0 0, .slice none 0 0⟩, by constructor <;> (rw [cell_of_heap h]; rfl), nil_rdN W, nil_rdA W, nil_rdI W⟩
theorem FAt.rd {w : World} {b off cap : Nat} {ns : List NodeD} (h : FAt w b off cap ns) : FRd w (some ⟨b, off, none⟩) cap ns := ⟨h.len, fun _ => ⟨b, off, rfl, h⟩⟩
theorem all_kids {ns : List NodeD} (h : ns.all (fun n => decide (n.kids.length ≤ 1099511627776)) = true) : ∀ (i : Nat) (hi : i < ns.length), ns[i].kids.length ≤ 1099511627776 := fun i hi => of_decide_eq_true (List.all_eq_true.1 h ns[i] (List.getElem_mem hi))
theorem all_attrs {ns : List NodeD} (h : ns.all (fun n => decide (n.attrs.length ≤ 1099511627776)) = true) : ∀ (i : Nat) (hi : i < ns.length), ns[i].attrs.length ≤ 1099511627776 := fun i hi => of_decide_eq_true (List.all_eq_true.1 h ns[i] (List.getElem_mem hi))
theorem small_more : allD smallNs 1 = [1, 2, 3] ∧ toldE smallNs [1] = 0 ∧ toldE smallNs [3] = 0 ∧ lastI (pathUp smallNs (overD smallNs) 3) = 1 ∧ toldE badNs [1] = 5 := by decide +kernel
theorem three_rdI (W : World) (x y z : Int) (t : TypeId) : RdI (W.alloc (.cells #[.int .i64 x, .int .i64 y, .int .i64 z] t)) (.slice (some ⟨W.heap.size, 0, none⟩) 3 3) [x, y, z] :=
  ⟨_, 3, rfl, Nat.le_refl _, fun _ => ⟨_, _, rfl, by simp, fun j hj => by
    match j, hj with
    | 0, _ => simp
    | 1, _ => simp
    | 2, _ => simp⟩⟩
/-- What the calls answer of the small forest. -/
theorem small_All (b : Nat) (W : World) (h : FAt W b 0 3 smallNs) : Calls Tryz.prog 7 #[.agg #[.slice (some ⟨b, 0, none⟩) 3 3], .int .i64 1] W fun e w' => ∃ v, e = .returned (.tuple #[v, .int .i64 0]) ∧ w'.ownsRow W.heap.size 3 1 v 3 [.int .i64 1, .int .i64 2, .int .i64 3] ∧ Below W.heap.size W w' := by
  have := All_any (some ⟨b, 0, none⟩) 3 1 smallNs W h.rd (all_kids (by decide +kernel)) (all_attrs (by decide +kernel)) (fun _ => by rw [small_more.1]; decide)
  rw [small_more.2.1, small_more.1] at this
  exact this
theorem small_Compare (b : Nat) (W : World) (h : FAt W b 0 3 smallNs) : Calls Tryz.prog 21 #[.agg #[.slice (some ⟨b, 0, none⟩) 3 3], .int .i64 3, .int .i64 2] W fun e w' => e = .returned (.tuple #[.int .i64 10, .int .i64 0]) ∧ Below W.heap.size W w' := by
  have := Compare_any (some ⟨b, 0, none⟩) 3 3 2 smallNs W h.rd (all_kids (by decide +kernel)) (all_attrs (by decide +kernel))
  rw [small_answers.2.1, small_answers.1] at this
  exact this
theorem small_Top (b : Nat) (W : World) (h : FAt W b 0 3 smallNs) : Calls Tryz.prog 22 #[.agg #[.slice (some ⟨b, 0, none⟩) 3 3], .int .i64 3] W fun e w' => e = .returned (.tuple #[.int .i64 1, .int .i64 0]) ∧ Below W.heap.size W w' := by
  have := Top_any (some ⟨b, 0, none⟩) 3 3 smallNs W h.rd (all_kids (by decide +kernel)) (all_attrs (by decide +kernel))
  rw [small_more.2.2.1, small_more.2.2.2.1] at this
  exact this
theorem small_Root (b : Nat) (W : World) (h : FAt W b 0 3 smallNs) : Calls Tryz.prog 23 #[.agg #[.slice (some ⟨b, 0, none⟩) 3 3], .int .i64 4] W fun e w' => e = .returned (.tuple #[.int .i64 0, .int .i64 2]) ∧ Below W.heap.size W w' := by
  have := Root_any (some ⟨b, 0, none⟩) 3 4 smallNs W h.rd (all_kids (by decide +kernel)) (all_attrs (by decide +kernel))
  rw [small_answers.2.2.1] at this
  exact this
theorem bad_Root (b : Nat) (W : World) (h : FAt W b 0 1 badNs) : Calls Tryz.prog 23 #[.agg #[.slice (some ⟨b, 0, none⟩) 1 1], .int .i64 1] W fun e w' => e = .returned (.tuple #[.int .i64 0, .int .i64 5]) ∧ Below W.heap.size W w' := by
  have := Root_any (some ⟨b, 0, none⟩) 1 1 badNs W h.rd (all_kids (by decide +kernel)) (all_attrs (by decide +kernel))
  rw [small_more.2.2.2.2] at this
  exact this

set_option maxRecDepth 100000 in
set_option maxHeartbeats 8000000 in
theorem begins_any (HRt : Hid (∀ (b : Nat) (W : World), FAt W b 0 3 smallNs → Calls Tryz.prog 20 #[.agg #[.slice (some ⟨b, 0, none⟩) 3 3]] W fun e w' => e = .returned (.bool true) ∧ Below W.heap.size W w')) (w : World) :
    Calls Tryz.prog 6 #[] w fun e w' => e = .returned (.bool true) ∧ Below w.heap.size w w' := by
  go_enter Tryz.func6, Tryz.ntmps6
  go_wp2_with fail
  refine (small_any _).mono ?_
  rintro e v0 ⟨b, rfl, hF0, hb0⟩
  have hB1 : Below w.heap.size w (v0.alloc (.cells #[.slice (some ⟨b, 0, none⟩) 3 3] 24)) := hb0.alloc hb0.size _
  have HF1 := hid (hF0.later ((Below.refl _ v0).alloc (Nat.le_refl _) (.cells #[.slice (some ⟨b, 0, none⟩) 3 3] 24)))
  have HB1 := hid hB1
  have hs1 : v0.heap.size < (v0.alloc (.cells #[.slice (some ⟨b, 0, none⟩) 3 3] 24)).heap.size := by simp
  have cb1 := (new_cell_l v0 (.slice (some ⟨b, 0, none⟩) 3 3) 24).1
  clear hF0 hb0 hB1
  go_wp2_with fail
  refine (HRt.out b _ HF1.out).mono ?_
  rintro e v1 ⟨rfl, hb1⟩
  have HF2 := hid (HF1.out.later hb1)
  have HB2 := hid (HB1.out.trans (hb1.mono HB1.out.size))
  have cb2 := (hb1.cell (p := ⟨v0.heap.size, 0, none⟩) hs1).trans cb1
  have hs2 := Nat.lt_of_lt_of_le hs1 hb1.size
  clear HF1 HB1 cb1 hs1 hb1 HRt
  generalize v0.heap.size = g at *
  go_wp2_with fail
  refine (small_All b _ HF2.out).mono ?_
  rintro e v2 ⟨vl, rfl, hrow, hb2⟩
  have HF3 := hid (HF2.out.later hb2)
  have HB3 := hid (HB2.out.trans (hb2.mono HB2.out.size))
  have cb3 := (hb2.cell (p := ⟨g, 0, none⟩) hs2).trans cb2
  have hs3 := Nat.lt_of_lt_of_le hs2 hb2.size
  have hl : RdI v2 vl [1, 2, 3] := ownsRow_rdI (l := [1, 2, 3]) hrow
  obtain ⟨ol, cl, rfl, hcl, gl⟩ := hl
  have HL3 : Hid (RdI v2 (.slice ol ([1, 2, 3] : List Int).length cl) [1, 2, 3]) := ⟨ol, cl, rfl, hcl, gl⟩
  clear HF2 HB2 cb2 hs2 hb2 hrow gl hcl
  go_wp2_with fail
  refine (small_Compare b _ HF3.out).mono ?_
  rintro e v3 ⟨rfl, hb3⟩
  have HF4 := hid (HF3.out.later hb3)
  have HB4 := hid (HB3.out.trans (hb3.mono HB3.out.size))
  have cb4 := (hb3.cell (p := ⟨g, 0, none⟩) hs3).trans cb3
  have hs4 := Nat.lt_of_lt_of_le hs3 hb3.size
  have HL4 := hid (HL3.out.later hb3)
  clear HF3 HB3 cb3 hs3 hb3 HL3
  go_wp2_with fail
  refine (small_Top b _ HF4.out).mono ?_
  rintro e v4 ⟨rfl, hb4⟩
  have HF5 := hid (HF4.out.later hb4)
  have HB5 := hid (HB4.out.trans (hb4.mono HB4.out.size))
  have cb5 := (hb4.cell (p := ⟨g, 0, none⟩) hs4).trans cb4
  have HL5 := hid (HL4.out.later hb4)
  clear HF4 HB4 cb4 hs4 hb4 HL4
  go_wp2_with fail
  refine (small_Root b _ HF5.out).mono ?_
  rintro e v5 ⟨rfl, hb5⟩
  have HB6 := hid (HB5.out.trans (hb5.mono HB5.out.size))
  have HL6 := hid (HL5.out.later hb5)
  clear HF5 HB5 cb5 hb5 HL5
  go_wp2_with fail
  refine (bad_Root _ _ (bad_at (heap_new _ _))).mono ?_
  rintro e v6 ⟨rfl, hb6⟩
  have hb6' := ((Below.refl _ v5).alloc (Nat.le_refl _) _).trans (hb6.mono (by simp))
  have HB7 := hid (HB6.out.trans (hb6'.mono HB6.out.size))
  have HL7 := hid (HL6.out.later hb6')
  have hb7 : Below v6.heap.size v6 (v6.alloc (.cells #[.int .i64 1, .int .i64 2, .int .i64 3] 3)) := (Below.refl _ v6).alloc (Nat.le_refl _) _
  have hI := ints_any _ _ [1, 2, 3] [1, 2, 3] (v6.alloc (.cells #[.int .i64 1, .int .i64 2, .int .i64 3] 3)) (HL7.out.later hb7) (three_rdI v6 1 2 3 3) (by decide)
  have HB8 := hid (HB7.out.trans (hb7.mono HB7.out.size))
  clear HB6 HL6 hb6 hb6' HB7 HL7 hb7
  go_wp2_with fail
  refine hI.mono ?_
  rintro e v7 ⟨rfl, hb8⟩
  have HB9 := hid (HB8.out.trans (hb8.mono HB8.out.size))
  clear hI hb8 HB8
  go_wp2
  go_ret
  exact ⟨rfl, HB9.out⟩
end Go.Proofs.YtfaeabjgplahgaaGreat

namespace Go.Proofs.YtfaeabjgplahgaaGreat
open Go.RowKit Go.Lib
theorem begins_true (W : World) : Calls Tryz.prog 6 #[] W fun e w' => e = .returned (.bool true) ∧ Below W.heap.size W w' :=
  begins_any (fun b V h => by
    have := refRight_any (some ⟨b, 0, none⟩) 3 smallNs V h.rd (all_kids (by decide +kernel)) (all_attrs (by decide +kernel))
    rw [small_right] at this
    exact this) W
end Go.Proofs.YtfaeabjgplahgaaGreat
