/- The law ListenAll: each listener of a type is due in just one of two goes, in the order in which they were added; behind a signal none of its listeners is there. -/
import Derived.Test.YtnlcojhmioamnaaLnP
import Derived.Test.YtnlcojhmioamnaaLnQ
import Derived.Test.YtnlcojhmioamnaaLnS
import Derived.Test.YtnlcojhmioamnaaLnN
namespace Go.Proofs.Ytnlcojhmioamnaa
open Go.RowKit Go.Lib Go.Shelf

theorem box_cells2 {w : World} {g : Nat} {a b : Value} {t : TypeId} (h : w.heap[g]? = some (.cells #[a, b] t)) : w.cell? ⟨g, 0, none⟩ = some a ∧ w.cell? ⟨g, 1, none⟩ = some b ∧ w.frozen? ⟨g, 0, none⟩ = false ∧ w.frozen? ⟨g, 1, none⟩ = false := box_cells h
theorem filter_at (Q : LstD → Bool) (ls : List LstD) (j : Nat) (hj : j < ls.length) (a : Nat) (ha : a = ((ls.take j).filter Q).length) (hq : Q ls[j] = true) : ∃ h : a < (ls.filter Q).length, (ls.filter Q)[a] = ls[j] := by
  have e : ls.filter Q = (ls.take j).filter Q ++ ls[j] :: (ls.drop (j + 1)).filter Q := by
    conv => lhs; rw [← List.take_append_drop j ls]
    rw [List.filter_append, List.drop_eq_getElem_cons hj, List.filter_cons_of_pos hq]
  subst ha
  refine ⟨by rw [e]; simp, ?_⟩
  simp only [e]
  simp
theorem good_rise (next : Int) : ∀ (l : List LstD) (last : Int) (seen : List LstD), goodD next last seen l = true → l.Pairwise (fun a b => a.id < b.id)
  | [], _, _, _ => List.Pairwise.nil
  | x :: r, last, seen, h => by
    simp only [goodD, Bool.and_eq_true, decide_eq_true_eq] at h
    exact List.Pairwise.cons (fun y hy => (good_ids next r x.id (seen ++ [x]) h.2.2.2.2 y hy).1) (good_rise next r x.id (seen ++ [x]) h.2.2.2.2)
theorem check_rise {ls : List LstD} {next : Int} (h : checkD ls next = true) : ls.Pairwise (fun a b => a.id < b.id) := by
  rcases check_parts h with ⟨rfl, _⟩ | ⟨_, _, _, h4⟩
  · exact List.Pairwise.nil
  · exact good_rise next ls 0 [] h4
theorem due_rise {ls : List LstD} (h : ls.Pairwise (fun a b => a.id < b.id)) (n : Int) (k : ByteArray) (c : Bool) : (dueL ls n k c).Pairwise (· < ·) := by
  unfold dueL
  rw [List.pairwise_map]
  exact h.filter _
theorem due_at {ls : List LstD} (h : ls.Pairwise (fun a b => a.id < b.id)) (n : Int) (k : ByteArray) (c : Bool) (i : Nat) (hi : i < (dueL ls n k c).length) :
    ∃ (j : Nat) (hj : j < ls.length), firstL (fun z => z.id == (dueL ls n k c)[i]) ls 0 = (j : Int) ∧ (ls[j].kind.toList == k.toList) = true ∧ (ls[j].node == n) = true := by
  have hm : (dueL ls n k c)[i] ∈ dueL ls n k c := List.getElem_mem hi
  obtain ⟨y, hy, he⟩ := List.mem_map.1 hm
  obtain ⟨hy1, hy2⟩ := List.mem_filter.1 hy
  have hany : ls.any (fun z => z.id == (dueL ls n k c)[i]) = true := List.any_eq_true.2 ⟨y, hy1, by rw [he]; exact beq_self_eq_true _⟩
  obtain ⟨j, hj, hf, hp, _⟩ := first_at _ ls 0 hany
  rw [Nat.zero_add] at hf
  have hid : ls[j].id = y.id := by rw [he]; exact eq_of_beq hp
  have hjy : ls[j] = y := by
    obtain ⟨m, hm2, hm3⟩ := List.getElem_of_mem hy1
    rw [List.pairwise_iff_getElem] at h
    by_cases h1 : j < m
    · have := h j m hj hm2 h1
      rw [hm3] at this
      omega
    · by_cases h2 : m < j
      · have := h m j hm2 hj h2
        rw [hm3] at this
        omega
      · have : j = m := by omega
        subst this
        exact hm3
  unfold dueP atD at hy2
  simp only [Bool.and_eq_true] at hy2
  exact ⟨j, hj, hf, by rw [hjy]; exact hy2.1.2, by rw [hjy]; exact hy2.1.1⟩
theorem due_next {D : List Int} (h : D.Pairwise (· < ·)) (i : Nat) (hi : i + 1 < D.length) : D[i] < D[i + 1] := (List.pairwise_iff_getElem.1 h) i (i + 1) (by omega) hi (by omega)
theorem due_sum (n : Int) (k : ByteArray) : ∀ ls : List LstD, (dueL ls n k true).length + (dueL ls n k false).length = (ls.filter (atD n k)).length
  | [] => rfl
  | x :: r => by
    have ih := due_sum n k r
    unfold dueL at ih ⊢
    simp only [List.length_map] at ih ⊢
    rw [List.filter_cons, List.filter_cons, List.filter_cons]
    cases h1 : atD n k x with
    | false =>
      have e1 : dueP n k true x = false := by unfold dueP; rw [h1, Bool.false_and]
      have e2 : dueP n k false x = false := by unfold dueP; rw [h1, Bool.false_and]
      rw [e1, e2, if_neg Bool.false_ne_true, if_neg Bool.false_ne_true, if_neg Bool.false_ne_true]
      exact ih
    | true =>
      cases h2 : x.cap with
      | false =>
        have e1 : dueP n k true x = false := by unfold dueP; rw [h1, h2]; rfl
        have e2 : dueP n k false x = true := by unfold dueP; rw [h1, h2]; rfl
        rw [e1, e2, if_neg Bool.false_ne_true, if_pos rfl, if_pos rfl, List.length_cons, List.length_cons]
        omega
      | true =>
        have e1 : dueP n k true x = true := by unfold dueP; rw [h1, h2]; rfl
        have e2 : dueP n k false x = false := by unfold dueP; rw [h1, h2]; rfl
        rw [e1, e2, if_neg Bool.false_ne_true, if_pos rfl, if_pos rfl, List.length_cons, List.length_cons]
        omega
theorem due_short (ls : List LstD) (n : Int) (k : ByteArray) (c : Bool) : (dueL ls n k c).length ≤ ls.length := by
  unfold dueL
  rw [List.length_map]
  exact List.length_filter_le _ _
set_option maxRecDepth 100000 in
set_option maxHeartbeats 4000000 in
theorem place_any (v : Value) (ls : List LstD) (next id : Int) (w : World) (hv : RdL w v ls) (hl : ls.length ≤ 1099511627776) :
    Calls Try.prog 26 #[.agg #[v, .int .i64 next], .int .i64 id] w fun e w' => e = .returned (.int .i64 (firstL (fun z => z.id == id) ls 0)) ∧ Below w.heap.size w w' := by
  have hb : Below w.heap.size w (w.alloc (.cells #[v, .int .i64 next] 24)) := (Below.refl _ w).alloc (Nat.le_refl _) _
  have hv1 := hv.later hb
  obtain ⟨l0, l1, l2, l3⟩ := box_cells (heap_new w (.cells #[v, .int .i64 next] 24))
  obtain ⟨o, c, rfl, hc, g⟩ := hv1
  obtain ⟨N, hN⟩ : ∃ N, firstL (fun z => z.id == id) ls 0 = N := ⟨_, rfl⟩
  rw [hN]
  have HN : Hid (firstL (fun z => z.id == id) (ls.drop 0) 0 = N) := hN
  have G := hid g
  have HB := hid hb
  clear hN g hv hb
  go_enter Try.func26, Try.ntmps26
  go_upto_region 1 with fail
  generalize w.alloc (.cells #[.slice o ls.length c, .int .i64 next] 24) = W0 at *
  go_wp2
  go_loopw [10] (fun t wr => ∃ k : Nat, k ≤ ls.length ∧ t = .int .i64 k ∧ Hid (Below W0.heap.size W0 wr) ∧ Hid (firstL (fun z => z.id == id) (ls.drop k) k = N)) (fun t _ => ls.length - (RowKit.intOf t).toNat)
  case atStart => exact ⟨0, Nat.zero_le _, rfl, Below.refl _ _, HN⟩
  case round =>
    obtain ⟨k, k1, rfl, hB, hK⟩ := hrel
    by_cases hlt : k < ls.length
    · obtain ⟨b, off, rfl, hlt1, ha⟩ := G.out (by omega)
      obtain ⟨x0, x1, x2, x3, x4, x5, x6, x7⟩ := (ha k hlt).later hlt1 hB.out
      have q1 : (0 : Int) ≤ (k : Int) := by omega
      have q2 : (k : Int) < (ls.length : Int) := by omega
      have hk := hK.out
      rw [List.drop_eq_getElem_cons hlt, firstL] at hk
      have Hk := hid hk
      clear hk hK ha G
      generalize ls[k] = a at *
      have hba : Below wr.heap.size wr (wr.alloc (lstO a)) := (Below.refl _ wr).alloc (Nat.le_refl _) _
      have HBa := hid (hB.out.trans (hba.mono hB.out.size))
      clear hba hB
      unfold lstO at *
      cases hR : (a.id == id) with
      | true =>
        have hNk : N = (k : Int) := by rw [← Hk.out, hR]; rfl
        subst hNk
        clear Hk
        go_wp2
        go_ret
        exact ⟨rfl, HB.out.trans (HBa.out.mono HB.out.size)⟩
      | false =>
        have Hn : Hid (firstL (fun z => z.id == id) (ls.drop (k + 1)) ((k + 1 : Nat) : Int) = N) := by
          have h := Hk.out
          rw [hR, if_neg Bool.false_ne_true] at h
          exact h
        clear Hk
        go_wp2
        go_roundw
        case rel => exact ⟨k + 1, by omega, by go_num, HBa, Hn⟩
        case measure => simp [RowKit.intOf]; omega
    · have hNk : N = -1 := by
        rw [← hK.out, List.drop_eq_nil_of_le (by omega)]
        rfl
      subst hNk
      clear hK G
      go_wp2
      go_ret
      exact ⟨rfl, HB.out.trans (hB.out.mono HB.out.size)⟩
set_option maxRecDepth 100000 in
set_option maxHeartbeats 4000000 in
theorem all_bad (v : Value) (ls : List LstD) (next n : Int) (k : ByteArray) (sg : Int) (w : World) (hr : RdL w v ls) (hw : ∀ x ∈ ls, WfL x) (hl : ls.length ≤ 1048576) (hc : checkD ls next = false) :
    Calls Try.prog 7 #[.agg #[v, .int .i64 next], .int .i64 n, .string k, .int .i64 sg] w fun e w' => e = .returned (.bool true) ∧ Below w.heap.size w w' := by
  have hb : Below w.heap.size w (w.alloc (.cells #[v, .int .i64 next] 24)) := (Below.refl _ w).alloc (Nat.le_refl _) _
  have HL0 : Hid (RowB w.heap.size v ls next _) := ⟨heap_new w _, hr.later hb⟩
  have HB0 := hid hb
  clear hb
  have HD1 : Hid (∀ V : World, RdL V v ls → Calls Try.prog 22 #[.agg #[v, .int .i64 next], .int .i64 n, .string k, .int .u8 1, .bool false] V _) := fun V hV => due_bad v ls next n k 1 false V hV hw (by omega) hc
  have HD2 : Hid (∀ V : World, RdL V v ls → Calls Try.prog 22 #[.agg #[v, .int .i64 next], .int .i64 n, .string k, .int .u8 3, .bool true] V _) := fun V hV => due_bad v ls next n k 3 true V hV hw (by omega) hc
  have HD3 : Hid (∀ V : World, RdL V v ls → Calls Try.prog 22 #[.agg #[v, .int .i64 next], .int .i64 n, .string k, .int .u8 2, .bool true] V _) := fun V hV => due_bad v ls next n k 2 true V hV hw (by omega) hc
  have HD4 : Hid (∀ V : World, RdL V v ls → Calls Try.prog 22 #[.agg #[v, .int .i64 next], .int .i64 n, .string k, .int .u8 2, .bool false] V _) := fun V hV => due_bad v ls next n k 2 false V hV hw (by omega) hc
  have HCk : Hid (∀ V : World, RdL V v ls → _) := fun V hV => check_any v ls next V hV hw (by omega)
  rw [hc] at HCk
  replace HCk : Hid (∀ V : World, RdL V v ls → Calls _ _ _ _ fun e w' => e = .returned (.int .i64 2) ∧ _) := HCk
  obtain ⟨ov, cv, rfl, _, _⟩ := hr
  go_enter Try.func7, Try.ntmps7
  go_wp2_with (first
    | (go_at_call 10; refine (lives_any _).mono ?_; rintro e w1 ⟨rfl, hb⟩; have HL1 := hid (HL0.out.later hb); have HB1 := hid (HB0.out.trans (hb.mono HB0.out.size)); obtain ⟨l0, l1, l2, l3⟩ := box_cells HL1.out.box; clear hb)
    | (go_at_call 22; refine (HD1.out _ HL1.out.rd).mono ?_; rintro e w2 ⟨rfl, hb⟩; have HL2 := hid (HL1.out.later hb); have HB2 := hid (HB1.out.trans (hb.mono HB1.out.size)); obtain ⟨l0, l1, l2, l3⟩ := box_cells HL2.out.box; clear hb HD1)
    | (go_at_call 22; refine (HD2.out _ HL2.out.rd).mono ?_; rintro e w3 ⟨rfl, hb⟩; have HL3 := hid (HL2.out.later hb); have HB3 := hid (HB2.out.trans (hb.mono HB2.out.size)); obtain ⟨l0, l1, l2, l3⟩ := box_cells HL3.out.box; clear hb HD2)
    | (go_at_call 22; refine (HD3.out _ HL3.out.rd).mono ?_; rintro e w4 ⟨rfl, hb⟩; have HL4 := hid (HL3.out.later hb); have HB4 := hid (HB3.out.trans (hb.mono HB3.out.size)); obtain ⟨l0, l1, l2, l3⟩ := box_cells HL4.out.box; clear hb HD3)
    | (go_at_call 22; refine (HD4.out _ HL4.out.rd).mono ?_; rintro e w5 ⟨rfl, hb⟩; have HL5 := hid (HL4.out.later hb); have HB5 := hid (HB4.out.trans (hb.mono HB4.out.size)); obtain ⟨l0, l1, l2, l3⟩ := box_cells HL5.out.box; clear hb HD4)
    | (go_at_call 12; refine (HCk.out _ HL5.out.rd).mono ?_; rintro e w6 ⟨rfl, hb⟩; have HB6 := hid (HB5.out.trans (hb.mono HB5.out.size)); clear hb))
  go_ret
  exact ⟨rfl, HB6.out⟩
set_option maxRecDepth 100000 in
set_option maxHeartbeats 4000000 in
theorem all_ok (v : Value) (ls : List LstD) (next n : Int) (k : ByteArray) (sg : Int) (w : World) (hr : RdL w v ls) (hw : ∀ x ∈ ls, WfL x) (hl : ls.length ≤ 1048576) (hc : checkD ls next = true) :
    Calls Try.prog 7 #[.agg #[v, .int .i64 next], .int .i64 n, .string k, .int .i64 sg] w fun e w' => e = .returned (.bool true) ∧ Below w.heap.size w w' := by
  have hb : Below w.heap.size w (w.alloc (.cells #[v, .int .i64 next] 24)) := (Below.refl _ w).alloc (Nat.le_refl _) _
  have HL0 : Hid (RowB w.heap.size v ls next _) := ⟨heap_new w _, hr.later hb⟩
  have HB0 := hid hb
  clear hb
  have HD1 : Hid (∀ V : World, RdL V v ls → Calls Try.prog 22 #[.agg #[v, .int .i64 next], .int .i64 n, .string k, .int .u8 1, .bool false] V fun e w' => ∃ o c, e = .returned (.tuple #[.slice o (dueL ls n k true).length c, .int .i64 0]) ∧ RdI w' (.slice o (dueL ls n k true).length c) (dueL ls n k true) ∧ Below V.heap.size V w') := fun V hV => (due_ok v ls next n k 1 false V hV hw (by omega) hc rfl).mono (fun e w' ⟨o, c, he, ho, hb⟩ => ⟨o, c, he, own_rdI ho, hb⟩)
  have HD2 : Hid (∀ V : World, RdL V v ls → Calls Try.prog 22 #[.agg #[v, .int .i64 next], .int .i64 n, .string k, .int .u8 3, .bool true] V fun e w' => ∃ o c, e = .returned (.tuple #[.slice o (dueL ls n k false).length c, .int .i64 0]) ∧ RdI w' (.slice o (dueL ls n k false).length c) (dueL ls n k false) ∧ Below V.heap.size V w') := fun V hV => (due_ok v ls next n k 3 true V hV hw (by omega) hc rfl).mono (fun e w' ⟨o, c, he, ho, hb⟩ => ⟨o, c, he, own_rdI ho, hb⟩)
  have HD3 : Hid (∀ V : World, RdL V v ls → Calls Try.prog 22 #[.agg #[v, .int .i64 next], .int .i64 n, .string k, .int .u8 2, .bool true] V fun e w' => ∃ o c, e = .returned (.tuple #[.slice o (dueL ls n k true).length c, .int .i64 0]) ∧ RdI w' (.slice o (dueL ls n k true).length c) (dueL ls n k true) ∧ Below V.heap.size V w') := fun V hV => (due_ok v ls next n k 2 true V hV hw (by omega) hc rfl).mono (fun e w' ⟨o, c, he, ho, hb⟩ => ⟨o, c, he, own_rdI ho, hb⟩)
  have HD4 : Hid (∀ V : World, RdL V v ls → Calls Try.prog 22 #[.agg #[v, .int .i64 next], .int .i64 n, .string k, .int .u8 2, .bool false] V fun e w' => ∃ o c, e = .returned (.tuple #[.slice o (dueL ls n k false).length c, .int .i64 0]) ∧ RdI w' (.slice o (dueL ls n k false).length c) (dueL ls n k false) ∧ Below V.heap.size V w') := fun V hV => (due_ok v ls next n k 2 false V hV hw (by omega) hc rfl).mono (fun e w' ⟨o, c, he, ho, hb⟩ => ⟨o, c, he, own_rdI ho, hb⟩)
  have hrise := check_rise hc
  have HRC := hid (due_rise hrise n k true)
  have HRB := hid (due_rise hrise n k false)
  have HAC : Hid (∀ (i : Nat) (hi : i < (dueL ls n k true).length), _) := fun i hi => due_at hrise n k true i hi
  have HAB : Hid (∀ (i : Nat) (hi : i < (dueL ls n k false).length), _) := fun i hi => due_at hrise n k false i hi
  have HSum := hid (due_sum n k ls)
  have hCl := Nat.le_trans (due_short ls n k true) hl
  have hBl := Nat.le_trans (due_short ls n k false) hl
  have HAb : Hid (∀ V : World, RdL V v ls → _) := fun V hV => abort_ok v ls next sg V hV hw (by omega) hc
  generalize dueL ls n k true = C at *
  generalize dueL ls n k false = B at *
  have HI : Hid (∀ (V : World) (D : List Int) (v1 v2 : Value), D.length ≤ 1048576 → RdI V v1 D → RdI V v2 D → Calls Try.prog 24 #[v1, v2] V fun e w' => e = .returned (.bool true) ∧ Below V.heap.size V w') := fun V D v1 v2 hD a b => by
    have h := ints3_any v1 v2 D D V a b (by omega)
    rw [show (D == D) = true from beq_self_eq_true D] at h
    exact h
  obtain ⟨ov, cv, rfl, _, _⟩ := hr
  clear hw hc hrise
  go_enter Try.func7, Try.ntmps7
  go_upto_region 12 with (first
    | (go_at_call 10; refine (lives_any _).mono ?_; rintro e w1 ⟨rfl, hb⟩; have HL1 := hid (HL0.out.later hb); have HB1 := hid (HB0.out.trans (hb.mono HB0.out.size)); obtain ⟨l0, l1, l2, l3⟩ := box_cells HL1.out.box; clear hb)
    | (go_at_call 22; refine (HD1.out _ HL1.out.rd).mono ?_; rintro e w2 ⟨o1, c1, rfl, hd, hb⟩; have HL2 := hid (HL1.out.later hb); have HB2 := hid (HB1.out.trans (hb.mono HB1.out.size)); obtain ⟨l0, l1, l2, l3⟩ := box_cells HL2.out.box; have HC2 := hid hd; clear hd; clear hb HD1)
    | (go_at_call 22; refine (HD2.out _ HL2.out.rd).mono ?_; rintro e w3 ⟨o2, c2, rfl, hd, hb⟩; have HL3 := hid (HL2.out.later hb); have HB3 := hid (HB2.out.trans (hb.mono HB2.out.size)); obtain ⟨l0, l1, l2, l3⟩ := box_cells HL3.out.box; have HC3 := hid (HC2.out.later hb); have HE3 := hid hd; clear hd; clear hb HD2)
    | (go_at_call 22; refine (HD3.out _ HL3.out.rd).mono ?_; rintro e w4 ⟨o3, c3, rfl, hd, hb⟩; have HL4 := hid (HL3.out.later hb); have HB4 := hid (HB3.out.trans (hb.mono HB3.out.size)); obtain ⟨l0, l1, l2, l3⟩ := box_cells HL4.out.box; have HC4 := hid (HC3.out.later hb); have HE4 := hid (HE3.out.later hb); have HF4 := hid hd; clear hd; clear hb HD3)
    | (go_at_call 22; refine (HD4.out _ HL4.out.rd).mono ?_; rintro e w5 ⟨o4, c4, rfl, hd, hb⟩; have HL5 := hid (HL4.out.later hb); have HB5 := hid (HB4.out.trans (hb.mono HB4.out.size)); obtain ⟨l0, l1, l2, l3⟩ := box_cells HL5.out.box; have HC5 := hid (HC4.out.later hb); have HE5 := hid (HE4.out.later hb); have HF5 := hid (HF4.out.later hb); have HG5 := hid hd; clear hd; clear hb HD4)
    | (go_at_call 24; refine (HI.out _ C _ _ hCl HC5.out HF5.out).mono ?_; rintro e w6 ⟨rfl, hb⟩; have HL6 := hid (HL5.out.later hb); have HB6 := hid (HB5.out.trans (hb.mono HB5.out.size)); have HC6 := hid (HC5.out.later hb); have HE6 := hid (HE5.out.later hb); have HG6 := hid (HG5.out.later hb); clear hb HF5)
    | (go_at_call 24; refine (HI.out _ B _ _ hBl HE6.out HG6.out).mono ?_; rintro e Wb ⟨rfl, hb⟩; have HLb := hid (HL6.out.later hb); have HBb := hid (HB6.out.trans (hb.mono HB6.out.size)); have HCb := hid (HC6.out.later hb); have HEb := hid (HE6.out.later hb); clear hb))
  clear HL1 HL2 HL3 HL4 HL5 HL6 HB1 HB2 HB3 HB4 HB5 HB6 HC2 HC3 HC4 HC5 HC6 HE3 HE4 HE5 HE6 HF4 HG5 HG6 HL0 HB0 HI l0 l1 l2 l3
  obtain ⟨l0, l1, l2, l3⟩ := box_cells HLb.out.box
  have GC := hid (show 0 < C.length → ∃ b off, o1 = some ⟨b, off, none⟩ ∧ b < Wb.heap.size ∧ ∀ (j : Nat) (h : j < C.length), Wb.cell? ⟨b, off + j, none⟩ = some (.int .i64 C[j]) from by
    obtain ⟨o, c, he, _, g⟩ := HCb.out
    simp only [Value.slice.injEq] at he
    obtain ⟨rfl, _, _⟩ := he
    exact g)
  have GB := hid (show 0 < B.length → ∃ b off, o2 = some ⟨b, off, none⟩ ∧ b < Wb.heap.size ∧ ∀ (j : Nat) (h : j < B.length), Wb.cell? ⟨b, off + j, none⟩ = some (.int .i64 B[j]) from by
    obtain ⟨o, c, he, _, g⟩ := HEb.out
    simp only [Value.slice.injEq] at he
    obtain ⟨rfl, _, _⟩ := he
    exact g)
  go_wp2
  go_loopw [106, 17] (fun t u wr => ∃ j m : Nat, j ≤ ls.length ∧ t = .int .i64 j ∧ u = .int .i64 m ∧ Hid (m = ((ls.take j).filter (atD n k)).length) ∧ Hid (Below Wb.heap.size Wb wr)) (fun t _ _ => ls.length - (RowKit.intOf t).toNat)
  case atStart => exact ⟨0, 0, Nat.zero_le _, rfl, rfl, rfl, Below.refl _ _⟩
  case round =>
    obtain ⟨j, m, hj, rfl, rfl, hM, hBB⟩ := hrel
    by_cases hlt : j < ls.length
    · obtain ⟨ovq, cvq, hve, _, gv⟩ := HLb.out.rd
      simp only [Value.slice.injEq] at hve
      obtain ⟨rfl, _, rfl⟩ := hve
      obtain ⟨lb, loff, rfl, hll, hla⟩ := gv (by omega)
      obtain ⟨y0, y1, y2, y3, y4, y5, y6, y7⟩ := (hla j hlt).later hll hBB.out
      have q1 : (0 : Int) ≤ (j : Int) := by omega
      have q2 : (j : Int) < (ls.length : Int) := by omega
      have hst := filter_step (atD n k) ls j hlt
      have hb1 : Below wr.heap.size wr (wr.alloc (lstO ls[j])) := (Below.refl _ wr).alloc (Nat.le_refl _) _
      have HBB1 := hid (hBB.out.trans (hb1.mono hBB.out.size))
      obtain ⟨z0, z1, z2, z3, z4, z5, z6, z7⟩ := lst_cells (heap_new wr (lstO ls[j]))
      have hmj : m ≤ j := by
        rw [hM.out]
        refine Nat.le_trans (List.length_filter_le _ _) ?_
        rw [List.length_take]
        omega
      have Hst := hid (congrArg List.length hst)
      rw [List.length_append, ← hM.out] at Hst
      unfold atD at Hst
      clear hla gv hb1 hst hM hBB GC GB
      generalize ls[j] = x at *
      unfold lstO at *
      cases h1 : (x.kind.toList == k.toList) with
      | false =>
        rw [h1, Bool.and_false, if_neg Bool.false_ne_true] at Hst
        go_wp2
        go_roundw
        case rel => exact ⟨j + 1, m, by omega, by go_num, rfl, Hst.out.symm, HBB1⟩
        case measure => simp [RowKit.intOf]; omega
      | true =>
        cases h2 : (x.node == n) with
        | false =>
          rw [h1, h2, Bool.false_and, if_neg Bool.false_ne_true] at Hst
          go_wp2
          go_roundw
          case rel => exact ⟨j + 1, m, by omega, by go_num, rfl, Hst.out.symm, HBB1⟩
          case measure => simp [RowKit.intOf]; omega
        | true =>
          rw [h1, h2, Bool.and_self, if_pos rfl] at Hst
          go_wp2
          go_roundw
          case rel => exact ⟨j + 1, m + 1, by omega, by go_num, by go_num, Hst.out.symm, HBB1⟩
          case measure => simp [RowKit.intOf]; omega
    · have hMk : m = C.length + B.length := by rw [hM.out, List.take_of_length_le (by omega), HSum.out]
      have HMk := hid hMk
      clear hM HSum hMk
      have hb2 : Below wr.heap.size wr (wr.alloc (.cells #[.slice o1 C.length c1, .slice o2 B.length c2] 43)) := (Below.refl _ wr).alloc (Nat.le_refl _) _
      have HB2 := hid (hBB.out.trans (hb2.mono hBB.out.size))
      have HT := hid (heap_new wr (.cells #[.slice o1 C.length c1, .slice o2 B.length c2] 43))
      clear hb2 hBB
      go_wp2
      generalize wr.heap.size = TB at *
      go_loopw [127] (fun t wt => (t = .int .i64 0 ∨ t = .int .i64 1 ∨ t = .int .i64 2) ∧ Hid (Below Wb.heap.size Wb wt) ∧ Hid (wt.heap[TB]? = some (.cells #[.slice o1 C.length c1, .slice o2 B.length c2] 43))) (fun t _ => 2 - (RowKit.intOf t).toNat)
      case atStart => exact ⟨.inl rfl, HB2, HT⟩
      case round =>
        obtain ⟨rfl | rfl | rfl, hBt, hT⟩ := hrel
        · have HBt := hBt
          obtain ⟨tc0, tc1, _, _⟩ := box_cells2 hT.out
          clear HB2 HT
          go_wp2
          go_loopw [133] (fun t wr => ∃ i : Nat, i ≤ C.length ∧ t = .int .i64 i ∧ Hid (Below Wb.heap.size Wb wr) ∧ Hid (wr.heap[TB]? = some (.cells #[.slice o1 C.length c1, .slice o2 B.length c2] 43))) (fun t _ => C.length - (RowKit.intOf t).toNat)
          case atStart => exact ⟨0, Nat.zero_le _, rfl, HBt, hT⟩
          case round =>
            obtain ⟨i, hi, rfl, hBq, hTq⟩ := hrel
            by_cases hlt : i < C.length
            · obtain ⟨db, doff, rfl, hdl, hda⟩ := GC.out (by omega)
              have y0 := (hBq.out.cell (p := ⟨db, doff + i, none⟩) hdl).trans (hda i hlt)
              have q1 : (0 : Int) ≤ (i : Int) := by omega
              have q2 : (i : Int) < (C.length : Int) := by omega
              obtain ⟨j, hj, hf, hk1, hk2⟩ := HAC.out i hlt
              have HLq := hid (HLb.out.later hBq.out)
              obtain ⟨l0, l1, l2, l3⟩ := box_cells HLq.out.box
              have hC := place_any _ ls next C[i] wr HLq.out.rd (by omega)
              rw [hf] at hC
              obtain ⟨ovq, cvq, hve, _, gv⟩ := HLb.out.rd
              simp only [Value.slice.injEq] at hve
              obtain ⟨rfl, _, rfl⟩ := hve
              obtain ⟨lb, loff, rfl, hll, hla⟩ := gv (by omega)
              have HXj := hid (hla j hj)
              have hk1' : (ls[j].kind.toList != k.toList) = false := by rw [bne, hk1]; rfl
              have hk2' : (ls[j].node != n) = false := by rw [bne, hk2]; rfl
              have r1 : (0 : Int) ≤ (j : Int) := by omega
              have r2 : (j : Int) < (ls.length : Int) := by omega
              have r3 : decide ((j : Int) < 0) = false := decide_eq_false (by omega)
              have HP : Hid (∀ hp : 0 < i, Wb.cell? ⟨db, doff + (i - 1), none⟩ = some (.int .i64 (C[i - 1]'(by omega))) ∧ C[i - 1]'(by omega) < C[i]) := fun hp => ⟨hda (i - 1) (by omega), by
                have := due_next HRC.out (i - 1) (by omega)
                have e : i - 1 + 1 = i := by omega
                simp only [e] at this
                exact this⟩
              clear hda gv hla hf
              generalize ls[j] = z at *
              by_cases hi0 : 0 < i
              · obtain ⟨yp, hlt2⟩ := HP.out hi0
                have y1 := (hBq.out.cell (p := ⟨db, doff + (i - 1), none⟩) hdl).trans yp
                have d1 : decide ((i : Int) > 0) = true := decide_eq_true (by omega)
                have d1' : decide (0 < i) = true := decide_eq_true hi0
                have d2 : decide (C[i - 1]'(by omega) ≥ C[i]) = false := decide_eq_false (by omega)
                have r5 : (0 : Int) ≤ (i : Int) - 1 := by omega
                have r6 : (i : Int) - 1 < (C.length : Int) := by omega
                have HY1 := hid y1
                clear HP hlt2 yp y1
                generalize C[i - 1]'(by omega) = dp at *
                generalize C[i] = di at *
                clear hi0
                go_wp2_with (go_at_call 26; refine hC.mono ?_; rintro e w9 ⟨rfl, hb⟩; have hq9 := hBq.out.trans (hb.mono hBq.out.size); have HB9 := hid hq9; have HT9 := hid (blkLater hb hTq.out); obtain ⟨k0, k1, k2, k3, k4, k5, k6, k7⟩ := HXj.out.later hll hq9; obtain ⟨m0, m1, m2, m3⟩ := box_cells (HLb.out.later hq9).box; have y2 := cellLater hb (Nat.lt_of_lt_of_le hdl hBq.out.size) HY1.out; clear hb hq9)
                go_roundw
                case rel => exact ⟨i + 1, by omega, by go_num, HB9, HT9⟩
                case measure => simp [RowKit.intOf]; omega
              · have d1 : decide ((i : Int) > 0) = false := decide_eq_false (by omega)
                have d1' : decide (0 < i) = false := decide_eq_false hi0
                clear HP hi0
                generalize C[i] = di at *
                go_wp2_with (go_at_call 26; refine hC.mono ?_; rintro e w9 ⟨rfl, hb⟩; have hq9 := hBq.out.trans (hb.mono hBq.out.size); have HB9 := hid hq9; have HT9 := hid (blkLater hb hTq.out); obtain ⟨k0, k1, k2, k3, k4, k5, k6, k7⟩ := HXj.out.later hll hq9; obtain ⟨m0, m1, m2, m3⟩ := box_cells (HLb.out.later hq9).box; clear hb hq9)
                go_roundw
                case rel => exact ⟨i + 1, by omega, by go_num, HB9, HT9⟩
                case measure => simp [RowKit.intOf]; omega
            · go_wp2
              go_roundw
              case rel => exact ⟨.inr (.inl (by go_num)), hBq, hTq⟩
              case measure => simp [RowKit.intOf]
        · have HBt := hBt
          obtain ⟨tc0, tc1, _, _⟩ := box_cells2 hT.out
          clear HB2 HT
          go_wp2
          go_loopw [133] (fun t wr => ∃ i : Nat, i ≤ B.length ∧ t = .int .i64 i ∧ Hid (Below Wb.heap.size Wb wr) ∧ Hid (wr.heap[TB]? = some (.cells #[.slice o1 C.length c1, .slice o2 B.length c2] 43))) (fun t _ => B.length - (RowKit.intOf t).toNat)
          case atStart => exact ⟨0, Nat.zero_le _, rfl, HBt, hT⟩
          case round =>
            obtain ⟨i, hi, rfl, hBq, hTq⟩ := hrel
            by_cases hlt : i < B.length
            · obtain ⟨db, doff, rfl, hdl, hda⟩ := GB.out (by omega)
              have y0 := (hBq.out.cell (p := ⟨db, doff + i, none⟩) hdl).trans (hda i hlt)
              have q1 : (0 : Int) ≤ (i : Int) := by omega
              have q2 : (i : Int) < (B.length : Int) := by omega
              obtain ⟨j, hj, hf, hk1, hk2⟩ := HAB.out i hlt
              have HLq := hid (HLb.out.later hBq.out)
              obtain ⟨l0, l1, l2, l3⟩ := box_cells HLq.out.box
              have hC := place_any _ ls next B[i] wr HLq.out.rd (by omega)
              rw [hf] at hC
              obtain ⟨ovq, cvq, hve, _, gv⟩ := HLb.out.rd
              simp only [Value.slice.injEq] at hve
              obtain ⟨rfl, _, rfl⟩ := hve
              obtain ⟨lb, loff, rfl, hll, hla⟩ := gv (by omega)
              have HXj := hid (hla j hj)
              have hk1' : (ls[j].kind.toList != k.toList) = false := by rw [bne, hk1]; rfl
              have hk2' : (ls[j].node != n) = false := by rw [bne, hk2]; rfl
              have r1 : (0 : Int) ≤ (j : Int) := by omega
              have r2 : (j : Int) < (ls.length : Int) := by omega
              have r3 : decide ((j : Int) < 0) = false := decide_eq_false (by omega)
              have HP : Hid (∀ hp : 0 < i, Wb.cell? ⟨db, doff + (i - 1), none⟩ = some (.int .i64 (B[i - 1]'(by omega))) ∧ B[i - 1]'(by omega) < B[i]) := fun hp => ⟨hda (i - 1) (by omega), by
                have := due_next HRB.out (i - 1) (by omega)
                have e : i - 1 + 1 = i := by omega
                simp only [e] at this
                exact this⟩
              clear hda gv hla hf
              generalize ls[j] = z at *
              by_cases hi0 : 0 < i
              · obtain ⟨yp, hlt2⟩ := HP.out hi0
                have y1 := (hBq.out.cell (p := ⟨db, doff + (i - 1), none⟩) hdl).trans yp
                have d1 : decide ((i : Int) > 0) = true := decide_eq_true (by omega)
                have d1' : decide (0 < i) = true := decide_eq_true hi0
                have d2 : decide (B[i - 1]'(by omega) ≥ B[i]) = false := decide_eq_false (by omega)
                have r5 : (0 : Int) ≤ (i : Int) - 1 := by omega
                have r6 : (i : Int) - 1 < (B.length : Int) := by omega
                have HY1 := hid y1
                clear HP hlt2 yp y1
                generalize B[i - 1]'(by omega) = dp at *
                generalize B[i] = di at *
                clear hi0
                go_wp2_with (go_at_call 26; refine hC.mono ?_; rintro e w9 ⟨rfl, hb⟩; have hq9 := hBq.out.trans (hb.mono hBq.out.size); have HB9 := hid hq9; have HT9 := hid (blkLater hb hTq.out); obtain ⟨k0, k1, k2, k3, k4, k5, k6, k7⟩ := HXj.out.later hll hq9; obtain ⟨m0, m1, m2, m3⟩ := box_cells (HLb.out.later hq9).box; have y2 := cellLater hb (Nat.lt_of_lt_of_le hdl hBq.out.size) HY1.out; clear hb hq9)
                go_roundw
                case rel => exact ⟨i + 1, by omega, by go_num, HB9, HT9⟩
                case measure => simp [RowKit.intOf]; omega
              · have d1 : decide ((i : Int) > 0) = false := decide_eq_false (by omega)
                have d1' : decide (0 < i) = false := decide_eq_false hi0
                clear HP hi0
                generalize B[i] = di at *
                go_wp2_with (go_at_call 26; refine hC.mono ?_; rintro e w9 ⟨rfl, hb⟩; have hq9 := hBq.out.trans (hb.mono hBq.out.size); have HB9 := hid hq9; have HT9 := hid (blkLater hb hTq.out); obtain ⟨k0, k1, k2, k3, k4, k5, k6, k7⟩ := HXj.out.later hll hq9; obtain ⟨m0, m1, m2, m3⟩ := box_cells (HLb.out.later hq9).box; clear hb hq9)
                go_roundw
                case rel => exact ⟨i + 1, by omega, by go_num, HB9, HT9⟩
                case measure => simp [RowKit.intOf]; omega
            · go_wp2
              go_roundw
              case rel => exact ⟨.inr (.inr (by go_num)), hBq, hTq⟩
              case measure => simp [RowKit.intOf]
        · have HBt := hBt
          clear HT HB2 hT HAC HAB HRC HRB GC GB
          have HLt := hid (HLb.out.later HBt.out)
          have HBt2 := hid (HBb.out.trans (HBt.out.mono HBb.out.size))
          obtain ⟨l0, l1, l2, l3⟩ := box_cells HLt.out.box
          obtain ⟨Q, hQ⟩ : ∃ Q : LstD → Bool, Q = (fun z => !(sg != 0 && z.sig == sg)) := ⟨_, rfl⟩
          rw [← hQ] at HAb
          have HQ := hid hQ
          clear hQ
          go_upto_region 31 with (go_at_call 18; refine (HAb.out _ HLt.out.rd).mono ?_; rintro e w7 ⟨oL, cL, rfl, hown, hb⟩; have hba : Below w7.heap.size w7 (w7.alloc (.cells #[.slice oL (ls.filter Q).length cL, .int .i64 next] 24)) := (Below.refl _ w7).alloc (Nat.le_refl _) _; have hbb := hb.trans (hba.mono hb.size); have HL7 := hid (HLt.out.later hbb); have HB7 := hid (HBt2.out.trans (hbb.mono HBt2.out.size)); have HO7 : Hid (RowB w7.heap.size (.slice oL (ls.filter Q).length cL) (ls.filter Q) next _) := ⟨heap_new w7 _, own_rdL (own_later hown hba)⟩; clear hb hba hbb hown HAb)
          generalize w7.alloc (.cells #[.slice oL (ls.filter Q).length cL, .int .i64 next] 24) = W8 at *
          generalize w7.heap.size = LB at *
          have hFl : (ls.filter Q).length ≤ 1048576 := Nat.le_trans (List.length_filter_le _ _) hl
          obtain ⟨l0, l1, l2, l3⟩ := box_cells HL7.out.box
          go_wp2
          go_loopw [187, 27] (fun t u wr => ∃ (j a : Nat), j ≤ ls.length ∧ t = .int .i64 j ∧ u = .int .i64 a ∧ Hid (a = ((ls.take j).filter Q).length) ∧ Hid (Below W8.heap.size W8 wr)) (fun t _ _ => ls.length - (RowKit.intOf t).toNat)
          case atStart => exact ⟨0, 0, Nat.zero_le _, rfl, rfl, rfl, Below.refl _ _⟩
          case round =>
            obtain ⟨j, a, hj, rfl, rfl, hA, hBB⟩ := hrel
            by_cases hlt : j < ls.length
            · obtain ⟨ovq, cvq, hve, _, gv⟩ := HL7.out.rd
              simp only [Value.slice.injEq] at hve
              obtain ⟨rfl, _, rfl⟩ := hve
              obtain ⟨lb, loff, rfl, hll, hla⟩ := gv (by omega)
              obtain ⟨y0, y1, y2, y3, y4, y5, y6, y7⟩ := (hla j hlt).later hll hBB.out
              have q1 : (0 : Int) ≤ (j : Int) := by omega
              have q2 : (j : Int) < (ls.length : Int) := by omega
              have hst := filter_step Q ls j hlt
              have hb1 : Below wr.heap.size wr (wr.alloc (lstO ls[j])) := (Below.refl _ wr).alloc (Nat.le_refl _) _
              have hBB1 := hBB.out.trans (hb1.mono hBB.out.size)
              have HBB1 := hid hBB1
              obtain ⟨z0, z1, z2, z3, z4, z5, z6, z7⟩ := lst_cells (heap_new wr (lstO ls[j]))
              have HO9 := hid (HO7.out.later hBB1)
              have Hst := hid (congrArg List.length hst)
              rw [List.length_append, ← hA.out] at Hst
              have Haj : Hid (∀ hq : Q ls[j] = true, ∃ ha : a < (ls.filter Q).length, (ls.filter Q)[a] = ls[j]) := fun hq => filter_at Q ls j hlt a hA.out hq
              have haj : a ≤ j := by
                rw [hA.out]
                refine Nat.le_trans (List.length_filter_le _ _) ?_
                rw [List.length_take]
                omega
              clear hla gv hb1 hst hA hBB hBB1
              have Hqx : Hid (Q ls[j] = !(sg != 0 && ls[j].sig == sg)) := by show _ = _; rw [HQ.out]
              by_cases hqx : Q ls[j] = true
              · obtain ⟨ha, hge⟩ := Haj.out hqx
                rw [hqx, if_pos rfl] at Hst
                obtain ⟨oL2, cL2, hve2, _, gL⟩ := HO9.out.rd
                simp only [Value.slice.injEq] at hve2
                obtain ⟨rfl, _, rfl⟩ := hve2
                obtain ⟨fb, foff, rfl, hfl, hfa⟩ := gL (by omega)
                have hfx := hfa a ha
                rw [hge] at hfx
                obtain ⟨f0, f1, f2, f3, f4, f5, f6, f7⟩ := hfx
                obtain ⟨m0, m1, m2, m3⟩ := box_cells HO9.out.box
                have r1 : (0 : Int) ≤ (a : Int) := by omega
                have r2 : (a : Int) < ((ls.filter Q).length : Int) := by omega
                have r3 : decide ((a : Int) ≥ ((ls.filter Q).length : Int)) = false := decide_eq_false (by omega)
                have hsk := Hqx.out
                rw [hqx] at hsk
                have hsk2 : (sg != 0 && ls[j].sig == sg) = false := by
                  cases h : (sg != 0 && ls[j].sig == sg) with
                  | false => rfl
                  | true => rw [h] at hsk; cases hsk
                clear hfa gL hge hqx hsk Haj Hqx HO9
                generalize ls[j] = x at *
                generalize (ls.filter Q).length = FL at *
                unfold lstO at *
                cases s1 : (sg != 0) with
                | false =>
                  clear hsk2
                  go_upto_region 35 with fail
                  go_quiet (fail)
                  go_wp2
                  go_roundw
                  case rel => exact ⟨j + 1, a + 1, by omega, by go_num, by go_num, Hst.out.symm, ⟨HBB1.out.os, HBB1.out.tape, HBB1.out.output, HBB1.out.size, HBB1.out.block⟩⟩
                  case measure => simp [RowKit.intOf]; omega
                | true =>
                  rw [s1, Bool.true_and] at hsk2
                  go_upto_region 35 with fail
                  go_quiet (fail)
                  go_wp2
                  go_roundw
                  case rel => exact ⟨j + 1, a + 1, by omega, by go_num, by go_num, Hst.out.symm, ⟨HBB1.out.os, HBB1.out.tape, HBB1.out.output, HBB1.out.size, HBB1.out.block⟩⟩
                  case measure => simp [RowKit.intOf]; omega
              · have hqf : Q ls[j] = false := by simpa using hqx
                rw [hqf, if_neg Bool.false_ne_true] at Hst
                have hsk := Hqx.out
                rw [hqf] at hsk
                have hsk2 : (sg != 0 && ls[j].sig == sg) = true := by
                  cases h : (sg != 0 && ls[j].sig == sg) with
                  | true => rfl
                  | false => rw [h] at hsk; cases hsk
                rw [Bool.and_eq_true] at hsk2
                obtain ⟨s1, s2⟩ := hsk2
                clear hqx hqf hsk Haj Hqx HO9
                generalize ls[j] = x at *
                unfold lstO at *
                go_wp2
                go_roundw
                case rel => exact ⟨j + 1, a, by omega, by go_num, rfl, Hst.out.symm, HBB1⟩
                case measure => simp [RowKit.intOf]; omega
            · have hAk : a = (ls.filter Q).length := by rw [hA.out, List.take_of_length_le (by omega)]
              subst hAk
              have HB9 := hid (HB7.out.trans (hBB.out.mono HB7.out.size))
              obtain ⟨m0, m1, m2, m3⟩ := box_cells (HO7.out.later hBB.out).box
              clear hA HL7 HO7 HB7 hBB
              generalize (ls.filter Q).length = FL at *
              have hMk := HMk.out
              subst hMk
              go_wp2
              go_ret
              exact ⟨by simp, HB9.out⟩
theorem listenAll_law (v : Value) (ls : List LstD) (next n : Int) (k : ByteArray) (sg : Int) (w : World) (hr : RdL w v ls) (hw : ∀ x ∈ ls, WfL x) (hl : ls.length ≤ 1048576) :
    Calls Try.prog 7 #[.agg #[v, .int .i64 next], .int .i64 n, .string k, .int .i64 sg] w fun e w' => e = .returned (.bool true) ∧ Below w.heap.size w w' := by
  cases hc : checkD ls next with
  | false => exact all_bad v ls next n k sg w hr hw hl hc
  | true => exact all_ok v ls next n k sg w hr hw hl hc
end Go.Proofs.Ytnlcojhmioamnaa
