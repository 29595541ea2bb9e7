/- The law ListenOnce: added twice it is there once; taken away again the list is what it was. -/
import Derived.Test.YtnlcojhmioamnaaLnP
import Derived.Test.YtnlcojhmioamnaaLnQ
import Derived.Test.YtnlcojhmioamnaaLnS
import Derived.Deep.DeepCutAuto
import Derived.Deep.CutRange
namespace Go.Proofs.Ytnlcojhmioamnaa
open Go.RowKit Go.Lib Go.Shelf

set_option maxRecDepth 100000 in
set_option maxHeartbeats 4000000 in
theorem once_err (v : Value) (ls : List LstD) (next : Int) (x : LstD) (root : Bool) (w : World) (hr : RdL w v ls) (E : Int) (hE : (E != 0) = true) (hA : ∀ V : World, RdL V v ls → Calls Try.prog 8 #[.agg #[v, .int .i64 next], lstV x, .bool root, .bool false] V fun e w' => e = .returned (.tuple #[.agg #[.slice none 0 0, .int .i64 0], .int .i64 0, .int .i64 E]) ∧ Below V.heap.size V w') :
    Calls Try.prog 6 #[.agg #[v, .int .i64 next], lstV x, .bool root] w fun e w' => e = .returned (.bool true) ∧ Below w.heap.size w w' := by
  have HA1 := hid hA
  clear hA
  have h2n := two_new w (.cells #[v, .int .i64 next] 24) (lstO x)
  have HB0 := hid h2n.1
  have HX0 := hid h2n.2.2.1
  have HL0 : Hid (RowB w.heap.size v ls next _) := ⟨h2n.2.1, hr.later h2n.1⟩
  obtain ⟨ov, cv, rfl, _, _⟩ := hr
  clear h2n
  obtain ⟨xi, xn, xk, xc, xp, xo, xs, xg⟩ := x
  unfold lstV lstO at *
  dsimp only at *
  go_enter Try.func6, Try.ntmps6
  go_wp2_with (first
    | (go_at_call 10; refine (lives_any _).mono ?_; rintro e w1 ⟨rfl, hb⟩; have HL1 := hid (HL0.out.later hb); have HX1 := hid (blkLater hb HX0.out); have HB1 := hid (HB0.out.trans (hb.mono HB0.out.size)); obtain ⟨l0, l1, l2, l3⟩ := box_cells HL1.out.box; obtain ⟨x0, x1, x2, x3, x4, x5, x6, x7⟩ := lst_cells (x := ⟨xi, xn, xk, xc, xp, xo, xs, xg⟩) HX1.out; dsimp only at x0 x1 x2 x3 x4 x5 x6 x7; clear hb)
    | (go_at_call 8; refine (HA1.out _ HL1.out.rd).mono ?_; rintro e w2 ⟨rfl, hb⟩; have HB2 := hid (HB1.out.trans (hb.mono HB1.out.size)); clear hb))
  go_ret
  exact ⟨rfl, HB2.out.alloc HB2.out.size _⟩
set_option maxRecDepth 100000 in
set_option maxHeartbeats 4000000 in
theorem once_same (v : Value) (ls : List LstD) (next : Int) (x : LstD) (root : Bool) (w : World) (hr : RdL w v ls) (la : List LstD) (na : Int) (hla : la.length ≤ 1099511627775) (hA : ∀ V : World, RdL V v ls → Calls Try.prog 8 #[.agg #[v, .int .i64 next], lstV x, .bool root, .bool false] V fun e w' => ∃ o c, e = .returned (.tuple #[.agg #[.slice o la.length c, .int .i64 na], .int .i64 0, .int .i64 0]) ∧ w'.ownsRow V.heap.size 27 8 (.slice o la.length c) la.length (rowL la) ∧ Below V.heap.size V w') (hA2 : ∀ (V : World) (va : Value), RdL V va la → Calls Try.prog 8 #[.agg #[va, .int .i64 na], lstV x, .bool root, .bool false] V fun e w' => ∃ o c, e = .returned (.tuple #[.agg #[.slice o la.length c, .int .i64 na], .int .i64 0, .int .i64 0]) ∧ w'.ownsRow V.heap.size 27 8 (.slice o la.length c) la.length (rowL la) ∧ Below V.heap.size V w') (hC : ∀ (V : World) (va : Value), RdL V va la → Calls Try.prog 12 #[.agg #[va, .int .i64 na]] V fun e w' => e = .returned (.int .i64 0) ∧ Below V.heap.size V w') (hR : ∀ (V : World) (va : Value), RdL V va la → Calls Try.prog 16 #[.agg #[va, .int .i64 na], .int .i64 x.node, .string x.kind, .int .i64 x.cb, .bool x.cap] V fun e w' => ∃ o m c at_, e = .returned (.tuple #[.agg #[.slice o m c, .int .i64 na], .int .i64 at_, .int .i64 0]) ∧ Below V.heap.size V w') (hll : la.length = ls.length) :
    Calls Try.prog 6 #[.agg #[v, .int .i64 next], lstV x, .bool root] w fun e w' => e = .returned (.bool true) ∧ Below w.heap.size w w' := by
  have HA1 := hid hA
  have HA2 := hid hA2
  have HCk := hid hC
  have HRm := hid hR
  have hll' : ((la.length : Int) == (ls.length : Int)) = true := by rw [hll]; exact beq_self_eq_true _
  clear hA hA2 hC hR hll
  have h2n := two_new w (.cells #[v, .int .i64 next] 24) (lstO x)
  have HB0 := hid h2n.1
  have HX0 := hid h2n.2.2.1
  have HL0 : Hid (RowB w.heap.size v ls next _) := ⟨h2n.2.1, hr.later h2n.1⟩
  obtain ⟨ov, cv, rfl, _, _⟩ := hr
  clear h2n
  obtain ⟨xi, xn, xk, xc, xp, xo, xs, xg⟩ := x
  unfold lstV lstO at *
  dsimp only at *
  go_enter Try.func6, Try.ntmps6
  go_wp2_with (first
    | (go_at_call 10; refine (lives_any _).mono ?_; rintro e w1 ⟨rfl, hb⟩; have HL1 := hid (HL0.out.later hb); have HX1 := hid (blkLater hb HX0.out); have HB1 := hid (HB0.out.trans (hb.mono HB0.out.size)); obtain ⟨l0, l1, l2, l3⟩ := box_cells HL1.out.box; obtain ⟨x0, x1, x2, x3, x4, x5, x6, x7⟩ := lst_cells (x := ⟨xi, xn, xk, xc, xp, xo, xs, xg⟩) HX1.out; dsimp only at x0 x1 x2 x3 x4 x5 x6 x7; clear hb)
    | (go_at_call 8; refine (HA1.out _ HL1.out.rd).mono ?_; rintro e w2 ⟨oa, ca, rfl, hown, hb⟩; have hba : Below w2.heap.size w2 (w2.alloc (.cells #[.slice oa la.length ca, .int .i64 na] 24)) := (Below.refl _ w2).alloc (Nat.le_refl _) _; have hbb := hb.trans (hba.mono hb.size); have HL2 := hid (HL1.out.later hbb); have HX2 := hid (blkLater hbb HX1.out); have HB2 := hid (HB1.out.trans (hbb.mono HB1.out.size)); have HRa2 : Hid (RowB w2.heap.size (.slice oa la.length ca) la na _) := ⟨heap_new w2 _, own_rdL (own_later hown hba)⟩; obtain ⟨a0, a1, a2, a3⟩ := box_cells HRa2.out.box; obtain ⟨x0, x1, x2, x3, x4, x5, x6, x7⟩ := lst_cells (x := ⟨xi, xn, xk, xc, xp, xo, xs, xg⟩) HX2.out; dsimp only at x0 x1 x2 x3 x4 x5 x6 x7; clear hb hbb hba hown HA1)
    | (go_at_call 8; refine (HA2.out _ _ HRa2.out.rd).mono ?_; rintro e w3 ⟨ob, cb, rfl, hown, hb⟩; have hba : Below w3.heap.size w3 (w3.alloc (.cells #[.slice ob la.length cb, .int .i64 na] 24)) := (Below.refl _ w3).alloc (Nat.le_refl _) _; have hbb := hb.trans (hba.mono hb.size); have HL3 := hid (HL2.out.later hbb); have HRa3 := hid (HRa2.out.later hbb); have HX3 := hid (blkLater hbb HX2.out); have HB3 := hid (HB2.out.trans (hbb.mono HB2.out.size)); have HRb3 : Hid (RowB w3.heap.size (.slice ob la.length cb) la na _) := ⟨heap_new w3 _, own_rdL (own_later hown hba)⟩; obtain ⟨p0, p1, p2, p3⟩ := box_cells HRa3.out.box; clear hb hbb hba hown HA2)
    | (go_at_call 12; refine (HCk.out _ _ HRa3.out.rd).mono ?_; rintro e w4 ⟨rfl, hb⟩; have hbb := hb; have HL4 := hid (HL3.out.later hbb); have HRa4 := hid (HRa3.out.later hbb); have HRb4 := hid (HRb3.out.later hbb); have HX4 := hid (blkLater hbb HX3.out); have HB4 := hid (HB3.out.trans (hbb.mono HB3.out.size)); obtain ⟨q0, q1, q2, q3⟩ := box_cells HRa4.out.box; obtain ⟨s0, s1, s2, s3⟩ := box_cells HRb4.out.box; clear hb hbb)
    | (go_at_call 11; refine ((same_eq _ _ la na _ HRa4.out.rd HRb4.out.rd (by omega))).mono ?_; rintro e w5 ⟨rfl, hb⟩; have hbb := hb; have HL5 := hid (HL4.out.later hbb); have HRa5 := hid (HRa4.out.later hbb); have HX5 := hid (blkLater hbb HX4.out); have HB5 := hid (HB4.out.trans (hbb.mono HB4.out.size)); obtain ⟨r0, r1, r2, r3⟩ := box_cells HRa5.out.box; obtain ⟨x0, x1, x2, x3, x4, x5, x6, x7⟩ := lst_cells (x := ⟨xi, xn, xk, xc, xp, xo, xs, xg⟩) HX5.out; dsimp only at x0 x1 x2 x3 x4 x5 x6 x7; clear hb hbb)
    | (go_at_call 16; refine (HRm.out _ _ HRa5.out.rd).mono ?_; rintro e w6 ⟨oc, mc, cc, at_, rfl, hb⟩; have hba : Below w6.heap.size w6 (w6.alloc (.cells #[.slice oc mc cc, .int .i64 na] 24)) := (Below.refl _ w6).alloc (Nat.le_refl _) _; have hbb := hb.trans (hba.mono hb.size); have HL6 := hid (HL5.out.later hbb); have HRa6 := hid (HRa5.out.later hbb); have HX6 := hid (blkLater hbb HX5.out); have HB6 := hid (HB5.out.trans (hbb.mono HB5.out.size)); obtain ⟨t0, t1, t2, t3⟩ := box_cells HRa6.out.box; obtain ⟨k0, k1, k2, k3⟩ := box_cells HL6.out.box; clear hb hbb hba))
  go_ret
  exact ⟨rfl, HB6.out⟩
set_option maxRecDepth 100000 in
set_option maxHeartbeats 4000000 in
theorem once_more (v : Value) (ls : List LstD) (next : Int) (x : LstD) (root : Bool) (w : World) (hr : RdL w v ls) (hl : ls.length ≤ 1048576) (ID : Int) (la : List LstD) (na : Int) (hla : la.length ≤ 1099511627775) (hA : ∀ V : World, RdL V v ls → Calls Try.prog 8 #[.agg #[v, .int .i64 next], lstV x, .bool root, .bool false] V fun e w' => ∃ o c, e = .returned (.tuple #[.agg #[.slice o la.length c, .int .i64 na], .int .i64 ID, .int .i64 0]) ∧ w'.ownsRow V.heap.size 27 8 (.slice o la.length c) la.length (rowL la) ∧ Below V.heap.size V w') (hA2 : ∀ (V : World) (va : Value), RdL V va la → Calls Try.prog 8 #[.agg #[va, .int .i64 na], lstV x, .bool root, .bool false] V fun e w' => ∃ o c, e = .returned (.tuple #[.agg #[.slice o la.length c, .int .i64 na], .int .i64 0, .int .i64 0]) ∧ w'.ownsRow V.heap.size 27 8 (.slice o la.length c) la.length (rowL la) ∧ Below V.heap.size V w') (hC : ∀ (V : World) (va : Value), RdL V va la → Calls Try.prog 12 #[.agg #[va, .int .i64 na]] V fun e w' => e = .returned (.int .i64 0) ∧ Below V.heap.size V w') (hR : ∀ (V : World) (va : Value), RdL V va la → Calls Try.prog 16 #[.agg #[va, .int .i64 na], .int .i64 x.node, .string x.kind, .int .i64 x.cb, .bool x.cap] V fun e w' => ∃ o c, e = .returned (.tuple #[.agg #[.slice o ls.length c, .int .i64 na], .int .i64 ID, .int .i64 0]) ∧ w'.ownsRow V.heap.size 27 8 (.slice o ls.length c) ls.length (rowL ls) ∧ Below V.heap.size V w') (hID : (ID == 0) = false) (hids : ∀ y ∈ ls, y.id < ID) :
    Calls Try.prog 6 #[.agg #[v, .int .i64 next], lstV x, .bool root] w fun e w' => e = .returned (.bool true) ∧ Below w.heap.size w w' := by
  have HA1 := hid hA
  have HA2 := hid hA2
  have HCk := hid hC
  have HRm := hid hR
  have HI := hid hids
  clear hA hA2 hC hR hids
  have h2n := two_new w (.cells #[v, .int .i64 next] 24) (lstO x)
  have HB0 := hid h2n.1
  have HX0 := hid h2n.2.2.1
  have HL0 : Hid (RowB w.heap.size v ls next _) := ⟨h2n.2.1, hr.later h2n.1⟩
  have HRw : Hid (∀ V : World, Below w.heap.size w V → RdL V v ls) := fun V hV => hr.later hV
  obtain ⟨ov, cv, rfl, _, _⟩ := hr
  clear h2n
  obtain ⟨xi, xn, xk, xc, xp, xo, xs, xg⟩ := x
  unfold lstV lstO at *
  dsimp only at *
  go_enter Try.func6, Try.ntmps6
  go_wp2_with (first
    | (go_at_call 10; refine (lives_any _).mono ?_; rintro e w1 ⟨rfl, hb⟩; have HL1 := hid (HL0.out.later hb); have HX1 := hid (blkLater hb HX0.out); have HB1 := hid (HB0.out.trans (hb.mono HB0.out.size)); obtain ⟨l0, l1, l2, l3⟩ := box_cells HL1.out.box; obtain ⟨x0, x1, x2, x3, x4, x5, x6, x7⟩ := lst_cells (x := ⟨xi, xn, xk, xc, xp, xo, xs, xg⟩) HX1.out; dsimp only at x0 x1 x2 x3 x4 x5 x6 x7; clear hb)
    | (go_at_call 8; refine (HA1.out _ HL1.out.rd).mono ?_; rintro e w2 ⟨oa, ca, rfl, hown, hb⟩; have hba : Below w2.heap.size w2 (w2.alloc (.cells #[.slice oa la.length ca, .int .i64 na] 24)) := (Below.refl _ w2).alloc (Nat.le_refl _) _; have hbb := hb.trans (hba.mono hb.size); have HL2 := hid (HL1.out.later hbb); have HX2 := hid (blkLater hbb HX1.out); have HB2 := hid (HB1.out.trans (hbb.mono HB1.out.size)); have HRa2 : Hid (RowB w2.heap.size (.slice oa la.length ca) la na _) := ⟨heap_new w2 _, own_rdL (own_later hown hba)⟩; obtain ⟨a0, a1, a2, a3⟩ := box_cells HRa2.out.box; obtain ⟨x0, x1, x2, x3, x4, x5, x6, x7⟩ := lst_cells (x := ⟨xi, xn, xk, xc, xp, xo, xs, xg⟩) HX2.out; dsimp only at x0 x1 x2 x3 x4 x5 x6 x7; clear hb hbb hba hown HA1)
    | (go_at_call 8; refine (HA2.out _ _ HRa2.out.rd).mono ?_; rintro e w3 ⟨ob, cb, rfl, hown, hb⟩; have hba : Below w3.heap.size w3 (w3.alloc (.cells #[.slice ob la.length cb, .int .i64 na] 24)) := (Below.refl _ w3).alloc (Nat.le_refl _) _; have hbb := hb.trans (hba.mono hb.size); have HL3 := hid (HL2.out.later hbb); have HRa3 := hid (HRa2.out.later hbb); have HX3 := hid (blkLater hbb HX2.out); have HB3 := hid (HB2.out.trans (hbb.mono HB2.out.size)); have HRb3 : Hid (RowB w3.heap.size (.slice ob la.length cb) la na _) := ⟨heap_new w3 _, own_rdL (own_later hown hba)⟩; obtain ⟨p0, p1, p2, p3⟩ := box_cells HRa3.out.box; clear hb hbb hba hown HA2)
    | (go_at_call 12; refine (HCk.out _ _ HRa3.out.rd).mono ?_; rintro e w4 ⟨rfl, hb⟩; have hbb := hb; have HL4 := hid (HL3.out.later hbb); have HRa4 := hid (HRa3.out.later hbb); have HRb4 := hid (HRb3.out.later hbb); have HX4 := hid (blkLater hbb HX3.out); have HB4 := hid (HB3.out.trans (hbb.mono HB3.out.size)); obtain ⟨q0, q1, q2, q3⟩ := box_cells HRa4.out.box; obtain ⟨s0, s1, s2, s3⟩ := box_cells HRb4.out.box; clear hb hbb)
    | (go_at_call 11; refine ((same_eq _ _ la na _ HRa4.out.rd HRb4.out.rd (by omega))).mono ?_; rintro e w5 ⟨rfl, hb⟩; have hbb := hb; have HL5 := hid (HL4.out.later hbb); have HRa5 := hid (HRa4.out.later hbb); have HX5 := hid (blkLater hbb HX4.out); have HB5 := hid (HB4.out.trans (hbb.mono HB4.out.size)); obtain ⟨r0, r1, r2, r3⟩ := box_cells HRa5.out.box; obtain ⟨x0, x1, x2, x3, x4, x5, x6, x7⟩ := lst_cells (x := ⟨xi, xn, xk, xc, xp, xo, xs, xg⟩) HX5.out; dsimp only at x0 x1 x2 x3 x4 x5 x6 x7; clear hb hbb)
    | (go_at_call 16; refine (HRm.out _ _ HRa5.out.rd).mono ?_; rintro e w6 ⟨oc, cc, rfl, hown, hb⟩; have hba : Below w6.heap.size w6 (w6.alloc (.cells #[.slice oc ls.length cc, .int .i64 na] 24)) := (Below.refl _ w6).alloc (Nat.le_refl _) _; have hbb := hb.trans (hba.mono hb.size); have HL6 := hid (HL5.out.later hbb); have HX6 := hid (blkLater hbb HX5.out); have HB6 := hid (HB5.out.trans (hbb.mono HB5.out.size)); have hlt6 : w.heap.size < w6.heap.size := Nat.lt_of_lt_of_le (Array.getElem?_eq_some_iff.1 HL5.out.box).1 hb.size; have HOc := hid (own_later hown hba); have HCb := hid (heap_new w6 (.cells #[.slice oc ls.length cc, .int .i64 na] 24)); obtain ⟨k0, k1, k2, k3⟩ := box_cells HL6.out.box; clear hb hbb hba hown))
  have HRd6 := hid HL6.out.rd
  obtain ⟨ov2, cv2, hve, _, gv⟩ := HL6.out.rd
  simp only [Value.slice.injEq] at hve
  obtain ⟨rfl, _, rfl⟩ := hve
  have GV := hid gv
  have hsz6 : w.heap.size ≤ w6.heap.size := Nat.le_of_lt hlt6
  have hne1 : ¬ w6.heap.size = w.heap.size := by omega
  have hne2 : ¬ w.heap.size = w6.heap.size := by omega
  clear gv a0 a1 a2 a3 p0 p1 p2 p3 q0 q1 q2 q3 s0 s1 s2 s3 r0 r1 r2 r3 x0 x1 x2 x3 x4 x5 x6 x7 l0 l1 l2 l3 HRm HCk HL1 HL2 HL3 HL4 HL5 HRa2 HRa3 HRa4 HRa5 HRb3 HRb4 HX0 HX1 HX2 HX3 HX4 HX5 HX6 HB0 HB1 HB2 HB3 HB4 HB5 HL0
  go_loopw [97] (fun t wr => ∃ k : Nat, k ≤ ls.length ∧ t = .int .i64 k ∧ Hid (Below (w6.alloc (.cells #[.slice oc ls.length cc, .int .i64 na] 24)).heap.size (w6.alloc (.cells #[.slice oc ls.length cc, .int .i64 na] 24)) wr)) (fun t _ => ls.length - (RowKit.intOf t).toNat)
  case atStart => exact ⟨0, Nat.zero_le _, rfl, Below.refl _ _⟩
  case round =>
    obtain ⟨k, hk, rfl, hBB⟩ := hrel
    by_cases hlt : k < ls.length
    · obtain ⟨b, off, rfl, hlt1, ha⟩ := GV.out (by omega)
      obtain ⟨y0, y1, y2, y3, y4, y5, y6, y7⟩ := (ha k hlt).later hlt1 hBB.out
      have q1 : (0 : Int) ≤ (k : Int) := by omega
      have q2 : (k : Int) < (ls.length : Int) := by omega
      have hd : decide (ls[k].id ≥ ID) = false := decide_eq_false (by have := HI.out ls[k] (List.getElem_mem hlt); omega)
      have hb1 : Below wr.heap.size wr (wr.alloc (lstO ls[k])) := (Below.refl _ wr).alloc (Nat.le_refl _) _
      have HBB1 := hid (hBB.out.trans (hb1.mono hBB.out.size))
      clear ha GV hb1 HI
      generalize ls[k] = y at *
      unfold lstO at *
      go_wp2
      go_roundw
      case rel => exact ⟨k + 1, by omega, by go_num, HBB1⟩
      case measure => simp [RowKit.intOf]; omega
    · have HL7 := hid (HL6.out.later hBB.out)
      have HC7 := hid (blkLater hBB.out HCb.out)
      have HO7 := hid (own_later HOc.out hBB.out)
      have HB7 := hid (HB6.out.trans (hBB.out.mono HB6.out.size))
      obtain ⟨j0, j1, j2, j3⟩ := box_cells HL7.out.box
      obtain ⟨i0, i1, i2, i3⟩ := box_cells HC7.out
      have jj0 := (World.cell?_setCell_far wr ⟨w6.heap.size, 1, none⟩ ⟨w.heap.size, 0, none⟩ (.int .i64 next) hne1).trans j0
      have jj1 := (World.cell?_setCell_far wr ⟨w6.heap.size, 1, none⟩ ⟨w.heap.size, 1, none⟩ (.int .i64 next) hne1).trans j1
      have HO8 := hid (own_set (o := 1) HO7.out HC7.out (by decide) (.int .i64 next))
      have HB8 := hid (HB7.out.setCell (p := ⟨w6.heap.size, 1, none⟩) hsz6 (.int .i64 next))
      have HW : Hid (∀ V : World, Below w.heap.size w V → RdL V (.slice ov ls.length cv) ls) := HRw
      clear HL6 HCb HOc HB6 GV HI HRw
      go_wp2_with (go_at_call 11; refine (same_eq _ _ ls next _ (own_rdL HO8.out) (HW.out _ HB8.out) (by omega)).mono ?_; rintro e w9 ⟨rfl, hb⟩; have HB9 := hid (HB8.out.trans (hb.mono HB8.out.size)); clear hb)
      go_ret
      exact ⟨rfl, HB9.out⟩
theorem listenOnce_law (v : Value) (ls : List LstD) (next : Int) (x : LstD) (root : Bool) (w : World) (hr : RdL w v ls) (hw : ∀ x ∈ ls, WfL x) (hl : ls.length ≤ 1048576) (hx : WfL x) :
    Calls Try.prog 6 #[.agg #[v, .int .i64 next], lstV x, .bool root] w fun e w' => e = .returned (.bool true) ∧ Below w.heap.size w w' := by
  cases he : (orD (errC (checkD ls next)) (refusedD x) != 0) with
  | true => exact once_err v ls next x root w hr _ he (fun V hV => add_err v ls next x root false V hV hw (by omega) he)
  | false =>
    have he0 : orD (errC (checkD ls next)) (refusedD x) = 0 := by simpa using he
    obtain ⟨hc, hrf⟩ := or_parts he0
    have hlen : ls.length ≤ 1024 := by
      rcases check_parts hc with ⟨h, _⟩ | ⟨_, _, h, _⟩
      · rw [h]; exact Nat.zero_le _
      · exact h
    cases hs : (x.cb == 0 || ls.any (fun z => markEq z x)) with
    | true =>
      refine once_same v ls next x root w hr ls next (by omega) (fun V hV => add_same_any v ls next x root false V hV hw (by omega) he0 hs) (fun V va hV => add_same_any va ls next x root false V hV hw (by omega) he0 hs) (fun V va hV => ?_) (fun V va hV => ?_) rfl
      · have h := check_any va ls next V hV hw (by omega)
        rw [hc] at h
        exact h
      · cases ha : ls.any (fun z => markEq z ⟨0, x.node, x.kind, x.cb, x.cap, false, 0, 0⟩) with
        | false =>
          refine (remove_none va ls next x.node x.kind x.cb x.cap V hV hw (by omega) hc ha).mono ?_
          rintro e w' ⟨o, c, rfl, _, hb⟩
          exact ⟨o, _, c, _, rfl, hb⟩
        | true =>
          obtain ⟨j, hj, hf, _, _⟩ := first_at _ ls 0 ha
          rw [Nat.zero_add] at hf
          refine (remove_some va ls next x.node x.kind x.cb x.cap V hV hw (by omega) hc j hj hf).mono ?_
          rintro e w' ⟨o, c, rfl, _, hb⟩
          exact ⟨o, _, c, _, rfl, hb⟩
    | false =>
      rw [Bool.or_eq_false_iff] at hs
      cases hf : (((ls.length : Int) == 1024) || (next == 1099511627776)) with
      | true =>
        refine once_err v ls next x root w hr 3 rfl (fun V hV => add_full v ls next x root false V hV hw (by omega) he0 rfl hs.1 hs.2 ?_)
        cases h1 : ((ls.length : Int) == 1024) with
        | true => exact .inl rfl
        | false => rw [h1, Bool.false_or] at hf; exact .inr ⟨rfl, hf⟩
      | false =>
        rw [Bool.or_eq_false_iff] at hf
        have hX : markEq { x with id := idD next, pas := pasD x root } x = true := by rw [markEq_comm]; exact markEq_self x
        have hc2 := more_right root hc hrf hs.1 hs.2 hf.1 hf.2
        have hw2 := wf_snoc hw (wf_with hx (idD next) (pasD x root))
        have hl2 : (ls ++ [{ x with id := idD next, pas := pasD x root }]).length ≤ 1025 := by simp; omega
        have he2 : orD (errC (checkD (ls ++ [{ x with id := idD next, pas := pasD x root }]) (idD next + 1))) (refusedD x) = 0 := by rw [hc2]; exact hrf
        have hs2 : (false || (x.cb == 0 || (ls ++ [{ x with id := idD next, pas := pasD x root }]).any (fun z => markEq z x))) = true := by rw [any_snoc, Bool.or_true, Bool.or_true]
        have hfi := first_snoc hs.2 hX 0
        have hfl := filter_snoc hs.2 hX
        refine once_more v ls next x root w hr hl (idD next) (ls ++ [{ x with id := idD next, pas := pasD x root }]) (idD next + 1) (by omega) (fun V hV => add_more_any v ls next x root V hV hw (by omega) he0 hs.1 hs.2 hf.1 hf.2) (fun V va hV => add_same_any va (ls ++ [{ x with id := idD next, pas := pasD x root }]) (idD next + 1) x root false V hV hw2 (by omega) he2 hs2) (fun V va hV => ?_) (fun V va hV => ?_) ?_ (ids_below hc)
        · have h := check_any va (ls ++ [{ x with id := idD next, pas := pasD x root }]) (idD next + 1) V hV hw2 (by omega)
          rw [hc2] at h
          exact h
        · have h := remove_some va (ls ++ [{ x with id := idD next, pas := pasD x root }]) (idD next + 1) x.node x.kind x.cb x.cap V hV hw2 (by omega) hc2 ls.length (by simp) (by rw [Int.zero_add] at hfi; exact hfi)
          have hg : (ls ++ [{ x with id := idD next, pas := pasD x root }])[ls.length]'(by simp) = { x with id := idD next, pas := pasD x root } := by simp
          rw [hg] at h
          have hfl2 : (ls ++ [{ x with id := idD next, pas := pasD x root }]).filter (fun z => !markEq z ⟨0, x.node, x.kind, x.cb, x.cap, false, 0, 0⟩) = ls := hfl
          rw [hfl2] at h
          exact h
        · unfold idD
          split
          · rfl
          · exact beq_eq_false_iff_ne.2 (by omega)
end Go.Proofs.Ytnlcojhmioamnaa
