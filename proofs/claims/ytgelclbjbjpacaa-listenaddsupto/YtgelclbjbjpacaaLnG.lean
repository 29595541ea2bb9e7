/- listen: Check. -/
import Derived.Test.YtgelclbjbjpacaaLnF
import Derived.Deep.DeepCutAuto
import Derived.Deep.CutRange
namespace Go.Proofs.Ytgelclbjbjpacaa
open Go.RowKit Go.Lib Go.Shelf Go.Maps Go.MapKept Go.ChangeMaps

theorem below_setBlock {n B : Nat} {a w : World} (h : Below n a w) (hB : n ≤ B) (o : Obj) : Below n a (setBlock w B o) :=
  ⟨h.os, h.tape, h.output, by unfold setBlock; simpa using h.size, fun k hk => by
    unfold setBlock
    rw [Array.getElem?_setIfInBounds]
    rw [if_neg (by omega)]
    exact h.block k hk⟩
theorem LCells.setBlock {w : World} {B X o : Nat} {x : LstD} (h : LCells w X o x) (hne : X ≠ B) (ob : Obj) : LCells (setBlock w B ob) X o x := by
  have hc : ∀ i, (ChangeMaps.setBlock w B ob).cell? ⟨X, i, none⟩ = w.cell? ⟨X, i, none⟩ := fun i => World.cell?_of_block (w := w) (a := ⟨X, i, none⟩) (by
    unfold ChangeMaps.setBlock
    show (w.heap.setIfInBounds B ob)[X]? = _
    rw [Array.getElem?_setIfInBounds, if_neg (fun e => hne e.symm)])
  exact ⟨(hc _).trans h.id, (hc _).trans h.node, (hc _).trans h.kind, (hc _).trans h.cb, (hc _).trans h.cap, (hc _).trans h.once, (hc _).trans h.pas, (hc _).trans h.sig⟩
theorem run_makeSeen (n : Int) (w : World) : (Instr.makeMap 65 (some (.int .i64 n))).run Try.prog w = .ok (.map (some w.heap.size)) (w.alloc (.map #[] 0)) := by
  simp [Instr.makeMap, run_underlying seenT, asInt, asIntOf, Result.andThen]
theorem good_step (next last : Int) (seen : List LstD) (x : LstD) (r : List LstD) : goodD next last seen (x :: r) = (decide (last < x.id) && (decide (x.id < next) && (fairD x && (!(seen.any (markEq x)) && goodD next x.id (seen ++ [x]) r)))) := rfl
theorem take_step {α : Type} (l : List α) (k : Nat) (h : k < l.length) : l.take (k + 1) = l.take k ++ [l[k]] := by rw [List.take_add_one, List.getElem?_eq_getElem h]; rfl

set_option maxRecDepth 100000 in
set_option maxHeartbeats 4000000 in
theorem check_any (v : Value) (ls : List LstD) (next : Int) (w : World) (hr : RdL w v ls) (hw : ∀ x ∈ ls, WfL x) (hl : ls.length ≤ 1099511627776) :
    Calls Try.prog 12 #[.agg #[v, .int .i64 next]] w fun e w' => e = .returned (.int .i64 (errC (checkD ls next))) ∧ Below w.heap.size w w' := by
  obtain ⟨o, cap, rfl, hcap, g⟩ := hr
  obtain ⟨R, hR⟩ : ∃ R, errC (checkD ls next) = R := ⟨_, rfl⟩
  rw [hR]
  unfold checkD at hR
  have hB1 : Below w.heap.size w (w.alloc (.cells #[.slice o ls.length cap, .int .i64 next] 24)) := (Below.refl _ w).alloc (Nat.le_refl _) _
  have HB1 := hid hB1
  clear hB1
  have ee : ((ls.length : Int) == 0) = ls.isEmpty := by cases ls <;> simp; omega
  cases e1 : ls.isEmpty && next == 0 with
  | true =>
    rw [e1, Bool.true_or] at hR
    obtain rfl : 0 = R := hR
    rw [Bool.and_eq_true] at e1
    rw [e1.1] at ee
    have e2 := e1.2
    clear e1 g
    go_enter Try.func12, Try.ntmps12
    go_wp2
    go_ret
    exact ⟨rfl, HB1.out⟩
  | false =>
    rw [e1, Bool.false_or] at hR
    have e2 : ((ls.length : Int) == 0) = true → (next == 0) = false := fun h => by rw [ee] at h; rw [h, Bool.true_and] at e1; exact e1
    cases e3 : decide (1 ≤ next) && decide (next ≤ 1099511627776) && decide (ls.length ≤ 1024) with
    | false =>
      have hRf : R = 2 := by
        rw [← hR]
        have : (decide (1 ≤ next) && decide (next ≤ 1099511627776) && (decide (ls.length ≤ 1024) && goodD next 0 [] ls)) = false := by
          rw [← Bool.and_assoc, e3, Bool.false_and]
        rw [this]
        rfl
      subst hRf
      have e4 : decide (next < 1) = true ∨ (decide (next < 1) = false ∧ decide (next > 1099511627776) = true) ∨ (decide (next < 1) = false ∧ decide (next > 1099511627776) = false ∧ decide ((ls.length : Int) > 1024) = true) := by
        by_cases h1 : next < 1
        · exact .inl (decide_eq_true h1)
        · by_cases h2 : next > 1099511627776
          · exact .inr (.inl ⟨decide_eq_false h1, decide_eq_true h2⟩)
          · refine .inr (.inr ⟨decide_eq_false h1, decide_eq_false h2, decide_eq_true ?_⟩)
            rw [decide_eq_true (by omega : 1 ≤ next), decide_eq_true (by omega : next ≤ 1099511627776), Bool.true_and, Bool.true_and, decide_eq_false_iff_not] at e3
            omega
      clear e1 e3 hR ee g
      cases e5 : ((ls.length : Int) == 0)
      case' true => have e6 := e2 e5
      all_goals
        clear e2
        rcases e4 with e4 | ⟨e4, e7⟩ | ⟨e4, e7, e8⟩
        all_goals
          go_enter Try.func12, Try.ntmps12
          go_wp2
          go_ret
          exact ⟨rfl, HB1.out⟩
    | true =>
      rw [← Bool.and_assoc, e3, Bool.true_and] at hR
      simp only [Bool.and_eq_true, decide_eq_true_eq] at e3
      have e4 : decide (next < 1) = false := decide_eq_false (by omega)
      have e7 : decide (next > 1099511627776) = false := decide_eq_false (by omega)
      have e8 : decide ((ls.length : Int) > 1024) = false := decide_eq_false (by omega)
      have hl2 : ls.length ≤ 1024 := e3.2
      have HR : Hid (errC (goodD next 0 (ls.take 0) (ls.drop 0)) = R) := hR
      have h2n := two_new w (.cells #[.slice o ls.length cap, .int .i64 next] 24) (.map #[] 0)
      have HBm := hid h2n.1
      have HC0 := hid h2n.2.1
      have HM0 : Hid (SeenAt _ (w.heap.size + 1) (ls.take 0)) := h2n.2.2.1
      have hmm := run_makeSeen (ls.length : Int)
      have G := hid g
      have HW := hid hw
      clear h2n hR e3 e1 ee g hw HB1
      cases e5 : ((ls.length : Int) == 0)
      case' true => have e6 := e2 e5
      all_goals
        clear e2
        go_enter Try.func12, Try.ntmps12
        go_wp2
        try clear e5
        try clear e6
        go_loopw [37, 4] (fun t u wr => ∃ (k : Nat) (last : Int), k ≤ ls.length ∧ t = .int .i64 k ∧ u = .int .i64 last ∧ Hid (0 ≤ last) ∧ Hid (∀ y ∈ ls.take k, 0 < y.id) ∧ Hid (Below w.heap.size w wr) ∧ Hid (wr.heap[w.heap.size]? = some (.cells #[.slice o ls.length cap, .int .i64 next] 24)) ∧ Hid (SeenAt wr (w.heap.size + 1) (ls.take k)) ∧ Hid (errC (goodD next last (ls.take k) (ls.drop k)) = R)) (fun t _ _ => ls.length - (RowKit.intOf t).toNat)
        case atStart => exact ⟨0, 0, Nat.zero_le _, rfl, rfl, Int.le_refl _, fun y hy => (by simp at hy), HBm, HC0, HM0, HR⟩
        case round =>
          obtain ⟨k, last, hk, rfl, rfl, hlast, hids, hB, hC, hS, hG⟩ := hrel
          clear HBm HC0 HM0 HR hmm
          by_cases hlt : k < ls.length
          · obtain ⟨b, off, rfl, hlt1, ha⟩ := G.out (by omega)
            have hx := (ha k hlt).later hlt1 hB.out
            have q1 : (0 : Int) ≤ (k : Int) := by omega
            have q2 : (k : Int) < (ls.length : Int) := by omega
            have hgd := hG.out
            rw [List.drop_eq_getElem_cons hlt, good_step] at hgd
            have Hgd := hid hgd
            have Hts := hid (take_step ls k hlt)
            have Hwx := hid (HW.out ls[k] (List.getElem_mem hlt))
            have Hwk : Hid (∀ y ∈ ls.take k, WfL y) := fun y hy => HW.out y (List.mem_of_mem_take hy)
            clear hgd hG ha G HW
            generalize ls[k] = x at *
            have HF : Hid (∀ V : World, _) := fun V => fair_any x V
            have HMk : Hid (∀ V : World, _) := fun V => markOf_any x V
            have hbX : Below wr.heap.size wr (wr.alloc (lstO x)) := (Below.refl _ wr).alloc (Nat.le_refl _) _
            have hX := lst_cells (heap_new wr (lstO x))
            have hCl := (Array.getElem?_eq_some_iff.1 hC.out).1
            have hSl := (Array.getElem?_eq_some_iff.1 hS.out).1
            have hC1 := blkLater hbX hC.out
            have hS1 : SeenAt (wr.alloc (lstO x)) (w.heap.size + 1) (ls.take k) := blkLater hbX hS.out
            have hB1 := hB.out.trans (hbX.mono hB.out.size)
            have hn1 : (wr.alloc (lstO x)).cell? ⟨w.heap.size, 1, none⟩ = some (.int .i64 next) := (cell_of_heap hC1 1).trans rfl
            have hsX : (wr.alloc (lstO x)).heap.size = wr.heap.size + 1 := by simp
            obtain ⟨x0, x1, x2, x3, x4, x5, x6, x7⟩ := hx
            have hXc := hX
            obtain ⟨y0, y1, y2, y3, y4, y5, y6, y7⟩ := hXc
            have HX1 := hid hX
            have HC1 := hid hC1
            have HS1 := hid hS1
            have HB1 := hid hB1
            clear hX hC1 hS1 hB1 hbX hB hC hS
            unfold lstV at HF HMk
            unfold markV at HMk
            unfold lstO at *
            by_cases g1 : x.id ≤ last
            · have d1 : decide (x.id ≤ last) = true := decide_eq_true g1
              have hRf : R = 2 := by rw [← Hgd.out, decide_eq_false (by omega : ¬ last < x.id), Bool.false_and]; rfl
              subst hRf
              clear Hgd HF HMk Hts
              go_wp2
              go_ret
              exact ⟨rfl, HB1.out⟩
            · have d1 : decide (x.id ≤ last) = false := decide_eq_false g1
              by_cases g2 : x.id ≥ next
              · have d2 : decide (x.id ≥ next) = true := decide_eq_true g2
                have hRf : R = 2 := by rw [← Hgd.out, decide_eq_false (by omega : ¬ x.id < next), Bool.false_and, Bool.and_false]; rfl
                subst hRf
                clear Hgd HF HMk Hts
                go_wp2
                go_ret
                exact ⟨rfl, HB1.out⟩
              · have d2 : decide (x.id ≥ next) = false := decide_eq_false g2
                have hgd := Hgd.out
                rw [decide_eq_true (by omega : last < x.id), decide_eq_true (by omega : x.id < next), Bool.true_and, Bool.true_and] at hgd
                have Hid0 := hid (show 0 < x.id by have := hlast.out; omega)
                clear Hgd g1 g2
                cases hf : fairD x with
                | false =>
                  rw [hf] at HF hgd
                  have hRf : R = 2 := by rw [← hgd]; rfl
                  subst hRf
                  clear hgd HMk Hts hf
                  go_wp2_with (go_at_call 36; refine (HF.out _).mono ?_; rintro e W2 ⟨rfl, hb⟩; have HB2 := hid (HB1.out.trans (hb.mono HB1.out.size)); clear hb)
                  go_ret
                  exact ⟨rfl, HB2.out⟩
                | true =>
                  rw [hf] at HF hgd
                  rw [Bool.true_and] at hgd
                  have Hgd := hid hgd
                  clear hgd hf
                  cases han : (ls.take k).any (markEq x) with
                  | true =>
                    have hRf : R = 2 := by rw [← Hgd.out, han]; rfl
                    subst hRf
                    have HL : Hid (∀ V, SeenAt V (w.heap.size + 1) (ls.take k) → _) := fun V hV => seen_look_yes hV Hwk.out Hwx.out han
                    unfold markV at HL
                    clear Hgd Hts han
                    go_wp2_with (first
                      | (go_at_call 36; refine (HF.out _).mono ?_; rintro e W2 ⟨rfl, hb⟩; have HB2 := hid (HB1.out.trans (hb.mono HB1.out.size)); have HX2 := HX1.out.later (by omega) hb; obtain ⟨z0, z1, z2, z3, z4, z5, z6, z7⟩ := HX2; have HS2 := hid (blkLater hb HS1.out); clear hb)
                      | (go_at_call 31; refine (HMk.out _).mono ?_; rintro e W3 ⟨rfl, hb⟩; have HB3 := hid (HB2.out.trans (hb.mono HB2.out.size)); obtain ⟨y, hy, hlook⟩ := HL.out W3 (blkLater hb HS2.out); have hy0 : (y.id != 0) = true := (bne_iff_ne.2 (by have := hids.out y hy; omega)); clear hb))
                    go_ret
                    exact ⟨rfl, HB3.out⟩
                  | false =>
                    have hgd := Hgd.out
                    rw [han, Bool.not_false, Bool.true_and] at hgd
                    have HL : Hid (∀ V, SeenAt V (w.heap.size + 1) (ls.take k) → _) := fun V hV => seen_look_no hV Hwk.out Hwx.out han
                    unfold markV at HL
                    have Han := hid han
                    have Hg2 := hid hgd
                    clear Hgd hgd han
                    go_upto_region 11 with (first
                      | (go_at_call 36; refine (HF.out _).mono ?_; rintro e W2 ⟨rfl, hb⟩; have HB2x := hid (HB1.out.trans (hb.mono HB1.out.size)); have HX2 := HX1.out.later (by omega) hb; have HX2h := hid HX2; obtain ⟨z0, z1, z2, z3, z4, z5, z6, z7⟩ := HX2; have HS2 := hid (blkLater hb HS1.out); have HC2 := hid (blkLater hb HC1.out); have Hz2 := hid hb.size; clear hb)
                      | (go_at_call 31; refine (HMk.out _).mono ?_; rintro e W3 ⟨rfl, hb⟩; have HB2 := hid (HB2x.out.trans (hb.mono HB2x.out.size)); have HX := hid (HX2h.out.later (n := W2.heap.size) (by have := Hz2.out; omega) hb); have HS3 := hid (blkLater hb HS2.out); have HC3 := hid (blkLater hb HC2.out); have hlook := HL.out W3 (blkLater hb HS2.out); have Hz3 := hid hb.size; clear hb HL))
                    have HXl : Hid (wr.heap.size < W3.heap.size) := by have := Hz2.out; have := Hz3.out; show _ < _; omega
                    have HXB : Hid (wr.heap.size ≠ w.heap.size + 1) := by show _ ≠ _; omega
                    have HBl : Hid (w.heap.size ≤ w.heap.size + 1) := by show _ ≤ _; omega
                    have HCB : Hid (w.heap.size ≠ w.heap.size + 1) := by show _ ≠ _; omega
                    have hXl := HXl.out
                    clear hlook HC1 HX1 HS1 HB1 HF HX2h HS2 HC2 HB2x Hz2 Hz3 z0 z1 z2 z3 z4 z5 z6 z7 x0 x1 x2 x3 x4 x5 x6 x7 y0 y1 y2 y3 y4 y5 y6 y7 hn1
                    generalize hXe : wr.heap.size = X at *
                    generalize hBe : w.heap.size + 1 = B at *
                    refine wp_region_held_drew (S := fun V => LCells V X 0 x) (by kernel_rfl) (HX.out.later (by omega) ((Below.refl W3.heap.size W3).drew)) (fun hHeld => ?_)
                    have HB_V0 : Hid (Below W3.heap.size W3 W3.drew) := (Below.refl _ _).drew
                    generalize W3.drew = V0 at *
                    refine wpAnyH_one 0 64 (.map (some B)) hHeld rfl rfl (by kernel_rfl) (fun _ _ _ _ _ h => h) (by kernel_rfl) (by kernel_rfl) (by rfl) ?_ ?_
                    · intro V hSw; (try dsimp only at hSw); go_simp
                    simp only [Act.put, List.setIfInBounds_toArray, List.set_cons_zero, List.set_cons_succ]
                    refine wpAnyH_one 1 65 (.agg #[.int .i64 x.id, .int .i64 x.node, .string x.kind, .int .i64 x.cb, .bool x.cap, .bool x.once, .int .u8 (x.pas : Int), .int .i64 x.sig]) hHeld rfl rfl (by kernel_rfl) (fun _ _ _ _ _ h => h) (by kernel_rfl) (by kernel_rfl) (by rfl) ?_ ?_
                    · intro V hSw; (try dsimp only at hSw); obtain ⟨k0, k1, k2, k3, k4, k5, k6, k7⟩ := hSw; go_simp
                    simp only [Act.put, List.setIfInBounds_toArray, List.set_cons_zero, List.set_cons_succ]
                    refine wpAnyH_one 3 67 (.pointer (some ⟨X, 0, none⟩)) hHeld rfl rfl (by kernel_rfl) (fun _ _ _ _ _ h => h) (by kernel_rfl) (by kernel_rfl) (by rfl) ?_ ?_
                    · intro V hSw; (try dsimp only at hSw); go_simp
                    simp only [Act.put, List.setIfInBounds_toArray, List.set_cons_zero, List.set_cons_succ]
                    refine wpAnyH_one 4 68 (.int .i64 x.id) hHeld rfl rfl (by kernel_rfl) (fun _ _ _ _ _ h => h) (by kernel_rfl) (by kernel_rfl) (by rfl) ?_ ?_
                    · intro V hSw; (try dsimp only at hSw); obtain ⟨k0, k1, k2, k3, k4, k5, k6, k7⟩ := hSw; go_simp
                    simp only [Act.put, List.setIfInBounds_toArray, List.set_cons_zero, List.set_cons_succ]
                    refine wpAnyH_one 5 69 (.pointer (some ⟨X, 0, none⟩)) hHeld rfl rfl (by kernel_rfl) (fun _ _ _ _ _ h => h) (by kernel_rfl) (by kernel_rfl) (by rfl) ?_ ?_
                    · intro V hSw; (try dsimp only at hSw); go_simp
                    simp only [Act.put, List.setIfInBounds_toArray, List.set_cons_zero, List.set_cons_succ]
                    refine wpAnyH_one 6 70 (.int .i64 x.id) hHeld rfl rfl (by kernel_rfl) (fun _ _ _ _ _ h => h) (by kernel_rfl) (by kernel_rfl) (by rfl) ?_ ?_
                    · intro V hSw; (try dsimp only at hSw); obtain ⟨k0, k1, k2, k3, k4, k5, k6, k7⟩ := hSw; go_simp
                    simp only [Act.put, List.setIfInBounds_toArray, List.set_cons_zero, List.set_cons_succ]
                    refine wpAnyH_ready (rs := [2]) (by kernel_rfl) (by simp) ?_
                    refine AllReadyH.cons rfl (fun K hK => ?_) AllReadyH.nil
                    go_simp
                    go_wp2_with (go_at_call 31; refine (HMk.out _).mono ?_; rintro e V1 ⟨rfl, hb⟩)
                    have HB_V1 := hid (HB_V0.out.trans (hb.mono HB_V0.out.size))
                    have HX1 : LCells V1 X 0 x := HX.out.later HXl.out HB_V1.out
                    have HS1 : SeenAt V1 B (ls.take k) := blkLater HB_V1.out HS3.out
                    have hent := seen_entry HS1 Hwk.out Hwx.out Han.out
                    unfold markV at hent
                    obtain ⟨V2, hV2⟩ : ∃ V2, setBlock V1 B (.map (seenN (ls.take k) x) ((ls.take k).length + 1)) = V2 := ⟨_, rfl⟩
                    have h2 := heap_setBlock_same HS1 (.map (seenN (ls.take k) x) ((ls.take k).length + 1))
                    have HX2 := HX1.setBlock HXB.out (.map (seenN (ls.take k) x) ((ls.take k).length + 1))
                    have HBw2 := hid (below_setBlock (HB2.out.trans (HB_V1.out.mono HB2.out.size)) HBl.out (.map (seenN (ls.take k) x) ((ls.take k).length + 1)))
                    have HC2 := heap_setBlock_other HS1 (.map (seenN (ls.take k) x) ((ls.take k).length + 1)) HCB.out
                    rw [blkLater HB_V1.out HC3.out] at HC2
                    rw [hV2] at hent h2 HX2 HBw2 HC2
                    have hsto := seen_store h2
                    have h3 := heap_setBlock_same h2 (.map (seenE (ls.take k ++ [x]) 0).toArray (ls.take k ++ [x]).length)
                    have HX3 := HX2.setBlock HXB.out (.map (seenE (ls.take k ++ [x]) 0).toArray (ls.take k ++ [x]).length)
                    have HBw3 := hid (below_setBlock HBw2.out HBl.out (.map (seenE (ls.take k ++ [x]) 0).toArray (ls.take k ++ [x]).length))
                    have HC3b := heap_setBlock_other h2 (.map (seenE (ls.take k ++ [x]) 0).toArray (ls.take k ++ [x]).length) HCB.out
                    rw [HC2] at HC3b
                    obtain ⟨V3, hV3⟩ : ∃ V3, setBlock V2 B (.map (seenE (ls.take k ++ [x]) 0).toArray (ls.take k ++ [x]).length) = V3 := ⟨_, rfl⟩
                    rw [hV3] at hsto h3 HX3 HBw3 HC3b
                    have hlk : (ls.take k).length = k := by rw [List.length_take]; omega
                    rw [hlk] at hent hsto
                    have Hsn : Hid (SeenAt V3 B (ls.take k ++ [x])) := h3
                    have HC := hid HC3b
                    clear hV2 hV3 h2 h3 HS1 HC2 HC3b HBw2 hlk
                    refine hK.out _ _ HX1 (fun hHeld => ?_)
                    clear hK K hb
                    refine wpAnyH_ready (rs := [7]) (by kernel_rfl) (by simp) ?_
                    refine AllReadyH.cons rfl (fun K hK => ?_) AllReadyH.nil
                    go_simp
                    refine hK.out _ _ HX2 (fun hHeld => ?_)
                    clear hK K
                    refine wpAnyH_one 8 72 (.int .i64 (k : Int)) hHeld rfl rfl (by kernel_rfl) (fun _ _ _ _ _ h => h) (by kernel_rfl) (by kernel_rfl) (by rfl) ?_ ?_
                    · intro V hSw; (try dsimp only at hSw); go_simp
                    simp only [Act.put, List.setIfInBounds_toArray, List.set_cons_zero, List.set_cons_succ]
                    refine wpAnyH_ready (rs := [9]) (by kernel_rfl) (by simp) ?_
                    refine AllReadyH.cons rfl (fun K hK => ?_) AllReadyH.nil
                    go_simp
                    refine hK.out _ _ HX3 (fun hHeld => ?_)
                    clear hK K
                    refine wpAnyH_one 10 4 (.int .i64 x.id) hHeld rfl rfl (by kernel_rfl) (fun _ _ _ _ _ h => h) (by kernel_rfl) (by kernel_rfl) (by rfl) ?_ ?_
                    · intro V hSw; (try dsimp only at hSw); go_simp
                    simp only [Act.put, List.setIfInBounds_toArray, List.set_cons_zero, List.set_cons_succ]
                    refine wpAnyH_done (by kernel_rfl) ?_ _
                    subst hBe
                    subst hXe
                    go_wp2
                    go_roundw
                    case rel => exact ⟨k + 1, x.id, by omega, by go_num, rfl, Int.le_of_lt Hid0.out, by rw [Hts.out]; exact fun y hy => (List.mem_append.1 hy).elim (fun h => hids.out y h) (fun h => by rw [List.mem_singleton.1 h]; exact Hid0.out), HBw3, HC, by rw [Hts.out]; exact Hsn, by rw [Hts.out]; exact Hg2⟩
                    case measure => simp [RowKit.intOf]; omega
          · have hRk : R = 0 := by
              rw [← hG.out, List.drop_eq_nil_of_le (by omega)]
              rfl
            subst hRk
            clear hG G HW hids
            go_wp2
            go_ret
            exact ⟨rfl, hB.out⟩
end Go.Proofs.Ytgelclbjbjpacaa
