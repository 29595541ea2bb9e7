/- iterate: what becomes of a tree when a node is removed (removalOf): the rows, the variable and the node ahead, in whatever order. -/
/- iterate: an iterator that is copied (copyOf). -/
/- iterate: an iterator behind a removal (follow). -/
import Derived.Test.YticenjhhefiboaaGreatFFIt0FSkipH
import Derived.Test.YticenjhhefiboaaGreatFFWkPFWkI
namespace Go.Proofs.YticenjhhefiboaaGreat
open Go.RowKit Go.Lib Go.Shelf
attribute [local go_sem] Oper.semAt_some

theorem heap_lt {V : World} {g : Nat} {o : Obj} (h : V.heap[g]? = some o) : g < V.heap.size := (Array.getElem?_eq_some_iff.1 h).1
theorem keep_blk {V V' : World} {g : Nat} {o : Obj} (hb : Below V.heap.size V V') (h : V.heap[g]? = some o) : V'.heap[g]? = some o := (hb.block g (heap_lt h)).trans h
theorem below_drew (w : World) : Below w.heap.size w w.drew := ⟨rfl, rfl, rfl, Nat.le_refl _, fun _ _ => rfl⟩
theorem wp_then_false {P : Program} {c : Code} {K : Act → World → Prop} {Q : Exit → Act → World → Prop} {a : Act} {w : World} (h : c.wp P (Exit.then K fun _ _ _ => False) a w) : c.wp P (Exit.then K Q) a w :=
  wp_mono h (fun e _ _ hq => by cases e <;> first | exact hq | exact hq.elim)
/-- The way up from a node, to the first one that has a sibling behind it. -/
def endPath (s : Int → Int) : List Int → List Int
  | [] => []
  | y :: l => if s y == 0 then y :: endPath s l else [y]
/-- The first sibling behind a node or one above it. -/
def scanN (s : Int → Int) : List Int → Int
  | [] => 0
  | y :: l => if s y == 0 then scanN s l else s y
theorem endPath_none (s : Int → Int) : ∀ l : List Int, (∀ y ∈ l, s y = 0) → endPath s l = l ∧ scanN s l = 0
  | [], _ => ⟨rfl, rfl⟩
  | y :: l, h => by
    obtain ⟨h1, h2⟩ := endPath_none s l (fun z hz => h z (List.mem_cons_of_mem _ hz))
    have e := h y (List.mem_cons_self ..)
    unfold endPath scanN
    rw [e, h1, h2]
    exact ⟨rfl, rfl⟩
theorem endPath_at (s : Int → Int) (z : Int) (hz : s z ≠ 0) : ∀ (p t : List Int), (∀ y ∈ p, s y = 0) → endPath s (p ++ ([z] ++ t)) = p ++ [z] ∧ scanN s (p ++ ([z] ++ t)) = s z
  | [], t, _ => by
    have e : (s z == 0) = false := beq_eq_false_iff_ne.2 hz
    simp only [List.nil_append, List.cons_append]
    unfold endPath scanN
    rw [e]
    exact ⟨rfl, rfl⟩
  | y :: p, t, h => by
    obtain ⟨h1, h2⟩ := endPath_at s z hz p t (fun q hq => h q (List.mem_cons_of_mem _ hq))
    have e := h y (List.mem_cons_self ..)
    show endPath s (y :: (p ++ ([z] ++ t))) = y :: (p ++ [z]) ∧ scanN s (y :: (p ++ ([z] ++ t))) = s z
    unfold endPath scanN
    rw [e, h1, h2]
    exact ⟨rfl, rfl⟩
def withinL (ns : List NodeD) (x : Int) : List Bool := markL (List.replicate (ns.length + 1) false) (belowF (kidsD ns) (ns.length + 1) x)
def endedL (ns : List NodeD) (x : Int) : List Bool := markL (List.replicate (ns.length + 1) false) (endPath (nextH (parentD ns) (kidsD ns)) (pathUp ns (parentD ns) x))
def nextR (ns : List NodeD) (x : Int) : Int := scanN (nextH (parentD ns) (kidsD ns)) (pathUp ns (parentD ns) x)
/-- A removal as it is made: its rows, and itself. -/
structure RemAt (w0 : World) (N : Nat) (pv : Int) (bw be br : Nat) (W : World) : Prop where
  below : Below w0.heap.size w0 W
  within : BoolsAt W bw (List.replicate N false)
  ended : BoolsAt W be (List.replicate N false)
  self : W.heap[br]? = some (.cells #[.slice (some ⟨bw, 0, none⟩) N N, .slice (some ⟨be, 0, none⟩) N N, .int .i64 0, .int .i64 pv] 67)
  d1 : bw ≠ be
  d2 : bw ≠ br
  d3 : be ≠ br
  l1 : w0.heap.size ≤ bw
  l2 : w0.heap.size ≤ be
  l3 : w0.heap.size ≤ br
theorem four_setI {V : World} {g : Nat} {a b c d : Value} {t : TypeId} (h : V.heap[g]? = some (.cells #[a, b, c, d] t)) (p q r s : Value) :
    ((((V.setCell ⟨g, 0, none⟩ p).setCell ⟨g, 1, none⟩ q).setCell ⟨g, 2, none⟩ r).setCell ⟨g, 3, none⟩ s).heap[g]? = some (.cells #[p, q, r, s] t) := by
  have st : ∀ (W : World) (k : Nat) (v : Value) (cur : Array Value), W.heap[g]? = some (.cells cur t) → (W.setCell ⟨g, k, none⟩ v).heap[g]? = some (.cells (cur.setIfInBounds k v) t) := fun W k v cur hW => by
    simp [World.setCell, Array.getElem?_modify, hW]
  exact st _ 3 s _ (st _ 2 r _ (st _ 1 q _ (st _ 0 p _ h)))
theorem rem_leaf {w0 V : World} {N : Nat} {pv : Int} {bw be br : Nat} (hB : Below w0.heap.size w0 V) (hw : V.heap[bw]? = some (.cells (madeCells #[.bool false] N) 4)) (he : V.heap[be]? = some (.cells (madeCells #[.bool false] N) 4)) (hr : V.heap[br]? = some (.cells #[.slice none 0 0, .slice none 0 0, .int .i64 0, .int .i64 0] 67)) (d1 : bw ≠ be) (d2 : bw ≠ br) (d3 : be ≠ br) (l1 : w0.heap.size ≤ bw) (l2 : w0.heap.size ≤ be) (l3 : w0.heap.size ≤ br) :
    RemAt w0 N pv bw be br ((((V.setCell ⟨br, 0, none⟩ (.slice (some ⟨bw, 0, none⟩) N N)).setCell ⟨br, 1, none⟩ (.slice (some ⟨be, 0, none⟩) N N)).setCell ⟨br, 2, none⟩ (.int .i64 0)).setCell ⟨br, 3, none⟩ (.int .i64 pv)) where
  below := (((hB.setCell (p := ⟨br, 0, none⟩) l3 _).setCell (p := ⟨br, 1, none⟩) l3 _).setCell (p := ⟨br, 2, none⟩) l3 _).setCell (p := ⟨br, 3, none⟩) l3 _
  within := ((((bools_made hw).far 0 _ d2.symm).far 1 _ d2.symm).far 2 _ d2.symm).far 3 _ d2.symm
  ended := ((((bools_made he).far 0 _ d3.symm).far 1 _ d3.symm).far 2 _ d3.symm).far 3 _ d3.symm
  self := four_setI hr _ _ _ _
  d1 := d1
  d2 := d2
  d3 := d3
  l1 := l1
  l2 := l2
  l3 := l3

theorem blk_far {V : World} {k g j : Nat} {o : Obj} (h : V.heap[k]? = some o) (v : Value) (hne : g ≠ k) : (V.setCell ⟨g, j, none⟩ v).heap[k]? = some o := by
  rw [← h]
  simp [World.setCell, Array.getElem?_modify, hne]
theorem blk_kept {V V' : World} {k : Nat} {c : Array Value} {t : TypeId} {fz : Nat × Nat} {row : Option Nat} (h : V.heap[k]? = some (.cells c t fz)) (hg : V.grownBy V' row) (hr : ∀ r, row = some r → ∃ o : Obj, V.heap[r]? = some o ∧ o.isCells = false) : V'.heap[k]? = some (.cells c t fz) :=
  heap_growI h hg (fun e => by
    obtain ⟨o, ho, hc⟩ := hr k e
    rw [h] at ho
    cases ho
    cases hc)
theorem third_set {V : World} {g : Nat} {a b c d : Value} {t : TypeId} (h : V.heap[g]? = some (.cells #[a, b, c, d] t)) (r : Value) : (V.setCell ⟨g, 2, none⟩ r).heap[g]? = some (.cells #[a, b, r, d] t) := by
  simp [World.setCell, Array.getElem?_modify, h]

/-- The end: what is handed back lies in its block, the mark of the rounds is taken. -/
theorem rem_end {w W : World} {g D bw be B : Nat} {a b c d : Value} {t : TypeId} {m e : List Bool} (h : W.heap[g]? = some (.cells #[a, b, c, d] t)) (hK : W.heap[D]? = some (.deferred (some []))) (hw : BoolsAt W bw m) (he : BoolsAt W be e) (hB : Below B w W) (n1 : g ≠ D) (n2 : g ≠ bw) (n3 : g ≠ be) (n4 : B ≤ g) (n5 : B ≤ D) (p q r s : Value) :
    ∃ W', W' = (((W.setCell ⟨g, 0, none⟩ p).setCell ⟨g, 1, none⟩ q).setCell ⟨g, 2, none⟩ r).setCell ⟨g, 3, none⟩ s ∧ W'.heap[D]? = some (.deferred (some [])) ∧ ((W'.putObj D (.deferred none)).cell? ⟨g, 0, none⟩ = some p ∧ (W'.putObj D (.deferred none)).cell? ⟨g, 1, none⟩ = some q ∧ (W'.putObj D (.deferred none)).cell? ⟨g, 2, none⟩ = some r ∧ (W'.putObj D (.deferred none)).cell? ⟨g, 3, none⟩ = some s) ∧ BoolsAt (W'.putObj D (.deferred none)) bw m ∧ BoolsAt (W'.putObj D (.deferred none)) be e ∧ Below B w (W'.putObj D (.deferred none)) := by
  have hK' := blk_far (j := 3) (blk_far (j := 2) (blk_far (j := 1) (blk_far (j := 0) hK p n1) q n1) r n1) s n1
  have h4 := four_setI h p q r s
  have hw4 := (((hw.far 0 p n2).far 1 q n2).far 2 r n2).far 3 s n2
  have he4 := (((he.far 0 p n3).far 1 q n3).far 2 r n3).far 3 s n3
  have hB4 := (((hB.setCell (p := ⟨g, 0, none⟩) n4 p).setCell (p := ⟨g, 1, none⟩) n4 q).setCell (p := ⟨g, 2, none⟩) n4 r).setCell (p := ⟨g, 3, none⟩) n4 s
  refine ⟨_, rfl, hK', ?_, blk_kept hw4 (grownBy_putObj' _ D (.deferred none)) (fun r e => by cases e; exact ⟨_, hK', rfl⟩), blk_kept he4 (grownBy_putObj' _ D (.deferred none)) (fun r e => by cases e; exact ⟨_, hK', rfl⟩), hB4.trans ?_⟩
  · exact sv_cells (blk_kept h4 (grownBy_putObj' _ D (.deferred none)) (fun r e => by cases e; exact ⟨_, hK', rfl⟩))
  · refine ⟨rfl, rfl, rfl, by simp [World.putObj], fun k hk => ?_⟩
    have : D ≠ k := by omega
    simp [World.putObj, this]

set_option maxRecDepth 100000 in
set_option maxHeartbeats 16000000 in
theorem removalOf_any (b off cap N : Nat) (x : Int) (ns : List NodeD) (w : World) (hR : RightF ns) (hF : FAt w b off cap ns) (hN : N = ns.length + 1) (hx : thereB ns.length x = true) :
    Calls Tryz.prog 39 #[.agg #[.slice (some ⟨b, off, none⟩) ns.length cap], .int .i64 x] w fun e w' => ∃ bw be : Nat, e = .returned (.agg #[.slice (some ⟨bw, 0, none⟩) N N, .slice (some ⟨be, 0, none⟩) N N, .int .i64 (nextR ns x), .int .i64 (aheadC ns 0 x)]) ∧ BoolsAt w' bw (withinL ns x) ∧ BoolsAt w' be (endedL ns x) ∧ Below w.heap.size w w' := by
  have hsm := hR.small
  have hmk := make_bools N (by omega)
  have HA0 : Hid (∀ V : World, Below w.heap.size w V → _) := fun V hV => iahead_any b off cap 0 x ns V hR (hF.later hV) hx
  generalize aheadC ns 0 x = pv at *
  obtain ⟨bx, g0, g1, sx⟩ := two_new w (.cells #[.slice (some ⟨b, off, none⟩) ns.length cap] 24) (.cells #[.slice none 0 0, .slice none 0 0, .int .i64 0, .int .i64 0] 67)
  have cF := hid (box_cell_l g0).1
  have HNi := hid (show (ns.length : Int) + 1 = (N : Int) by omega)
  have HNN := hid hN
  clear hN
  have hle := hF.len
  have HW0 := hid bx
  have HL0 := hid (show w.heap.size < _ by rw [sx]; omega : w.heap.size < ((w.alloc (.cells #[.slice (some ⟨b, off, none⟩) ns.length cap] 24)).alloc (.cells #[.slice none 0 0, .slice none 0 0, .int .i64 0, .int .i64 0] 67)).heap.size)
  refine (callsIn_wide (n := 6)).1 ?_
  refine callsIn_of_wp_marks Tryz.func39 rfl trivial ?_ rfl
  simp only [Tryz.ntmps39, List.size_toArray, List.length_cons, List.length_nil, Nat.reduceAdd, Nat.reduceSub, Array.replicate_succ, Array.replicate_zero, List.push_toArray, List.append_toArray, List.nil_append, List.cons_append]
  refine wpIn_wide.2 ?_
  go_upto_region 2 with fail
  generalize ((w.alloc (.cells #[.slice (some ⟨b, off, none⟩) ns.length cap] 24)).alloc (.cells #[.slice none 0 0, .slice none 0 0, .int .i64 0, .int .i64 0] 67)) = w0 at *
  rw [HNi.out]
  have HA : Hid (∀ V : World, Below w0.heap.size w0 V → _) := fun V hV => HA0.out V (HW0.out.trans (hV.mono HW0.out.size))
  have HG0 := hid g0
  have HG1 := hid g1
  have Hsx := hid sx
  have HmkR := hid hmk
  clear bx g0 g1 sx
  go_cut [6] from 12 to 19 (fun t wx => ∃ bw be br : Nat, t = .pointer (some ⟨br, 0, none⟩) ∧ RemAt w0 N pv bw be br wx)
  case first =>
    refine wp_then_false ?_
    refine wp_region_held_drew (S := fun W => Below w0.heap.size w0 W) (by kernel_rfl) (below_drew w0) (fun hHeld => ?_)
    have HB0 := hid (below_drew w0)
    generalize w0.drew = V0 at *
    refine wpAnyH_one 0 12 (.int .i64 (N : Int)) hHeld rfl rfl (by kernel_rfl) (fun _ _ _ _ _ h => h) (by kernel_rfl) (by kernel_rfl) (by rfl) ?_ ?_
    · intro V hSw; (try dsimp only at hSw); go_simp
    simp only [Act.put, List.setIfInBounds_toArray, List.set_cons_zero, List.set_cons_succ]
    refine wpAnyH_one 2 14 (.int .i64 (N : Int)) hHeld rfl rfl (by kernel_rfl) (fun _ _ _ _ _ h => h) (by kernel_rfl) (by kernel_rfl) (by rfl) ?_ ?_
    · intro V hSw; (try dsimp only at hSw); go_simp
    simp only [Act.put, List.setIfInBounds_toArray, List.set_cons_zero, List.set_cons_succ]
    refine wpAnyH_one 4 16 (.agg #[.slice (some ⟨b, off, none⟩) ns.length cap]) hHeld rfl rfl (by kernel_rfl) (fun _ _ _ _ _ h => h) (by kernel_rfl) (by kernel_rfl) (by rfl) ?_ ?_
    · intro V hSw; (try dsimp only at hSw); have cf := (hSw.cell (p := ⟨w.heap.size, 0, none⟩) HL0.out).trans cF.out; go_simp
    simp only [Act.put, List.setIfInBounds_toArray, List.set_cons_zero, List.set_cons_succ]
    refine wpAnyH_one 5 17 (.int .i64 x) hHeld rfl rfl (by kernel_rfl) (fun _ _ _ _ _ h => h) (by kernel_rfl) (by kernel_rfl) (by rfl) ?_ ?_
    · intro V hSw; (try dsimp only at hSw); go_simp
    simp only [Act.put, List.setIfInBounds_toArray, List.set_cons_zero, List.set_cons_succ]
    refine wpAnyH_ready (rs := [1, 3, 6, 8]) (by kernel_rfl) (by simp) ?_
    refine AllReadyH.cons rfl (fun K hK => ?_) (AllReadyH.cons rfl (fun K hK => ?_) (AllReadyH.cons rfl (fun K hK => ?_) (AllReadyH.cons rfl (fun K hK => ?_) (AllReadyH.nil))))
    · go_simp
      have Fw1 := heap_new V0 (.cells (madeCells #[.bool false] N) 4)
      have hb : Below V0.heap.size V0 (V0.alloc (.cells (madeCells #[.bool false] N) 4)) := (Below.refl _ V0).alloc (Nat.le_refl _) _
      have HB1 := hid (HB0.out.trans (hb.mono HB0.out.size))
      have b1 := HB0.out.size
      generalize V0.alloc (.cells (madeCells #[.bool false] N) 4) = V1 at *
      clear hb
      refine hK.out _ _ HB1.out (fun hHeld => ?_)
      clear hK K
      refine wpAnyH_ready (rs := [3, 6, 8]) (by kernel_rfl) (by simp) ?_
      refine AllReadyH.cons rfl (fun K hK => ?_) (AllReadyH.cons rfl (fun K hK => ?_) (AllReadyH.cons rfl (fun K hK => ?_) (AllReadyH.nil)))
      · go_simp
        have Fe2 := heap_new V1 (.cells (madeCells #[.bool false] N) 4)
        have hb : Below V1.heap.size V1 (V1.alloc (.cells (madeCells #[.bool false] N) 4)) := (Below.refl _ V1).alloc (Nat.le_refl _) _
        have HB2 := hid (HB1.out.trans (hb.mono HB1.out.size))
        have b3 := HB1.out.size
        have n13 := Nat.ne_of_lt (heap_lt Fw1)
        generalize V1.alloc (.cells (madeCells #[.bool false] N) 4) = V2 at *
        have Fw2 := keep_blk hb Fw1
        clear hb Fw1
        refine hK.out _ _ HB2.out (fun hHeld => ?_)
        clear hK K
        refine wpAnyH_ready (rs := [6, 8]) (by kernel_rfl) (by simp) ?_
        refine AllReadyH.cons rfl (fun K hK => ?_) (AllReadyH.cons rfl (fun K hK => ?_) (AllReadyH.nil))
        · go_simp
          go_wp2_with (go_at_call 37; refine (HA.out V2 HB2.out).mono ?_; rintro e V3 ⟨rfl, hb⟩; have HB3 := hid (HB2.out.trans (hb.mono HB2.out.size)))
          have Fw3 := keep_blk hb Fw2
          have Fe3 := keep_blk hb Fe2
          clear hb Fw2 Fe2
          refine hK.out _ _ HB3.out (fun hHeld => ?_)
          clear hK K
          refine wpAnyH_one 7 19 (.agg #[.slice (some ⟨V0.heap.size, 0, none⟩) N N, .slice (some ⟨V1.heap.size, 0, none⟩) N N, .int .i64 0, .int .i64 pv]) hHeld rfl rfl (by kernel_rfl) (fun _ _ _ _ _ h => h) (by kernel_rfl) (by kernel_rfl) (by rfl) ?_ ?_
          · intro V hSw; (try dsimp only at hSw); go_simp
          simp only [Act.put, List.setIfInBounds_toArray, List.set_cons_zero, List.set_cons_succ]
          refine wpAnyH_ready (rs := [8]) (by kernel_rfl) (by simp) ?_
          refine AllReadyH.cons rfl (fun K hK => ?_) (AllReadyH.nil)
          · go_simp
            have Fr4 := heap_new V3 (.cells #[.slice none 0 0, .slice none 0 0, .int .i64 0, .int .i64 0] 67)
            have hb : Below V3.heap.size V3 (V3.alloc (.cells #[.slice none 0 0, .slice none 0 0, .int .i64 0, .int .i64 0] 67)) := (Below.refl _ V3).alloc (Nat.le_refl _) _
            have HB4 := hid (HB3.out.trans (hb.mono HB3.out.size))
            have b8 := HB3.out.size
            have n18 := Nat.ne_of_lt (heap_lt Fw3)
            have n38 := Nat.ne_of_lt (heap_lt Fe3)
            generalize V3.alloc (.cells #[.slice none 0 0, .slice none 0 0, .int .i64 0, .int .i64 0] 67) = V4 at *
            have Fw4 := keep_blk hb Fw3
            have Fe4 := keep_blk hb Fe3
            clear hb Fw3 Fe3
            refine hK.out _ _ HB4.out (fun hHeld => ?_)
            clear hK K
            obtain ⟨z0, z1, z2, z3⟩ := sv_cells Fr4
            obtain ⟨y0, y1, y2, y3⟩ := sv_free Fr4
            refine wpAnyH_ready (rs := [9]) (by kernel_rfl) (by simp) ?_
            refine AllReadyH.cons rfl (fun K hK => ?_) AllReadyH.nil
            go_simp
            have HL := hid (rem_leaf (pv := pv) HB4.out Fw4 Fe4 Fr4 n13 n18 n38 b1 b3 b8)
            refine hK.out _ _ (HL.out.below) (fun hHeld => ?_)
            clear hK K
            refine wpAnyH_done (by kernel_rfl) ?_ _
            go_wp2_with fail
            go_meet
            exact ⟨_, _, _, rfl, HL.out⟩
        · go_simp
          have Fr3 := heap_new V2 (.cells #[.slice none 0 0, .slice none 0 0, .int .i64 0, .int .i64 0] 67)
          have hb : Below V2.heap.size V2 (V2.alloc (.cells #[.slice none 0 0, .slice none 0 0, .int .i64 0, .int .i64 0] 67)) := (Below.refl _ V2).alloc (Nat.le_refl _) _
          have HB3 := hid (HB2.out.trans (hb.mono HB2.out.size))
          have b8 := HB2.out.size
          have n18 := Nat.ne_of_lt (heap_lt Fw2)
          have n38 := Nat.ne_of_lt (heap_lt Fe2)
          generalize V2.alloc (.cells #[.slice none 0 0, .slice none 0 0, .int .i64 0, .int .i64 0] 67) = V3 at *
          have Fw3 := keep_blk hb Fw2
          have Fe3 := keep_blk hb Fe2
          clear hb Fw2 Fe2
          refine hK.out _ _ HB3.out (fun hHeld => ?_)
          clear hK K
          refine wpAnyH_ready (rs := [6]) (by kernel_rfl) (by simp) ?_
          refine AllReadyH.cons rfl (fun K hK => ?_) (AllReadyH.nil)
          · go_simp
            go_wp2_with (go_at_call 37; refine (HA.out V3 HB3.out).mono ?_; rintro e V4 ⟨rfl, hb⟩; have HB4 := hid (HB3.out.trans (hb.mono HB3.out.size)))
            have Fw4 := keep_blk hb Fw3
            have Fe4 := keep_blk hb Fe3
            have Fr4 := keep_blk hb Fr3
            clear hb Fw3 Fe3 Fr3
            refine hK.out _ _ HB4.out (fun hHeld => ?_)
            clear hK K
            refine wpAnyH_one 7 19 (.agg #[.slice (some ⟨V0.heap.size, 0, none⟩) N N, .slice (some ⟨V1.heap.size, 0, none⟩) N N, .int .i64 0, .int .i64 pv]) hHeld rfl rfl (by kernel_rfl) (fun _ _ _ _ _ h => h) (by kernel_rfl) (by kernel_rfl) (by rfl) ?_ ?_
            · intro V hSw; (try dsimp only at hSw); go_simp
            simp only [Act.put, List.setIfInBounds_toArray, List.set_cons_zero, List.set_cons_succ]
            obtain ⟨z0, z1, z2, z3⟩ := sv_cells Fr4
            obtain ⟨y0, y1, y2, y3⟩ := sv_free Fr4
            refine wpAnyH_ready (rs := [9]) (by kernel_rfl) (by simp) ?_
            refine AllReadyH.cons rfl (fun K hK => ?_) AllReadyH.nil
            go_simp
            have HL := hid (rem_leaf (pv := pv) HB4.out Fw4 Fe4 Fr4 n13 n18 n38 b1 b3 b8)
            refine hK.out _ _ (HL.out.below) (fun hHeld => ?_)
            clear hK K
            refine wpAnyH_done (by kernel_rfl) ?_ _
            go_wp2_with fail
            go_meet
            exact ⟨_, _, _, rfl, HL.out⟩
      · go_simp
        go_wp2_with (go_at_call 37; refine (HA.out V1 HB1.out).mono ?_; rintro e V2 ⟨rfl, hb⟩; have HB2 := hid (HB1.out.trans (hb.mono HB1.out.size)))
        have Fw2 := keep_blk hb Fw1
        clear hb Fw1
        refine hK.out _ _ HB2.out (fun hHeld => ?_)
        clear hK K
        refine wpAnyH_ready (rs := [3, 8]) (by kernel_rfl) (by simp) ?_
        refine AllReadyH.cons rfl (fun K hK => ?_) (AllReadyH.cons rfl (fun K hK => ?_) (AllReadyH.nil))
        · go_simp
          have Fe3 := heap_new V2 (.cells (madeCells #[.bool false] N) 4)
          have hb : Below V2.heap.size V2 (V2.alloc (.cells (madeCells #[.bool false] N) 4)) := (Below.refl _ V2).alloc (Nat.le_refl _) _
          have HB3 := hid (HB2.out.trans (hb.mono HB2.out.size))
          have b3 := HB2.out.size
          have n13 := Nat.ne_of_lt (heap_lt Fw2)
          generalize V2.alloc (.cells (madeCells #[.bool false] N) 4) = V3 at *
          have Fw3 := keep_blk hb Fw2
          clear hb Fw2
          refine hK.out _ _ HB3.out (fun hHeld => ?_)
          clear hK K
          refine wpAnyH_one 7 19 (.agg #[.slice (some ⟨V0.heap.size, 0, none⟩) N N, .slice (some ⟨V2.heap.size, 0, none⟩) N N, .int .i64 0, .int .i64 pv]) hHeld rfl rfl (by kernel_rfl) (fun _ _ _ _ _ h => h) (by kernel_rfl) (by kernel_rfl) (by rfl) ?_ ?_
          · intro V hSw; (try dsimp only at hSw); go_simp
          simp only [Act.put, List.setIfInBounds_toArray, List.set_cons_zero, List.set_cons_succ]
          refine wpAnyH_ready (rs := [8]) (by kernel_rfl) (by simp) ?_
          refine AllReadyH.cons rfl (fun K hK => ?_) (AllReadyH.nil)
          · go_simp
            have Fr4 := heap_new V3 (.cells #[.slice none 0 0, .slice none 0 0, .int .i64 0, .int .i64 0] 67)
            have hb : Below V3.heap.size V3 (V3.alloc (.cells #[.slice none 0 0, .slice none 0 0, .int .i64 0, .int .i64 0] 67)) := (Below.refl _ V3).alloc (Nat.le_refl _) _
            have HB4 := hid (HB3.out.trans (hb.mono HB3.out.size))
            have b8 := HB3.out.size
            have n18 := Nat.ne_of_lt (heap_lt Fw3)
            have n38 := Nat.ne_of_lt (heap_lt Fe3)
            generalize V3.alloc (.cells #[.slice none 0 0, .slice none 0 0, .int .i64 0, .int .i64 0] 67) = V4 at *
            have Fw4 := keep_blk hb Fw3
            have Fe4 := keep_blk hb Fe3
            clear hb Fw3 Fe3
            refine hK.out _ _ HB4.out (fun hHeld => ?_)
            clear hK K
            obtain ⟨z0, z1, z2, z3⟩ := sv_cells Fr4
            obtain ⟨y0, y1, y2, y3⟩ := sv_free Fr4
            refine wpAnyH_ready (rs := [9]) (by kernel_rfl) (by simp) ?_
            refine AllReadyH.cons rfl (fun K hK => ?_) AllReadyH.nil
            go_simp
            have HL := hid (rem_leaf (pv := pv) HB4.out Fw4 Fe4 Fr4 n13 n18 n38 b1 b3 b8)
            refine hK.out _ _ (HL.out.below) (fun hHeld => ?_)
            clear hK K
            refine wpAnyH_done (by kernel_rfl) ?_ _
            go_wp2_with fail
            go_meet
            exact ⟨_, _, _, rfl, HL.out⟩
        · go_simp
          have Fr3 := heap_new V2 (.cells #[.slice none 0 0, .slice none 0 0, .int .i64 0, .int .i64 0] 67)
          have hb : Below V2.heap.size V2 (V2.alloc (.cells #[.slice none 0 0, .slice none 0 0, .int .i64 0, .int .i64 0] 67)) := (Below.refl _ V2).alloc (Nat.le_refl _) _
          have HB3 := hid (HB2.out.trans (hb.mono HB2.out.size))
          have b8 := HB2.out.size
          have n18 := Nat.ne_of_lt (heap_lt Fw2)
          generalize V2.alloc (.cells #[.slice none 0 0, .slice none 0 0, .int .i64 0, .int .i64 0] 67) = V3 at *
          have Fw3 := keep_blk hb Fw2
          clear hb Fw2
          refine hK.out _ _ HB3.out (fun hHeld => ?_)
          clear hK K
          refine wpAnyH_ready (rs := [3]) (by kernel_rfl) (by simp) ?_
          refine AllReadyH.cons rfl (fun K hK => ?_) (AllReadyH.nil)
          · go_simp
            have Fe4 := heap_new V3 (.cells (madeCells #[.bool false] N) 4)
            have hb : Below V3.heap.size V3 (V3.alloc (.cells (madeCells #[.bool false] N) 4)) := (Below.refl _ V3).alloc (Nat.le_refl _) _
            have HB4 := hid (HB3.out.trans (hb.mono HB3.out.size))
            have b3 := HB3.out.size
            have n13 := Nat.ne_of_lt (heap_lt Fw3)
            have n83 := Nat.ne_of_lt (heap_lt Fr3)
            generalize V3.alloc (.cells (madeCells #[.bool false] N) 4) = V4 at *
            have Fw4 := keep_blk hb Fw3
            have Fr4 := keep_blk hb Fr3
            clear hb Fw3 Fr3
            refine hK.out _ _ HB4.out (fun hHeld => ?_)
            clear hK K
            refine wpAnyH_one 7 19 (.agg #[.slice (some ⟨V0.heap.size, 0, none⟩) N N, .slice (some ⟨V3.heap.size, 0, none⟩) N N, .int .i64 0, .int .i64 pv]) hHeld rfl rfl (by kernel_rfl) (fun _ _ _ _ _ h => h) (by kernel_rfl) (by kernel_rfl) (by rfl) ?_ ?_
            · intro V hSw; (try dsimp only at hSw); go_simp
            simp only [Act.put, List.setIfInBounds_toArray, List.set_cons_zero, List.set_cons_succ]
            obtain ⟨z0, z1, z2, z3⟩ := sv_cells Fr4
            obtain ⟨y0, y1, y2, y3⟩ := sv_free Fr4
            refine wpAnyH_ready (rs := [9]) (by kernel_rfl) (by simp) ?_
            refine AllReadyH.cons rfl (fun K hK => ?_) AllReadyH.nil
            go_simp
            have HL := hid (rem_leaf (pv := pv) HB4.out Fw4 Fe4 Fr4 n13 n18 n83.symm b1 b3 b8)
            refine hK.out _ _ (HL.out.below) (fun hHeld => ?_)
            clear hK K
            refine wpAnyH_done (by kernel_rfl) ?_ _
            go_wp2_with fail
            go_meet
            exact ⟨_, _, _, rfl, HL.out⟩
      · go_simp
        have Fr2 := heap_new V1 (.cells #[.slice none 0 0, .slice none 0 0, .int .i64 0, .int .i64 0] 67)
        have hb : Below V1.heap.size V1 (V1.alloc (.cells #[.slice none 0 0, .slice none 0 0, .int .i64 0, .int .i64 0] 67)) := (Below.refl _ V1).alloc (Nat.le_refl _) _
        have HB2 := hid (HB1.out.trans (hb.mono HB1.out.size))
        have b8 := HB1.out.size
        have n18 := Nat.ne_of_lt (heap_lt Fw1)
        generalize V1.alloc (.cells #[.slice none 0 0, .slice none 0 0, .int .i64 0, .int .i64 0] 67) = V2 at *
        have Fw2 := keep_blk hb Fw1
        clear hb Fw1
        refine hK.out _ _ HB2.out (fun hHeld => ?_)
        clear hK K
        refine wpAnyH_ready (rs := [3, 6]) (by kernel_rfl) (by simp) ?_
        refine AllReadyH.cons rfl (fun K hK => ?_) (AllReadyH.cons rfl (fun K hK => ?_) (AllReadyH.nil))
        · go_simp
          have Fe3 := heap_new V2 (.cells (madeCells #[.bool false] N) 4)
          have hb : Below V2.heap.size V2 (V2.alloc (.cells (madeCells #[.bool false] N) 4)) := (Below.refl _ V2).alloc (Nat.le_refl _) _
          have HB3 := hid (HB2.out.trans (hb.mono HB2.out.size))
          have b3 := HB2.out.size
          have n13 := Nat.ne_of_lt (heap_lt Fw2)
          have n83 := Nat.ne_of_lt (heap_lt Fr2)
          generalize V2.alloc (.cells (madeCells #[.bool false] N) 4) = V3 at *
          have Fw3 := keep_blk hb Fw2
          have Fr3 := keep_blk hb Fr2
          clear hb Fw2 Fr2
          refine hK.out _ _ HB3.out (fun hHeld => ?_)
          clear hK K
          refine wpAnyH_ready (rs := [6]) (by kernel_rfl) (by simp) ?_
          refine AllReadyH.cons rfl (fun K hK => ?_) (AllReadyH.nil)
          · go_simp
            go_wp2_with (go_at_call 37; refine (HA.out V3 HB3.out).mono ?_; rintro e V4 ⟨rfl, hb⟩; have HB4 := hid (HB3.out.trans (hb.mono HB3.out.size)))
            have Fw4 := keep_blk hb Fw3
            have Fr4 := keep_blk hb Fr3
            have Fe4 := keep_blk hb Fe3
            clear hb Fw3 Fr3 Fe3
            refine hK.out _ _ HB4.out (fun hHeld => ?_)
            clear hK K
            refine wpAnyH_one 7 19 (.agg #[.slice (some ⟨V0.heap.size, 0, none⟩) N N, .slice (some ⟨V2.heap.size, 0, none⟩) N N, .int .i64 0, .int .i64 pv]) hHeld rfl rfl (by kernel_rfl) (fun _ _ _ _ _ h => h) (by kernel_rfl) (by kernel_rfl) (by rfl) ?_ ?_
            · intro V hSw; (try dsimp only at hSw); go_simp
            simp only [Act.put, List.setIfInBounds_toArray, List.set_cons_zero, List.set_cons_succ]
            obtain ⟨z0, z1, z2, z3⟩ := sv_cells Fr4
            obtain ⟨y0, y1, y2, y3⟩ := sv_free Fr4
            refine wpAnyH_ready (rs := [9]) (by kernel_rfl) (by simp) ?_
            refine AllReadyH.cons rfl (fun K hK => ?_) AllReadyH.nil
            go_simp
            have HL := hid (rem_leaf (pv := pv) HB4.out Fw4 Fe4 Fr4 n13 n18 n83.symm b1 b3 b8)
            refine hK.out _ _ (HL.out.below) (fun hHeld => ?_)
            clear hK K
            refine wpAnyH_done (by kernel_rfl) ?_ _
            go_wp2_with fail
            go_meet
            exact ⟨_, _, _, rfl, HL.out⟩
        · go_simp
          go_wp2_with (go_at_call 37; refine (HA.out V2 HB2.out).mono ?_; rintro e V3 ⟨rfl, hb⟩; have HB3 := hid (HB2.out.trans (hb.mono HB2.out.size)))
          have Fw3 := keep_blk hb Fw2
          have Fr3 := keep_blk hb Fr2
          clear hb Fw2 Fr2
          refine hK.out _ _ HB3.out (fun hHeld => ?_)
          clear hK K
          refine wpAnyH_ready (rs := [3]) (by kernel_rfl) (by simp) ?_
          refine AllReadyH.cons rfl (fun K hK => ?_) (AllReadyH.nil)
          · go_simp
            have Fe4 := heap_new V3 (.cells (madeCells #[.bool false] N) 4)
            have hb : Below V3.heap.size V3 (V3.alloc (.cells (madeCells #[.bool false] N) 4)) := (Below.refl _ V3).alloc (Nat.le_refl _) _
            have HB4 := hid (HB3.out.trans (hb.mono HB3.out.size))
            have b3 := HB3.out.size
            have n13 := Nat.ne_of_lt (heap_lt Fw3)
            have n83 := Nat.ne_of_lt (heap_lt Fr3)
            generalize V3.alloc (.cells (madeCells #[.bool false] N) 4) = V4 at *
            have Fw4 := keep_blk hb Fw3
            have Fr4 := keep_blk hb Fr3
            clear hb Fw3 Fr3
            refine hK.out _ _ HB4.out (fun hHeld => ?_)
            clear hK K
            refine wpAnyH_one 7 19 (.agg #[.slice (some ⟨V0.heap.size, 0, none⟩) N N, .slice (some ⟨V3.heap.size, 0, none⟩) N N, .int .i64 0, .int .i64 pv]) hHeld rfl rfl (by kernel_rfl) (fun _ _ _ _ _ h => h) (by kernel_rfl) (by kernel_rfl) (by rfl) ?_ ?_
            · intro V hSw; (try dsimp only at hSw); go_simp
            simp only [Act.put, List.setIfInBounds_toArray, List.set_cons_zero, List.set_cons_succ]
            obtain ⟨z0, z1, z2, z3⟩ := sv_cells Fr4
            obtain ⟨y0, y1, y2, y3⟩ := sv_free Fr4
            refine wpAnyH_ready (rs := [9]) (by kernel_rfl) (by simp) ?_
            refine AllReadyH.cons rfl (fun K hK => ?_) AllReadyH.nil
            go_simp
            have HL := hid (rem_leaf (pv := pv) HB4.out Fw4 Fe4 Fr4 n13 n18 n83.symm b1 b3 b8)
            refine hK.out _ _ (HL.out.below) (fun hHeld => ?_)
            clear hK K
            refine wpAnyH_done (by kernel_rfl) ?_ _
            go_wp2_with fail
            go_meet
            exact ⟨_, _, _, rfl, HL.out⟩
    · go_simp
      have Fe1 := heap_new V0 (.cells (madeCells #[.bool false] N) 4)
      have hb : Below V0.heap.size V0 (V0.alloc (.cells (madeCells #[.bool false] N) 4)) := (Below.refl _ V0).alloc (Nat.le_refl _) _
      have HB1 := hid (HB0.out.trans (hb.mono HB0.out.size))
      have b3 := HB0.out.size
      generalize V0.alloc (.cells (madeCells #[.bool false] N) 4) = V1 at *
      clear hb
      refine hK.out _ _ HB1.out (fun hHeld => ?_)
      clear hK K
      refine wpAnyH_ready (rs := [1, 6, 8]) (by kernel_rfl) (by simp) ?_
      refine AllReadyH.cons rfl (fun K hK => ?_) (AllReadyH.cons rfl (fun K hK => ?_) (AllReadyH.cons rfl (fun K hK => ?_) (AllReadyH.nil)))
      · go_simp
        have Fw2 := heap_new V1 (.cells (madeCells #[.bool false] N) 4)
        have hb : Below V1.heap.size V1 (V1.alloc (.cells (madeCells #[.bool false] N) 4)) := (Below.refl _ V1).alloc (Nat.le_refl _) _
        have HB2 := hid (HB1.out.trans (hb.mono HB1.out.size))
        have b1 := HB1.out.size
        have n31 := Nat.ne_of_lt (heap_lt Fe1)
        generalize V1.alloc (.cells (madeCells #[.bool false] N) 4) = V2 at *
        have Fe2 := keep_blk hb Fe1
        clear hb Fe1
        refine hK.out _ _ HB2.out (fun hHeld => ?_)
        clear hK K
        refine wpAnyH_ready (rs := [6, 8]) (by kernel_rfl) (by simp) ?_
        refine AllReadyH.cons rfl (fun K hK => ?_) (AllReadyH.cons rfl (fun K hK => ?_) (AllReadyH.nil))
        · go_simp
          go_wp2_with (go_at_call 37; refine (HA.out V2 HB2.out).mono ?_; rintro e V3 ⟨rfl, hb⟩; have HB3 := hid (HB2.out.trans (hb.mono HB2.out.size)))
          have Fe3 := keep_blk hb Fe2
          have Fw3 := keep_blk hb Fw2
          clear hb Fe2 Fw2
          refine hK.out _ _ HB3.out (fun hHeld => ?_)
          clear hK K
          refine wpAnyH_one 7 19 (.agg #[.slice (some ⟨V1.heap.size, 0, none⟩) N N, .slice (some ⟨V0.heap.size, 0, none⟩) N N, .int .i64 0, .int .i64 pv]) hHeld rfl rfl (by kernel_rfl) (fun _ _ _ _ _ h => h) (by kernel_rfl) (by kernel_rfl) (by rfl) ?_ ?_
          · intro V hSw; (try dsimp only at hSw); go_simp
          simp only [Act.put, List.setIfInBounds_toArray, List.set_cons_zero, List.set_cons_succ]
          refine wpAnyH_ready (rs := [8]) (by kernel_rfl) (by simp) ?_
          refine AllReadyH.cons rfl (fun K hK => ?_) (AllReadyH.nil)
          · go_simp
            have Fr4 := heap_new V3 (.cells #[.slice none 0 0, .slice none 0 0, .int .i64 0, .int .i64 0] 67)
            have hb : Below V3.heap.size V3 (V3.alloc (.cells #[.slice none 0 0, .slice none 0 0, .int .i64 0, .int .i64 0] 67)) := (Below.refl _ V3).alloc (Nat.le_refl _) _
            have HB4 := hid (HB3.out.trans (hb.mono HB3.out.size))
            have b8 := HB3.out.size
            have n38 := Nat.ne_of_lt (heap_lt Fe3)
            have n18 := Nat.ne_of_lt (heap_lt Fw3)
            generalize V3.alloc (.cells #[.slice none 0 0, .slice none 0 0, .int .i64 0, .int .i64 0] 67) = V4 at *
            have Fe4 := keep_blk hb Fe3
            have Fw4 := keep_blk hb Fw3
            clear hb Fe3 Fw3
            refine hK.out _ _ HB4.out (fun hHeld => ?_)
            clear hK K
            obtain ⟨z0, z1, z2, z3⟩ := sv_cells Fr4
            obtain ⟨y0, y1, y2, y3⟩ := sv_free Fr4
            refine wpAnyH_ready (rs := [9]) (by kernel_rfl) (by simp) ?_
            refine AllReadyH.cons rfl (fun K hK => ?_) AllReadyH.nil
            go_simp
            have HL := hid (rem_leaf (pv := pv) HB4.out Fw4 Fe4 Fr4 n31.symm n18 n38 b1 b3 b8)
            refine hK.out _ _ (HL.out.below) (fun hHeld => ?_)
            clear hK K
            refine wpAnyH_done (by kernel_rfl) ?_ _
            go_wp2_with fail
            go_meet
            exact ⟨_, _, _, rfl, HL.out⟩
        · go_simp
          have Fr3 := heap_new V2 (.cells #[.slice none 0 0, .slice none 0 0, .int .i64 0, .int .i64 0] 67)
          have hb : Below V2.heap.size V2 (V2.alloc (.cells #[.slice none 0 0, .slice none 0 0, .int .i64 0, .int .i64 0] 67)) := (Below.refl _ V2).alloc (Nat.le_refl _) _
          have HB3 := hid (HB2.out.trans (hb.mono HB2.out.size))
          have b8 := HB2.out.size
          have n38 := Nat.ne_of_lt (heap_lt Fe2)
          have n18 := Nat.ne_of_lt (heap_lt Fw2)
          generalize V2.alloc (.cells #[.slice none 0 0, .slice none 0 0, .int .i64 0, .int .i64 0] 67) = V3 at *
          have Fe3 := keep_blk hb Fe2
          have Fw3 := keep_blk hb Fw2
          clear hb Fe2 Fw2
          refine hK.out _ _ HB3.out (fun hHeld => ?_)
          clear hK K
          refine wpAnyH_ready (rs := [6]) (by kernel_rfl) (by simp) ?_
          refine AllReadyH.cons rfl (fun K hK => ?_) (AllReadyH.nil)
          · go_simp
            go_wp2_with (go_at_call 37; refine (HA.out V3 HB3.out).mono ?_; rintro e V4 ⟨rfl, hb⟩; have HB4 := hid (HB3.out.trans (hb.mono HB3.out.size)))
            have Fe4 := keep_blk hb Fe3
            have Fw4 := keep_blk hb Fw3
            have Fr4 := keep_blk hb Fr3
            clear hb Fe3 Fw3 Fr3
            refine hK.out _ _ HB4.out (fun hHeld => ?_)
            clear hK K
            refine wpAnyH_one 7 19 (.agg #[.slice (some ⟨V1.heap.size, 0, none⟩) N N, .slice (some ⟨V0.heap.size, 0, none⟩) N N, .int .i64 0, .int .i64 pv]) hHeld rfl rfl (by kernel_rfl) (fun _ _ _ _ _ h => h) (by kernel_rfl) (by kernel_rfl) (by rfl) ?_ ?_
            · intro V hSw; (try dsimp only at hSw); go_simp
            simp only [Act.put, List.setIfInBounds_toArray, List.set_cons_zero, List.set_cons_succ]
            obtain ⟨z0, z1, z2, z3⟩ := sv_cells Fr4
            obtain ⟨y0, y1, y2, y3⟩ := sv_free Fr4
            refine wpAnyH_ready (rs := [9]) (by kernel_rfl) (by simp) ?_
            refine AllReadyH.cons rfl (fun K hK => ?_) AllReadyH.nil
            go_simp
            have HL := hid (rem_leaf (pv := pv) HB4.out Fw4 Fe4 Fr4 n31.symm n18 n38 b1 b3 b8)
            refine hK.out _ _ (HL.out.below) (fun hHeld => ?_)
            clear hK K
            refine wpAnyH_done (by kernel_rfl) ?_ _
            go_wp2_with fail
            go_meet
            exact ⟨_, _, _, rfl, HL.out⟩
      · go_simp
        go_wp2_with (go_at_call 37; refine (HA.out V1 HB1.out).mono ?_; rintro e V2 ⟨rfl, hb⟩; have HB2 := hid (HB1.out.trans (hb.mono HB1.out.size)))
        have Fe2 := keep_blk hb Fe1
        clear hb Fe1
        refine hK.out _ _ HB2.out (fun hHeld => ?_)
        clear hK K
        refine wpAnyH_ready (rs := [1, 8]) (by kernel_rfl) (by simp) ?_
        refine AllReadyH.cons rfl (fun K hK => ?_) (AllReadyH.cons rfl (fun K hK => ?_) (AllReadyH.nil))
        · go_simp
          have Fw3 := heap_new V2 (.cells (madeCells #[.bool false] N) 4)
          have hb : Below V2.heap.size V2 (V2.alloc (.cells (madeCells #[.bool false] N) 4)) := (Below.refl _ V2).alloc (Nat.le_refl _) _
          have HB3 := hid (HB2.out.trans (hb.mono HB2.out.size))
          have b1 := HB2.out.size
          have n31 := Nat.ne_of_lt (heap_lt Fe2)
          generalize V2.alloc (.cells (madeCells #[.bool false] N) 4) = V3 at *
          have Fe3 := keep_blk hb Fe2
          clear hb Fe2
          refine hK.out _ _ HB3.out (fun hHeld => ?_)
          clear hK K
          refine wpAnyH_one 7 19 (.agg #[.slice (some ⟨V2.heap.size, 0, none⟩) N N, .slice (some ⟨V0.heap.size, 0, none⟩) N N, .int .i64 0, .int .i64 pv]) hHeld rfl rfl (by kernel_rfl) (fun _ _ _ _ _ h => h) (by kernel_rfl) (by kernel_rfl) (by rfl) ?_ ?_
          · intro V hSw; (try dsimp only at hSw); go_simp
          simp only [Act.put, List.setIfInBounds_toArray, List.set_cons_zero, List.set_cons_succ]
          refine wpAnyH_ready (rs := [8]) (by kernel_rfl) (by simp) ?_
          refine AllReadyH.cons rfl (fun K hK => ?_) (AllReadyH.nil)
          · go_simp
            have Fr4 := heap_new V3 (.cells #[.slice none 0 0, .slice none 0 0, .int .i64 0, .int .i64 0] 67)
            have hb : Below V3.heap.size V3 (V3.alloc (.cells #[.slice none 0 0, .slice none 0 0, .int .i64 0, .int .i64 0] 67)) := (Below.refl _ V3).alloc (Nat.le_refl _) _
            have HB4 := hid (HB3.out.trans (hb.mono HB3.out.size))
            have b8 := HB3.out.size
            have n38 := Nat.ne_of_lt (heap_lt Fe3)
            have n18 := Nat.ne_of_lt (heap_lt Fw3)
            generalize V3.alloc (.cells #[.slice none 0 0, .slice none 0 0, .int .i64 0, .int .i64 0] 67) = V4 at *
            have Fe4 := keep_blk hb Fe3
            have Fw4 := keep_blk hb Fw3
            clear hb Fe3 Fw3
            refine hK.out _ _ HB4.out (fun hHeld => ?_)
            clear hK K
            obtain ⟨z0, z1, z2, z3⟩ := sv_cells Fr4
            obtain ⟨y0, y1, y2, y3⟩ := sv_free Fr4
            refine wpAnyH_ready (rs := [9]) (by kernel_rfl) (by simp) ?_
            refine AllReadyH.cons rfl (fun K hK => ?_) AllReadyH.nil
            go_simp
            have HL := hid (rem_leaf (pv := pv) HB4.out Fw4 Fe4 Fr4 n31.symm n18 n38 b1 b3 b8)
            refine hK.out _ _ (HL.out.below) (fun hHeld => ?_)
            clear hK K
            refine wpAnyH_done (by kernel_rfl) ?_ _
            go_wp2_with fail
            go_meet
            exact ⟨_, _, _, rfl, HL.out⟩
        · go_simp
          have Fr3 := heap_new V2 (.cells #[.slice none 0 0, .slice none 0 0, .int .i64 0, .int .i64 0] 67)
          have hb : Below V2.heap.size V2 (V2.alloc (.cells #[.slice none 0 0, .slice none 0 0, .int .i64 0, .int .i64 0] 67)) := (Below.refl _ V2).alloc (Nat.le_refl _) _
          have HB3 := hid (HB2.out.trans (hb.mono HB2.out.size))
          have b8 := HB2.out.size
          have n38 := Nat.ne_of_lt (heap_lt Fe2)
          generalize V2.alloc (.cells #[.slice none 0 0, .slice none 0 0, .int .i64 0, .int .i64 0] 67) = V3 at *
          have Fe3 := keep_blk hb Fe2
          clear hb Fe2
          refine hK.out _ _ HB3.out (fun hHeld => ?_)
          clear hK K
          refine wpAnyH_ready (rs := [1]) (by kernel_rfl) (by simp) ?_
          refine AllReadyH.cons rfl (fun K hK => ?_) (AllReadyH.nil)
          · go_simp
            have Fw4 := heap_new V3 (.cells (madeCells #[.bool false] N) 4)
            have hb : Below V3.heap.size V3 (V3.alloc (.cells (madeCells #[.bool false] N) 4)) := (Below.refl _ V3).alloc (Nat.le_refl _) _
            have HB4 := hid (HB3.out.trans (hb.mono HB3.out.size))
            have b1 := HB3.out.size
            have n31 := Nat.ne_of_lt (heap_lt Fe3)
            have n81 := Nat.ne_of_lt (heap_lt Fr3)
            generalize V3.alloc (.cells (madeCells #[.bool false] N) 4) = V4 at *
            have Fe4 := keep_blk hb Fe3
            have Fr4 := keep_blk hb Fr3
            clear hb Fe3 Fr3
            refine hK.out _ _ HB4.out (fun hHeld => ?_)
            clear hK K
            refine wpAnyH_one 7 19 (.agg #[.slice (some ⟨V3.heap.size, 0, none⟩) N N, .slice (some ⟨V0.heap.size, 0, none⟩) N N, .int .i64 0, .int .i64 pv]) hHeld rfl rfl (by kernel_rfl) (fun _ _ _ _ _ h => h) (by kernel_rfl) (by kernel_rfl) (by rfl) ?_ ?_
            · intro V hSw; (try dsimp only at hSw); go_simp
            simp only [Act.put, List.setIfInBounds_toArray, List.set_cons_zero, List.set_cons_succ]
            obtain ⟨z0, z1, z2, z3⟩ := sv_cells Fr4
            obtain ⟨y0, y1, y2, y3⟩ := sv_free Fr4
            refine wpAnyH_ready (rs := [9]) (by kernel_rfl) (by simp) ?_
            refine AllReadyH.cons rfl (fun K hK => ?_) AllReadyH.nil
            go_simp
            have HL := hid (rem_leaf (pv := pv) HB4.out Fw4 Fe4 Fr4 n31.symm n81.symm n38 b1 b3 b8)
            refine hK.out _ _ (HL.out.below) (fun hHeld => ?_)
            clear hK K
            refine wpAnyH_done (by kernel_rfl) ?_ _
            go_wp2_with fail
            go_meet
            exact ⟨_, _, _, rfl, HL.out⟩
      · go_simp
        have Fr2 := heap_new V1 (.cells #[.slice none 0 0, .slice none 0 0, .int .i64 0, .int .i64 0] 67)
        have hb : Below V1.heap.size V1 (V1.alloc (.cells #[.slice none 0 0, .slice none 0 0, .int .i64 0, .int .i64 0] 67)) := (Below.refl _ V1).alloc (Nat.le_refl _) _
        have HB2 := hid (HB1.out.trans (hb.mono HB1.out.size))
        have b8 := HB1.out.size
        have n38 := Nat.ne_of_lt (heap_lt Fe1)
        generalize V1.alloc (.cells #[.slice none 0 0, .slice none 0 0, .int .i64 0, .int .i64 0] 67) = V2 at *
        have Fe2 := keep_blk hb Fe1
        clear hb Fe1
        refine hK.out _ _ HB2.out (fun hHeld => ?_)
        clear hK K
        refine wpAnyH_ready (rs := [1, 6]) (by kernel_rfl) (by simp) ?_
        refine AllReadyH.cons rfl (fun K hK => ?_) (AllReadyH.cons rfl (fun K hK => ?_) (AllReadyH.nil))
        · go_simp
          have Fw3 := heap_new V2 (.cells (madeCells #[.bool false] N) 4)
          have hb : Below V2.heap.size V2 (V2.alloc (.cells (madeCells #[.bool false] N) 4)) := (Below.refl _ V2).alloc (Nat.le_refl _) _
          have HB3 := hid (HB2.out.trans (hb.mono HB2.out.size))
          have b1 := HB2.out.size
          have n31 := Nat.ne_of_lt (heap_lt Fe2)
          have n81 := Nat.ne_of_lt (heap_lt Fr2)
          generalize V2.alloc (.cells (madeCells #[.bool false] N) 4) = V3 at *
          have Fe3 := keep_blk hb Fe2
          have Fr3 := keep_blk hb Fr2
          clear hb Fe2 Fr2
          refine hK.out _ _ HB3.out (fun hHeld => ?_)
          clear hK K
          refine wpAnyH_ready (rs := [6]) (by kernel_rfl) (by simp) ?_
          refine AllReadyH.cons rfl (fun K hK => ?_) (AllReadyH.nil)
          · go_simp
            go_wp2_with (go_at_call 37; refine (HA.out V3 HB3.out).mono ?_; rintro e V4 ⟨rfl, hb⟩; have HB4 := hid (HB3.out.trans (hb.mono HB3.out.size)))
            have Fe4 := keep_blk hb Fe3
            have Fr4 := keep_blk hb Fr3
            have Fw4 := keep_blk hb Fw3
            clear hb Fe3 Fr3 Fw3
            refine hK.out _ _ HB4.out (fun hHeld => ?_)
            clear hK K
            refine wpAnyH_one 7 19 (.agg #[.slice (some ⟨V2.heap.size, 0, none⟩) N N, .slice (some ⟨V0.heap.size, 0, none⟩) N N, .int .i64 0, .int .i64 pv]) hHeld rfl rfl (by kernel_rfl) (fun _ _ _ _ _ h => h) (by kernel_rfl) (by kernel_rfl) (by rfl) ?_ ?_
            · intro V hSw; (try dsimp only at hSw); go_simp
            simp only [Act.put, List.setIfInBounds_toArray, List.set_cons_zero, List.set_cons_succ]
            obtain ⟨z0, z1, z2, z3⟩ := sv_cells Fr4
            obtain ⟨y0, y1, y2, y3⟩ := sv_free Fr4
            refine wpAnyH_ready (rs := [9]) (by kernel_rfl) (by simp) ?_
            refine AllReadyH.cons rfl (fun K hK => ?_) AllReadyH.nil
            go_simp
            have HL := hid (rem_leaf (pv := pv) HB4.out Fw4 Fe4 Fr4 n31.symm n81.symm n38 b1 b3 b8)
            refine hK.out _ _ (HL.out.below) (fun hHeld => ?_)
            clear hK K
            refine wpAnyH_done (by kernel_rfl) ?_ _
            go_wp2_with fail
            go_meet
            exact ⟨_, _, _, rfl, HL.out⟩
        · go_simp
          go_wp2_with (go_at_call 37; refine (HA.out V2 HB2.out).mono ?_; rintro e V3 ⟨rfl, hb⟩; have HB3 := hid (HB2.out.trans (hb.mono HB2.out.size)))
          have Fe3 := keep_blk hb Fe2
          have Fr3 := keep_blk hb Fr2
          clear hb Fe2 Fr2
          refine hK.out _ _ HB3.out (fun hHeld => ?_)
          clear hK K
          refine wpAnyH_ready (rs := [1]) (by kernel_rfl) (by simp) ?_
          refine AllReadyH.cons rfl (fun K hK => ?_) (AllReadyH.nil)
          · go_simp
            have Fw4 := heap_new V3 (.cells (madeCells #[.bool false] N) 4)
            have hb : Below V3.heap.size V3 (V3.alloc (.cells (madeCells #[.bool false] N) 4)) := (Below.refl _ V3).alloc (Nat.le_refl _) _
            have HB4 := hid (HB3.out.trans (hb.mono HB3.out.size))
            have b1 := HB3.out.size
            have n31 := Nat.ne_of_lt (heap_lt Fe3)
            have n81 := Nat.ne_of_lt (heap_lt Fr3)
            generalize V3.alloc (.cells (madeCells #[.bool false] N) 4) = V4 at *
            have Fe4 := keep_blk hb Fe3
            have Fr4 := keep_blk hb Fr3
            clear hb Fe3 Fr3
            refine hK.out _ _ HB4.out (fun hHeld => ?_)
            clear hK K
            refine wpAnyH_one 7 19 (.agg #[.slice (some ⟨V3.heap.size, 0, none⟩) N N, .slice (some ⟨V0.heap.size, 0, none⟩) N N, .int .i64 0, .int .i64 pv]) hHeld rfl rfl (by kernel_rfl) (fun _ _ _ _ _ h => h) (by kernel_rfl) (by kernel_rfl) (by rfl) ?_ ?_
            · intro V hSw; (try dsimp only at hSw); go_simp
            simp only [Act.put, List.setIfInBounds_toArray, List.set_cons_zero, List.set_cons_succ]
            obtain ⟨z0, z1, z2, z3⟩ := sv_cells Fr4
            obtain ⟨y0, y1, y2, y3⟩ := sv_free Fr4
            refine wpAnyH_ready (rs := [9]) (by kernel_rfl) (by simp) ?_
            refine AllReadyH.cons rfl (fun K hK => ?_) AllReadyH.nil
            go_simp
            have HL := hid (rem_leaf (pv := pv) HB4.out Fw4 Fe4 Fr4 n31.symm n81.symm n38 b1 b3 b8)
            refine hK.out _ _ (HL.out.below) (fun hHeld => ?_)
            clear hK K
            refine wpAnyH_done (by kernel_rfl) ?_ _
            go_wp2_with fail
            go_meet
            exact ⟨_, _, _, rfl, HL.out⟩
    · go_simp
      go_wp2_with (go_at_call 37; refine (HA.out V0 HB0.out).mono ?_; rintro e V1 ⟨rfl, hb⟩; have HB1 := hid (HB0.out.trans (hb.mono HB0.out.size)))
      clear hb
      refine hK.out _ _ HB1.out (fun hHeld => ?_)
      clear hK K
      refine wpAnyH_ready (rs := [1, 3, 8]) (by kernel_rfl) (by simp) ?_
      refine AllReadyH.cons rfl (fun K hK => ?_) (AllReadyH.cons rfl (fun K hK => ?_) (AllReadyH.cons rfl (fun K hK => ?_) (AllReadyH.nil)))
      · go_simp
        have Fw2 := heap_new V1 (.cells (madeCells #[.bool false] N) 4)
        have hb : Below V1.heap.size V1 (V1.alloc (.cells (madeCells #[.bool false] N) 4)) := (Below.refl _ V1).alloc (Nat.le_refl _) _
        have HB2 := hid (HB1.out.trans (hb.mono HB1.out.size))
        have b1 := HB1.out.size
        generalize V1.alloc (.cells (madeCells #[.bool false] N) 4) = V2 at *
        clear hb
        refine hK.out _ _ HB2.out (fun hHeld => ?_)
        clear hK K
        refine wpAnyH_ready (rs := [3, 8]) (by kernel_rfl) (by simp) ?_
        refine AllReadyH.cons rfl (fun K hK => ?_) (AllReadyH.cons rfl (fun K hK => ?_) (AllReadyH.nil))
        · go_simp
          have Fe3 := heap_new V2 (.cells (madeCells #[.bool false] N) 4)
          have hb : Below V2.heap.size V2 (V2.alloc (.cells (madeCells #[.bool false] N) 4)) := (Below.refl _ V2).alloc (Nat.le_refl _) _
          have HB3 := hid (HB2.out.trans (hb.mono HB2.out.size))
          have b3 := HB2.out.size
          have n13 := Nat.ne_of_lt (heap_lt Fw2)
          generalize V2.alloc (.cells (madeCells #[.bool false] N) 4) = V3 at *
          have Fw3 := keep_blk hb Fw2
          clear hb Fw2
          refine hK.out _ _ HB3.out (fun hHeld => ?_)
          clear hK K
          refine wpAnyH_one 7 19 (.agg #[.slice (some ⟨V1.heap.size, 0, none⟩) N N, .slice (some ⟨V2.heap.size, 0, none⟩) N N, .int .i64 0, .int .i64 pv]) hHeld rfl rfl (by kernel_rfl) (fun _ _ _ _ _ h => h) (by kernel_rfl) (by kernel_rfl) (by rfl) ?_ ?_
          · intro V hSw; (try dsimp only at hSw); go_simp
          simp only [Act.put, List.setIfInBounds_toArray, List.set_cons_zero, List.set_cons_succ]
          refine wpAnyH_ready (rs := [8]) (by kernel_rfl) (by simp) ?_
          refine AllReadyH.cons rfl (fun K hK => ?_) (AllReadyH.nil)
          · go_simp
            have Fr4 := heap_new V3 (.cells #[.slice none 0 0, .slice none 0 0, .int .i64 0, .int .i64 0] 67)
            have hb : Below V3.heap.size V3 (V3.alloc (.cells #[.slice none 0 0, .slice none 0 0, .int .i64 0, .int .i64 0] 67)) := (Below.refl _ V3).alloc (Nat.le_refl _) _
            have HB4 := hid (HB3.out.trans (hb.mono HB3.out.size))
            have b8 := HB3.out.size
            have n18 := Nat.ne_of_lt (heap_lt Fw3)
            have n38 := Nat.ne_of_lt (heap_lt Fe3)
            generalize V3.alloc (.cells #[.slice none 0 0, .slice none 0 0, .int .i64 0, .int .i64 0] 67) = V4 at *
            have Fw4 := keep_blk hb Fw3
            have Fe4 := keep_blk hb Fe3
            clear hb Fw3 Fe3
            refine hK.out _ _ HB4.out (fun hHeld => ?_)
            clear hK K
            obtain ⟨z0, z1, z2, z3⟩ := sv_cells Fr4
            obtain ⟨y0, y1, y2, y3⟩ := sv_free Fr4
            refine wpAnyH_ready (rs := [9]) (by kernel_rfl) (by simp) ?_
            refine AllReadyH.cons rfl (fun K hK => ?_) AllReadyH.nil
            go_simp
            have HL := hid (rem_leaf (pv := pv) HB4.out Fw4 Fe4 Fr4 n13 n18 n38 b1 b3 b8)
            refine hK.out _ _ (HL.out.below) (fun hHeld => ?_)
            clear hK K
            refine wpAnyH_done (by kernel_rfl) ?_ _
            go_wp2_with fail
            go_meet
            exact ⟨_, _, _, rfl, HL.out⟩
        · go_simp
          have Fr3 := heap_new V2 (.cells #[.slice none 0 0, .slice none 0 0, .int .i64 0, .int .i64 0] 67)
          have hb : Below V2.heap.size V2 (V2.alloc (.cells #[.slice none 0 0, .slice none 0 0, .int .i64 0, .int .i64 0] 67)) := (Below.refl _ V2).alloc (Nat.le_refl _) _
          have HB3 := hid (HB2.out.trans (hb.mono HB2.out.size))
          have b8 := HB2.out.size
          have n18 := Nat.ne_of_lt (heap_lt Fw2)
          generalize V2.alloc (.cells #[.slice none 0 0, .slice none 0 0, .int .i64 0, .int .i64 0] 67) = V3 at *
          have Fw3 := keep_blk hb Fw2
          clear hb Fw2
          refine hK.out _ _ HB3.out (fun hHeld => ?_)
          clear hK K
          refine wpAnyH_ready (rs := [3]) (by kernel_rfl) (by simp) ?_
          refine AllReadyH.cons rfl (fun K hK => ?_) (AllReadyH.nil)
          · go_simp
            have Fe4 := heap_new V3 (.cells (madeCells #[.bool false] N) 4)
            have hb : Below V3.heap.size V3 (V3.alloc (.cells (madeCells #[.bool false] N) 4)) := (Below.refl _ V3).alloc (Nat.le_refl _) _
            have HB4 := hid (HB3.out.trans (hb.mono HB3.out.size))
            have b3 := HB3.out.size
            have n13 := Nat.ne_of_lt (heap_lt Fw3)
            have n83 := Nat.ne_of_lt (heap_lt Fr3)
            generalize V3.alloc (.cells (madeCells #[.bool false] N) 4) = V4 at *
            have Fw4 := keep_blk hb Fw3
            have Fr4 := keep_blk hb Fr3
            clear hb Fw3 Fr3
            refine hK.out _ _ HB4.out (fun hHeld => ?_)
            clear hK K
            refine wpAnyH_one 7 19 (.agg #[.slice (some ⟨V1.heap.size, 0, none⟩) N N, .slice (some ⟨V3.heap.size, 0, none⟩) N N, .int .i64 0, .int .i64 pv]) hHeld rfl rfl (by kernel_rfl) (fun _ _ _ _ _ h => h) (by kernel_rfl) (by kernel_rfl) (by rfl) ?_ ?_
            · intro V hSw; (try dsimp only at hSw); go_simp
            simp only [Act.put, List.setIfInBounds_toArray, List.set_cons_zero, List.set_cons_succ]
            obtain ⟨z0, z1, z2, z3⟩ := sv_cells Fr4
            obtain ⟨y0, y1, y2, y3⟩ := sv_free Fr4
            refine wpAnyH_ready (rs := [9]) (by kernel_rfl) (by simp) ?_
            refine AllReadyH.cons rfl (fun K hK => ?_) AllReadyH.nil
            go_simp
            have HL := hid (rem_leaf (pv := pv) HB4.out Fw4 Fe4 Fr4 n13 n18 n83.symm b1 b3 b8)
            refine hK.out _ _ (HL.out.below) (fun hHeld => ?_)
            clear hK K
            refine wpAnyH_done (by kernel_rfl) ?_ _
            go_wp2_with fail
            go_meet
            exact ⟨_, _, _, rfl, HL.out⟩
      · go_simp
        have Fe2 := heap_new V1 (.cells (madeCells #[.bool false] N) 4)
        have hb : Below V1.heap.size V1 (V1.alloc (.cells (madeCells #[.bool false] N) 4)) := (Below.refl _ V1).alloc (Nat.le_refl _) _
        have HB2 := hid (HB1.out.trans (hb.mono HB1.out.size))
        have b3 := HB1.out.size
        generalize V1.alloc (.cells (madeCells #[.bool false] N) 4) = V2 at *
        clear hb
        refine hK.out _ _ HB2.out (fun hHeld => ?_)
        clear hK K
        refine wpAnyH_ready (rs := [1, 8]) (by kernel_rfl) (by simp) ?_
        refine AllReadyH.cons rfl (fun K hK => ?_) (AllReadyH.cons rfl (fun K hK => ?_) (AllReadyH.nil))
        · go_simp
          have Fw3 := heap_new V2 (.cells (madeCells #[.bool false] N) 4)
          have hb : Below V2.heap.size V2 (V2.alloc (.cells (madeCells #[.bool false] N) 4)) := (Below.refl _ V2).alloc (Nat.le_refl _) _
          have HB3 := hid (HB2.out.trans (hb.mono HB2.out.size))
          have b1 := HB2.out.size
          have n31 := Nat.ne_of_lt (heap_lt Fe2)
          generalize V2.alloc (.cells (madeCells #[.bool false] N) 4) = V3 at *
          have Fe3 := keep_blk hb Fe2
          clear hb Fe2
          refine hK.out _ _ HB3.out (fun hHeld => ?_)
          clear hK K
          refine wpAnyH_one 7 19 (.agg #[.slice (some ⟨V2.heap.size, 0, none⟩) N N, .slice (some ⟨V1.heap.size, 0, none⟩) N N, .int .i64 0, .int .i64 pv]) hHeld rfl rfl (by kernel_rfl) (fun _ _ _ _ _ h => h) (by kernel_rfl) (by kernel_rfl) (by rfl) ?_ ?_
          · intro V hSw; (try dsimp only at hSw); go_simp
          simp only [Act.put, List.setIfInBounds_toArray, List.set_cons_zero, List.set_cons_succ]
          refine wpAnyH_ready (rs := [8]) (by kernel_rfl) (by simp) ?_
          refine AllReadyH.cons rfl (fun K hK => ?_) (AllReadyH.nil)
          · go_simp
            have Fr4 := heap_new V3 (.cells #[.slice none 0 0, .slice none 0 0, .int .i64 0, .int .i64 0] 67)
            have hb : Below V3.heap.size V3 (V3.alloc (.cells #[.slice none 0 0, .slice none 0 0, .int .i64 0, .int .i64 0] 67)) := (Below.refl _ V3).alloc (Nat.le_refl _) _
            have HB4 := hid (HB3.out.trans (hb.mono HB3.out.size))
            have b8 := HB3.out.size
            have n38 := Nat.ne_of_lt (heap_lt Fe3)
            have n18 := Nat.ne_of_lt (heap_lt Fw3)
            generalize V3.alloc (.cells #[.slice none 0 0, .slice none 0 0, .int .i64 0, .int .i64 0] 67) = V4 at *
            have Fe4 := keep_blk hb Fe3
            have Fw4 := keep_blk hb Fw3
            clear hb Fe3 Fw3
            refine hK.out _ _ HB4.out (fun hHeld => ?_)
            clear hK K
            obtain ⟨z0, z1, z2, z3⟩ := sv_cells Fr4
            obtain ⟨y0, y1, y2, y3⟩ := sv_free Fr4
            refine wpAnyH_ready (rs := [9]) (by kernel_rfl) (by simp) ?_
            refine AllReadyH.cons rfl (fun K hK => ?_) AllReadyH.nil
            go_simp
            have HL := hid (rem_leaf (pv := pv) HB4.out Fw4 Fe4 Fr4 n31.symm n18 n38 b1 b3 b8)
            refine hK.out _ _ (HL.out.below) (fun hHeld => ?_)
            clear hK K
            refine wpAnyH_done (by kernel_rfl) ?_ _
            go_wp2_with fail
            go_meet
            exact ⟨_, _, _, rfl, HL.out⟩
        · go_simp
          have Fr3 := heap_new V2 (.cells #[.slice none 0 0, .slice none 0 0, .int .i64 0, .int .i64 0] 67)
          have hb : Below V2.heap.size V2 (V2.alloc (.cells #[.slice none 0 0, .slice none 0 0, .int .i64 0, .int .i64 0] 67)) := (Below.refl _ V2).alloc (Nat.le_refl _) _
          have HB3 := hid (HB2.out.trans (hb.mono HB2.out.size))
          have b8 := HB2.out.size
          have n38 := Nat.ne_of_lt (heap_lt Fe2)
          generalize V2.alloc (.cells #[.slice none 0 0, .slice none 0 0, .int .i64 0, .int .i64 0] 67) = V3 at *
          have Fe3 := keep_blk hb Fe2
          clear hb Fe2
          refine hK.out _ _ HB3.out (fun hHeld => ?_)
          clear hK K
          refine wpAnyH_ready (rs := [1]) (by kernel_rfl) (by simp) ?_
          refine AllReadyH.cons rfl (fun K hK => ?_) (AllReadyH.nil)
          · go_simp
            have Fw4 := heap_new V3 (.cells (madeCells #[.bool false] N) 4)
            have hb : Below V3.heap.size V3 (V3.alloc (.cells (madeCells #[.bool false] N) 4)) := (Below.refl _ V3).alloc (Nat.le_refl _) _
            have HB4 := hid (HB3.out.trans (hb.mono HB3.out.size))
            have b1 := HB3.out.size
            have n31 := Nat.ne_of_lt (heap_lt Fe3)
            have n81 := Nat.ne_of_lt (heap_lt Fr3)
            generalize V3.alloc (.cells (madeCells #[.bool false] N) 4) = V4 at *
            have Fe4 := keep_blk hb Fe3
            have Fr4 := keep_blk hb Fr3
            clear hb Fe3 Fr3
            refine hK.out _ _ HB4.out (fun hHeld => ?_)
            clear hK K
            refine wpAnyH_one 7 19 (.agg #[.slice (some ⟨V3.heap.size, 0, none⟩) N N, .slice (some ⟨V1.heap.size, 0, none⟩) N N, .int .i64 0, .int .i64 pv]) hHeld rfl rfl (by kernel_rfl) (fun _ _ _ _ _ h => h) (by kernel_rfl) (by kernel_rfl) (by rfl) ?_ ?_
            · intro V hSw; (try dsimp only at hSw); go_simp
            simp only [Act.put, List.setIfInBounds_toArray, List.set_cons_zero, List.set_cons_succ]
            obtain ⟨z0, z1, z2, z3⟩ := sv_cells Fr4
            obtain ⟨y0, y1, y2, y3⟩ := sv_free Fr4
            refine wpAnyH_ready (rs := [9]) (by kernel_rfl) (by simp) ?_
            refine AllReadyH.cons rfl (fun K hK => ?_) AllReadyH.nil
            go_simp
            have HL := hid (rem_leaf (pv := pv) HB4.out Fw4 Fe4 Fr4 n31.symm n81.symm n38 b1 b3 b8)
            refine hK.out _ _ (HL.out.below) (fun hHeld => ?_)
            clear hK K
            refine wpAnyH_done (by kernel_rfl) ?_ _
            go_wp2_with fail
            go_meet
            exact ⟨_, _, _, rfl, HL.out⟩
      · go_simp
        have Fr2 := heap_new V1 (.cells #[.slice none 0 0, .slice none 0 0, .int .i64 0, .int .i64 0] 67)
        have hb : Below V1.heap.size V1 (V1.alloc (.cells #[.slice none 0 0, .slice none 0 0, .int .i64 0, .int .i64 0] 67)) := (Below.refl _ V1).alloc (Nat.le_refl _) _
        have HB2 := hid (HB1.out.trans (hb.mono HB1.out.size))
        have b8 := HB1.out.size
        generalize V1.alloc (.cells #[.slice none 0 0, .slice none 0 0, .int .i64 0, .int .i64 0] 67) = V2 at *
        clear hb
        refine hK.out _ _ HB2.out (fun hHeld => ?_)
        clear hK K
        refine wpAnyH_ready (rs := [1, 3]) (by kernel_rfl) (by simp) ?_
        refine AllReadyH.cons rfl (fun K hK => ?_) (AllReadyH.cons rfl (fun K hK => ?_) (AllReadyH.nil))
        · go_simp
          have Fw3 := heap_new V2 (.cells (madeCells #[.bool false] N) 4)
          have hb : Below V2.heap.size V2 (V2.alloc (.cells (madeCells #[.bool false] N) 4)) := (Below.refl _ V2).alloc (Nat.le_refl _) _
          have HB3 := hid (HB2.out.trans (hb.mono HB2.out.size))
          have b1 := HB2.out.size
          have n81 := Nat.ne_of_lt (heap_lt Fr2)
          generalize V2.alloc (.cells (madeCells #[.bool false] N) 4) = V3 at *
          have Fr3 := keep_blk hb Fr2
          clear hb Fr2
          refine hK.out _ _ HB3.out (fun hHeld => ?_)
          clear hK K
          refine wpAnyH_ready (rs := [3]) (by kernel_rfl) (by simp) ?_
          refine AllReadyH.cons rfl (fun K hK => ?_) (AllReadyH.nil)
          · go_simp
            have Fe4 := heap_new V3 (.cells (madeCells #[.bool false] N) 4)
            have hb : Below V3.heap.size V3 (V3.alloc (.cells (madeCells #[.bool false] N) 4)) := (Below.refl _ V3).alloc (Nat.le_refl _) _
            have HB4 := hid (HB3.out.trans (hb.mono HB3.out.size))
            have b3 := HB3.out.size
            have n83 := Nat.ne_of_lt (heap_lt Fr3)
            have n13 := Nat.ne_of_lt (heap_lt Fw3)
            generalize V3.alloc (.cells (madeCells #[.bool false] N) 4) = V4 at *
            have Fr4 := keep_blk hb Fr3
            have Fw4 := keep_blk hb Fw3
            clear hb Fr3 Fw3
            refine hK.out _ _ HB4.out (fun hHeld => ?_)
            clear hK K
            refine wpAnyH_one 7 19 (.agg #[.slice (some ⟨V2.heap.size, 0, none⟩) N N, .slice (some ⟨V3.heap.size, 0, none⟩) N N, .int .i64 0, .int .i64 pv]) hHeld rfl rfl (by kernel_rfl) (fun _ _ _ _ _ h => h) (by kernel_rfl) (by kernel_rfl) (by rfl) ?_ ?_
            · intro V hSw; (try dsimp only at hSw); go_simp
            simp only [Act.put, List.setIfInBounds_toArray, List.set_cons_zero, List.set_cons_succ]
            obtain ⟨z0, z1, z2, z3⟩ := sv_cells Fr4
            obtain ⟨y0, y1, y2, y3⟩ := sv_free Fr4
            refine wpAnyH_ready (rs := [9]) (by kernel_rfl) (by simp) ?_
            refine AllReadyH.cons rfl (fun K hK => ?_) AllReadyH.nil
            go_simp
            have HL := hid (rem_leaf (pv := pv) HB4.out Fw4 Fe4 Fr4 n13 n81.symm n83.symm b1 b3 b8)
            refine hK.out _ _ (HL.out.below) (fun hHeld => ?_)
            clear hK K
            refine wpAnyH_done (by kernel_rfl) ?_ _
            go_wp2_with fail
            go_meet
            exact ⟨_, _, _, rfl, HL.out⟩
        · go_simp
          have Fe3 := heap_new V2 (.cells (madeCells #[.bool false] N) 4)
          have hb : Below V2.heap.size V2 (V2.alloc (.cells (madeCells #[.bool false] N) 4)) := (Below.refl _ V2).alloc (Nat.le_refl _) _
          have HB3 := hid (HB2.out.trans (hb.mono HB2.out.size))
          have b3 := HB2.out.size
          have n83 := Nat.ne_of_lt (heap_lt Fr2)
          generalize V2.alloc (.cells (madeCells #[.bool false] N) 4) = V3 at *
          have Fr3 := keep_blk hb Fr2
          clear hb Fr2
          refine hK.out _ _ HB3.out (fun hHeld => ?_)
          clear hK K
          refine wpAnyH_ready (rs := [1]) (by kernel_rfl) (by simp) ?_
          refine AllReadyH.cons rfl (fun K hK => ?_) (AllReadyH.nil)
          · go_simp
            have Fw4 := heap_new V3 (.cells (madeCells #[.bool false] N) 4)
            have hb : Below V3.heap.size V3 (V3.alloc (.cells (madeCells #[.bool false] N) 4)) := (Below.refl _ V3).alloc (Nat.le_refl _) _
            have HB4 := hid (HB3.out.trans (hb.mono HB3.out.size))
            have b1 := HB3.out.size
            have n81 := Nat.ne_of_lt (heap_lt Fr3)
            have n31 := Nat.ne_of_lt (heap_lt Fe3)
            generalize V3.alloc (.cells (madeCells #[.bool false] N) 4) = V4 at *
            have Fr4 := keep_blk hb Fr3
            have Fe4 := keep_blk hb Fe3
            clear hb Fr3 Fe3
            refine hK.out _ _ HB4.out (fun hHeld => ?_)
            clear hK K
            refine wpAnyH_one 7 19 (.agg #[.slice (some ⟨V3.heap.size, 0, none⟩) N N, .slice (some ⟨V2.heap.size, 0, none⟩) N N, .int .i64 0, .int .i64 pv]) hHeld rfl rfl (by kernel_rfl) (fun _ _ _ _ _ h => h) (by kernel_rfl) (by kernel_rfl) (by rfl) ?_ ?_
            · intro V hSw; (try dsimp only at hSw); go_simp
            simp only [Act.put, List.setIfInBounds_toArray, List.set_cons_zero, List.set_cons_succ]
            obtain ⟨z0, z1, z2, z3⟩ := sv_cells Fr4
            obtain ⟨y0, y1, y2, y3⟩ := sv_free Fr4
            refine wpAnyH_ready (rs := [9]) (by kernel_rfl) (by simp) ?_
            refine AllReadyH.cons rfl (fun K hK => ?_) AllReadyH.nil
            go_simp
            have HL := hid (rem_leaf (pv := pv) HB4.out Fw4 Fe4 Fr4 n31.symm n81.symm n83.symm b1 b3 b8)
            refine hK.out _ _ (HL.out.below) (fun hHeld => ?_)
            clear hK K
            refine wpAnyH_done (by kernel_rfl) ?_ _
            go_wp2_with fail
            go_meet
            exact ⟨_, _, _, rfl, HL.out⟩
    · go_simp
      have Fr1 := heap_new V0 (.cells #[.slice none 0 0, .slice none 0 0, .int .i64 0, .int .i64 0] 67)
      have hb : Below V0.heap.size V0 (V0.alloc (.cells #[.slice none 0 0, .slice none 0 0, .int .i64 0, .int .i64 0] 67)) := (Below.refl _ V0).alloc (Nat.le_refl _) _
      have HB1 := hid (HB0.out.trans (hb.mono HB0.out.size))
      have b8 := HB0.out.size
      generalize V0.alloc (.cells #[.slice none 0 0, .slice none 0 0, .int .i64 0, .int .i64 0] 67) = V1 at *
      clear hb
      refine hK.out _ _ HB1.out (fun hHeld => ?_)
      clear hK K
      refine wpAnyH_ready (rs := [1, 3, 6]) (by kernel_rfl) (by simp) ?_
      refine AllReadyH.cons rfl (fun K hK => ?_) (AllReadyH.cons rfl (fun K hK => ?_) (AllReadyH.cons rfl (fun K hK => ?_) (AllReadyH.nil)))
      · go_simp
        have Fw2 := heap_new V1 (.cells (madeCells #[.bool false] N) 4)
        have hb : Below V1.heap.size V1 (V1.alloc (.cells (madeCells #[.bool false] N) 4)) := (Below.refl _ V1).alloc (Nat.le_refl _) _
        have HB2 := hid (HB1.out.trans (hb.mono HB1.out.size))
        have b1 := HB1.out.size
        have n81 := Nat.ne_of_lt (heap_lt Fr1)
        generalize V1.alloc (.cells (madeCells #[.bool false] N) 4) = V2 at *
        have Fr2 := keep_blk hb Fr1
        clear hb Fr1
        refine hK.out _ _ HB2.out (fun hHeld => ?_)
        clear hK K
        refine wpAnyH_ready (rs := [3, 6]) (by kernel_rfl) (by simp) ?_
        refine AllReadyH.cons rfl (fun K hK => ?_) (AllReadyH.cons rfl (fun K hK => ?_) (AllReadyH.nil))
        · go_simp
          have Fe3 := heap_new V2 (.cells (madeCells #[.bool false] N) 4)
          have hb : Below V2.heap.size V2 (V2.alloc (.cells (madeCells #[.bool false] N) 4)) := (Below.refl _ V2).alloc (Nat.le_refl _) _
          have HB3 := hid (HB2.out.trans (hb.mono HB2.out.size))
          have b3 := HB2.out.size
          have n83 := Nat.ne_of_lt (heap_lt Fr2)
          have n13 := Nat.ne_of_lt (heap_lt Fw2)
          generalize V2.alloc (.cells (madeCells #[.bool false] N) 4) = V3 at *
          have Fr3 := keep_blk hb Fr2
          have Fw3 := keep_blk hb Fw2
          clear hb Fr2 Fw2
          refine hK.out _ _ HB3.out (fun hHeld => ?_)
          clear hK K
          refine wpAnyH_ready (rs := [6]) (by kernel_rfl) (by simp) ?_
          refine AllReadyH.cons rfl (fun K hK => ?_) (AllReadyH.nil)
          · go_simp
            go_wp2_with (go_at_call 37; refine (HA.out V3 HB3.out).mono ?_; rintro e V4 ⟨rfl, hb⟩; have HB4 := hid (HB3.out.trans (hb.mono HB3.out.size)))
            have Fr4 := keep_blk hb Fr3
            have Fw4 := keep_blk hb Fw3
            have Fe4 := keep_blk hb Fe3
            clear hb Fr3 Fw3 Fe3
            refine hK.out _ _ HB4.out (fun hHeld => ?_)
            clear hK K
            refine wpAnyH_one 7 19 (.agg #[.slice (some ⟨V1.heap.size, 0, none⟩) N N, .slice (some ⟨V2.heap.size, 0, none⟩) N N, .int .i64 0, .int .i64 pv]) hHeld rfl rfl (by kernel_rfl) (fun _ _ _ _ _ h => h) (by kernel_rfl) (by kernel_rfl) (by rfl) ?_ ?_
            · intro V hSw; (try dsimp only at hSw); go_simp
            simp only [Act.put, List.setIfInBounds_toArray, List.set_cons_zero, List.set_cons_succ]
            obtain ⟨z0, z1, z2, z3⟩ := sv_cells Fr4
            obtain ⟨y0, y1, y2, y3⟩ := sv_free Fr4
            refine wpAnyH_ready (rs := [9]) (by kernel_rfl) (by simp) ?_
            refine AllReadyH.cons rfl (fun K hK => ?_) AllReadyH.nil
            go_simp
            have HL := hid (rem_leaf (pv := pv) HB4.out Fw4 Fe4 Fr4 n13 n81.symm n83.symm b1 b3 b8)
            refine hK.out _ _ (HL.out.below) (fun hHeld => ?_)
            clear hK K
            refine wpAnyH_done (by kernel_rfl) ?_ _
            go_wp2_with fail
            go_meet
            exact ⟨_, _, _, rfl, HL.out⟩
        · go_simp
          go_wp2_with (go_at_call 37; refine (HA.out V2 HB2.out).mono ?_; rintro e V3 ⟨rfl, hb⟩; have HB3 := hid (HB2.out.trans (hb.mono HB2.out.size)))
          have Fr3 := keep_blk hb Fr2
          have Fw3 := keep_blk hb Fw2
          clear hb Fr2 Fw2
          refine hK.out _ _ HB3.out (fun hHeld => ?_)
          clear hK K
          refine wpAnyH_ready (rs := [3]) (by kernel_rfl) (by simp) ?_
          refine AllReadyH.cons rfl (fun K hK => ?_) (AllReadyH.nil)
          · go_simp
            have Fe4 := heap_new V3 (.cells (madeCells #[.bool false] N) 4)
            have hb : Below V3.heap.size V3 (V3.alloc (.cells (madeCells #[.bool false] N) 4)) := (Below.refl _ V3).alloc (Nat.le_refl _) _
            have HB4 := hid (HB3.out.trans (hb.mono HB3.out.size))
            have b3 := HB3.out.size
            have n83 := Nat.ne_of_lt (heap_lt Fr3)
            have n13 := Nat.ne_of_lt (heap_lt Fw3)
            generalize V3.alloc (.cells (madeCells #[.bool false] N) 4) = V4 at *
            have Fr4 := keep_blk hb Fr3
            have Fw4 := keep_blk hb Fw3
            clear hb Fr3 Fw3
            refine hK.out _ _ HB4.out (fun hHeld => ?_)
            clear hK K
            refine wpAnyH_one 7 19 (.agg #[.slice (some ⟨V1.heap.size, 0, none⟩) N N, .slice (some ⟨V3.heap.size, 0, none⟩) N N, .int .i64 0, .int .i64 pv]) hHeld rfl rfl (by kernel_rfl) (fun _ _ _ _ _ h => h) (by kernel_rfl) (by kernel_rfl) (by rfl) ?_ ?_
            · intro V hSw; (try dsimp only at hSw); go_simp
            simp only [Act.put, List.setIfInBounds_toArray, List.set_cons_zero, List.set_cons_succ]
            obtain ⟨z0, z1, z2, z3⟩ := sv_cells Fr4
            obtain ⟨y0, y1, y2, y3⟩ := sv_free Fr4
            refine wpAnyH_ready (rs := [9]) (by kernel_rfl) (by simp) ?_
            refine AllReadyH.cons rfl (fun K hK => ?_) AllReadyH.nil
            go_simp
            have HL := hid (rem_leaf (pv := pv) HB4.out Fw4 Fe4 Fr4 n13 n81.symm n83.symm b1 b3 b8)
            refine hK.out _ _ (HL.out.below) (fun hHeld => ?_)
            clear hK K
            refine wpAnyH_done (by kernel_rfl) ?_ _
            go_wp2_with fail
            go_meet
            exact ⟨_, _, _, rfl, HL.out⟩
      · go_simp
        have Fe2 := heap_new V1 (.cells (madeCells #[.bool false] N) 4)
        have hb : Below V1.heap.size V1 (V1.alloc (.cells (madeCells #[.bool false] N) 4)) := (Below.refl _ V1).alloc (Nat.le_refl _) _
        have HB2 := hid (HB1.out.trans (hb.mono HB1.out.size))
        have b3 := HB1.out.size
        have n83 := Nat.ne_of_lt (heap_lt Fr1)
        generalize V1.alloc (.cells (madeCells #[.bool false] N) 4) = V2 at *
        have Fr2 := keep_blk hb Fr1
        clear hb Fr1
        refine hK.out _ _ HB2.out (fun hHeld => ?_)
        clear hK K
        refine wpAnyH_ready (rs := [1, 6]) (by kernel_rfl) (by simp) ?_
        refine AllReadyH.cons rfl (fun K hK => ?_) (AllReadyH.cons rfl (fun K hK => ?_) (AllReadyH.nil))
        · go_simp
          have Fw3 := heap_new V2 (.cells (madeCells #[.bool false] N) 4)
          have hb : Below V2.heap.size V2 (V2.alloc (.cells (madeCells #[.bool false] N) 4)) := (Below.refl _ V2).alloc (Nat.le_refl _) _
          have HB3 := hid (HB2.out.trans (hb.mono HB2.out.size))
          have b1 := HB2.out.size
          have n81 := Nat.ne_of_lt (heap_lt Fr2)
          have n31 := Nat.ne_of_lt (heap_lt Fe2)
          generalize V2.alloc (.cells (madeCells #[.bool false] N) 4) = V3 at *
          have Fr3 := keep_blk hb Fr2
          have Fe3 := keep_blk hb Fe2
          clear hb Fr2 Fe2
          refine hK.out _ _ HB3.out (fun hHeld => ?_)
          clear hK K
          refine wpAnyH_ready (rs := [6]) (by kernel_rfl) (by simp) ?_
          refine AllReadyH.cons rfl (fun K hK => ?_) (AllReadyH.nil)
          · go_simp
            go_wp2_with (go_at_call 37; refine (HA.out V3 HB3.out).mono ?_; rintro e V4 ⟨rfl, hb⟩; have HB4 := hid (HB3.out.trans (hb.mono HB3.out.size)))
            have Fr4 := keep_blk hb Fr3
            have Fe4 := keep_blk hb Fe3
            have Fw4 := keep_blk hb Fw3
            clear hb Fr3 Fe3 Fw3
            refine hK.out _ _ HB4.out (fun hHeld => ?_)
            clear hK K
            refine wpAnyH_one 7 19 (.agg #[.slice (some ⟨V2.heap.size, 0, none⟩) N N, .slice (some ⟨V1.heap.size, 0, none⟩) N N, .int .i64 0, .int .i64 pv]) hHeld rfl rfl (by kernel_rfl) (fun _ _ _ _ _ h => h) (by kernel_rfl) (by kernel_rfl) (by rfl) ?_ ?_
            · intro V hSw; (try dsimp only at hSw); go_simp
            simp only [Act.put, List.setIfInBounds_toArray, List.set_cons_zero, List.set_cons_succ]
            obtain ⟨z0, z1, z2, z3⟩ := sv_cells Fr4
            obtain ⟨y0, y1, y2, y3⟩ := sv_free Fr4
            refine wpAnyH_ready (rs := [9]) (by kernel_rfl) (by simp) ?_
            refine AllReadyH.cons rfl (fun K hK => ?_) AllReadyH.nil
            go_simp
            have HL := hid (rem_leaf (pv := pv) HB4.out Fw4 Fe4 Fr4 n31.symm n81.symm n83.symm b1 b3 b8)
            refine hK.out _ _ (HL.out.below) (fun hHeld => ?_)
            clear hK K
            refine wpAnyH_done (by kernel_rfl) ?_ _
            go_wp2_with fail
            go_meet
            exact ⟨_, _, _, rfl, HL.out⟩
        · go_simp
          go_wp2_with (go_at_call 37; refine (HA.out V2 HB2.out).mono ?_; rintro e V3 ⟨rfl, hb⟩; have HB3 := hid (HB2.out.trans (hb.mono HB2.out.size)))
          have Fr3 := keep_blk hb Fr2
          have Fe3 := keep_blk hb Fe2
          clear hb Fr2 Fe2
          refine hK.out _ _ HB3.out (fun hHeld => ?_)
          clear hK K
          refine wpAnyH_ready (rs := [1]) (by kernel_rfl) (by simp) ?_
          refine AllReadyH.cons rfl (fun K hK => ?_) (AllReadyH.nil)
          · go_simp
            have Fw4 := heap_new V3 (.cells (madeCells #[.bool false] N) 4)
            have hb : Below V3.heap.size V3 (V3.alloc (.cells (madeCells #[.bool false] N) 4)) := (Below.refl _ V3).alloc (Nat.le_refl _) _
            have HB4 := hid (HB3.out.trans (hb.mono HB3.out.size))
            have b1 := HB3.out.size
            have n81 := Nat.ne_of_lt (heap_lt Fr3)
            have n31 := Nat.ne_of_lt (heap_lt Fe3)
            generalize V3.alloc (.cells (madeCells #[.bool false] N) 4) = V4 at *
            have Fr4 := keep_blk hb Fr3
            have Fe4 := keep_blk hb Fe3
            clear hb Fr3 Fe3
            refine hK.out _ _ HB4.out (fun hHeld => ?_)
            clear hK K
            refine wpAnyH_one 7 19 (.agg #[.slice (some ⟨V3.heap.size, 0, none⟩) N N, .slice (some ⟨V1.heap.size, 0, none⟩) N N, .int .i64 0, .int .i64 pv]) hHeld rfl rfl (by kernel_rfl) (fun _ _ _ _ _ h => h) (by kernel_rfl) (by kernel_rfl) (by rfl) ?_ ?_
            · intro V hSw; (try dsimp only at hSw); go_simp
            simp only [Act.put, List.setIfInBounds_toArray, List.set_cons_zero, List.set_cons_succ]
            obtain ⟨z0, z1, z2, z3⟩ := sv_cells Fr4
            obtain ⟨y0, y1, y2, y3⟩ := sv_free Fr4
            refine wpAnyH_ready (rs := [9]) (by kernel_rfl) (by simp) ?_
            refine AllReadyH.cons rfl (fun K hK => ?_) AllReadyH.nil
            go_simp
            have HL := hid (rem_leaf (pv := pv) HB4.out Fw4 Fe4 Fr4 n31.symm n81.symm n83.symm b1 b3 b8)
            refine hK.out _ _ (HL.out.below) (fun hHeld => ?_)
            clear hK K
            refine wpAnyH_done (by kernel_rfl) ?_ _
            go_wp2_with fail
            go_meet
            exact ⟨_, _, _, rfl, HL.out⟩
      · go_simp
        go_wp2_with (go_at_call 37; refine (HA.out V1 HB1.out).mono ?_; rintro e V2 ⟨rfl, hb⟩; have HB2 := hid (HB1.out.trans (hb.mono HB1.out.size)))
        have Fr2 := keep_blk hb Fr1
        clear hb Fr1
        refine hK.out _ _ HB2.out (fun hHeld => ?_)
        clear hK K
        refine wpAnyH_ready (rs := [1, 3]) (by kernel_rfl) (by simp) ?_
        refine AllReadyH.cons rfl (fun K hK => ?_) (AllReadyH.cons rfl (fun K hK => ?_) (AllReadyH.nil))
        · go_simp
          have Fw3 := heap_new V2 (.cells (madeCells #[.bool false] N) 4)
          have hb : Below V2.heap.size V2 (V2.alloc (.cells (madeCells #[.bool false] N) 4)) := (Below.refl _ V2).alloc (Nat.le_refl _) _
          have HB3 := hid (HB2.out.trans (hb.mono HB2.out.size))
          have b1 := HB2.out.size
          have n81 := Nat.ne_of_lt (heap_lt Fr2)
          generalize V2.alloc (.cells (madeCells #[.bool false] N) 4) = V3 at *
          have Fr3 := keep_blk hb Fr2
          clear hb Fr2
          refine hK.out _ _ HB3.out (fun hHeld => ?_)
          clear hK K
          refine wpAnyH_ready (rs := [3]) (by kernel_rfl) (by simp) ?_
          refine AllReadyH.cons rfl (fun K hK => ?_) (AllReadyH.nil)
          · go_simp
            have Fe4 := heap_new V3 (.cells (madeCells #[.bool false] N) 4)
            have hb : Below V3.heap.size V3 (V3.alloc (.cells (madeCells #[.bool false] N) 4)) := (Below.refl _ V3).alloc (Nat.le_refl _) _
            have HB4 := hid (HB3.out.trans (hb.mono HB3.out.size))
            have b3 := HB3.out.size
            have n83 := Nat.ne_of_lt (heap_lt Fr3)
            have n13 := Nat.ne_of_lt (heap_lt Fw3)
            generalize V3.alloc (.cells (madeCells #[.bool false] N) 4) = V4 at *
            have Fr4 := keep_blk hb Fr3
            have Fw4 := keep_blk hb Fw3
            clear hb Fr3 Fw3
            refine hK.out _ _ HB4.out (fun hHeld => ?_)
            clear hK K
            refine wpAnyH_one 7 19 (.agg #[.slice (some ⟨V2.heap.size, 0, none⟩) N N, .slice (some ⟨V3.heap.size, 0, none⟩) N N, .int .i64 0, .int .i64 pv]) hHeld rfl rfl (by kernel_rfl) (fun _ _ _ _ _ h => h) (by kernel_rfl) (by kernel_rfl) (by rfl) ?_ ?_
            · intro V hSw; (try dsimp only at hSw); go_simp
            simp only [Act.put, List.setIfInBounds_toArray, List.set_cons_zero, List.set_cons_succ]
            obtain ⟨z0, z1, z2, z3⟩ := sv_cells Fr4
            obtain ⟨y0, y1, y2, y3⟩ := sv_free Fr4
            refine wpAnyH_ready (rs := [9]) (by kernel_rfl) (by simp) ?_
            refine AllReadyH.cons rfl (fun K hK => ?_) AllReadyH.nil
            go_simp
            have HL := hid (rem_leaf (pv := pv) HB4.out Fw4 Fe4 Fr4 n13 n81.symm n83.symm b1 b3 b8)
            refine hK.out _ _ (HL.out.below) (fun hHeld => ?_)
            clear hK K
            refine wpAnyH_done (by kernel_rfl) ?_ _
            go_wp2_with fail
            go_meet
            exact ⟨_, _, _, rfl, HL.out⟩
        · go_simp
          have Fe3 := heap_new V2 (.cells (madeCells #[.bool false] N) 4)
          have hb : Below V2.heap.size V2 (V2.alloc (.cells (madeCells #[.bool false] N) 4)) := (Below.refl _ V2).alloc (Nat.le_refl _) _
          have HB3 := hid (HB2.out.trans (hb.mono HB2.out.size))
          have b3 := HB2.out.size
          have n83 := Nat.ne_of_lt (heap_lt Fr2)
          generalize V2.alloc (.cells (madeCells #[.bool false] N) 4) = V3 at *
          have Fr3 := keep_blk hb Fr2
          clear hb Fr2
          refine hK.out _ _ HB3.out (fun hHeld => ?_)
          clear hK K
          refine wpAnyH_ready (rs := [1]) (by kernel_rfl) (by simp) ?_
          refine AllReadyH.cons rfl (fun K hK => ?_) (AllReadyH.nil)
          · go_simp
            have Fw4 := heap_new V3 (.cells (madeCells #[.bool false] N) 4)
            have hb : Below V3.heap.size V3 (V3.alloc (.cells (madeCells #[.bool false] N) 4)) := (Below.refl _ V3).alloc (Nat.le_refl _) _
            have HB4 := hid (HB3.out.trans (hb.mono HB3.out.size))
            have b1 := HB3.out.size
            have n81 := Nat.ne_of_lt (heap_lt Fr3)
            have n31 := Nat.ne_of_lt (heap_lt Fe3)
            generalize V3.alloc (.cells (madeCells #[.bool false] N) 4) = V4 at *
            have Fr4 := keep_blk hb Fr3
            have Fe4 := keep_blk hb Fe3
            clear hb Fr3 Fe3
            refine hK.out _ _ HB4.out (fun hHeld => ?_)
            clear hK K
            refine wpAnyH_one 7 19 (.agg #[.slice (some ⟨V3.heap.size, 0, none⟩) N N, .slice (some ⟨V2.heap.size, 0, none⟩) N N, .int .i64 0, .int .i64 pv]) hHeld rfl rfl (by kernel_rfl) (fun _ _ _ _ _ h => h) (by kernel_rfl) (by kernel_rfl) (by rfl) ?_ ?_
            · intro V hSw; (try dsimp only at hSw); go_simp
            simp only [Act.put, List.setIfInBounds_toArray, List.set_cons_zero, List.set_cons_succ]
            obtain ⟨z0, z1, z2, z3⟩ := sv_cells Fr4
            obtain ⟨y0, y1, y2, y3⟩ := sv_free Fr4
            refine wpAnyH_ready (rs := [9]) (by kernel_rfl) (by simp) ?_
            refine AllReadyH.cons rfl (fun K hK => ?_) AllReadyH.nil
            go_simp
            have HL := hid (rem_leaf (pv := pv) HB4.out Fw4 Fe4 Fr4 n31.symm n81.symm n83.symm b1 b3 b8)
            refine hK.out _ _ (HL.out.below) (fun hHeld => ?_)
            clear hK K
            refine wpAnyH_done (by kernel_rfl) ?_ _
            go_wp2_with fail
            go_meet
            exact ⟨_, _, _, rfl, HL.out⟩
  case rest =>
    obtain ⟨bw, be, br, rfl, hRm⟩ := hcut
    have hBc := HW0.out.trans (hRm.below.mono HW0.out.size)
    have hws := HW0.out.size
    have l1 := hRm.l1
    have l2 := hRm.l2
    have l3 := hRm.l3
    have hT := take_any b off cap bw be N 0 pv ns w hR hF HNN.out (by omega) (ns.length + 1) x (List.replicate N false) wc hx (by rw [pathUp_head hR hx, List.length_cons]; omega) (List.length_replicate ..) hBc hRm.within
    have h0 : wc.heap[w.heap.size]? = _ := keep_blk hRm.below HG0.out
    have c0 := (box_cell_l h0).1
    obtain ⟨r0, r1, r2, r3⟩ := sv_cells hRm.self
    have HRm := hid hRm
    clear hRm h0 hmk HmkR HA HA0
    go_wp2_with fail
    refine hT.mono ?_
    rintro e v1 ⟨rfl, hM1, hW1⟩
    have s0 := HRm.out.below.size
    have hsw := hW1.size
    have h1 : v1.heap[w.heap.size]? = some _ := (hW1.block w.heap.size (by have := Hsx.out; omega) (by rw [List.mem_singleton]; have := Hsx.out; omega)).trans (keep_blk HRm.out.below HG0.out)
    have h2 : v1.heap[w.heap.size + 1]? = some _ := (hW1.block (w.heap.size + 1) (by have := Hsx.out; omega) (by rw [List.mem_singleton]; have := Hsx.out; omega)).trans (keep_blk HRm.out.below HG1.out)
    have h3 : v1.heap[br]? = some _ := (hW1.block br (heap_lt HRm.out.self) (by rw [List.mem_singleton]; exact HRm.out.d2.symm)).trans HRm.out.self
    have h4 : BoolsAt v1 be (List.replicate N false) := (hW1.block be HRm.out.ended.lt (by rw [List.mem_singleton]; exact HRm.out.d1.symm)).trans HRm.out.ended
    have hB1 : Below w.heap.size w v1 := hBc.trans (hW1.toBelow hBc.size (by intro q hq; rw [List.mem_singleton.1 hq]; omega))
    have c1 := (box_cell_l h1).1
    have hU := upFrom_any (some ⟨b, off, none⟩) ns.length cap x v1
    have HM1 := hid hM1
    have H1 := hid h1
    have H2 := hid h2
    have H3 := hid h3
    have H4 := hid h4
    have HB1 := hid hB1
    clear hT c0 r0 r1 r2 r3 hM1 hW1 h1 h2 h3 h4 hB1 hBc
    go_wp2_with fail
    refine hU.mono ?_
    rintro e v2 ⟨rfl, e2⟩
    have e2 := e2.symm
    subst e2
    clear hU c1
    go_wp2
    have HSb : Hid (∀ (z : Int) (V : World), thereB ns.length z = true → Below w.heap.size w V → Calls Tryz.prog 62 #[.agg #[.slice (some ⟨b, off, none⟩) ns.length cap], .int .i64 z, .int .i64 1] V fun e w' => e = .returned (.int .i64 (nextH (parentD ns) (kidsD ns) z)) ∧ Below V.heap.size V w') := fun z V hz hV => by
      rw [← (sib_dir hR hz).1]
      exact isibling_any b off cap z 1 ns w V hR hF hV hz (.inl rfl)
    obtain ⟨s, hsD⟩ : ∃ s, nextH (parentD ns) (kidsD ns) = s := ⟨_, rfl⟩
    rw [hsD] at HSb
    have HsD := hid hsD
    clear hsD
    obtain ⟨V2, hV2⟩ : ∃ V2, V2 = ((v1.alloc (.cells #[.slice (some ⟨b, off, none⟩) ns.length cap] 24)).alloc (.cells #[.int .i64 x] 3)).alloc (.cells #[.func (.func 87) #[] #[.pointer (some ⟨v1.heap.size, 0, none⟩)]] 61) := ⟨_, rfl⟩
    have b12 : Below v1.heap.size v1 V2 := by rw [hV2]; exact (((Below.refl _ v1).alloc (Nat.le_refl _) _).alloc (by simp) _).alloc (by simp only [World.size_alloc]; omega) _
    have s2 : V2.heap.size = v1.heap.size + 1 + 1 + 1 := by rw [hV2]; simp
    have k3 := (new_cell_l v1 (.slice (some ⟨b, off, none⟩) ns.length cap) 24).1
    have k4 := (new_cell_l (v1.alloc (.cells #[.slice (some ⟨b, off, none⟩) ns.length cap] 24)) (.int .i64 x) 3).1
    have k5 := (new_cell_l ((v1.alloc (.cells #[.slice (some ⟨b, off, none⟩) ns.length cap] 24)).alloc (.cells #[.int .i64 x] 3)) (.func (.func 87) #[] #[.pointer (some ⟨v1.heap.size, 0, none⟩)]) 61).1
    simp only [World.size_alloc] at k4 k5
    have cf : V2.cell? ⟨v1.heap.size, 0, none⟩ = some (.slice (some ⟨b, off, none⟩) ns.length cap) := by rw [hV2]; exact keep_cell_l _ (keep_cell_l _ k3)
    have ch : V2.cell? ⟨v1.heap.size + 1, 0, none⟩ = some (.int .i64 x) := by rw [hV2]; exact keep_cell_l _ k4
    have cs : V2.cell? ⟨v1.heap.size + 1 + 1, 0, none⟩ = some (.func (.func 87) #[] #[.pointer (some ⟨v1.heap.size, 0, none⟩)]) := by rw [hV2]; exact k5
    have b2 : Below w.heap.size w V2 := HB1.out.trans (b12.mono HB1.out.size)
    have w1 := HB1.out.size
    have e1 := H4.out.lt
    have e2 := heap_lt H3.out
    have d1 := HRm.out.d1
    have d2 := HRm.out.d2
    have d3 := HRm.out.d3
    have hz1 := Hsx.out
    rw [← hV2]
    clear k3 k4 k5 hV2
    refine (wpIn_wide (n := 6)).1 ?_
    refine wpIn_rangeFunc_ownF (α := { z : Int // thereB ns.length z = true }) rfl (by omega) (gf := 85) (lb := #[.pointer (some ⟨v1.heap.size + 1, 0, none⟩), .pointer (some ⟨v1.heap.size + 1 + 1, 0, none⟩)]) rfl trivial (enters_of Tryz.func85 (by kernel_rfl) rfl)
      (fromX_stops (6 - 1) (v1.heap.size + 1) (v1.heap.size + 1 + 1) (v1.heap.size + 1 + 1 + 1) v1.heap.size [be, br] (by simp; omega) (by omega) x (parentD ns) (upL ns) (fun y => thereB ns.length y = true) _ (by rw [s2]; exact Nat.le_refl _) (by omega) (by omega)
        (fun y W hy hW => upFrom1_any b off cap v1.heap.size y ns W (hF.later (b2.trans (hW.toBelow (by omega) (by intro g hg; simp at hg; omega)))) ((hW.cell v1.heap.size 0 (by omega) (by simp; omega)).trans cf) hy)
        (fun y hy => hR.kidsHang.up_or hy) (fun y hy => upL_step hR hy) (fun y hy => there_ne hy) ch cs (.inr hx)) Near.trans (nearK_b (by rw [s2]; exact Nat.le_refl _)) (Below.refl _ _) (fun _ => rfl)
      (fun pre W => ((∀ y ∈ pre, s y.1 = 0) ∧ W.heap[w.heap.size]? = some (.cells #[.slice (some ⟨b, off, none⟩) ns.length cap] 24) ∧ W.heap[w.heap.size + 1]? = some (.cells #[.slice none 0 0, .slice none 0 0, .int .i64 0, .int .i64 0] 67) ∧ W.heap[br]? = some (.cells #[.slice (some ⟨bw, 0, none⟩) N N, .slice (some ⟨be, 0, none⟩) N N, .int .i64 0, .int .i64 pv] 67) ∧ BoolsAt W bw (markL (List.replicate N false) (belowF (kidsD ns) (ns.length + 1) x)) ∧ BoolsAt W be (markL (List.replicate N false) (pre.map (·.1))) ∧ v1.heap.size + 1 + 1 + 1 ≤ W.heap.size) ∧ Below w.heap.size w W)
      (fun c pre W => (c = .exit 0 ∧ (∃ (p0 : List { z : Int // thereB ns.length z = true }) (z : { z : Int // thereB ns.length z = true }), pre = p0 ++ [z] ∧ (∀ y ∈ p0, s y.1 = 0) ∧ s z.1 ≠ 0 ∧ W.heap[br]? = some (.cells #[.slice (some ⟨bw, 0, none⟩) N N, .slice (some ⟨be, 0, none⟩) N N, .int .i64 (s z.1), .int .i64 pv] 67)) ∧ W.heap[w.heap.size + 1]? = some (.cells #[.slice none 0 0, .slice none 0 0, .int .i64 0, .int .i64 0] 67) ∧ BoolsAt W bw (markL (List.replicate N false) (belowF (kidsD ns) (ns.length + 1) x)) ∧ BoolsAt W be (markL (List.replicate N false) (pre.map (·.1)))) ∧ Below w.heap.size w W)
      (OwnFrom.and (Own.from (fun s A B row hs hg hr => ⟨hs.1, blk_kept hs.2.1 hg hr, blk_kept hs.2.2.1 hg hr, blk_kept hs.2.2.2.1 hg hr, blk_kept hs.2.2.2.2.1 hg hr, blk_kept hs.2.2.2.2.2.1 hg hr, Nat.le_trans hs.2.2.2.2.2.2 hg.size⟩) _) (ownFrom_below (Nat.le_refl _) (by rw [s2]; omega)))
      (fun c => OwnFrom.and (Own.from (fun s A B row hs hg hr => by
        obtain ⟨h1, ⟨p0, z, h2, h3, h4, h5⟩, h6, h7, h8⟩ := hs
        exact ⟨h1, ⟨p0, z, h2, h3, h4, blk_kept h5 hg hr⟩, blk_kept h6 hg hr, blk_kept h7 hg hr, blk_kept h8 hg hr⟩) _) (ownFrom_below (Nat.le_refl _) (by rw [s2]; omega)))
      ⟨⟨by simp, keep_blk b12 H1.out, keep_blk b12 H2.out, keep_blk b12 H3.out, keep_blk b12 HM1.out, keep_blk b12 H4.out, by rw [s2]; exact Nat.le_refl _⟩, b2⟩
      (fun z => { tmps := #[.agg #[.slice (some ⟨b, off, none⟩) ns.length cap], .int .i64 x, .pointer (some ⟨w.heap.size, 0, none⟩), undef, .pointer (some ⟨w.heap.size + 1, 0, none⟩), .int .i64 (N : Int), .pointer (some ⟨br, 0, none⟩), .int .i64 z.1, .pointer (some ⟨w.heap.size, 0, none⟩), .slice (some ⟨b, off, none⟩) ns.length cap, .int .i64 (ns.length : Int), .int .i64 (N : Int), u12, u13, u14, u15, u16, u17, u18, u19, .agg #[.slice (some ⟨bw, 0, none⟩) N N, .slice (some ⟨be, 0, none⟩) N N, .int .i64 0, .int .i64 pv], .agg #[.slice (some ⟨b, off, none⟩) ns.length cap], .int .i64 x, .tuple #[], .agg #[.slice (some ⟨b, off, none⟩) ns.length cap], .int .i64 x, .func (.func 85) #[] #[.pointer (some ⟨v1.heap.size + 1, 0, none⟩), .pointer (some ⟨v1.heap.size + 1 + 1, 0, none⟩)], .int .i64 z.1, undef, undef, undef, undef, undef, undef, undef, undef, undef, undef, undef, undef], defers := [] }) ?assign ?body ?done ?stop
    case assign =>
      intro l z W K hK
      gi_wp2
      exact hK
    case body =>
      rintro l pre ⟨z, hz⟩ W ⟨⟨hp, g0, g1, g2, g3, g4, hsz⟩, hB⟩ _
      obtain ⟨i, hi, hie⟩ := there_idx hz
      have hml : (markL (List.replicate N false) (pre.map (·.1))).length = N := by rw [markL_len, List.length_replicate]
      have hNN := HNN.out
      have W1B : Below w.heap.size w (W.setCell ⟨be, i + 1, none⟩ (.bool true)) := hB.setCell (p := ⟨be, i + 1, none⟩) (by show w.heap.size ≤ be; omega) _
      have hSb := HSb.out z (W.setCell ⟨be, i + 1, none⟩ (.bool true)) hz W1B
      have q0 : BoolsAt (W.setCell ⟨be, i + 1, none⟩ (.bool true)) be _ := g4.put (i + 1) true
      have q1 : BoolsAt (W.setCell ⟨be, i + 1, none⟩ (.bool true)) bw _ := g3.far (i + 1) (.bool true) d1.symm
      have q2 : (W.setCell ⟨be, i + 1, none⟩ (.bool true)).heap[br]? = some _ := blk_far g2 (.bool true) d3
      have q3 : (W.setCell ⟨be, i + 1, none⟩ (.bool true)).heap[w.heap.size + 1]? = some _ := blk_far g1 (.bool true) (by omega)
      have q4 : (W.setCell ⟨be, i + 1, none⟩ (.bool true)).heap[w.heap.size]? = some _ := blk_far g0 (.bool true) (by omega)
      have KN : KeepsOthers W (W.setCell ⟨be, i + 1, none⟩ (.bool true)) := KeepsOthers.setCell _ _ _
      have NR : Near (v1.heap.size + 1 + 1 + 1) [be, br] W (W.setCell ⟨be, i + 1, none⟩ (.bool true)) := (Near.refl _ _ W).put (by simp) _ _
      have hsz1 : v1.heap.size + 1 + 1 + 1 ≤ (W.setCell ⟨be, i + 1, none⟩ (.bool true)).heap.size := by simpa using hsz
      have c1 := (sv_cells g2).2.1
      have z1 := g4.frozen (i + 1)
      have z2 := g4.cellD (i + 1) false (by rw [hml]; omega)
      have c4 := (box_cell_l q4).1
      have a1 : (0 : Int) ≤ (i : Int) + 1 := by omega
      have a2 : (i : Int) + 1 < (N : Int) := by omega
      have a3 : ((i : Int) + 1).toNat = i + 1 := by omega
      have Q0 := hid q0
      have Q1 := hid q1
      have Q2 := hid q2
      have Q3 := hid q3
      have Q4 := hid q4
      have HKN := hid KN
      have HNR := hid NR
      have HW1B := hid W1B
      have Hp := hid hp
      have Hsz1 := hid hsz1
      have Hz := hid hz
      have Hml := hid hml
      subst hie
      clear q0 q1 q2 q3 q4 KN NR W1B hp g0 g1 g2 g3 g4 hB hml hNN hsz hsz1
      gi_wp2
      generalize W.setCell ⟨be, i + 1, none⟩ (.bool true) = W1 at *
      refine ⟨trivial, (callsIn_wide.2 hSb).mono ?_⟩
      rintro e v3 ⟨rfl, hb3⟩
      have m2 := keep_blk hb3 Q2.out
      obtain ⟨f0, f1, f2, f3⟩ := sv_free m2
      obtain ⟨t0, t1, t2, t3⟩ := sv_cells m2
      have hko : KeepsOthers W1 v3 := KeepsOthers.of_grownBy (grown_of_below hb3) (fun j o ej _ => by cases ej)
      have M0 := hid (BoolsAt.later Q0.out hb3)
      have M1 := hid (BoolsAt.later Q1.out hb3)
      have M2 := hid m2
      have M3 := hid (keep_blk hb3 Q3.out)
      have M4 := hid (keep_blk hb3 Q4.out)
      have MB := hid (HW1B.out.trans (hb3.mono HW1B.out.size))
      have MK := hid (HKN.out.trans hko)
      have MN := hid (HNR.out.trans (Near.of_below (X := [be, br]) hb3 Hsz1.out))
      have Msz := hid (Nat.le_trans Hsz1.out hb3.size)
      have hmk2 : (markL (List.replicate N false) (pre.map (·.1))).set (i + 1) true = markL (List.replicate N false) ((pre ++ [(⟨(i : Int) + 1, hz⟩ : { z : Int // thereB ns.length z = true })]).map (·.1)) := by
        rw [List.map_append, markL_append]
        rfl
      have M0' := M0.out
      rw [hmk2] at M0'
      have M00 := hid M0'
      clear hSb hb3 hko m2 M0 M0' hmk2 Q0 Q1 Q2 Q3 Q4 HW1B HKN HNR Hsz1 c1 z1 z2 c4 HSb
      generalize hsv : s ((i : Int) + 1) = sv at *
      have Hsv := hid hsv
      clear hsv
      by_cases h0 : sv = 0
      · have r1 : (sv != 0) = false := by rw [bne, h0]; rfl
        have H0 := hid h0
        clear h0
        gi_wp2
        refine ⟨MK.out.trans (KeepsOthers.setCell _ _ _), MN.out.put (by simp) _ _, ⟨fun y hy => ?_, blk_far M4.out _ (by omega), blk_far M3.out _ (by omega), ?_, M1.out.far _ _ (by omega), M00.out.far _ _ (by omega), by simpa using Msz.out⟩, MB.out.setCell (p := ⟨br, 2, none⟩) (by show w.heap.size ≤ br; omega) _⟩
        · rcases List.mem_append.1 hy with a | a
          · exact Hp.out y a
          · rw [List.mem_singleton.1 a]; exact Hsv.out.trans H0.out
        · have := third_set M2.out (.int .i64 sv)
          rw [H0.out] at this ⊢
          exact this
      · have r1 : (sv != 0) = true := by rw [bne, beq_eq_false_iff_ne.2 h0]; rfl
        have H0 := hid h0
        clear h0
        gi_wp2
        refine ⟨MK.out.trans (KeepsOthers.setCell _ _ _), ⟨rfl, ⟨pre, ⟨(i : Int) + 1, hz⟩, rfl, Hp.out, ?_, ?_⟩, blk_far M3.out _ (by omega), M1.out.far _ _ (by omega), M00.out.far _ _ (by omega)⟩, MB.out.setCell (p := ⟨br, 2, none⟩) (by show w.heap.size ≤ br; omega) _⟩
        · rw [Hsv.out]; exact H0.out
        · rw [Hsv.out]; exact third_set M2.out _
    case done =>
      rintro D ys W hD hys ⟨⟨hp, _, g1, g2, g3, g4, _⟩, hB⟩ hK
      have hpath : ys.map (·.1) = pathUp ns (parentD ns) x := by rw [hys]; exact upL_path hR hx
      obtain ⟨p1, p2⟩ := endPath_none s (pathUp ns (parentD ns) x) (fun y hy => by
        rw [← hpath] at hy
        obtain ⟨u, hu, rfl⟩ := List.mem_map.1 hy
        exact hp u hu)
      obtain ⟨f0, f1, f2, f3⟩ := sv_free g1
      obtain ⟨t0, t1, t2, t3⟩ := sv_cells g1
      obtain ⟨y0, y1, y2, y3⟩ := sv_cells g2
      have G1 := hid g1
      have G3 := hid g3
      have G4 := hid g4
      have GB := hid hB
      have GK := hid hK
      clear g1 g2 g3 g4 hB hK
      go_wp2
      have hDs : v1.heap.size + 1 + 1 + 1 ≤ D := by rw [s2] at hD; exact hD
      obtain ⟨W', hW', j0, ⟨j1, j2, j3, j4⟩, j5, j6, j7⟩ := rem_end G1.out GK.out G3.out G4.out GB.out (by omega) (by omega) (by omega) (by omega) (by omega) (.slice (some ⟨bw, 0, none⟩) N N) (.slice (some ⟨be, 0, none⟩) N N) (.int .i64 (0)) (.int .i64 pv)
      rw [← hW']
      refine ⟨by simp, .inl ⟨_, _, rfl, run_takeDeferred j0, ?_⟩⟩
      refine ⟨.agg #[.slice (some ⟨bw, 0, none⟩) N N, .slice (some ⟨be, 0, none⟩) N N, .int .i64 (0), .int .i64 pv], ?_, bw, be, ?_, ?_, ?_, j7⟩
      · simp [results, Tryz.f39, go_sem, j1, j2, j3, j4]
      · rw [show nextR ns x = 0 from by unfold nextR; rw [HsD.out]; exact p2]
      · unfold withinL; rw [HNN.out] at j5; exact j5
      · unfold endedL; rw [← HNN.out, HsD.out, p1, ← hpath]; exact j6
    case stop =>
      rintro D c pre W hD hpre ⟨⟨rfl, ⟨p0, z, rfl, hp, hz, g2⟩, g1, g3, g4⟩, hB⟩ hK
      obtain ⟨f0, f1, f2, f3⟩ := sv_free g1
      obtain ⟨t0, t1, t2, t3⟩ := sv_cells g1
      obtain ⟨y0, y1, y2, y3⟩ := sv_cells g2
      have G1 := hid g1
      have G3 := hid g3
      have G4 := hid g4
      have GB := hid hB
      have GK := hid hK
      clear g1 g2 g3 g4 hB hK
      gi_wp2
      go_wp2
      have hpp : endPath s (pathUp ns (parentD ns) x) = (p0 ++ [z]).map (·.1) ∧ scanN s (pathUp ns (parentD ns) x) = s z.1 := by
        obtain ⟨t, ht⟩ := hpre
        rw [← upL_path hR hx, ← ht, List.map_append, List.append_assoc]
        exact endPath_at s z.1 hz _ _ (fun y hy => by
          obtain ⟨u, hu, rfl⟩ := List.mem_map.1 hy
          exact hp u hu)
      have hDs : v1.heap.size + 1 + 1 + 1 ≤ D := by rw [s2] at hD; exact hD
      obtain ⟨W', hW', j0, ⟨j1, j2, j3, j4⟩, j5, j6, j7⟩ := rem_end G1.out GK.out G3.out G4.out GB.out (by omega) (by omega) (by omega) (by omega) (by omega) (.slice (some ⟨bw, 0, none⟩) N N) (.slice (some ⟨be, 0, none⟩) N N) (.int .i64 (s z.1)) (.int .i64 pv)
      rw [← hW']
      refine ⟨by simp, .inl ⟨_, _, rfl, run_takeDeferred j0, ?_⟩⟩
      refine ⟨.agg #[.slice (some ⟨bw, 0, none⟩) N N, .slice (some ⟨be, 0, none⟩) N N, .int .i64 (s z.1), .int .i64 pv], ?_, bw, be, ?_, ?_, ?_, j7⟩
      · simp [results, Tryz.f39, go_sem, j1, j2, j3, j4]
      · rw [show nextR ns x = s z.1 from by unfold nextR; rw [HsD.out]; exact hpp.2]
      · unfold withinL; rw [HNN.out] at j5; exact j5
      · unfold endedL; rw [← HNN.out, HsD.out, hpp.1]; exact j6
end Go.Proofs.YticenjhhefiboaaGreat

namespace Go.Proofs.YticenjhhefiboaaGreat
open Go.RowKit Go.Lib Go.Shelf

theorem box5I {w : World} {B : Nat} {a0 a1 a2 a3 a4 : Value} {t : TypeId} (h : w.heap[B]? = some (.cells #[a0, a1, a2, a3, a4] t)) :
    (w.cell? ⟨B, 0, none⟩ = some a0 ∧ w.cell? ⟨B, 1, none⟩ = some a1 ∧ w.cell? ⟨B, 2, none⟩ = some a2 ∧ w.cell? ⟨B, 3, none⟩ = some a3 ∧ w.cell? ⟨B, 4, none⟩ = some a4) ∧ w.frozen? ⟨B, 0, none⟩ = false ∧ w.frozen? ⟨B, 1, none⟩ = false ∧ w.frozen? ⟨B, 2, none⟩ = false ∧ w.frozen? ⟨B, 3, none⟩ = false ∧ w.frozen? ⟨B, 4, none⟩ = false := by
  have hk : ∀ j : Nat, w.cell? ⟨B, j, none⟩ = #[a0, a1, a2, a3, a4][j]? := fun j => by
    unfold World.cell?
    simp only [h]
    exact if_neg (by decide)
  have hf : ∀ j : Nat, w.frozen? ⟨B, j, none⟩ = false := fun j => by simp [World.frozen?, h]
  exact ⟨⟨(hk 0).trans rfl, (hk 1).trans rfl, (hk 2).trans rfl, (hk 3).trans rfl, (hk 4).trans rfl⟩, hf 0, hf 1, hf 2, hf 3, hf 4⟩
theorem own_shapeI {W : World} {base size : Nat} {e : TypeId} {v : Value} {n : Nat} {xs : List Value} (h : W.ownsRow base e size v n xs) : ∃ o c, v = .slice o n c := by
  rcases h.2 with ⟨rfl, h0⟩ | ⟨g, cap, cur, rfl, _⟩
  · exact ⟨none, 0, by rw [h0]⟩
  · exact ⟨_, _, rfl⟩
theorem own_baseI {W : World} {base base' size : Nat} {e : TypeId} {v : Value} {n : Nat} {xs : List Value} (hb : base' ≤ base) (h : W.ownsRow base e size v n xs) : W.ownsRow base' e size v n xs := by
  refine ⟨h.1, ?_⟩
  rcases h.2 with h | ⟨g, cap, cur, hv, hg, rest⟩
  · exact .inl h
  · exact .inr ⟨g, cap, cur, hv, Nat.le_trans hb hg, rest⟩
set_option maxRecDepth 100000 in
set_option maxHeartbeats 4000000 in
theorem icopyOf_any (root ref : Int) (bef : Bool) (sh : Nat) (ro : Option Addr) (rc : Nat) (l : List RuleD) (w : World) (hr : RdR w (.slice ro l.length rc) l) (hl : l.length ≤ 64) :
    Calls Tryz.prog 21 #[.agg #[.int .i64 root, .int .i64 ref, .bool bef, .int .u32 (sh : Int), .slice ro l.length rc]] w fun e w' => ∃ o c, e = .returned (.agg #[.int .i64 root, .int .i64 ref, .bool bef, .int .u32 (sh : Int), .slice o l.length c]) ∧ w'.ownsRow w.heap.size 86 3 (.slice o l.length c) l.length (rulesC l) ∧ Below w.heap.size w w' := by
  have HC : Hid (∀ V : World, Below w.heap.size w V → _) := fun V hV => cloneR_any ro rc l V (hr.later hV) hl
  clear hr
  go_enter Tryz.func21, Tryz.ntmps21
  go_wp2_with fail
  refine (HC.out _ (((Below.refl _ w).alloc (Nat.le_refl _) _).alloc (by simp) _)).mono ?_
  rintro e v1 ⟨vv, rfl, hown, hb⟩
  obtain ⟨vo, vc, rfl⟩ := own_shapeI hown
  have h0 : v1.heap[w.heap.size]? = some (.cells #[.int .i64 root, .int .i64 ref, .bool bef, .int .u32 (sh : Int), .slice ro l.length rc] 30) := (hb.block _ (by simp only [World.size_alloc]; omega)).trans ((Below.heap_alloc _ _ _ (by simp)).trans (heap_new w _))
  have h1 : v1.heap[w.heap.size + 1]? = some (.cells #[.int .i64 0, .int .i64 0, .bool false, .int .u32 0, .slice none 0 0] 30) := (hb.block _ (by simp only [World.size_alloc]; omega)).trans (by have := heap_new (w.alloc (.cells #[.int .i64 root, .int .i64 ref, .bool bef, .int .u32 (sh : Int), .slice ro l.length rc] 30)) (.cells #[.int .i64 0, .int .i64 0, .bool false, .int .u32 0, .slice none 0 0] 30); simp only [World.size_alloc] at this; exact this)
  simp only [World.size_alloc] at hown hb
  have HB := hid ((((Below.refl _ w).alloc (Nat.le_refl _) (.cells #[.int .i64 root, .int .i64 ref, .bool bef, .int .u32 (sh : Int), .slice ro l.length rc] 30)).alloc (by simp) (.cells #[.int .i64 0, .int .i64 0, .bool false, .int .u32 0, .slice none 0 0] 30)).trans (hb.mono (by omega)))
  obtain ⟨⟨a0, a1, a2, a3, a4⟩, g0, g1, g2, g3, g4⟩ := box5I h0
  obtain ⟨⟨r0, r1, r2, r3, r4⟩, s0, s1, s2, s3, s4⟩ := box5I h1
  have HO := hid hown
  clear HC hown hb h0 h1 hl
  go_wp2
  exact bodyPost_ret (v := .agg #[.int .i64 root, .int .i64 ref, .bool bef, .int .u32 (sh : Int), .slice vo l.length vc]) (by simp [results, Tryz.results21, go_sem, r0, r1, r2, r3, r4]) rfl ⟨vo, vc, rfl, own_baseI (by omega) (ownsRow_setCell_below (ownsRow_setCell_below (ownsRow_setCell_below (ownsRow_setCell_below (ownsRow_setCell_below (ownsRow_setCell_below HO.out (a := ⟨w.heap.size, 4, none⟩) (by show w.heap.size < w.heap.size + 1 + 1; omega) _) (a := ⟨w.heap.size + 1, 0, none⟩) (by show w.heap.size + 1 < w.heap.size + 1 + 1; omega) _) (a := ⟨w.heap.size + 1, 1, none⟩) (by show w.heap.size + 1 < w.heap.size + 1 + 1; omega) _) (a := ⟨w.heap.size + 1, 2, none⟩) (by show w.heap.size + 1 < w.heap.size + 1 + 1; omega) _) (a := ⟨w.heap.size + 1, 3, none⟩) (by show w.heap.size + 1 < w.heap.size + 1 + 1; omega) _) (a := ⟨w.heap.size + 1, 4, none⟩) (by show w.heap.size + 1 < w.heap.size + 1 + 1; omega) _), ((((((HB.out.setCell (p := ⟨w.heap.size, 4, none⟩) (by show w.heap.size ≤ w.heap.size; omega) _).setCell (p := ⟨w.heap.size + 1, 0, none⟩) (by show w.heap.size ≤ w.heap.size + 1; omega) _).setCell (p := ⟨w.heap.size + 1, 1, none⟩) (by show w.heap.size ≤ w.heap.size + 1; omega) _).setCell (p := ⟨w.heap.size + 1, 2, none⟩) (by show w.heap.size ≤ w.heap.size + 1; omega) _).setCell (p := ⟨w.heap.size + 1, 3, none⟩) (by show w.heap.size ≤ w.heap.size + 1; omega) _).setCell (p := ⟨w.heap.size + 1, 4, none⟩) (by show w.heap.size ≤ w.heap.size + 1; omega) _)⟩
end Go.Proofs.YticenjhhefiboaaGreat

namespace Go.Proofs.YticenjhhefiboaaGreat
open Go.RowKit Go.Lib Go.Shelf

theorem three_new (w : World) (a b c : Obj) : Below w.heap.size w (((w.alloc a).alloc b).alloc c) ∧ (((w.alloc a).alloc b).alloc c).heap[w.heap.size]? = some a ∧ (((w.alloc a).alloc b).alloc c).heap[w.heap.size + 1]? = some b ∧ (((w.alloc a).alloc b).alloc c).heap[w.heap.size + 1 + 1]? = some c ∧ (((w.alloc a).alloc b).alloc c).heap.size = w.heap.size + 1 + 1 + 1 := by
  obtain ⟨h1, h2, h3, h4⟩ := two_new w a b
  have h5 := heap_new ((w.alloc a).alloc b) c
  rw [h4] at h5
  exact ⟨h1.alloc (by rw [h4]; omega) _, (Below.heap_alloc _ _ _ (by rw [h4]; omega)).trans h2, (Below.heap_alloc _ _ _ (by rw [h4]; omega)).trans h3, h5, by rw [World.size_alloc, h4]⟩
set_option maxRecDepth 100000 in
set_option maxHeartbeats 4000000 in
theorem followA (bw be N i j : Nat) (nx pv : Int) (bef : Bool) (sh : Nat) (ro : Option Addr) (rl rc : Nat) (m e : List Bool) (w : World) (hw : BoolsAt w bw m) (_he : BoolsAt w be e) (hm : m.length = N) (hl : e.length = N) (hi : i + 1 < N) (hj : j + 1 < N) (h1 : m.getD (i + 1) false = false) :
    Calls Tryz.prog 40 #[.agg #[.slice (some ⟨bw, 0, none⟩) N N, .slice (some ⟨be, 0, none⟩) N N, .int .i64 nx, .int .i64 pv], .agg #[.int .i64 ((j : Int) + 1), .int .i64 ((i : Int) + 1), .bool bef, .int .u32 (sh : Int), .slice ro rl rc]] w fun e w' => e = .returned (.agg #[.int .i64 ((j : Int) + 1), .int .i64 ((i : Int) + 1), .bool bef, .int .u32 (sh : Int), .slice ro rl rc]) ∧ Below w.heap.size w w' := by
  obtain ⟨bx, g0, g1, g2, sx⟩ := three_new w (.cells #[.slice (some ⟨bw, 0, none⟩) N N, .slice (some ⟨be, 0, none⟩) N N, .int .i64 nx, .int .i64 pv] 67) (.cells #[.int .i64 ((j : Int) + 1), .int .i64 ((i : Int) + 1), .bool bef, .int .u32 (sh : Int), .slice ro rl rc] 30) (.cells #[.int .i64 0, .int .i64 0, .bool false, .int .u32 0, .slice none 0 0] 30)
  have u1 := (hw.later bx).cellD (i + 1) false (by omega)
  rw [h1] at u1
  obtain ⟨c0, c1, c2, c3⟩ := sv_cells g0
  obtain ⟨⟨a0, a1, a2, a3, a4⟩, y0, y1, y2, y3, y4⟩ := box5I g1
  obtain ⟨⟨r0, r1, r2, r3, r4⟩, s0, s1, s2, s3, s4⟩ := box5I g2
  have HB := hid bx
  have p1 : (0 : Int) ≤ (i : Int) + 1 := by omega
  have p2 : (i : Int) + 1 < (N : Int) := by omega
  have p3 : ((i : Int) + 1).toNat = i + 1 := by omega
  have p4 : (0 : Int) ≤ (j : Int) + 1 := by omega
  have p5 : (j : Int) + 1 < (N : Int) := by omega
  have p6 : ((j : Int) + 1).toNat = j + 1 := by omega
  clear bx g0 g1 g2 sx hw _he hm hl h1
  go_enter Tryz.func40, Tryz.ntmps40
  go_upto_region 2 with fail
  generalize (((w.alloc (.cells #[.slice (some ⟨bw, 0, none⟩) N N, .slice (some ⟨be, 0, none⟩) N N, .int .i64 nx, .int .i64 pv] 67)).alloc (.cells #[.int .i64 ((j : Int) + 1), .int .i64 ((i : Int) + 1), .bool bef, .int .u32 (sh : Int), .slice ro rl rc] 30)).alloc (.cells #[.int .i64 0, .int .i64 0, .bool false, .int .u32 0, .slice none 0 0] 30)) = W0 at *
  go_wp2
  exact bodyPost_ret (v := .agg #[.int .i64 ((j : Int) + 1), .int .i64 ((i : Int) + 1), .bool bef, .int .u32 (sh : Int), .slice ro rl rc]) (by simp [results, Tryz.results40, go_sem, r0, r1, r2, r3, r4]) rfl ⟨rfl, (((((HB.out.setCell (p := ⟨w.heap.size + 1 + 1, 0, none⟩) (by show w.heap.size ≤ w.heap.size + 1 + 1; omega) _).setCell (p := ⟨w.heap.size + 1 + 1, 1, none⟩) (by show w.heap.size ≤ w.heap.size + 1 + 1; omega) _).setCell (p := ⟨w.heap.size + 1 + 1, 2, none⟩) (by show w.heap.size ≤ w.heap.size + 1 + 1; omega) _).setCell (p := ⟨w.heap.size + 1 + 1, 3, none⟩) (by show w.heap.size ≤ w.heap.size + 1 + 1; omega) _).setCell (p := ⟨w.heap.size + 1 + 1, 4, none⟩) (by show w.heap.size ≤ w.heap.size + 1 + 1; omega) _)⟩
set_option maxRecDepth 100000 in
set_option maxHeartbeats 4000000 in
theorem followB (bw be N i j : Nat) (nx pv : Int) (bef : Bool) (sh : Nat) (ro : Option Addr) (rl rc : Nat) (m e : List Bool) (w : World) (hw : BoolsAt w bw m) (_he : BoolsAt w be e) (hm : m.length = N) (hl : e.length = N) (hi : i + 1 < N) (hj : j + 1 < N) (h1 : m.getD (i + 1) false = true) (h2 : m.getD (j + 1) false = true) :
    Calls Tryz.prog 40 #[.agg #[.slice (some ⟨bw, 0, none⟩) N N, .slice (some ⟨be, 0, none⟩) N N, .int .i64 nx, .int .i64 pv], .agg #[.int .i64 ((j : Int) + 1), .int .i64 ((i : Int) + 1), .bool bef, .int .u32 (sh : Int), .slice ro rl rc]] w fun e w' => e = .returned (.agg #[.int .i64 ((j : Int) + 1), .int .i64 ((i : Int) + 1), .bool bef, .int .u32 (sh : Int), .slice ro rl rc]) ∧ Below w.heap.size w w' := by
  obtain ⟨bx, g0, g1, g2, sx⟩ := three_new w (.cells #[.slice (some ⟨bw, 0, none⟩) N N, .slice (some ⟨be, 0, none⟩) N N, .int .i64 nx, .int .i64 pv] 67) (.cells #[.int .i64 ((j : Int) + 1), .int .i64 ((i : Int) + 1), .bool bef, .int .u32 (sh : Int), .slice ro rl rc] 30) (.cells #[.int .i64 0, .int .i64 0, .bool false, .int .u32 0, .slice none 0 0] 30)
  have u1 := (hw.later bx).cellD (i + 1) false (by omega)
  rw [h1] at u1
  have u2 := (hw.later bx).cellD (j + 1) false (by omega)
  rw [h2] at u2
  obtain ⟨c0, c1, c2, c3⟩ := sv_cells g0
  obtain ⟨⟨a0, a1, a2, a3, a4⟩, y0, y1, y2, y3, y4⟩ := box5I g1
  obtain ⟨⟨r0, r1, r2, r3, r4⟩, s0, s1, s2, s3, s4⟩ := box5I g2
  have HB := hid bx
  have p1 : (0 : Int) ≤ (i : Int) + 1 := by omega
  have p2 : (i : Int) + 1 < (N : Int) := by omega
  have p3 : ((i : Int) + 1).toNat = i + 1 := by omega
  have p4 : (0 : Int) ≤ (j : Int) + 1 := by omega
  have p5 : (j : Int) + 1 < (N : Int) := by omega
  have p6 : ((j : Int) + 1).toNat = j + 1 := by omega
  clear bx g0 g1 g2 sx hw _he hm hl h1 h2
  go_enter Tryz.func40, Tryz.ntmps40
  go_upto_region 2 with fail
  generalize (((w.alloc (.cells #[.slice (some ⟨bw, 0, none⟩) N N, .slice (some ⟨be, 0, none⟩) N N, .int .i64 nx, .int .i64 pv] 67)).alloc (.cells #[.int .i64 ((j : Int) + 1), .int .i64 ((i : Int) + 1), .bool bef, .int .u32 (sh : Int), .slice ro rl rc] 30)).alloc (.cells #[.int .i64 0, .int .i64 0, .bool false, .int .u32 0, .slice none 0 0] 30)) = W0 at *
  go_wp2
  exact bodyPost_ret (v := .agg #[.int .i64 ((j : Int) + 1), .int .i64 ((i : Int) + 1), .bool bef, .int .u32 (sh : Int), .slice ro rl rc]) (by simp [results, Tryz.results40, go_sem, r0, r1, r2, r3, r4]) rfl ⟨rfl, (((((HB.out.setCell (p := ⟨w.heap.size + 1 + 1, 0, none⟩) (by show w.heap.size ≤ w.heap.size + 1 + 1; omega) _).setCell (p := ⟨w.heap.size + 1 + 1, 1, none⟩) (by show w.heap.size ≤ w.heap.size + 1 + 1; omega) _).setCell (p := ⟨w.heap.size + 1 + 1, 2, none⟩) (by show w.heap.size ≤ w.heap.size + 1 + 1; omega) _).setCell (p := ⟨w.heap.size + 1 + 1, 3, none⟩) (by show w.heap.size ≤ w.heap.size + 1 + 1; omega) _).setCell (p := ⟨w.heap.size + 1 + 1, 4, none⟩) (by show w.heap.size ≤ w.heap.size + 1 + 1; omega) _)⟩
set_option maxRecDepth 100000 in
set_option maxHeartbeats 4000000 in
theorem followC (bw be N i j : Nat) (nx pv : Int) (sh : Nat) (ro : Option Addr) (rl rc : Nat) (m e : List Bool) (w : World) (hw : BoolsAt w bw m) (he : BoolsAt w be e) (hm : m.length = N) (hl : e.length = N) (hi : i + 1 < N) (hj : j + 1 < N) (h1 : m.getD (i + 1) false = true) (h2 : m.getD (j + 1) false = false) (h3 : e.getD (j + 1) false = false) :
    Calls Tryz.prog 40 #[.agg #[.slice (some ⟨bw, 0, none⟩) N N, .slice (some ⟨be, 0, none⟩) N N, .int .i64 nx, .int .i64 pv], .agg #[.int .i64 ((j : Int) + 1), .int .i64 ((i : Int) + 1), .bool true, .int .u32 (sh : Int), .slice ro rl rc]] w fun e w' => e = .returned (.agg #[.int .i64 ((j : Int) + 1), .int .i64 (nx), .bool true, .int .u32 (sh : Int), .slice ro rl rc]) ∧ Below w.heap.size w w' := by
  obtain ⟨bx, g0, g1, g2, sx⟩ := three_new w (.cells #[.slice (some ⟨bw, 0, none⟩) N N, .slice (some ⟨be, 0, none⟩) N N, .int .i64 nx, .int .i64 pv] 67) (.cells #[.int .i64 ((j : Int) + 1), .int .i64 ((i : Int) + 1), .bool true, .int .u32 (sh : Int), .slice ro rl rc] 30) (.cells #[.int .i64 0, .int .i64 0, .bool false, .int .u32 0, .slice none 0 0] 30)
  have u1 := (hw.later bx).cellD (i + 1) false (by omega)
  rw [h1] at u1
  have u2 := (hw.later bx).cellD (j + 1) false (by omega)
  rw [h2] at u2
  have u3 := (he.later bx).cellD (j + 1) false (by omega)
  rw [h3] at u3
  obtain ⟨c0, c1, c2, c3⟩ := sv_cells g0
  obtain ⟨⟨a0, a1, a2, a3, a4⟩, y0, y1, y2, y3, y4⟩ := box5I g1
  obtain ⟨⟨r0, r1, r2, r3, r4⟩, s0, s1, s2, s3, s4⟩ := box5I g2
  have HB := hid bx
  have p1 : (0 : Int) ≤ (i : Int) + 1 := by omega
  have p2 : (i : Int) + 1 < (N : Int) := by omega
  have p3 : ((i : Int) + 1).toNat = i + 1 := by omega
  have p4 : (0 : Int) ≤ (j : Int) + 1 := by omega
  have p5 : (j : Int) + 1 < (N : Int) := by omega
  have p6 : ((j : Int) + 1).toNat = j + 1 := by omega
  clear bx g0 g1 g2 sx hw he hm hl h1 h2 h3
  go_enter Tryz.func40, Tryz.ntmps40
  go_upto_region 2 with fail
  generalize (((w.alloc (.cells #[.slice (some ⟨bw, 0, none⟩) N N, .slice (some ⟨be, 0, none⟩) N N, .int .i64 nx, .int .i64 pv] 67)).alloc (.cells #[.int .i64 ((j : Int) + 1), .int .i64 ((i : Int) + 1), .bool true, .int .u32 (sh : Int), .slice ro rl rc] 30)).alloc (.cells #[.int .i64 0, .int .i64 0, .bool false, .int .u32 0, .slice none 0 0] 30)) = W0 at *
  go_wp2
  exact bodyPost_ret (v := .agg #[.int .i64 ((j : Int) + 1), .int .i64 (nx), .bool true, .int .u32 (sh : Int), .slice ro rl rc]) (by simp [results, Tryz.results40, go_sem, r0, r1, r2, r3, r4]) rfl ⟨rfl, ((((((HB.out.setCell (p := ⟨w.heap.size + 1, 1, none⟩) (by show w.heap.size ≤ w.heap.size + 1; omega) _).setCell (p := ⟨w.heap.size + 1 + 1, 0, none⟩) (by show w.heap.size ≤ w.heap.size + 1 + 1; omega) _).setCell (p := ⟨w.heap.size + 1 + 1, 1, none⟩) (by show w.heap.size ≤ w.heap.size + 1 + 1; omega) _).setCell (p := ⟨w.heap.size + 1 + 1, 2, none⟩) (by show w.heap.size ≤ w.heap.size + 1 + 1; omega) _).setCell (p := ⟨w.heap.size + 1 + 1, 3, none⟩) (by show w.heap.size ≤ w.heap.size + 1 + 1; omega) _).setCell (p := ⟨w.heap.size + 1 + 1, 4, none⟩) (by show w.heap.size ≤ w.heap.size + 1 + 1; omega) _)⟩
set_option maxRecDepth 100000 in
set_option maxHeartbeats 4000000 in
theorem followD (bw be N i j : Nat) (nx pv : Int) (sh : Nat) (ro : Option Addr) (rl rc : Nat) (m e : List Bool) (w : World) (hw : BoolsAt w bw m) (_he : BoolsAt w be e) (hm : m.length = N) (hl : e.length = N) (hi : i + 1 < N) (hj : j + 1 < N) (h1 : m.getD (i + 1) false = true) (h2 : m.getD (j + 1) false = false) :
    Calls Tryz.prog 40 #[.agg #[.slice (some ⟨bw, 0, none⟩) N N, .slice (some ⟨be, 0, none⟩) N N, .int .i64 nx, .int .i64 pv], .agg #[.int .i64 ((j : Int) + 1), .int .i64 ((i : Int) + 1), .bool false, .int .u32 (sh : Int), .slice ro rl rc]] w fun e w' => e = .returned (.agg #[.int .i64 ((j : Int) + 1), .int .i64 (pv), .bool false, .int .u32 (sh : Int), .slice ro rl rc]) ∧ Below w.heap.size w w' := by
  obtain ⟨bx, g0, g1, g2, sx⟩ := three_new w (.cells #[.slice (some ⟨bw, 0, none⟩) N N, .slice (some ⟨be, 0, none⟩) N N, .int .i64 nx, .int .i64 pv] 67) (.cells #[.int .i64 ((j : Int) + 1), .int .i64 ((i : Int) + 1), .bool false, .int .u32 (sh : Int), .slice ro rl rc] 30) (.cells #[.int .i64 0, .int .i64 0, .bool false, .int .u32 0, .slice none 0 0] 30)
  have u1 := (hw.later bx).cellD (i + 1) false (by omega)
  rw [h1] at u1
  have u2 := (hw.later bx).cellD (j + 1) false (by omega)
  rw [h2] at u2
  obtain ⟨c0, c1, c2, c3⟩ := sv_cells g0
  obtain ⟨⟨a0, a1, a2, a3, a4⟩, y0, y1, y2, y3, y4⟩ := box5I g1
  obtain ⟨⟨r0, r1, r2, r3, r4⟩, s0, s1, s2, s3, s4⟩ := box5I g2
  have HB := hid bx
  have p1 : (0 : Int) ≤ (i : Int) + 1 := by omega
  have p2 : (i : Int) + 1 < (N : Int) := by omega
  have p3 : ((i : Int) + 1).toNat = i + 1 := by omega
  have p4 : (0 : Int) ≤ (j : Int) + 1 := by omega
  have p5 : (j : Int) + 1 < (N : Int) := by omega
  have p6 : ((j : Int) + 1).toNat = j + 1 := by omega
  clear bx g0 g1 g2 sx hw _he hm hl h1 h2
  go_enter Tryz.func40, Tryz.ntmps40
  go_upto_region 2 with fail
  generalize (((w.alloc (.cells #[.slice (some ⟨bw, 0, none⟩) N N, .slice (some ⟨be, 0, none⟩) N N, .int .i64 nx, .int .i64 pv] 67)).alloc (.cells #[.int .i64 ((j : Int) + 1), .int .i64 ((i : Int) + 1), .bool false, .int .u32 (sh : Int), .slice ro rl rc] 30)).alloc (.cells #[.int .i64 0, .int .i64 0, .bool false, .int .u32 0, .slice none 0 0] 30)) = W0 at *
  go_wp2
  exact bodyPost_ret (v := .agg #[.int .i64 ((j : Int) + 1), .int .i64 (pv), .bool false, .int .u32 (sh : Int), .slice ro rl rc]) (by simp [results, Tryz.results40, go_sem, r0, r1, r2, r3, r4]) rfl ⟨rfl, (((((((HB.out.setCell (p := ⟨w.heap.size + 1, 1, none⟩) (by show w.heap.size ≤ w.heap.size + 1; omega) _).setCell (p := ⟨w.heap.size + 1, 2, none⟩) (by show w.heap.size ≤ w.heap.size + 1; omega) _).setCell (p := ⟨w.heap.size + 1 + 1, 0, none⟩) (by show w.heap.size ≤ w.heap.size + 1 + 1; omega) _).setCell (p := ⟨w.heap.size + 1 + 1, 1, none⟩) (by show w.heap.size ≤ w.heap.size + 1 + 1; omega) _).setCell (p := ⟨w.heap.size + 1 + 1, 2, none⟩) (by show w.heap.size ≤ w.heap.size + 1 + 1; omega) _).setCell (p := ⟨w.heap.size + 1 + 1, 3, none⟩) (by show w.heap.size ≤ w.heap.size + 1 + 1; omega) _).setCell (p := ⟨w.heap.size + 1 + 1, 4, none⟩) (by show w.heap.size ≤ w.heap.size + 1 + 1; omega) _)⟩
set_option maxRecDepth 100000 in
set_option maxHeartbeats 4000000 in
theorem followE (bw be N i j : Nat) (nx pv : Int) (sh : Nat) (ro : Option Addr) (rl rc : Nat) (m e : List Bool) (w : World) (hw : BoolsAt w bw m) (he : BoolsAt w be e) (hm : m.length = N) (hl : e.length = N) (hi : i + 1 < N) (hj : j + 1 < N) (h1 : m.getD (i + 1) false = true) (h2 : m.getD (j + 1) false = false) (h3 : e.getD (j + 1) false = true) :
    Calls Tryz.prog 40 #[.agg #[.slice (some ⟨bw, 0, none⟩) N N, .slice (some ⟨be, 0, none⟩) N N, .int .i64 nx, .int .i64 pv], .agg #[.int .i64 ((j : Int) + 1), .int .i64 ((i : Int) + 1), .bool true, .int .u32 (sh : Int), .slice ro rl rc]] w fun e w' => e = .returned (.agg #[.int .i64 ((j : Int) + 1), .int .i64 (pv), .bool false, .int .u32 (sh : Int), .slice ro rl rc]) ∧ Below w.heap.size w w' := by
  obtain ⟨bx, g0, g1, g2, sx⟩ := three_new w (.cells #[.slice (some ⟨bw, 0, none⟩) N N, .slice (some ⟨be, 0, none⟩) N N, .int .i64 nx, .int .i64 pv] 67) (.cells #[.int .i64 ((j : Int) + 1), .int .i64 ((i : Int) + 1), .bool true, .int .u32 (sh : Int), .slice ro rl rc] 30) (.cells #[.int .i64 0, .int .i64 0, .bool false, .int .u32 0, .slice none 0 0] 30)
  have u1 := (hw.later bx).cellD (i + 1) false (by omega)
  rw [h1] at u1
  have u2 := (hw.later bx).cellD (j + 1) false (by omega)
  rw [h2] at u2
  have u3 := (he.later bx).cellD (j + 1) false (by omega)
  rw [h3] at u3
  obtain ⟨c0, c1, c2, c3⟩ := sv_cells g0
  obtain ⟨⟨a0, a1, a2, a3, a4⟩, y0, y1, y2, y3, y4⟩ := box5I g1
  obtain ⟨⟨r0, r1, r2, r3, r4⟩, s0, s1, s2, s3, s4⟩ := box5I g2
  have HB := hid bx
  have p1 : (0 : Int) ≤ (i : Int) + 1 := by omega
  have p2 : (i : Int) + 1 < (N : Int) := by omega
  have p3 : ((i : Int) + 1).toNat = i + 1 := by omega
  have p4 : (0 : Int) ≤ (j : Int) + 1 := by omega
  have p5 : (j : Int) + 1 < (N : Int) := by omega
  have p6 : ((j : Int) + 1).toNat = j + 1 := by omega
  clear bx g0 g1 g2 sx hw he hm hl h1 h2 h3
  go_enter Tryz.func40, Tryz.ntmps40
  go_upto_region 2 with fail
  generalize (((w.alloc (.cells #[.slice (some ⟨bw, 0, none⟩) N N, .slice (some ⟨be, 0, none⟩) N N, .int .i64 nx, .int .i64 pv] 67)).alloc (.cells #[.int .i64 ((j : Int) + 1), .int .i64 ((i : Int) + 1), .bool true, .int .u32 (sh : Int), .slice ro rl rc] 30)).alloc (.cells #[.int .i64 0, .int .i64 0, .bool false, .int .u32 0, .slice none 0 0] 30)) = W0 at *
  go_wp2
  exact bodyPost_ret (v := .agg #[.int .i64 ((j : Int) + 1), .int .i64 (pv), .bool false, .int .u32 (sh : Int), .slice ro rl rc]) (by simp [results, Tryz.results40, go_sem, r0, r1, r2, r3, r4]) rfl ⟨rfl, (((((((HB.out.setCell (p := ⟨w.heap.size + 1, 1, none⟩) (by show w.heap.size ≤ w.heap.size + 1; omega) _).setCell (p := ⟨w.heap.size + 1, 2, none⟩) (by show w.heap.size ≤ w.heap.size + 1; omega) _).setCell (p := ⟨w.heap.size + 1 + 1, 0, none⟩) (by show w.heap.size ≤ w.heap.size + 1 + 1; omega) _).setCell (p := ⟨w.heap.size + 1 + 1, 1, none⟩) (by show w.heap.size ≤ w.heap.size + 1 + 1; omega) _).setCell (p := ⟨w.heap.size + 1 + 1, 2, none⟩) (by show w.heap.size ≤ w.heap.size + 1 + 1; omega) _).setCell (p := ⟨w.heap.size + 1 + 1, 3, none⟩) (by show w.heap.size ≤ w.heap.size + 1 + 1; omega) _).setCell (p := ⟨w.heap.size + 1 + 1, 4, none⟩) (by show w.heap.size ≤ w.heap.size + 1 + 1; omega) _)⟩
/-- What becomes of an iterator: where it stands. -/
def followR (m e : List Bool) (nx pv : Int) (root ref : Int) (bef : Bool) : Int × Bool :=
  if !m.getD ref.toNat false || m.getD root.toNat false then (ref, bef) else if bef && !e.getD root.toNat false then (nx, bef) else (pv, false)
theorem follow_any (bw be N : Nat) (n : Nat) (nx pv root ref : Int) (bef : Bool) (sh : Nat) (ro : Option Addr) (rl rc : Nat) (m e : List Bool) (w : World) (hw : BoolsAt w bw m) (he : BoolsAt w be e) (hm : m.length = N) (hl : e.length = N) (hN : N = n + 1) (hr : thereB n root = true) (hx : thereB n ref = true) :
    Calls Tryz.prog 40 #[.agg #[.slice (some ⟨bw, 0, none⟩) N N, .slice (some ⟨be, 0, none⟩) N N, .int .i64 nx, .int .i64 pv], .agg #[.int .i64 root, .int .i64 ref, .bool bef, .int .u32 (sh : Int), .slice ro rl rc]] w fun e' w' => e' = .returned (.agg #[.int .i64 root, .int .i64 (followR m e nx pv root ref bef).1, .bool (followR m e nx pv root ref bef).2, .int .u32 (sh : Int), .slice ro rl rc]) ∧ Below w.heap.size w w' := by
  obtain ⟨i, hi, rfl⟩ := there_idx hx
  obtain ⟨j, hj, rfl⟩ := there_idx hr
  unfold followR
  rw [show ((i : Int) + 1).toNat = i + 1 by omega, show ((j : Int) + 1).toNat = j + 1 by omega]
  cases h1 : m.getD (i + 1) false with
  | false => exact followA bw be N i j nx pv bef sh ro rl rc m e w hw he hm hl (by omega) (by omega) h1
  | true =>
    cases h2 : m.getD (j + 1) false with
    | true => exact followB bw be N i j nx pv bef sh ro rl rc m e w hw he hm hl (by omega) (by omega) h1 h2
    | false =>
      cases bef with
      | false => exact followD bw be N i j nx pv sh ro rl rc m e w hw he hm hl (by omega) (by omega) h1 h2
      | true =>
        cases h3 : e.getD (j + 1) false with
        | false => exact followC bw be N i j nx pv sh ro rl rc m e w hw he hm hl (by omega) (by omega) h1 h2 h3
        | true => exact followE bw be N i j nx pv sh ro rl rc m e w hw he hm hl (by omega) (by omega) h1 h2 h3
end Go.Proofs.YticenjhhefiboaaGreat

