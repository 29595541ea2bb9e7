/- loop: After. -/
import Derived.Test.YtaliecmdkloceaaLpN
namespace Go.Proofs.Ytaliecmdkloceaa
open Go.RowKit Go.Lib Go.Shelf

def wrongA (ms level : Int) : Bool := decide (1125899906842624 < ms) || decide (level < 0)
def afterE (s : LpD) (ms level : Int) : Int := againstE s (wrongA ms level)
def afterX (s : LpD) (ms level id : Int) : AlD := ⟨min (s.now + waitD ms level) 1125899906842624, s.giv + 1, id⟩
def insD (s : LpD) (x : AlD) : LpD := { s with giv := s.giv + 1, tms := s.tms.take (cntD s.tms x.due) ++ x :: s.tms.drop (cntD s.tms x.due) }
def afterD (s : LpD) (ms level id : Int) : LpD := if afterE s ms level = 0 then insD s (afterX s ms level id) else s
def afterN (s : LpD) (ms level : Int) : Int := if afterE s ms level = 0 then s.giv + 1 else 0
theorem wait_lim (ms level : Int) (h : ms ≤ 1125899906842624) : 0 ≤ waitD ms level ∧ waitD ms level ≤ 1125899906842624 := by
  unfold waitD
  split
  · omega
  · omega
/-- How the world stands while After makes a timer: z is w with one more timer given; a block Z is new. -/
structure Mk (w W : World) (B : Nat) (y : Value) (Z : Obj) (al ad : Bool) : Prop where
  bel : if ad = true then Below (w.setCell ⟨B, 11, none⟩ y).heap.size (w.setCell ⟨B, 11, none⟩ y) W else Below w.heap.size w W
  new : if al = true then W.heap[w.heap.size]? = some Z else W.heap.size = w.heap.size
theorem size_setQ (W : World) (p : Addr) (x : Value) : (W.setCell p x).heap.size = W.heap.size := by
  show (W.heap.modify _ _).size = _
  exact Array.size_modify
theorem Mk.start (w : World) (B : Nat) (y : Value) (Z : Obj) : Mk w w.drew B y Z false false := ⟨(Below.refl _ _).drew, rfl⟩
theorem Mk.alloc {w W : World} {B : Nat} {y : Value} {Z : Obj} {ad : Bool} (h : Mk w W B y Z false ad) : Mk w (W.alloc Z) B y Z true ad := by
  have hn : W.heap.size = w.heap.size := h.new
  refine ⟨?_, ?_⟩
  · cases ad with
    | true =>
      have hb : Below (w.setCell ⟨B, 11, none⟩ y).heap.size (w.setCell ⟨B, 11, none⟩ y) W := h.bel
      exact hb.alloc hb.size _
    | false =>
      have hb : Below w.heap.size w W := h.bel
      exact hb.alloc hb.size _
  · show (W.alloc Z).heap[w.heap.size]? = some Z
    rw [← hn]
    exact heap_new W Z
theorem Mk.add {w W : World} {B : Nat} {y : Value} {Z : Obj} {al : Bool} (h : Mk w W B y Z al false) (hB : B < w.heap.size) : Mk w (W.setCell ⟨B, 11, none⟩ y) B y Z al true := by
  have hb : Below w.heap.size w W := h.bel
  refine ⟨?_, ?_⟩
  · show Below _ _ _
    refine ⟨hb.os, hb.tape, hb.output, by rw [size_setQ, size_setQ]; exact hb.size, fun k hk => ?_⟩
    rw [size_setQ] at hk
    by_cases hkB : k = B
    · subst hkB
      simp [World.setCell, Array.getElem?_modify, hb.block k hk]
    · rw [Below.heap_setCell _ _ _ k hkB, Below.heap_setCell _ _ _ k hkB, hb.block k hk]
  · cases al with
    | true =>
      have hn : W.heap[w.heap.size]? = some Z := h.new
      show (W.setCell _ _).heap[w.heap.size]? = some Z
      rw [Below.heap_setCell _ _ _ _ (show w.heap.size ≠ B by omega)]
      exact hn
    | false =>
      have hn : W.heap.size = w.heap.size := h.new
      show (W.setCell _ _).heap.size = _
      rw [size_setQ]
      exact hn
theorem Mk.now {w W : World} {B : Nat} {y v : Value} {Z : Obj} {al ad : Bool} (h : Mk w W B y Z al ad) (hB : B < w.heap.size) (hv : w.cell? ⟨B, 0, none⟩ = some v) : W.cell? ⟨B, 0, none⟩ = some v := by
  cases ad with
  | true =>
    have hb : Below (w.setCell ⟨B, 11, none⟩ y).heap.size (w.setCell ⟨B, 11, none⟩ y) W := h.bel
    exact (hb.cell (p := ⟨B, 0, none⟩) (by rw [size_setQ]; exact hB)).trans ((World.cell?_setCell_other _ ⟨B, 11, none⟩ ⟨B, 0, none⟩ _ (by simp)).trans hv)
  | false =>
    have hb : Below w.heap.size w W := h.bel
    exact (hb.cell (p := ⟨B, 0, none⟩) hB).trans hv
theorem Mk.giv {w W : World} {B : Nat} {y v : Value} {Z : Obj} {al : Bool} (h : Mk w W B y Z al false) (hB : B < w.heap.size) (hv : w.cell? ⟨B, 11, none⟩ = some v) (hf : w.frozen? ⟨B, 11, none⟩ = false) : W.cell? ⟨B, 11, none⟩ = some v ∧ W.frozen? ⟨B, 11, none⟩ = false := by
  have hb : Below w.heap.size w W := h.bel
  exact ⟨(hb.cell (p := ⟨B, 11, none⟩) hB).trans hv, (hb.frozen (p := ⟨B, 11, none⟩) hB).trans hf⟩
/-- The timer is laid. -/
theorem Mk.lay {w W : World} {B : Nat} {y a b c : Value} {T : TypeId} (h : Mk w W B y (.cells #[a, b, c] T) true true) (x1 x2 x3 : Value) : Mk w (((W.setCell ⟨w.heap.size, 0, none⟩ x1).setCell ⟨w.heap.size, 1, none⟩ x2).setCell ⟨w.heap.size, 2, none⟩ x3) B y (.cells #[x1, x2, x3] T) true true := by
  have hb : Below (w.setCell ⟨B, 11, none⟩ y).heap.size (w.setCell ⟨B, 11, none⟩ y) W := h.bel
  have hs : (w.setCell ⟨B, 11, none⟩ y).heap.size = w.heap.size := size_setQ _ _ _
  refine ⟨?_, turn_world h.new x1 x2 x3⟩
  show Below _ _ _
  exact ((hb.setCell (p := ⟨w.heap.size, 0, none⟩) (by rw [hs]; exact Nat.le_refl _) x1).setCell (p := ⟨w.heap.size, 1, none⟩) (by rw [hs]; exact Nat.le_refl _) x2).setCell (p := ⟨w.heap.size, 2, none⟩) (by rw [hs]; exact Nat.le_refl _) x3
set_option maxRecDepth 100000 in
set_option maxHeartbeats 1000000 in
theorem after_ok (F : Nat → Prop) (B : Nat) (s : LpD) (ms level id : Int) (V : World) (h : LpAt V F B s) (ht : totD s ≤ 4096) (hs : Sorted s.tms) (hn0 : 0 ≤ s.now) (hn1 : s.now ≤ 1125899906842624) (hg0 : 0 ≤ s.giv) (hg1 : s.giv < 4611686018427387904) (hE : afterE s ms level = 0) :
    Calls Try.prog 12 #[.pointer (some ⟨B, 0, none⟩), .int .i64 ms, .int .i64 level, .int .i64 id] V fun e w' => e = .returned (.tuple #[.int .i64 (s.giv + 1), .int .i64 0]) ∧ LpTo V F B (insD s (afterX s ms level id)) w' := by
  have hF := LpV.notF h
  have hA := against_any F B s (wrongA ms level) V h (by omega)
  have hEE : againstE s (wrongA ms level) = 0 := hE
  have hms : ms ≤ 1125899906842624 ∧ 0 ≤ level := by
    unfold againstE at hEE
    split at hEE
    · cases hEE
    · split at hEE
      · cases hEE
      · rename_i h1
        have : wrongA ms level = false := by simpa using h1
        unfold wrongA at this
        rw [Bool.or_eq_false_iff] at this
        have a := of_decide_eq_false this.1
        have b := of_decide_eq_false this.2
        omega
  have hwf : wrongA ms level = false := by
    unfold wrongA
    rw [decide_eq_false (by omega), decide_eq_false (by omega)]
    rfl
  rw [hEE, hwf] at hA
  have hwl := wait_lim ms level hms.1
  have HU := hid (fun U (hU : Below V.heap.size V U) => h.later hU)
  have HK : Hid (∀ U wx : World, Below V.heap.size V U → Below (U.setCell ⟨B, 11, none⟩ (.int .i64 (s.giv + 1))).heap.size (U.setCell ⟨B, 11, none⟩ (.int .i64 (s.giv + 1))) wx → wx.heap[U.heap.size]? = some (alO (afterX s ms level id)) →
      ∃ o c, wx.cell? ⟨B, 10, none⟩ = some (.slice o s.tms.length c) ∧ (∀ W, Below wx.heap.size wx W → Calls Try.prog 35 #[.agg #[.slice o s.tms.length c], .int .i64 (afterX s ms level id).due] W fun e w' => e = .returned (.int .i64 (cntD s.tms (afterX s ms level id).due : Nat)) ∧ Hid (Below wx.heap.size wx w')) ∧
        (∀ W, Hid (Below wx.heap.size wx W) → Calls Try.prog 34 #[.pointer (some ⟨B, 10, none⟩), .int .i64 (cntD s.tms (afterX s ms level id).due : Nat), alV (afterX s ms level id)] W fun e w' => e = .returned (.tuple #[]) ∧ w'.cell? ⟨U.heap.size, 1, none⟩ = some (.int .i64 (s.giv + 1)) ∧ Hid (LpTo V F B (insD s (afterX s ms level id)) w'))) := by
    intro U wx hU hwx hX
    obtain ⟨arr, v, k1⟩ := h.later hU
    have k2 := (k1.setGiv (s.giv + 1)).later hwx
    have hlow := k1.low
    obtain ⟨o, c, hv, t0⟩ := k2.tcell
    have hAr := k2.rowT.rdA
    rw [hv] at hAr
    have hfr : Fr F V wx := (Fr.of_below hU).trans ((fr_set k1.self 11 _).trans (Fr.of_below (F := fun _ => False) hwx) (fun k hk => hk.elim)) (fun k hk => .inl hk)
    refine ⟨o, c, t0, fun W hW => ?_, fun W hW => ?_⟩
    · refine (dueBy_any _ s.tms (afterX s ms level id).due W (hAr.later hW) (by unfold totD at ht; omega) hs).mono ?_
      rintro e w' ⟨rfl, hb⟩
      exact ⟨rfl, hW.trans (hb.mono hW.size)⟩
    · have hW' : Below wx.heap.size wx W := hW
      have k3 := k2.later hW'
      refine (k3.ins (cntD s.tms (afterX s ms level id).due) (afterX s ms level id) (List.length_filter_le _ _) (by unfold totD tasksD at ht ⊢; dsimp only; omega)).mono ?_
      rintro e w' ⟨rfl, hq⟩
      refine ⟨rfl, ?_, LpTo.trans hfr (fun k hk => .inl hk) (LpTo.above hW' hq)⟩
      have hUX : U.heap.size < wx.heap.size := (Array.getElem?_eq_some_iff.1 hX).1
      have hX2 : w'.heap[U.heap.size]? = some (alO (afterX s ms level id)) := (hq.1.block _ (Nat.lt_of_lt_of_le hUX hW'.size) (fun hf => by have := hlow _ hf; omega)).trans ((hW'.block _ hUX).trans hX)
      exact (cell_of_heap hX2 1).trans rfl
  obtain ⟨arr, v, h1⟩ := h
  have c0 : Hid (∀ U, Below V.heap.size V U → U.cell? ⟨B, 0, none⟩ = some (.int .i64 s.now) ∧ U.cell? ⟨B, 11, none⟩ = some (.int .i64 s.giv) ∧ U.frozen? ⟨B, 11, none⟩ = false) := fun U hU => ⟨(h1.later hU).cs.now, (h1.later hU).cs.giv, (h1.later hU).cs.fz 11⟩
  have hBV : Hid (B < V.heap.size) := h1.lt
  have d1 : decide (ms > 1125899906842624) = false := decide_eq_false (by omega)
  have d2 : decide (level < 0) = false := decide_eq_false (by omega)
  have hw1 : IntKind.i64.wrap (s.now + waitD ms level) = s.now + waitD ms level := by rw [IntKind.wrap_i64]; omega
  have hWt := hid (fun W => wait_any ms level W)
  have hG := hid (fun W h1 h2 => add_giv B s.giv W h1 h2 hg0 hg1)
  clear hEE hE hwf hms hwl h1 ht hs hF
  unfold alO alV afterX at HK
  unfold afterX
  dsimp only at HK
  generalize waitD ms level = wt at *
  generalize hX : ({ due := min (s.now + wt) 1125899906842624, num := s.giv + 1, id := id } : AlD) = X at *
  have HX := hid hX
  clear hX
  generalize cntD s.tms (min (s.now + wt) 1125899906842624) = I at *
  generalize s.tms.length = TL at *
  generalize insD s X = S2 at *
  generalize s.now = now at *
  generalize s.giv = giv at *
  go_enter Try.func12, Try.ntmps12
  go_upto_region 4 with (go_at_call 30; refine hA.mono ?_; rintro e w2 ⟨rfl, hb⟩; have HB2 := hid hb; clear hb)
  obtain ⟨n0, g0, f0⟩ := c0.out w2 HB2.out
  have HKK := hid (fun wx => HK.out w2 wx HB2.out)
  have hBw : B < w2.heap.size := Nat.lt_of_lt_of_le hBV.out HB2.out.size
  clear HK c0 HU
  go_cut [11] (fun t wx => t = .pointer (some ⟨w2.heap.size, 0, none⟩) ∧ Hid (Below (w2.setCell ⟨B, 11, none⟩ (.int .i64 (giv + 1))).heap.size (w2.setCell ⟨B, 11, none⟩ (.int .i64 (giv + 1))) wx) ∧ Hid (wx.heap[w2.heap.size]? = some (.cells #[.int .i64 (min (now + wt) 1125899906842624), .int .i64 (giv + 1), .int .i64 id] 99)))
  case first =>
    have M0 := hid (Mk.start w2 B (.int .i64 (giv + 1)) (.cells #[.int .i64 0, .int .i64 0, .int .i64 0] 99))
    refine wp_region_held_drew (S := fun V => V.cell? ⟨B, 0, none⟩ = some (.int .i64 now)) (by kernel_rfl) (M0.out.now hBw n0) (fun hHeld => ?_)
    generalize w2.drew = V0 at *
    refine wpAnyH_one 0 23 (.pointer (some ⟨B, 0, none⟩)) hHeld rfl rfl (by kernel_rfl) (fun _ _ _ _ _ h => h) (by kernel_rfl) (by kernel_rfl) (by rfl) ?_ ?_
    · intro V hSw; (try dsimp only at hSw); go_simp
    simp only [Act.put, List.setIfInBounds_toArray, List.set_cons_zero, List.set_cons_succ]
    refine wpAnyH_one 1 24 (.pointer (some ⟨B, 0, none⟩)) hHeld rfl rfl (by kernel_rfl) (fun _ _ _ _ _ h => h) (by kernel_rfl) (by kernel_rfl) (by rfl) ?_ ?_
    · intro V hSw; (try dsimp only at hSw); go_simp
    simp only [Act.put, List.setIfInBounds_toArray, List.set_cons_zero, List.set_cons_succ]
    refine wpAnyH_one 2 25 (.pointer (some ⟨B, 0, none⟩)) hHeld rfl rfl (by kernel_rfl) (fun _ _ _ _ _ h => h) (by kernel_rfl) (by kernel_rfl) (by rfl) ?_ ?_
    · intro V hSw; (try dsimp only at hSw); go_simp
    simp only [Act.put, List.setIfInBounds_toArray, List.set_cons_zero, List.set_cons_succ]
    refine wpAnyH_one 3 26 (.int .i64 now) hHeld rfl rfl (by kernel_rfl) (fun _ _ _ _ _ h => h) (by kernel_rfl) (by kernel_rfl) (by rfl) ?_ ?_
    · intro V hSw; (try dsimp only at hSw); go_simp
    simp only [Act.put, List.setIfInBounds_toArray, List.set_cons_zero, List.set_cons_succ]
    refine wpAnyH_one 4 27 (.int .i64 ms) hHeld rfl rfl (by kernel_rfl) (fun _ _ _ _ _ h => h) (by kernel_rfl) (by kernel_rfl) (by rfl) ?_ ?_
    · intro V hSw; (try dsimp only at hSw); go_simp
    simp only [Act.put, List.setIfInBounds_toArray, List.set_cons_zero, List.set_cons_succ]
    refine wpAnyH_one 5 28 (.int .i64 level) hHeld rfl rfl (by kernel_rfl) (fun _ _ _ _ _ h => h) (by kernel_rfl) (by kernel_rfl) (by rfl) ?_ ?_
    · intro V hSw; (try dsimp only at hSw); go_simp
    simp only [Act.put, List.setIfInBounds_toArray, List.set_cons_zero, List.set_cons_succ]
    refine wpAnyH_one 9 32 (.pointer (some ⟨B, 0, none⟩)) hHeld rfl rfl (by kernel_rfl) (fun _ _ _ _ _ h => h) (by kernel_rfl) (by kernel_rfl) (by rfl) ?_ ?_
    · intro V hSw; (try dsimp only at hSw); go_simp
    simp only [Act.put, List.setIfInBounds_toArray, List.set_cons_zero, List.set_cons_succ]
    refine wpAnyH_one 10 33 (.pointer (some ⟨B, 0, none⟩)) hHeld rfl rfl (by kernel_rfl) (fun _ _ _ _ _ h => h) (by kernel_rfl) (by kernel_rfl) (by rfl) ?_ ?_
    · intro V hSw; (try dsimp only at hSw); go_simp
    simp only [Act.put, List.setIfInBounds_toArray, List.set_cons_zero, List.set_cons_succ]
    refine wpAnyH_one 11 34 (.pointer (some ⟨B, 11, none⟩)) hHeld rfl rfl (by kernel_rfl) (fun _ _ _ _ _ h => h) (by kernel_rfl) (by kernel_rfl) (by rfl) ?_ ?_
    · intro V hSw; (try dsimp only at hSw); go_simp
    simp only [Act.put, List.setIfInBounds_toArray, List.set_cons_zero, List.set_cons_succ]
    refine wpAnyH_one 13 36 (.int .i64 id) hHeld rfl rfl (by kernel_rfl) (fun _ _ _ _ _ h => h) (by kernel_rfl) (by kernel_rfl) (by rfl) ?_ ?_
    · intro V hSw; (try dsimp only at hSw); go_simp
    simp only [Act.put, List.setIfInBounds_toArray, List.set_cons_zero, List.set_cons_succ]
    refine wpAnyH_ready (rs := [6, 15]) (by kernel_rfl) (by simp) ?_
    refine AllReadyH.cons rfl (fun K hK => ?_) (AllReadyH.cons rfl (fun K hK => ?_) (AllReadyH.nil))
    · go_simp
      go_wp2_with (go_at_call 32; refine (hWt.out _).mono ?_; rintro e w3 ⟨rfl, hw3⟩; have hw3 := hw3.symm; subst hw3)
      refine hK.out _ _ (M0.out.now hBw n0) (fun hHeld => ?_)
      clear hK K
      refine wpAnyH_one 7 30 (.int .i64 (now + wt)) hHeld rfl rfl (by kernel_rfl) (fun _ _ _ _ _ h => h) (by kernel_rfl) (by kernel_rfl) (by rfl) ?_ ?_
      · intro V hSw; (try dsimp only at hSw); go_simp
      simp only [Act.put, List.setIfInBounds_toArray, List.set_cons_zero, List.set_cons_succ]
      refine wpAnyH_one 8 31 (.int .i64 (min (now + wt) 1125899906842624)) hHeld rfl rfl (by kernel_rfl) (fun _ _ _ _ _ h => h) (by kernel_rfl) (by kernel_rfl) (by rfl) ?_ ?_
      · intro V hSw; (try dsimp only at hSw); go_simp
      simp only [Act.put, List.setIfInBounds_toArray, List.set_cons_zero, List.set_cons_succ]
      refine wpAnyH_ready (rs := [12, 15]) (by kernel_rfl) (by simp) ?_
      refine AllReadyH.cons rfl (fun K hK => ?_) (AllReadyH.cons rfl (fun K hK => ?_) (AllReadyH.nil))
      · go_simp
        go_wp2_with (go_at_call 33; refine (hG.out _ (M0.out.giv hBw g0 f0).1 (M0.out.giv hBw g0 f0).2).mono ?_; rintro e w3 ⟨rfl, rfl⟩)
        have M2 := hid (M0.out.add (y := .int .i64 (giv + 1)) hBw)
        generalize V0.setCell ⟨B, 11, none⟩ (.int .i64 (giv + 1)) = V2 at *
        refine hK.out _ _ (M2.out.now hBw n0) (fun hHeld => ?_)
        clear hK K
        refine wpAnyH_one 14 37 (.agg #[.int .i64 (min (now + wt) 1125899906842624), .int .i64 (giv + 1), .int .i64 id]) hHeld rfl rfl (by kernel_rfl) (fun _ _ _ _ _ h => h) (by kernel_rfl) (by kernel_rfl) (by rfl) ?_ ?_
        · intro V hSw; (try dsimp only at hSw); go_simp
        simp only [Act.put, List.setIfInBounds_toArray, List.set_cons_zero, List.set_cons_succ]
        refine wpAnyH_ready (rs := [15]) (by kernel_rfl) (by simp) ?_
        refine AllReadyH.cons rfl (fun K hK => ?_) (AllReadyH.nil)
        go_simp
        have M3 := hid (Mk.alloc M2.out)
        have hPN : (⟨V2.heap.size, 0, none⟩ : Addr) = ⟨w2.heap.size, 0, none⟩ := by rw [show V2.heap.size = w2.heap.size from M2.out.new]
        rw [hPN]
        clear hPN
        generalize V2.alloc (.cells #[.int .i64 0, .int .i64 0, .int .i64 0] 99) = V3 at *
        refine hK.out _ _ (M3.out.now hBw n0) (fun hHeld => ?_)
        clear hK K
        have hz := M3.out.new
        have z0 := (cell_of_heap hz 0).trans rfl
        have z1 := (cell_of_heap hz 1).trans rfl
        have z2 := (cell_of_heap hz 2).trans rfl
        have y0 := box_fz hz 0
        have y1 := box_fz hz 1
        have y2 := box_fz hz 2
        clear hz
        refine wpAnyH_ready (rs := [16]) (by kernel_rfl) (by simp) ?_
        refine AllReadyH.cons rfl (fun K hK => ?_) (AllReadyH.nil)
        go_simp
        have M4 := hid (Mk.lay M3.out (.int .i64 (min (now + wt) 1125899906842624)) (.int .i64 (giv + 1)) (.int .i64 id))
        generalize ((V3.setCell ⟨w2.heap.size, 0, none⟩ (.int .i64 (min (now + wt) 1125899906842624))).setCell ⟨w2.heap.size, 1, none⟩ (.int .i64 (giv + 1))).setCell ⟨w2.heap.size, 2, none⟩ (.int .i64 id) = V4 at *
        refine hK.out _ _ (M4.out.now hBw n0) (fun hHeld => ?_)
        clear hK K
        refine wpAnyH_done (by kernel_rfl) ?_ _
        go_wp2_with fail
        go_meet
        exact ⟨rfl, M4.out.bel, M4.out.new⟩
      · go_simp
        have M5 := hid (Mk.alloc M0.out)
        have hPN : (⟨V0.heap.size, 0, none⟩ : Addr) = ⟨w2.heap.size, 0, none⟩ := by rw [show V0.heap.size = w2.heap.size from M0.out.new]
        rw [hPN]
        clear hPN
        generalize V0.alloc (.cells #[.int .i64 0, .int .i64 0, .int .i64 0] 99) = V5 at *
        refine hK.out _ _ (M5.out.now hBw n0) (fun hHeld => ?_)
        clear hK K
        refine wpAnyH_ready (rs := [12]) (by kernel_rfl) (by simp) ?_
        refine AllReadyH.cons rfl (fun K hK => ?_) (AllReadyH.nil)
        go_simp
        go_wp2_with (go_at_call 33; refine (hG.out _ (M5.out.giv hBw g0 f0).1 (M5.out.giv hBw g0 f0).2).mono ?_; rintro e w3 ⟨rfl, rfl⟩)
        have M6 := hid (M5.out.add (y := .int .i64 (giv + 1)) hBw)
        generalize V5.setCell ⟨B, 11, none⟩ (.int .i64 (giv + 1)) = V6 at *
        refine hK.out _ _ (M6.out.now hBw n0) (fun hHeld => ?_)
        clear hK K
        refine wpAnyH_one 14 37 (.agg #[.int .i64 (min (now + wt) 1125899906842624), .int .i64 (giv + 1), .int .i64 id]) hHeld rfl rfl (by kernel_rfl) (fun _ _ _ _ _ h => h) (by kernel_rfl) (by kernel_rfl) (by rfl) ?_ ?_
        · intro V hSw; (try dsimp only at hSw); go_simp
        simp only [Act.put, List.setIfInBounds_toArray, List.set_cons_zero, List.set_cons_succ]
        have hz := M6.out.new
        have z0 := (cell_of_heap hz 0).trans rfl
        have z1 := (cell_of_heap hz 1).trans rfl
        have z2 := (cell_of_heap hz 2).trans rfl
        have y0 := box_fz hz 0
        have y1 := box_fz hz 1
        have y2 := box_fz hz 2
        clear hz
        refine wpAnyH_ready (rs := [16]) (by kernel_rfl) (by simp) ?_
        refine AllReadyH.cons rfl (fun K hK => ?_) (AllReadyH.nil)
        go_simp
        have M7 := hid (Mk.lay M6.out (.int .i64 (min (now + wt) 1125899906842624)) (.int .i64 (giv + 1)) (.int .i64 id))
        generalize ((V6.setCell ⟨w2.heap.size, 0, none⟩ (.int .i64 (min (now + wt) 1125899906842624))).setCell ⟨w2.heap.size, 1, none⟩ (.int .i64 (giv + 1))).setCell ⟨w2.heap.size, 2, none⟩ (.int .i64 id) = V7 at *
        refine hK.out _ _ (M7.out.now hBw n0) (fun hHeld => ?_)
        clear hK K
        refine wpAnyH_done (by kernel_rfl) ?_ _
        go_wp2_with fail
        go_meet
        exact ⟨rfl, M7.out.bel, M7.out.new⟩
    · go_simp
      have M8 := hid (Mk.alloc M0.out)
      have hPN : (⟨V0.heap.size, 0, none⟩ : Addr) = ⟨w2.heap.size, 0, none⟩ := by rw [show V0.heap.size = w2.heap.size from M0.out.new]
      rw [hPN]
      clear hPN
      generalize V0.alloc (.cells #[.int .i64 0, .int .i64 0, .int .i64 0] 99) = V8 at *
      refine hK.out _ _ (M8.out.now hBw n0) (fun hHeld => ?_)
      clear hK K
      refine wpAnyH_ready (rs := [6]) (by kernel_rfl) (by simp) ?_
      refine AllReadyH.cons rfl (fun K hK => ?_) (AllReadyH.nil)
      go_simp
      go_wp2_with (go_at_call 32; refine (hWt.out _).mono ?_; rintro e w3 ⟨rfl, hw3⟩; have hw3 := hw3.symm; subst hw3)
      refine hK.out _ _ (M8.out.now hBw n0) (fun hHeld => ?_)
      clear hK K
      refine wpAnyH_one 7 30 (.int .i64 (now + wt)) hHeld rfl rfl (by kernel_rfl) (fun _ _ _ _ _ h => h) (by kernel_rfl) (by kernel_rfl) (by rfl) ?_ ?_
      · intro V hSw; (try dsimp only at hSw); go_simp
      simp only [Act.put, List.setIfInBounds_toArray, List.set_cons_zero, List.set_cons_succ]
      refine wpAnyH_one 8 31 (.int .i64 (min (now + wt) 1125899906842624)) hHeld rfl rfl (by kernel_rfl) (fun _ _ _ _ _ h => h) (by kernel_rfl) (by kernel_rfl) (by rfl) ?_ ?_
      · intro V hSw; (try dsimp only at hSw); go_simp
      simp only [Act.put, List.setIfInBounds_toArray, List.set_cons_zero, List.set_cons_succ]
      refine wpAnyH_ready (rs := [12]) (by kernel_rfl) (by simp) ?_
      refine AllReadyH.cons rfl (fun K hK => ?_) (AllReadyH.nil)
      go_simp
      go_wp2_with (go_at_call 33; refine (hG.out _ (M8.out.giv hBw g0 f0).1 (M8.out.giv hBw g0 f0).2).mono ?_; rintro e w3 ⟨rfl, rfl⟩)
      have M10 := hid (M8.out.add (y := .int .i64 (giv + 1)) hBw)
      generalize V8.setCell ⟨B, 11, none⟩ (.int .i64 (giv + 1)) = V10 at *
      refine hK.out _ _ (M10.out.now hBw n0) (fun hHeld => ?_)
      clear hK K
      refine wpAnyH_one 14 37 (.agg #[.int .i64 (min (now + wt) 1125899906842624), .int .i64 (giv + 1), .int .i64 id]) hHeld rfl rfl (by kernel_rfl) (fun _ _ _ _ _ h => h) (by kernel_rfl) (by kernel_rfl) (by rfl) ?_ ?_
      · intro V hSw; (try dsimp only at hSw); go_simp
      simp only [Act.put, List.setIfInBounds_toArray, List.set_cons_zero, List.set_cons_succ]
      have hz := M10.out.new
      have z0 := (cell_of_heap hz 0).trans rfl
      have z1 := (cell_of_heap hz 1).trans rfl
      have z2 := (cell_of_heap hz 2).trans rfl
      have y0 := box_fz hz 0
      have y1 := box_fz hz 1
      have y2 := box_fz hz 2
      clear hz
      refine wpAnyH_ready (rs := [16]) (by kernel_rfl) (by simp) ?_
      refine AllReadyH.cons rfl (fun K hK => ?_) (AllReadyH.nil)
      go_simp
      have M11 := hid (Mk.lay M10.out (.int .i64 (min (now + wt) 1125899906842624)) (.int .i64 (giv + 1)) (.int .i64 id))
      generalize ((V10.setCell ⟨w2.heap.size, 0, none⟩ (.int .i64 (min (now + wt) 1125899906842624))).setCell ⟨w2.heap.size, 1, none⟩ (.int .i64 (giv + 1))).setCell ⟨w2.heap.size, 2, none⟩ (.int .i64 id) = V11 at *
      refine hK.out _ _ (M11.out.now hBw n0) (fun hHeld => ?_)
      clear hK K
      refine wpAnyH_done (by kernel_rfl) ?_ _
      go_wp2_with fail
      go_meet
      exact ⟨rfl, M11.out.bel, M11.out.new⟩
  case rest =>
    obtain ⟨rfl, hbx, hX⟩ := hcut
    obtain ⟨o, c, t0, hD, hI⟩ := HKK.out wc hbx.out hX.out
    have HD := hid hD
    have HI := hid hI
    have hBx : B < wc.heap.size := Nat.lt_of_lt_of_le hBw (by have := hbx.out.size; rw [size_setQ] at this; exact this)
    have hNx : w2.heap.size < wc.heap.size := (Array.getElem?_eq_some_iff.1 hX.out).1
    have y0 := (cell_of_heap hX.out 0).trans rfl
    have y1 := (cell_of_heap hX.out 1).trans rfl
    have y2 := (cell_of_heap hX.out 2).trans rfl
    clear HKK hD hI
    go_upto_region 5 with fail
    have HB0 : Hid (Below wc.heap.size wc wc.drew) := (Below.refl _ _).drew
    refine wp_region_held_drew (S := fun _ => True) (by kernel_rfl) trivial (fun hHeld => ?_)
    have tb0 := cellLater (B := B) HB0.out hBx t0
    have x00 := cellLater (B := w2.heap.size) HB0.out hNx y0
    have x10 := cellLater (B := w2.heap.size) HB0.out hNx y1
    have x20 := cellLater (B := w2.heap.size) HB0.out hNx y2
    generalize wc.drew = V0 at *
    refine wpAnyH_one 0 38 (.pointer (some ⟨B, 0, none⟩)) hHeld rfl rfl (by kernel_rfl) (fun _ _ _ _ _ h => h) (by kernel_rfl) (by kernel_rfl) (by rfl) ?_ ?_
    · intro V hSw; (try dsimp only at hSw); go_simp
    simp only [Act.put, List.setIfInBounds_toArray, List.set_cons_zero, List.set_cons_succ]
    refine wpAnyH_one 1 39 (.pointer (some ⟨B, 0, none⟩)) hHeld rfl rfl (by kernel_rfl) (fun _ _ _ _ _ h => h) (by kernel_rfl) (by kernel_rfl) (by rfl) ?_ ?_
    · intro V hSw; (try dsimp only at hSw); go_simp
    simp only [Act.put, List.setIfInBounds_toArray, List.set_cons_zero, List.set_cons_succ]
    refine wpAnyH_one 2 40 (.pointer (some ⟨B, 10, none⟩)) hHeld rfl rfl (by kernel_rfl) (fun _ _ _ _ _ h => h) (by kernel_rfl) (by kernel_rfl) (by rfl) ?_ ?_
    · intro V hSw; (try dsimp only at hSw); go_simp
    simp only [Act.put, List.setIfInBounds_toArray, List.set_cons_zero, List.set_cons_succ]
    refine wpAnyH_one 3 41 (.pointer (some ⟨B, 0, none⟩)) hHeld rfl rfl (by kernel_rfl) (fun _ _ _ _ _ h => h) (by kernel_rfl) (by kernel_rfl) (by rfl) ?_ ?_
    · intro V hSw; (try dsimp only at hSw); go_simp
    simp only [Act.put, List.setIfInBounds_toArray, List.set_cons_zero, List.set_cons_succ]
    refine wpAnyH_one 4 42 (.pointer (some ⟨B, 0, none⟩)) hHeld rfl rfl (by kernel_rfl) (fun _ _ _ _ _ h => h) (by kernel_rfl) (by kernel_rfl) (by rfl) ?_ ?_
    · intro V hSw; (try dsimp only at hSw); go_simp
    simp only [Act.put, List.setIfInBounds_toArray, List.set_cons_zero, List.set_cons_succ]
    refine wpAnyH_one 5 43 (.pointer (some ⟨B, 10, none⟩)) hHeld rfl rfl (by kernel_rfl) (fun _ _ _ _ _ h => h) (by kernel_rfl) (by kernel_rfl) (by rfl) ?_ ?_
    · intro V hSw; (try dsimp only at hSw); go_simp
    simp only [Act.put, List.setIfInBounds_toArray, List.set_cons_zero, List.set_cons_succ]
    refine wpAnyH_one 7 45 (.pointer (some ⟨w2.heap.size, 0, none⟩)) hHeld rfl rfl (by kernel_rfl) (fun _ _ _ _ _ h => h) (by kernel_rfl) (by kernel_rfl) (by rfl) ?_ ?_
    · intro V hSw; (try dsimp only at hSw); go_simp
    simp only [Act.put, List.setIfInBounds_toArray, List.set_cons_zero, List.set_cons_succ]
    refine wpAnyH_ready (rs := [6, 8, 10]) (by kernel_rfl) (by simp) ?_
    refine AllReadyH.cons rfl (fun K hK => ?_) (AllReadyH.cons rfl (fun K hK => ?_) (AllReadyH.cons rfl (fun K hK => ?_) (AllReadyH.nil)))
    · go_simp
      refine hK.out _ _ (trivial) (fun hHeld => ?_)
      clear hK K
      refine wpAnyH_ready (rs := [8, 10]) (by kernel_rfl) (by simp) ?_
      refine AllReadyH.cons rfl (fun K hK => ?_) (AllReadyH.cons rfl (fun K hK => ?_) (AllReadyH.nil))
      · go_simp
        refine hK.out _ _ (trivial) (fun hHeld => ?_)
        clear hK K
        refine wpAnyH_ready (rs := [9, 10]) (by kernel_rfl) (by simp) ?_
        refine AllReadyH.cons rfl (fun K hK => ?_) (AllReadyH.cons rfl (fun K hK => ?_) (AllReadyH.nil))
        · go_simp
          go_wp2_with (go_at_call 35; refine (HD.out _ HB0.out).mono ?_; rintro e V3 ⟨rfl, HB3⟩; have tb3 := cellLater (B := B) HB3.out hBx t0; have x03 := cellLater (B := w2.heap.size) HB3.out hNx y0; have x13 := cellLater (B := w2.heap.size) HB3.out hNx y1; have x23 := cellLater (B := w2.heap.size) HB3.out hNx y2)
          refine hK.out _ _ (trivial) (fun hHeld => ?_)
          clear hK K
          refine wpAnyH_ready (rs := [10]) (by kernel_rfl) (by simp) ?_
          refine AllReadyH.cons rfl (fun K hK => ?_) (AllReadyH.nil)
          go_simp
          refine hK.out _ _ (trivial) (fun hHeld => ?_)
          clear hK K
          refine wpAnyH_ready (rs := [11]) (by kernel_rfl) (by simp) ?_
          refine AllReadyH.cons rfl (fun K hK => ?_) (AllReadyH.nil)
          go_simp
          go_wp2_with (go_at_call 34; refine (HI.out _ HB3.out).mono ?_; rintro e V5 ⟨rfl, kn, HQ⟩)
          refine hK.out _ _ (trivial) (fun hHeld => ?_)
          clear hK K
          refine wpAnyH_done (by kernel_rfl) ?_ _
          go_wp2
          refine bodyPost_ret (v := .tuple #[.int .i64 (giv + 1), .int .i64 0]) (by simp [results, Try.results12, go_sem]) rfl ?_
          exact ⟨rfl, HQ.out⟩
        · go_simp
          refine hK.out _ _ (trivial) (fun hHeld => ?_)
          clear hK K
          refine wpAnyH_ready (rs := [9]) (by kernel_rfl) (by simp) ?_
          refine AllReadyH.cons rfl (fun K hK => ?_) (AllReadyH.nil)
          go_simp
          go_wp2_with (go_at_call 35; refine (HD.out _ HB0.out).mono ?_; rintro e V7 ⟨rfl, HB7⟩; have tb7 := cellLater (B := B) HB7.out hBx t0; have x07 := cellLater (B := w2.heap.size) HB7.out hNx y0; have x17 := cellLater (B := w2.heap.size) HB7.out hNx y1; have x27 := cellLater (B := w2.heap.size) HB7.out hNx y2)
          refine hK.out _ _ (trivial) (fun hHeld => ?_)
          clear hK K
          refine wpAnyH_ready (rs := [11]) (by kernel_rfl) (by simp) ?_
          refine AllReadyH.cons rfl (fun K hK => ?_) (AllReadyH.nil)
          go_simp
          go_wp2_with (go_at_call 34; refine (HI.out _ HB7.out).mono ?_; rintro e V8 ⟨rfl, kn, HQ⟩)
          refine hK.out _ _ (trivial) (fun hHeld => ?_)
          clear hK K
          refine wpAnyH_done (by kernel_rfl) ?_ _
          go_wp2
          refine bodyPost_ret (v := .tuple #[.int .i64 (giv + 1), .int .i64 0]) (by simp [results, Try.results12, go_sem]) rfl ?_
          exact ⟨rfl, HQ.out⟩
      · go_simp
        refine hK.out _ _ (trivial) (fun hHeld => ?_)
        clear hK K
        refine wpAnyH_ready (rs := [8]) (by kernel_rfl) (by simp) ?_
        refine AllReadyH.cons rfl (fun K hK => ?_) (AllReadyH.nil)
        go_simp
        refine hK.out _ _ (trivial) (fun hHeld => ?_)
        clear hK K
        refine wpAnyH_ready (rs := [9]) (by kernel_rfl) (by simp) ?_
        refine AllReadyH.cons rfl (fun K hK => ?_) (AllReadyH.nil)
        go_simp
        go_wp2_with (go_at_call 35; refine (HD.out _ HB0.out).mono ?_; rintro e V11 ⟨rfl, HB11⟩; have tb11 := cellLater (B := B) HB11.out hBx t0; have x011 := cellLater (B := w2.heap.size) HB11.out hNx y0; have x111 := cellLater (B := w2.heap.size) HB11.out hNx y1; have x211 := cellLater (B := w2.heap.size) HB11.out hNx y2)
        refine hK.out _ _ (trivial) (fun hHeld => ?_)
        clear hK K
        refine wpAnyH_ready (rs := [11]) (by kernel_rfl) (by simp) ?_
        refine AllReadyH.cons rfl (fun K hK => ?_) (AllReadyH.nil)
        go_simp
        go_wp2_with (go_at_call 34; refine (HI.out _ HB11.out).mono ?_; rintro e V12 ⟨rfl, kn, HQ⟩)
        refine hK.out _ _ (trivial) (fun hHeld => ?_)
        clear hK K
        refine wpAnyH_done (by kernel_rfl) ?_ _
        go_wp2
        refine bodyPost_ret (v := .tuple #[.int .i64 (giv + 1), .int .i64 0]) (by simp [results, Try.results12, go_sem]) rfl ?_
        exact ⟨rfl, HQ.out⟩
    · go_simp
      refine hK.out _ _ (trivial) (fun hHeld => ?_)
      clear hK K
      refine wpAnyH_ready (rs := [6, 10]) (by kernel_rfl) (by simp) ?_
      refine AllReadyH.cons rfl (fun K hK => ?_) (AllReadyH.cons rfl (fun K hK => ?_) (AllReadyH.nil))
      · go_simp
        refine hK.out _ _ (trivial) (fun hHeld => ?_)
        clear hK K
        refine wpAnyH_ready (rs := [9, 10]) (by kernel_rfl) (by simp) ?_
        refine AllReadyH.cons rfl (fun K hK => ?_) (AllReadyH.cons rfl (fun K hK => ?_) (AllReadyH.nil))
        · go_simp
          go_wp2_with (go_at_call 35; refine (HD.out _ HB0.out).mono ?_; rintro e V15 ⟨rfl, HB15⟩; have tb15 := cellLater (B := B) HB15.out hBx t0; have x015 := cellLater (B := w2.heap.size) HB15.out hNx y0; have x115 := cellLater (B := w2.heap.size) HB15.out hNx y1; have x215 := cellLater (B := w2.heap.size) HB15.out hNx y2)
          refine hK.out _ _ (trivial) (fun hHeld => ?_)
          clear hK K
          refine wpAnyH_ready (rs := [10]) (by kernel_rfl) (by simp) ?_
          refine AllReadyH.cons rfl (fun K hK => ?_) (AllReadyH.nil)
          go_simp
          refine hK.out _ _ (trivial) (fun hHeld => ?_)
          clear hK K
          refine wpAnyH_ready (rs := [11]) (by kernel_rfl) (by simp) ?_
          refine AllReadyH.cons rfl (fun K hK => ?_) (AllReadyH.nil)
          go_simp
          go_wp2_with (go_at_call 34; refine (HI.out _ HB15.out).mono ?_; rintro e V17 ⟨rfl, kn, HQ⟩)
          refine hK.out _ _ (trivial) (fun hHeld => ?_)
          clear hK K
          refine wpAnyH_done (by kernel_rfl) ?_ _
          go_wp2
          refine bodyPost_ret (v := .tuple #[.int .i64 (giv + 1), .int .i64 0]) (by simp [results, Try.results12, go_sem]) rfl ?_
          exact ⟨rfl, HQ.out⟩
        · go_simp
          refine hK.out _ _ (trivial) (fun hHeld => ?_)
          clear hK K
          refine wpAnyH_ready (rs := [9]) (by kernel_rfl) (by simp) ?_
          refine AllReadyH.cons rfl (fun K hK => ?_) (AllReadyH.nil)
          go_simp
          go_wp2_with (go_at_call 35; refine (HD.out _ HB0.out).mono ?_; rintro e V19 ⟨rfl, HB19⟩; have tb19 := cellLater (B := B) HB19.out hBx t0; have x019 := cellLater (B := w2.heap.size) HB19.out hNx y0; have x119 := cellLater (B := w2.heap.size) HB19.out hNx y1; have x219 := cellLater (B := w2.heap.size) HB19.out hNx y2)
          refine hK.out _ _ (trivial) (fun hHeld => ?_)
          clear hK K
          refine wpAnyH_ready (rs := [11]) (by kernel_rfl) (by simp) ?_
          refine AllReadyH.cons rfl (fun K hK => ?_) (AllReadyH.nil)
          go_simp
          go_wp2_with (go_at_call 34; refine (HI.out _ HB19.out).mono ?_; rintro e V20 ⟨rfl, kn, HQ⟩)
          refine hK.out _ _ (trivial) (fun hHeld => ?_)
          clear hK K
          refine wpAnyH_done (by kernel_rfl) ?_ _
          go_wp2
          refine bodyPost_ret (v := .tuple #[.int .i64 (giv + 1), .int .i64 0]) (by simp [results, Try.results12, go_sem]) rfl ?_
          exact ⟨rfl, HQ.out⟩
      · go_simp
        refine hK.out _ _ (trivial) (fun hHeld => ?_)
        clear hK K
        refine wpAnyH_ready (rs := [6]) (by kernel_rfl) (by simp) ?_
        refine AllReadyH.cons rfl (fun K hK => ?_) (AllReadyH.nil)
        go_simp
        refine hK.out _ _ (trivial) (fun hHeld => ?_)
        clear hK K
        refine wpAnyH_ready (rs := [9]) (by kernel_rfl) (by simp) ?_
        refine AllReadyH.cons rfl (fun K hK => ?_) (AllReadyH.nil)
        go_simp
        go_wp2_with (go_at_call 35; refine (HD.out _ HB0.out).mono ?_; rintro e V23 ⟨rfl, HB23⟩; have tb23 := cellLater (B := B) HB23.out hBx t0; have x023 := cellLater (B := w2.heap.size) HB23.out hNx y0; have x123 := cellLater (B := w2.heap.size) HB23.out hNx y1; have x223 := cellLater (B := w2.heap.size) HB23.out hNx y2)
        refine hK.out _ _ (trivial) (fun hHeld => ?_)
        clear hK K
        refine wpAnyH_ready (rs := [11]) (by kernel_rfl) (by simp) ?_
        refine AllReadyH.cons rfl (fun K hK => ?_) (AllReadyH.nil)
        go_simp
        go_wp2_with (go_at_call 34; refine (HI.out _ HB23.out).mono ?_; rintro e V24 ⟨rfl, kn, HQ⟩)
        refine hK.out _ _ (trivial) (fun hHeld => ?_)
        clear hK K
        refine wpAnyH_done (by kernel_rfl) ?_ _
        go_wp2
        refine bodyPost_ret (v := .tuple #[.int .i64 (giv + 1), .int .i64 0]) (by simp [results, Try.results12, go_sem]) rfl ?_
        exact ⟨rfl, HQ.out⟩
    · go_simp
      refine hK.out _ _ (trivial) (fun hHeld => ?_)
      clear hK K
      refine wpAnyH_ready (rs := [6, 8]) (by kernel_rfl) (by simp) ?_
      refine AllReadyH.cons rfl (fun K hK => ?_) (AllReadyH.cons rfl (fun K hK => ?_) (AllReadyH.nil))
      · go_simp
        refine hK.out _ _ (trivial) (fun hHeld => ?_)
        clear hK K
        refine wpAnyH_ready (rs := [8]) (by kernel_rfl) (by simp) ?_
        refine AllReadyH.cons rfl (fun K hK => ?_) (AllReadyH.nil)
        go_simp
        refine hK.out _ _ (trivial) (fun hHeld => ?_)
        clear hK K
        refine wpAnyH_ready (rs := [9]) (by kernel_rfl) (by simp) ?_
        refine AllReadyH.cons rfl (fun K hK => ?_) (AllReadyH.nil)
        go_simp
        go_wp2_with (go_at_call 35; refine (HD.out _ HB0.out).mono ?_; rintro e V28 ⟨rfl, HB28⟩; have tb28 := cellLater (B := B) HB28.out hBx t0; have x028 := cellLater (B := w2.heap.size) HB28.out hNx y0; have x128 := cellLater (B := w2.heap.size) HB28.out hNx y1; have x228 := cellLater (B := w2.heap.size) HB28.out hNx y2)
        refine hK.out _ _ (trivial) (fun hHeld => ?_)
        clear hK K
        refine wpAnyH_ready (rs := [11]) (by kernel_rfl) (by simp) ?_
        refine AllReadyH.cons rfl (fun K hK => ?_) (AllReadyH.nil)
        go_simp
        go_wp2_with (go_at_call 34; refine (HI.out _ HB28.out).mono ?_; rintro e V29 ⟨rfl, kn, HQ⟩)
        refine hK.out _ _ (trivial) (fun hHeld => ?_)
        clear hK K
        refine wpAnyH_done (by kernel_rfl) ?_ _
        go_wp2
        refine bodyPost_ret (v := .tuple #[.int .i64 (giv + 1), .int .i64 0]) (by simp [results, Try.results12, go_sem]) rfl ?_
        exact ⟨rfl, HQ.out⟩
      · go_simp
        refine hK.out _ _ (trivial) (fun hHeld => ?_)
        clear hK K
        refine wpAnyH_ready (rs := [6]) (by kernel_rfl) (by simp) ?_
        refine AllReadyH.cons rfl (fun K hK => ?_) (AllReadyH.nil)
        go_simp
        refine hK.out _ _ (trivial) (fun hHeld => ?_)
        clear hK K
        refine wpAnyH_ready (rs := [9]) (by kernel_rfl) (by simp) ?_
        refine AllReadyH.cons rfl (fun K hK => ?_) (AllReadyH.nil)
        go_simp
        go_wp2_with (go_at_call 35; refine (HD.out _ HB0.out).mono ?_; rintro e V32 ⟨rfl, HB32⟩; have tb32 := cellLater (B := B) HB32.out hBx t0; have x032 := cellLater (B := w2.heap.size) HB32.out hNx y0; have x132 := cellLater (B := w2.heap.size) HB32.out hNx y1; have x232 := cellLater (B := w2.heap.size) HB32.out hNx y2)
        refine hK.out _ _ (trivial) (fun hHeld => ?_)
        clear hK K
        refine wpAnyH_ready (rs := [11]) (by kernel_rfl) (by simp) ?_
        refine AllReadyH.cons rfl (fun K hK => ?_) (AllReadyH.nil)
        go_simp
        go_wp2_with (go_at_call 34; refine (HI.out _ HB32.out).mono ?_; rintro e V33 ⟨rfl, kn, HQ⟩)
        refine hK.out _ _ (trivial) (fun hHeld => ?_)
        clear hK K
        refine wpAnyH_done (by kernel_rfl) ?_ _
        go_wp2
        refine bodyPost_ret (v := .tuple #[.int .i64 (giv + 1), .int .i64 0]) (by simp [results, Try.results12, go_sem]) rfl ?_
        exact ⟨rfl, HQ.out⟩
end Go.Proofs.Ytaliecmdkloceaa
