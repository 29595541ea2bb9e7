/- loop: the law LoopOrder. -/
import Derived.Test.YtnbkoobkfbcabaaLpJJ
import Derived.Test.YtnbkoobkfbcabaaLpKK
import Derived.BigQuiet
namespace Go.Proofs.Ytnbkoobkfbcabaa
open Go.RowKit Go.Lib Go.Shelf

theorem make_rows27 (W : World) : (Instr.makeSlice 27 (.int .i64 8) (.int .i64 8)).run Try.prog W = .ok (.slice (some ⟨W.heap.size, 0, none⟩) 8 8) (W.alloc (.cells (madeCells #[.slice none 0 0] 8) 26)) :=
  run_make_row' (P := Try.prog) 27 26 (.slice none 0 0) 24 (by kernel_rfl) (by kernel_rfl) rfl .i64 .i64 8 (by omega) (by omega) W
theorem alloc_size' (W : World) (o : Obj) : (W.alloc o).heap.size = W.heap.size + 1 := by simp
theorem tb_made (W : World) : TbV (W.alloc (.cells (madeCells #[.slice none 0 0] 8) 26)) (fun k => k = W.heap.size) W.heap.size (fun _ => []) (fun _ => .slice none 0 0) := by
  refine ⟨⟨_, heap_new _ _, fun i hi => ?_⟩, fun i _ => QR.nil _ _ _, fun i _ g hg => (by cases hg), fun i j _ _ _ g hg => (by cases hg), rfl, fun k hk => ?_⟩
  · have hs : i < (madeCells #[.slice none 0 0] 8).size := by rw [size_madeCells]; simpa using hi
    rw [Array.getElem?_eq_getElem hs]
    have hm := Array.getElem_mem hs
    generalize (madeCells #[Value.slice none 0 0] 8)[i] = v at *
    unfold madeCells at hm
    simp at hm
    obtain ⟨a, _, e⟩ := hm
    rw [← e, Nat.mod_one]
    rfl
  · subst hk
    rw [alloc_size']
    omega
theorem sumO_mono (l : Nat → List Int) : ∀ (d j : Nat), sumO l j ≤ sumO l (j + d)
  | 0, _ => Nat.le_refl _
  | d + 1, j => by
    have := sumO_mono l d j
    show _ ≤ sumO l (j + d) + _
    omega
theorem Solo.wait {n0 : Nat} {Z : Nat → Prop} {W : World} {A : Nat} {s : LpD} {l : Nat → List Int} (h : Solo n0 Z W A s) (hr : RelO s l) :
    Calls Try.prog 17 #[.pointer (some ⟨A, 0, none⟩)] W fun e w' => e = .returned (.tuple #[.int .i64 (sumO l 8 : Nat), .int .i64 (l 8).length, .int .i64 0]) ∧ Hid (Below W.heap.size W w') := by
  obtain ⟨F, h1, _⟩ := h
  refine (waiting_any F A s W h1 (tot_small hr.ok)).mono ?_
  rintro e w' ⟨rfl, hb⟩
  refine ⟨?_, hb⟩
  rw [relO_sum hr, hr.m, hr.tms]
  rfl
/-- What the round's end wants. -/
structure TailO (n0 : Nat) (W : World) (A : Nat) (s : LpD) (B : Nat) (l : Nat → List Int) (v : Nat → Value) (o8 : Option Addr) (c8 : Nat) : Prop where
  cell : ∀ j, j < 8 → ∃ o c, W.cell? ⟨B, j, none⟩ = some (.slice o (l j).length c)
  sum : ∀ j, j ≤ 8 → sumO l j ≤ 4096
  wai : Calls Try.prog 17 #[.pointer (some ⟨A, 0, none⟩)] W fun e w' => e = .returned (.tuple #[.int .i64 (sumO l 8 : Nat), .int .i64 (l 8).length, .int .i64 0]) ∧ Hid (Below W.heap.size W w')
theorem tail_of {n0 : Nat} {W : World} {A B : Nat} {s : LpD} {l : Nat → List Int} {v : Nat → Value} {Z : Nat → Prop} {o8 : Option Addr} {c8 : Nat} (h : Beside n0 W A s B l v Z) (hr : RelO s l) : TailO n0 W A s B l v o8 c8 := by
  obtain ⟨F, h1, h2, h3⟩ := h
  refine ⟨fun j hj => ?_, fun j hj => ?_, h3.wait hr⟩
  · obtain ⟨o, c, e⟩ := h1.shape (i := j) (by omega)
    exact ⟨o, c, by rw [h1.cell hj, e]⟩
  · have h4 := relO_sum hr
    have h5 := hr.ok.tot
    have h6 := sumO_mono l (8 - j) j
    rw [show j + (8 - j) = 8 by omega] at h6
    unfold totD at h5
    omega
theorem Beside.later {n0 : Nat} {W U : World} {A B : Nat} {s : LpD} {l : Nat → List Int} {v : Nat → Value} {Z : Nat → Prop} (h : Beside n0 W A s B l v Z) (hb : Below W.heap.size W U) : Beside n0 U A s B l v Z := by
  obtain ⟨F, h1, h2, h3⟩ := h
  exact ⟨F, h1.later hb, h2, h3.later hb⟩
def putV (v : Nat → Value) (i : Nat) (x : Value) : Nat → Value := fun j => if j = i then x else v j
/-- One more microtask in the variable. -/
theorem micro_put {n0 : Nat} {W : World} {A B : Nat} {s : LpD} {l : Nat → List Int} {v : Nat → Value} {Z : Nat → Prop} (h : Beside n0 W A s B l v Z) (hn : n0 ≤ W.heap.size) (hz : ∀ k, Z k → k < W.heap.size) (x : Int) (hl : (l 8).length ≤ 1048576) (ty : TypeId) :
    ∃ o c w1, (Builtin.append_ #[26, 26] ty #[v 8, .slice (some ⟨W.heap.size, 0, none⟩) 1 1]).run Try.prog (W.alloc (.cells #[.int .i64 x] 3)) = .ok (.slice o (putL l 8 (l 8 ++ [x]) 8).length c) w1 ∧
      Beside n0 w1 A s B (putL l 8 (l 8 ++ [x])) (putV v 8 (.slice o (putL l 8 (l 8 ++ [x]) 8).length c)) Z ∧ Kept n0 Z W w1 := by
  have hB1 : Below W.heap.size W (W.alloc (.cells #[.int .i64 x] 3)) := (Below.refl _ W).alloc (Nat.le_refl _) _
  obtain ⟨F, h1, h2, h3⟩ := h
  obtain ⟨o1, c1, w1, a1, a2, a3, a4⟩ := run_appendQ1 (W.alloc (.cells #[.int .i64 x] 3)) ty (v 8) (l 8) x W.heap.size 1 ((h1.row 8 (by omega)).later hB1) (box1 (heap_new W _)) hl
  have e : (putL l 8 (l 8 ++ [x]) 8).length = (l 8).length + 1 := by
    unfold putL
    rw [if_pos rfl, List.length_append]
    rfl
  rw [e]
  have hne : (v 8).ownBlock ≠ some B := fun hb => (h1.own 8 (by omega) B hb).2 rfl
  have hq := rowTo_var hB1 a3 a2 a4 hne (h1.low B h1.self)
  exact ⟨o1, c1, w1, a1, Beside.upd ⟨F, h1, h2, h3⟩ hn hz (by omega) hq⟩
theorem step_append27 {P : Program} (w : World) {ops : Array Oper} {o : Oper} {a : Act} {K : Act → World → Prop} {Q : Exit → Act → World → Prop} {E : Prop} (hgd : o.guard = none) (s x : Operand) (t tn : TypeId)
    (ho : o.op = .call { callee := .builtin .append, args := #[s, x], argTypes := #[t, tn] }) (vs vx : Value) (hs : a.eval s = vs) (hx : a.eval x = vx) (v' : Value) (w' : World) (hr : (Builtin.append_ #[t, tn] o.type #[vs, vx]).run P w = .ok v' w') (dd : Option Nat) (hdd : o.dst = dd) (h : K (a.put dd v') w') :
    if Region.wanted o (yielded ops a.tmps) = true then Oper.wp P o a w K Q else E := by
  have hw : Region.wanted o (yielded ops a.tmps) = true := by simp [Region.wanted, hgd]
  rw [if_pos hw]
  rw [← hdd] at h
  exact wp_append_run w s x t tn ho vs vx hs hx v' w' hr h
/-- One more task at the end of a row of the table. -/
theorem row_put {n0 : Nat} {W : World} {A B : Nat} {s : LpD} {l : Nat → List Int} {v : Nat → Value} {Z : Nat → Prop} (h : Beside n0 W A s B l v Z) (hn : n0 ≤ W.heap.size) (hz : ∀ k, Z k → k < W.heap.size) {m : Nat} (hm : m < 8) (x : Int) (hl : (l m).length ≤ 1048576) (ty : TypeId) :
    ∃ ov cv o c w1, v m = .slice ov (l m).length cv ∧ W.cell? ⟨B, m, none⟩ = some (.slice ov (l m).length cv) ∧ (W.alloc (.cells #[.int .i64 x] 3)).cell? ⟨B, m, none⟩ = some (.slice ov (l m).length cv) ∧
      (Builtin.append_ #[26, 26] ty #[.slice ov (l m).length cv, .slice (some ⟨W.heap.size, 0, none⟩) 1 1]).run Try.prog (W.alloc (.cells #[.int .i64 x] 3)) = .ok (.slice o ((l m).length + 1) c) w1 ∧
      w1.cell? ⟨B, m, none⟩ = some (.slice ov (l m).length cv) ∧ w1.frozen? ⟨B, m, none⟩ = false ∧ (∀ k, k < W.heap.size → Z k → w1.heap[k]? = W.heap[k]?) ∧
      Beside n0 (w1.setCell ⟨B, m, none⟩ (.slice o ((l m).length + 1) c)) A s B (putL l m (l m ++ [x])) (putV v m (.slice o ((l m).length + 1) c)) Z ∧ Kept n0 Z W (w1.setCell ⟨B, m, none⟩ (.slice o ((l m).length + 1) c)) := by
  have hB1 : Below W.heap.size W (W.alloc (.cells #[.int .i64 x] 3)) := (Below.refl _ W).alloc (Nat.le_refl _) _
  obtain ⟨F, h1, h2, h3⟩ := h
  obtain ⟨ov, cv, hv⟩ := h1.shape (i := m) (by omega)
  obtain ⟨o1, c1, w1, a1, a2, a3, a4⟩ := run_appendQ1 (W.alloc (.cells #[.int .i64 x] 3)) ty (v m) (l m) x W.heap.size 1 ((h1.row m (by omega)).later hB1) (box1 (heap_new W _)) hl
  have hne : (v m).ownBlock ≠ some B := fun hb => (h1.own m (by omega) B hb).2 rfl
  have hlt := h1.low B h1.self
  obtain ⟨arr, b1, b2⟩ := h1.box
  have bx : (W.alloc (.cells #[.int .i64 x] 3)).heap[B]? = some (.cells arr 26) := (hB1.block B hlt).trans b1
  have bw : w1.heap[B]? = some (.cells arr 26) := (a3.block B (Nat.lt_of_lt_of_le hlt hB1.size) (fun h => hne h.symm)).trans bx
  have hq := rowTo_put hB1 a3 a2 a4 hne hlt hm
  have hu := Beside.upd ⟨F, h1, h2, h3⟩ hn hz (by omega) hq
  rw [hv] at a1
  have hZ : ∀ k, k < W.heap.size → Z k → w1.heap[k]? = W.heap[k]? := fun k hk hZk => by
    have e1 : some k ≠ (v m).ownBlock := fun e => (h2 k (h1.own m (by omega) k e.symm).1).2 hZk
    rw [a3.block k (Nat.lt_of_lt_of_le hk hB1.size) e1, hB1.block k hk]
  exact ⟨ov, cv, o1, c1, w1, hv, by rw [box_at b1 (b2 m hm), hv], by rw [box_at bx (b2 m hm), hv], a1, by rw [box_at bw (b2 m hm), hv], box_fz bw m, hZ, hu.1, hu.2⟩
/-- The first microtask, and the variable behind it. -/
theorem micro_tail {n0 : Nat} {W : World} {A B : Nat} {s : LpD} {l : Nat → List Int} {v : Nat → Value} {Z : Nat → Prop} {o8 : Option Addr} {c8 : Nat} {z : Int} {r : List Int} (h : Beside n0 W A s B l v Z) (hn : n0 ≤ W.heap.size) (hz : ∀ k, Z k → k < W.heap.size) (h8 : v 8 = .slice o8 (l 8).length c8) (he : l 8 = z :: r) :
    ∃ g off, o8 = some ⟨g, off, none⟩ ∧ r.length + 1 ≤ c8 ∧ W.cell? ⟨g, off, none⟩ = some (.int .i64 z) ∧
      Beside n0 W A s B (putL l 8 r) (putV v 8 (.slice (some (if c8 = 1 then ⟨g, off, none⟩ else ⟨g, off + 1, none⟩)) r.length (c8 - 1))) Z := by
  obtain ⟨F, h1, h2, h3⟩ := h
  have hr := h1.row 8 (by omega)
  have hne : (v 8).ownBlock ≠ some B := fun hb => (h1.own 8 (by omega) B hb).2 rfl
  rw [he] at hr
  obtain ⟨g, off, c, e, hc⟩ := rdN_head hr
  rw [h8, he] at e
  injection e with e1 e2 e3
  subst e1
  subst e3
  rw [he] at h8
  have h8' : v 8 = .slice (some ⟨g, off, none⟩) (r.length + 1) c8 := h8
  rw [h8'] at hr hne
  have hcap : r.length + 1 ≤ c8 := by
    rcases hr.2 with ⟨h, _⟩ | ⟨_, _, _, _, _, hv, _, hnc, _⟩
    · cases h
    · injection hv with _ _ e3
      omega
  have hT := hr.tail
  have hq : RowTo W B 8 (v 8) (.slice (some (if c8 = 1 then ⟨g, off, none⟩ else ⟨g, off + 1, none⟩)) r.length (c8 - 1)) r W := by
    rw [h8']
    exact ⟨fun arr T hb => by rw [if_neg (by omega)]; exact hb, hT, fun g' hg' => .inl (by rw [← hg']; split <;> rfl), rfl, rfl, rfl, Nat.le_refl _, fun _ _ _ _ => rfl⟩
  exact ⟨g, off, rfl, hcap, hc, (Beside.upd ⟨F, h1, h2, h3⟩ hn hz (by omega) hq).1⟩
/-- The first of a row of the table, and the row behind it. -/
theorem row_tail {n0 : Nat} {W : World} {A B : Nat} {s : LpD} {l : Nat → List Int} {v : Nat → Value} {Z : Nat → Prop} {z : Int} {r : List Int} (h : Beside n0 W A s B l v Z) (hn : n0 ≤ W.heap.size) (hz : ∀ k, Z k → k < W.heap.size) {m : Nat} (hm : m < 8) (he : l m = z :: r) :
    ∃ g off c, r.length + 1 ≤ c ∧ ∀ U, Below W.heap.size W U → U.cell? ⟨B, m, none⟩ = some (.slice (some ⟨g, off, none⟩) (r.length + 1) c) ∧ U.frozen? ⟨B, m, none⟩ = false ∧ U.cell? ⟨g, off, none⟩ = some (.int .i64 z) ∧
      Beside n0 (U.setCell ⟨B, m, none⟩ (.slice (some (if c = 1 then ⟨g, off, none⟩ else ⟨g, off + 1, none⟩)) r.length (c - 1))) A s B (putL l m r) (putV v m (.slice (some (if c = 1 then ⟨g, off, none⟩ else ⟨g, off + 1, none⟩)) r.length (c - 1))) Z ∧
      Kept n0 Z U (U.setCell ⟨B, m, none⟩ (.slice (some (if c = 1 then ⟨g, off, none⟩ else ⟨g, off + 1, none⟩)) r.length (c - 1))) := by
  obtain ⟨F, h1, h2, h3⟩ := h
  have hr := h1.row m (by omega)
  have hne : (v m).ownBlock ≠ some B := fun hb => (h1.own m (by omega) B hb).2 rfl
  rw [he] at hr
  obtain ⟨g, off, c, e, hc⟩ := rdN_head hr
  have hcap : r.length + 1 ≤ c := by
    rw [e] at hr
    rcases hr.2 with ⟨h, _⟩ | ⟨_, _, _, _, _, hv, _, hnc, _⟩
    · cases h
    · injection hv with _ _ e3
      omega
  refine ⟨g, off, c, hcap, fun U hU => ?_⟩
  have h1U := h1.later hU
  have hrU := hr.later hU
  obtain ⟨_, _, _, eU, hcU⟩ := rdN_head hrU
  rw [e] at eU
  injection eU with x1 _ _
  injection x1 with x1
  injection x1 with x1 x2 _
  subst x1
  subst x2
  have hT := (e ▸ hrU).tail
  have hq : RowTo U B m (v m) (.slice (some (if c = 1 then ⟨g, off, none⟩ else ⟨g, off + 1, none⟩)) r.length (c - 1)) r (U.setCell ⟨B, m, none⟩ (.slice (some (if c = 1 then ⟨g, off, none⟩ else ⟨g, off + 1, none⟩)) r.length (c - 1))) :=
    rowTo_put (Below.refl _ U) ⟨rfl, rfl, rfl, Nat.le_refl _, fun _ _ _ => rfl⟩ hT (fun g' hg' => .inl (by rw [e, ← hg']; split <;> rfl)) hne (h1U.low B h1U.self) hm
  have hu := Beside.upd ⟨F, h1U, h2, h3.later hU⟩ (Nat.le_trans hn hU.size) (fun k hk => Nat.lt_of_lt_of_le (hz k hk) hU.size) (by omega) hq
  exact ⟨by rw [h1U.cell hm, e], h1U.fz m, hcU, hu.1, hu.2⟩
set_option maxRecDepth 100000 in
set_option maxHeartbeats 20000000 in
theorem loopOrder_law (v0 : Value) (ls : List StepD) (W : World) (hr0 : RdSt W v0 ls) (hl0 : ls.length ≤ 1048576) :
    Calls Try.prog 5 #[v0] W fun e w' => e = .returned (.bool true) ∧ Below W.heap.size W w' := by
  have hLi := hid (lives27_any W)
  obtain ⟨o0, cap0, rfl, hcap0, hg0⟩ := hr0
  have HG0 := hid hg0
  have hmk := make_rows27
  clear hg0
  go_enter Try.func5, Try.ntmps5
  go_upto_region 3 with (go_at_call 8; refine hLi.out.mono ?_; rintro e w2 ⟨rfl, hb⟩; have H2 := hid hb; clear hb)
  go_upto_region 4 with (go_at_call 9; refine (new_any w2).mono ?_; rintro e u1 ⟨rfl, hb, hz, hq⟩; have HN1 := hid (And.intro hb hq); clear hb hz hq)
  have HB0 : Hid (Below W.heap.size W u1) := H2.out.trans (HN1.out.1.mono H2.out.size)
  have HT0 : Hid (Beside W.heap.size (u1.alloc (.cells (madeCells #[.slice none 0 0] 8) 26)) w2.heap.size newD u1.heap.size (fun _ => []) (fun _ => .slice none 0 0) (fun _ => False)) := hid ⟨_, tb_made u1, fun k hk => ⟨by have := HB0.out.size; omega, fun h => h⟩, _, HN1.out.2.later ((Below.refl _ u1).alloc (Nat.le_refl _) _), fun k hk => ⟨by have := H2.out.size; omega, fun h => by
    have h1 : k < u1.heap.size := LpV.notF HN1.out.2 k hk
    rcases h with h | h
    · omega
    · exact h⟩⟩
  have HB1 : Hid (Below W.heap.size W (u1.alloc (.cells (madeCells #[.slice none 0 0] 8) 26))) := hid (HB0.out.alloc HB0.out.size _)
  clear HN1 H2 hLi HB0
  go_upto_region 6 with fail
  generalize w2.heap.size = A at *
  generalize u1.alloc (.cells (madeCells #[.slice none 0 0] 8) 26) = U1 at *
  generalize u1.heap.size = B at *
  clear hmk
  go_upto_region 7 with fail
  go_loopw [23, 4] (fun t u wr => ∃ (k : Nat) (s : LpD) (l : Nat → List Int) (v : Nat → Value) (o8 : Option Addr) (c8 : Nat), k ≤ ls.length ∧ t = .int .i64 k ∧ u = .slice o8 (l 8).length c8 ∧ Hid (v 8 = .slice o8 (l 8).length c8) ∧ Hid (RelO s l ∧ s.giv ≤ k) ∧ Hid (Beside W.heap.size wr A s B l v (fun _ => False)) ∧ Hid (Below W.heap.size W wr)) (fun t _ _ => ls.length - (RowKit.intOf t).toNat)
  case atStart => exact ⟨0, newD, fun _ => [], fun _ => .slice none 0 0, none, 0, Nat.zero_le _, rfl, rfl, hid rfl, ⟨relO_new, Int.le_refl _⟩, HT0, HB1⟩
  case round =>
    obtain ⟨k, s, l, v, o8, c8, hk, rfl, rfl, HV8, hR, hT, hB⟩ := hrel
    by_cases hlt : k < ls.length
    · obtain ⟨b, off, rfl, hbl, ha⟩ := HG0.out (by omega)
      have hst := (ha k hlt).later hbl hB.out
      have hg : s.giv < 4611686018427387904 := by have := hR.out.2; omega
      have HT1 : Hid (Beside W.heap.size (wr.alloc (stepO ls[k])) A s B l v (fun j => False ∨ j = wr.heap.size)) := hid (hT.out.more _)
      have HB2 : Hid (Below W.heap.size W (wr.alloc (stepO ls[k]))) := hid (hB.out.alloc hB.out.size _)
      have HD := hid (HT1.out.doStep HB2.out.size (by rw [alloc_size']; rintro j (h | rfl); · exact h.elim
                                                      · omega) hR.out.1.ok hg ls[k])
      have HO := hid (fun (h3 : ls[k].kind ≠ 3) (h5 : ls[k].kind ≠ 5) (h7 : ls[k].kind ≠ 7) => ord_do hR.out.1 ls[k] h3 h5 h7)
      have HG2 : Hid ((doD s ls[k]).st.giv ≤ ((k + 1 : Nat) : Int)) := hid (by have := giv_do s ls[k] hR.out.1.ok; have := hR.out.2; omega)
      have q1 : (0 : Int) ≤ (k : Int) := by omega
      have q2 : (k : Int) < (ls.length : Int) := by omega
      have hx1 := heap_new wr (stepO ls[k])
      have HX1 := hid hx1
      have hcs := step_cells hx1
      clear ha hx1 HT0 HB1
      generalize doD s ls[k] = D at *
      generalize ls[k] = y at *
      obtain ⟨yk, ys, yi, ym, yl, yt⟩ := y
      obtain ⟨s0, s1, s2, s3, s4, s5⟩ := hst
      obtain ⟨t0, t1, t2, t3, t4, t5⟩ := hcs
      obtain ⟨S2, a2, ⟨tk, ts, ti⟩, a4⟩ := D
      unfold ansV turnV at HD
      unfold stepV at HD
      unfold stepO at *
      dsimp only at *
      by_cases hs357 : yk = 3 ∨ yk = 5 ∨ yk = 7
      · have HR2 : Hid (RelO s l ∧ s.giv ≤ ((k + 1 : Nat) : Int)) := hid ⟨hR.out.1, by have := hR.out.2; omega⟩
        have HT2 := hid (hT.out.later ((Below.refl _ wr).alloc (Nat.le_refl _) (.cells #[.int .u8 (yk : Int), .int .i64 ys, .int .i64 yi, .int .i64 ym, .int .i64 yl, .int .i64 yt] 34)))
        clear HD HO HG2 HT1 hT hB
        rcases hs357 with rfl | rfl | rfl
        · go_wp2
          go_roundw
          case rel => exact ⟨k + 1, s, l, v, o8, c8, by omega, by go_num, rfl, HV8, HR2, HT2, HB2⟩
          case measure => simp [RowKit.intOf]; omega
        · go_wp2
          go_roundw
          case rel => exact ⟨k + 1, s, l, v, o8, c8, by omega, by go_num, rfl, HV8, HR2, HT2, HB2⟩
          case measure => simp [RowKit.intOf]; omega
        · go_wp2
          go_roundw
          case rel => exact ⟨k + 1, s, l, v, o8, c8, by omega, by go_num, rfl, HV8, HR2, HT2, HB2⟩
          case measure => simp [RowKit.intOf]; omega
      · have HO2 := hid (HO.out (by omega) (by omega) (by omega))
        have d3a : ¬ (yk : Int) = 3 := by omega
        have d3b : ((yk : Int) == 3) = false := beq_eq_false_iff_ne.2 (by omega)
        have d5a : ¬ (yk : Int) = 5 := by omega
        have d5b : ((yk : Int) == 5) = false := beq_eq_false_iff_ne.2 (by omega)
        have d7a : ¬ (yk : Int) = 7 := by omega
        have d7b : ((yk : Int) == 7) = false := beq_eq_false_iff_ne.2 (by omega)
        clear HO
        go_upto_region 11 with (go_at_call 12; refine HD.out.mono ?_; rintro e w4 ⟨rfl, HT4, HK4⟩)
        have HB4 : Hid (Below W.heap.size W w4) := hid (HB2.out.trans HK4.out.bel)
        have HX4 := hid (HK4.out.block (g := wr.heap.size) (.inr rfl) HX1.out)
        have HT5 := hid (HT4.out.more (.cells #[.int .u8 tk, .int .i64 ts, .int .i64 ti] 37))
        have HB5 : Hid (Below W.heap.size W (w4.alloc (.cells #[.int .u8 tk, .int .i64 ts, .int .i64 ti] 37))) := hid (HB4.out.alloc HB4.out.size _)
        have hx5 := heap_new w4 (.cells #[.int .u8 tk, .int .i64 ts, .int .i64 ti] 37)
        have HX6 := hid ((Below.heap_alloc w4 (.cells #[.int .u8 tk, .int .i64 ts, .int .i64 ti] 37) wr.heap.size (Array.getElem?_eq_some_iff.1 HX4.out).1).trans HX4.out)
        have HX5 := hid hx5
        have HZ : Hid (∀ j, ((False ∨ j = wr.heap.size) ∨ j = w4.heap.size) → j < (w4.alloc (.cells #[.int .u8 tk, .int .i64 ts, .int .i64 ti] 37)).heap.size) := hid (by rw [alloc_size']; have := (Array.getElem?_eq_some_iff.1 HX4.out).1; rintro j ((h | rfl) | rfl) <;> first | exact h.elim | omega)
        have HNE : Hid (wr.heap.size < w4.heap.size) := hid (Array.getElem?_eq_some_iff.1 HX4.out).1
        clear HT4 HK4 HX4 hx5 HD HT1 hT hB HB2 HB4 HX1 t0 t1 t2 t3 t4 t5
        generalize w4.alloc (.cells #[.int .u8 tk, .int .i64 ts, .int .i64 ti] 37) = W5 at *
        generalize w4.heap.size = g5 at *
        generalize wr.heap.size = g1 at *
        have t0 := (cell_of_heap HX6.out 0).trans rfl
        have t1 := (cell_of_heap HX6.out 1).trans rfl
        have t2 := (cell_of_heap HX6.out 2).trans rfl
        have y0 := (cell_of_heap HX5.out 0).trans rfl
        have y1 := (cell_of_heap HX5.out 1).trans rfl
        have y2 := (cell_of_heap HX5.out 2).trans rfl
        unfold OrdO noTurn at HO2
        dsimp only at HO2
        rcases HO2.out with ⟨hw, ht, hr⟩ | ⟨hk1, hw, ht, m, hm, hsm, hr⟩ | ⟨hk2, hw, ht, hr⟩ | ⟨hk1, hk2, hw, ht, hr⟩ | ⟨hk1, hk2, hw, z, r, hz, ht, hr⟩ | ⟨hk1, hk2, hw, h8, m, z, r, hm, hz, ht, hr⟩
        · -- nothing was taken
          obtain ⟨rfl, rfl, rfl⟩ : tk = 0 ∧ ts = 0 ∧ ti = 0 := by simpa using ht
          have d8 : ¬ a4 = 0 := hw
          have d9 : (a4 == 0) = false := beq_eq_false_iff_ne.2 hw
          have d10 : (a4 != 0) = true := by rw [bne, d9]; rfl
          have d11 : decide (a4 = 0) = false := decide_eq_false hw
          have d12 : a4 ≠ 0 := hw
          have HR2 : Hid (RelO S2 l ∧ S2.giv ≤ ((k + 1 : Nat) : Int)) := hid ⟨hr, HG2.out⟩
          have HBT := hid (HT5.out.less (Z' := fun _ => False) (fun _ h => h.elim))
          have HTl := hid (tail_of (o8 := o8) (c8 := c8) HBT.out hr)
          have HCell := hid HTl.out.cell
          have HSum := hid HTl.out.sum
          have HWai := hid HTl.out.wai
          have HBW := HB5
          clear HO2 HT5 HTl HB5 hR HG2 HX5 HX6 HNE
          go_upto_region 27 with fail
          go_loopw [143, 11] (fun t u wx => ∃ j : Nat, j ≤ 8 ∧ t = .int .i64 j ∧ u = .int .i64 (sumO l j : Nat) ∧ W5 = wx) (fun t _ _ => 8 - (RowKit.intOf t).toNat)
          case atStart => exact ⟨0, by omega, rfl, rfl, rfl⟩
          case round =>
            obtain ⟨j, hj, rfl, rfl, rfl⟩ := hrel
            by_cases hj8 : j < 8
            · obtain ⟨oj, cj, hcj⟩ := HCell.out j hj8
              have hsum := HSum.out (j + 1) (by omega)
              have hse : sumO l (j + 1) = sumO l j + (l j).length := rfl
              have q5 : (0 : Int) ≤ (j : Int) := by omega
              have q6 : (j : Int) < 8 := by omega
              have HS2 := hid hse
              rw [hse] at hsum
              clear hse
              generalize (l j).length = LJ at *
              generalize sumO l j = SJ at *
              go_wp2
              go_roundw
              case rel => exact ⟨j + 1, by omega, by go_num, by rw [HS2.out]; go_num, trivial⟩
              case measure => simp [RowKit.intOf]; omega
            · have hj9 : j = 8 := by omega
              subst hj9
              have d9 : decide ((8 : Int) < 8) = false := rfl
              go_wp2_with (go_at_call 17; refine HWai.out.mono ?_; rintro e w9 ⟨rfl, HB9⟩)
              go_roundw
              case rel => exact ⟨k + 1, S2, l, v, o8, c8, by omega, by go_num, rfl, HV8, HR2, HBT.out.later HB9.out, HBW.out.trans (HB9.out.mono HBW.out.size)⟩
              case measure => simp [RowKit.intOf]; omega
        · -- a task more
          obtain ⟨rfl, rfl, rfl⟩ : tk = 0 ∧ ts = 0 ∧ ti = 0 := by simpa using ht
          subst hk1
          subst hw
          subst hsm
          have hlm : (l m).length ≤ 4096 := by
            have h1 := hR.out.1.ok.tot
            have h2 := qI_le s (2 + m)
            rw [hR.out.1.q m hm] at h2
            omega
          have HX7 : Hid (W5.drew.heap[g1]? = _) := hid HX6.out
          obtain ⟨ov, cv, o9, c9, w1, hvm, p1, p2, hap, p3, p4, hkz, hb6, hk6⟩ := row_put (W := W5.drew) (HT5.out.later (Below.refl _ _).drew) HB5.out.size HZ.out hm yi (by omega) 26
          have HT6 := hid hb6
          have HK6 := hid hk6
          have HAp := hid hap
          have HS1 : Hid (w1.heap[g1]? = _) := hid ((hkz g1 (Array.getElem?_eq_some_iff.1 HX6.out).1 (.inl (.inr rfl))).trans HX6.out)
          have HS2 : Hid ((W5.drew.alloc (.cells #[.int .i64 yi] 3)).heap[g1]? = _) := hid ((Below.heap_alloc W5.drew (.cells #[.int .i64 yi] 3) g1 (Array.getElem?_eq_some_iff.1 HX6.out).1).trans HX6.out)
          have HS3 : Hid ((w1.setCell ⟨B, m, none⟩ (.slice o9 ((l m).length + 1) c9)).heap[g1]? = _) := hid (HK6.out.block (g := g1) (.inl (.inr rfl)) HX6.out)
          have HN8 : Hid ((putL l m (l m ++ [yi]) 8).length = (l 8).length) := hid (by unfold putL; rw [if_neg (by omega)])
          have HV9 : Hid (putV v m (.slice o9 ((l m).length + 1) c9) 8 = .slice o8 (l 8).length c8) := hid ((if_neg (by omega)).trans HV8.out)
          have HX9 := hid (HK6.out.block (g := g5) (.inr rfl) HX5.out)
          have HBW : Hid (Below W.heap.size W (w1.setCell ⟨B, m, none⟩ (.slice o9 ((l m).length + 1) c9))) := hid (HB5.out.drew.trans HK6.out.bel)
          generalize putV v m (.slice o9 ((l m).length + 1) c9) = v2 at *
          generalize putL l m (l m ++ [yi]) = L2 at *
          have HR2 : Hid (RelO S2 L2 ∧ S2.giv ≤ ((k + 1 : Nat) : Int)) := hid ⟨hr, HG2.out⟩
          have HBT := hid (HT6.out.less (Z' := fun _ => False) (fun _ h => h.elim))
          have HTl := hid (tail_of (o8 := none) (c8 := 0) HBT.out hr)
          have HCell := hid HTl.out.cell
          have HSum := hid HTl.out.sum
          have HWai := hid HTl.out.wai
          rw [HN8.out] at HWai
          clear HTl HT6 HK6 hb6 hk6
          have q7 : (0 : Int) ≤ (m : Int) := by omega
          have q8 : (m : Int) < 8 := by omega
          go_upto_region 13 with fail
          refine wp_region_held_drew (S := fun V => V.heap[g1]? = some (.cells #[.int .u8 ((1 : Nat) : Int), .int .i64 m, .int .i64 yi, .int .i64 ym, .int .i64 yl, .int .i64 yt] 34)) (by kernel_rfl) HX6.out (fun hHeld => ?_)
          generalize W5.drew = V0 at *
          refine wpAnyH_one 0 54 (.slice (some ⟨B, 0, none⟩) 8 8) hHeld rfl rfl (by kernel_rfl) (fun _ _ _ _ _ h => h) (by kernel_rfl) (by kernel_rfl) (by rfl) ?_ ?_
          · intro V hSw; (try dsimp only at hSw); go_simp
          simp only [Act.put, List.setIfInBounds_toArray, List.set_cons_zero, List.set_cons_succ]
          refine wpAnyH_one 1 55 (.pointer (some ⟨g1, 1, none⟩)) hHeld rfl rfl (by kernel_rfl) (fun _ _ _ _ _ h => h) (by kernel_rfl) (by kernel_rfl) (by rfl) ?_ ?_
          · intro V hSw; (try dsimp only at hSw); go_simp
          simp only [Act.put, List.setIfInBounds_toArray, List.set_cons_zero, List.set_cons_succ]
          refine wpAnyH_one 2 56 (.int .i64 m) hHeld rfl rfl (by kernel_rfl) (fun _ _ _ _ _ h => h) (by kernel_rfl) (by kernel_rfl) (by rfl) ?_ ?_
          · intro V hSw; (try dsimp only at hSw); have k0 := (cell_of_heap hSw 1).trans rfl; go_simp
          simp only [Act.put, List.setIfInBounds_toArray, List.set_cons_zero, List.set_cons_succ]
          refine wpAnyH_one 3 57 (.slice (some ⟨B, 0, none⟩) 8 8) hHeld rfl rfl (by kernel_rfl) (fun _ _ _ _ _ h => h) (by kernel_rfl) (by kernel_rfl) (by rfl) ?_ ?_
          · intro V hSw; (try dsimp only at hSw); go_simp
          simp only [Act.put, List.setIfInBounds_toArray, List.set_cons_zero, List.set_cons_succ]
          refine wpAnyH_one 4 58 (.pointer (some ⟨g1, 1, none⟩)) hHeld rfl rfl (by kernel_rfl) (fun _ _ _ _ _ h => h) (by kernel_rfl) (by kernel_rfl) (by rfl) ?_ ?_
          · intro V hSw; (try dsimp only at hSw); go_simp
          simp only [Act.put, List.setIfInBounds_toArray, List.set_cons_zero, List.set_cons_succ]
          refine wpAnyH_one 5 59 (.int .i64 m) hHeld rfl rfl (by kernel_rfl) (fun _ _ _ _ _ h => h) (by kernel_rfl) (by kernel_rfl) (by rfl) ?_ ?_
          · intro V hSw; (try dsimp only at hSw); have k0 := (cell_of_heap hSw 1).trans rfl; go_simp
          simp only [Act.put, List.setIfInBounds_toArray, List.set_cons_zero, List.set_cons_succ]
          refine wpAnyH_one 6 60 (.pointer (some ⟨B, m, none⟩)) hHeld rfl rfl (by kernel_rfl) (fun _ _ _ _ _ h => h) (by kernel_rfl) (by kernel_rfl) (by rfl) ?_ ?_
          · intro V hSw; (try dsimp only at hSw); go_simp
          simp only [Act.put, List.setIfInBounds_toArray, List.set_cons_zero, List.set_cons_succ]
          refine wpAnyH_one 8 62 (.pointer (some ⟨g1, 2, none⟩)) hHeld rfl rfl (by kernel_rfl) (fun _ _ _ _ _ h => h) (by kernel_rfl) (by kernel_rfl) (by rfl) ?_ ?_
          · intro V hSw; (try dsimp only at hSw); go_simp
          simp only [Act.put, List.setIfInBounds_toArray, List.set_cons_zero, List.set_cons_succ]
          refine wpAnyH_one 9 63 (.int .i64 yi) hHeld rfl rfl (by kernel_rfl) (fun _ _ _ _ _ h => h) (by kernel_rfl) (by kernel_rfl) (by rfl) ?_ ?_
          · intro V hSw; (try dsimp only at hSw); have k0 := (cell_of_heap hSw 2).trans rfl; go_simp
          simp only [Act.put, List.setIfInBounds_toArray, List.set_cons_zero, List.set_cons_succ]
          refine wpAnyH_ready (rs := [7, 10]) (by kernel_rfl) (by simp) ?_
          refine AllReadyH.cons rfl (fun K hK => ?_) (AllReadyH.cons rfl (fun K hK => ?_) AllReadyH.nil)
          · go_simp
            refine hK.out _ _ HX7.out (fun hHeld => ?_)
            clear hK K
            refine wpAnyH_ready (rs := [10]) (by kernel_rfl) (by simp) ?_
            refine AllReadyH.cons rfl (fun K hK => ?_) AllReadyH.nil
            go_simp
            refine hK.out _ _ HS2.out (fun hHeld => ?_)
            clear hK K
            refine wpAnyH_ready (rs := [11]) (by kernel_rfl) (by simp) ?_
            refine AllReadyH.cons rfl (fun K hK => ?_) AllReadyH.nil
            refine step_append27 _ rfl _ _ 26 26 rfl _ _ rfl rfl _ _ HAp.out _ rfl ?_
            simp only [Act.put, List.setIfInBounds_toArray]
            refine hK.out _ _ HS1.out (fun hHeld => ?_)
            clear hK K
            refine wpAnyH_one 12 66 (.pointer (some ⟨B, m, none⟩)) hHeld rfl rfl (by kernel_rfl) (fun _ _ _ _ _ h => h) (by kernel_rfl) (by kernel_rfl) (by rfl) ?_ ?_
            · intro V hSw; (try dsimp only at hSw); go_simp
            simp only [Act.put]
            refine wpAnyH_ready (rs := [13]) (by kernel_rfl) (by simp) ?_
            refine AllReadyH.cons rfl (fun K hK => ?_) AllReadyH.nil
            go_simp
            refine hK.out _ _ HS3.out (fun hHeld => ?_)
            clear hK K
            refine wpAnyH_done (by kernel_rfl) ?_ _
            clear HAp HS1 HS2 HS3 hkz p1 p2 p3 p4 hap hHeld HO2 HT5 HB5 hR HG2 HX5 HX6 HX7 HNE
            generalize w1.setCell ⟨B, m, none⟩ (.slice o9 ((l m).length + 1) c9) = W9 at *
            have z0 := (cell_of_heap HX9.out 0).trans rfl
            have z1 := (cell_of_heap HX9.out 1).trans rfl
            have z2 := (cell_of_heap HX9.out 2).trans rfl
            go_upto_region 27 with fail
            go_loopw [143, 11] (fun t u wx => ∃ j : Nat, j ≤ 8 ∧ t = .int .i64 j ∧ u = .int .i64 (sumO L2 j : Nat) ∧ W9 = wx) (fun t _ _ => 8 - (RowKit.intOf t).toNat)
            case atStart => exact ⟨0, by omega, rfl, rfl, rfl⟩
            case round =>
              obtain ⟨j, hj, rfl, rfl, rfl⟩ := hrel
              by_cases hj8 : j < 8
              · obtain ⟨oj, cj, hcj⟩ := HCell.out j hj8
                have hsum := HSum.out (j + 1) (by omega)
                have hse : sumO L2 (j + 1) = sumO L2 j + (L2 j).length := rfl
                have q5 : (0 : Int) ≤ (j : Int) := by omega
                have q6 : (j : Int) < 8 := by omega
                have HS2 := hid hse
                rw [hse] at hsum
                clear hse
                generalize (L2 j).length = LJ at *
                generalize sumO L2 j = SJ at *
                go_wp2
                go_roundw
                case rel => exact ⟨j + 1, by omega, by go_num, by rw [HS2.out]; go_num, trivial⟩
                case measure => simp [RowKit.intOf]; omega
              · have hj9 : j = 8 := by omega
                subst hj9
                have d9 : decide ((8 : Int) < 8) = false := rfl
                go_wp2_with (go_at_call 17; refine HWai.out.mono ?_; rintro e w9 ⟨rfl, HB9⟩)
                go_roundw
                case rel => exact ⟨k + 1, S2, L2, v2, o8, c8, by omega, by go_num, (by rw [HN8.out]), (hid (by rw [HN8.out]; exact HV9.out)), HR2, HBT.out.later HB9.out, HBW.out.trans (HB9.out.mono HBW.out.size)⟩
                case measure => simp [RowKit.intOf]; omega
          · go_simp
            refine hK.out _ _ HS2.out (fun hHeld => ?_)
            clear hK K
            refine wpAnyH_ready (rs := [7]) (by kernel_rfl) (by simp) ?_
            refine AllReadyH.cons rfl (fun K hK => ?_) AllReadyH.nil
            go_simp
            refine hK.out _ _ HS2.out (fun hHeld => ?_)
            clear hK K
            refine wpAnyH_ready (rs := [11]) (by kernel_rfl) (by simp) ?_
            refine AllReadyH.cons rfl (fun K hK => ?_) AllReadyH.nil
            refine step_append27 _ rfl _ _ 26 26 rfl _ _ rfl rfl _ _ HAp.out _ rfl ?_
            simp only [Act.put, List.setIfInBounds_toArray]
            refine hK.out _ _ HS1.out (fun hHeld => ?_)
            clear hK K
            refine wpAnyH_one 12 66 (.pointer (some ⟨B, m, none⟩)) hHeld rfl rfl (by kernel_rfl) (fun _ _ _ _ _ h => h) (by kernel_rfl) (by kernel_rfl) (by rfl) ?_ ?_
            · intro V hSw; (try dsimp only at hSw); go_simp
            simp only [Act.put]
            refine wpAnyH_ready (rs := [13]) (by kernel_rfl) (by simp) ?_
            refine AllReadyH.cons rfl (fun K hK => ?_) AllReadyH.nil
            go_simp
            refine hK.out _ _ HS3.out (fun hHeld => ?_)
            clear hK K
            refine wpAnyH_done (by kernel_rfl) ?_ _
            clear HAp HS1 HS2 HS3 hkz p1 p2 p3 p4 hap hHeld HO2 HT5 HB5 hR HG2 HX5 HX6 HX7 HNE
            generalize w1.setCell ⟨B, m, none⟩ (.slice o9 ((l m).length + 1) c9) = W9 at *
            have z0 := (cell_of_heap HX9.out 0).trans rfl
            have z1 := (cell_of_heap HX9.out 1).trans rfl
            have z2 := (cell_of_heap HX9.out 2).trans rfl
            go_upto_region 27 with fail
            go_loopw [143, 11] (fun t u wx => ∃ j : Nat, j ≤ 8 ∧ t = .int .i64 j ∧ u = .int .i64 (sumO L2 j : Nat) ∧ W9 = wx) (fun t _ _ => 8 - (RowKit.intOf t).toNat)
            case atStart => exact ⟨0, by omega, rfl, rfl, rfl⟩
            case round =>
              obtain ⟨j, hj, rfl, rfl, rfl⟩ := hrel
              by_cases hj8 : j < 8
              · obtain ⟨oj, cj, hcj⟩ := HCell.out j hj8
                have hsum := HSum.out (j + 1) (by omega)
                have hse : sumO L2 (j + 1) = sumO L2 j + (L2 j).length := rfl
                have q5 : (0 : Int) ≤ (j : Int) := by omega
                have q6 : (j : Int) < 8 := by omega
                have HS2 := hid hse
                rw [hse] at hsum
                clear hse
                generalize (L2 j).length = LJ at *
                generalize sumO L2 j = SJ at *
                go_wp2
                go_roundw
                case rel => exact ⟨j + 1, by omega, by go_num, by rw [HS2.out]; go_num, trivial⟩
                case measure => simp [RowKit.intOf]; omega
              · have hj9 : j = 8 := by omega
                subst hj9
                have d9 : decide ((8 : Int) < 8) = false := rfl
                go_wp2_with (go_at_call 17; refine HWai.out.mono ?_; rintro e w9 ⟨rfl, HB9⟩)
                go_roundw
                case rel => exact ⟨k + 1, S2, L2, v2, o8, c8, by omega, by go_num, (by rw [HN8.out]), (hid (by rw [HN8.out]; exact HV9.out)), HR2, HBT.out.later HB9.out, HBW.out.trans (HB9.out.mono HBW.out.size)⟩
                case measure => simp [RowKit.intOf]; omega
        · -- a microtask more
          obtain ⟨rfl, rfl, rfl⟩ : tk = 0 ∧ ts = 0 ∧ ti = 0 := by simpa using ht
          subst hk2
          subst hw
          have hl8 : (l 8).length ≤ 4096 := by
            have h1 := hR.out.1.ok.tot
            have h2 := hR.out.1.m
            unfold totD at h1
            rw [h2] at h1
            omega
          obtain ⟨o9, c9, w1, hap, hb6, hk6⟩ := micro_put HT5.out HB5.out.size HZ.out yi (by omega) 26
          rw [HV8.out] at hap
          have HT6 := hid hb6
          have HK6 := hid hk6
          have HAp := hid hap
          have HV9 : Hid (putV v 8 (.slice o9 (putL l 8 (l 8 ++ [yi]) 8).length c9) 8 = .slice o9 (putL l 8 (l 8 ++ [yi]) 8).length c9) := hid (if_pos rfl)
          generalize putV v 8 (.slice o9 (putL l 8 (l 8 ++ [yi]) 8).length c9) = v2 at *
          generalize putL l 8 (l 8 ++ [yi]) = L2 at *
          have HB6 : Hid (Below W.heap.size W w1) := hid (HB5.out.trans HK6.out.bel)
          have hx9 := HK6.out.block (g := g5) (.inr rfl) HX5.out
          have z0 := (cell_of_heap hx9 0).trans rfl
          have z1 := (cell_of_heap hx9 1).trans rfl
          have z2 := (cell_of_heap hx9 2).trans rfl
          have HR2 : Hid (RelO S2 L2 ∧ S2.giv ≤ ((k + 1 : Nat) : Int)) := hid ⟨hr, HG2.out⟩
          have HBT := hid (HT6.out.less (Z' := fun _ => False) (fun _ h => h.elim))
          have HTl := hid (tail_of (o8 := o9) (c8 := c9) HBT.out hr)
          have HCell := hid HTl.out.cell
          have HSum := hid HTl.out.sum
          have HWai := hid HTl.out.wai
          have HBW := HB6
          clear HO2 HT5 HTl HB5 hR HG2 HX5 HX6 HNE HT6 HK6 hap hb6 hk6 hx9
          go_upto_region 16 with (at_builtin; refine wpList_append_run _ rfl _ _ 26 26 rfl _ _ rfl rfl _ _ HAp.out ?_)
          go_upto_region 27 with fail
          go_loopw [143, 11] (fun t u wx => ∃ j : Nat, j ≤ 8 ∧ t = .int .i64 j ∧ u = .int .i64 (sumO L2 j : Nat) ∧ w1 = wx) (fun t _ _ => 8 - (RowKit.intOf t).toNat)
          case atStart => exact ⟨0, by omega, rfl, rfl, rfl⟩
          case round =>
            obtain ⟨j, hj, rfl, rfl, rfl⟩ := hrel
            by_cases hj8 : j < 8
            · obtain ⟨oj, cj, hcj⟩ := HCell.out j hj8
              have hsum := HSum.out (j + 1) (by omega)
              have hse : sumO L2 (j + 1) = sumO L2 j + (L2 j).length := rfl
              have q5 : (0 : Int) ≤ (j : Int) := by omega
              have q6 : (j : Int) < 8 := by omega
              have HS2 := hid hse
              rw [hse] at hsum
              clear hse
              generalize (L2 j).length = LJ at *
              generalize sumO L2 j = SJ at *
              go_wp2
              go_roundw
              case rel => exact ⟨j + 1, by omega, by go_num, by rw [HS2.out]; go_num, trivial⟩
              case measure => simp [RowKit.intOf]; omega
            · have hj9 : j = 8 := by omega
              subst hj9
              have d9 : decide ((8 : Int) < 8) = false := rfl
              go_wp2_with (go_at_call 17; refine HWai.out.mono ?_; rintro e w9 ⟨rfl, HB9⟩)
              go_roundw
              case rel => exact ⟨k + 1, S2, L2, v2, o9, c9, by omega, by go_num, rfl, HV9, HR2, HBT.out.later HB9.out, HBW.out.trans (HB9.out.mono HBW.out.size)⟩
              case measure => simp [RowKit.intOf]; omega
        · -- cleared, or nothing to do
          obtain ⟨rfl, rfl, rfl⟩ : tk = 0 ∧ ts = 0 ∧ ti = 0 := by simpa using ht
          subst hw
          have d1a : ¬ (yk : Int) = 1 := by omega
          have d1b : ((yk : Int) == 1) = false := beq_eq_false_iff_ne.2 (by omega)
          have d2a : ¬ (yk : Int) = 2 := by omega
          have d2b : ((yk : Int) == 2) = false := beq_eq_false_iff_ne.2 (by omega)
          have HR2 : Hid (RelO S2 l ∧ S2.giv ≤ ((k + 1 : Nat) : Int)) := hid ⟨hr, HG2.out⟩
          have HBT := hid (HT5.out.less (Z' := fun _ => False) (fun _ h => h.elim))
          have HTl := hid (tail_of (o8 := o8) (c8 := c8) HBT.out hr)
          have HCell := hid HTl.out.cell
          have HSum := hid HTl.out.sum
          have HWai := hid HTl.out.wai
          have HBW := HB5
          clear HO2 HT5 HTl HB5 hR HG2 HX5 HX6 HNE
          go_upto_region 27 with fail
          go_loopw [143, 11] (fun t u wx => ∃ j : Nat, j ≤ 8 ∧ t = .int .i64 j ∧ u = .int .i64 (sumO l j : Nat) ∧ W5 = wx) (fun t _ _ => 8 - (RowKit.intOf t).toNat)
          case atStart => exact ⟨0, by omega, rfl, rfl, rfl⟩
          case round =>
            obtain ⟨j, hj, rfl, rfl, rfl⟩ := hrel
            by_cases hj8 : j < 8
            · obtain ⟨oj, cj, hcj⟩ := HCell.out j hj8
              have hsum := HSum.out (j + 1) (by omega)
              have hse : sumO l (j + 1) = sumO l j + (l j).length := rfl
              have q5 : (0 : Int) ≤ (j : Int) := by omega
              have q6 : (j : Int) < 8 := by omega
              have HS2 := hid hse
              rw [hse] at hsum
              clear hse
              generalize (l j).length = LJ at *
              generalize sumO l j = SJ at *
              go_wp2
              go_roundw
              case rel => exact ⟨j + 1, by omega, by go_num, by rw [HS2.out]; go_num, trivial⟩
              case measure => simp [RowKit.intOf]; omega
            · have hj9 : j = 8 := by omega
              subst hj9
              have d9 : decide ((8 : Int) < 8) = false := rfl
              go_wp2_with (go_at_call 17; refine HWai.out.mono ?_; rintro e w9 ⟨rfl, HB9⟩)
              go_roundw
              case rel => exact ⟨k + 1, S2, l, v, o8, c8, by omega, by go_num, rfl, HV8, HR2, HBT.out.later HB9.out, HBW.out.trans (HB9.out.mono HBW.out.size)⟩
              case measure => simp [RowKit.intOf]; omega
        · -- the first microtask was answered
          obtain ⟨rfl, rfl, rfl⟩ : tk = 1 ∧ ts = 0 ∧ ti = z := by simpa using ht
          subst hw
          have d1a : ¬ (yk : Int) = 1 := by omega
          have d1b : ((yk : Int) == 1) = false := beq_eq_false_iff_ne.2 (by omega)
          have d2a : ¬ (yk : Int) = 2 := by omega
          have d2b : ((yk : Int) == 2) = false := beq_eq_false_iff_ne.2 (by omega)
          obtain ⟨gm, off8, rfl, hcap, hcz, hb6⟩ := micro_tail HT5.out HB5.out.size HZ.out HV8.out hz
          have HT6 := hid hb6
          have hlz : (l 8).length = (putL l 8 r 8).length + 1 := by rw [hz]; unfold putL; rw [if_pos rfl]; rfl
          have hlr : r.length = (putL l 8 r 8).length := by unfold putL; rw [if_pos rfl]
          rw [hlr] at hcap HT6
          rw [hlz] at HV8 ⊢
          have HV9 : Hid (putV v 8 (.slice (some (if c8 = 1 then ⟨gm, off8, none⟩ else ⟨gm, off8 + 1, none⟩)) (putL l 8 r 8).length (c8 - 1)) 8 = .slice (some (if c8 = 1 then ⟨gm, off8, none⟩ else ⟨gm, off8 + 1, none⟩)) (putL l 8 r 8).length (c8 - 1)) := hid (if_pos rfl)
          generalize putV v 8 (.slice (some (if c8 = 1 then ⟨gm, off8, none⟩ else ⟨gm, off8 + 1, none⟩)) (putL l 8 r 8).length (c8 - 1)) = v2 at *
          clear hb6 hlz hlr
          generalize putL l 8 r = L2 at *
          obtain ⟨n8, hn8⟩ : ∃ n, (L2 8).length = n := ⟨_, rfl⟩
          rw [hn8] at hcap HV8 HV9
          rw [hn8]
          have HN8 := hid hn8
          have HB6 := HB5
          have HR2 : Hid (RelO S2 L2 ∧ S2.giv ≤ ((k + 1 : Nat) : Int)) := hid ⟨hr, HG2.out⟩
          have HBTn := hid (fun nq => ((HT6.out.less (Z' := fun _ => False) (fun _ h => h.elim)).later (U := W5.drewN nq) ⟨rfl, rfl, rfl, Nat.le_refl _, fun _ _ => rfl⟩))
          have HTln := hid (fun nq => tail_of (o8 := none) (c8 := 0) (HBTn.out nq) hr)
          have HBWn := hid (fun nq => (show Below W.heap.size W (W5.drewN nq) from HB6.out.trans ⟨rfl, rfl, rfl, Nat.le_refl _, fun _ _ => rfl⟩))
          have q7 : (0 : Int) < ((n8 + 1 : Nat) : Int) := by omega
          have q8 : (0 : Int) < (n8 : Int) + 1 := by omega
          have d7 : ¬ (n8 : Int) + 1 = 0 := by omega
          have d8 : ((n8 : Int) + 1 == 0) = false := beq_eq_false_iff_ne.2 d7
          have d9 : decide ((n8 : Int) + 1 = 0) = false := decide_eq_false d7
          clear HO2 HT5 HB5 hR HG2 HX5 HX6 HNE HT6 HB6 hn8
          go_upto_region 18 with fail
          go_quiet (fail)
          have HBT := hid (HBTn.out nq)
          have HTl := hid (HTln.out nq)
          have HBW := hid (HBWn.out nq)
          have HCell := hid HTl.out.cell
          have HSum := hid HTl.out.sum
          have HWai := hid HTl.out.wai
          rw [HN8.out] at HWai
          clear HBTn HTln HBWn HTl
          by_cases hc : c8 = 1
          · subst hc
            have hn0 : n8 = 0 := by omega
            subst hn0
            rw [if_pos rfl] at HV9
            go_upto_region 27 with fail
            go_loopw [143, 11] (fun t u wx => ∃ j : Nat, j ≤ 8 ∧ t = .int .i64 j ∧ u = .int .i64 (sumO L2 j : Nat) ∧ W5.drewN nq = wx) (fun t _ _ => 8 - (RowKit.intOf t).toNat)
            case atStart => exact ⟨0, by omega, rfl, rfl, rfl⟩
            case round =>
              obtain ⟨j, hj, rfl, rfl, rfl⟩ := hrel
              by_cases hj8 : j < 8
              · obtain ⟨oj, cj, hcj⟩ := HCell.out j hj8
                have hsum := HSum.out (j + 1) (by omega)
                have hse : sumO L2 (j + 1) = sumO L2 j + (L2 j).length := rfl
                have q5 : (0 : Int) ≤ (j : Int) := by omega
                have q6 : (j : Int) < 8 := by omega
                have HS2 := hid hse
                rw [hse] at hsum
                clear hse
                generalize (L2 j).length = LJ at *
                generalize sumO L2 j = SJ at *
                go_wp2
                go_roundw
                case rel => exact ⟨j + 1, by omega, by go_num, by rw [HS2.out]; go_num, trivial⟩
                case measure => simp [RowKit.intOf]; omega
              · have hj9 : j = 8 := by omega
                subst hj9
                have d9 : decide ((8 : Int) < 8) = false := rfl
                go_wp2_with (go_at_call 17; refine HWai.out.mono ?_; rintro e w9 ⟨rfl, HB9⟩)
                go_roundw
                case rel => exact ⟨k + 1, S2, L2, v2, some ⟨gm, off8, none⟩, 0, by omega, by go_num, (by rw [HN8.out]), (hid (by rw [HN8.out]; exact HV9.out)), HR2, HBT.out.later HB9.out, HBW.out.trans (HB9.out.mono HBW.out.size)⟩
                case measure => simp [RowKit.intOf]; omega
          · rw [if_neg hc] at HV9
            go_upto_region 27 with fail
            go_loopw [143, 11] (fun t u wx => ∃ j : Nat, j ≤ 8 ∧ t = .int .i64 j ∧ u = .int .i64 (sumO L2 j : Nat) ∧ W5.drewN nq = wx) (fun t _ _ => 8 - (RowKit.intOf t).toNat)
            case atStart => exact ⟨0, by omega, rfl, rfl, rfl⟩
            case round =>
              obtain ⟨j, hj, rfl, rfl, rfl⟩ := hrel
              by_cases hj8 : j < 8
              · obtain ⟨oj, cj, hcj⟩ := HCell.out j hj8
                have hsum := HSum.out (j + 1) (by omega)
                have hse : sumO L2 (j + 1) = sumO L2 j + (L2 j).length := rfl
                have q5 : (0 : Int) ≤ (j : Int) := by omega
                have q6 : (j : Int) < 8 := by omega
                have HS2 := hid hse
                rw [hse] at hsum
                clear hse
                generalize (L2 j).length = LJ at *
                generalize sumO L2 j = SJ at *
                go_wp2
                go_roundw
                case rel => exact ⟨j + 1, by omega, by go_num, by rw [HS2.out]; go_num, trivial⟩
                case measure => simp [RowKit.intOf]; omega
              · have hj9 : j = 8 := by omega
                subst hj9
                have d9 : decide ((8 : Int) < 8) = false := rfl
                go_wp2_with (go_at_call 17; refine HWai.out.mono ?_; rintro e w9 ⟨rfl, HB9⟩)
                go_roundw
                case rel => exact ⟨k + 1, S2, L2, v2, some ⟨gm, off8 + 1, none⟩, c8 - 1, by omega, by go_num, (by rw [HN8.out]), (hid (by rw [HN8.out]; exact HV9.out)), HR2, HBT.out.later HB9.out, HBW.out.trans (HB9.out.mono HBW.out.size)⟩
                case measure => simp [RowKit.intOf]; omega
        · -- the first task of a source was answered
          obtain ⟨rfl, rfl, rfl⟩ : tk = 2 ∧ ts = (m : Int) ∧ ti = z := by simpa using ht
          subst hw
          have d1a : ¬ (yk : Int) = 1 := by omega
          have d1b : ((yk : Int) == 1) = false := beq_eq_false_iff_ne.2 (by omega)
          have d2a : ¬ (yk : Int) = 2 := by omega
          have d2b : ((yk : Int) == 2) = false := beq_eq_false_iff_ne.2 (by omega)
          obtain ⟨gm, offm, cm, hcap, hrow⟩ := row_tail HT5.out HB5.out.size HZ.out hm hz
          have HRow := hid hrow
          have HLm : Hid (Kept W.heap.size (fun _ => False) W5 W5) := hid ⟨⟨rfl, rfl, rfl, Nat.le_refl _, fun _ _ => rfl⟩, fun _ _ _ => rfl⟩
          have hl8 : (l 8).length = 0 := by rw [h8]; rfl
          rw [hl8] at HV8 ⊢
          obtain ⟨p1, p2, p3, _, _⟩ := HRow.out W5 (Below.refl _ _)
          have HL9 : Hid ((putL l m r 8).length = 0) := hid (by unfold putL; rw [if_neg (by omega)]; exact hl8)
          generalize hn8 : r.length = n8 at *
          have HN8 := hid hn8
          have q7 : (0 : Int) ≤ (m : Int) := by omega
          have q8 : (m : Int) < 8 := by omega
          have d3' : decide ((m : Int) < 0) = false := decide_eq_false (by omega)
          have d4' : decide ((m : Int) ≥ 8) = false := decide_eq_false (by omega)
          have q9 : (0 : Int) < (n8 : Int) + 1 := by omega
          have q10 : ¬ ((n8 : Int) + 1 < 1) := by omega
          have q11 : (1 : Int) ≤ (n8 : Int) + 1 := by omega
          have q12 : (n8 : Int) + 1 ≤ (cm : Int) := by omega
          have d7' : ¬ (n8 : Int) + 1 = 0 := by omega
          have d8' : ((n8 : Int) + 1 == 0) = false := beq_eq_false_iff_ne.2 d7'
          have d9' : decide ((n8 : Int) + 1 = 0) = false := decide_eq_false d7'
          clear hn8 hrow
          go_upto_region 22 with fail
          go_quiet (fail)
          have HBel : Hid (Below W5.heap.size W5 (W5.drewN nq).drew) := hid ⟨rfl, rfl, rfl, Nat.le_refl _, fun _ _ => rfl⟩
          obtain ⟨w1', w2', w3', w4', w5'⟩ := HRow.out _ HBel.out
          have HX9 : Hid ((W5.drewN nq).drew.heap[g5]? = _) := hid HX5.out
          have HT6 := hid w4'
          have HK6 := hid w5'
          have HBW0 : Hid (Below W.heap.size W (W5.drewN nq).drew) := hid (HB5.out.trans (HBel.out.mono HB5.out.size))
          clear w4' w5' HRow
          by_cases hc : cm = 1
          · subst hc
            have hn0 : n8 = 0 := by omega
            subst hn0
            rw [if_pos rfl, show (1 - 1 : Nat) = 0 from rfl] at HT6 HK6
            have HV9 : Hid (putV v m (.slice (some ⟨gm, offm, none⟩) 0 0) 8 = .slice o8 0 c8) := hid ((if_neg (by omega)).trans HV8.out)
            have HXs := hid (HK6.out.block (g := g5) (.inr rfl) HX9.out)
            have HBW : Hid (Below W.heap.size W ((W5.drewN nq).drew.setCell ⟨B, m, none⟩ (.slice (some ⟨gm, offm, none⟩) 0 0))) := hid (HBW0.out.trans HK6.out.bel)
            generalize putV v m (.slice (some ⟨gm, offm, none⟩) 0 0) = v2 at *
            generalize putL l m r = L2 at *
            have HR2 : Hid (RelO S2 L2 ∧ S2.giv ≤ ((k + 1 : Nat) : Int)) := hid ⟨hr, HG2.out⟩
            have HBT := hid (HT6.out.less (Z' := fun _ => False) (fun _ h => h.elim))
            have HTl := hid (tail_of (o8 := none) (c8 := 0) HBT.out hr)
            have HCell := hid HTl.out.cell
            have HSum := hid HTl.out.sum
            have HWai := hid HTl.out.wai
            rw [HL9.out] at HWai
            clear HTl HT6 HK6 HN8
            have HN8 := HL9
            go_upto_region 24 with fail
            refine wp_region_held_drew (S := fun V => V.heap[g5]? = some (.cells #[.int .u8 2, .int .i64 m, .int .i64 ti] 37)) (by kernel_rfl) HX9.out (fun hHeld => ?_)
            generalize (W5.drewN nq).drew = V0 at *
            refine wpAnyH_one 0 131 (.slice (some ⟨B, 0, none⟩) 8 8) hHeld rfl rfl (by kernel_rfl) (fun _ _ _ _ _ h => h) (by kernel_rfl) (by kernel_rfl) (by rfl) ?_ ?_
            · intro V hSw; (try dsimp only at hSw); go_simp
            simp only [Act.put, List.setIfInBounds_toArray, List.set_cons_zero, List.set_cons_succ]
            refine wpAnyH_one 1 132 (.pointer (some ⟨g5, 1, none⟩)) hHeld rfl rfl (by kernel_rfl) (fun _ _ _ _ _ h => h) (by kernel_rfl) (by kernel_rfl) (by rfl) ?_ ?_
            · intro V hSw; (try dsimp only at hSw); go_simp
            simp only [Act.put, List.setIfInBounds_toArray, List.set_cons_zero, List.set_cons_succ]
            refine wpAnyH_one 2 133 (.int .i64 m) hHeld rfl rfl (by kernel_rfl) (fun _ _ _ _ _ h => h) (by kernel_rfl) (by kernel_rfl) (by rfl) ?_ ?_
            · intro V hSw; (try dsimp only at hSw); have k0 := (cell_of_heap hSw 1).trans rfl; go_simp
            simp only [Act.put, List.setIfInBounds_toArray, List.set_cons_zero, List.set_cons_succ]
            refine wpAnyH_one 3 134 (.slice (some ⟨B, 0, none⟩) 8 8) hHeld rfl rfl (by kernel_rfl) (fun _ _ _ _ _ h => h) (by kernel_rfl) (by kernel_rfl) (by rfl) ?_ ?_
            · intro V hSw; (try dsimp only at hSw); go_simp
            simp only [Act.put, List.setIfInBounds_toArray, List.set_cons_zero, List.set_cons_succ]
            refine wpAnyH_one 4 135 (.pointer (some ⟨g5, 1, none⟩)) hHeld rfl rfl (by kernel_rfl) (fun _ _ _ _ _ h => h) (by kernel_rfl) (by kernel_rfl) (by rfl) ?_ ?_
            · intro V hSw; (try dsimp only at hSw); go_simp
            simp only [Act.put, List.setIfInBounds_toArray, List.set_cons_zero, List.set_cons_succ]
            refine wpAnyH_one 5 136 (.int .i64 m) hHeld rfl rfl (by kernel_rfl) (fun _ _ _ _ _ h => h) (by kernel_rfl) (by kernel_rfl) (by rfl) ?_ ?_
            · intro V hSw; (try dsimp only at hSw); have k0 := (cell_of_heap hSw 1).trans rfl; go_simp
            simp only [Act.put, List.setIfInBounds_toArray, List.set_cons_zero, List.set_cons_succ]
            refine wpAnyH_one 6 137 (.pointer (some ⟨B, m, none⟩)) hHeld rfl rfl (by kernel_rfl) (fun _ _ _ _ _ h => h) (by kernel_rfl) (by kernel_rfl) (by rfl) ?_ ?_
            · intro V hSw; (try dsimp only at hSw); go_simp
            simp only [Act.put, List.setIfInBounds_toArray, List.set_cons_zero, List.set_cons_succ]
            refine wpAnyH_ready (rs := [7]) (by kernel_rfl) (by simp) ?_
            refine AllReadyH.cons rfl (fun K hK => ?_) AllReadyH.nil
            go_simp
            refine hK.out _ _ HX9.out (fun hHeld => ?_)
            clear hK K
            refine wpAnyH_one 8 139 (.slice (some ⟨gm, offm, none⟩) 0 0) hHeld rfl rfl (by kernel_rfl) (fun _ _ _ _ _ h => h) (by kernel_rfl) (by kernel_rfl) (by rfl) ?_ ?_
            · intro V hSw; (try dsimp only at hSw); go_simp
            simp only [Act.put, List.setIfInBounds_toArray, List.set_cons_zero, List.set_cons_succ]
            refine wpAnyH_one 9 140 (.pointer (some ⟨B, m, none⟩)) hHeld rfl rfl (by kernel_rfl) (fun _ _ _ _ _ h => h) (by kernel_rfl) (by kernel_rfl) (by rfl) ?_ ?_
            · intro V hSw; (try dsimp only at hSw); go_simp
            simp only [Act.put, List.setIfInBounds_toArray, List.set_cons_zero, List.set_cons_succ]
            refine wpAnyH_ready (rs := [10]) (by kernel_rfl) (by simp) ?_
            refine AllReadyH.cons rfl (fun K hK => ?_) AllReadyH.nil
            go_simp
            refine hK.out _ _ HXs.out (fun hHeld => ?_)
            clear hK K
            refine wpAnyH_done (by kernel_rfl) ?_ _
            clear hHeld HO2 HT5 HB5 hR HG2 HX5 HX6 HX9 HNE w1' w2' w3' p1 p2 p3
            generalize V0.setCell ⟨B, m, none⟩ (.slice (some ⟨gm, offm, none⟩) 0 0) = W9 at *
            have z0 := (cell_of_heap HXs.out 0).trans rfl
            have z1 := (cell_of_heap HXs.out 1).trans rfl
            have z2 := (cell_of_heap HXs.out 2).trans rfl
            go_upto_region 27 with fail
            go_loopw [143, 11] (fun t u wx => ∃ j : Nat, j ≤ 8 ∧ t = .int .i64 j ∧ u = .int .i64 (sumO L2 j : Nat) ∧ W9 = wx) (fun t _ _ => 8 - (RowKit.intOf t).toNat)
            case atStart => exact ⟨0, by omega, rfl, rfl, rfl⟩
            case round =>
              obtain ⟨j, hj, rfl, rfl, rfl⟩ := hrel
              by_cases hj8 : j < 8
              · obtain ⟨oj, cj, hcj⟩ := HCell.out j hj8
                have hsum := HSum.out (j + 1) (by omega)
                have hse : sumO L2 (j + 1) = sumO L2 j + (L2 j).length := rfl
                have q5 : (0 : Int) ≤ (j : Int) := by omega
                have q6 : (j : Int) < 8 := by omega
                have HS2 := hid hse
                rw [hse] at hsum
                clear hse
                generalize (L2 j).length = LJ at *
                generalize sumO L2 j = SJ at *
                go_wp2
                go_roundw
                case rel => exact ⟨j + 1, by omega, by go_num, by rw [HS2.out]; go_num, trivial⟩
                case measure => simp [RowKit.intOf]; omega
              · have hj9 : j = 8 := by omega
                subst hj9
                have d9 : decide ((8 : Int) < 8) = false := rfl
                go_wp2_with (go_at_call 17; refine HWai.out.mono ?_; rintro e w9 ⟨rfl, HB9⟩)
                go_roundw
                case rel => exact ⟨k + 1, S2, L2, v2, o8, c8, by omega, by go_num, (by rw [HN8.out]), (hid (by rw [HN8.out]; exact HV9.out)), HR2, HBT.out.later HB9.out, HBW.out.trans (HB9.out.mono HBW.out.size)⟩
                case measure => simp [RowKit.intOf]; omega
          · rw [if_neg hc] at HT6 HK6
            have HV9 : Hid (putV v m (.slice (some ⟨gm, offm + 1, none⟩) n8 (cm - 1)) 8 = .slice o8 0 c8) := hid ((if_neg (by omega)).trans HV8.out)
            have HXs := hid (HK6.out.block (g := g5) (.inr rfl) HX9.out)
            have HBW : Hid (Below W.heap.size W ((W5.drewN nq).drew.setCell ⟨B, m, none⟩ (.slice (some ⟨gm, offm + 1, none⟩) n8 (cm - 1)))) := hid (HBW0.out.trans HK6.out.bel)
            generalize putV v m (.slice (some ⟨gm, offm + 1, none⟩) n8 (cm - 1)) = v2 at *
            generalize putL l m r = L2 at *
            have HR2 : Hid (RelO S2 L2 ∧ S2.giv ≤ ((k + 1 : Nat) : Int)) := hid ⟨hr, HG2.out⟩
            have HBT := hid (HT6.out.less (Z' := fun _ => False) (fun _ h => h.elim))
            have HTl := hid (tail_of (o8 := none) (c8 := 0) HBT.out hr)
            have HCell := hid HTl.out.cell
            have HSum := hid HTl.out.sum
            have HWai := hid HTl.out.wai
            rw [HL9.out] at HWai
            clear HTl HT6 HK6 HN8
            have HN8 := HL9
            go_upto_region 24 with fail
            refine wp_region_held_drew (S := fun V => V.heap[g5]? = some (.cells #[.int .u8 2, .int .i64 m, .int .i64 ti] 37)) (by kernel_rfl) HX9.out (fun hHeld => ?_)
            generalize (W5.drewN nq).drew = V0 at *
            refine wpAnyH_one 0 131 (.slice (some ⟨B, 0, none⟩) 8 8) hHeld rfl rfl (by kernel_rfl) (fun _ _ _ _ _ h => h) (by kernel_rfl) (by kernel_rfl) (by rfl) ?_ ?_
            · intro V hSw; (try dsimp only at hSw); go_simp
            simp only [Act.put, List.setIfInBounds_toArray, List.set_cons_zero, List.set_cons_succ]
            refine wpAnyH_one 1 132 (.pointer (some ⟨g5, 1, none⟩)) hHeld rfl rfl (by kernel_rfl) (fun _ _ _ _ _ h => h) (by kernel_rfl) (by kernel_rfl) (by rfl) ?_ ?_
            · intro V hSw; (try dsimp only at hSw); go_simp
            simp only [Act.put, List.setIfInBounds_toArray, List.set_cons_zero, List.set_cons_succ]
            refine wpAnyH_one 2 133 (.int .i64 m) hHeld rfl rfl (by kernel_rfl) (fun _ _ _ _ _ h => h) (by kernel_rfl) (by kernel_rfl) (by rfl) ?_ ?_
            · intro V hSw; (try dsimp only at hSw); have k0 := (cell_of_heap hSw 1).trans rfl; go_simp
            simp only [Act.put, List.setIfInBounds_toArray, List.set_cons_zero, List.set_cons_succ]
            refine wpAnyH_one 3 134 (.slice (some ⟨B, 0, none⟩) 8 8) hHeld rfl rfl (by kernel_rfl) (fun _ _ _ _ _ h => h) (by kernel_rfl) (by kernel_rfl) (by rfl) ?_ ?_
            · intro V hSw; (try dsimp only at hSw); go_simp
            simp only [Act.put, List.setIfInBounds_toArray, List.set_cons_zero, List.set_cons_succ]
            refine wpAnyH_one 4 135 (.pointer (some ⟨g5, 1, none⟩)) hHeld rfl rfl (by kernel_rfl) (fun _ _ _ _ _ h => h) (by kernel_rfl) (by kernel_rfl) (by rfl) ?_ ?_
            · intro V hSw; (try dsimp only at hSw); go_simp
            simp only [Act.put, List.setIfInBounds_toArray, List.set_cons_zero, List.set_cons_succ]
            refine wpAnyH_one 5 136 (.int .i64 m) hHeld rfl rfl (by kernel_rfl) (fun _ _ _ _ _ h => h) (by kernel_rfl) (by kernel_rfl) (by rfl) ?_ ?_
            · intro V hSw; (try dsimp only at hSw); have k0 := (cell_of_heap hSw 1).trans rfl; go_simp
            simp only [Act.put, List.setIfInBounds_toArray, List.set_cons_zero, List.set_cons_succ]
            refine wpAnyH_one 6 137 (.pointer (some ⟨B, m, none⟩)) hHeld rfl rfl (by kernel_rfl) (fun _ _ _ _ _ h => h) (by kernel_rfl) (by kernel_rfl) (by rfl) ?_ ?_
            · intro V hSw; (try dsimp only at hSw); go_simp
            simp only [Act.put, List.setIfInBounds_toArray, List.set_cons_zero, List.set_cons_succ]
            refine wpAnyH_ready (rs := [7]) (by kernel_rfl) (by simp) ?_
            refine AllReadyH.cons rfl (fun K hK => ?_) AllReadyH.nil
            go_simp
            refine hK.out _ _ HX9.out (fun hHeld => ?_)
            clear hK K
            refine wpAnyH_one 8 139 (.slice (some ⟨gm, offm + 1, none⟩) n8 (cm - 1)) hHeld rfl rfl (by kernel_rfl) (fun _ _ _ _ _ h => h) (by kernel_rfl) (by kernel_rfl) (by rfl) ?_ ?_
            · intro V hSw; (try dsimp only at hSw); go_simp
            simp only [Act.put, List.setIfInBounds_toArray, List.set_cons_zero, List.set_cons_succ]
            refine wpAnyH_one 9 140 (.pointer (some ⟨B, m, none⟩)) hHeld rfl rfl (by kernel_rfl) (fun _ _ _ _ _ h => h) (by kernel_rfl) (by kernel_rfl) (by rfl) ?_ ?_
            · intro V hSw; (try dsimp only at hSw); go_simp
            simp only [Act.put, List.setIfInBounds_toArray, List.set_cons_zero, List.set_cons_succ]
            refine wpAnyH_ready (rs := [10]) (by kernel_rfl) (by simp) ?_
            refine AllReadyH.cons rfl (fun K hK => ?_) AllReadyH.nil
            go_simp
            refine hK.out _ _ HXs.out (fun hHeld => ?_)
            clear hK K
            refine wpAnyH_done (by kernel_rfl) ?_ _
            clear hHeld HO2 HT5 HB5 hR HG2 HX5 HX6 HX9 HNE w1' w2' w3' p1 p2 p3
            generalize V0.setCell ⟨B, m, none⟩ (.slice (some ⟨gm, offm + 1, none⟩) n8 (cm - 1)) = W9 at *
            have z0 := (cell_of_heap HXs.out 0).trans rfl
            have z1 := (cell_of_heap HXs.out 1).trans rfl
            have z2 := (cell_of_heap HXs.out 2).trans rfl
            go_upto_region 27 with fail
            go_loopw [143, 11] (fun t u wx => ∃ j : Nat, j ≤ 8 ∧ t = .int .i64 j ∧ u = .int .i64 (sumO L2 j : Nat) ∧ W9 = wx) (fun t _ _ => 8 - (RowKit.intOf t).toNat)
            case atStart => exact ⟨0, by omega, rfl, rfl, rfl⟩
            case round =>
              obtain ⟨j, hj, rfl, rfl, rfl⟩ := hrel
              by_cases hj8 : j < 8
              · obtain ⟨oj, cj, hcj⟩ := HCell.out j hj8
                have hsum := HSum.out (j + 1) (by omega)
                have hse : sumO L2 (j + 1) = sumO L2 j + (L2 j).length := rfl
                have q5 : (0 : Int) ≤ (j : Int) := by omega
                have q6 : (j : Int) < 8 := by omega
                have HS2 := hid hse
                rw [hse] at hsum
                clear hse
                generalize (L2 j).length = LJ at *
                generalize sumO L2 j = SJ at *
                go_wp2
                go_roundw
                case rel => exact ⟨j + 1, by omega, by go_num, by rw [HS2.out]; go_num, trivial⟩
                case measure => simp [RowKit.intOf]; omega
              · have hj9 : j = 8 := by omega
                subst hj9
                have d9 : decide ((8 : Int) < 8) = false := rfl
                go_wp2_with (go_at_call 17; refine HWai.out.mono ?_; rintro e w9 ⟨rfl, HB9⟩)
                go_roundw
                case rel => exact ⟨k + 1, S2, L2, v2, o8, c8, by omega, by go_num, (by rw [HN8.out]), (hid (by rw [HN8.out]; exact HV9.out)), HR2, HBT.out.later HB9.out, HBW.out.trans (HB9.out.mono HBW.out.size)⟩
                case measure => simp [RowKit.intOf]; omega
    · have hkn : k = ls.length := by omega
      subst hkn
      clear HG0 hT HT0
      go_wp2
      go_ret
      exact ⟨rfl, hB.out⟩
end Go.Proofs.Ytnbkoobkfbcabaa
