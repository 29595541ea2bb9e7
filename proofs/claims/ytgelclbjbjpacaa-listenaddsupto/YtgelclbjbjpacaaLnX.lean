/- Listeners that are handed in: opened; what the bound says of them. -/
import Derived.Test.YtgelclbjbjpacaaLnF
import Derived.Test.YtgelclbjbjpacaaRows
import Derived.ProofKit
import Derived.ChangeSlices
import Derived.Deep.Slices
import Derived.Carry
import Derived.OpenShut
namespace Go.Proofs.Ytgelclbjbjpacaa
open Go.RowKit Go.Lib Go.ChangeShapes Go.WideShapes Go.ChangeAt

theorem Try.fLaidOut : laidOutB Try.prog = true := by kernel_rfl
theorem Try.fCellsLst : Try.prog.cellsOf 27 = 8 := by kernel_rfl
theorem Try.fCellsLs : Try.prog.cellsOf 24 = 2 := by kernel_rfl
theorem bulk_of {H : Type} {d : DataW H} : ∀ {l : List (DataW H)}, d ∈ l → Rows.uptoBulk d ≤ Rows.uptoBulkAll l
  | [], h => by cases h
  | x :: r, h => by
    simp only [Rows.uptoBulkAll]
    rcases List.mem_cons.1 h with rfl | h
    · omega
    · have := bulk_of h
      omega
theorem bulk_pos {H : Type} (d : DataW H) : 1 ≤ Rows.uptoBulk d := by
  cases d with
  | lit l => cases l <;> simp [Rows.uptoBulk]
  | nil => simp [Rows.uptoBulk]
  | ptr d => simp [Rows.uptoBulk]
  | slice elems spare => simp [Rows.uptoBulk]
  | agg parts => simp [Rows.uptoBulk]
  | iface t d => simp [Rows.uptoBulk]
  | map entries => simp [Rows.uptoBulk]
  | held h => simp [Rows.uptoBulk]
theorem bulk_many {H : Type} : ∀ l : List (DataW H), l.length ≤ Rows.uptoBulkAll l
  | [] => Nat.zero_le _
  | x :: r => by
    have := bulk_many r
    have := bulk_pos x
    simp only [Rows.uptoBulkAll, List.length_cons]
    omega
theorem addr_at {W : World} {a : Addr} {j : Nat} {v : Value} (h : W.cell? (a.add j) = some v) (hs : a.spot = none) : W.cell? ⟨a.block, a.off + j, none⟩ = some v := by
  unfold Addr.add at h
  by_cases h0 : j = 0
  · subst h0
    rw [if_pos rfl] at h
    obtain ⟨b, o, s⟩ := a
    simp only at hs ⊢
    subst hs
    exact h
  · rw [if_neg h0] at h
    exact h
theorem addr_spot {W : World} {a : Addr} {v : Value} (h : W.cell? (a.add 0) = some v) : a.spot = none := World.cell?_spot (by simpa [Addr.add] using h)
theorem addr_lt {W : World} {b o : Nat} {v : Value} (h : W.cell? ⟨b, o, none⟩ = some v) : b < W.heap.size := by
  by_cases hlt : b < W.heap.size
  · exact hlt
  · have hnone : W.heap[b]? = none := Array.getElem?_eq_none (by omega)
    unfold World.cell? at h
    simp only [hnone] at h
    cases h

theorem list_2 {α : Type} {l : List α} (h : l.length = 2) : ∃ a0 a1, l = [a0, a1] := by
  match l, h with
  | [a0, a1], _ => exact ⟨a0, a1, rfl⟩
theorem list_8 {α : Type} {l : List α} (h : l.length = 8) : ∃ a0 a1 a2 a3 a4 a5 a6 a7, l = [a0, a1, a2, a3, a4, a5, a6, a7] := by
  match l, h with
  | [a0, a1, a2, a3, a4, a5, a6, a7], _ => exact ⟨a0, a1, a2, a3, a4, a5, a6, a7, rfl⟩
section
variable {H : Type} {enc : TypeId × Value → H} {W : World}
theorem field_read {P : Program} {n : Nat} {cs : List Value} {fs : Array Field} {xs : List (DataW H × List MemPlace)} (hf : ∀ (i : Nat) (f : Field), fs[i]? = some f → DataW.trod enc P W 0 (fun _ => true) true n f.type ((cs.drop f.offset).take (P.cellsOf f.type)) = xs[i]?) (i t off : Nat) (h : (fs[i]?).map (fun f => (f.type, f.offset)) = some (t, off)) : DataW.trod enc P W 0 (fun _ => true) true n t ((cs.drop off).take (P.cellsOf t)) = xs[i]? := by
  cases hi : fs[i]? with
  | none => rw [hi] at h; cases h
  | some f =>
    rw [hi] at h
    simp only [Option.map_some, Option.some.injEq, Prod.mk.injEq] at h
    have := hf i f hi
    rw [h.1, h.2] at this
    exact this

instance : Inhabited LstD := ⟨⟨0, 0, ⟨#[]⟩, 0, false, false, 0, 0⟩⟩
set_option maxRecDepth 100000 in
theorem open_lstC {fuel : Nat} {cs : List Value} {x : DataW H × List MemPlace} (h : DataW.trod enc Try.prog W 0 (fun _ => true) true fuel 27 cs = some x) :
    ∃ y : LstD, cs = lstC y ∧ WfL y := by
  obtain ⟨xs, n, _, hx, hl, hxl, hf⟩ := DataW.trod_struct Try.underlying27 h
  rw [Try.fCellsLst] at hl
  simp only [List.size_toArray, List.length_cons, List.length_nil] at hxl
  obtain ⟨v0, v1, v2, v3, v4, v5, v6, v7, rfl⟩ := list_8 hl
  obtain ⟨y0, y1, y2, y3, y4, y5, y6, y7, rfl⟩ := list_8 hxl
  have f0 := field_read hf 0 3 0 rfl
  have f1 := field_read hf 1 3 1 rfl
  have f2 := field_read hf 2 9 2 rfl
  have f3 := field_read hf 3 3 3 rfl
  have f4 := field_read hf 4 4 4 rfl
  have f5 := field_read hf 5 4 5 rfl
  have f6 := field_read hf 6 25 6 rfl
  have f7 := field_read hf 7 3 7 rfl
  clear hf h
  simp only [show Try.prog.cellsOf 3 = 1 by kernel_rfl, show Try.prog.cellsOf 9 = 1 by kernel_rfl, show Try.prog.cellsOf 4 = 1 by kernel_rfl, show Try.prog.cellsOf 25 = 1 by kernel_rfl] at f0 f1 f2 f3 f4 f5 f6 f7
  obtain ⟨k0, e0, _, _⟩ := DataW.trod_int Try.underlying3 f0
  obtain ⟨k1, e1, _, w1⟩ := DataW.trod_int Try.underlying3 f1
  obtain ⟨k2, e2, _, w2⟩ := DataW.trod_string Try.underlying9 f2
  obtain ⟨k3, e3, _, w3⟩ := DataW.trod_int Try.underlying3 f3
  obtain ⟨k4, e4, _⟩ := DataW.trod_bool Try.underlying4 f4
  obtain ⟨k5, e5, _⟩ := DataW.trod_bool Try.underlying4 f5
  obtain ⟨k6, e6, _, w6⟩ := DataW.trod_int Try.underlying25 f6
  obtain ⟨k7, e7, _, _⟩ := DataW.trod_int Try.underlying3 f7
  simp only [List.drop_zero, List.take_succ_cons, List.take_zero, List.drop_succ_cons, List.cons.injEq, and_true] at e0 e1 e2 e3 e4 e5 e6 e7
  have n6 : ((k6.toNat : Nat) : Int) = k6 := by
    simp [Lit.wf, IntKind.min, IntKind.max, IntKind.signed, IntKind.bits] at w6
    omega
  refine ⟨⟨k0, k1, k2, k3, k4, k5, k6.toNat, k7⟩, ?_, ⟨w1, w3, w2⟩⟩
  unfold lstC
  rw [e0, e1, e2, e3, e4, e5, e6, e7]
  simp only [n6]
theorem open_listener {b0 : Nat} {v : Value} {d : DataW H} {p : List MemPlace} (hv : Value.okWide Try.prog W .any b0 27 v) (h : DataW.Trod enc Try.prog W 0 (fun _ => true) true 27 v d p) :
    ∃ y : LstD, v = lstV y ∧ WfL y := by
  have hv2 : ∃ cs, v = .agg cs := by
    unfold Value.okWide at hv
    rw [Try.underlying27] at hv
    obtain ⟨cs, e, hs, _⟩ := hv
    exact ⟨cs, e⟩
  obtain ⟨cs, rfl⟩ := hv2
  obtain ⟨fuel, hf⟩ := h
  obtain ⟨l, rfl⟩ : ∃ l : List Value, cs = l.toArray := ⟨cs.toList, by simp⟩
  obtain ⟨y, e, hw⟩ := open_lstC hf
  have e' : l = lstC y := by simpa [Value.cells] using e
  subst e'
  exact ⟨y, rfl, hw⟩
set_option maxRecDepth 100000 in
theorem open_listeners {b0 : Nat} {v : Value} {d : DataW H} {p : List MemPlace} (hv : Value.okWide Try.prog W .any b0 24 v) (h : DataW.Trod enc Try.prog W 0 (fun _ => true) true 24 v d p) :
    ∃ v0 ls next, v = .agg #[v0, .int .i64 next] ∧ RdL W v0 ls ∧ (∀ x ∈ ls, WfL x) ∧ ls.length ≤ Rows.uptoBulk d := by
  have hv2 : ∃ cs, v = .agg cs := by
    unfold Value.okWide at hv
    rw [Try.underlying24] at hv
    obtain ⟨cs, e, hs, _⟩ := hv
    exact ⟨cs, e⟩
  obtain ⟨cs, rfl⟩ := hv2
  obtain ⟨fuel, hf⟩ := h
  obtain ⟨l, rfl⟩ : ∃ l : List Value, cs = l.toArray := ⟨cs.toList, by simp⟩
  obtain ⟨xs, n, _, hx, hl, hxl, hfs⟩ := DataW.trod_struct Try.underlying24 hf
  rw [Try.fCellsLs] at hl
  simp only [List.size_toArray, List.length_cons, List.length_nil] at hxl
  have hl2 : l.length = 2 := by simpa [Value.cells] using hl
  obtain ⟨v0, v1, rfl⟩ := list_2 hl2
  obtain ⟨y0, y1, rfl⟩ := list_2 hxl
  have f0 := field_read hfs 0 22 0 rfl
  have f1 := field_read hfs 1 3 1 rfl
  simp only [show Try.prog.cellsOf 3 = 1 by kernel_rfl, show Try.prog.cellsOf 22 = 1 by kernel_rfl, Value.cells, List.drop_zero, List.take_succ_cons, List.take_zero, List.drop_succ_cons, List.getElem?_cons_zero, List.getElem?_cons_succ] at f0 f1
  obtain ⟨k1, e1, _, _⟩ := DataW.trod_int Try.underlying3 f1
  simp only [List.cons.injEq, and_true] at e1
  subst e1
  have hxd : d = .agg [y0.1, y1.1] := congrArg Prod.fst hx
  have hbk : Rows.uptoBulk y0.1 ≤ Rows.uptoBulk d := by rw [hxd]; simp only [Rows.uptoBulk, Rows.uptoBulkAll]; omega
  rcases Deep.open_slice Try.underlying22 f0 with ⟨e, _⟩ | ⟨a, len, cap, m, k, D, Pl, e, _, hlc, _, hm, hxx, hcell⟩
  · simp only [List.cons.injEq, and_true] at e
    subst e
    exact ⟨_, [], _, rfl, ⟨none, 0, rfl, Nat.le_refl _, fun h => absurd h (Nat.lt_irrefl _)⟩, fun x hx => (by cases hx), Nat.zero_le _⟩
  · simp only [List.cons.injEq, and_true] at e
    subst e
    have hmc : m = cap := by simpa using hm
    subst hmc
    rw [Try.fCellsLst] at hcell
    obtain ⟨g, hg⟩ := Deep.choose_lt (α := LstD) (n := len) (p := fun i t => (∀ k v, (lstC t)[k]? = some v → W.cell? ((a.add (i * 8)).add k) = some v) ∧ WfL t) (fun i hi => by
      obtain ⟨cs', h1, h2⟩ := hcell i (by omega)
      obtain ⟨t, rfl, hw⟩ := open_lstC h2
      obtain ⟨_, _, h3⟩ := World.cells?_some h1
      refine ⟨t, fun k v hk => ?_, hw⟩
      have hlt : k < 8 := (List.getElem?_eq_some_iff.1 hk).1
      rw [h3 k hlt, hk])
    have hul : ((List.range len).map g).length = len := by simp
    have hge : ∀ (i : Nat) (hi : i < ((List.range len).map g).length), ((List.range len).map g)[i] = g i := fun i hi => by simp
    refine ⟨_, (List.range len).map g, _, rfl, ⟨some a, m, by rw [hul], by rw [hul]; exact hlc, fun hp => ?_⟩, fun x hx => ?_, ?_⟩
    · rw [hul] at hp
      have h0 := (hg 0 hp).1 0 _ rfl
      rw [Nat.zero_mul] at h0
      have e0 : (a.add 0).add 0 = a.add 0 := by simp [Addr.add]
      rw [e0] at h0
      have hs := addr_spot h0
      have hlt := addr_lt (addr_at h0 hs)
      refine ⟨a.block, a.off, ?_, hlt, fun i hi => ?_⟩
      · obtain ⟨b, o, s⟩ := a
        simp only at hs
        subst hs
        rfl
      · rw [hge i hi]
        rw [hul] at hi
        have hc := (hg i hi).1
        have hc2 : ∀ (k : Nat) (v : Value), (lstC (g i))[k]? = some v → W.cell? ⟨a.block, a.off + i * 8 + k, none⟩ = some v := fun k v hk => by
          have h1 := hc k v hk
          rw [Deep.add_add] at h1
          have := addr_at h1 hs
          rw [show a.off + i * 8 + k = a.off + (i * 8 + k) by omega]
          exact this
        exact ⟨hc2 0 _ rfl, hc2 1 _ rfl, hc2 2 _ rfl, hc2 3 _ rfl, hc2 4 _ rfl, hc2 5 _ rfl, hc2 6 _ rfl, hc2 7 _ rfl⟩
    · obtain ⟨i, hi, rfl⟩ := List.mem_map.1 hx
      exact (hg i (List.mem_range.1 hi)).2
    · rw [hul]
      have hm := bulk_many (H := H) ((List.range len).map D)
      simp only [List.length_map, List.length_range] at hm
      refine Nat.le_trans ?_ hbk
      rw [hxx]
      simp only [Rows.uptoBulk]
      omega
theorem open_phase {b0 : Nat} {v : Value} {d : DataW H} {p : List MemPlace} (hv : Value.okWide Try.prog W .any b0 42 v) (h : DataW.Trod enc Try.prog W 0 (fun _ => true) true 42 v d p) :
    ∃ ph : Nat, v = .int .u8 (ph : Int) := by
  obtain ⟨x, rfl, rfl, rfl, w⟩ := open_int Try.underlying42 hv h
  have n0 : ((x.toNat : Nat) : Int) = x := by
    simp [Lit.wf, IntKind.min, IntKind.max, IntKind.signed, IntKind.bits] at w
    omega
  exact ⟨x.toNat, by rw [n0]⟩
end
end Go.Proofs.Ytgelclbjbjpacaa
