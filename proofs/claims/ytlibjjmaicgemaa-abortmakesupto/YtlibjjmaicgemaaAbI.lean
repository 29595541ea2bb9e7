/- Signals that are handed in: opened; what the bound says of them. -/
import Derived.Test.YtlibjjmaicgemaaAbA
import Derived.Test.YtlibjjmaicgemaaAbC
import Derived.Test.YtlibjjmaicgemaaRows
import Derived.ProofKit
import Derived.ChangeSlices
import Derived.Deep.Slices
import Derived.Carry
import Derived.OpenShut
namespace Go.Proofs.Ytlibjjmaicgemaa
open Go.RowKit Go.Lib Go.ChangeShapes Go.WideShapes Go.ChangeAt

theorem Try.fLaidOut : laidOutB Try.prog = true := by kernel_rfl
theorem Try.fCellsInt : Try.prog.cellsOf 3 = 1 := by kernel_rfl
theorem Try.fCellsBool : Try.prog.cellsOf 4 = 1 := by kernel_rfl
theorem Try.fCellsInts : Try.prog.cellsOf 23 = 1 := by kernel_rfl
theorem Try.fCellsSig : Try.prog.cellsOf 42 = 5 := by kernel_rfl

theorem bulk_of {H : Type} {d : DataW H} : ∀ {l : List (DataW H)}, d ∈ l → Rows.uptoBulk d ≤ Rows.uptoBulkAll l
  | [], h => by cases h
  | x :: r, h => by
    simp only [Rows.uptoBulkAll]
    rcases List.mem_cons.1 h with rfl | h
    · omega
    · have := bulk_of h
      omega
theorem bulk_pos {H : Type} (d : DataW H) : 1 ≤ Rows.uptoBulk d := by
  cases d with
  | lit l => cases l <;> simp [Rows.uptoBulk]
  | nil => simp [Rows.uptoBulk]
  | ptr d => simp [Rows.uptoBulk]
  | slice elems spare => simp [Rows.uptoBulk]
  | agg parts => simp [Rows.uptoBulk]
  | iface t d => simp [Rows.uptoBulk]
  | map entries => simp [Rows.uptoBulk]
  | held h => simp [Rows.uptoBulk]
theorem bulk_many {H : Type} : ∀ l : List (DataW H), l.length ≤ Rows.uptoBulkAll l
  | [] => Nat.zero_le _
  | x :: r => by
    have := bulk_many r
    have := bulk_pos x
    simp only [Rows.uptoBulkAll, List.length_cons]
    omega
theorem addr_at {W : World} {a : Addr} {j : Nat} {v : Value} (h : W.cell? (a.add j) = some v) (hs : a.spot = none) : W.cell? ⟨a.block, a.off + j, none⟩ = some v := by
  unfold Addr.add at h
  by_cases h0 : j = 0
  · subst h0
    rw [if_pos rfl] at h
    obtain ⟨b, o, s⟩ := a
    simp only at hs ⊢
    subst hs
    exact h
  · rw [if_neg h0] at h
    exact h
theorem addr_spot {W : World} {a : Addr} {v : Value} (h : W.cell? (a.add 0) = some v) : a.spot = none := World.cell?_spot (by simpa [Addr.add] using h)
theorem addr_lt {W : World} {b o : Nat} {v : Value} (h : W.cell? ⟨b, o, none⟩ = some v) : b < W.heap.size := by
  by_cases hlt : b < W.heap.size
  · exact hlt
  · have hnone : W.heap[b]? = none := Array.getElem?_eq_none (by omega)
    unfold World.cell? at h
    simp only [hnone] at h
    cases h

theorem list_5 {α : Type} {l : List α} (h : l.length = 5) : ∃ a0 a1 a2 a3 a4, l = [a0, a1, a2, a3, a4] := by
  match l, h with
  | [a0, a1, a2, a3, a4], _ => exact ⟨a0, a1, a2, a3, a4, rfl⟩
section
variable {H : Type} {enc : TypeId × Value → H} {W : World}

theorem field_read {P : Program} {n : Nat} {cs : List Value} {fs : Array Field} {xs : List (DataW H × List MemPlace)} (hf : ∀ (i : Nat) (f : Field), fs[i]? = some f → DataW.trod enc P W 0 (fun _ => true) true n f.type ((cs.drop f.offset).take (P.cellsOf f.type)) = xs[i]?) (i t off : Nat) (h : (fs[i]?).map (fun f => (f.type, f.offset)) = some (t, off)) : DataW.trod enc P W 0 (fun _ => true) true n t ((cs.drop off).take (P.cellsOf t)) = xs[i]? := by
  cases hi : fs[i]? with
  | none => rw [hi] at h; cases h
  | some f =>
    rw [hi] at h
    simp only [Option.map_some, Option.some.injEq, Prod.mk.injEq] at h
    have := hf i f hi
    rw [h.1, h.2] at this
    exact this

theorem open_rdI {fuel : Nat} {cs : List Value} {x : DataW H × List MemPlace} (h : DataW.trod enc Try.prog W 0 (fun _ => true) true fuel 23 cs = some x) :
    ∃ v l, cs = [v] ∧ RdI W v l ∧ l.length ≤ Rows.uptoBulk x.1 := by
  rcases open_ints Try.underlying23 Try.underlying3 Try.fCellsInt h with ⟨rfl, _⟩ | ⟨a, len, cap, zs, rfl, _, hl, _, hz, hx, hcell, _⟩
  · exact ⟨_, [], rfl, ⟨none, 0, rfl, Nat.le_refl _, fun h => absurd h (Nat.lt_irrefl _)⟩, Nat.zero_le _⟩
  · have hz' : zs.length = cap := by simpa using hz
    have hul : (zs.take len).length = len := by rw [List.length_take]; omega
    refine ⟨_, zs.take len, rfl, ⟨some a, cap, by rw [hul], by omega, fun hp => ?_⟩, ?_⟩
    · rw [hul] at hp
      have hs := addr_spot (hcell 0 (by omega))
      have hc : ∀ (j : Nat) (h : j < (zs.take len).length), W.cell? ⟨a.block, a.off + j, none⟩ = some (.int .i64 (zs.take len)[j]) := fun j hj => by
        rw [hul] at hj
        have hjz : j < zs.length := by omega
        rw [addr_at (hcell j hjz) hs]
        simp [List.getD, hjz]
      refine ⟨a.block, a.off, ?_, addr_lt (hc 0 (by omega)), hc⟩
      obtain ⟨b, o, s⟩ := a
      simp only at hs
      subst hs
      rfl
    · rw [hx, hul]
      have hm := bulk_many (H := H) (lits .i64 (zs.take len))
      have hll : (lits (H := H) .i64 (zs.take len)).length = len := by unfold lits; rw [List.length_map, hul]
      simp only [Rows.uptoBulk]
      omega
theorem open_nums {b0 : Nat} {v : Value} {d : DataW H} {p : List MemPlace} (hv : Value.okWide Try.prog W .any b0 23 v) (h : DataW.Trod enc Try.prog W 0 (fun _ => true) true 23 v d p) :
    ∃ l, RdI W v l ∧ l.length ≤ Rows.uptoBulk d := by
  obtain ⟨a0, len, cap, rfl⟩ := okWide_slice Try.underlying23 hv
  obtain ⟨fuel, hf⟩ := h
  obtain ⟨v', l, e, hr, hb⟩ := open_rdI hf
  have e' : Value.slice a0 len cap = v' := by simpa [Value.cells] using e
  subst e'
  exact ⟨l, hr, hb⟩
def sigOC (x : SigD) (sv dv : Value) : List Value := [.bool x.ab, .int .i64 x.re, .bool x.dep, sv, dv]
instance : Inhabited SigD := ⟨⟨false, 0, false, [], []⟩⟩
set_option maxRecDepth 100000 in
theorem open_sigC {fuel : Nat} {cs : List Value} {x : DataW H × List MemPlace} (h : DataW.trod enc Try.prog W 0 (fun _ => true) true fuel 42 cs = some x) :
    ∃ (y : SigD) (sv dv : Value), cs = sigOC y sv dv ∧ RdI W sv y.src ∧ RdI W dv y.dts ∧ y.src.length ≤ Rows.uptoBulk x.1 ∧ y.dts.length ≤ Rows.uptoBulk x.1 := by
  obtain ⟨xs, n, _, hx, hl, hxl, hf⟩ := DataW.trod_struct Try.underlying42 h
  rw [Try.fCellsSig] at hl
  simp only [List.size_toArray, List.length_cons, List.length_nil] at hxl
  obtain ⟨v0, v1, v2, v3, v4, rfl⟩ := list_5 hl
  obtain ⟨y0, y1, y2, y3, y4, rfl⟩ := list_5 hxl
  have f0 := field_read hf 0 4 0 rfl
  have f1 := field_read hf 1 3 1 rfl
  have f2 := field_read hf 2 4 2 rfl
  have f3 := field_read hf 3 23 3 rfl
  have f4 := field_read hf 4 23 4 rfl
  clear hf h
  simp only [Try.fCellsInt, Try.fCellsBool, Try.fCellsInts, List.drop_zero, List.take_succ_cons, List.take_zero, List.drop_succ_cons, List.getElem?_cons_zero, List.getElem?_cons_succ] at f0 f1 f2 f3 f4
  obtain ⟨k0, e0, _⟩ := DataW.trod_bool Try.underlying4 f0
  obtain ⟨k1, e1, _, _⟩ := DataW.trod_int Try.underlying3 f1
  obtain ⟨k2, e2, _⟩ := DataW.trod_bool Try.underlying4 f2
  obtain ⟨u3, l3, e3, r3, b3⟩ := open_rdI f3
  obtain ⟨u4, l4, e4, r4, b4⟩ := open_rdI f4
  simp only [List.cons.injEq, and_true] at e0 e1 e2 e3 e4
  subst e0 e1 e2 e3 e4
  have hxd : x.1 = .agg [y0.1, y1.1, y2.1, y3.1, y4.1] := congrArg Prod.fst hx
  refine ⟨⟨k0, k1, k2, l3, l4⟩, _, _, rfl, r3, r4, ?_, ?_⟩
  · rw [hxd]; simp only [Rows.uptoBulk, Rows.uptoBulkAll]; omega
  · rw [hxd]; simp only [Rows.uptoBulk, Rows.uptoBulkAll]; omega
set_option maxRecDepth 100000 in
theorem open_signals {b0 : Nat} {v : Value} {d : DataW H} {p : List MemPlace} (hv : Value.okWide Try.prog W .any b0 22 v) (h : DataW.Trod enc Try.prog W 0 (fun _ => true) true 22 v d p) :
    ∃ ls, RdS W v ls ∧ (∀ x ∈ ls, x.src.length ≤ Rows.uptoBulk d ∧ x.dts.length ≤ Rows.uptoBulk d) ∧ ls.length ≤ Rows.uptoBulk d := by
  obtain ⟨a0, len, cap, rfl⟩ := okWide_slice Try.underlying22 hv
  obtain ⟨fuel, hf⟩ := h
  rcases Deep.open_slice Try.underlying22 hf with ⟨e, _⟩ | ⟨a, len1, cap1, m, k, D, Pl, e, _, hlc, _, hm, hxx, hcell⟩
  · have e' : Value.slice a0 len cap = .slice none 0 0 := by simpa [Value.cells] using e
    cases e'
    exact ⟨[], RdS.nil _, fun x hx => (by cases hx), Nat.zero_le _⟩
  · have e' : Value.slice a0 len cap = .slice (some a) len1 cap1 := by simpa [Value.cells] using e
    cases e'
    have hmc : m = cap := by simpa using hm
    subst hmc
    rw [Try.fCellsSig] at hcell
    have hdd := congrArg Prod.fst hxx
    have hbd : ∀ i, i < len → Rows.uptoBulk (D i) ≤ Rows.uptoBulk d := fun i hi => by
      have := bulk_of (List.mem_map.2 ⟨i, List.mem_range.2 hi, rfl⟩ : D i ∈ (List.range len).map D)
      dsimp only at hdd
      rw [hdd]
      simp only [Rows.uptoBulk]
      omega
    obtain ⟨g, hg⟩ := Deep.choose_lt (α := SigD × Value × Value) (n := len) (p := fun i t => (∀ k v, (sigOC t.1 t.2.1 t.2.2)[k]? = some v → W.cell? ((a.add (i * 5)).add k) = some v) ∧ RdI W t.2.1 t.1.src ∧ RdI W t.2.2 t.1.dts ∧ t.1.src.length ≤ Rows.uptoBulk (D i) ∧ t.1.dts.length ≤ Rows.uptoBulk (D i)) (fun i hi => by
      obtain ⟨cs', h1, h2⟩ := hcell i (by omega)
      obtain ⟨t, sv, dv, rfl, r1, r2, b1, b2⟩ := open_sigC h2
      obtain ⟨_, _, h3⟩ := World.cells?_some h1
      refine ⟨(t, sv, dv), fun k v hk => ?_, r1, r2, b1, b2⟩
      have hlt : k < 5 := (List.getElem?_eq_some_iff.1 hk).1
      rw [h3 k hlt, hk])
    have hul : ((List.range len).map (fun i => (g i).1)).length = len := by simp
    have hge : ∀ (i : Nat) (hi : i < ((List.range len).map (fun i => (g i).1)).length), ((List.range len).map (fun i => (g i).1))[i] = (g i).1 := fun i hi => by simp
    refine ⟨(List.range len).map (fun i => (g i).1), ⟨some a, m, by rw [hul], by rw [hul]; exact hlc, fun hp => ?_⟩, fun x hx => ?_, ?_⟩
    · rw [hul] at hp
      have h0 := (hg 0 hp).1 0 _ rfl
      rw [Nat.zero_mul] at h0
      have e0 : (a.add 0).add 0 = a.add 0 := by simp [Addr.add]
      rw [e0] at h0
      have hs := addr_spot h0
      have hlt := addr_lt (addr_at h0 hs)
      refine ⟨a.block, a.off, ?_, hlt, fun i hi => ?_⟩
      · obtain ⟨b, o, s⟩ := a
        simp only at hs
        subst hs
        rfl
      · rw [hge i hi]
        rw [hul] at hi
        obtain ⟨hc, r1, r2, _, _⟩ := hg i hi
        have hc2 : ∀ (k : Nat) (v : Value), (sigOC (g i).1 (g i).2.1 (g i).2.2)[k]? = some v → W.cell? ⟨a.block, a.off + i * 5 + k, none⟩ = some v := fun k v hk => by
          have h1 := hc k v hk
          rw [Deep.add_add] at h1
          have := addr_at h1 hs
          rw [show a.off + i * 5 + k = a.off + (i * 5 + k) by omega]
          exact this
        exact ⟨(g i).2.1, (g i).2.2, ⟨hc2 0 _ rfl, hc2 1 _ rfl, hc2 2 _ rfl, hc2 3 _ rfl, hc2 4 _ rfl⟩, r1, r2⟩
    · obtain ⟨i, hi, rfl⟩ := List.mem_map.1 hx
      obtain ⟨_, _, _, b1, b2⟩ := hg i (List.mem_range.1 hi)
      have := hbd i (List.mem_range.1 hi)
      exact ⟨Nat.le_trans b1 this, Nat.le_trans b2 this⟩
    · rw [hul]
      have hm := bulk_many (H := H) ((List.range len).map D)
      simp only [List.length_map, List.length_range] at hm
      dsimp only at hdd
      rw [hdd]
      simp only [Rows.uptoBulk]
      omega
end
end Go.Proofs.Ytlibjjmaicgemaa
