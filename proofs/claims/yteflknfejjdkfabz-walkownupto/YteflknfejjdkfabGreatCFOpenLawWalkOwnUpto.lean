/- Where the arguments hold at most 1048576 values and letters the law WalkOwn answers true: answers are new memory. -/
/- Forests that are handed in: opened; what the bound says of them. -/
/- Filters and walkers that are handed in: opened. -/
/- Two walkers that are one (canopyref13.Same). -/
/- What is appended to an empty row of one's own. -/
/- Answers are new memory (WalkOwn). -/
/- Every walk all the way reaches what the reference says (WalkAlls). -/
/- Answers are new memory (WalkOwn): the law. -/
import Derived.Test.YteflknfejjdkfabGreatFSurW
import Derived.Test.YteflknfejjdkfabGreatRows
import Derived.ProofKit
import Derived.ChangeSlices
import Derived.Deep.Slices
import Derived.Carry
import Derived.OpenShut
import Derived.Test.YteflknfejjdkfabGreatCFWkPFWkS
import Derived.Test.YteflknfejjdkfabGreatCFUpFList
import Derived.Deep.Upon
import Derived.Lib.AppendZeros
import Derived.Test.YteflknfejjdkfabGreatCFWk3FWm5
import Derived.Test.YteflknfejjdkfabGreatCFWkGFWkN
import Derived.Lib.Builder
import Derived.Test.YteflknfejjdkfabGreatCFWkTFWk1
import Derived.Test.YteflknfejjdkfabGreatCFWk2
import Derived.Test.YteflknfejjdkfabGreatCFWkXFWkY
import Derived.JoinedCond
namespace Go.Proofs.YteflknfejjdkfabGreat
open Go.RowKit Go.Lib Go.ChangeShapes Go.WideShapes Go.ChangeAt

theorem Tryz.fLaidOut : laidOutB Tryz.prog = true := by kernel_rfl
theorem Tryz.fCellsInt : Tryz.prog.cellsOf 3 = 1 := by kernel_rfl
theorem Tryz.fCellsU16 : Tryz.prog.cellsOf 145 = 1 := by kernel_rfl
theorem Tryz.fCellsAttr : Tryz.prog.cellsOf 120 = 4 := by kernel_rfl
theorem Tryz.fCellsNode : Tryz.prog.cellsOf 68 = 16 := by kernel_rfl
theorem Tryz.fCellsName : Tryz.prog.cellsOf 62 = 3 := by kernel_rfl
theorem Tryz.fCellsForest : Tryz.prog.cellsOf 24 = 1 := by kernel_rfl

theorem bulk_of {H : Type} {d : DataW H} : ∀ {l : List (DataW H)}, d ∈ l → Rows.uptoBulk d ≤ Rows.uptoBulkAll l
  | [], h => by cases h
  | x :: r, h => by
    simp only [Rows.uptoBulkAll]
    rcases List.mem_cons.1 h with rfl | h
    · omega
    · have := bulk_of h
      omega
theorem bulk_pos {H : Type} (d : DataW H) : 1 ≤ Rows.uptoBulk d := by
  cases d with
  | lit l => cases l <;> simp [Rows.uptoBulk]
  | nil => simp [Rows.uptoBulk]
  | ptr d => simp [Rows.uptoBulk]
  | slice elems spare => simp [Rows.uptoBulk]
  | agg parts => simp [Rows.uptoBulk]
  | iface t d => simp [Rows.uptoBulk]
  | map entries => simp [Rows.uptoBulk]
  | held h => simp [Rows.uptoBulk]
theorem bulk_many {H : Type} : ∀ l : List (DataW H), l.length ≤ Rows.uptoBulkAll l
  | [] => Nat.zero_le _
  | x :: r => by
    have := bulk_many r
    have := bulk_pos x
    simp only [Rows.uptoBulkAll, List.length_cons]
    omega
theorem addr_at {W : World} {a : Addr} {j : Nat} {v : Value} (h : W.cell? (a.add j) = some v) (hs : a.spot = none) : W.cell? ⟨a.block, a.off + j, none⟩ = some v := by
  unfold Addr.add at h
  by_cases h0 : j = 0
  · subst h0
    rw [if_pos rfl] at h
    obtain ⟨b, o, s⟩ := a
    simp only at hs ⊢
    subst hs
    exact h
  · rw [if_neg h0] at h
    exact h
theorem addr_spot {W : World} {a : Addr} {v : Value} (h : W.cell? (a.add 0) = some v) : a.spot = none := World.cell?_spot (by simpa [Addr.add] using h)
theorem addr_lt {W : World} {b o : Nat} {v : Value} (h : W.cell? ⟨b, o, none⟩ = some v) : b < W.heap.size := by
  by_cases hlt : b < W.heap.size
  · exact hlt
  · have hnone : W.heap[b]? = none := Array.getElem?_eq_none (by omega)
    unfold World.cell? at h
    simp only [hnone] at h
    cases h

theorem list_1 {α : Type} {l : List α} (h : l.length = 1) : ∃ a0, l = [a0] := by
  match l, h with
  | [a0], _ => exact ⟨a0, rfl⟩
theorem list_2 {α : Type} {l : List α} (h : l.length = 2) : ∃ a0 a1, l = [a0, a1] := by
  match l, h with
  | [a0, a1], _ => exact ⟨a0, a1, rfl⟩
theorem list_3 {α : Type} {l : List α} (h : l.length = 3) : ∃ a0 a1 a2, l = [a0, a1, a2] := by
  match l, h with
  | [a0, a1, a2], _ => exact ⟨a0, a1, a2, rfl⟩
theorem list_4 {α : Type} {l : List α} (h : l.length = 4) : ∃ a0 a1 a2 a3, l = [a0, a1, a2, a3] := by
  match l, h with
  | [a0, a1, a2, a3], _ => exact ⟨a0, a1, a2, a3, rfl⟩
theorem list_14 {α : Type} {l : List α} (h : l.length = 14) : ∃ a0 a1 a2 a3 a4 a5 a6 a7 a8 a9 a10 a11 a12 a13, l = [a0, a1, a2, a3, a4, a5, a6, a7, a8, a9, a10, a11, a12, a13] := by
  match l, h with
  | [a0, a1, a2, a3, a4, a5, a6, a7, a8, a9, a10, a11, a12, a13], _ => exact ⟨a0, a1, a2, a3, a4, a5, a6, a7, a8, a9, a10, a11, a12, a13, rfl⟩
theorem list_16 {α : Type} {l : List α} (h : l.length = 16) : ∃ a0 a1 a2 a3 a4 a5 a6 a7 a8 a9 a10 a11 a12 a13 a14 a15, l = [a0, a1, a2, a3, a4, a5, a6, a7, a8, a9, a10, a11, a12, a13, a14, a15] := by
  match l, h with
  | [a0, a1, a2, a3, a4, a5, a6, a7, a8, a9, a10, a11, a12, a13, a14, a15], _ => exact ⟨a0, a1, a2, a3, a4, a5, a6, a7, a8, a9, a10, a11, a12, a13, a14, a15, rfl⟩

section
variable {H : Type} {enc : TypeId × Value → H} {W : World}

theorem field_read {P : Program} {n : Nat} {cs : List Value} {fs : Array Field} {xs : List (DataW H × List MemPlace)} (hf : ∀ (i : Nat) (f : Field), fs[i]? = some f → DataW.trod enc P W 0 (fun _ => true) true n f.type ((cs.drop f.offset).take (P.cellsOf f.type)) = xs[i]?) (i t off : Nat) (h : (fs[i]?).map (fun f => (f.type, f.offset)) = some (t, off)) : DataW.trod enc P W 0 (fun _ => true) true n t ((cs.drop off).take (P.cellsOf t)) = xs[i]? := by
  cases hi : fs[i]? with
  | none => rw [hi] at h; cases h
  | some f =>
    rw [hi] at h
    simp only [Option.map_some, Option.some.injEq, Prod.mk.injEq] at h
    have := hf i f hi
    rw [h.1, h.2] at this
    exact this

theorem open_rdI {fuel : Nat} {cs : List Value} {x : DataW H × List MemPlace} (h : DataW.trod enc Tryz.prog W 0 (fun _ => true) true fuel 40 cs = some x) :
    ∃ v l, cs = [v] ∧ RdI W v l ∧ l.length ≤ Rows.uptoBulk x.1 := by
  rcases open_ints Tryz.underlying40 Tryz.underlying3 Tryz.fCellsInt h with ⟨rfl, _⟩ | ⟨a, len, cap, zs, rfl, _, hl, _, hz, hx, hcell, _⟩
  · exact ⟨_, [], rfl, ⟨none, 0, rfl, Nat.le_refl _, fun h => absurd h (Nat.lt_irrefl _)⟩, Nat.zero_le _⟩
  · have hz' : zs.length = cap := by simpa using hz
    have hul : (zs.take len).length = len := by rw [List.length_take]; omega
    refine ⟨_, zs.take len, rfl, ⟨some a, cap, by rw [hul], by omega, fun hp => ?_⟩, ?_⟩
    · rw [hul] at hp
      have hs := addr_spot (hcell 0 (by omega))
      have hc : ∀ (j : Nat) (h : j < (zs.take len).length), W.cell? ⟨a.block, a.off + j, none⟩ = some (.int .i64 (zs.take len)[j]) := fun j hj => by
        rw [hul] at hj
        have hjz : j < zs.length := by omega
        rw [addr_at (hcell j hjz) hs]
        simp [List.getD, hjz]
      refine ⟨a.block, a.off, ?_, addr_lt (hc 0 (by omega)), hc⟩
      obtain ⟨b, o, s⟩ := a
      simp only at hs
      subst hs
      rfl
    · rw [hx, hul]
      have hm := bulk_many (H := H) (lits .i64 (zs.take len))
      have hll : (lits (H := H) .i64 (zs.take len)).length = len := by unfold lits; rw [List.length_map, hul]
      simp only [Rows.uptoBulk]
      omega
theorem open_rdN {fuel : Nat} {cs : List Value} {x : DataW H × List MemPlace} (h : DataW.trod enc Tryz.prog W 0 (fun _ => true) true fuel 64 cs = some x) :
    ∃ v l, cs = [v] ∧ RdN W v l ∧ l.length ≤ Rows.uptoBulk x.1 := by
  rcases open_ints Tryz.underlying64 Tryz.underlying145 Tryz.fCellsU16 h with ⟨rfl, _⟩ | ⟨a, len, cap, zs, rfl, _, hl, _, hz, hx, hcell, hwz⟩
  · exact ⟨_, [], rfl, ⟨none, 0, rfl, Nat.le_refl _, fun h => absurd h (Nat.lt_irrefl _)⟩, Nat.zero_le _⟩
  · have hz' : zs.length = cap := by simpa using hz
    have hul : ((zs.take len).map Int.toNat).length = len := by rw [List.length_map, List.length_take]; omega
    refine ⟨_, (zs.take len).map Int.toNat, rfl, ⟨some a, cap, by rw [hul], by omega, fun hp => ?_⟩, ?_⟩
    · rw [hul] at hp
      have hs := addr_spot (hcell 0 (by omega))
      have hc : ∀ (j : Nat) (h : j < ((zs.take len).map Int.toNat).length), W.cell? ⟨a.block, a.off + j, none⟩ = some (.int .u16 (((zs.take len).map Int.toNat)[j] : Int)) := fun j hj => by
        rw [hul] at hj
        have hjz : j < zs.length := by omega
        have hw := hwz zs[j] (List.getElem_mem hjz)
        have hnn : 0 ≤ zs[j] := by
          simp [Lit.wf, IntKind.min, IntKind.max, IntKind.signed, IntKind.bits] at hw
          omega
        rw [addr_at (hcell j hjz) hs]
        simp [List.getD, hjz]
        omega
      refine ⟨a.block, a.off, ?_, addr_lt (hc 0 (by omega)), hc⟩
      obtain ⟨b, o, s⟩ := a
      simp only at hs
      subst hs
      rfl
    · rw [hx, hul]
      have hm := bulk_many (H := H) (lits .u16 (zs.take len))
      have hll : (lits (H := H) .u16 (zs.take len)).length = len := by unfold lits; rw [List.length_map, List.length_take]; omega
      simp only [Rows.uptoBulk]
      omega
instance : Inhabited AttrD := ⟨⟨⟨#[]⟩, ⟨#[]⟩, ⟨#[]⟩, ⟨#[]⟩⟩⟩
instance : Inhabited NodeD := ⟨⟨0, ⟨#[]⟩, ⟨#[]⟩, ⟨#[]⟩, ⟨#[]⟩, ⟨#[]⟩, [], [], 0, [], 0, 0, 0, 0, false, false⟩⟩

theorem open_name {fuel : Nat} {cs : List Value} {x : DataW H × List MemPlace} (h : DataW.trod enc Tryz.prog W 0 (fun _ => true) true fuel 62 cs = some x) :
    ∃ a b c, cs = [.string a, .string b, .string c] := by
  obtain ⟨xs, n, _, _, hl, hxl, hf⟩ := DataW.trod_struct Tryz.underlying62 h
  rw [Tryz.fCellsName] at hl
  simp only [List.size_toArray, List.length_cons, List.length_nil] at hxl
  obtain ⟨v0, v1, v2, rfl⟩ := list_3 hl
  obtain ⟨y0, y1, y2, rfl⟩ := list_3 hxl
  have f0 := field_read hf 0 9 0 rfl
  have f1 := field_read hf 1 9 1 rfl
  have f2 := field_read hf 2 9 2 rfl
  simp only [show Tryz.prog.cellsOf 9 = 1 by kernel_rfl] at f0 f1 f2
  obtain ⟨s0, e0, _⟩ := DataW.trod_string Tryz.underlying9 f0
  obtain ⟨s1, e1, _⟩ := DataW.trod_string Tryz.underlying9 f1
  obtain ⟨s2, e2, _⟩ := DataW.trod_string Tryz.underlying9 f2
  simp only [List.drop_zero, List.take_succ_cons, List.take_zero, List.drop_succ_cons, List.cons.injEq, and_true] at e0 e1 e2
  exact ⟨s0, s1, s2, by rw [e0, e1, e2]⟩
theorem open_attr {fuel : Nat} {cs : List Value} {x : DataW H × List MemPlace} (h : DataW.trod enc Tryz.prog W 0 (fun _ => true) true fuel 120 cs = some x) :
    ∃ a : AttrD, cs = [.string a.space, .string a.pre, .string a.loc, .string a.val] := by
  obtain ⟨xs, n, _, _, hl, hxl, hf⟩ := DataW.trod_struct Tryz.underlying120 h
  rw [Tryz.fCellsAttr] at hl
  simp only [List.size_toArray, List.length_cons, List.length_nil] at hxl
  obtain ⟨v0, v1, v2, v3, rfl⟩ := list_4 hl
  obtain ⟨y0, y1, rfl⟩ := list_2 hxl
  have f0 := field_read hf 0 62 0 rfl
  have f1 := field_read hf 1 9 3 rfl
  simp only [Tryz.fCellsName, show Tryz.prog.cellsOf 9 = 1 by kernel_rfl] at f0 f1
  obtain ⟨a, b, c, e0⟩ := open_name f0
  obtain ⟨s1, e1, _⟩ := DataW.trod_string Tryz.underlying9 f1
  simp only [List.drop_zero, List.take_succ_cons, List.take_zero, List.drop_succ_cons, List.cons.injEq, and_true] at e0 e1
  exact ⟨⟨a, b, c, s1⟩, by rw [e0.1, e0.2.1, e0.2.2, e1]⟩
theorem open_rdA {fuel : Nat} {cs : List Value} {x : DataW H × List MemPlace} (h : DataW.trod enc Tryz.prog W 0 (fun _ => true) true fuel 65 cs = some x) :
    ∃ v l, cs = [v] ∧ RdA W v l ∧ l.length ≤ Rows.uptoBulk x.1 := by
  rcases Deep.open_slice Tryz.underlying65 h with ⟨rfl, _⟩ | ⟨a, len, cap, m, n, D, Pl, rfl, _, hl, _, hm, hx, hcell⟩
  · exact ⟨_, [], rfl, ⟨none, 0, rfl, Nat.le_refl _, fun h => absurd h (Nat.lt_irrefl _)⟩, Nat.zero_le _⟩
  · have hmc : m = cap := by simpa using hm
    subst hmc
    rw [Tryz.fCellsAttr] at hcell
    obtain ⟨f, hf⟩ := Deep.choose_lt (α := AttrD) (n := len) (p := fun i t => ∀ k v, [Value.string t.space, .string t.pre, .string t.loc, .string t.val][k]? = some v → W.cell? ((a.add (i * 4)).add k) = some v) (fun i hi => by
      obtain ⟨cs', h1, h2⟩ := hcell i (by omega)
      obtain ⟨t, rfl⟩ := open_attr h2
      obtain ⟨_, _, h3⟩ := World.cells?_some h1
      refine ⟨t, fun k v hk => ?_⟩
      have hlt : k < 4 := (List.getElem?_eq_some_iff.1 hk).1
      rw [h3 k hlt, hk])
    have hul : ((List.range len).map f).length = len := by simp
    refine ⟨_, (List.range len).map f, rfl, ⟨some a, m, by rw [hul], by omega, fun hp => ?_⟩, ?_⟩
    · rw [hul] at hp
      have h0 := hf 0 hp 0 _ rfl
      rw [Nat.zero_mul] at h0
      have e0 : (a.add 0).add 0 = a.add 0 := by simp [Addr.add]
      rw [e0] at h0
      have hs := addr_spot h0
      have hc : ∀ (j k : Nat) (v : Value), j < len → [Value.string (f j).space, .string (f j).pre, .string (f j).loc, .string (f j).val][k]? = some v → W.cell? ⟨a.block, a.off + j * 4 + k, none⟩ = some v := fun j k v hj hk => by
        have h1 := hf j hj k v hk
        rw [Deep.add_add] at h1
        have := addr_at h1 hs
        rw [show a.off + j * 4 + k = a.off + (j * 4 + k) by omega]
        exact this
      refine ⟨a.block, a.off, ?_, addr_lt (hc 0 0 _ hp rfl), fun j hj => ?_⟩
      · obtain ⟨b, o, s⟩ := a
        simp only at hs
        subst hs
        rfl
      · rw [hul] at hj
        have e : ((List.range len).map f)[j]'(by rw [hul]; exact hj) = f j := by simp
        rw [e]
        exact ⟨hc j 0 _ hj rfl, hc j 1 _ hj rfl, hc j 2 _ hj rfl, hc j 3 _ hj rfl⟩
    · rw [hx, hul]
      have hm := bulk_many (H := H) ((List.range len).map D)
      simp only [List.length_map, List.length_range] at hm
      simp only [Rows.uptoBulk]
      omega
set_option maxRecDepth 100000 in
/-- A node that is read. -/
theorem open_node {fuel : Nat} {cs : List Value} {x : DataW H × List MemPlace} (h : DataW.trod enc Tryz.prog W 0 (fun _ => true) true fuel 68 cs = some x) :
    ∃ (n : NodeD) (L : Lists), cs = [.int .u8 (n.kind : Int), .string n.space, .string n.pre, .string n.loc, .string n.pub, .string n.sys, L.data, L.attrs, .int .i64 n.parent, L.kids, .int .i64 n.doc, .int .i64 n.host, .int .i64 n.shadow, .int .u8 (n.mode : Int), .bool n.manual, .bool n.html] ∧
      RdN W L.data n.data ∧ RdA W L.attrs n.attrs ∧ RdI W L.kids n.kids ∧ n.kids.length ≤ Rows.uptoBulk x.1 ∧ n.attrs.length ≤ Rows.uptoBulk x.1 ∧ n.data.length ≤ Rows.uptoBulk x.1 := by
  obtain ⟨xs, n, _, hx, hl, hxl, hf⟩ := DataW.trod_struct Tryz.underlying68 h
  rw [Tryz.fCellsNode] at hl
  simp only [List.size_toArray, List.length_cons, List.length_nil] at hxl
  obtain ⟨v0, v1, v2, v3, v4, v5, v6, v7, v8, v9, v10, v11, v12, v13, v14, v15, rfl⟩ := list_16 hl
  obtain ⟨y0, y1, y2, y3, y4, y5, y6, y7, y8, y9, y10, y11, y12, y13, rfl⟩ := list_14 hxl
  have f0 := field_read hf 0 36 0 rfl
  have f1 := field_read hf 1 62 1 rfl
  have f2 := field_read hf 2 9 4 rfl
  have f3 := field_read hf 3 9 5 rfl
  have f4 := field_read hf 4 64 6 rfl
  have f5 := field_read hf 5 65 7 rfl
  have f6 := field_read hf 6 3 8 rfl
  have f7 := field_read hf 7 40 9 rfl
  have f8 := field_read hf 8 3 10 rfl
  have f9 := field_read hf 9 3 11 rfl
  have f10 := field_read hf 10 3 12 rfl
  have f11 := field_read hf 11 66 13 rfl
  have f12 := field_read hf 12 4 14 rfl
  have f13 := field_read hf 13 4 15 rfl
  clear hf h
  simp only [Tryz.fCellsName, Tryz.fCellsInt, show Tryz.prog.cellsOf 9 = 1 by kernel_rfl, show Tryz.prog.cellsOf 4 = 1 by kernel_rfl, show Tryz.prog.cellsOf 36 = 1 by kernel_rfl, show Tryz.prog.cellsOf 66 = 1 by kernel_rfl, show Tryz.prog.cellsOf 64 = 1 by kernel_rfl, show Tryz.prog.cellsOf 65 = 1 by kernel_rfl, show Tryz.prog.cellsOf 40 = 1 by kernel_rfl] at f0 f1 f2 f3 f4 f5 f6 f7 f8 f9 f10 f11 f12 f13
  obtain ⟨k0, e0, _, w0⟩ := DataW.trod_int Tryz.underlying36 f0
  obtain ⟨s1, s2, s3, e1⟩ := open_name f1
  obtain ⟨s4, e2, _⟩ := DataW.trod_string Tryz.underlying9 f2
  obtain ⟨s5, e3, _⟩ := DataW.trod_string Tryz.underlying9 f3
  obtain ⟨vd, ld, e4, r4, b4⟩ := open_rdN f4
  obtain ⟨va, la, e5, r5, b5⟩ := open_rdA f5
  obtain ⟨k6, e6, _⟩ := DataW.trod_int Tryz.underlying3 f6
  obtain ⟨vk, lk, e7, r7, b7⟩ := open_rdI f7
  obtain ⟨k8, e8, _⟩ := DataW.trod_int Tryz.underlying3 f8
  obtain ⟨k9, e9, _⟩ := DataW.trod_int Tryz.underlying3 f9
  obtain ⟨k10, e10, _⟩ := DataW.trod_int Tryz.underlying3 f10
  obtain ⟨k11, e11, _, w11⟩ := DataW.trod_int Tryz.underlying66 f11
  obtain ⟨m12, e12, _⟩ := DataW.trod_bool Tryz.underlying4 f12
  obtain ⟨m13, e13, _⟩ := DataW.trod_bool Tryz.underlying4 f13
  simp only [List.drop_zero, List.take_succ_cons, List.take_zero, List.drop_succ_cons, List.cons.injEq, and_true] at e0 e1 e2 e3 e4 e5 e6 e7 e8 e9 e10 e11 e12 e13
  have n0 : ((k0.toNat : Nat) : Int) = k0 := by
    simp [Lit.wf, IntKind.min, IntKind.max, IntKind.signed, IntKind.bits] at w0
    omega
  have n11 : ((k11.toNat : Nat) : Int) = k11 := by
    simp [Lit.wf, IntKind.min, IntKind.max, IntKind.signed, IntKind.bits] at w11
    omega
  refine ⟨⟨k0.toNat, s1, s2, s3, s4, s5, ld, la, k6, lk, k8, k9, k10, k11.toNat, m12, m13⟩, ⟨vd, va, vk⟩, ?_, r4, r5, r7, ?_, ?_, ?_⟩
  · rw [e0, e1.1, e1.2.1, e1.2.2, e2, e3, e4, e5, e6, e7, e8, e9, e10, e11, e12, e13]
    simp only [n0, n11]
  · rw [hx]
    have := bulk_of (d := y7.1) (l := [y0, y1, y2, y3, y4, y5, y6, y7, y8, y9, y10, y11, y12, y13].map (·.1)) (by simp)
    simp only [Rows.uptoBulk] at this ⊢
    exact Nat.le_trans b7 (by omega)
  · rw [hx]
    have := bulk_of (d := y5.1) (l := [y0, y1, y2, y3, y4, y5, y6, y7, y8, y9, y10, y11, y12, y13].map (·.1)) (by simp)
    simp only [Rows.uptoBulk] at this ⊢
    exact Nat.le_trans b5 (by omega)
  · rw [hx]
    have := bulk_of (d := y4.1) (l := [y0, y1, y2, y3, y4, y5, y6, y7, y8, y9, y10, y11, y12, y13].map (·.1)) (by simp)
    simp only [Rows.uptoBulk] at this ⊢
    exact Nat.le_trans b4 (by omega)
set_option maxRecDepth 100000 in
/-- A forest that is read. -/
theorem open_forest {b0 : Nat} {v : Value} {d : DataW H} {p : List MemPlace} (hv : Value.okWide Tryz.prog W .any b0 24 v) (h : DataW.Trod enc Tryz.prog W 0 (fun _ => true) true 24 v d p) :
    ∃ o cap ns, v = .agg #[.slice o ns.length cap] ∧ (ns.length ≤ 1048576 → FRd W o cap ns) ∧ ns.length ≤ Rows.uptoBulk d ∧ (∀ (i : Nat) (hi : i < ns.length), ns[i].kids.length ≤ Rows.uptoBulk d ∧ ns[i].attrs.length ≤ Rows.uptoBulk d ∧ ns[i].data.length ≤ Rows.uptoBulk d) := by
  have hv2 : ∃ cs, v = .agg cs ∧ cs.size = 1 := by
    unfold Value.okWide at hv
    rw [Tryz.underlying24] at hv
    obtain ⟨cs, e, hs, _⟩ := hv
    exact ⟨cs, e, by rw [hs, Tryz.fCellsForest]⟩
  obtain ⟨cs, rfl, hs⟩ := hv2
  obtain ⟨fuel, hf⟩ := h
  obtain ⟨xs, n, _, hx, hl, hxl, hfs⟩ := DataW.trod_struct Tryz.underlying24 hf
  simp only [List.size_toArray, List.length_cons, List.length_nil] at hxl
  have f0 := field_read hfs 0 22 0 rfl
  obtain ⟨l, rfl⟩ : ∃ l : List Value, cs = l.toArray := ⟨cs.toList, by simp⟩
  have hl1 : l.length = 1 := by simpa using hs
  obtain ⟨v0, rfl⟩ := list_1 hl1
  obtain ⟨y0, rfl⟩ := list_1 hxl
  simp only [show Tryz.prog.cellsOf 22 = 1 by kernel_rfl, Value.cells, List.drop_zero, List.take_succ_cons, List.take_zero, List.getElem?_cons_zero] at f0
  have hxd : d = .agg [y0.1] := congrArg Prod.fst hx
  have hbk : Rows.uptoBulk y0.1 ≤ Rows.uptoBulk d := by rw [hxd]; simp only [Rows.uptoBulk, Rows.uptoBulkAll]; omega
  rcases Deep.open_slice Tryz.underlying22 f0 with ⟨e, _⟩ | ⟨a, len, cap, m, k, D, Pl, e, _, hlc, _, hm, hxx, hcell⟩
  · simp only [List.cons.injEq, and_true] at e
    subst e
    exact ⟨none, 0, [], rfl, fun _ => ⟨Nat.zero_le _, fun h => absurd h (Nat.lt_irrefl _)⟩, Nat.zero_le _, fun i hi => absurd hi (Nat.not_lt_zero _)⟩
  · simp only [List.cons.injEq, and_true] at e
    subst e
    have hmc : m = cap := by simpa using hm
    subst hmc
    rw [Tryz.fCellsNode] at hcell
    obtain ⟨g, hg⟩ := Deep.choose_lt (α := NodeD) (n := len) (p := fun i t => (∃ L : Lists, (∀ k v, [Value.int .u8 (t.kind : Int), .string t.space, .string t.pre, .string t.loc, .string t.pub, .string t.sys, L.data, L.attrs, .int .i64 t.parent, L.kids, .int .i64 t.doc, .int .i64 t.host, .int .i64 t.shadow, .int .u8 (t.mode : Int), .bool t.manual, .bool t.html][k]? = some v → W.cell? ((a.add (i * 16)).add k) = some v) ∧ RdN W L.data t.data ∧ RdA W L.attrs t.attrs ∧ RdI W L.kids t.kids) ∧ t.kids.length ≤ Rows.uptoBulk y0.1 ∧ t.attrs.length ≤ Rows.uptoBulk y0.1 ∧ t.data.length ≤ Rows.uptoBulk y0.1) (fun i hi => by
      obtain ⟨cs', h1, h2⟩ := hcell i (by omega)
      obtain ⟨t, L, rfl, r1, r2, r3, b1, b2, b3⟩ := open_node h2
      obtain ⟨_, _, h3⟩ := World.cells?_some h1
      have hD : Rows.uptoBulk (D i) ≤ Rows.uptoBulk y0.1 := by
        have := bulk_of (d := D i) (l := (List.range len).map D) (List.mem_map.2 ⟨i, List.mem_range.2 hi, rfl⟩)
        rw [hxx]
        simp only [Rows.uptoBulk]
        omega
      refine ⟨t, ⟨L, fun k v hk => ?_, r1, r2, r3⟩, Nat.le_trans b1 hD, Nat.le_trans b2 hD, Nat.le_trans b3 hD⟩
      have hlt : k < 16 := (List.getElem?_eq_some_iff.1 hk).1
      rw [h3 k hlt, hk])
    have hul : ((List.range len).map g).length = len := by simp
    have hge : ∀ (i : Nat) (hi : i < ((List.range len).map g).length), ((List.range len).map g)[i] = g i := fun i hi => by simp
    refine ⟨some a, m, (List.range len).map g, by rw [hul], fun hsm => ⟨by rw [hul] at hsm ⊢; omega, fun hp => ?_⟩, ?_, fun i hi => ?_⟩
    · rw [hul] at hp
      obtain ⟨⟨L0, h0, _⟩, _⟩ := hg 0 hp
      have h0 := h0 0 _ rfl
      rw [Nat.zero_mul] at h0
      have e0 : (a.add 0).add 0 = a.add 0 := by simp [Addr.add]
      rw [e0] at h0
      have hs := addr_spot h0
      have hlt := addr_lt (addr_at h0 hs)
      refine ⟨a.block, a.off, ?_, ⟨hlt, by rw [hul]; exact hlc, by rw [hul] at hsm ⊢; omega, fun i hi => ?_⟩⟩
      · obtain ⟨b, o, s⟩ := a
        simp only at hs
        subst hs
        rfl
      · rw [hge i hi]
        rw [hul] at hi
        obtain ⟨⟨L, hc, r1, r2, r3⟩, _⟩ := hg i hi
        have hc2 : ∀ (k : Nat) (v : Value), [Value.int .u8 ((g i).kind : Int), .string (g i).space, .string (g i).pre, .string (g i).loc, .string (g i).pub, .string (g i).sys, L.data, L.attrs, .int .i64 (g i).parent, L.kids, .int .i64 (g i).doc, .int .i64 (g i).host, .int .i64 (g i).shadow, .int .u8 ((g i).mode : Int), .bool (g i).manual, .bool (g i).html][k]? = some v → W.cell? ⟨a.block, a.off + i * 16 + k, none⟩ = some v := fun k v hk => by
          have h1 := hc k v hk
          rw [Deep.add_add] at h1
          have := addr_at h1 hs
          rw [show a.off + i * 16 + k = a.off + (i * 16 + k) by omega]
          exact this
        exact ⟨L, ⟨hc2 0 _ rfl, hc2 1 _ rfl, hc2 2 _ rfl, hc2 3 _ rfl, hc2 4 _ rfl, hc2 5 _ rfl, hc2 6 _ rfl, hc2 7 _ rfl, hc2 8 _ rfl, hc2 9 _ rfl, hc2 10 _ rfl, hc2 11 _ rfl, hc2 12 _ rfl, hc2 13 _ rfl, hc2 14 _ rfl, hc2 15 _ rfl⟩, r1, r2, r3⟩
    · rw [hul]
      have hm := bulk_many (H := H) ((List.range len).map D)
      simp only [List.length_map, List.length_range] at hm
      refine Nat.le_trans ?_ hbk
      rw [hxx]
      simp only [Rows.uptoBulk]
      omega
    · rw [hge i hi]
      rw [hul] at hi
      obtain ⟨_, b1, b2, b3⟩ := hg i hi
      exact ⟨Nat.le_trans b1 hbk, Nat.le_trans b2 hbk, Nat.le_trans b3 hbk⟩
end
end Go.Proofs.YteflknfejjdkfabGreat

namespace Go.Proofs.YteflknfejjdkfabGreat
open Go.RowKit Go.Lib Go.ChangeShapes Go.WideShapes Go.ChangeAt

theorem Tryz.fCellsRule : Tryz.prog.cellsOf 39 = 3 := by kernel_rfl
theorem Tryz.fCellsFilter : Tryz.prog.cellsOf 28 = 2 := by kernel_rfl
theorem Tryz.fCellsWalker : Tryz.prog.cellsOf 30 = 4 := by kernel_rfl
instance : Inhabited RuleD := ⟨⟨0, ⟨#[]⟩, 0⟩⟩
set_option maxRecDepth 100000
section
variable {H : Type} {enc : TypeId × Value → H} {W : World}
theorem open_rule {fuel : Nat} {cs : List Value} {x : DataW H × List MemPlace} (h : DataW.trod enc Tryz.prog W 0 (fun _ => true) true fuel 39 cs = some x) :
    ∃ r : RuleD, cs = [.int .u8 (r.kind : Int), .string r.loc, .int .u8 (r.verdict : Int)] := by
  obtain ⟨xs, n, _, _, hl, hxl, hf⟩ := DataW.trod_struct Tryz.underlying39 h
  rw [Tryz.fCellsRule] at hl
  simp only [List.size_toArray, List.length_cons, List.length_nil] at hxl
  obtain ⟨v0, v1, v2, rfl⟩ := list_3 hl
  obtain ⟨y0, y1, y2, rfl⟩ := list_3 hxl
  have f0 := field_read hf 0 36 0 rfl
  have f1 := field_read hf 1 9 1 rfl
  have f2 := field_read hf 2 37 2 rfl
  simp only [show Tryz.prog.cellsOf 9 = 1 by kernel_rfl, show Tryz.prog.cellsOf 36 = 1 by kernel_rfl, show Tryz.prog.cellsOf 37 = 1 by kernel_rfl] at f0 f1 f2
  obtain ⟨k0, e0, _, w0⟩ := DataW.trod_int Tryz.underlying36 f0
  obtain ⟨s1, e1, _⟩ := DataW.trod_string Tryz.underlying9 f1
  obtain ⟨k2, e2, _, w2⟩ := DataW.trod_int Tryz.underlying37 f2
  simp only [List.drop_zero, List.take_succ_cons, List.take_zero, List.drop_succ_cons, List.cons.injEq, and_true] at e0 e1 e2
  have n0 : ((k0.toNat : Nat) : Int) = k0 := by
    simp [Lit.wf, IntKind.min, IntKind.max, IntKind.signed, IntKind.bits] at w0
    omega
  have n2 : ((k2.toNat : Nat) : Int) = k2 := by
    simp [Lit.wf, IntKind.min, IntKind.max, IntKind.signed, IntKind.bits] at w2
    omega
  exact ⟨⟨k0.toNat, s1, k2.toNat⟩, by rw [e0, e1, e2]; simp only [n0, n2]⟩
theorem open_rdR {fuel : Nat} {cs : List Value} {x : DataW H × List MemPlace} (h : DataW.trod enc Tryz.prog W 0 (fun _ => true) true fuel 26 cs = some x) :
    ∃ v l, cs = [v] ∧ RdR W v l ∧ l.length ≤ Rows.uptoBulk x.1 := by
  rcases Deep.open_slice Tryz.underlying26 h with ⟨rfl, _⟩ | ⟨a, len, cap, m, n, D, Pl, rfl, _, hl, _, hm, hx, hcell⟩
  · exact ⟨_, [], rfl, ⟨none, 0, rfl, Nat.le_refl _, fun h => absurd h (Nat.lt_irrefl _)⟩, Nat.zero_le _⟩
  · have hmc : m = cap := by simpa using hm
    subst hmc
    rw [Tryz.fCellsRule] at hcell
    obtain ⟨f, hf⟩ := Deep.choose_lt (α := RuleD) (n := len) (p := fun i t => ∀ k v, [Value.int .u8 (t.kind : Int), .string t.loc, .int .u8 (t.verdict : Int)][k]? = some v → W.cell? ((a.add (i * 3)).add k) = some v) (fun i hi => by
      obtain ⟨cs', h1, h2⟩ := hcell i (by omega)
      obtain ⟨t, rfl⟩ := open_rule h2
      obtain ⟨_, _, h3⟩ := World.cells?_some h1
      refine ⟨t, fun k v hk => ?_⟩
      have hlt : k < 3 := (List.getElem?_eq_some_iff.1 hk).1
      rw [h3 k hlt, hk])
    have hul : ((List.range len).map f).length = len := by simp
    refine ⟨_, (List.range len).map f, rfl, ⟨some a, m, by rw [hul], by omega, fun hp => ?_⟩, ?_⟩
    · rw [hul] at hp
      have h0 := hf 0 hp 0 _ rfl
      rw [Nat.zero_mul] at h0
      have e0 : (a.add 0).add 0 = a.add 0 := by simp [Addr.add]
      rw [e0] at h0
      have hs := addr_spot h0
      have hc : ∀ (j k : Nat) (v : Value), j < len → [Value.int .u8 ((f j).kind : Int), .string (f j).loc, .int .u8 ((f j).verdict : Int)][k]? = some v → W.cell? ⟨a.block, a.off + j * 3 + k, none⟩ = some v := fun j k v hj hk => by
        have h1 := hf j hj k v hk
        rw [Deep.add_add] at h1
        have := addr_at h1 hs
        rw [show a.off + j * 3 + k = a.off + (j * 3 + k) by omega]
        exact this
      refine ⟨a.block, a.off, ?_, addr_lt (hc 0 0 _ hp rfl), fun j hj => ?_⟩
      · obtain ⟨b, o, s⟩ := a
        simp only at hs
        subst hs
        rfl
      · rw [hul] at hj
        have e : ((List.range len).map f)[j]'(by rw [hul]; exact hj) = f j := by simp
        rw [e]
        exact ⟨hc j 0 _ hj rfl, hc j 1 _ hj rfl, hc j 2 _ hj rfl⟩
    · rw [hx, hul]
      have hm := bulk_many (H := H) ((List.range len).map D)
      simp only [List.length_map, List.length_range] at hm
      simp only [Rows.uptoBulk]
      omega
theorem open_filterC {fuel : Nat} {cs : List Value} {x : DataW H × List MemPlace} (h : DataW.trod enc Tryz.prog W 0 (fun _ => true) true fuel 28 cs = some x) :
    ∃ (sh : Nat) (ro : Option Addr) (rc : Nat) (rules : List RuleD), cs = [.int .u32 (sh : Int), .slice ro rules.length rc] ∧ sh < 4294967296 ∧ RdR W (.slice ro rules.length rc) rules ∧ rules.length ≤ Rows.uptoBulk x.1 := by
  obtain ⟨xs, n, _, hx, hl, hxl, hf⟩ := DataW.trod_struct Tryz.underlying28 h
  rw [Tryz.fCellsFilter] at hl
  simp only [List.size_toArray, List.length_cons, List.length_nil] at hxl
  obtain ⟨v0, v1, rfl⟩ := list_2 hl
  obtain ⟨y0, y1, rfl⟩ := list_2 hxl
  have f0 := field_read hf 0 25 0 rfl
  have f1 := field_read hf 1 26 1 rfl
  simp only [show Tryz.prog.cellsOf 25 = 1 by kernel_rfl, show Tryz.prog.cellsOf 26 = 1 by kernel_rfl] at f0 f1
  obtain ⟨k0, e0, _, w0⟩ := DataW.trod_int Tryz.underlying25 f0
  obtain ⟨vr, lr, e1, r1, b1⟩ := open_rdR f1
  simp only [List.drop_zero, List.take_succ_cons, List.take_zero, List.drop_succ_cons, List.cons.injEq, and_true] at e0 e1
  obtain ⟨ro, rc, rfl, hg⟩ := r1
  have n0 : ((k0.toNat : Nat) : Int) = k0 ∧ k0.toNat < 4294967296 := by
    simp [Lit.wf, IntKind.min, IntKind.max, IntKind.signed, IntKind.bits] at w0
    omega
  refine ⟨k0.toNat, ro, rc, lr, by rw [e0, e1, n0.1], n0.2, ⟨ro, rc, rfl, hg⟩, ?_⟩
  rw [hx]
  have := bulk_of (d := y1.1) (l := [y0, y1].map (·.1)) (by simp)
  simp only [Rows.uptoBulk] at this ⊢
  exact Nat.le_trans b1 (by omega)
theorem open_filter {b0 : Nat} {v : Value} {d : DataW H} {p : List MemPlace} (hv : Value.okWide Tryz.prog W .any b0 28 v) (h : DataW.Trod enc Tryz.prog W 0 (fun _ => true) true 28 v d p) :
    ∃ (sh : Nat) (ro : Option Addr) (rc : Nat) (rules : List RuleD), v = .agg #[.int .u32 (sh : Int), .slice ro rules.length rc] ∧ sh < 4294967296 ∧ RdR W (.slice ro rules.length rc) rules ∧ rules.length ≤ Rows.uptoBulk d := by
  have hv2 : ∃ cs, v = .agg cs := by
    unfold Value.okWide at hv
    rw [Tryz.underlying28] at hv
    obtain ⟨cs, e, hs, _⟩ := hv
    exact ⟨cs, e⟩
  obtain ⟨cs, rfl⟩ := hv2
  obtain ⟨fuel, hf⟩ := h
  obtain ⟨l, rfl⟩ : ∃ l : List Value, cs = l.toArray := ⟨cs.toList, by simp⟩
  obtain ⟨sh, ro, rc, rules, e, hs, hr, hb⟩ := open_filterC hf
  have e' : l = [.int .u32 (sh : Int), .slice ro rules.length rc] := by simpa [Value.cells] using e
  subst e'
  exact ⟨sh, ro, rc, rules, rfl, hs, hr, hb⟩
theorem open_walker {b0 : Nat} {v : Value} {d : DataW H} {p : List MemPlace} (hv : Value.okWide Tryz.prog W .any b0 30 v) (h : DataW.Trod enc Tryz.prog W 0 (fun _ => true) true 30 v d p) :
    ∃ (root cur : Int) (sh : Nat) (ro : Option Addr) (rc : Nat) (rules : List RuleD), v = .agg #[.int .i64 root, .int .i64 cur, .int .u32 (sh : Int), .slice ro rules.length rc] ∧ sh < 4294967296 ∧ RdR W (.slice ro rules.length rc) rules ∧ rules.length ≤ Rows.uptoBulk d := by
  have hv2 : ∃ cs, v = .agg cs := by
    unfold Value.okWide at hv
    rw [Tryz.underlying30] at hv
    obtain ⟨cs, e, hs, _⟩ := hv
    exact ⟨cs, e⟩
  obtain ⟨cs, rfl⟩ := hv2
  obtain ⟨fuel, hf⟩ := h
  obtain ⟨l, rfl⟩ : ∃ l : List Value, cs = l.toArray := ⟨cs.toList, by simp⟩
  obtain ⟨xs, n, _, hx, hl, hxl, hfs⟩ := DataW.trod_struct Tryz.underlying30 hf
  rw [Tryz.fCellsWalker] at hl
  simp only [List.size_toArray, List.length_cons, List.length_nil] at hxl
  have hl4 : l.length = 4 := by simpa [Value.cells] using hl
  obtain ⟨v0, v1, v2, v3, rfl⟩ := list_4 hl4
  obtain ⟨y0, y1, y2, rfl⟩ := list_3 hxl
  have f0 := field_read hfs 0 3 0 rfl
  have f1 := field_read hfs 1 3 1 rfl
  have f2 := field_read hfs 2 28 2 rfl
  simp only [Tryz.fCellsInt, Tryz.fCellsFilter] at f0 f1 f2
  obtain ⟨k0, e0, _⟩ := DataW.trod_int Tryz.underlying3 f0
  obtain ⟨k1, e1, _⟩ := DataW.trod_int Tryz.underlying3 f1
  obtain ⟨sh, ro, rc, rules, e2, hs, hr, hb⟩ := open_filterC f2
  simp only [Value.cells, List.drop_zero, List.take_succ_cons, List.take_zero, List.drop_succ_cons, List.cons.injEq, and_true] at e0 e1 e2
  refine ⟨k0, k1, sh, ro, rc, rules, by rw [e0, e1, e2.1, e2.2], hs, hr, ?_⟩
  have hxd : d = .agg ([y0, y1, y2].map (·.1)) := congrArg Prod.fst hx
  rw [hxd]
  have := bulk_of (d := y2.1) (l := [y0, y1, y2].map (·.1)) (by simp)
  simp only [Rows.uptoBulk] at this ⊢
  exact Nat.le_trans hb (by omega)
theorem open_way {b0 : Nat} {v : Value} {d : DataW H} {p : List MemPlace} (hv : Value.okWide Tryz.prog W .any b0 31 v) (h : DataW.Trod enc Tryz.prog W 0 (fun _ => true) true 31 v d p) :
    ∃ way : Nat, v = .int .u8 (way : Int) ∧ way < 256 := by
  obtain ⟨x, rfl, rfl, rfl, w⟩ := open_int Tryz.underlying31 hv h
  have n0 : ((x.toNat : Nat) : Int) = x ∧ x.toNat < 256 := by
    simp [Lit.wf, IntKind.min, IntKind.max, IntKind.signed, IntKind.bits] at w
    omega
  exact ⟨x.toNat, by rw [n0.1], n0.2⟩
end
end Go.Proofs.YteflknfejjdkfabGreat

namespace Go.Proofs.YteflknfejjdkfabGreat
open Go.RowKit Go.Lib Go.Shelf

theorem boxes44 {w V : World} {a0 a1 a2 a3 b0 b1 b2 b3 : Value} {t u : TypeId} (hb : Below (w.heap.size + 2) ((w.alloc (.cells #[a0, a1, a2, a3] t)).alloc (.cells #[b0, b1, b2, b3] u)) V) :
    (V.cell? ⟨w.heap.size, 0, none⟩ = some a0 ∧ V.cell? ⟨w.heap.size, 1, none⟩ = some a1 ∧ V.cell? ⟨w.heap.size, 2, none⟩ = some a2 ∧ V.cell? ⟨w.heap.size, 3, none⟩ = some a3) ∧ V.cell? ⟨w.heap.size + 1, 0, none⟩ = some b0 ∧ V.cell? ⟨w.heap.size + 1, 1, none⟩ = some b1 ∧ V.cell? ⟨w.heap.size + 1, 2, none⟩ = some b2 ∧ V.cell? ⟨w.heap.size + 1, 3, none⟩ = some b3 := by
  have hn : V.heap[w.heap.size + 1]? = some (.cells #[b0, b1, b2, b3] u) := by
    have := vheapW (w.alloc (.cells #[a0, a1, a2, a3] t)) (.cells #[b0, b1, b2, b3] u)
    rw [World.size_alloc] at this
    exact (hb.block (w.heap.size + 1) (by omega)).trans this
  have hm : V.heap[w.heap.size]? = some (.cells #[a0, a1, a2, a3] t) := by
    refine (hb.block w.heap.size (by omega)).trans ?_
    rw [Below.heap_alloc _ _ _ (by simp)]
    exact vheapW w _
  have hk : ∀ j : Nat, V.cell? ⟨w.heap.size + 1, j, none⟩ = #[b0, b1, b2, b3][j]? := fun j => by
    unfold World.cell?
    simp only [hn]
    exact if_neg (by decide)
  have hl : ∀ j : Nat, V.cell? ⟨w.heap.size, j, none⟩ = #[a0, a1, a2, a3][j]? := fun j => by
    unfold World.cell?
    simp only [hm]
    exact if_neg (by decide)
  exact ⟨⟨(hl 0).trans rfl, (hl 1).trans rfl, (hl 2).trans rfl, (hl 3).trans rfl⟩, (hk 0).trans rfl, (hk 1).trans rfl, (hk 2).trans rfl, (hk 3).trans rfl⟩

set_option maxRecDepth 100000 in
set_option maxHeartbeats 4000000 in
theorem sameW_any (root cur sh : Int) (ro ro2 : Option Addr) (rc rc2 : Nat) (rules : List RuleD) (w : World) (h1 : RdR w (.slice ro rules.length rc) rules) (h2 : RdR w (.slice ro2 rules.length rc2) rules) (hrl : rules.length ≤ 1099511627776) :
    Calls Tryz.prog 8 #[.agg #[.int .i64 root, .int .i64 cur, .int .u32 sh, .slice ro rules.length rc], .agg #[.int .i64 root, .int .i64 cur, .int .u32 sh, .slice ro2 rules.length rc2]] w fun e w' => e = .returned (.bool true) ∧ Below w.heap.size w w' := by
  have hB0 : Below w.heap.size w ((w.alloc (.cells #[.int .i64 root, .int .i64 cur, .int .u32 sh, .slice ro rules.length rc] 30)).alloc (.cells #[.int .i64 root, .int .i64 cur, .int .u32 sh, .slice ro2 rules.length rc2] 30)) := ((Below.refl _ w).alloc (Nat.le_refl _) _).alloc (by simp) _
  obtain ⟨⟨a0, a1, a2, a3⟩, b0, b1, b2, b3⟩ := boxes44 (Below.refl (w.heap.size + 2) ((w.alloc (.cells #[.int .i64 root, .int .i64 cur, .int .u32 sh, .slice ro rules.length rc] 30)).alloc (.cells #[.int .i64 root, .int .i64 cur, .int .u32 sh, .slice ro2 rules.length rc2] 30)))
  have e1 : (root != root) = false := bne_self_eq_false _
  have e2 : (cur != cur) = false := bne_self_eq_false _
  have e3 : (sh != sh) = false := bne_self_eq_false _
  have e4 : ((rules.length : Int) != (rules.length : Int)) = false := bne_self_eq_false _
  obtain ⟨o1, c1, he1, hc1, g1⟩ := h1
  obtain ⟨rfl, rfl⟩ : o1 = ro ∧ c1 = rc := by
    simp only [Value.slice.injEq] at he1
    exact ⟨he1.1.symm, he1.2.2.symm⟩
  obtain ⟨o2, c2, he2, hc2, g2⟩ := h2
  obtain ⟨rfl, rfl⟩ : o2 = ro2 ∧ c2 = rc2 := by
    simp only [Value.slice.injEq] at he2
    exact ⟨he2.1.symm, he2.2.2.symm⟩
  have G1 := hid g1
  have G2 := hid g2
  have HB0 := hid hB0
  clear g1 g2 he1 he2 hB0
  generalize hV : ((w.alloc (.cells #[.int .i64 root, .int .i64 cur, .int .u32 sh, .slice o1 rules.length c1] 30)).alloc (.cells #[.int .i64 root, .int .i64 cur, .int .u32 sh, .slice o2 rules.length c2] 30)) = V at *
  go_enter Tryz.func8, Tryz.ntmps8
  have HV := hid hV
  clear hV
  go_wp2
  go_loopw [42] (fun t wr => ∃ k m : Nat, k ≤ rules.length ∧ t = .int .i64 k ∧ wr = V.drewN m) (fun t _ => rules.length - (RowKit.intOf t).toNat)
  case atStart => exact ⟨0, 0, Nat.zero_le _, rfl, HV.out⟩
  case round =>
    obtain ⟨k, m, k1, rfl, rfl⟩ := hrel
    by_cases l1 : k < rules.length
    · obtain ⟨b1', off1, rfl, hlt1, ha1⟩ := G1.out (by omega)
      obtain ⟨b2', off2, rfl, hlt2, ha2⟩ := G2.out (by omega)
      obtain ⟨x0, x1, x2⟩ := (ha1 k l1).later hlt1 HB0.out
      obtain ⟨y0, y1, y2⟩ := (ha2 k l1).later hlt2 HB0.out
      have q1 : (0 : Int) ≤ (k : Int) := by omega
      have q2 : (k : Int) < (rules.length : Int) := by omega
      clear ha1 ha2 G1 G2
      generalize rules[k] = r at *
      obtain ⟨r0, r1, r2⟩ := r
      simp only at *
      go_upto_region 6 with fail
      go_quiet (fail)
      go_wp2
      go_roundw
      case rel => exact ⟨k + 1, m + nq, by omega, by go_num, by simp⟩
      case measure => simp [RowKit.intOf]; omega
    · have hkp : k = rules.length := by omega
      subst hkp
      clear G1 G2 l1 k1
      go_wp2
      go_ret
      exact ⟨rfl, HB0.out.trans ((drewN_below _ _ _).mono HB0.out.size)⟩
end Go.Proofs.YteflknfejjdkfabGreat

namespace Go.Proofs.YteflknfejjdkfabGreat
open Go.RowKit Go.Lib Go.Shelf

/-- What is appended to an empty row of one's own. -/
theorem append_fresh2 {P : Program} (W : World) (g : Nat) (t ty e : TypeId) (i : TypeInfo) (z : Value) (size bytes : Nat) (ht : P.underlying t = some (.slice e)) (hi : P.info? e = some i) (hz : i.zero = some z) (hsize : i.size = size) (hby : i.bytes = bytes) (hzs : z.cells.size = size) (hsz : 0 < size) (hg : W.heap[g]? = some (.cells #[] e))
    (o : Option Addr) (m c : Nat) (news : List Value) (hl : news.length = m * size) (hsrc : 0 < m → ∃ b off, o = some ⟨b, off, none⟩ ∧ ∀ j u, news[j]? = some u → W.cell? ((⟨b, off, none⟩ : Addr).add j) = some u) (h1 : ∀ u ∈ news, u.oneCell' = true) (h63 : m ≤ maxLen) (hbytes : m * bytes ≤ 140737488355328) :
    ∃ v' w', (Builtin.append_ #[t, t] ty #[.slice (some ⟨g, 0, none⟩) 0 0, .slice o m c]).run P W = .ok v' w' ∧ w'.ownsRow g e size v' m news ∧ W.grownBy w' (some g) := by
  have hlt := (Array.getElem?_eq_some_iff.1 hg).1
  have hown : W.ownsRow g e size (.slice (some ⟨g, 0, none⟩) 0 0) 0 [] := ⟨by simp, .inr ⟨g, 0, #[], rfl, Nat.le_refl _, hg, Nat.le_refl _, Nat.zero_le _, by simp, by simp⟩⟩
  cases o with
  | none =>
    have h0 : m = 0 := by
      by_cases h0 : m = 0
      · exact h0
      · obtain ⟨b, off, e, _⟩ := hsrc (by omega)
        cases e
    subst h0
    have hn : news = [] := List.length_eq_zero_iff.1 (by omega)
    subst hn
    refine ⟨.slice (some ⟨g, 0, none⟩) 0 0, W, ?_, hown, ⟨rfl, rfl, rfl, Nat.le_refl _, fun _ _ _ => rfl⟩⟩
    simp [Builtin.append_, run_underlying ht, sizeOf, typeInfo, hi, Builtin.lenOf, Builtin.firstCells, storeCells]
  | some ad =>
    have hnews : ∀ j u, news[j]? = some u → W.cell? (ad.add j) = some u := fun j u hj => by
      by_cases h0 : m = 0
      · have hn : news = [] := List.length_eq_zero_iff.1 (by rw [hl, h0, Nat.zero_mul])
        rw [hn] at hj
        cases hj
      · obtain ⟨b, off, e, h⟩ := hsrc (by omega)
        cases e
        exact h j u hj
    obtain ⟨v', w', r1, r2, r3, _⟩ := run_append_own (P := P) (w := W) g t ty e i z size bytes ht hi hz hsize hby hzs hsz _ 0 [] hown ad m c news hl hnews h1 (by omega) (by rw [Nat.zero_add]; exact hbytes) (by omega)
    rw [Nat.zero_add, List.nil_append] at r2
    exact ⟨v', w', r1, r2, r3⟩
theorem own_shape2 {W : World} {base size : Nat} {e : TypeId} {v : Value} {n : Nat} {xs : List Value} (h : W.ownsRow base e size v n xs) : ∃ o c, v = .slice o n c := by
  rcases h.2 with ⟨rfl, rfl⟩ | ⟨g, cap, _, rfl, _⟩
  · exact ⟨_, _, rfl⟩
  · exact ⟨_, _, rfl⟩
end Go.Proofs.YteflknfejjdkfabGreat

namespace Go.Proofs.YteflknfejjdkfabGreat
open Go.RowKit Go.Lib Go.Shelf

theorem AtF.on {w V V' : World} {f r c s l : Value} (h : AtF w f r c s l V) (hb : Below (w.heap.size + 2) V V') : AtF w f r c s l V' := Below.trans h hb
theorem cell_there {W : World} {g j : Nat} {cs : Array Value} {t : TypeId} (h : W.heap[g]? = some (.cells cs t)) (hj : j < cs.size) : ∃ u, W.cell? ⟨g, j, none⟩ = some u := by
  refine ⟨cs[j], ?_⟩
  unfold World.cell?
  simp only [h]
  rw [if_neg (by decide), Array.getElem?_eq_getElem hj]
theorem heap_put {W : World} {g j : Nat} {cs : Array Value} {t : TypeId} (h : W.heap[g]? = some (.cells cs t)) (x : Value) : (W.setCell ⟨g, j, none⟩ x).heap[g]? = some (.cells (cs.setIfInBounds j x) t) := by
  simp [World.setCell, Array.getElem?_modify, h]
/-- A walker that was answered, its rules being written over. -/
structure OwnX (w2 : World) (b8 : Nat) (box : Obj) (va : Option Addr) (m : Nat) (V : World) : Prop where
  bel : Below w2.heap.size w2 V
  box : V.heap[b8]? = some box
  row : 0 < m → ∃ g cs, va = some ⟨g, 0, none⟩ ∧ w2.heap.size ≤ g ∧ g ≠ b8 ∧ V.heap[g]? = some (.cells cs 39) ∧ m * 3 ≤ cs.size
theorem OwnX.put {w2 V : World} {b8 : Nat} {box : Obj} {va : Option Addr} {m g j : Nat} {cs : Array Value} (h : OwnX w2 b8 box va m V) (hv : va = some ⟨g, 0, none⟩) (hg : w2.heap.size ≤ g) (hne : g ≠ b8) (hh : V.heap[g]? = some (.cells cs 39)) (hs : m * 3 ≤ cs.size) (x y z : Value) : OwnX w2 b8 box va m (((V.setCell ⟨g, j, none⟩ x).setCell ⟨g, j + 1, none⟩ y).setCell ⟨g, j + 2, none⟩ z) := by
  refine ⟨((h.bel.setCell (p := ⟨g, j, none⟩) hg x).setCell (p := ⟨g, j + 1, none⟩) hg y).setCell (p := ⟨g, j + 2, none⟩) hg z, ?_, fun _ => ⟨g, _, hv, hg, hne, heap_put (heap_put (heap_put hh x) y) z, by simpa using hs⟩⟩
  rw [Below.heap_setCell _ _ _ _ (by exact hne.symm), Below.heap_setCell _ _ _ _ (by exact hne.symm), Below.heap_setCell _ _ _ _ (by exact hne.symm)]
  exact h.box
/-- A list that was answered, being written over. -/
structure OwnY (w2 : World) (lo : Option Addr) (m : Nat) (V : World) : Prop where
  bel : Below w2.heap.size w2 V
  row : 0 < m → ∃ g cs, lo = some ⟨g, 0, none⟩ ∧ w2.heap.size ≤ g ∧ V.heap[g]? = some (.cells cs 3) ∧ m ≤ cs.size
theorem OwnY.put {w2 V : World} {lo : Option Addr} {m g j : Nat} {cs : Array Value} (h : OwnY w2 lo m V) (hv : lo = some ⟨g, 0, none⟩) (hg : w2.heap.size ≤ g) (hh : V.heap[g]? = some (.cells cs 3)) (hs : m ≤ cs.size) (x : Value) : OwnY w2 lo m (V.setCell ⟨g, j, none⟩ x) :=
  ⟨h.bel.setCell (p := ⟨g, j, none⟩) hg x, fun _ => ⟨g, _, hv, hg, heap_put hh x, by simpa using hs⟩⟩
theorem own_row {V : World} {base n c sz : Nat} {e : TypeId} {lo : Option Addr} {xs : List Value} (h : V.ownsRow base e sz (.slice lo n c) n xs) (hp : 0 < n) : ∃ g cs, lo = some ⟨g, 0, none⟩ ∧ base ≤ g ∧ V.heap[g]? = some (.cells cs e) ∧ n * sz ≤ cs.size := by
  rcases h.2 with ⟨h0, hx⟩ | ⟨g, cap, cur, hv, hb, hh, hn, _, hs, _⟩
  · injection h0 with _ h1
    omega
  · injection hv with h1
    exact ⟨g, cur, h1, hb, hh, by rw [hs]; exact Nat.mul_le_mul_right _ hn⟩

set_option linter.unusedSimpArgs false in
set_option maxRecDepth 100000 in
set_option maxHeartbeats 8000000 in
theorem own_walk (o : Option Addr) (cap n : Nat) (root cur sh : Int) (ro : Option Addr) (rc : Nat) (rules : List RuleD) (way : Int) (r1 c1 s1 : Int) (rl : List RuleD) (D E E2 : Int) (L : List Int) (w : World) (HL : ∀ w : World, Calls Tryz.prog 4 #[] w fun e w' => e = .returned (.bool true) ∧ Below w.heap.size w w') (hru : RdR w (.slice ro rules.length rc) rules) (hrl : rules.length ≤ 1099511627776) (hrl2 : rl.length ≤ 1099511627776) (hLl : L.length ≤ 1099511627776)
    (HA : ∀ W : World, Below w.heap.size w W → Calls Tryz.prog 5 #[.agg #[.slice o n cap], .agg #[.int .i64 root, .int .i64 cur, .int .u32 sh, .slice ro rules.length rc], .int .u8 way] W fun e w' => ∃ vo vc, e = .returned (.tuple #[.agg #[.int .i64 r1, .int .i64 c1, .int .u32 s1, .slice vo rl.length vc], .int .i64 D, .int .i64 E]) ∧ w'.ownsRow W.heap.size 39 3 (.slice vo rl.length vc) rl.length (rulesC rl) ∧ Below W.heap.size W w')
    (HAl : ∀ W : World, Below w.heap.size w W → Calls Tryz.prog 6 #[.agg #[.slice o n cap], .agg #[.int .i64 root, .int .i64 cur, .int .u32 sh, .slice ro rules.length rc], .int .u8 way] W fun e w' => ∃ v, e = .returned (.tuple #[v, .int .i64 E2]) ∧ w'.ownsRow W.heap.size 3 1 v L.length (L.map (Value.int .i64)) ∧ Below W.heap.size W w')
    (HB : ∀ (W : World) (vo : Option Addr) (vc : Nat), Below w.heap.size w W → RdR W (.slice vo rules.length vc) rules → Calls Tryz.prog 7 #[.agg #[.slice o n cap], .agg #[.int .i64 root, .int .i64 cur, .int .u32 sh, .slice vo rules.length vc], .int .u8 way] W fun e w' => ∃ vo' vc', e = .returned (.tuple #[.agg #[.int .i64 r1, .int .i64 c1, .int .u32 s1, .slice vo' rl.length vc'], .int .i64 D, .int .i64 E]) ∧ RdR w' (.slice vo' rl.length vc') rl ∧ Below W.heap.size W w')
    (HW : ∀ W : World, Below w.heap.size w W → Calls Tryz.prog 9 #[.agg #[.slice o n cap], .agg #[.int .i64 root, .int .i64 cur, .int .u32 sh, .slice ro rules.length rc], .int .u8 way] W fun e w' => e = .returned (.bool true) ∧ Below W.heap.size W w') :
    Calls Tryz.prog 3 #[.agg #[.slice o n cap], .agg #[.int .i64 root, .int .i64 cur, .int .u32 sh, .slice ro rules.length rc], .int .u8 way] w fun e w' => e = .returned (.bool true) ∧ Below w.heap.size w w' := by
  obtain ⟨i0, hi, hz0, hz1, hz2⟩ := info_parts info_rule
  have hA0 := AtF.first w (.slice o n cap) (.int .i64 root) (.int .i64 cur) (.int .u32 sh) (.slice ro rules.length rc)
  have hL := HL ((w.alloc (.cells #[.slice o n cap] 24)).alloc (.cells #[.int .i64 root, .int .i64 cur, .int .u32 sh, .slice ro rules.length rc] 30))
  have XA := hid HA
  have XAl := hid HAl
  have XB := hid HB
  have XW := hid HW
  have XR := hid hru
  have hEE : (E == E) = true := beq_self_eq_true _
  clear HA HAl HB HW HL hru
  go_enter Tryz.func3, Tryz.ntmps3
  go_wp2_with fail
  refine hL.mono ?_
  rintro e v1 ⟨rfl, hb⟩
  have hA1 := hA0.step hb
  have b1 : Below w.heap.size w (v1.alloc (.cells #[] 39)) := hA1.below.alloc hA1.below.size _
  obtain ⟨v7, w2, r7, o7, gr⟩ := append_fresh2 (P := Tryz.prog) (v1.alloc (.cells #[] 39)) v1.heap.size 26 26 39 i0 (.agg #[.int .u8 0, .string ⟨#[]⟩, .int .u8 0]) 3 32 Tryz.underlying26 hi hz0 hz1 hz2 rfl (by decide) (heap_new v1 _) ro rules.length rc (rulesC rules) (rulesC_len _) (fun hp => by
    obtain ⟨o', c', he, _, g⟩ := XR.out.later b1
    injection he with he1
    obtain ⟨b, off, hb', _, hc⟩ := g hp
    exact ⟨b, off, he1.trans hb', rules_news hc⟩) (rules_one _) (Nat.le_trans hrl (by decide)) (by omega)
  obtain ⟨vo7, vc7, e7⟩ := own_shape2 o7
  subst e7
  have hA2 := hA1.on (((Below.refl (w.heap.size + 2) v1).alloc hA1.size (.cells #[] 39)).grown gr (by rw [World.size_alloc]; have := hA1.size; omega) (fun k hk => by have := Option.some.inj hk; have := hA1.size; omega))
  have R7 := hid (own_rules o7)
  have hz2' := gr.size
  rw [World.size_alloc] at hz2'
  obtain ⟨q0, q1, q2, q3, q4⟩ := hA1.cells
  have u4 : (v1.alloc (.cells #[] 39)).cell? ⟨w.heap.size + 1, 3, none⟩ = some (.slice ro rules.length rc) := (World.cell?_alloc_some _ _ _ (by rw [q4]; rfl)).trans q4
  have hA := XA.out w2 hA2.below
  clear hL hb hA0 hi hz0 hz1 hz2 b1 o7 gr XR
  go_upto_region 4 with (at_builtin; refine wpList_append_run _ rfl _ _ 26 26 rfl _ _ rfl rfl _ _ r7 ?_)
  clear q0 q1 q2 q3 q4 u4 r7 hA1
  obtain ⟨q0, q1, q2, q3, q4⟩ := hA2.cells
  go_wp2_with fail
  refine hA.mono ?_
  rintro e v3 ⟨va, ca, rfl, ox, hb⟩
  have hA3 := (hA2.step hb).step ((Below.refl _ _).alloc (Nat.le_refl _) (.cells #[.int .i64 r1, .int .i64 c1, .int .u32 s1, .slice va rl.length ca] 30))
  have HX : Hid (OwnX w2 v3.heap.size (.cells #[.int .i64 r1, .int .i64 c1, .int .u32 s1, .slice va rl.length ca] 30) va rl.length (v3.alloc (.cells #[.int .i64 r1, .int .i64 c1, .int .u32 s1, .slice va rl.length ca] 30))) := ⟨hb.trans (((Below.refl _ v3).alloc (Nat.le_refl _) _).mono hb.size), heap_new v3 _, fun hp => by
    obtain ⟨g, cs, h1, h2, h3, h4⟩ := own_row ox hp
    have hlt := (Array.getElem?_eq_some_iff.1 h3).1
    exact ⟨g, cs, h1, h2, by omega, (Below.heap_alloc v3 _ _ hlt).trans h3, h4⟩⟩
  have x3 := (cells4 HX.out.box).2.2.2
  have HSZ := hid hb.size
  clear hA hb ox q0 q1 q2 q3 q4 hA3
  go_wp2
  go_loopw [41] (fun t wr => ∃ k : Nat, k ≤ rl.length ∧ t = .int .i64 k ∧ Hid (OwnX w2 v3.heap.size (.cells #[.int .i64 r1, .int .i64 c1, .int .u32 s1, .slice va rl.length ca] 30) va rl.length wr)) (fun t _ => rl.length - (RowKit.intOf t).toNat)
  case atStart => exact ⟨0, Nat.zero_le _, rfl, HX⟩
  case round =>
    obtain ⟨k, hk, rfl, HI⟩ := hrel
    clear HX x3
    have x3 := (cells4 HI.out.box).2.2.2
    by_cases hlt : k < rl.length
    · obtain ⟨g, cs, hva, h2, h3, h4, h5⟩ := HI.out.row (by omega)
      subst hva
      obtain ⟨y0, t0⟩ := cell_there h4 (show k * 3 < cs.size by omega)
      obtain ⟨y1, t1⟩ := cell_there h4 (show k * 3 + 1 < cs.size by omega)
      obtain ⟨y2, t2⟩ := cell_there h4 (show k * 3 + 2 < cs.size by omega)
      have f0 := frozen_of_heap h4 (k * 3)
      have f1 := frozen_of_heap h4 (k * 3 + 1)
      have f2 := frozen_of_heap h4 (k * 3 + 2)
      have HP := hid (HI.out.put (j := k * 3) rfl h2 h3 h4 h5 (.int .u8 0) (.string ⟨#[103, 111, 110, 101]⟩) (.int .u8 0))
      have p1 : (0 : Int) ≤ (k : Int) := by omega
      have p2 : (k : Int) < (rl.length : Int) := by omega
      clear h2 h3 h4 h5 HI
      go_wp2
      go_roundw
      case rel => exact ⟨k + 1, by omega, by go_num, HP⟩
      case measure => simp [RowKit.intOf]; omega
    · have hkr : k = rl.length := by omega
      subst hkr
      have HB4 := hid HI.out.bel
      have hA4 := hA2.on (HI.out.bel.mono hA2.size)
      obtain ⟨q0, q1, q2, q3, q4⟩ := hA4.cells
      have R74 := hid (R7.out.later HI.out.bel)
      have hAl := XAl.out wr hA4.below
      clear hlt hk HI x3 R7 HB4 XAl hA2 hz2'
      obtain ⟨v4, hv4⟩ : ∃ v4, v4 = wr := ⟨_, rfl⟩
      subst hv4
      go_wp2_with fail
      refine hAl.mono ?_
      rintro e v5 ⟨lv, rfl, ol, hb⟩
      obtain ⟨lo, lc, el⟩ := own_shape2 ol
      subst el
      have HY : Hid (OwnY v4 lo L.length v5) := ⟨hb, fun hp => by
        obtain ⟨g, cs, h1, h2, h3, h4⟩ := own_row ol hp
        exact ⟨g, cs, h1, h2, h3, by omega⟩⟩
      clear hAl hb ol q0 q1 q2 q3 q4
      go_wp2
      go_loopw [60] (fun t wr => ∃ k : Nat, k ≤ L.length ∧ t = .int .i64 k ∧ Hid (OwnY v4 lo L.length wr)) (fun t _ => L.length - (RowKit.intOf t).toNat)
      case atStart => exact ⟨0, Nat.zero_le _, rfl, HY⟩
      case round =>
        obtain ⟨j, hj, rfl, HJ⟩ := hrel
        clear HY
        by_cases hjl : j < L.length
        · obtain ⟨g, cs, hlo, h2, h4, h5⟩ := HJ.out.row (by omega)
          subst hlo
          obtain ⟨y0, t0⟩ := cell_there h4 (show j < cs.size by omega)
          have f0 := frozen_of_heap h4 j
          have HP := hid (HJ.out.put (j := j) rfl h2 h4 h5 (.int .i64 77))
          have p1 : (0 : Int) ≤ (j : Int) := by omega
          have p2 : (j : Int) < (L.length : Int) := by omega
          clear h2 h4 h5 HJ
          go_wp2
          go_roundw
          case rel => exact ⟨j + 1, by omega, by go_num, HP⟩
          case measure => simp [RowKit.intOf]; omega
        · have hjr : j = L.length := by omega
          subst hjr
          have hA6 := hA4.step HJ.out.bel
          have R76 := hid (R74.out.later HJ.out.bel)
          obtain ⟨q0, q1, q2, q3, q4⟩ := hA6.cells
          have hS := XA.out wr hA6.below
          clear hjl hj HJ R74 XA hA4
          obtain ⟨v6, hv6⟩ : ∃ v6, v6 = wr := ⟨_, rfl⟩
          subst hv6
          go_wp2_with fail
          refine hS.mono ?_
          rintro e v7 ⟨vy, cy, rfl, oy, hb⟩
          have bu7 := hb.trans (((Below.refl _ v7).alloc (Nat.le_refl _) (.cells #[.int .i64 r1, .int .i64 c1, .int .u32 s1, .slice vy rl.length cy] 30)).mono hb.size)
          have bu8 := ((Below.refl _ (v7.alloc (.cells #[.int .i64 r1, .int .i64 c1, .int .u32 s1, .slice vy rl.length cy] 30))).alloc (Nat.le_refl _) (.cells #[.int .i64 root, .int .i64 cur, .int .u32 sh, .slice vo7 rules.length vc7] 30))
          have hA7 := hA6.step bu7
          have hA8 := hA7.step bu8
          have H15 := hid (heap_new v7 (.cells #[.int .i64 r1, .int .i64 c1, .int .u32 s1, .slice vy rl.length cy] 30))
          have H18 := hid (heap_new (v7.alloc (.cells #[.int .i64 r1, .int .i64 c1, .int .u32 s1, .slice vy rl.length cy] 30)) (.cells #[.int .i64 root, .int .i64 cur, .int .u32 sh, .slice vo7 rules.length vc7] 30))
          have HY8 := hid (((own_rules oy).later ((Below.refl _ v7).alloc (Nat.le_refl _) (.cells #[.int .i64 r1, .int .i64 c1, .int .u32 s1, .slice vy rl.length cy] 30))).later bu8)
          have K15 := hid ((Below.heap_alloc (v7.alloc (.cells #[.int .i64 r1, .int .i64 c1, .int .u32 s1, .slice vy rl.length cy] 30)) (.cells #[.int .i64 root, .int .i64 cur, .int .u32 sh, .slice vo7 rules.length vc7] 30) _ (by rw [World.size_alloc]; omega)).trans H15.out)
          have hB := XB.out _ vo7 vc7 hA8.below ((R76.out.later bu7).later bu8)
          clear hS hb oy q0 q1 q2 q3 q4 R76 XB hA6 H15
          obtain ⟨q0, q1, q2, q3, q4⟩ := hA7.cells
          have q08 := hA8.cells.1
          have s0 := H18.out
          simp only [World.size_alloc] at s0
          obtain ⟨z0, z1, z2, z3⟩ := cells4 s0
          clear bu7 s0
          go_wp2_with fail
          refine hB.mono ?_
          rintro e v9 ⟨vz, cz, rfl, rz, hb⟩
          have bu9 := (Below.refl _ v9).alloc (Nat.le_refl _) (.cells #[.int .i64 r1, .int .i64 c1, .int .u32 s1, .slice vz rl.length cz] 30)
          have hA9 := (hA8.step hb).step bu9
          have H19 := hid (heap_new v9 (.cells #[.int .i64 r1, .int .i64 c1, .int .u32 s1, .slice vz rl.length cz] 30))
          have K9 := hid ((Below.heap_alloc v9 (.cells #[.int .i64 r1, .int .i64 c1, .int .u32 s1, .slice vz rl.length cz] 30) _ (by have := hb.size; simp only [World.size_alloc] at this; omega)).trans ((hb.block _ (by simp only [World.size_alloc]; omega)).trans K15.out))
          have hM := sameW_any r1 c1 s1 vy vz cy cz rl (v9.alloc (.cells #[.int .i64 r1, .int .i64 c1, .int .u32 s1, .slice vz rl.length cz] 30)) ((HY8.out.later hb).later bu9) (rz.later bu9) hrl2
          clear hB hb rz q0 q1 q2 q3 q4 q08 z0 z1 z2 z3 H18 HY8 K15 hA7 hA8 bu8 bu9
          obtain ⟨x0, x1, x2, x3⟩ := cells4 K9.out
          obtain ⟨y0, y1, y2, y3⟩ := cells4 H19.out
          go_wp2_with fail
          refine hM.mono ?_
          rintro e v10 ⟨rfl, hb⟩
          have hA10 := hA9.step hb
          obtain ⟨q0, q1, q2, q3, q4⟩ := hA10.cells
          have hWA := XW.out v10 hA10.below
          clear hM hb x0 x1 x2 x3 y0 y1 y2 y3 K9 H19 hA9 XW
          go_wp2_with fail
          refine hWA.mono ?_
          rintro e v11 ⟨rfl, hb⟩
          have hA11 := hA10.step hb
          clear hWA hb q0 q1 q2 q3 q4
          go_wp2
          go_ret
          exact ⟨rfl, hA11.below⟩
end Go.Proofs.YteflknfejjdkfabGreat

namespace Go.Proofs.YteflknfejjdkfabGreat
open Go.RowKit Go.Lib

/-- What 'lives' answers. -/
def LivesW : Prop := ∀ w : World, Calls Tryz.prog 4 #[] w fun e w' => e = .returned (.bool true) ∧ Below w.heap.size w w'

set_option maxRecDepth 100000 in
set_option maxHeartbeats 4000000 in
theorem alls_walk (o : Option Addr) (cap n : Nat) (root cur sh : Int) (ro : Option Addr) (rc k : Nat) (way E : Int) (L : List Int) (w : World) (HL : LivesW) (hl : L.length ≤ 1099511627776)
    (HA : ∀ W : World, Below w.heap.size w W → Calls Tryz.prog 6 #[.agg #[.slice o n cap], .agg #[.int .i64 root, .int .i64 cur, .int .u32 sh, .slice ro k rc], .int .u8 way] W fun e w' => ∃ v, e = .returned (.tuple #[v, .int .i64 E]) ∧ RdI w' v L ∧ Below W.heap.size W w')
    (HB : ∀ W : World, Below w.heap.size w W → Calls Tryz.prog 22 #[.agg #[.slice o n cap], .agg #[.int .i64 root, .int .i64 cur, .int .u32 sh, .slice ro k rc], .int .u8 way] W fun e w' => ∃ v, e = .returned (.tuple #[v, .int .i64 E]) ∧ RdI w' v L ∧ Below W.heap.size W w') :
    Calls Tryz.prog 9 #[.agg #[.slice o n cap], .agg #[.int .i64 root, .int .i64 cur, .int .u32 sh, .slice ro k rc], .int .u8 way] w fun e w' => e = .returned (.bool true) ∧ Below w.heap.size w w' := by
  have hA0 := AtF.first w (.slice o n cap) (.int .i64 root) (.int .i64 cur) (.int .u32 sh) (.slice ro k rc)
  have hA := HA _ hA0.below
  have XB := hid HB
  have XL := hid HL
  have hEE : (E == E) = true := beq_self_eq_true _
  clear HA HB HL
  go_enter Tryz.func9, Tryz.ntmps9
  go_wp2_with fail
  refine hA.mono ?_
  rintro e v1 ⟨va, rfl, ha, hb⟩
  have hA1 := hA0.step hb
  clear hA hb hA0
  obtain ⟨q0, q1, q2, q3, q4⟩ := hA1.cells
  have hB := XB.out v1 hA1.below
  clear XB
  go_wp2_with fail
  refine hB.mono ?_
  rintro e v2 ⟨vb, rfl, hb2, hb⟩
  have hA2 := hA1.step hb
  have ha2 := ha.later hb
  have hL := XL.out v2
  clear hB hb ha q0 q1 q2 q3 q4 hA1 XL
  go_wp2_with fail
  refine hL.mono ?_
  rintro e v3 ⟨rfl, hb⟩
  have hA3 := hA2.step hb
  have hI := ints3_any va vb L L v3 (ha2.later hb) (hb2.later hb) hl
  clear hL hb ha2 hb2 hA2
  go_wp2_with fail
  refine hI.mono ?_
  rintro e v4 ⟨rfl, hb⟩
  rw [beq_self_eq_true]
  go_wp2
  go_ret
  exact ⟨rfl, (hA3.step hb).below⟩

theorem walkAlls_law (HL : LivesW) (o : Option Addr) (cap : Nat) (ns : List NodeD) (root cur : Int) (sh : Nat) (ro : Option Addr) (rc : Nat) (rules : List RuleD) (way : Nat) (w : World) (hF : FRd w o cap ns) (hkl : ∀ (i : Nat) (hi : i < ns.length), ns[i].kids.length ≤ 1099511627776) (hal : ∀ (i : Nat) (hi : i < ns.length), ns[i].attrs.length ≤ 1099511627776) (hru : RdR w (.slice ro rules.length rc) rules) (hrl : rules.length ≤ 1099511627776) (hs : sh < 4294967296) (h256 : way < 256) :
    Calls Tryz.prog 9 #[.agg #[.slice o ns.length cap], .agg #[.int .i64 root, .int .i64 cur, .int .u32 (sh : Int), .slice ro rules.length rc], .int .u8 (way : Int)] w fun e w' => e = .returned (.bool true) ∧ Below w.heap.size w w' := by
  by_cases hE : stepE ns root cur rules way = 0
  · have hE0 : wrongE ns [root, cur] rules = 0 ∧ isWay way = true := by
      have h1 := hE
      unfold stepE at h1
      split at h1
      · rename_i h
        refine ⟨h, ?_⟩
        cases hw : isWay way with
        | true => rfl
        | false => rw [hw] at h1; exact absurd h1 (by decide)
      · rename_i h; exact absurd h1 h
    obtain ⟨hR, hth, hfe⟩ := wrongE_ok hE0.1
    have hrt := hth root (by simp)
    have hct := hth cur (by simp)
    obtain ⟨j, hj, _⟩ := there_idx hrt
    obtain ⟨b, off, rfl, hFA⟩ := hF.at_ (by omega)
    refine alls_walk _ cap ns.length root cur sh ro rc rules.length way 0 (reachD ns root sh rules way cur) w HL ?_ (fun W hW => ?_) (fun W hW => ref13All_ok b off cap ns root cur sh ro rc rules way W (hFA.later hW) hkl hal (hru.later hW) hrl hs hE)
    · have h1 := reachD_few hR hrt sh rules hE0.2 hct
      have h2 := hR.small
      omega
    · refine (All_ok b off cap ns root cur sh ro rc rules way W (hFA.later hW) hkl hal (hru.later hW) hrl hs hE).mono fun e w' h => ?_
      obtain ⟨v, h1, h2, h3⟩ := h
      exact ⟨v, h1, ownsRow_rdI h2, h3⟩
  · refine alls_walk o cap ns.length root cur sh ro rc rules.length way (stepE ns root cur rules way) [] w HL (Nat.zero_le _) (fun W hW => ?_) (fun W hW => ?_)
    · refine (All_err o cap ns root cur sh ro rc rules way W (hF.later hW) hkl hal (hru.later hW) hrl h256 hE).mono fun e w' h => ?_
      exact ⟨_, h.1, nil_rdI _, h.2⟩
    · refine (ref13All_err o cap ns root cur sh ro rc rules way W (hF.later hW) hkl hal (hru.later hW) hrl hE).mono fun e w' h => ?_
      exact ⟨_, h.1, nil_rdI _, h.2⟩
end Go.Proofs.YteflknfejjdkfabGreat

namespace Go.Proofs.YteflknfejjdkfabGreat
open Go.RowKit Go.Lib Go.Shelf

theorem walkOwn_law (HL : LivesW) (o : Option Addr) (cap : Nat) (ns : List NodeD) (root cur : Int) (sh : Nat) (ro : Option Addr) (rc : Nat) (rules : List RuleD) (way : Nat) (w : World) (hF : FRd w o cap ns) (hkl : ∀ (i : Nat) (hi : i < ns.length), ns[i].kids.length ≤ 1099511627776) (hal : ∀ (i : Nat) (hi : i < ns.length), ns[i].attrs.length ≤ 1099511627776) (hru : RdR w (.slice ro rules.length rc) rules) (hrl : rules.length ≤ 1099511627776) (hs : sh < 4294967296) (h256 : way < 256) :
    Calls Tryz.prog 3 #[.agg #[.slice o ns.length cap], .agg #[.int .i64 root, .int .i64 cur, .int .u32 (sh : Int), .slice ro rules.length rc], .int .u8 (way : Int)] w fun e w' => e = .returned (.bool true) ∧ Below w.heap.size w w' := by
  have hWA : ∀ W : World, Below w.heap.size w W → _ := fun W hW => walkAlls_law HL o cap ns root cur sh ro rc rules way W (hF.later hW) hkl hal (hru.later hW) hrl hs h256
  by_cases hE : stepE ns root cur rules way = 0
  · have hE0 : wrongE ns [root, cur] rules = 0 ∧ isWay way = true := by
      have h1 := hE
      unfold stepE at h1
      split at h1
      · rename_i h
        refine ⟨h, ?_⟩
        cases hw : isWay way with
        | true => rfl
        | false => rw [hw] at h1; exact absurd h1 (by decide)
      · rename_i h; exact absurd h1 h
    obtain ⟨hR, hth, hfe⟩ := wrongE_ok hE0.1
    have hrt := hth root (by simp)
    have hct := hth cur (by simp)
    obtain ⟨j, hj, _⟩ := there_idx hrt
    obtain ⟨b, off, rfl, hFA⟩ := hF.at_ (by omega)
    have hfew := reachD_few hR hrt sh rules hE0.2 hct
    have hsm := hR.small
    exact own_walk _ cap ns.length root cur sh ro rc rules way root (if stepD ns root sh rules way cur = 0 then cur else stepD ns root sh rules way cur) sh rules (stepD ns root sh rules way cur) 0 0 (reachD ns root sh rules way cur) w HL hru hrl hrl (by omega) (fun W hW => Step_ok b off cap ns root cur sh ro rc rules way W (hFA.later hW) hkl hal (hru.later hW) hrl hs hE) (fun W hW => All_ok b off cap ns root cur sh ro rc rules way W (hFA.later hW) hkl hal (hru.later hW) hrl hs hE) (fun W vo vc hW hv => (ref13Step_ok b off cap ns root cur sh vo vc rules way W (hFA.later hW) hkl hal hv hrl hs hE).mono fun e w' h => by
      obtain ⟨vo', vc', h1, h2, h3⟩ := h
      exact ⟨vo', vc', h1, own_rules h2, h3⟩) hWA
  · exact own_walk o cap ns.length root cur sh ro rc rules way 0 0 0 [] 0 (stepE ns root cur rules way) (stepE ns root cur rules way) [] w HL hru hrl (Nat.zero_le _) (Nat.zero_le _) (fun W hW => (Step_err o cap ns root cur sh ro rc rules way W (hF.later hW) hkl hal (hru.later hW) hrl h256 hE).mono fun e w' h => ⟨none, 0, h.1, World.ownsRow_nil _ _ _ _, h.2⟩) (fun W hW => (All_err o cap ns root cur sh ro rc rules way W (hF.later hW) hkl hal (hru.later hW) hrl h256 hE).mono fun e w' h => ⟨.slice none 0 0, h.1, World.ownsRow_nil _ _ _ _, h.2⟩) (fun W vo vc hW hv => (ref13Step_err o cap ns root cur sh vo vc rules way W (hF.later hW) hkl hal hv hrl hE).mono fun e w' h => ⟨none, 0, h.1, nil_rdR _, h.2⟩) hWA
end Go.Proofs.YteflknfejjdkfabGreat

namespace Go.Proofs.YteflknfejjdkfabGreat
open Go.RowKit Go.Lib Go.ChangeShapes Go.WideShapes Go.ChangeAt

theorem Tryz.ownWalkOwn : ownKnob Tryz.prog.godebug = none := by kernel_rfl

set_option maxRecDepth 100000 in
theorem walkOwn_lifted (HL : LivesW) (os : Os) (started : os.Started) (H : Type) (enc : TypeId × Value → H) (F : Stop.Interp) :
    ReturnsInHanded {} Tryz.checked os 3 .any ((Rows.OpenSpec.upto Rows.walkOwnSpec).pre6 enc Tryz.prog Tryz.f3 Rows.walkOwnUptoRow.domain false) (((Rows.OpenSpec.upto Rows.walkOwnSpec).at F).post enc Tryz.prog Tryz.f3 false true false false) := by
  refine returnsInHanded_of_cond (C := Tryz.checked) (s := Rows.OpenSpec.upto Rows.walkOwnSpec) (k := Rows.uptoSmall) rfl Tryz.ownWalkOwn started (by kernel_rfl) Tryz.func3
    (OpenSpec.witness (enc := enc) (C := Tryz.checked) (s := Rows.OpenSpec.upto Rows.walkOwnSpec) (k := Rows.uptoSmall) rfl false ⟨#[], #[.agg #[.slice none 0 0], .agg #[.int .i64 0, .int .i64 0, .int .u32 0, .slice none 0 0], .int .u8 0], []⟩ 8 (by kernel_rfl) (by kernel_rfl) (by kernel_rfl)
      (x := ([.agg [.nil], .agg [.lit (.int .i64 0), .lit (.int .i64 0), .agg [.lit (.int .u32 0), .nil]], .lit (.int .u8 0)], [], [])) (by kernel_rfl) rfl (by kernel_rfl)) ?_
  intro W base args ds gs before hval0 hW _ hk _
  have hval : ∀ (j : Nat) t v, Tryz.f3.params[j]? = some t → args[j]? = some v → Value.okWide Tryz.prog W .any base t v := hval0
  have hW' := hW
  obtain ⟨p, q, hA0, hV, rfl, _, _⟩ := hW
  have hA : DataW.TrodAll enc Tryz.prog W 0 (fun _ => true) true Tryz.f3.params.toList args.toList ds p := hA0
  rw [Tryz.params3] at hA hval
  obtain ⟨v0, vs0, d0, ds0, p0, q0, hargs, rfl, rfl, h0, r0t⟩ := trodAll_cons hA
  obtain ⟨v1, vs1, d1, ds1, p1, q1, rfl, rfl, rfl, h1, r1t⟩ := trodAll_cons r0t
  obtain ⟨v2, vs2, d2, ds2, p2, q2, rfl, rfl, rfl, h2, r2t⟩ := trodAll_cons r1t
  obtain ⟨rfl, rfl, rfl⟩ := trodAll_nil r2t
  obtain rfl : args = #[v0, v1, v2] := by cases args; simp_all
  obtain ⟨rfl, rfl⟩ := trodVars_none hV
  obtain ⟨o0, cap0, ns0, rfl, hF0, bn0, bk0⟩ := open_forest (hval 0 24 v0 rfl rfl) h0
  obtain ⟨root1, cur1, sh1, ro1, rc1, rules1, rfl, hs1, hru1, br1⟩ := open_walker (hval 1 30 v1 rfl rfl) h1
  obtain ⟨way2, rfl, hy2⟩ := open_way (hval 2 31 v2 rfl rfl) h2
  have hkk := of_decide_eq_true hk
  simp [Rows.uptoBulkAll] at hkk
  have hlt := hW'.lt
  refine (walkOwn_law HL o0 cap0 ns0 root1 cur1 sh1 ro1 rc1 rules1 way2 W (hF0 (by omega)) (fun i hi => by have := (bk0 i hi).1; omega) (fun i hi => by have := (bk0 i hi).2; omega) hru1 (by omega) hs1 hy2).mono fun e W' ⟨he, hb⟩ => ?_
  subst he
  exact ⟨_, rfl, _, _, _, [], _, [], hW', trodAll_mk1 (shut_bool Tryz.underlying4 _), trodAll_cons_mk (Below.trod Tryz.fLaidOut (by kernel_rfl) (of_decide_eq_true (by kernel_rfl)) h0 hb (fun y hy => hlt y (by simp [hy]))) (trodAll_cons_mk (Below.trod Tryz.fLaidOut (by kernel_rfl) (of_decide_eq_true (by kernel_rfl)) h1 hb (fun y hy => hlt y (by simp [hy]))) (trodAll_cons_mk (Below.trod Tryz.fLaidOut (by kernel_rfl) (of_decide_eq_true (by kernel_rfl)) h2 hb (fun y hy => hlt y (by simp [hy]))) trodAll_mk0)), rfl, hb.frame _, fun h => by cases h⟩

theorem walkOwn_upto : Rows.WalkOwnUptoSaid :=
  OpenClaim.holds_of_cond 3 Tryz.f3 rfl rfl rfl rfl rfl rfl rfl ⟨rfl, rfl, rfl, rfl, rfl⟩ rfl rfl rfl rfl rfl (by kernel_rfl) Tryz.func3 (by kernel_rfl)
    (of_decide_eq_true (by kernel_rfl)) (by unfold Func.isWrapper; first | (rw [if_pos (by decide +kernel)]; kernel_rfl) | (rw [if_neg (by decide +kernel)]; exact ⟨rfl, rfl⟩))
    (fun os started H enc _ F => walkOwn_lifted (livesW_true treeW_any) os started H enc F)
end Go.Proofs.YteflknfejjdkfabGreat
