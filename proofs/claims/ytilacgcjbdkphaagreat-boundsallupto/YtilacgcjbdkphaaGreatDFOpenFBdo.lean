/- Forests that are handed in: opened; what the bound says of them. -/
/- Points and ranges that are handed in: opened. -/
import Derived.Test.YtilacgcjbdkphaaGreatFSurW
import Derived.Test.YtilacgcjbdkphaaGreatRows
import Derived.ProofKit
import Derived.ChangeSlices
import Derived.Deep.Slices
import Derived.Carry
import Derived.OpenShut
import Derived.Test.YtilacgcjbdkphaaGreatDFBd3FBdp
namespace Go.Proofs.YtilacgcjbdkphaaGreat
open Go.RowKit Go.Lib Go.ChangeShapes Go.WideShapes Go.ChangeAt

theorem Tryz.fLaidOut : laidOutB Tryz.prog = true := by kernel_rfl
theorem Tryz.fCellsInt : Tryz.prog.cellsOf 3 = 1 := by kernel_rfl
theorem Tryz.fCellsU16 : Tryz.prog.cellsOf 70 = 1 := by kernel_rfl
theorem Tryz.fCellsAttr : Tryz.prog.cellsOf 125 = 4 := by kernel_rfl
theorem Tryz.fCellsNode : Tryz.prog.cellsOf 64 = 16 := by kernel_rfl
theorem Tryz.fCellsName : Tryz.prog.cellsOf 60 = 3 := by kernel_rfl
theorem Tryz.fCellsForest : Tryz.prog.cellsOf 24 = 1 := by kernel_rfl

theorem bulk_of {H : Type} {d : DataW H} : ∀ {l : List (DataW H)}, d ∈ l → Rows.uptoBulk d ≤ Rows.uptoBulkAll l
  | [], h => by cases h
  | x :: r, h => by
    simp only [Rows.uptoBulkAll]
    rcases List.mem_cons.1 h with rfl | h
    · omega
    · have := bulk_of h
      omega
theorem bulk_pos {H : Type} (d : DataW H) : 1 ≤ Rows.uptoBulk d := by
  cases d with
  | lit l => cases l <;> simp [Rows.uptoBulk]
  | nil => simp [Rows.uptoBulk]
  | ptr d => simp [Rows.uptoBulk]
  | slice elems spare => simp [Rows.uptoBulk]
  | agg parts => simp [Rows.uptoBulk]
  | iface t d => simp [Rows.uptoBulk]
  | map entries => simp [Rows.uptoBulk]
  | held h => simp [Rows.uptoBulk]
theorem bulk_many {H : Type} : ∀ l : List (DataW H), l.length ≤ Rows.uptoBulkAll l
  | [] => Nat.zero_le _
  | x :: r => by
    have := bulk_many r
    have := bulk_pos x
    simp only [Rows.uptoBulkAll, List.length_cons]
    omega
theorem addr_at {W : World} {a : Addr} {j : Nat} {v : Value} (h : W.cell? (a.add j) = some v) (hs : a.spot = none) : W.cell? ⟨a.block, a.off + j, none⟩ = some v := by
  unfold Addr.add at h
  by_cases h0 : j = 0
  · subst h0
    rw [if_pos rfl] at h
    obtain ⟨b, o, s⟩ := a
    simp only at hs ⊢
    subst hs
    exact h
  · rw [if_neg h0] at h
    exact h
theorem addr_spot {W : World} {a : Addr} {v : Value} (h : W.cell? (a.add 0) = some v) : a.spot = none := World.cell?_spot (by simpa [Addr.add] using h)
theorem addr_lt {W : World} {b o : Nat} {v : Value} (h : W.cell? ⟨b, o, none⟩ = some v) : b < W.heap.size := by
  by_cases hlt : b < W.heap.size
  · exact hlt
  · have hnone : W.heap[b]? = none := Array.getElem?_eq_none (by omega)
    unfold World.cell? at h
    simp only [hnone] at h
    cases h

theorem list_1 {α : Type} {l : List α} (h : l.length = 1) : ∃ a0, l = [a0] := by
  match l, h with
  | [a0], _ => exact ⟨a0, rfl⟩
theorem list_2 {α : Type} {l : List α} (h : l.length = 2) : ∃ a0 a1, l = [a0, a1] := by
  match l, h with
  | [a0, a1], _ => exact ⟨a0, a1, rfl⟩
theorem list_3 {α : Type} {l : List α} (h : l.length = 3) : ∃ a0 a1 a2, l = [a0, a1, a2] := by
  match l, h with
  | [a0, a1, a2], _ => exact ⟨a0, a1, a2, rfl⟩
theorem list_4 {α : Type} {l : List α} (h : l.length = 4) : ∃ a0 a1 a2 a3, l = [a0, a1, a2, a3] := by
  match l, h with
  | [a0, a1, a2, a3], _ => exact ⟨a0, a1, a2, a3, rfl⟩
theorem list_14 {α : Type} {l : List α} (h : l.length = 14) : ∃ a0 a1 a2 a3 a4 a5 a6 a7 a8 a9 a10 a11 a12 a13, l = [a0, a1, a2, a3, a4, a5, a6, a7, a8, a9, a10, a11, a12, a13] := by
  match l, h with
  | [a0, a1, a2, a3, a4, a5, a6, a7, a8, a9, a10, a11, a12, a13], _ => exact ⟨a0, a1, a2, a3, a4, a5, a6, a7, a8, a9, a10, a11, a12, a13, rfl⟩
theorem list_16 {α : Type} {l : List α} (h : l.length = 16) : ∃ a0 a1 a2 a3 a4 a5 a6 a7 a8 a9 a10 a11 a12 a13 a14 a15, l = [a0, a1, a2, a3, a4, a5, a6, a7, a8, a9, a10, a11, a12, a13, a14, a15] := by
  match l, h with
  | [a0, a1, a2, a3, a4, a5, a6, a7, a8, a9, a10, a11, a12, a13, a14, a15], _ => exact ⟨a0, a1, a2, a3, a4, a5, a6, a7, a8, a9, a10, a11, a12, a13, a14, a15, rfl⟩

section
variable {H : Type} {enc : TypeId × Value → H} {W : World}

theorem field_read {P : Program} {n : Nat} {cs : List Value} {fs : Array Field} {xs : List (DataW H × List MemPlace)} (hf : ∀ (i : Nat) (f : Field), fs[i]? = some f → DataW.trod enc P W 0 (fun _ => true) true n f.type ((cs.drop f.offset).take (P.cellsOf f.type)) = xs[i]?) (i t off : Nat) (h : (fs[i]?).map (fun f => (f.type, f.offset)) = some (t, off)) : DataW.trod enc P W 0 (fun _ => true) true n t ((cs.drop off).take (P.cellsOf t)) = xs[i]? := by
  cases hi : fs[i]? with
  | none => rw [hi] at h; cases h
  | some f =>
    rw [hi] at h
    simp only [Option.map_some, Option.some.injEq, Prod.mk.injEq] at h
    have := hf i f hi
    rw [h.1, h.2] at this
    exact this

theorem open_rdI {fuel : Nat} {cs : List Value} {x : DataW H × List MemPlace} (h : DataW.trod enc Tryz.prog W 0 (fun _ => true) true fuel 32 cs = some x) :
    ∃ v l, cs = [v] ∧ RdI W v l ∧ l.length ≤ Rows.uptoBulk x.1 := by
  rcases open_ints Tryz.underlying32 Tryz.underlying3 Tryz.fCellsInt h with ⟨rfl, _⟩ | ⟨a, len, cap, zs, rfl, _, hl, _, hz, hx, hcell, _⟩
  · exact ⟨_, [], rfl, ⟨none, 0, rfl, Nat.le_refl _, fun h => absurd h (Nat.lt_irrefl _)⟩, Nat.zero_le _⟩
  · have hz' : zs.length = cap := by simpa using hz
    have hul : (zs.take len).length = len := by rw [List.length_take]; omega
    refine ⟨_, zs.take len, rfl, ⟨some a, cap, by rw [hul], by omega, fun hp => ?_⟩, ?_⟩
    · rw [hul] at hp
      have hs := addr_spot (hcell 0 (by omega))
      have hc : ∀ (j : Nat) (h : j < (zs.take len).length), W.cell? ⟨a.block, a.off + j, none⟩ = some (.int .i64 (zs.take len)[j]) := fun j hj => by
        rw [hul] at hj
        have hjz : j < zs.length := by omega
        rw [addr_at (hcell j hjz) hs]
        simp [List.getD, hjz]
      refine ⟨a.block, a.off, ?_, addr_lt (hc 0 (by omega)), hc⟩
      obtain ⟨b, o, s⟩ := a
      simp only at hs
      subst hs
      rfl
    · rw [hx, hul]
      have hm := bulk_many (H := H) (lits .i64 (zs.take len))
      have hll : (lits (H := H) .i64 (zs.take len)).length = len := by unfold lits; rw [List.length_map, hul]
      simp only [Rows.uptoBulk]
      omega
theorem open_rdN {fuel : Nat} {cs : List Value} {x : DataW H × List MemPlace} (h : DataW.trod enc Tryz.prog W 0 (fun _ => true) true fuel 53 cs = some x) :
    ∃ v l, cs = [v] ∧ RdN W v l ∧ l.length ≤ Rows.uptoBulk x.1 := by
  rcases open_ints Tryz.underlying53 Tryz.underlying70 Tryz.fCellsU16 h with ⟨rfl, _⟩ | ⟨a, len, cap, zs, rfl, _, hl, _, hz, hx, hcell, hwz⟩
  · exact ⟨_, [], rfl, ⟨none, 0, rfl, Nat.le_refl _, fun h => absurd h (Nat.lt_irrefl _)⟩, Nat.zero_le _⟩
  · have hz' : zs.length = cap := by simpa using hz
    have hul : ((zs.take len).map Int.toNat).length = len := by rw [List.length_map, List.length_take]; omega
    refine ⟨_, (zs.take len).map Int.toNat, rfl, ⟨some a, cap, by rw [hul], by omega, fun hp => ?_⟩, ?_⟩
    · rw [hul] at hp
      have hs := addr_spot (hcell 0 (by omega))
      have hc : ∀ (j : Nat) (h : j < ((zs.take len).map Int.toNat).length), W.cell? ⟨a.block, a.off + j, none⟩ = some (.int .u16 (((zs.take len).map Int.toNat)[j] : Int)) := fun j hj => by
        rw [hul] at hj
        have hjz : j < zs.length := by omega
        have hw := hwz zs[j] (List.getElem_mem hjz)
        have hnn : 0 ≤ zs[j] := by
          simp [Lit.wf, IntKind.min, IntKind.max, IntKind.signed, IntKind.bits] at hw
          omega
        rw [addr_at (hcell j hjz) hs]
        simp [List.getD, hjz]
        omega
      refine ⟨a.block, a.off, ?_, addr_lt (hc 0 (by omega)), hc⟩
      obtain ⟨b, o, s⟩ := a
      simp only at hs
      subst hs
      rfl
    · rw [hx, hul]
      have hm := bulk_many (H := H) (lits .u16 (zs.take len))
      have hll : (lits (H := H) .u16 (zs.take len)).length = len := by unfold lits; rw [List.length_map, List.length_take]; omega
      simp only [Rows.uptoBulk]
      omega
instance : Inhabited AttrD := ⟨⟨⟨#[]⟩, ⟨#[]⟩, ⟨#[]⟩, ⟨#[]⟩⟩⟩
instance : Inhabited NodeD := ⟨⟨0, ⟨#[]⟩, ⟨#[]⟩, ⟨#[]⟩, ⟨#[]⟩, ⟨#[]⟩, [], [], 0, [], 0, 0, 0, 0, false, false⟩⟩

theorem open_name {fuel : Nat} {cs : List Value} {x : DataW H × List MemPlace} (h : DataW.trod enc Tryz.prog W 0 (fun _ => true) true fuel 60 cs = some x) :
    ∃ a b c, cs = [.string a, .string b, .string c] := by
  obtain ⟨xs, n, _, _, hl, hxl, hf⟩ := DataW.trod_struct Tryz.underlying60 h
  rw [Tryz.fCellsName] at hl
  simp only [List.size_toArray, List.length_cons, List.length_nil] at hxl
  obtain ⟨v0, v1, v2, rfl⟩ := list_3 hl
  obtain ⟨y0, y1, y2, rfl⟩ := list_3 hxl
  have f0 := field_read hf 0 9 0 rfl
  have f1 := field_read hf 1 9 1 rfl
  have f2 := field_read hf 2 9 2 rfl
  simp only [show Tryz.prog.cellsOf 9 = 1 by kernel_rfl] at f0 f1 f2
  obtain ⟨s0, e0, _⟩ := DataW.trod_string Tryz.underlying9 f0
  obtain ⟨s1, e1, _⟩ := DataW.trod_string Tryz.underlying9 f1
  obtain ⟨s2, e2, _⟩ := DataW.trod_string Tryz.underlying9 f2
  simp only [List.drop_zero, List.take_succ_cons, List.take_zero, List.drop_succ_cons, List.cons.injEq, and_true] at e0 e1 e2
  exact ⟨s0, s1, s2, by rw [e0, e1, e2]⟩
theorem open_attr {fuel : Nat} {cs : List Value} {x : DataW H × List MemPlace} (h : DataW.trod enc Tryz.prog W 0 (fun _ => true) true fuel 125 cs = some x) :
    ∃ a : AttrD, cs = [.string a.space, .string a.pre, .string a.loc, .string a.val] := by
  obtain ⟨xs, n, _, _, hl, hxl, hf⟩ := DataW.trod_struct Tryz.underlying125 h
  rw [Tryz.fCellsAttr] at hl
  simp only [List.size_toArray, List.length_cons, List.length_nil] at hxl
  obtain ⟨v0, v1, v2, v3, rfl⟩ := list_4 hl
  obtain ⟨y0, y1, rfl⟩ := list_2 hxl
  have f0 := field_read hf 0 60 0 rfl
  have f1 := field_read hf 1 9 3 rfl
  simp only [Tryz.fCellsName, show Tryz.prog.cellsOf 9 = 1 by kernel_rfl] at f0 f1
  obtain ⟨a, b, c, e0⟩ := open_name f0
  obtain ⟨s1, e1, _⟩ := DataW.trod_string Tryz.underlying9 f1
  simp only [List.drop_zero, List.take_succ_cons, List.take_zero, List.drop_succ_cons, List.cons.injEq, and_true] at e0 e1
  exact ⟨⟨a, b, c, s1⟩, by rw [e0.1, e0.2.1, e0.2.2, e1]⟩
theorem open_rdA {fuel : Nat} {cs : List Value} {x : DataW H × List MemPlace} (h : DataW.trod enc Tryz.prog W 0 (fun _ => true) true fuel 61 cs = some x) :
    ∃ v l, cs = [v] ∧ RdA W v l ∧ l.length ≤ Rows.uptoBulk x.1 := by
  rcases Deep.open_slice Tryz.underlying61 h with ⟨rfl, _⟩ | ⟨a, len, cap, m, n, D, Pl, rfl, _, hl, _, hm, hx, hcell⟩
  · exact ⟨_, [], rfl, ⟨none, 0, rfl, Nat.le_refl _, fun h => absurd h (Nat.lt_irrefl _)⟩, Nat.zero_le _⟩
  · have hmc : m = cap := by simpa using hm
    subst hmc
    rw [Tryz.fCellsAttr] at hcell
    obtain ⟨f, hf⟩ := Deep.choose_lt (α := AttrD) (n := len) (p := fun i t => ∀ k v, [Value.string t.space, .string t.pre, .string t.loc, .string t.val][k]? = some v → W.cell? ((a.add (i * 4)).add k) = some v) (fun i hi => by
      obtain ⟨cs', h1, h2⟩ := hcell i (by omega)
      obtain ⟨t, rfl⟩ := open_attr h2
      obtain ⟨_, _, h3⟩ := World.cells?_some h1
      refine ⟨t, fun k v hk => ?_⟩
      have hlt : k < 4 := (List.getElem?_eq_some_iff.1 hk).1
      rw [h3 k hlt, hk])
    have hul : ((List.range len).map f).length = len := by simp
    refine ⟨_, (List.range len).map f, rfl, ⟨some a, m, by rw [hul], by omega, fun hp => ?_⟩, ?_⟩
    · rw [hul] at hp
      have h0 := hf 0 hp 0 _ rfl
      rw [Nat.zero_mul] at h0
      have e0 : (a.add 0).add 0 = a.add 0 := by simp [Addr.add]
      rw [e0] at h0
      have hs := addr_spot h0
      have hc : ∀ (j k : Nat) (v : Value), j < len → [Value.string (f j).space, .string (f j).pre, .string (f j).loc, .string (f j).val][k]? = some v → W.cell? ⟨a.block, a.off + j * 4 + k, none⟩ = some v := fun j k v hj hk => by
        have h1 := hf j hj k v hk
        rw [Deep.add_add] at h1
        have := addr_at h1 hs
        rw [show a.off + j * 4 + k = a.off + (j * 4 + k) by omega]
        exact this
      refine ⟨a.block, a.off, ?_, addr_lt (hc 0 0 _ hp rfl), fun j hj => ?_⟩
      · obtain ⟨b, o, s⟩ := a
        simp only at hs
        subst hs
        rfl
      · rw [hul] at hj
        have e : ((List.range len).map f)[j]'(by rw [hul]; exact hj) = f j := by simp
        rw [e]
        exact ⟨hc j 0 _ hj rfl, hc j 1 _ hj rfl, hc j 2 _ hj rfl, hc j 3 _ hj rfl⟩
    · rw [hx, hul]
      have hm := bulk_many (H := H) ((List.range len).map D)
      simp only [List.length_map, List.length_range] at hm
      simp only [Rows.uptoBulk]
      omega
set_option maxRecDepth 100000 in
/-- A node that is read. -/
theorem open_node {fuel : Nat} {cs : List Value} {x : DataW H × List MemPlace} (h : DataW.trod enc Tryz.prog W 0 (fun _ => true) true fuel 64 cs = some x) :
    ∃ (n : NodeD) (L : Lists), cs = [.int .u8 (n.kind : Int), .string n.space, .string n.pre, .string n.loc, .string n.pub, .string n.sys, L.data, L.attrs, .int .i64 n.parent, L.kids, .int .i64 n.doc, .int .i64 n.host, .int .i64 n.shadow, .int .u8 (n.mode : Int), .bool n.manual, .bool n.html] ∧
      RdN W L.data n.data ∧ RdA W L.attrs n.attrs ∧ RdI W L.kids n.kids ∧ n.kids.length ≤ Rows.uptoBulk x.1 ∧ n.attrs.length ≤ Rows.uptoBulk x.1 ∧ n.data.length ≤ Rows.uptoBulk x.1 := by
  obtain ⟨xs, n, _, hx, hl, hxl, hf⟩ := DataW.trod_struct Tryz.underlying64 h
  rw [Tryz.fCellsNode] at hl
  simp only [List.size_toArray, List.length_cons, List.length_nil] at hxl
  obtain ⟨v0, v1, v2, v3, v4, v5, v6, v7, v8, v9, v10, v11, v12, v13, v14, v15, rfl⟩ := list_16 hl
  obtain ⟨y0, y1, y2, y3, y4, y5, y6, y7, y8, y9, y10, y11, y12, y13, rfl⟩ := list_14 hxl
  have f0 := field_read hf 0 58 0 rfl
  have f1 := field_read hf 1 60 1 rfl
  have f2 := field_read hf 2 9 4 rfl
  have f3 := field_read hf 3 9 5 rfl
  have f4 := field_read hf 4 53 6 rfl
  have f5 := field_read hf 5 61 7 rfl
  have f6 := field_read hf 6 3 8 rfl
  have f7 := field_read hf 7 32 9 rfl
  have f8 := field_read hf 8 3 10 rfl
  have f9 := field_read hf 9 3 11 rfl
  have f10 := field_read hf 10 3 12 rfl
  have f11 := field_read hf 11 62 13 rfl
  have f12 := field_read hf 12 4 14 rfl
  have f13 := field_read hf 13 4 15 rfl
  clear hf h
  simp only [Tryz.fCellsName, Tryz.fCellsInt, show Tryz.prog.cellsOf 9 = 1 by kernel_rfl, show Tryz.prog.cellsOf 4 = 1 by kernel_rfl, show Tryz.prog.cellsOf 58 = 1 by kernel_rfl, show Tryz.prog.cellsOf 62 = 1 by kernel_rfl, show Tryz.prog.cellsOf 53 = 1 by kernel_rfl, show Tryz.prog.cellsOf 61 = 1 by kernel_rfl, show Tryz.prog.cellsOf 32 = 1 by kernel_rfl] at f0 f1 f2 f3 f4 f5 f6 f7 f8 f9 f10 f11 f12 f13
  obtain ⟨k0, e0, _, w0⟩ := DataW.trod_int Tryz.underlying58 f0
  obtain ⟨s1, s2, s3, e1⟩ := open_name f1
  obtain ⟨s4, e2, _⟩ := DataW.trod_string Tryz.underlying9 f2
  obtain ⟨s5, e3, _⟩ := DataW.trod_string Tryz.underlying9 f3
  obtain ⟨vd, ld, e4, r4, b4⟩ := open_rdN f4
  obtain ⟨va, la, e5, r5, b5⟩ := open_rdA f5
  obtain ⟨k6, e6, _⟩ := DataW.trod_int Tryz.underlying3 f6
  obtain ⟨vk, lk, e7, r7, b7⟩ := open_rdI f7
  obtain ⟨k8, e8, _⟩ := DataW.trod_int Tryz.underlying3 f8
  obtain ⟨k9, e9, _⟩ := DataW.trod_int Tryz.underlying3 f9
  obtain ⟨k10, e10, _⟩ := DataW.trod_int Tryz.underlying3 f10
  obtain ⟨k11, e11, _, w11⟩ := DataW.trod_int Tryz.underlying62 f11
  obtain ⟨m12, e12, _⟩ := DataW.trod_bool Tryz.underlying4 f12
  obtain ⟨m13, e13, _⟩ := DataW.trod_bool Tryz.underlying4 f13
  simp only [List.drop_zero, List.take_succ_cons, List.take_zero, List.drop_succ_cons, List.cons.injEq, and_true] at e0 e1 e2 e3 e4 e5 e6 e7 e8 e9 e10 e11 e12 e13
  have n0 : ((k0.toNat : Nat) : Int) = k0 := by
    simp [Lit.wf, IntKind.min, IntKind.max, IntKind.signed, IntKind.bits] at w0
    omega
  have n11 : ((k11.toNat : Nat) : Int) = k11 := by
    simp [Lit.wf, IntKind.min, IntKind.max, IntKind.signed, IntKind.bits] at w11
    omega
  refine ⟨⟨k0.toNat, s1, s2, s3, s4, s5, ld, la, k6, lk, k8, k9, k10, k11.toNat, m12, m13⟩, ⟨vd, va, vk⟩, ?_, r4, r5, r7, ?_, ?_, ?_⟩
  · rw [e0, e1.1, e1.2.1, e1.2.2, e2, e3, e4, e5, e6, e7, e8, e9, e10, e11, e12, e13]
    simp only [n0, n11]
  · rw [hx]
    have := bulk_of (d := y7.1) (l := [y0, y1, y2, y3, y4, y5, y6, y7, y8, y9, y10, y11, y12, y13].map (·.1)) (by simp)
    simp only [Rows.uptoBulk] at this ⊢
    exact Nat.le_trans b7 (by omega)
  · rw [hx]
    have := bulk_of (d := y5.1) (l := [y0, y1, y2, y3, y4, y5, y6, y7, y8, y9, y10, y11, y12, y13].map (·.1)) (by simp)
    simp only [Rows.uptoBulk] at this ⊢
    exact Nat.le_trans b5 (by omega)
  · rw [hx]
    have := bulk_of (d := y4.1) (l := [y0, y1, y2, y3, y4, y5, y6, y7, y8, y9, y10, y11, y12, y13].map (·.1)) (by simp)
    simp only [Rows.uptoBulk] at this ⊢
    exact Nat.le_trans b4 (by omega)
set_option maxRecDepth 100000 in
/-- A forest that is read. -/
theorem open_forest {b0 : Nat} {v : Value} {d : DataW H} {p : List MemPlace} (hv : Value.okWide Tryz.prog W .any b0 24 v) (h : DataW.Trod enc Tryz.prog W 0 (fun _ => true) true 24 v d p) :
    ∃ o cap ns, v = .agg #[.slice o ns.length cap] ∧ (ns.length ≤ 1048576 → FRd W o cap ns) ∧ ns.length ≤ Rows.uptoBulk d ∧ (∀ (i : Nat) (hi : i < ns.length), ns[i].kids.length ≤ Rows.uptoBulk d ∧ ns[i].attrs.length ≤ Rows.uptoBulk d ∧ ns[i].data.length ≤ Rows.uptoBulk d) := by
  have hv2 : ∃ cs, v = .agg cs ∧ cs.size = 1 := by
    unfold Value.okWide at hv
    rw [Tryz.underlying24] at hv
    obtain ⟨cs, e, hs, _⟩ := hv
    exact ⟨cs, e, by rw [hs, Tryz.fCellsForest]⟩
  obtain ⟨cs, rfl, hs⟩ := hv2
  obtain ⟨fuel, hf⟩ := h
  obtain ⟨xs, n, _, hx, hl, hxl, hfs⟩ := DataW.trod_struct Tryz.underlying24 hf
  simp only [List.size_toArray, List.length_cons, List.length_nil] at hxl
  have f0 := field_read hfs 0 22 0 rfl
  obtain ⟨l, rfl⟩ : ∃ l : List Value, cs = l.toArray := ⟨cs.toList, by simp⟩
  have hl1 : l.length = 1 := by simpa using hs
  obtain ⟨v0, rfl⟩ := list_1 hl1
  obtain ⟨y0, rfl⟩ := list_1 hxl
  simp only [show Tryz.prog.cellsOf 22 = 1 by kernel_rfl, Value.cells, List.drop_zero, List.take_succ_cons, List.take_zero, List.getElem?_cons_zero] at f0
  have hxd : d = .agg [y0.1] := congrArg Prod.fst hx
  have hbk : Rows.uptoBulk y0.1 ≤ Rows.uptoBulk d := by rw [hxd]; simp only [Rows.uptoBulk, Rows.uptoBulkAll]; omega
  rcases Deep.open_slice Tryz.underlying22 f0 with ⟨e, _⟩ | ⟨a, len, cap, m, k, D, Pl, e, _, hlc, _, hm, hxx, hcell⟩
  · simp only [List.cons.injEq, and_true] at e
    subst e
    exact ⟨none, 0, [], rfl, fun _ => ⟨Nat.zero_le _, fun h => absurd h (Nat.lt_irrefl _)⟩, Nat.zero_le _, fun i hi => absurd hi (Nat.not_lt_zero _)⟩
  · simp only [List.cons.injEq, and_true] at e
    subst e
    have hmc : m = cap := by simpa using hm
    subst hmc
    rw [Tryz.fCellsNode] at hcell
    obtain ⟨g, hg⟩ := Deep.choose_lt (α := NodeD) (n := len) (p := fun i t => (∃ L : Lists, (∀ k v, [Value.int .u8 (t.kind : Int), .string t.space, .string t.pre, .string t.loc, .string t.pub, .string t.sys, L.data, L.attrs, .int .i64 t.parent, L.kids, .int .i64 t.doc, .int .i64 t.host, .int .i64 t.shadow, .int .u8 (t.mode : Int), .bool t.manual, .bool t.html][k]? = some v → W.cell? ((a.add (i * 16)).add k) = some v) ∧ RdN W L.data t.data ∧ RdA W L.attrs t.attrs ∧ RdI W L.kids t.kids) ∧ t.kids.length ≤ Rows.uptoBulk y0.1 ∧ t.attrs.length ≤ Rows.uptoBulk y0.1 ∧ t.data.length ≤ Rows.uptoBulk y0.1) (fun i hi => by
      obtain ⟨cs', h1, h2⟩ := hcell i (by omega)
      obtain ⟨t, L, rfl, r1, r2, r3, b1, b2, b3⟩ := open_node h2
      obtain ⟨_, _, h3⟩ := World.cells?_some h1
      have hD : Rows.uptoBulk (D i) ≤ Rows.uptoBulk y0.1 := by
        have := bulk_of (d := D i) (l := (List.range len).map D) (List.mem_map.2 ⟨i, List.mem_range.2 hi, rfl⟩)
        rw [hxx]
        simp only [Rows.uptoBulk]
        omega
      refine ⟨t, ⟨L, fun k v hk => ?_, r1, r2, r3⟩, Nat.le_trans b1 hD, Nat.le_trans b2 hD, Nat.le_trans b3 hD⟩
      have hlt : k < 16 := (List.getElem?_eq_some_iff.1 hk).1
      rw [h3 k hlt, hk])
    have hul : ((List.range len).map g).length = len := by simp
    have hge : ∀ (i : Nat) (hi : i < ((List.range len).map g).length), ((List.range len).map g)[i] = g i := fun i hi => by simp
    refine ⟨some a, m, (List.range len).map g, by rw [hul], fun hsm => ⟨by rw [hul] at hsm ⊢; omega, fun hp => ?_⟩, ?_, fun i hi => ?_⟩
    · rw [hul] at hp
      obtain ⟨⟨L0, h0, _⟩, _⟩ := hg 0 hp
      have h0 := h0 0 _ rfl
      rw [Nat.zero_mul] at h0
      have e0 : (a.add 0).add 0 = a.add 0 := by simp [Addr.add]
      rw [e0] at h0
      have hs := addr_spot h0
      have hlt := addr_lt (addr_at h0 hs)
      refine ⟨a.block, a.off, ?_, ⟨hlt, by rw [hul]; exact hlc, by rw [hul] at hsm ⊢; omega, fun i hi => ?_⟩⟩
      · obtain ⟨b, o, s⟩ := a
        simp only at hs
        subst hs
        rfl
      · rw [hge i hi]
        rw [hul] at hi
        obtain ⟨⟨L, hc, r1, r2, r3⟩, _⟩ := hg i hi
        have hc2 : ∀ (k : Nat) (v : Value), [Value.int .u8 ((g i).kind : Int), .string (g i).space, .string (g i).pre, .string (g i).loc, .string (g i).pub, .string (g i).sys, L.data, L.attrs, .int .i64 (g i).parent, L.kids, .int .i64 (g i).doc, .int .i64 (g i).host, .int .i64 (g i).shadow, .int .u8 ((g i).mode : Int), .bool (g i).manual, .bool (g i).html][k]? = some v → W.cell? ⟨a.block, a.off + i * 16 + k, none⟩ = some v := fun k v hk => by
          have h1 := hc k v hk
          rw [Deep.add_add] at h1
          have := addr_at h1 hs
          rw [show a.off + i * 16 + k = a.off + (i * 16 + k) by omega]
          exact this
        exact ⟨L, ⟨hc2 0 _ rfl, hc2 1 _ rfl, hc2 2 _ rfl, hc2 3 _ rfl, hc2 4 _ rfl, hc2 5 _ rfl, hc2 6 _ rfl, hc2 7 _ rfl, hc2 8 _ rfl, hc2 9 _ rfl, hc2 10 _ rfl, hc2 11 _ rfl, hc2 12 _ rfl, hc2 13 _ rfl, hc2 14 _ rfl, hc2 15 _ rfl⟩, r1, r2, r3⟩
    · rw [hul]
      have hm := bulk_many (H := H) ((List.range len).map D)
      simp only [List.length_map, List.length_range] at hm
      refine Nat.le_trans ?_ hbk
      rw [hxx]
      simp only [Rows.uptoBulk]
      omega
    · rw [hge i hi]
      rw [hul] at hi
      obtain ⟨_, b1, b2, b3⟩ := hg i hi
      exact ⟨Nat.le_trans b1 hbk, Nat.le_trans b2 hbk, Nat.le_trans b3 hbk⟩
end
end Go.Proofs.YtilacgcjbdkphaaGreat

namespace Go.Proofs.YtilacgcjbdkphaaGreat
open Go.RowKit Go.Lib Go.ChangeShapes Go.WideShapes Go.ChangeAt

theorem Tryz.fCellsBound : Tryz.prog.cellsOf 26 = 2 := by kernel_rfl
set_option maxRecDepth 100000
section
variable {H : Type} {enc : TypeId × Value → H} {W : World}
theorem open_boundC {fuel : Nat} {cs : List Value} {x : DataW H × List MemPlace} (h : DataW.trod enc Tryz.prog W 0 (fun _ => true) true fuel 26 cs = some x) :
    ∃ a b : Int, cs = [.int .i64 a, .int .i64 b] := by
  obtain ⟨xs, n, _, hx, hl, hxl, hf⟩ := DataW.trod_struct Tryz.underlying26 h
  rw [Tryz.fCellsBound] at hl
  simp only [List.size_toArray, List.length_cons, List.length_nil] at hxl
  obtain ⟨v0, v1, rfl⟩ := list_2 hl
  obtain ⟨y0, y1, rfl⟩ := list_2 hxl
  have f0 := field_read hf 0 3 0 rfl
  have f1 := field_read hf 1 3 1 rfl
  simp only [Tryz.fCellsInt] at f0 f1
  obtain ⟨k0, e0, _⟩ := DataW.trod_int Tryz.underlying3 f0
  obtain ⟨k1, e1, _⟩ := DataW.trod_int Tryz.underlying3 f1
  simp only [List.drop_zero, List.take_succ_cons, List.take_zero, List.drop_succ_cons, List.cons.injEq, and_true] at e0 e1
  exact ⟨k0, k1, by rw [e0, e1]⟩
theorem open_bound {b0 : Nat} {v : Value} {d : DataW H} {p : List MemPlace} (hv : Value.okWide Tryz.prog W .any b0 26 v) (h : DataW.Trod enc Tryz.prog W 0 (fun _ => true) true 26 v d p) :
    ∃ a b : Int, v = bndV a b := by
  have hv2 : ∃ cs, v = .agg cs := by
    unfold Value.okWide at hv
    rw [Tryz.underlying26] at hv
    obtain ⟨cs, e, hs, _⟩ := hv
    exact ⟨cs, e⟩
  obtain ⟨cs, rfl⟩ := hv2
  obtain ⟨fuel, hf⟩ := h
  obtain ⟨l, rfl⟩ : ∃ l : List Value, cs = l.toArray := ⟨cs.toList, by simp⟩
  obtain ⟨a, b, e⟩ := open_boundC hf
  have e' : l = [.int .i64 a, .int .i64 b] := by simpa [Value.cells] using e
  subst e'
  exact ⟨a, b, rfl⟩
end
end Go.Proofs.YtilacgcjbdkphaaGreat

