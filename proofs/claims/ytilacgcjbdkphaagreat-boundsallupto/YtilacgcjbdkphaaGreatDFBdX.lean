/- The tree of the statements of bounds. -/
import Derived.Test.YtilacgcjbdkphaaGreatDFBd3FBdp
import Derived.Test.YtilacgcjbdkphaaGreatDFSkipHFInts
import Derived.Deep.DeepCutAuto
import Derived.Great.BuildSlice
import Derived.Deep.CutRange
namespace Go.Proofs.YtilacgcjbdkphaaGreat
open Go.RowKit Go.Lib Go.Shelf

theorem nil_rdNX (w : World) : RdN w (.slice none 0 0) [] := ⟨none, 0, rfl, Nat.le_refl _, fun h => absurd h (Nat.lt_irrefl _)⟩
theorem nil_rdIX (w : World) : RdI w (.slice none 0 0) [] := ⟨none, 0, rfl, Nat.le_refl _, fun h => absurd h (Nat.lt_irrefl _)⟩
theorem nil_rdAX (w : World) : RdA w (.slice none 0 0) [] := ⟨none, 0, rfl, Nat.le_refl _, fun h => absurd h (Nat.lt_irrefl _)⟩
def noNodeX : NodeD := ⟨0, ⟨#[]⟩, ⟨#[]⟩, ⟨#[]⟩, ⟨#[]⟩, ⟨#[]⟩, [], [], 0, [], 0, 0, 0, 0, false, false⟩
def treeB : List NodeD := [{ noNodeX with kind := 9, kids := [2], doc := 1 }, { noNodeX with kind := 1, loc := ⟨#[97]⟩, parent := 1, kids := [3, 4], doc := 1 }, { noNodeX with kind := 3, data := [120, 121], parent := 2, doc := 1 }, { noNodeX with kind := 1, loc := ⟨#[98]⟩, parent := 2, doc := 1 }]
def txCs (d : Value) : List Value := [.int .u8 3, .string ⟨#[]⟩, .string ⟨#[]⟩, .string ⟨#[]⟩, .string ⟨#[]⟩, .string ⟨#[]⟩, d, .slice none 0 0, .int .i64 2, .slice none 0 0, .int .i64 1, .int .i64 0, .int .i64 0, .int .u8 0, .bool false, .bool false]
def docCs (k : Value) : List Value := [.int .u8 9, .string ⟨#[]⟩, .string ⟨#[]⟩, .string ⟨#[]⟩, .string ⟨#[]⟩, .string ⟨#[]⟩, .slice none 0 0, .slice none 0 0, .int .i64 0, k, .int .i64 1, .int .i64 0, .int .i64 0, .int .u8 0, .bool false, .bool false]
def elCs (x : UInt8) (p : Int) (k : Value) : List Value := [.int .u8 1, .string ⟨#[]⟩, .string ⟨#[]⟩, .string ⟨#[x]⟩, .string ⟨#[]⟩, .string ⟨#[]⟩, .slice none 0 0, .slice none 0 0, .int .i64 p, k, .int .i64 1, .int .i64 0, .int .i64 0, .int .u8 0, .bool false, .bool false]

set_option maxRecDepth 100000 in
set_option maxHeartbeats 4000000 in
theorem refNewW_any (w : World) :
    Calls Tryz.prog 91 #[.bool false] w fun e w' => e = .returned (.agg #[.slice (some ⟨w.heap.size + 1, 0, none⟩) 1 1]) ∧ w' = (w.alloc (.cells #[.slice (some ⟨w.heap.size + 1, 0, none⟩) 1 1] 24)).alloc (.cells #[.int .u8 9, .string ⟨#[]⟩, .string ⟨#[]⟩, .string ⟨#[]⟩, .string ⟨#[]⟩, .string ⟨#[]⟩, .slice none 0 0, .slice none 0 0, .int .i64 0, .slice none 0 0, .int .i64 1, .int .i64 0, .int .i64 0, .int .u8 0, .bool false, .bool false] 64) := by
  go_enter Tryz.func91, Tryz.ntmps91
  go_wp2
  exact bodyPost_ret (v := .agg #[.slice (some ⟨w.heap.size + 1, 0, none⟩) 1 1]) (by simp [results, Tryz.results91, go_sem]) rfl ⟨rfl, rfl⟩

theorem info_node : (Tryz.prog.info? 64).map (fun i => (i.zero, i.size, i.bytes)) = some (some (.agg #[.int .u8 0, .string ⟨#[]⟩, .string ⟨#[]⟩, .string ⟨#[]⟩, .string ⟨#[]⟩, .string ⟨#[]⟩, .slice none 0 0, .slice none 0 0, .int .i64 0, .slice none 0 0, .int .i64 0, .int .i64 0, .int .i64 0, .int .u8 0, .bool false, .bool false]), 16, 200) := by kernel_rfl
theorem cells16 {V : World} {B : Nat} {t : TypeId} {c0 c1 c2 c3 c4 c5 c6 c7 c8 c9 c10 c11 c12 c13 c14 c15 : Value} (h : V.heap[B]? = some (.cells #[c0, c1, c2, c3, c4, c5, c6, c7, c8, c9, c10, c11, c12, c13, c14, c15] t)) : (V.cell? ⟨B, 0, none⟩ = some c0 ∧ V.cell? ⟨B, 1, none⟩ = some c1 ∧ V.cell? ⟨B, 2, none⟩ = some c2 ∧ V.cell? ⟨B, 3, none⟩ = some c3 ∧ V.cell? ⟨B, 4, none⟩ = some c4 ∧ V.cell? ⟨B, 5, none⟩ = some c5 ∧ V.cell? ⟨B, 6, none⟩ = some c6 ∧ V.cell? ⟨B, 7, none⟩ = some c7) ∧ (V.cell? ⟨B, 8, none⟩ = some c8 ∧ V.cell? ⟨B, 9, none⟩ = some c9 ∧ V.cell? ⟨B, 10, none⟩ = some c10 ∧ V.cell? ⟨B, 11, none⟩ = some c11 ∧ V.cell? ⟨B, 12, none⟩ = some c12 ∧ V.cell? ⟨B, 13, none⟩ = some c13 ∧ V.cell? ⟨B, 14, none⟩ = some c14 ∧ V.cell? ⟨B, 15, none⟩ = some c15) := by
  have hk : ∀ j : Nat, V.cell? ⟨B, j, none⟩ = #[c0, c1, c2, c3, c4, c5, c6, c7, c8, c9, c10, c11, c12, c13, c14, c15][j]? := fun j => by
    unfold World.cell?
    simp only [h]
    exact if_neg (by decide)
  exact ⟨⟨(hk 0).trans rfl, (hk 1).trans rfl, (hk 2).trans rfl, (hk 3).trans rfl, (hk 4).trans rfl, (hk 5).trans rfl, (hk 6).trans rfl, (hk 7).trans rfl⟩, ⟨(hk 8).trans rfl, (hk 9).trans rfl, (hk 10).trans rfl, (hk 11).trans rfl, (hk 12).trans rfl, (hk 13).trans rfl, (hk 14).trans rfl, (hk 15).trans rfl⟩⟩
theorem row_new (W : World) (cs : List Value) (t : TypeId) : ∀ (j : Nat) (u : Value), cs[j]? = some u → (W.alloc (.cells cs.toArray t)).cell? ((⟨W.heap.size, 0, none⟩ : Addr).add j) = some u := fun j u hj => by
  have e : (⟨W.heap.size, 0, none⟩ : Addr).add j = ⟨W.heap.size, j, none⟩ := by
    unfold Addr.add
    split
    · rename_i h; rw [h]
    · simp
  rw [e]
  unfold World.cell?
  simp only [heap_new]
  rw [if_neg (by decide), List.getElem?_toArray]
  exact hj
def newCs (g2 g3 : Nat) : List Value := elCs 97 1 (.slice (some ⟨g2, 0, none⟩) 2 2) ++ txCs (.slice (some ⟨g3, 0, none⟩) 2 2) ++ elCs 98 2 (.slice none 0 0)
theorem newCs_one (g2 g3 : Nat) : ∀ u ∈ newCs g2 g3, u.oneCell' = true := fun u hu => by
  simp only [newCs, elCs, txCs, List.cons_append, List.nil_append, List.mem_cons, List.not_mem_nil, or_false] at hu
  rcases hu with rfl | rfl | rfl | rfl | rfl | rfl | rfl | rfl | rfl | rfl | rfl | rfl | rfl | rfl | rfl | rfl | rfl | rfl | rfl | rfl | rfl | rfl | rfl | rfl | rfl | rfl | rfl | rfl | rfl | rfl | rfl | rfl | rfl | rfl | rfl | rfl | rfl | rfl | rfl | rfl | rfl | rfl | rfl | rfl | rfl | rfl | rfl | rfl <;> rfl
theorem newCs_fill (g2 g3 k : Nat) (z : Value) (hk : k = 16) : Instr.fill (fun i => some (i * k, k)) ((Array.range (3 * k)).map (z.cells[· % z.cells.size]!)) [(0, .agg (elCs 97 1 (.slice (some ⟨g2, 0, none⟩) 2 2)).toArray), (1, .agg (txCs (.slice (some ⟨g3, 0, none⟩) 2 2)).toArray), (2, .agg (elCs 98 2 (.slice none 0 0)).toArray)] = some (newCs g2 g3).toArray := by
  subst hk
  exact Great.fill_whole (s := 16) (by decide) [.agg (elCs 97 1 (.slice (some ⟨g2, 0, none⟩) 2 2)).toArray, .agg (txCs (.slice (some ⟨g3, 0, none⟩) 2 2)).toArray, .agg (elCs 98 2 (.slice none 0 0)).toArray] _ (fun v hv => by
    simp only [List.mem_cons, List.not_mem_nil, or_false] at hv
    rcases hv with rfl | rfl | rfl <;> rfl) (by simp)
theorem treeW_at {W : World} {base g cap g1 g2 g3 : Nat} (h : W.ownsRow base 64 16 (.slice (some ⟨g, 0, none⟩) 4 cap) 4 (docCs (.slice (some ⟨g1, 0, none⟩) 1 1) ++ newCs g2 g3)) (k1 : W.heap[g1]? = some (.cells #[.int .i64 2] 3)) (k2 : W.heap[g2]? = some (.cells #[.int .i64 3, .int .i64 4] 3)) (k3 : W.heap[g3]? = some (.cells #[.int .u16 120, .int .u16 121] 70)) : FAt W g 0 cap treeB := by
  have hc : ∀ j, j < 64 → W.cell? ⟨g, j, none⟩ = (docCs (.slice (some ⟨g1, 0, none⟩) 1 1) ++ newCs g2 g3)[j]? := fun j hj => h.cellAt j (by omega)
  have hlt : g < W.heap.size := (h.lt g rfl).2
  have hcap : 4 ≤ cap := by
    rcases h.2 with ⟨e, _⟩ | ⟨_, _, _, e, _, _, hn, _⟩
    · cases e
    · cases e; exact hn
  have r1 : RdI W (.slice (some ⟨g1, 0, none⟩) 1 1) [2] := ⟨_, 1, rfl, Nat.le_refl _, fun _ => ⟨g1, 0, rfl, (Array.getElem?_eq_some_iff.1 k1).1, fun j hj => by
    have : j = 0 := by simp at hj; omega
    subst this
    simp [World.cell?, k1]⟩⟩
  have r2 : RdI W (.slice (some ⟨g2, 0, none⟩) 2 2) [3, 4] := ⟨_, 2, rfl, Nat.le_refl _, fun _ => ⟨g2, 0, rfl, (Array.getElem?_eq_some_iff.1 k2).1, fun j hj => by
    have : j = 0 ∨ j = 1 := by simp at hj; omega
    rcases this with rfl | rfl
    · simp [World.cell?, k2]
    · simp [World.cell?, k2]⟩⟩
  have r3 : RdN W (.slice (some ⟨g3, 0, none⟩) 2 2) [120, 121] := ⟨_, 2, rfl, Nat.le_refl _, fun _ => ⟨g3, 0, rfl, (Array.getElem?_eq_some_iff.1 k3).1, fun j hj => by
    have : j = 0 ∨ j = 1 := by simp at hj; omega
    rcases this with rfl | rfl
    · simp [World.cell?, k3]
    · simp [World.cell?, k3]⟩⟩
  refine ⟨hlt, hcap, by decide, fun i hi => ?_⟩
  match i, hi with
  | 0, _ => exact ⟨⟨.slice none 0 0, .slice none 0 0, .slice (some ⟨g1, 0, none⟩) 1 1⟩, by constructor <;> (rw [hc _ (by decide)]; rfl), nil_rdNX W, nil_rdAX W, r1⟩
  | 1, _ => exact ⟨⟨.slice none 0 0, .slice none 0 0, .slice (some ⟨g2, 0, none⟩) 2 2⟩, by constructor <;> (rw [hc _ (by decide)]; rfl), nil_rdNX W, nil_rdAX W, r2⟩
  | 2, _ => exact ⟨⟨.slice (some ⟨g3, 0, none⟩) 2 2, .slice none 0 0, .slice none 0 0⟩, by constructor <;> (rw [hc _ (by decide)]; rfl), r3, nil_rdAX W, nil_rdIX W⟩
  | 3, _ => exact ⟨⟨.slice none 0 0, .slice none 0 0, .slice none 0 0⟩, by constructor <;> (rw [hc _ (by decide)]; rfl), nil_rdNX W, nil_rdAX W, nil_rdIX W⟩
theorem tree_keep {wc w1 : World} {o : Obj} {B bd n c : Nat} {t : TypeId} {v : Value} (h : wc.heap[B]? = some (.cells #[v] t)) (hg : (wc.alloc o).grownBy w1 (Value.slice (some ⟨bd, 0, none⟩) n c).ownBlock) (hne : bd ≠ B) : Boxed w1 B t v :=
  Boxed.kept (Boxed.alloc h o) hg (by simp only [Value.ownBlock, ne_eq, Option.some.injEq]; exact fun e => hne e.symm)
theorem four_0X (w : World) (o1 o2 o3 o4 : Obj) : ((((w.alloc o1).alloc o2).alloc o3).alloc o4).heap[w.heap.size]? = some o1 := by
  rw [Below.heap_alloc _ _ _ (by simp only [World.size_alloc]; omega), Below.heap_alloc _ _ _ (by simp only [World.size_alloc]; omega), Below.heap_alloc _ _ _ (by simp only [World.size_alloc]; omega)]
  exact heap_new w o1
theorem four_2X (w : World) (o1 o2 o3 o4 : Obj) : ((((w.alloc o1).alloc o2).alloc o3).alloc o4).heap[w.heap.size + 1 + 1]? = some o3 := by
  have h := heap_new ((w.alloc o1).alloc o2) o3
  simp only [World.size_alloc] at h
  rw [Below.heap_alloc _ _ _ (by simp only [World.size_alloc]; omega)]
  exact h
theorem four_3X (w : World) (o1 o2 o3 o4 : Obj) : ((((w.alloc o1).alloc o2).alloc o3).alloc o4).heap[w.heap.size + 1 + 1 + 1]? = some o4 := by
  have h := heap_new (((w.alloc o1).alloc o2).alloc o3) o4
  simp only [World.size_alloc] at h
  exact h
theorem four_bX (w : World) (o1 o2 o3 o4 : Obj) : Below w.heap.size w ((((w.alloc o1).alloc o2).alloc o3).alloc o4) := ((((Below.refl _ w).alloc (Nat.le_refl _) _).alloc (by simp) _).alloc (by simp; omega) _).alloc (by simp; omega) _
theorem two_0X (w : World) (o1 o2 : Obj) : ((w.alloc o1).alloc o2).heap[w.heap.size]? = some o1 := by
  rw [Below.heap_alloc _ _ _ (by simp only [World.size_alloc]; omega)]
  exact heap_new w o1
theorem two_1X (w : World) (o1 o2 : Obj) : ((w.alloc o1).alloc o2).heap[w.heap.size + 1]? = some o2 := by
  have h := heap_new (w.alloc o1) o2
  simp only [World.size_alloc] at h
  exact h
theorem two_bX (w : World) (o1 o2 : Obj) : Below w.heap.size w ((w.alloc o1).alloc o2) := ((Below.refl _ w).alloc (Nat.le_refl _) _).alloc (by simp) _
theorem treeW_end {w wc w1 : World} {b0 bf g1 g2 g3 bd g' cap' : Nat} {o : Obj} {P : Program} {fn : Func} {a : Act} (hB : Below w.heap.size w wc) (z1 : w.heap.size ≤ b0) (z2 : w.heap.size ≤ bf) (z3 : w.heap.size ≤ bd) (z6 : bf ≠ bd) (z7 : b0 ≠ bd)
    (k1 : wc.heap[g1]? = some (.cells #[.int .i64 2] 3)) (k2 : wc.heap[g2]? = some (.cells #[.int .i64 3, .int .i64 4] 3)) (k3 : wc.heap[g3]? = some (.cells #[.int .u16 120, .int .u16 121] 70)) (kf : wc.heap[bf]? = some (.cells #[.slice (some ⟨bd, 0, none⟩) 1 1] 24)) (k0 : wc.heap[b0]? = some (.cells #[.slice none 0 0] 24)) (kd : wc.heap[bd]? = some (.cells (docCs (.slice (some ⟨g1, 0, none⟩) 1 1)).toArray 64))
    (ho : w1.ownsRow w.heap.size 64 16 (.slice (some ⟨g', 0, none⟩) (1 + 3) cap') (1 + 3) (docCs (.slice (some ⟨g1, 0, none⟩) 1 1) ++ newCs g2 g3)) (hg : (wc.alloc o).grownBy w1 (Value.slice (some ⟨bd, 0, none⟩) 1 1).ownBlock)
    (hres : (results fn a.tmps).run P ((w1.setCell ⟨bf, 0, none⟩ (.slice (some ⟨g', 0, none⟩) 4 cap')).setCell ⟨b0, 0, none⟩ (.slice (some ⟨g', 0, none⟩) 4 cap')) = .ok (.agg #[.slice (some ⟨g', 0, none⟩) 4 cap']) ((w1.setCell ⟨bf, 0, none⟩ (.slice (some ⟨g', 0, none⟩) 4 cap')).setCell ⟨b0, 0, none⟩ (.slice (some ⟨g', 0, none⟩) 4 cap'))) (hd : a.defers = []) :
    bodyPost P fn (fun e w' => ∃ g cap, e = .returned (.agg #[.slice (some ⟨g, 0, none⟩) 4 cap]) ∧ FAt w' g 0 cap treeB ∧ Below w.heap.size w w') .ret a ((w1.setCell ⟨bf, 0, none⟩ (.slice (some ⟨g', 0, none⟩) 4 cap')).setCell ⟨b0, 0, none⟩ (.slice (some ⟨g', 0, none⟩) 4 cap')) := by
  have bx : Boxed w1 bf 24 _ := tree_keep kf hg (fun e => z6 e.symm)
  have b0x : Boxed w1 b0 24 _ := tree_keep k0 hg (fun e => z7 e.symm)
  have ne1 : bd ≠ g1 := fun e => by rw [e] at kd; have := kd.symm.trans k1; simp [docCs] at this
  have ne2 : bd ≠ g2 := fun e => by rw [e] at kd; have := kd.symm.trans k2; simp [docCs] at this
  have keep : ∀ {k : Nat} {ob : Obj}, wc.heap[k]? = some ob → bd ≠ k → w1.heap[k]? = some ob := fun {k ob} hk hne => by
    have hlt := (Array.getElem?_eq_some_iff.1 hk).1
    exact (hg.block k (by simp only [World.size_alloc]; omega) (by simp only [Value.ownBlock, ne_eq, Option.some.injEq]; exact fun e => hne e.symm)).trans ((Below.heap_alloc wc o k hlt).trans hk)
  have ne3 : bd ≠ g3 := fun e => by rw [e] at kd; have := kd.symm.trans k3; simp [docCs] at this
  have j3 := keep k3 ne3
  have j1 := keep k1 ne1
  have j2 := keep k2 ne2
  have nf : bf ≠ g1 ∧ bf ≠ g2 ∧ b0 ≠ g1 ∧ b0 ≠ g2 := by
    refine ⟨fun e => ?_, fun e => ?_, fun e => ?_, fun e => ?_⟩
    · rw [e] at kf; have := kf.symm.trans k1; simp at this
    · rw [e] at kf; have := kf.symm.trans k2; simp at this
    · rw [e] at k0; have := k0.symm.trans k1; simp at this
    · rw [e] at k0; have := k0.symm.trans k2; simp at this
  have s1 : ((w1.setCell ⟨bf, 0, none⟩ (.slice (some ⟨g', 0, none⟩) 4 cap')).setCell ⟨b0, 0, none⟩ (.slice (some ⟨g', 0, none⟩) 4 cap')).heap[g1]? = some (.cells #[.int .i64 2] 3) := by
    rw [heap_setCell_other _ ⟨b0, 0, none⟩ g1 _ (fun e => nf.2.2.1 e.symm), heap_setCell_other _ ⟨bf, 0, none⟩ g1 _ (fun e => nf.1 e.symm)]
    exact j1
  have s2 : ((w1.setCell ⟨bf, 0, none⟩ (.slice (some ⟨g', 0, none⟩) 4 cap')).setCell ⟨b0, 0, none⟩ (.slice (some ⟨g', 0, none⟩) 4 cap')).heap[g2]? = some (.cells #[.int .i64 3, .int .i64 4] 3) := by
    rw [heap_setCell_other _ ⟨b0, 0, none⟩ g2 _ (fun e => nf.2.2.2 e.symm), heap_setCell_other _ ⟨bf, 0, none⟩ g2 _ (fun e => nf.2.1 e.symm)]
    exact j2
  have nf3 : bf ≠ g3 ∧ b0 ≠ g3 := by
    refine ⟨fun e => ?_, fun e => ?_⟩
    · rw [e] at kf; have := kf.symm.trans k3; simp at this
    · rw [e] at k0; have := k0.symm.trans k3; simp at this
  have s3 : ((w1.setCell ⟨bf, 0, none⟩ (.slice (some ⟨g', 0, none⟩) 4 cap')).setCell ⟨b0, 0, none⟩ (.slice (some ⟨g', 0, none⟩) 4 cap')).heap[g3]? = some (.cells #[.int .u16 120, .int .u16 121] 70) := by
    rw [heap_setCell_other _ ⟨b0, 0, none⟩ g3 _ (fun e => nf3.2 e.symm), heap_setCell_other _ ⟨bf, 0, none⟩ g3 _ (fun e => nf3.1 e.symm)]
    exact j3
  have o2 := ownsRow_setCell_other (ownsRow_setCell_other ho (a := ⟨bf, 0, none⟩) (bx.not_row (by decide) ho).symm (.slice (some ⟨g', 0, none⟩) 4 cap')) (a := ⟨b0, 0, none⟩) (b0x.not_row (by decide) ho).symm (.slice (some ⟨g', 0, none⟩) 4 cap')
  have hBg : Below w.heap.size w w1 := (hB.alloc hB.size o).grown hg (hB.alloc hB.size o).size (fun k hk => by simp only [Value.ownBlock, Option.some.injEq] at hk; omega)
  exact bodyPost_ret hres hd ⟨g', cap', rfl, treeW_at o2 s1 s2 s3, (hBg.setCell (p := ⟨bf, 0, none⟩) z2 _).setCell (p := ⟨b0, 0, none⟩) z1 _⟩

theorem keep_atX {V v1 : World} {k n : Nat} {Z : Obj} (h : V.heap[k]? = some Z) (hb : Below n V v1) (hn : V.heap.size ≤ n) : v1.heap[k]? = some Z := (hb.block k (Nat.lt_of_lt_of_le (Array.getElem?_eq_some_iff.1 h).1 hn)).trans h
/-- What lies behind the second statement. -/
structure TreeA (w W : World) (b0 bf g1 bd : Nat) : Prop where
  below : Below w.heap.size w W
  z : w.heap.size ≤ b0 ∧ w.heap.size ≤ bf ∧ w.heap.size ≤ bd ∧ bf ≠ bd ∧ b0 ≠ bd ∧ bf ≠ b0
  k1 : W.heap[g1]? = some (.cells #[.int .i64 2] 3)
  doc : W.heap[bd]? = some (.cells (docCs (.slice (some ⟨g1, 0, none⟩) 1 1)).toArray 64)
  f : W.heap[bf]? = some (.cells #[.slice (some ⟨bd, 0, none⟩) 1 1] 24)
  r : W.heap[b0]? = some (.cells #[.slice none 0 0] 24)
theorem TreeA.later {w W V : World} {b0 bf g1 bd : Nat} (h : TreeA w W b0 bf g1 bd) (hb : Below W.heap.size W V) : TreeA w V b0 bf g1 bd :=
  ⟨h.below.trans (hb.mono h.below.size), h.z, keep_atX h.k1 hb (Nat.le_refl _), keep_atX h.doc hb (Nat.le_refl _), keep_atX h.f hb (Nat.le_refl _), keep_atX h.r hb (Nat.le_refl _)⟩
theorem doc_set {V : World} {bd : Nat} {v : Value} (h : V.heap[bd]? = some (.cells (docCs (.slice none 0 0)).toArray 64)) : (V.setCell ⟨bd, 9, none⟩ v).heap[bd]? = some (.cells (docCs v).toArray 64) := heap_setCell_same V bd 9 _ _ v h
theorem free9 {V : World} {B : Nat} {cs : Array Value} {t : TypeId} (h : V.heap[B]? = some (.cells cs t)) : V.frozen? ⟨B, 9, none⟩ = false := by simp [World.frozen?, h]

theorem tree_two {w wc : World} {b0 bf bd : Nat} (hz : w.heap.size ≤ b0 ∧ w.heap.size ≤ bf ∧ w.heap.size ≤ bd ∧ bf ≠ bd ∧ b0 ≠ bd ∧ bf ≠ b0) (kd : wc.heap[bd]? = some (.cells (docCs (.slice none 0 0)).toArray 64)) (kf : wc.heap[bf]? = some (.cells #[.slice (some ⟨bd, 0, none⟩) 1 1] 24)) (k0 : wc.heap[b0]? = some (.cells #[.slice none 0 0] 24)) (hB : Below w.heap.size w wc) : TreeA w ((wc.setCell ⟨bd, 9, none⟩ (.slice (some ⟨wc.heap.size, 0, none⟩) 1 1)).alloc (.cells #[.int .i64 2] 3)) b0 bf wc.heap.size bd := by
  obtain ⟨z1, z2, z3, z6, z7, z8⟩ := hz
  have hs : (wc.setCell ⟨bd, 9, none⟩ (.slice (some ⟨wc.heap.size, 0, none⟩) 1 1)).heap.size = wc.heap.size := World.size_setCell _ _ _
  have lt : ∀ {k : Nat} {o : Obj}, wc.heap[k]? = some o → k < (wc.setCell ⟨bd, 9, none⟩ (.slice (some ⟨wc.heap.size, 0, none⟩) 1 1)).heap.size := fun h => by rw [hs]; exact (Array.getElem?_eq_some_iff.1 h).1
  have hn := heap_new (wc.setCell ⟨bd, 9, none⟩ (.slice (some ⟨wc.heap.size, 0, none⟩) 1 1)) (.cells #[.int .i64 2] 3)
  rw [hs] at hn
  have hB2 := hB.setCell (p := ⟨bd, 9, none⟩) z3 (.slice (some ⟨wc.heap.size, 0, none⟩) 1 1)
  exact ⟨hB2.alloc hB2.size _, ⟨z1, z2, z3, z6, z7, z8⟩, hn, (Below.heap_alloc _ _ _ (lt kd)).trans (doc_set kd), (Below.heap_alloc _ _ _ (lt kf)).trans ((heap_setCell_other _ ⟨bd, 9, none⟩ bf _ z6).trans kf), (Below.heap_alloc _ _ _ (lt k0)).trans ((heap_setCell_other _ ⟨bd, 9, none⟩ b0 _ z7).trans k0)⟩

set_option maxRecDepth 100000 in
set_option maxHeartbeats 4000000 in
theorem treeB_any (w : World) :
    Calls Tryz.prog 53 #[] w fun e w' => ∃ g cap, e = .returned (.agg #[.slice (some ⟨g, 0, none⟩) 4 cap]) ∧ FAt w' g 0 cap treeB ∧ Below w.heap.size w w' := by
  obtain ⟨i0, hi, hz0, hz1, hz2⟩ := info_parts info_node
  have HN := hid (refNewW_any (w.alloc (.cells #[.slice none 0 0] 24)))
  go_enter Tryz.func53, Tryz.ntmps53
  go_upto_region 1 with fail
  go_cut [0, 1] (fun t0 t1 wx => ∃ b0 bf bd : Nat, t0 = .pointer (some ⟨b0, 0, none⟩) ∧ t1 = .pointer (some ⟨bf, 0, none⟩) ∧ (w.heap.size ≤ b0 ∧ w.heap.size ≤ bf ∧ w.heap.size ≤ bd ∧ bf ≠ bd ∧ b0 ≠ bd ∧ bf ≠ b0) ∧ wx.heap[bd]? = some (.cells (docCs (.slice none 0 0)).toArray 64) ∧ wx.heap[bf]? = some (.cells #[.slice (some ⟨bd, 0, none⟩) 1 1] 24) ∧ wx.heap[b0]? = some (.cells #[.slice none 0 0] 24) ∧ Below w.heap.size w wx)
  case first =>
    go_wp2_with (go_at_call 91; refine HN.out.mono ?_; rintro e v1 ⟨rfl, rfl⟩)
    go_meet
    exact ⟨w.heap.size, w.heap.size + 1 + 1 + 1, w.heap.size + 1 + 1, rfl, rfl, ⟨Nat.le_refl _, by omega, by omega, by omega, by omega, by omega⟩, four_2X _ _ _ _ _, four_3X _ _ _ _ _, four_0X _ _ _ _ _, four_bX _ _ _ _ _⟩
  case rest =>
    obtain ⟨b0, bf, bd, rfl, rfl, hz, kd, kf, k0, hB⟩ := hcut
    have f0 : wc.cell? ⟨bf, 0, none⟩ = some (.slice (some ⟨bd, 0, none⟩) 1 1) := Boxed.cell kf
    have d0 : (wc.alloc (.cells #[.int .i64 2] 3)).frozen? ⟨bd, 9, none⟩ = false := free9 ((Below.heap_alloc wc _ bd (Array.getElem?_eq_some_iff.1 kd).1).trans kd)
    have d1 := (cells16 ((Below.heap_alloc wc (.cells #[.int .i64 2] 3) bd (Array.getElem?_eq_some_iff.1 kd).1).trans kd)).2.2.1
    have hlt := (Array.getElem?_eq_some_iff.1 kd).1
    have HK := hid (And.intro kd (And.intro kf k0))
    have HB := hid hB
    clear kd kf k0 hB HN
    go_upto_region 2 with fail
    go_cut [0] (fun t0 wx => t0 = .pointer (some ⟨b0, 0, none⟩) ∧ ∃ g1 : Nat, TreeA w wx b0 bf g1 bd)
    case first =>
      go_wp2_with fail
      go_meet
      exact ⟨rfl, _, tree_two hz HK.out.1 HK.out.2.1 HK.out.2.2 HB.out⟩
    case rest =>
      obtain ⟨rfl, g1, hTA⟩ := hcut
      have HTA := hid hTA
      clear HK HB f0 d0 d1 hlt hTA
      go_upto_region 3 with fail
      go_cut [2] (fun t2 wx => ∃ g2 b1 : Nat, t2 = .pointer (some ⟨b1, 0, none⟩) ∧ wx.heap[g2]? = some (.cells #[.int .i64 3, .int .i64 4] 3) ∧ wx.heap[b1]? = some (.cells (elCs 97 1 (.slice (some ⟨g2, 0, none⟩) 2 2)).toArray 64) ∧ TreeA w wx b0 bf g1 bd)
      case first =>
        go_wp2_with fail
        go_meet
        exact ⟨wc.heap.size, wc.heap.size + 1, rfl, two_0X _ _ _, two_1X _ _ _, HTA.out.later (two_bX _ _ _)⟩
      case rest =>
        obtain ⟨g2, b1, rfl, hk2, ha, hTA⟩ := hcut
        have HTB := hid hTA
        have HK2 := hid hk2
        have HKa := hid ha
        clear HTA hTA hk2 ha
        go_upto_region 4 with fail
        go_cut [3] (fun t3 wx => ∃ g3 b2 : Nat, t3 = .pointer (some ⟨b2, 0, none⟩) ∧ wx.heap[g3]? = some (.cells #[.int .u16 120, .int .u16 121] 70) ∧ wx.heap[b2]? = some (.cells (txCs (.slice (some ⟨g3, 0, none⟩) 2 2)).toArray 64) ∧ Below wc.heap.size wc wx)
        case first =>
          go_wp2_with fail
          go_meet
          exact ⟨wc.heap.size, wc.heap.size + 1, rfl, two_0X _ _ _, two_1X _ _ _, two_bX _ _ _⟩
        case rest =>
          obtain ⟨g3, b2, rfl, hk3, hkb, hC⟩ := hcut
          have HTC := hid (HTB.out.later hC)
          have HK2' := hid (keep_atX HK2.out hC (Nat.le_refl _))
          have HKa' := hid (keep_atX HKa.out hC (Nat.le_refl _))
          have HKb := hid hkb
          have HK3' := hid hk3
          clear HTB HK2 HKa hkb hC hk3
          go_upto_region 5 with fail
          go_cut [4] (fun t4 wx => ∃ b3 : Nat, t4 = .pointer (some ⟨b3, 0, none⟩) ∧ wx.heap[b3]? = some (.cells (elCs 98 2 (.slice none 0 0)).toArray 64) ∧ Below wc.heap.size wc wx)
          case first =>
            go_wp2_with fail
            go_meet
            exact ⟨wc.heap.size, rfl, heap_new _ _, (Below.refl _ _).alloc (Nat.le_refl _) _⟩
          case rest =>
            as_aux_lemma =>
              obtain ⟨b3, rfl, kc, hC⟩ := hcut
              obtain ⟨hB, ⟨z1, z2, z3, z6, z7, z8⟩, k1, kd, kf, k0⟩ := HTC.out.later hC
              have k2 := keep_atX HK2'.out hC (Nat.le_refl _)
              have ka := keep_atX HKa'.out hC (Nat.le_refl _)
              have kb := keep_atX HKb.out hC (Nat.le_refl _)
              have k3 := keep_atX HK3'.out hC (Nat.le_refl _)
              clear HTC HK2' HKa' HKb hC HK3'
              obtain ⟨⟨a0, a1, a2, a3, a4, a5, a6, a7⟩, ⟨a8, a9, a10, a11, a12, a13, a14, a15⟩⟩ := cells16 ka
              obtain ⟨⟨c0, c1, c2, c3, c4, c5, c6, c7⟩, ⟨c8, c9, c10, c11, c12, c13, c14, c15⟩⟩ := cells16 kb
              obtain ⟨⟨d0, d1, d2, d3, d4, d5, d6, d7⟩, ⟨d8, d9, d10, d11, d12, d13, d14, d15⟩⟩ := cells16 kc
              have f0 : wc.cell? ⟨bf, 0, none⟩ = some (.slice (some ⟨bd, 0, none⟩) 1 1) := Boxed.cell kf
              have Hown : Hid ((wc.alloc (.cells (newCs g2 g3).toArray 64)).ownsRow w.heap.size 64 16 (.slice (some ⟨bd, 0, none⟩) 1 1) 1 (docCs (.slice (some ⟨g1, 0, none⟩) 1 1))) := World.ownsRow.alloc ⟨rfl, .inr ⟨bd, 1, _, rfl, z3, kd, Nat.le_refl _, by decide, rfl, rfl⟩⟩ _
              have Hnews := hid (row_new wc (newCs g2 g3) 64)
              have Hone := hid (newCs_one g2 g3)
              have m1 : 1 + 3 ≤ maxLen := by decide
              have m2 : (1 + 3) * 200 ≤ 140737488355328 := by decide
              have m3 : w.heap.size ≤ (wc.alloc (.cells (newCs g2 g3).toArray 64)).heap.size := by have := hB.size; simp only [World.size_alloc]; omega
              have HB := hid hB
              have HK1 := hid k1
              have HK2 := hid k2
              have HK3 := hid k3
              have HKf := hid kf
              have HK0 := hid k0
              have HKd := hid kd
              clear k1 k2 k3 kd ka kb kc kf k0 hB
              have hsm : ¬ 3 * i0.size > 2 ^ 24 := by rw [hz1]; decide
              have hpo : ¬ 3 * i0.size = 0 := by rw [hz1]; decide
              have HFl := hid (newCs_fill g2 g3 i0.size (.agg #[.int .u8 0, .string ⟨#[]⟩, .string ⟨#[]⟩, .string ⟨#[]⟩, .string ⟨#[]⟩, .string ⟨#[]⟩, .slice none 0 0, .slice none 0 0, .int .i64 0, .slice none 0 0, .int .i64 0, .int .i64 0, .int .i64 0, .int .u8 0, .bool false, .bool false]) hz1)
              go_wp2_with (first
                | (refine wpList_buildSlice rfl 22 64 3 _ rfl (newCs g2 g3).toArray i0 (.agg #[.int .u8 0, .string ⟨#[]⟩, .string ⟨#[]⟩, .string ⟨#[]⟩, .string ⟨#[]⟩, .string ⟨#[]⟩, .slice none 0 0, .slice none 0 0, .int .i64 0, .slice none 0 0, .int .i64 0, .int .i64 0, .int .i64 0, .int .u8 0, .bool false, .bool false]) Tryz.underlying22 hi hz0 hsm hpo (by simp only [List.map_toArray, List.map_cons, List.map_nil]; exact HFl.out) ?_)
                | (at_builtin; refine wpList_append_own _ rfl _ _ 22 rfl w.heap.size 64 i0 (.agg #[.int .u8 0, .string ⟨#[]⟩, .string ⟨#[]⟩, .string ⟨#[]⟩, .string ⟨#[]⟩, .string ⟨#[]⟩, .slice none 0 0, .slice none 0 0, .int .i64 0, .slice none 0 0, .int .i64 0, .int .i64 0, .int .i64 0, .int .u8 0, .bool false, .bool false]) 16 200 Tryz.underlying22 hi hz0 hz1 hz2 rfl (by decide) _ 1 (docCs (.slice (some ⟨g1, 0, none⟩) 1 1)) rfl Hown.out ⟨wc.heap.size, 0, none⟩ 3 3 (newCs g2 g3) rfl rfl Hnews.out Hone.out m1 m2 m3 ?_; intro v' w1 hown' hgrow _; obtain ⟨g', cap', rfl⟩ := ownsRow_succ hown'; have HO := hid hown'; have HG := hid hgrow; have x1 := tree_keep HKf.out hgrow (fun e => z6 e.symm); have x2 := x1.cell; have x3 := x1.frozen; have y1 := tree_keep HK0.out hgrow (fun e => z7 e.symm); have y2 := y1.cell; have y3 := y1.frozen; clear hown' hgrow x1 y1))
              have hr0 := World.cell?_setCell_same' (w1.setCell ⟨bf, 0, none⟩ (.slice (some ⟨g', 0, none⟩) 4 cap')) ⟨b0, 0, none⟩ (.slice (some ⟨g', 0, none⟩) 4 cap') (by rw [World.cell?_setCell_other _ _ _ _ (fun e => z8 (congrArg Addr.block e)), y2]; rfl)
              exact treeW_end HB.out z1 z2 z3 z6 z7 HK1.out HK2.out HK3.out HKf.out HK0.out HKd.out HO.out HG.out (by simp [results, Tryz.results53, go_sem, hr0]) rfl
end Go.Proofs.YtilacgcjbdkphaaGreat

