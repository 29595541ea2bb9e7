/- loop: the reference: Copy. -/
import Derived.Test.YtaliecmdkloceaaLpPP
namespace Go.Proofs.Ytaliecmdkloceaa
open Go.RowKit Go.Lib Go.Shelf

/-- What is put behind an empty row of one's own. -/
theorem app_new {P : Program} (W : World) (g : Nat) (t ty e : TypeId) (i : TypeInfo) (z : Value) (sz bytes : Nat) (ht : P.underlying t = some (.slice e)) (hi : P.info? e = some i) (hz : i.zero = some z) (hsize : i.size = sz) (hby : i.bytes = bytes) (hzs : z.cells.size = sz) (hsz : 0 < sz) (hg : W.heap[g]? = some (.cells #[] e))
    (o : Option Addr) (m c : Nat) (news : List Value) (hl : news.length = m * sz) (hsrc : 0 < m → ∃ b off, o = some ⟨b, off, none⟩ ∧ ∀ j u, news[j]? = some u → W.cell? ⟨b, off + j, none⟩ = some u) (h1 : ∀ u ∈ news, u.oneCell' = true) (h63 : m ≤ maxLen) (hbytes : m * bytes ≤ 140737488355328) :
    ∃ o' c' w', (Builtin.append_ #[t, t] ty #[.slice (some ⟨g, 0, none⟩) 0 0, .slice o m c]).run P W = .ok (.slice o' m c') w' ∧ QR w' e sz (.slice o' m c') m news ∧ W.grownBy w' (some g) ∧ ∀ k, (Value.slice o' m c').ownBlock = some k → k = g ∨ W.heap.size ≤ k := by
  cases o with
  | none =>
    have h0 : m = 0 := by
      by_cases h0 : m = 0
      · exact h0
      · obtain ⟨b, off, e, _⟩ := hsrc (by omega)
        cases e
    subst h0
    have hn : news = [] := List.length_eq_zero_iff.1 (by omega)
    subst hn
    refine ⟨some ⟨g, 0, none⟩, 0, W, ?_, QR.empty sz hg, ⟨rfl, rfl, rfl, Nat.le_refl _, fun _ _ _ => rfl⟩, fun k hk => .inl (Option.some.inj hk).symm⟩
    simp [Builtin.append_, run_underlying ht, sizeOf, typeInfo, hi, Builtin.lenOf, Builtin.firstCells, storeCells]
  | some ad =>
    have hnews : ∀ j u, news[j]? = some u → W.cell? (ad.add j) = some u := fun j u hj => by
      by_cases h0 : m = 0
      · have hn : news = [] := List.length_eq_zero_iff.1 (by rw [hl, h0, Nat.zero_mul])
        rw [hn] at hj
        cases hj
      · obtain ⟨b, off, e, h⟩ := hsrc (by omega)
        injection e with e
        subst e
        rw [Addr.add_lit]
        exact h j u hj
    obtain ⟨o', c', w', r1, r2, r3, r4⟩ := run_appendQ (P := P) W t ty e i z sz bytes ht hi hz hsize hby hzs hsz (.slice (some ⟨g, 0, none⟩) 0 0) 0 [] (QR.empty sz hg) ad m c news hl hnews h1 (by omega) (by rw [Nat.zero_add]; exact hbytes)
    rw [Nat.zero_add] at r1 r2 r4
    exact ⟨o', c', w', r1, r2, r3, fun k hk => (r4 k hk).imp_left (fun e => (Option.some.inj e).symm)⟩
theorem info_tmR : (Try.prog.info? 92).map (fun i => (i.zero, i.size, i.bytes)) = some (some (.agg #[.int .i64 0, .int .i64 0, .int .i64 0]), 3, 24) := by kernel_rfl
theorem info_rowR : (Try.prog.info? 26).map (fun i => (i.zero, i.size, i.bytes)) = some (some (.slice none 0 0), 1, 24) := by kernel_rfl
/-- A copy of numbers. -/
theorem copyI {W : World} {o : Option Addr} {m c : Nat} {l : List Int} (h : RdI W (.slice o m c) l) (hm : m ≤ 1048576) (ty : TypeId) (g : Nat) (hg : W.heap[g]? = some (.cells #[] 3)) :
    ∃ o' c' w', (Builtin.append_ #[26, 26] ty #[.slice (some ⟨g, 0, none⟩) 0 0, .slice o m c]).run Try.prog W = .ok (.slice o' m c') w' ∧ QR w' 3 1 (.slice o' m c') l.length (rowN l) ∧ W.grownBy w' (some g) ∧ ∀ k, (Value.slice o' m c').ownBlock = some k → k = g ∨ W.heap.size ≤ k := by
  obtain ⟨i0, hi, hz0, hz1, hz2⟩ := info_parts info_intQ
  obtain ⟨o2, c2, e, hc, hgg⟩ := h
  injection e with e1 e2 e3
  subst e1 e2 e3
  exact app_new (P := Try.prog) W g 26 ty 3 i0 _ 1 8 Try.underlying26 hi hz0 hz1 hz2 rfl (by decide) hg o l.length c (rowN l) (rowN_len l) (fun hp => by
    obtain ⟨b, off, h1, h2, h3⟩ := hgg hp
    refine ⟨b, off, h1, fun j u hj => ?_⟩
    unfold rowN at hj
    rw [List.getElem?_map] at hj
    obtain ⟨x, hx, rfl⟩ := Option.map_eq_some_iff.1 hj
    obtain ⟨hj', rfl⟩ := List.getElem?_eq_some_iff.1 hx
    exact h3 j hj') (rowN_one l) (by unfold maxLen; omega) (by omega)
/-- A copy of timers. -/
theorem copyT {W : World} {o : Option Addr} {m c : Nat} {l : List AlD} (h : RdT W (.slice o m c) l) (hm : m ≤ 1048576) (ty : TypeId) (g : Nat) (hg : W.heap[g]? = some (.cells #[] 92)) :
    ∃ o' c' w', (Builtin.append_ #[28, 28] ty #[.slice (some ⟨g, 0, none⟩) 0 0, .slice o m c]).run Try.prog W = .ok (.slice o' m c') w' ∧ QR w' 92 3 (.slice o' m c') l.length (rowA l) ∧ W.grownBy w' (some g) ∧ ∀ k, (Value.slice o' m c').ownBlock = some k → k = g ∨ W.heap.size ≤ k := by
  obtain ⟨i0, hi, hz0, hz1, hz2⟩ := info_parts info_tmR
  obtain ⟨o2, c2, e, hc, hgg⟩ := h
  injection e with e1 e2 e3
  subst e1 e2 e3
  exact app_new (P := Try.prog) W g 28 ty 92 i0 _ 3 24 Try.underlying28 hi hz0 hz1 hz2 rfl (by decide) hg o l.length c (rowA l) (rowA_len l) (fun hp => by
    obtain ⟨b, off, h1, h2, h3⟩ := hgg hp
    refine ⟨b, off, h1, fun j u hj => ?_⟩
    have hlt : j < (rowA l).length := (List.getElem?_eq_some_iff.1 hj).1
    rw [rowA_len] at hlt
    have hq : j / 3 < l.length := by omega
    have hr := rowA_get l (j / 3) (j % 3) hq (Nat.mod_lt _ (by decide))
    rw [show j / 3 * 3 + j % 3 = j by omega] at hr
    rw [hr] at hj
    obtain ⟨c0, c1, c2⟩ := h3 (j / 3) hq
    rw [show off + j = off + j / 3 * 3 + j % 3 by omega]
    rcases (by omega : j % 3 = 0 ∨ j % 3 = 1 ∨ j % 3 = 2) with hz | hz | hz
    · rw [hz] at hj ⊢; rw [Nat.add_zero, c0]; exact hj
    · rw [hz] at hj ⊢; rw [c1]; exact hj
    · rw [hz] at hj ⊢; rw [c2]; exact hj) (rowA_one l) (by unfold maxLen; omega) (by omega)
theorem own_ty {W : World} {base : Nat} {e : TypeId} {sz n : Nat} {v : Value} {xs : List Value} (h : W.ownsRow base e sz v n xs) {g : Nat} (hg : v.ownBlock = some g) : base ≤ g ∧ ∃ arr, W.heap[g]? = some (.cells arr e) := by
  rcases h.2 with ⟨rfl, _⟩ | ⟨g', cap, cur, rfl, hb, hh, _⟩
  · cases hg
  · have : g' = g := Option.some.inj hg
    subst this
    exact ⟨hb, cur, hh⟩
/-- A state that is being copied: k rows of its tasks are. -/
structure CpO (W : World) (n0 : Nat) (r : LpD) (k : Nat) (ov : Value) (v : Nat → Value) (tv : Value) : Prop where
  out : W.ownsRow n0 26 1 ov k ((List.range k).map v)
  row : ∀ i, i < k ∨ i = 8 → QR W 3 1 (v i) (tabL r i).length (rowN (tabL r i))
  tm : QR W 92 3 tv r.tms.length (rowA r.tms)
  low : ∀ i, i < k ∨ i = 8 → ∀ g, (v i).ownBlock = some g → n0 ≤ g
  lowT : ∀ g, tv.ownBlock = some g → n0 ≤ g
  apart : ∀ i j, i < k ∨ i = 8 → j < k ∨ j = 8 → i ≠ j → ∀ g, (v i).ownBlock = some g → (v j).ownBlock ≠ some g
theorem CpO.keep {W U : World} {n0 : Nat} {r : LpD} {k : Nat} {ov : Value} {v : Nat → Value} {tv : Value} (h : CpO W n0 r k ov v tv) (hs : W.grownBy U none) : CpO U n0 r k ov v tv :=
  ⟨h.out.kept hs (by cases hv : ov.ownBlock <;> simp), fun i hi => (h.row i hi).kept fun g hg => hs.block g ((h.row i hi).lt hg) (by simp), h.tm.kept fun g hg => hs.block g (h.tm.lt hg) (by simp), h.low, h.lowT, h.apart⟩
theorem CpO.step {wr w1 w2 : World} {n0 : Nat} {r : LpD} {k : Nat} {ov ov' x : Value} {v : Nat → Value} {tv : Value} (h : CpO wr n0 r k ov v tv) (hn : n0 ≤ wr.heap.size) (hk : k < 8)
    (hg1 : (wr.alloc (.cells #[] 3)).grownBy w1 (some wr.heap.size)) (hq : QR w1 3 1 x (tabL r k).length (rowN (tabL r k))) (hown : ∀ g, x.ownBlock = some g → g = wr.heap.size ∨ (wr.alloc (.cells #[] 3)).heap.size ≤ g)
    (hg2 : (w1.alloc (.cells #[x] 26)).grownBy w2 ov.ownBlock) (ho2 : w2.ownsRow n0 26 1 ov' (k + 1) ((List.range k).map v ++ [x])) : CpO w2 n0 r (k + 1) ov' (putV2 v k x) tv := by
  have hs1 : wr.heap.size < (wr.alloc (.cells #[] 3)).heap.size := by simp
  have hs2 := hg1.size
  have hb1 : ∀ g, g < wr.heap.size → (w1.alloc (.cells #[x] 26)).heap[g]? = wr.heap[g]? := fun g hg => by
    rw [Below.heap_alloc _ _ _ (by omega), hg1.block g (by omega) (fun e => by have := Option.some.inj e; omega), Below.heap_alloc _ _ _ hg]
  have hne : ∀ (g : Nat) (a : Array Value) (T : TypeId), wr.heap[g]? = some (Obj.cells a T) → T ≠ 26 → w2.heap[g]? = wr.heap[g]? := fun g a T hgg hT => by
    have hlt := (Array.getElem?_eq_some_iff.1 hgg).1
    rw [hg2.block g (by rw [World.size_alloc]; omega) (fun e => by
      obtain ⟨_, a2, ha2⟩ := own_ty h.out e.symm
      exact ty_ne hgg ha2 hT rfl), hb1 g hlt]
  have hold : ∀ i, i < k ∨ i = 8 → ∀ g, (v i).ownBlock = some g → w2.heap[g]? = wr.heap[g]? := fun i hi g hg => by
    obtain ⟨a, ha⟩ := (h.row i hi).ty hg
    exact hne _ _ _ ha (by decide)
  have hx : ∀ g, x.ownBlock = some g → wr.heap.size ≤ g ∧ w2.heap[g]? = w1.heap[g]? := fun g hg => by
    have h1 : wr.heap.size ≤ g := by rcases hown g hg with e | e <;> omega
    have hlt := hq.lt hg
    refine ⟨h1, ?_⟩
    rw [hg2.block g (by rw [World.size_alloc]; omega) (fun e => by
      obtain ⟨_, a2, ha2⟩ := own_ty h.out e.symm
      have := (Array.getElem?_eq_some_iff.1 ha2).1
      omega), Below.heap_alloc _ _ _ hlt]
  refine ⟨?_, fun i hi => ?_, h.tm.kept fun g hg => ?_, fun i hi g hg => ?_, h.lowT, fun i j hi hj hij g hg => ?_⟩
  · have e : (List.range (k + 1)).map (putV2 v k x) = (List.range k).map v ++ [x] := by
      rw [List.range_succ, List.map_append]
      congr 1
      · refine List.map_congr_left fun j hj => ?_
        have := List.mem_range.1 hj
        unfold putV2
        rw [if_neg (by omega)]
      · unfold putV2
        simp
    rw [e]
    exact ho2
  · unfold putV2
    by_cases hik : i = k
    · subst hik
      rw [if_pos rfl]
      exact hq.kept fun g hg => (hx g hg).2
    · rw [if_neg hik]
      exact (h.row i (by omega)).kept (hold i (by omega))
  · obtain ⟨a, ha⟩ := h.tm.ty hg
    exact hne _ _ _ ha (by decide)
  · unfold putV2 at hg
    by_cases hik : i = k
    · rw [if_pos hik] at hg
      have := (hx g hg).1
      omega
    · rw [if_neg hik] at hg
      exact h.low i (by omega) g hg
  · unfold putV2 at hg ⊢
    by_cases hik : i = k
    · rw [if_pos hik] at hg
      rw [if_neg (by omega)]
      intro hj2
      have := (h.row j (by omega)).lt hj2
      have := (hx g hg).1
      omega
    · rw [if_neg hik] at hg
      by_cases hjk : j = k
      · rw [if_pos hjk]
        intro hj2
        have := (h.row i (by omega)).lt hg
        have := (hx g hj2).1
        omega
      · rw [if_neg hjk]
        exact h.apart i j (by omega) (by omega) hij g hg
/-- All rows are copied. -/
theorem CpO.all {W : World} {n0 : Nat} {r : LpD} {ov : Value} {v : Nat → Value} {tv : Value} (h : CpO W n0 r 8 ov v tv) (h8 : r.tks.length = 8) : ∃ B c, ov = .slice (some ⟨B, 0, none⟩) 8 c ∧ RfO W n0 r B c v tv := by
  rcases h.out.2 with ⟨_, h0⟩ | ⟨g, cap, cur, hv, hb, hh, hn, hm, hcs, ht⟩
  · omega
  · refine ⟨g, cap, hv, ⟨cur, hh, fun i hi => ?_⟩, fun i hi => h.row i (by omega), h.tm, hb, fun i hi => h.low i (by omega), h.lowT, fun i j hi hj => h.apart i j (by omega) (by omega), hn, h8⟩
    have e : ((List.range 8).map v)[i]? = some (v i) := by
      rw [List.getElem?_map, List.getElem?_range hi]
      rfl
    rw [← ht, List.getElem?_take, if_pos (by simpa using hi), Array.getElem?_toList] at e
    exact e
end Go.Proofs.Ytaliecmdkloceaa
