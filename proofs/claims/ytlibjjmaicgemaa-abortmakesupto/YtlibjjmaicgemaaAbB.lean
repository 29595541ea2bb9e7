/- Lists of numbers, each a row of its own, in one list: how they lie; one more number is put behind one of them. -/
import Derived.Test.YtlibjjmaicgemaaAbA
import Derived.Deep.OwnRows
namespace Go.Proofs.Ytlibjjmaicgemaa
open Go.RowKit Go.Lib Go.Shelf

theorem info_intA : (Try.prog.info? 3).map (fun i => (i.zero, i.size, i.bytes)) = some (some (.int .i64 0), 1, 8) := by kernel_rfl
theorem set_boxA {W : World} {g k : Nat} {v : Value} {t : TypeId} {cur : Array Value} (h : W.heap[g]? = some (.cells cur t)) : (W.setCell ⟨g, k, none⟩ v).heap[g]? = some (.cells (cur.setIfInBounds k v) t) := by
  simp [World.setCell, Array.getElem?_modify, h]
theorem grown_all {V W U : World} {row : Option Nat} (h1 : V.grownBy W row) (h2 : W.grownBy U row) : V.grownBy U row :=
  ⟨h2.os.trans h1.os, h2.tape.trans h1.tape, h2.output.trans h1.output, Nat.le_trans h1.size h2.size, fun k hk hne => (h2.block k (Nat.lt_of_lt_of_le hk h1.size) hne).trans (h1.block k hk hne)⟩
/-- One more number is put behind a row of the call's own; where that lies. -/
theorem run_appendW (V : World) (B : Nat) (v : Value) (l : List Int) (x : Int) (hown : V.ownsRow B 3 1 v l.length (l.map (Value.int .i64))) (hB : B ≤ V.heap.size) (hn : l.length + 1 ≤ 1099511627776) :
    ∃ o2 c2 V2, (Builtin.append_ #[23, 23] 23 #[v, .slice (some ⟨V.heap.size, 0, none⟩) 1 1]).run Try.prog (V.alloc (.cells #[.int .i64 x] 3)) = .ok (.slice o2 (l ++ [x]).length c2) V2 ∧ V2.ownsRow B 3 1 (.slice o2 (l ++ [x]).length c2) (l ++ [x]).length ((l ++ [x]).map (Value.int .i64)) ∧ V.grownBy V2 v.ownBlock ∧ ((Value.slice o2 (l ++ [x]).length c2).ownBlock = v.ownBlock ∨ ∃ k, (Value.slice o2 (l ++ [x]).length c2).ownBlock = some k ∧ V.heap.size ≤ k) := by
  obtain ⟨i0, hi, hz0, hz1, hz2⟩ := info_parts info_intA
  have hb : Below V.heap.size V (V.alloc (.cells #[.int .i64 x] 3)) := (Below.refl _ V).alloc (Nat.le_refl _) _
  have h1 := own_later hown hb
  have hnews : ∀ (j : Nat) (u : Value), ([.int .i64 x] : List Value)[j]? = some u → (V.alloc (.cells #[.int .i64 x] 3)).cell? ((⟨V.heap.size, 0, none⟩ : Addr).add j) = some u := fun j u hj => by
    match j, hj with
    | 0, hj =>
      cases hj
      exact box1 (heap_new V _)
  obtain ⟨v', V2, hr, ho, hg, _⟩ := run_append_own (P := Try.prog) (V.alloc (.cells #[.int .i64 x] 3)) B 23 23 3 i0 _ 1 8 Try.underlying23 hi hz0 hz1 hz2 rfl (by decide) _ l.length _ h1 ⟨V.heap.size, 0, none⟩ 1 1 [.int .i64 x] rfl hnews (by simp [Value.oneCell']) (by unfold maxLen; omega) (by omega) (Nat.le_trans hB hb.size)
  have hwhere : v'.ownBlock = v.ownBlock ∨ ∃ k, v'.ownBlock = some k ∧ V.heap.size ≤ k := by
    rcases h1.2 with ⟨rfl, h0⟩ | ⟨g, cap, cur, rfl, hbg, hh, hnc, hcm, hcs, htk⟩
    · have hl : l = [] := List.eq_nil_of_length_eq_zero h0
      subst hl
      obtain ⟨v2, W2, hr2, ho2, _, _⟩ := run_append_own (P := Try.prog) (V.alloc (.cells #[.int .i64 x] 3)) (V.alloc (.cells #[.int .i64 x] 3)).heap.size 23 23 3 i0 _ 1 8 Try.underlying23 hi hz0 hz1 hz2 rfl (by decide) (.slice none 0 0) 0 [] (World.ownsRow_nil _ _ _ _) ⟨V.heap.size, 0, none⟩ 1 1 [.int .i64 x] rfl hnews (by simp [Value.oneCell']) (by unfold maxLen; omega) (by omega) (Nat.le_refl _)
      have he := hr.symm.trans hr2
      injection he with e1 e2
      subst e1
      rcases ho2.2 with ⟨_, h0⟩ | ⟨g, cap, cur, rfl, hbg, _⟩
      · omega
      · exact .inr ⟨g, rfl, Nat.le_trans hb.size hbg⟩
    · by_cases hroom : l.length + 1 ≤ cap
      · have h := run_append_room (P := Try.prog) (V.alloc (.cells #[.int .i64 x] 3)) 23 23 3 i0 Try.underlying23 hi g l.length cap cur hh ⟨V.heap.size, 0, none⟩ 1 1 [.int .i64 x] (by rw [hz1]; rfl) hnews (by simp [Value.oneCell']) hroom (by rw [hz1, hcs]; simp; omega)
        have he := hr.symm.trans h
        injection he with e1 e2
        subst e1
        exact .inl rfl
      · have h := run_append_grow (P := Try.prog) (V.alloc (.cells #[.int .i64 x] 3)) 23 23 3 i0 _ Try.underlying23 hi hz0 ⟨g, 0, none⟩ l.length cap (l.map (Value.int .i64)) (by rw [hz1]; simp) (h1.cells (g := g) rfl) ⟨V.heap.size, 0, none⟩ 1 1 [.int .i64 x] (by rw [hz1]; rfl) hnews (by omega) (by omega) (growslice_fits (by omega) (by rw [hz2]; omega))
        have he := hr.symm.trans h
        injection he with e1 e2
        subst e1
        exact .inr ⟨_, rfl, hb.size⟩
  obtain ⟨o2, c2, rfl⟩ := own_shape ho
  have he : (l ++ [x]).length = l.length + 1 := by simp
  exact ⟨o2, c2, V2, by rw [he]; exact hr, by rw [he, List.map_append]; exact ho, grown_all (World.grownBy_alloc V _ _) hg, by rw [he]; exact hwhere⟩

/-- Lists of numbers, each a row of its own. -/
structure SaidAt (W : World) (g base : Nat) (rs : List (List Int)) (cur : Array Value) : Prop where
  blk : W.heap[g]? = some (.cells cur 23)
  low : base ≤ g
  size : cur.size = rs.length
  row : ∀ (k : Nat) (h : k < rs.length), ∃ v, cur[k]? = some v ∧ W.ownsRow base 3 1 v rs[k].length (rs[k].map (Value.int .i64))
  apart : ∀ (k k' : Nat) (v v' : Value) (b : Nat), k ≠ k' → cur[k]? = some v → cur[k']? = some v' → v.ownBlock = some b → v'.ownBlock ≠ some b
theorem SaidAt.later {W V : World} {g base : Nat} {rs : List (List Int)} {cur : Array Value} (h : SaidAt W g base rs cur) (hb : Below W.heap.size W V) : SaidAt V g base rs cur :=
  ⟨blkLater hb h.blk, h.low, h.size, fun k hk => by obtain ⟨v, h1, h2⟩ := h.row k hk; exact ⟨v, h1, own_later h2 hb⟩, h.apart⟩
theorem SaidAt.cell {W : World} {g base : Nat} {rs : List (List Int)} {cur : Array Value} (h : SaidAt W g base rs cur) (k : Nat) (hk : k < rs.length) : ∃ o c, W.cell? ⟨g, k, none⟩ = some (.slice o rs[k].length c) ∧ cur[k]? = some (.slice o rs[k].length c) ∧ RdI W (.slice o rs[k].length c) rs[k] := by
  obtain ⟨v, h1, h2⟩ := h.row k hk
  obtain ⟨o, c, rfl⟩ := own_shape h2
  exact ⟨o, c, (cell_of_heap h.blk k).trans h1, h1, own_rdI h2⟩
theorem SaidAt.frozen {W : World} {g base : Nat} {rs : List (List Int)} {cur : Array Value} (h : SaidAt W g base rs cur) (k : Nat) : W.frozen? ⟨g, k, none⟩ = false := by
  simp [World.frozen?, h.blk]
theorem said_made (W : World) (n base : Nat) (hb : base ≤ W.heap.size) : SaidAt (W.alloc (.cells (madeCells #[.slice none 0 0] n) 23)) W.heap.size base (List.replicate n []) (madeCells #[.slice none 0 0] n) := by
  have hc : ∀ (k : Nat) (v : Value), (madeCells #[.slice none 0 0] n)[k]? = some v → v = .slice none 0 0 := fun k v h => by
    unfold madeCells at h
    simp only [Array.getElem?_map, Option.map_eq_some_iff] at h
    obtain ⟨j, _, rfl⟩ := h
    have : j % 1 = 0 := Nat.mod_one j
    simp [this]
  refine ⟨heap_new _ _, hb, by rw [size_madeCells]; simp, fun k hk => ?_, fun k k' v v' b _ h1 _ h3 => ?_⟩
  · have hk' : k < (madeCells #[.slice none 0 0] n).size := by rw [size_madeCells]; simpa using hk
    refine ⟨.slice none 0 0, ?_, ?_⟩
    · rw [Array.getElem?_eq_getElem hk']
      exact congrArg some (hc k _ (Array.getElem?_eq_getElem hk'))
    · rw [List.getElem_replicate]
      exact World.ownsRow_nil _ _ _ _
  · rw [hc k v h1] at h3
    cases h3
/-- One more number is put behind one of the lists. -/
theorem said_put {W : World} {g base : Nat} {rs : List (List Int)} {cur : Array Value} (h : SaidAt W g base rs cur) (k : Nat) (hk : k < rs.length) (x : Int) (hn : rs[k].length + 1 ≤ 1099511627776) (o : Option Addr) (c : Nat) (hv : cur[k]? = some (.slice o rs[k].length c)) :
    ∃ o2 c2 V2, (Builtin.append_ #[23, 23] 23 #[.slice o rs[k].length c, .slice (some ⟨W.heap.size, 0, none⟩) 1 1]).run Try.prog (W.alloc (.cells #[.int .i64 x] 3)) = .ok (.slice o2 (rs[k] ++ [x]).length c2) V2 ∧ (∃ u, V2.cell? ⟨g, k, none⟩ = some u) ∧ V2.frozen? ⟨g, k, none⟩ = false ∧
      SaidAt (V2.setCell ⟨g, k, none⟩ (.slice o2 (rs[k] ++ [x]).length c2)) g base (rs.set k (rs[k] ++ [x])) (cur.setIfInBounds k (.slice o2 (rs[k] ++ [x]).length c2)) ∧ Below base W (V2.setCell ⟨g, k, none⟩ (.slice o2 (rs[k] ++ [x]).length c2)) ∧
      (∀ (D : Nat) (cu : Array Value) (e2 : TypeId), e2 ≠ 3 → D ≠ g → W.heap[D]? = some (.cells cu e2) → (V2.setCell ⟨g, k, none⟩ (.slice o2 (rs[k] ++ [x]).length c2)).heap[D]? = some (.cells cu e2)) := by
  have hgl := (Array.getElem?_eq_some_iff.1 h.blk).1
  have hB : base ≤ W.heap.size := Nat.le_trans h.low (Nat.le_of_lt hgl)
  obtain ⟨v0, hv0, hown⟩ := h.row k hk
  rw [hv] at hv0
  have hv0 := Option.some.inj hv0
  subst hv0
  obtain ⟨o2, c2, V2, hr, ho, hg, hwh⟩ := run_appendW W base _ rs[k] x hown hB hn
  have hne : (Value.slice o rs[k].length c).ownBlock ≠ some g := own_not hown h.blk (by decide)
  have hg2 : V2.heap[g]? = some (.cells cur 23) := heap_grow h.blk hg hne
  have hkc : k < cur.size := by rw [h.size]; exact hk
  have hcell : V2.cell? ⟨g, k, none⟩ = some (.slice o rs[k].length c) := (cell_of_heap hg2 k).trans hv
  refine ⟨o2, c2, V2, hr, ⟨_, hcell⟩, by simp [World.frozen?, hg2], ⟨set_boxA hg2, h.low, by simp [h.size], fun j hj => ?_, fun j j' v v' b hjj h1 h2 h3 => ?_⟩, ?_, fun D cu e2 he hD hh => (Below.heap_setCell V2 ⟨g, k, none⟩ _ D hD).trans (heap_grow hh hg (own_not hown hh he))⟩
  · rw [List.length_set] at hj
    by_cases hjk : j = k
    · subst hjk
      refine ⟨_, by rw [Array.getElem?_setIfInBounds, if_pos rfl, if_pos hkc], ?_⟩
      rw [List.getElem_set_self]
      exact own_set ho hg2 (by decide) _
    · obtain ⟨u, hu1, hu2⟩ := h.row j hj
      refine ⟨u, by rw [Array.getElem?_setIfInBounds, if_neg (fun e => hjk e.symm)]; exact hu1, ?_⟩
      rw [List.getElem_set_ne (fun e => hjk e.symm)]
      refine own_set (hu2.kept hg ?_) hg2 (by decide) _
      cases hub : u.ownBlock with
      | none => exact .inl rfl
      | some b => exact .inr (fun e => h.apart j k u _ b hjk hu1 hv hub e.symm)
  · rw [Array.getElem?_setIfInBounds] at h1 h2
    by_cases e1 : k = j
    · subst e1
      rw [if_pos rfl, if_pos hkc] at h1
      rw [if_neg hjj] at h2
      have h1 := Option.some.inj h1
      subst h1
      have hj' : j' < rs.length := by rw [← h.size]; exact (Array.getElem?_eq_some_iff.1 h2).1
      rcases hwh with e | ⟨q, hq, hlt⟩
      · rw [e] at h3
        exact h.apart k j' _ v' b hjj hv h2 h3
      · intro e
        rw [hq] at h3
        have h3 := Option.some.inj h3
        subst h3
        obtain ⟨u, hu1, hu2⟩ := h.row j' hj'
        rw [h2] at hu1
        have hu1 := Option.some.inj hu1
        subst hu1
        have := (hu2.lt q e).2
        omega
    · rw [if_neg e1] at h1
      have hj : j < rs.length := by rw [← h.size]; exact (Array.getElem?_eq_some_iff.1 h1).1
      by_cases e2 : k = j'
      · subst e2
        rw [if_pos rfl, if_pos hkc] at h2
        have h2 := Option.some.inj h2
        subst h2
        rcases hwh with e | ⟨q, hq, hlt⟩
        · rw [e]
          exact h.apart j k v _ b hjj h1 hv h3
        · intro e
          rw [hq] at e
          have e := Option.some.inj e
          subst e
          obtain ⟨u, hu1, hu2⟩ := h.row j hj
          rw [h1] at hu1
          have hu1 := Option.some.inj hu1
          subst hu1
          have := (hu2.lt q h3).2
          omega
      · rw [if_neg e2] at h2
        exact h.apart j j' v v' b hjj h1 h2 h3
  · exact ((Below.refl base W).grown hg hB (fun j hj => (hown.lt j hj).1)).setCell (p := ⟨g, k, none⟩) h.low _
end Go.Proofs.Ytlibjjmaicgemaa
