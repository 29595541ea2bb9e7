/- Rows of signals; slices.Clone at them. -/
import Derived.Test.YtlibjjmaicgemaaAbF
import Derived.OneCell
namespace Go.Proofs.Ytlibjjmaicgemaa
open Go.RowKit Go.Lib Go.Shelf

/-- A signal, and the values of its lists. -/
abbrev SigV := SigD × Value × Value
def sigC (p : SigV) : List Value := [.bool p.1.ab, .int .i64 p.1.re, .bool p.1.dep, p.2.1, p.2.2]
def rowS (l : List SigV) : List Value := l.flatMap sigC
theorem rowS_len : ∀ l : List SigV, (rowS l).length = l.length * 5
  | [] => rfl
  | x :: r => by
    unfold rowS
    rw [List.flatMap_cons, List.length_append]
    have := rowS_len r
    unfold rowS at this
    rw [this, List.length_cons]
    simp [sigC]
    omega
theorem rowS_get : ∀ (l : List SigV) (j i : Nat) (hj : j < l.length) (_hi : i < 5), (rowS l)[j * 5 + i]? = (sigC l[j])[i]?
  | [], _, _, hj, _ => by cases hj
  | x :: r, 0, i, _, hi => by
    unfold rowS
    rw [List.flatMap_cons, List.getElem?_append_left (by simp [sigC]; omega), Nat.zero_mul, Nat.zero_add]
    rfl
  | x :: r, j + 1, i, hj, hi => by
    unfold rowS
    rw [List.flatMap_cons, List.getElem?_append_right (by simp [sigC]; omega)]
    have := rowS_get r j i (by simpa using hj) hi
    unfold rowS at this
    rw [show (j + 1) * 5 + i - (sigC x).length = j * 5 + i by simp [sigC]; omega, this]
    rfl
theorem rowS_append (a b : List SigV) : rowS (a ++ b) = rowS a ++ rowS b := by unfold rowS; rw [List.flatMap_append]
theorem rowS_put (u : Value) (c : Nat) (hc : c < 5) (p' : SigV) : ∀ (l : List SigV) (k : Nat) (hk : k < l.length) (_hp : sigC p' = (sigC l[k]).set c u), (rowS l).set (k * 5 + c) u = rowS (l.set k p')
  | [], _, hk, _ => by cases hk
  | x :: r, 0, _, hp => by
    unfold rowS
    rw [List.set_cons_zero, List.flatMap_cons, List.flatMap_cons, Nat.zero_mul, Nat.zero_add, List.set_append_left _ _ (by simp [sigC]; omega), hp]
    rfl
  | x :: r, k + 1, hk, hp => by
    have ih := rowS_put u c hc p' r k (by simpa using hk) hp
    unfold rowS at ih ⊢
    rw [List.set_cons_succ, List.flatMap_cons, List.flatMap_cons, List.set_append_right _ _ (by simp [sigC]; omega), ← ih]
    rw [show (k + 1) * 5 + c - (sigC x).length = k * 5 + c by simp [sigC]; omega]
/-- A value that is a list of numbers. -/
def IsS (v : Value) : Prop := ∃ o n c, v = .slice o n c
theorem RdI.isS {w : World} {v : Value} {l : List Int} (h : RdI w v l) : IsS v := by obtain ⟨o, c, rfl, _⟩ := h; exact ⟨_, _, _, rfl⟩
theorem own_isS {w : World} {b sz n : Nat} {e : TypeId} {v : Value} {xs : List Value} (h : w.ownsRow b e sz v n xs) : IsS v := by obtain ⟨o, c, rfl⟩ := own_shape h; exact ⟨_, _, _, rfl⟩
theorem rowS_one (l : List SigV) (h : ∀ p ∈ l, IsS p.2.1 ∧ IsS p.2.2) : ∀ u ∈ rowS l, u.oneCell' = true := fun u hu => by
  unfold rowS at hu
  obtain ⟨p, hp, hu⟩ := List.mem_flatMap.1 hu
  obtain ⟨⟨_, _, _, h1⟩, ⟨_, _, _, h2⟩⟩ := h p hp
  unfold sigC at hu
  rw [h1, h2] at hu
  simp only [List.mem_cons, List.not_mem_nil, or_false] at hu
  rcases hu with rfl | rfl | rfl | rfl | rfl <;> rfl
theorem info_sig : (Try.prog.info? 42).map (fun i => (i.zero, i.size, i.bytes)) = some (some (.agg #[.bool false, .int .i64 0, .bool false, .slice none 0 0, .slice none 0 0]), 5, 72) := by kernel_rfl
/-- Signals that are read, with the values of their lists. -/
theorem RdS.vals {w : World} {v : Value} {ls : List SigD} (h : RdS w v ls) : ∃ l : List SigV, l.map (·.1) = ls ∧ (∀ p ∈ l, RdI w p.2.1 p.1.src ∧ RdI w p.2.2 p.1.dts) ∧ ∃ o cap, v = .slice o l.length cap ∧ l.length ≤ cap ∧ (0 < l.length → ∃ b off, o = some ⟨b, off, none⟩ ∧ b < w.heap.size ∧ ∀ (j : Nat) (u : Value), (rowS l)[j]? = some u → w.cell? ((⟨b, off, none⟩ : Addr).add j) = some u) := by
  obtain ⟨o, cap, rfl, hc, g⟩ := h
  by_cases hp : 0 < ls.length
  · obtain ⟨b, off, rfl, hlt, ha⟩ := g hp
    let f : Nat → Value × Value := fun j => if h : j < ls.length then ((Classical.choose (ha j h)), (Classical.choose (Classical.choose_spec (ha j h)))) else (default, default)
    have hf : ∀ (j : Nat) (h : j < ls.length), SCells w b (off + j * 5) ls[j] (f j).1 (f j).2 ∧ RdI w (f j).1 ls[j].src ∧ RdI w (f j).2 ls[j].dts := fun j h => by
      have := Classical.choose_spec (Classical.choose_spec (ha j h))
      simp only [f, dif_pos h]
      exact this
    let l : List SigV := ls.mapIdx (fun j x => (x, f j))
    have hl : l.length = ls.length := List.length_mapIdx
    have hg : ∀ (j : Nat) (h : j < l.length), l[j] = (ls[j]'(by omega), f j) := fun j h => by simp only [l, List.getElem_mapIdx]
    refine ⟨l, ?_, fun p hpm => ?_, some ⟨b, off, none⟩, cap, by rw [hl], by omega, fun _ => ⟨b, off, rfl, hlt, fun j u hj => ?_⟩⟩
    · refine List.ext_getElem (by simp [hl]) (fun j h1 h2 => ?_)
      rw [List.getElem_map, hg j (by simpa using h1)]
    · obtain ⟨j, hj, rfl⟩ := List.getElem_of_mem hpm
      rw [hg j hj]
      exact (hf j (by omega)).2
    · have hjl : j < (rowS l).length := (List.getElem?_eq_some_iff.1 hj).1
      rw [rowS_len] at hjl
      have hq : j / 5 < l.length := by omega
      have hm : j % 5 < 5 := Nat.mod_lt _ (by decide)
      have hh := rowS_get l (j / 5) (j % 5) hq hm
      rw [show j / 5 * 5 + j % 5 = j by omega] at hh
      rw [hh] at hj
      rw [Addr.add_lit, show off + j = off + j / 5 * 5 + j % 5 by omega]
      have c := (hf (j / 5) (by omega)).1
      rw [hg _ hq] at hj
      rcases (by omega : j % 5 = 0 ∨ j % 5 = 1 ∨ j % 5 = 2 ∨ j % 5 = 3 ∨ j % 5 = 4) with hz | hz | hz | hz | hz
      · rw [hz] at hj ⊢; rw [Nat.add_zero, c.ab]; exact hj
      · rw [hz] at hj ⊢; rw [c.re]; exact hj
      · rw [hz] at hj ⊢; rw [c.dep]; exact hj
      · rw [hz] at hj ⊢; rw [c.src]; exact hj
      · rw [hz] at hj ⊢; rw [c.dts]; exact hj
  · have h0 : ls = [] := List.eq_nil_of_length_eq_zero (by omega)
    subst h0
    exact ⟨[], rfl, (fun p hp => by cases hp), o, cap, rfl, hc, fun h => absurd h (Nat.lt_irrefl _)⟩
/-- Signals that are put behind a row of the call's own. -/
theorem run_appendS (w : World) (B : Nat) (v : Value) (o : Option Addr) (cap : Nat) (done us : List SigV) (ty : TypeId) (hown : w.ownsRow B 42 5 v done.length (rowS done)) (hB : B ≤ w.heap.size) (h1 : ∀ p ∈ us, IsS p.2.1 ∧ IsS p.2.2)
    (g : 0 < us.length → ∃ b off, o = some ⟨b, off, none⟩ ∧ ∀ (j : Nat) (u : Value), (rowS us)[j]? = some u → w.cell? ((⟨b, off, none⟩ : Addr).add j) = some u) (hn : done.length + us.length ≤ 1099511627776) :
    ∃ v' w', (Builtin.append_ #[22, 22] ty #[v, .slice o us.length cap]).run Try.prog w = .ok v' w' ∧ w'.ownsRow B 42 5 v' (done ++ us).length (rowS (done ++ us)) ∧ w.grownBy w' v.ownBlock := by
  obtain ⟨i0, hi, hz0, hz1, hz2⟩ := info_parts info_sig
  have fin : ∀ (a : Addr), (∀ j u, (rowS us)[j]? = some u → w.cell? (a.add j) = some u) → ∃ v' w', (Builtin.append_ #[22, 22] ty #[v, .slice (some a) us.length cap]).run Try.prog w = .ok v' w' ∧ w'.ownsRow B 42 5 v' (done ++ us).length (rowS (done ++ us)) ∧ w.grownBy w' v.ownBlock := fun a hc => by
    obtain ⟨v', w', h1, h2, h3, _⟩ := run_append_own (P := Try.prog) w B 22 ty 42 i0 _ 5 72 Try.underlying22 hi hz0 hz1 hz2 rfl (by decide) v done.length (rowS done) hown a us.length cap (rowS us) (rowS_len us) hc (rowS_one us h1) (by unfold maxLen; omega) (by omega) hB
    exact ⟨v', w', h1, by rw [List.length_append, rowS_append]; exact h2, h3⟩
  by_cases h0 : us.length = 0
  · have hn : us = [] := List.eq_nil_of_length_eq_zero h0
    subst hn
    cases o with
    | none =>
      refine ⟨v, w, ?_, by simpa using hown, ⟨rfl, rfl, rfl, Nat.le_refl _, fun _ _ _ => rfl⟩⟩
      rcases hown.2 with ⟨hv, _⟩ | ⟨g, c, cur, hv, _, hg, hnc, _⟩
      · subst hv
        have hs := Src.ofNil (P := Try.prog) w (size := i0.size) Try.underlying22 cap
        simp [Builtin.append_, run_underlying Try.underlying22, sizeOf, typeInfo, hi, Builtin.lenOf]
        rw [hs.cells]
        rfl
      · subst hv
        have hs := Src.ofNil (P := Try.prog) w (size := i0.size) Try.underlying22 cap
        have h := run_append_room_src w 22 22 ty 42 i0 Try.underlying22 hi g 0 done.length c (.slice none 0 cap) 0 [] hs (by omega) (fun j hj => by simp at hj) (fun j hj => by simp at hj)
        exact h
    | some a => exact fin a fun j u hj => by simp [rowS] at hj
  · obtain ⟨b, off, rfl, ha⟩ := g (by omega)
    exact fin _ ha
theorem own_emptyS {W : World} {g : Nat} (h : W.heap[g]? = some (.cells #[] 42)) (base : Nat) (hb : base ≤ g) : W.ownsRow base 42 5 (.slice (some ⟨g, 0, none⟩) 0 0) ([] : List SigV).length (rowS []) :=
  ⟨rfl, .inr ⟨g, 0, #[], rfl, hb, h, Nat.le_refl _, Nat.zero_le _, rfl, rfl⟩⟩
set_option maxRecDepth 100000 in
set_option maxHeartbeats 1000000 in
theorem cloneS_any (v : Value) (ls : List SigD) (w : World) (hr : RdS w v ls) (hn : ls.length ≤ 1099511627775) :
    Calls Try.prog 41 #[v] w fun e w' => ∃ o c l, e = .returned (.slice o ls.length c) ∧ l.map (·.1) = ls ∧ (∀ p ∈ l, RdI w p.2.1 p.1.src ∧ RdI w p.2.2 p.1.dts) ∧ w'.ownsRow w.heap.size 42 5 (.slice o ls.length c) ls.length (rowS l) ∧ Below w.heap.size w w' := by
  obtain ⟨l, hm, hp, o, cap, rfl, hcap, g⟩ := hr.vals
  have hll : l.length = ls.length := by rw [← hm]; simp
  cases o with
  | none =>
    have hz : l = [] := by
      by_cases h0 : 0 < l.length
      · obtain ⟨b, off, e2, _⟩ := g h0
        cases e2
      · exact List.eq_nil_of_length_eq_zero (by omega)
    subst hz
    have hz2 : ls = [] := by rw [← hm]; rfl
    subst hz2
    clear g hr
    have q := run_eql_slice_nil (P := Try.prog) w 22 42 none 0 cap 0 0 Try.underlying22
    go_enter Try.func41, Try.ntmps41
    go_wp2
    go_ret
    exact ⟨none, 0, [], rfl, rfl, (fun p hp => by cases hp), World.ownsRow_nil _ _ _ _, Below.refl _ _⟩
  | some a =>
    have hb0 : Below w.heap.size w (w.alloc (.cells #[] 42)) := (Below.refl _ w).alloc (Nat.le_refl _) _
    obtain ⟨v', w', h1, h2, h3⟩ := run_appendS (w.alloc (.cells #[] 42)) w.heap.size (.slice (some ⟨w.heap.size, 0, none⟩) 0 0) (some a) cap [] l 22 (own_emptyS (heap_new w _) _ (Nat.le_refl _)) (by simp) (fun p h => ⟨(hp p h).1.isS, (hp p h).2.isS⟩) (fun h0 => by
      obtain ⟨b, off, e, hlt, ha⟩ := g h0
      refine ⟨b, off, e, fun j u hj => ?_⟩
      have := ha j u hj
      rw [Addr.add_lit] at this ⊢
      exact (hb0.cell (p := ⟨b, off + j, none⟩) hlt).trans this) (by simp; omega)
    have hb1 := hb0.trans (below_own (own_emptyS (heap_new w _) w.heap.size (Nat.le_refl _)) (by simp) h3)
    have q := run_eql_slice_nil (P := Try.prog) w 22 42 (some a) l.length cap 0 0 Try.underlying22
    rw [List.nil_append, hll] at h2
    rw [hll] at h1 q
    obtain ⟨o2, c2, rfl⟩ := own_shape h2
    have HO := hid h2
    have HB := hid hb1
    have HP := hid hp
    have HM := hid hm
    clear h2 h3 hb0 hb1 hr g hp hm
    rw [hll]
    go_enter Try.func41, Try.ntmps41
    go_wp2_with (at_builtin; refine wpList_append_run _ rfl _ _ 22 22 rfl _ _ rfl rfl _ _ h1 ?_)
    go_ret
    exact ⟨o2, c2, l, rfl, HM.out, HP.out, HO.out, HB.out⟩
end Go.Proofs.Ytlibjjmaicgemaa
