/- One more signal, with lists of its own. -/
import Derived.Test.YtlibjjmaicgemaaAbM
namespace Go.Proofs.Ytlibjjmaicgemaa
open Go.RowKit Go.Lib Go.Shelf

theorem more_runL {W w0 : World} {base N1 N2 : Nat} {v : Value} {l : List SigV} (h : OwnS W w0 base v l l.length) (hB : base ≤ W.heap.size) (x : SigD) (sv dv : Value)
    (hs : W.ownsRow base 3 1 sv x.src.length (x.src.map (Value.int .i64))) (hd : W.ownsRow base 3 1 dv x.dts.length (x.dts.map (Value.int .i64)))
    (hN : N1 ≤ N2) (hold : ∀ (j : Nat) (hj : j < l.length), ∀ b q, (side l[j] b).ownBlock = some q → q < N1) (hs1 : ∀ q, sv.ownBlock = some q → N1 ≤ q ∧ q < N2) (hd1 : ∀ q, dv.ownBlock = some q → N2 ≤ q)
    (D : Nat) (hD : W.heap[D]? = some (.cells #[.bool x.ab, .int .i64 x.re, .bool x.dep, sv, dv] 42)) (hn : l.length ≤ 1099511627775) :
    ∃ o c W', (Builtin.append_ #[22, 22] 22 #[v, .slice (some ⟨D, 0, none⟩) 1 1]).run Try.prog W = .ok (.slice o (l.length + 1) c) W' ∧ OwnS W' w0 base (.slice o (l.length + 1) c) (l ++ [(x, sv, dv)]) (l ++ [(x, sv, dv)]).length ∧ Below base W W' ∧ ∀ (k : Nat) (ob : Obj), k < base → W.heap[k]? = some ob → W'.heap[k]? = some ob := by
  obtain ⟨v', W', hr, ho, hg⟩ := run_appendS W base v (some ⟨D, 0, none⟩) 1 l [(x, sv, dv)] 22 h.row hB (fun p hp => by
    have : p = (x, sv, dv) := by simpa using hp
    subst this
    exact ⟨own_isS hs, own_isS hd⟩) (fun _ => ⟨D, 0, rfl, fun j u hj => by
    rw [Addr.add_lit, Nat.zero_add]
    have hjl : j < 5 := by have := (List.getElem?_eq_some_iff.1 hj).1; rw [rowS_len] at this; simpa using this
    rw [cell_of_heap hD]
    match j, hjl, hj with
    | 0, _, hj => exact hj
    | 1, _, hj => exact hj
    | 2, _, hj => exact hj
    | 3, _, hj => exact hj
    | 4, _, hj => exact hj⟩) (by simp; omega)
  obtain ⟨o, c, rfl⟩ := own_shape ho
  have hl1 : (l ++ [(x, sv, dv)]).length = l.length + 1 := by simp
  rw [hl1] at hr ho
  have keep : ∀ {y : Value} {n : Nat} {ys : List Value}, W.ownsRow base 3 1 y n ys → W'.ownsRow base 3 1 y n ys := fun {y n ys} hy => by
    refine hy.kept hg ?_
    rcases h.row.2 with ⟨hv, _⟩ | ⟨g, cap, cur, hv, _, hh, _⟩
    · rw [hv]
      cases hyb : y.ownBlock with
      | none => exact .inl rfl
      | some q => exact .inr (fun e => by cases e)
    · rw [hv]
      exact .inr (own_not hy hh (by decide))
  refine ⟨o, c, W', hr, ⟨by rw [hl1]; exact ho, fun j hj _ => ?_, fun j hj hk => by omega, fun j j' hj hj' _ _ b b' hne q hq => ?_⟩, below_own h.row hB hg, fun k ob hk hob => heap_grow hob hg (fun e => by have := (h.row.lt k e).1; omega)⟩
  · by_cases e : j < l.length
    · rw [List.getElem_append_left e]
      exact ⟨keep (h.own j e e).1, keep (h.own j e e).2⟩
    · have : j = l.length := by omega
      subst this
      rw [List.getElem_append_right (Nat.le_refl _)]
      simp only [Nat.sub_self, List.getElem_cons_zero]
      exact ⟨keep hs, keep hd⟩
  · by_cases e : j < l.length
    · by_cases e' : j' < l.length
      · rw [List.getElem_append_left e] at hq
        rw [List.getElem_append_left e']
        exact h.apart j j' e e' e e' b b' hne q hq
      · have : j' = l.length := by omega
        subst this
        rw [List.getElem_append_left e] at hq
        rw [List.getElem_append_right (Nat.le_refl _)]
        simp only [Nat.sub_self, List.getElem_cons_zero]
        have h1 := hold j e b q hq
        cases b'
        · intro hx; have := hs1 q hx; omega
        · intro hx; have := hd1 q hx; omega
    · have : j = l.length := by omega
      subst this
      rw [List.getElem_append_right (Nat.le_refl _)] at hq
      simp only [Nat.sub_self, List.getElem_cons_zero] at hq
      by_cases e' : j' < l.length
      · rw [List.getElem_append_left e']
        intro hq'
        have h1 := hold j' e' b' q hq'
        cases b
        · have := hs1 q hq; omega
        · have := hd1 q hq; omega
      · have : j' = l.length := by omega
        subst this
        rw [List.getElem_append_right (Nat.le_refl _)]
        simp only [Nat.sub_self, List.getElem_cons_zero]
        cases b <;> cases b'
        · exact absurd ⟨rfl, rfl⟩ hne
        · intro hq'; have := hs1 q hq; have := hd1 q hq'; omega
        · intro hq'; have := hd1 q hq; have := hs1 q hq'; omega
        · exact absurd ⟨rfl, rfl⟩ hne
/-- Signals none, that are one's own. -/
theorem own_noneS (W w0 : World) (base : Nat) : OwnS W w0 base (.slice none 0 0) [] 0 :=
  ⟨World.ownsRow_nil _ _ _ _, fun _ h => absurd h (Nat.not_lt_zero _), fun _ h => absurd h (Nat.not_lt_zero _), fun _ _ h => absurd h (Nat.not_lt_zero _)⟩
end Go.Proofs.Ytlibjjmaicgemaa
