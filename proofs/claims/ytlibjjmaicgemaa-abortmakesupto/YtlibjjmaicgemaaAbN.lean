/- The lists of signals of one's own, one number more in one of them. -/
import Derived.Test.YtlibjjmaicgemaaAbM
namespace Go.Proofs.Ytlibjjmaicgemaa
open Go.RowKit Go.Lib Go.Shelf

/-- One more number, that lies in a block of its own, is put behind a row of the call's own; where that lies. -/
theorem run_appendX (V : World) (B : Nat) (v : Value) (l : List Int) (x : Int) (D : Nat) (hD : V.heap[D]? = some (.cells #[.int .i64 x] 3)) (hown : V.ownsRow B 3 1 v l.length (l.map (Value.int .i64))) (hB : B ≤ V.heap.size) (hn : l.length + 1 ≤ 1099511627776) :
    ∃ o2 c2 V2, (Builtin.append_ #[23, 23] 23 #[v, .slice (some ⟨D, 0, none⟩) 1 1]).run Try.prog V = .ok (.slice o2 (l.length + 1) c2) V2 ∧ V2.ownsRow B 3 1 (.slice o2 (l.length + 1) c2) (l.length + 1) ((l ++ [x]).map (Value.int .i64)) ∧ V.grownBy V2 v.ownBlock ∧ ((Value.slice o2 (l.length + 1) c2).ownBlock = v.ownBlock ∨ ∃ k, (Value.slice o2 (l.length + 1) c2).ownBlock = some k ∧ V.heap.size ≤ k) := by
  obtain ⟨i0, hi, hz0, hz1, hz2⟩ := info_parts info_intA
  have hnews : ∀ (j : Nat) (u : Value), ([.int .i64 x] : List Value)[j]? = some u → V.cell? ((⟨D, 0, none⟩ : Addr).add j) = some u := fun j u hj => by
    match j, hj with
    | 0, hj =>
      cases hj
      exact box1 hD
  obtain ⟨v', V2, hr, ho, hg, _⟩ := run_append_own (P := Try.prog) V B 23 23 3 i0 _ 1 8 Try.underlying23 hi hz0 hz1 hz2 rfl (by decide) _ l.length _ hown ⟨D, 0, none⟩ 1 1 [.int .i64 x] rfl hnews (by simp [Value.oneCell']) (by unfold maxLen; omega) (by omega) hB
  have hwhere : v'.ownBlock = v.ownBlock ∨ ∃ k, v'.ownBlock = some k ∧ V.heap.size ≤ k := by
    rcases hown.2 with ⟨rfl, h0⟩ | ⟨g, cap, cur, rfl, hbg, hh, hnc, hcm, hcs, htk⟩
    · have hl : l = [] := List.eq_nil_of_length_eq_zero h0
      subst hl
      obtain ⟨v2, W2, hr2, ho2, _, _⟩ := run_append_own (P := Try.prog) V V.heap.size 23 23 3 i0 _ 1 8 Try.underlying23 hi hz0 hz1 hz2 rfl (by decide) (.slice none 0 0) 0 [] (World.ownsRow_nil _ _ _ _) ⟨D, 0, none⟩ 1 1 [.int .i64 x] rfl hnews (by simp [Value.oneCell']) (by unfold maxLen; omega) (by omega) (Nat.le_refl _)
      have he := hr.symm.trans hr2
      injection he with e1 e2
      subst e1
      rcases ho2.2 with ⟨_, h0⟩ | ⟨g, cap, cur, rfl, hbg, _⟩
      · omega
      · exact .inr ⟨g, rfl, hbg⟩
    · by_cases hroom : l.length + 1 ≤ cap
      · have h := run_append_room (P := Try.prog) V 23 23 3 i0 Try.underlying23 hi g l.length cap cur hh ⟨D, 0, none⟩ 1 1 [.int .i64 x] (by rw [hz1]; rfl) hnews (by simp [Value.oneCell']) hroom (by rw [hz1, hcs]; simp; omega)
        have he := hr.symm.trans h
        injection he with e1 e2
        subst e1
        exact .inl rfl
      · have h := run_append_grow (P := Try.prog) V 23 23 3 i0 _ Try.underlying23 hi hz0 ⟨g, 0, none⟩ l.length cap (l.map (Value.int .i64)) (by rw [hz1]; simp) (hown.cells (g := g) rfl) ⟨D, 0, none⟩ 1 1 [.int .i64 x] (by rw [hz1]; rfl) hnews (by omega) (by omega) (growslice_fits (by omega) (by rw [hz2]; omega))
        have he := hr.symm.trans h
        injection he with e1 e2
        subst e1
        exact .inr ⟨_, rfl, Nat.le_refl _⟩
  obtain ⟨o2, c2, rfl⟩ := own_shape ho
  exact ⟨o2, c2, V2, hr, by rw [List.map_append]; exact ho, hg, hwhere⟩
def numsOf (p : SigV) : Bool → List Int
  | false => p.1.src
  | true => p.1.dts
/-- A signal with one number more in one of its lists, which lies elsewhere then. -/
def putL (p : SigV) (x : Int) (v : Value) : Bool → SigV
  | false => ({ p.1 with src := p.1.src ++ [x] }, v, p.2.2)
  | true => ({ p.1 with dts := p.1.dts ++ [x] }, p.2.1, v)
theorem side_put (p : SigV) (x : Int) (v : Value) (b b' : Bool) : side (putL p x v b) b' = if b = b' then v else side p b' := by cases b <;> cases b' <;> rfl
theorem nums_put (p : SigV) (x : Int) (v : Value) (b b' : Bool) : numsOf (putL p x v b) b' = if b = b' then numsOf p b' ++ [x] else numsOf p b' := by cases b <;> cases b' <;> rfl
/-- All lists are one's own, each for itself. -/
structure Lists (V : World) (base : Nat) (l : List SigV) : Prop where
  own : ∀ (j : Nat) (h : j < l.length) (b : Bool), V.ownsRow base 3 1 (side l[j] b) (numsOf l[j] b).length ((numsOf l[j] b).map (Value.int .i64))
  apart : ∀ (j j' : Nat) (h : j < l.length) (h' : j' < l.length) (b b' : Bool), ¬(j = j' ∧ b = b') → ∀ q, (side l[j] b).ownBlock = some q → (side l[j'] b').ownBlock ≠ some q
theorem OwnS.lists {W w0 : World} {base : Nat} {v : Value} {l : List SigV} (h : OwnS W w0 base v l l.length) : Lists W base l :=
  ⟨fun j hj b => by cases b; exact (h.own j hj hj).1; exact (h.own j hj hj).2, fun j j' hj hj' b b' hne q hq => h.apart j j' hj hj' hj hj' b b' hne q hq⟩
theorem Lists.later {V W : World} {base : Nat} {l : List SigV} (h : Lists V base l) (hb : Below V.heap.size V W) : Lists W base l := ⟨fun j hj b => own_later (h.own j hj b) hb, h.apart⟩
/-- A number in a block that is no list's. -/
structure BlkAt (V : World) (l : List SigV) (D : Nat) (x : Int) : Prop where
  blk : V.heap[D]? = some (.cells #[.int .i64 x] 3)
  no : ∀ (j : Nat) (h : j < l.length) (b : Bool), (side l[j] b).ownBlock ≠ some D
theorem BlkAt.later {V W : World} {l : List SigV} {D : Nat} {x : Int} (h : BlkAt V l D x) (hb : Below V.heap.size V W) : BlkAt W l D x := ⟨blkLater hb h.blk, h.no⟩
theorem Lists.fresh {V : World} {base : Nat} {l : List SigV} (h : Lists V base l) (x : Int) : BlkAt (V.alloc (.cells #[.int .i64 x] 3)) l V.heap.size x :=
  ⟨heap_new _ _, fun j hj b e => by have := ((h.own j hj b).lt _ e).2; omega⟩
theorem Lists.put {V : World} {base : Nat} {l : List SigV} (h : Lists V base l) (hB : base ≤ V.heap.size) (k : Nat) (hk : k < l.length) (b : Bool) (x : Int) (D : Nat) (hD : BlkAt V l D x) (hn : (numsOf l[k] b).length + 1 ≤ 1099511627776) :
    ∃ o c V2, (Builtin.append_ #[23, 23] 23 #[side l[k] b, .slice (some ⟨D, 0, none⟩) 1 1]).run Try.prog V = .ok (.slice o ((numsOf l[k] b).length + 1) c) V2 ∧ Lists V2 base (l.set k (putL l[k] x (.slice o ((numsOf l[k] b).length + 1) c) b)) ∧ V.grownBy V2 (side l[k] b).ownBlock ∧
      (∀ D' x', BlkAt V l D' x' → BlkAt V2 (l.set k (putL l[k] x (.slice o ((numsOf l[k] b).length + 1) c) b)) D' x') := by
  have hown := h.own k hk b
  obtain ⟨o, c, V2, hr, ho, hg, hw⟩ := run_appendX V base _ (numsOf l[k] b) x D hD.blk hown hB hn
  have hget : ∀ (j : Nat) (hj : j < (l.set k (putL l[k] x (.slice o ((numsOf l[k] b).length + 1) c) b)).length) (hj' : j < l.length) (b' : Bool), (j = k ∧ b' = b ∧ side (l.set k (putL l[k] x (.slice o ((numsOf l[k] b).length + 1) c) b))[j] b' = .slice o ((numsOf l[k] b).length + 1) c ∧ numsOf (l.set k (putL l[k] x (.slice o ((numsOf l[k] b).length + 1) c) b))[j] b' = numsOf l[k] b ++ [x]) ∨ (¬(j = k ∧ b' = b) ∧ side (l.set k (putL l[k] x (.slice o ((numsOf l[k] b).length + 1) c) b))[j] b' = side l[j] b' ∧ numsOf (l.set k (putL l[k] x (.slice o ((numsOf l[k] b).length + 1) c) b))[j] b' = numsOf l[j] b') := fun j hj hj' b' => by
    by_cases e : k = j
    · subst e
      rw [List.getElem_set_self, side_put, nums_put]
      by_cases eb : b = b'
      · subst eb
        rw [if_pos rfl, if_pos rfl]
        exact .inl ⟨rfl, rfl, rfl, rfl⟩
      · rw [if_neg eb, if_neg eb]
        exact .inr ⟨fun hh => eb hh.2.symm, rfl, rfl⟩
    · rw [List.getElem_set_ne e]
      exact .inr ⟨fun hh => e hh.1.symm, rfl, rfl⟩
  refine ⟨o, c, V2, hr, ⟨fun j hj b' => ?_, fun j j' hj hj' b1 b2 hne q hq => ?_⟩, hg, fun D' x' hD' => ⟨heap_grow hD'.blk hg (hD'.no k hk b), fun j hj b' e => ?_⟩⟩
  · have hj' : j < l.length := by simpa using hj
    rcases hget j hj hj' b' with ⟨rfl, rfl, e1, e2⟩ | ⟨hne, e1, e2⟩
    · rw [e1, e2, List.length_append]
      exact ho
    · rw [e1, e2]
      refine (h.own j hj' b').kept hg ?_
      cases hq : (side l[j] b').ownBlock with
      | none => exact .inl rfl
      | some q => exact .inr (fun e => h.apart j k hj' hk b' b hne q hq e.symm)
  · have hjl : j < l.length := by simpa using hj
    have hjl' : j' < l.length := by simpa using hj'
    rcases hget j hj hjl b1 with ⟨ej, eb, e1, _⟩ | ⟨hn1, e1, _⟩
    · rcases hget j' hj' hjl' b2 with ⟨ej', eb', _, _⟩ | ⟨hn2, e2, _⟩
      · exact absurd ⟨ej.trans ej'.symm, eb.trans eb'.symm⟩ hne
      · rw [e1] at hq
        rw [e2]
        intro hq'
        rcases hw with hw | ⟨q2, hq2, hlt⟩
        · rw [hw] at hq
          exact h.apart j' k hjl' hk b2 b hn2 q hq' hq
        · rw [hq2] at hq
          have := Option.some.inj hq
          subst this
          have := ((h.own j' hjl' b2).lt _ hq').2
          omega
    · rcases hget j' hj' hjl' b2 with ⟨ej', eb', e2, _⟩ | ⟨hn2, e2, _⟩
      · rw [e1] at hq
        rw [e2]
        intro hq'
        rcases hw with hw | ⟨q2, hq2, hlt⟩
        · rw [hw] at hq'
          exact h.apart j k hjl hk b1 b hn1 q hq hq'
        · rw [hq2] at hq'
          have := Option.some.inj hq'
          subst this
          have := ((h.own j hjl b1).lt _ hq).2
          omega
      · rw [e1] at hq
        rw [e2]
        exact h.apart j j' hjl hjl' b1 b2 hne q hq
  · have hjl : j < l.length := by simpa using hj
    rcases hget j hj hjl b' with ⟨_, _, e1, _⟩ | ⟨_, e1, _⟩
    · rw [e1] at e
      rcases hw with hw | ⟨q2, hq2, hlt⟩
      · rw [hw] at e
        exact hD'.no k hk b e
      · rw [hq2] at e
        have := Option.some.inj e
        subst this
        have := (Array.getElem?_eq_some_iff.1 hD'.blk).1
        omega
    · rw [e1] at e
      exact hD'.no j hjl b' e
/-- How it stands while a knot is tied: the row of the signals as it was, the lists as they are. -/
structure TieAt (W0 V : World) (base : Nat) (M : Value) (l0 l : List SigV) (Kb : Nat) (kc : Array Value) : Prop where
  box : V.heap[Kb]? = some (.cells kc 51)
  row : V.ownsRow base 42 5 M l0.length (rowS l0)
  lst : Lists V base l
  bel : Below base W0 V
  low : base ≤ V.heap.size
theorem TieAt.later {W0 V W : World} {base : Nat} {M : Value} {l0 l : List SigV} {Kb : Nat} {kc : Array Value} (h : TieAt W0 V base M l0 l Kb kc) (hb : Below V.heap.size V W) : TieAt W0 W base M l0 l Kb kc :=
  ⟨blkLater hb h.box, own_later h.row hb, h.lst.later hb, h.bel.trans (hb.mono h.low), Nat.le_trans h.low hb.size⟩
theorem TieAt.put {W0 V : World} {base : Nat} {M : Value} {l0 l : List SigV} {Kb : Nat} {kc : Array Value} (h : TieAt W0 V base M l0 l Kb kc) (k : Nat) (hk : k < l.length) (b : Bool) (x : Int) (D : Nat) (hD : BlkAt V l D x) (hn : (numsOf l[k] b).length + 1 ≤ 1099511627776) :
    ∃ o c V2, (Builtin.append_ #[23, 23] 23 #[side l[k] b, .slice (some ⟨D, 0, none⟩) 1 1]).run Try.prog V = .ok (.slice o ((numsOf l[k] b).length + 1) c) V2 ∧ TieAt W0 V2 base M l0 (l.set k (putL l[k] x (.slice o ((numsOf l[k] b).length + 1) c) b)) Kb kc ∧
      (∀ D' x', BlkAt V l D' x' → BlkAt V2 (l.set k (putL l[k] x (.slice o ((numsOf l[k] b).length + 1) c) b)) D' x') := by
  obtain ⟨o, c, V2, hr, hL, hg, hd⟩ := h.lst.put h.low k hk b x D hD hn
  have hown := h.lst.own k hk b
  refine ⟨o, c, V2, hr, ⟨heap_grow h.box hg (own_not hown h.box (by decide)), h.row.kept hg ?_, hL, h.bel.trans (below_own hown h.low hg), Nat.le_trans h.low hg.size⟩, hd⟩
  rcases h.row.2 with ⟨hv, _⟩ | ⟨g, cap, cur, hv, _, hh, _⟩
  · exact .inl (by rw [hv]; rfl)
  · refine .inr (fun e => ?_)
    rw [hv] at e
    exact own_not hown hh (by decide) e.symm
end Go.Proofs.Ytlibjjmaicgemaa
