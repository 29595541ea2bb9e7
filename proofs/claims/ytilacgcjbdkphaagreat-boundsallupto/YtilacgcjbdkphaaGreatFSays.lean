/- What a survey says: who is listed, who is muddled, from whom going up ends. -/
import Derived.Test.YtilacgcjbdkphaaGreatFSweep
namespace Go.Proofs.YtilacgcjbdkphaaGreat
open Go.RowKit Go.Lib

/-- Going up from a node comes to an end. -/
inductive Ends (ns : List NodeD) : Int → Prop
  | out {x : Int} (h : nodeOf ns x = none) : Ends ns x
  | up {x : Int} {n : NodeD} (h : nodeOf ns x = some n) (e : Ends ns (aboveD n)) : Ends ns x
/-- Going up from a node comes to another one. -/
inductive Reach (ns : List NodeD) : Int → Int → Prop
  | refl (x : Int) : Reach ns x x
  | step {x y : Int} {n : NodeD} (h : nodeOf ns x = some n) (e : Reach ns (aboveD n) y) : Reach ns x y
/-- In one step at least. -/
def Reach1 (ns : List NodeD) (x y : Int) : Prop := ∃ n, nodeOf ns x = some n ∧ Reach ns (aboveD n) y
theorem Reach.ends {ns : List NodeD} {x y : Int} (h : Reach ns x y) : Ends ns y → Ends ns x := by
  induction h with
  | refl x => exact id
  | step h _ ih => exact fun e => .up h (ih e)
theorem Ends.above {ns : List NodeD} {x : Int} (h : Ends ns x) {n : NodeD} (hn : nodeOf ns x = some n) : Ends ns (aboveD n) := by
  cases h with
  | out h => rw [hn] at h; cases h
  | up h e => rw [hn] at h; cases h; exact e
theorem Ends.reach {ns : List NodeD} {x y : Int} (h : Reach ns x y) : Ends ns x → Ends ns y := by
  induction h with
  | refl x => exact id
  | step h _ ih => exact fun e => ih (e.above h)
theorem Reach.snoc {ns : List NodeD} {x y : Int} (h : Reach ns x y) {n : NodeD} (hn : nodeOf ns y = some n) : Reach1 ns x (aboveD n) := by
  induction h with
  | refl x => exact ⟨n, hn, .refl _⟩
  | step h _ ih =>
    obtain ⟨m, hm, hr⟩ := ih hn
    exact ⟨_, h, .step hm hr⟩
theorem Reach1.to {ns : List NodeD} {x y : Int} (h : Reach1 ns x y) : Reach ns x y := by
  obtain ⟨n, hn, hr⟩ := h
  exact .step hn hr
theorem Ends.noRing {ns : List NodeD} {x : Int} (h : Ends ns x) : ¬ Reach1 ns x x := by
  induction h with
  | out h => rintro ⟨n, hn, _⟩; rw [h] at hn; cases hn
  | up h _ ih =>
    rintro ⟨m, hm, hr⟩
    rw [h] at hm
    cases hm
    exact ih (hr.snoc h)

/-- Of what a climb leaves word of: who was there before stays; who is new was met on the way. -/
theorem upTo_spec (ns : List NodeD) (h : Int) (hh : h ≠ 0) : ∀ (f : Nat) (sn : List Int) (x : Int), sn.length = ns.length →
    (∀ j : Nat, (upTo ns h f sn x).1.getD j 0 = sn.getD j 0 ∨ (sn.getD j 0 = 0 ∧ (upTo ns h f sn x).1.getD j 0 = h ∧ Reach ns x ((j : Int) + 1) ∧ Reach1 ns ((j : Int) + 1) (upTo ns h f sn x).2)) ∧ Reach ns x (upTo ns h f sn x).2 ∧
    (zeros sn < f → nodeOf ns (upTo ns h f sn x).2 = none ∨ (upTo ns h f sn x).1.getD ((upTo ns h f sn x).2 - 1).toNat 0 ≠ 0)
  | 0, sn, x, _ => ⟨fun _ => .inl rfl, .refl _, fun h => absurd h (Nat.not_lt_zero _)⟩
  | f + 1, sn, x, hl => by
    cases hn : nodeOf ns x with
    | none =>
      have e : upTo ns h (f + 1) sn x = (sn, x) := by rw [upTo, hn]
      rw [e]
      exact ⟨fun _ => .inl rfl, .refl _, fun _ => .inl hn⟩
    | some n =>
      obtain ⟨j0, hj0, rfl, rfl⟩ := nodeOf_idx hn
      have hjx : (((j0 : Int) + 1) - 1).toNat = j0 := by omega
      cases h0 : (sn.getD j0 0 == 0) with
      | false =>
        have e : upTo ns h (f + 1) sn ((j0 : Int) + 1) = (sn, (j0 : Int) + 1) := by rw [upTo, hn]; simp only [hjx, h0]; rfl
        rw [e]
        refine ⟨fun _ => .inl rfl, .refl _, fun _ => .inr ?_⟩
        simp only [hjx]
        exact fun e0 => by rw [e0] at h0; cases h0
      | true =>
        have h0' : sn.getD j0 0 = 0 := by simpa using h0
        have e : upTo ns h (f + 1) sn ((j0 : Int) + 1) = upTo ns h f (sn.set j0 h) (aboveD ns[j0]) := by rw [upTo, hn]; simp only [hjx, h0]; rfl
        rw [e]
        obtain ⟨i1, i2, i3⟩ := upTo_spec ns h hh f (sn.set j0 h) (aboveD ns[j0]) (by simpa using hl)
        refine ⟨fun j => ?_, .step hn i2, fun hz => i3 ?_⟩
        · by_cases ej : j0 = j
          · subst ej
            have hs : (sn.set j0 h).getD j0 0 = h := by rw [getD_set sn j0 j0 h (by omega), if_pos rfl]
            rcases i1 j0 with a | ⟨a, _⟩
            · exact .inr ⟨h0', a.trans hs, .refl _, ⟨_, hn, i2⟩⟩
            · exact absurd (hs.symm.trans a) hh
          · have hs : (sn.set j0 h).getD j 0 = sn.getD j 0 := by rw [getD_set sn j0 j h (by omega), if_neg ej]
            rcases i1 j with a | ⟨a, b, c, d⟩
            · exact .inl (a.trans hs)
            · exact .inr ⟨hs.symm.trans a, b, .step hn c, d⟩
        · have := zeros_set sn j0 h (by omega) h0' hh
          omega
/-- The first one that is met is seen, if it is there. -/
theorem upTo_first (ns : List NodeD) (h : Int) (hh : h ≠ 0) (f : Nat) (sn : List Int) (j : Nat) (hl : sn.length = ns.length) (hj : j < ns.length) : (upTo ns h (f + 1) sn ((j : Int) + 1)).1.getD j 0 ≠ 0 := by
  have hjx : (((j : Int) + 1) - 1).toNat = j := by omega
  cases h0 : (sn.getD j 0 == 0) with
  | false =>
    have e : upTo ns h (f + 1) sn ((j : Int) + 1) = (sn, (j : Int) + 1) := by rw [upTo, nodeOf_at ns j hj]; simp only [hjx, h0]; rfl
    rw [e]
    exact fun e0 => by simp only at e0; rw [e0] at h0; cases h0
  | true =>
    have e : upTo ns h (f + 1) sn ((j : Int) + 1) = upTo ns h f (sn.set j h) (aboveD ns[j]) := by rw [upTo, nodeOf_at ns j hj]; simp only [hjx, h0]; rfl
    rw [e]
    have hs : (sn.set j h).getD j 0 = h := by rw [getD_set sn j j h (by omega), if_pos rfl]
    rcases (upTo_spec ns h hh f (sn.set j h) (aboveD ns[j]) (by simpa using hl)).1 j with a | ⟨a, b, _⟩
    · rw [a, hs]; exact hh
    · rw [b]; exact hh

/-- What is marked has what is above it marked, but for one. -/
def ShutBut (ns : List NodeD) (en : List Bool) (x : Int) : Prop := ∀ (j : Nat) (hj : j < ns.length), en.getD j true = true → aboveD ns[j] = x ∨ (thereB ns.length (aboveD ns[j]) = true ∧ en.getD (aboveD ns[j] - 1).toNat true = true)
def Shut (ns : List NodeD) (en : List Bool) : Prop := ∀ (j : Nat) (hj : j < ns.length), en.getD j true = true → thereB ns.length (aboveD ns[j]) = true ∧ en.getD (aboveD ns[j] - 1).toNat true = true
theorem thereB_idx (n j : Nat) (h : j < n) : thereB n ((j : Int) + 1) = true := by
  unfold thereB
  rw [decide_eq_true (by omega), decide_eq_true (by omega)]; rfl
theorem markTo_spec (ns : List NodeD) : ∀ (f : Nat) (en : List Bool) (x : Int), en.length = ns.length → MarkOK ns f en x → ShutBut ns en x →
    Shut ns (markTo ns f en x) ∧ (markTo ns f en x).getD (x - 1).toNat true = true ∧ (∀ j : Nat, en.getD j true = true → (markTo ns f en x).getD j true = true) ∧ (∀ j : Nat, j < ns.length → (markTo ns f en x).getD j true = true → en.getD j true = true ∨ Reach ns x ((j : Int) + 1))
  | 0, _, _, _, h, _ => h.elim
  | f + 1, en, x, hl, ⟨n, hn, hor⟩, hs => by
    obtain ⟨j0, hj0, rfl, rfl⟩ := nodeOf_idx hn
    have hjx : (((j0 : Int) + 1) - 1).toNat = j0 := by omega
    rw [hjx] at hor ⊢
    rcases hor with ht | ⟨ht, hk⟩
    · have e : markTo ns (f + 1) en ((j0 : Int) + 1) = en := by rw [markTo]; simp only [hjx, ht]; rfl
      rw [e]
      refine ⟨fun j hj he => ?_, ht, fun _ => id, fun _ _ => .inl⟩
      rcases hs j hj he with a | a
      · rw [a, hjx]; exact ⟨thereB_idx _ _ hj0, ht⟩
      · exact a
    · have e : markTo ns (f + 1) en ((j0 : Int) + 1) = markTo ns f (en.set j0 true) (aboveD ns[j0]) := by rw [markTo]; simp only [hjx, ht, hn]; rfl
      rw [e]
      have hset : ∀ k, (en.set j0 true).getD k true = if j0 = k then true else en.getD k true := fun k => getDb_set en j0 k true (by omega)
      obtain ⟨i1, i2, i3, i4⟩ := markTo_spec ns f (en.set j0 true) (aboveD ns[j0]) (by simpa using hl) hk (fun j hj he => by
        by_cases ej : j0 = j
        · subst ej; exact .inl rfl
        · right
          rw [hset, if_neg ej] at he
          rcases hs j hj he with a | ⟨a, b⟩
          · rw [a, hjx, hset, if_pos rfl]; exact ⟨thereB_idx _ _ hj0, rfl⟩
          · refine ⟨a, ?_⟩
            rw [hset]
            split
            · rfl
            · exact b)
      refine ⟨i1, i3 j0 (by rw [hset, if_pos rfl]), fun j he => i3 j ?_, fun j hj he => ?_⟩
      · rw [hset]
        split
        · rfl
        · exact he
      · by_cases ej : j0 = j
        · subst ej; exact .inr (.refl _)
        · rcases i4 j hj he with a | a
          · rw [hset, if_neg ej] at a; exact .inl a
          · exact .inr (.step hn a)
theorem Shut.reach {ns : List NodeD} {en : List Bool} (hs : Shut ns en) {x y : Int} (hr : Reach ns x y) : thereB ns.length x = true → en.getD (x - 1).toNat true = true → thereB ns.length y = true ∧ en.getD (y - 1).toNat true = true := by
  induction hr with
  | refl x => exact fun a b => ⟨a, b⟩
  | step h _ ih =>
    intro _ hb
    obtain ⟨j, hj, rfl, rfl⟩ := nodeOf_idx h
    have hjx : (((j : Int) + 1) - 1).toNat = j := by omega
    rw [hjx] at hb
    obtain ⟨c, d⟩ := hs j hj hb
    exact ih c d

/-- What holds behind each climb. -/
structure Climbed (ns : List NodeD) (k : Nat) (sn : List Int) (en : List Bool) : Prop where
  ends : ∀ j : Nat, j < ns.length → sn.getD j 0 ≠ 0 → en.getD j true = false → Ends ns ((j : Int) + 1)
  ring : ∀ j : Nat, j < ns.length → en.getD j true = true → ¬ Ends ns ((j : Int) + 1)
  shut : Shut ns en
  seen : ∀ j : Nat, j < ns.length → j < k → sn.getD j 0 ≠ 0
theorem climb_step (ns : List NodeD) (k : Nat) (sn : List Int) (en : List Bool) (hk : k < ns.length) (hsl : sn.length = ns.length) (hel : en.length = ns.length) (hfr : ∀ j : Nat, sn.getD j 0 ≠ (k : Int) + 1) (h : Climbed ns k sn en) :
    Climbed ns (k + 1) (climbD ns ((k : Int) + 1) sn en).1 (climbD ns ((k : Int) + 1) sn en).2 := by
  have hh : ((k : Int) + 1) ≠ 0 := by omega
  obtain ⟨s1, s2, s3⟩ := upTo_spec ns ((k : Int) + 1) hh (ns.length + 1) sn ((k : Int) + 1) hsl
  have s3 := s3 (by have := zeros_le sn; omega)
  have s4 := upTo_first ns ((k : Int) + 1) hh ns.length sn k hsl hk
  have hm := mark_of_up ns ((k : Int) + 1) hh en (ns.length + 1) sn ((k : Int) + 1) en hsl hel (fun j _ e => absurd e (hfr j)) (fun _ _ e => e)
  unfold climbD
  generalize upTo ns ((k : Int) + 1) (ns.length + 1) sn ((k : Int) + 1) = r at *
  obtain ⟨sn', x⟩ := r
  simp only at *
  have seen' : ∀ j : Nat, j < ns.length → j < k + 1 → sn'.getD j 0 ≠ 0 := fun j hj hjk => by
    by_cases e : j = k
    · subst e; exact s4
    · have h0 := h.seen j hj (by omega)
      rcases s1 j with a | ⟨_, b, _⟩
      · rw [a]; exact h0
      · rw [b]; exact hh
  cases hst : stopB ns ((k : Int) + 1) en (sn', x) with
  | true =>
    rw [if_pos rfl]
    have hx : Ends ns x := by
      cases hn : nodeOf ns x with
      | none => exact .out hn
      | some n =>
        obtain ⟨j0, hj0, rfl, rfl⟩ := nodeOf_idx hn
        have hjx : (((j0 : Int) + 1) - 1).toNat = j0 := by omega
        unfold stopB at hst
        simp only [hn, hjx, Bool.and_eq_true, Bool.not_eq_true', beq_eq_false_iff_ne] at hst
        rw [hjx] at s3
        rcases s3 with a | a
        · rw [hn] at a; cases a
        · refine h.ends j0 hj0 ?_ hst.2
          rcases s1 j0 with b | ⟨_, b, _⟩
          · rw [← b]; exact a
          · exact absurd b hst.1
    refine ⟨fun j hj hs he => ?_, h.ring, h.shut, seen'⟩
    rcases s1 j with a | ⟨_, _, _, b⟩
    · exact h.ends j hj (by rw [← a]; exact hs) he
    · exact b.to.ends hx
  | false =>
    rw [if_neg Bool.false_ne_true]
    have hth : ∃ n, nodeOf ns x = some n := by
      cases hn : nodeOf ns x with
      | none => unfold stopB at hst; simp only [hn] at hst; cases hst
      | some n => exact ⟨n, rfl⟩
    obtain ⟨n, hn⟩ := hth
    have hor : sn'.getD (x - 1).toNat 0 = (k : Int) + 1 ∨ en.getD (x - 1).toNat true = true := by
      unfold stopB at hst
      simp only [hn] at hst
      cases e1 : (sn'.getD (x - 1).toNat 0 == (k : Int) + 1) with
      | true => exact .inl (by simpa using e1)
      | false => rw [e1] at hst; right; simpa using hst
    have hx : ¬ Ends ns x := by
      obtain ⟨j0, hj0, rfl, rfl⟩ := nodeOf_idx hn
      have hjx : (((j0 : Int) + 1) - 1).toNat = j0 := by omega
      rw [hjx] at hor
      rcases hor with a | a
      · rcases s1 j0 with b | ⟨_, _, _, b⟩
        · exact absurd (b.symm.trans a) (hfr j0)
        · exact fun e => e.noRing b
      · exact h.ring j0 hj0 a
    have hkE : ¬ Ends ns ((k : Int) + 1) := fun e => hx (Ends.reach s2 e)
    obtain ⟨m1, m2, m3, m4⟩ := markTo_spec ns (ns.length + 2) en ((k : Int) + 1) hel (hm ⟨n, hn⟩ hor) (fun j hj he => .inr (h.shut j hj he))
    refine ⟨fun j hj hs he => ?_, fun j hj he => ?_, m1, seen'⟩
    · have he0 : en.getD j true = false := by
        cases e : en.getD j true with
        | false => rfl
        | true => rw [m3 j e] at he; cases he
      rcases s1 j with a | ⟨_, _, b, _⟩
      · exact h.ends j hj (by rw [← a]; exact hs) he0
      · have hjx : (((j : Int) + 1) - 1).toNat = j := by omega
        have := (m1.reach b (thereB_idx _ _ hk) m2).2
        rw [hjx, he] at this
        cases this
    · rcases m4 j hj he with a | a
      · exact h.ring j hj a
      · exact fun e => hkE (a.ends e)
theorem climbAll_ok (ns : List NodeD) : ∀ k : Nat, k ≤ ns.length → Climbed ns k (climbAll ns k).1 (climbAll ns k).2
  | 0, _ => by
    have h0 : ∀ j : Nat, j < ns.length → (climbAll ns 0).2.getD j true = false := fun j hj => by
      simp [climbAll, List.getD_eq_getElem?_getD, hj]
    have h1 : ∀ j : Nat, (climbAll ns 0).1.getD j 0 = 0 := fun j => by
      simp only [climbAll, List.getD_eq_getElem?_getD, List.getElem?_replicate]
      split <;> rfl
    have h2 : ∀ j : Nat, j < ns.length → (climbAll ns 0).2.getD j true ≠ true := fun j hj he => by
      rw [h0 j hj] at he
      cases he
    exact ⟨fun j _ hs => absurd (h1 j) hs, fun j hj he => absurd he (h2 j hj), fun j hj he => absurd he (h2 j hj), fun _ _ h => absurd h (Nat.not_lt_zero _)⟩
  | k + 1, hk => by
    have ih := climbAll_ok ns k (by omega)
    have hl := climbAll_len ns k
    exact climb_step ns k _ _ (by omega) hl.1 hl.2 (climbAll_fresh ns k) ih
/-- A node is not marked as endless just if going up from it ends. -/
theorem endless_iff (ns : List NodeD) (j : Nat) (hj : j < ns.length) : (climbAll ns ns.length).2.getD j true = false ↔ Ends ns ((j : Int) + 1) := by
  have h := climbAll_ok ns ns.length (Nat.le_refl _)
  constructor
  · exact h.ends j hj (h.seen j hj hj)
  · intro e
    cases he : (climbAll ns ns.length).2.getD j true with
    | false => rfl
    | true => exact absurd e (h.ring j hj he)

/-- Kids that are a node's, each once. -/
def GoodKids (ns : List NodeD) (i : Nat) (l : List Int) : Prop := (∀ x ∈ l, ∃ n, nodeOf ns x = some n ∧ n.parent = (i : Int) + 1) ∧ l.Nodup
theorem nodup_snoc (l : List Int) (x : Int) : (l ++ [x]).Nodup ↔ l.Nodup ∧ x ∉ l := by
  rw [List.nodup_append]
  constructor
  · rintro ⟨a, _, c⟩
    exact ⟨a, fun h => c x h x (by simp) rfl⟩
  · rintro ⟨a, b⟩
    refine ⟨a, by simp, fun y hy z hz e => ?_⟩
    simp at hz
    subst hz e
    exact b hy
theorem goodKids_snoc (ns : List NodeD) (i : Nat) (l : List Int) (x : Int) : GoodKids ns i (l ++ [x]) ↔ GoodKids ns i l ∧ (∃ n, nodeOf ns x = some n ∧ n.parent = (i : Int) + 1) ∧ x ∉ l := by
  unfold GoodKids
  rw [nodup_snoc]
  constructor
  · rintro ⟨a, b, c⟩
    exact ⟨⟨fun y hy => a y (by simp [hy]), b⟩, a x (by simp), c⟩
  · rintro ⟨⟨a, b⟩, c, d⟩
    refine ⟨fun y hy => ?_, b, d⟩
    simp at hy
    rcases hy with hy | rfl
    · exact a y hy
    · exact c
/-- What holds behind each kid. -/
structure Looked (ns : List NodeD) (i : Nat) (s t : List Bool × List Bool) (p : List Int) : Prop where
  listed : ∀ (j : Nat) (hj : j < ns.length), t.1.getD j false = true ↔ s.1.getD j false = true ∨ (ns[j].parent = (i : Int) + 1 ∧ ((j : Int) + 1) ∈ p)
  muddled : t.2.getD i true = true ↔ s.2.getD i true = true ∨ ¬ GoodKids ns i p
  others : ∀ q : Nat, q ≠ i → t.2.getD q true = s.2.getD q true
theorem getDf_set (l : List Bool) (j k : Nat) (d : Bool) (hj : j < l.length) : (l.set j true).getD k d = if j = k then true else l.getD k d := getDb_set l j k d hj
theorem look_step (ns : List NodeD) (i : Nat) (s t : List Bool × List Bool) (p : List Int) (x : Int) (hi : i < ns.length) (h1 : t.1.length = ns.length) (h2 : t.2.length = ns.length)
    (hs : ∀ (j : Nat) (hj : j < ns.length), s.1.getD j false = true → ns[j].parent ≠ (i : Int) + 1) (h : Looked ns i s t p) : Looked ns i s (lookStep ns i t x) (p ++ [x]) := by
  have hset : (t.2.set i true).getD i true = true := by rw [getDf_set _ _ _ _ (by omega), if_pos rfl]
  have hset' : ∀ q : Nat, q ≠ i → (t.2.set i true).getD q true = s.2.getD q true := fun q hq => by rw [getDf_set _ _ _ _ (by omega), if_neg (Ne.symm hq)]; exact h.others q hq
  have hbad : ∀ t' : List Bool × List Bool, t' = (t.1, t.2.set i true) → ¬ GoodKids ns i (p ++ [x]) → (∀ (j : Nat) (hj : j < ns.length), ns[j].parent = (i : Int) + 1 → (j : Int) + 1 = x → x ∈ p) → Looked ns i s t' (p ++ [x]) := by
    rintro t' rfl hg hx
    refine ⟨fun j hj => ?_, ?_, hset'⟩
    · rw [h.listed j hj]
      constructor
      · rintro (a | ⟨a, b⟩)
        · exact .inl a
        · exact .inr ⟨a, by simp [b]⟩
      · rintro (a | ⟨a, b⟩)
        · exact .inl a
        · simp at b
          rcases b with b | b
          · exact .inr ⟨a, b⟩
          · exact .inr ⟨a, by rw [b]; exact hx j hj a b⟩
    · exact ⟨fun _ => .inr hg, fun _ => hset⟩
  cases hn : nodeOf ns x with
  | none =>
    refine hbad _ (by unfold lookStep; rw [hn]) (fun g => ?_) (fun j hj _ e => ?_)
    · obtain ⟨n, a, _⟩ := ((goodKids_snoc ns i p x).1 g).2.1
      rw [hn] at a; cases a
    · rw [← e, nodeOf_at ns j hj] at hn; cases hn
  | some n =>
    obtain ⟨j0, hj0, rfl, rfl⟩ := nodeOf_idx hn
    have hjx : (((j0 : Int) + 1) - 1).toNat = j0 := by omega
    by_cases hp : ns[j0].parent = (i : Int) + 1
    · cases hl : t.1.getD j0 false with
      | true =>
        have hin : ((j0 : Int) + 1) ∈ p := by
          rcases (h.listed j0 hj0).1 hl with a | a
          · exact absurd hp (hs j0 hj0 a)
          · exact a.2
        refine hbad _ (by unfold lookStep; rw [hn]; simp only [hjx, hl, Bool.not_true, Bool.and_false]; rfl) (fun g => ((goodKids_snoc ns i p _).1 g).2.2 hin) (fun _ _ _ _ => hin)
      | false =>
        have hnin : ((j0 : Int) + 1) ∉ p := fun hin => by
          have := (h.listed j0 hj0).2 (.inr ⟨hp, hin⟩)
          rw [hl] at this; cases this
        have e : lookStep ns i t ((j0 : Int) + 1) = (t.1.set j0 true, t.2) := by
          unfold lookStep
          rw [hn]
          simp only [hjx, hl, hp, beq_self_eq_true, Bool.not_false, Bool.and_self]
          rfl
        rw [e]
        refine ⟨fun j hj => ?_, ?_, h.others⟩
        · show (t.1.set j0 true).getD j false = true ↔ _
          rw [getDf_set _ _ _ _ (by omega)]
          by_cases ej : j0 = j
          · subst ej
            rw [if_pos rfl]
            exact ⟨fun _ => .inr ⟨hp, by simp⟩, fun _ => rfl⟩
          · rw [if_neg ej, h.listed j hj]
            constructor
            · rintro (a | ⟨a, b⟩)
              · exact .inl a
              · exact .inr ⟨a, by simp [b]⟩
            · rintro (a | ⟨a, b⟩)
              · exact .inl a
              · simp at b
                rcases b with b | b
                · exact .inr ⟨a, b⟩
                · omega
        · show t.2.getD i true = true ↔ _
          rw [h.muddled, goodKids_snoc]
          constructor
          · rintro (a | a)
            · exact .inl a
            · exact .inr fun g => a g.1
          · rintro (a | a)
            · exact .inl a
            · exact .inr fun g => a ⟨g, ⟨_, hn, hp⟩, hnin⟩
    · refine hbad _ (by unfold lookStep; rw [hn]; simp only [beq_eq_false_iff_ne.2 hp, Bool.false_and]; rfl) (fun g => ?_) (fun j hj a e => ?_)
      · obtain ⟨m, a, b⟩ := ((goodKids_snoc ns i p _).1 g).2.1
        rw [hn] at a; cases a; exact hp b
      · have : j = j0 := by omega
        subst this
        exact absurd a hp
theorem look_all (ns : List NodeD) (i : Nat) (s : List Bool × List Bool) (kids : List Int) (hi : i < ns.length) (h1 : s.1.length = ns.length) (h2 : s.2.length = ns.length)
    (hs : ∀ (j : Nat) (hj : j < ns.length), s.1.getD j false = true → ns[j].parent ≠ (i : Int) + 1) : ∀ k, k ≤ kids.length → Looked ns i s (lookTo ns i kids s k) (kids.take k)
  | 0, _ => by
    refine ⟨fun j hj => ?_, ?_, fun _ _ => rfl⟩
    · simp [lookTo]
    · have : GoodKids ns i [] := ⟨by simp, List.nodup_nil⟩
      simp [lookTo, this]
  | k + 1, hk => by
    have ih := look_all ns i s kids hi h1 h2 hs k (by omega)
    have hl := lookTo_len ns i kids s k (by omega)
    rw [lookTo_succ ns i kids s k (by omega), List.take_add_one, List.getElem?_eq_getElem (by omega)]
    exact look_step ns i s _ _ _ hi (by omega) (by omega) hs ih
/-- What holds behind each node. -/
structure LookedAll (ns : List NodeD) (k : Nat) (t : List Bool × List Bool) : Prop where
  listed : ∀ (j : Nat) (hj : j < ns.length), t.1.getD j false = true ↔ ∃ (i : Nat) (hi : i < ns.length), i < k ∧ ns[j].parent = (i : Int) + 1 ∧ ((j : Int) + 1) ∈ ns[i].kids
  muddled : ∀ (i : Nat) (hi : i < ns.length), t.2.getD i true = true ↔ i < k ∧ ¬ GoodKids ns i ns[i].kids
theorem lookAll_ok (ns : List NodeD) : ∀ k : Nat, k ≤ ns.length → LookedAll ns k (lookAll ns k)
  | 0, _ => by
    refine ⟨fun j hj => ?_, fun i hi => ?_⟩
    · simp [lookAll, List.getD_eq_getElem?_getD, hj]
    · simp [lookAll, List.getD_eq_getElem?_getD, hi]
  | k + 1, hk => by
    have ih := lookAll_ok ns k (by omega)
    have hl := lookAll_len ns k (by omega)
    have hkl : k < ns.length := by omega
    have h := look_all ns k (lookAll ns k) ns[k].kids hkl hl.1 hl.2 (fun j hj he => by
      obtain ⟨i, hi, a, b, _⟩ := (ih.listed j hj).1 he
      rw [b]
      omega) ns[k].kids.length (Nat.le_refl _)
    rw [lookAll_succ ns k hkl]
    rw [List.take_length] at h
    refine ⟨fun j hj => ?_, fun i hi => ?_⟩
    · rw [h.listed j hj, ih.listed j hj]
      constructor
      · rintro (⟨i, hi, a, b⟩ | ⟨a, b⟩)
        · exact ⟨i, hi, by omega, b⟩
        · exact ⟨k, hkl, by omega, a, b⟩
      · rintro ⟨i, hi, a, b, c⟩
        by_cases e : i = k
        · subst e; exact .inr ⟨b, c⟩
        · exact .inl ⟨i, hi, by omega, b, c⟩
    · by_cases e : i = k
      · subst e
        rw [h.muddled, ih.muddled i hi]
        constructor
        · rintro (a | a)
          · omega
          · exact ⟨by omega, a⟩
        · exact fun a => .inr a.2
      · rw [h.others i e, ih.muddled i hi]
        constructor
        · exact fun a => ⟨by omega, a.2⟩
        · exact fun a => ⟨by omega, a.2⟩
theorem listed_iff (ns : List NodeD) (j : Nat) (hj : j < ns.length) : (lookAll ns ns.length).1.getD j false = true ↔ ∃ (i : Nat) (hi : i < ns.length), ns[j].parent = (i : Int) + 1 ∧ ((j : Int) + 1) ∈ ns[i].kids := by
  rw [(lookAll_ok ns ns.length (Nat.le_refl _)).listed j hj]
  constructor
  · rintro ⟨i, hi, _, a⟩; exact ⟨i, hi, a⟩
  · rintro ⟨i, hi, a⟩; exact ⟨i, hi, hi, a⟩
theorem muddled_iff (ns : List NodeD) (i : Nat) (hi : i < ns.length) : (lookAll ns ns.length).2.getD i true = false ↔ GoodKids ns i ns[i].kids := by
  have h := (lookAll_ok ns ns.length (Nat.le_refl _)).muddled i hi
  cases e : (lookAll ns ns.length).2.getD i true with
  | true => rw [e] at h; exact ⟨fun a => (by cases a), fun a => absurd a (h.1 rfl).2⟩
  | false =>
    refine ⟨fun _ => ?_, fun _ => rfl⟩
    apply Classical.byContradiction
    intro hg
    rw [h.2 ⟨hi, hg⟩] at e
    cases e
end Go.Proofs.YtilacgcjbdkphaaGreat
