/- What Check says of a forest, and what a right forest has. -/
import Derived.Test.YtilacgcjbdkphaaGreatFSays
import Derived.Test.YtilacgcjbdkphaaGreatFShadow
import Derived.Test.YtilacgcjbdkphaaGreatFKids
import Derived.Test.YtilacgcjbdkphaaGreatFNodeV
namespace Go.Proofs.YtilacgcjbdkphaaGreat
open Go.RowKit Go.Lib

/-- Is a node right, in its forest? -/
def nodeRight (ns : List NodeD) (i : Nat) (n : NodeD) : Bool :=
  rightB (wellMadeD n) ((climbAll ns ns.length).2.getD i true) ((lookAll ns ns.length).2.getD i true) (n.parent == 0 || (lookAll ns ns.length).1.getD i false) (rightDocD ns i n) (rightShadowD ns i n) (rightKidsD ns n)
/-- The first node that isn't right, from one on; 0: there is none. -/
def firstWrong (ns : List NodeD) : Nat → List NodeD → Nat
  | _, [] => 0
  | i, n :: t => if nodeRight ns i n then firstWrong ns (i + 1) t else i + 1
/-- Why a forest is not right (7: it isn't, 0: it is), and where. -/
def checkD (ns : List NodeD) : Nat := if 4096 < ns.length then 4097 else firstWrong ns 0 ns
def rightD (ns : List NodeD) : Bool := checkD ns == 0
/-- A right forest. -/
structure RightF (ns : List NodeD) : Prop where
  small : ns.length ≤ 4096
  well : ∀ (i : Nat) (hi : i < ns.length), wellMadeD ns[i] = true
  ends : ∀ (i : Nat), i < ns.length → Ends ns ((i : Int) + 1)
  kids : ∀ (i : Nat) (hi : i < ns.length), GoodKids ns i ns[i].kids
  hang : ∀ (j : Nat) (hj : j < ns.length), ns[j].parent = 0 ∨ ∃ (i : Nat) (hi : i < ns.length), ns[j].parent = (i : Int) + 1 ∧ ((j : Int) + 1) ∈ ns[i].kids
  doc : ∀ (i : Nat) (hi : i < ns.length), rightDocD ns i ns[i] = true
  shadow : ∀ (i : Nat) (hi : i < ns.length), rightShadowD ns i ns[i] = true
  kinds : ∀ (i : Nat) (hi : i < ns.length), rightKidsD ns ns[i] = true
theorem nodeRight_iff (ns : List NodeD) (i : Nat) (hi : i < ns.length) : nodeRight ns i ns[i] = true ↔ wellMadeD ns[i] = true ∧ Ends ns ((i : Int) + 1) ∧ GoodKids ns i ns[i].kids ∧ (ns[i].parent = 0 ∨ ∃ (k : Nat) (hk : k < ns.length), ns[i].parent = (k : Int) + 1 ∧ ((i : Int) + 1) ∈ ns[k].kids) ∧ rightDocD ns i ns[i] = true ∧ rightShadowD ns i ns[i] = true ∧ rightKidsD ns ns[i] = true := by
  unfold nodeRight rightB
  simp only [Bool.and_eq_true, Bool.not_eq_true', Bool.or_eq_true, endless_iff ns i hi, muddled_iff ns i hi, listed_iff ns i hi, beq_iff_eq, and_assoc]
theorem firstWrong_zero (ns : List NodeD) : ∀ (t : List NodeD) (i : Nat), firstWrong ns i t = 0 ↔ ∀ (j : Nat) (hj : j < t.length), nodeRight ns (i + j) t[j] = true
  | [], i => by simp [firstWrong]
  | n :: t, i => by
    unfold firstWrong
    cases h : nodeRight ns i n with
    | false =>
      rw [if_neg Bool.false_ne_true]
      refine ⟨fun a => by omega, fun a => ?_⟩
      have := a 0 (by simp)
      simp [h] at this
    | true =>
      rw [if_pos rfl, firstWrong_zero ns t (i + 1)]
      constructor
      · intro a j hj
        cases j with
        | zero => exact h
        | succ j =>
          have := a j (by simpa using hj)
          rw [show i + 1 + j = i + (j + 1) by omega] at this
          exact this
      · intro a j hj
        have := a (j + 1) (by simpa using hj)
        rw [show i + (j + 1) = i + 1 + j by omega] at this
        exact this
theorem rightD_iff (ns : List NodeD) : rightD ns = true ↔ RightF ns := by
  unfold rightD checkD
  by_cases hs : 4096 < ns.length
  · rw [if_pos hs]
    refine ⟨fun h => by simp at h, fun h => ?_⟩
    have := h.small
    omega
  · rw [if_neg hs, beq_iff_eq, firstWrong_zero]
    constructor
    · intro h
      have h' : ∀ (i : Nat) (hi : i < ns.length), _ := fun i hi => (nodeRight_iff ns i hi).1 (by have := h i hi; rw [Nat.zero_add] at this; exact this)
      exact ⟨by omega, fun i hi => (h' i hi).1, fun i hi => (h' i hi).2.1, fun i hi => (h' i hi).2.2.1, fun i hi => (h' i hi).2.2.2.1, fun i hi => (h' i hi).2.2.2.2.1, fun i hi => (h' i hi).2.2.2.2.2.1, fun i hi => (h' i hi).2.2.2.2.2.2⟩
    · intro h j hj
      rw [Nat.zero_add]
      exact (nodeRight_iff ns j hj).2 ⟨h.well j hj, h.ends j hj, h.kids j hj, h.hang j hj, h.doc j hj, h.shadow j hj, h.kinds j hj⟩

/-- As many numbers at most. -/
theorem pigeon : ∀ (n : Nat) (l : List Int), l.Nodup → (∀ x ∈ l, 1 ≤ x ∧ x ≤ (n : Int)) → l.length ≤ n
  | 0, [], _, _ => Nat.le_refl _
  | 0, x :: t, _, h => by have := h x (by simp); omega
  | n + 1, l, hn, h => by
    have ih := pigeon n (l.erase ((n : Int) + 1)) (hn.erase _) (fun x hx => by
      obtain ⟨a, b⟩ := (hn.mem_erase_iff).1 hx
      have := h x b
      omega)
    have := List.length_erase (a := (n : Int) + 1) (l := l)
    split at this <;> omega

/-- A step up that is none, or is the one above. -/
def UpOK (ns : List NodeD) (up : Int → Int) : Prop := ∀ (j : Nat) (hj : j < ns.length), up ((j : Int) + 1) = 0 ∨ (up ((j : Int) + 1) = aboveD ns[j] ∧ thereB ns.length (up ((j : Int) + 1)) = true)
def chainBy (up : Int → Int) : Nat → Int → List Int
  | 0, _ => []
  | f + 1, x => if x == 0 then [] else x :: chainBy up f (up x)
theorem chainBy_zero (up : Int → Int) : ∀ f, chainBy up f 0 = []
  | 0 => rfl
  | _ + 1 => rfl
theorem chainBy_spec (ns : List NodeD) (up : Int → Int) (hu : UpOK ns up) (he : ∀ j : Nat, j < ns.length → Ends ns ((j : Int) + 1)) : ∀ (f : Nat) (x : Int), (x = 0 ∨ thereB ns.length x = true) →
    (∀ y ∈ chainBy up f x, thereB ns.length y = true ∧ Reach ns x y) ∧ (chainBy up f x).Nodup ∧ ((chainBy up f x).length < f → chainBy up (f + 1) x = chainBy up f x)
  | 0, _, _ => ⟨fun _ h => (by cases h), List.nodup_nil, fun h => absurd h (Nat.not_lt_zero _)⟩
  | f + 1, x, hx => by
    by_cases h0 : x = 0
    · subst h0
      rw [chainBy_zero, chainBy_zero]
      exact ⟨fun _ h => (by cases h), List.nodup_nil, fun _ => rfl⟩
    · have ht : thereB ns.length x = true := hx.resolve_left h0
      obtain ⟨j, hj, rfl⟩ := there_idx ht
      have e : ∀ g, chainBy up (g + 1) ((j : Int) + 1) = ((j : Int) + 1) :: chainBy up g (up ((j : Int) + 1)) := fun g => by rw [chainBy, beq_eq_false_iff_ne.2 h0]; rfl
      obtain ⟨i1, i2, i3⟩ := chainBy_spec ns up hu he f (up ((j : Int) + 1)) (by
        rcases hu j hj with a | a
        · exact .inl a
        · exact .inr a.2)
      have hst : ∀ y ∈ chainBy up f (up ((j : Int) + 1)), Reach1 ns ((j : Int) + 1) y := fun y hy => by
        rcases hu j hj with a | a
        · rw [a, chainBy_zero] at hy; cases hy
        · have := (i1 y hy).2
          rw [a.1] at this
          exact ⟨_, nodeOf_at ns j hj, this⟩
      rw [e, e]
      refine ⟨fun y hy => ?_, List.nodup_cons.2 ⟨fun hin => (he j hj).noRing (hst _ hin), i2⟩, fun hl => ?_⟩
      · rcases List.mem_cons.1 hy with rfl | hy
        · exact ⟨ht, .refl _⟩
        · exact ⟨(i1 y hy).1, (hst y hy).to⟩
      · rw [i3 (by simpa using hl)]
/-- A node, what is over it, and so on. -/
def pathUp (ns : List NodeD) (up : Int → Int) (x : Int) : List Int := chainBy up (ns.length + 1) x
theorem pathUp_zero (ns : List NodeD) (up : Int → Int) : pathUp ns up 0 = [] := chainBy_zero _ _
theorem pathUp_len (ns : List NodeD) (up : Int → Int) (hu : UpOK ns up) (he : ∀ j : Nat, j < ns.length → Ends ns ((j : Int) + 1)) (x : Int) (hx : x = 0 ∨ thereB ns.length x = true) : (pathUp ns up x).length ≤ ns.length := by
  obtain ⟨a, b, _⟩ := chainBy_spec ns up hu he (ns.length + 1) x hx
  exact pigeon ns.length _ b fun y hy => by
    have := (a y hy).1
    unfold thereB at this
    simp only [Bool.and_eq_true, decide_eq_true_eq] at this
    exact this
theorem pathUp_cons (ns : List NodeD) (up : Int → Int) (hu : UpOK ns up) (he : ∀ j : Nat, j < ns.length → Ends ns ((j : Int) + 1)) (j : Nat) (hj : j < ns.length) : pathUp ns up ((j : Int) + 1) = ((j : Int) + 1) :: pathUp ns up (up ((j : Int) + 1)) := by
  have h := (chainBy_spec ns up hu he (ns.length + 1) ((j : Int) + 1) (.inr (thereB_idx _ _ hj))).2.2 (by have := pathUp_len ns up hu he ((j : Int) + 1) (.inr (thereB_idx _ _ hj)); unfold pathUp at this; omega)
  unfold pathUp
  rw [← h, chainBy, beq_eq_false_iff_ne.2 (by omega)]
  rfl
/-- The parent, and the parent through shadow trees. -/
def parentD (ns : List NodeD) (x : Int) : Int := match nodeOf ns x with
  | some n => n.parent
  | none => 0
def overD (ns : List NodeD) (x : Int) : Int := match nodeOf ns x with
  | some n => if n.host == 0 then n.parent else n.host
  | none => 0
theorem parentD_at (ns : List NodeD) (j : Nat) (hj : j < ns.length) : parentD ns ((j : Int) + 1) = ns[j].parent := by unfold parentD; rw [nodeOf_at ns j hj]
theorem overD_at (ns : List NodeD) (j : Nat) (hj : j < ns.length) : overD ns ((j : Int) + 1) = if ns[j].host == 0 then ns[j].parent else ns[j].host := by unfold overD; rw [nodeOf_at ns j hj]
theorem well_parts {n : NodeD} (h : wellMadeD n = true) : knownK n.kind = true ∧ bareD n = true ∧ rightNameD n = true ∧ rightAttrsD n.attrs = true ∧ rightModeD n = true := by
  unfold wellMadeD at h
  simp only [Bool.and_eq_true] at h
  exact ⟨h.1.1.1.1.1.1, h.1.1.1.1.1.2, h.1.1.1.1.2, h.1.1.1.2, h.2⟩
theorem bare_shadow {n : NodeD} (h : bareD n = true) (hk : n.kind = 12) : n.parent = 0 := by
  unfold bareD at h
  simp only [Bool.and_eq_true] at h
  have := h.2
  rw [hk] at this
  simpa [mayHangK, mayBeWithinK, hasDataK] using this
theorem bare_host {n : NodeD} (h : bareD n = true) (hk : n.kind ≠ 12) : n.host = 0 := by
  unfold bareD at h
  simp only [Bool.and_eq_true] at h
  have h3 := h.1.1.1.1.1.2
  rw [beq_eq_false_iff_ne.2 hk] at h3
  simp at h3
  exact h3.1.1
theorem RightF.host {ns : List NodeD} (h : RightF ns) (j : Nat) (hj : j < ns.length) (hk : ns[j].kind = 12) : thereB ns.length ns[j].host = true := by
  have := h.shadow j hj
  unfold rightShadowD at this
  rw [hk] at this
  simp only [beq_self_eq_true, if_true] at this
  cases hn : nodeOf ns ns[j].host with
  | none => rw [hn] at this; cases this
  | some n =>
    obtain ⟨i, hi, e, _⟩ := nodeOf_idx hn
    rw [e]
    exact thereB_idx _ _ hi
theorem RightF.parent_there {ns : List NodeD} (h : RightF ns) (j : Nat) (hj : j < ns.length) : ns[j].parent = 0 ∨ thereB ns.length ns[j].parent = true := by
  rcases h.hang j hj with a | ⟨i, hi, e, _⟩
  · exact .inl a
  · exact .inr (by rw [e]; exact thereB_idx _ _ hi)
theorem RightF.parentOK {ns : List NodeD} (h : RightF ns) : UpOK ns (parentD ns) := fun j hj => by
  rw [parentD_at ns j hj]
  by_cases hk : ns[j].kind = 12
  · exact .inl (bare_shadow (well_parts (h.well j hj)).2.1 hk)
  · have e : aboveD ns[j] = ns[j].parent := by unfold aboveD; rw [beq_eq_false_iff_ne.2 hk]; rfl
    rw [e]
    rcases h.parent_there j hj with a | a
    · exact .inl a
    · exact .inr ⟨rfl, a⟩
theorem RightF.overOK {ns : List NodeD} (h : RightF ns) : UpOK ns (overD ns) := fun j hj => by
  rw [overD_at ns j hj]
  by_cases hk : ns[j].kind = 12
  · have ht := h.host j hj hk
    have h0 : (ns[j].host == 0) = false := by
      rw [beq_eq_false_iff_ne]
      intro e
      rw [e] at ht
      unfold thereB at ht
      simp at ht
    have e : aboveD ns[j] = ns[j].host := by unfold aboveD; rw [hk]; rfl
    rw [h0, if_neg Bool.false_ne_true]
    exact .inr ⟨e.symm, ht⟩
  · have e : aboveD ns[j] = ns[j].parent := by unfold aboveD; rw [beq_eq_false_iff_ne.2 hk]; rfl
    rw [bare_host (well_parts (h.well j hj)).2.1 hk, e]
    rcases h.parent_there j hj with a | a
    · exact .inl a
    · exact .inr ⟨rfl, a⟩
end Go.Proofs.YtilacgcjbdkphaaGreat
