/- The reference of forest says of a whole forest what the program says: plain. -/
import Derived.Test.YtilacgcjbdkphaaGreatFRefK
import Derived.Test.YtilacgcjbdkphaaGreatFOrd
namespace Go.Proofs.YtilacgcjbdkphaaGreat
open Go.RowKit Go.Lib

/-- Is a kid linked as it must be? -/
def linkKid (ns : List NodeD) (i : Nat) (n : NodeD) (x : Int) : Bool := thereB ns.length x && (nodeOrNone ns x).parent == (i : Int) + 1 && countI n.kids x == 1 && (nodeOrNone ns x).doc == n.doc
/-- Are a node's links as they must be? -/
def linksD (ns : List NodeD) (i : Nat) (n : NodeD) : Bool :=
  n.kids.all (linkKid ns i n) && (n.parent == 0 || (thereB ns.length n.parent && countI (nodeOrNone ns n.parent).kids ((i : Int) + 1) == 1)) &&
  (kindAt ns n.doc == 9 && !(n.kind == 9 && !(n.doc == (i : Int) + 1))) &&
  (n.shadow == 0 || (thereB ns.length n.shadow && (nodeOrNone ns n.shadow).kind == 12 && (nodeOrNone ns n.shadow).host == (i : Int) + 1)) &&
  (!(n.kind == 12) || (thereB ns.length n.host && (nodeOrNone ns n.host).kind == 1 && (nodeOrNone ns n.host).shadow == (i : Int) + 1 && (nodeOrNone ns n.host).doc == n.doc)) &&
  kidsGo (n.kind == 9) 0 0 (n.kids.map (kindAt ns))
def refNodeD (ns : List NodeD) (i : Nat) (n : NodeD) : Bool := wellMadeD n && linksD ns i n && !ringGo ns (ns.length + 1) ((i : Int) + 1)
theorem nodeOrNone_at (ns : List NodeD) (j : Nat) (hj : j < ns.length) : nodeOrNone ns ((j : Int) + 1) = ns[j] := by unfold nodeOrNone; rw [nodeOf_at ns j hj]; rfl
theorem nodeOf_none {ns : List NodeD} {x : Int} (h : thereB ns.length x = false) : nodeOf ns x = none := by unfold nodeOf; rw [h]; rfl
/-- Going up for a while, all there. -/
theorem ringGo_chain (ns : List NodeD) (up : Int → Int) (hup : ∀ (j : Nat) (hj : j < ns.length), up ((j : Int) + 1) = aboveD ns[j]) : ∀ (f : Nat) (x : Int), ringGo ns f x = true → ∃ l : List Int, l.length = f ∧ (∀ y ∈ l, thereB ns.length y = true ∧ Reach ns x y) ∧ (Ends ns x → l.Nodup)
  | 0, _, _ => ⟨[], rfl, fun _ h => (by cases h), fun _ => List.nodup_nil⟩
  | f + 1, x, h => by
    unfold ringGo at h
    cases ht : thereB ns.length x with
    | false => rw [ht] at h; cases h
    | true =>
      obtain ⟨j, hj, rfl⟩ := there_idx ht
      rw [ht, if_pos rfl, nodeOrNone_at ns j hj] at h
      obtain ⟨l, h1, h2, h3⟩ := ringGo_chain ns up hup f _ h
      refine ⟨((j : Int) + 1) :: l, by simp [h1], fun y hy => ?_, fun he => ?_⟩
      · rcases List.mem_cons.1 hy with rfl | hy
        · exact ⟨ht, .refl _⟩
        · exact ⟨(h2 y hy).1, .step (nodeOf_at ns j hj) (h2 y hy).2⟩
      · refine List.nodup_cons.2 ⟨fun hin => he.noRing ⟨_, nodeOf_at ns j hj, (h2 _ hin).2⟩, h3 (he.above (nodeOf_at ns j hj))⟩
theorem ringGo_ends (ns : List NodeD) : ∀ (f : Nat) (x : Int), ringGo ns f x = false → Ends ns x
  | 0, _, h => by cases h
  | f + 1, x, h => by
    unfold ringGo at h
    cases ht : thereB ns.length x with
    | false => exact .out (nodeOf_none ht)
    | true =>
      obtain ⟨j, hj, rfl⟩ := there_idx ht
      rw [ht, if_pos rfl, nodeOrNone_at ns j hj] at h
      exact .up (nodeOf_at ns j hj) (ringGo_ends ns f _ h)
/-- The reference's 'ring' says the same. -/
theorem ringGo_iff (ns : List NodeD) (x : Int) : ringGo ns (ns.length + 1) x = false ↔ Ends ns x := by
  refine ⟨ringGo_ends ns _ x, fun he => ?_⟩
  cases h : ringGo ns (ns.length + 1) x with
  | false => rfl
  | true =>
    exfalso
    obtain ⟨l, h1, h2, h3⟩ := ringGo_chain ns (fun x => aboveD (nodeOrNone ns x)) (fun j hj => by rw [nodeOrNone_at ns j hj]) _ x h
    have := pigeon ns.length l (h3 he) (fun y hy => by
      have := (h2 y hy).1
      unfold thereB at this
      simp only [Bool.and_eq_true, decide_eq_true_eq] at this
      exact this)
    omega
theorem kidsGo_other : ∀ (ks : List Nat) (e t : Nat), kidsGo false e t ks = ks.all mayBeWithinK
  | [], _, _ => rfl
  | k :: r, e, t => by
    rw [kidsGo, List.all_cons]
    unfold mayBeWithinK hasDataK
    rw [kidsGo_other r (e + 1) t, kidsGo_other r e t, kidsGo_other r e (t + 1)]
    by_cases h1 : k = 1
    · subst h1; rfl
    by_cases h3 : k = 3
    · subst h3; rfl
    by_cases h4 : k = 4
    · subst h4; rfl
    by_cases h8 : k = 8
    · subst h8; rfl
    by_cases h7 : k = 7
    · subst h7; rfl
    simp [beq_eq_false_iff_ne.2 h1, beq_eq_false_iff_ne.2 h3, beq_eq_false_iff_ne.2 h4, beq_eq_false_iff_ne.2 h8, beq_eq_false_iff_ne.2 h7]
theorem kidsGo_many : ∀ (ks : List Nat) (e t : Nat), (1 < e ∨ 1 < t) → kidsGo true e t ks = false
  | [], e, t, h => by
    rw [kidsGo]
    rcases h with h | h
    · rw [decide_eq_false (by omega : ¬ e ≤ 1)]; rfl
    · rw [decide_eq_false (by omega : ¬ t ≤ 1), Bool.and_false]; rfl
  | k :: r, e, t, h => by
    rw [kidsGo, kidsGo_many r (e + 1) t (by omega), kidsGo_many r e t h, kidsGo_many r e (t + 1) (by omega)]
    simp
theorem kidsGo_doc : ∀ (ks : List Nat) (e t : Nat), e ≤ 1 → t ≤ 1 → kidsGo true e t ks = topGo (decide (0 < t)) (decide (0 < e)) ks
  | [], e, t, h1, h2 => by
    rw [kidsGo, topGo, decide_eq_true h1, decide_eq_true h2]; rfl
  | k :: r, e, t, h1, h2 => by
    rw [kidsGo, topGo]
    by_cases k1 : k = 1
    · subst k1
      by_cases he : e = 0
      · subst he
        rw [kidsGo_doc r 1 t (by omega) h2]
        simp
      · have : e = 1 := by omega
        subst this
        rw [kidsGo_many r 2 t (by omega)]
        simp
    by_cases k3 : k = 3
    · subst k3; simp
    by_cases k4 : k = 4
    · subst k4; simp
    by_cases k8 : k = 8
    · subst k8
      rw [kidsGo_doc r e t h1 h2]
      simp
    by_cases k7 : k = 7
    · subst k7
      rw [kidsGo_doc r e t h1 h2]
      simp
    by_cases k10 : k = 10
    · subst k10
      by_cases he : e = 0
      · subst he
        by_cases ht : t = 0
        · subst ht
          rw [kidsGo_doc r 0 1 (by omega) (by omega)]
          simp
        · have : t = 1 := by omega
          subst this
          rw [kidsGo_many r 0 2 (by omega)]
          simp
      · have : 0 < e := by omega
        simp [this]
    simp [beq_eq_false_iff_ne.2 k1, beq_eq_false_iff_ne.2 k3, beq_eq_false_iff_ne.2 k4, beq_eq_false_iff_ne.2 k8, beq_eq_false_iff_ne.2 k7, beq_eq_false_iff_ne.2 k10]
theorem kidsGo_right (ns : List NodeD) (n : NodeD) : kidsGo (n.kind == 9) 0 0 (n.kids.map (kindAt ns)) = rightKidsD ns n := by
  unfold rightKidsD
  cases (n.kind == 9) with
  | true => rw [if_pos rfl, kidsGo_doc _ 0 0 (by omega) (by omega)]; rfl
  | false => rw [if_neg Bool.false_ne_true, kidsGo_other]
theorem count_go : ∀ (l : List Int) (x : Int) (c : Nat), l.foldl (fun n y => if y == x then n + 1 else n) c = c + countI l x
  | [], _, _ => rfl
  | y :: t, x, c => by
    unfold countI
    rw [List.foldl_cons, List.foldl_cons, count_go t x, count_go t x]
    split <;> omega
theorem countI_cons (y : Int) (t : List Int) (x : Int) : countI (y :: t) x = (if y == x then 1 else 0) + countI t x := by
  conv => lhs; unfold countI
  rw [List.foldl_cons, count_go]
theorem countI_pos : ∀ (l : List Int) (x : Int), 0 < countI l x ↔ x ∈ l
  | [], x => by simp [countI]
  | y :: t, x => by
    rw [countI_cons, List.mem_cons]
    have ih := countI_pos t x
    by_cases e : y = x
    · subst e; simp; omega
    · rw [beq_eq_false_iff_ne.2 e, if_neg Bool.false_ne_true, Nat.zero_add, ih]
      constructor
      · exact .inr
      · rintro (h | h)
        · exact absurd h.symm e
        · exact h
theorem countI_nodup : ∀ (l : List Int), l.Nodup ↔ ∀ x ∈ l, countI l x = 1
  | [] => by simp
  | y :: t => by
    rw [List.nodup_cons, countI_nodup t]
    constructor
    · rintro ⟨h1, h2⟩ x hx
      rw [countI_cons]
      by_cases e : y = x
      · subst e
        have : ¬ 0 < countI t y := fun h => h1 ((countI_pos t y).1 h)
        simp
        omega
      · rw [beq_eq_false_iff_ne.2 e, if_neg Bool.false_ne_true, Nat.zero_add]
        rcases List.mem_cons.1 hx with h | h
        · exact absurd h.symm e
        · exact h2 x h
    · intro h
      have hy := h y (by simp)
      rw [countI_cons, beq_self_eq_true, if_pos rfl] at hy
      have h0 : ¬ y ∈ t := fun hin => by have := (countI_pos t y).2 hin; omega
      refine ⟨h0, fun x hx => ?_⟩
      have hx' := h x (by simp [hx])
      rw [countI_cons] at hx'
      have e : y ≠ x := fun e => h0 (e ▸ hx)
      rw [beq_eq_false_iff_ne.2 e, if_neg Bool.false_ne_true, Nat.zero_add] at hx'
      exact hx'
/-- The links, said part by part. -/
structure LinksP (ns : List NodeD) (i : Nat) (n : NodeD) : Prop where
  kids : ∀ x ∈ n.kids, thereB ns.length x = true ∧ (nodeOrNone ns x).parent = (i : Int) + 1 ∧ countI n.kids x = 1 ∧ (nodeOrNone ns x).doc = n.doc
  parent : n.parent = 0 ∨ (thereB ns.length n.parent = true ∧ countI (nodeOrNone ns n.parent).kids ((i : Int) + 1) = 1)
  doc : kindAt ns n.doc = 9 ∧ (n.kind = 9 → n.doc = (i : Int) + 1)
  shadow : n.shadow = 0 ∨ (thereB ns.length n.shadow = true ∧ (nodeOrNone ns n.shadow).kind = 12 ∧ (nodeOrNone ns n.shadow).host = (i : Int) + 1)
  host : n.kind = 12 → thereB ns.length n.host = true ∧ (nodeOrNone ns n.host).kind = 1 ∧ (nodeOrNone ns n.host).shadow = (i : Int) + 1 ∧ (nodeOrNone ns n.host).doc = n.doc
  kinds : rightKidsD ns n = true
theorem linksD_iff (ns : List NodeD) (i : Nat) (n : NodeD) : linksD ns i n = true ↔ LinksP ns i n := by
  unfold linksD linkKid
  rw [kidsGo_right]
  simp only [Bool.and_eq_true, List.all_eq_true, beq_iff_eq, Bool.or_eq_true, Bool.not_eq_true', Bool.and_eq_false_iff, beq_eq_false_iff_ne, Bool.not_eq_false']
  constructor
  · rintro ⟨⟨⟨⟨⟨a, b⟩, c⟩, d⟩, e⟩, f⟩
    refine ⟨fun x hx => ?_, b, ⟨c.1, fun hk => ?_⟩, ?_, fun hk => ?_, f⟩
    · obtain ⟨⟨⟨a1, a2⟩, a3⟩, a4⟩ := a x hx
      exact ⟨a1, a2, a3, a4⟩
    · rcases c.2 with h | h
      · exact absurd hk h
      · exact h
    · rcases d with d | ⟨⟨d1, d2⟩, d3⟩
      · exact .inl d
      · exact .inr ⟨d1, d2, d3⟩
    · rcases e with h | ⟨⟨⟨e1, e2⟩, e3⟩, e4⟩
      · exact absurd hk h
      · exact ⟨e1, e2, e3, e4⟩
  · rintro ⟨a, b, c, d, e, f⟩
    refine ⟨⟨⟨⟨⟨fun x hx => ?_, b⟩, c.1, ?_⟩, ?_⟩, ?_⟩, f⟩
    · obtain ⟨a1, a2, a3, a4⟩ := a x hx
      exact ⟨⟨⟨a1, a2⟩, a3⟩, a4⟩
    · by_cases hk : n.kind = 9
      · exact .inr (c.2 hk)
      · exact .inl hk
    · rcases d with d | ⟨d1, d2, d3⟩
      · exact .inl d
      · exact .inr ⟨⟨d1, d2⟩, d3⟩
    · by_cases hk : n.kind = 12
      · obtain ⟨e1, e2, e3, e4⟩ := e hk
        exact .inr ⟨⟨⟨e1, e2⟩, e3⟩, e4⟩
      · exact .inl hk
theorem kindAt_there {ns : List NodeD} {x : Int} {k : Nat} (h : kindAt ns x = k) (hk : k ≠ 0) : ∃ (j : Nat) (hj : j < ns.length), x = (j : Int) + 1 ∧ ns[j].kind = k := by
  unfold kindAt at h
  cases hn : nodeOf ns x with
  | none => rw [hn] at h; exact absurd h.symm hk
  | some n =>
    obtain ⟨j, hj, e, e2⟩ := nodeOf_idx hn
    rw [hn] at h
    exact ⟨j, hj, e, e2 ▸ h⟩
theorem isOfD_iff (ns : List NodeD) (x : Int) (k : Nat) (hk : k ≠ 0) : isOfD ns x k = true ↔ kindAt ns x = k := by
  unfold isOfD kindAt
  cases nodeOf ns x with
  | none => exact ⟨fun h => (by cases h), fun h => absurd h.symm hk⟩
  | some n => exact beq_iff_eq
/-- The reference's word on a whole forest is the program's. -/
theorem refRight_iff (ns : List NodeD) : (ns.length ≤ 4096 ∧ ∀ (i : Nat) (hi : i < ns.length), refNodeD ns i ns[i] = true) ↔ RightF ns := by
  have hsplit : ∀ (i : Nat) (hi : i < ns.length), refNodeD ns i ns[i] = true ↔ wellMadeD ns[i] = true ∧ LinksP ns i ns[i] ∧ Ends ns ((i : Int) + 1) := fun i hi => by
    unfold refNodeD
    rw [Bool.and_eq_true, Bool.and_eq_true, linksD_iff, Bool.not_eq_true', ringGo_iff, and_assoc]
  constructor
  · rintro ⟨hs, h⟩
    have hw : ∀ (i : Nat) (hi : i < ns.length), wellMadeD ns[i] = true := fun i hi => ((hsplit i hi).1 (h i hi)).1
    have hl : ∀ (i : Nat) (hi : i < ns.length), LinksP ns i ns[i] := fun i hi => ((hsplit i hi).1 (h i hi)).2.1
    have hang : ∀ (j : Nat) (hj : j < ns.length), ns[j].parent = 0 ∨ ∃ (i : Nat) (hi : i < ns.length), ns[j].parent = (i : Int) + 1 ∧ ((j : Int) + 1) ∈ ns[i].kids := fun j hj => by
      rcases (hl j hj).parent with a | ⟨a, b⟩
      · exact .inl a
      · obtain ⟨i, hi, e⟩ := there_idx a
        rw [e, nodeOrNone_at ns i hi] at b
        exact .inr ⟨i, hi, e, (countI_pos _ _).1 (by omega)⟩
    refine ⟨hs, hw, fun i hi => ((hsplit i hi).1 (h i hi)).2.2, fun i hi => ⟨fun x hx => ?_, (countI_nodup _).2 fun x hx => ((hl i hi).kids x hx).2.2.1⟩, hang, fun i hi => ?_, fun i hi => ?_, fun i hi => (hl i hi).kinds⟩
    · obtain ⟨a, b, _⟩ := (hl i hi).kids x hx
      obtain ⟨j, hj, rfl⟩ := there_idx a
      rw [nodeOrNone_at ns j hj] at b
      exact ⟨_, nodeOf_at ns j hj, b⟩
    · unfold rightDocD
      by_cases k9 : ns[i].kind = 9
      · rw [k9, (hl i hi).doc.2 k9]; simp
      · rw [beq_eq_false_iff_ne.2 k9, if_neg Bool.false_ne_true, (isOfD_iff ns _ 9 (by omega)).2 (hl i hi).doc.1, if_pos rfl]
        by_cases k12 : ns[i].kind = 12
        · obtain ⟨a, _, _, d⟩ := (hl i hi).host k12
          have e : aboveD ns[i] = ns[i].host := by unfold aboveD; rw [k12]; rfl
          obtain ⟨j, hj, ej⟩ := there_idx a
          rw [ej, nodeOrNone_at ns j hj] at d
          rw [e, ej, nodeOf_at ns j hj]
          simpa using d
        · have e : aboveD ns[i] = ns[i].parent := by unfold aboveD; rw [beq_eq_false_iff_ne.2 k12]; rfl
          rw [e]
          rcases hang i hi with a | ⟨j, hj, ej, hin⟩
          · rw [a, nodeOf_none (by unfold thereB; simp)]
          · obtain ⟨_, _, _, d⟩ := (hl j hj).kids _ hin
            rw [nodeOrNone_at ns i hi] at d
            rw [ej, nodeOf_at ns j hj]
            simpa using d.symm
    · unfold rightShadowD
      by_cases k12 : ns[i].kind = 12
      · obtain ⟨a, b, c, _⟩ := (hl i hi).host k12
        obtain ⟨j, hj, ej⟩ := there_idx a
        rw [ej, nodeOrNone_at ns j hj] at b c
        rw [k12, ej, nodeOf_at ns j hj]
        simp [b, c]
      · rw [beq_eq_false_iff_ne.2 k12, if_neg Bool.false_ne_true]
        rcases (hl i hi).shadow with a | ⟨a, b, c⟩
        · rw [a]; rfl
        · obtain ⟨j, hj, ej⟩ := there_idx a
          rw [ej, nodeOrNone_at ns j hj] at b c
          rw [ej, nodeOf_at ns j hj]
          simp [b, c]
  · intro h
    refine ⟨h.small, fun i hi => (hsplit i hi).2 ⟨h.well i hi, ?_, h.ends i hi⟩⟩
    have hb := (well_parts (h.well i hi)).2.1
    refine ⟨fun x hx => ?_, ?_, ⟨?_, fun hk => ?_⟩, ?_, fun hk => ?_, h.kinds i hi⟩
    · obtain ⟨n, hn, hp⟩ := (h.kids i hi).1 x hx
      obtain ⟨j, hj, rfl, rfl⟩ := nodeOf_idx hn
      rw [nodeOrNone_at ns j hj]
      refine ⟨thereB_idx _ _ hj, hp, (countI_nodup _).1 (h.kids i hi).2 _ hx, ?_⟩
      have hd := h.doc j hj
      unfold rightDocD at hd
      by_cases k9 : ns[j].kind = 9
      · exfalso
        have hbj := (well_parts (h.well j hj)).2.1
        unfold bareD at hbj
        simp only [Bool.and_eq_true] at hbj
        have := hbj.2
        rw [k9, hp] at this
        simp [mayHangK, mayBeWithinK, hasDataK] at this
        omega
      · rw [beq_eq_false_iff_ne.2 k9, if_neg Bool.false_ne_true] at hd
        split at hd
        · have k12 : ns[j].kind ≠ 12 := fun k12 => by
            have := bare_shadow (well_parts (h.well j hj)).2.1 k12
            omega
          have e : aboveD ns[j] = ns[j].parent := by unfold aboveD; rw [beq_eq_false_iff_ne.2 k12]; rfl
          rw [e, hp, nodeOf_at ns i hi] at hd
          have hd' : ns[i].doc = ns[j].doc := by simpa using hd
          exact hd'.symm
        · cases hd
    · rcases h.hang i hi with a | ⟨j, hj, ej, hin⟩
      · exact .inl a
      · refine .inr ?_
        rw [ej, nodeOrNone_at ns j hj]
        exact ⟨thereB_idx _ _ hj, (countI_nodup _).1 (h.kids j hj).2 _ hin⟩
    · have hd := h.doc i hi
      unfold rightDocD at hd
      by_cases k9 : ns[i].kind = 9
      · rw [k9] at hd
        simp at hd
        rw [hd]
        unfold kindAt
        rw [nodeOf_at ns i hi]
        exact k9
      · rw [beq_eq_false_iff_ne.2 k9, if_neg Bool.false_ne_true] at hd
        split at hd
        · rename_i h9
          exact (isOfD_iff ns _ 9 (by omega)).1 h9
        · cases hd
    · have hd := h.doc i hi
      unfold rightDocD at hd
      rw [hk] at hd
      simpa using hd
    · have hsh := h.shadow i hi
      unfold rightShadowD at hsh
      by_cases k12 : ns[i].kind = 12
      · refine .inl ?_
        unfold bareD at hb
        simp only [Bool.and_eq_true] at hb
        have := hb.1.1.1.1.1.1.1
        rw [k12] at this
        simp at this
        exact this.2
      · rw [beq_eq_false_iff_ne.2 k12, if_neg Bool.false_ne_true, Bool.or_eq_true] at hsh
        rcases hsh with a | a
        · exact .inl (by simpa using a)
        · cases hn : nodeOf ns ns[i].shadow with
          | none => rw [hn] at a; cases a
          | some n =>
            obtain ⟨j, hj, ej, rfl⟩ := nodeOf_idx hn
            rw [hn] at a
            rw [ej, nodeOrNone_at ns j hj]
            simp only [Bool.and_eq_true, beq_iff_eq] at a
            exact .inr ⟨thereB_idx _ _ hj, a.1, a.2⟩
    · have hsh := h.shadow i hi
      unfold rightShadowD at hsh
      rw [hk] at hsh
      simp only [beq_self_eq_true, if_true] at hsh
      cases hn : nodeOf ns ns[i].host with
      | none => rw [hn] at hsh; cases hsh
      | some n =>
        obtain ⟨j, hj, ej, rfl⟩ := nodeOf_idx hn
        rw [hn] at hsh
        simp only [Bool.and_eq_true, beq_iff_eq] at hsh
        have hd := h.doc i hi
        unfold rightDocD at hd
        rw [hk] at hd
        simp only [show ((12 : Nat) == 9) = false by rfl, if_neg Bool.false_ne_true] at hd
        have e : aboveD ns[i] = ns[i].host := by unfold aboveD; rw [hk]; rfl
        rw [e, hn] at hd
        rw [ej, nodeOrNone_at ns j hj]
        refine ⟨thereB_idx _ _ hj, hsh.1, hsh.2, ?_⟩
        split at hd
        · simpa using hd
        · cases hd
end Go.Proofs.YtilacgcjbdkphaaGreat
