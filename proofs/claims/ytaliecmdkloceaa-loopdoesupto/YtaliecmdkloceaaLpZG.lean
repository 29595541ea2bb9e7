/- loop: the mathematics of LoopDoes. -/
import Derived.Test.YtaliecmdkloceaaLpZD
import Derived.Test.YtaliecmdkloceaaLpFF
namespace Go.Proofs.Ytaliecmdkloceaa
open Go.RowKit Go.Lib Go.Shelf

def AheadN (a b : AlD) : Prop := a.due < b.due ∨ a.due = b.due ∧ a.num < b.num
/-- A loop and the reference's state hold the same. -/
structure Rel0 (s r : LpD) : Prop where
  now : r.now = s.now
  mic : r.mic = s.mic
  tks : r.tks = s.tks
  giv : r.giv = s.giv
  cls : r.cls = s.cls
  perm : s.tms.Perm r.tms
  ord : s.tms.Pairwise AheadN
  com : r.tms.Pairwise (fun a b => a.num < b.num)
  num : ∀ x ∈ r.tms, x.num ≤ r.giv
structure RelR (s r : LpD) : Prop where
  rel : Rel0 s r
  ok : OkD s
  emp : Emp s
theorem relR_new : RelR newD newD := ⟨⟨rfl, rfl, rfl, rfl, rfl, List.Perm.nil, List.Pairwise.nil, List.Pairwise.nil, fun x hx => by cases hx⟩, ok_new, emp_new⟩
theorem Rel0.tot {s r : LpD} (h : Rel0 s r) : totD r = totD s := by
  unfold totD tasksD
  rw [h.tks, h.mic, h.perm.length_eq]
theorem Rel0.ag {s r : LpD} (h : Rel0 s r) (w : Bool) : againstE r w = againstE s w := by
  unfold againstE
  rw [h.cls, h.tot]
theorem Rel0.q {s r : LpD} (h : Rel0 s r) (i : Nat) : qI r i = qI s i := by
  unfold qI
  rw [h.mic, h.tks]
theorem Rel0.set {s r : LpD} (h : Rel0 s r) (i : Nat) (l : List Int) : Rel0 (setI s i l) (setI r i l) := by
  unfold setI
  split
  · exact ⟨h.now, rfl, h.tks, h.giv, h.cls, h.perm, h.ord, h.com, h.num⟩
  · exact ⟨h.now, h.mic, by show r.tks.set _ _ = s.tks.set _ _; rw [h.tks], h.giv, h.cls, h.perm, h.ord, h.com, h.num⟩
theorem Rel0.src {s r : LpD} (h : Rel0 s r) (k : Nat) : srcs r k = srcs s k := by
  unfold srcs
  simp only [h.q]
theorem Rel0.next {s r : LpD} (h : Rel0 s r) (p : Int) : (nextD r p).2 = (nextD s p).2 ∧ Rel0 (nextD s p).1 (nextD r p).1 := by
  unfold nextD
  rw [h.mic, h.src]
  cases hm : s.mic with
  | cons x q => exact ⟨rfl, h.set 1 q⟩
  | nil =>
    dsimp only
    by_cases h0 : (srcs s 8).length = 0
    · rw [if_pos h0, if_pos h0]
      exact ⟨rfl, h⟩
    · rw [if_neg h0, if_neg h0, h.q]
      cases qI s (2 + ((srcs s 8).getD (placeD p (srcs s 8).length) 0).toNat) with
      | nil => exact ⟨rfl, h⟩
      | cons x q => exact ⟨rfl, h.set _ q⟩
theorem erase_perm (l : List AlD) (i : Nat) (hi : i < l.length) : l.Perm (l[i] :: l.eraseIdx i) := by
  have e : l = l.take i ++ l[i] :: l.drop (i + 1) := by rw [← List.drop_eq_getElem_cons hi, List.take_append_drop]
  have h2 : (l.take i ++ l[i] :: l.drop (i + 1)).Perm (l[i] :: l.eraseIdx i) := by
    rw [List.eraseIdx_eq_take_drop_succ]
    exact List.perm_middle
  exact (List.Perm.of_eq e).trans h2
/-- The soonest is the first. -/
theorem Rel0.head {s r : LpD} (h : Rel0 s r) {i : Nat} (hi : i < r.tms.length) (hs : SoonK r.tms r.tms.length (i : Int)) : ∃ rest, s.tms = tmD r.tms i :: rest ∧ rest.Perm (r.tms.eraseIdx i) := by
  obtain ⟨h1, h2⟩ : (∀ j, j < r.tms.length → dD r.tms i ≤ dD r.tms j) ∧ ∀ j, j < i → dD r.tms i < dD r.tms j := by
    rcases hs with ⟨_, h0⟩ | ⟨i', _, e, a, b⟩
    · omega
    · have : i' = i := by omega
      subst this
      exact ⟨a, b⟩
  have hp := erase_perm r.tms i hi
  rw [← tmD_at hi] at hp
  cases hsm : s.tms with
  | nil =>
    have := h.perm.length_eq
    rw [hsm] at this
    simp at this
    omega
  | cons y rest =>
    have hperm := h.perm
    have hord := h.ord
    rw [hsm] at hperm hord
    have hx : tmD r.tms i ∈ y :: rest := hperm.mem_iff.2 (by rw [tmD_at hi]; exact List.getElem_mem hi)
    have hy : y ∈ r.tms := hperm.mem_iff.1 (List.mem_cons_self ..)
    obtain ⟨j, hj, ej⟩ := List.mem_iff_getElem.1 hy
    have dj : dD r.tms j = y.due := by unfold dD; rw [tmD_at hj, ej]
    have e : tmD r.tms i = y := by
      rcases List.mem_cons.1 hx with e | hx
      · exact e
      · exfalso
        have ha := (List.pairwise_cons.1 hord).1 _ hx
        have h3 := h1 j hj
        have hdi : dD r.tms i = (tmD r.tms i).due := rfl
        rcases ha with ha | ⟨ha, hn⟩
        · omega
        · have hji : j < i := by
            by_cases hji : j < i
            · exact hji
            · exfalso
              by_cases hij : i = j
              · subst hij
                rw [tmD_at hi, ej] at hn
                omega
              · have := List.pairwise_iff_getElem.1 h.com i j hi hj (by omega)
                rw [ej, ← tmD_at hi] at this
                omega
          have := h2 j hji
          omega
    rw [e] at hp ⊢
    exact ⟨rest, rfl, (List.perm_cons y).1 (hperm.trans hp)⟩
theorem Rel0.move {s r : LpD} (h : Rel0 s r) {i : Nat} (hi : i < r.tms.length) (hs : SoonK r.tms r.tms.length (i : Int)) : Rel0 (mv1 s) (duR r i) ∧ ∃ rest, s.tms = tmD r.tms i :: rest := by
  obtain ⟨rest, e, hp⟩ := h.head hi hs
  have hord := h.ord
  rw [e] at hord
  refine ⟨?_, rest, e⟩
  rw [mv1_cons e]
  have hq : qI s 2 = s.tks.getD 0 [] := qI_task s 0
  rw [hq]
  refine ⟨h.now, h.mic, ?_, h.giv, h.cls, hp, (List.pairwise_cons.1 hord).2, h.com.sublist (List.eraseIdx_sublist _ _), fun x hx => h.num x ((List.eraseIdx_sublist _ _).subset hx)⟩
  show r.tks.set 0 _ = s.tks.set 0 _
  rw [h.tks]
theorem mvN_tms (s : LpD) (h8 : s.tks.length = 8) (k : Nat) : (mvN k s).tms = s.tms.drop k := (mvN_facts s h8 k).1
theorem steps_rel {s0 r0 : LpD} (h : Rel0 s0 r0) (h8 : s0.tks.length = 8) {n : Nat} {r' : LpD} (hS : StepsR r0 n r') : Rel0 (mvN n s0) r' ∧ n ≤ s0.tms.length ∧ ∀ j (_ : j < n) (hl : j < s0.tms.length), s0.tms[j].due ≤ r0.now := by
  induction hS with
  | zero => exact ⟨h, Nat.zero_le _, fun j hj => absurd hj (Nat.not_lt_zero _)⟩
  | @succ n r' i hS hi hs hd ih =>
    obtain ⟨h1, h2, h3⟩ := ih
    obtain ⟨m1, rest, m2⟩ := h1.move hi hs
    rw [mvN_tms s0 h8] at m2
    have hn : n < s0.tms.length := by
      by_cases hn : n < s0.tms.length
      · exact hn
      · rw [List.drop_eq_nil_of_le (by omega)] at m2
        cases m2
    have hnow := (steps_len hS).2.1
    refine ⟨m1, hn, fun j hj hl => ?_⟩
    by_cases hjn : j = n
    · subst hjn
      rw [List.drop_eq_getElem_cons hl] at m2
      have := (List.cons.inj m2).1
      rw [this]
      have hd' : (tmD r'.tms i).due ≤ r'.now := hd
      rw [hnow] at hd'
      exact hd'
    · exact h3 j (by omega) hl
theorem cnt_is : ∀ (l : List AlD) (T : Int) (n : Nat), Sorted l → n ≤ l.length → (∀ j (_ : j < n) (hl : j < l.length), l[j].due ≤ T) → (∀ (hl : n < l.length), T < l[n].due) → cntD l T = n
  | [], _, n, _, hn, _, _ => by
    have : n = 0 := by simpa using hn
    subst this
    rfl
  | a :: t, T, 0, hs, _, _, h2 => by
    have h0 : T < a.due := h2 (by simp)
    unfold cntD
    rw [List.filter_eq_nil_iff.2 (fun z hz => ?_)]
    · rfl
    · rcases List.mem_cons.1 hz with rfl | hz
      · simp; omega
      · have := (List.pairwise_cons.1 hs).1 z hz
        simp; omega
  | a :: t, T, n + 1, hs, hn, h1, h2 => by
    have h0 : a.due ≤ T := h1 0 (by omega) (by simp)
    have ih := cnt_is t T n (List.pairwise_cons.1 hs).2 (by simpa using hn) (fun j hj hl => by have := h1 (j + 1) (by omega) (by simpa using hl); simpa using this) (fun hl => by have := h2 (by simpa using hl); simpa using this)
    have hc : cntD (a :: t) T = cntD t T + 1 := by
      unfold cntD
      rw [List.filter_cons, if_pos (decide_eq_true h0), List.length_cons]
    rw [hc, ih]
theorem ord_sorted {l : List AlD} (h : l.Pairwise AheadN) : Sorted l := h.imp (fun {a b} h => by unfold AheadN at h; show a.due ≤ b.due; omega)
/-- What Do may answer. -/
def DoR (r : LpD) (x : StepD) (a : AnsD) : Prop :=
  if x.kind = 1 then a = ⟨taskD r x.src x.id, 0, noTurn, againstE r (wrongT x.src)⟩
  else if x.kind = 2 then a = ⟨microD r x.id, 0, noTurn, againstE r false⟩
  else if x.kind = 3 then a = ⟨afterR r x.ms x.level x.id, afterN r x.ms x.level, noTurn, afterE r x.ms x.level⟩
  else if x.kind = 4 then a = ⟨clearD r x.timer, oneD (r.tms.any (isN x.timer)), noTurn, 0⟩
  else if x.kind = 5 then (if r.cls = true then a = ⟨r, 0, noTurn, 15⟩ else ∃ (n : Nat) (E : Int) (r' : LpD), a = ⟨r', n, noTurn, E⟩ ∧ AdvTo r x.ms n E r')
  else if x.kind = 6 then a = ⟨(nextD r x.src).1, 0, (nextD r x.src).2, 0⟩
  else if x.kind = 7 then a = ⟨closedD r, oneD (!r.cls), noTurn, 0⟩
  else a = ⟨r, 0, noTurn, 23⟩
/-- Both answer the same. -/
structure SameA (a b : AnsD) : Prop where
  num : a.num = b.num
  turn : a.turn = b.turn
  why : a.why = b.why
  rel : Rel0 b.st a.st
theorem sameA_after {s r : LpD} (h : Rel0 s r) (ho : OkD s) (ms level id : Int) : SameA ⟨afterR r ms level id, afterN r ms level, noTurn, afterE r ms level⟩ ⟨afterD s ms level id, afterN s ms level, noTurn, afterE s ms level⟩ := by
  have hE : afterE r ms level = afterE s ms level := h.ag _
  have hN : afterN r ms level = afterN s ms level := by unfold afterN; rw [hE, h.giv]
  refine ⟨hN, rfl, hE, ?_⟩
  show Rel0 (afterD s ms level id) (afterR r ms level id)
  unfold afterD afterR
  rw [hE]
  by_cases h0 : afterE s ms level = 0
  · rw [if_pos h0, if_pos h0]
    have hX : afterX r ms level id = afterX s ms level id := by unfold afterX; rw [h.now, h.giv]
    rw [hX]
    obtain ⟨p, q⟩ := cnt_split ho.srt (afterX s ms level id).due
    have hnum : ∀ x ∈ s.tms, x.num ≤ s.giv := fun x hx => by rw [← h.giv]; exact h.num x (h.perm.mem_iff.1 hx)
    have hxn : (afterX s ms level id).num = s.giv + 1 := rfl
    generalize afterX s ms level id = X at *
    refine ⟨h.now, h.mic, h.tks, by show r.giv + 1 = s.giv + 1; rw [h.giv], h.cls, ?_, ?_, ?_, ?_⟩
    · show (s.tms.take _ ++ X :: s.tms.drop _).Perm (r.tms ++ [X])
      refine List.perm_middle.trans ?_
      rw [List.take_append_drop]
      exact (h.perm.cons X).trans (List.perm_append_comm (l₁ := [X]) (l₂ := r.tms))
    · show (s.tms.take _ ++ X :: s.tms.drop _).Pairwise AheadN
      refine List.pairwise_append.2 ⟨h.ord.sublist (List.take_sublist _ _), List.pairwise_cons.2 ⟨fun z hz => .inl (q z hz), h.ord.sublist (List.drop_sublist _ _)⟩, fun a ha b hb => ?_⟩
      have h1 := p a ha
      have h2 := hnum a (List.mem_of_mem_take ha)
      rcases List.mem_cons.1 hb with rfl | hb
      · unfold AheadN
        omega
      · have := q b hb
        exact .inl (by omega)
    · show (r.tms ++ [X]).Pairwise _
      refine List.pairwise_append.2 ⟨h.com, List.pairwise_singleton _ _, fun a ha b hb => ?_⟩
      rw [List.mem_singleton.1 hb]
      have := h.num a ha
      rw [h.giv] at this
      omega
    · intro x hx
      show x.num ≤ r.giv + 1
      rw [h.giv]
      rcases List.mem_append.1 hx with hx | hx
      · have := h.num x hx
        rw [h.giv] at this
        omega
      · rw [List.mem_singleton.1 hx]
        omega
  · rw [if_neg h0, if_neg h0]
    exact h
theorem sameA_clear {s r : LpD} (h : Rel0 s r) (n : Int) : SameA ⟨clearD r n, oneD (r.tms.any (isN n)), noTurn, 0⟩ ⟨clearD s n, oneD (s.tms.any (isN n)), noTurn, 0⟩ := by
  have ha : r.tms.any (isN n) = s.tms.any (isN n) := by
    have h1 : ∀ {l m : List AlD}, l.Perm m → l.any (isN n) = true → m.any (isN n) = true := fun hp hl => by
      obtain ⟨x, hx, e⟩ := List.any_eq_true.1 hl
      exact List.any_eq_true.2 ⟨x, hp.mem_iff.1 hx, e⟩
    cases hr : r.tms.any (isN n) with
    | true => exact (h1 h.perm.symm hr).symm
    | false =>
      cases hs : s.tms.any (isN n) with
      | true => rw [h1 h.perm hs] at hr; cases hr
      | false => rfl
  refine ⟨by rw [ha], rfl, rfl, ?_⟩
  have hd : s.tms.Pairwise (fun a b => isN n a = true → isN n b = true → False) := by
    have hc : r.tms.Pairwise (fun a b => isN n a = true → isN n b = true → False) := h.com.imp (fun {a b} hab h1 h2 => by
      unfold isN at h1 h2
      have := eq_of_beq h1
      have := eq_of_beq h2
      omega)
    exact h.perm.symm.pairwise hc (fun {a b} hab h1 h2 => hab h2 h1)
  exact ⟨h.now, h.mic, h.tks, h.giv, h.cls, List.Perm.eraseP _ hd h.perm, h.ord.sublist List.eraseP_sublist, h.com.sublist List.eraseP_sublist, fun x hx => h.num x (List.eraseP_sublist.subset hx)⟩
theorem sameA_adv {s r : LpD} (h : Rel0 s r) (ho : OkD s) (hc : s.cls = false) (ms : Int) {n : Nat} {E : Int} {r' : LpD} (ha : AdvTo r ms n E r') : SameA ⟨r', n, noTurn, E⟩ ⟨advD s ms, (advN s ms : Nat), noTurn, advE s ms⟩ := by
  unfold AdvTo at ha
  rw [h.now] at ha
  rcases ha with ⟨hb, rfl, rfl, rfl⟩ | ⟨hb, rfl, hS, hO⟩
  · have hE : advE s ms = 2 := by unfold advE; rw [hc, if_neg Bool.false_ne_true, if_pos hb]
    refine ⟨?_, rfl, hE.symm, ?_⟩
    · show ((0 : Nat) : Int) = ((advN s ms : Nat) : Int)
      unfold advN
      rw [hE, if_neg (by decide)]
    · show Rel0 (advD s ms) r'
      unfold advD
      rw [hE, if_neg (by decide)]
      exact h
  · have hE : advE s ms = 0 := by unfold advE; rw [hc, if_neg Bool.false_ne_true, if_neg hb]
    have h0 : Rel0 (onD s ms) { r with now := s.now + ms } := ⟨rfl, h.mic, h.tks, h.giv, h.cls, h.perm, h.ord, h.com, h.num⟩
    obtain ⟨h1, h2, h3⟩ := steps_rel h0 ho.len hS
    have hnow := (steps_len hS).2.1
    have hcn : cntD s.tms (s.now + ms) = n := by
      refine cnt_is s.tms (s.now + ms) n ho.srt h2 h3 (fun hl => ?_)
      rcases hO with hO | ⟨i, hi, hs, hd⟩
      · have := h1.perm.length_eq
        rw [hO, mvN_tms (onD s ms) ho.len] at this
        have e : (onD s ms).tms = s.tms := rfl
        rw [e, List.length_drop] at this
        simp at this
        omega
      · obtain ⟨rest, e, _⟩ := h1.head hi hs
        rw [mvN_tms (onD s ms) ho.len] at e
        have e2 : (onD s ms).tms = s.tms := rfl
        rw [e2, List.drop_eq_getElem_cons hl] at e
        rw [(List.cons.inj e).1]
        have hd' : r'.now < (tmD r'.tms i).due := hd
        rw [hnow] at hd'
        exact hd'
    refine ⟨?_, rfl, hE.symm, ?_⟩
    · show ((n : Nat) : Int) = ((advN s ms : Nat) : Int)
      unfold advN
      rw [hE, if_pos rfl, hcn]
    · show Rel0 (advD s ms) r'
      unfold advD
      rw [hE, if_pos rfl, hcn]
      exact h1
theorem same_do {s r : LpD} (h : RelR s r) (x : StepD) {a : AnsD} (ha : DoR r x a) : SameA a (doD s x) := by
  have h0 := h.rel
  unfold DoR at ha
  unfold doD
  by_cases k1 : x.kind = 1
  · rw [if_pos k1] at ha ⊢
    subst ha
    refine ⟨rfl, rfl, h0.ag _, ?_⟩
    show Rel0 (taskD s x.src x.id) (taskD r x.src x.id)
    unfold taskD
    rw [h0.ag]
    split
    · rw [h0.q]
      exact h0.set _ _
    · exact h0
  rw [if_neg k1] at ha ⊢
  by_cases k2 : x.kind = 2
  · rw [if_pos k2] at ha ⊢
    subst ha
    refine ⟨rfl, rfl, h0.ag _, ?_⟩
    show Rel0 (microD s x.id) (microD r x.id)
    unfold microD
    rw [h0.ag]
    split
    · rw [h0.mic]
      exact h0.set _ _
    · exact h0
  rw [if_neg k2] at ha ⊢
  by_cases k3 : x.kind = 3
  · rw [if_pos k3] at ha ⊢
    subst ha
    exact sameA_after h0 h.ok _ _ _
  rw [if_neg k3] at ha ⊢
  by_cases k4 : x.kind = 4
  · rw [if_pos k4] at ha ⊢
    subst ha
    exact sameA_clear h0 _
  rw [if_neg k4] at ha ⊢
  by_cases k5 : x.kind = 5
  · rw [if_pos k5] at ha ⊢
    by_cases hc : s.cls = true
    · rw [h0.cls, if_pos hc] at ha
      subst ha
      have hE : advE s x.ms = 15 := by unfold advE; rw [if_pos hc]
      refine ⟨?_, rfl, hE.symm, ?_⟩
      · show (0 : Int) = ((advN s x.ms : Nat) : Int)
        unfold advN
        rw [hE, if_neg (by decide)]
        rfl
      · show Rel0 (advD s x.ms) r
        unfold advD
        rw [hE, if_neg (by decide)]
        exact h0
    · rw [h0.cls, if_neg hc] at ha
      obtain ⟨n, E, r', rfl, hA⟩ := ha
      exact sameA_adv h0 h.ok (by simpa using hc) x.ms hA
  rw [if_neg k5] at ha ⊢
  by_cases k6 : x.kind = 6
  · rw [if_pos k6] at ha ⊢
    subst ha
    obtain ⟨e1, e2⟩ := h0.next x.src
    exact ⟨rfl, e1, rfl, e2⟩
  rw [if_neg k6] at ha ⊢
  by_cases k7 : x.kind = 7
  · rw [if_pos k7] at ha ⊢
    subst ha
    have hcl : closeD s = closedD s := by
      unfold closeD
      split
      · rename_i hc
        exact h.emp hc
      · rfl
    refine ⟨by show oneD (!r.cls) = _; rw [h0.cls], rfl, rfl, ?_⟩
    show Rel0 (closeD s) (closedD r)
    rw [hcl]
    exact ⟨h0.now, rfl, rfl, h0.giv, rfl, List.Perm.nil, List.Pairwise.nil, List.Pairwise.nil, fun x hx => by cases hx⟩
  · rw [if_neg k7] at ha ⊢
    subst ha
    exact ⟨rfl, rfl, rfl, h0⟩
theorem relR_do {s r : LpD} (h : RelR s r) (x : StepD) {a : AnsD} (ha : DoR r x a) : RelR (doD s x).st a.st := ⟨(same_do h x ha).rel, ok_do h.ok x, emp_do h.ok h.emp x⟩
end Go.Proofs.Ytaliecmdkloceaa
