/- listen, plain: what Add answers is right; what was added is found, and taken away again. -/
import Derived.Test.YtgelclbjbjpacaaLnL
import Derived.Test.YtgelclbjbjpacaaLnM
namespace Go.Proofs.Ytgelclbjbjpacaa
open Go.RowKit Go.Lib Go.Shelf

theorem good_ids (next : Int) : ∀ (l : List LstD) (last : Int) (seen : List LstD), goodD next last seen l = true → ∀ y ∈ l, last < y.id ∧ y.id < next
  | [], _, _, _, _, h => by cases h
  | x :: r, last, seen, hg, y, hy => by
    simp only [goodD, Bool.and_eq_true, decide_eq_true_eq] at hg
    rcases List.mem_cons.1 hy with rfl | hy
    · exact ⟨hg.1, hg.2.1⟩
    · have := good_ids next r x.id (seen ++ [x]) hg.2.2.2.2 y hy
      exact ⟨by omega, this.2⟩
theorem good_snoc (next m : Int) (x : LstD) (hm : next ≤ m) (hx : x.id < m) (hf : fairD x = true) : ∀ (l : List LstD) (last : Int) (seen : List LstD), goodD next last seen l = true → last < x.id → (∀ y ∈ l, y.id < x.id) → (∀ y ∈ seen ++ l, markEq x y = false) → goodD m last seen (l ++ [x]) = true
  | [], last, seen, _, hl, _, hn => by
    rw [List.nil_append, goodD, goodD, decide_eq_true hl, decide_eq_true hx, hf]
    have : seen.any (markEq x) = false := by
      rw [List.any_eq_false]
      intro y hy
      rw [hn y (by simpa using hy)]
      exact Bool.false_ne_true
    rw [this]
    rfl
  | z :: r, last, seen, hg, hl, hi, hn => by
    simp only [goodD, Bool.and_eq_true, decide_eq_true_eq] at hg
    obtain ⟨g1, g2, g3, g4, g5⟩ := hg
    have ih := good_snoc next m x hm hx hf r z.id (seen ++ [z]) g5 (hi z (List.mem_cons_self ..)) (fun y hy => hi y (List.mem_cons_of_mem _ hy)) (fun y hy => hn y (by simpa using hy))
    rw [List.cons_append, goodD, decide_eq_true g1, decide_eq_true (by omega : z.id < m), g3, g4, ih]
    rfl
theorem markEq_comm (x y : LstD) : markEq x y = markEq y x := by
  rw [Bool.eq_iff_iff]
  simp only [markEq, Bool.and_eq_true, beq_iff_eq]
  constructor
  · rintro ⟨a, b, c, d⟩; exact ⟨a.symm, b.symm, c.symm, d.symm⟩
  · rintro ⟨a, b, c, d⟩; exact ⟨a.symm, b.symm, c.symm, d.symm⟩
theorem markEq_with (z x : LstD) (i : Int) (p : Nat) : markEq z { x with id := i, pas := p } = markEq z x := rfl
theorem markEq_self (x : LstD) : markEq x x = true := by simp [markEq]
theorem check_parts {ls : List LstD} {next : Int} (h : checkD ls next = true) : (ls = [] ∧ next = 0) ∨ (1 ≤ next ∧ next ≤ 1099511627776 ∧ ls.length ≤ 1024 ∧ goodD next 0 [] ls = true) := by
  unfold checkD at h
  simp only [Bool.or_eq_true, Bool.and_eq_true, decide_eq_true_eq, beq_iff_eq, List.isEmpty_iff] at h
  rcases h with h | ⟨⟨h1, h2⟩, h3, h4⟩
  · exact .inl h
  · exact .inr ⟨h1, h2, h3, h4⟩
/-- The next Id. -/
def idD (next : Int) : Int := if next < 1 then 1 else next
theorem refused_parts {x : LstD} (h : refusedD x = 0) : x.kind.size ≤ 1024 ∧ 1 ≤ x.node ∧ x.pas < 3 := by
  unfold refusedD at h
  by_cases h1 : 1024 < x.kind.size
  · rw [decide_eq_true h1, if_pos rfl] at h; omega
  · rw [decide_eq_false h1, if_neg Bool.false_ne_true] at h
    by_cases h2 : x.node < 1
    · rw [decide_eq_true h2, Bool.true_or, if_pos rfl] at h; omega
    · by_cases h3 : 3 ≤ x.pas
      · rw [decide_eq_true h3, Bool.or_true, if_pos rfl] at h; omega
      · exact ⟨by omega, by omega, by omega⟩
theorem or_parts {ls : List LstD} {next : Int} {x : LstD} (h : orD (errC (checkD ls next)) (refusedD x) = 0) : checkD ls next = true ∧ refusedD x = 0 := by
  unfold orD at h
  cases hc : checkD ls next with
  | true => rw [hc] at h; exact ⟨rfl, h⟩
  | false =>
    rw [hc] at h
    replace h : (2 : Int) = 0 := h
    omega
/-- What Passive becomes. -/
def pasD (x : LstD) (root : Bool) : Nat := if (x.pas == 0) = true then passD x.kind root else x.pas
theorem passD_two (k : ByteArray) (r : Bool) : passD k r = 1 ∨ passD k r = 2 := by
  unfold passD
  split
  · exact .inl rfl
  · exact .inr rfl
theorem ids_below {ls : List LstD} {next : Int} (h : checkD ls next = true) : ∀ y ∈ ls, y.id < idD next := fun y hy => by
  rcases check_parts h with ⟨rfl, _⟩ | ⟨h1, _, _, h4⟩
  · cases hy
  · unfold idD
    rw [if_neg (by omega)]
    exact (good_ids next ls 0 [] h4 y hy).2
theorem more_right {ls : List LstD} {next : Int} {x : LstD} (root : Bool) (h : checkD ls next = true) (hr : refusedD x = 0) (hz : (x.cb == 0) = false) (hs : ls.any (fun z => markEq z x) = false) (hf : ((ls.length : Int) == 1024) = false) (hf2 : (next == 1099511627776) = false) :
    checkD (ls ++ [{ x with id := idD next, pas := pasD x root }]) (idD next + 1) = true := by
  obtain ⟨r1, r2, r3⟩ := refused_parts hr
  have hne : ls.length ≠ 1024 := by intro e; rw [e] at hf; exact absurd hf (by decide)
  have hn2 : next ≠ 1099511627776 := by intro e; rw [e] at hf2; exact absurd hf2 (by decide)
  have hp : pasD x root = 1 ∨ pasD x root = 2 := by
    unfold pasD
    split
    · exact passD_two _ _
    · rename_i h0
      have : x.pas ≠ 0 := fun e => h0 (by rw [e]; rfl)
      omega
  have hcb : x.cb ≠ 0 := beq_eq_false_iff_ne.1 hz
  have hfair : fairD { x with id := idD next, pas := pasD x root } = true := by
    unfold fairD
    have h1 : (pasD x root == 1 || pasD x root == 2) = true := by rcases hp with e | e <;> rw [e] <;> rfl
    simp only [h1, decide_eq_true r2, decide_eq_true r1, bne_iff_ne.2 hcb, Bool.and_self]
  have hno : ∀ y ∈ ([] : List LstD) ++ ls, markEq { x with id := idD next, pas := pasD x root } y = false := fun y hy => by
    rw [markEq_comm, markEq_with]
    exact Bool.eq_false_iff.2 (fun e => (List.any_eq_false.1 hs) y (by simpa using hy) e)
  have hlen : (ls ++ [{ x with id := idD next, pas := pasD x root }]).length = ls.length + 1 := by simp
  have key : 1 ≤ idD next ∧ idD next + 1 ≤ 1099511627776 ∧ ls.length + 1 ≤ 1024 ∧ goodD (idD next + 1) 0 [] (ls ++ [{ x with id := idD next, pas := pasD x root }]) = true := by
    rcases check_parts h with ⟨rfl, rfl⟩ | ⟨h1, h2, h3, h4⟩
    · refine ⟨by decide, by decide, by simp, good_snoc 1 (idD 0 + 1) _ (by decide) (by show idD 0 < idD 0 + 1; decide) hfair [] 0 [] rfl (by show 0 < idD 0; decide) (fun y hy => by cases hy) hno⟩
    · have hid : idD next = next := by unfold idD; rw [if_neg (by omega)]
      rw [hid] at hfair hno ⊢
      exact ⟨h1, by omega, by omega, good_snoc next (next + 1) _ (by omega) (by show next < next + 1; omega) hfair ls 0 [] h4 (by show 0 < next; omega) (fun y hy => (good_ids next ls 0 [] h4 y hy).2) hno⟩
  unfold checkD
  rw [hlen, decide_eq_true (by omega : 1 ≤ idD next + 1), decide_eq_true key.2.1, decide_eq_true key.2.2.1, key.2.2.2]
  simp
theorem any_snoc {ls : List LstD} {x : LstD} (i : Int) (p : Nat) : (ls ++ [{ x with id := i, pas := p }]).any (fun z => markEq z x) = true := by
  rw [List.any_append]
  have : markEq { x with id := i, pas := p } x = true := by rw [markEq_comm]; exact markEq_self x
  simp [this]
theorem first_snoc {ls : List LstD} {x y : LstD} (hs : ls.any (fun z => markEq z y) = false) (hx : markEq x y = true) : ∀ (k : Int), firstL (fun z => markEq z y) (ls ++ [x]) k = k + ls.length := by
  induction ls with
  | nil => intro k; rw [List.nil_append, firstL, if_pos hx]; simp
  | cons z r ih =>
    intro k
    rw [List.any_cons, Bool.or_eq_false_iff] at hs
    rw [List.cons_append, firstL, if_neg (by rw [hs.1]; exact Bool.false_ne_true), ih hs.2, List.length_cons]
    push_cast
    omega
theorem filter_snoc {ls : List LstD} {x y : LstD} (hs : ls.any (fun z => markEq z y) = false) (hx : markEq x y = true) : (ls ++ [x]).filter (fun z => !markEq z y) = ls := by
  rw [List.filter_append, List.filter_eq_self.2 (fun z hz => by
    have := (List.any_eq_false.1 hs) z hz
    simp only [Bool.not_eq_true] at this
    rw [this]
    rfl)]
  simp [hx]
theorem wf_with {x : LstD} (h : WfL x) (i : Int) (p : Nat) : WfL { x with id := i, pas := p } := ⟨h.node, h.cb, h.kind⟩
theorem wf_snoc {ls : List LstD} {x : LstD} (hw : ∀ y ∈ ls, WfL y) (hx : WfL x) : ∀ y ∈ ls ++ [x], WfL y := fun y hy => by
  rcases List.mem_append.1 hy with h | h
  · exact hw y h
  · rw [List.mem_singleton.1 h]; exact hx
/-- Add, where nothing is added. -/
theorem add_same_any (v : Value) (ls : List LstD) (next : Int) (x : LstD) (root aborted : Bool) (w : World) (hr : RdL w v ls) (hw : ∀ x ∈ ls, WfL x) (hl : ls.length ≤ 1099511627775) (he : orD (errC (checkD ls next)) (refusedD x) = 0) (hs : (aborted || (x.cb == 0 || ls.any (fun z => markEq z x))) = true) :
    Calls Try.prog 8 #[.agg #[v, .int .i64 next], lstV x, .bool root, .bool aborted] w fun e w' => ∃ o c, e = .returned (.tuple #[.agg #[.slice o ls.length c, .int .i64 next], .int .i64 0, .int .i64 0]) ∧ w'.ownsRow w.heap.size 27 8 (.slice o ls.length c) ls.length (rowL ls) ∧ Below w.heap.size w w' := by
  cases ha : aborted with
  | true => exact add_aborted v ls next x root true w hr hw hl he rfl
  | false =>
    rw [ha, Bool.false_or] at hs
    cases hz : (x.cb == 0) with
    | true => exact add_cb v ls next x root false w hr hw hl he rfl hz
    | false =>
      rw [hz, Bool.false_or] at hs
      exact add_like v ls next x root false w hr hw hl he rfl hz hs
/-- Add, where one is added. -/
theorem add_more_any (v : Value) (ls : List LstD) (next : Int) (x : LstD) (root : Bool) (w : World) (hr : RdL w v ls) (hw : ∀ x ∈ ls, WfL x) (hl : ls.length ≤ 1099511627775) (he : orD (errC (checkD ls next)) (refusedD x) = 0) (hz : (x.cb == 0) = false) (hs : ls.any (fun z => markEq z x) = false) (hf : ((ls.length : Int) == 1024) = false) (hf2 : (next == 1099511627776) = false) :
    Calls Try.prog 8 #[.agg #[v, .int .i64 next], lstV x, .bool root, .bool false] w fun e w' => ∃ o c, e = .returned (.tuple #[.agg #[.slice o (ls ++ [{ x with id := idD next, pas := pasD x root }]).length c, .int .i64 (idD next + 1)], .int .i64 (idD next), .int .i64 0]) ∧ w'.ownsRow w.heap.size 27 8 (.slice o (ls ++ [{ x with id := idD next, pas := pasD x root }]).length c) (ls ++ [{ x with id := idD next, pas := pasD x root }]).length (rowL (ls ++ [{ x with id := idD next, pas := pasD x root }])) ∧ Below w.heap.size w w' := by
  have hn2 : next < 1099511627776 := by
    have hn : next ≠ 1099511627776 := beq_eq_false_iff_ne.1 hf2
    rcases check_parts (or_parts he).1 with ⟨_, h⟩ | ⟨_, h, _⟩ <;> omega
  by_cases hx : next < 1
  · have hid : idD next = 1 := if_pos hx
    rw [hid]
    cases h0 : (x.pas == 0) with
    | true =>
      have hp : pasD x root = passD x.kind root := if_pos h0
      rw [hp]
      exact add_more0l v ls next x root false w hr hw hl he rfl hz hs hf hf2 hn2 h0 hx
    | false =>
      have hp : pasD x root = x.pas := if_neg (by rw [h0]; exact Bool.false_ne_true)
      rw [hp]
      exact add_more1l v ls next x root false w hr hw hl he rfl hz hs hf hf2 hn2 h0 hx
  · have hid : idD next = next := if_neg hx
    rw [hid]
    cases h0 : (x.pas == 0) with
    | true =>
      have hp : pasD x root = passD x.kind root := if_pos h0
      rw [hp]
      exact add_more0h v ls next x root false w hr hw hl he rfl hz hs hf hf2 hn2 h0 hx
    | false =>
      have hp : pasD x root = x.pas := if_neg (by rw [h0]; exact Bool.false_ne_true)
      rw [hp]
      exact add_more1h v ls next x root false w hr hw hl he rfl hz hs hf hf2 hn2 h0 hx
end Go.Proofs.Ytgelclbjbjpacaa
