/- The law ListenAdds: every listener is added, refused, or there already, as the document says. -/
import Derived.Test.YtgelclbjbjpacaaLnQ
import Derived.Test.YtgelclbjbjpacaaLnAG
import Derived.Test.YtgelclbjbjpacaaLnAI
import Derived.Test.YtgelclbjbjpacaaLnAJ
namespace Go.Proofs.Ytgelclbjbjpacaa
open Go.RowKit Go.Lib Go.Shelf

theorem any_turned (ls : List LstD) (x : LstD) : ls.any (markEq x) = ls.any (fun z => markEq z x) := by
  congr 1
  exact funext fun z => markEq_comm x z
/-- What is refused ahead. -/
theorem refAdd_err (v : Value) (ls : List LstD) (next : Int) (x : LstD) (root aborted : Bool) (w : World) (hr : RdL w v ls) (hl : ls.length ≤ 1099511627775) (he : (orD (errC (checkD ls next)) (refusedD x) != 0) = true) :
    Calls Try.prog 9 #[.agg #[v, .int .i64 next], lstV x, .bool root, .bool aborted] w fun e w' => e = .returned (.tuple #[.agg #[.slice none 0 0, .int .i64 0], .int .i64 0, .int .i64 (orD (errC (checkD ls next)) (refusedD x))]) ∧ Below w.heap.size w w' := by
  cases hc : checkD ls next with
  | false => exact refAdd_bad v ls next x root aborted w hr hl hc
  | true =>
    rw [hc] at he
    have e0 : orD (errC true) (refusedD x) = refusedD x := rfl
    rw [e0] at he ⊢
    have e1 : decide (((x.kind.size : Nat) : Int) > 1024) = decide (1024 < x.kind.size) := by rw [decide_eq_decide]; omega
    have e3 : decide ((x.pas : Int) ≥ 3) = decide (3 ≤ x.pas) := by rw [decide_eq_decide]; omega
    cases h1 : decide (1024 < x.kind.size) with
    | true =>
      have : refusedD x = 4 := by unfold refusedD; rw [h1]; rfl
      rw [this]
      exact refAdd_long v ls next x root aborted w hr hl hc (by rw [e1]; exact h1)
    | false =>
      cases h2 : decide (x.node < 1) with
      | true =>
        have : refusedD x = 2 := by unfold refusedD; rw [h1, h2]; rfl
        rw [this]
        exact refAdd_node v ls next x root aborted w hr hl hc (by rw [e1]; exact h1) h2
      | false =>
        cases h3 : decide (3 ≤ x.pas) with
        | true =>
          have : refusedD x = 2 := by unfold refusedD; rw [h1, h2, h3]; rfl
          rw [this]
          exact refAdd_pas v ls next x root aborted w hr hl hc (by rw [e1]; exact h1) h2 (by rw [e3]; exact h3)
        | false =>
          have : refusedD x = 0 := by unfold refusedD; rw [h1, h2, h3]; rfl
          rw [this] at he
          exact absurd he (by decide)
theorem fair_facts {x : LstD} (h : refusedD x = 0) : decide (((x.kind.size : Nat) : Int) > 1024) = false ∧ decide (x.node < 1) = false ∧ decide ((x.pas : Int) ≥ 3) = false := by
  obtain ⟨h1, h2, h3⟩ := refused_parts h
  exact ⟨decide_eq_false (by omega), decide_eq_false (by omega), decide_eq_false (by omega)⟩
theorem refAdd_same (v : Value) (ls : List LstD) (next : Int) (x : LstD) (root aborted : Bool) (w : World) (hr : RdL w v ls) (hl : ls.length ≤ 1099511627775) (hc : checkD ls next = true) (hf : refusedD x = 0) (hs : (aborted || (x.cb == 0 || ls.any (fun z => markEq z x))) = true) :
    Calls Try.prog 9 #[.agg #[v, .int .i64 next], lstV x, .bool root, .bool aborted] w fun e w' => ∃ o c, e = .returned (.tuple #[.agg #[.slice o ls.length c, .int .i64 (idD next)], .int .i64 0, .int .i64 0]) ∧ w'.ownsRow w.heap.size 27 8 (.slice o ls.length c) ls.length (rowL ls) ∧ Below w.heap.size w w' := by
  obtain ⟨h1, h2, h3⟩ := fair_facts hf
  cases ha : aborted with
  | true => exact refAdd_aborted v ls next x root true w hr hl hc h1 h2 h3 rfl
  | false =>
    rw [ha, Bool.false_or] at hs
    cases hz : (x.cb == 0) with
    | true => exact refAdd_cb v ls next x root false w hr hl hc h1 h2 h3 rfl hz
    | false =>
      rw [hz, Bool.false_or, ← any_turned] at hs
      exact refAdd_like v ls next x root false w hr hl hc h1 h2 h3 rfl hz hs
theorem listenAdds_law (v : Value) (ls : List LstD) (next : Int) (x : LstD) (root aborted : Bool) (w : World) (hr : RdL w v ls) (hw : ∀ y ∈ ls, WfL y) (hl : ls.length ≤ 1048576) (_hx : WfL x) :
    Calls Try.prog 3 #[.agg #[v, .int .i64 next], lstV x, .bool root, .bool aborted] w fun e w' => e = .returned (.bool true) ∧ Below w.heap.size w w' := by
  have hnil : ∀ V : World, RdL V (.slice none 0 0) [] := fun V => ⟨none, 0, rfl, Nat.le_refl _, fun h => absurd h (Nat.lt_irrefl _)⟩
  have h00 : ∀ (V : World) (v1 v2 : Value), RdL V v1 [] → RdL V v2 [] → Calls Try.prog 11 #[.agg #[v1, .int .i64 0], .agg #[v2, .int .i64 0]] V fun e w' => e = .returned (.bool true) ∧ Below V.heap.size V w' := fun V v1 v2 h1 h2 => same_eq v1 v2 [] 0 V h1 h2 (by simp)
  cases he : (orD (errC (checkD ls next)) (refusedD x) != 0) with
  | true =>
    exact adds_walk v ls next x root aborted w hr hw hl [] 0 0 0 (orD (errC (checkD ls next)) (refusedD x)) (fun V va hV => (add_err va ls next x root aborted V hV hw (by omega) he).mono (by rintro e w' ⟨rfl, hb⟩; exact ⟨none, 0, rfl, hnil _, hb⟩)) (fun V va hV => (refAdd_err va ls next x root aborted V hV (by omega) he).mono (by rintro e w' ⟨rfl, hb⟩; exact ⟨none, 0, rfl, hnil _, hb⟩)) h00
  | false =>
    have he0 : orD (errC (checkD ls next)) (refusedD x) = 0 := by simpa using he
    obtain ⟨hc, hf⟩ := or_parts he0
    obtain ⟨h1, h2, h3⟩ := fair_facts hf
    cases hs : (aborted || (x.cb == 0 || ls.any (fun z => markEq z x))) with
    | true =>
      refine adds_walk v ls next x root aborted w hr hw hl ls next (idD next) 0 0 (fun V va hV => (add_same_any va ls next x root aborted V hV hw (by omega) he0 hs).mono (by rintro e w' ⟨o, c, rfl, ho, hb⟩; exact ⟨o, c, rfl, own_rdL ho, hb⟩)) (fun V va hV => (refAdd_same va ls next x root aborted V hV (by omega) hc hf hs).mono (by rintro e w' ⟨o, c, rfl, ho, hb⟩; exact ⟨o, c, rfl, own_rdL ho, hb⟩)) ?_
      intro V v1 v2 g1 g2
      rcases check_parts hc with ⟨rfl, rfl⟩ | ⟨hn, _, _, _⟩
      · exact same_zero v1 v2 V g1 g2
      · have : idD next = next := by unfold idD; rw [if_neg (by omega)]
        rw [this]
        exact same_eq v1 v2 ls next V g1 g2 (by omega)
    | false =>
      simp only [Bool.or_eq_false_iff] at hs
      obtain ⟨rfl, hz, hs⟩ := hs
      have hs2 := (any_turned ls x).trans hs
      have hlen : ls.length ≤ 1024 ∧ next ≤ 1099511627776 ∧ (next < 1 → next = 0) := by
        rcases check_parts hc with ⟨rfl, rfl⟩ | ⟨h, h', h'', _⟩
        · exact ⟨by simp, by decide, fun _ => rfl⟩
        · exact ⟨h'', h', fun _ => by omega⟩
      have hid1 : next = 1099511627776 → idD next = 1099511627776 := fun h => by rw [h]; rfl
      have hid2 : next ≠ 1099511627776 → idD next < 1099511627776 := fun h => by unfold idD; split <;> omega
      by_cases hfl : ls.length = 1024 ∨ next = 1099511627776
      · have f1 : ((ls.length : Int) == 1024) = true ∨ ((ls.length : Int) == 1024) = false ∧ (next == 1099511627776) = true := by
          by_cases q : ls.length = 1024
          · exact .inl (beq_iff_eq.2 (by omega))
          · exact .inr ⟨beq_eq_false_iff_ne.2 (by omega), beq_iff_eq.2 (by omega)⟩
        have f2 : decide ((ls.length : Int) ≥ 1024) = true ∨ decide ((ls.length : Int) ≥ 1024) = false ∧ decide (idD next ≥ 1099511627776) = true := by
          by_cases q : ls.length = 1024
          · exact .inl (decide_eq_true (by omega))
          · have := hid1 (by omega)
            exact .inr ⟨decide_eq_false (by omega), decide_eq_true (by omega)⟩
        exact adds_walk v ls next x root false w hr hw hl [] 0 0 0 3 (fun V va hV => (add_full va ls next x root false V hV hw (by omega) he0 rfl hz hs f1).mono (by rintro e w' ⟨rfl, hb⟩; exact ⟨none, 0, rfl, hnil _, hb⟩)) (fun V va hV => (refAdd_full va ls next x root false V hV (by omega) hc h1 h2 h3 rfl hz hs2 f2).mono (by rintro e w' ⟨rfl, hb⟩; exact ⟨none, 0, rfl, hnil _, hb⟩)) h00
      · have f1 : ((ls.length : Int) == 1024) = false := beq_eq_false_iff_ne.2 (by omega)
        have f2 : (next == 1099511627776) = false := beq_eq_false_iff_ne.2 (by omega)
        have f3 : decide ((ls.length : Int) ≥ 1024) = false := decide_eq_false (by omega)
        have f4 : decide (idD next ≥ 1099511627776) = false := decide_eq_false (by have := hid2 (by omega); omega)
        refine adds_walk v ls next x root false w hr hw hl (ls ++ [{ x with id := idD next, pas := pasD x root }]) (idD next + 1) (idD next + 1) (idD next) 0 (fun V va hV => (add_more_any va ls next x root V hV hw (by omega) he0 hz hs f1 f2).mono (by rintro e w' ⟨o, c, rfl, ho, hb⟩; exact ⟨o, c, rfl, own_rdL ho, hb⟩)) (fun V va hV => ?_) (fun V v1 v2 g1 g2 => same_eq v1 v2 _ _ V g1 g2 (by simp; omega))
        cases h0 : (x.pas == 0) with
        | true =>
          have hp : pasD x root = passD x.kind root := if_pos h0
          rw [hp]
          exact (refAdd_more0 va ls next x root false V hV (by omega) hc h1 h2 h3 rfl hz hs2 f3 f4 (by rw [← h0, Bool.eq_iff_iff]; simp)).mono (by rintro e w' ⟨o, c, rfl, ho, hb⟩; exact ⟨o, c, rfl, own_rdL ho, hb⟩)
        | false =>
          have hp : pasD x root = x.pas := if_neg (by rw [h0]; exact Bool.false_ne_true)
          rw [hp]
          exact (refAdd_more1 va ls next x root false V hV (by omega) hc h1 h2 h3 rfl hz hs2 f3 f4 (by rw [← h0, Bool.eq_iff_iff]; simp)).mono (by rintro e w' ⟨o, c, rfl, ho, hb⟩; exact ⟨o, c, rfl, own_rdL ho, hb⟩)
end Go.Proofs.Ytgelclbjbjpacaa
