/- A name (three texts) that is handed in by value: opened, shut, its sizes. -/
import Derived.Test.YtipkdbhdpmkjcabDoorProg
import Derived.ProofKit
import Derived.SizedLaws
import Derived.Lib.SmallJoins
import Derived.Lib.TrimUEq
namespace Go.Proofs.YtipkdbhdpmkjcabDoor
open Go.RowKit Go.Lib Go.ChangeShapes Go.WideShapes Go.ChangeAt Go.Joins

section
variable {H : Type} {enc : TypeId × Value → H} {w : World} {base : Nat} {sp : Nat → Bool} {held : Bool}

theorem cells_name : Tryd.prog.cellsOf 26 = 3 := by kernel_rfl

theorem open_name {r : Reach} {b0 : Nat} {v : Value} {d : DataW H} {p : List MemPlace} (hv : Value.okWide Tryd.prog w r b0 26 v) (h : DataW.Trod enc Tryd.prog w base sp held 26 v d p) :
    ∃ a q l : ByteArray, ∃ (_ : a.size ≤ maxLen) (_ : q.size ≤ maxLen) (_ : l.size ≤ maxLen), v = .agg #[.string a, .string q, .string l] ∧ d = .agg [.lit (.string a.data.toList), .lit (.string q.data.toList), .lit (.string l.data.toList)] ∧ p = [] := by
  obtain ⟨c0, c1, c2, y0, y1, y2, m, rfl, rfl, rfl, h0, h1, h2⟩ := open_agg3 Tryd.underlying26 (by kernel_rfl) cells_name hv h
  obtain ⟨a, e0, rfl, wa⟩ := DataW.trod_string Tryd.underlying9 h0
  obtain ⟨q, e1, rfl, wq⟩ := DataW.trod_string Tryd.underlying9 h1
  obtain ⟨l, e2, rfl, wl⟩ := DataW.trod_string Tryd.underlying9 h2
  simp at e0 e1 e2
  subst e0 e1 e2
  exact ⟨a, q, l, wa, wq, wl, rfl, rfl, rfl⟩

theorem shut_name {a q l : ByteArray} (wa : a.size ≤ maxLen) (wq : q.size ≤ maxLen) (wl : l.size ≤ maxLen) :
    DataW.Trod enc Tryd.prog w base sp held 26 (.agg #[.string a, .string q, .string l]) (.agg [.lit (.string a.data.toList), .lit (.string q.data.toList), .lit (.string l.data.toList)]) [] :=
  shut_agg3 (y0 := (.lit (.string a.data.toList), [])) (y1 := (.lit (.string q.data.toList), [])) (y2 := (.lit (.string l.data.toList), [])) Tryd.underlying26 (by kernel_rfl) cells_name
    ⟨1, by simp [DataW.trod, Tryd.underlying9, wa]⟩ ⟨1, by simp [DataW.trod, Tryd.underlying9, wq]⟩ ⟨1, by simp [DataW.trod, Tryd.underlying9, wl]⟩

theorem sized_name {ts : List TypeId} {ds : List (DataW H)} (h : (DataW.weightsEach Tryd.prog ts ds).all (· ≤ reachBytes) = true) {j : Nat} {a q l : ByteArray} (ht : ts[j]? = some 26)
    (hd : ds[j]? = some (.agg [.lit (.string a.data.toList), .lit (.string q.data.toList), .lit (.string l.data.toList)])) : a.size ≤ 140737488351232 ∧ q.size ≤ 140737488351232 ∧ l.size ≤ 140737488351232 := by
  have hw : ∀ x, x ∈ DataW.weights Tryd.prog 26 (.agg [.lit (.string a.data.toList), .lit (.string q.data.toList), .lit (.string l.data.toList)] : DataW H) → x ≤ reachBytes := fun x hx => by
    have := List.all_eq_true.1 h _ (DataW.weights_mem_each ht hd x hx)
    simpa using this
  have e : reachBytes = 140737488351232 := by decide
  rw [e] at hw
  rw [Lib.size_eq, Lib.size_eq, Lib.size_eq]
  refine ⟨hw _ ?_, hw _ ?_, hw _ ?_⟩
  all_goals simp [DataW.weights, DataW.weightsEach]
end
end Go.Proofs.YtipkdbhdpmkjcabDoor
