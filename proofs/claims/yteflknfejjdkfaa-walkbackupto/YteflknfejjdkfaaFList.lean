/- What lies in a node, in tree order (listOf, whose inner function calls itself). -/
import Derived.Test.YteflknfejjdkfaaFFork
import Derived.Test.YteflknfejjdkfaaFBelow
import Derived.Test.YteflknfejjdkfaaFColl
namespace Go.Proofs.Yteflknfejjdkfaa
open Go.RowKit Go.Lib Go.Shelf

theorem boxed_later {W V : World} {B : Nat} {t : TypeId} {v : Value} (h : Boxed W B t v) (hb : Below W.heap.size W V) : Boxed V B t v := (hb.block B h.lt).trans h
theorem boxed_beside {W w1 : World} {n₀ B B' : Nat} {t' e : TypeId} {size : Nat} {v v' u : Value} {k : Nat} {xs : List Value} {tmp : Obj} (hu : Boxed W B' t' u) (hte : t' ≠ e) (hne : B' ≠ B) (hrow : W.ownsRow n₀ e size v k xs) (hgrow : (W.alloc tmp).grownBy w1 v.ownBlock) : Boxed (w1.setCell ⟨B, 0, none⟩ v') B' t' u :=
  ((hu.alloc tmp).kept hgrow (hu.not_row hte hrow)).other hne v'
theorem ownsRow_later {W V : World} {base : Nat} {e : TypeId} {size : Nat} {v : Value} {k : Nat} {xs : List Value} (h : W.ownsRow base e size v k xs) (hb : Below W.heap.size W V) : V.ownsRow base e size v k xs := by
  refine h.kept (grown_of_below hb) ?_
  rcases h.2 with ⟨rfl, _⟩ | ⟨g, cap, cur, rfl, _⟩
  · exact .inl rfl
  · exact .inr (by simp [Value.ownBlock])
theorem ownsRow_rdI {W : World} {base : Nat} {e : TypeId} {v : Value} {l : List Int} (h : W.ownsRow base e 1 v l.length (l.map (Value.int .i64))) : RdI W v l := by
  obtain ⟨_, ⟨rfl, h0⟩ | ⟨g, cp, cur, rfl, hg, hh, hnc, hcm, hcs, htk⟩⟩ := h
  · exact ⟨none, 0, by rw [h0], by omega, fun hp => absurd hp (by omega)⟩
  · refine ⟨_, cp, rfl, hnc, fun _ => ⟨g, 0, rfl, (Array.getElem?_eq_some_iff.1 hh).1, fun j hj => ?_⟩⟩
    rw [cell_of_heap hh, Nat.zero_add]
    have h1 : (cur.toList.take (l.length * 1))[j]? = some (.int .i64 l[j]) := by
      rw [htk, List.getElem?_map, List.getElem?_eq_getElem hj]
      rfl
    rw [List.getElem?_take] at h1
    split at h1
    · simpa using h1
    · cases h1

/-- The list that grows. -/
def ListBox (W : World) (base bl : Nat) (l : List Int) : Prop := ∃ v, Boxed W bl 40 v ∧ W.ownsRow base 3 1 v l.length (l.map (Value.int .i64))
theorem ListBox.later {W V : World} {base bl : Nat} {l : List Int} (h : ListBox W base bl l) (hb : Below W.heap.size W V) : ListBox V base bl l := by
  obtain ⟨v, h1, h2⟩ := h
  exact ⟨v, boxed_later h1 hb, ownsRow_later h2 hb⟩

end Go.Proofs.Yteflknfejjdkfaa
