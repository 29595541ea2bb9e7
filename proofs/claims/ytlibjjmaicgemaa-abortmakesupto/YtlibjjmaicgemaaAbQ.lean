/- knot.tie: what it comes to. -/
import Derived.Test.YtlibjjmaicgemaaAbN
namespace Go.Proofs.Ytlibjjmaicgemaa
open Go.RowKit Go.Lib Go.Shelf

/-- Signals behind a tie of the last one to the one at p. -/
def tieS (ls : List SigD) (p q : Nat) : List SigD := if ((ls[p]?.map (fun x => lastIs x.dts ((q : Int) + 1))).getD true) = true then ls else (ls.modify p (fun x => { x with dts := x.dts ++ [(q : Int) + 1] })).modify q (fun x => { x with src := x.src ++ [(p : Int) + 1] })
theorem TieAt.cell {W0 V : World} {base g c : Nat} {l0 l : List SigV} {Kb : Nat} {kc : Array Value} (h : TieAt W0 V base (.slice (some ⟨g, 0, none⟩) l0.length c) l0 l Kb kc) (j : Nat) (hj : j < l0.length) (i : Nat) (hi : i < 5) (u : Value) (hu : (sigC l0[j])[i]? = some u) : V.cell? ⟨g, j * 5 + i, none⟩ = some u ∧ V.frozen? ⟨g, j * 5 + i, none⟩ = false := by
  obtain ⟨g', c', cur, hv, hb, hh, hn, hc⟩ := own_blk h.row (by omega)
  injection hv with e1 _ _
  injection e1 with e1
  injection e1 with e1
  subst e1
  exact ⟨hc _ u ((rowS_get l0 j i hj hi).trans hu), by simp [World.frozen?, hh]⟩
theorem tie_done {W0 V w0 : World} {base g c : Nat} {l0 : List SigV} {Kb : Nat} {kc : Array Value} {p q : Nat} {x1 x2 : Int} {v1 v2 : Value} (hp : p < l0.length) (hq : q < l0.length) (hpq : p ≠ q)
    (h : TieAt W0 V base (.slice (some ⟨g, 0, none⟩) l0.length c) l0 ((l0.set p (putL l0[p] x1 v1 true)).set q (putL l0[q] x2 v2 false)) Kb kc) :
    OwnS ((V.setCell ⟨g, p * 5 + 4, none⟩ v1).setCell ⟨g, q * 5 + 3, none⟩ v2) w0 base (.slice (some ⟨g, 0, none⟩) l0.length c) ((l0.set p (putL l0[p] x1 v1 true)).set q (putL l0[q] x2 v2 false)) l0.length ∧ Below base W0 ((V.setCell ⟨g, p * 5 + 4, none⟩ v1).setCell ⟨g, q * 5 + 3, none⟩ v2) := by
  obtain ⟨g', c', cur, hv, hb, hh, hn, hc⟩ := own_blk h.row (by omega)
  injection hv with e1 _ _
  injection e1 with e1
  injection e1 with e1
  subst e1
  have hh1 := set_boxA (k := p * 5 + 4) (v := v1) hh
  have hr : rowS ((l0.set p (putL l0[p] x1 v1 true)).set q (putL l0[q] x2 v2 false)) = ((rowS l0).set (p * 5 + 4) v1).set (q * 5 + 3) v2 := by
    rw [rowS_put v1 4 (by decide) (putL l0[p] x1 v1 true) l0 p hp rfl, rowS_put v2 3 (by decide) (putL l0[q] x2 v2 false) (l0.set p (putL l0[p] x1 v1 true)) q (by simpa using hq) (by rw [List.getElem_set_ne hpq]; rfl)]
  refine ⟨⟨?_, fun j hj _ => ?_, fun j hj hk => by simp at hj; omega, fun j j' hj hj' _ _ b b' hne r hr => h.lst.apart j j' hj hj' b b' hne r hr⟩, (h.bel.setCell (p := ⟨g, p * 5 + 4, none⟩) (by show _ ≤ g; exact hb) _).setCell (p := ⟨g, q * 5 + 3, none⟩) (by show _ ≤ g; exact hb) _⟩
  · rw [hr, List.length_set, List.length_set]
    exact own_put (own_put h.row v1) v2
  · exact ⟨own_set (own_set (h.lst.own j hj false) hh (by decide) _) hh1 (by decide) _, own_set (own_set (h.lst.own j hj true) hh (by decide) _) hh1 (by decide) _⟩
theorem tie_store {W0 V : World} {base g c : Nat} {l0 l : List SigV} {Kb : Nat} {kc : Array Value} {p q : Nat} (hp : p < l0.length) (hq : q < l0.length) (h : TieAt W0 V base (.slice (some ⟨g, 0, none⟩) l0.length c) l0 l Kb kc) (v1 v2 : Value) :
    (∃ u, V.cell? ⟨g, p * 5 + 4, none⟩ = some u) ∧ V.frozen? ⟨g, p * 5 + 4, none⟩ = false ∧ (V.setCell ⟨g, p * 5 + 4, none⟩ v1).heap[Kb]? = some (.cells kc 51) ∧ (∃ u, (V.setCell ⟨g, p * 5 + 4, none⟩ v1).cell? ⟨g, q * 5 + 3, none⟩ = some u) ∧ (V.setCell ⟨g, p * 5 + 4, none⟩ v1).frozen? ⟨g, q * 5 + 3, none⟩ = false ∧ ((V.setCell ⟨g, p * 5 + 4, none⟩ v1).setCell ⟨g, q * 5 + 3, none⟩ v2).heap[Kb]? = some (.cells kc 51) := by
  obtain ⟨a1, a2⟩ := h.cell p hp 4 (by decide) _ rfl
  obtain ⟨b1, b2⟩ := h.cell q hq 3 (by decide) _ rfl
  obtain ⟨g', c', cur, hv, hb, hh, hn, hc⟩ := own_blk h.row (by omega)
  injection hv with e1 _ _
  injection e1 with e1
  injection e1 with e1
  subst e1
  have hk : Kb ≠ g := fun e => by
    have h1 := h.box
    rw [e, hh] at h1
    have h1 := Option.some.inj h1
    injection h1 with _ h2
    exact absurd h2 (by decide)
  have hh1 := set_boxA (k := p * 5 + 4) (v := v1) hh
  have hx1 := (Below.heap_setCell V ⟨g, p * 5 + 4, none⟩ v1 Kb hk).trans h.box
  exact ⟨⟨_, a1⟩, a2, hx1, ⟨_, (World.cell?_setCell_other _ _ _ _ (by intro h; injection h with _ h2; omega)).trans b1⟩, by simp [World.frozen?, hh1], (Below.heap_setCell _ ⟨g, q * 5 + 3, none⟩ v2 Kb hk).trans hx1⟩
theorem map_tie (l0 : List SigV) (p q : Nat) (hp : p < l0.length) (hq : q < l0.length) (hpq : p ≠ q) (x1 x2 : Int) (v1 v2 : Value) : ((l0.set p (putL l0[p] x1 v1 true)).set q (putL l0[q] x2 v2 false)).map (·.1) = ((l0.map (·.1)).modify p (fun x => { x with dts := x.dts ++ [x1] })).modify q (fun x => { x with src := x.src ++ [x2] }) := by
  refine List.ext_getElem (by simp) (fun j h1 h2 => ?_)
  rw [List.getElem_map, List.getElem_modify, List.getElem_modify]
  by_cases e : q = j
  · subst e
    rw [List.getElem_set_self, if_pos rfl, if_neg hpq, List.getElem_map]
    rfl
  · rw [List.getElem_set_ne e, if_neg e]
    by_cases e' : p = j
    · subst e'
      rw [List.getElem_set_self, if_pos rfl, List.getElem_map]
      rfl
    · rw [List.getElem_set_ne e', if_neg e', List.getElem_map]

end Go.Proofs.Ytlibjjmaicgemaa
