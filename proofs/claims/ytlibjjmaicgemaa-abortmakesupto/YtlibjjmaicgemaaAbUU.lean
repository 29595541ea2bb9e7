/- The reference's depend, as a knot. -/
import Derived.Test.YtlibjjmaicgemaaAbNN
import Derived.Test.YtlibjjmaicgemaaAbBB
namespace Go.Proofs.Ytlibjjmaicgemaa
open Go.RowKit Go.Lib Go.Shelf

theorem dep_tie {ls A : List SigD} {S : List Int} (h : Knit ls S A) (hd : ∀ (j : Nat) (hj : j < ls.length), ∀ y ∈ ls[j].dts, y ≤ (ls.length : Int)) {p : Nat} (hp : p < ls.length) : depS A p ls.length = tieS A p ls.length := by
  have hpA : p < A.length := by have := h.len; omega
  have hnA : ls.length < A.length := by have := h.len; omega
  have hg := h.get p hp hpA
  have hne : ls.length ≠ p := by omega
  unfold depS tieS
  rw [List.getElem?_eq_getElem hpA, List.getElem?_eq_getElem hnA]
  show (if A[ls.length].src.contains ((p : Int) + 1) = true then A else _) = (if lastIs A[p].dts ((ls.length : Int) + 1) = true then A else _)
  have hs : A[ls.length].src = S := by rw [h.last hnA]
  rw [hs]
  by_cases hS : (p : Int) + 1 ∈ S
  · have hl : lastIs A[p].dts ((ls.length : Int) + 1) = true := by
      rw [hg]
      simp only [if_pos hS]
      rw [lastIs_snoc]
      exact beq_self_eq_true _
    rw [if_pos hl, if_pos (List.contains_iff_mem.2 hS)]
  · have hl : lastIs A[p].dts ((ls.length : Int) + 1) = false := by
      rw [hg]
      simp only [if_neg hS, List.append_nil]
      exact last_no (hd p hp)
    have hc : S.contains ((p : Int) + 1) = false := by
      cases hx : S.contains ((p : Int) + 1) with
      | false => rfl
      | true => exact absurd (List.contains_iff_mem.1 hx) hS
    rw [hl, hc, if_neg Bool.false_ne_true, if_neg Bool.false_ne_true]
    refine List.ext_getElem (by simp) (fun j h1 h2 => ?_)
    rw [List.getElem_modify, List.getElem_modify, List.getElem_modify, List.getElem_modify]
    by_cases e : p = j
    · subst e
      rw [if_pos rfl, if_neg hne, if_neg hne, if_pos rfl]
    · rw [if_neg e, if_neg e]
/-- How it stands while sources are gone through. -/
structure DepAt (U0 V : World) (g c : Nat) (ls : List SigD) (l : List SigV) : Prop where
  own : OwnS V U0 U0.heap.size (.slice (some ⟨g, 0, none⟩) (ls.length + 1) c) l l.length
  len : l.length = ls.length + 1
  bel : Below U0.heap.size U0 V
  knit : ∃ S, Knit ls S (l.map (·.1)) ∧ ∀ x ∈ S, outD ls.length x = false
theorem DepAt.step {U0 V : World} {g c : Nat} {ls : List SigD} {l : List SigV} (h : DepAt U0 V g c ls l) (hl : ls.length ≤ 1024) (hd : ∀ (j : Nat) (hj : j < ls.length), ∀ y ∈ ls[j].dts, y ≤ (ls.length : Int)) (hdl : ∀ (j : Nat) (hj : j < ls.length), ls[j].dts.length ≤ 1024) (p : Nat) (hp : p < ls.length) :
    Calls Try.prog 29 #[.slice (some ⟨g, 0, none⟩) (ls.length + 1) c, .int .i64 ((p : Int) + 1)] V fun e w' => e = .returned (.tuple #[]) ∧ ∃ l2, DepAt U0 w' g c ls l2 ∧ l2.map (·.1) = tieS (l.map (·.1)) p ls.length := by
  obtain ⟨S, hk, hS⟩ := h.knit
  have hlen := h.len
  have hpl : p < l.length := by omega
  have hql : ls.length < l.length := by omega
  have hgp : l[p].1.dts.length ≤ 4194304 := by
    have h1 := hk.get p hp (by simpa using hpl)
    rw [List.getElem_map] at h1
    rw [h1]
    have := hdl p hp
    simp only [List.length_append]
    split <;> simp <;> omega
  have hgq : l[ls.length].1.src.length ≤ 4194304 := by
    have h1 := hk.last (by simpa using hql)
    rw [List.getElem_map] at h1
    rw [h1]
    have := nodup_short S ls.length hk.nodup (fun x hx => by
      obtain ⟨p', rfl, hp'⟩ := out_no (hS x hx)
      omega)
    show S.length ≤ _
    omega
  have ho := h.own
  rw [← hlen] at ho
  have hdep := dependR_any g c ls.length p l V U0 U0.heap.size ho h.bel.size hlen (by omega) hp hpl hql hgp hgq
  rw [hlen] at hdep
  refine hdep.mono ?_
  rintro e w' ⟨rfl, l2, hm, hl2, hO, hb⟩
  rw [dep_tie hk hd hp] at hm
  obtain ⟨S', hk', hS'⟩ := hk.tie hd hp
  refine ⟨rfl, l2, ⟨by rw [hl2]; exact hO, hl2, h.bel.trans hb, S', by rw [hm]; exact hk', fun x hx => ?_⟩, hm⟩
  rcases (hS' x).1 hx with hx | rfl
  · exact hS x hx
  · unfold outD
    rw [decide_eq_false (by omega), decide_eq_false (by omega)]
    rfl
theorem led_cons {ls : List SigD} {p : Nat} {r : List Int} (hp : p < ls.length) : ledBy (ls ++ [⟨false, 0, true, [], []⟩]) (((p : Int) + 1) :: r) = (if ls[p].dep = true then ls[p].src else [(p : Int) + 1]) ++ ledBy (ls ++ [⟨false, 0, true, [], []⟩]) r := by
  rw [ledBy, show ((p : Int) + 1).toNat - 1 = p by omega, List.getElem?_append_left hp, List.getElem?_eq_getElem hp]
end Go.Proofs.Ytlibjjmaicgemaa
