/- abort.rising: a list that rises. -/
import Derived.Test.YtlibjjmaicgemaaShelf
import Derived.Test.YtlibjjmaicgemaaAbE
import Derived.Sort.OwnSortedInts
namespace Go.Proofs.Ytlibjjmaicgemaa
open Go.RowKit Go.Lib Go.Shelf

theorem down_le (l : List Int) : ∀ (i : Nat), downD l i = true → ∀ j, j < i → l.getD j 0 ≤ l.getD (j + 1) 0
  | 0, _, j, hj => by omega
  | i + 1, h, j, hj => by
    simp only [downD, Bool.and_eq_true, Bool.not_eq_true', decide_eq_false_iff_not] at h
    by_cases e : j = i
    · subst e; omega
    · exact down_le l i h.2 j (by omega)
theorem down_pair (l : List Int) (h : downD l (l.length - 1) = true) : l.Pairwise (· ≤ ·) := by
  have hs := down_le l _ h
  have hk : ∀ (d i : Nat), i + d < l.length → l.getD i 0 ≤ l.getD (i + d) 0 := by
    intro d
    induction d with
    | zero => intro i _; exact Int.le_refl _
    | succ d ih =>
      intro i hi
      have h1 := ih i (by omega)
      have h2 := hs (i + d) (by omega)
      rw [show i + (d + 1) = i + d + 1 by omega]
      omega
  rw [List.pairwise_iff_getElem]
  intro i j hi hj hij
  have := hk (j - i) i (by omega)
  rw [show i + (j - i) = j by omega, List.getD_eq_getElem?_getD, List.getD_eq_getElem?_getD, List.getElem?_eq_getElem hi, List.getElem?_eq_getElem hj] at this
  exact this
theorem sort_same (l : List Int) (h : l.Pairwise (· ≤ ·)) : sortI l = l := by
  unfold sortI
  refine List.mergeSort_of_pairwise ?_
  exact h.imp (fun hab => decide_eq_true hab)
theorem sort_perm (l : List Int) : (sortI l).Perm l := List.mergeSort_perm _ _
theorem sort_pair (l : List Int) : (sortI l).Pairwise (· ≤ ·) := by
  have h := List.pairwise_mergeSort (le := fun x y : Int => decide (x ≤ y)) (fun a b c hab hbc => decide_eq_true (by have := of_decide_eq_true hab; have := of_decide_eq_true hbc; omega)) (fun a b => by
    rcases Int.le_total a b with h | h
    · rw [decide_eq_true h]; rfl
    · rw [decide_eq_true h, Bool.or_true]) l
  exact h.imp (fun hab => of_decide_eq_true hab)

set_option maxRecDepth 100000 in
set_option maxHeartbeats 4000000 in
theorem rises_all : Rises := by
  intro V v l hr hl
  have hI := sortedI_any v l V hr (by omega)
  cases hd : downD l (l.length - 1) with
  | true =>
    rw [hd] at hI
    rw [sort_same l (down_pair l hd)]
    have hr0 := hr
    obtain ⟨o, c, rfl, hc, g⟩ := hr
    have HR := hid hr0
    clear g hr0 hd hc
    go_enter Try.func40, Try.ntmps40
    go_wp2_with (go_at_call 44; refine hI.mono ?_; rintro e w2 ⟨rfl, hb⟩; have HB := hid hb; clear hb)
    go_ret
    exact ⟨o, c, rfl, HR.out.later HB.out, HB.out⟩
  | false =>
    rw [hd] at hI
    have hne : l.length ≠ 0 := fun h0 => by
      rw [h0] at hd
      cases hd
    have HC : Hid (∀ W : World, Below V.heap.size V W → Calls Try.prog 42 #[v] W fun e w' => ∃ g c cur, e = .returned (.slice (some ⟨g, 0, none⟩) l.length c) ∧ W.heap.size ≤ g ∧ w'.heap[g]? = some (.cells cur 3 (0, 0)) ∧ l.length ≤ c ∧ c ≤ maxLen ∧ cur.size = c * 1 ∧ cur.toList.take l.length = l.map (Value.int .i64) ∧ Below W.heap.size W w') := fun W hW => (cloneI_any v l W (hr.later hW) (by omega)).mono (by
      rintro e w' ⟨o, c, rfl, hown, hb⟩
      rcases hown.2 with ⟨_, h0⟩ | ⟨g, cap, cur, hv, hbg, hh, hnc, hcm, hcs, htk⟩
      · exact absurd h0 hne
      · injection hv with h1 h2 h3
        subst h1
        subst h3
        rw [Nat.mul_one] at htk
        exact ⟨g, c, cur, rfl, hbg, hh, hnc, hcm, hcs, htk, hb⟩)
    have HSo : Hid (∀ (W : World) (g c : Nat) (cur : Array Value), V.heap.size ≤ g → W.heap[g]? = some (.cells cur 3 (0, 0)) → l.length ≤ c → c ≤ maxLen → cur.size = c * 1 → cur.toList.take l.length = l.map (Value.int .i64) → V.heap.size ≤ W.heap.size → Calls Try.prog 45 #[.slice (some ⟨g, 0, none⟩) l.length c] W fun e w' => e = .returned (.tuple #[]) ∧ RdI w' (.slice (some ⟨g, 0, none⟩) l.length c) (sortI l) ∧ Below V.heap.size W w') := fun W g c cur hg hh hn hm hc ht hs => (Try.slices_Sort_int g 0 c l W (holds_of_blockI hh ht) (Array.getElem?_eq_some_iff.1 hh).1 (by omega)).mono (by
      rintro e w' ⟨rfl, n, os, rfl⟩
      have ho := ownsRow_sortedI (w := W) (base := V.heap.size) (n := n) (os := os) (ss := l) (ts := sortI l) (sort_len l) hg hh hn hm hc
      refine ⟨rfl, ?_, (Below.refl _ W).grown (grownBy_sortedI _) hs (fun j hj => by have := Option.some.inj hj; omega)⟩
      have h2 := own_rdI (l := sortI l) (v := .slice (some ⟨g, 0, none⟩) l.length c) (by rw [sort_len]; exact ho)
      exact h2)
    obtain ⟨o, c, rfl, hc, g⟩ := hr
    clear g hd hc
    go_enter Try.func40, Try.ntmps40
    go_wp2_with (first
      | (go_at_call 44; refine hI.mono ?_; rintro e w2 ⟨rfl, hb⟩; have HB := hid hb; clear hb)
      | (go_at_call 42; refine (HC.out _ HB.out).mono ?_; rintro e w3 ⟨g, c3, cur, rfl, hbg, hh, hnc, hcm, hcs, htk, hb⟩; have HB3 := hid (HB.out.trans (hb.mono HB.out.size)); have HSc := HSo.out w3 g c3 cur (Nat.le_trans HB.out.size hbg) hh hnc hcm hcs htk HB3.out.size; clear hb hh hnc hcm hcs htk hbg)
      | (go_at_call 45; refine HSc.mono ?_; rintro e w4 ⟨rfl, hrd, hb⟩; have HRd := hid hrd; have HB4 := hid (HB3.out.trans hb); clear hrd hb))
    go_ret
    exact ⟨_, c3, rfl, HRd.out, HB4.out⟩
theorem check_all (v : Value) (ls : List SigD) (w : World) (hv : RdS w v ls) (hl : ls.length ≤ 1099511627776) (hs : SmallS ls) :
    Calls Try.prog 14 #[v] w fun e w' => e = .returned (.int .i64 (checkS ls)) ∧ Below w.heap.size w w' := checkS_any v ls w hv hl hs rises_all
end Go.Proofs.Ytlibjjmaicgemaa
