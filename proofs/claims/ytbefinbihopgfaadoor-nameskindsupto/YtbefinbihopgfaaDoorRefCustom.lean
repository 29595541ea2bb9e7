/- The document's own Custom and Hosts. -/
import Derived.Test.YtbefinbihopgfaaDoorRefName
import Derived.Test.YtbefinbihopgfaaDoorRefCAll
import Derived.Test.YtbefinbihopgfaaDoorExtr
namespace Go.Proofs.YtbefinbihopgfaaDoor
open Go.RowKit Go.Lib

/-- In a step that is valid the byte of a dash stands just where the rune is a dash. -/
theorem step_dash (l : List UInt8) (hne : l ≠ []) (hv : ¬ badStep l) : (l.take (decodeL l).2).contains 45 = (((decodeL l).1 : Int) == 45) := by
  have hl : 0 < l.length := List.length_pos_iff.2 hne
  unfold badStep at hv
  rw [decodeL_N] at hv ⊢
  have k0 := (l.getD 0 0).toNat_lt
  have nb : ∀ x : UInt8, 128 ≤ x.toNat → (45 == x) = false := fun x hx => by
    rw [beq_eq_false_iff_ne]; intro e; rw [← e] at hx; exact absurd hx (by decide)
  rcases decodeN_shape l.length (l.getD 0 0).toNat (l.getD 1 0).toNat (l.getD 2 0).toNat (l.getD 3 0).toNat with ⟨c, e⟩ | ⟨c1, c2, c3, cv, e⟩ | ⟨c1, c2, c3, c4, cv, cs, e⟩ | ⟨c1, c2, c3, c4, c5, cv, cw, e⟩ | e
  · rw [e]
    dsimp only
    rw [takeA l hl]
    generalize l.getD 0 0 = x
    rw [Bool.eq_iff_iff]
    simp only [List.contains_cons, List.contains_nil, Bool.or_false, beq_iff_eq]
    constructor
    · intro h; rw [← h]; rfl
    · intro h; apply UInt8.toNat_inj.1; show 45 = x.toNat; omega
  · rw [e]
    dsimp only
    rw [takeB l c2]
    have h0 : 128 ≤ (l.getD 0 0).toNat := by omega
    have h1 : 128 ≤ (l.getD 1 0).toNat := by omega
    simp only [List.contains_cons, List.contains_nil, nb _ h0, nb _ h1, Bool.or_false]
    exact (beq_eq_false_iff_ne.2 (by omega)).symm
  · rw [e]
    dsimp only
    rw [takeC l c2]
    have h0 : 128 ≤ (l.getD 0 0).toNat := by omega
    have h1 : 128 ≤ (l.getD 1 0).toNat := by omega
    have h2 : 128 ≤ (l.getD 2 0).toNat := by omega
    simp only [List.contains_cons, List.contains_nil, nb _ h0, nb _ h1, nb _ h2, Bool.or_false]
    exact (beq_eq_false_iff_ne.2 (by omega)).symm
  · rw [e]
    dsimp only
    rw [takeD l c2]
    have h0 : 128 ≤ (l.getD 0 0).toNat := by omega
    have h1 : 128 ≤ (l.getD 1 0).toNat := by omega
    have h2 : 128 ≤ (l.getD 2 0).toNat := by omega
    have h3 : 128 ≤ (l.getD 3 0).toNat := by omega
    simp only [List.contains_cons, List.contains_nil, nb _ h0, nb _ h1, nb _ h2, nb _ h3, Bool.or_false]
    exact (beq_eq_false_iff_ne.2 (by omega)).symm
  · rw [e] at hv
    exact absurd ⟨rfl, rfl⟩ hv

theorem any_dash : ∀ (n : Nat) (l : List UInt8), l.length ≤ n → validD l = true → (runesD l).any (fun r => ((r : Int) == 45)) = l.contains 45
  | 0, l, hn, _ => by
    have : l = [] := List.eq_nil_of_length_eq_zero (by omega)
    subst this; rfl
  | n + 1, l, hn, h => by
    by_cases hne : l = []
    · subst hne; rfl
    · obtain ⟨hb, hd⟩ := step_valid l hne h
      have hw := decodeL_width l
      have hl : 0 < l.length := List.length_pos_iff.2 hne
      rw [runesD_step l hne, List.any_cons, any_dash n _ (by rw [List.length_drop]; omega) hd, contains_cut l (decodeL l).2 45, step_dash l hne hb]

theorem index_dash (l : List UInt8) : decide (0 ≤ Lib.indexByte l 45) = l.contains 45 := by
  rw [Bool.eq_iff_iff, decide_eq_true_eq, List.contains_iff_mem]
  constructor
  · intro h
    obtain ⟨k, hk⟩ := Int.eq_ofNat_of_zero_le h
    exact List.mem_of_getElem? (Lib.indexByte_some hk).1
  · intro h
    obtain ⟨j, hj⟩ := List.getElem?_of_mem h
    have hg := Lib.indexByte_ge l 45
    rcases (by omega : Lib.indexByte l 45 = -1 ∨ 0 ≤ Lib.indexByte l 45) with g | g
    · exact absurd hj (Lib.indexByte_none g j)
    · exact g

theorem small_pcen (r : Int) (h : smallB r = true) : pcenB r = true := by
  unfold smallB at h
  simp only [Bool.and_eq_true, decide_eq_true_eq] at h
  exact (pcenB_iff r).2 ⟨(partB_iff r).2 (.inl ((startB_iff r).2 (by omega))), by omega, by omega⟩

/-- A custom element's name by its runes. -/
theorem custom_runes (l : List UInt8) (hv : validD l = true) (r0 : Nat) (rest : List Nat) (h : runesD l = r0 :: rest) :
    customB l = ((smallB (r0 : Int) && (r0 :: rest).all (fun r => pcenB (r : Int))) && ((r0 :: rest).any (fun r => ((r : Int) == 45)) && !amongB l takenL)) := by
  have hne : l ≠ [] := by intro e; subst e; cases h
  have hd := any_dash _ l (Nat.le_refl _) hv
  rw [h] at hd
  rw [hd]
  rw [runesD_step l hne] at h
  obtain ⟨h1, h2⟩ := List.cons.inj h
  have h3 : runsB smallB (fun r => (partB r && !(r == 58)) && !capitalB r) l = (smallB (r0 : Int) && (r0 :: rest).all (fun r => pcenB (r : Int))) := by
    rw [runsB_ne _ _ _ hne hv, runesD_all _ _ _ (Nat.le_refl _), h1, h2, List.all_cons]
    cases hs : smallB (r0 : Int) with
    | false => rfl
    | true => rw [small_pcen _ hs]; rfl
  unfold customB
  rw [h3, index_dash]
theorem custom_bad (l : List UInt8) (hv : validD l = false) : customB l = false := by
  unfold customB
  rw [runsB_bad _ _ _ hv]; rfl
theorem custom_none (l : List UInt8) (h : runesD l = []) : customB l = false := by
  by_cases hne : l = []
  · subst hne; rfl
  · rw [runesD_step l hne] at h; cases h

set_option maxRecDepth 100000 in
set_option maxHeartbeats 2000000 in
theorem among_any (s : ByteArray) (g cap : Nat) (strs : List ByteArray) (w : World) (hlen : strs.length ≤ 100) (hcells : ∀ (j : Nat) (h : j < strs.length), w.cell? ⟨g, j, none⟩ = some (.string strs[j])) :
    Calls Tryd.prog 57 #[.string s, .slice (some ⟨g, 0, none⟩) strs.length cap] w fun e w' => e = .returned (.bool (amongB s.data.toList (strs.map (·.data.toList)))) ∧ w' = w := by
  generalize hans : amongB s.data.toList (strs.map (·.data.toList)) = ans
  have HA : Hid (amongB s.data.toList (strs.map (·.data.toList)) = ans) := hans
  clear hans
  go_enter Tryd.func57, Tryd.ntmps57
  go_wp2
  go_loop [5] (fun i => ∃ k : Nat, k ≤ strs.length ∧ i = .int .i64 k ∧ Hid (amongB s.data.toList ((strs.drop k).map (·.data.toList)) = ans)) (fun i => strs.length - (RowKit.intOf i).toNat)
  case atStart => exact ⟨0, Nat.zero_le _, rfl, HA.out⟩
  case round =>
    obtain ⟨k, hk, rfl, hall⟩ := hrel
    by_cases hlt : k < strs.length
    · have hck := hcells k hlt
      have hstep : Hid ((s.data.toList == strs[k].data.toList || amongB s.data.toList ((strs.drop (k + 1)).map (·.data.toList))) = ans) := by
        have h := hall.out
        rw [List.drop_eq_getElem_cons hlt, List.map_cons, amongB] at h
        exact h
      have hby : (strs[k].toList == s.toList) = (s.data.toList == strs[k].data.toList) := by
        rw [Lib.toList_data, Lib.toList_data, Bool.eq_iff_iff]
        simp only [beq_iff_eq]
        exact eq_comm
      clear hcells hall HA
      generalize hx : (s.data.toList == strs[k].data.toList) = b at hstep hby
      clear hx
      cases b with
      | true =>
        have ha : ans = true := hstep.out.symm
        subst ha
        go_wp2
        go_ret
        exact ⟨rfl, rfl⟩
      | false =>
        have hn : Hid (amongB s.data.toList ((strs.drop (k + 1)).map (·.data.toList)) = ans) := hstep.out
        go_wp2
        go_round
        case rel => exact ⟨k + 1, by omega, by go_num, hn⟩
        case measure => simp [RowKit.intOf]; omega
    · have ha : ans = false := by
        rw [← hall.out, List.drop_eq_nil_of_le (by omega)]
        rfl
      subst ha
      clear hcells hall HA
      go_wp2
      go_ret
      exact ⟨rfl, rfl⟩
end Go.Proofs.YtbefinbihopgfaaDoor
