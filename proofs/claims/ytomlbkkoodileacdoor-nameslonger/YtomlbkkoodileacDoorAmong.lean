/- The law's 'has', and how the kinds of names lie within one another. -/
import Derived.Test.YtomlbkkoodileacDoorSteps
import Derived.Test.YtomlbkkoodileacDoorConcat
namespace Go.Proofs.YtomlbkkoodileacDoor
open Go.RowKit Go.Lib

theorem take_snoc (s : ByteArray) (k : Nat) (h : k < s.size) : s.data.toList.take (k + 1) = s.data.toList.take k ++ [s[k]] := by
  rw [List.take_succ_eq_append_getElem (by simpa using h)]; rfl

set_option maxHeartbeats 400000 in
theorem has_any (s : ByteArray) (w : World) (hs : s.size ≤ maxLen) :
    Calls Tryd.prog 9 #[.string s] w fun e w' => e = .returned (.bool (s.data.toList.contains 58)) ∧ w' = w := by
  unfold maxLen at hs
  generalize hans : s.data.toList.contains 58 = ans
  have HA : Hid (s.data.toList.contains 58 = ans) := hans
  clear hans
  go_enter Tryd.func9, Tryd.ntmps9
  go_wp2
  go_loop [3] (fun i => ∃ k : Nat, k ≤ s.size ∧ i = .int .i64 k ∧ Hid ((s.data.toList.take k).contains 58 = false)) (fun i => s.size - (RowKit.intOf i).toNat)
  case atStart => exact ⟨0, Nat.zero_le _, rfl, rfl⟩
  case round =>
    obtain ⟨k, hk, rfl, hn⟩ := hrel
    by_cases hlt : k < s.size
    · have hts := take_snoc s k hlt
      have hcs : Hid ((s.data.toList.take (k + 1)).contains 58 = (58 == s[k])) := by
        show _ = _
        rw [hts, List.contains_append, hn.out]
        simp only [List.contains_cons, List.contains_nil, Bool.or_false, Bool.false_or]
      have hcut : Hid (s.data.toList.contains 58 = ((58 == s[k]) || (s.data.toList.drop (k + 1)).contains 58)) := by
        show _ = _
        rw [contains_cut _ (k + 1), hcs.out]
      have hby : ((s[k].toNat : Int) == 58) = (58 == s[k]) := by
        rw [Bool.eq_iff_iff]
        simp only [beq_iff_eq]
        constructor
        · intro h; apply UInt8.toNat_inj.1; show 58 = s[k].toNat; omega
        · intro h; rw [← h]; rfl
      cases hb : (58 == s[k]) with
      | true =>
        rw [hb] at hby hcut
        have hAt : ans = true := by rw [← HA.out, hcut.out]; rfl
        subst hAt
        clear hb hcs hts hcut
        go_wp2
        go_ret
        exact ⟨rfl, rfl⟩
      | false =>
        rw [hb] at hby hcs
        clear hb hts hcut
        go_wp2
        go_round
        case rel => exact ⟨k + 1, by omega, by go_num, hcs⟩
        case measure => simp [RowKit.intOf]; omega
    · have hAf : ans = false := by
        have h := hn.out
        rw [List.take_of_length_le (by rw [← Lib.size_eq]; omega)] at h
        rw [← HA.out, h]
      subst hAf
      go_wp2
      go_ret
      exact ⟨rfl, rfl⟩

theorem nc_name (l : List UInt8) : ncB l = (nameB l && !(l.contains 58)) := runs_colon startB partB l

theorem index_none (l : List UInt8) (h : l.contains 58 = false) : Lib.indexByte l 58 = -1 := by
  have hg := Lib.indexByte_ge l 58
  rcases (by omega : Lib.indexByte l 58 = -1 ∨ 0 ≤ Lib.indexByte l 58) with h1 | h1
  · exact h1
  · obtain ⟨k, hk⟩ := Int.eq_ofNat_of_zero_le h1
    have := (Lib.indexByte_some hk).1
    have hm : (58 : UInt8) ∈ l := List.mem_of_getElem? this
    rw [← List.contains_iff_mem] at hm
    rw [hm] at h
    cases h

theorem nc_qname (l : List UInt8) (h : ncB l = true) : qnameB l = true := by
  rw [nc_name, Bool.and_eq_true] at h
  have hc : l.contains 58 = false := by simpa using h.2
  rw [qnameB_none l (index_none l hc), nc_name, h.1, hc]
  rfl

theorem start_part (r : Int) (h : startB r = true) : partB r = true := (partB_iff r).2 (.inl h)
theorem name_all (l : List UInt8) (h : nameB l = true) : allR partB l = true := runs_all startB partB start_part l h

theorem qname_name (l : List UInt8) (h : qnameB l = true) : nameB l = true := by
  have hg := Lib.indexByte_ge l 58
  rcases (by omega : Lib.indexByte l 58 = -1 ∨ 0 ≤ Lib.indexByte l 58) with h1 | h1
  · rw [qnameB_none l h1, nc_name, Bool.and_eq_true] at h
    exact h.1
  · obtain ⟨k, hk⟩ := Int.eq_ofNat_of_zero_le h1
    rw [qnameB_at l k hk, Bool.and_eq_true, nc_name, nc_name, Bool.and_eq_true, Bool.and_eq_true] at h
    obtain ⟨⟨ha, _⟩, hb, _⟩ := h
    have hc := (Lib.indexByte_some hk).1
    have hlt := (List.getElem?_eq_some_iff.1 hc).1
    have hck := (List.getElem?_eq_some_iff.1 hc).2
    have hl : l = l.take k ++ ([58] ++ l.drop (k + 1)) := by
      conv => lhs; rw [← List.take_append_drop k l]
      rw [List.drop_eq_getElem_cons hlt, hck]
      rfl
    have hv := (runs_valid _ _ _ hb).2
    have hvb : validD ([58] ++ l.drop (k + 1)) = true := by
      rw [valid_app _ 1 [58] (by simp) (by decide)]; exact hv
    rw [hl]
    unfold nameB at ha ⊢
    rw [runs_app startB partB _ _ ha hvb, allR_app partB _ 1 [58] (by simp) (by decide), name_all _ hb]
    decide

theorem custom_nc (l : List UInt8) (h : customB l = true) : ncB l = true := by
  unfold customB at h
  rw [Bool.and_eq_true] at h
  refine runs_mono smallB _ _ _ (fun r hr => ?_) (fun r hr => ?_) l h.1
  · unfold smallB at hr
    simp only [Bool.and_eq_true, decide_eq_true_eq] at hr
    have h1 : startB r = true := (startB_iff r).2 (by omega)
    have h2 : (r == 58) = false := beq_eq_false_iff_ne.2 (by omega)
    simp only [h1, h2]
    rfl
  · rw [Bool.and_eq_true] at hr
    exact hr.1

set_option maxHeartbeats 2000000 in
theorem amongLaw (s : ByteArray) (w : World) (hs : s.size ≤ maxLen) (h : Laid w) :
    Calls Tryd.prog 3 #[.string s] w fun e w' => e = .returned (.bool true) ∧ Below w.heap.size w w' := by
  have hs' : s.size ≤ 9223372036854775807 := by unfold maxLen at hs; omega
  have hNC := fun W (hW : Laid W) => nc_any s W hs' hW
  have hNa := fun W (hW : Laid W) => name_any s W hs' hW
  have hQ := fun W (hW : Laid W) => qname_any s W hs' hW
  have hCu := fun W (hW : Laid W) => custom_any s W hs' hW
  have hHo := fun W (hW : Laid W) => hosts_any s W hs' hW
  have hHa := fun W => has_any s W hs
  have f1 := nc_name s.data.toList
  have f2 := nc_qname s.data.toList
  have f3 := qname_name s.data.toList
  have f4 := custom_nc s.data.toList
  have f5 : customB s.data.toList = true → hostsB s.data.toList = true := fun h => by unfold hostsB; rw [h]; rfl
  generalize ncB s.data.toList = c at *
  generalize nameB s.data.toList = n at *
  generalize qnameB s.data.toList = q at *
  generalize customB s.data.toList = cu at *
  generalize hostsB s.data.toList = ho at *
  generalize s.data.toList.contains 58 = k at *
  have HNC : Hid (∀ W, Laid W → _) := hNC
  have HNa : Hid (∀ W, Laid W → _) := hNa
  have HQ : Hid (∀ W, Laid W → _) := hQ
  have HCu : Hid (∀ W, Laid W → _) := hCu
  have HHo : Hid (∀ W, Laid W → _) := hHo
  have HHa : Hid (∀ W : World, _) := hHa
  clear hNC hNa hQ hCu hHo hHa
  have HB : Hid (∀ W, Laid W → _) := fun W (hW : Laid W) => begins_any W hW
  have L := St.start h
  clear h hs hs'
  cases n <;> cases k <;> cases q <;> cases cu <;> cases ho
  all_goals first
    | (exfalso; simp_all; done)
    | (obtain rfl := f1
       clear f2 f3 f4 f5
       go_enter Tryd.func3, Tryd.ntmps3
       go_wp2_with (first
         | (go_at_call 6; refine (HB.out _ L.laid).mono ?_; rintro e w' ⟨rfl, hb⟩; replace L := L.later hb; clear hb)
         | (go_at_call 7; refine (HNC.out _ L.laid).mono ?_; rintro e w' ⟨rfl, hb⟩; replace L := L.later hb; clear hb)
         | (go_at_call 8; refine (HNa.out _ L.laid).mono ?_; rintro e w' ⟨rfl, hb⟩; replace L := L.later hb; clear hb)
         | (go_at_call 9; refine (HHa.out _).mono ?_; rintro e w' ⟨rfl, rfl⟩)
         | (go_at_call 10; refine (HQ.out _ L.laid).mono ?_; rintro e w' ⟨rfl, hb⟩; replace L := L.later hb; clear hb)
         | (go_at_call 11; refine (HCu.out _ L.laid).mono ?_; rintro e w' ⟨rfl, hb⟩; replace L := L.later hb; clear hb)
         | (go_at_call 12; refine (HHo.out _ L.laid).mono ?_; rintro e w' ⟨rfl, hb⟩; replace L := L.later hb; clear hb))
       go_ret
       exact ⟨rfl, L.bel⟩)

theorem amongLaw2 (s : ByteArray) (w : World) (hs : s.size ≤ 140737488351232) (h : Laid w) :
    Calls Tryd.prog 3 #[.string s] w fun e w' => e = .returned (.bool true) ∧ Below w.heap.size w w' :=
  amongLaw s w (by unfold maxLen; omega) h
end Go.Proofs.YtomlbkkoodileacDoor
