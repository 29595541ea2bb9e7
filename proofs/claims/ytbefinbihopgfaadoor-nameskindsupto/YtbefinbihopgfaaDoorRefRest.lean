/- The document's own colon, NC, QName, Split, Qualified, Validate and Extract. -/
import Derived.Test.YtbefinbihopgfaaDoorRefName
import Derived.Test.YtbefinbihopgfaaDoorExt3
namespace Go.Proofs.YtbefinbihopgfaaDoor
open Go.RowKit Go.Lib

theorem take_snoc' (s : ByteArray) (k : Nat) (h : k < s.size) : s.data.toList.take (k + 1) = s.data.toList.take k ++ [s[k]] := by
  rw [List.take_succ_eq_append_getElem (by simpa using h)]; rfl

theorem index_at' (l : List UInt8) (k : Nat) (h : l[k]? = some 58) (hn : ∀ j, j < k → l[j]? ≠ some 58) : Lib.indexByte l 58 = (k : Int) := by
  have hg := Lib.indexByte_ge l 58
  rcases (by omega : Lib.indexByte l 58 = -1 ∨ 0 ≤ Lib.indexByte l 58) with g | g
  · exact absurd h (Lib.indexByte_none g k)
  · obtain ⟨o, ho⟩ := Int.eq_ofNat_of_zero_le g
    obtain ⟨hc, hf⟩ := Lib.indexByte_some ho
    have h1 : ¬ k < o := fun hlt => hf k hlt h
    have h2 : ¬ o < k := fun hlt => hn o hlt hc
    rw [ho]; omega
theorem index_none' (l : List UInt8) (hn : ∀ j : Nat, l[j]? ≠ some 58) : Lib.indexByte l 58 = -1 := by
  have hg := Lib.indexByte_ge l 58
  rcases (by omega : Lib.indexByte l 58 = -1 ∨ 0 ≤ Lib.indexByte l 58) with g | g
  · exact g
  · obtain ⟨o, ho⟩ := Int.eq_ofNat_of_zero_le g
    exact absurd (Lib.indexByte_some ho).1 (hn o)

set_option maxHeartbeats 1000000 in
theorem rcolon_any (s : ByteArray) (w : World) (hs : s.size ≤ 9223372036854775807) :
    Calls Tryd.prog 50 #[.string s] w fun e w' => e = .returned (.int .i64 (Lib.indexByte s.data.toList 58)) ∧ w' = w := by
  generalize hans : Lib.indexByte s.data.toList 58 = ans
  have HA : Hid (Lib.indexByte s.data.toList 58 = ans) := hans
  clear hans
  go_enter Tryd.func50, Tryd.ntmps50
  go_wp2
  go_loop [3] (fun i => ∃ k : Nat, k ≤ s.size ∧ i = .int .i64 k ∧ Hid (∀ j, j < k → s.data.toList[j]? ≠ some 58)) (fun i => s.size - (RowKit.intOf i).toNat)
  case atStart => exact ⟨0, Nat.zero_le _, rfl, fun j hj => absurd hj (Nat.not_lt_zero _)⟩
  case round =>
    obtain ⟨k, hk, rfl, hn⟩ := hrel
    by_cases hlt : k < s.size
    · have hat : s.data.toList[k]? = some s[k] := by
        have h' : k < s.data.toList.length := by rw [← Lib.size_eq]; exact hlt
        rw [List.getElem?_eq_getElem h']; rfl
      cases hb : ((s[k].toNat : Int) == 58) with
      | true =>
        have h58 : s[k] = 58 := UInt8.toNat_inj.1 (by have := eq_of_beq hb; show s[k].toNat = 58; omega)
        have ha : ans = (k : Int) := by rw [← HA.out]; exact index_at' _ k (by rw [hat, h58]) hn.out
        subst ha
        clear h58 hat HA
        go_wp2
        go_ret
        exact ⟨rfl, rfl⟩
      | false =>
        have h58 : Hid (∀ j, j < k + 1 → s.data.toList[j]? ≠ some 58) := fun j hj => by
          rcases (by omega : j < k ∨ j = k) with h | h
          · exact hn.out j h
          · subst h
            rw [hat]
            intro e
            have := Option.some.inj e
            rw [this] at hb
            exact absurd hb (by decide)
        clear hat HA
        go_wp2
        go_round
        case rel => exact ⟨k + 1, by omega, by go_num, h58⟩
        case measure => simp [RowKit.intOf]; omega
    · have ha : ans = -1 := by
        rw [← HA.out]
        refine index_none' _ (fun j hj => ?_)
        have hjl := (List.getElem?_eq_some_iff.1 hj).1
        rw [← Lib.size_eq] at hjl
        exact hn.out j (by omega) hj
      subst ha
      clear HA
      go_wp2
      go_ret
      exact ⟨rfl, rfl⟩

theorem nc_name' (l : List UInt8) : ncB l = (nameB l && decide (Lib.indexByte l 58 < 0)) := by
  have h1 : ncB l = (nameB l && !(l.contains 58)) := runs_colon startB partB l
  rw [h1]
  congr 1
  rw [Bool.eq_iff_iff]
  simp only [Bool.not_eq_true', decide_eq_true_eq]
  constructor
  · intro h
    rw [index_none' l (fun j hj => by
      have hm : (58 : UInt8) ∈ l := List.mem_of_getElem? hj
      rw [← List.contains_iff_mem, h] at hm
      cases hm)]
    omega
  · intro h
    have hg := Lib.indexByte_ge l 58
    have h2 : Lib.indexByte l 58 = -1 := by omega
    cases hc : l.contains 58 with
    | false => rfl
    | true =>
      rw [List.contains_iff_mem] at hc
      obtain ⟨j, hj⟩ := List.getElem?_of_mem hc
      exact absurd hj (Lib.indexByte_none h2 j)

set_option maxHeartbeats 1000000 in
theorem rnc_any (s : ByteArray) (w : World) (hs : s.size ≤ 17592186044416) :
    Calls Tryd.prog 25 #[.string s] w fun e w' => e = .returned (.bool (ncB s.data.toList)) ∧ Below w.heap.size w w' := by
  have hN := rname_any s w hs
  have hC := fun W => rcolon_any s W (by omega)
  rw [nc_name']
  generalize nameB s.data.toList = b at hN ⊢
  generalize Lib.indexByte s.data.toList 58 = k at hC ⊢
  cases b with
  | false =>
    go_enter Tryd.func25, Tryd.ntmps25
    go_wp2_with (go_at_call 23; refine hN.mono ?_; rintro e w1 ⟨rfl, hb1⟩)
    go_ret
    exact ⟨rfl, hb1⟩
  | true =>
    go_enter Tryd.func25, Tryd.ntmps25
    go_wp2_with fail
    refine hN.mono ?_
    rintro e w1 ⟨rfl, hb1⟩
    go_wp2_with fail
    refine (hC _).mono ?_
    rintro e w2 ⟨rfl, rfl⟩
    go_wp2
    go_ret
    exact ⟨by rw [Bool.true_and]; rfl, hb1⟩

set_option maxHeartbeats 1000000 in
theorem rqname_any (s : ByteArray) (w : World) (hs : s.size ≤ 17592186044416) :
    Calls Tryd.prog 27 #[.string s] w fun e w' => e = .returned (.bool (qnameB s.data.toList)) ∧ Below w.heap.size w w' := by
  have hC := fun W => rcolon_any s W (by omega)
  rcases colon_at s with hi | ⟨k, hk, hi⟩
  · rw [qnameB_none _ hi]
    rw [hi] at hC
    have hN := fun W => rnc_any s W hs
    clear hi
    go_enter Tryd.func27, Tryd.ntmps27
    go_wp2_with fail
    refine (hC _).mono ?_
    rintro e w1 ⟨rfl, rfl⟩
    go_wp2_with fail
    refine (hN _).mono ?_
    rintro e w2 ⟨rfl, hb2⟩
    go_wp2
    go_ret
    exact ⟨rfl, hb2⟩
  · rw [qnameB_at _ k hi]
    rw [hi] at hC
    have hA := fun W => rnc_any (s.extract 0 k) W (Nat.le_trans (cut_le _ _ _) hs)
    have hB := fun W => rnc_any (s.extract (k + 1) s.size) W (Nat.le_trans (cut_le _ _ _) hs)
    rw [Lib.extract_from_zero] at hA
    rw [Lib.extract_to_end] at hB
    generalize ncB (s.data.toList.take k) = b1 at hA ⊢
    generalize ncB (s.data.toList.drop (k + 1)) = b2 at hB ⊢
    clear hi
    cases b1 with
    | false =>
      go_enter Tryd.func27, Tryd.ntmps27
      go_wp2_with fail
      refine (hC _).mono ?_
      rintro e w1 ⟨rfl, rfl⟩
      go_wp2_with fail
      refine (hA _).mono ?_
      rintro e w2 ⟨rfl, hb2⟩
      go_wp2
      go_ret
      exact ⟨rfl, hb2⟩
    | true =>
      go_enter Tryd.func27, Tryd.ntmps27
      go_wp2_with fail
      refine (hC _).mono ?_
      rintro e w1 ⟨rfl, rfl⟩
      go_wp2_with fail
      refine (hA _).mono ?_
      rintro e w2 ⟨rfl, hb2⟩
      go_wp2_with fail
      refine (hB _).mono ?_
      rintro e w3 ⟨rfl, hb3⟩
      go_wp2
      go_ret
      exact ⟨by rw [Bool.true_and]; rfl, hb2.trans (hb3.mono hb2.size)⟩
end Go.Proofs.YtbefinbihopgfaaDoor
