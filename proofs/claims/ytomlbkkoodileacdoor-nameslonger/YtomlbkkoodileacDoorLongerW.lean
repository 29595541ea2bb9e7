/- The walk of the law NamesLonger. -/
import Derived.Test.YtomlbkkoodileacDoorLonger
import Derived.Deep.DeepCutAuto
import Derived.Deep.CutRange
import Derived.Laws.Cover4
import Derived.Deep.RegionWith
namespace Go.Proofs.YtomlbkkoodileacDoor
open Go.RowKit Go.Lib

theorem sep_size (s t : ByteArray) : (s ++ ⟨#[58]⟩ ++ t).size = s.size + 1 + t.size := by
  simp only [ByteArray.size_append]
  rfl

/-- What the second half of the law comes to, whatever the two texts are. -/
theorem longer_tail (s t : ByteArray) (h : ¬ (ncB s.data.toList = true ∧ ncB t.data.toList = true)) :
    (!qnameB (s ++ ⟨#[58]⟩ ++ t).data.toList || s.data.toList.contains 58 || t.data.toList.contains 58) = true := by
  cases h1 : s.data.toList.contains 58 with
  | true => simp
  | false =>
    rw [sep_data, qname_two _ _ h1]
    have : (ncB s.data.toList && ncB t.data.toList) = false := by
      cases ha : ncB s.data.toList with
      | false => rfl
      | true =>
        cases hb : ncB t.data.toList with
        | false => rfl
        | true => exact absurd ⟨ha, hb⟩ h
    rw [this]
    simp

theorem part_call (r : Int) (W : World) (hW : Laid W) : Calls Tryd.prog 13 #[.int .i32 r] W fun e w' => e = .returned (.bool (partB r)) ∧ Below W.heap.size W w' := by
  obtain ⟨tt, fz, hg⟩ := hW.spans
  exact part_any r W tt fz hg

set_option maxRecDepth 100000 in
set_option maxHeartbeats 4000000 in
theorem longerLaw (s t : ByteArray) (r : Int) (w : World) (hs : s.size ≤ 140737488351232) (ht : t.size ≤ 140737488351232) (h : Laid w) :
    Calls Tryd.prog 4 #[.string s, .string t, .int .i32 r] w fun e w' => e = .returned (.bool true) ∧ Below w.heap.size w w' := by
  have HB : Hid (∀ W, Laid W → _) := fun W (hW : Laid W) => begins_any W hW
  have L := St.start h
  go_enter Tryd.func4, Tryd.ntmps4
  go_wp2_with fail
  refine (HB.out _ L.laid).mono ?_
  rintro e w1 ⟨rfl, hb⟩
  replace L := L.later hb
  clear hb
  go_upto_region 3 with fail
  go_cut [16] (fun a wx => a = .bool (decide (r < 55296) || decide (57343 < r)) ∧ St w wx)
  case first =>
    by_cases c1 : r < 55296
    · go_wp2
      go_meet
      exact ⟨by rw [decide_eq_true c1]; rfl, L⟩
    · by_cases c2 : 57343 < r
      · go_wp2
        go_meet
        exact ⟨by rw [decide_eq_false (by omega), decide_eq_true c2]; rfl, L⟩
      · go_wp2
        go_meet
        exact ⟨by rw [decide_eq_false (by omega), decide_eq_false (by omega)]; rfl, L⟩
  case rest =>
    obtain ⟨h16, L2⟩ := hcut
    have hb3 : (decide (r < 55296) || decide (57343 < r)) = true ↔ (r < 55296 ∨ 57343 < r) := by simp
    generalize (decide (r < 55296) || decide (57343 < r)) = b3 at h16 hb3
    subst h16
    clear L
    go_upto_if 16 with fail
    go_cut [6] (fun a wx => a = .bool false ∧ St w wx)
    case first =>
      have HN := fun W (hW : Laid W) => name_any s W (by omega) hW
      cases b3 with
      | false =>
        go_wp2
        go_meet
        exact ⟨rfl, L2⟩
      | true =>
        have hr := hb3.1 rfl
        clear hb3
        cases hn : nameB s.data.toList with
        | false =>
          simp only [hn] at HN
          go_wp2_with (go_at_call 8; refine (HN _ L2.laid).mono ?_; rintro e w' ⟨rfl, hb⟩; replace L2 := L2.later hb; clear hb)
          go_meet
          exact ⟨rfl, L2⟩
        | true =>
          simp only [hn] at HN
          by_cases g1 : 0 < r
          · by_cases g2 : r ≤ 1114111
            · obtain ⟨c, rfl⟩ := Int.eq_ofNat_of_zero_le (Int.le_of_lt g1)
              have hsz4 := encode_size_le (c : Int)
              have HN2 := fun W (hW : Laid W) => name_any (s ++ Utf8.encode (c : Int)) W (by rw [ByteArray.size_append]; omega) hW
              rw [name_longer s c (by omega) (by omega) hn] at HN2
              have HP := fun W (hW : Laid W) => part_call (c : Int) W hW
              have hee : (partB (c : Int) != partB (c : Int)) = false := by simp
              generalize partB (c : Int) = pb at HN2 HP hee
              generalize he : Utf8.encode (c : Int) = en at HN2 hsz4
              have HE : Hid (Utf8.encode (c : Int) = en) := he
              have hcv : ∀ W, (convert 21 9 (.int .i32 (c : Int))).run Tryd.prog W = .ok (.string en) W := fun W => by
                rw [run_convert_int_string W _ _ _ _ (by rw [Tryd.underlying21]; rfl) Tryd.underlying9, HE.out]
              clear he HE hn hr
              go_wp2_with fail
              refine (HN _ L2.laid).mono ?_
              rintro e w2 ⟨rfl, hb⟩
              replace L2 := L2.later hb
              clear hb HN
              go_wp2_with fail
              refine (HN2 _ L2.laid).mono ?_
              rintro e w3 ⟨rfl, hb⟩
              replace L2 := L2.later hb
              clear hb HN2
              go_wp2_with fail
              refine (HP _ L2.laid).mono ?_
              rintro e w4 ⟨rfl, hb⟩
              replace L2 := L2.later hb
              clear hb HP
              go_wp2
              go_meet
              exact ⟨rfl, L2⟩
            · go_wp2_with (go_at_call 8; refine (HN _ L2.laid).mono ?_; rintro e w' ⟨rfl, hb⟩; replace L2 := L2.later hb; clear hb)
              go_meet
              exact ⟨rfl, L2⟩
          · go_wp2_with (go_at_call 8; refine (HN _ L2.laid).mono ?_; rintro e w' ⟨rfl, hb⟩; replace L2 := L2.later hb; clear hb)
            go_meet
            exact ⟨rfl, L2⟩
    case rest =>
      obtain ⟨rfl, L3⟩ := hcut
      clear L2 hb3
      have HNs := fun W (hW : Laid W) => nc_any s W (by omega) hW
      have HNt := fun W (hW : Laid W) => nc_any t W (by omega) hW
      have hz := sep_size s t
      have HQ := fun W (hW : Laid W) => qname_any (s ++ ⟨#[58]⟩ ++ t) W (by omega) hW
      have HHs := fun W => has_any s W (by unfold maxLen; omega)
      have HHt := fun W => has_any t W (by unfold maxLen; omega)
      by_cases hb : ncB s.data.toList = true ∧ ncB t.data.toList = true
      · obtain ⟨hs1, ht1⟩ := hb
        have hc := nc_no_colon _ hs1
        have HS := fun W (hW : Laid W) => split_any (s ++ ⟨#[58]⟩ ++ t) W (by omega) hW
        rw [split_two s t hs1 ht1] at HS
        have HQ3 := fun W (hW : Laid W) => qname_any (s ++ ⟨#[58]⟩ ++ t ++ ⟨#[58]⟩ ++ s) W (by rw [sep_size]; omega) hW
        rw [sep3_data, qname_three _ _ hc] at HQ3
        rw [sep_data, qname_two _ _ hc, hs1, ht1] at HQ
        simp only [hs1] at HNs
        simp only [ht1] at HNt
        clear hc hs1 ht1 HHs HHt
        have hes : (s.toList == s.toList) = true := by simp
        have het : (t.toList == t.toList) = true := by simp
        go_wp2_with fail
        refine (HNs _ L3.laid).mono ?_
        rintro e w2 ⟨rfl, hb⟩
        replace L3 := L3.later hb
        clear hb
        go_wp2_with fail
        refine (HNt _ L3.laid).mono ?_
        rintro e w3 ⟨rfl, hb⟩
        replace L3 := L3.later hb
        clear hb
        go_wp2_with fail
        refine (HS _ L3.laid).mono ?_
        rintro e w4 ⟨rfl, hb⟩
        replace L3 := L3.later hb
        clear hb
        go_wp2_with fail
        refine (HQ _ L3.laid).mono ?_
        rintro e w5 ⟨rfl, hb⟩
        replace L3 := L3.later hb
        clear hb
        go_wp2_with fail
        refine (HQ3 _ L3.laid).mono ?_
        rintro e w6 ⟨rfl, hb⟩
        replace L3 := L3.later hb
        clear hb
        go_wp2
        go_ret
        exact ⟨rfl, L3.bel⟩
      · have htl := longer_tail s t hb
        generalize qnameB (s ++ ⟨#[58]⟩ ++ t).data.toList = qb at HQ htl
        generalize s.data.toList.contains 58 = k1 at HHs htl
        generalize t.data.toList.contains 58 = k2 at HHt htl
        generalize ncB s.data.toList = n1 at HNs hb
        generalize ncB t.data.toList = n2 at HNt hb
        cases n1 <;> cases n2 <;> cases qb <;> cases k1 <;> cases k2
        all_goals first
          | (exfalso; revert htl hb; decide)
          | (clear htl hb
             go_wp2_with (first
               | (go_at_call 10; refine (HQ _ L3.laid).mono ?_; rintro e w' ⟨rfl, hb⟩; replace L3 := L3.later hb; clear hb)
               | (go_at_call_of 7 (Value.string s); refine (HNs _ L3.laid).mono ?_; rintro e w' ⟨rfl, hb⟩; replace L3 := L3.later hb; clear hb)
               | (go_at_call_of 7 (Value.string t); refine (HNt _ L3.laid).mono ?_; rintro e w' ⟨rfl, hb⟩; replace L3 := L3.later hb; clear hb)
               | (go_at_call_of 9 (Value.string s); refine (HHs _).mono ?_; rintro e w' ⟨rfl, rfl⟩)
               | (go_at_call_of 9 (Value.string t); refine (HHt _).mono ?_; rintro e w' ⟨rfl, rfl⟩))
             go_ret
             exact ⟨rfl, L3.bel⟩)
end Go.Proofs.YtomlbkkoodileacDoor
