/- The walks of Custom, Hosts, Validate, Split, Qualified, clash and Extract. -/
import Derived.Test.YtbefinbihopgfaaDoorQName
namespace Go.Proofs.YtbefinbihopgfaaDoor
open Go.RowKit Go.Lib

def customB (l : List UInt8) : Bool :=
  runsB smallB (fun r => (partB r && !(r == 58)) && !capitalB r) l && (decide (0 ≤ Lib.indexByte l 45) && !amongB l takenL)
def hostsB (l : List UInt8) : Bool := customB l || amongB l hostL

set_option maxHeartbeats 1000000 in
theorem custom_any (s : ByteArray) (w : World) (hs : s.size ≤ 9223372036854775807) (h : Laid w) :
    Calls Tryd.prog 28 #[.string s] w fun e w' => e = .returned (.bool (customB s.data.toList)) ∧ Below w.heap.size w w' := by
  have hB1 := but_any 44 49 #[] #[] partB (fun r => r == 58) w entersPart entersColon (part_pred w h) (colon_pred w)
  have hD := fun W => Tryd.strings_Contains_one s 45 W
  have hT := fun W => taken_any s W
  have hR := fun W lb hW hp => runs_any s 52 77 #[] lb smallB (fun r => (partB r && !(r == 58)) && !capitalB r) W hs entersSmall entersBut (Tryd.utf8_ValidString s W hs (Laid.tabs hW)) (small_pred W) hp
  unfold customB
  generalize runsB smallB (fun r => (partB r && !(r == 58)) && !capitalB r) s.data.toList = b1 at hR ⊢
  generalize decide (0 ≤ Lib.indexByte s.data.toList 45) = b2 at hD ⊢
  generalize amongB s.data.toList takenL = b3 at hT ⊢
  have HR : Hid (∀ W lb, Laid W → _) := hR
  have HD : Hid (∀ W, _) := hD
  have HT : Hid (∀ W, _) := hT
  clear hR hD hT
  have core : ∀ (w1 : World) (lb1 : Array Value), Below w.heap.size w w1 → PredG 77 lb1 (fun r => partB r && !(r == 58)) w1 → Calls Tryd.prog 48 #[.func (.func 77) #[] lb1, .func (.func 53) #[] #[]] w1 fun e w' => ∃ lb, e = .returned (.func (.func 77) #[] lb) ∧ Below w1.heap.size w1 w' ∧ PredG 77 lb (fun r => (partB r && !(r == 58)) && !capitalB r) w' :=
    fun w1 lb1 _ hp => but_any 77 53 lb1 #[] (fun r => partB r && !(r == 58)) capitalB w1 entersBut entersCapital hp (capital_pred w1)
  have HC : Hid (∀ (w1 : World) (lb1 : Array Value), Below w.heap.size w w1 → _) := core
  clear core
  cases b1 with
  | false =>
    go_enter Tryd.func28, Tryd.ntmps28
    go_wp2_with fail
    refine hB1.mono ?_
    rintro e w1 ⟨lb1, rfl, hb1, hp1⟩
    go_wp2_with fail
    refine (HC.out w1 lb1 hb1 hp1).mono ?_
    rintro e w2 ⟨lb2, rfl, hb2, hp2⟩
    go_wp2_with fail
    refine (HR.out w2 lb2 ((h.later hb1).later hb2) hp2).mono ?_
    rintro e w3 ⟨rfl, hb3⟩
    go_wp2
    go_ret
    exact ⟨rfl, (hb1.trans (hb2.mono hb1.size)).trans (hb3.mono (Nat.le_trans hb1.size hb2.size))⟩
  | true =>
    cases b2 with
    | false =>
      go_enter Tryd.func28, Tryd.ntmps28
      go_wp2_with fail
      refine hB1.mono ?_
      rintro e w1 ⟨lb1, rfl, hb1, hp1⟩
      go_wp2_with fail
      refine (HC.out w1 lb1 hb1 hp1).mono ?_
      rintro e w2 ⟨lb2, rfl, hb2, hp2⟩
      go_wp2_with fail
      refine (HR.out w2 lb2 ((h.later hb1).later hb2) hp2).mono ?_
      rintro e w3 ⟨rfl, hb3⟩
      go_wp2_with fail
      refine (HD.out w3).mono ?_
      rintro e w4 ⟨rfl, rfl⟩
      go_wp2
      go_ret
      exact ⟨rfl, (hb1.trans (hb2.mono hb1.size)).trans (hb3.mono (Nat.le_trans hb1.size hb2.size))⟩
    | true =>
      go_enter Tryd.func28, Tryd.ntmps28
      go_wp2_with fail
      refine hB1.mono ?_
      rintro e w1 ⟨lb1, rfl, hb1, hp1⟩
      go_wp2_with fail
      refine (HC.out w1 lb1 hb1 hp1).mono ?_
      rintro e w2 ⟨lb2, rfl, hb2, hp2⟩
      go_wp2_with fail
      refine (HR.out w2 lb2 ((h.later hb1).later hb2) hp2).mono ?_
      rintro e w3 ⟨rfl, hb3⟩
      go_wp2_with fail
      refine (HD.out w3).mono ?_
      rintro e w4 ⟨rfl, rfl⟩
      go_wp2_with fail
      refine (HT.out w4).mono ?_
      rintro e w5 ⟨rfl, rfl⟩
      go_wp2
      go_ret
      exact ⟨by rw [Bool.true_and, Bool.true_and]; rfl, (hb1.trans (hb2.mono hb1.size)).trans (hb3.mono (Nat.le_trans hb1.size hb2.size))⟩

set_option maxHeartbeats 400000 in
theorem hosts_any (s : ByteArray) (w : World) (hs : s.size ≤ 9223372036854775807) (h : Laid w) :
    Calls Tryd.prog 30 #[.string s] w fun e w' => e = .returned (.bool (hostsB s.data.toList)) ∧ Below w.heap.size w w' := by
  have hC := custom_any s w hs h
  have hP := fun W => plainHost_any s W
  unfold hostsB
  generalize customB s.data.toList = b1 at hC ⊢
  generalize amongB s.data.toList hostL = b2 at hP ⊢
  have HP : Hid (∀ W, _) := hP
  clear hP
  cases b1 with
  | false =>
    go_enter Tryd.func30, Tryd.ntmps30
    go_wp2_with fail
    refine hC.mono ?_
    rintro e w1 ⟨rfl, hb1⟩
    go_wp2_with fail
    refine (HP.out w1).mono ?_
    rintro e w2 ⟨rfl, rfl⟩
    go_wp2
    go_ret
    exact ⟨by rw [Bool.false_or]; rfl, hb1⟩
  | true =>
    go_enter Tryd.func30, Tryd.ntmps30
    go_wp2_with fail
    refine hC.mono ?_
    rintro e w1 ⟨rfl, hb1⟩
    go_wp2
    go_ret
    exact ⟨rfl, hb1⟩

/-- Why a text is no qualified name: too long, or not one. -/
def validateE (s : ByteArray) : Int := if 1024 < s.size then 4 else if qnameB s.data.toList then 0 else 12

set_option maxHeartbeats 400000 in
theorem validate_any (s : ByteArray) (w : World) (hs : s.size ≤ 9223372036854775807) (h : Laid w) :
    Calls Tryd.prog 80 #[.string s] w fun e w' => e = .returned (.int .i64 (validateE s)) ∧ Below w.heap.size w w' := by
  unfold validateE
  by_cases hl : 1024 < s.size
  · rw [if_pos hl]
    have hz : (1024 : Int) < (s.size : Int) := by omega
    go_enter Tryd.func80, Tryd.ntmps80
    go_wp2_with fail
    go_ret
    exact ⟨rfl, Below.refl _ _⟩
  · rw [if_neg hl]
    have hz : ¬ (1024 : Int) < (s.size : Int) := by omega
    have hQ := qname_any s w hs h
    generalize qnameB s.data.toList = b at hQ ⊢
    cases b
    all_goals
      go_enter Tryd.func80, Tryd.ntmps80
      go_wp2_with fail
      refine hQ.mono ?_
      rintro e w1 ⟨rfl, hb1⟩
      go_wp2
      go_ret
      exact ⟨rfl, hb1⟩

/-- A qualified name's prefix and local name. -/
def splitS (s : ByteArray) : ByteArray × ByteArray :=
  if Lib.indexByte s.data.toList 58 = -1 then (⟨#[]⟩, s)
  else if ncB (s.data.toList.take (Lib.indexByte s.data.toList 58).toNat) && ncB (s.data.toList.drop ((Lib.indexByte s.data.toList 58).toNat + 1)) then
    (s.extract 0 (Lib.indexByte s.data.toList 58).toNat, s.extract ((Lib.indexByte s.data.toList 58).toNat + 1) s.size)
  else (⟨#[]⟩, s)

set_option maxHeartbeats 1000000 in
theorem split_any (s : ByteArray) (w : World) (hs : s.size ≤ 281474976710656) (h : Laid w) :
    Calls Tryd.prog 81 #[.string s] w fun e w' => e = .returned (.tuple #[.string (splitS s).1, .string (splitS s).2]) ∧ Below w.heap.size w w' := by
  have hs' : s.size ≤ 9223372036854775807 := by omega
  rcases colon_at s with hi | ⟨k, hk, hi⟩
  · have e1 : splitS s = (⟨#[]⟩, s) := if_pos hi
    rw [e1]
    have hC := cut_none s w hi
    clear hi e1
    go_enter Tryd.func81, Tryd.ntmps81
    go_wp2_with fail
    refine hC.mono ?_
    rintro e w1 ⟨rfl, hb1⟩
    go_wp2_with fail
    refine (clone_any s w1 hs).mono ?_
    rintro e w2 ⟨rfl, hb2⟩
    go_wp2
    go_ret2
    exact ⟨rfl, hb1.trans (hb2.mono hb1.size)⟩
  · have e1 : splitS s = if ncB (s.data.toList.take k) && ncB (s.data.toList.drop (k + 1)) then (s.extract 0 k, s.extract (k + 1) s.size) else (⟨#[]⟩, s) := by
      unfold splitS
      rw [if_neg (by rw [hi]; omega), hi]
      rfl
    rw [e1]
    clear e1
    have hC := cut_found s k w hs' hk hi
    clear hi
    have hA := fun W hW => nc_any (s.extract 0 k) W (Nat.le_trans (cut_le _ _ _) hs') hW
    have hB := fun W hW => nc_any (s.extract (k + 1) s.size) W (Nat.le_trans (cut_le _ _ _) hs') hW
    have hz1 : (s.extract 0 k).size ≤ 281474976710656 := Nat.le_trans (cut_le _ _ _) hs
    have hz2 : (s.extract (k + 1) s.size).size ≤ 281474976710656 := Nat.le_trans (cut_le _ _ _) hs
    rw [Lib.extract_from_zero] at hA
    rw [Lib.extract_to_end] at hB
    generalize ncB (s.data.toList.take k) = b1 at hA ⊢
    generalize ncB (s.data.toList.drop (k + 1)) = b2 at hB ⊢
    generalize s.extract 0 k = s1 at hA hC hz1 ⊢
    generalize s.extract (k + 1) s.size = s2 at hB hC hz2 ⊢
    have HA : Hid (∀ W, Laid W → _) := hA
    have HB : Hid (∀ W, Laid W → _) := hB
    clear hA hB
    cases b1 with
    | false =>
      go_enter Tryd.func81, Tryd.ntmps81
      go_wp2_with fail
      refine hC.mono ?_
      rintro e w1 ⟨rfl, hb1⟩
      go_wp2_with fail
      refine (HA.out w1 (h.later hb1)).mono ?_
      rintro e w2 ⟨rfl, hb2⟩
      go_wp2_with fail
      refine (clone_any s w2 hs).mono ?_
      rintro e w3 ⟨rfl, hb3⟩
      go_wp2
      go_ret2
      exact ⟨rfl, (hb1.trans (hb2.mono hb1.size)).trans (hb3.mono (Nat.le_trans hb1.size hb2.size))⟩
    | true =>
      cases b2 with
      | false =>
        go_enter Tryd.func81, Tryd.ntmps81
        go_wp2_with fail
        refine hC.mono ?_
        rintro e w1 ⟨rfl, hb1⟩
        go_wp2_with fail
        refine (HA.out w1 (h.later hb1)).mono ?_
        rintro e w2 ⟨rfl, hb2⟩
        go_wp2_with fail
        refine (HB.out w2 ((h.later hb1).later hb2)).mono ?_
        rintro e w3 ⟨rfl, hb3⟩
        go_wp2_with fail
        refine (clone_any s w3 hs).mono ?_
        rintro e w4 ⟨rfl, hb4⟩
        go_wp2
        go_ret2
        exact ⟨rfl, ((hb1.trans (hb2.mono hb1.size)).trans (hb3.mono (Nat.le_trans hb1.size hb2.size))).trans (hb4.mono (Nat.le_trans hb1.size (Nat.le_trans hb2.size hb3.size)))⟩
      | true =>
        go_enter Tryd.func81, Tryd.ntmps81
        go_wp2_with fail
        refine hC.mono ?_
        rintro e w1 ⟨rfl, hb1⟩
        go_wp2_with fail
        refine (HA.out w1 (h.later hb1)).mono ?_
        rintro e w2 ⟨rfl, hb2⟩
        go_wp2_with fail
        refine (HB.out w2 ((h.later hb1).later hb2)).mono ?_
        rintro e w3 ⟨rfl, hb3⟩
        go_wp2_with fail
        refine (clone_any s1 w3 hz1).mono ?_
        rintro e w4 ⟨rfl, hb4⟩
        go_wp2_with fail
        refine (clone_any s2 w4 hz2).mono ?_
        rintro e w5 ⟨rfl, hb5⟩
        go_wp2
        go_ret2
        exact ⟨rfl, (((hb1.trans (hb2.mono hb1.size)).trans (hb3.mono (Nat.le_trans hb1.size hb2.size))).trans (hb4.mono (Nat.le_trans hb1.size (Nat.le_trans hb2.size hb3.size)))).trans (hb5.mono (Nat.le_trans hb1.size (Nat.le_trans hb2.size (Nat.le_trans hb3.size hb4.size))))⟩
end Go.Proofs.YtbefinbihopgfaaDoor
