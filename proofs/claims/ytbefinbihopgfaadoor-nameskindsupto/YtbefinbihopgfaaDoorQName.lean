/- The walks of QName, Custom, Hosts, Validate, Split and Qualified. -/
import Derived.Test.YtbefinbihopgfaaDoorKinds
import Derived.Test.YtbefinbihopgfaaDoorCut
import Derived.Lib.Split
namespace Go.Proofs.YtbefinbihopgfaaDoor
open Go.RowKit Go.Lib

def qnameB (l : List UInt8) : Bool :=
  if Lib.indexByte l 58 = -1 then ncB l else ncB (l.take (Lib.indexByte l 58).toNat) && ncB (l.drop ((Lib.indexByte l 58).toNat + 1))
theorem qnameB_none (l : List UInt8) (h : Lib.indexByte l 58 = -1) : qnameB l = ncB l := if_pos h
theorem qnameB_at (l : List UInt8) (k : Nat) (h : Lib.indexByte l 58 = (k : Int)) : qnameB l = (ncB (l.take k) && ncB (l.drop (k + 1))) := by
  unfold qnameB
  rw [if_neg (by rw [h]; omega), h]
  rfl

theorem cut_le (s : ByteArray) (a b : Nat) : (s.extract a b).size ≤ s.size := by
  rw [Lib.size_eq, Lib.extract_data, List.length_take, List.length_drop, Lib.size_eq]
  omega

set_option maxHeartbeats 400000 in
theorem qname_any (s : ByteArray) (w : World) (hs : s.size ≤ 9223372036854775807) (h : Laid w) :
    Calls Tryd.prog 26 #[.string s] w fun e w' => e = .returned (.bool (qnameB s.data.toList)) ∧ Below w.heap.size w w' := by
  rcases colon_at s with hi | ⟨k, hk, hi⟩
  · rw [qnameB_none _ hi]
    have hC := cut_none s w hi
    clear hi
    go_enter Tryd.func26, Tryd.ntmps26
    go_wp2_with fail
    refine hC.mono ?_
    rintro e w1 ⟨rfl, hb1⟩
    go_wp2_with fail
    refine (nc_any s w1 hs (h.later hb1)).mono ?_
    rintro e w2 ⟨rfl, hb2⟩
    go_wp2
    go_ret
    exact ⟨rfl, hb1.trans (hb2.mono hb1.size)⟩
  · rw [qnameB_at _ k hi]
    have hC := cut_found s k w hs hk hi
    clear hi
    have hA := fun W hW => nc_any (s.extract 0 k) W (Nat.le_trans (cut_le _ _ _) hs) hW
    have hB := fun W hW => nc_any (s.extract (k + 1) s.size) W (Nat.le_trans (cut_le _ _ _) hs) hW
    rw [Lib.extract_from_zero] at hA
    rw [Lib.extract_to_end] at hB
    generalize ncB (s.data.toList.take k) = b1 at hA ⊢
    generalize ncB (s.data.toList.drop (k + 1)) = b2 at hB ⊢
    generalize s.extract 0 k = s1 at hA hC
    generalize s.extract (k + 1) s.size = s2 at hB hC
    have HA : Hid (∀ W, Laid W → _) := hA
    have HB : Hid (∀ W, Laid W → _) := hB
    clear hA hB
    cases b1 with
    | false =>
      go_enter Tryd.func26, Tryd.ntmps26
      go_wp2_with fail
      refine hC.mono ?_
      rintro e w1 ⟨rfl, hb1⟩
      go_wp2_with fail
      refine (HA.out w1 (h.later hb1)).mono ?_
      rintro e w2 ⟨rfl, hb2⟩
      go_wp2
      go_ret
      exact ⟨rfl, hb1.trans (hb2.mono hb1.size)⟩
    | true =>
      go_enter Tryd.func26, Tryd.ntmps26
      go_wp2_with fail
      refine hC.mono ?_
      rintro e w1 ⟨rfl, hb1⟩
      go_wp2_with fail
      refine (HA.out w1 (h.later hb1)).mono ?_
      rintro e w2 ⟨rfl, hb2⟩
      go_wp2_with fail
      refine (HB.out w2 ((h.later hb1).later hb2)).mono ?_
      rintro e w3 ⟨rfl, hb3⟩
      go_wp2
      go_ret
      exact ⟨by rw [Bool.true_and]; rfl, (hb1.trans (hb2.mono hb1.size)).trans (hb3.mono (Nat.le_trans hb1.size hb2.size))⟩

/-- Names of SVG and MathML that have a dash. -/
def takenL : List (List UInt8) := [[97, 110, 110, 111, 116, 97, 116, 105, 111, 110, 45, 120, 109, 108], [99, 111, 108, 111, 114, 45, 112, 114, 111, 102, 105, 108, 101], [102, 111, 110, 116, 45, 102, 97, 99, 101], [102, 111, 110, 116, 45, 102, 97, 99, 101, 45, 115, 114, 99], [102, 111, 110, 116, 45, 102, 97, 99, 101, 45, 117, 114, 105], [102, 111, 110, 116, 45, 102, 97, 99, 101, 45, 102, 111, 114, 109, 97, 116], [102, 111, 110, 116, 45, 102, 97, 99, 101, 45, 110, 97, 109, 101], [109, 105, 115, 115, 105, 110, 103, 45, 103, 108, 121, 112, 104]]
/-- HTML elements that may have a shadow root. -/
def hostL : List (List UInt8) := [[97, 114, 116, 105, 99, 108, 101], [97, 115, 105, 100, 101], [98, 108, 111, 99, 107, 113, 117, 111, 116, 101], [98, 111, 100, 121], [100, 105, 118], [102, 111, 111, 116, 101, 114], [104, 49], [104, 50], [104, 51], [104, 52], [104, 53], [104, 54], [104, 101, 97, 100, 101, 114], [109, 97, 105, 110], [110, 97, 118], [112], [115, 101, 99, 116, 105, 111, 110], [115, 112, 97, 110]]
def amongB (l : List UInt8) : List (List UInt8) → Bool
  | [] => false
  | x :: r => l == x || amongB l r

set_option maxHeartbeats 2000000 in
theorem taken_any (s : ByteArray) (w : World) :
    Calls Tryd.prog 55 #[.string s] w fun e w' => e = .returned (.bool (amongB s.data.toList takenL)) ∧ w' = w := by
  rw [← Lib.toList_data]
  generalize hl : amongB s.toList takenL = ans
  simp only [amongB, takenL] at hl
  have HL : Hid (_ = ans) := hl
  clear hl
  go_enter Tryd.func55, Tryd.ntmps55
  go_wp2
  all_goals first | (exfalso; simp_all; done) | (go_ret; refine ⟨?_, rfl⟩; have h := HL.out; simp only [*, Bool.true_or, Bool.or_true, Bool.false_or] at h; rw [← h]; rfl)

set_option maxHeartbeats 4000000 in
theorem plainHost_any (s : ByteArray) (w : World) :
    Calls Tryd.prog 58 #[.string s] w fun e w' => e = .returned (.bool (amongB s.data.toList hostL)) ∧ w' = w := by
  rw [← Lib.toList_data]
  generalize hl : amongB s.toList hostL = ans
  simp only [amongB, hostL] at hl
  have HL : Hid (_ = ans) := hl
  clear hl
  go_enter Tryd.func58, Tryd.ntmps58
  go_wp2
  all_goals first | (exfalso; simp_all; done) | (go_ret; refine ⟨?_, rfl⟩; have h := HL.out; simp only [*, Bool.true_or, Bool.or_true, Bool.false_or] at h; rw [← h]; rfl)
end Go.Proofs.YtbefinbihopgfaaDoor
