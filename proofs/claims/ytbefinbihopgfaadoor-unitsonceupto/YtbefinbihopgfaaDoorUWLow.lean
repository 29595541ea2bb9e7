/- The walks of canopyref01.Lower and of units.Strip. -/
import Derived.Test.YtbefinbihopgfaaDoorUWRef
namespace Go.Proofs.YtbefinbihopgfaaDoor
open Go.RowKit Go.Lib

/-- What the tables of utf8 hold. -/
def Tabs (w : World) : Prop := Lib.Utf8Tabs 0 1 w
theorem Tabs.later {w W : World} (h : Tabs w) (hb : Below w.heap.size w W) : Tabs W := Utf8Tabs_below h hb

set_option maxRecDepth 100000 in
set_option maxHeartbeats 1000000 in
theorem ustrip_any (s : ByteArray) (w : World) (hs : s.size ≤ 281474976710656) (h : Tabs w) :
    Calls Tryd.prog 15 #[.string s] w fun e w' => e = .returned (.string (trimF blankB s)) ∧ Below w.heap.size w w' := by
  have hO := ofRunes_any 10 w
  have hb0 : Below w.heap.size w (w.alloc (.cells #[.func (.func 10) #[] #[]] 26)) := (Below.refl _ w).alloc (Nat.le_refl _) _
  have hT := Tryd.strings_TrimFunc_grows 70 #[.pointer (some ⟨w.heap.size, 0, none⟩)] (enters_of Tryd.func70 (by kernel_rfl) rfl) blankB s (w.alloc (.cells #[.func (.func 10) #[] #[]] 26)) (by omega) (h.later hb0)
    (pred_blank _ w.heap.size (by simp) (by simp))
  have hz := ut_size (trim_is s)
  generalize trimF blankB s = r at *
  have HC : Hid (∀ W : World, _) := fun W => uclone_any r W (by omega)
  go_enter Tryd.func15, Tryd.ntmps15
  go_wp2_with (first
    | (go_at_call 39; refine hO.mono ?_; rintro e w1 ⟨rfl, rfl⟩)
    | (go_at_call 38; refine hT.mono ?_; rintro e w2 ⟨rfl, hb2⟩)
    | (go_at_call 33; refine (HC.out _).mono ?_; rintro e w3 ⟨rfl, hb3⟩))
  go_ret
  have hb4 : Below w.heap.size w w2 := hb0.trans (hb2.mono (by simp))
  exact ⟨rfl, hb4.trans (hb3.mono hb4.size)⟩

theorem low_to (s : ByteArray) (k : Nat) (h : k < s.size) : lowD (s.data.toList.take (k + 1)) = lowD (s.data.toList.take k) ++ [lowB s[k]] := by
  have h' : k < s.data.toList.length := by rw [← Lib.size_eq]; exact h
  unfold lowD
  rw [List.take_succ_eq_append_getElem h', List.map_append]
  rfl

set_option maxRecDepth 100000 in
set_option maxHeartbeats 1000000 in
theorem rlower_any (s : ByteArray) (w : World) (hs : s.size ≤ 1099511627776) :
    Calls Tryd.prog 13 #[.string s] w fun e w' => e = .returned (.string ⟨(lowD s.data.toList).toArray⟩) ∧ Below w.heap.size w w' := by
  obtain ⟨i0, hi, hz0, hz1, hz2⟩ := info_parts Tryd.infoByte
  go_enter Tryd.func13, Tryd.ntmps13
  go_wp2
  go_loopw [3, 4] (fun v i wr => ∃ k : Nat, k ≤ s.size ∧ i = .int .i64 k ∧ wr.ownsRow w.heap.size 5 1 v k ((lowD (s.data.toList.take k)).map byteV) ∧ Below w.heap.size w wr) (fun _ i _ => s.size - (RowKit.intOf i).toNat)
  case atStart => exact ⟨0, Nat.zero_le _, rfl, World.ownsRow_nil _ _ _ _, Below.refl _ _⟩
  case round =>
    obtain ⟨k, hk, rfl, hrow, hnx⟩ := hrel
    have hsw := hnx.size
    by_cases hlt : k < s.size
    · have hs2 := low_to s k hlt
      have hb := s[k].toNat_lt
      obtain ⟨y, hy⟩ : ∃ y, y = lowB s[k] := ⟨_, rfl⟩
      rw [← hy] at hs2
      by_cases g1 : (65 : Int) ≤ (s[k].toNat : Int)
      · by_cases g2 : (s[k].toNat : Int) ≤ 90
        · have hl := lowB_up s[k] (by omega) (by omega)
          rw [← hy] at hl
          have hl2 : ((s[k].toNat : Int) + 32) = (y.toNat : Int) := by omega
          have hv : Value.int .u8 ((s[k].toNat : Int) + 32) = byteV y := by rw [hl2]; rfl
          clear hl hy
          go_wp2_with (at_builtin; refine wpList_append_own _ rfl _ _ 49 rfl w.heap.size 5 i0 (.int .u8 0) 1 1 Tryd.underlying49 hi hz0 hz1 hz2 rfl (by decide) _ _ _ rfl (hrow.alloc _) ⟨wr.heap.size, 0, none⟩ 1 1 [byteV y] rfl rfl ?c1 ?c2 ?c3 ?c4 ?c5 ?_)
          case c1 =>
            intro j u hj
            match j, hj with
            | 0, hj =>
              simp at hj
              subst hj
              simp [Addr.add]
              first | exact hv | exact Hv.out | rfl
          case c2 => intro u hu; simp at hu; subst hu; rfl
          case c3 => unfold maxLen; omega
          case c4 => omega
          case c5 => simp; omega
          intro v' w3 hown' hgrow2 _
          go_wp2
          go_roundw
          case rel =>
            refine ⟨k + 1, by omega, by go_num, ?_, ?_⟩
            · rw [hs2]
              simpa using hown'
            · exact (hnx.alloc hnx.size _).grown hgrow2 (by simp; omega) (fun j hj => (hrow.lt j hj).1)
          case measure => simp [RowKit.intOf]; omega
        · have hl := lowB_same s[k] (by omega)
          rw [← hy] at hl
          have Hv : Hid (Value.int .u8 (s[k].toNat : Int) = byteV y) := show Value.int .u8 (s[k].toNat : Int) = byteV y by rw [hl]; rfl
          clear hl hy
          go_wp2_with (at_builtin; refine wpList_append_own _ rfl _ _ 49 rfl w.heap.size 5 i0 (.int .u8 0) 1 1 Tryd.underlying49 hi hz0 hz1 hz2 rfl (by decide) _ _ _ rfl (hrow.alloc _) ⟨wr.heap.size, 0, none⟩ 1 1 [byteV y] rfl rfl ?c1 ?c2 ?c3 ?c4 ?c5 ?_)
          case c1 =>
            intro j u hj
            match j, hj with
            | 0, hj =>
              simp at hj
              subst hj
              simp
              first | exact hv | exact Hv.out | rfl
          case c2 => rfl
          case c3 => unfold maxLen; omega
          case c4 => omega
          case c5 => omega
          intro v' w3 hown' hgrow2 _
          go_wp2
          go_roundw
          case rel =>
            refine ⟨k + 1, by omega, by go_num, ?_, ?_⟩
            · rw [hs2]
              simpa using hown'
            · exact (hnx.alloc hnx.size _).grown hgrow2 (by simp; omega) (fun j hj => (hrow.lt j hj).1)
          case measure => simp [RowKit.intOf]; omega
      · have hl := lowB_same s[k] (by omega)
        rw [← hy] at hl
        have Hv : Hid (Value.int .u8 (s[k].toNat : Int) = byteV y) := show Value.int .u8 (s[k].toNat : Int) = byteV y by rw [hl]; rfl
        clear hl hy
        go_wp2_with (at_builtin; refine wpList_append_own _ rfl _ _ 49 rfl w.heap.size 5 i0 (.int .u8 0) 1 1 Tryd.underlying49 hi hz0 hz1 hz2 rfl (by decide) _ _ _ rfl (hrow.alloc _) ⟨wr.heap.size, 0, none⟩ 1 1 [byteV y] rfl rfl ?c1 ?c2 ?c3 ?c4 ?c5 ?_)
        case c1 =>
          intro j u hj
          match j, hj with
          | 0, hj =>
            simp at hj
            subst hj
            simp
            first | exact hv | exact Hv.out | rfl
        case c2 => rfl
        case c3 => unfold maxLen; omega
        case c4 => omega
        case c5 => omega
        intro v' w3 hown' hgrow2 _
        go_wp2
        go_roundw
        case rel =>
          refine ⟨k + 1, by omega, by go_num, ?_, ?_⟩
          · rw [hs2]
            simpa using hown'
          · exact (hnx.alloc hnx.size _).grown hgrow2 (by simp; omega) (fun j hj => (hrow.lt j hj).1)
        case measure => simp [RowKit.intOf]; omega
    · have hkl : k = s.size := by omega
      subst hkl
      rw [List.take_of_length_le (by rw [Lib.size_eq]; exact Nat.le_refl _)] at hrow
      obtain ⟨o, cap, rfl, hconv⟩ := own_bytes hrow
      go_wp2
      go_ret
      exact ⟨rfl, hnx⟩
end Go.Proofs.YtbefinbihopgfaaDoor
