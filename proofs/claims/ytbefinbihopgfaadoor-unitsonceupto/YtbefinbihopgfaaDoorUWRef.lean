/- The walks of canopyref01's Blank, Lower and Strip, and of units.Strip. -/
import Derived.Test.YtbefinbihopgfaaDoorUTrim
import Derived.Test.YtbefinbihopgfaaDoorUSet
import Derived.Shelf.Strings.FuncGrows
namespace Go.Proofs.YtbefinbihopgfaaDoor
open Go.RowKit Go.Lib

set_option maxHeartbeats 1000000 in
theorem rblank_any (x : Nat) (w : World) : Calls Tryd.prog 11 #[.int .u8 (x : Int)] w fun e w' => e = .returned (.bool (blankB x)) ∧ w' = w := by
  have hb : ∀ n : Nat, ((x : Int) == (n : Int)) = (x == n) := fun n => by
    by_cases h : x = n
    · subst h; simp
    · have h' : ¬ (x : Int) = (n : Int) := by omega
      rw [beq_eq_false_iff_ne.2 h, beq_eq_false_iff_ne.2 h']
  have e1 : ((x : Int) == 9) = (x == 9) := hb 9
  have e2 : ((x : Int) == 10) = (x == 10) := hb 10
  have e3 : ((x : Int) == 12) = (x == 12) := hb 12
  have e4 : ((x : Int) == 13) = (x == 13) := hb 13
  have e5 : ((x : Int) == 32) = (x == 32) := hb 32
  clear hb
  unfold blankB
  generalize (x == 9) = b1 at *
  generalize (x == 10) = b2 at *
  generalize (x == 12) = b3 at *
  generalize (x == 13) = b4 at *
  generalize (x == 32) = b5 at *
  go_enter Tryd.func11, Tryd.ntmps11
  cases b1 with
  | true =>
    go_wp2
    go_ret
    exact ⟨by first | rfl | simp, rfl⟩
  | false =>
    cases b2 with
    | true =>
      go_wp2
      go_ret
      exact ⟨by first | rfl | simp, rfl⟩
    | false =>
      cases b3 with
      | true =>
        go_wp2
        go_ret
        exact ⟨by first | rfl | simp, rfl⟩
      | false =>
        cases b4 with
        | true =>
          go_wp2
          go_ret
          exact ⟨by first | rfl | simp, rfl⟩
        | false =>
          cases b5
          all_goals
            go_wp2
            go_ret
            exact ⟨by first | rfl | simp, rfl⟩

/-- A byte in a cell. -/
def byteV (b : UInt8) : Value := .int .u8 (b.toNat : Int)
theorem Tryd.infoByte : (Tryd.prog.info? 5).map (fun i => (i.zero, i.size, i.bytes)) = some (some (.int .u8 0), 1, 1) := by kernel_rfl
theorem own_bytes {w : World} {B n : Nat} {v : Value} {l : List UInt8} (h : w.ownsRow B 5 1 v n (l.map byteV)) :
    ∃ o cap, v = .slice o n cap ∧ (convert 49 9 (.slice o n cap)).run Tryd.prog w = .ok (.string ⟨l.toArray⟩) w := by
  have hl := h.1
  rw [List.length_map, Nat.mul_one] at hl
  rcases h.2 with ⟨hv, h0⟩ | ⟨g, cap, cur, hv, _, hg, hn, hm, hcs, ht⟩
  · have : l = [] := List.eq_nil_of_length_eq_zero (by omega)
    subst this
    subst h0
    refine ⟨none, 0, hv, ?_⟩
    rw [run_convert_bytes_string w 49 9 5 none 0 0 Tryd.underlying49 Tryd.underlying5 Tryd.underlying9]
    simp [Conv.bytesToString, Sem.run_pure]
    rfl
  · rw [Nat.mul_one] at hcs ht
    refine ⟨some ⟨g, 0, none⟩, cap, hv, ?_⟩
    subst hl
    refine run_convert_bytes_back (P := Tryd.prog) w 49 9 5 ⟨g, 0, none⟩ cap l Tryd.underlying49 Tryd.underlying5 Tryd.underlying9 fun j hj => ?_
    rw [Addr.add_lit, Nat.zero_add, cell_of_heap hg]
    have := congrArg (fun l => l[j]?) ht
    simp only [List.getElem?_take, hj, if_true, List.getElem?_map, Array.getElem?_toList] at this
    rw [this, List.getElem?_eq_getElem hj]
    rfl

theorem strip_first (s : ByteArray) (k : Nat) (h' : 0 < (s.extract k s.size).size) : blankB ((s.extract k s.size)[0]'h').toNat = blk s k := by
  unfold blk
  have e : (s.extract k s.size).data.toList.getD 0 0 = s.data.toList.getD k 0 := by rw [Lib.extract_to_end s k, ut_getD, Nat.add_zero]
  rw [← e, List.getD_eq_getElem?_getD, List.getElem?_eq_getElem (by rw [← Lib.size_eq]; exact h')]
  rfl
theorem strip_tail (s : ByteArray) (k : Nat) : (s.extract k s.size).extract 1 (s.extract k s.size).size = s.extract (k + 1) s.size := by
  apply ut_ext
  rw [Lib.extract_to_end, Lib.extract_to_end, Lib.extract_to_end, List.drop_drop]
theorem strip_last (s : ByteArray) (k m : Nat) (h : k < m) (h' : m - k - 1 < (s.extract k m).size) : blankB ((s.extract k m)[m - k - 1]'h').toNat = blk s (m - 1) := by
  unfold blk
  have e : (s.extract k m).data.toList.getD (m - k - 1) 0 = s.data.toList.getD (m - 1) 0 := by rw [ut_cut, ut_getD, ut_take _ _ _ (by omega), show k + (m - k - 1) = m - 1 by omega]
  rw [← e, List.getD_eq_getElem?_getD, List.getElem?_eq_getElem (by rw [← Lib.size_eq]; exact h')]
  rfl
theorem strip_less (s : ByteArray) (k m : Nat) (h : k < m) : (s.extract k m).extract 0 (m - k - 1) = s.extract k (m - 1) := by
  apply ut_ext
  rw [ut_cut, ut_cut, ut_cut, List.drop_zero, List.take_drop, List.take_take]
  congr 2
  omega

set_option maxRecDepth 100000 in
set_option maxHeartbeats 1000000 in
theorem rstrip_any (s : ByteArray) (w : World) (hs : s.size ≤ 140737488355328) :
    Calls Tryd.prog 16 #[.string s] w fun e w' => e = .returned (.string (trimF blankB s)) ∧ w' = w := by
  have HB : Hid (∀ (x : Nat) (W : World), _) := rblank_any
  have Htr : Hid (IsStrip s (trimF blankB s)) := trim_is s
  generalize trimF blankB s = R at Htr ⊢
  go_enter Tryd.func16, Tryd.ntmps16
  go_wp2
  go_loopw [0] (fun t wr => ∃ k : Nat, k ≤ s.size ∧ t = .string (s.extract k s.size) ∧ (∀ j, j < k → blk s j = true) ∧ wr = w) (fun t _ => match t with | .string x => x.size | _ => 0)
  case atStart =>
    refine ⟨0, Nat.zero_le _, ?_, fun j h => by omega, rfl⟩
    rw [show s.extract 0 s.size = s from ut_ext (by rw [ut_cut, List.drop_zero, List.take_of_length_le (by rw [Lib.size_eq]; exact Nat.le_refl _)])]
  case round =>
    obtain ⟨k, hk, rfl, hall, rfl⟩ := hrel
    have hz : (s.extract k s.size).size = s.size - k := by rw [ByteArray.size_extract]; omega
    by_cases hlt : k < s.size
    · have hpos : 0 < (s.extract k s.size).size := by omega
      have hf := strip_first s k hpos
      have ht := strip_tail s k
      rw [hz] at ht
      cases hb : blk s k with
      | true =>
        rw [hb] at hf
        have hsz : (s.extract (k + 1) s.size).size = s.size - (k + 1) := by rw [ByteArray.size_extract]; omega
        have Hall2 : Hid (∀ j, j < k + 1 → blk s j = true) := fun j h1 => by
          by_cases hj : j = k
          · rw [hj]; exact hb
          · exact hall j (by omega)
        clear hall hb
        generalize s.extract k s.size = u at *
        go_wp2_with (go_at_call 11; refine (HB.out _ _).mono ?_; rintro e w' ⟨rfl, rfl⟩; rw [hf])
        go_roundw
        case rel => exact ⟨k + 1, by omega, by first | rfl | exact congrArg Value.string ht, Hall2.out, by first | rfl | trivial⟩
        case measure => first | (show (s.extract (k + 1) s.size).size < u.size; rw [hsz, hz]; omega) | (show (u.extract 1 (s.size - k)).size < u.size; rw [ht, hsz, hz]; omega)
      | false =>
        rw [hb] at hf
        have hkx : k < s.size → blk s k = false := fun _ => hb
        clear ht
        generalize hu : s.extract k s.size = u at *
        have Hu : Hid (s.extract k s.size = u) := hu
        clear hu hb
        go_wp2_with (go_at_call 11; refine (HB.out _ _).mono ?_; rintro e w' ⟨rfl, rfl⟩; rw [hf])
        have Hfin : Hid (∀ m, k ≤ m → m ≤ s.size → (∀ j, m ≤ j → j < s.size → blk s j = true) → (k < m → blk s (m - 1) = false) → s.extract k m = R) := fun m a b c d => strip_one ⟨k, m, a, b, rfl, hall, c, fun e => ⟨hkx (by omega), d e⟩⟩ Htr.out
        clear hkx hall Htr
        go_loopw [0] (fun t wr' => ∃ m : Nat, k ≤ m ∧ m ≤ s.size ∧ t = .string (s.extract k m) ∧ (∀ j, m ≤ j → j < s.size → blk s j = true) ∧ wr' = w') (fun t _ => match t with | .string x => x.size | _ => 0)
        case atStart => exact ⟨s.size, hk, Nat.le_refl _, congrArg Value.string Hu.out.symm, fun j h1 h2 => by omega, by first | rfl | trivial⟩
        case round =>
          obtain ⟨m, hkm, hm, rfl, hend, rfl⟩ := hrel
          have hy : (s.extract k m).size = m - k := by rw [ByteArray.size_extract]; omega
          by_cases hlm : k < m
          · have hi : m - k - 1 < (s.extract k m).size := by omega
            have hl0 := strip_last s k m hlm hi
            have hcut := strip_less s k m hlm
            have hcz : (s.extract k (m - 1)).size = m - 1 - k := by rw [ByteArray.size_extract]; omega
            cases hb2 : blk s (m - 1) with
            | true =>
              rw [hb2] at hl0
              have hend2 : ∀ j, m - 1 ≤ j → j < s.size → blk s j = true := fun j h1 h2 => by
                by_cases hj : j = m - 1
                · rw [hj]; exact hb2
                · exact hend j (by omega) h2
              have Hend2 : Hid (∀ j, m - 1 ≤ j → j < s.size → blk s j = true) := hend2
              clear hend hend2 hb2
              generalize s.extract k m = v at *
              go_wp2_with (go_at_call 11; refine (HB.out _ _).mono ?_; rintro e w' ⟨rfl, rfl⟩; rw [hl0])
              go_roundw
              case rel => exact ⟨m - 1, by omega, by omega, by first | rfl | exact congrArg Value.string hcut, Hend2.out, by first | rfl | trivial⟩
              case measure => first | (show (s.extract k (m - 1)).size < v.size; rw [hcz, hy]; omega) | (show (v.extract 0 (m - k - 1)).size < v.size; rw [hcut, hcz, hy]; omega)
            | false =>
              rw [hb2] at hl0
              have hr := Hfin.out m hkm hm hend (fun _ => hb2)
              clear hend hb2
              clear Hfin
              generalize s.extract k m = v at *
              subst hr
              go_wp2_with (go_at_call 11; refine (HB.out _ _).mono ?_; rintro e w' ⟨rfl, rfl⟩; rw [hl0])
              go_ret
              exact ⟨rfl, rfl⟩
          · have hr := Hfin.out m hkm hm hend (fun h => by omega)
            clear hend
            generalize s.extract k m = v at *
            subst hr
            go_wp2
            go_ret
            exact ⟨rfl, rfl⟩
    · have hkx : k < s.size → blk s k = false := fun h => absurd h hlt
      generalize hu : s.extract k s.size = u at *
      have Hu : Hid (s.extract k s.size = u) := hu
      clear hu
      go_wp2_with fail
      have Hfin : Hid (∀ m, k ≤ m → m ≤ s.size → (∀ j, m ≤ j → j < s.size → blk s j = true) → (k < m → blk s (m - 1) = false) → s.extract k m = R) := fun m a b c d => strip_one ⟨k, m, a, b, rfl, hall, c, fun e => ⟨hkx (by omega), d e⟩⟩ Htr.out
      clear hkx hall Htr
      go_loopw [0] (fun t wr' => ∃ m : Nat, k ≤ m ∧ m ≤ s.size ∧ t = .string (s.extract k m) ∧ (∀ j, m ≤ j → j < s.size → blk s j = true) ∧ wr' = wr) (fun t _ => match t with | .string x => x.size | _ => 0)
      case atStart => exact ⟨s.size, hk, Nat.le_refl _, congrArg Value.string Hu.out.symm, fun j h1 h2 => by omega, by first | rfl | trivial⟩
      case round =>
        obtain ⟨m, hkm, hm, rfl, hend, rfl⟩ := hrel
        have hy : (s.extract k m).size = m - k := by rw [ByteArray.size_extract]; omega
        by_cases hlm : k < m
        · exact absurd hlm (by omega)
        · have hr := Hfin.out m hkm hm hend (fun h => by omega)
          clear hend
          generalize s.extract k m = v at *
          subst hr
          go_wp2
          go_ret
          exact ⟨rfl, rfl⟩
end Go.Proofs.YtbefinbihopgfaaDoor
