/- The walk of canopyref01.Split. -/
import Derived.Test.YtbefinbihopgfaaDoorUWords
import Derived.Test.YtbefinbihopgfaaDoorUWRef
namespace Go.Proofs.YtbefinbihopgfaaDoor
open Go.RowKit Go.Lib

theorem blk_at (s : ByteArray) (k : Nat) (h : k < s.size) : blankB s[k].toNat = blk s k := by
  unfold blk
  rw [List.getD_eq_getElem?_getD, List.getElem?_eq_getElem (by rw [← Lib.size_eq]; exact h)]
  rfl
theorem wordsTo_len (s : ByteArray) : ∀ k, (wordsTo s k).length ≤ k
  | 0 => by simp [wordsTo, spB]
  | k + 1 => by
    have := wordsTo_len s k
    unfold wordsTo at this ⊢
    rw [List.length_map] at this ⊢
    unfold spB
    split
    · dsimp only
      split
      · rw [List.length_append]
        simp
        omega
      · omega
    · omega
theorem words_skip (s : ByteArray) (k : Nat) (h : blk s k = false) : spB s (k + 1) = spB s k ∧ wordsTo s (k + 1) = wordsTo s k := by
  have e : spB s (k + 1) = spB s k := by
    conv => lhs; unfold spB
    rw [if_neg (by rw [h]; decide)]
  exact ⟨e, by unfold wordsTo; rw [e]⟩
theorem words_gap (s : ByteArray) (k : Nat) (h : blk s k = true) : (spB s (k + 1)).2 = k + 1 ∧ wordsTo s (k + 1) = if (spB s k).2 < k then wordsTo s k ++ [s.extract (spB s k).2 k] else wordsTo s k := by
  have e : spB s (k + 1) = ((if (spB s k).2 < k then (spB s k).1 ++ [((spB s k).2, k)] else (spB s k).1), k + 1) := by
    conv => lhs; unfold spB
    rw [if_pos h]
  refine ⟨by rw [e], ?_⟩
  unfold wordsTo
  rw [e]
  dsimp only
  split
  · simp
  · rfl

set_option maxRecDepth 100000 in
set_option maxHeartbeats 2000000 in
theorem rsplit_any (s : ByteArray) (w : World) (hs : s.size ≤ 1099511627776) :
    Calls Tryd.prog 18 #[.string s] w fun e w' => ∃ v', e = .returned v' ∧ w'.ownsRow w.heap.size 9 1 v' (goFieldsP blankB s).length ((goFieldsP blankB s).map Value.string) ∧ Below w.heap.size w w' := by
  obtain ⟨i0, hi, hz0, hz1, hz2⟩ := info_parts Tryd.infoStr
  have HB : Hid (∀ (x : Nat) (W : World), _) := rblank_any
  have Hw : Hid (goFieldsP blankB s = _) := words_eqB s
  generalize goFieldsP blankB s = ws at Hw ⊢
  go_enter Tryd.func18, Tryd.ntmps18
  go_wp2
  go_loopw [3, 4, 5] (fun v fr i wr => Below w.heap.size w wr ∧ ((∃ k : Nat, k ≤ s.size ∧ i = .int .i64 k ∧ fr = .int .i64 ((spB s k).2 : Nat) ∧ wr.ownsRow w.heap.size 9 1 v (wordsTo s k).length ((wordsTo s k).map Value.string)) ∨ (∃ z : Nat, i = .int .i64 ((s.size : Int) + 1) ∧ fr = .int .i64 z ∧ wr.ownsRow w.heap.size 9 1 v ws.length (ws.map Value.string)))) (fun _ _ i _ => s.size + 1 - (RowKit.intOf i).toNat)
  case atStart => exact ⟨Below.refl _ _, .inl ⟨0, Nat.zero_le _, rfl, rfl, World.ownsRow_nil _ _ _ _⟩⟩
  case round =>
    obtain ⟨hnx, ⟨k, hk, rfl, rfl, hrow⟩ | ⟨z, rfl, rfl, hrow⟩⟩ := hrel
    · have hsw := hnx.size
      have hle := spB_le s k
      have hwl := wordsTo_len s k
      by_cases hlt : k < s.size
      · have hbk := blk_at s k hlt
        cases hb : blk s k with
        | false =>
          rw [hb] at hbk
          obtain ⟨e1, e2⟩ := words_skip s k hb
          clear hb
          go_wp2_with (go_at_call 11; refine (HB.out _ _).mono ?_; rintro e w' ⟨rfl, rfl⟩; rw [hbk])
          go_roundw
          case rel => exact ⟨hnx, .inl ⟨k + 1, by omega, by go_num, by rw [e1], by rw [e2]; exact hrow⟩⟩
          case measure => simp [RowKit.intOf]; omega
        | true =>
          rw [hb] at hbk
          obtain ⟨e1, e2⟩ := words_gap s k hb
          clear hb
          by_cases ha : (spB s k).2 < k
          · rw [if_pos ha] at e2
            generalize (spB s k).2 = a at *
            generalize wordsTo s k = wk at *
            go_wp2_with (first
              | (go_at_call 11; refine (HB.out _ _).mono ?_; rintro e w' ⟨rfl, rfl⟩; rw [hbk])
              | (at_builtin; refine wpList_append_own _ rfl _ _ 22 rfl w.heap.size 9 i0 (.string ⟨#[]⟩) 1 16 Tryd.underlying22 hi hz0 hz1 hz2 rfl (by decide) _ _ _ rfl (hrow.alloc _) ⟨w'.heap.size, 0, none⟩ 1 1 [.string (s.extract a k)] rfl rfl ?c1 ?c2 ?c3 ?c4 ?c5 ?_))
            case c1 =>
              intro j u hj
              match j, hj with
              | 0, hj => simp at hj; subst hj; simp [Addr.add]
            case c2 => intro u hu; simp at hu; subst hu; rfl
            case c3 => unfold maxLen; omega
            case c4 => omega
            case c5 => simp; omega
            intro v' w3 hown' hgrow2 _
            go_wp2
            go_roundw
            case rel =>
              refine ⟨?_, .inl ⟨k + 1, by omega, by go_num, by rw [e1]; go_num, ?_⟩⟩
              · exact (hnx.alloc hnx.size _).grown hgrow2 (by simp; omega) (fun j hj => (hrow.lt j hj).1)
              · rw [e2]
                simpa using hown'
            case measure => simp [RowKit.intOf]; omega
          · rw [if_neg ha] at e2
            generalize (spB s k).2 = a at *
            generalize wordsTo s k = wk at *
            go_wp2_with (go_at_call 11; refine (HB.out _ _).mono ?_; rintro e w' ⟨rfl, rfl⟩; rw [hbk])
            go_roundw
            case rel => exact ⟨hnx, .inl ⟨k + 1, by omega, by go_num, by rw [e1]; go_num, by rw [e2]; exact hrow⟩⟩
            case measure => simp [RowKit.intOf]; omega
      · have hke : k = s.size := by omega
        subst hke
        have hw := Hw.out
        clear Hw
        by_cases ha : (spB s s.size).2 < s.size
        · rw [if_pos ha] at hw
          generalize (spB s s.size).2 = a at *
          generalize wordsTo s s.size = wk at *
          have Hw2 : Hid (ws = wk ++ [s.extract a s.size]) := hw
          clear hw
          go_wp2_with (at_builtin; refine wpList_append_own _ rfl _ _ 22 rfl w.heap.size 9 i0 (.string ⟨#[]⟩) 1 16 Tryd.underlying22 hi hz0 hz1 hz2 rfl (by decide) _ _ _ rfl (hrow.alloc _) ⟨wr.heap.size, 0, none⟩ 1 1 [.string (s.extract a s.size)] rfl rfl ?c1 ?c2 ?c3 ?c4 ?c5 ?_)
          case c1 =>
            intro j u hj
            match j, hj with
            | 0, hj => simp at hj; subst hj; simp [Addr.add]
          case c2 => intro u hu; simp at hu; subst hu; rfl
          case c3 => unfold maxLen; omega
          case c4 => omega
          case c5 => simp; omega
          intro v' w3 hown' hgrow2 _
          go_wp2
          go_roundw
          case rel =>
            refine ⟨?_, .inr ⟨s.size + 1, by go_num, by go_num, ?_⟩⟩
            · exact (hnx.alloc hnx.size _).grown hgrow2 (by simp; omega) (fun j hj => (hrow.lt j hj).1)
            · rw [Hw2.out]
              simpa using hown'
          case measure => simp [RowKit.intOf]
        · rw [if_neg ha] at hw
          generalize (spB s s.size).2 = a at *
          generalize wordsTo s s.size = wk at *
          subst hw
          go_wp2
          go_roundw
          case rel => exact ⟨hnx, .inr ⟨s.size + 1, by go_num, by go_num, hrow⟩⟩
          case measure => simp [RowKit.intOf]
    · go_wp2
      go_ret
      exact ⟨_, rfl, hrow, hnx⟩
end Go.Proofs.YtbefinbihopgfaaDoor
