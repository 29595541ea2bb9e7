/- The walk of the law UnitsOnce. -/
import Derived.Test.YtbefinbihopgfaaDoorUOnceM
import Derived.Test.YtbefinbihopgfaaDoorUWordsW
namespace Go.Proofs.YtbefinbihopgfaaDoor
open Go.RowKit Go.Lib

theorem uo_ne (x : ByteArray) (h : x.data.toList ≠ []) : (x.toList == []) = false := by
  rw [Lib.toList_data]
  simpa using h
theorem uo_byte (x : ByteArray) (h : ∀ b ∈ x.data.toList, bk b = false) (j : Nat) (hj : j < x.size) : blankB x[j].toNat = false :=
  h x[j] (by
    have : x[j] = x.data.toList[j]'(by rw [← Lib.size_eq]; exact hj) := rfl
    rw [this]
    exact List.getElem_mem _)

set_option maxRecDepth 100000 in
set_option maxHeartbeats 2000000 in
theorem onceLaw (s : ByteArray) (vl : Value) (ws : List ByteArray) (w : World) (hs : s.size ≤ 1048576) (hl : RdS w vl ws) (hn : ws.length ≤ 1048576) (hz : ∀ x ∈ ws, x.size ≤ 1048576) (hT : Tabs w) :
    Calls Tryd.prog 4 #[.string s, vl] w fun e w' => e = .returned (.bool true) ∧ Below w.heap.size w w' := by
  have HL : Hid (∀ W : World, _) := lives_any
  have hsl := uw_setlen ws
  have hsz : ∀ x ∈ setS ws, x.size ≤ 1048576 := fun x hx => hz x (by simpa using (fold_mem ws [] x).1 hx)
  have HSet : Hid (∀ (a : Value) W, RdS W a ws → _) := fun a W h => set_any a ws W h (by omega) (fun x hx => Nat.le_trans (hz x hx) (by omega))
  have HSet2 : Hid (∀ (a : Value) W, RdS W a (setS ws) → _) := fun a W h => set_any a (setS ws) W h (by omega) (fun x hx => Nat.le_trans (hsz x hx) (by omega))
  have HHas : Hid (∀ (a : Value) (x : ByteArray) (W : World), RdS W a (setS ws) → x ∈ ws → Calls Tryd.prog 21 #[a, .string x] W fun e w' => e = .returned (.bool true) ∧ w' = W) := fun a x W h hx => by
    have h3 := has_any a (setS ws) x W h (by omega)
    rw [set_has ws x hx] at h3
    exact h3
  have HStr : Hid (∀ (l : List ByteArray) (a b : Value) (W : World), l.length ≤ 2097152 → RdS W a l → RdS W b l → Calls Tryd.prog 8 #[a, b] W fun e w' => e = .returned (.bool true) ∧ Below W.heap.size W w') := fun l a b W hll h h' => by
    have h3 := rstrings_any a b l l W h h' (by omega)
    rw [uw_same] at h3
    exact h3
  have HB : Hid (∀ (b : Nat) (W : World), _) := fun b W => blank_any b W
  have hfl := flat_size s
  have hfd := flat_sizeD s
  have hff := flat_size (flatD s)
  have HLo : Hid (∀ W : World, _) := fun W => lower_any s W (by omega)
  have hll : (lowD s.data.toList).length = s.size := by rw [lowD, List.length_map, ← Lib.size_eq]
  have HLo2 : Hid (∀ W : World, Calls Tryd.prog 12 #[.string ⟨(lowD s.data.toList).toArray⟩] W fun e w' => e = .returned (.string ⟨(lowD s.data.toList).toArray⟩) ∧ Below W.heap.size W w') := fun W => by
    have h := lower_any ⟨(lowD s.data.toList).toArray⟩ W (by rw [Lib.size_eq]; simp; omega)
    simp only [lowD_lowD] at h
    exact h
  have HFo : Hid (∀ W : World, Calls Tryd.prog 14 #[.string s, .string ⟨(lowD s.data.toList).toArray⟩] W fun e w' => e = .returned (.bool true) ∧ Below W.heap.size W w') := fun W => by
    have h := fold_any s ⟨(lowD s.data.toList).toArray⟩ W (by omega) (by rw [Lib.size_eq]; simp; omega)
    rw [uw_fold] at h
    simp only [lowD_lowD, beq_self_eq_true] at h
    exact h
  have HSp : Hid (∀ W : World, _) := fun W => usplit_any s W (by omega)
  have HSp2 : Hid (∀ W : World, _) := fun W => usplit_any (flatD s) W (by omega)
  have hwl := words_len s
  have HCo : Hid (∀ W : World, _) := fun W => collapse_any s W (by omega) (by omega)
  have HCo2 : Hid (∀ W : World, _) := fun W => collapse_any (flatD s) W (by omega) (by omega)
  have HSt : Hid (∀ W : World, Tabs W → _) := fun W h => ustrip_any (flatD s) W (by omega) h
  have Hpl : Hid (∀ x ∈ wordsOf s, _) := fun x hx => word_plain s x hx
  have Hps : Hid (∀ x ∈ wordsOf s, x.size ≤ 1048576) := fun x hx => Nat.le_trans (words_size s x hx) hs
  rw [flat_flat] at HCo2
  rw [flat_strip] at HSt
  rw [flat_words] at HSp2
  rw [set_set] at HSet2
  clear hfl hfd hff hll hsz
  generalize wordsOf s = sw at *
  generalize flatD s = fs at *
  generalize (lowD s.data.toList).toArray = ls at *
  generalize setS ws = st at *
  go_enter Tryd.func4, Tryd.ntmps4
  go_wp2_with fail
  refine (HL.out _).mono ?_
  rintro e w1 ⟨rfl, b1⟩
  replace hl := hl.later b1
  replace hT := hT.later b1
  go_wp2_with fail
  refine (HSp.out _).mono ?_
  rintro e w2 ⟨A, rfl, _, cs, c⟩
  replace hl := hl.later c
  replace hT := hT.later c
  replace b1 := b1.trans (c.mono b1.size)
  clear c
  go_wp2_with fail
  go_loopw [20] (fun i wr => ∃ k : Nat, k ≤ sw.length ∧ i = .int .i64 k ∧ w2 = wr) (fun i _ => sw.length - (RowKit.intOf i).toNat)
  case atStart => exact ⟨0, Nat.zero_le _, rfl, rfl⟩
  case round =>
    obtain ⟨k, hk, rfl, rfl⟩ := hrel
    by_cases hlt : k < sw.length
    · have hx := cs.cell k hlt
      obtain ⟨p1, p2⟩ := Hpl.out _ (List.getElem_mem hlt)
      have hne := uo_ne _ p1
      have hxs := Hps.out _ (List.getElem_mem hlt)
      have HBy := uj_hid (uo_byte _ p2)
      clear p1 p2
      generalize sw[k] = x at *
      go_wp2_with fail
      go_loopw [8] (fun i wr => ∃ j : Nat, j ≤ x.size ∧ i = .int .i64 j ∧ w2 = wr) (fun i _ => x.size - (RowKit.intOf i).toNat)
      case atStart => exact ⟨0, Nat.zero_le _, rfl, rfl⟩
      case round =>
        obtain ⟨j, hj, rfl, rfl⟩ := hrel
        by_cases hjl : j < x.size
        · have hby := HBy.out j hjl
          go_wp2_with (go_at_call 10; refine (HB.out _ _).mono ?_; rintro e _ ⟨rfl, rfl⟩; rw [hby])
          go_roundw
          case rel => exact ⟨j + 1, by omega, by go_num, trivial⟩
          case measure => simp [RowKit.intOf]; omega
        · go_wp2
          go_roundw
          case rel => exact ⟨k + 1, by omega, by go_num, trivial⟩
          case measure => simp [RowKit.intOf]; omega
    · have hkl : k = sw.length := by omega
      subst hkl
      have r1 := cs.rd sw.length
      clear cs
      go_wp2_with fail
      refine (HSet.out _ _ hl).mono ?_
      rintro e w3 ⟨sv, rfl, os, c⟩
      have rs := own_RdS os
      replace r1 := r1.later c
      replace hl := hl.later c
      replace hT := hT.later c
      replace b1 := b1.trans (c.mono b1.size)
      clear c os
      obtain ⟨o, cap, rfl, g⟩ := hl
      go_wp2_with fail
      go_loopw [41] (fun i wr => ∃ k : Nat, k ≤ ws.length ∧ i = .int .i64 k ∧ w3 = wr) (fun i _ => ws.length - (RowKit.intOf i).toNat)
      case atStart => exact ⟨0, Nat.zero_le _, rfl, rfl⟩
      case round =>
        obtain ⟨k, hk, rfl, rfl⟩ := hrel
        by_cases hlt : k < ws.length
        · obtain ⟨a, rfl, ha, hc⟩ := g (by omega)
          have hx := hc k hlt
          have hH := HHas.out _ _ w3 rs (List.getElem_mem hlt)
          clear hc g
          generalize ws[k] = x at *
          go_wp2_with (go_at_call 21; refine hH.mono ?_; rintro e _ ⟨rfl, rfl⟩)
          go_roundw
          case rel => exact ⟨k + 1, by omega, by go_num, trivial⟩
          case measure => simp [RowKit.intOf]; omega
        · clear g
          go_wp2_with fail
          refine (HLo.out _).mono ?_
          rintro e w4 ⟨rfl, c⟩
          replace r1 := r1.later c
          replace rs := rs.later c
          replace hT := hT.later c
          replace b1 := b1.trans (c.mono b1.size)
          clear c
          go_wp2_with fail
          refine (HCo.out _).mono ?_
          rintro e w5 ⟨rfl, c⟩
          replace r1 := r1.later c
          replace rs := rs.later c
          replace hT := hT.later c
          replace b1 := b1.trans (c.mono b1.size)
          clear c
          go_wp2_with fail
          refine (HLo2.out _).mono ?_
          rintro e w6 ⟨rfl, c⟩
          replace r1 := r1.later c
          replace rs := rs.later c
          replace hT := hT.later c
          replace b1 := b1.trans (c.mono b1.size)
          clear c
          go_wp2_with fail
          refine (HFo.out _).mono ?_
          rintro e w7 ⟨rfl, c⟩
          replace r1 := r1.later c
          replace rs := rs.later c
          replace hT := hT.later c
          replace b1 := b1.trans (c.mono b1.size)
          clear c
          go_wp2_with fail
          refine (HCo2.out _).mono ?_
          rintro e w8 ⟨rfl, c⟩
          replace r1 := r1.later c
          replace rs := rs.later c
          replace hT := hT.later c
          replace b1 := b1.trans (c.mono b1.size)
          clear c
          go_wp2_with fail
          refine (HSt.out _ hT).mono ?_
          rintro e w9 ⟨rfl, c⟩
          replace r1 := r1.later c
          replace rs := rs.later c
          replace b1 := b1.trans (c.mono b1.size)
          clear c hT
          go_wp2_with fail
          refine (HSp2.out _).mono ?_
          rintro e w10 ⟨A2, rfl, _, cs2, c⟩
          have r2 := cs2.rd sw.length
          replace r1 := r1.later c
          replace rs := rs.later c
          replace b1 := b1.trans (c.mono b1.size)
          clear c cs2
          go_wp2_with fail
          refine (HStr.out sw _ _ _ (by omega) r2 r1).mono ?_
          rintro e w11 ⟨rfl, c⟩
          replace rs := rs.later c
          replace b1 := b1.trans (c.mono b1.size)
          clear c r1 r2
          go_wp2_with fail
          refine (HSet2.out _ _ rs).mono ?_
          rintro e w12 ⟨sv2, rfl, os, c⟩
          have r2 := own_RdS os
          replace rs := rs.later c
          replace b1 := b1.trans (c.mono b1.size)
          clear c os
          go_wp2_with fail
          refine (HStr.out st _ _ _ (by omega) r2 rs).mono ?_
          rintro e w13 ⟨rfl, c⟩
          replace b1 := b1.trans (c.mono b1.size)
          clear c r2 rs
          go_wp2
          go_ret
          exact ⟨rfl, b1⟩
end Go.Proofs.YtbefinbihopgfaaDoor
