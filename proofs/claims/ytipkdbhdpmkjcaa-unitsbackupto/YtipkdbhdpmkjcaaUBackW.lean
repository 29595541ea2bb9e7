/- The walks of the law's 'valid' and of the law UnitsBack. -/
import Derived.Test.YtipkdbhdpmkjcaaUMath
import Derived.Test.YtipkdbhdpmkjcaaUTextsW
namespace Go.Proofs.Ytipkdbhdpmkjcaa
open Go.RowKit Go.Lib

def validB (s : ByteArray) : Bool := vlD s.data.toList == s.size

set_option maxRecDepth 100000 in
set_option maxHeartbeats 1000000 in
theorem valid_any (s : ByteArray) (w : World) (hs : s.size ≤ 17592186044416) : Calls Try.prog 21 #[.string s] w fun e w' => e = .returned (.bool (validB s)) ∧ Below w.heap.size w w' := by
  obtain ⟨V, hV⟩ : ∃ V, vlD s.data.toList = V := ⟨_, rfl⟩
  unfold validB
  rw [hV]
  have HV : Hid (vlD s.data.toList = V) := hV
  clear hV
  go_enter Try.func21, Try.ntmps21
  go_wp2
  go_loopw [3] (fun v wr => ∃ (pos done : Nat), pos ≤ s.size ∧ v = .int .i64 done ∧ wr.heap[w.heap.size]? = some (.stringIter s pos) ∧ Below w.heap.size w wr ∧
      done ≤ 4 * pos ∧ Hid (done + vlD (s.data.toList.drop pos) = V)) (fun _ wr => s.size - wr.iterPos w.heap.size)
  case atStart => exact ⟨0, 0, Nat.zero_le _, rfl, World.iter_heap w s 0, (Below.refl _ w).alloc (Nat.le_refl _) _, by simp, by have h := HV.out; show _ = _; rw [Nat.zero_add]; exact h⟩
  case round =>
    obtain ⟨pos, done, hpos, rfl, hit, hbw, hd, hu⟩ := hrel
    have hkl : w.heap.size < wr.heap.size := (Array.getElem?_eq_some_iff.1 hit).1
    by_cases hlt : pos < s.size
    · have hnx := fun ty => run_next_any_at (P := Try.prog) wr w.heap.size s pos ty hit hlt
      have hw := width_pos s pos
      have hfit := decode_fits s pos hlt
      have hle := rune_le s pos
      have hit' := iterAt_heap wr w.heap.size s pos (pos + (Utf8.decode s pos).2) hit
      have hbi := below_iterAt hbw (k := w.heap.size) (Nat.le_refl _) s (pos + (Utf8.decode s pos).2)
      have hn : Hid ((done + widthR (Utf8.decode s pos).1) + vlD (s.data.toList.drop (pos + (Utf8.decode s pos).2)) = V) := by
        have h := hu.out
        rw [vlD_step _ (drop_ne s pos hlt), Lib.decodeL_drop, List.drop_drop] at h
        show _ = _
        omega
      clear hu
      generalize wr.iterAt w.heap.size s (pos + (Utf8.decode s pos).2) = wi at *
      generalize (Utf8.decode s pos).2 = wd at *
      generalize (Utf8.decode s pos).1 = r at *
      unfold widthR at hn
      by_cases h1 : r < 128
      · rw [if_pos h1] at hn
        have q1 : (r : Int) < 128 := by omega
        go_wp2
        go_roundw
        case rel => exact ⟨pos + wd, done + 1, hfit, by go_num, hit', hbi, by omega, hn⟩
        case measure => simp only [World.iterPos, hit', hit]; omega
      · have q1 : ¬ (r : Int) < 128 := by omega
        rw [if_neg h1] at hn
        by_cases h2 : r < 2048
        · rw [if_pos h2] at hn
          have q2 : (r : Int) < 2048 := by omega
          go_wp2
          go_roundw
          case rel => exact ⟨pos + wd, done + 2, hfit, by go_num, hit', hbi, by omega, hn⟩
          case measure => simp only [World.iterPos, hit', hit]; omega
        · have q2 : ¬ (r : Int) < 2048 := by omega
          rw [if_neg h2] at hn
          by_cases h3 : r < 65536
          · rw [if_pos h3] at hn
            have q3 : (r : Int) < 65536 := by omega
            go_wp2
            go_roundw
            case rel => exact ⟨pos + wd, done + 3, hfit, by go_num, hit', hbi, by omega, hn⟩
            case measure => simp only [World.iterPos, hit', hit]; omega
          · have q3 : ¬ (r : Int) < 65536 := by omega
            rw [if_neg h3] at hn
            go_wp2
            go_roundw
            case rel => exact ⟨pos + wd, done + 4, hfit, by go_num, hit', hbi, by omega, hn⟩
            case measure => simp only [World.iterPos, hit', hit]; omega
    · have hnx := fun ty => run_next_end_at (P := Try.prog) wr w.heap.size s pos ty hit hlt
      have hnil : s.data.toList.drop pos = [] := List.drop_eq_nil_of_le (by rw [← Lib.size_eq]; omega)
      have hVd : V = done := by rw [← hu.out, hnil, vlD_nil, Nat.add_zero]
      subst hVd
      have hb : Hid (((V : Int) == (s.size : Int)) = (V == s.size)) := by
        show _ = _
        by_cases h : V = s.size
        · rw [h]; simp
        · have h' : ¬ (V : Int) = (s.size : Int) := by omega
          rw [beq_eq_false_iff_ne.2 h, beq_eq_false_iff_ne.2 h']
      clear hu hnil
      go_wp2
      go_ret
      refine ⟨?_, hbw⟩
      show Ending.returned (.bool _) = _
      rw [← hb.out]

theorem ofU_small (U : List Nat) (h : U.length ≤ 16384) : ofU U = U := if_neg (by omega)
theorem ofE_small (U : List Nat) (h : U.length ≤ 16384) : ofE U = 0 := if_neg (by omega)
theorem ofE_big (U : List Nat) (h : ¬ U.length ≤ 16384) : ofE U = 4 := if_pos (by omega)

theorem unD_lt : ∀ (n : Nat) (l : List UInt8), l.length ≤ n → ∀ x ∈ unD l, x < 65536
  | 0, l, hn => by
    have : l = [] := List.eq_nil_of_length_eq_zero (by omega)
    subst this
    intro x hx
    simp [unD_nil] at hx
  | n + 1, l, hn => by
    by_cases hne : l = []
    · subst hne
      intro x hx
      simp [unD_nil] at hx
    · intro x hx
      have hw := decodeL_width l
      rw [unD_step l hne] at hx
      rcases List.mem_append.1 hx with h | h
      · exact unitsR_lt _ (decodeL_rune l) x h
      · exact unD_lt n _ (by rw [List.length_drop]; omega) x h

/-- What Of makes of a text that isn't too long, turned to a text. -/
theorem text_back (s : ByteArray) (v : Value) (W : World) (hU : (unD s.data.toList).length ≤ 16384) (hv : validB s = true) (h : RdU W v (unD s.data.toList)) :
    Calls Try.prog 9 #[v] W fun e w' => e = .returned (.tuple #[.string s, .bool false]) ∧ Below W.heap.size W w' := by
  have hc := text_any v _ W h (by omega) (unD_lt _ _ (Nat.le_refl _))
  have hv' : vlD s.data.toList = s.data.toList.length := by rw [← Lib.size_eq]; simpa [validB] using hv
  obtain ⟨e1, e2⟩ := there_back _ s.data.toList (Nat.le_refl _) hv'
  rw [e1, e2] at hc
  exact hc

set_option maxRecDepth 100000 in
set_option maxHeartbeats 2000000 in
theorem backLaw (s : ByteArray) (v1 : Value) (us : List Nat) (w : World) (hs : s.size ≤ 17592186044416) (h1 : RdU w v1 us) (hn1 : us.length ≤ 17592186044416) (hu : ∀ x ∈ us, x < 65536) :
    Calls Try.prog 5 #[.string s, v1] w fun e w' => e = .returned (.bool true) ∧ Below w.heap.size w w' := by
  have HL : Hid (∀ W : World, _) := lives_any
  have HA : Hid (∀ W : World, _) := fun W => (of_any s W).mono (fun e w' h => of_rd h)
  have HV : Hid (∀ W : World, _) := fun W => valid_any s W hs
  have HT : Hid (∀ W, RdU W v1 us → _) := fun W h => text_any v1 us W h hn1 hu
  have HK : Hid ((unD s.data.toList).length ≤ 16384 → validB s = true → ∀ (v : Value) W, RdU W v (unD s.data.toList) → _) := fun hU hv v W h => text_back s v W hU hv h
  have hbk : Hid ((txD us).2 = false → unD (⟨(textR (txD us).1).toArray⟩ : ByteArray).data.toList = us) := fun h => back_there us.length us (Nat.le_refl _) hu h
  have HB : Hid (∀ W : World, _) := fun W => (of_any ⟨(textR (txD us).1).toArray⟩ W).mono (fun e w' h => of_rd h)
  have HS : Hid (us.length ≤ 16384 → ∀ (a b : Value) (W : World), RdU W a us → RdU W b us → _) := fun hl a b W h h' => rsame_any a b us us W h h' (by omega) (by omega)
  have hsame : sameU us us = true := by simp [sameU]
  rw [hsame] at HS
  obtain ⟨o1, c1, hv1, _⟩ := h1.form
  subst hv1
  generalize (textR (txD us).1) = tx at *
  generalize (txD us).2 = al at *
  go_enter Try.func5, Try.ntmps5
  go_wp2_with fail
  refine (HL.out _).mono ?_
  rintro e w1 ⟨rfl, b1⟩
  replace h1 := h1.later b1
  go_wp2_with fail
  refine (HA.out _).mono ?_
  rintro e w2 ⟨a, rfl, ra, b2⟩
  replace h1 := h1.later b2
  replace b1 := b1.trans (b2.mono b1.size)
  clear b2
  by_cases hU : (unD s.data.toList).length ≤ 16384
  · rw [ofE_small _ hU]
    rw [ofU_small _ hU] at ra
    cases hval : validB s with
    | true =>
      have HK2 := HK.out hU hval a
      rw [hval] at HV
      have hse : (s.toList == s.toList) = true := by simp
      go_wp2_with fail
      refine (HV.out _).mono ?_
      rintro e w3 ⟨rfl, b2⟩
      replace h1 := h1.later b2
      replace ra := ra.later b2
      replace b1 := b1.trans (b2.mono b1.size)
      clear b2
      have HK3 := HK2 w3 ra
      clear HK2
      go_wp2_with fail
      refine HK3.mono ?_
      rintro e wz ⟨rfl, b2⟩
      replace h1 := h1.later b2
      replace b1 := b1.trans (b2.mono b1.size)
      clear b2 ra HK3
      go_wp2_with fail
      refine (HT.out _ h1).mono ?_
      rintro e w4 ⟨rfl, b2⟩
      replace h1 := h1.later b2
      replace b1 := b1.trans (b2.mono b1.size)
      clear b2
      cases al with
      | true =>
        go_wp2
        go_ret
        exact ⟨rfl, b1⟩
      | false =>
        by_cases hl : us.length ≤ 16384
        · have q : ¬ (16384 : Int) < (us.length : Int) := by omega
          have hB2 := HB.out w4
          rw [hbk.out rfl, ofE_small us hl, ofU_small us hl] at hB2
          go_wp2_with fail
          refine hB2.mono ?_
          rintro e w5 ⟨b, rfl, rb, b2⟩
          replace h1 := h1.later b2
          replace b1 := b1.trans (b2.mono b1.size)
          clear b2 hB2
          have hS2 := HS.out hl b _ w5 rb h1
          go_wp2_with fail
          refine hS2.mono ?_
          rintro e w6 ⟨rfl, b2⟩
          replace b1 := b1.trans (b2.mono b1.size)
          clear b2 hS2
          go_wp2
          go_ret
          exact ⟨rfl, b1⟩
        · have q : (16384 : Int) < (us.length : Int) := by omega
          go_wp2
          go_ret
          exact ⟨rfl, b1⟩
    | false =>
      rw [hval] at HV
      go_wp2_with fail
      refine (HV.out _).mono ?_
      rintro e wz ⟨rfl, b2⟩
      replace h1 := h1.later b2
      replace b1 := b1.trans (b2.mono b1.size)
      clear b2 ra
      go_wp2_with fail
      refine (HT.out _ h1).mono ?_
      rintro e w4 ⟨rfl, b2⟩
      replace h1 := h1.later b2
      replace b1 := b1.trans (b2.mono b1.size)
      clear b2
      cases al with
      | true =>
        go_wp2
        go_ret
        exact ⟨rfl, b1⟩
      | false =>
        by_cases hl : us.length ≤ 16384
        · have q : ¬ (16384 : Int) < (us.length : Int) := by omega
          have hB2 := HB.out w4
          rw [hbk.out rfl, ofE_small us hl, ofU_small us hl] at hB2
          go_wp2_with fail
          refine hB2.mono ?_
          rintro e w5 ⟨b, rfl, rb, b2⟩
          replace h1 := h1.later b2
          replace b1 := b1.trans (b2.mono b1.size)
          clear b2 hB2
          have hS2 := HS.out hl b _ w5 rb h1
          go_wp2_with fail
          refine hS2.mono ?_
          rintro e w6 ⟨rfl, b2⟩
          replace b1 := b1.trans (b2.mono b1.size)
          clear b2 hS2
          go_wp2
          go_ret
          exact ⟨rfl, b1⟩
        · have q : (16384 : Int) < (us.length : Int) := by omega
          go_wp2
          go_ret
          exact ⟨rfl, b1⟩
  · rw [ofE_big _ hU]
    go_wp2_with fail
    refine (HT.out _ h1).mono ?_
    rintro e w4 ⟨rfl, b2⟩
    replace h1 := h1.later b2
    replace b1 := b1.trans (b2.mono b1.size)
    clear b2
    cases al with
    | true =>
      go_wp2
      go_ret
      exact ⟨rfl, b1⟩
    | false =>
      by_cases hl : us.length ≤ 16384
      · have q : ¬ (16384 : Int) < (us.length : Int) := by omega
        have hB2 := HB.out w4
        rw [hbk.out rfl, ofE_small us hl, ofU_small us hl] at hB2
        go_wp2_with fail
        refine hB2.mono ?_
        rintro e w5 ⟨b, rfl, rb, b2⟩
        replace h1 := h1.later b2
        replace b1 := b1.trans (b2.mono b1.size)
        clear b2 hB2
        have hS2 := HS.out hl b _ w5 rb h1
        go_wp2_with fail
        refine hS2.mono ?_
        rintro e w6 ⟨rfl, b2⟩
        replace b1 := b1.trans (b2.mono b1.size)
        clear b2 hS2
        go_wp2
        go_ret
        exact ⟨rfl, b1⟩
      · have q : (16384 : Int) < (us.length : Int) := by omega
        go_wp2
        go_ret
        exact ⟨rfl, b1⟩

theorem backLaw_upto (s : ByteArray) (v1 : Value) (us : List Nat) (w : World) (hs : s.size ≤ 1048576) (h1 : RdU w v1 us) (hn1 : us.length ≤ 1048576) (hu : ∀ x ∈ us, x < 65536) :
    Calls Try.prog 5 #[.string s, v1] w fun e w' => e = .returned (.bool true) ∧ Below w.heap.size w w' :=
  backLaw s v1 us w (by omega) h1 (by omega) hu
end Go.Proofs.Ytipkdbhdpmkjcaa
