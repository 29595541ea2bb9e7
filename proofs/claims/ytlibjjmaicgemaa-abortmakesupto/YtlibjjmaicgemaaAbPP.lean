/- The reference of abort: Any that is refused. -/
import Derived.Test.YtlibjjmaicgemaaAbOO
import Derived.Test.YtlibjjmaicgemaaAbT
namespace Go.Proofs.Ytlibjjmaicgemaa
open Go.RowKit Go.Lib Go.Shelf

/-- Why, behind some of the sources. -/
def whyD (n : Nat) (E : Int) (l : List Int) : Int := if (E == 0) = true then (if l.any (outD n) = true then 2 else 0) else E
theorem why_keep {n : Nat} {E Y : Int} {l : List Int} {x : Int} (h : whyD n E l = Y) (hY : (Y == 0) = false) : whyD n E (l ++ [x]) = Y := by
  unfold whyD at *
  cases hE : (E == 0) with
  | false => rw [hE] at h; rw [if_neg Bool.false_ne_true] at h ⊢; exact h
  | true =>
    rw [hE, if_pos rfl] at h
    rw [if_pos rfl, List.any_append]
    cases ha : l.any (outD n) with
    | true => rw [ha, if_pos rfl] at h; rw [Bool.true_or, if_pos rfl]; exact h
    | false =>
      rw [ha, if_neg Bool.false_ne_true] at h
      rw [← h] at hY
      cases hY
theorem why_zero {n : Nat} {E : Int} {l : List Int} (h : whyD n E l = 0) : (E == 0) = true ∧ l.any (outD n) = false := by
  unfold whyD at h
  cases hE : (E == 0) with
  | false =>
    rw [hE, if_neg Bool.false_ne_true] at h
    rw [h] at hE
    cases hE
  | true =>
    rw [hE, if_pos rfl] at h
    cases ha : l.any (outD n) with
    | true => rw [ha, if_pos rfl] at h; cases h
    | false => exact ⟨rfl, rfl⟩
theorem why_step {n : Nat} {E : Int} {l : List Int} {x : Int} (h : whyD n E l = 0) : whyD n E (l ++ [x]) = if outD n x = true then 2 else 0 := by
  obtain ⟨h1, h2⟩ := why_zero h
  unfold whyD
  rw [if_pos h1, List.any_append, h2, Bool.false_or, List.any_cons, List.any_nil, Bool.or_false]
/-- Why, ahead of the sources. -/
def why0 (ls : List SigD) (is : List Int) : Int := if (checkS ls == 0) = true then (if 1024 ≤ ls.length ∨ 1024 < is.length then 3 else 0) else checkS ls
theorem why_any (ls : List SigD) (is : List Int) : whyD ls.length (why0 ls is) is = anyE ls is := by
  unfold whyD why0 anyE fullE
  cases hc : (checkS ls == 0) with
  | false =>
    rw [if_neg Bool.false_ne_true, if_neg Bool.false_ne_true, hc, if_neg Bool.false_ne_true, if_neg Bool.false_ne_true]
  | true =>
    have hz : checkS ls = 0 := by simpa using hc
    have hb := full_big hz
    rw [if_pos rfl, if_pos rfl]
    by_cases hf : ls.length = 1024
    · have e3 : (if 1024 ≤ ls.length ∨ 1024 < is.length then (3 : Int) else 0) = 3 := if_pos (Or.inl (by omega))
      rw [e3, if_pos hf]
      rfl
    · by_cases hi : 1024 < is.length
      · have e3 : (if 1024 ≤ ls.length ∨ 1024 < is.length then (3 : Int) else 0) = 3 := if_pos (Or.inr hi)
        rw [e3, if_neg hf, if_pos hi]
        rfl
      · have e3 : (if 1024 ≤ ls.length ∨ 1024 < is.length then (3 : Int) else 0) = 0 := if_neg (by omega)
        rw [e3, if_neg hf, if_neg hi]
set_option maxRecDepth 100000 in
set_option maxHeartbeats 8000000 in
theorem anyR_err (v iv : Value) (ls : List SigD) (is : List Int) (w : World) (hv : RdS w v ls) (hi : RdI w iv is) (hl : ls.length ≤ 1099511627776) (hil : is.length ≤ 1099511627776) (hs : SmallS ls) (he : (anyE ls is != 0) = true) :
    Calls Try.prog 11 #[v, iv] w fun e w' => e = .returned (.tuple #[.slice none 0 0, .int .i64 0, .int .i64 (anyE ls is)]) ∧ Below w.heap.size w w' := by
  have hC := checkR_all v ls w hv hl hs
  have HV := hid hv
  obtain ⟨o, c, rfl, _, g⟩ := hv
  obtain ⟨io, ic, rfl, _, gi⟩ := hi
  have GI := hid gi
  have Hwa := hid (why_any ls is)
  clear hs g gi
  generalize anyE ls is = R at *
  unfold why0 at Hwa
  generalize checkS ls = E at *
  rcases (show ((E == 0) = false) ∨ (E = 0 ∧ 1024 ≤ ls.length) ∨ (E = 0 ∧ ls.length < 1024 ∧ 1024 < is.length) ∨ (E = 0 ∧ ls.length < 1024 ∧ is.length ≤ 1024) by
    cases hE : (E == 0) with
    | false => exact .inl rfl
    | true =>
      have hz : E = 0 := by simpa using hE
      by_cases h1 : 1024 ≤ ls.length
      · exact .inr (.inl ⟨hz, h1⟩)
      · by_cases h2 : 1024 < is.length
        · exact .inr (.inr (.inl ⟨hz, by omega, h2⟩))
        · exact .inr (.inr (.inr ⟨hz, by omega, by omega⟩))) with hE | ⟨rfl, h1⟩ | ⟨rfl, h1, h2⟩ | ⟨rfl, h1, h2⟩
  · rw [hE, if_neg Bool.false_ne_true] at Hwa
    have H0 : Hid (whyD ls.length (E) (is.take 0) = E) := by
      show _ = _
      unfold whyD
      rw [hE, if_neg Bool.false_ne_true]
    go_enter Try.func11, Try.ntmps11
    go_wp2_with (go_at_call 15; refine hC.mono ?_; rintro e w2 ⟨rfl, hb⟩; have HB := hid hb; clear hb)
    go_loopw [7, 35] (fun y t wr => ∃ (k : Nat) (Y : Int), k ≤ is.length ∧ y = .int .i64 Y ∧ t = .int .i64 k ∧ Hid (Below w.heap.size w wr) ∧ Hid (whyD ls.length (E) (is.take k) = Y)) (fun _ t _ => is.length - (RowKit.intOf t).toNat)
    case atStart => exact ⟨0, E, Nat.zero_le _, rfl, rfl, HB, H0⟩
    case round =>
      obtain ⟨k, Y, k1, rfl, rfl, hB, hY⟩ := hrel
      clear HB H0
      by_cases hlt : k < is.length
      · obtain ⟨ib, ioff, rfl, hibl, hia⟩ := GI.out (by omega)
        have x0 := (hB.out.cell (p := ⟨ib, ioff + k, none⟩) hibl).trans (hia k hlt)
        have q1 : (0 : Int) ≤ (k : Int) := by omega
        have q2 : (k : Int) < (is.length : Int) := by omega
        have HTk : Hid (is.take (k + 1) = is.take k ++ [is[k]]) := List.take_succ_eq_append_getElem hlt
        clear hia GI Hwa
        cases hY0 : (Y == 0) with
        | false =>
          have Hn : Hid (whyD ls.length (E) (is.take (k + 1)) = Y) := by
            show _ = _
            rw [HTk.out]
            exact why_keep hY.out hY0
          cases ho : outD ls.length is[k] with
          | true =>
            clear HV hY HTk
            generalize is[k] = x at *
            go_wp2_with (go_at_call 28; refine (ofR_no o ls.length c x wr ho).mono ?_; rintro e w3 ⟨rfl, hb⟩; have HB3 := hid ((hB.out.trans (hb.mono hB.out.size)).trans (((Below.refl _ w3).alloc (o := .cells #[.bool false, .int .i64 0, .bool false, .slice none 0 0, .slice none 0 0] 42) (Nat.le_refl _)).mono (hB.out.trans (hb.mono hB.out.size)).size)); clear hb)
            go_roundw
            case rel => exact ⟨k + 1, Y, by omega, rfl, by go_num, HB3, Hn⟩
            case measure => simp [RowKit.intOf]; omega
          | false =>
            obtain ⟨p, hpe, hp⟩ := out_no ho
            have HO : Hid (∀ V : World, Below w.heap.size w V → _) := fun V hV => ofR_yes _ ls p V (HV.out.later hV) hl hp
            rw [hpe] at x0
            clear HV ho hpe hY HTk
            generalize ls[p] = a at *
            obtain ⟨ab, re', dep, src, dts⟩ := a
            dsimp only at *
            go_wp2_with (go_at_call 28; refine (HO.out wr hB.out).mono ?_; rintro e w3 ⟨so, sc, sd, dc, rfl, hrs, hrd, hb⟩; have HB2 := hid (hB.out.trans (hb.mono hB.out.size)); have HB3 := hid (HB2.out.trans (((Below.refl _ w3).alloc (o := .cells #[.bool ab, .int .i64 re', .bool dep, .slice so src.length sc, .slice sd dts.length dc] 42) (Nat.le_refl _)).mono HB2.out.size)); clear hb hrs hrd)
            go_roundw
            case rel => exact ⟨k + 1, Y, by omega, rfl, by go_num, HB3, Hn⟩
            case measure => simp [RowKit.intOf]; omega
        | true =>
          have hYz : Y = 0 := by simpa using hY0
          subst hYz
          have hst : whyD ls.length (E) (is.take (k + 1)) = if outD ls.length is[k] = true then 2 else 0 := by
            rw [HTk.out]
            exact why_step hY.out
          clear hY0
          cases ho : outD ls.length is[k] with
          | true =>
            rw [ho, if_pos rfl] at hst
            have Hn := hid hst
            clear HV hY HTk hst
            generalize is[k] = x at *
            go_wp2_with (go_at_call 28; refine (ofR_no o ls.length c x wr ho).mono ?_; rintro e w3 ⟨rfl, hb⟩; have HB3 := hid ((hB.out.trans (hb.mono hB.out.size)).trans (((Below.refl _ w3).alloc (o := .cells #[.bool false, .int .i64 0, .bool false, .slice none 0 0, .slice none 0 0] 42) (Nat.le_refl _)).mono (hB.out.trans (hb.mono hB.out.size)).size)); clear hb)
            go_roundw
            case rel => exact ⟨k + 1, 2, by omega, rfl, by go_num, HB3, Hn⟩
            case measure => simp [RowKit.intOf]; omega
          | false =>
            rw [ho, if_neg Bool.false_ne_true] at hst
            have Hn := hid hst
            obtain ⟨p, hpe, hp⟩ := out_no ho
            have HO : Hid (∀ V : World, Below w.heap.size w V → _) := fun V hV => ofR_yes _ ls p V (HV.out.later hV) hl hp
            rw [hpe] at x0
            clear HV ho hpe hY HTk hst
            generalize ls[p] = a at *
            obtain ⟨ab, re', dep, src, dts⟩ := a
            dsimp only at *
            go_wp2_with (go_at_call 28; refine (HO.out wr hB.out).mono ?_; rintro e w3 ⟨so, sc, sd, dc, rfl, hrs, hrd, hb⟩; have HB2 := hid (hB.out.trans (hb.mono hB.out.size)); have HB3 := hid (HB2.out.trans (((Below.refl _ w3).alloc (o := .cells #[.bool ab, .int .i64 re', .bool dep, .slice so src.length sc, .slice sd dts.length dc] 42) (Nat.le_refl _)).mono HB2.out.size)); clear hb hrs hrd)
            go_roundw
            case rel => exact ⟨k + 1, 0, by omega, rfl, by go_num, HB3, Hn⟩
            case measure => simp [RowKit.intOf]; omega
      · have hRY : R = Y := by
          rw [← hY.out, List.take_of_length_le (by omega)]
          exact Hwa.out.symm
        subst hRY
        clear hY Hwa GI
        go_wp2
        refine bodyPost_ret (v := .tuple #[.slice none 0 0, .int .i64 0, .int .i64 R]) (by simp [results, Try.results11, go_sem]) rfl ?_
        exact ⟨rfl, hB.out⟩
  · rw [show ((0 : Int) == 0) = true from rfl, if_pos rfl, if_pos (.inl h1)] at Hwa
    have d1 : decide ((ls.length : Int) ≥ 1024) = true := decide_eq_true (by omega)
    have H0 : Hid (whyD ls.length (3) (is.take 0) = 3) := by
      show _ = _
      unfold whyD
      rfl
    go_enter Try.func11, Try.ntmps11
    go_wp2_with (go_at_call 15; refine hC.mono ?_; rintro e w2 ⟨rfl, hb⟩; have HB := hid hb; clear hb)
    go_loopw [7, 35] (fun y t wr => ∃ (k : Nat) (Y : Int), k ≤ is.length ∧ y = .int .i64 Y ∧ t = .int .i64 k ∧ Hid (Below w.heap.size w wr) ∧ Hid (whyD ls.length (3) (is.take k) = Y)) (fun _ t _ => is.length - (RowKit.intOf t).toNat)
    case atStart => exact ⟨0, 3, Nat.zero_le _, rfl, rfl, HB, H0⟩
    case round =>
      obtain ⟨k, Y, k1, rfl, rfl, hB, hY⟩ := hrel
      clear HB H0
      by_cases hlt : k < is.length
      · obtain ⟨ib, ioff, rfl, hibl, hia⟩ := GI.out (by omega)
        have x0 := (hB.out.cell (p := ⟨ib, ioff + k, none⟩) hibl).trans (hia k hlt)
        have q1 : (0 : Int) ≤ (k : Int) := by omega
        have q2 : (k : Int) < (is.length : Int) := by omega
        have HTk : Hid (is.take (k + 1) = is.take k ++ [is[k]]) := List.take_succ_eq_append_getElem hlt
        clear hia GI Hwa
        cases hY0 : (Y == 0) with
        | false =>
          have Hn : Hid (whyD ls.length (3) (is.take (k + 1)) = Y) := by
            show _ = _
            rw [HTk.out]
            exact why_keep hY.out hY0
          cases ho : outD ls.length is[k] with
          | true =>
            clear HV hY HTk
            generalize is[k] = x at *
            go_wp2_with (go_at_call 28; refine (ofR_no o ls.length c x wr ho).mono ?_; rintro e w3 ⟨rfl, hb⟩; have HB3 := hid ((hB.out.trans (hb.mono hB.out.size)).trans (((Below.refl _ w3).alloc (o := .cells #[.bool false, .int .i64 0, .bool false, .slice none 0 0, .slice none 0 0] 42) (Nat.le_refl _)).mono (hB.out.trans (hb.mono hB.out.size)).size)); clear hb)
            go_roundw
            case rel => exact ⟨k + 1, Y, by omega, rfl, by go_num, HB3, Hn⟩
            case measure => simp [RowKit.intOf]; omega
          | false =>
            obtain ⟨p, hpe, hp⟩ := out_no ho
            have HO : Hid (∀ V : World, Below w.heap.size w V → _) := fun V hV => ofR_yes _ ls p V (HV.out.later hV) hl hp
            rw [hpe] at x0
            clear HV ho hpe hY HTk
            generalize ls[p] = a at *
            obtain ⟨ab, re', dep, src, dts⟩ := a
            dsimp only at *
            go_wp2_with (go_at_call 28; refine (HO.out wr hB.out).mono ?_; rintro e w3 ⟨so, sc, sd, dc, rfl, hrs, hrd, hb⟩; have HB2 := hid (hB.out.trans (hb.mono hB.out.size)); have HB3 := hid (HB2.out.trans (((Below.refl _ w3).alloc (o := .cells #[.bool ab, .int .i64 re', .bool dep, .slice so src.length sc, .slice sd dts.length dc] 42) (Nat.le_refl _)).mono HB2.out.size)); clear hb hrs hrd)
            go_roundw
            case rel => exact ⟨k + 1, Y, by omega, rfl, by go_num, HB3, Hn⟩
            case measure => simp [RowKit.intOf]; omega
        | true =>
          have hYz : Y = 0 := by simpa using hY0
          subst hYz
          have hst : whyD ls.length (3) (is.take (k + 1)) = if outD ls.length is[k] = true then 2 else 0 := by
            rw [HTk.out]
            exact why_step hY.out
          clear hY0
          cases ho : outD ls.length is[k] with
          | true =>
            rw [ho, if_pos rfl] at hst
            have Hn := hid hst
            clear HV hY HTk hst
            generalize is[k] = x at *
            go_wp2_with (go_at_call 28; refine (ofR_no o ls.length c x wr ho).mono ?_; rintro e w3 ⟨rfl, hb⟩; have HB3 := hid ((hB.out.trans (hb.mono hB.out.size)).trans (((Below.refl _ w3).alloc (o := .cells #[.bool false, .int .i64 0, .bool false, .slice none 0 0, .slice none 0 0] 42) (Nat.le_refl _)).mono (hB.out.trans (hb.mono hB.out.size)).size)); clear hb)
            go_roundw
            case rel => exact ⟨k + 1, 2, by omega, rfl, by go_num, HB3, Hn⟩
            case measure => simp [RowKit.intOf]; omega
          | false =>
            rw [ho, if_neg Bool.false_ne_true] at hst
            have Hn := hid hst
            obtain ⟨p, hpe, hp⟩ := out_no ho
            have HO : Hid (∀ V : World, Below w.heap.size w V → _) := fun V hV => ofR_yes _ ls p V (HV.out.later hV) hl hp
            rw [hpe] at x0
            clear HV ho hpe hY HTk hst
            generalize ls[p] = a at *
            obtain ⟨ab, re', dep, src, dts⟩ := a
            dsimp only at *
            go_wp2_with (go_at_call 28; refine (HO.out wr hB.out).mono ?_; rintro e w3 ⟨so, sc, sd, dc, rfl, hrs, hrd, hb⟩; have HB2 := hid (hB.out.trans (hb.mono hB.out.size)); have HB3 := hid (HB2.out.trans (((Below.refl _ w3).alloc (o := .cells #[.bool ab, .int .i64 re', .bool dep, .slice so src.length sc, .slice sd dts.length dc] 42) (Nat.le_refl _)).mono HB2.out.size)); clear hb hrs hrd)
            go_roundw
            case rel => exact ⟨k + 1, 0, by omega, rfl, by go_num, HB3, Hn⟩
            case measure => simp [RowKit.intOf]; omega
      · have hRY : R = Y := by
          rw [← hY.out, List.take_of_length_le (by omega)]
          exact Hwa.out.symm
        subst hRY
        clear hY Hwa GI
        go_wp2
        refine bodyPost_ret (v := .tuple #[.slice none 0 0, .int .i64 0, .int .i64 R]) (by simp [results, Try.results11, go_sem]) rfl ?_
        exact ⟨rfl, hB.out⟩
  · rw [show ((0 : Int) == 0) = true from rfl, if_pos rfl, if_pos (.inr h2)] at Hwa
    have d1 : decide ((ls.length : Int) ≥ 1024) = false := decide_eq_false (by omega)
    have d2 : decide ((is.length : Int) > 1024) = true := decide_eq_true (by omega)
    have H0 : Hid (whyD ls.length (3) (is.take 0) = 3) := by
      show _ = _
      unfold whyD
      rfl
    go_enter Try.func11, Try.ntmps11
    go_wp2_with (go_at_call 15; refine hC.mono ?_; rintro e w2 ⟨rfl, hb⟩; have HB := hid hb; clear hb)
    go_loopw [7, 35] (fun y t wr => ∃ (k : Nat) (Y : Int), k ≤ is.length ∧ y = .int .i64 Y ∧ t = .int .i64 k ∧ Hid (Below w.heap.size w wr) ∧ Hid (whyD ls.length (3) (is.take k) = Y)) (fun _ t _ => is.length - (RowKit.intOf t).toNat)
    case atStart => exact ⟨0, 3, Nat.zero_le _, rfl, rfl, HB, H0⟩
    case round =>
      obtain ⟨k, Y, k1, rfl, rfl, hB, hY⟩ := hrel
      clear HB H0
      by_cases hlt : k < is.length
      · obtain ⟨ib, ioff, rfl, hibl, hia⟩ := GI.out (by omega)
        have x0 := (hB.out.cell (p := ⟨ib, ioff + k, none⟩) hibl).trans (hia k hlt)
        have q1 : (0 : Int) ≤ (k : Int) := by omega
        have q2 : (k : Int) < (is.length : Int) := by omega
        have HTk : Hid (is.take (k + 1) = is.take k ++ [is[k]]) := List.take_succ_eq_append_getElem hlt
        clear hia GI Hwa
        cases hY0 : (Y == 0) with
        | false =>
          have Hn : Hid (whyD ls.length (3) (is.take (k + 1)) = Y) := by
            show _ = _
            rw [HTk.out]
            exact why_keep hY.out hY0
          cases ho : outD ls.length is[k] with
          | true =>
            clear HV hY HTk
            generalize is[k] = x at *
            go_wp2_with (go_at_call 28; refine (ofR_no o ls.length c x wr ho).mono ?_; rintro e w3 ⟨rfl, hb⟩; have HB3 := hid ((hB.out.trans (hb.mono hB.out.size)).trans (((Below.refl _ w3).alloc (o := .cells #[.bool false, .int .i64 0, .bool false, .slice none 0 0, .slice none 0 0] 42) (Nat.le_refl _)).mono (hB.out.trans (hb.mono hB.out.size)).size)); clear hb)
            go_roundw
            case rel => exact ⟨k + 1, Y, by omega, rfl, by go_num, HB3, Hn⟩
            case measure => simp [RowKit.intOf]; omega
          | false =>
            obtain ⟨p, hpe, hp⟩ := out_no ho
            have HO : Hid (∀ V : World, Below w.heap.size w V → _) := fun V hV => ofR_yes _ ls p V (HV.out.later hV) hl hp
            rw [hpe] at x0
            clear HV ho hpe hY HTk
            generalize ls[p] = a at *
            obtain ⟨ab, re', dep, src, dts⟩ := a
            dsimp only at *
            go_wp2_with (go_at_call 28; refine (HO.out wr hB.out).mono ?_; rintro e w3 ⟨so, sc, sd, dc, rfl, hrs, hrd, hb⟩; have HB2 := hid (hB.out.trans (hb.mono hB.out.size)); have HB3 := hid (HB2.out.trans (((Below.refl _ w3).alloc (o := .cells #[.bool ab, .int .i64 re', .bool dep, .slice so src.length sc, .slice sd dts.length dc] 42) (Nat.le_refl _)).mono HB2.out.size)); clear hb hrs hrd)
            go_roundw
            case rel => exact ⟨k + 1, Y, by omega, rfl, by go_num, HB3, Hn⟩
            case measure => simp [RowKit.intOf]; omega
        | true =>
          have hYz : Y = 0 := by simpa using hY0
          subst hYz
          have hst : whyD ls.length (3) (is.take (k + 1)) = if outD ls.length is[k] = true then 2 else 0 := by
            rw [HTk.out]
            exact why_step hY.out
          clear hY0
          cases ho : outD ls.length is[k] with
          | true =>
            rw [ho, if_pos rfl] at hst
            have Hn := hid hst
            clear HV hY HTk hst
            generalize is[k] = x at *
            go_wp2_with (go_at_call 28; refine (ofR_no o ls.length c x wr ho).mono ?_; rintro e w3 ⟨rfl, hb⟩; have HB3 := hid ((hB.out.trans (hb.mono hB.out.size)).trans (((Below.refl _ w3).alloc (o := .cells #[.bool false, .int .i64 0, .bool false, .slice none 0 0, .slice none 0 0] 42) (Nat.le_refl _)).mono (hB.out.trans (hb.mono hB.out.size)).size)); clear hb)
            go_roundw
            case rel => exact ⟨k + 1, 2, by omega, rfl, by go_num, HB3, Hn⟩
            case measure => simp [RowKit.intOf]; omega
          | false =>
            rw [ho, if_neg Bool.false_ne_true] at hst
            have Hn := hid hst
            obtain ⟨p, hpe, hp⟩ := out_no ho
            have HO : Hid (∀ V : World, Below w.heap.size w V → _) := fun V hV => ofR_yes _ ls p V (HV.out.later hV) hl hp
            rw [hpe] at x0
            clear HV ho hpe hY HTk hst
            generalize ls[p] = a at *
            obtain ⟨ab, re', dep, src, dts⟩ := a
            dsimp only at *
            go_wp2_with (go_at_call 28; refine (HO.out wr hB.out).mono ?_; rintro e w3 ⟨so, sc, sd, dc, rfl, hrs, hrd, hb⟩; have HB2 := hid (hB.out.trans (hb.mono hB.out.size)); have HB3 := hid (HB2.out.trans (((Below.refl _ w3).alloc (o := .cells #[.bool ab, .int .i64 re', .bool dep, .slice so src.length sc, .slice sd dts.length dc] 42) (Nat.le_refl _)).mono HB2.out.size)); clear hb hrs hrd)
            go_roundw
            case rel => exact ⟨k + 1, 0, by omega, rfl, by go_num, HB3, Hn⟩
            case measure => simp [RowKit.intOf]; omega
      · have hRY : R = Y := by
          rw [← hY.out, List.take_of_length_le (by omega)]
          exact Hwa.out.symm
        subst hRY
        clear hY Hwa GI
        go_wp2
        refine bodyPost_ret (v := .tuple #[.slice none 0 0, .int .i64 0, .int .i64 R]) (by simp [results, Try.results11, go_sem]) rfl ?_
        exact ⟨rfl, hB.out⟩
  · rw [show ((0 : Int) == 0) = true from rfl, if_pos rfl, if_neg (by omega)] at Hwa
    have d1 : decide ((ls.length : Int) ≥ 1024) = false := decide_eq_false (by omega)
    have d2 : decide ((is.length : Int) > 1024) = false := decide_eq_false (by omega)
    have H0 : Hid (whyD ls.length (0) (is.take 0) = 0) := by
      show _ = _
      unfold whyD
      rfl
    go_enter Try.func11, Try.ntmps11
    go_wp2_with (go_at_call 15; refine hC.mono ?_; rintro e w2 ⟨rfl, hb⟩; have HB := hid hb; clear hb)
    go_loopw [7, 35] (fun y t wr => ∃ (k : Nat) (Y : Int), k ≤ is.length ∧ y = .int .i64 Y ∧ t = .int .i64 k ∧ Hid (Below w.heap.size w wr) ∧ Hid (whyD ls.length (0) (is.take k) = Y)) (fun _ t _ => is.length - (RowKit.intOf t).toNat)
    case atStart => exact ⟨0, 0, Nat.zero_le _, rfl, rfl, HB, H0⟩
    case round =>
      obtain ⟨k, Y, k1, rfl, rfl, hB, hY⟩ := hrel
      clear HB H0
      by_cases hlt : k < is.length
      · obtain ⟨ib, ioff, rfl, hibl, hia⟩ := GI.out (by omega)
        have x0 := (hB.out.cell (p := ⟨ib, ioff + k, none⟩) hibl).trans (hia k hlt)
        have q1 : (0 : Int) ≤ (k : Int) := by omega
        have q2 : (k : Int) < (is.length : Int) := by omega
        have HTk : Hid (is.take (k + 1) = is.take k ++ [is[k]]) := List.take_succ_eq_append_getElem hlt
        clear hia GI Hwa
        cases hY0 : (Y == 0) with
        | false =>
          have Hn : Hid (whyD ls.length (0) (is.take (k + 1)) = Y) := by
            show _ = _
            rw [HTk.out]
            exact why_keep hY.out hY0
          cases ho : outD ls.length is[k] with
          | true =>
            clear HV hY HTk
            generalize is[k] = x at *
            go_wp2_with (go_at_call 28; refine (ofR_no o ls.length c x wr ho).mono ?_; rintro e w3 ⟨rfl, hb⟩; have HB3 := hid ((hB.out.trans (hb.mono hB.out.size)).trans (((Below.refl _ w3).alloc (o := .cells #[.bool false, .int .i64 0, .bool false, .slice none 0 0, .slice none 0 0] 42) (Nat.le_refl _)).mono (hB.out.trans (hb.mono hB.out.size)).size)); clear hb)
            go_roundw
            case rel => exact ⟨k + 1, Y, by omega, rfl, by go_num, HB3, Hn⟩
            case measure => simp [RowKit.intOf]; omega
          | false =>
            obtain ⟨p, hpe, hp⟩ := out_no ho
            have HO : Hid (∀ V : World, Below w.heap.size w V → _) := fun V hV => ofR_yes _ ls p V (HV.out.later hV) hl hp
            rw [hpe] at x0
            clear HV ho hpe hY HTk
            generalize ls[p] = a at *
            obtain ⟨ab, re', dep, src, dts⟩ := a
            dsimp only at *
            go_wp2_with (go_at_call 28; refine (HO.out wr hB.out).mono ?_; rintro e w3 ⟨so, sc, sd, dc, rfl, hrs, hrd, hb⟩; have HB2 := hid (hB.out.trans (hb.mono hB.out.size)); have HB3 := hid (HB2.out.trans (((Below.refl _ w3).alloc (o := .cells #[.bool ab, .int .i64 re', .bool dep, .slice so src.length sc, .slice sd dts.length dc] 42) (Nat.le_refl _)).mono HB2.out.size)); clear hb hrs hrd)
            go_roundw
            case rel => exact ⟨k + 1, Y, by omega, rfl, by go_num, HB3, Hn⟩
            case measure => simp [RowKit.intOf]; omega
        | true =>
          have hYz : Y = 0 := by simpa using hY0
          subst hYz
          have hst : whyD ls.length (0) (is.take (k + 1)) = if outD ls.length is[k] = true then 2 else 0 := by
            rw [HTk.out]
            exact why_step hY.out
          clear hY0
          cases ho : outD ls.length is[k] with
          | true =>
            rw [ho, if_pos rfl] at hst
            have Hn := hid hst
            clear HV hY HTk hst
            generalize is[k] = x at *
            go_wp2_with (go_at_call 28; refine (ofR_no o ls.length c x wr ho).mono ?_; rintro e w3 ⟨rfl, hb⟩; have HB3 := hid ((hB.out.trans (hb.mono hB.out.size)).trans (((Below.refl _ w3).alloc (o := .cells #[.bool false, .int .i64 0, .bool false, .slice none 0 0, .slice none 0 0] 42) (Nat.le_refl _)).mono (hB.out.trans (hb.mono hB.out.size)).size)); clear hb)
            go_roundw
            case rel => exact ⟨k + 1, 2, by omega, rfl, by go_num, HB3, Hn⟩
            case measure => simp [RowKit.intOf]; omega
          | false =>
            rw [ho, if_neg Bool.false_ne_true] at hst
            have Hn := hid hst
            obtain ⟨p, hpe, hp⟩ := out_no ho
            have HO : Hid (∀ V : World, Below w.heap.size w V → _) := fun V hV => ofR_yes _ ls p V (HV.out.later hV) hl hp
            rw [hpe] at x0
            clear HV ho hpe hY HTk hst
            generalize ls[p] = a at *
            obtain ⟨ab, re', dep, src, dts⟩ := a
            dsimp only at *
            go_wp2_with (go_at_call 28; refine (HO.out wr hB.out).mono ?_; rintro e w3 ⟨so, sc, sd, dc, rfl, hrs, hrd, hb⟩; have HB2 := hid (hB.out.trans (hb.mono hB.out.size)); have HB3 := hid (HB2.out.trans (((Below.refl _ w3).alloc (o := .cells #[.bool ab, .int .i64 re', .bool dep, .slice so src.length sc, .slice sd dts.length dc] 42) (Nat.le_refl _)).mono HB2.out.size)); clear hb hrs hrd)
            go_roundw
            case rel => exact ⟨k + 1, 0, by omega, rfl, by go_num, HB3, Hn⟩
            case measure => simp [RowKit.intOf]; omega
      · have hRY : R = Y := by
          rw [← hY.out, List.take_of_length_le (by omega)]
          exact Hwa.out.symm
        subst hRY
        clear hY Hwa GI
        go_wp2
        refine bodyPost_ret (v := .tuple #[.slice none 0 0, .int .i64 0, .int .i64 R]) (by simp [results, Try.results11, go_sem]) rfl ?_
        exact ⟨rfl, hB.out⟩
end Go.Proofs.Ytlibjjmaicgemaa
