/- The walk of units.Text. -/
import Derived.Test.YtbefinbihopgfaaDoorUSmall
import Derived.Test.YtbefinbihopgfaaDoorUBuild
import Derived.DataElems
namespace Go.Proofs.YtbefinbihopgfaaDoor
open Go.RowKit Go.Lib

/-- A slice of units that is read in a world. -/
def RdU (w : World) (v : Value) (us : List Nat) : Prop :=
  (∃ o cap, v = .slice o 0 cap ∧ us = []) ∨ ∃ a cap, v = .slice (some a) us.length cap ∧ a.block < w.heap.size ∧ us.length ≤ cap ∧ cap ≤ maxLen ∧ CellsU w a us
theorem CellsU.later {w W : World} {a : Addr} {us : List Nat} (h : CellsU w a us) (ha : a.block < w.heap.size) (hb : Below w.heap.size w W) : CellsU W a us := fun j hj => by
  have e : (a.add j).block = a.block := by unfold Addr.add; split <;> rfl
  exact (hb.cell (p := a.add j) (by rw [e]; exact ha)).trans (h j hj)
theorem CellsU.from {w : World} {a : Addr} {us : List Nat} (h : CellsU w a us) (k : Nat) : CellsU w (a.add k) (us.drop k) := fun j hj => by
  rw [Addr.add_add]
  rw [List.length_drop] at hj
  have := h (k + j) (by omega)
  rw [List.getElem_drop]
  exact this

set_option maxRecDepth 100000 in
set_option maxHeartbeats 1000000 in
theorem text_some (a : Addr) (cap : Nat) (us : List Nat) (w : World) (ha : a.block < w.heap.size) (hcap : us.length ≤ cap) (_hm : cap ≤ maxLen) (hc : CellsU w a us) (hn : us.length ≤ 17592186044416) (hu : ∀ x ∈ us, x < 65536) :
    Calls Tryd.prog 35 #[.slice (some a) us.length cap] w fun e w' => e = .returned (.tuple #[.string ⟨(textR (txD us).1).toArray⟩, .bool (txD us).2]) ∧ Below w.heap.size w w' := by
  generalize hT : textR (txD us).1 = TX
  generalize hA : (txD us).2 = AL
  have HT : Hid (textR (txD us).1 = TX) := hT
  have HA : Hid ((txD us).2 = AL) := hA
  clear hT hA
  go_enter Tryd.func35, Tryd.ntmps35
  go_wp2
  go_loopw [5, 6] (fun al i wr => ∃ (k : Nat) (acc : List UInt8) (b : Bool), k ≤ us.length ∧ i = .int .i64 k ∧ al = .bool b ∧ IsBuilderF 70 5 w.heap.size w.heap.size (byteCells acc) wr ∧ Below w.heap.size w wr ∧ w.heap.size < wr.heap.size ∧ acc.length ≤ 4 * k ∧
      Hid (acc ++ textR (txD (us.drop k)).1 = TX) ∧ Hid ((b || (txD (us.drop k)).2) = AL)) (fun _ i _ => us.length - (RowKit.intOf i).toNat)
  case atStart => exact ⟨0, [], false, Nat.zero_le _, rfl, rfl, IsBuilderF.of (fresh_isBuilder 70 5 w), (Below.refl _ w).alloc (Nat.le_refl _) _, by simp, by simp, HT.out, by have h := HA.out; show _ = _; rw [Bool.false_or]; exact h⟩
  case round =>
    obtain ⟨k, acc, b, hk, rfl, rfl, hI, hbw, hsz, hal, htx, hala⟩ := hrel
    by_cases hlt : k < us.length
    · have hne : us.drop k ≠ [] := by intro e; have := congrArg List.length e; simp at this; omega
      have hcw := (hc.later ha hbw)
      have hx : wr.cell? (a.add k) = some (unitV us[k]) := hcw k hlt
      have hP := fun c => beginsPair_any (a.add k) (us.drop k) c wr (hcw.from k)
      rw [List.length_drop] at hP
      have hxb := hu us[k] (List.getElem_mem hlt)
      have hd : us.drop k = us[k] :: us.drop (k + 1) := List.drop_eq_getElem_cons hlt
      have hW := fun r h0 h1 W hI' hB' => writeRune_k w.heap.size w.heap.size (byteCells acc) r h0 h1 W hI' (by rw [byteCells_length]; omega) hB'
      by_cases hp : pairB (us.drop k) = true
      · have hk1 : k + 1 < us.length := by
          rw [hd] at hp
          cases hq : us.drop (k + 1) with
          | nil => rw [hq] at hp; cases hp
          | cons y t => have := congrArg List.length hq; simp at this; omega
        have hd2 : us.drop (k + 1) = us[k + 1] :: us.drop (k + 2) := List.drop_eq_getElem_cons hk1
        have hy : wr.cell? (a.add (k + 1)) = some (unitV us[k + 1]) := hcw (k + 1) hk1
        have hp2 : hiB us[k] = true ∧ loB us[k + 1] = true := by
          rw [hd, hd2] at hp
          simpa [pairB] using hp
        obtain ⟨hxh, hyl⟩ := hp2
        have hxr : 55296 ≤ us[k] ∧ us[k] < 56320 := by simpa [hiB] using hxh
        have hyr : 56320 ≤ us[k + 1] ∧ us[k + 1] < 57344 := by simpa [loB] using hyl
        have hs2 := txD_pair (us.drop k) us[k] us[k + 1] (us.drop (k + 2)) (by rw [hd, hd2]) hxh hyl
        have htn : Hid ((acc ++ encodeRune ((65536 + (us[k] - 55296) * 1024 + (us[k + 1] - 56320) : Nat) : Int)) ++ textR (txD (us.drop (k + 2))).1 = TX) := by
          have h := htx.out
          rw [hs2] at h
          show _ = _
          rw [List.append_assoc]
          exact h
        have han : Hid ((b || (txD (us.drop (k + 2))).2) = AL) := by have h := hala.out; rw [hs2] at h; exact h
        rw [hp] at hP
        generalize us[k] = x at *
        generalize us[k + 1] = y at *
        clear hs2 hd hd2 hp htx hala hne
        unfold unitV at hx hy
        rw [Addr.add_succ'] at hy
        have er : ((65536 + (x - 55296) * 1024 + (y - 56320) : Nat) : Int) = 65536 + ((x : Int) - 55296) * 1024 + ((y : Int) - 56320) := by omega
        rw [er] at htn
        have hW2 := hW (65536 + ((x : Int) - 55296) * 1024 + ((y : Int) - 56320)) (by omega) (by omega) wr hI (by omega)
        rw [← byteCells_encodeRune, ← byteCells_append] at hW2
        have hl4 := runeCells_le (65536 + ((x : Int) - 55296) * 1024 + ((y : Int) - 56320))
        rw [runeCells_length] at hl4
        go_wp2_with (first
          | (go_at_call 62; refine (hP _).mono ?_; rintro e w' ⟨rfl, rfl⟩)
          | (go_at_call 65; refine hW2.mono ?_; rintro e w2 ⟨rfl, h2, b2⟩))
        refine ⟨⟨k + 2, _, b, by omega, by go_num, rfl, h2, hbw.trans b2, Nat.lt_of_lt_of_le hsz b2.size, by simp; omega, htn, han⟩, ?_⟩
        simp [RowKit.intOf]
        omega
      · rw [show pairB (us.drop k) = false by simpa using hp] at hP
        have hH := isHigh_any us[k] wr
        have hL := isLow_any us[k] wr
        by_cases ho : (hiB us[k] || loB us[k]) = true
        · have hs2 := txD_alone _ us[k] (us.drop (k + 1)) hd hp ho
          have htn : Hid ((acc ++ encodeRune (65533 : Int)) ++ textR (txD (us.drop (k + 1))).1 = TX) := by
            have h := htx.out
            rw [hs2] at h
            show _ = _
            rw [List.append_assoc]
            exact h
          have han : Hid ((true || (txD (us.drop (k + 1))).2) = AL) := by have h := hala.out; rw [hs2, Bool.or_true] at h; show _ = _; rw [Bool.true_or]; exact h
          have hW2 := hW 65533 (by omega) (by omega) wr hI (by omega)
          rw [← byteCells_encodeRune, ← byteCells_append] at hW2
          have hl4 := runeCells_le 65533
          rw [runeCells_length] at hl4
          generalize us[k] = x at *
          clear hs2 hd hp htx hala hne
          unfold unitV at hx hH hL
          cases hh : hiB x with
          | true =>
            rw [hh] at hH
            go_wp2_with (first
              | (go_at_call 62; refine (hP _).mono ?_; rintro e w' ⟨rfl, rfl⟩)
              | (go_at_call 63; refine hH.mono ?_; rintro e w' ⟨rfl, rfl⟩)
              | (go_at_call 65; refine hW2.mono ?_; rintro e w2 ⟨rfl, h2, b2⟩))
            refine ⟨⟨k + 1, _, true, by omega, by go_num, rfl, h2, hbw.trans b2, Nat.lt_of_lt_of_le hsz b2.size, by simp; omega, htn, han⟩, ?_⟩
            simp [RowKit.intOf]
            omega
          | false =>
            rw [hh] at hH ho
            rw [show loB x = true by simpa using ho] at hL
            go_wp2_with (first
              | (go_at_call 62; refine (hP _).mono ?_; rintro e w' ⟨rfl, rfl⟩)
              | (go_at_call 63; refine hH.mono ?_; rintro e w' ⟨rfl, rfl⟩)
              | (go_at_call 64; refine hL.mono ?_; rintro e w' ⟨rfl, rfl⟩)
              | (go_at_call 65; refine hW2.mono ?_; rintro e w2 ⟨rfl, h2, b2⟩))
            refine ⟨⟨k + 1, _, true, by omega, by go_num, rfl, h2, hbw.trans b2, Nat.lt_of_lt_of_le hsz b2.size, by simp; omega, htn, han⟩, ?_⟩
            simp [RowKit.intOf]
            omega
        · have ho' : (hiB us[k] || loB us[k]) = false := by simpa using ho
          have hs2 := txD_plain _ us[k] (us.drop (k + 1)) hd hp ho'
          have htn : Hid ((acc ++ encodeRune (us[k] : Int)) ++ textR (txD (us.drop (k + 1))).1 = TX) := by
            have h := htx.out
            rw [hs2] at h
            show _ = _
            rw [List.append_assoc]
            exact h
          have han : Hid ((b || (txD (us.drop (k + 1))).2) = AL) := by have h := hala.out; rw [hs2] at h; exact h
          have hW2 := hW (us[k] : Int) (by omega) (by omega) wr hI (by omega)
          rw [← byteCells_encodeRune, ← byteCells_append] at hW2
          have hl4 := runeCells_le (us[k] : Int)
          rw [runeCells_length] at hl4
          generalize us[k] = x at *
          clear hs2 hd hp htx hala hne
          unfold unitV at hx hH hL
          simp only [Bool.or_eq_false_iff] at ho'
          rw [ho'.1] at hH
          rw [ho'.2] at hL
          go_wp2_with (first
            | (go_at_call 62; refine (hP _).mono ?_; rintro e w' ⟨rfl, rfl⟩)
            | (go_at_call 63; refine hH.mono ?_; rintro e w' ⟨rfl, rfl⟩)
            | (go_at_call 64; refine hL.mono ?_; rintro e w' ⟨rfl, rfl⟩)
            | (go_at_call 65; refine hW2.mono ?_; rintro e w2 ⟨rfl, h2, b2⟩))
          refine ⟨⟨k + 1, _, b, by omega, by go_num, rfl, h2, hbw.trans b2, Nat.lt_of_lt_of_le hsz b2.size, by simp; omega, htn, han⟩, ?_⟩
          simp [RowKit.intOf]
          omega
    · have hnil : us.drop k = [] := List.drop_eq_nil_of_le (by omega)
      have e1 : TX = acc := by rw [← htx.out, hnil]; simp [txD_nil, textR]
      have e2 : AL = b := by rw [← hala.out, hnil]; simp [txD_nil]
      subst e1 e2
      clear htx hala hnil
      have hS := Tryd.Builder_String_any_k w.heap.size w.heap.size TX wr hI (by omega)
      go_wp2_with (go_at_call 66; refine hS.mono ?_; rintro e w2 ⟨rfl, _, b2, _⟩)
      go_ret2
      exact ⟨rfl, hbw.trans b2⟩

theorem text_any (v : Value) (us : List Nat) (w : World) (h : RdU w v us) (hn : us.length ≤ 17592186044416) (hu : ∀ x ∈ us, x < 65536) :
    Calls Tryd.prog 35 #[v] w fun e w' => e = .returned (.tuple #[.string ⟨(textR (txD us).1).toArray⟩, .bool (txD us).2]) ∧ Below w.heap.size w w' := by
  rcases h with ⟨o, cap, rfl, rfl⟩ | ⟨a, cap, rfl, ha, hcap, hm, hc⟩
  · go_enter Tryd.func35, Tryd.ntmps35
    go_wp2
    go_loopw [5, 6] (fun al i wr => i = .int .i64 0 ∧ al = .bool false ∧ IsBuilderF 70 5 w.heap.size w.heap.size (byteCells []) wr ∧ Below w.heap.size w wr ∧ w.heap.size ≤ wr.heap.size) (fun _ _ _ => 0)
    case atStart => exact ⟨rfl, rfl, IsBuilderF.of (fresh_isBuilder 70 5 w), (Below.refl _ w).alloc (Nat.le_refl _) _, by simp⟩
    case round =>
      obtain ⟨rfl, rfl, hI, hbw, hsz⟩ := hrel
      have hS := Tryd.Builder_String_any_k w.heap.size w.heap.size [] wr hI (by omega)
      go_wp2_with (go_at_call 66; refine hS.mono ?_; rintro e w2 ⟨rfl, _, b2, _⟩)
      go_ret2
      exact ⟨rfl, hbw.trans b2⟩
  · exact text_some a cap us w ha hcap hm hc hn hu
end Go.Proofs.YtbefinbihopgfaaDoor
