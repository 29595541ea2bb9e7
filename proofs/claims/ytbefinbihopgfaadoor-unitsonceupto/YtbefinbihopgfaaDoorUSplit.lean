/- The walks of units.Blank, ofRunes and Split. -/
import Derived.Test.YtbefinbihopgfaaDoorULow
import Derived.Test.YtbefinbihopgfaaDoorShelf
import Derived.Shelf.Strings.FieldsFuncGrows
namespace Go.Proofs.YtbefinbihopgfaaDoor
open Go.RowKit Go.Lib

set_option maxHeartbeats 1000000 in
theorem blank_any (x : Nat) (w : World) : Calls Tryd.prog 10 #[.int .u8 (x : Int)] w fun e w' => e = .returned (.bool (blankB x)) ∧ w' = w := by
  have hb : ∀ n : Nat, ((x : Int) == (n : Int)) = (x == n) := fun n => by
    by_cases h : x = n
    · subst h; simp
    · have h' : ¬ (x : Int) = (n : Int) := by omega
      rw [beq_eq_false_iff_ne.2 h, beq_eq_false_iff_ne.2 h']
  have e1 := hb 9; have e2 := hb 10; have e3 := hb 12; have e4 := hb 13; have e5 := hb 32
  unfold blankB
  cases h1 : (x == 9) with
  | true =>
    rw [h1] at e1
    have e1' : ((x : Int) == 9) = true := e1
    go_enter Tryd.func10, Tryd.ntmps10
    go_wp2
    go_ret
    exact ⟨rfl, rfl⟩
  | false =>
  rw [h1] at e1
  have e1' : ((x : Int) == 9) = false := e1
  cases h2 : (x == 10) with
  | true =>
    rw [h2] at e2
    have e2' : ((x : Int) == 10) = true := e2
    go_enter Tryd.func10, Tryd.ntmps10
    go_wp2
    go_ret
    exact ⟨rfl, rfl⟩
  | false =>
  rw [h2] at e2
  have e2' : ((x : Int) == 10) = false := e2
  cases h3 : (x == 12) with
  | true =>
    rw [h3] at e3
    have e3' : ((x : Int) == 12) = true := e3
    go_enter Tryd.func10, Tryd.ntmps10
    go_wp2
    go_ret
    exact ⟨rfl, rfl⟩
  | false =>
  rw [h3] at e3
  have e3' : ((x : Int) == 12) = false := e3
  cases h4 : (x == 13) with
  | true =>
    rw [h4] at e4
    have e4' : ((x : Int) == 13) = true := e4
    go_enter Tryd.func10, Tryd.ntmps10
    go_wp2
    go_ret
    exact ⟨rfl, rfl⟩
  | false =>
  rw [h4] at e4
  have e4' : ((x : Int) == 13) = false := e4
  cases h5 : (x == 32) with
  | true =>
    rw [h5] at e5
    have e5' : ((x : Int) == 32) = true := e5
    go_enter Tryd.func10, Tryd.ntmps10
    go_wp2
    go_ret
    exact ⟨rfl, rfl⟩
  | false =>
    rw [h5] at e5
    have e5' : ((x : Int) == 32) = false := e5
    go_enter Tryd.func10, Tryd.ntmps10
    go_wp2
    go_ret
    exact ⟨rfl, rfl⟩

theorem ofRunes_any (n : Nat) (w : World) :
    Calls Tryd.prog 39 #[.func (.func n) #[] #[]] w fun e w' => e = .returned (.func (.func 70) #[] #[.pointer (some ⟨w.heap.size, 0, none⟩)]) ∧ w' = w.alloc (.cells #[.func (.func n) #[] #[]] 26) := by
  go_enter Tryd.func39, Tryd.ntmps39
  go_wp2
  go_ret
  exact ⟨rfl, rfl⟩

theorem blankB_big (x : Nat) (h : ¬ x < 128) : blankB x = false := by
  unfold blankB
  simp
  omega

set_option maxHeartbeats 1000000 in
theorem pred_blank (w : World) (g : Nat) (hg : g < w.heap.size) (hc : w.cell? ⟨g, 0, none⟩ = some (.func (.func 10) #[] #[])) :
    PredGrows Tryd.prog 70 #[.pointer (some ⟨g, 0, none⟩)] blankB w := by
  intro W x hx hb
  have hc' : W.cell? ⟨g, 0, none⟩ = some (.func (.func 10) #[] #[]) := (hb.cell (p := ⟨g, 0, none⟩) hg).trans hc
  show Calls Tryd.prog 70 #[.int .i32 (x : Int), .pointer (some ⟨g, 0, none⟩)] W _
  by_cases h : x < 128
  · have g1 : (x : Int) < 128 := by omega
    have hB := blank_any x W
    go_enter Tryd.func70, Tryd.ntmps70
    go_wp2_with (go_at_call 10; refine hB.mono ?_; rintro e w' ⟨rfl, rfl⟩)
    go_ret
    exact ⟨rfl, Below.refl _ _⟩
  · have g1 : ¬ (x : Int) < 128 := by omega
    rw [blankB_big x h]
    go_enter Tryd.func70, Tryd.ntmps70
    go_wp2
    go_ret
    exact ⟨rfl, Below.refl _ _⟩

theorem uclone_any (s : ByteArray) (w : World) (hlim : s.size ≤ 281474976710656) :
    Calls Tryd.prog 33 #[.string s] w fun e w' => e = .returned (.string s) ∧ Below w.heap.size w w' := by
  have hC := Tryd.stringslite_Clone s w hlim
  go_enter Tryd.func33, Tryd.ntmps33
  go_wp2_with (go_at_call 60; refine hC.mono ?_; rintro e w' ⟨rfl, hb⟩)
  go_ret
  exact ⟨rfl, hb⟩

/-- A text's words. -/
def wordsOf (s : ByteArray) : List ByteArray := goFieldsP blankB s

/-- What lies from the head of a block on: these texts. -/
def CellsS (w : World) (A : Nat) (ws : List ByteArray) : Prop := ∃ C t, w.heap[A]? = some (.cells C t (0, 0)) ∧ C.size = ws.length ∧ ∀ (j : Nat) (h : j < ws.length), C[j]? = some (.string ws[j])
theorem CellsS.cell {w : World} {A : Nat} {ws : List ByteArray} (h : CellsS w A ws) (j : Nat) (hj : j < ws.length) : w.cell? ⟨A, j, none⟩ = some (.string ws[j]) := by
  obtain ⟨C, t, hA, hs, hc⟩ := h
  rw [cell_of_heap hA]
  exact hc j hj
theorem CellsS.frozen {w : World} {A : Nat} {ws : List ByteArray} (h : CellsS w A ws) (j : Nat) : w.frozen? ⟨A, j, none⟩ = false := by
  obtain ⟨C, t, hA, hs, hc⟩ := h
  exact frozen_of_heap hA j
theorem CellsS.lt {w : World} {A : Nat} {ws : List ByteArray} (h : CellsS w A ws) : A < w.heap.size := by
  obtain ⟨C, t, hA, hs, hc⟩ := h
  exact (Array.getElem?_eq_some_iff.1 hA).1
theorem CellsS.later {w W : World} {A : Nat} {ws : List ByteArray} (h : CellsS w A ws) (hb : Below w.heap.size w W) : CellsS W A ws := by
  have hl := h.lt
  obtain ⟨C, t, hA, hs, hc⟩ := h
  exact ⟨C, t, (hb.block A hl).trans hA, hs, hc⟩
theorem CellsS.put {w : World} {A : Nat} {ws : List ByteArray} (h : CellsS w A ws) (j : Nat) (hj : j < ws.length) : CellsS (w.setCell ⟨A, j, none⟩ (.string ws[j])) A ws := by
  obtain ⟨C, t, hA, hs, hc⟩ := h
  refine ⟨_, t, heap_setCell_at hA _, by simpa using hs, fun i hi => ?_⟩
  rw [Array.getElem?_setIfInBounds]
  by_cases e : j = i
  · subst e
    rw [if_pos rfl, if_pos (by omega)]
  · rw [if_neg e]
    exact hc i hi

theorem cut_size (s : ByteArray) (i j : Nat) : (s.extract i j).size ≤ s.size := by
  rw [ByteArray.size_extract]
  omega
theorem words_size (s : ByteArray) : ∀ x ∈ wordsOf s, x.size ≤ s.size := by
  intro x hx
  unfold wordsOf goFieldsP at hx
  obtain ⟨p, _, rfl⟩ := List.mem_map.1 hx
  exact cut_size s p.1 p.2

theorem own_cells {w : World} {B e A n : Nat} {ws : List ByteArray} (h : w.ownsRow B e 1 (.slice (some ⟨A, 0, none⟩) n n) n (ws.map Value.string)) : n ≤ maxLen ∧ CellsS w A ws := by
  have hl := h.1
  rw [List.length_map, Nat.mul_one] at hl
  rcases h.2 with ⟨hv, _⟩ | ⟨g, cap, cur, hv, _, hg, hn, hm, hcs, ht⟩
  · cases hv
  · cases hv
    rw [Nat.mul_one] at hcs ht
    refine ⟨hm, cur, e, hg, by omega, fun j hj => ?_⟩
    have hj2 : j < n := by omega
    have := congrArg (fun l => l[j]?) ht
    simp only [List.getElem?_take, hj2, if_true, List.getElem?_map, Array.getElem?_toList] at this
    rw [this, List.getElem?_eq_getElem hj]
    rfl

set_option maxRecDepth 100000 in
set_option maxHeartbeats 1000000 in
theorem usplit_any (s : ByteArray) (w : World) (hs : s.size ≤ 4294967296) :
    Calls Tryd.prog 17 #[.string s] w fun e w' => ∃ A, e = .returned (.slice (some ⟨A, 0, none⟩) (wordsOf s).length (wordsOf s).length) ∧ w.heap.size ≤ A ∧ CellsS w' A (wordsOf s) ∧ Below w.heap.size w w' := by
  have hO := ofRunes_any 10 w
  have hF := Tryd.strings_FieldsFunc_grows 70 #[.pointer (some ⟨w.heap.size, 0, none⟩)] (enters_of Tryd.func70 (by kernel_rfl) rfl) blankB s (w.alloc (.cells #[.func (.func 10) #[] #[]] 26)) hs
    (pred_blank _ w.heap.size (by simp) (by simp))
  have hws := words_size s
  rw [show goFieldsP blankB s = wordsOf s from rfl] at hF
  generalize wordsOf s = ws at *
  have HC : Hid (∀ (x : ByteArray) W, x.size ≤ 281474976710656 → _) := uclone_any
  go_enter Tryd.func17, Tryd.ntmps17
  go_wp2_with (first
    | (go_at_call 39; refine hO.mono ?_; rintro e w1 ⟨rfl, rfl⟩)
    | (go_at_call 40; refine hF.mono ?_; rintro e w2 ⟨A, rfl, hA, hown, hb2⟩))
  obtain ⟨hl, hcs⟩ := own_cells hown
  unfold maxLen at hl
  have hb0 : Below w.heap.size w w2 := ((Below.refl _ w).alloc (Nat.le_refl _) _).trans (hb2.mono (by simp))
  have hA' : w.heap.size ≤ A := by simp at hA; omega
  clear hb2 hown hA hO hF
  go_loopw [11] (fun i wr => ∃ k : Nat, k ≤ ws.length ∧ i = .int .i64 k ∧ CellsS wr A ws ∧ Below w.heap.size w wr) (fun i _ => ws.length - (RowKit.intOf i).toNat)
  case atStart => exact ⟨0, Nat.zero_le _, rfl, hcs, hb0⟩
  case round =>
    obtain ⟨k, hk, rfl, hcw, hbw⟩ := hrel
    by_cases hlt : k < ws.length
    · have hx := hcw.cell k hlt
      have hC := fun W => HC.out ws[k] W (Nat.le_trans (hws _ (List.getElem_mem hlt)) (by omega))
      have hput := fun W (h : CellsS W A ws) => h.put k hlt
      generalize ws[k] = x at *
      go_wp2_with fail
      refine (hC wr).mono ?_
      rintro e w3 ⟨rfl, hb3⟩
      have hcw3 := hcw.later hb3
      have hf := hcw3.frozen k
      have hx3 := hcw3.cell k hlt
      have hbw3 := hbw.trans (hb3.mono hbw.size)
      have hp3 := hput _ hcw3
      clear hb3 hcw hbw hx
      go_wp2
      go_roundw
      case rel => exact ⟨k + 1, by omega, by go_num, hp3, hbw3.setCell (p := ⟨A, k, none⟩) hA' _⟩
      case measure => simp [RowKit.intOf]; omega
    · go_wp2
      go_ret
      exact ⟨A, rfl, hA', hcw, hbw⟩
end Go.Proofs.YtbefinbihopgfaaDoor
