/- The walks of what forest asks of texts and of names. -/
import Derived.Test.YtilacgcjbdkphaaGreatFKinds
import Derived.Lib.Strings
import Derived.Lib.Builder
import Derived.Shelf.Abstract
namespace Go.Proofs.YtilacgcjbdkphaaGreat
open Go.RowKit Go.Lib

theorem hid {p : Prop} (h : p) : Hid p := h
/-- What lies from the head of a block on: these texts. -/
def CellsT (w : World) (g : Nat) (strs : List ByteArray) : Prop := ∀ (j : Nat) (h : j < strs.length), w.cell? ⟨g, j, none⟩ = some (.string strs[j])

theorem noneS_toList (s : ByteArray) : (s.toList == []) = noneS s := by rw [Lib.toList_data]; rfl
theorem noneS_empty (s : ByteArray) : s.toList.isEmpty = noneS s := by
  unfold noneS
  rw [Lib.toList_data]
  cases s.data.toList <;> rfl

set_option maxRecDepth 100000 in
set_option maxHeartbeats 1000000 in
theorem indexFuncS_any (g cap fn : Nat) (lb : Array Value) (strs : List ByteArray) (p : ByteArray → Bool) (w : World) (hlen : strs.length ≤ 100) (hcells : CellsT w g strs)
    (eg : ∀ args w, (callFunc fn args).run Tryz.prog w = .ok (.enter fn args) w)
    (hp : ∀ x, Calls Tryz.prog fn (#[.string x] ++ lb) w fun e w' => e = .returned (.bool (p x)) ∧ w = w') :
    Calls Tryz.prog 165 #[.slice (some ⟨g, 0, none⟩) strs.length cap, .func (.func fn) #[] lb] w fun e w' => ∃ i : Int, e = .returned (.int .i64 i) ∧ decide (0 ≤ i) = strs.any p ∧ w' = w := by
  obtain ⟨R, hR⟩ : ∃ R, strs.any p = R := ⟨_, rfl⟩
  rw [hR]
  have HR : Hid ((strs.drop 0).any p = R) := hR
  have HC := hid hcells
  have HP := hid hp
  clear hR hcells hp
  go_enter Tryz.func165, Tryz.ntmps165
  go_wp2
  go_loopw [8] (fun i wr => ∃ k : Nat, k ≤ strs.length ∧ i = .int .i64 k ∧ w = wr ∧ Hid ((strs.drop k).any p = R)) (fun i _ => strs.length - (RowKit.intOf i).toNat)
  case atStart => exact ⟨0, Nat.zero_le _, rfl, rfl, HR.out⟩
  case round =>
    obtain ⟨k, hk, rfl, rfl, hr⟩ := hrel
    by_cases hlt : k < strs.length
    · have hx := HC.out k hlt
      have hC := HP.out strs[k]
      have hr' := hr.out
      rw [List.drop_eq_getElem_cons hlt, List.any_cons] at hr'
      clear hr
      generalize strs[k] = x at *
      generalize p x = b at *
      cases b with
      | true =>
        rw [Bool.true_or] at hr'
        subst hr'
        go_wp2_with (go_at_fn fn; refine hC.mono ?_; rintro e w2 ⟨rfl, rfl⟩)
        go_ret
        exact ⟨k, rfl, by simp, rfl⟩
      | false =>
        rw [Bool.false_or] at hr'
        have Hr := hid hr'
        clear hr'
        go_wp2_with (go_at_fn fn; refine hC.mono ?_; rintro e w2 ⟨rfl, rfl⟩)
        go_roundw
        case rel => exact ⟨k + 1, by omega, by go_num, trivial, Hr⟩
        case measure => simp [RowKit.intOf]; omega
    · have hRf : R = false := by rw [← hr.out, List.drop_eq_nil_of_le (by omega)]; rfl
      subst hRf
      clear hr
      go_wp2
      go_ret
      exact ⟨-1, rfl, by simp, rfl⟩

set_option maxHeartbeats 1000000 in
theorem containsFuncS_any (g cap fn : Nat) (lb : Array Value) (strs : List ByteArray) (p : ByteArray → Bool) (w : World) (hlen : strs.length ≤ 100) (hcells : CellsT w g strs)
    (eg : ∀ args w, (callFunc fn args).run Tryz.prog w = .ok (.enter fn args) w)
    (hp : ∀ x, Calls Tryz.prog fn (#[.string x] ++ lb) w fun e w' => e = .returned (.bool (p x)) ∧ w = w') :
    Calls Tryz.prog 160 #[.slice (some ⟨g, 0, none⟩) strs.length cap, .func (.func fn) #[] lb] w fun e w' => e = .returned (.bool (strs.any p)) ∧ w' = w := by
  have hI := indexFuncS_any g cap fn lb strs p w hlen hcells eg hp
  go_enter Tryz.func160, Tryz.ntmps160
  go_wp2_with fail
  refine hI.mono ?_
  rintro e w2 ⟨i, rfl, hi, rfl⟩
  go_wp2
  go_ret
  exact ⟨rfl, rfl⟩

theorem shortC_any (m : Int) (x : ByteArray) (b : Nat) (w : World) (hb : w.cell? ⟨b, 0, none⟩ = some (.int .i64 m)) :
    Calls Tryz.prog 161 #[.string x, .pointer (some ⟨b, 0, none⟩)] w fun e w' => e = .returned (.bool (decide (m < (x.size : Int)))) ∧ w = w' := by
  go_enter Tryz.func161, Tryz.ntmps161
  go_wp2
  go_ret
  exact ⟨rfl, rfl⟩
theorem zeroC_any (x : ByteArray) (b : Nat) (w : World) (hb : w.cell? ⟨b, 0, none⟩ = some (.string ⟨#[]⟩)) :
    Calls Tryz.prog 162 #[.string x, .pointer (some ⟨b, 0, none⟩)] w fun e w' => e = .returned (.bool (!noneS x)) ∧ w = w' := by
  have h1 := noneS_toList x
  have h2 := noneS_empty x
  generalize noneS x = c at *
  cases c
  all_goals
    go_enter Tryz.func162, Tryz.ntmps162
    go_wp2
    go_ret
    exact ⟨rfl, rfl⟩
theorem CellsT.later {w W : World} {g : Nat} {strs : List ByteArray} (h : CellsT w g strs) (hg : g < w.heap.size) (hb : Below w.heap.size w W) : CellsT W g strs :=
  fun j hj => (hb.cell (p := ⟨g, j, none⟩) hg).trans (h j hj)

set_option maxHeartbeats 1000000 in
theorem short_any (m : Int) (g cap : Nat) (strs : List ByteArray) (w : World) (hlen : strs.length ≤ 100) (hg : g < w.heap.size) (hcells : CellsT w g strs) :
    Calls Tryz.prog 147 #[.int .i64 m, .slice (some ⟨g, 0, none⟩) strs.length cap] w fun e w' => e = .returned (.bool (strs.all fun x => decide ((x.size : Int) ≤ m))) ∧ Below w.heap.size w w' := by
  have hb0 : Below w.heap.size w (w.alloc (.cells #[.int .i64 m] 3)) := (Below.refl _ w).alloc (Nat.le_refl _) _
  have hC := containsFuncS_any g cap 161 #[.pointer (some ⟨w.heap.size, 0, none⟩)] strs (fun x => decide (m < (x.size : Int))) (w.alloc (.cells #[.int .i64 m] 3)) hlen (hcells.later hg hb0) (enters_of Tryz.func161 (by kernel_rfl) rfl)
    (fun x => shortC_any m x w.heap.size _ (by simp))
  have e : (strs.all fun x => decide ((x.size : Int) ≤ m)) = !(strs.any fun x => decide (m < (x.size : Int))) := by
    rw [List.not_any_eq_all_not]
    congr 1
    funext x
    by_cases h : m < (x.size : Int)
    · rw [decide_eq_true h, decide_eq_false (by omega)]; rfl
    · rw [decide_eq_false h, decide_eq_true (by omega)]; rfl
  rw [e]
  generalize (strs.any fun x => decide (m < (x.size : Int))) = R at *
  clear e
  go_enter Tryz.func147, Tryz.ntmps147
  go_wp2_with fail
  refine hC.mono ?_
  rintro e w2 ⟨rfl, rfl⟩
  go_wp2
  go_ret
  exact ⟨rfl, hb0⟩

set_option maxHeartbeats 1000000 in
theorem allZeroS_any (g cap : Nat) (strs : List ByteArray) (w : World) (hlen : strs.length ≤ 100) (hg : g < w.heap.size) (hcells : CellsT w g strs) :
    Calls Tryz.prog 154 #[.slice (some ⟨g, 0, none⟩) strs.length cap] w fun e w' => e = .returned (.bool (strs.all noneS)) ∧ Below w.heap.size w w' := by
  have hb0 : Below w.heap.size w (w.alloc (.cells #[.string ⟨#[]⟩] 9)) := (Below.refl _ w).alloc (Nat.le_refl _) _
  have hC := containsFuncS_any g cap 162 #[.pointer (some ⟨w.heap.size, 0, none⟩)] strs (fun x => !noneS x) (w.alloc (.cells #[.string ⟨#[]⟩] 9)) hlen (hcells.later hg hb0) (enters_of Tryz.func162 (by kernel_rfl) rfl)
    (fun x => zeroC_any x w.heap.size _ (by simp))
  have e : strs.all noneS = !(strs.any fun x => !noneS x) := by
    rw [List.not_any_eq_all_not]
    congr 1
    funext x
    simp
  rw [e]
  generalize (strs.any fun x => !noneS x) = R at *
  clear e
  go_enter Tryz.func154, Tryz.ntmps154
  go_wp2_with fail
  refine hC.mono ?_
  rintro e w2 ⟨rfl, rfl⟩
  go_wp2
  go_ret
  exact ⟨rfl, hb0⟩

theorem alloc_cellsT (w : World) (strs : List ByteArray) (t : TypeId) : CellsT (w.alloc (.cells (strs.map Value.string).toArray t)) w.heap.size strs := by
  intro j h
  have hh : (w.alloc (.cells (strs.map Value.string).toArray t)).heap[w.heap.size]? = some (.cells (strs.map Value.string).toArray t) := by
    show (w.heap.push _)[w.heap.size]? = _
    simp
  rw [cell_of_heap hh]
  simp [h]

set_option maxRecDepth 100000 in
set_option maxHeartbeats 2000000 in
theorem goodName_any (sp p l : ByteArray) (w : World) :
    Calls Tryz.prog 158 #[.agg #[.string sp, .string p, .string l]] w fun e w' => e = .returned (.bool (goodNameD sp p l)) ∧ Below w.heap.size w w' := by
  have HS : Hid (∀ (W : World) (g : Nat), g < W.heap.size → CellsT W g [sp, p, l] → _) := fun W g hg hc => short_any 1024 g 3 [sp, p, l] W (by simp) hg hc
  have h1 := noneS_toList sp; have h1' := noneS_empty sp
  have h2 := noneS_toList p; have h2' := noneS_empty p
  have h3 := noneS_toList l; have h3' := noneS_empty l
  have hA : goodNameD sp p l = (!noneS l && (noneS p || !noneS sp) && ([sp, p, l].all fun x => decide ((x.size : Int) ≤ 1024))) := by
    unfold goodNameD
    have hd : ∀ x : ByteArray, decide ((x.size : Int) ≤ 1024) = decide (x.size ≤ 1024) := fun x => by
      by_cases h : x.size ≤ 1024
      · rw [decide_eq_true h, decide_eq_true (by omega)]
      · rw [decide_eq_false h, decide_eq_false (by omega)]
    simp only [List.all_cons, List.all_nil, Bool.and_true, hd]
  rw [hA]
  clear hA
  have hcell := alloc_cellsT (w.alloc (.cells #[.string sp, .string p, .string l] 60)) [sp, p, l] 9
  have hS0 := HS.out _ _ (by simp) hcell
  generalize ([sp, p, l].all fun x => decide ((x.size : Int) ≤ 1024)) = R at *
  have hS : Calls Tryz.prog 147 #[.int .i64 1024, .slice (some ⟨w.heap.size + 1, 0, none⟩) 3 3] ((w.alloc (.cells #[.string sp, .string p, .string l] 60)).alloc (.cells #[.string sp, .string p, .string l] 9)) fun e w' => e = .returned (.bool R) ∧ Below (w.heap.size + 2) ((w.alloc (.cells #[.string sp, .string p, .string l] 60)).alloc (.cells #[.string sp, .string p, .string l] 9)) w' := by
    simpa using hS0
  clear hS0
  clear hcell HS
  generalize noneS sp = b1 at *
  generalize noneS p = b2 at *
  generalize noneS l = b3 at *
  have hb0 : Below w.heap.size w (w.alloc (.cells #[.string sp, .string p, .string l] 60)) := (Below.refl _ w).alloc (Nat.le_refl _) _
  have hb1 := hb0.alloc hb0.size (.cells #[.string sp, .string p, .string l] 9)
  cases b1 <;> cases b2 <;> cases b3
  all_goals
    go_enter Tryz.func158, Tryz.ntmps158
    go_wp2_with (go_at_call 147; refine hS.mono ?_; rintro e w2 ⟨rfl, hb2⟩)
    go_ret
    first
      | exact ⟨rfl, hb0⟩
      | exact ⟨rfl, hb1.trans (hb2.mono (by omega))⟩
end Go.Proofs.YtilacgcjbdkphaaGreat
