/- The walk of names.runs, at whatever two function values. -/
import Derived.Test.YtbefinbihopgfaaDoorRunes
import Derived.Test.YtbefinbihopgfaaDoorSpan
import Derived.Lib.OthersKept
import Derived.Shelf.Abstract
import Derived.Deep.LoopGhost
namespace Go.Proofs.YtbefinbihopgfaaDoor
open Go.RowKit Go.Lib

/-- What is asked of a function value: at every later world, at every rune that a text can have, it answers p of it; whatever lay, lies. -/
def PredG (g : Nat) (lb : Array Value) (p : Int → Bool) (w : World) : Prop :=
  ∀ (W : World) (x : Nat), x ≤ 1114111 → Below w.heap.size w W → Calls Tryd.prog g (#[.int .i32 (x : Int)] ++ lb) W fun e w' => e = .returned (.bool (p x)) ∧ Below W.heap.size W w'
theorem PredG.later {g : Nat} {lb : Array Value} {p : Int → Bool} {w W : World} (h : PredG g lb p w) (hb : Below w.heap.size w W) : PredG g lb p W :=
  fun W' x hx hb' => h W' x hx (hb.trans (hb'.mono hb.size))

set_option maxHeartbeats 400000 in
theorem runs_any (s : ByteArray) (g1 g2 : Nat) (lb1 lb2 : Array Value) (p q : Int → Bool) (w : World) (hs : s.size ≤ 9223372036854775807)
    (eg1 : ∀ args w, (callFunc g1 args).run Tryd.prog w = .ok (.enter g1 args) w) (eg2 : ∀ args w, (callFunc g2 args).run Tryd.prog w = .ok (.enter g2 args) w)
    (hV : Calls Tryd.prog 73 #[.string s] w fun e w' => e = .returned (.bool (Lib.validD s.data.toList)) ∧ Below w.heap.size w w')
    (h1 : PredG g1 lb1 p w) (h2 : PredG g2 lb2 q w) :
    Calls Tryd.prog 42 #[.string s, .func (.func g1) #[] lb1, .func (.func g2) #[] lb2] w fun e w' => e = .returned (.bool (runsB p q s.data.toList)) ∧ Below w.heap.size w w' := by
  by_cases hne : s.data.toList = []
  · have hem : s.toList.isEmpty = true := by rw [Lib.toList_data]; simp [hne]
    have hA : runsB p q s.data.toList = false := by rw [hne]; rfl
    rw [hA]
    go_enter Tryd.func42, Tryd.ntmps42
    go_wp2_with fail
    go_ret
    exact ⟨rfl, Below.refl _ _⟩
  · have hem : s.toList.isEmpty = false := by rw [Lib.toList_data]; simpa using hne
    cases hval : Lib.validD s.data.toList with
    | false =>
      rw [hval] at hV
      rw [runsB_bad p q _ hval]
      go_enter Tryd.func42, Tryd.ntmps42
      go_wp2_with (go_at_call 73; refine hV.mono ?_; rintro e w1 ⟨rfl, hb1⟩)
      go_ret
      exact ⟨rfl, hb1⟩
    | true =>
      rw [hval] at hV
      have hsz : 0 < s.size := by
        rw [Lib.size_eq]; exact List.length_pos_iff.2 hne
      obtain ⟨ANS, hANS⟩ : ∃ ANS, runsB p q s.data.toList = ANS := ⟨_, rfl⟩
      rw [hANS]
      have HA : Hid (runsB p q s.data.toList = ANS) := hANS
      clear hANS
      go_enter Tryd.func42, Tryd.ntmps42
      go_wp2_with (go_at_call 73; refine hV.mono ?_; rintro e w1 ⟨rfl, hb1⟩)
      go_loopg [7] (s.size + 1) (fun gk t wx => Below w1.heap.size w1 wx ∧ ∃ pos : Nat, pos ≤ s.size ∧ s.size - pos < gk ∧ wx.heap[w1.heap.size]? = some (.stringIter s pos) ∧
        ((pos = 0 ∧ t = .func (.func g1) #[] lb1) ∨ (0 < pos ∧ t = .func (.func g2) #[] lb2 ∧ Hid (allR q (s.data.toList.drop pos) = ANS))))
      case atStart => exact ⟨(Below.refl _ w1).alloc (Nat.le_refl _) _, 0, Nat.zero_le _, by omega, World.iter_heap w1 s 0, .inl ⟨rfl, rfl⟩⟩
      case round =>
        obtain ⟨hbw, pos, hpos, hgk, hit, ht⟩ := hrel
        have hkl : w1.heap.size < wr.heap.size := (Array.getElem?_eq_some_iff.1 hit).1
        obtain ⟨g', rfl⟩ : ∃ g', gk = g' + 1 := ⟨gk - 1, by omega⟩
        by_cases hlt : pos < s.size
        · have hnx := fun ty => run_next_any_at (P := Tryd.prog) wr w1.heap.size s pos ty hit hlt
          have hw := width_pos s pos
          have hfit := decode_fits s pos hlt
          have hle := rune_le s pos
          have hit' := iterAt_heap wr w1.heap.size s pos (pos + (Utf8.decode s pos).2) hit
          have hbi := below_iterAt hbw (k := w1.heap.size) (Nat.le_refl _) s (pos + (Utf8.decode s pos).2)
          have hsi := iterAt_size wr w1.heap.size s (pos + (Utf8.decode s pos).2)
          have hdl := decodeL_drop s pos
          rcases ht with ⟨rfl, rfl⟩ | ⟨hp0, rfl, hq⟩
          · simp only [Nat.zero_add, List.drop_zero] at hit' hbi hsi hdl
            have hAns : Hid ((p ((Utf8.decode s 0).1 : Int) && allR q (s.data.toList.drop (Utf8.decode s 0).2)) = ANS) := by
              have h := HA.out
              rw [runsB_ne p q _ hne hval, hdl] at h
              exact h
            have hC := h1 _ (Utf8.decode s 0).1 hle (hb1.trans (hbi.mono hb1.size))
            cases hp : p ((Utf8.decode s 0).1 : Int) with
            | false =>
              rw [hp] at hC hAns
              have hAf : ANS = false := by have h := hAns.out; simpa using h.symm
              subst hAf
              clear hp hdl hnx
              have hnx := fun ty => run_next_any_at (P := Tryd.prog) wr w1.heap.size s 0 ty hit hlt
              simp only [Nat.zero_add] at hnx
              go_wp2_with (go_at_fn g1; refine hC.mono ?_; rintro e w2 ⟨rfl, hb2⟩)
              go_ret
              exact ⟨rfl, (hb1.trans (hbi.mono hb1.size)).trans (hb2.mono (by rw [hsi]; have := hbw.size; have := hb1.size; omega))⟩
            | true =>
              rw [hp] at hC hAns
              have hN : Hid (allR q (s.data.toList.drop (Utf8.decode s 0).2) = ANS) := by
                have h := hAns.out
                rw [Bool.true_and] at h
                exact h
              clear hp hdl hAns
              go_wp2_with (go_at_fn g1; refine hC.mono ?_; rintro e w2 ⟨rfl, hb2⟩)
              go_roundg g'
              case measure => omega
              case rel => exact ⟨hbi.trans (hb2.mono (by rw [hsi]; exact hbw.size)), (Utf8.decode s 0).2, by omega, by omega, (hb2.block _ (by rw [hsi]; exact hkl)).trans hit', .inr ⟨by omega, rfl, hN⟩⟩
          · have hAns : Hid ((q ((Utf8.decode s pos).1 : Int) && allR q (s.data.toList.drop (pos + (Utf8.decode s pos).2))) = ANS) := by
              have h := hq.out
              rw [allR_step q _ (by intro e; have := congrArg List.length e; rw [List.length_drop, ← Lib.size_eq] at this; simp at this; omega), hdl, List.drop_drop] at h
              exact h
            have hC := h2 _ (Utf8.decode s pos).1 hle (hb1.trans (hbi.mono hb1.size))
            cases hp : q ((Utf8.decode s pos).1 : Int) with
            | false =>
              rw [hp] at hC hAns
              have hAf : ANS = false := by have h := hAns.out; simpa using h.symm
              subst hAf
              clear hp hdl hq
              go_wp2_with (go_at_fn g2; refine hC.mono ?_; rintro e w2 ⟨rfl, hb2⟩)
              go_ret
              exact ⟨rfl, (hb1.trans (hbi.mono hb1.size)).trans (hb2.mono (by rw [hsi]; have := hbw.size; have := hb1.size; omega))⟩
            | true =>
              rw [hp] at hC hAns
              have hN : Hid (allR q (s.data.toList.drop (pos + (Utf8.decode s pos).2)) = ANS) := by
                have h := hAns.out
                rw [Bool.true_and] at h
                exact h
              clear hp hdl hAns hq
              go_wp2_with (go_at_fn g2; refine hC.mono ?_; rintro e w2 ⟨rfl, hb2⟩)
              go_roundg g'
              case measure => omega
              case rel => exact ⟨hbi.trans (hb2.mono (by rw [hsi]; exact hbw.size)), pos + (Utf8.decode s pos).2, by omega, by omega, (hb2.block _ (by rw [hsi]; exact hkl)).trans hit', .inr ⟨by omega, rfl, hN⟩⟩
        · have hnx := fun ty => run_next_end_at (P := Tryd.prog) wr w1.heap.size s pos ty hit hlt
          rcases ht with ⟨rfl, rfl⟩ | ⟨hp0, rfl, hq⟩
          · exact absurd hsz hlt
          · have hAt : ANS = true := by
              have hnil : s.data.toList.drop pos = [] := List.drop_eq_nil_of_le (by rw [← Lib.size_eq]; omega)
              have h := hq.out
              rw [hnil, allR_nil] at h
              exact h.symm
            subst hAt
            go_wp2
            go_ret
            exact ⟨rfl, hb1.trans (hbw.mono hb1.size)⟩
end Go.Proofs.YtbefinbihopgfaaDoor
