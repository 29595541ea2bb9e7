/- The walks of units.appendRune and units.Of. -/
import Derived.Test.YtbefinbihopgfaaDoorUPlain
import Derived.Test.YtbefinbihopgfaaDoorProg
import Derived.WalkKit
import Derived.WalkSpells
import Derived.WalkLawsBesides
import Derived.WalkSmall
import Derived.Lib.OthersKept
import Derived.Deep.LoopGhost
import Derived.Lib.SmallJoins
import Derived.Laws.BitsLemmas
namespace Go.Proofs.YtbefinbihopgfaaDoor
open Go.RowKit Go.Lib

def unitV (x : Nat) : Value := .int .u16 (x : Int)
theorem wraps_i32 (n : Int) (h0 : 0 ≤ n) (h1 : n < 2 ^ 31) : IntKind.i32.wrap n = n := by simp [IntKind.wrap, IntKind.signed, IntKind.bits]; omega
theorem low10 (x : Int) (h0 : 0 ≤ x) (h1 : x < 2 ^ 31) : bits .and .i32 x 1023 = x % 1024 := by
  have h := bits_mask .i32 31 (by decide) wraps_i32 10 (by decide) x h0 h1
  have e : ((2 : Int) ^ 10 - 1) = 1023 := by decide
  have e2 : ((2 : Int) ^ 10) = 1024 := by decide
  rw [e, e2] at h
  exact h
theorem Tryd.infoUnit : (Tryd.prog.info? 45).map (fun i => (i.zero, i.size, i.bytes)) = some (some (.int .u16 0), 1, 2) := by kernel_rfl

set_option maxHeartbeats 1000000 in
theorem appendRune_any (v : Value) (done : List Nat) (r : Nat) (B : Nat) (w : World) (hr : r ≤ 1114111) (hown : w.ownsRow B 45 1 v done.length (done.map unitV)) (hB : B ≤ w.heap.size) (hn : done.length ≤ 35184372088832) :
    Calls Tryd.prog 61 #[v, .int .i32 (r : Int)] w fun e w' => ∃ v', e = .returned v' ∧ w'.ownsRow B 45 1 v' (done ++ unitsR r).length ((done ++ unitsR r).map unitV) ∧ Below B w w' := by
  obtain ⟨i0, hi, hz0, hz1, hz2⟩ := info_parts Tryd.infoUnit
  by_cases hlt : r < 65536
  · have e1 : unitsR r = [r] := if_pos hlt
    rw [e1]
    have h1 : (r : Int) < 65536 := by omega
    go_enter Tryd.func61, Tryd.ntmps61
    go_wp2_with (at_builtin; refine wpList_append_own _ rfl _ _ 39 rfl B 45 i0 (.int .u16 0) 1 2 Tryd.underlying39 hi hz0 hz1 hz2 rfl (by decide) _ _ _ rfl (hown.alloc _) ⟨w.heap.size, 0, none⟩ 1 1 [unitV r] rfl rfl ?c1 ?c2 ?c3 ?c4 ?c5 ?_)
    case c1 =>
      intro j u hj
      match j, hj with
      | 0, hj => simp at hj; subst hj; simp [Addr.add, unitV]
    case c2 => intro u hu; simp at hu; subst hu; rfl
    case c3 => unfold maxLen; omega
    case c4 => omega
    case c5 => simp; omega
    intro v' w1 hown' hgrow _
    have hb1 : Below B w w1 := ((Below.refl B w).alloc hB _).grown hgrow (by simp; omega) (fun j hj => (hown.lt j hj).1)
    go_wp2
    go_ret
    exact ⟨_, rfl, by simpa using hown', hb1⟩
  · obtain ⟨x, hx⟩ : ∃ x, 55296 + (r - 65536) / 1024 = x := ⟨_, rfl⟩
    obtain ⟨y, hy⟩ : ∃ y, 56320 + (r - 65536) % 1024 = y := ⟨_, rfl⟩
    have e1 : unitsR r = [x, y] := by rw [← hx, ← hy]; exact if_neg hlt
    rw [e1]
    clear e1
    have h1 : ¬ (r : Int) < 65536 := by omega
    have hy2 := low10 ((r : Int) - 65536) (by omega) (by omega)
    go_enter Tryd.func61, Tryd.ntmps61
    go_wp2_with (at_builtin; refine wpList_append_own _ rfl _ _ 39 rfl B 45 i0 (.int .u16 0) 1 2 Tryd.underlying39 hi hz0 hz1 hz2 rfl (by decide) _ _ _ rfl (hown.alloc _) ⟨w.heap.size, 0, none⟩ 2 2 [unitV x, unitV y] rfl rfl ?c1 ?c2 ?c3 ?c4 ?c5 ?_)
    case c1 =>
      intro j u hj
      match j, hj with
      | 0, hj => simp at hj; subst hj; simp [unitV]; omega
      | 1, hj => simp at hj; subst hj; simp [unitV]; omega
    case c2 => exact ⟨rfl, rfl⟩
    case c3 => unfold maxLen; omega
    case c4 => omega
    case c5 => omega
    intro v' w1 hown' hgrow _
    have hb1 : Below B w w1 := ((Below.refl B w).alloc hB _).grown hgrow (by simp; omega) (fun j hj => (hown.lt j hj).1)
    go_wp2
    go_ret
    exact ⟨_, rfl, by simpa using hown', hb1⟩

theorem decode_fits (s : ByteArray) (pos : Nat) (h : pos < s.size) : pos + (Utf8.decode s pos).2 ≤ s.size := by
  have hl : (s.data.toList.drop pos).length = s.size - pos := by rw [List.length_drop, ← Lib.size_eq]
  have hne : s.data.toList.drop pos ≠ [] := by
    intro e
    rw [e] at hl
    simp at hl
    omega
  have := Lib.decodeL_le _ hne
  rw [Lib.decodeL_drop, hl] at this
  omega
theorem drop_ne (s : ByteArray) (pos : Nat) (h : pos < s.size) : s.data.toList.drop pos ≠ [] := by
  intro e
  have := congrArg List.length e
  rw [List.length_drop, ← Lib.size_eq] at this
  simp at this
  omega

/-- What Of comes to. -/
def OfPost (w : World) (U : List Nat) (e : Ending) (w' : World) : Prop :=
  Below w.heap.size w w' ∧ ((16384 < U.length ∧ e = .returned (.tuple #[.slice none 0 0, .int .i64 4])) ∨
    (U.length ≤ 16384 ∧ ∃ v, e = .returned (.tuple #[v, .int .i64 0]) ∧ w'.ownsRow w.heap.size 45 1 v U.length (U.map unitV)))

set_option maxHeartbeats 1000000 in
theorem of_any (s : ByteArray) (w : World) : Calls Tryd.prog 34 #[.string s] w (OfPost w (unD s.data.toList)) := by
  generalize hU : unD s.data.toList = U
  have HU : Hid (unD s.data.toList = U) := hU
  clear hU
  have HA : Hid (∀ v done r B w, r ≤ 1114111 → _ → _ → _ → _) := appendRune_any
  go_enter Tryd.func34, Tryd.ntmps34
  go_wp2
  go_loopw [4] (fun v wr => ∃ (pos : Nat) (done : List Nat), pos ≤ s.size ∧ wr.heap[w.heap.size]? = some (.stringIter s pos) ∧ wr.ownsRow (w.heap.size + 1) 45 1 v done.length (done.map unitV) ∧ Below w.heap.size w wr ∧
      done.length ≤ 16384 ∧ Hid (done ++ unD (s.data.toList.drop pos) = U)) (fun _ wr => s.size - wr.iterPos w.heap.size)
  case atStart => exact ⟨0, [], Nat.zero_le _, World.iter_heap w s 0, World.ownsRow_nil _ _ _ _, (Below.refl _ w).alloc (Nat.le_refl _) _, by simp, HU.out⟩
  case round =>
    obtain ⟨pos, done, hpos, hit, hown, hbw, hd, hu⟩ := hrel
    have hkl : w.heap.size < wr.heap.size := (Array.getElem?_eq_some_iff.1 hit).1
    by_cases hlt : pos < s.size
    · have hnx := fun ty => run_next_any_at (P := Tryd.prog) wr w.heap.size s pos ty hit hlt
      have hw := width_pos s pos
      have hfit := decode_fits s pos hlt
      have hle := rune_le s pos
      have hit' := iterAt_heap wr w.heap.size s pos (pos + (Utf8.decode s pos).2) hit
      have hbi := below_iterAt hbw (k := w.heap.size) (Nat.le_refl _) s (pos + (Utf8.decode s pos).2)
      have hsi := iterAt_size wr w.heap.size s (pos + (Utf8.decode s pos).2)
      have hown2 := ownsRow_iterAt hown (k := w.heap.size) (by omega) s (pos + (Utf8.decode s pos).2)
      have hn : Hid ((done ++ unitsR (Utf8.decode s pos).1) ++ unD (s.data.toList.drop (pos + (Utf8.decode s pos).2)) = U) := by
        have h := hu.out
        rw [unD_step _ (drop_ne s pos hlt), Lib.decodeL_drop, List.drop_drop] at h
        show _ = _
        rw [List.append_assoc]
        exact h
      have hul := unitsR_len (Utf8.decode s pos).1
      have hC := HA.out _ done (Utf8.decode s pos).1 (w.heap.size + 1) _ hle hown2 (by rw [hsi]; omega) (by omega)
      clear hu
      have hp0 : 0 < (done ++ unitsR (Utf8.decode s pos).1).length := by simp; omega
      by_cases hbig : 16384 < (done ++ unitsR (Utf8.decode s pos).1).length
      · have hUb : 16384 < U.length := by rw [← hn.out]; simp at hbig ⊢; omega
        generalize done ++ unitsR (Utf8.decode s pos).1 = done' at *
        go_wp2_with (go_at_call 61; refine hC.mono ?_; rintro e w2 ⟨v', rfl, hown', hb2⟩; obtain ⟨g, cap, rfl⟩ := Go.Joins.ownsRow_form hown' hp0)
        go_ret2
        exact ⟨hbi.trans (hb2.mono (by omega)), .inl ⟨hUb, rfl⟩⟩
      · have hsm : (done ++ unitsR (Utf8.decode s pos).1).length ≤ 16384 := by omega
        generalize done ++ unitsR (Utf8.decode s pos).1 = done' at *
        go_wp2_with (go_at_call 61; refine hC.mono ?_; rintro e w2 ⟨v', rfl, hown', hb2⟩; obtain ⟨g, cap, rfl⟩ := Go.Joins.ownsRow_form hown' hp0)
        go_roundw
        case rel => exact ⟨pos + (Utf8.decode s pos).2, done', hfit, (hb2.block _ (by omega)).trans hit', hown', hbi.trans (hb2.mono (by omega)), hsm, hn⟩
        case measure => simp only [World.iterPos, (hb2.block _ (by omega)).trans hit', hit]; omega
    · have hnx := fun ty => run_next_end_at (P := Tryd.prog) wr w.heap.size s pos ty hit hlt
      have hnil : s.data.toList.drop pos = [] := List.drop_eq_nil_of_le (by rw [← Lib.size_eq]; omega)
      have hUd : U = done := by rw [← hu.out, hnil, unD_nil, List.append_nil]
      subst hUd
      clear hu hnil
      go_wp2
      go_ret2
      exact ⟨hbw, .inr ⟨hd, _, rfl, Go.Joins.ownsRow_le hown (by omega)⟩⟩
end Go.Proofs.YtbefinbihopgfaaDoor
