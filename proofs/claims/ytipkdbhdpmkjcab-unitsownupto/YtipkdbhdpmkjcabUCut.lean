/- The walks of units.reach and Sub, slices.Clone at units, and of the reference's Sub. -/
import Derived.Test.YtipkdbhdpmkjcabULives
import Derived.Deep.AppendSrc
import Derived.Lib.AppendZeros
import Derived.Lib.LazyBuf
namespace Go.Proofs.Ytipkdbhdpmkjcab
open Go.RowKit Go.Lib

/-- Units that are put behind a row of the call's own. -/
theorem run_append_rd (w : World) (B : Nat) (v src : Value) (done us : List Nat) (ty : TypeId) (hown : w.ownsRow B 32 1 v done.length (done.map unitV)) (hB : B ≤ w.heap.size) (hr : RdU w src us) (hn : done.length + us.length ≤ 35184372088832) :
    ∃ v' w', (Builtin.append_ #[23, 23] ty #[v, src]).run Try.prog w = .ok v' w' ∧ w'.ownsRow B 32 1 v' (done ++ us).length ((done ++ us).map unitV) ∧ w.grownBy w' v.ownBlock := by
  obtain ⟨i0, hi, hz0, hz1, hz2⟩ := info_parts Try.infoUnit
  have hcase : (∃ cap, src = .slice none 0 cap ∧ us = []) ∨ ∃ a cap, src = .slice (some a) us.length cap ∧ CellsU w a us := by
    rcases hr with ⟨o, cap, rfl, rfl⟩ | ⟨a, cap, rfl, _, _, _, hc⟩
    · cases o with
      | none => exact .inl ⟨cap, rfl, rfl⟩
      | some a => exact .inr ⟨a, cap, rfl, fun j hj => by simp at hj⟩
    · exact .inr ⟨a, cap, rfl, hc⟩
  rcases hcase with ⟨cap, rfl, rfl⟩ | ⟨a, cap, rfl, hc⟩
  · refine ⟨v, w, ?_, by simpa using hown, ⟨rfl, rfl, rfl, Nat.le_refl _, fun _ _ _ => rfl⟩⟩
    rcases hown.2 with ⟨hv, _⟩ | ⟨g, c, cur, hv, _, hg, hnc, _⟩
    · subst hv
      have hs := Src.ofNil (P := Try.prog) w (size := i0.size) Try.underlying23 cap
      simp [Builtin.append_, run_underlying Try.underlying23, sizeOf, typeInfo, hi, Builtin.lenOf]
      rw [hs.cells]
      rfl
    · subst hv
      have hs := Src.ofNil (P := Try.prog) w (size := i0.size) Try.underlying23 cap
      have h := run_append_room_src w 23 23 ty 32 i0 Try.underlying23 hi g 0 done.length c (.slice none 0 cap) 0 [] hs (by omega) (fun j hj => by simp at hj) (fun j hj => by simp at hj)
      exact h
  · obtain ⟨v', w', h1, h2, h3, _⟩ := run_append_own (P := Try.prog) w B 23 ty 32 i0 (.int .u16 0) 1 2 Try.underlying23 hi hz0 hz1 hz2 rfl (by decide) v done.length (done.map unitV) hown a us.length cap (us.map unitV) (by simp) (fun j u hj => by
      rw [List.getElem?_map] at hj
      obtain ⟨x, hx, rfl⟩ := Option.map_eq_some_iff.1 hj
      obtain ⟨hj', rfl⟩ := List.getElem?_eq_some_iff.1 hx
      exact hc j hj') (fun u hu => by obtain ⟨x, _, rfl⟩ := List.mem_map.1 hu; rfl) (by unfold maxLen; omega) (by omega) hB
    exact ⟨v', w', h1, by simpa using h2, h3⟩

theorem below_grown {B : Nat} {w w1 : World} {v : Value} {n : Nat} {xs : List Value} (hown : w.ownsRow B 32 1 v n xs) (hB : B ≤ w.heap.size) (hg : w.grownBy w1 v.ownBlock) : Below B w w1 :=
  (Below.refl B w).grown hg hB (fun j hj => (hown.lt j hj).1)

/-- An empty row of the call's own. -/
theorem own_empty (w : World) (B : Nat) (hB : B ≤ w.heap.size) : (w.alloc (.cells #[] 32)).ownsRow B 32 1 (.slice (some ⟨w.heap.size, 0, none⟩) 0 0) 0 (([] : List Nat).map unitV) := by
  refine ⟨rfl, .inr ⟨w.heap.size, 0, #[], rfl, hB, alloc_at w _, Nat.le_refl _, Nat.zero_le _, rfl, rfl⟩⟩

/-- A copy of units. -/
theorem clone_units (src : Value) (us : List Nat) (w : World) (hr : RdU w src us) (hn : us.length ≤ 17592186044416) :
    Calls Try.prog 18 #[src] w fun e w' => ∃ v, e = .returned v ∧ w'.ownsRow w.heap.size 32 1 v us.length (us.map unitV) ∧ Below w.heap.size w w' := by
  obtain ⟨o, cap, rfl, g⟩ := hr.form
  cases o with
  | none =>
    have hz : us = [] := by
      cases us with
      | nil => rfl
      | cons x t => obtain ⟨a, ha, _⟩ := g (by simp); cases ha
    subst hz
    have q := run_eql_slice_nil (P := Try.prog) w 23 32 none 0 cap Try.underlying23
    go_enter Try.func18, Try.ntmps18
    go_wp2
    go_ret
    exact ⟨_, rfl, World.ownsRow_nil _ _ _ _, Below.refl _ _⟩
  | some a =>
    have hb0 : Below w.heap.size w (w.alloc (.cells #[] 32)) := (Below.refl _ w).alloc (Nat.le_refl _) _
    obtain ⟨v', w', h1, h2, h3⟩ := run_append_rd (w.alloc (.cells #[] 32)) w.heap.size (.slice (some ⟨w.heap.size, 0, none⟩) 0 0) (.slice (some a) us.length cap) [] us 23 (own_empty w _ (Nat.le_refl _)) (by simp) (hr.later hb0) (by simp; omega)
    have hb1 := hb0.trans (below_grown (own_empty w w.heap.size (Nat.le_refl _)) (by simp) h3)
    have q := run_eql_slice_nil (P := Try.prog) w 23 32 (some a) us.length cap Try.underlying23
    go_enter Try.func18, Try.ntmps18
    go_wp2_with (at_builtin; refine wpList_append_run _ rfl _ _ 23 23 rfl _ _ rfl rfl _ _ h1 ?_)
    go_ret
    exact ⟨_, rfl, by simpa using h2, hb1⟩

/-- A part of units, from a place on, so many at the most. -/
def cutU (us : List Nat) (x y : Nat) : List Nat := (us.drop x).take y
theorem cutU_len (us : List Nat) (x y : Nat) : (cutU us x y).length = min y (us.length - x) := by
  simp [cutU]
theorem rd_cut {w : World} {a : Addr} {cap : Nat} {us : List Nat} (h : RdU w (.slice (some a) us.length cap) us) (hcap : us.length ≤ cap) (x z : Nat) (hz : x + z ≤ us.length) : RdU w (.slice (some (a.add x)) z (cap - x)) (cutU us x z) := by
  have hl : (cutU us x z).length = z := by rw [cutU_len]; omega
  by_cases h0 : us.length = 0
  · have hz0 : z = 0 := by omega
    subst hz0
    exact .inl ⟨_, _, rfl, List.eq_nil_of_length_eq_zero hl⟩
  · obtain ⟨o, c, hv, g⟩ := h.form
    cases hv
    obtain ⟨a', ha', hb, _, hm, hc⟩ := g (by omega)
    cases ha'
    refine .inr ⟨a.add x, cap - x, by rw [hl], ?_, by rw [hl]; omega, by omega, fun j hj => ?_⟩
    · have e : (a.add x).block = a.block := by unfold Addr.add; split <;> rfl
      rw [e]; exact hb
    · rw [hl] at hj
      rw [Addr.add_add, hc (x + j) (by omega)]
      simp [cutU]

set_option maxRecDepth 100000 in
set_option maxHeartbeats 1000000 in
theorem reach_far (o : Option Addr) (n cap x y : Nat) (w : World) (hx : x ≤ 4294967295) (hn : n ≤ 140737488355328) (h : n < x) :
    Calls Try.prog 17 #[.slice o n cap, .int .u32 x, .int .u32 y] w fun e w' => e = .returned (.tuple #[.int .i64 0, .int .i64 0, .int .i64 14]) ∧ w' = w := by
  have q : (n : Int) < (x : Int) := by omega
  go_enter Try.func17, Try.ntmps17
  go_wp2
  go_ret3
  exact ⟨rfl, rfl⟩

set_option maxRecDepth 100000 in
set_option maxHeartbeats 1000000 in
theorem reach_near (o : Option Addr) (n cap x y z : Nat) (w : World) (hx : x ≤ 4294967295) (hy : y ≤ 4294967295) (hn : n ≤ 140737488355328) (h : x ≤ n) (hz : Hid (z = min y (n - x))) :
    Calls Try.prog 17 #[.slice o n cap, .int .u32 x, .int .u32 y] w fun e w' => e = .returned (.tuple #[.int .i64 x, .int .i64 ((x + z : Nat) : Int), .int .i64 0]) ∧ w' = w := by
  have q : ¬ (n : Int) < (x : Int) := by omega
  go_enter Try.func17, Try.ntmps17
  go_wp2
  go_ret3
  refine ⟨?_, rfl⟩
  have e : (x : Int) + min (y : Int) ((n : Int) - (x : Int)) = ((x + z : Nat) : Int) := by have := hz.out; omega
  show Ending.returned (.tuple #[.int .i64 x, .int .i64 ((x : Int) + min (y : Int) ((n : Int) - (x : Int))), .int .i64 0]) = _
  rw [e]
  simp

def subE (us : List Nat) (x : Nat) : Int := if us.length < x then 14 else 0
def subU (us : List Nat) (x y : Nat) : List Nat := if us.length < x then [] else cutU us x y

/-- What Sub comes to. -/
def SubPost (w : World) (us : List Nat) (x y : Nat) (e : Ending) (w' : World) : Prop :=
  ∃ v, e = .returned (.tuple #[v, .int .i64 (subE us x)]) ∧ w'.ownsRow w.heap.size 32 1 v (subU us x y).length ((subU us x y).map unitV) ∧ Below w.heap.size w w'

set_option maxRecDepth 100000 in
set_option maxHeartbeats 1000000 in
theorem sub_any (v : Value) (us : List Nat) (x y : Nat) (w : World) (hr : RdU w v us) (hn : us.length ≤ 17592186044416) (hx : x ≤ 4294967295) (hy : y ≤ 4294967295) :
    Calls Try.prog 5 #[v, .int .u32 x, .int .u32 y] w (SubPost w us x y) := by
  obtain ⟨o, cap, rfl, g⟩ := hr.form
  unfold SubPost subE subU
  by_cases h : us.length < x
  · rw [if_pos h, if_pos h]
    have hR := reach_far o us.length cap x y w hx (by omega) h
    go_enter Try.func5, Try.ntmps5
    go_wp2_with (go_at_call 17; refine hR.mono ?_; rintro e w' ⟨rfl, rfl⟩)
    go_ret2
    exact ⟨_, rfl, World.ownsRow_nil _ _ _ _, Below.refl _ _⟩
  · rw [if_neg h, if_neg h]
    obtain ⟨z, hz⟩ : ∃ z, z = min y (us.length - x) := ⟨_, rfl⟩
    have hR := (reach_near o us.length cap x y z w hx hy (by omega) (by omega) hz).mono (fun e w' h => (⟨h.1, h.2.symm⟩ : e = .returned (.tuple #[.int .i64 x, .int .i64 ((x + z : Nat) : Int), .int .i64 0]) ∧ w = w'))
    have hcz : cutU us x y = cutU us x z := by
      have h1 : (us.drop x).length = us.length - x := by simp
      by_cases hyy : y ≤ us.length - x
      · rw [show z = y by omega]
      · unfold cutU
        rw [List.take_of_length_le (by omega), List.take_of_length_le (by omega)]
    rw [hcz]
    have hzl : x + z ≤ us.length := by omega
    clear hcz hz
    cases o with
    | none =>
      have h0 : us.length = 0 := by
        by_cases hp : 0 < us.length
        · obtain ⟨a, ha, _⟩ := g hp; cases ha
        · omega
      have hus : us = [] := List.eq_nil_of_length_eq_zero h0
      subst hus
      have hx0 : x = 0 := by simp at hzl; omega
      have hz0 : z = 0 := by simp at hzl; omega
      subst hx0 hz0
      have hC := clone_units (.slice none 0 cap) [] w hr (by simp)
      go_enter Try.func5, Try.ntmps5
      go_wp2_with (first
        | (go_at_call 17; refine hR.mono ?_; rintro e w' ⟨rfl, rfl⟩)
        | (go_at_call 18; refine hC.mono ?_; rintro e w2 ⟨v2, rfl, ho2, b2⟩))
      go_ret2
      exact ⟨_, rfl, by simpa [cutU] using ho2, b2⟩
    | some a =>
      have hcap : us.length ≤ cap := by
        by_cases hp : 0 < us.length
        · obtain ⟨a', ha, _, hc, _⟩ := g hp; exact hc
        · omega
      by_cases hcx : cap = x
      · have hz0 : z = 0 := by omega
        subst hcx hz0
        have hC := clone_units (.slice (some a) 0 0) [] w (.inl ⟨_, _, rfl, rfl⟩) (by simp)
        rw [show cutU us cap 0 = [] by simp [cutU]]
        go_enter Try.func5, Try.ntmps5
        go_wp2_with (first
          | (go_at_call 17; refine hR.mono ?_; rintro e w' ⟨rfl, rfl⟩)
          | (go_at_call 18; refine hC.mono ?_; rintro e w2 ⟨v2, rfl, ho2, b2⟩))
        go_ret2
        exact ⟨_, rfl, by simpa using ho2, b2⟩
      · have hC := clone_units _ _ w (rd_cut hr hcap x z hzl) (by rw [cutU_len]; omega)
        go_enter Try.func5, Try.ntmps5
        go_wp2_with (first
          | (go_at_call 17; refine hR.mono ?_; rintro e w' ⟨rfl, rfl⟩)
          | (go_at_call 18; refine hC.mono ?_; rintro e w2 ⟨v2, rfl, ho2, b2⟩))
        go_ret2
        exact ⟨_, rfl, by simpa using ho2, b2⟩
end Go.Proofs.Ytipkdbhdpmkjcab
