/- The walk of units.Replace. -/
import Derived.Test.YtipkdbhdpmkjcabUConcat
import Derived.Deep.RegionWith
namespace Go.Proofs.Ytipkdbhdpmkjcab
open Go.RowKit Go.Lib

def repZ (us : List Nat) (x y : Nat) : Nat := min y (us.length - x)
def repE (us : List Nat) (x y : Nat) (vs : List Nat) : Int := if us.length < x then 14 else if 16384 < us.length - repZ us x y + vs.length then 4 else 0
def repU (us : List Nat) (x y : Nat) (vs : List Nat) : List Nat := if us.length < x then [] else if 16384 < us.length - repZ us x y + vs.length then [] else us.take x ++ vs ++ us.drop (x + repZ us x y)
def RepPost (w : World) (us : List Nat) (x y : Nat) (vs : List Nat) (e : Ending) (w' : World) : Prop :=
  ∃ v, e = .returned (.tuple #[v, .int .i64 (repE us x y vs)]) ∧ w'.ownsRow w.heap.size 32 1 v (repU us x y vs).length ((repU us x y vs).map unitV) ∧ Below w.heap.size w w'

theorem rd_head {w : World} {a : Addr} {cap : Nat} {us : List Nat} (h : RdU w (.slice (some a) us.length cap) us) (hcap : us.length ≤ cap) (x : Nat) (hx : x ≤ us.length) : RdU w (.slice (some a) x cap) (us.take x) := by
  have hr := rd_cut h hcap 0 x (by omega)
  rw [Addr.add_zero', Nat.sub_zero] at hr
  exact hr
theorem rd_tail {w : World} {a : Addr} {cap : Nat} {us : List Nat} (h : RdU w (.slice (some a) us.length cap) us) (hcap : us.length ≤ cap) (x : Nat) (hx : x ≤ us.length) : RdU w (.slice (some (a.add x)) (us.length - x) (cap - x)) (us.drop x) := by
  have hr := rd_cut h hcap x (us.length - x) (by omega)
  rw [show cutU us x (us.length - x) = us.drop x by unfold cutU; rw [List.take_of_length_le (by simp)]] at hr
  exact hr

/-- Three strings of units put together. -/
theorem concat_three (w : World) (v1 v2 v3 : Value) (u1 u2 u3 : List Nat) (t : TypeId) (h1 : RdU w v1 u1) (h2 : RdU w v2 u2) (h3 : RdU w v3 u3) (hn : u1.length + u2.length + u3.length ≤ 8796093022208) :
    Calls Try.prog 19 #[.slice (some ⟨w.heap.size, 0, none⟩) 3 3] ((w.alloc (.cells #[v1, v2, v3] t)).drew) fun e w' => ∃ v, e = .returned v ∧ w'.ownsRow w.heap.size 32 1 v (u1 ++ u2 ++ u3).length ((u1 ++ u2 ++ u3).map unitV) ∧ Below w.heap.size w w' := by
  have hb0 : Below w.heap.size w ((w.alloc (.cells #[v1, v2, v3] t)).drew) := ((Below.refl _ w).alloc (Nat.le_refl _) _).drew
  have hc : CellsL ((w.alloc (.cells #[v1, v2, v3] t)).drew) w.heap.size [(v1, u1), (v2, u2), (v3, u3)] := fun j hj => by
    have hcell : ((w.alloc (.cells #[v1, v2, v3] t)).drew).cell? ⟨w.heap.size, j, none⟩ = (#[v1, v2, v3] : Array Value)[j]? := cell_of_heap (w := (w.alloc (.cells #[v1, v2, v3] t)).drew) (alloc_at w _) j
    match j, hj with
    | 0, _ => exact ⟨hcell, h1.later hb0⟩
    | 1, _ => exact ⟨hcell, h2.later hb0⟩
    | 2, _ => exact ⟨hcell, h3.later hb0⟩
  refine (concat_any w.heap.size 3 [(v1, u1), (v2, u2), (v3, u3)] _ (by simp) hc (by simp) (by simp [sumL]; omega)).mono ?_
  rintro e w' ⟨v, rfl, ho, hb⟩
  refine ⟨v, rfl, ?_, hb0.trans (hb.mono hb0.size)⟩
  have ho2 := Go.Joins.ownsRow_le ho (base' := w.heap.size) (by simp)
  simpa [catL] using ho2

set_option maxRecDepth 100000 in
set_option maxHeartbeats 800000 in
theorem replace_any (v v2 : Value) (us vs : List Nat) (x y : Nat) (w : World) (hr : RdU w v us) (hr2 : RdU w v2 vs) (hn : us.length ≤ 1099511627776) (hn2 : vs.length ≤ 1099511627776) (hx : x ≤ 4294967295) (hy : y ≤ 4294967295) :
    Calls Try.prog 6 #[v, .int .u32 x, .int .u32 y, v2] w (RepPost w us x y vs) := by
  obtain ⟨o, cap, rfl, g⟩ := hr.form
  obtain ⟨o2, cap2, rfl, _⟩ := hr2.form
  unfold RepPost repE repU
  by_cases h : us.length < x
  · rw [if_pos h, if_pos h]
    have hR := reach_far o us.length cap x y w hx (by omega) h
    go_enter Try.func6, Try.ntmps6
    go_wp2_with (go_at_call 17; refine hR.mono ?_; rintro e w' ⟨rfl, rfl⟩)
    go_ret2
    exact ⟨_, rfl, World.ownsRow_nil _ _ _ _, Below.refl _ _⟩
  · rw [if_neg h, if_neg h]
    have hR := (reach_near o us.length cap x y (repZ us x y) w hx hy (by omega) (by omega) (show repZ us x y = _ from rfl)).mono (fun e w' h => (⟨h.1, h.2.symm⟩ : e = .returned (.tuple #[.int .i64 x, .int .i64 ((x + repZ us x y : Nat) : Int), .int .i64 0]) ∧ w = w'))
    have hzl : x + repZ us x y ≤ us.length := by unfold repZ; omega
    generalize repZ us x y = z at *
    by_cases hb : 16384 < us.length - z + vs.length
    · rw [if_pos hb, if_pos hb]
      have q : (16384 : Int) < (us.length : Int) - (z : Int) + (vs.length : Int) := by omega
      go_enter Try.func6, Try.ntmps6
      go_wp2_with (go_at_call 17; refine hR.mono ?_; rintro e w' ⟨rfl, rfl⟩)
      go_ret2
      exact ⟨_, rfl, World.ownsRow_nil _ _ _ _, Below.refl _ _⟩
    · rw [if_neg hb, if_neg hb]
      have q : ¬ (16384 : Int) < (us.length : Int) - (z : Int) + (vs.length : Int) := by omega
      cases o with
      | none =>
        have h0 : us.length = 0 := by
          by_cases hp : 0 < us.length
          · obtain ⟨a, ha, _⟩ := g hp; cases ha
          · omega
        have hus : us = [] := List.eq_nil_of_length_eq_zero h0
        subst hus
        have hx0 : x = 0 := by simp at hzl; omega
        have hz0 : z = 0 := by simp at hzl; omega
        subst hx0 hz0
        have hC := concat_three w (.slice none 0 cap) (.slice o2 vs.length cap2) (.slice none 0 cap) [] vs [] 23 hr hr2 hr (by simp; omega)
        go_enter Try.func6, Try.ntmps6
        go_wp2_with (go_at_call 17; refine hR.mono ?_; rintro e w' ⟨rfl, rfl⟩)
        go_region_with (go_at_call 19; refine hC.mono ?_; rintro e w2 ⟨v2, rfl, ho2, b2⟩)
        all_goals
          go_wp2
          go_ret2
          exact ⟨v2, rfl, by simpa using ho2, b2⟩
      | some a =>
        have hcap : us.length ≤ cap := by
          by_cases hp : 0 < us.length
          · obtain ⟨a', ha, _, hc, _⟩ := g hp; exact hc
          · omega
        by_cases hcx : cap = x + z
        · have e0 : us.length - (x + z) = 0 := by omega
          have ed : us.drop (x + z) = [] := List.drop_eq_nil_of_le (by omega)
          have hC := concat_three w (.slice (some a) x cap) (.slice o2 vs.length cap2) (.slice (some a) 0 0) (us.take x) vs (us.drop (x + z)) 23 (rd_head hr hcap x (by omega)) hr2 (by rw [ed]; exact .inl ⟨_, _, rfl, rfl⟩) (by simp; omega)
          subst hcx
          have f1 : (x : Int) ≤ (x : Int) + (z : Int) := by omega
          have f2 : (us.length : Int) = (x : Int) + (z : Int) := by omega
          go_enter Try.func6, Try.ntmps6
          go_wp2_with (go_at_call 17; refine hR.mono ?_; rintro e w' ⟨rfl, rfl⟩)
          go_region_with (go_at_call 19; refine hC.mono ?_; rintro e w2 ⟨v2, rfl, ho2, b2⟩)
          all_goals
            go_wp2
            go_ret2
            exact ⟨v2, rfl, by simpa using ho2, b2⟩
        · have hC := concat_three w (.slice (some a) x cap) (.slice o2 vs.length cap2) (.slice (some (a.add (x + z))) (us.length - (x + z)) (cap - (x + z))) (us.take x) vs (us.drop (x + z)) 23 (rd_head hr hcap x (by omega)) hr2 (rd_tail hr hcap (x + z) hzl) (by simp; omega)
          go_enter Try.func6, Try.ntmps6
          go_wp2_with (go_at_call 17; refine hR.mono ?_; rintro e w' ⟨rfl, rfl⟩)
          go_region_with (go_at_call 19; refine hC.mono ?_; rintro e w2 ⟨v2, rfl, ho2, b2⟩)
          all_goals
            go_wp2
            go_ret2
            exact ⟨v2, rfl, by simpa using ho2, b2⟩
end Go.Proofs.Ytipkdbhdpmkjcab
