/- loop: wait, place, sources, Given, Due, Next. -/
import Derived.Test.YtaliecmdkloceaaLpK
namespace Go.Proofs.Ytaliecmdkloceaa
open Go.RowKit Go.Lib Go.Shelf

def waitD (ms level : Int) : Int := if 5 < level ∧ ms < 4 then 4 else max ms 0
set_option maxRecDepth 100000 in
set_option maxHeartbeats 1000000 in
theorem wait_any (ms level : Int) (V : World) : Calls Try.prog 32 #[.int .i64 ms, .int .i64 level] V fun e w' => e = .returned (.int .i64 (waitD ms level)) ∧ w' = V := by
  unfold waitD
  by_cases h5 : 5 < level
  · have d5 : decide (level > 5) = true := decide_eq_true h5
    by_cases h4 : ms < 4
    · have d4 : decide (ms < 4) = true := decide_eq_true h4
      rw [if_pos ⟨h5, h4⟩]
      go_enter Try.func32, Try.ntmps32
      go_wp2
      go_ret
      exact ⟨rfl, rfl⟩
    · have d4 : decide (ms < 4) = false := decide_eq_false h4
      rw [if_neg (fun h => h4 h.2)]
      go_enter Try.func32, Try.ntmps32
      go_wp2
      go_ret
      exact ⟨rfl, rfl⟩
  · have d5 : decide (level > 5) = false := decide_eq_false (by omega)
    rw [if_neg (fun h => h5 h.1)]
    go_enter Try.func32, Try.ntmps32
    go_wp2
    go_ret
    exact ⟨rfl, rfl⟩
/-- Where a pick falls among n. -/
def placeD (pick : Int) (n : Nat) : Nat := (if pick.tmod (n : Int) < 0 then pick.tmod (n : Int) + (n : Int) else pick.tmod (n : Int)).toNat
theorem tmod_lim (pick : Int) (n : Nat) (hn : 0 < n) : -(n : Int) < pick.tmod (n : Int) ∧ pick.tmod (n : Int) < (n : Int) := by
  have h1 := Int.tmod_lt_of_pos pick (show (0 : Int) < n by omega)
  have h2 := Int.lt_tmod_of_pos pick (show (0 : Int) < n by omega)
  exact ⟨h2, h1⟩
theorem place_lt (pick : Int) (n : Nat) (hn : 0 < n) : placeD pick n < n := by
  have := tmod_lim pick n hn
  unfold placeD
  split <;> omega
set_option maxRecDepth 100000 in
set_option maxHeartbeats 1000000 in
theorem place_any (pick : Int) (n : Nat) (V : World) (hn : 0 < n) (hn8 : n ≤ 8) : Calls Try.prog 39 #[.int .i64 pick, .int .i64 n] V fun e w' => e = .returned (.int .i64 (placeD pick n : Nat)) ∧ w' = V := by
  have hl := tmod_lim pick n hn
  have hw : wrap64 (pick.tmod (n : Int) + (n : Int)) = pick.tmod (n : Int) + (n : Int) := by
    have := IntKind.wrap_i64 (pick.tmod (n : Int) + (n : Int))
    simp [wrap64]
    omega
  by_cases h : pick.tmod (n : Int) < 0
  · have e : ((placeD pick n : Nat) : Int) = pick.tmod (n : Int) + (n : Int) := by
      unfold placeD
      rw [if_pos h, Int.toNat_of_nonneg (by omega)]
    have d1 : decide (pick.tmod (n : Int) < 0) = true := decide_eq_true h
    rw [e]
    clear hl e h
    go_enter Try.func39, Try.ntmps39
    go_wp2
    go_ret
    first
      | exact ⟨congrArg (fun z => Ending.returned (Value.int .i64 z)) hw, rfl⟩
      | exact ⟨rfl, rfl⟩
  · have e : ((placeD pick n : Nat) : Int) = pick.tmod (n : Int) := by
      unfold placeD
      rw [if_neg h, Int.toNat_of_nonneg (by omega)]
    have d1 : decide (pick.tmod (n : Int) < 0) = false := decide_eq_false h
    rw [e]
    clear hl e h
    go_enter Try.func39, Try.ntmps39
    go_wp2
    go_ret
    exact ⟨rfl, rfl⟩
theorem load_giv (B : Nat) (x : Int) (V : World) (h : V.cell? ⟨B, 11, none⟩ = some (.int .i64 x)) :
    Calls Try.prog 48 #[.pointer (some ⟨B, 11, none⟩)] V fun e w' => e = .returned (.int .i64 x) ∧ w' = V := by
  have hl := run_call_load (P := Try.prog) Try.func58 (by kernel_rfl) (by kernel_rfl) (by kernel_rfl) .i64 (by kernel_rfl) h
  go_enter Try.func48, Try.ntmps48
  go_wp2
  go_ret
  exact ⟨rfl, rfl⟩
theorem add_giv (B : Nat) (x : Int) (V : World) (h : V.cell? ⟨B, 11, none⟩ = some (.int .i64 x)) (hz : V.frozen? ⟨B, 11, none⟩ = false) (h0 : 0 ≤ x) (h1 : x < 4611686018427387904) :
    Calls Try.prog 33 #[.pointer (some ⟨B, 11, none⟩), .int .i64 1] V fun e w' => e = .returned (.int .i64 (x + 1)) ∧ w' = V.setCell ⟨B, 11, none⟩ (.int .i64 (x + 1)) := by
  have hl := run_call_add (P := Try.prog) Try.func50 (by kernel_rfl) (by kernel_rfl) (by kernel_rfl) .i64 (by kernel_rfl) (y := 1) (s := x + 1) h hz (by simp [go_sem, IntKind.wrap_i64]; omega)
  go_enter Try.func33, Try.ntmps33
  go_wp2
  go_ret
  exact ⟨rfl, rfl⟩
set_option maxRecDepth 100000 in
set_option maxHeartbeats 1000000 in
theorem given_any (F : Nat → Prop) (B : Nat) (s : LpD) (V : World) (h : LpAt V F B s) :
    Calls Try.prog 29 #[.pointer (some ⟨B, 0, none⟩)] V fun e w' => e = .returned (.int .i64 s.giv) ∧ w' = V := by
  obtain ⟨arr, v, h'⟩ := h
  have hC := load_giv B s.giv V h'.cs.giv
  clear h'
  go_enter Try.func29, Try.ntmps29
  go_wp2_with (go_at_call 48; refine hC.mono ?_; rintro e w2 ⟨rfl, rfl⟩)
  go_ret
  exact ⟨rfl, rfl⟩
def dueD (s : LpD) : Int × Bool := match s.tms with | [] => (0, false) | x :: _ => (x.due, true)
set_option maxRecDepth 100000 in
set_option maxHeartbeats 1000000 in
theorem due_any (F : Nat → Prop) (B : Nat) (s : LpD) (V : World) (h : LpAt V F B s) :
    Calls Try.prog 25 #[.pointer (some ⟨B, 0, none⟩)] V fun e w' => e = .returned (.tuple #[.int .i64 (dueD s).1, .bool (dueD s).2]) ∧ w' = V := by
  obtain ⟨arr, v, h'⟩ := h
  obtain ⟨o2, c2, hv, t0⟩ := h'.tcell
  have hr := h'.rowT
  unfold dueD
  cases hm : s.tms with
  | nil =>
    rw [hm] at t0
    have hC := lengthA_any _ _ _ _ _ _ t0
    simp only [List.length_nil] at t0 hC
    have HC := hid hC
    clear h' hr hv hm hC t0
    go_enter Try.func25, Try.ntmps25
    go_wp2_with (go_at_call 47; refine HC.out.mono ?_; rintro e w2 ⟨rfl, rfl⟩)
    refine bodyPost_ret (v := .tuple #[.int .i64 0, .bool false]) (by simp [results, Try.results25, go_sem]) rfl ?_
    exact ⟨rfl, rfl⟩
  | cons x r =>
    rw [hm, hv] at hr
    rw [hm] at t0 hr
    obtain ⟨g, off, c, e1, hcap, hgl, x0, _, _⟩ := rdA_head (l := r) hr
    injection e1 with e1 _ e3
    subst e1 e3
    have hC := lengthA_any _ _ _ _ _ _ t0
    simp only [List.length_cons] at t0 hC
    have hz : (((r.length + 1 : Nat) : Int) == 0) = false := beq_eq_false_iff_ne.2 (by omega)
    have q2 : (0 : Int) < ((r.length + 1 : Nat) : Int) := by omega
    generalize r.length + 1 = L at *
    have HC := hid hC
    clear h' hr hv hm hC
    dsimp only
    go_enter Try.func25, Try.ntmps25
    go_wp2_with (go_at_call 47; refine HC.out.mono ?_; rintro e w2 ⟨rfl, rfl⟩)
    refine bodyPost_ret (v := .tuple #[.int .i64 x.due, .bool true]) (by simp [results, Try.results25, go_sem]) rfl ?_
    exact ⟨rfl, rfl⟩
/-- The sources at which tasks wait, of the first k. -/
def srcs (s : LpD) (k : Nat) : List Int := ((List.range k).filter (fun j => decide (0 < (qI s (2 + j)).length))).map (fun j : Nat => (j : Int))
theorem srcs_succ (s : LpD) (k : Nat) : srcs s (k + 1) = srcs s k ++ (if 0 < (qI s (2 + k)).length then [(k : Int)] else []) := by
  unfold srcs
  rw [List.range_succ, List.filter_append, List.map_append]
  congr 1
  by_cases h : 0 < (qI s (2 + k)).length
  · rw [if_pos h, List.filter_cons, if_pos (decide_eq_true h)]
    rfl
  · rw [if_neg h, List.filter_cons, if_neg (by simpa using h)]
    rfl
theorem srcs_len (s : LpD) (k : Nat) : (srcs s k).length ≤ k := by
  unfold srcs
  rw [List.length_map]
  exact Nat.le_trans (List.length_filter_le _ _) (by simp)
set_option maxRecDepth 100000 in
set_option maxHeartbeats 2000000 in
theorem sources_any (F : Nat → Prop) (B : Nat) (s : LpD) (V : World) (h : LpAt V F B s) :
    Calls Try.prog 38 #[.pointer (some ⟨B, 0, none⟩)] V fun e w' => ∃ u, e = .returned u ∧ RdI w' u (srcs s 8) ∧ Below V.heap.size V w' := by
  obtain ⟨arr, v, h⟩ := h
  have H := hid (fun k (hk : k < 8) => h.qcell (2 + k) (by omega) (by omega))
  have HB0 := hid h.lt
  have HS := hid (srcs_succ s)
  have HL := hid (srcs_len s)
  have hz : srcs s 0 = [] := rfl
  generalize hS : srcs s = S at *
  clear hS h
  have HZ := hid hz
  clear hz
  go_enter Try.func38, Try.ntmps38
  go_wp2
  go_loopw [3, 5] (fun y u wr => ∃ (k : Nat) (o : Option Addr) (c : Nat), k ≤ 8 ∧ y = .slice o (S k).length c ∧ u = .int .i64 k ∧ Hid (Below V.heap.size V wr) ∧ Hid (QR wr 3 1 (.slice o (S k).length c) (S k).length (rowN (S k)) ∧ ∀ g, (Value.slice o (S k).length c).ownBlock = some g → V.heap.size ≤ g)) (fun _ u _ => 8 - (RowKit.intOf u).toNat)
  case atStart => exact ⟨0, none, 0, by omega, by rw [HZ.out]; rfl, rfl, Below.refl _ _, by rw [HZ.out]; exact ⟨QR.nil _ _ _, fun g hg => by cases hg⟩⟩
  case round =>
    obtain ⟨k, o, c, hk, rfl, rfl, hB, hQ⟩ := hrel
    by_cases hlt : k < 8
    · have d1 : decide ((k : Int) < 8) = true := decide_eq_true (by omega)
      obtain ⟨oq, cq, _, q0⟩ := H.out k hlt
      have q0' := cellLater hB.out HB0.out q0
      have hs1 := HS.out k
      have hl1 := HL.out k
      generalize (qI s (2 + k)).length = L at *
      have q1 : (0 : Int) ≤ (k : Int) := by omega
      have q2 : (k : Int) < 8 := by omega
      by_cases hp : 0 < L
      · have d2 : decide ((L : Int) > 0) = true := decide_eq_true (by omega)
        rw [if_pos hp] at hs1
        have hB1 : Below wr.heap.size wr (wr.alloc (.cells #[.int .i64 (k : Int)] 3)) := (Below.refl _ wr).alloc (Nat.le_refl _) _
        obtain ⟨o1, c1, w1, h1, h2, h3, h4⟩ := run_appendQ1 (wr.alloc (.cells #[.int .i64 (k : Int)] 3)) 26 _ (S k) (k : Int) wr.heap.size 1 (hQ.out.1.later hB1) (box1 (heap_new wr _)) (by omega)
        have hgB : Hid (Below V.heap.size V w1) := (hB.out.trans (hB1.mono hB.out.size)).grown h3 (Nat.le_trans hB.out.size hB1.size) (fun g hg => hQ.out.2 g hg)
        have hQ1 : Hid (QR w1 3 1 (.slice o1 (S (k + 1)).length c1) (S (k + 1)).length (rowN (S (k + 1))) ∧ ∀ g, (Value.slice o1 (S (k + 1)).length c1).ownBlock = some g → V.heap.size ≤ g) := by
          rw [hs1]
          refine ⟨?_, fun g hg => ?_⟩
          · rw [List.length_append] at h2 ⊢
            exact h2
          · rcases h4 g (by rw [← hg]; cases o1 <;> rfl) with h' | h'
            · exact hQ.out.2 g h'
            · have := hB.out.size
              have := hB1.size
              omega
        have e1 : (S k).length + 1 = (S (k + 1)).length := by rw [hs1, List.length_append]; rfl
        rw [e1] at h1
        clear h2 h3 h4 hB1 hs1 hl1 hQ e1
        have HH := hid h1
        clear h1
        go_upto_region 6 with (go_at_call 36; refine (lengthI_any _ _ _ _ _ _ q0').mono ?_; rintro e w2 ⟨rfl, rfl⟩)
        go_wp2_with (at_builtin; refine wpList_append_run _ rfl _ _ 26 26 rfl _ _ rfl rfl _ _ HH.out ?_)
        go_roundw
        case rel => exact ⟨k + 1, o1, c1, by omega, by rfl, by go_num, hgB, hQ1⟩
        case measure => simp [RowKit.intOf]; omega
      · have d2 : decide ((L : Int) > 0) = false := decide_eq_false (by omega)
        rw [if_neg hp, List.append_nil] at hs1
        rw [← hs1] at hQ
        have HS1 := hid hs1
        have e1 : (S k).length = (S (k + 1)).length := by rw [hs1]
        rw [e1]
        clear hl1 e1 hs1
        go_wp2_with (go_at_call 36; refine (lengthI_any _ _ _ _ _ _ q0').mono ?_; rintro e w2 ⟨rfl, rfl⟩)
        go_roundw
        case rel => exact ⟨k + 1, o, c, by omega, by rfl, by go_num, hB, hQ⟩
        case measure => simp [RowKit.intOf]; omega
    · have hk8 : k = 8 := by omega
      subst hk8
      clear HS HL H HZ
      go_wp2
      go_ret
      exact ⟨_, rfl, hQ.out.1.rdN, hB.out⟩
end Go.Proofs.Ytaliecmdkloceaa
