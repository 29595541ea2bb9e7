/- OrderTotal's own walk. -/
/- OrderTotal, whole. -/
import Derived.Test.YtnolcbjaijoloaaCFConFTree
import Derived.Test.YtnolcbjaijoloaaCFStandFCmpC
import Derived.Test.YtnolcbjaijoloaaCFNextFNextC
import Derived.Test.YtnolcbjaijoloaaCFWithWFWithL
import Derived.Deep.DeepCutAuto
namespace Go.Proofs.Ytnolcbjaijoloaa
open Go.RowKit Go.Lib Go.Shelf

theorem sign_any (z : Int) (w : World) : Calls Try.prog 12 #[.int .i64 z] w fun e w' => e = .returned (.int .i64 (cmpI z 0)) ∧ w' = w := by
  unfold cmpI
  by_cases h1 : z < 0
  · rw [if_pos h1]
    go_enter Try.func12, Try.ntmps12
    go_wp2
    go_ret
    exact ⟨rfl, rfl⟩
  · rw [if_neg h1]
    by_cases h2 : 0 < z
    · rw [if_pos h2]
      go_enter Try.func12, Try.ntmps12
      go_wp2
      go_ret
      exact ⟨rfl, rfl⟩
    · rw [if_neg h2]
      go_enter Try.func12, Try.ntmps12
      go_wp2
      go_ret
      exact ⟨rfl, rfl⟩
theorem rd_drop {W : World} {b off c : Nat} {l : List Int} (h : RdI W (.slice (some ⟨b, off, none⟩) l.length c) l) (k : Nat) (hk : k ≤ l.length) : RdI W (.slice (some ⟨b, off + k, none⟩) (l.length - k) (c - k)) (l.drop k) := by
  obtain ⟨o', c', e', hc, g⟩ := h
  simp only [Value.slice.injEq] at e'
  obtain ⟨rfl, _, rfl⟩ := e'
  refine ⟨_, c - k, by rw [List.length_drop], by rw [List.length_drop]; omega, fun hp => ?_⟩
  rw [List.length_drop] at hp
  obtain ⟨b', off', e2, hlt, ha⟩ := g (by omega)
  cases e2
  refine ⟨b, off + k, rfl, hlt, fun j hj => ?_⟩
  rw [List.length_drop] at hj
  have := ha (k + j) (by omega)
  rw [List.getElem_drop, show off + k + j = off + (k + j) by omega]
  exact this
/-- What must hold of how three nodes stand to one another. -/
def TotalOK (x y : Int) (m n k : Int) (same also all : Bool) : Prop :=
  (same = false ∧ m = 0) ∨ (same = true ∧ ((m = -1 ∧ (x == y) = false) ∨ (m = 0 ∧ (x == y) = true) ∨ (m = 1 ∧ (x == y) = false)) ∧ (also = false ∨ (also = true ∧ all = true ∧ (m = 1 ∨ 0 < n ∨ ¬ 0 < k))))

set_option maxRecDepth 100000 in
set_option maxHeartbeats 16000000 in
theorem total_refused1 (o : Option Addr) (cap : Nat) (x y z m n k E1 E2 E3 : Int) (same also all : Bool) (ns : List NodeD) (w : World) (hE : (E1 != 0) = true) (HBg : Hid (∀ W : World, Calls Try.prog 6 #[] W fun e w' => e = .returned (.bool true) ∧ Below W.heap.size W w')) (H1 : Hid (∀ W : World, Below w.heap.size w W → Calls Try.prog 7 #[.agg #[.slice o ns.length cap], .int .i64 x, .int .i64 y] W fun e w' => e = .returned (.tuple #[.int .i64 m, .bool same, .int .i64 E1]) ∧ Below W.heap.size W w')) (H2 : Hid (∀ W : World, Below w.heap.size w W → Calls Try.prog 7 #[.agg #[.slice o ns.length cap], .int .i64 y, .int .i64 z] W fun e w' => e = .returned (.tuple #[.int .i64 n, .bool also, .int .i64 E2]) ∧ Below W.heap.size W w')) (H3 : Hid (∀ W : World, Below w.heap.size w W → Calls Try.prog 7 #[.agg #[.slice o ns.length cap], .int .i64 x, .int .i64 z] W fun e w' => e = .returned (.tuple #[.int .i64 k, .bool all, .int .i64 E3]) ∧ Below W.heap.size W w')) :
    Calls Try.prog 3 #[.agg #[.slice o ns.length cap], .int .i64 x, .int .i64 y, .int .i64 z] w fun e w' => e = .returned (.bool true) ∧ Below w.heap.size w w' := by
  go_enter Try.func3, Try.ntmps3
  go_wp2_with fail
  refine (HBg.out _).mono ?_
  rintro e v0 ⟨rfl, hb0⟩
  have HB0 := hid (box_go hb0)
  have cb0 := box_forest hb0
  have hs0 := hb0.size
  simp only [World.size_alloc] at hs0
  clear hb0 HBg
  go_wp2_with fail
  refine (H1.out _ HB0.out).mono ?_
  rintro e v1 ⟨rfl, hb⟩
  have HB1 := hid (HB0.out.trans (hb.mono HB0.out.size))
  have cb1 := (hb.cell (p := ⟨w.heap.size, 0, none⟩) (by show w.heap.size < v0.heap.size; omega)).trans cb0
  have hs1 := Nat.le_trans hs0 hb.size
  clear hb cb0 HB0 hs0 H1
  go_wp2_with fail
  refine (H2.out _ HB1.out).mono ?_
  rintro e v2 ⟨rfl, hb⟩
  have HB2 := hid (HB1.out.trans (hb.mono HB1.out.size))
  have cb2 := (hb.cell (p := ⟨w.heap.size, 0, none⟩) (by show w.heap.size < v1.heap.size; omega)).trans cb1
  have hs2 := Nat.le_trans hs1 hb.size
  clear hb cb1 HB1 hs1 H2
  go_wp2_with fail
  refine (H3.out _ HB2.out).mono ?_
  rintro e v3 ⟨rfl, hb⟩
  have HB3 := hid (HB2.out.trans (hb.mono HB2.out.size))
  have cb3 := (hb.cell (p := ⟨w.heap.size, 0, none⟩) (by show w.heap.size < v2.heap.size; omega)).trans cb2
  have hs3 := Nat.le_trans hs2 hb.size
  clear hb cb2 HB2 hs2 H3
  go_wp2
  go_ret
  exact ⟨rfl, HB3.out⟩

set_option maxRecDepth 100000 in
set_option maxHeartbeats 16000000 in
theorem total_refused2 (o : Option Addr) (cap : Nat) (x y z m n k E2 E3 : Int) (same also all : Bool) (ns : List NodeD) (w : World) (hE : (E2 != 0) = true) (HBg : Hid (∀ W : World, Calls Try.prog 6 #[] W fun e w' => e = .returned (.bool true) ∧ Below W.heap.size W w')) (H1 : Hid (∀ W : World, Below w.heap.size w W → Calls Try.prog 7 #[.agg #[.slice o ns.length cap], .int .i64 x, .int .i64 y] W fun e w' => e = .returned (.tuple #[.int .i64 m, .bool same, .int .i64 0]) ∧ Below W.heap.size W w')) (H2 : Hid (∀ W : World, Below w.heap.size w W → Calls Try.prog 7 #[.agg #[.slice o ns.length cap], .int .i64 y, .int .i64 z] W fun e w' => e = .returned (.tuple #[.int .i64 n, .bool also, .int .i64 E2]) ∧ Below W.heap.size W w')) (H3 : Hid (∀ W : World, Below w.heap.size w W → Calls Try.prog 7 #[.agg #[.slice o ns.length cap], .int .i64 x, .int .i64 z] W fun e w' => e = .returned (.tuple #[.int .i64 k, .bool all, .int .i64 E3]) ∧ Below W.heap.size W w')) :
    Calls Try.prog 3 #[.agg #[.slice o ns.length cap], .int .i64 x, .int .i64 y, .int .i64 z] w fun e w' => e = .returned (.bool true) ∧ Below w.heap.size w w' := by
  go_enter Try.func3, Try.ntmps3
  go_wp2_with fail
  refine (HBg.out _).mono ?_
  rintro e v0 ⟨rfl, hb0⟩
  have HB0 := hid (box_go hb0)
  have cb0 := box_forest hb0
  have hs0 := hb0.size
  simp only [World.size_alloc] at hs0
  clear hb0 HBg
  go_wp2_with fail
  refine (H1.out _ HB0.out).mono ?_
  rintro e v1 ⟨rfl, hb⟩
  have HB1 := hid (HB0.out.trans (hb.mono HB0.out.size))
  have cb1 := (hb.cell (p := ⟨w.heap.size, 0, none⟩) (by show w.heap.size < v0.heap.size; omega)).trans cb0
  have hs1 := Nat.le_trans hs0 hb.size
  clear hb cb0 HB0 hs0 H1
  go_wp2_with fail
  refine (H2.out _ HB1.out).mono ?_
  rintro e v2 ⟨rfl, hb⟩
  have HB2 := hid (HB1.out.trans (hb.mono HB1.out.size))
  have cb2 := (hb.cell (p := ⟨w.heap.size, 0, none⟩) (by show w.heap.size < v1.heap.size; omega)).trans cb1
  have hs2 := Nat.le_trans hs1 hb.size
  clear hb cb1 HB1 hs1 H2
  go_wp2_with fail
  refine (H3.out _ HB2.out).mono ?_
  rintro e v3 ⟨rfl, hb⟩
  have HB3 := hid (HB2.out.trans (hb.mono HB2.out.size))
  have cb3 := (hb.cell (p := ⟨w.heap.size, 0, none⟩) (by show w.heap.size < v2.heap.size; omega)).trans cb2
  have hs3 := Nat.le_trans hs2 hb.size
  clear hb cb2 HB2 hs2 H3
  go_wp2
  go_ret
  exact ⟨rfl, HB3.out⟩

set_option maxRecDepth 100000 in
set_option maxHeartbeats 16000000 in
theorem total_main (o : Option Addr) (cap : Nat) (x y z m n k r nx : Int) (same also all : Bool) (ns : List NodeD) (w : World) (hOK : TotalOK x y m n k same also all) (l : List Int) (ia : Nat) (hll : l.length ≤ 1099511627776) (hia : ia < l.length) (h1 : idxI l x 0 = (ia : Int)) (h2 : idxI (l.drop (ia + 1)) x 0 = -1) (hb : (same = false ∧ idxI l y 0 = -1) ∨ (same = true ∧ ∃ ib : Nat, ib ≤ 1099511627776 ∧ idxI l y 0 = (ib : Int) ∧ m = cmpI ((ia : Int) - (ib : Int)) 0)) (hnx : (ia + 1 < l.length ∧ l.getD (ia + 1) 0 = nx) ∨ (ia + 1 = l.length ∧ nx = 0)) (HBg : Hid (∀ W : World, Calls Try.prog 6 #[] W fun e w' => e = .returned (.bool true) ∧ Below W.heap.size W w')) (H1 : Hid (∀ W : World, Below w.heap.size w W → Calls Try.prog 7 #[.agg #[.slice o ns.length cap], .int .i64 x, .int .i64 y] W fun e w' => e = .returned (.tuple #[.int .i64 m, .bool same, .int .i64 0]) ∧ Below W.heap.size W w')) (H2 : Hid (∀ W : World, Below w.heap.size w W → Calls Try.prog 7 #[.agg #[.slice o ns.length cap], .int .i64 y, .int .i64 z] W fun e w' => e = .returned (.tuple #[.int .i64 n, .bool also, .int .i64 0]) ∧ Below W.heap.size W w')) (H3 : Hid (∀ W : World, Below w.heap.size w W → Calls Try.prog 7 #[.agg #[.slice o ns.length cap], .int .i64 x, .int .i64 z] W fun e w' => e = .returned (.tuple #[.int .i64 k, .bool all, .int .i64 0]) ∧ Below W.heap.size W w')) (HR : Hid (∀ W : World, Below w.heap.size w W → Calls Try.prog 8 #[.agg #[.slice o ns.length cap], .int .i64 x] W fun e w' => e = .returned (.tuple #[.int .i64 r, .int .i64 0]) ∧ Below W.heap.size W w')) (HA : Hid (∀ W : World, Below w.heap.size w W → Calls Try.prog 9 #[.agg #[.slice o ns.length cap], .int .i64 r] W fun e w' => ∃ v, e = .returned (.tuple #[v, .int .i64 0]) ∧ RdI w' v l ∧ Below W.heap.size W w')) (HX : Hid (∀ W : World, Below w.heap.size w W → Calls Try.prog 10 #[.agg #[.slice o ns.length cap], .int .i64 x] W fun e w' => e = .returned (.tuple #[.int .i64 nx, .int .i64 0]) ∧ Below W.heap.size W w')) :
    Calls Try.prog 3 #[.agg #[.slice o ns.length cap], .int .i64 x, .int .i64 y, .int .i64 z] w fun e w' => e = .returned (.bool true) ∧ Below w.heap.size w w' := by
  have HOK := hid hOK
  have Hb := hid hb
  have Hnx := hid hnx
  have H1x := hid h1
  have H2x := hid h2
  clear hOK hb hnx h1 h2
  go_enter Try.func3, Try.ntmps3
  go_wp2_with fail
  refine (HBg.out _).mono ?_
  rintro e v0 ⟨rfl, hb0⟩
  have HB0 := hid (box_go hb0)
  have cb0 := box_forest hb0
  have hs0 := hb0.size
  simp only [World.size_alloc] at hs0
  clear hb0 HBg
  go_wp2_with fail
  refine (H1.out _ HB0.out).mono ?_
  rintro e v1 ⟨rfl, hb⟩
  have HB1 := hid (HB0.out.trans (hb.mono HB0.out.size))
  have cb1 := (hb.cell (p := ⟨w.heap.size, 0, none⟩) (by show w.heap.size < v0.heap.size; omega)).trans cb0
  have hs1 := Nat.le_trans hs0 hb.size
  clear hb cb0 HB0 hs0 H1
  go_wp2_with fail
  refine (H2.out _ HB1.out).mono ?_
  rintro e v2 ⟨rfl, hb⟩
  have HB2 := hid (HB1.out.trans (hb.mono HB1.out.size))
  have cb2 := (hb.cell (p := ⟨w.heap.size, 0, none⟩) (by show w.heap.size < v1.heap.size; omega)).trans cb1
  have hs2 := Nat.le_trans hs1 hb.size
  clear hb cb1 HB1 hs1 H2
  go_wp2_with fail
  refine (H3.out _ HB2.out).mono ?_
  rintro e v3 ⟨rfl, hb⟩
  have HB3 := hid (HB2.out.trans (hb.mono HB2.out.size))
  have cb3 := (hb.cell (p := ⟨w.heap.size, 0, none⟩) (by show w.heap.size < v2.heap.size; omega)).trans cb2
  have hs3 := Nat.le_trans hs2 hb.size
  clear hb cb2 HB2 hs2 H3
  go_upto_region 8 with fail
  go_cut [104] (fun t wx => t = .bool false ∧ wx = v3)
  case first => as_aux_lemma =>
    have hOK := HOK.out
    unfold TotalOK at hOK
    clear HOK Hb Hnx H1x H2x HR HA HX HB3 cb3 hs3
    rcases hOK with ⟨rfl, rfl⟩ | ⟨rfl, hm, ha⟩
    · go_wp2_with fail
      go_meet
      exact ⟨rfl, rfl⟩
    · rcases ha with rfl | ⟨rfl, rfl, hk⟩
      · rcases hm with ⟨rfl, e⟩ | ⟨rfl, e⟩ | ⟨rfl, e⟩
        all_goals
          go_wp2_with fail
          go_meet
          exact ⟨rfl, rfl⟩
      · rcases hm with ⟨rfl, e⟩ | ⟨rfl, e⟩ | ⟨rfl, e⟩
        · have hk' : 0 < n ∨ ¬ 0 < k := by
            rcases hk with a | a
            · omega
            · exact a
          by_cases hn : 0 < n
          · have hn' : ¬ n ≤ 0 := by omega
            clear hk hk'
            go_wp2_with fail
            go_meet
            exact ⟨rfl, rfl⟩
          · have hn' : n ≤ 0 := by omega
            have hk2 : ¬ 0 < k := hk'.resolve_left hn
            clear hk hk' hn
            go_wp2_with fail
            go_meet
            exact ⟨rfl, rfl⟩
        · have hk' : 0 < n ∨ ¬ 0 < k := by
            rcases hk with a | a
            · omega
            · exact a
          by_cases hn : 0 < n
          · have hn' : ¬ n ≤ 0 := by omega
            clear hk hk'
            go_wp2_with fail
            go_meet
            exact ⟨rfl, rfl⟩
          · have hn' : n ≤ 0 := by omega
            have hk2 : ¬ 0 < k := hk'.resolve_left hn
            clear hk hk' hn
            go_wp2_with fail
            go_meet
            exact ⟨rfl, rfl⟩
        · clear hk
          go_wp2_with fail
          go_meet
          exact ⟨rfl, rfl⟩
  case rest => as_aux_lemma =>
    obtain ⟨rfl, e3⟩ := hcut
    have e3 := e3.symm
    subst e3
    clear HOK
    go_wp2_with fail
    refine (HR.out _ HB3.out).mono ?_
    rintro e v4 ⟨rfl, hb⟩
    have HB4 := hid (HB3.out.trans (hb.mono HB3.out.size))
    have cb4 := (hb.cell (p := ⟨w.heap.size, 0, none⟩) (by show w.heap.size < v3.heap.size; omega)).trans cb3
    have hs4 := Nat.le_trans hs3 hb.size
    clear hb cb3 HB3 hs3 HR
    go_wp2_with fail
    refine (HA.out _ HB4.out).mono ?_
    rintro e v5 ⟨vl, rfl, hl, hb⟩
    have HB5 := hid (HB4.out.trans (hb.mono HB4.out.size))
    have cb5 := (hb.cell (p := ⟨w.heap.size, 0, none⟩) (by show w.heap.size < v4.heap.size; omega)).trans cb4
    have hs5 := Nat.le_trans hs4 hb.size
    clear hb cb4 HB4 hs4 HA
    have Hl := hid hl
    obtain ⟨ol, cl, rfl, hcl, _⟩ := hl
    go_wp2_with fail
    refine (HX.out _ HB5.out).mono ?_
    rintro e v6 ⟨rfl, hb⟩
    have HB6 := hid (HB5.out.trans (hb.mono HB5.out.size))
    have hl6 := Hl.out.later hb
    clear hb cb5 HB5 hs5 HX Hl
    have Hl6 := hid hl6
    obtain ⟨o', c', e', _, gl⟩ := hl6
    simp only [Value.slice.injEq] at e'
    obtain ⟨rfl, _, rfl⟩ := e'
    obtain ⟨bl, offl, rfl, hltl, hall⟩ := gl (by omega)
    have hP1 := place_any _ l x v6 Hl6.out hll
    rw [H1x.out] at hP1
    have q1 : ¬ (ia : Int) < 0 := by omega
    have q2 : (0 : Int) ≤ (ia : Int) + 1 := by omega
    have q3 : (ia : Int) + 1 ≤ (l.length : Int) := by omega
    have q4 : (ia : Int) + 1 ≤ (cl : Int) := by omega
    have q5 : (l.length : Int) ≤ (cl : Int) := by omega
    have q6 : ((ia : Int) + 1).toNat = ia + 1 := by omega
    clear gl
    go_wp2_with fail
    refine hP1.mono ?_
    rintro e v7 ⟨rfl, rfl⟩
    clear hP1
    go_upto_region 14 with fail
    go_cut [148] (fun t wx => t = .bool false ∧ wx = v7)
    case first => as_aux_lemma =>
      clear Hb Hnx H1x
      by_cases hcap : cl = ia + 1
      · subst hcap
        have hP2 := place_any (.slice (some ⟨bl, offl, none⟩) 0 0) [] x v7 ⟨_, 0, rfl, Nat.le_refl _, fun h => absurd h (Nat.lt_irrefl _)⟩ (by decide)
        have e2 : idxI [] x 0 = -1 := rfl
        rw [e2] at hP2
        clear hall Hl6 H2x e2
        go_wp2_with fail
        refine hP2.mono ?_
        rintro e v8 ⟨rfl, rfl⟩
        clear hP2
        go_wp2_with fail
        go_meet
        exact ⟨rfl, rfl⟩
      · have hP2 := place_any _ (l.drop (ia + 1)) x v7 (rd_drop Hl6.out (ia + 1) (by omega)) (by rw [List.length_drop]; omega)
        rw [H2x.out] at hP2
        clear hall Hl6 H2x
        go_wp2_with fail
        refine hP2.mono ?_
        rintro e v8 ⟨rfl, rfl⟩
        clear hP2
        go_wp2_with fail
        go_meet
        exact ⟨rfl, rfl⟩
    case rest => as_aux_lemma =>
      obtain ⟨rfl, e8⟩ := hcut
      have e8 := e8.symm
      subst e8
      have HPy := hid (place_any _ l y v7 Hl6.out hll)
      clear H2x H1x
      go_upto_region 16 with fail
      go_cut [167] (fun t wx => t = .bool false ∧ wx = v7)
      case first => as_aux_lemma =>
        have hb := Hb.out
        clear Hb Hnx hall Hl6
        rcases hb with ⟨rfl, hy⟩ | ⟨rfl, ib, hib, hy, rfl⟩
        · have hP := HPy.out
          rw [hy] at hP
          clear HPy hy
          go_wp2_with fail
          refine hP.mono ?_
          rintro e v8 ⟨rfl, rfl⟩
          clear hP
          go_wp2_with fail
          go_meet
          exact ⟨rfl, rfl⟩
        · have hP := HPy.out
          rw [hy] at hP
          have hP' := hP
          have hSg := sign_any ((ia : Int) - (ib : Int)) v7
          generalize cmpI ((ia : Int) - (ib : Int)) 0 = sg at *
          have q7 : (0 : Int) ≤ (ib : Int) := by omega
          clear HPy hy
          go_wp2_with fail
          refine hP.mono ?_
          rintro e v8 ⟨rfl, e8⟩
          have e8 := e8.symm
          subst e8
          clear hP
          go_wp2_with fail
          refine hP'.mono ?_
          rintro e v9 ⟨rfl, e9⟩
          have e9 := e9.symm
          subst e9
          clear hP'
          go_wp2_with fail
          refine hSg.mono ?_
          rintro e v10 ⟨rfl, rfl⟩
          clear hSg
          go_wp2_with fail
          go_meet
          exact ⟨rfl, rfl⟩
      case rest => as_aux_lemma =>
        obtain ⟨rfl, e8⟩ := hcut
        have e8 := e8.symm
        subst e8
        have hnx := Hnx.out
        clear Hnx HPy Hb Hl6
        rcases hnx with ⟨a1, a2⟩ | ⟨a1, rfl⟩
        · have x1 := hall (ia + 1) a1
          have a3 : l[ia + 1] = nx := by rw [← a2, List.getD_eq_getElem?_getD, List.getElem?_eq_getElem a1]; rfl
          rw [a3] at x1
          have q7 : (ia : Int) + 1 < (l.length : Int) := by omega
          clear hall a2 a3
          go_wp2
          go_ret
          exact ⟨rfl, HB6.out⟩
        · have q7 : ¬ (ia : Int) + 1 < (l.length : Int) := by omega
          have q8 : (((ia : Int) + 1) == (l.length : Int)) = true := beq_iff_eq.2 (by omega)
          clear hall
          go_wp2
          go_ret
          exact ⟨rfl, HB6.out⟩
end Go.Proofs.Ytnolcbjaijoloaa

namespace Go.Proofs.Ytnolcbjaijoloaa
open Go.RowKit Go.Lib
theorem cmpI_sub (a b : Int) : cmpI a b = cmpI (a - b) 0 := by
  by_cases h1 : a < b
  · rw [cmpI_lt h1, cmpI_lt (by omega)]
  · by_cases h2 : b < a
    · rw [cmpI_gt h2, cmpI_gt (by omega)]
    · obtain rfl : a = b := by omega
      rw [cmpI_same, Int.sub_self, cmpI_same]
theorem cmpI_three (a b : Int) : (a < b ∧ cmpI a b = -1) ∨ (a = b ∧ cmpI a b = 0) ∨ (b < a ∧ cmpI a b = 1) := by
  by_cases h1 : a < b
  · exact .inl ⟨h1, cmpI_lt h1⟩
  · by_cases h2 : b < a
    · exact .inr (.inr ⟨h2, cmpI_gt h2⟩)
    · have e : a = b := by omega
      exact .inr (.inl ⟨e, by rw [e]; exact cmpI_same b⟩)
theorem idxOf_inj {l : List Int} {x y : Int} (hx : x ∈ l) (hy : y ∈ l) (h : l.idxOf x = l.idxOf y) : x = y := by
  have a := List.getElem_idxOf (List.idxOf_lt_length_of_mem hx)
  have b := List.getElem_idxOf (List.idxOf_lt_length_of_mem hy)
  rw [← a, ← b]
  simp only [h]
section
variable {o : Option Addr} {cap : Nat} {ns : List NodeD} {w : World}
theorem Cmp_ok (hF : FRd w o cap ns) (hkl : ∀ (i : Nat) (hi : i < ns.length), ns[i].kids.length ≤ 1099511627776) (hal : ∀ (i : Nat) (hi : i < ns.length), ns[i].attrs.length ≤ 1099511627776) (hR : RightF ns) {x y : Int} (hx : thereB ns.length x = true) (hy : thereB ns.length y = true) (W : World) (hW : Below w.heap.size w W) :
    Calls Try.prog 7 #[.agg #[.slice o ns.length cap], .int .i64 x, .int .i64 y] W fun e w' => e = .returned (.tuple #[.int .i64 (standD ns x y).1, .bool (standD ns x y).2, .int .i64 0]) ∧ Below W.heap.size W w' := by
  have := Cmp_any o cap x y ns W (hF.later hW) hkl hal
  rw [toldE_two hR hx hy, if_pos rfl, if_pos rfl] at this
  exact this
theorem Next_ok (hF : FRd w o cap ns) (hkl : ∀ (i : Nat) (hi : i < ns.length), ns[i].kids.length ≤ 1099511627776) (hal : ∀ (i : Nat) (hi : i < ns.length), ns[i].attrs.length ≤ 1099511627776) (hR : RightF ns) {x : Int} (hx : thereB ns.length x = true) (W : World) (hW : Below w.heap.size w W) :
    Calls Try.prog 10 #[.agg #[.slice o ns.length cap], .int .i64 x] W fun e w' => e = .returned (.tuple #[.int .i64 (nextD ns x), .int .i64 0]) ∧ Below W.heap.size W w' := by
  have := Next_any o cap x ns W (hF.later hW) hkl hal
  rw [toldE_one hR hx, if_pos rfl] at this
  exact this
end
/-- How three nodes stand to one another. -/
theorem total_ok {ns : List NodeD} (h : RightF ns) {x y z : Int} (hx : thereB ns.length x = true) (hy : thereB ns.length y = true) (hz : thereB ns.length z = true) : TotalOK x y (standD ns x y).1 (standD ns y z).1 (standD ns x z).1 (standD ns x y).2 (standD ns y z).2 (standD ns x z).2 := by
  obtain ⟨s1, s2⟩ := stand_one h hx hy
  obtain ⟨t1, _⟩ := stand_one h hy hz
  obtain ⟨u1, _⟩ := stand_one h hx hz
  unfold TotalOK
  cases hs : (standD ns x y).2 with
  | false => exact .inl ⟨rfl, s2 hs⟩
  | true =>
    right
    rw [hs] at s1
    have e1 := eq_of_beq s1.symm
    obtain ⟨r1, r2, r3⟩ := root_up h _ x (Nat.le_refl _) hx
    have mx : x ∈ allD ns (lastI (pathUp ns (parentD ns) x)) := (in_tree h hx hx).2 rfl
    have my : y ∈ allD ns (lastI (pathUp ns (parentD ns) x)) := (in_tree h hx hy).2 e1
    have st := stand_idx h (ns.length + 1) _ r1 (by omega)
    have sxy := congrArg Prod.fst (st x mx y my)
    refine ⟨rfl, ?_, ?_⟩
    · rw [sxy]
      rcases cmpI_three ((allD ns (lastI (pathUp ns (parentD ns) x))).idxOf x : Int) ((allD ns (lastI (pathUp ns (parentD ns) x))).idxOf y : Int) with ⟨a, b⟩ | ⟨a, b⟩ | ⟨a, b⟩
      · refine .inl ⟨b, beq_eq_false_iff_ne.2 (fun e => ?_)⟩
        rw [e] at a
        omega
      · exact .inr (.inl ⟨b, beq_iff_eq.2 (idxOf_inj mx my (by omega))⟩)
      · refine .inr (.inr ⟨b, beq_eq_false_iff_ne.2 (fun e => ?_)⟩)
        rw [e] at a
        omega
    · cases ht : (standD ns y z).2 with
      | false => exact .inl rfl
      | true =>
        right
        rw [ht] at t1
        have e2 := eq_of_beq t1.symm
        have mz : z ∈ allD ns (lastI (pathUp ns (parentD ns) x)) := (in_tree h hx hz).2 (e1.trans e2)
        have syz := congrArg Prod.fst (st y my z mz)
        have sxz := congrArg Prod.fst (st x mx z mz)
        refine ⟨rfl, by rw [u1]; exact beq_iff_eq.2 (e1.trans e2), ?_⟩
        rw [sxy, syz, sxz]
        rcases cmpI_three ((allD ns (lastI (pathUp ns (parentD ns) x))).idxOf x : Int) ((allD ns (lastI (pathUp ns (parentD ns) x))).idxOf y : Int) with ⟨a, b⟩ | ⟨a, b⟩ | ⟨a, b⟩ <;>
        rcases cmpI_three ((allD ns (lastI (pathUp ns (parentD ns) x))).idxOf y : Int) ((allD ns (lastI (pathUp ns (parentD ns) x))).idxOf z : Int) with ⟨c, d⟩ | ⟨c, d⟩ | ⟨c, d⟩ <;>
        rcases cmpI_three ((allD ns (lastI (pathUp ns (parentD ns) x))).idxOf x : Int) ((allD ns (lastI (pathUp ns (parentD ns) x))).idxOf z : Int) with ⟨e, f⟩ | ⟨e, f⟩ | ⟨e, f⟩ <;>
        rw [b, d, f] <;> omega
theorem orderTotal_law (o : Option Addr) (cap : Nat) (x y z : Int) (ns : List NodeD) (w : World) (hF : FRd w o cap ns) (hkl : ∀ (i : Nat) (hi : i < ns.length), ns[i].kids.length ≤ 1099511627776) (hal : ∀ (i : Nat) (hi : i < ns.length), ns[i].attrs.length ≤ 1099511627776) :
    Calls Try.prog 3 #[.agg #[.slice o ns.length cap], .int .i64 x, .int .i64 y, .int .i64 z] w fun e w' => e = .returned (.bool true) ∧ Below w.heap.size w w' := by
  by_cases hE1 : toldE ns [x, y] = 0
  · obtain ⟨hR, hth⟩ := toldE_zero hE1
    have hx := hth x (by simp)
    have hy := hth y (by simp)
    by_cases hE2 : toldE ns [y, z] = 0
    · obtain ⟨_, hth2⟩ := toldE_zero hE2
      have hz := hth2 z (by simp)
      obtain ⟨r1, r2, r3⟩ := root_up hR _ x (Nat.le_refl _) hx
      have mx : x ∈ allD ns (lastI (pathUp ns (parentD ns) x)) := (in_tree hR hx hx).2 rfl
      obtain ⟨pre, post, hl, n1, n2, hn⟩ := next_parted hR r1 r2 hx r3
      have hia : (allD ns (lastI (pathUp ns (parentD ns) x))).idxOf x = pre.length := by
        rw [hl, List.idxOf_append, if_neg n1, List.idxOf_cons]
        simp
      have hlen : (allD ns (lastI (pathUp ns (parentD ns) x))).length = pre.length + 1 + post.length := by rw [hl]; simp; omega
      have hd : (allD ns (lastI (pathUp ns (parentD ns) x))).drop (pre.length + 1) = post := by rw [hl, List.drop_append, List.drop_eq_nil_of_le (by omega), show pre.length + 1 - pre.length = 1 by omega]; rfl
      have hll := all_len hR r1
      obtain ⟨s1, s2⟩ := stand_one hR hx hy
      refine total_main o cap x y z _ _ _ _ _ _ _ _ ns w (total_ok hR hx hy hz) (allD ns (lastI (pathUp ns (parentD ns) x))) pre.length hll (by omega) ?_ ?_ ?_ ?_ (fun W => begins_true W)
        (Cmp_ok hF hkl hal hR hx hy) (Cmp_ok hF hkl hal hR hy hz) (Cmp_ok hF hkl hal hR hx hz) (Root_ok hF hkl hal hR hx) (All_ok hF hkl hal hR r1) (Next_ok hF hkl hal hR hx)
      · rw [idxI_idx _ _ _ mx, hia]
        simp
      · rw [hd]
        exact idxI_none _ _ _ n2
      · cases hs : (standD ns x y).2 with
        | false =>
          refine .inl ⟨rfl, idxI_none _ _ _ (fun hin => ?_)⟩
          have e := (in_tree hR hx hy).1 hin
          rw [hs, e, beq_self_eq_true] at s1
          cases s1
        | true =>
          rw [hs] at s1
          have my : y ∈ allD ns (lastI (pathUp ns (parentD ns) x)) := (in_tree hR hx hy).2 (eq_of_beq s1.symm)
          refine .inr ⟨rfl, (allD ns (lastI (pathUp ns (parentD ns) x))).idxOf y, ?_, by rw [idxI_idx _ _ _ my]; simp, ?_⟩
          · have := List.idxOf_lt_length_of_mem my
            omega
          · have := congrArg Prod.fst (stand_idx hR (ns.length + 1) _ r1 (by omega) x mx y my)
            rw [this, hia]
            exact cmpI_sub _ _
      · cases hp : post with
        | nil =>
          refine .inr ⟨by rw [hlen, hp]; simp, ?_⟩
          rw [← hn, hp]
          rfl
        | cons k t =>
          refine .inl ⟨by rw [hlen, hp]; simp, ?_⟩
          rw [← hn, hl, hp, List.getD_eq_getElem?_getD, List.getElem?_append_right (by omega), show pre.length + 1 - pre.length = 1 by omega]
          rfl
    · have hne : (toldE ns [y, z] != 0) = true := by rw [bne, beq_eq_false_iff_ne.2 hE2]; rfl
      exact total_refused2 o cap x y z _ _ _ _ _ _ _ _ ns w hne (fun W => begins_true W) (Cmp_ok hF hkl hal hR hx hy)
        (fun W hW => Cmp_any o cap y z ns W (hF.later hW) hkl hal) (fun W hW => Cmp_any o cap x z ns W (hF.later hW) hkl hal)
  · have hne : (toldE ns [x, y] != 0) = true := by rw [bne, beq_eq_false_iff_ne.2 hE1]; rfl
    exact total_refused1 o cap x y z _ _ _ _ _ _ _ _ _ ns w hne (fun W => begins_true W) (fun W hW => Cmp_any o cap x y ns W (hF.later hW) hkl hal)
      (fun W hW => Cmp_any o cap y z ns W (hF.later hW) hkl hal) (fun W hW => Cmp_any o cap x z ns W (hF.later hW) hkl hal)
end Go.Proofs.Ytnolcbjaijoloaa
