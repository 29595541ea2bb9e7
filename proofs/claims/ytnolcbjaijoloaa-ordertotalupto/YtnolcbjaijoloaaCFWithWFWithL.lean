/- OrderWithin's own walk. -/
/- OrderWithin, whole. -/
import Derived.Test.YtnolcbjaijoloaaCFConFTree
import Derived.Test.YtnolcbjaijoloaaCFRootFAllC
import Derived.Test.YtnolcbjaijoloaaCFIntsFBegT
namespace Go.Proofs.Ytnolcbjaijoloaa
open Go.RowKit Go.Lib Go.Shelf

set_option maxRecDepth 100000 in
set_option maxHeartbeats 2000000 in
theorem place_any (v : Value) (l : List Int) (x : Int) (w : World) (hv : RdI w v l) (hl : l.length ≤ 1099511627776) :
    Calls Try.prog 11 #[v, .int .i64 x] w fun e w' => e = .returned (.int .i64 (idxI l x 0)) ∧ w' = w := by
  obtain ⟨o, c, rfl, hc, g⟩ := hv
  obtain ⟨N, hN⟩ : ∃ N, idxI l x 0 = N := ⟨_, rfl⟩
  rw [hN]
  have HN : Hid (idxI (l.drop 0) x 0 = N) := hN
  clear hN
  go_enter Try.func11, Try.ntmps11
  go_wp2
  go_loopw [5] (fun t wr => ∃ k : Nat, k ≤ l.length ∧ t = .int .i64 k ∧ wr = w ∧ Hid (idxI (l.drop k) x k = N)) (fun t _ => l.length - (RowKit.intOf t).toNat)
  case atStart => exact ⟨0, Nat.zero_le _, rfl, rfl, HN⟩
  case round =>
    obtain ⟨k, k1, rfl, rfl, hK⟩ := hrel
    by_cases hlt : k < l.length
    · obtain ⟨b, off, rfl, hlt1, ha⟩ := g (by omega)
      have x1 := ha k hlt
      have q1 : (0 : Int) ≤ (k : Int) := by omega
      have q2 : (k : Int) < (l.length : Int) := by omega
      have hk := hK.out
      rw [List.drop_eq_getElem_cons hlt, idxI] at hk
      have Hk := hid hk
      clear hk hK ha g
      generalize l[k] = a at *
      cases he : (a == x) with
      | true =>
        have hNk : N = (k : Int) := by
          rw [← Hk.out, he]
          rfl
        subst hNk
        clear Hk
        go_wp2
        go_ret
        exact ⟨rfl, rfl⟩
      | false =>
        have Hn : Hid (idxI (l.drop (k + 1)) x (k + 1) = N) := by
          have h := Hk.out
          rw [he, if_neg Bool.false_ne_true] at h
          exact h
        clear Hk
        go_wp2
        go_roundw
        case rel => exact ⟨k + 1, by omega, by go_num, trivial, Hn⟩
        case measure => simp [RowKit.intOf]; omega
    · have hNk : N = -1 := by
        rw [← hK.out, List.drop_eq_nil_of_le (by omega)]
        rfl
      subst hNk
      clear hK g
      go_wp2
      go_ret
      exact ⟨rfl, rfl⟩

set_option maxRecDepth 100000 in
set_option maxHeartbeats 8000000 in
theorem within_refused (o : Option Addr) (cap : Nat) (x y E E1 E2 R S C : Int) (l : List Int) (ns : List NodeD) (w : World) (hE : (E != 0) = true) (IN : Bool) (HBg : Hid (∀ W : World, Calls Try.prog 6 #[] W fun e w' => e = .returned (.bool true) ∧ Below W.heap.size W w')) (HCn : Hid (∀ W : World, Below w.heap.size w W → Calls Try.prog 14 #[.agg #[.slice o ns.length cap], .int .i64 x, .int .i64 y] W fun e w' => e = .returned (.tuple #[.bool IN, .int .i64 E]) ∧ Below W.heap.size W w')) (HCm : Hid (∀ W : World, Below w.heap.size w W → Calls Try.prog 15 #[.agg #[.slice o ns.length cap], .int .i64 x, .int .i64 y] W fun e w' => e = .returned (.tuple #[.int .i64 C, .int .i64 E]) ∧ Below W.heap.size W w')) (HRx : Hid (∀ W : World, Below w.heap.size w W → Calls Try.prog 8 #[.agg #[.slice o ns.length cap], .int .i64 x] W fun e w' => e = .returned (.tuple #[.int .i64 R, .int .i64 E1]) ∧ Below W.heap.size W w')) (HRy : Hid (∀ W : World, Below w.heap.size w W → Calls Try.prog 8 #[.agg #[.slice o ns.length cap], .int .i64 y] W fun e w' => e = .returned (.tuple #[.int .i64 S, .int .i64 E2]) ∧ Below W.heap.size W w')) (HAl : Hid (∀ W : World, Below w.heap.size w W → Calls Try.prog 9 #[.agg #[.slice o ns.length cap], .int .i64 x] W fun e w' => ∃ v, e = .returned (.tuple #[v, .int .i64 E1]) ∧ RdI w' v l ∧ Below W.heap.size W w')) :
    Calls Try.prog 5 #[.agg #[.slice o ns.length cap], .int .i64 x, .int .i64 y] w fun e w' => e = .returned (.bool true) ∧ Below w.heap.size w w' := by
  go_enter Try.func5, Try.ntmps5
  go_wp2_with fail
  refine (HBg.out _).mono ?_
  rintro e v0 ⟨rfl, hb0⟩
  have HB0 := hid (box_go hb0)
  have cb0 := box_forest hb0
  have hs0 := hb0.size
  simp only [World.size_alloc] at hs0
  clear hb0 HBg
  go_wp2_with fail
  refine (HCn.out _ HB0.out).mono ?_
  rintro e v1 ⟨rfl, hb⟩
  have HB1 := hid (HB0.out.trans (hb.mono HB0.out.size))
  have cb1 := (hb.cell (p := ⟨w.heap.size, 0, none⟩) (by show w.heap.size < v0.heap.size; omega)).trans cb0
  have hs1 := Nat.le_trans hs0 hb.size
  clear hb cb0 HB0 hs0 HCn
  go_wp2_with fail
  refine (HCm.out _ HB1.out).mono ?_
  rintro e v2 ⟨rfl, hb⟩
  have HB2 := hid (HB1.out.trans (hb.mono HB1.out.size))
  have cb2 := (hb.cell (p := ⟨w.heap.size, 0, none⟩) (by show w.heap.size < v1.heap.size; omega)).trans cb1
  have hs2 := Nat.le_trans hs1 hb.size
  clear hb cb1 HB1 hs1 HCm
  go_wp2_with fail
  refine (HRx.out _ HB2.out).mono ?_
  rintro e v3 ⟨rfl, hb⟩
  have HB3 := hid (HB2.out.trans (hb.mono HB2.out.size))
  have cb3 := (hb.cell (p := ⟨w.heap.size, 0, none⟩) (by show w.heap.size < v2.heap.size; omega)).trans cb2
  have hs3 := Nat.le_trans hs2 hb.size
  clear hb cb2 HB2 hs2 HRx
  go_wp2_with fail
  refine (HRy.out _ HB3.out).mono ?_
  rintro e v4 ⟨rfl, hb⟩
  have HB4 := hid (HB3.out.trans (hb.mono HB3.out.size))
  have cb4 := (hb.cell (p := ⟨w.heap.size, 0, none⟩) (by show w.heap.size < v3.heap.size; omega)).trans cb3
  have hs4 := Nat.le_trans hs3 hb.size
  clear hb cb3 HB3 hs3 HRy
  go_wp2_with fail
  refine (HAl.out _ HB4.out).mono ?_
  rintro e v5 ⟨vl, rfl, hl, hb⟩
  have HB5 := hid (HB4.out.trans (hb.mono HB4.out.size))
  have cb5 := (hb.cell (p := ⟨w.heap.size, 0, none⟩) (by show w.heap.size < v4.heap.size; omega)).trans cb4
  have hs5 := Nat.le_trans hs4 hb.size
  have Hl := hid hl
  obtain ⟨ol, cl, rfl, _, _⟩ := hl
  clear hb cb4 HB4 hs4 HAl
  clear Hl
  go_wp2
  go_ret
  exact ⟨rfl, HB5.out⟩

set_option maxRecDepth 100000 in
set_option maxHeartbeats 8000000 in
theorem within_apart (o : Option Addr) (cap : Nat) (x y R S P : Int) (l : List Int) (ns : List NodeD) (w : World) (hRS : (R == S) = false) (hP : idxI l y 0 = P) (hP0 : (0 : Int) ≤ P → False) (hll : l.length ≤ 1099511627776) (HBg : Hid (∀ W : World, Calls Try.prog 6 #[] W fun e w' => e = .returned (.bool true) ∧ Below W.heap.size W w')) (HCn : Hid (∀ W : World, Below w.heap.size w W → Calls Try.prog 14 #[.agg #[.slice o ns.length cap], .int .i64 x, .int .i64 y] W fun e w' => e = .returned (.tuple #[.bool false, .int .i64 0]) ∧ Below W.heap.size W w')) (HCm : Hid (∀ W : World, Below w.heap.size w W → Calls Try.prog 15 #[.agg #[.slice o ns.length cap], .int .i64 x, .int .i64 y] W fun e w' => e = .returned (.tuple #[.int .i64 0, .int .i64 0]) ∧ Below W.heap.size W w')) (HRx : Hid (∀ W : World, Below w.heap.size w W → Calls Try.prog 8 #[.agg #[.slice o ns.length cap], .int .i64 x] W fun e w' => e = .returned (.tuple #[.int .i64 R, .int .i64 0]) ∧ Below W.heap.size W w')) (HRy : Hid (∀ W : World, Below w.heap.size w W → Calls Try.prog 8 #[.agg #[.slice o ns.length cap], .int .i64 y] W fun e w' => e = .returned (.tuple #[.int .i64 S, .int .i64 0]) ∧ Below W.heap.size W w')) (HAl : Hid (∀ W : World, Below w.heap.size w W → Calls Try.prog 9 #[.agg #[.slice o ns.length cap], .int .i64 x] W fun e w' => ∃ v, e = .returned (.tuple #[v, .int .i64 0]) ∧ RdI w' v l ∧ Below W.heap.size W w')) :
    Calls Try.prog 5 #[.agg #[.slice o ns.length cap], .int .i64 x, .int .i64 y] w fun e w' => e = .returned (.bool true) ∧ Below w.heap.size w w' := by
  go_enter Try.func5, Try.ntmps5
  go_wp2_with fail
  refine (HBg.out _).mono ?_
  rintro e v0 ⟨rfl, hb0⟩
  have HB0 := hid (box_go hb0)
  have cb0 := box_forest hb0
  have hs0 := hb0.size
  simp only [World.size_alloc] at hs0
  clear hb0 HBg
  go_wp2_with fail
  refine (HCn.out _ HB0.out).mono ?_
  rintro e v1 ⟨rfl, hb⟩
  have HB1 := hid (HB0.out.trans (hb.mono HB0.out.size))
  have cb1 := (hb.cell (p := ⟨w.heap.size, 0, none⟩) (by show w.heap.size < v0.heap.size; omega)).trans cb0
  have hs1 := Nat.le_trans hs0 hb.size
  clear hb cb0 HB0 hs0 HCn
  go_wp2_with fail
  refine (HCm.out _ HB1.out).mono ?_
  rintro e v2 ⟨rfl, hb⟩
  have HB2 := hid (HB1.out.trans (hb.mono HB1.out.size))
  have cb2 := (hb.cell (p := ⟨w.heap.size, 0, none⟩) (by show w.heap.size < v1.heap.size; omega)).trans cb1
  have hs2 := Nat.le_trans hs1 hb.size
  clear hb cb1 HB1 hs1 HCm
  go_wp2_with fail
  refine (HRx.out _ HB2.out).mono ?_
  rintro e v3 ⟨rfl, hb⟩
  have HB3 := hid (HB2.out.trans (hb.mono HB2.out.size))
  have cb3 := (hb.cell (p := ⟨w.heap.size, 0, none⟩) (by show w.heap.size < v2.heap.size; omega)).trans cb2
  have hs3 := Nat.le_trans hs2 hb.size
  clear hb cb2 HB2 hs2 HRx
  go_wp2_with fail
  refine (HRy.out _ HB3.out).mono ?_
  rintro e v4 ⟨rfl, hb⟩
  have HB4 := hid (HB3.out.trans (hb.mono HB3.out.size))
  have cb4 := (hb.cell (p := ⟨w.heap.size, 0, none⟩) (by show w.heap.size < v3.heap.size; omega)).trans cb3
  have hs4 := Nat.le_trans hs3 hb.size
  clear hb cb3 HB3 hs3 HRy
  go_wp2_with fail
  refine (HAl.out _ HB4.out).mono ?_
  rintro e v5 ⟨vl, rfl, hl, hb⟩
  have HB5 := hid (HB4.out.trans (hb.mono HB4.out.size))
  have cb5 := (hb.cell (p := ⟨w.heap.size, 0, none⟩) (by show w.heap.size < v4.heap.size; omega)).trans cb4
  have hs5 := Nat.le_trans hs4 hb.size
  have Hl := hid hl
  obtain ⟨ol, cl, rfl, _, _⟩ := hl
  clear hb cb4 HB4 hs4 HAl
  have hP1 : ¬ (0 : Int) ≤ P := hP0
  have hPl := place_any _ l y v5 Hl.out hll
  rw [hP] at hPl
  clear Hl hP hP0
  go_wp2_with fail
  refine hPl.mono ?_
  rintro e v6 ⟨rfl, rfl⟩
  clear hPl
  go_wp2
  go_ret
  exact ⟨rfl, HB5.out⟩

set_option maxRecDepth 100000 in
set_option maxHeartbeats 8000000 in
theorem within_in (o : Option Addr) (cap : Nat) (x y R S C P : Int) (l : List Int) (ns : List NodeD) (w : World) (hRS : R = S) (hP : idxI l y 0 = P) (hP0 : (0 : Int) ≤ P) (hll : l.length ≤ 1099511627776) (b off i : Nat) (ks : List Int) (ok : Option Addr) (ck : Nat) (ho : o = some ⟨b, off, none⟩) (hle : ns.length ≤ 1099511627776) (hC : C = (i : Int) + 1) (hi : i < ns.length) (hb : b < w.heap.size) (hkc : w.cell? ⟨b, off + i * 16 + 9, none⟩ = some (.slice ok ks.length ck)) (hk : RdI w (.slice ok ks.length ck) ks) (hkl : ks.length ≤ 1099511627776) (HKs : Hid (∀ k ∈ ks, ∃ K1 K2 : Bool, (K1 && K2) = false ∧ (∀ W : World, Below w.heap.size w W → Calls Try.prog 14 #[.agg #[.slice o ns.length cap], .int .i64 k, .int .i64 x] W fun e w' => e = .returned (.tuple #[.bool K1, .int .i64 0]) ∧ Below W.heap.size W w') ∧ (∀ W : World, Below w.heap.size w W → Calls Try.prog 14 #[.agg #[.slice o ns.length cap], .int .i64 k, .int .i64 y] W fun e w' => e = .returned (.tuple #[.bool K2, .int .i64 0]) ∧ Below W.heap.size W w'))) (HBg : Hid (∀ W : World, Calls Try.prog 6 #[] W fun e w' => e = .returned (.bool true) ∧ Below W.heap.size W w')) (HCn : Hid (∀ W : World, Below w.heap.size w W → Calls Try.prog 14 #[.agg #[.slice o ns.length cap], .int .i64 x, .int .i64 y] W fun e w' => e = .returned (.tuple #[.bool true, .int .i64 0]) ∧ Below W.heap.size W w')) (HCm : Hid (∀ W : World, Below w.heap.size w W → Calls Try.prog 15 #[.agg #[.slice o ns.length cap], .int .i64 x, .int .i64 y] W fun e w' => e = .returned (.tuple #[.int .i64 C, .int .i64 0]) ∧ Below W.heap.size W w')) (HRx : Hid (∀ W : World, Below w.heap.size w W → Calls Try.prog 8 #[.agg #[.slice o ns.length cap], .int .i64 x] W fun e w' => e = .returned (.tuple #[.int .i64 R, .int .i64 0]) ∧ Below W.heap.size W w')) (HRy : Hid (∀ W : World, Below w.heap.size w W → Calls Try.prog 8 #[.agg #[.slice o ns.length cap], .int .i64 y] W fun e w' => e = .returned (.tuple #[.int .i64 S, .int .i64 0]) ∧ Below W.heap.size W w')) (HAl : Hid (∀ W : World, Below w.heap.size w W → Calls Try.prog 9 #[.agg #[.slice o ns.length cap], .int .i64 x] W fun e w' => ∃ v, e = .returned (.tuple #[v, .int .i64 0]) ∧ RdI w' v l ∧ Below W.heap.size W w')) (HDx : Hid (∀ W : World, Below w.heap.size w W → Calls Try.prog 14 #[.agg #[.slice o ns.length cap], .int .i64 C, .int .i64 x] W fun e w' => e = .returned (.tuple #[.bool true, .int .i64 0]) ∧ Below W.heap.size W w')) (HDy : Hid (∀ W : World, Below w.heap.size w W → Calls Try.prog 14 #[.agg #[.slice o ns.length cap], .int .i64 C, .int .i64 y] W fun e w' => e = .returned (.tuple #[.bool true, .int .i64 0]) ∧ Below W.heap.size W w')) :
    Calls Try.prog 5 #[.agg #[.slice o ns.length cap], .int .i64 x, .int .i64 y] w fun e w' => e = .returned (.bool true) ∧ Below w.heap.size w w' := by
  subst hRS ho
  have hkr := hid hk
  have Hkc := hid hkc
  obtain ⟨ok', ck', ek, _, gk⟩ := hk
  simp only [Value.slice.injEq] at ek
  obtain ⟨rfl, _, rfl⟩ := ek
  clear hkc
  have q0 : (C == 0) = false := beq_eq_false_iff_ne.2 (by omega)
  have q0' : (C != 0) = true := by rw [bne, q0]; rfl
  have q1 : ¬ C < 1 := by omega
  have q2 : ¬ (ns.length : Int) < C := by omega
  have q3 : C - 1 = (i : Int) := by omega
  have q4 : (0 : Int) ≤ (i : Int) := by omega
  have q5 : (i : Int) < (ns.length : Int) := by omega
  have HC := hid hC
  clear hC
  go_enter Try.func5, Try.ntmps5
  go_wp2_with fail
  refine (HBg.out _).mono ?_
  rintro e v0 ⟨rfl, hb0⟩
  have HB0 := hid (box_go hb0)
  have cb0 := box_forest hb0
  have hs0 := hb0.size
  simp only [World.size_alloc] at hs0
  clear hb0 HBg
  go_wp2_with fail
  refine (HCn.out _ HB0.out).mono ?_
  rintro e v1 ⟨rfl, hb⟩
  have HB1 := hid (HB0.out.trans (hb.mono HB0.out.size))
  have cb1 := (hb.cell (p := ⟨w.heap.size, 0, none⟩) (by show w.heap.size < v0.heap.size; omega)).trans cb0
  have hs1 := Nat.le_trans hs0 hb.size
  clear hb cb0 HB0 hs0 HCn
  go_wp2_with fail
  refine (HCm.out _ HB1.out).mono ?_
  rintro e v2 ⟨rfl, hb⟩
  have HB2 := hid (HB1.out.trans (hb.mono HB1.out.size))
  have cb2 := (hb.cell (p := ⟨w.heap.size, 0, none⟩) (by show w.heap.size < v1.heap.size; omega)).trans cb1
  have hs2 := Nat.le_trans hs1 hb.size
  clear hb cb1 HB1 hs1 HCm
  go_wp2_with fail
  refine (HRx.out _ HB2.out).mono ?_
  rintro e v3 ⟨rfl, hb⟩
  have HB3 := hid (HB2.out.trans (hb.mono HB2.out.size))
  have cb3 := (hb.cell (p := ⟨w.heap.size, 0, none⟩) (by show w.heap.size < v2.heap.size; omega)).trans cb2
  have hs3 := Nat.le_trans hs2 hb.size
  clear hb cb2 HB2 hs2 HRx
  go_wp2_with fail
  refine (HRy.out _ HB3.out).mono ?_
  rintro e v4 ⟨rfl, hb⟩
  have HB4 := hid (HB3.out.trans (hb.mono HB3.out.size))
  have cb4 := (hb.cell (p := ⟨w.heap.size, 0, none⟩) (by show w.heap.size < v3.heap.size; omega)).trans cb3
  have hs4 := Nat.le_trans hs3 hb.size
  clear hb cb3 HB3 hs3 HRy
  go_wp2_with fail
  refine (HAl.out _ HB4.out).mono ?_
  rintro e v5 ⟨vl, rfl, hl, hb⟩
  have HB5 := hid (HB4.out.trans (hb.mono HB4.out.size))
  have cb5 := (hb.cell (p := ⟨w.heap.size, 0, none⟩) (by show w.heap.size < v4.heap.size; omega)).trans cb4
  have hs5 := Nat.le_trans hs4 hb.size
  have Hl := hid hl
  obtain ⟨ol, cl, rfl, _, _⟩ := hl
  clear hb cb4 HB4 hs4 HAl
  have hPl := place_any _ l y v5 Hl.out hll
  rw [hP] at hPl
  clear Hl hP
  go_wp2_with fail
  refine hPl.mono ?_
  rintro e v6 ⟨rfl, rfl⟩
  clear hPl
  go_wp2_with fail
  refine (HDx.out _ HB5.out).mono ?_
  rintro e v7 ⟨rfl, hb⟩
  have HB7 := hid (HB5.out.trans (hb.mono HB5.out.size))
  have cb7 := (hb.cell (p := ⟨w.heap.size, 0, none⟩) (by show w.heap.size < v6.heap.size; omega)).trans cb5
  have hs7 := Nat.le_trans hs5 hb.size
  clear hb cb5 HB5 hs5 HDx
  go_wp2_with fail
  refine (HDy.out _ HB7.out).mono ?_
  rintro e v8 ⟨rfl, hb⟩
  have HB8 := hid (HB7.out.trans (hb.mono HB7.out.size))
  have cb8 := (hb.cell (p := ⟨w.heap.size, 0, none⟩) (by show w.heap.size < v7.heap.size; omega)).trans cb7
  have hs8 := Nat.le_trans hs7 hb.size
  have ck8 := (HB8.out.cell (p := ⟨b, off + i * 16 + 9, none⟩) (by assumption)).trans Hkc.out
  clear hb cb7 HB7 hs7 HDy
  obtain rfl : C = (i : Int) + 1 := HC.out
  clear HC q3
  go_wp2
  go_loopw [159] (fun t wr => ∃ k : Nat, k ≤ ks.length ∧ t = .int .i64 k ∧ Hid (Below w.heap.size w wr) ∧ wr.cell? ⟨w.heap.size, 0, none⟩ = some (.slice (some ⟨b, off, none⟩) ns.length cap) ∧ w.heap.size + 1 ≤ wr.heap.size) (fun t _ => ks.length - (RowKit.intOf t).toNat)
  case atStart => exact ⟨0, Nat.zero_le _, rfl, HB8, cb8, hs8⟩
  case round =>
    obtain ⟨k, hk, rfl, hB, cb, hs⟩ := hrel
    clear cb8 hs8 HB8 ck8
    by_cases hlt : k < ks.length
    · obtain ⟨bk, offk, rfl, hltk, hak⟩ := gk (by omega)
      have x1 := (hB.out.cell (p := ⟨bk, offk + k, none⟩) hltk).trans (hak k hlt)
      have q6 : (0 : Int) ≤ (k : Int) := by omega
      have q7 : (k : Int) < (ks.length : Int) := by omega
      obtain ⟨K1, K2, hKK, h1, h2⟩ := HKs.out ks[k] (List.getElem_mem hlt)
      have h1 := h1 wr hB.out
      have H2 := hid h2
      clear h2 HKs hak gk
      generalize ks[k] = z at *
      go_wp2_with fail
      refine h1.mono ?_
      clear h1
      rintro e v9 ⟨rfl, hb⟩
      have HB9 := hid (hB.out.trans (hb.mono hB.out.size))
      have cb9 := (hb.cell (p := ⟨w.heap.size, 0, none⟩) (by show w.heap.size < wr.heap.size; omega)).trans cb
      have hs9 := Nat.le_trans hs hb.size
      clear hb cb
      go_wp2_with fail
      refine (H2.out _ HB9.out).mono ?_
      rintro e v10 ⟨rfl, hb⟩
      have HB10 := hid (HB9.out.trans (hb.mono HB9.out.size))
      have cb10 := (hb.cell (p := ⟨w.heap.size, 0, none⟩) (by show w.heap.size < v9.heap.size; omega)).trans cb9
      have hs10 := Nat.le_trans hs9 hb.size
      clear hb cb9 H2
      cases K1 with
      | false =>
        clear hKK
        go_wp2
        go_roundw
        case rel => exact ⟨k + 1, by omega, by go_num, HB10, cb10, hs10⟩
        case measure => simp [RowKit.intOf]; omega
      | true =>
        obtain rfl : K2 = false := hKK
        go_wp2
        go_roundw
        case rel => exact ⟨k + 1, by omega, by go_num, HB10, cb10, hs10⟩
        case measure => simp [RowKit.intOf]; omega
    · clear HKs gk
      go_wp2
      go_ret
      exact ⟨rfl, hB.out⟩

set_option maxRecDepth 100000 in
set_option maxHeartbeats 8000000 in
theorem within_beside (o : Option Addr) (cap : Nat) (x y R S C P : Int) (l : List Int) (ns : List NodeD) (w : World) (hRS : R = S) (hP : idxI l y 0 = P) (hP0 : ¬ (0 : Int) ≤ P) (hll : l.length ≤ 1099511627776) (b off i : Nat) (ks : List Int) (ok : Option Addr) (ck : Nat) (ho : o = some ⟨b, off, none⟩) (hle : ns.length ≤ 1099511627776) (hC : C = (i : Int) + 1) (hi : i < ns.length) (hb : b < w.heap.size) (hkc : w.cell? ⟨b, off + i * 16 + 9, none⟩ = some (.slice ok ks.length ck)) (hk : RdI w (.slice ok ks.length ck) ks) (hkl : ks.length ≤ 1099511627776) (HKs : Hid (∀ k ∈ ks, ∃ K1 K2 : Bool, (K1 && K2) = false ∧ (∀ W : World, Below w.heap.size w W → Calls Try.prog 14 #[.agg #[.slice o ns.length cap], .int .i64 k, .int .i64 x] W fun e w' => e = .returned (.tuple #[.bool K1, .int .i64 0]) ∧ Below W.heap.size W w') ∧ (∀ W : World, Below w.heap.size w W → Calls Try.prog 14 #[.agg #[.slice o ns.length cap], .int .i64 k, .int .i64 y] W fun e w' => e = .returned (.tuple #[.bool K2, .int .i64 0]) ∧ Below W.heap.size W w'))) (HBg : Hid (∀ W : World, Calls Try.prog 6 #[] W fun e w' => e = .returned (.bool true) ∧ Below W.heap.size W w')) (HCn : Hid (∀ W : World, Below w.heap.size w W → Calls Try.prog 14 #[.agg #[.slice o ns.length cap], .int .i64 x, .int .i64 y] W fun e w' => e = .returned (.tuple #[.bool false, .int .i64 0]) ∧ Below W.heap.size W w')) (HCm : Hid (∀ W : World, Below w.heap.size w W → Calls Try.prog 15 #[.agg #[.slice o ns.length cap], .int .i64 x, .int .i64 y] W fun e w' => e = .returned (.tuple #[.int .i64 C, .int .i64 0]) ∧ Below W.heap.size W w')) (HRx : Hid (∀ W : World, Below w.heap.size w W → Calls Try.prog 8 #[.agg #[.slice o ns.length cap], .int .i64 x] W fun e w' => e = .returned (.tuple #[.int .i64 R, .int .i64 0]) ∧ Below W.heap.size W w')) (HRy : Hid (∀ W : World, Below w.heap.size w W → Calls Try.prog 8 #[.agg #[.slice o ns.length cap], .int .i64 y] W fun e w' => e = .returned (.tuple #[.int .i64 S, .int .i64 0]) ∧ Below W.heap.size W w')) (HAl : Hid (∀ W : World, Below w.heap.size w W → Calls Try.prog 9 #[.agg #[.slice o ns.length cap], .int .i64 x] W fun e w' => ∃ v, e = .returned (.tuple #[v, .int .i64 0]) ∧ RdI w' v l ∧ Below W.heap.size W w')) (HDx : Hid (∀ W : World, Below w.heap.size w W → Calls Try.prog 14 #[.agg #[.slice o ns.length cap], .int .i64 C, .int .i64 x] W fun e w' => e = .returned (.tuple #[.bool true, .int .i64 0]) ∧ Below W.heap.size W w')) (HDy : Hid (∀ W : World, Below w.heap.size w W → Calls Try.prog 14 #[.agg #[.slice o ns.length cap], .int .i64 C, .int .i64 y] W fun e w' => e = .returned (.tuple #[.bool true, .int .i64 0]) ∧ Below W.heap.size W w')) :
    Calls Try.prog 5 #[.agg #[.slice o ns.length cap], .int .i64 x, .int .i64 y] w fun e w' => e = .returned (.bool true) ∧ Below w.heap.size w w' := by
  subst hRS ho
  have hkr := hid hk
  have Hkc := hid hkc
  obtain ⟨ok', ck', ek, _, gk⟩ := hk
  simp only [Value.slice.injEq] at ek
  obtain ⟨rfl, _, rfl⟩ := ek
  clear hkc
  have q0 : (C == 0) = false := beq_eq_false_iff_ne.2 (by omega)
  have q0' : (C != 0) = true := by rw [bne, q0]; rfl
  have q1 : ¬ C < 1 := by omega
  have q2 : ¬ (ns.length : Int) < C := by omega
  have q3 : C - 1 = (i : Int) := by omega
  have q4 : (0 : Int) ≤ (i : Int) := by omega
  have q5 : (i : Int) < (ns.length : Int) := by omega
  have HC := hid hC
  clear hC
  go_enter Try.func5, Try.ntmps5
  go_wp2_with fail
  refine (HBg.out _).mono ?_
  rintro e v0 ⟨rfl, hb0⟩
  have HB0 := hid (box_go hb0)
  have cb0 := box_forest hb0
  have hs0 := hb0.size
  simp only [World.size_alloc] at hs0
  clear hb0 HBg
  go_wp2_with fail
  refine (HCn.out _ HB0.out).mono ?_
  rintro e v1 ⟨rfl, hb⟩
  have HB1 := hid (HB0.out.trans (hb.mono HB0.out.size))
  have cb1 := (hb.cell (p := ⟨w.heap.size, 0, none⟩) (by show w.heap.size < v0.heap.size; omega)).trans cb0
  have hs1 := Nat.le_trans hs0 hb.size
  clear hb cb0 HB0 hs0 HCn
  go_wp2_with fail
  refine (HCm.out _ HB1.out).mono ?_
  rintro e v2 ⟨rfl, hb⟩
  have HB2 := hid (HB1.out.trans (hb.mono HB1.out.size))
  have cb2 := (hb.cell (p := ⟨w.heap.size, 0, none⟩) (by show w.heap.size < v1.heap.size; omega)).trans cb1
  have hs2 := Nat.le_trans hs1 hb.size
  clear hb cb1 HB1 hs1 HCm
  go_wp2_with fail
  refine (HRx.out _ HB2.out).mono ?_
  rintro e v3 ⟨rfl, hb⟩
  have HB3 := hid (HB2.out.trans (hb.mono HB2.out.size))
  have cb3 := (hb.cell (p := ⟨w.heap.size, 0, none⟩) (by show w.heap.size < v2.heap.size; omega)).trans cb2
  have hs3 := Nat.le_trans hs2 hb.size
  clear hb cb2 HB2 hs2 HRx
  go_wp2_with fail
  refine (HRy.out _ HB3.out).mono ?_
  rintro e v4 ⟨rfl, hb⟩
  have HB4 := hid (HB3.out.trans (hb.mono HB3.out.size))
  have cb4 := (hb.cell (p := ⟨w.heap.size, 0, none⟩) (by show w.heap.size < v3.heap.size; omega)).trans cb3
  have hs4 := Nat.le_trans hs3 hb.size
  clear hb cb3 HB3 hs3 HRy
  go_wp2_with fail
  refine (HAl.out _ HB4.out).mono ?_
  rintro e v5 ⟨vl, rfl, hl, hb⟩
  have HB5 := hid (HB4.out.trans (hb.mono HB4.out.size))
  have cb5 := (hb.cell (p := ⟨w.heap.size, 0, none⟩) (by show w.heap.size < v4.heap.size; omega)).trans cb4
  have hs5 := Nat.le_trans hs4 hb.size
  have Hl := hid hl
  obtain ⟨ol, cl, rfl, _, _⟩ := hl
  clear hb cb4 HB4 hs4 HAl
  have hPl := place_any _ l y v5 Hl.out hll
  rw [hP] at hPl
  clear Hl hP
  go_wp2_with fail
  refine hPl.mono ?_
  rintro e v6 ⟨rfl, rfl⟩
  clear hPl
  go_wp2_with fail
  refine (HDx.out _ HB5.out).mono ?_
  rintro e v7 ⟨rfl, hb⟩
  have HB7 := hid (HB5.out.trans (hb.mono HB5.out.size))
  have cb7 := (hb.cell (p := ⟨w.heap.size, 0, none⟩) (by show w.heap.size < v6.heap.size; omega)).trans cb5
  have hs7 := Nat.le_trans hs5 hb.size
  clear hb cb5 HB5 hs5 HDx
  go_wp2_with fail
  refine (HDy.out _ HB7.out).mono ?_
  rintro e v8 ⟨rfl, hb⟩
  have HB8 := hid (HB7.out.trans (hb.mono HB7.out.size))
  have cb8 := (hb.cell (p := ⟨w.heap.size, 0, none⟩) (by show w.heap.size < v7.heap.size; omega)).trans cb7
  have hs8 := Nat.le_trans hs7 hb.size
  have ck8 := (HB8.out.cell (p := ⟨b, off + i * 16 + 9, none⟩) (by assumption)).trans Hkc.out
  clear hb cb7 HB7 hs7 HDy
  obtain rfl : C = (i : Int) + 1 := HC.out
  clear HC q3
  go_wp2
  go_loopw [159] (fun t wr => ∃ k : Nat, k ≤ ks.length ∧ t = .int .i64 k ∧ Hid (Below w.heap.size w wr) ∧ wr.cell? ⟨w.heap.size, 0, none⟩ = some (.slice (some ⟨b, off, none⟩) ns.length cap) ∧ w.heap.size + 1 ≤ wr.heap.size) (fun t _ => ks.length - (RowKit.intOf t).toNat)
  case atStart => exact ⟨0, Nat.zero_le _, rfl, HB8, cb8, hs8⟩
  case round =>
    obtain ⟨k, hk, rfl, hB, cb, hs⟩ := hrel
    clear cb8 hs8 HB8 ck8
    by_cases hlt : k < ks.length
    · obtain ⟨bk, offk, rfl, hltk, hak⟩ := gk (by omega)
      have x1 := (hB.out.cell (p := ⟨bk, offk + k, none⟩) hltk).trans (hak k hlt)
      have q6 : (0 : Int) ≤ (k : Int) := by omega
      have q7 : (k : Int) < (ks.length : Int) := by omega
      obtain ⟨K1, K2, hKK, h1, h2⟩ := HKs.out ks[k] (List.getElem_mem hlt)
      have h1 := h1 wr hB.out
      have H2 := hid h2
      clear h2 HKs hak gk
      generalize ks[k] = z at *
      go_wp2_with fail
      refine h1.mono ?_
      clear h1
      rintro e v9 ⟨rfl, hb⟩
      have HB9 := hid (hB.out.trans (hb.mono hB.out.size))
      have cb9 := (hb.cell (p := ⟨w.heap.size, 0, none⟩) (by show w.heap.size < wr.heap.size; omega)).trans cb
      have hs9 := Nat.le_trans hs hb.size
      clear hb cb
      go_wp2_with fail
      refine (H2.out _ HB9.out).mono ?_
      rintro e v10 ⟨rfl, hb⟩
      have HB10 := hid (HB9.out.trans (hb.mono HB9.out.size))
      have cb10 := (hb.cell (p := ⟨w.heap.size, 0, none⟩) (by show w.heap.size < v9.heap.size; omega)).trans cb9
      have hs10 := Nat.le_trans hs9 hb.size
      clear hb cb9 H2
      cases K1 with
      | false =>
        clear hKK
        go_wp2
        go_roundw
        case rel => exact ⟨k + 1, by omega, by go_num, HB10, cb10, hs10⟩
        case measure => simp [RowKit.intOf]; omega
      | true =>
        obtain rfl : K2 = false := hKK
        go_wp2
        go_roundw
        case rel => exact ⟨k + 1, by omega, by go_num, HB10, cb10, hs10⟩
        case measure => simp [RowKit.intOf]; omega
    · clear HKs gk
      go_wp2
      go_ret
      exact ⟨rfl, hB.out⟩
end Go.Proofs.Ytnolcbjaijoloaa

namespace Go.Proofs.Ytnolcbjaijoloaa
open Go.RowKit Go.Lib
theorem toldE_one {ns : List NodeD} {x : Int} (hR : RightF ns) (hx : thereB ns.length x = true) : toldE ns [x] = 0 := toldE_ok ((rightD_iff ns).2 hR) (by simp [hx])
theorem toldE_two {ns : List NodeD} {x y : Int} (hR : RightF ns) (hx : thereB ns.length x = true) (hy : thereB ns.length y = true) : toldE ns [x, y] = 0 := toldE_ok ((rightD_iff ns).2 hR) (by simp [hx, hy])
section
variable {o : Option Addr} {cap : Nat} {ns : List NodeD} {w : World}
theorem Contains_ok (hF : FRd w o cap ns) (hkl : ∀ (i : Nat) (hi : i < ns.length), ns[i].kids.length ≤ 1099511627776) (hal : ∀ (i : Nat) (hi : i < ns.length), ns[i].attrs.length ≤ 1099511627776) (hR : RightF ns) {x y : Int} (hx : thereB ns.length x = true) (hy : thereB ns.length y = true) {B : Bool} (hB : containsD ns x y = B) (W : World) (hW : Below w.heap.size w W) :
    Calls Try.prog 14 #[.agg #[.slice o ns.length cap], .int .i64 x, .int .i64 y] W fun e w' => e = .returned (.tuple #[.bool B, .int .i64 0]) ∧ Below W.heap.size W w' := by
  have := Contains_any o cap x y ns W (hF.later hW) hkl hal
  rw [toldE_two hR hx hy, if_pos rfl, hB] at this
  exact this
theorem Root_ok (hF : FRd w o cap ns) (hkl : ∀ (i : Nat) (hi : i < ns.length), ns[i].kids.length ≤ 1099511627776) (hal : ∀ (i : Nat) (hi : i < ns.length), ns[i].attrs.length ≤ 1099511627776) (hR : RightF ns) {x : Int} (hx : thereB ns.length x = true) (W : World) (hW : Below w.heap.size w W) :
    Calls Try.prog 8 #[.agg #[.slice o ns.length cap], .int .i64 x] W fun e w' => e = .returned (.tuple #[.int .i64 (lastI (pathUp ns (parentD ns) x)), .int .i64 0]) ∧ Below W.heap.size W w' := by
  have := Root_any o cap x ns W (hF.later hW) hkl hal
  rw [toldE_one hR hx, if_pos rfl] at this
  exact this
theorem All_ok (hF : FRd w o cap ns) (hkl : ∀ (i : Nat) (hi : i < ns.length), ns[i].kids.length ≤ 1099511627776) (hal : ∀ (i : Nat) (hi : i < ns.length), ns[i].attrs.length ≤ 1099511627776) (hR : RightF ns) {x : Int} (hx : thereB ns.length x = true) (W : World) (hW : Below w.heap.size w W) :
    Calls Try.prog 9 #[.agg #[.slice o ns.length cap], .int .i64 x] W fun e w' => ∃ v, e = .returned (.tuple #[v, .int .i64 0]) ∧ RdI w' v (allD ns x) ∧ Below W.heap.size W w' := by
  have := All_any o cap x ns W (hF.later hW) hkl hal (fun _ => all_len hR hx)
  rw [toldE_one hR hx, if_pos rfl] at this
  refine this.mono ?_
  rintro e w' ⟨v, rfl, hr, hb⟩
  exact ⟨v, rfl, ownsRow_rdI hr, hb⟩
theorem Common_ok (hF : FRd w o cap ns) (hkl : ∀ (i : Nat) (hi : i < ns.length), ns[i].kids.length ≤ 1099511627776) (hal : ∀ (i : Nat) (hi : i < ns.length), ns[i].attrs.length ≤ 1099511627776) (hR : RightF ns) {x y : Int} (hx : thereB ns.length x = true) (hy : thereB ns.length y = true) {C : Int} (hC : commonD ns x y = C) (W : World) (hW : Below w.heap.size w W) :
    Calls Try.prog 15 #[.agg #[.slice o ns.length cap], .int .i64 x, .int .i64 y] W fun e w' => e = .returned (.tuple #[.int .i64 C, .int .i64 0]) ∧ Below W.heap.size W w' := by
  have := Common_any o cap x y ns W (hF.later hW) hkl hal
  rw [toldE_two hR hx hy, if_pos rfl, hC] at this
  exact this
end
theorem orderWithin_law (o : Option Addr) (cap : Nat) (x y : Int) (ns : List NodeD) (w : World) (hF : FRd w o cap ns) (hkl : ∀ (i : Nat) (hi : i < ns.length), ns[i].kids.length ≤ 1099511627776) (hal : ∀ (i : Nat) (hi : i < ns.length), ns[i].attrs.length ≤ 1099511627776) :
    Calls Try.prog 5 #[.agg #[.slice o ns.length cap], .int .i64 x, .int .i64 y] w fun e w' => e = .returned (.bool true) ∧ Below w.heap.size w w' := by
  by_cases hE : toldE ns [x, y] = 0
  · obtain ⟨hR, hth⟩ := toldE_zero hE
    have hx := hth x (by simp)
    have hy := hth y (by simp)
    have hll := all_len hR hx
    have hwa := within_all hR hx hy
    have hwf := within_fork hR hx hy
    by_cases hf : forkN (pathD ns x) (pathD ns y) = 0
    · have hRS : (lastI (pathUp ns (parentD ns) x) == lastI (pathUp ns (parentD ns) y)) = false := by
        rw [hf] at hwf
        cases hh : (lastI (pathUp ns (parentD ns) x) == lastI (pathUp ns (parentD ns) y)) with
        | false => rfl
        | true => rw [hh] at hwf; cases hwf
      have hIN : containsD ns x y = false := by
        cases hc : containsD ns x y with
        | false => rfl
        | true =>
          have := within_root hR hx hy hc
          rw [this, beq_self_eq_true] at hRS
          cases hRS
      have hC : commonD ns x y = 0 := by unfold commonD; rw [hf]; rfl
      rw [hIN] at hwa
      exact within_apart o cap x y _ _ _ (allD ns x) ns w hRS rfl (fun h => of_decide_eq_false hwa h) hll (fun W => begins_true W)
        (Contains_ok hF hkl hal hR hx hy hIN) (Common_ok hF hkl hal hR hx hy hC) (Root_ok hF hkl hal hR hx) (Root_ok hF hkl hal hR hy) (All_ok hF hkl hal hR hx)
    · have hRS : lastI (pathUp ns (parentD ns) x) = lastI (pathUp ns (parentD ns) y) := by
        rw [beq_eq_false_iff_ne.2 hf] at hwf
        cases hh : (lastI (pathUp ns (parentD ns) x) == lastI (pathUp ns (parentD ns) y)) with
        | true => exact eq_of_beq hh
        | false => rw [hh] at hwf; cases hwf
      obtain ⟨hct, c1, c2, ck⟩ := within_common hR hx hy hf
      obtain ⟨i, hi, hCi⟩ := there_idx hct
      obtain ⟨b, off, ho, hFA⟩ := hF.at_ (by omega)
      obtain ⟨L, hcells, _, _, hkk⟩ := hFA.at_ i hi
      have hkd : kidsD ns (commonD ns x y) = ns[i].kids := by rw [hCi]; unfold kidsD; rw [nodeOf_at ns i hi]
      have hkc := hcells.kids
      obtain ⟨ok, cck, ek, r⟩ := hkk
      have hrd : RdI w (.slice ok ns[i].kids.length cck) ns[i].kids := ⟨ok, cck, rfl, r⟩
      rw [ek] at hkc
      have HKs : Hid (∀ k ∈ ns[i].kids, ∃ K1 K2 : Bool, (K1 && K2) = false ∧ (∀ W : World, Below w.heap.size w W → Calls Try.prog 14 #[.agg #[.slice o ns.length cap], .int .i64 k, .int .i64 x] W fun e w' => e = .returned (.tuple #[.bool K1, .int .i64 0]) ∧ Below W.heap.size W w') ∧ (∀ W : World, Below w.heap.size w W → Calls Try.prog 14 #[.agg #[.slice o ns.length cap], .int .i64 k, .int .i64 y] W fun e w' => e = .returned (.tuple #[.bool K2, .int .i64 0]) ∧ Below W.heap.size W w')) := fun k hk => by
        rw [← hkd] at hk
        have hkt := (hR.kidsHang.down _ k hct hk).1
        refine ⟨containsD ns k x, containsD ns k y, ?_, Contains_ok hF hkl hal hR hkt hx rfl, Contains_ok hF hkl hal hR hkt hy rfl⟩
        have := ck k hk
        cases h1 : containsD ns k x with
        | false => rfl
        | true =>
          cases h2 : containsD ns k y with
          | false => rfl
          | true => exact absurd ⟨h1, h2⟩ this
      cases hIN : containsD ns x y with
      | true =>
        rw [hIN] at hwa
        exact within_in o cap x y _ _ _ _ (allD ns x) ns w hRS rfl (of_decide_eq_true hwa) hll b off i ns[i].kids ok cck ho hF.len hCi hi hFA.lt hkc hrd (hkl i hi) HKs (fun W => begins_true W)
          (Contains_ok hF hkl hal hR hx hy hIN) (Common_ok hF hkl hal hR hx hy rfl) (Root_ok hF hkl hal hR hx) (Root_ok hF hkl hal hR hy) (All_ok hF hkl hal hR hx) (Contains_ok hF hkl hal hR hct hx c1) (Contains_ok hF hkl hal hR hct hy c2)
      | false =>
        rw [hIN] at hwa
        exact within_beside o cap x y _ _ _ _ (allD ns x) ns w hRS rfl (of_decide_eq_false hwa) hll b off i ns[i].kids ok cck ho hF.len hCi hi hFA.lt hkc hrd (hkl i hi) HKs (fun W => begins_true W)
          (Contains_ok hF hkl hal hR hx hy hIN) (Common_ok hF hkl hal hR hx hy rfl) (Root_ok hF hkl hal hR hx) (Root_ok hF hkl hal hR hy) (All_ok hF hkl hal hR hx) (Contains_ok hF hkl hal hR hct hx c1) (Contains_ok hF hkl hal hR hct hy c2)
  · have hne : (toldE ns [x, y] != 0) = true := by rw [bne, beq_eq_false_iff_ne.2 hE]; rfl
    refine within_refused o cap x y (toldE ns [x, y]) (toldE ns [x]) (toldE ns [y]) _ _ _ (if toldE ns [x] = 0 then allD ns x else []) ns w hne _ (fun W => begins_true W)
      (fun W hW => Contains_any o cap x y ns W (hF.later hW) hkl hal) (fun W hW => Common_any o cap x y ns W (hF.later hW) hkl hal) (fun W hW => Root_any o cap x ns W (hF.later hW) hkl hal) (fun W hW => Root_any o cap y ns W (hF.later hW) hkl hal) (fun W hW => ?_)
    refine (All_any o cap x ns W (hF.later hW) hkl hal (fun hE1 => ?_)).mono ?_
    · obtain ⟨hR, hth⟩ := toldE_zero hE1
      exact all_len hR (hth x (by simp))
    · rintro e w' ⟨v, rfl, hr, hb⟩
      exact ⟨v, rfl, ownsRow_rdI hr, hb⟩
end Go.Proofs.Ytnolcbjaijoloaa
