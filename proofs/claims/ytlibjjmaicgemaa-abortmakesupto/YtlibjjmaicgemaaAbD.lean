/- slices.Equal, IsSorted, Clone at numbers. -/
import Derived.Test.YtlibjjmaicgemaaAbA
import Derived.Deep.DeepCutAuto
import Derived.Deep.CutRange
import Derived.Lib.SliceRun
namespace Go.Proofs.Ytlibjjmaicgemaa
open Go.RowKit Go.Lib Go.Shelf

set_option maxRecDepth 100000 in
set_option maxHeartbeats 4000000 in
theorem equalI_any (v1 v2 : Value) (p q : List Int) (w : World) (hp : RdI w v1 p) (hq : RdI w v2 q) (lp : p.length ≤ 1099511627776) :
    Calls Try.prog 39 #[v1, v2] w fun e w' => e = .returned (.bool (p == q)) ∧ Below w.heap.size w w' := by
  obtain ⟨o1, c1, rfl, hc1, g1⟩ := hp
  obtain ⟨o2, c2, rfl, hc2, g2⟩ := hq
  by_cases hl : p.length = q.length
  · obtain ⟨R, hR⟩ : ∃ R, (p == q) = R := ⟨_, rfl⟩
    rw [hR]
    have HR : Hid ((p.drop 0 == q.drop 0) = R) := hR
    have e1 : ((p.length : Int) != (q.length : Int)) = false := by rw [hl]; simp
    clear hR
    go_enter Try.func39, Try.ntmps39
    go_wp2
    go_loopw [13] (fun t wr => ∃ k m : Nat, k ≤ p.length ∧ t = .int .i64 k ∧ wr = w.drewN m ∧ Hid ((p.drop k == q.drop k) = R)) (fun t _ => p.length - (RowKit.intOf t).toNat)
    case atStart => exact ⟨0, 0, Nat.zero_le _, rfl, rfl, HR⟩
    case round =>
      obtain ⟨k, m, k1, rfl, rfl, hK⟩ := hrel
      clear HR
      by_cases l1 : k < p.length
      · have l2 : k < q.length := by omega
        obtain ⟨b1, off1, rfl, hlt1, ha1⟩ := g1 (by omega)
        obtain ⟨b2, off2, rfl, hlt2, ha2⟩ := g2 (by omega)
        have x1 := ha1 k l1
        have x2 := ha2 k l2
        have Hf := hid (beq_drop3 p q k l1 l2)
        have q1 : (0 : Int) ≤ (k : Int) := by omega
        have q2 : (k : Int) < (p.length : Int) := by omega
        have q3 : (k : Int) < (q.length : Int) := by omega
        clear ha1 ha2 g1 g2
        generalize p[k] = a at *
        generalize q[k] = a2 at *
        cases he : (a == a2) with
        | true =>
          have Hn : Hid ((p.drop (k + 1) == q.drop (k + 1)) = R) := by
            show _ = _
            rw [← hK.out, Hf.out, he, Bool.true_and]
          have hne : (a != a2) = false := by rw [bne, he]; rfl
          clear Hf hK e1 hl
          go_upto_region 6 with fail
          go_quiet (fail)
          go_wp2
          go_roundw
          case rel => exact ⟨k + 1, m + nq, by omega, by go_num, by simp, Hn⟩
          case measure => simp [RowKit.intOf]; omega
        | false =>
          have hRf : R = false := by rw [← hK.out, Hf.out, he, Bool.false_and]
          have hne : (a != a2) = true := by rw [bne, he]; rfl
          subst hRf
          clear Hf hK e1 hl
          go_upto_region 6 with fail
          go_quiet (fail)
          go_wp2
          go_ret
          exact ⟨rfl, (drewN_below _ _ _).trans (drewN_below _ _ _)⟩
      · have hRt : R = true := by
          rw [← hK.out, List.drop_eq_nil_of_le (by omega), List.drop_eq_nil_of_le (by omega)]
          rfl
        subst hRt
        have hkp : k = p.length := by omega
        subst hkp
        have hd : decide (p.length < q.length) = false := decide_eq_false (by omega)
        clear hK g1 g2 e1 hl l1 k1
        go_wp2
        go_ret
        exact ⟨rfl, drewN_below _ _ _⟩
  · rw [beq_len3 hl]
    have e1 : ((p.length : Int) != (q.length : Int)) = true := by rw [bne, beq_eq_false_iff_ne.2 (by omega)]; rfl
    clear g1 g2
    go_enter Try.func39, Try.ntmps39
    go_wp2
    go_ret
    exact ⟨rfl, Below.refl _ _⟩

set_option maxRecDepth 100000 in
theorem nan_any (x : Int) (w : World) : Calls Try.prog 49 #[.int .i64 x] w fun e w' => e = .returned (.bool false) ∧ w' = w := by
  go_enter Try.func49, Try.ntmps49
  go_wp2
  go_ret
  exact ⟨by simp, rfl⟩
set_option maxRecDepth 100000 in
theorem less_any (x y : Int) (w : World) : Calls Try.prog 46 #[.int .i64 x, .int .i64 y] w fun e w' => e = .returned (.bool (decide (x < y))) ∧ w' = w := by
  go_enter Try.func46, Try.ntmps46
  go_wp2_with (go_at_call 49; refine (nan_any _ _).mono ?_; rintro e w' ⟨rfl, rfl⟩)
  go_ret
  exact ⟨rfl, rfl⟩
theorem wrapA {z : Int} (h0 : 0 ≤ z) (h1 : z ≤ 2199023255552) : IntKind.i64.wrap z = z := by
  simp only [IntKind.wrap, IntKind.bits, IntKind.signed]
  simp
  omega
/-- Is none less than the one ahead of it, from the place i down? -/
def downD (l : List Int) : Nat → Bool
  | 0 => true
  | i + 1 => !decide (l.getD (i + 1) 0 < l.getD i 0) && downD l i
set_option maxRecDepth 100000 in
set_option maxHeartbeats 4000000 in
theorem sortedI_any (v : Value) (l : List Int) (w : World) (hv : RdI w v l) (hl : l.length ≤ 1099511627776) :
    Calls Try.prog 44 #[v] w fun e w' => e = .returned (.bool (downD l (l.length - 1))) ∧ Below w.heap.size w w' := by
  obtain ⟨o, c, rfl, hc, g⟩ := hv
  obtain ⟨R, hR⟩ : ∃ R, downD l (l.length - 1) = R := ⟨_, rfl⟩
  rw [hR]
  have HR : Hid (downD l (((l.length : Int) - 1).toNat) = R) := by
    show _ = _
    rw [← hR]
    congr 1
    omega
  have G := hid g
  clear hR g
  go_enter Try.func44, Try.ntmps44
  go_wp2
  go_loopw [3] (fun t wr => ∃ (z : Int), -1 ≤ z ∧ z < (l.length : Int) ∧ t = .int .i64 z ∧ Hid (Below w.heap.size w wr) ∧ Hid (downD l z.toNat = R)) (fun t _ => (RowKit.intOf t).toNat)
  case atStart => exact ⟨(l.length : Int) - 1, by omega, by omega, rfl, Below.refl _ _, HR⟩
  case round =>
    obtain ⟨z, z1, z2, rfl, hB, hK⟩ := hrel
    clear HR
    by_cases hz : 0 < z
    · obtain ⟨i, rfl⟩ : ∃ i : Nat, z = (i : Int) + 1 := ⟨z.toNat - 1, by omega⟩
      obtain ⟨b, off, rfl, hlt, ha⟩ := G.out (by omega)
      have c1 := (hB.out.cell (p := ⟨b, off + (i + 1), none⟩) hlt).trans (ha (i + 1) (by omega))
      have c0 := (hB.out.cell (p := ⟨b, off + i, none⟩) hlt).trans (ha i (by omega))
      have hk := hK.out
      rw [show ((i : Int) + 1).toNat = i + 1 by omega, downD, List.getD_eq_getElem?_getD, List.getD_eq_getElem?_getD, List.getElem?_eq_getElem (show i + 1 < l.length by omega), List.getElem?_eq_getElem (show i < l.length by omega), Option.getD_some, Option.getD_some] at hk
      have Hk := hid hk
      have q1 : (0 : Int) ≤ (i : Int) := by omega
      have q2 : (i : Int) < (l.length : Int) := by omega
      have q3 : (i : Int) + 1 < (l.length : Int) := by omega
      have q4 : (0 : Int) ≤ (i : Int) + 1 := by omega
      clear hk hK ha G
      generalize l[i + 1] = x at *
      generalize l[i] = y at *
      have hwi : IntKind.i64.wrap (i : Int) = (i : Int) := wrapA (by omega) (by omega)
      have hL := less_any x y
      cases hxy : decide (x < y) with
      | true =>
        have hRf : R = false := by rw [← Hk.out, hxy]; rfl
        subst hRf
        rw [hxy] at hL
        have HL : Hid (∀ w, Calls _ _ _ w _) := hL
        clear Hk hL
        go_upto_region 4 with fail
        go_quiet ((go_at_call 46; refine Calls.quiet_of_same (HL.out _)))
        go_wp2
        go_ret
        exact ⟨rfl, hB.out.trans (drewN_below _ _ _)⟩
      | false =>
        have Hn : Hid (downD l (i : Int).toNat = R) := by
          show _ = _
          rw [← Hk.out, hxy]
          rfl
        rw [hxy] at hL
        have HL : Hid (∀ w, Calls _ _ _ w _) := hL
        clear Hk hL
        go_upto_region 4 with fail
        go_quiet ((go_at_call 46; refine Calls.quiet_of_same (HL.out _)))
        go_wp2
        go_roundw
        case rel => exact ⟨i, by omega, by omega, by go_num, hB.out.trans (drewN_below _ _ _), Hn⟩
        case measure => simp [RowKit.intOf]
    · have hRt : R = true := by
        rw [← hK.out, show z.toNat = 0 by omega]
        rfl
      subst hRt
      clear hK G
      go_wp2
      go_ret
      exact ⟨rfl, hB.out⟩
theorem info_intD : (Try.prog.info? 3).map (fun i => (i.zero, i.size, i.bytes)) = some (some (.int .i64 0), 1, 8) := by kernel_rfl
/-- Numbers that are put behind a row of the call's own. -/
theorem run_appendIs (w : World) (B : Nat) (v src : Value) (done us : List Int) (ty : TypeId) (hown : w.ownsRow B 3 1 v done.length (done.map (Value.int .i64))) (hB : B ≤ w.heap.size) (hr : RdI w src us) (hn : done.length + us.length ≤ 1099511627776) :
    ∃ v' w', (Builtin.append_ #[23, 23] ty #[v, src]).run Try.prog w = .ok v' w' ∧ w'.ownsRow B 3 1 v' (done ++ us).length ((done ++ us).map (Value.int .i64)) ∧ w.grownBy w' v.ownBlock := by
  obtain ⟨i0, hi, hz0, hz1, hz2⟩ := info_parts info_intD
  have fin : ∀ (a : Addr) (cap : Nat), (∀ j u, (us.map (Value.int .i64))[j]? = some u → w.cell? (a.add j) = some u) → ∃ v' w', (Builtin.append_ #[23, 23] ty #[v, .slice (some a) us.length cap]).run Try.prog w = .ok v' w' ∧ w'.ownsRow B 3 1 v' (done ++ us).length ((done ++ us).map (Value.int .i64)) ∧ w.grownBy w' v.ownBlock := fun a cap hc => by
    obtain ⟨v', w', h1, h2, h3, _⟩ := run_append_own (P := Try.prog) w B 23 ty 3 i0 _ 1 8 Try.underlying23 hi hz0 hz1 hz2 rfl (by decide) v done.length (done.map (Value.int .i64)) hown a us.length cap (us.map (Value.int .i64)) (by simp) hc (fun u hu => by obtain ⟨x, _, rfl⟩ := List.mem_map.1 hu; rfl) (by unfold maxLen; omega) (by omega) hB
    exact ⟨v', w', h1, by rw [List.length_append, List.map_append]; exact h2, h3⟩
  obtain ⟨o, cap, rfl, _, g⟩ := hr
  by_cases h0 : us.length = 0
  · have hn : us = [] := List.eq_nil_of_length_eq_zero h0
    subst hn
    cases o with
    | none =>
      refine ⟨v, w, ?_, by simpa using hown, ⟨rfl, rfl, rfl, Nat.le_refl _, fun _ _ _ => rfl⟩⟩
      rcases hown.2 with ⟨hv, _⟩ | ⟨g, c, cur, hv, _, hg, hnc, _⟩
      · subst hv
        have hs := Src.ofNil (P := Try.prog) w (size := i0.size) Try.underlying23 cap
        simp [Builtin.append_, run_underlying Try.underlying23, sizeOf, typeInfo, hi, Builtin.lenOf]
        rw [hs.cells]
        rfl
      · subst hv
        have hs := Src.ofNil (P := Try.prog) w (size := i0.size) Try.underlying23 cap
        have h := run_append_room_src w 23 23 ty 3 i0 Try.underlying23 hi g 0 done.length c (.slice none 0 cap) 0 [] hs (by omega) (fun j hj => by simp at hj) (fun j hj => by simp at hj)
        exact h
    | some a => exact fin a cap fun j u hj => by simp at hj
  · obtain ⟨b, off, rfl, _, ha⟩ := g (by omega)
    refine fin _ cap (fun j u hj => ?_)
    have hlt : j < us.length := by simpa using (List.getElem?_eq_some_iff.1 hj).1
    rw [List.getElem?_map, List.getElem?_eq_getElem hlt] at hj
    have := Option.some.inj hj
    subst this
    rw [Addr.add_lit]
    exact ha j hlt
theorem own_emptyI {W : World} {g : Nat} (h : W.heap[g]? = some (.cells #[] 3)) (base : Nat) (hb : base ≤ g) : W.ownsRow base 3 1 (.slice (some ⟨g, 0, none⟩) 0 0) ([] : List Int).length (([] : List Int).map (Value.int .i64)) :=
  ⟨rfl, .inr ⟨g, 0, #[], rfl, hb, h, Nat.le_refl _, Nat.zero_le _, rfl, rfl⟩⟩
set_option maxRecDepth 100000 in
set_option maxHeartbeats 1000000 in
theorem cloneI_any (v : Value) (us : List Int) (w : World) (hr : RdI w v us) (hn : us.length ≤ 1099511627776) :
    Calls Try.prog 42 #[v] w fun e w' => ∃ o c, e = .returned (.slice o us.length c) ∧ w'.ownsRow w.heap.size 3 1 (.slice o us.length c) us.length (us.map (Value.int .i64)) ∧ Below w.heap.size w w' := by
  have hr0 := hr
  obtain ⟨o, cap, rfl, hcap, g⟩ := hr
  cases o with
  | none =>
    have hz : us = [] := by
      by_cases h0 : 0 < us.length
      · obtain ⟨b, off, e2, _⟩ := g h0
        cases e2
      · exact List.eq_nil_of_length_eq_zero (by omega)
    subst hz
    clear g hr0
    have q := run_eql_slice_nil (P := Try.prog) w 23 3 none 0 cap 0 0 Try.underlying23
    go_enter Try.func42, Try.ntmps42
    go_wp2
    go_ret
    exact ⟨none, 0, rfl, World.ownsRow_nil _ _ _ _, Below.refl _ _⟩
  | some a =>
    have hb0 : Below w.heap.size w (w.alloc (.cells #[] 3)) := (Below.refl _ w).alloc (Nat.le_refl _) _
    obtain ⟨v', w', h1, h2, h3⟩ := run_appendIs (w.alloc (.cells #[] 3)) w.heap.size (.slice (some ⟨w.heap.size, 0, none⟩) 0 0) (.slice (some a) us.length cap) [] us 23 (own_emptyI (heap_new w _) _ (Nat.le_refl _)) (by simp) (hr0.later hb0) (by simp; omega)
    have hb1 := hb0.trans (below_own (own_emptyI (heap_new w _) w.heap.size (Nat.le_refl _)) (by simp) h3)
    have q := run_eql_slice_nil (P := Try.prog) w 23 3 (some a) us.length cap 0 0 Try.underlying23
    rw [List.nil_append] at h2
    obtain ⟨o2, c2, rfl⟩ := own_shape h2
    have HO := hid h2
    have HB := hid hb1
    clear h2 h3 hb0 hb1 hr0 g
    go_enter Try.func42, Try.ntmps42
    go_wp2_with (at_builtin; refine wpList_append_run _ rfl _ _ 23 23 rfl _ _ rfl rfl _ _ h1 ?_)
    go_ret
    exact ⟨o2, c2, rfl, HO.out, HB.out⟩
end Go.Proofs.Ytlibjjmaicgemaa
