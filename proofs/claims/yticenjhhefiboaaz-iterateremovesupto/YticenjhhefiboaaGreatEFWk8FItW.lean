/- The reference of walk: why a filter is none, what is asked of a node (Wrong, canopyref05.Wrong, Accept). -/
/- The reference of order: Fault. -/
/- What a filter says of a node, the program's word and the reference's (Accept); two walkers that are one (Same). -/
/- The reference of iterate: iterators that are one (canopyref14.SameFilter, Same), a new one (New), which are right (Check). -/
import Derived.Test.YticenjhhefiboaaGreatEFWk3
import Derived.Test.YticenjhhefiboaaGreatEFWkGFItR
import Derived.Test.YticenjhhefiboaaGreatEFRMade
import Derived.Test.YticenjhhefiboaaGreatEFUpFR4D
namespace Go.Proofs.YticenjhhefiboaaGreat
open Go.RowKit Go.Lib

theorem mute_bits (v : Nat) : (decide ((v : Int) < 1) || decide (3 < (v : Int))) = (!(v == 1) && !(v == 2) && !(v == 3)) := by
  by_cases h1 : v = 1
  · subst h1; rfl
  · by_cases h2 : v = 2
    · subst h2; rfl
    · by_cases h3 : v = 3
      · subst h3; rfl
      · rw [beq_eq_false_iff_ne.2 h1, beq_eq_false_iff_ne.2 h2, beq_eq_false_iff_ne.2 h3]
        by_cases h0 : (v : Int) < 1
        · rw [decide_eq_true h0]; rfl
        · rw [decide_eq_false h0, decide_eq_true (by omega : 3 < (v : Int))]; rfl

set_option maxRecDepth 100000 in
set_option maxHeartbeats 4000000 in
theorem refFilter_any (sh : Nat) (ro : Option Addr) (rc : Nat) (rules : List RuleD) (W : World) (hr : RdR W (.slice ro rules.length rc) rules) (hrl : rules.length ≤ 1099511627776) :
    Calls Tryz.prog 50 #[.agg #[.int .u32 (sh : Int), .slice ro rules.length rc]] W fun e w' => e = .returned (.int .i64 (filterE rules)) ∧ Below W.heap.size W w' := by
  have HB0 := hid ((Below.refl W.heap.size W).alloc (Nat.le_refl _) (.cells #[.int .u32 (sh : Int), .slice ro rules.length rc] 28))
  unfold filterE
  by_cases h64 : 64 < rules.length
  · rw [if_pos h64]
    have e1 : (64 : Int) < (rules.length : Int) := by omega
    clear hr
    go_enter Tryz.func50, Tryz.ntmps50
    go_wp2
    go_ret
    exact ⟨rfl, HB0.out⟩
  · rw [if_neg h64]
    have e1 : ¬ (64 : Int) < (rules.length : Int) := by omega
    obtain ⟨R, hR⟩ : ∃ R, rules.any mute = R := ⟨_, rfl⟩
    rw [hR]
    have HR : Hid ((rules.drop 0).any mute = R) := hR
    obtain ⟨ro', rc', hro, hcap, g⟩ := hr
    obtain ⟨rfl, rfl⟩ : ro' = ro ∧ rc' = rc := by
      simp only [Value.slice.injEq] at hro
      exact ⟨hro.1.symm, hro.2.2.symm⟩
    have G := hid g
    clear hR g hro h64
    go_enter Tryz.func50, Tryz.ntmps50
    go_wp2
    go_loopw [12] (fun t wr => ∃ k : Nat, k ≤ rules.length ∧ t = .int .i64 k ∧ Hid (Below W.heap.size W wr) ∧ Hid ((rules.drop k).any mute = R)) (fun t _ => rules.length - (RowKit.intOf t).toNat)
    case atStart => exact ⟨0, Nat.zero_le _, rfl, HB0, HR⟩
    case round =>
      obtain ⟨k, k1, rfl, hB, hK⟩ := hrel
      by_cases hlt : k < rules.length
      · obtain ⟨rb, roff, rfl, rlt, ra⟩ := G.out (by omega)
        obtain ⟨r0, r1, r2⟩ := (ra k hlt).later rlt hB.out
        have p1 : (0 : Int) ≤ (k : Int) := by omega
        have p2 : (k : Int) < (rules.length : Int) := by omega
        have hkk := hK.out
        rw [List.drop_eq_getElem_cons hlt, List.any_cons] at hkk
        have Hk := hid hkk
        clear hkk hK ra G HR
        generalize rules[k] = r at *
        obtain ⟨y0, y1, y2⟩ := r
        have hm : mute ⟨y0, y1, y2⟩ = (decide ((y2 : Int) < 1) || decide (3 < (y2 : Int))) := (mute_bits y2).symm
        rw [hm] at Hk
        simp only at *
        have HB2 := hid (hB.out.alloc hB.out.size (.cells #[.int .u8 (y0 : Int), .string y1, .int .u8 (y2 : Int)] 86))
        clear hm
        by_cases a1 : (y2 : Int) < 1
        · have hRt : R = true := by rw [← Hk.out, decide_eq_true a1]; rfl
          subst hRt
          clear Hk
          go_wp2
          go_ret
          exact ⟨rfl, HB2.out⟩
        · by_cases a2 : 3 < (y2 : Int)
          · have hRt : R = true := by rw [← Hk.out, decide_eq_true a2, Bool.or_true]; rfl
            subst hRt
            clear Hk
            go_wp2
            go_ret
            exact ⟨rfl, HB2.out⟩
          · have Hn : Hid ((rules.drop (k + 1)).any mute = R) := by
              have := Hk.out
              rw [decide_eq_false a1, decide_eq_false a2] at this
              exact this
            clear Hk
            go_wp2
            go_roundw
            case rel => exact ⟨k + 1, by omega, by go_num, HB2, Hn⟩
            case measure => simp [RowKit.intOf]; omega
      · have hRf : R = false := by
          rw [← hK.out, List.drop_eq_nil_of_le (by omega)]
          rfl
        subst hRf
        clear hK G HR
        go_wp2
        go_ret
        exact ⟨rfl, hB.out⟩

theorem box1f {w V : World} {a : Value} {t : TypeId} (hb : Below (w.alloc (.cells #[a] t)).heap.size (w.alloc (.cells #[a] t)) V) : V.cell? ⟨w.heap.size, 0, none⟩ = some a :=
  (hb.cell (p := ⟨w.heap.size, 0, none⟩) (by simp)).trans (by simp)
theorem missE_one {ns : List NodeD} {x : Int} : missE ns [x] = if rightD ns then (if thereB ns.length x then 0 else 2) else 5 := by
  unfold missE
  simp only [List.all_cons, List.all_nil, Bool.and_true]

set_option maxRecDepth 100000 in
set_option maxHeartbeats 4000000 in
theorem ref05Wrong_any (o : Option Addr) (cap : Nat) (x : Int) (ns : List NodeD) (w : World) (hF : FRd w o cap ns) (hkl : ∀ (i : Nat) (hi : i < ns.length), ns[i].kids.length ≤ 1099511627776) (hal : ∀ (i : Nat) (hi : i < ns.length), ns[i].attrs.length ≤ 1099511627776) :
    Calls Tryz.prog 49 #[.agg #[.slice o ns.length cap], .int .i64 x] w fun e w' => e = .returned (.int .i64 (missE ns [x])) ∧ Below w.heap.size w w' := by
  have hB0 : Below w.heap.size w (w.alloc (.cells #[.slice o ns.length cap] 24)) := (Below.refl _ w).alloc (Nat.le_refl _) _
  have HR := hid (refRight_any o cap ns _ (hF.later hB0) hkl hal)
  have HN : Hid (∀ W : World, Below w.heap.size w W → _) := fun W hW => refNode_any o cap x ns W (hF.later hW)
  have HB0 := hid hB0
  rw [missE_one]
  clear hF hkl hal hB0
  cases hr : rightD ns with
  | false =>
    rw [hr] at HR
    rw [if_neg Bool.false_ne_true]
    clear hr HN
    go_enter Tryz.func49, Tryz.ntmps49
    go_wp2_with fail
    refine HR.out.mono ?_
    rintro e v1 ⟨rfl, hb⟩
    go_wp2
    go_ret
    exact ⟨rfl, HB0.out.trans (hb.mono HB0.out.size)⟩
  | true =>
    rw [hr] at HR
    rw [if_pos rfl]
    clear hr
    cases ht : thereB ns.length x with
    | false =>
      rw [ht] at HN
      rw [if_neg Bool.false_ne_true]
      clear ht
      go_enter Tryz.func49, Tryz.ntmps49
      go_wp2_with fail
      refine HR.out.mono ?_
      rintro e v1 ⟨rfl, hb⟩
      have q0 := box1f hb
      have HB1 := hid (HB0.out.trans (hb.mono HB0.out.size))
      have hN := HN.out v1 HB1.out
      clear hb HN
      go_wp2_with fail
      refine hN.mono ?_
      rintro e v2 ⟨L, rfl, h1, h2, h3, hb⟩
      obtain ⟨D, A, K⟩ := L
      obtain ⟨od, cd, e1, _⟩ := h1
      obtain ⟨oa, ca, e2, _⟩ := h2
      obtain ⟨ok, ck, e3, _⟩ := h3
      simp only at e1 e2 e3
      subst e1 e2 e3
      have HB2 := hid (HB1.out.trans (hb.mono HB1.out.size))
      unfold nodeV
      clear hb hN q0
      go_wp2
      go_ret
      exact ⟨rfl, HB2.out.alloc HB2.out.size _⟩
    | true =>
      rw [ht] at HN
      rw [if_pos rfl]
      clear ht
      go_enter Tryz.func49, Tryz.ntmps49
      go_wp2_with fail
      refine HR.out.mono ?_
      rintro e v1 ⟨rfl, hb⟩
      have q0 := box1f hb
      have HB1 := hid (HB0.out.trans (hb.mono HB0.out.size))
      have hN := HN.out v1 HB1.out
      clear hb HN
      go_wp2_with fail
      refine hN.mono ?_
      rintro e v2 ⟨L, rfl, h1, h2, h3, hb⟩
      obtain ⟨D, A, K⟩ := L
      obtain ⟨od, cd, e1, _⟩ := h1
      obtain ⟨oa, ca, e2, _⟩ := h2
      obtain ⟨ok, ck, e3, _⟩ := h3
      simp only at e1 e2 e3
      subst e1 e2 e3
      have HB2 := hid (HB1.out.trans (hb.mono HB1.out.size))
      unfold nodeV
      clear hb hN q0
      go_wp2
      go_ret
      exact ⟨rfl, HB2.out.alloc HB2.out.size _⟩
end Go.Proofs.YticenjhhefiboaaGreat

namespace Go.Proofs.YticenjhhefiboaaGreat
open Go.RowKit Go.Lib Go.Shelf

set_option maxRecDepth 100000 in
set_option maxHeartbeats 4000000 in
theorem refFault_any (o : Option Addr) (cap : Nat) (v : Value) (l : List Int) (ns : List NodeD) (w : World) (hF : FRd w o cap ns) (hkl : ∀ (i : Nat) (hi : i < ns.length), ns[i].kids.length ≤ 1099511627776) (hal : ∀ (i : Nat) (hi : i < ns.length), ns[i].attrs.length ≤ 1099511627776) (hv : RdI w v l) (hl : l.length ≤ 1099511627776) :
    Calls Tryz.prog 26 #[.agg #[.slice o ns.length cap], v] w fun e w' => e = .returned (.int .i64 (toldE ns l)) ∧ Below w.heap.size w w' := by
  have HRt : Hid (∀ (W : World), Below w.heap.size w W → _) := fun W hW => refRight_any o cap ns W (hF.later hW) hkl hal
  obtain ⟨ol, cl, rfl, hcl, gl⟩ := hv
  have hle := hF.len
  have hB0 : Below (w.heap.size + 1) (w.alloc (.cells #[.slice o ns.length cap] 24)) (w.alloc (.cells #[.slice o ns.length cap] 24)) := Below.refl _ _
  have hRt := HRt.out _ (bx_below hB0)
  have HB0 := hid hB0
  clear HRt hF hkl hal hB0
  unfold toldE
  cases hr : rightD ns with
  | false =>
    rw [if_neg Bool.false_ne_true]
    rw [hr] at hRt
    go_enter Tryz.func26, Tryz.ntmps26
    go_wp2_with fail
    refine hRt.mono ?_
    rintro e v1 ⟨rfl, hb1⟩
    have HB1 := hid (HB0.out.trans (hb1.mono (by simp)))
    clear hRt hb1
    go_wp2
    go_ret
    exact ⟨rfl, bx_below HB1.out⟩
  | true =>
    rw [if_pos rfl]
    rw [hr] at hRt
    obtain ⟨R, hRR⟩ : ∃ R : Int, (if l.all (thereB ns.length) = true then (0 : Int) else 2) = R := ⟨_, rfl⟩
    rw [hRR]
    have HR : Hid ((if (l.drop 0).all (thereB ns.length) = true then (0 : Int) else 2) = R) := hRR
    clear hRR hr
    go_enter Tryz.func26, Tryz.ntmps26
    go_wp2_with fail
    refine hRt.mono ?_
    rintro e v1 ⟨rfl, hb1⟩
    have HB1 := hid (HB0.out.trans (hb1.mono (by simp)))
    clear hRt hb1 HB0
    go_wp2
    go_loopw [5] (fun t wr => ∃ k : Nat, k ≤ l.length ∧ t = .int .i64 k ∧ Below (w.heap.size + 1) (w.alloc (.cells #[.slice o ns.length cap] 24)) wr ∧ Hid ((if (l.drop k).all (thereB ns.length) = true then (0 : Int) else 2) = R)) (fun t _ => l.length - (RowKit.intOf t).toNat)
    case atStart => exact ⟨0, Nat.zero_le _, rfl, HB1.out, HR⟩
    case round =>
      obtain ⟨k, hk, rfl, hB, hK⟩ := hrel
      clear HR HB1
      have hBw := bx_below hB
      by_cases hlt : k < l.length
      · obtain ⟨b2, off2, rfl, hlt2, ha2⟩ := gl (by omega)
        have x1 := (hBw.cell (p := ⟨b2, off2 + k, none⟩) hlt2).trans (ha2 k hlt)
        have cb : wr.cell? ⟨w.heap.size, 0, none⟩ = some (.slice o ns.length cap) := (hB.cell (p := ⟨w.heap.size, 0, none⟩) (by show w.heap.size < w.heap.size + 1; omega)).trans (by simp)
        have q1 : (0 : Int) ≤ (k : Int) := by omega
        have q2 : (k : Int) < (l.length : Int) := by omega
        have hk2 := hK.out
        rw [List.drop_eq_getElem_cons hlt, List.all_cons] at hk2
        have HB := hid hB
        clear hK gl ha2 hB hBw
        generalize l[k] = z at *
        by_cases z1 : z < 1
        · have d1 : decide (z < 1) = true := decide_eq_true z1
          have hR2 : R = 2 := by
            rw [← hk2]
            unfold thereB
            rw [decide_eq_false (by omega : ¬ 1 ≤ z)]
            rfl
          subst hR2
          clear hk2
          go_upto_region 6 with fail
          go_quiet (fail)
          go_wp2
          go_ret
          exact ⟨rfl, bx_below (HB.out.trans (drewN_below _ _ _))⟩
        · have d1 : decide (z < 1) = false := decide_eq_false z1
          by_cases z2 : (ns.length : Int) < z
          · have d2 : decide ((ns.length : Int) < z) = true := decide_eq_true z2
            have hR2 : R = 2 := by
              rw [← hk2]
              unfold thereB
              rw [decide_eq_false (by omega : ¬ z ≤ (ns.length : Int)), Bool.and_false]
              rfl
            subst hR2
            clear hk2
            go_upto_region 6 with fail
            go_quiet (fail)
            go_wp2
            go_ret
            exact ⟨rfl, bx_below (HB.out.trans (drewN_below _ _ _))⟩
          · have d2 : decide ((ns.length : Int) < z) = false := decide_eq_false z2
            have ht : thereB ns.length z = true := by
              unfold thereB
              rw [decide_eq_true (by omega), decide_eq_true (by omega)]
              rfl
            rw [ht, Bool.true_and] at hk2
            have Hn := hid hk2
            clear hk2 ht
            go_upto_region 6 with fail
            go_quiet (fail)
            go_wp2
            go_roundw
            case rel => exact ⟨k + 1, by omega, by go_num, HB.out.trans (drewN_below _ _ _), Hn⟩
            case measure => simp [RowKit.intOf]; omega
      · have hRR : R = 0 := by
          rw [← hK.out, List.drop_eq_nil_of_le (by omega)]
          rfl
        subst hRR
        have HBw := hid hBw
        clear hK gl hB hBw
        go_wp2
        go_ret
        exact ⟨rfl, HBw.out⟩
end Go.Proofs.YticenjhhefiboaaGreat

namespace Go.Proofs.YticenjhhefiboaaGreat
open Go.RowKit Go.Lib Go.Shelf

theorem below_two9 (w : World) (o1 o2 : Obj) : Below w.heap.size w ((w.alloc o1).alloc o2) := ((Below.refl _ w).alloc (Nat.le_refl _) _).alloc (by simp) _
theorem boxesFT {w V : World} {f c d : Value} {t u : TypeId} (hb : Below (w.heap.size + 2) ((w.alloc (.cells #[f] t)).alloc (.cells #[c, d] u)) V) :
    V.cell? ⟨w.heap.size, 0, none⟩ = some f ∧ V.cell? ⟨w.heap.size + 1, 0, none⟩ = some c ∧ V.cell? ⟨w.heap.size + 1, 1, none⟩ = some d := by
  have hn : V.heap[w.heap.size + 1]? = some (.cells #[c, d] u) := by
    have := vheapW (w.alloc (.cells #[f] t)) (.cells #[c, d] u)
    rw [World.size_alloc] at this
    exact (hb.block (w.heap.size + 1) (by omega)).trans this
  have hk : ∀ j : Nat, V.cell? ⟨w.heap.size + 1, j, none⟩ = #[c, d][j]? := fun j => by
    unfold World.cell?
    simp only [hn]
    exact if_neg (by decide)
  exact ⟨(hb.cell (p := ⟨w.heap.size, 0, none⟩) (by show w.heap.size < w.heap.size + 2; omega)).trans (by simp), (hk 0).trans rfl, (hk 1).trans rfl⟩

section
variable {w : World} {o : Option Addr} {cap n k : Nat} {sh x : Int} {ro : Option Addr} {rc : Nat}
set_option maxRecDepth 100000 in
set_option maxHeartbeats 4000000 in
theorem refAccept_miss (M : Int) (h0 : (M == 0) = false)
    (HM : ∀ W : World, Below w.heap.size w W → Calls Tryz.prog 49 #[.agg #[.slice o n cap], .int .i64 x] W fun e w' => e = .returned (.int .i64 M) ∧ Below W.heap.size W w') :
    Calls Tryz.prog 22 #[.agg #[.slice o n cap], .agg #[.int .u32 sh, .slice ro k rc], .int .i64 x] w fun e w' => e = .returned (.tuple #[.int .u8 0, .int .i64 M]) ∧ Below w.heap.size w w' := by
  have HB0 := hid (below_two9 w (.cells #[.slice o n cap] 24) (.cells #[.int .u32 sh, .slice ro k rc] 28))
  have hM := HM _ HB0.out
  have h1 : (M != 0) = true := by rw [bne, h0]; rfl
  clear HM
  go_enter Tryz.func22, Tryz.ntmps22
  go_wp2_with fail
  refine hM.mono ?_
  rintro e v1 ⟨rfl, hb⟩
  have HB1 := hid (HB0.out.trans (hb.mono HB0.out.size))
  clear hM hb
  go_wp2
  go_ret2
  exact ⟨rfl, HB1.out⟩
set_option maxRecDepth 100000 in
set_option maxHeartbeats 4000000 in
theorem refAccept_filter (E : Int) (h0 : (E != 0) = true)
    (HM : ∀ W : World, Below w.heap.size w W → Calls Tryz.prog 49 #[.agg #[.slice o n cap], .int .i64 x] W fun e w' => e = .returned (.int .i64 0) ∧ Below W.heap.size W w')
    (HE : ∀ W : World, Below w.heap.size w W → Calls Tryz.prog 50 #[.agg #[.int .u32 sh, .slice ro k rc]] W fun e w' => e = .returned (.int .i64 E) ∧ Below W.heap.size W w') :
    Calls Tryz.prog 22 #[.agg #[.slice o n cap], .agg #[.int .u32 sh, .slice ro k rc], .int .i64 x] w fun e w' => e = .returned (.tuple #[.int .u8 0, .int .i64 E]) ∧ Below w.heap.size w w' := by
  have HB0 := hid (below_two9 w (.cells #[.slice o n cap] 24) (.cells #[.int .u32 sh, .slice ro k rc] 28))
  have hM := HM _ HB0.out
  have HE0 := hid HE
  clear HM HE
  go_enter Tryz.func22, Tryz.ntmps22
  go_wp2_with fail
  refine hM.mono ?_
  rintro e v1 ⟨rfl, hb⟩
  simp only [World.size_alloc] at hb
  obtain ⟨q0, q1, q2⟩ := boxesFT hb
  have HB1 := hid (HB0.out.trans (hb.mono (by omega)))
  have hE := HE0.out v1 HB1.out
  clear hM hb HE0
  go_wp2_with fail
  refine hE.mono ?_
  rintro e v2 ⟨rfl, hb⟩
  clear q0 q1 q2 hE
  go_wp2
  go_ret2
  exact ⟨rfl, HB1.out.trans (hb.mono HB1.out.size)⟩
set_option maxRecDepth 100000 in
set_option maxHeartbeats 4000000 in
theorem refAccept_good (v : Nat)
    (HM : ∀ W : World, Below w.heap.size w W → Calls Tryz.prog 49 #[.agg #[.slice o n cap], .int .i64 x] W fun e w' => e = .returned (.int .i64 0) ∧ Below W.heap.size W w')
    (HE : ∀ W : World, Below w.heap.size w W → Calls Tryz.prog 50 #[.agg #[.int .u32 sh, .slice ro k rc]] W fun e w' => e = .returned (.int .i64 0) ∧ Below W.heap.size W w')
    (HV : ∀ W : World, Below w.heap.size w W → Calls Tryz.prog 51 #[.agg #[.slice o n cap], .agg #[.int .u32 sh, .slice ro k rc], .int .i64 x] W fun e w' => e = .returned (.int .u8 (v : Int)) ∧ Below W.heap.size W w') :
    Calls Tryz.prog 22 #[.agg #[.slice o n cap], .agg #[.int .u32 sh, .slice ro k rc], .int .i64 x] w fun e w' => e = .returned (.tuple #[.int .u8 (v : Int), .int .i64 0]) ∧ Below w.heap.size w w' := by
  have HB0 := hid (below_two9 w (.cells #[.slice o n cap] 24) (.cells #[.int .u32 sh, .slice ro k rc] 28))
  have hM := HM _ HB0.out
  have HE0 := hid HE
  have HV0 := hid HV
  clear HM HE HV
  go_enter Tryz.func22, Tryz.ntmps22
  go_wp2_with fail
  refine hM.mono ?_
  rintro e v1 ⟨rfl, hb⟩
  simp only [World.size_alloc] at hb
  obtain ⟨q0, q1, q2⟩ := boxesFT hb
  have HX := hid hb
  have HB1 := hid (HB0.out.trans (hb.mono (by omega)))
  have hE := HE0.out v1 HB1.out
  clear hM hb HE0
  go_wp2_with fail
  refine hE.mono ?_
  rintro e v2 ⟨rfl, hb⟩
  clear q0 q1 q2 hE
  have hz := HX.out.size
  simp only [World.size_alloc] at hz
  obtain ⟨q0, q1, q2⟩ := boxesFT (HX.out.trans (hb.mono (by omega)))
  have HB2 := hid (HB1.out.trans (hb.mono HB1.out.size))
  have hV := HV0.out v2 HB2.out
  clear hb HX HV0 hz
  go_wp2_with fail
  refine hV.mono ?_
  rintro e v3 ⟨rfl, hb⟩
  clear q0 q1 q2 hV
  go_wp2
  go_ret2
  exact ⟨rfl, HB2.out.trans (hb.mono HB2.out.size)⟩
end
/-- What a filter says, and why not. -/
def acceptV (ns : List NodeD) (sh : Nat) (rules : List RuleD) (x : Int) : Nat := if wrongE ns [x] rules = 0 then verdictOf ns sh rules x else 0
theorem refAccept_any (o : Option Addr) (cap : Nat) (ns : List NodeD) (x : Int) (sh : Nat) (ro : Option Addr) (rc : Nat) (rules : List RuleD) (w : World) (hF : FRd w o cap ns) (hkl : ∀ (i : Nat) (hi : i < ns.length), ns[i].kids.length ≤ 1099511627776) (hal : ∀ (i : Nat) (hi : i < ns.length), ns[i].attrs.length ≤ 1099511627776) (hru : RdR w (.slice ro rules.length rc) rules) (hrl : rules.length ≤ 1099511627776) (hs : sh < 4294967296) :
    Calls Tryz.prog 22 #[.agg #[.slice o ns.length cap], .agg #[.int .u32 (sh : Int), .slice ro rules.length rc], .int .i64 x] w fun e w' => e = .returned (.tuple #[.int .u8 (acceptV ns sh rules x : Int), .int .i64 (wrongE ns [x] rules)]) ∧ Below w.heap.size w w' := by
  have hM : ∀ W : World, Below w.heap.size w W → _ := fun W hW => ref05Wrong_any o cap x ns W (hF.later hW) hkl hal
  have hE : ∀ W : World, Below w.heap.size w W → _ := fun W hW => refFilter_any sh ro rc rules W (hru.later hW) hrl
  unfold acceptV
  by_cases hm : missE ns [x] = 0
  · have hw : wrongE ns [x] rules = filterE rules := by unfold wrongE; rw [if_pos hm]
    rw [hm] at hM
    rw [hw]
    by_cases hf : filterE rules = 0
    · rw [if_pos hf]
      rw [hf] at hE ⊢
      obtain ⟨hR, hth, hfe⟩ := wrongE_ok (hw.trans hf)
      have hx := hth x (by simp)
      obtain ⟨j, hj, _⟩ := there_idx hx
      obtain ⟨b, off, rfl, hFA⟩ := hF.at_ (by omega)
      exact refAccept_good (verdictOf ns sh rules x) hM hE (fun W hW => refVerdict_any b off cap x sh ro rc rules ns W hR (hFA.later hW) hx hs (hru.later hW) (filterE_ok hfe).1)
    · rw [if_neg hf]
      exact refAccept_filter (filterE rules) (by rw [bne, beq_eq_false_iff_ne.2 hf]; rfl) hM hE
  · have hw : wrongE ns [x] rules = missE ns [x] := by unfold wrongE; rw [if_neg hm]
    rw [hw, if_neg hm]
    exact refAccept_miss (missE ns [x]) (beq_eq_false_iff_ne.2 hm) hM
end Go.Proofs.YticenjhhefiboaaGreat

namespace Go.Proofs.YticenjhhefiboaaGreat
open Go.RowKit Go.Lib Go.Shelf

set_option maxRecDepth 100000 in
set_option maxHeartbeats 4000000 in
theorem sameF_any (sh : Nat) (ro ro2 : Option Addr) (rc rc2 : Nat) (rules : List RuleD) (w : World) (h1 : RdR w (.slice ro rules.length rc) rules) (h2 : RdR w (.slice ro2 rules.length rc2) rules) (hrl : rules.length ≤ 1099511627776) :
    Calls Tryz.prog 23 #[.agg #[.int .u32 (sh : Int), .slice ro rules.length rc], .agg #[.int .u32 (sh : Int), .slice ro2 rules.length rc2]] w fun e w' => e = .returned (.bool true) ∧ Below w.heap.size w w' := by
  obtain ⟨hB0, t0, t1, sx⟩ := two_new w (.cells #[.int .u32 (sh : Int), .slice ro rules.length rc] 28) (.cells #[.int .u32 (sh : Int), .slice ro2 rules.length rc2] 28)
  obtain ⟨a0, a1⟩ := box2I t0
  obtain ⟨b0, b1⟩ := box2I t1
  have e3 : ((sh : Int) != (sh : Int)) = false := bne_self_eq_false _
  have e4 : ((rules.length : Int) != (rules.length : Int)) = false := bne_self_eq_false _
  obtain ⟨o1, c1, he1, hc1, g1⟩ := h1
  obtain ⟨rfl, rfl⟩ : o1 = ro ∧ c1 = rc := by
    simp only [Value.slice.injEq] at he1
    exact ⟨he1.1.symm, he1.2.2.symm⟩
  obtain ⟨o2, c2, he2, hc2, g2⟩ := h2
  obtain ⟨rfl, rfl⟩ : o2 = ro2 ∧ c2 = rc2 := by
    simp only [Value.slice.injEq] at he2
    exact ⟨he2.1.symm, he2.2.2.symm⟩
  have G1 := hid g1
  have G2 := hid g2
  have HB0 := hid hB0
  clear g1 g2 he1 he2 hB0 t0 t1 sx
  generalize hV : ((w.alloc (.cells #[.int .u32 (sh : Int), .slice o1 rules.length c1] 28)).alloc (.cells #[.int .u32 (sh : Int), .slice o2 rules.length c2] 28)) = V at *
  go_enter Tryz.func23, Tryz.ntmps23
  have HV := hid hV
  clear hV
  go_wp2
  go_loopw [5] (fun t wr => ∃ k m : Nat, k ≤ rules.length ∧ t = .int .i64 k ∧ wr = V.drewN m) (fun t _ => rules.length - (RowKit.intOf t).toNat)
  case atStart => exact ⟨0, 0, Nat.zero_le _, rfl, HV.out⟩
  case round =>
    obtain ⟨k, m, k1, rfl, rfl⟩ := hrel
    by_cases l1 : k < rules.length
    · obtain ⟨b1', off1, rfl, hlt1, ha1⟩ := G1.out (by omega)
      obtain ⟨b2', off2, rfl, hlt2, ha2⟩ := G2.out (by omega)
      obtain ⟨x0, x1, x2⟩ := (ha1 k l1).later hlt1 HB0.out
      obtain ⟨y0, y1, y2⟩ := (ha2 k l1).later hlt2 HB0.out
      have q1 : (0 : Int) ≤ (k : Int) := by omega
      have q2 : (k : Int) < (rules.length : Int) := by omega
      clear ha1 ha2 G1 G2
      generalize rules[k] = r at *
      obtain ⟨r0, r1, r2⟩ := r
      simp only at *
      go_upto_region 6 with fail
      go_quiet (fail)
      go_wp2
      go_roundw
      case rel => exact ⟨k + 1, m + nq, by omega, by go_num, by simp⟩
      case measure => simp [RowKit.intOf]; omega
    · have hkp : k = rules.length := by omega
      subst hkp
      clear G1 G2 l1 k1
      go_wp2
      go_ret
      exact ⟨rfl, HB0.out.trans ((drewN_below _ _ _).mono HB0.out.size)⟩
set_option maxRecDepth 100000 in
set_option maxHeartbeats 4000000 in
theorem sameI_any (root ref : Int) (bef : Bool) (sh : Nat) (ro ro2 : Option Addr) (rc rc2 : Nat) (rules : List RuleD) (w : World) (h1 : RdR w (.slice ro rules.length rc) rules) (h2 : RdR w (.slice ro2 rules.length rc2) rules) (hrl : rules.length ≤ 1099511627776) :
    Calls Tryz.prog 9 #[.agg #[.int .i64 root, .int .i64 ref, .bool bef, .int .u32 (sh : Int), .slice ro rules.length rc], .agg #[.int .i64 root, .int .i64 ref, .bool bef, .int .u32 (sh : Int), .slice ro2 rules.length rc2]] w fun e w' => e = .returned (.bool true) ∧ Below w.heap.size w w' := by
  obtain ⟨hB0, g0, g1, sx⟩ := two_new w (.cells #[.int .i64 root, .int .i64 ref, .bool bef, .int .u32 (sh : Int), .slice ro rules.length rc] 30) (.cells #[.int .i64 root, .int .i64 ref, .bool bef, .int .u32 (sh : Int), .slice ro2 rules.length rc2] 30)
  obtain ⟨⟨a0, a1, a2, a3, a4⟩, _⟩ := box5I g0
  obtain ⟨⟨b0, b1, b2, b3, b4⟩, _⟩ := box5I g1
  have e1 : (root == root) = true := beq_self_eq_true _
  have e2 : (ref == ref) = true := beq_self_eq_true _
  have e3 : (bef == bef) = true := beq_self_eq_true _
  have HS := hid (sameF_any sh ro ro2 rc rc2 rules ((w.alloc (.cells #[.int .i64 root, .int .i64 ref, .bool bef, .int .u32 (sh : Int), .slice ro rules.length rc] 30)).alloc (.cells #[.int .i64 root, .int .i64 ref, .bool bef, .int .u32 (sh : Int), .slice ro2 rules.length rc2] 30)) (h1.later hB0) (h2.later hB0) hrl)
  have HB0 := hid hB0
  clear h1 h2 hB0 g0 g1 sx
  go_enter Tryz.func9, Tryz.ntmps9
  go_upto_region 1 with fail
  generalize ((w.alloc (.cells #[.int .i64 root, .int .i64 ref, .bool bef, .int .u32 (sh : Int), .slice ro rules.length rc] 30)).alloc (.cells #[.int .i64 root, .int .i64 ref, .bool bef, .int .u32 (sh : Int), .slice ro2 rules.length rc2] 30)) = V at *
  go_wp2_with fail
  refine HS.out.mono ?_
  rintro e v1 ⟨rfl, hb⟩
  have HB := hid (HB0.out.trans (hb.mono HB0.out.size))
  clear hb HB0 HS a0 a1 a2 a3 a4 b0 b1 b2 b3 b4
  go_wp2
  go_ret
  exact ⟨rfl, HB.out⟩
theorem told_iter {ns : List NodeD} {root ref : Int} {rules : List RuleD} (h : wrongE ns [root] rules = 0) : iterC ns root ref rules = if toldE ns [ref] = 0 then (if containsD ns root ref then 0 else 2) else toldE ns [ref] := by
  obtain ⟨hR, ht, hf⟩ := wrongE_ok h
  have hr := (rightD_iff ns).2 hR
  have hrt := ht root (List.mem_singleton.2 rfl)
  unfold iterC iterE toldE containsD
  rw [hr, if_pos rfl, hrt, if_pos rfl, if_pos hf, if_pos rfl]
  cases hx : thereB ns.length ref with
  | false => simp [hx]
  | true => simp [hx]
theorem wrong_ne {ns : List NodeD} {root ref : Int} {rules : List RuleD} (h : wrongE ns [root] rules ≠ 0) : iterC ns root ref rules = wrongE ns [root] rules := by
  revert h
  unfold wrongE missE iterC iterE
  cases hr : rightD ns with
  | false => intro _; rfl
  | true =>
    cases ht : thereB ns.length root with
    | false => intro _; simp [ht]
    | true =>
      intro h
      have hne : filterE rules ≠ 0 := by simpa [ht] using h
      simp [ht, hne]
set_option maxRecDepth 100000 in
set_option maxHeartbeats 8000000 in
theorem refICheck_any (o : Option Addr) (cap : Nat) (ns : List NodeD) (root ref : Int) (bef : Bool) (sh : Nat) (ro : Option Addr) (rc : Nat) (rules : List RuleD) (w : World) (hF : FRd w o cap ns) (hkl : ∀ (i : Nat) (hi : i < ns.length), ns[i].kids.length ≤ 1099511627776) (hal : ∀ (i : Nat) (hi : i < ns.length), ns[i].attrs.length ≤ 1099511627776) (hru : RdR w (.slice ro rules.length rc) rules) (hrl : rules.length ≤ 1099511627776) (hs : sh < 4294967296) :
    Calls Tryz.prog 11 #[.agg #[.slice o ns.length cap], .agg #[.int .i64 root, .int .i64 ref, .bool bef, .int .u32 (sh : Int), .slice ro rules.length rc]] w fun e w' => e = .returned (.int .i64 (iterC ns root ref rules)) ∧ Below w.heap.size w w' := by
  have HA : Hid (∀ W : World, Below w.heap.size w W → _) := fun W hW => refAccept_any o cap ns root sh ro rc rules W (hF.later hW) hkl hal (hru.later hW) hrl hs
  have HFt : Hid (∀ (v : Value) (W : World), Below w.heap.size w W → RdI W v [ref] → _) := fun v W hW hv => refFault_any o cap v [ref] ns W (hF.later hW) hkl hal hv (by simp)
  obtain ⟨bx, g0, g1, sx⟩ := two_new w (.cells #[.slice o ns.length cap] 24) (.cells #[.int .i64 root, .int .i64 ref, .bool bef, .int .u32 (sh : Int), .slice ro rules.length rc] 30)
  have HB0 := hid bx
  have H0 := hid g0
  have H1 := hid g1
  have c0 := (box_cell_l g0).1
  obtain ⟨⟨i0, i1, i2, i3, i4⟩, _⟩ := box5I g1
  by_cases hc : wrongE ns [root] rules = 0
  · rw [told_iter (ref := ref) hc]
    rw [hc] at HA
    obtain ⟨hR, hrt, _⟩ := wrongE_ok hc
    generalize acceptV ns sh rules root = AV at *
    by_cases h2 : toldE ns [ref] = 0
    · rw [h2] at HFt
      rw [if_pos h2]
      have hrf : thereB ns.length ref = true := by
        have hr := (rightD_iff ns).2 hR
        unfold toldE at h2
        rw [hr, if_pos rfl] at h2
        cases hx : thereB ns.length ref with
        | true => rfl
        | false => simp [hx] at h2
      obtain ⟨b, off, rfl, hFA⟩ := hF.at_ (by obtain ⟨i, hi, _⟩ := there_idx hrf; omega)
      have HCn : Hid (∀ W : World, Below w.heap.size w W → _) := fun W hW => refContains_any b off cap root ref ns W hR (hFA.later hW) hrf
      clear bx g0 g1 sx hF hkl hal hru hc h2 hrf hFA hR hrt
      generalize containsD ns root ref = CD at *
      go_enter Tryz.func11, Tryz.ntmps11
      go_upto_region 1 with fail
      generalize ((w.alloc (.cells #[.slice (some ⟨b, off, none⟩) ns.length cap] 24)).alloc (.cells #[.int .i64 root, .int .i64 ref, .bool bef, .int .u32 (sh : Int), .slice ro rules.length rc] 30)) = W0 at *
      go_wp2_with fail
      refine (HA.out W0 HB0.out).mono ?_
      rintro e v1 ⟨rfl, hb⟩
      have M0 := hid (keep_blk hb H0.out)
      have M1 := hid (keep_blk hb H1.out)
      have d0 := (box_cell_l M0.out).1
      obtain ⟨⟨j0, j1, j2, j3, j4⟩, _⟩ := box5I M1.out
      have HV := hid (HB0.out.trans (hb.mono HB0.out.size))
      have n1 := heap_new v1 (.cells #[.int .i64 ref] 3)
      have b1 : Below v1.heap.size v1 (v1.alloc (.cells #[.int .i64 ref] 3)) := (Below.refl _ v1).alloc (Nat.le_refl _) _
      have hv1 : RdI (v1.alloc (.cells #[.int .i64 ref] 3)) (.slice (some ⟨v1.heap.size, 0, none⟩) 1 1) [ref] := ⟨_, 1, rfl, Nat.le_refl _, fun _ => ⟨v1.heap.size, 0, rfl, heap_lt n1, fun q hq => by
        match q, hq with
        | 0, _ => rw [cell_of_heap n1]; rfl⟩⟩
      have HV1 := hid (HV.out.trans (b1.mono HV.out.size))
      have L0 := hid (keep_blk b1 M0.out)
      have L1 := hid (keep_blk b1 M1.out)
      have hFT := HFt.out (.slice (some ⟨v1.heap.size, 0, none⟩) 1 1) _ HV1.out hv1
      clear hb HA HB0 H0 H1 c0 i0 i1 i2 i3 i4 M0 M1 HV n1 b1 hv1 HFt
      go_wp2_with fail
      refine hFT.mono ?_
      rintro e v2 ⟨rfl, hb⟩
      have e0 := (box_cell_l (keep_blk hb L0.out)).1
      obtain ⟨⟨k0, k1, k2, k3, k4⟩, _⟩ := box5I (keep_blk hb L1.out)
      have HV2 := hid (HV1.out.trans (hb.mono HV1.out.size))
      clear hb hFT HV1 L0 L1 d0 j0 j1 j2 j3 j4
      go_wp2_with fail
      refine (HCn.out v2 HV2.out).mono ?_
      rintro e v3 ⟨rfl, hb⟩
      have HV3 := hid (HV2.out.trans (hb.mono HV2.out.size))
      clear hb HCn HV2 e0 k0 k1 k2 k3 k4
      cases CD with
      | true =>
        go_wp2
        go_ret
        exact ⟨rfl, HV3.out⟩
      | false =>
        go_wp2
        go_ret
        exact ⟨rfl, HV3.out⟩
    · rw [if_neg h2]
      have n2 : (toldE ns [ref] == 0) = false := beq_eq_false_iff_ne.2 h2
      clear bx g0 g1 sx hF hkl hal hru hc h2 hR hrt
      generalize toldE ns [ref] = TE at *
      go_enter Tryz.func11, Tryz.ntmps11
      go_upto_region 1 with fail
      generalize ((w.alloc (.cells #[.slice o ns.length cap] 24)).alloc (.cells #[.int .i64 root, .int .i64 ref, .bool bef, .int .u32 (sh : Int), .slice ro rules.length rc] 30)) = W0 at *
      go_wp2_with fail
      refine (HA.out W0 HB0.out).mono ?_
      rintro e v1 ⟨rfl, hb⟩
      have d0 := (box_cell_l (keep_blk hb H0.out)).1
      obtain ⟨⟨j0, j1, j2, j3, j4⟩, _⟩ := box5I (keep_blk hb H1.out)
      have HV := hid (HB0.out.trans (hb.mono HB0.out.size))
      have n1 := heap_new v1 (.cells #[.int .i64 ref] 3)
      have b1 : Below v1.heap.size v1 (v1.alloc (.cells #[.int .i64 ref] 3)) := (Below.refl _ v1).alloc (Nat.le_refl _) _
      have hv1 : RdI (v1.alloc (.cells #[.int .i64 ref] 3)) (.slice (some ⟨v1.heap.size, 0, none⟩) 1 1) [ref] := ⟨_, 1, rfl, Nat.le_refl _, fun _ => ⟨v1.heap.size, 0, rfl, heap_lt n1, fun q hq => by
        match q, hq with
        | 0, _ => rw [cell_of_heap n1]; rfl⟩⟩
      have HV1 := hid (HV.out.trans (b1.mono HV.out.size))
      have hFT := HFt.out (.slice (some ⟨v1.heap.size, 0, none⟩) 1 1) _ HV1.out hv1
      clear hb HA HB0 H0 H1 c0 i0 i1 i2 i3 i4 HV n1 b1 hv1 HFt
      go_wp2_with fail
      refine hFT.mono ?_
      rintro e v2 ⟨rfl, hb⟩
      have HV2 := hid (HV1.out.trans (hb.mono HV1.out.size))
      clear hb hFT HV1 d0 j0 j1 j2 j3 j4
      go_wp2
      go_ret
      exact ⟨rfl, HV2.out⟩
  · rw [wrong_ne hc]
    have n0 : (wrongE ns [root] rules != 0) = true := by rw [bne, beq_eq_false_iff_ne.2 hc]; rfl
    clear bx g0 g1 sx hF hkl hal hru hc HFt
    generalize acceptV ns sh rules root = AV at *
    generalize wrongE ns [root] rules = E at *
    go_enter Tryz.func11, Tryz.ntmps11
    go_upto_region 1 with fail
    generalize ((w.alloc (.cells #[.slice o ns.length cap] 24)).alloc (.cells #[.int .i64 root, .int .i64 ref, .bool bef, .int .u32 (sh : Int), .slice ro rules.length rc] 30)) = W0 at *
    go_wp2_with fail
    refine (HA.out W0 HB0.out).mono ?_
    rintro e v1 ⟨rfl, hb⟩
    have HV := hid (HB0.out.trans (hb.mono HB0.out.size))
    clear hb HA HB0 H0 H1 c0 i0 i1 i2 i3 i4
    go_wp2
    go_ret
    exact ⟨rfl, HV.out⟩
end Go.Proofs.YticenjhhefiboaaGreat

