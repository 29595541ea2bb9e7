/- The reference of walk: why a filter is none, what is asked of a node (Wrong, canopyref05.Wrong, Accept). -/
/- The reference of order: Fault. -/
/- The reference of walk: why a walker is none (wrong). -/
import Derived.Test.YteflknfejjdkfabGreatCFWk3FWm5
import Derived.Test.YteflknfejjdkfabGreatCFWkGFWkN
import Derived.Test.YteflknfejjdkfabGreatCFRMade
import Derived.Test.YteflknfejjdkfabGreatCFUpFList
namespace Go.Proofs.YteflknfejjdkfabGreat
open Go.RowKit Go.Lib

theorem mute_bits (v : Nat) : (decide ((v : Int) < 1) || decide (3 < (v : Int))) = (!(v == 1) && !(v == 2) && !(v == 3)) := by
  by_cases h1 : v = 1
  · subst h1; rfl
  · by_cases h2 : v = 2
    · subst h2; rfl
    · by_cases h3 : v = 3
      · subst h3; rfl
      · rw [beq_eq_false_iff_ne.2 h1, beq_eq_false_iff_ne.2 h2, beq_eq_false_iff_ne.2 h3]
        by_cases h0 : (v : Int) < 1
        · rw [decide_eq_true h0]; rfl
        · rw [decide_eq_false h0, decide_eq_true (by omega : 3 < (v : Int))]; rfl

set_option maxRecDepth 100000 in
set_option maxHeartbeats 4000000 in
theorem refFilter_any (sh : Nat) (ro : Option Addr) (rc : Nat) (rules : List RuleD) (W : World) (hr : RdR W (.slice ro rules.length rc) rules) (hrl : rules.length ≤ 1099511627776) :
    Calls Tryz.prog 31 #[.agg #[.int .u32 (sh : Int), .slice ro rules.length rc]] W fun e w' => e = .returned (.int .i64 (filterE rules)) ∧ Below W.heap.size W w' := by
  have HB0 := hid ((Below.refl W.heap.size W).alloc (Nat.le_refl _) (.cells #[.int .u32 (sh : Int), .slice ro rules.length rc] 28))
  unfold filterE
  by_cases h64 : 64 < rules.length
  · rw [if_pos h64]
    have e1 : (64 : Int) < (rules.length : Int) := by omega
    clear hr
    go_enter Tryz.func31, Tryz.ntmps31
    go_wp2
    go_ret
    exact ⟨rfl, HB0.out⟩
  · rw [if_neg h64]
    have e1 : ¬ (64 : Int) < (rules.length : Int) := by omega
    obtain ⟨R, hR⟩ : ∃ R, rules.any mute = R := ⟨_, rfl⟩
    rw [hR]
    have HR : Hid ((rules.drop 0).any mute = R) := hR
    obtain ⟨ro', rc', hro, hcap, g⟩ := hr
    obtain ⟨rfl, rfl⟩ : ro' = ro ∧ rc' = rc := by
      simp only [Value.slice.injEq] at hro
      exact ⟨hro.1.symm, hro.2.2.symm⟩
    have G := hid g
    clear hR g hro h64
    go_enter Tryz.func31, Tryz.ntmps31
    go_wp2
    go_loopw [12] (fun t wr => ∃ k : Nat, k ≤ rules.length ∧ t = .int .i64 k ∧ Hid (Below W.heap.size W wr) ∧ Hid ((rules.drop k).any mute = R)) (fun t _ => rules.length - (RowKit.intOf t).toNat)
    case atStart => exact ⟨0, Nat.zero_le _, rfl, HB0, HR⟩
    case round =>
      obtain ⟨k, k1, rfl, hB, hK⟩ := hrel
      by_cases hlt : k < rules.length
      · obtain ⟨rb, roff, rfl, rlt, ra⟩ := G.out (by omega)
        obtain ⟨r0, r1, r2⟩ := (ra k hlt).later rlt hB.out
        have p1 : (0 : Int) ≤ (k : Int) := by omega
        have p2 : (k : Int) < (rules.length : Int) := by omega
        have hkk := hK.out
        rw [List.drop_eq_getElem_cons hlt, List.any_cons] at hkk
        have Hk := hid hkk
        clear hkk hK ra G HR
        generalize rules[k] = r at *
        obtain ⟨y0, y1, y2⟩ := r
        have hm : mute ⟨y0, y1, y2⟩ = (decide ((y2 : Int) < 1) || decide (3 < (y2 : Int))) := (mute_bits y2).symm
        rw [hm] at Hk
        simp only at *
        have HB2 := hid (hB.out.alloc hB.out.size (.cells #[.int .u8 (y0 : Int), .string y1, .int .u8 (y2 : Int)] 39))
        clear hm
        by_cases a1 : (y2 : Int) < 1
        · have hRt : R = true := by rw [← Hk.out, decide_eq_true a1]; rfl
          subst hRt
          clear Hk
          go_wp2
          go_ret
          exact ⟨rfl, HB2.out⟩
        · by_cases a2 : 3 < (y2 : Int)
          · have hRt : R = true := by rw [← Hk.out, decide_eq_true a2, Bool.or_true]; rfl
            subst hRt
            clear Hk
            go_wp2
            go_ret
            exact ⟨rfl, HB2.out⟩
          · have Hn : Hid ((rules.drop (k + 1)).any mute = R) := by
              have := Hk.out
              rw [decide_eq_false a1, decide_eq_false a2] at this
              exact this
            clear Hk
            go_wp2
            go_roundw
            case rel => exact ⟨k + 1, by omega, by go_num, HB2, Hn⟩
            case measure => simp [RowKit.intOf]; omega
      · have hRf : R = false := by
          rw [← hK.out, List.drop_eq_nil_of_le (by omega)]
          rfl
        subst hRf
        clear hK G HR
        go_wp2
        go_ret
        exact ⟨rfl, hB.out⟩

theorem box1f {w V : World} {a : Value} {t : TypeId} (hb : Below (w.alloc (.cells #[a] t)).heap.size (w.alloc (.cells #[a] t)) V) : V.cell? ⟨w.heap.size, 0, none⟩ = some a :=
  (hb.cell (p := ⟨w.heap.size, 0, none⟩) (by simp)).trans (by simp)
theorem missE_one {ns : List NodeD} {x : Int} : missE ns [x] = if rightD ns then (if thereB ns.length x then 0 else 2) else 5 := by
  unfold missE
  simp only [List.all_cons, List.all_nil, Bool.and_true]

end Go.Proofs.YteflknfejjdkfabGreat

namespace Go.Proofs.YteflknfejjdkfabGreat
open Go.RowKit Go.Lib Go.Shelf

set_option maxRecDepth 100000 in
set_option maxHeartbeats 4000000 in
theorem refFault_any (o : Option Addr) (cap : Nat) (v : Value) (l : List Int) (ns : List NodeD) (w : World) (hF : FRd w o cap ns) (hkl : ∀ (i : Nat) (hi : i < ns.length), ns[i].kids.length ≤ 1099511627776) (hal : ∀ (i : Nat) (hi : i < ns.length), ns[i].attrs.length ≤ 1099511627776) (hv : RdI w v l) (hl : l.length ≤ 1099511627776) :
    Calls Tryz.prog 30 #[.agg #[.slice o ns.length cap], v] w fun e w' => e = .returned (.int .i64 (toldE ns l)) ∧ Below w.heap.size w w' := by
  have HRt : Hid (∀ (W : World), Below w.heap.size w W → _) := fun W hW => refRight_any o cap ns W (hF.later hW) hkl hal
  obtain ⟨ol, cl, rfl, hcl, gl⟩ := hv
  have hle := hF.len
  have hB0 : Below (w.heap.size + 1) (w.alloc (.cells #[.slice o ns.length cap] 24)) (w.alloc (.cells #[.slice o ns.length cap] 24)) := Below.refl _ _
  have hRt := HRt.out _ (bx_below hB0)
  have HB0 := hid hB0
  clear HRt hF hkl hal hB0
  unfold toldE
  cases hr : rightD ns with
  | false =>
    rw [if_neg Bool.false_ne_true]
    rw [hr] at hRt
    go_enter Tryz.func30, Tryz.ntmps30
    go_wp2_with fail
    refine hRt.mono ?_
    rintro e v1 ⟨rfl, hb1⟩
    have HB1 := hid (HB0.out.trans (hb1.mono (by simp)))
    clear hRt hb1
    go_wp2
    go_ret
    exact ⟨rfl, bx_below HB1.out⟩
  | true =>
    rw [if_pos rfl]
    rw [hr] at hRt
    obtain ⟨R, hRR⟩ : ∃ R : Int, (if l.all (thereB ns.length) = true then (0 : Int) else 2) = R := ⟨_, rfl⟩
    rw [hRR]
    have HR : Hid ((if (l.drop 0).all (thereB ns.length) = true then (0 : Int) else 2) = R) := hRR
    clear hRR hr
    go_enter Tryz.func30, Tryz.ntmps30
    go_wp2_with fail
    refine hRt.mono ?_
    rintro e v1 ⟨rfl, hb1⟩
    have HB1 := hid (HB0.out.trans (hb1.mono (by simp)))
    clear hRt hb1 HB0
    go_wp2
    go_loopw [5] (fun t wr => ∃ k : Nat, k ≤ l.length ∧ t = .int .i64 k ∧ Below (w.heap.size + 1) (w.alloc (.cells #[.slice o ns.length cap] 24)) wr ∧ Hid ((if (l.drop k).all (thereB ns.length) = true then (0 : Int) else 2) = R)) (fun t _ => l.length - (RowKit.intOf t).toNat)
    case atStart => exact ⟨0, Nat.zero_le _, rfl, HB1.out, HR⟩
    case round =>
      obtain ⟨k, hk, rfl, hB, hK⟩ := hrel
      clear HR HB1
      have hBw := bx_below hB
      by_cases hlt : k < l.length
      · obtain ⟨b2, off2, rfl, hlt2, ha2⟩ := gl (by omega)
        have x1 := (hBw.cell (p := ⟨b2, off2 + k, none⟩) hlt2).trans (ha2 k hlt)
        have cb : wr.cell? ⟨w.heap.size, 0, none⟩ = some (.slice o ns.length cap) := (hB.cell (p := ⟨w.heap.size, 0, none⟩) (by show w.heap.size < w.heap.size + 1; omega)).trans (by simp)
        have q1 : (0 : Int) ≤ (k : Int) := by omega
        have q2 : (k : Int) < (l.length : Int) := by omega
        have hk2 := hK.out
        rw [List.drop_eq_getElem_cons hlt, List.all_cons] at hk2
        have HB := hid hB
        clear hK gl ha2 hB hBw
        generalize l[k] = z at *
        by_cases z1 : z < 1
        · have d1 : decide (z < 1) = true := decide_eq_true z1
          have hR2 : R = 2 := by
            rw [← hk2]
            unfold thereB
            rw [decide_eq_false (by omega : ¬ 1 ≤ z)]
            rfl
          subst hR2
          clear hk2
          go_upto_region 6 with fail
          go_quiet (fail)
          go_wp2
          go_ret
          exact ⟨rfl, bx_below (HB.out.trans (drewN_below _ _ _))⟩
        · have d1 : decide (z < 1) = false := decide_eq_false z1
          by_cases z2 : (ns.length : Int) < z
          · have d2 : decide ((ns.length : Int) < z) = true := decide_eq_true z2
            have hR2 : R = 2 := by
              rw [← hk2]
              unfold thereB
              rw [decide_eq_false (by omega : ¬ z ≤ (ns.length : Int)), Bool.and_false]
              rfl
            subst hR2
            clear hk2
            go_upto_region 6 with fail
            go_quiet (fail)
            go_wp2
            go_ret
            exact ⟨rfl, bx_below (HB.out.trans (drewN_below _ _ _))⟩
          · have d2 : decide ((ns.length : Int) < z) = false := decide_eq_false z2
            have ht : thereB ns.length z = true := by
              unfold thereB
              rw [decide_eq_true (by omega), decide_eq_true (by omega)]
              rfl
            rw [ht, Bool.true_and] at hk2
            have Hn := hid hk2
            clear hk2 ht
            go_upto_region 6 with fail
            go_quiet (fail)
            go_wp2
            go_roundw
            case rel => exact ⟨k + 1, by omega, by go_num, HB.out.trans (drewN_below _ _ _), Hn⟩
            case measure => simp [RowKit.intOf]; omega
      · have hRR : R = 0 := by
          rw [← hK.out, List.drop_eq_nil_of_le (by omega)]
          rfl
        subst hRR
        have HBw := hid hBw
        clear hK gl hB hBw
        go_wp2
        go_ret
        exact ⟨rfl, HBw.out⟩
end Go.Proofs.YteflknfejjdkfabGreat

namespace Go.Proofs.YteflknfejjdkfabGreat
open Go.RowKit Go.Lib

theorem two_rdIW (W : World) (x y : Int) (t : TypeId) : RdI (W.alloc (.cells #[.int .i64 x, .int .i64 y] t)) (.slice (some ⟨W.heap.size, 0, none⟩) 2 2) [x, y] :=
  ⟨_, 2, rfl, Nat.le_refl _, fun _ => ⟨_, _, rfl, by simp, fun j hj => by
    match j, hj with
    | 0, _ => simp
    | 1, _ => simp⟩⟩

set_option maxRecDepth 100000 in
set_option maxHeartbeats 4000000 in
theorem refwrong_any (o : Option Addr) (cap : Nat) (ns : List NodeD) (root cur : Int) (sh : Nat) (ro : Option Addr) (rc : Nat) (rules : List RuleD) (w : World) (hF : FRd w o cap ns) (hkl : ∀ (i : Nat) (hi : i < ns.length), ns[i].kids.length ≤ 1099511627776) (hal : ∀ (i : Nat) (hi : i < ns.length), ns[i].attrs.length ≤ 1099511627776) (hru : RdR w (.slice ro rules.length rc) rules) (hrl : rules.length ≤ 1099511627776) :
    Calls Tryz.prog 16 #[.agg #[.slice o ns.length cap], .agg #[.int .i64 root, .int .i64 cur, .int .u32 (sh : Int), .slice ro rules.length rc]] w fun e w' => e = .returned (.int .i64 (wrongE ns [root, cur] rules)) ∧ Below w.heap.size w w' := by
  have hA0 := AtF.first w (.slice o ns.length cap) (.int .i64 root) (.int .i64 cur) (.int .u32 (sh : Int)) (.slice ro rules.length rc)
  have hA1 := hA0.step ((Below.refl _ _).alloc (Nat.le_refl _) (.cells #[.int .i64 root, .int .i64 cur] 3))
  have kr := two_rdIW ((w.alloc (.cells #[.slice o ns.length cap] 24)).alloc (.cells #[.int .i64 root, .int .i64 cur, .int .u32 (sh : Int), .slice ro rules.length rc] 30)) root cur 3
  simp only [World.size_alloc] at kr
  have hW := refFault_any o cap _ [root, cur] ns _ (hF.later hA1.below) hkl hal kr (by simp)
  have HE : Hid (∀ V : World, Below w.heap.size w V → _) := fun V hV => refFilter_any sh ro rc rules V (hru.later hV) hrl
  have ht : toldE ns [root, cur] = missE ns [root, cur] := rfl
  rw [ht] at hW
  clear hF hkl hal hru kr ht
  unfold wrongE
  generalize missE ns [root, cur] = M at *
  generalize filterE rules = E at *
  by_cases h0 : M = 0
  · subst h0
    rw [if_pos rfl]
    go_enter Tryz.func16, Tryz.ntmps16
    go_wp2_with fail
    refine hW.mono ?_
    rintro e v1 ⟨rfl, hb⟩
    have hA2 := hA1.step hb
    clear hW hb hA1 hA0
    obtain ⟨q0, q1, q2, q3, q4⟩ := hA2.cells
    have hE := HE.out v1 hA2.below
    go_wp2_with fail
    refine hE.mono ?_
    rintro e v2 ⟨rfl, hb⟩
    go_wp2
    go_ret
    exact ⟨rfl, (hA2.step hb).below⟩
  · rw [if_neg h0]
    have g0 : (M == 0) = false := beq_eq_false_iff_ne.2 h0
    clear HE
    go_enter Tryz.func16, Tryz.ntmps16
    go_wp2_with fail
    refine hW.mono ?_
    rintro e v1 ⟨rfl, hb⟩
    have hA2 := hA1.step hb
    clear hW hb hA1 hA0
    go_wp2
    go_ret
    exact ⟨rfl, hA2.below⟩
end Go.Proofs.YteflknfejjdkfabGreat
