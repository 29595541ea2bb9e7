/- The reference of abort: Copy. -/
import Derived.Test.YtlibjjmaicgemaaAbFF
import Derived.Test.YtlibjjmaicgemaaAbGG
namespace Go.Proofs.Ytlibjjmaicgemaa
open Go.RowKit Go.Lib Go.Shelf

theorem size_setS (W : World) (p : Addr) (x : Value) : (W.setCell p x).heap.size = W.heap.size := by
  show (W.heap.modify _ _).size = _
  exact Array.size_modify
theorem grown_setS (W : World) (b j : Nat) (v : Value) : W.grownBy (W.setCell ⟨b, j, none⟩ v) (some b) :=
  ⟨rfl, rfl, rfl, Nat.le_of_eq (size_setS W _ v).symm, fun k _ hk => Below.heap_setCell _ _ _ k (fun e => hk (by rw [e]))⟩
theorem own_off {W : World} {base size n B j : Nat} {e : TypeId} {v : Value} {xs : List Value} (h : W.ownsRow base e size v n xs) (hne : v.ownBlock ≠ some B) (x : Value) : (W.setCell ⟨B, j, none⟩ x).ownsRow base e size v n xs :=
  h.kept (grown_setS W B j x) (.inr hne)
/-- A store beside signals of one's own. -/
theorem OwnS.off {W w0 : World} {base B j : Nat} {v : Value} {l : List SigV} (h : OwnS W w0 base v l l.length) (hv : v.ownBlock ≠ some B) (hl : ∀ (j : Nat) (hj : j < l.length), ∀ b q, (side l[j] b).ownBlock = some q → q < B) (x : Value) : OwnS (W.setCell ⟨B, j, none⟩ x) w0 base v l l.length :=
  ⟨own_off h.row hv x, fun i hi hk => ⟨own_off (h.own i hi hk).1 (fun e => by have := hl i hi false B e; omega) x, own_off (h.own i hi hk).2 (fun e => by have := hl i hi true B e; omega) x⟩, h.old, h.apart⟩
/-- append([]int{}, us...) -/
theorem app_own (W : World) (v : Value) (us : List Int) (hr : RdI W v us) (hn : us.length ≤ 1099511627776) :
    ∃ o c W', (Builtin.append_ #[23, 23] 23 #[.slice (some ⟨W.heap.size, 0, none⟩) 0 0, v]).run Try.prog (W.alloc (.cells #[] 3)) = .ok (.slice o us.length c) W' ∧ W'.ownsRow W.heap.size 3 1 (.slice o us.length c) us.length (us.map (Value.int .i64)) ∧ Below W.heap.size W W' := by
  have hb0 : Below W.heap.size W (W.alloc (.cells #[] 3)) := (Below.refl _ W).alloc (Nat.le_refl _) _
  obtain ⟨v', W', h1, h2, h3⟩ := run_appendIs (W.alloc (.cells #[] 3)) W.heap.size (.slice (some ⟨W.heap.size, 0, none⟩) 0 0) v [] us 23 (own_emptyI (heap_new W _) _ (Nat.le_refl _)) hb0.size (hr.later hb0) (by simpa using hn)
  rw [List.nil_append] at h2
  obtain ⟨o, c, rfl⟩ := own_shape h2
  exact ⟨o, c, W', h1, h2, hb0.trans (below_own (own_emptyI (heap_new W _) W.heap.size (Nat.le_refl _)) hb0.size h3)⟩
theorem box3 {W : World} {B : Nat} {a b c d e u : Value} (h : W.heap[B]? = some (.cells #[a, b, c, d, e] 42)) : (W.setCell ⟨B, 3, none⟩ u).heap[B]? = some (.cells #[a, b, c, u, e] 42) := set_boxA h
theorem box4 {W : World} {B : Nat} {a b c d e u : Value} (h : W.heap[B]? = some (.cells #[a, b, c, d, e] 42)) : (W.setCell ⟨B, 4, none⟩ u).heap[B]? = some (.cells #[a, b, c, d, u] 42) := set_boxA h
set_option maxRecDepth 100000 in
set_option maxHeartbeats 8000000 in
theorem copyR_any (v : Value) (ls : List SigD) (w : World) (hr : RdS w v ls) (hn : ls.length ≤ 1099511627776) (hsm : SmallS ls) :
    Calls Try.prog 7 #[v] w fun e w' => ∃ o c l, e = .returned (.slice o ls.length c) ∧ l.map (·.1) = ls ∧ OwnS w' w w.heap.size (.slice o ls.length c) l l.length ∧ Below w.heap.size w w' := by
  obtain ⟨o, c, rfl, _, g⟩ := hr
  have HSm := hid hsm
  have G := hid g
  clear hsm g
  go_enter Try.func7, Try.ntmps7
  go_wp2
  go_loopw [3, 8] (fun u t wr => ∃ (k : Nat) (l : List SigV) (o1 : Option Addr) (c1 : Nat), k ≤ ls.length ∧ u = .slice o1 k c1 ∧ t = .int .i64 k ∧ Hid (l.map (·.1) = ls.take k) ∧ Hid (OwnS wr w w.heap.size (.slice o1 k c1) l l.length) ∧ Hid (Below w.heap.size w wr)) (fun _ t _ => ls.length - (RowKit.intOf t).toNat)
  case atStart => exact ⟨0, [], none, 0, Nat.zero_le _, rfl, rfl, by simp [Hid], own_noneS _ _ _, Below.refl _ _⟩
  case round =>
    obtain ⟨k, l, o1, c1, k1, rfl, rfl, hM, hO, hB⟩ := hrel
    have hlk : l.length = k := by
      have := congrArg List.length hM.out
      rw [List.length_map, List.length_take] at this
      omega
    by_cases hlt : k < ls.length
    · obtain ⟨b, off, rfl, hltb, ha⟩ := G.out (by omega)
      obtain ⟨sv, dv, X, rs, rd⟩ := ha k hlt
      have X' := X.later hltb hB.out
      have RS := hid rs
      have RD := hid rd
      obtain ⟨so, sc, rfl, _⟩ := rs
      obtain ⟨sd, dc, rfl, _⟩ := rd
      have x0 := X'.ab
      have x1 := X'.re
      have x2 := X'.dep
      have x3 := X'.src
      have x4 := X'.dts
      have hsl := HSm.out ls[k] (List.getElem_mem hlt)
      have q1 : (0 : Int) ≤ (k : Int) := by omega
      have q2 : (k : Int) < (ls.length : Int) := by omega
      have HMk : Hid (l.map (·.1) ++ [ls[k]] = ls.take (k + 1)) := by
        show _ = _
        rw [hM.out, List.take_succ_eq_append_getElem hlt]
      have Hold : Hid (∀ (j : Nat) (hj : j < l.length), ∀ b q, (side l[j] b).ownBlock = some q → q < wr.heap.size) := fun j hj b q hq => (hO.out.lt j hj hj b q hq).2
      have HvB : Hid ((Value.slice o1 k c1).ownBlock ≠ some wr.heap.size) := fun e => by have := (hO.out.row.lt _ e).2; omega
      have Hlk := hid hlk
      clear ha G X X' HSm hM hlk
      generalize ls[k] = a at *
      obtain ⟨ab, re, dep, src, dts⟩ := a
      dsimp only at *
      have hba : Below wr.heap.size wr (wr.alloc (.cells #[.bool ab, .int .i64 re, .bool dep, .slice so src.length sc, .slice sd dts.length dc] 42)) := (Below.refl _ wr).alloc (Nat.le_refl _) _
      have HX1 := hid (heap_new wr (.cells #[.bool ab, .int .i64 re, .bool dep, .slice so src.length sc, .slice sd dts.length dc] 42))
      have HO1 := hid (hO.out.later hba)
      have HB1 := hid (hB.out.trans (hba.mono hB.out.size))
      have HwB := hid hB.out.size
      clear hba hO hB
      go_upto_region 5 with fail
      clear x0 x1 x2 x3 x4
      generalize wr.alloc (.cells #[.bool ab, .int .i64 re, .bool dep, .slice so src.length sc, .slice sd dts.length dc] 42) = W1 at *
      generalize wr.heap.size = Bb at *
      obtain ⟨o2, c2, W2, hap1, how1, hb1⟩ := app_own W1 _ src (RS.out.later HB1.out) hsl.1
      have HA1 := hid hap1
      have hN1 := (Array.getElem?_eq_some_iff.1 HX1.out).1
      have hX2 := blkLater hb1 HX1.out
      have y0 := cell_of_heap hX2 3
      have f0 : W2.frozen? ⟨Bb, 3, none⟩ = false := by simp [World.frozen?, hX2]
      have HX3 := hid (box3 (u := .slice o2 src.length c2) hX2)
      have HO3 := hid ((HO1.out.later hb1).off (j := 3) HvB.out Hold.out (.slice o2 src.length c2))
      have HB3 := hid ((HB1.out.trans (hb1.mono HB1.out.size)).setCell (p := ⟨Bb, 3, none⟩) HwB.out (.slice o2 src.length c2))
      have HW3 := hid (own_set (o := 3) how1 hX2 (by decide) (.slice o2 src.length c2))
      have HN1 := hid hN1
      have HN2 : Hid (W1.heap.size ≤ (W2.setCell ⟨Bb, 3, none⟩ (.slice o2 src.length c2)).heap.size) := by
        show _ ≤ _
        rw [size_setS]
        exact hb1.size
      have HL1 : Hid (∀ q, (Value.slice o2 src.length c2).ownBlock = some q → W1.heap.size ≤ q ∧ q < (W2.setCell ⟨Bb, 3, none⟩ (.slice o2 src.length c2)).heap.size) := fun q hq => by
        rw [size_setS]
        exact how1.lt q hq
      have y1 : W2.cell? ⟨Bb, 3, none⟩ = some (.slice so src.length sc) := y0
      have y2 : (W1.alloc (.cells #[] 3)).cell? ⟨Bb, 3, none⟩ = some (.slice so src.length sc) := cell_of_heap (blkLater ((Below.refl _ W1).alloc (Nat.le_refl _) _) HX1.out) 3
      clear hX2 how1 hb1 hap1 hN1 HX1 HO1 HB1 y0
      go_upto_region 6 with (at_builtin; refine wpList_append_run _ rfl _ _ 23 23 rfl _ _ rfl rfl _ _ HA1.out ?_)
      clear y1 y2 f0 HA1
      generalize W2.setCell ⟨Bb, 3, none⟩ (.slice o2 src.length c2) = W3 at *
      obtain ⟨o3, c3, W4, hap2, how2, hb2⟩ := app_own W3 _ dts (RD.out.later HB3.out) hsl.2
      have HA2 := hid hap2
      have hX4 := blkLater hb2 HX3.out
      have y0 := cell_of_heap hX4 4
      have f0 : W4.frozen? ⟨Bb, 4, none⟩ = false := by simp [World.frozen?, hX4]
      have HX5 := hid (box4 (u := .slice o3 dts.length c3) hX4)
      have HO5 := hid ((HO3.out.later hb2).off (j := 4) HvB.out Hold.out (.slice o3 dts.length c3))
      have HB5 := hid ((HB3.out.trans (hb2.mono HB3.out.size)).setCell (p := ⟨Bb, 4, none⟩) HwB.out (.slice o3 dts.length c3))
      have HW5 := hid (own_set (o := 4) (own_later HW3.out hb2) hX4 (by decide) (.slice o3 dts.length c3))
      have HV5 := hid (own_set (o := 4) how2 hX4 (by decide) (.slice o3 dts.length c3))
      have HL2 : Hid (∀ q, (Value.slice o3 dts.length c3).ownBlock = some q → W3.heap.size ≤ q) := fun q hq => (how2.lt q hq).1
      have y1 : W4.cell? ⟨Bb, 4, none⟩ = some (.slice sd dts.length dc) := y0
      have HwN1 : Hid (w.heap.size ≤ W1.heap.size) := Nat.le_trans HwB.out (Nat.le_of_lt HN1.out)
      have y2 : (W3.alloc (.cells #[] 3)).cell? ⟨Bb, 4, none⟩ = some (.slice sd dts.length dc) := cell_of_heap (blkLater ((Below.refl _ W3).alloc (Nat.le_refl _) _) HX3.out) 4
      clear hX4 how2 hb2 hap2 HX3 HO3 HW3 y0
      go_upto_region 7 with (at_builtin; refine wpList_append_run _ rfl _ _ 23 23 rfl _ _ rfl rfl _ _ HA2.out ?_)
      clear y1 y2 f0 HA2
      generalize W4.setCell ⟨Bb, 4, none⟩ (.slice o3 dts.length c3) = W5 at *
      have S5 := sig_cells (x := ⟨ab, re, dep, src, dts⟩) HX5.out
      have z0 := S5.ab
      have z1 := S5.re
      have z2 := S5.dep
      have z3 := S5.src
      have z4 := S5.dts
      dsimp only at z0 z1 z2
      have hbc : Below W5.heap.size W5 (W5.alloc (.cells #[.bool ab, .int .i64 re, .bool dep, .slice o2 src.length c2, .slice o3 dts.length c3] 42)) := (Below.refl _ W5).alloc (Nat.le_refl _) _
      have HB6 := hid (HB5.out.trans (hbc.mono HB5.out.size))
      have HwN3 : Hid (w.heap.size ≤ W3.heap.size) := HB3.out.size
      obtain ⟨o4, c4, W6, hap3, hO6, hb6, _⟩ := more_runL (N1 := W1.heap.size) (N2 := W3.heap.size) (v := .slice o1 k c1) (HO5.out.later hbc) HB6.out.size ⟨ab, re, dep, src, dts⟩ (.slice o2 src.length c2) (.slice o3 dts.length c3) (own_later (own_base HwN1.out HW5.out) hbc) (own_later (own_base HwN3.out HV5.out) hbc) HN2.out (fun j hj b q hq => by have := Hold.out j hj b q hq; have := HN1.out; omega) HL1.out HL2.out W5.heap.size (heap_new W5 _) (by have := Hlk.out; omega)
      have HB7 := hid (HB6.out.trans hb6)
      rw [Hlk.out] at hap3 hO6
      have HA3 := hid hap3
      have HO7 := hid hO6
      have HM7 : Hid ((l ++ [((⟨ab, re, dep, src, dts⟩ : SigD), Value.slice o2 src.length c2, Value.slice o3 dts.length c3)]).map (·.1) = ls.take (k + 1)) := by
        show _ = _
        rw [List.map_append]
        exact HMk.out
      clear S5 hbc hap3 hO6 hb6 HX5 HO5 HW5 HV5 HL1 HL2 HN1 HN2 HwN1 HwN3 HB3 HB5 HB6
      go_wp2_with (at_builtin; refine wpList_append_run _ rfl _ _ 22 22 rfl _ _ rfl rfl _ _ HA3.out ?_)
      go_roundw
      case rel => exact ⟨k + 1, _, o4, c4, by omega, rfl, by go_num, HM7, HO7, HB7⟩
      case measure => simp [RowKit.intOf]; omega
    · have hkl : k = ls.length := by omega
      subst hkl
      have HM2 : Hid (l.map (·.1) = ls) := by
        show _ = _
        rw [hM.out, List.take_length]
      clear G hM hlk
      go_wp2
      go_ret
      exact ⟨o1, c1, l, rfl, HM2.out, hO.out, hB.out⟩
end Go.Proofs.Ytlibjjmaicgemaa
