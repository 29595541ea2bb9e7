/- The reference of abort: Any, where one of the sources is aborted. -/
import Derived.Test.YtlibjjmaicgemaaAbPP
import Derived.Test.YtlibjjmaicgemaaAbAA
namespace Go.Proofs.Ytlibjjmaicgemaa
open Go.RowKit Go.Lib Go.Shelf

theorem first_spec (p : Int → Bool) : ∀ (l : List Int) (k : Nat), l.any p = true → ∃ (j : Nat) (h : j < l.length), firstI p l (k : Int) = ((k + j : Nat) : Int) ∧ p l[j] = true ∧ ∀ (i : Nat) (hi : i < l.length), i < j → p l[i] = false
  | [], k, h => by simp at h
  | x :: r, k, h => by
    rw [firstI]
    cases hp : p x with
    | true => exact ⟨0, by simp, by simp, hp, fun i _ h => absurd h (Nat.not_lt_zero _)⟩
    | false =>
      rw [List.any_cons, hp, Bool.false_or] at h
      obtain ⟨j, hj, he, hq, hb⟩ := first_spec p r (k + 1) h
      refine ⟨j + 1, by simp; omega, ?_, hq, fun i hi hij => ?_⟩
      · rw [if_neg Bool.false_ne_true]
        have e : ((k : Int) + 1) = ((k + 1 : Nat) : Int) := by omega
        rw [e, he]
        congr 1
        omega
      · match i, hi, hij with
        | 0, _, _ => exact hp
        | i + 1, hi, hij => exact hb i (by simpa using hi) (by omega)
set_option maxRecDepth 100000 in
set_option maxHeartbeats 8000000 in
theorem anyR_ab (v iv : Value) (ls : List SigD) (is : List Int) (w : World) (hv : RdS w v ls) (hi : RdI w iv is) (hs : SmallS ls) (hf : fullE ls = 0) (hil : is.length ≤ 1024) (hth : ∀ h ∈ is, outD ls.length h = false) (hna : is.any (abH ls) = true) :
    Calls Try.prog 11 #[v, iv] w fun e w' => ∃ (m : Nat) (hm : m < ls.length) (o : Option Addr) (c : Nat) (l : List SigV), (∃ (j : Nat) (hj : j < is.length), firstI (abH ls) is 0 = (j : Int) ∧ is[j] = (m : Int) + 1) ∧ ls[m].ab = true ∧ e = .returned (.tuple #[.slice o (ls.length + 1) c, .int .i64 ((ls.length : Int) + 1), .int .i64 0]) ∧ l.map (·.1) = ls ++ [⟨true, ls[m].re, false, [], []⟩] ∧ OwnS w' w' w.heap.size (.slice o (ls.length + 1) c) l l.length ∧ Below w.heap.size w w' := by
  obtain ⟨j, hj, hfi, hpj, hbefore⟩ := first_spec (abH ls) is 0 hna
  rw [Nat.zero_add] at hfi
  obtain ⟨m, hjm, hm⟩ := out_no (hth is[j] (List.getElem_mem hj))
  have hab : ls[m].ab = true := by
    rw [hjm, abH_at hm] at hpj
    exact hpj
  have Hfi : Hid (firstI (abH ls) is 0 = (j : Int)) := hfi
  have Hjm := hid hjm
  have Hab := hid hab
  have Hbf := hid hbefore
  obtain ⟨hE, hlt0⟩ := full_zero hf
  have hC := checkR_all v ls w hv (by omega) hs
  rw [hE] at hC
  have HV := hid hv
  have HTh := hid hth
  have HCp : Hid (∀ V : World, Below w.heap.size w V → _) := fun V hV => copyR_any v ls V (hv.later hV) (by omega) hs
  have d1 : decide ((ls.length : Int) ≥ 1024) = false := decide_eq_false (by omega)
  have d2 : decide ((is.length : Int) > 1024) = false := decide_eq_false (by omega)
  obtain ⟨o, c, rfl, _, g⟩ := hv
  obtain ⟨b, off, rfl, hbl, ha⟩ := g (by omega)
  have HA : Hid (∀ (V : World) (p : Nat) (hp : p < ls.length), Below w.heap.size w V → V.cell? ⟨b, off + p * 5, none⟩ = some (.bool ls[p].ab) ∧ V.cell? ⟨b, off + p * 5 + 1, none⟩ = some (.int .i64 ls[p].re)) := fun V p hp hV => by
    obtain ⟨_, _, Y, _, _⟩ := ha p hp
    exact ⟨(Y.later hbl hV).ab, (Y.later hbl hV).re⟩
  obtain ⟨io, ic, rfl, _, gi⟩ := hi
  have GI := hid gi
  clear hs g gi hf hE hna hth hfi hjm hab hbefore hpj ha
  go_enter Try.func11, Try.ntmps11
  go_wp2_with (go_at_call 15; refine hC.mono ?_; rintro e w2 ⟨rfl, hb⟩; have HB := hid hb; clear hb)
  go_loopw [7, 35] (fun y t wr => ∃ k : Nat, k ≤ is.length ∧ y = .int .i64 0 ∧ t = .int .i64 k ∧ Hid (Below w.heap.size w wr)) (fun _ t _ => is.length - (RowKit.intOf t).toNat)
  case atStart => exact ⟨0, Nat.zero_le _, rfl, rfl, HB⟩
  case round =>
    obtain ⟨k, k1, rfl, rfl, hB⟩ := hrel
    clear HB
    by_cases hlt : k < is.length
    · obtain ⟨ib, ioff, rfl, hibl, hia⟩ := GI.out (by omega)
      have x0 := (hB.out.cell (p := ⟨ib, ioff + k, none⟩) hibl).trans (hia k hlt)
      have q1 : (0 : Int) ≤ (k : Int) := by omega
      have q2 : (k : Int) < (is.length : Int) := by omega
      obtain ⟨p, hpe, hp⟩ := out_no (HTh.out is[k] (List.getElem_mem hlt))
      have HO : Hid (∀ V : World, Below w.heap.size w V → _) := fun V hV => ofR_yes _ ls p V (HV.out.later hV) (by omega) hp
      rw [hpe] at x0
      clear HV hpe hia GI HTh HA HCp Hfi Hjm Hab Hbf d1 d2 hC
      generalize ls[p] = a at *
      obtain ⟨ab, re', dep, src, dts⟩ := a
      dsimp only at *
      go_wp2_with (go_at_call 28; refine (HO.out wr hB.out).mono ?_; rintro e w3 ⟨so, sc, sd, dc, rfl, hrs, hrd, hb⟩; have HB2 := hid (hB.out.trans (hb.mono hB.out.size)); have HB3 := hid (HB2.out.trans (((Below.refl _ w3).alloc (o := .cells #[.bool ab, .int .i64 re', .bool dep, .slice so src.length sc, .slice sd dts.length dc] 42) (Nat.le_refl _)).mono HB2.out.size)); clear hb hrs hrd)
      go_roundw
      case rel => exact ⟨k + 1, by omega, rfl, by go_num, HB3⟩
      case measure => simp [RowKit.intOf]; omega
    · have hke : k = is.length := by omega
      subst hke
      clear k1
      clear hC d1 d2 hlt HV
      go_wp2
      go_loopw [57] (fun t wr => ∃ k : Nat, k ≤ j ∧ t = .int .i64 k ∧ Hid (Below w.heap.size w wr)) (fun t _ => is.length - (RowKit.intOf t).toNat)
      case atStart => exact ⟨0, Nat.zero_le _, rfl, hB⟩
      case round =>
        obtain ⟨k, k1, rfl, hB2⟩ := hrel
        clear hB
        have hB := hB2
        clear hB2
        have hlt : k < is.length := by omega
        obtain ⟨ib, ioff, rfl, hibl, hia⟩ := GI.out (by omega)
        have x0 := (hB.out.cell (p := ⟨ib, ioff + k, none⟩) hibl).trans (hia k hlt)
        have q1 : (0 : Int) ≤ (k : Int) := by omega
        have q2 : (k : Int) < (is.length : Int) := by omega
        by_cases hkj : k < j
        · obtain ⟨p, hpe, hp⟩ := out_no (HTh.out is[k] (List.getElem_mem hlt))
          have hpa := Hbf.out k hlt hkj
          rw [hpe, abH_at hp] at hpa
          rw [hpe] at x0
          have y0 := (HA.out wr p hp hB.out).1
          rw [hpa] at y0
          have p1 : (0 : Int) ≤ (p : Int) := by omega
          have p2 : (p : Int) < (ls.length : Int) := by omega
          have hwp : IntKind.i64.wrap (p : Int) = (p : Int) := wrapA (by omega) (by omega)
          clear hpa hpe HA HCp Hfi Hjm Hab Hbf HTh hia GI
          go_wp2
          go_roundw
          case rel => exact ⟨k + 1, by omega, by go_num, hB⟩
          case measure => simp [RowKit.intOf]; omega
        · have hkj2 : k = j := by omega
          subst hkj2
          rw [Hjm.out] at x0
          obtain ⟨y0, hre⟩ := HA.out wr m hm hB.out
          rw [Hab.out] at y0
          obtain ⟨xr, hxr⟩ : ∃ xr, ls[m].re = xr := ⟨_, rfl⟩
          rw [hxr] at hre
          have Hxr := hid hxr
          have p1 : (0 : Int) ≤ (m : Int) := by omega
          have p2 : (m : Int) < (ls.length : Int) := by omega
          have hwp : IntKind.i64.wrap (m : Int) = (m : Int) := wrapA (by omega) (by omega)
          have hwl : IntKind.i64.wrap ((ls.length : Int) + 1) = (ls.length : Int) + 1 := wrapA (by omega) (by omega)
          have hbw := hB.out.size
          clear HA HTh hia GI Hbf hxr k1 hkj
          go_upto_region 17 with fail
          refine wp_region_held_drew (S := fun V => Below wr.heap.size wr V) (by kernel_rfl) ((Below.refl _ _).drew) (fun hHeld => ?_)
          have HB_V0 := hid hHeld
          have hz0 := hHeld.size
          generalize wr.drew = V0 at *
          refine wpAnyH_one 0 67 (.slice (some ⟨b, off, none⟩) ls.length c) hHeld rfl rfl (by kernel_rfl) (fun _ _ _ _ _ h => h) (by kernel_rfl) (by kernel_rfl) (by rfl) ?_ ?_
          · intro V hSw; (try dsimp only at hSw); go_simp
          simp only [Act.put, List.setIfInBounds_toArray, List.set_cons_zero, List.set_cons_succ]
          refine wpAnyH_one 2 69 (.slice (some ⟨b, off, none⟩) ls.length c) hHeld rfl rfl (by kernel_rfl) (fun _ _ _ _ _ h => h) (by kernel_rfl) (by kernel_rfl) (by rfl) ?_ ?_
          · intro V hSw; (try dsimp only at hSw); go_simp
          simp only [Act.put, List.setIfInBounds_toArray, List.set_cons_zero, List.set_cons_succ]
          refine wpAnyH_one 3 70 (.int .i64 ((m : Int) + 1)) hHeld rfl rfl (by kernel_rfl) (fun _ _ _ _ _ h => h) (by kernel_rfl) (by kernel_rfl) (by rfl) ?_ ?_
          · intro V hSw; (try dsimp only at hSw); go_simp
          simp only [Act.put, List.setIfInBounds_toArray, List.set_cons_zero, List.set_cons_succ]
          refine wpAnyH_one 4 71 (.int .i64 (m : Int)) hHeld rfl rfl (by kernel_rfl) (fun _ _ _ _ _ h => h) (by kernel_rfl) (by kernel_rfl) (by rfl) ?_ ?_
          · intro V hSw; (try dsimp only at hSw); go_simp
          simp only [Act.put, List.setIfInBounds_toArray, List.set_cons_zero, List.set_cons_succ]
          refine wpAnyH_one 5 72 (.pointer (some ⟨b, off + m * 5, none⟩)) hHeld rfl rfl (by kernel_rfl) (fun _ _ _ _ _ h => h) (by kernel_rfl) (by kernel_rfl) (by rfl) ?_ ?_
          · intro V hSw; (try dsimp only at hSw); go_simp
          simp only [Act.put, List.setIfInBounds_toArray, List.set_cons_zero, List.set_cons_succ]
          refine wpAnyH_one 6 73 (.pointer (some ⟨b, off + m * 5 + 1, none⟩)) hHeld rfl rfl (by kernel_rfl) (fun _ _ _ _ _ h => h) (by kernel_rfl) (by kernel_rfl) (by rfl) ?_ ?_
          · intro V hSw; (try dsimp only at hSw); go_simp
          simp only [Act.put, List.setIfInBounds_toArray, List.set_cons_zero, List.set_cons_succ]
          refine wpAnyH_one 7 74 (.int .i64 xr) hHeld rfl rfl (by kernel_rfl) (fun _ _ _ _ _ h => h) (by kernel_rfl) (by kernel_rfl) (by rfl) ?_ ?_
          · intro V hSw; (try dsimp only at hSw); have k0 := cellLater (B := b) hSw (by omega) hre; go_simp
          simp only [Act.put, List.setIfInBounds_toArray, List.set_cons_zero, List.set_cons_succ]
          refine wpAnyH_one 8 75 (.agg #[.bool true, .int .i64 xr, .bool false, .slice none 0 0, .slice none 0 0]) hHeld rfl rfl (by kernel_rfl) (fun _ _ _ _ _ h => h) (by kernel_rfl) (by kernel_rfl) (by rfl) ?_ ?_
          · intro V hSw; (try dsimp only at hSw); go_simp
          simp only [Act.put, List.setIfInBounds_toArray, List.set_cons_zero, List.set_cons_succ]
          refine wpAnyH_one 11 78 (.slice (some ⟨b, off, none⟩) ls.length c) hHeld rfl rfl (by kernel_rfl) (fun _ _ _ _ _ h => h) (by kernel_rfl) (by kernel_rfl) (by rfl) ?_ ?_
          · intro V hSw; (try dsimp only at hSw); go_simp
          simp only [Act.put, List.setIfInBounds_toArray, List.set_cons_zero, List.set_cons_succ]
          refine wpAnyH_one 12 79 (.int .i64 (ls.length : Int)) hHeld rfl rfl (by kernel_rfl) (fun _ _ _ _ _ h => h) (by kernel_rfl) (by kernel_rfl) (by rfl) ?_ ?_
          · intro V hSw; (try dsimp only at hSw); go_simp
          simp only [Act.put, List.setIfInBounds_toArray, List.set_cons_zero, List.set_cons_succ]
          refine wpAnyH_one 13 80 (.int .i64 ((ls.length : Int) + 1)) hHeld rfl rfl (by kernel_rfl) (fun _ _ _ _ _ h => h) (by kernel_rfl) (by kernel_rfl) (by rfl) ?_ ?_
          · intro V hSw; (try dsimp only at hSw); go_simp
          simp only [Act.put, List.setIfInBounds_toArray, List.set_cons_zero, List.set_cons_succ]
          refine wpAnyH_ready (rs := [1, 9]) (by kernel_rfl) (by simp) ?_
          refine AllReadyH.cons rfl (fun K hK => ?_) (AllReadyH.cons rfl (fun K hK => ?_) (AllReadyH.nil))
          · go_simp
            go_wp2_with (go_at_call 7; refine (HCp.out V0 (hB.out.trans (HB_V0.out.mono hB.out.size))).mono ?_; rintro e V1 ⟨o2, c2, l, rfl, hm2, hO2, hb⟩)
            have HB_V1 := hid (HB_V0.out.trans (hb.mono HB_V0.out.size))
            have hz1 := HB_V1.out.size
            have hy1 := hb.size
            have hO := hO2
            refine hK.out _ _ HB_V1.out (fun hHeld => ?_)
            clear hK K hb
            refine wpAnyH_ready (rs := [9]) (by kernel_rfl) (by simp) ?_
            refine AllReadyH.cons rfl (fun K hK => ?_) (AllReadyH.nil)
            go_simp
            have hfl := heap_new V1 (.cells #[.bool true, .int .i64 xr, .bool false, .slice none 0 0, .slice none 0 0] 42)
            have hb : Below V1.heap.size V1 (V1.alloc (.cells #[.bool true, .int .i64 xr, .bool false, .slice none 0 0, .slice none 0 0] 42)) := (Below.refl _ V1).alloc (Nat.le_refl _) _
            have hx2 := (Array.getElem?_eq_some_iff.1 hfl).1
            generalize V1.alloc (.cells #[.bool true, .int .i64 xr, .bool false, .slice none 0 0, .slice none 0 0] 42) = V2 at *
            have HB_V2 := hid (HB_V1.out.trans (hb.mono HB_V1.out.size))
            have hz2 := HB_V2.out.size
            have hy2 := hb.size
            have hO := hO.later hb
            refine hK.out _ _ HB_V2.out (fun hHeld => ?_)
            clear hK K hb
            have hll : l.length = ls.length := by rw [← hm2]; simp
            obtain ⟨o4, c4, V9, hap, hO4, hb4, _⟩ := more_run hO (by omega) ⟨true, xr, false, [], []⟩ rfl rfl V1.heap.size hfl (by omega)
            rw [hll] at hap hO4
            have HAp := hid hap
            have HO4 := hid hO4
            have HM2 := hid hm2
            have HB9 := hid (HB_V2.out.trans (hb4.mono (by omega)))
            have HCb : Hid (w.heap.size ≤ V0.heap.size) := (by show _ ≤ _; have := hB.out.size; omega)
            clear hap hO4 hb4 hll hm2 hO hfl
            refine wpAnyH_ready (rs := [10]) (by kernel_rfl) (by simp) ?_
            refine AllReadyH.cons rfl (fun K hK => ?_) AllReadyH.nil
            refine step_appendA _ rfl (.tmp 68) (.tmp 76) 22 22 rfl _ _ rfl rfl _ _ HAp.out (some 77) rfl ?_
            refine hK.out _ _ HB9.out (fun hHeld => ?_)
            clear hK K
            simp only [Act.put, List.setIfInBounds_toArray, List.set_cons_zero, List.set_cons_succ]
            refine wpAnyH_one 14 4 (.slice o4 (ls.length + 1) c4) hHeld rfl rfl (by kernel_rfl) (fun _ _ _ _ _ h => h) (by kernel_rfl) (by kernel_rfl) (by rfl) ?_ ?_
            · intro V hSw; (try dsimp only at hSw); go_simp
            simp only [Act.put, List.setIfInBounds_toArray, List.set_cons_zero, List.set_cons_succ]
            refine wpAnyH_one 15 5 (.int .i64 ((ls.length : Int) + 1)) hHeld rfl rfl (by kernel_rfl) (fun _ _ _ _ _ h => h) (by kernel_rfl) (by kernel_rfl) (by rfl) ?_ ?_
            · intro V hSw; (try dsimp only at hSw); go_simp
            simp only [Act.put, List.setIfInBounds_toArray, List.set_cons_zero, List.set_cons_succ]
            refine wpAnyH_one 16 6 (.int .i64 0) hHeld rfl rfl (by kernel_rfl) (fun _ _ _ _ _ h => h) (by kernel_rfl) (by kernel_rfl) (by rfl) ?_ ?_
            · intro V hSw; (try dsimp only at hSw); go_simp
            simp only [Act.put, List.setIfInBounds_toArray, List.set_cons_zero, List.set_cons_succ]
            refine wpAnyH_done (by kernel_rfl) ?_ _
            go_wp2
            refine bodyPost_ret (v := .tuple #[.slice o4 (ls.length + 1) c4, .int .i64 ((ls.length : Int) + 1), .int .i64 0]) (by simp [results, Try.results11, go_sem]) rfl ?_
            exact ⟨m, hm, o4, c4, _, ⟨k, hj, Hfi.out, Hjm.out⟩, Hab.out, rfl, by rw [List.map_append, HM2.out, Hxr.out]; rfl, HO4.out.base HCb.out, hB.out.trans (HB9.out.mono hB.out.size)⟩
          · go_simp
            have hfl := heap_new V0 (.cells #[.bool true, .int .i64 xr, .bool false, .slice none 0 0, .slice none 0 0] 42)
            have hb : Below V0.heap.size V0 (V0.alloc (.cells #[.bool true, .int .i64 xr, .bool false, .slice none 0 0, .slice none 0 0] 42)) := (Below.refl _ V0).alloc (Nat.le_refl _) _
            have hx1 := (Array.getElem?_eq_some_iff.1 hfl).1
            generalize V0.alloc (.cells #[.bool true, .int .i64 xr, .bool false, .slice none 0 0, .slice none 0 0] 42) = V1 at *
            have HB_V1 := hid (HB_V0.out.trans (hb.mono HB_V0.out.size))
            have hz1 := HB_V1.out.size
            have hy1 := hb.size
            refine hK.out _ _ HB_V1.out (fun hHeld => ?_)
            clear hK K hb
            refine wpAnyH_ready (rs := [1]) (by kernel_rfl) (by simp) ?_
            refine AllReadyH.cons rfl (fun K hK => ?_) (AllReadyH.nil)
            go_simp
            go_wp2_with (go_at_call 7; refine (HCp.out V1 (hB.out.trans (HB_V1.out.mono hB.out.size))).mono ?_; rintro e V2 ⟨o2, c2, l, rfl, hm2, hO2, hb⟩)
            have HB_V2 := hid (HB_V1.out.trans (hb.mono HB_V1.out.size))
            have hz2 := HB_V2.out.size
            have hy2 := hb.size
            have hfl := blkLater hb hfl
            have hO := hO2
            refine hK.out _ _ HB_V2.out (fun hHeld => ?_)
            clear hK K hb
            have hll : l.length = ls.length := by rw [← hm2]; simp
            obtain ⟨o4, c4, V9, hap, hO4, hb4, _⟩ := more_run hO (by omega) ⟨true, xr, false, [], []⟩ rfl rfl V0.heap.size hfl (by omega)
            rw [hll] at hap hO4
            have HAp := hid hap
            have HO4 := hid hO4
            have HM2 := hid hm2
            have HB9 := hid (HB_V2.out.trans (hb4.mono (by omega)))
            have HCb : Hid (w.heap.size ≤ V1.heap.size) := (by show _ ≤ _; have := hB.out.size; omega)
            clear hap hO4 hb4 hll hm2 hO hfl
            refine wpAnyH_ready (rs := [10]) (by kernel_rfl) (by simp) ?_
            refine AllReadyH.cons rfl (fun K hK => ?_) AllReadyH.nil
            refine step_appendA _ rfl (.tmp 68) (.tmp 76) 22 22 rfl _ _ rfl rfl _ _ HAp.out (some 77) rfl ?_
            refine hK.out _ _ HB9.out (fun hHeld => ?_)
            clear hK K
            simp only [Act.put, List.setIfInBounds_toArray, List.set_cons_zero, List.set_cons_succ]
            refine wpAnyH_one 14 4 (.slice o4 (ls.length + 1) c4) hHeld rfl rfl (by kernel_rfl) (fun _ _ _ _ _ h => h) (by kernel_rfl) (by kernel_rfl) (by rfl) ?_ ?_
            · intro V hSw; (try dsimp only at hSw); go_simp
            simp only [Act.put, List.setIfInBounds_toArray, List.set_cons_zero, List.set_cons_succ]
            refine wpAnyH_one 15 5 (.int .i64 ((ls.length : Int) + 1)) hHeld rfl rfl (by kernel_rfl) (fun _ _ _ _ _ h => h) (by kernel_rfl) (by kernel_rfl) (by rfl) ?_ ?_
            · intro V hSw; (try dsimp only at hSw); go_simp
            simp only [Act.put, List.setIfInBounds_toArray, List.set_cons_zero, List.set_cons_succ]
            refine wpAnyH_one 16 6 (.int .i64 0) hHeld rfl rfl (by kernel_rfl) (fun _ _ _ _ _ h => h) (by kernel_rfl) (by kernel_rfl) (by rfl) ?_ ?_
            · intro V hSw; (try dsimp only at hSw); go_simp
            simp only [Act.put, List.setIfInBounds_toArray, List.set_cons_zero, List.set_cons_succ]
            refine wpAnyH_done (by kernel_rfl) ?_ _
            go_wp2
            refine bodyPost_ret (v := .tuple #[.slice o4 (ls.length + 1) c4, .int .i64 ((ls.length : Int) + 1), .int .i64 0]) (by simp [results, Try.results11, go_sem]) rfl ?_
            exact ⟨m, hm, o4, c4, _, ⟨k, hj, Hfi.out, Hjm.out⟩, Hab.out, rfl, by rw [List.map_append, HM2.out, Hxr.out]; rfl, HO4.out.base HCb.out, hB.out.trans (HB9.out.mono hB.out.size)⟩
end Go.Proofs.Ytlibjjmaicgemaa
