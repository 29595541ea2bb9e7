/- Any, where one of those that it is to lead is aborted. -/
import Derived.Test.YtlibjjmaicgemaaAbT
import Derived.Test.YtlibjjmaicgemaaAbW
namespace Go.Proofs.Ytlibjjmaicgemaa
open Go.RowKit Go.Lib Go.Shelf

theorem firstI_at (p : Int → Bool) : ∀ (l : List Int) (k : Nat), l.any p = true → ∃ (j : Nat) (h : j < l.length), firstI p l (k : Int) = ((k + j : Nat) : Int) ∧ p l[j] = true
  | [], k, h => by simp at h
  | x :: r, k, h => by
    rw [firstI]
    cases hp : p x with
    | true => exact ⟨0, by simp, by simp, hp⟩
    | false =>
      rw [List.any_cons, hp, Bool.false_or] at h
      obtain ⟨j, hj, he, hq⟩ := firstI_at p r (k + 1) h
      refine ⟨j + 1, by simp; omega, ?_, hq⟩
      rw [if_neg Bool.false_ne_true]
      have e : ((k : Int) + 1) = ((k + 1 : Nat) : Int) := by omega
      rw [e, he]
      congr 1
      omega
set_option maxRecDepth 100000 in
set_option maxHeartbeats 4000000 in
theorem anyS_ab (v iv : Value) (ls : List SigD) (is : List Int) (w : World) (hv : RdS w v ls) (hi : RdI w iv is) (hl : ls.length ≤ 1024) (hs : SmallS ls) (hf : fullE ls = 0) (hil : is.length ≤ 1024) (hth : ∀ h ∈ is, outD ls.length h = false) (hna : is.any (abH ls) = true) :
    Calls Try.prog 10 #[v, iv] w fun e w' => ∃ (m : Nat) (hm : m < ls.length) (o : Option Addr) (c : Nat) (l : List SigV), (∃ (j : Nat) (hj : j < is.length), firstI (abH ls) is 0 = (j : Int) ∧ is[j] = (m : Int) + 1) ∧ ls[m].ab = true ∧ e = .returned (.tuple #[.slice o (ls.length + 1) c, .int .i64 ((ls.length : Int) + 1), .int .i64 0]) ∧ l.map (·.1) = ls ++ [⟨true, ls[m].re, false, [], []⟩] ∧ OwnS w' w' w.heap.size (.slice o (ls.length + 1) c) l l.length ∧ Below w.heap.size w w' := by
  obtain ⟨j, hj, hfi, hpj⟩ := firstI_at (abH ls) is 0 hna
  rw [Nat.zero_add] at hfi
  obtain ⟨m, hjm, hm⟩ := out_no (hth is[j] (List.getElem_mem hj))
  have hmem : ∃ (j : Nat) (hj : j < is.length), firstI (abH ls) is 0 = (j : Int) ∧ is[j] = (m : Int) + 1 := ⟨j, hj, hfi, hjm⟩
  have hab : ls[m].ab = true := by
    rw [hjm, abH_at hm] at hpj
    exact hpj
  obtain ⟨o, c, hvs, _, gs⟩ := id hv
  subst hvs
  have hb : Below w.heap.size w (w.alloc (.cells #[.slice o ls.length c] 22)) := (Below.refl _ w).alloc (Nat.le_refl _) _
  have hC := full_any _ ls _ (hv.later hb) (by omega) hs
  rw [hf] at hC
  have hno : is.any (outD ls.length) = false := by
    rw [List.any_eq_false]
    intro h hh
    rw [hth h hh]
    exact Bool.false_ne_true
  have HTh : Hid (∀ V : World, Below w.heap.size w V → _) := fun V hV => there_any o ls.length c iv is V (hi.later hV) (by omega)
  rw [hno] at HTh
  have HIx : Hid (∀ V : World, Below w.heap.size w V → V.heap[w.heap.size]? = some (.cells #[.slice o ls.length c] 22) → _) := fun V hV hx => indexI_any iv _ is _ _ V (hi.later hV) (by omega) (ask_any hx (hv.later hV) (by omega)) (fun h hh => by rw [hth h hh]; rfl)
  have hfi' : firstI (abH ls) is 0 = (j : Int) := hfi
  rw [hfi'] at HIx
  have HGr : Hid (∀ V : World, Below w.heap.size w V → _) := fun V hV => grown_any _ ls true ls[m].re false V (hv.later hV) hl hs
  have HX := hid (heap_new w (.cells #[.slice o ls.length c] 22))
  have k0 := box1 HX.out
  have HB := hid hb
  have h1 : decide ((is.length : Int) > 1024) = false := decide_eq_false (by omega)
  obtain ⟨io, ic, rfl, _, gi⟩ := hi
  obtain ⟨b, off, rfl, hbl, ha⟩ := gs (by omega)
  obtain ⟨_, _, hsc, _, _⟩ := ha m hm
  have A1 := hid hsc.re
  obtain ⟨ib, ioff, rfl, hibl, hia⟩ := gi (by omega)
  have I0 := hid (hia j hj)
  rw [hjm] at I0
  have q1 : (0 : Int) ≤ (j : Int) := by omega
  have q2 : (j : Int) < (is.length : Int) := by omega
  have s1 : (0 : Int) ≤ (m : Int) := by omega
  have s2 : (m : Int) < (ls.length : Int) := by omega
  have hw2 : IntKind.i64.wrap (m : Int) = (m : Int) := wrapA (by omega) (by omega)
  have HMem := hid hmem
  have HAb := hid hab
  obtain ⟨re, hre⟩ : ∃ re, ls[m].re = re := ⟨_, rfl⟩
  rw [hre] at A1 HGr
  have HRe := hid hre
  clear hv hs hb gi gs ha hsc hia hf hth hna hno hfi hfi' hpj hjm hmem hab hre
  go_enter Try.func10, Try.ntmps10
  go_upto_region 11 with (first
    | (go_at_call 24; refine (HIx.out _ HB3.out HX3.out).mono ?_; rintro e w4 ⟨rfl, hb⟩; have HB4 := hid (HB3.out.trans (hb.mono HB3.out.size)); have HX4 := hid (blkLater hb HX3.out); have k0 := box1 HX4.out; clear hb)
    | (go_at_call 23; refine (HTh.out _ HB2.out).mono ?_; rintro e w3 ⟨rfl, hb⟩; have HB3 := hid (HB2.out.trans (hb.mono HB2.out.size)); have HX3 := hid (blkLater hb HX2.out); clear hb)
    | (go_at_call 21; refine hC.mono ?_; rintro e w2 ⟨rfl, hb⟩; have HB2 := hid (HB.out.trans (hb.mono HB.out.size)); have HX2 := hid (blkLater hb HX.out); have k0 := box1 HX2.out; clear hb))
  have i0 := (HB4.out.cell (p := ⟨ib, ioff + j, none⟩) hibl).trans I0.out
  have a1 := (HB4.out.cell (p := ⟨b, off + m * 5 + 1, none⟩) hbl).trans A1.out
  have hzw : w.heap.size < w4.heap.size := (Array.getElem?_eq_some_iff.1 HX4.out).1
  have hzi : ib < w4.heap.size := by omega
  have hzb : b < w4.heap.size := by omega
  have k0 := box1 HX4.out
  refine wp_region_held_drew (S := fun V => Below w4.heap.size w4 V) (by kernel_rfl) ((Below.refl _ _).drew) (fun hHeld => ?_)
  have HB_V0 := hid hHeld
  have HS_V0 := hid hHeld.size
  generalize w4.drew = V0 at *
  refine wpAnyH_one 0 36 (.slice (some ⟨b, off, none⟩) ls.length c) hHeld rfl rfl (by kernel_rfl) (fun _ _ _ _ _ h => h) (by kernel_rfl) (by kernel_rfl) (by rfl) ?_ ?_
  · intro V hSw; (try dsimp only at hSw); have k0 := cellLater (B := w.heap.size) hSw (by omega) k0; go_simp
  simp only [Act.put, List.setIfInBounds_toArray, List.set_cons_zero, List.set_cons_succ]
  refine wpAnyH_one 1 37 (.slice (some ⟨b, off, none⟩) ls.length c) hHeld rfl rfl (by kernel_rfl) (fun _ _ _ _ _ h => h) (by kernel_rfl) (by kernel_rfl) (by rfl) ?_ ?_
  · intro V hSw; (try dsimp only at hSw); have k0 := cellLater (B := w.heap.size) hSw (by omega) k0; go_simp
  simp only [Act.put, List.setIfInBounds_toArray, List.set_cons_zero, List.set_cons_succ]
  refine wpAnyH_one 2 38 (.slice (some ⟨ib, ioff, none⟩) is.length ic) hHeld rfl rfl (by kernel_rfl) (fun _ _ _ _ _ h => h) (by kernel_rfl) (by kernel_rfl) (by rfl) ?_ ?_
  · intro V hSw; (try dsimp only at hSw); go_simp
  simp only [Act.put, List.setIfInBounds_toArray, List.set_cons_zero, List.set_cons_succ]
  refine wpAnyH_one 3 39 (.int .i64 (j : Int)) hHeld rfl rfl (by kernel_rfl) (fun _ _ _ _ _ h => h) (by kernel_rfl) (by kernel_rfl) (by rfl) ?_ ?_
  · intro V hSw; (try dsimp only at hSw); go_simp
  simp only [Act.put, List.setIfInBounds_toArray, List.set_cons_zero, List.set_cons_succ]
  refine wpAnyH_one 4 40 (.pointer (some ⟨ib, ioff + j, none⟩)) hHeld rfl rfl (by kernel_rfl) (fun _ _ _ _ _ h => h) (by kernel_rfl) (by kernel_rfl) (by rfl) ?_ ?_
  · intro V hSw; (try dsimp only at hSw); go_simp
  simp only [Act.put, List.setIfInBounds_toArray, List.set_cons_zero, List.set_cons_succ]
  refine wpAnyH_one 5 41 (.int .i64 ((m : Int) + 1)) hHeld rfl rfl (by kernel_rfl) (fun _ _ _ _ _ h => h) (by kernel_rfl) (by kernel_rfl) (by rfl) ?_ ?_
  · intro V hSw; (try dsimp only at hSw); have k0 := cellLater (B := ib) hSw (by omega) i0; go_simp
  simp only [Act.put, List.setIfInBounds_toArray, List.set_cons_zero, List.set_cons_succ]
  refine wpAnyH_one 6 42 (.int .i64 (m : Int)) hHeld rfl rfl (by kernel_rfl) (fun _ _ _ _ _ h => h) (by kernel_rfl) (by kernel_rfl) (by rfl) ?_ ?_
  · intro V hSw; (try dsimp only at hSw); go_simp
  simp only [Act.put, List.setIfInBounds_toArray, List.set_cons_zero, List.set_cons_succ]
  refine wpAnyH_one 7 43 (.pointer (some ⟨b, off + m * 5, none⟩)) hHeld rfl rfl (by kernel_rfl) (fun _ _ _ _ _ h => h) (by kernel_rfl) (by kernel_rfl) (by rfl) ?_ ?_
  · intro V hSw; (try dsimp only at hSw); go_simp
  simp only [Act.put, List.setIfInBounds_toArray, List.set_cons_zero, List.set_cons_succ]
  refine wpAnyH_one 8 44 (.pointer (some ⟨b, off + m * 5 + 1, none⟩)) hHeld rfl rfl (by kernel_rfl) (fun _ _ _ _ _ h => h) (by kernel_rfl) (by kernel_rfl) (by rfl) ?_ ?_
  · intro V hSw; (try dsimp only at hSw); go_simp
  simp only [Act.put, List.setIfInBounds_toArray, List.set_cons_zero, List.set_cons_succ]
  refine wpAnyH_one 9 45 (.int .i64 re) hHeld rfl rfl (by kernel_rfl) (fun _ _ _ _ _ h => h) (by kernel_rfl) (by kernel_rfl) (by rfl) ?_ ?_
  · intro V hSw; (try dsimp only at hSw); have k0 := cellLater (B := b) hSw (by omega) a1; go_simp
  simp only [Act.put, List.setIfInBounds_toArray, List.set_cons_zero, List.set_cons_succ]
  refine wpAnyH_one 10 46 (.agg #[.bool true, .int .i64 re, .bool false, .slice none 0 0, .slice none 0 0]) hHeld rfl rfl (by kernel_rfl) (fun _ _ _ _ _ h => h) (by kernel_rfl) (by kernel_rfl) (by rfl) ?_ ?_
  · intro V hSw; (try dsimp only at hSw); go_simp
  simp only [Act.put, List.setIfInBounds_toArray, List.set_cons_zero, List.set_cons_succ]
  refine wpAnyH_ready (rs := [11]) (by kernel_rfl) (by simp) ?_
  refine AllReadyH.cons rfl (fun K hK => ?_) AllReadyH.nil
  go_simp
  go_wp2_with (go_at_call 22; refine (HGr.out V0 (HB4.out.trans (HB_V0.out.mono HB4.out.size))).mono ?_; rintro e V1 ⟨o5, c5, l5, rfl, hm5, hO5, hb⟩; have HB_V1 := hid (HB_V0.out.trans (hb.mono HB_V0.out.size)); have HS_V1 := hid (HB_V1.out.size); have HM5 := hid hm5; have HO5 := hid hO5; have HSz := hid HB_V0.out.size; clear hm5 hO5)
  refine hK.out _ _ HB_V1.out (fun hHeld => ?_)
  clear hK K
  refine wpAnyH_one 12 35 (.tuple #[.slice o5 (ls.length + 1) c5, .int .i64 ((ls.length : Int) + 1)]) hHeld rfl rfl (by kernel_rfl) (fun _ _ _ _ _ h => h) (by kernel_rfl) (by kernel_rfl) (by rfl) ?_ ?_
  · intro V hSw; (try dsimp only at hSw); go_simp
  simp only [Act.put, List.setIfInBounds_toArray, List.set_cons_zero, List.set_cons_succ]
  refine wpAnyH_one 13 48 (.slice o5 (ls.length + 1) c5) hHeld rfl rfl (by kernel_rfl) (fun _ _ _ _ _ h => h) (by kernel_rfl) (by kernel_rfl) (by rfl) ?_ ?_
  · intro V hSw; (try dsimp only at hSw); go_simp
  simp only [Act.put, List.setIfInBounds_toArray, List.set_cons_zero, List.set_cons_succ]
  refine wpAnyH_one 14 49 (.int .i64 ((ls.length : Int) + 1)) hHeld rfl rfl (by kernel_rfl) (fun _ _ _ _ _ h => h) (by kernel_rfl) (by kernel_rfl) (by rfl) ?_ ?_
  · intro V hSw; (try dsimp only at hSw); go_simp
  simp only [Act.put, List.setIfInBounds_toArray, List.set_cons_zero, List.set_cons_succ]
  refine wpAnyH_one 15 9 (.slice o5 (ls.length + 1) c5) hHeld rfl rfl (by kernel_rfl) (fun _ _ _ _ _ h => h) (by kernel_rfl) (by kernel_rfl) (by rfl) ?_ ?_
  · intro V hSw; (try dsimp only at hSw); go_simp
  simp only [Act.put, List.setIfInBounds_toArray, List.set_cons_zero, List.set_cons_succ]
  refine wpAnyH_one 16 10 (.int .i64 ((ls.length : Int) + 1)) hHeld rfl rfl (by kernel_rfl) (fun _ _ _ _ _ h => h) (by kernel_rfl) (by kernel_rfl) (by rfl) ?_ ?_
  · intro V hSw; (try dsimp only at hSw); go_simp
  simp only [Act.put, List.setIfInBounds_toArray, List.set_cons_zero, List.set_cons_succ]
  refine wpAnyH_done (by kernel_rfl) ?_ _
  go_wp2
  have HOz := hid (HO5.out.base (w1 := V1) (base' := w.heap.size) (Nat.le_trans HB4.out.size HSz.out))
  refine bodyPost_ret (v := .tuple #[.slice o5 (ls.length + 1) c5, .int .i64 ((ls.length : Int) + 1), .int .i64 0]) (by simp [results, Try.results10, go_sem]) rfl ?_
  exact ⟨m, hm, o5, c5, l5, HMem.out, HAb.out, rfl, by rw [HM5.out, HRe.out], HOz.out, HB4.out.trans (HB_V1.out.mono HB4.out.size)⟩
end Go.Proofs.Ytlibjjmaicgemaa
