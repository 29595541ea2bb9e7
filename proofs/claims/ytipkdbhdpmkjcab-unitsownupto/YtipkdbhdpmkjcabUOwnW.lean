/- The walk of the law UnitsOwn. -/
import Derived.Test.YtipkdbhdpmkjcabUSet
import Derived.Test.YtipkdbhdpmkjcabUCutsW
namespace Go.Proofs.Ytipkdbhdpmkjcab
open Go.RowKit Go.Lib

/-- Behind writes into a row of the call's own: all else is as it was, and the row can still be written. -/
structure Wr (t : TypeId) (v : Value) (n : Nat) (W wr : World) : Prop where
  gr : W.grownBy wr v.ownBlock
  can : ∀ g, v.ownBlock = some g → ∃ C, wr.heap[g]? = some (.cells C t (0, 0)) ∧ n ≤ C.size

theorem Wr.start {W : World} {B : Nat} {t : TypeId} {v : Value} {n : Nat} {xs : List Value} (h : W.ownsRow B t 1 v n xs) : Wr t v n W W := by
  refine ⟨⟨rfl, rfl, rfl, Nat.le_refl _, fun _ _ _ => rfl⟩, fun g hg => ?_⟩
  rcases h.2 with ⟨rfl, _⟩ | ⟨g', cap, cur, rfl, _, hh, hn, hm, hcs, ht⟩
  · cases hg
  · have : g' = g := by simpa [Value.ownBlock] using hg
    subst this
    exact ⟨cur, hh, by omega⟩
theorem Wr.put {W wr : World} {t : TypeId} {v : Value} {n g k : Nat} (h : Wr t v n W wr) (hg : v.ownBlock = some g) (u : Value) : Wr t v n W (wr.setCell ⟨g, k, none⟩ u) := by
  obtain ⟨C, hC, hn⟩ := h.can g hg
  refine ⟨⟨h.gr.os, h.gr.tape, h.gr.output, by simpa [World.setCell] using h.gr.size, fun j hj hne => ?_⟩, fun g' hg' => ?_⟩
  · have hjg : j ≠ g := fun e => hne (by rw [e, hg])
    rw [← h.gr.block j hj hne]
    simp [World.setCell, Array.getElem?_modify, Ne.symm hjg]
  · have : g = g' := by rw [hg] at hg'; simpa using hg'
    subst this
    exact ⟨_, heap_setCell_at hC u, by simpa using hn⟩
theorem Wr.cell {W wr : World} {t : TypeId} {v : Value} {n g k : Nat} (h : Wr t v n W wr) (hg : v.ownBlock = some g) (hk : k < n) : (∃ u, wr.cell? ⟨g, k, none⟩ = some u) ∧ wr.frozen? ⟨g, k, none⟩ = false := by
  obtain ⟨C, hC, hn⟩ := h.can g hg
  refine ⟨⟨C[k]'(by omega), ?_⟩, frozen_of_heap hC k⟩
  rw [cell_of_heap hC, Array.getElem?_eq_getElem (by omega)]
theorem Wr.below {W wr : World} {B : Nat} {t : TypeId} {v : Value} {n : Nat} {xs : List Value} (h : Wr t v n W wr) (ho : W.ownsRow B t 1 v n xs) (hB : B ≤ W.heap.size) : Below B W wr :=
  (Below.refl B W).grown h.gr hB (fun j hj => (ho.lt j hj).1)
theorem own_form {W : World} {B : Nat} {t : TypeId} {v : Value} {n : Nat} {xs : List Value} (h : W.ownsRow B t 1 v n xs) : ∃ o cap, v = .slice o n cap ∧ (0 < n → ∃ g, o = some ⟨g, 0, none⟩ ∧ v.ownBlock = some g) := by
  rcases Go.Joins.ownsRow_forms h with ⟨rfl, rfl⟩ | ⟨g, c, rfl⟩
  · exact ⟨none, 0, rfl, fun h => by omega⟩
  · exact ⟨_, _, rfl, fun _ => ⟨g, rfl, rfl⟩⟩
theorem own_far {W wr : World} {B' : Nat} {t t' : TypeId} {v v' : Value} {n n' : Nat} {xs' : List Value} (h : Wr t v n W wr) (ho : ∀ g, v.ownBlock = some g → g < B') (ho' : W.ownsRow B' t' 1 v' n' xs') : wr.ownsRow B' t' 1 v' n' xs' := by
  refine ho'.kept h.gr ?_
  cases hv : v'.ownBlock with
  | none => exact .inl rfl
  | some g =>
    refine .inr (fun e => ?_)
    have h1 := (ho'.lt g hv).1
    have h2 := ho g e.symm
    omega

theorem setS_len (ws : List ByteArray) : (setS ws).length ≤ ws.length := by
  rw [← setTo_all]
  exact setTo_le ws ws.length (Nat.le_refl _)

set_option maxRecDepth 100000 in
set_option maxHeartbeats 1500000 in
theorem ownLaw (v vl : Value) (us : List Nat) (k : Nat) (ws : List ByteArray) (w : World) (hr : RdU w v us) (hl : RdS w vl ws) (hn : us.length ≤ 1048576) (hk : k ≤ 4294967295) (hwl : ws.length ≤ 1048576) (hwz : ∀ x ∈ ws, x.size ≤ 1048576) :
    Calls Try.prog 3 #[v, .int .u32 k, vl] w fun e w' => e = .returned (.bool true) ∧ Below w.heap.size w w' := by
  have HL : Hid (∀ W : World, _) := lives_any
  have HSub : Hid (∀ (a : Value) W, RdU W a us → _) := fun a W h => sub_any a us k 9 W h (by omega) hk (by omega)
  have HRep : Hid (∀ (a : Value) W, RdU W a us → _) := fun a W h => replace_any a (.slice none 0 0) us [] k 0 W h (.inl ⟨_, _, rfl, rfl⟩) (by omega) (by simp) hk (by omega)
  have HSet : Hid (∀ W, RdS W vl ws → _) := fun W h => set_any vl ws W h (by omega) (fun x hx => Nat.le_trans (hwz x hx) (by omega))
  have HRSet : Hid (∀ W, RdS W vl ws → _) := fun W h => rset_any vl ws W h (by omega)
  have hsl := setS_len ws
  have HSame : Hid (∀ (a b : Value) (W : World), RdU W a us → RdU W b us → Calls Try.prog 8 #[a, b] W fun e w' => e = .returned (.bool true) ∧ Below W.heap.size W w') := fun a b W h h' => by
    have h3 := rsame_any a b us us W h h' (by omega) (by omega)
    rw [show sameU us us = true by simp [sameU]] at h3
    exact h3
  have HCuts : Hid (∀ (a : Value) W, RdU W a us → _) := fun a W h => cutsLaw a (.slice none 0 0) us [] k 9 0 W h (.inl ⟨_, _, rfl, rfl⟩) hn (by simp) hk (by omega)
  have HStr : Hid (∀ (a b : Value) (W : World), RdS W a (setS ws) → RdS W b (setS ws) → Calls Try.prog 10 #[a, b] W fun e w' => e = .returned (.bool true) ∧ Below W.heap.size W w') := fun a b W h h' => by
    have h3 := rstrings_any a b (setS ws) (setS ws) W h h' (by omega)
    rw [show sameSd (setS ws) (setS ws) = true by simp [sameSd]] at h3
    exact h3
  unfold SubPost at HSub
  unfold RepPost at HRep
  have hl1 : (subU us k 9).length ≤ 1048576 := Nat.le_trans (subU_len us k 9) hn
  have hl2 := repU_len us k 0 []
  generalize subE us k = se at *
  generalize subU us k 9 = su at *
  generalize repE us k 0 [] = re at *
  generalize repU us k 0 [] = ru at *
  go_enter Try.func3, Try.ntmps3
  go_wp2_with fail
  refine (HL.out _).mono ?_
  rintro e w1 ⟨rfl, b1⟩
  replace hr := hr.later b1
  replace hl := hl.later b1
  obtain ⟨gv, w2, e1, og, c1⟩ := run_fresh_rd w1 v us 23 hr (by omega)
  replace hr := hr.later c1
  replace hl := hl.later c1
  replace b1 := b1.trans (c1.mono b1.size)
  have rg := own_RdU og
  clear c1 og
  go_wp2_with (at_builtin; refine wpList_append_run _ rfl _ _ 23 23 rfl _ _ rfl rfl _ _ e1 ?_)
  refine (HSub.out _ _ rg).mono ?_
  rintro e w3 ⟨a, rfl, oa, b2⟩
  have rg3 := rg.later b2
  go_wp2_with fail
  refine (HRep.out _ _ rg3).mono ?_
  rintro e w4 ⟨b, rfl, ob, b3⟩
  have b23 := b2.trans (b3.mono b2.size)
  have oa4 := own_below oa b3
  have hl4 := hl.later b23
  go_wp2_with fail
  refine (HSet.out _ hl4).mono ?_
  rintro e w5 ⟨st, rfl, os, b4⟩
  have b25 := b23.trans (b4.mono b23.size)
  have oa5 := own_below oa4 b4
  have ob5 := own_below ob b4
  have ga : ∀ g, a.ownBlock = some g → g < w3.heap.size := fun g hg => (oa.lt g hg).2
  have gb : ∀ g, b.ownBlock = some g → g < w4.heap.size := fun g hg => (ob.lt g hg).2
  have s35 : w3.heap.size ≤ w5.heap.size := Nat.le_trans b3.size b4.size
  have s45 := b4.size
  have s34 := b3.size
  have s23 := b2.size
  clear oa oa4 ob hl4 b3 b4 b23 rg3 HSub HRep HL
  obtain ⟨aa, ac, hfa, fa⟩ := own_form oa5
  obtain ⟨ba, bc, hfb, fb⟩ := own_form ob5
  obtain ⟨sa, sc, hfs, fs⟩ := own_form os
  have wa := Wr.start oa5
  have HFin : Hid (∀ (wb ww wf : World), Wr 32 a su.length w5 wb → Wr 32 b ru.length wb ww → Wr 9 st (setS ws).length ww wf → Below w2.heap.size w2 wf) := fun wb ww wf h1 h2 h3 => by
    have c1 := b25.trans (h1.below oa5 (by omega))
    have obb := own_far h1 ga ob5
    have c2 := c1.trans ((h2.below obb (Nat.le_trans s35 h1.gr.size)).mono (by omega))
    have osb := own_far h1 (fun g hg => Nat.lt_of_lt_of_le (ga g hg) (by omega)) os
    have osw := own_far h2 gb osb
    have sz : w4.heap.size ≤ ww.heap.size := Nat.le_trans s45 (Nat.le_trans h1.gr.size h2.gr.size)
    exact c2.trans ((h3.below osw sz).mono (by omega))
  have HB0 : Hid (∀ wb, Wr 32 a su.length w5 wb → Wr 32 b ru.length wb wb) := fun wb h1 => Wr.start (own_far h1 ga ob5)
  have HS0 : Hid (∀ wb ww, Wr 32 a su.length w5 wb → Wr 32 b ru.length wb ww → Wr 9 st (setS ws).length ww ww) := fun wb ww h1 h2 => by
    have osb := own_far h1 (fun g hg => Nat.lt_of_lt_of_le (ga g hg) (by omega)) os
    exact Wr.start (own_far h2 gb osb)
  subst hfa hfb hfs
  clear oa5 ob5 os b25 s35 s45 s34 s23 ga gb
  go_wp2
  go_loopw [37] (fun i wr => ∃ j : Nat, j ≤ su.length ∧ i = .int .i64 j ∧ Wr 32 (.slice aa su.length ac) su.length w5 wr) (fun i _ => su.length - (RowKit.intOf i).toNat)
  case atStart => exact ⟨0, Nat.zero_le _, rfl, wa⟩
  case round =>
    obtain ⟨j, hj, rfl, hwr⟩ := hrel
    by_cases hlt : j < su.length
    · obtain ⟨g, rfl, hgo⟩ := fa (by omega)
      obtain ⟨⟨u, hu⟩, hf⟩ := hwr.cell hgo hlt
      have hp := hwr.put (k := j) hgo (.int .u16 77)
      clear hwr
      go_wp2
      go_roundw
      case rel => exact ⟨j + 1, by omega, by go_num, hp⟩
      case measure => simp [RowKit.intOf]; omega
    · have q1 : ¬ (j : Int) < (su.length : Int) := by omega
      obtain ⟨wA, hwA⟩ : ∃ wA, wA = wr := ⟨_, rfl⟩
      subst hwA
      have wb := HB0.out wA hwr
      clear wa fa
      go_wp2
      go_loopw [46] (fun i ww => ∃ j : Nat, j ≤ ru.length ∧ i = .int .i64 j ∧ Wr 32 (.slice ba ru.length bc) ru.length wA ww) (fun i _ => ru.length - (RowKit.intOf i).toNat)
      case atStart => exact ⟨0, Nat.zero_le _, rfl, wb⟩
      case round =>
        obtain ⟨j2, hj2, rfl, hww⟩ := hrel
        by_cases hlt2 : j2 < ru.length
        · obtain ⟨g, rfl, hgo⟩ := fb (by omega)
          obtain ⟨⟨u, hu⟩, hf⟩ := hww.cell hgo hlt2
          have hp := hww.put (k := j2) hgo (.int .u16 77)
          clear hww
          go_wp2
          go_roundw
          case rel => exact ⟨j2 + 1, by omega, by go_num, hp⟩
          case measure => simp [RowKit.intOf]; omega
        · have q2 : ¬ (j2 : Int) < (ru.length : Int) := by omega
          obtain ⟨wB, hwB⟩ : ∃ wB, wB = wr := ⟨_, rfl⟩
          subst hwB
          have ws0 := HS0.out _ _ hwr hww
          clear wb fb
          go_wp2
          go_loopw [55] (fun i wf => ∃ j : Nat, j ≤ (setS ws).length ∧ i = .int .i64 j ∧ Wr 9 (.slice sa (setS ws).length sc) (setS ws).length wB wf) (fun i _ => (setS ws).length - (RowKit.intOf i).toNat)
          case atStart => exact ⟨0, Nat.zero_le _, rfl, ws0⟩
          case round =>
            obtain ⟨j3, hj3, rfl, hwf⟩ := hrel
            by_cases hlt3 : j3 < (setS ws).length
            · obtain ⟨g, rfl, hgo⟩ := fs (by omega)
              obtain ⟨⟨u, hu⟩, hf⟩ := hwf.cell hgo hlt3
              have hp := hwf.put (k := j3) hgo (.string ⟨#[103, 111, 110, 101]⟩)
              clear hwf
              go_wp2
              go_roundw
              case rel => exact ⟨j3 + 1, by omega, by go_num, hp⟩
              case measure => simp [RowKit.intOf]; omega
            · have q3 : ¬ (j3 : Int) < ((setS ws).length : Int) := by omega
              have cf := HFin.out _ _ _ hwr hww hwf
              have hrf := hr.later cf
              have hlf := hl.later cf
              have rgf := rg.later cf
              replace b1 := b1.trans (cf.mono b1.size)
              clear ws0 fs hwf hww hwr cf HFin HB0 HS0
              go_wp2_with fail
              refine (HSame.out _ _ _ rgf hrf).mono ?_
              rintro e x1 ⟨rfl, d1⟩
              replace rgf := rgf.later d1
              replace hlf := hlf.later d1
              replace b1 := b1.trans (d1.mono b1.size)
              clear d1
              go_wp2_with fail
              refine (HCuts.out _ _ rgf).mono ?_
              rintro e x2 ⟨rfl, d1⟩
              replace hlf := hlf.later d1
              replace b1 := b1.trans (d1.mono b1.size)
              clear d1
              go_wp2_with fail
              refine (HSet.out _ hlf).mono ?_
              rintro e x3 ⟨p1, rfl, o1, d1⟩
              replace hlf := hlf.later d1
              replace b1 := b1.trans (d1.mono b1.size)
              have r1 := own_RdS o1
              clear d1 o1
              go_wp2_with fail
              refine (HRSet.out _ hlf).mono ?_
              rintro e x4 ⟨p2, rfl, o2, d1⟩
              replace b1 := b1.trans (d1.mono b1.size)
              replace r1 := r1.later d1
              have r2 := own_RdS o2
              clear d1 o2
              go_wp2_with fail
              refine (HStr.out _ _ _ r1 r2).mono ?_
              rintro e x5 ⟨rfl, d1⟩
              replace b1 := b1.trans (d1.mono b1.size)
              go_wp2
              go_ret
              exact ⟨rfl, b1⟩

theorem ownLaw_upto (v : Value) (us : List Nat) (k : Int) (vl : Value) (ws : List ByteArray) (w : World) (hr : RdU w v us) (hn : us.length ≤ 1048576) (_hu : ∀ x ∈ us, x < 65536) (hk : 0 ≤ k ∧ k ≤ 4294967295) (hl : RdS w vl ws) (hwl : ws.length ≤ 1048576) (hwz : ∀ x ∈ ws, x.size ≤ 1048576) :
    Calls Try.prog 3 #[v, .int .u32 k, vl] w fun e w' => e = .returned (.bool true) ∧ Below w.heap.size w w' := by
  obtain ⟨k', rfl⟩ := Int.eq_ofNat_of_zero_le hk.1
  exact ownLaw v vl us k' ws w hr hl hn (by omega) hwl hwz
end Go.Proofs.Ytipkdbhdpmkjcab
