/- The walk of the law UnitsWords. -/
import Derived.Test.YtbefinbihopgfaaDoorUWJoin
import Derived.Test.YtbefinbihopgfaaDoorUWLow
import Derived.Test.YtbefinbihopgfaaDoorULives
import Derived.Deep.AppendSrc
import Derived.Lib.AppendZeros
namespace Go.Proofs.YtbefinbihopgfaaDoor
open Go.RowKit Go.Lib

theorem uw_same (l : List ByteArray) : sameSd l l = true := by simp [sameSd]
theorem uw_setlen (ws : List ByteArray) : (setS ws).length ≤ ws.length := by
  rw [← setTo_all]
  exact setTo_le ws ws.length (Nat.le_refl _)
theorem uw_fold (s t : ByteArray) : foldB s t = ((⟨(lowD s.data.toList).toArray⟩ : ByteArray).toList == (⟨(lowD t.data.toList).toArray⟩ : ByteArray).toList) := by
  unfold foldB
  rw [toList_mk, toList_mk]

set_option maxRecDepth 100000 in
set_option maxHeartbeats 2000000 in
theorem wordsLaw (s t : ByteArray) (vl : Value) (ws : List ByteArray) (b : Nat) (w : World) (hs : s.size ≤ 1048576) (ht : t.size ≤ 1048576) (hl : RdS w vl ws) (hn : ws.length ≤ 1048576) (hz : ∀ x ∈ ws, x.size ≤ 1048576) (hT : Tabs w) :
    Calls Tryd.prog 3 #[.string s, .string t, vl, .int .u8 (b : Int)] w fun e w' => e = .returned (.bool true) ∧ Below w.heap.size w w' := by
  have HL : Hid (∀ W : World, _) := lives_any
  have HSet : Hid (∀ (a : Value) W, RdS W a ws → _) := fun a W h => set_any a ws W h (by omega) (fun x hx => Nat.le_trans (hz x hx) (by omega))
  have HRSet : Hid (∀ (a : Value) W, RdS W a ws → _) := fun a W h => rset_any a ws W h (by omega)
  have hsl := uw_setlen ws
  have HStr : Hid (∀ (l : List ByteArray) (a b : Value) (W : World), l.length ≤ 2097152 → RdS W a l → RdS W b l → Calls Tryd.prog 8 #[a, b] W fun e w' => e = .returned (.bool true) ∧ Below W.heap.size W w') := fun l a b W hll h h' => by
    have h3 := rstrings_any a b l l W h h' (by omega)
    rw [uw_same] at h3
    exact h3
  have HB : Hid (∀ W : World, _) := fun W => blank_any b W
  have HRB : Hid (∀ W : World, _) := fun W => rblank_any b W
  have HLo : Hid (∀ W : World, _) := fun W => lower_any s W (by omega)
  have HRLs : Hid (∀ W : World, _) := fun W => rlower_any s W (by omega)
  have HRLt : Hid (∀ W : World, _) := fun W => rlower_any t W (by omega)
  have HF : Hid (∀ W : World, _) := fun W => fold_any s t W (by omega) (by omega)
  have HSt : Hid (∀ W : World, Tabs W → _) := fun W h => ustrip_any s W (by omega) h
  have HRSt : Hid (∀ W : World, _) := fun W => rstrip_any s W (by omega)
  have HSp : Hid (∀ W : World, _) := fun W => usplit_any s W (by omega)
  have hwl := words_len s
  have hfl := flat_len s hs
  have HRSp : Hid (∀ W : World, _) := fun W => rsplit_any s W (by omega)
  have HCo : Hid (∀ W : World, _) := fun W => collapse_any s W (by omega) (by omega)
  have HRJ : Hid (∀ (a : Value) W, RdS W a (wordsOf s) → _) := fun a W h => rjoin_any a (wordsOf s) W h (by omega) (by omega)
  have hgf : goFieldsP blankB s = wordsOf s := rfl
  unfold flatD at HCo
  rw [hgf] at HRSp
  rw [uw_fold] at HF
  clear hgf hfl
  generalize wordsOf s = sw at *
  generalize (joinS sw ⟨#[32]⟩).toArray = jw at *
  generalize trimF blankB s = ts at *
  generalize (lowD s.data.toList).toArray = ls at *
  generalize (lowD t.data.toList).toArray = lt at *
  generalize setS ws = st at *
  generalize blankB b = bb at *
  obtain ⟨gv, w1, e1, og, c1⟩ := run_fresh_rdS w vl ws 22 hl (by omega)
  have rg := own_RdS og
  replace hl := hl.later c1
  replace hT := hT.later c1
  have b1 := c1
  clear c1 og
  go_enter Tryd.func3, Tryd.ntmps3
  go_wp2_with (at_builtin; refine wpList_append_run _ rfl _ _ 22 22 rfl _ _ rfl rfl _ _ e1 ?_)
  refine (HSet.out _ _ rg).mono ?_
  rintro e w2 ⟨sv, rfl, os, c⟩
  have rs := own_RdS os
  replace rg := rg.later c
  replace hl := hl.later c
  replace hT := hT.later c
  replace b1 := b1.trans (c.mono b1.size)
  clear c os e1
  go_wp2_with fail
  refine (HL.out _).mono ?_
  rintro e w3 ⟨rfl, c⟩
  replace rs := rs.later c
  replace rg := rg.later c
  replace hl := hl.later c
  replace hT := hT.later c
  replace b1 := b1.trans (c.mono b1.size)
  clear c
  go_wp2_with fail
  refine (HRSet.out _ _ hl).mono ?_
  rintro e w4 ⟨rv, rfl, os, c⟩
  have rr := own_RdS os
  replace rs := rs.later c
  replace rg := rg.later c
  replace hl := hl.later c
  replace hT := hT.later c
  replace b1 := b1.trans (c.mono b1.size)
  clear c os
  go_wp2_with fail
  refine (HStr.out st _ _ _ (by omega) rs rr).mono ?_
  rintro e w5 ⟨rfl, c⟩
  replace rg := rg.later c
  replace hl := hl.later c
  replace hT := hT.later c
  replace b1 := b1.trans (c.mono b1.size)
  clear c rs rr
  go_wp2_with fail
  refine (HStr.out ws _ _ _ (by omega) rg hl).mono ?_
  rintro e w6 ⟨rfl, c⟩
  replace hT := hT.later c
  replace b1 := b1.trans (c.mono b1.size)
  clear c rg hl
  go_wp2_with fail
  refine (HB.out _).mono ?_
  rintro e _ ⟨rfl, rfl⟩
  go_wp2_with fail
  refine (HRB.out _).mono ?_
  rintro e _ ⟨rfl, rfl⟩
  have hbb : (bb != bb) = false := by simp
  go_wp2_with fail
  refine (HLo.out _).mono ?_
  rintro e w7 ⟨rfl, c⟩
  replace hT := hT.later c
  replace b1 := b1.trans (c.mono b1.size)
  clear c
  go_wp2_with fail
  refine (HRLs.out _).mono ?_
  rintro e w8 ⟨rfl, c⟩
  replace hT := hT.later c
  replace b1 := b1.trans (c.mono b1.size)
  clear c
  go_wp2_with fail
  refine (HF.out _).mono ?_
  rintro e w9 ⟨rfl, c⟩
  replace hT := hT.later c
  replace b1 := b1.trans (c.mono b1.size)
  clear c
  go_wp2_with fail
  refine (HRLs.out _).mono ?_
  rintro e w10 ⟨rfl, c⟩
  replace hT := hT.later c
  replace b1 := b1.trans (c.mono b1.size)
  clear c
  go_wp2_with fail
  refine (HRLt.out _).mono ?_
  rintro e w11 ⟨rfl, c⟩
  replace hT := hT.later c
  replace b1 := b1.trans (c.mono b1.size)
  clear c
  go_wp2_with fail
  refine (HSt.out _ hT).mono ?_
  rintro e w12 ⟨rfl, c⟩
  replace b1 := b1.trans (c.mono b1.size)
  clear c hT
  go_wp2_with fail
  refine (HRSt.out _).mono ?_
  rintro e _ ⟨rfl, rfl⟩
  go_wp2_with fail
  refine (HSp.out _).mono ?_
  rintro e w13 ⟨A, rfl, _, cs, c⟩
  have r1 := cs.rd sw.length
  replace b1 := b1.trans (c.mono b1.size)
  clear c cs
  go_wp2_with fail
  refine (HRSp.out _).mono ?_
  rintro e w14 ⟨rv, rfl, os, c⟩
  have r2 := own_RdS os
  replace r1 := r1.later c
  replace b1 := b1.trans (c.mono b1.size)
  clear c os
  go_wp2_with fail
  refine (HStr.out sw _ _ _ (by omega) r1 r2).mono ?_
  rintro e w15 ⟨rfl, c⟩
  replace b1 := b1.trans (c.mono b1.size)
  clear c r1 r2
  go_wp2_with fail
  refine (HCo.out _).mono ?_
  rintro e w16 ⟨rfl, c⟩
  replace b1 := b1.trans (c.mono b1.size)
  clear c
  go_wp2_with fail
  refine (HRSp.out _).mono ?_
  rintro e w17 ⟨rv, rfl, os, c⟩
  have r2 := own_RdS os
  replace b1 := b1.trans (c.mono b1.size)
  clear c os
  go_wp2_with fail
  refine (HRJ.out _ _ r2).mono ?_
  rintro e w18 ⟨rfl, c⟩
  replace b1 := b1.trans (c.mono b1.size)
  clear c r2
  go_wp2
  go_ret
  exact ⟨rfl, b1⟩
end Go.Proofs.YtbefinbihopgfaaDoor
