/- The reference of abort: Of; Abort that is refused, or of one that is aborted. -/
import Derived.Test.YtlibjjmaicgemaaAbEE
import Derived.Test.YtlibjjmaicgemaaAbII
import Derived.Test.YtlibjjmaicgemaaAbJJ
namespace Go.Proofs.Ytlibjjmaicgemaa
open Go.RowKit Go.Lib Go.Shelf

theorem ref_check (ls : List SigD) : refCheck ls = checkS ls := by
  unfold refCheck checkS
  rw [ref_right]
theorem checkR_all (v : Value) (ls : List SigD) (w : World) (hv : RdS w v ls) (hl : ls.length ≤ 1099511627776) (hs : SmallS ls) :
    Calls Try.prog 15 #[v] w fun e w' => e = .returned (.int .i64 (checkS ls)) ∧ Below w.heap.size w w' := by
  have h := checkR_any v ls w hv hl hs
  rw [ref_check] at h
  exact h
set_option maxRecDepth 100000 in
set_option maxHeartbeats 4000000 in
theorem OfR_err (v : Value) (ls : List SigD) (h : Int) (w : World) (hv : RdS w v ls) (hl : ls.length ≤ 1099511627776) (hs : SmallS ls) (he : (knownE ls h != 0) = true) :
    Calls Try.prog 19 #[v, .int .i64 h] w fun e w' => e = .returned (.tuple #[.bool false, .int .i64 0, .int .i64 (knownE ls h)]) ∧ Below w.heap.size w w' := by
  have hC := checkR_all v ls w hv hl hs
  have HV := hid hv
  obtain ⟨o, c, rfl, _, g⟩ := hv
  clear hs g
  unfold knownE at *
  generalize checkS ls = E at *
  cases hE : (E == 0) with
  | true =>
    rw [hE, if_pos rfl] at he
    have hz : E = 0 := by simpa using hE
    subst hz
    cases ho : outD ls.length h with
    | false => rw [ho] at he; cases he
    | true =>
      clear he HV hE
      rw [if_pos rfl, if_pos rfl]
      go_enter Try.func19, Try.ntmps19
      go_wp2_with (first | (go_at_call 28; refine (ofR_no o ls.length c h w2 ho).mono ?_; rintro e w3 ⟨rfl, hb⟩; have HB3 := hid ((HB.out.trans (hb.mono HB.out.size)).trans (((Below.refl _ w3).alloc (o := .cells #[.bool false, .int .i64 0, .bool false, .slice none 0 0, .slice none 0 0] 42) (Nat.le_refl _)).mono (HB.out.trans (hb.mono HB.out.size)).size)); clear hb) | (go_at_call 15; refine hC.mono ?_; rintro e w2 ⟨rfl, hb⟩; have HB := hid hb; clear hb))
      refine bodyPost_ret (v := .tuple #[.bool false, .int .i64 0, .int .i64 2]) (by simp [results, Try.results19, go_sem]) rfl ?_
      exact ⟨rfl, HB3.out⟩
  | false =>
    rw [hE, if_neg Bool.false_ne_true] at he
    rw [if_neg Bool.false_ne_true]
    cases ho : outD ls.length h with
    | true =>
      clear HV
      go_enter Try.func19, Try.ntmps19
      go_wp2_with (first | (go_at_call 28; refine (ofR_no o ls.length c h w2 ho).mono ?_; rintro e w3 ⟨rfl, hb⟩; have HB3 := hid ((HB.out.trans (hb.mono HB.out.size)).trans (((Below.refl _ w3).alloc (o := .cells #[.bool false, .int .i64 0, .bool false, .slice none 0 0, .slice none 0 0] 42) (Nat.le_refl _)).mono (HB.out.trans (hb.mono HB.out.size)).size)); clear hb) | (go_at_call 15; refine hC.mono ?_; rintro e w2 ⟨rfl, hb⟩; have HB := hid hb; clear hb))
      refine bodyPost_ret (v := .tuple #[.bool false, .int .i64 0, .int .i64 E]) (by simp [results, Try.results19, go_sem]) rfl ?_
      exact ⟨rfl, HB3.out⟩
    | false =>
      obtain ⟨p, rfl, hp⟩ := out_no ho
      have HO : Hid (∀ V : World, Below w.heap.size w V → _) := fun V hV => ofR_yes _ ls p V (HV.out.later hV) hl hp
      clear HV ho
      generalize ls[p] = a at *
      obtain ⟨ab, re', dep, src, dts⟩ := a
      dsimp only at *
      go_enter Try.func19, Try.ntmps19
      go_wp2_with (first | (go_at_call 28; refine (HO.out w2 HB.out).mono ?_; rintro e w3 ⟨so, sc, sd, dc, rfl, hrs, hrd, hb⟩; have HB2 := hid (HB.out.trans (hb.mono HB.out.size)); have hba : Below w3.heap.size w3 (w3.alloc (.cells #[.bool ab, .int .i64 re', .bool dep, .slice so src.length sc, .slice sd dts.length dc] 42)) := (Below.refl _ w3).alloc (Nat.le_refl _) _; have HB3 := hid (HB2.out.trans (hba.mono HB2.out.size)); have HX := hid (heap_new w3 (.cells #[.bool ab, .int .i64 re', .bool dep, .slice so src.length sc, .slice sd dts.length dc] 42)); have HRD := hid (hrd.later (hb.trans (hba.mono hb.size))); clear hb hba hrs hrd) | (go_at_call 15; refine hC.mono ?_; rintro e w2 ⟨rfl, hb⟩; have HB := hid hb; clear hb))
      refine bodyPost_ret (v := .tuple #[.bool false, .int .i64 0, .int .i64 E]) (by simp [results, Try.results19, go_sem]) rfl ?_
      exact ⟨rfl, HB3.out⟩
set_option maxRecDepth 100000 in
set_option maxHeartbeats 4000000 in
theorem AbortR_err (v : Value) (ls : List SigD) (h re : Int) (w : World) (hv : RdS w v ls) (hl : ls.length ≤ 1099511627776) (hs : SmallS ls) (he : (knownE ls h != 0) = true) :
    Calls Try.prog 17 #[v, .int .i64 h, .int .i64 re] w fun e w' => e = .returned (.tuple #[.slice none 0 0, .slice none 0 0, .int .i64 (knownE ls h)]) ∧ Below w.heap.size w w' := by
  have hC := checkR_all v ls w hv hl hs
  have HV := hid hv
  obtain ⟨o, c, rfl, _, g⟩ := hv
  clear hs g
  unfold knownE at *
  generalize checkS ls = E at *
  cases hE : (E == 0) with
  | true =>
    rw [hE, if_pos rfl] at he
    have hz : E = 0 := by simpa using hE
    subst hz
    cases ho : outD ls.length h with
    | false => rw [ho] at he; cases he
    | true =>
      clear he HV hE
      rw [if_pos rfl, if_pos rfl]
      go_enter Try.func17, Try.ntmps17
      go_wp2_with (first | (go_at_call 28; refine (ofR_no o ls.length c h w2 ho).mono ?_; rintro e w3 ⟨rfl, hb⟩; have HB3 := hid ((HB.out.trans (hb.mono HB.out.size)).trans (((Below.refl _ w3).alloc (o := .cells #[.bool false, .int .i64 0, .bool false, .slice none 0 0, .slice none 0 0] 42) (Nat.le_refl _)).mono (HB.out.trans (hb.mono HB.out.size)).size)); clear hb) | (go_at_call 15; refine hC.mono ?_; rintro e w2 ⟨rfl, hb⟩; have HB := hid hb; clear hb))
      refine bodyPost_ret (v := .tuple #[.slice none 0 0, .slice none 0 0, .int .i64 2]) (by simp [results, Try.results17, go_sem]) rfl ?_
      exact ⟨rfl, HB3.out⟩
  | false =>
    rw [hE, if_neg Bool.false_ne_true] at he
    rw [if_neg Bool.false_ne_true]
    cases ho : outD ls.length h with
    | true =>
      clear HV
      go_enter Try.func17, Try.ntmps17
      go_wp2_with (first | (go_at_call 28; refine (ofR_no o ls.length c h w2 ho).mono ?_; rintro e w3 ⟨rfl, hb⟩; have HB3 := hid ((HB.out.trans (hb.mono HB.out.size)).trans (((Below.refl _ w3).alloc (o := .cells #[.bool false, .int .i64 0, .bool false, .slice none 0 0, .slice none 0 0] 42) (Nat.le_refl _)).mono (HB.out.trans (hb.mono HB.out.size)).size)); clear hb) | (go_at_call 15; refine hC.mono ?_; rintro e w2 ⟨rfl, hb⟩; have HB := hid hb; clear hb))
      refine bodyPost_ret (v := .tuple #[.slice none 0 0, .slice none 0 0, .int .i64 E]) (by simp [results, Try.results17, go_sem]) rfl ?_
      exact ⟨rfl, HB3.out⟩
    | false =>
      obtain ⟨p, rfl, hp⟩ := out_no ho
      have HO : Hid (∀ V : World, Below w.heap.size w V → _) := fun V hV => ofR_yes _ ls p V (HV.out.later hV) hl hp
      clear HV ho
      generalize ls[p] = a at *
      obtain ⟨ab, re', dep, src, dts⟩ := a
      dsimp only at *
      go_enter Try.func17, Try.ntmps17
      go_wp2_with (first | (go_at_call 28; refine (HO.out w2 HB.out).mono ?_; rintro e w3 ⟨so, sc, sd, dc, rfl, hrs, hrd, hb⟩; have HB2 := hid (HB.out.trans (hb.mono HB.out.size)); have hba : Below w3.heap.size w3 (w3.alloc (.cells #[.bool ab, .int .i64 re', .bool dep, .slice so src.length sc, .slice sd dts.length dc] 42)) := (Below.refl _ w3).alloc (Nat.le_refl _) _; have HB3 := hid (HB2.out.trans (hba.mono HB2.out.size)); have HX := hid (heap_new w3 (.cells #[.bool ab, .int .i64 re', .bool dep, .slice so src.length sc, .slice sd dts.length dc] 42)); have HRD := hid (hrd.later (hb.trans (hba.mono hb.size))); clear hb hba hrs hrd) | (go_at_call 15; refine hC.mono ?_; rintro e w2 ⟨rfl, hb⟩; have HB := hid hb; clear hb))
      refine bodyPost_ret (v := .tuple #[.slice none 0 0, .slice none 0 0, .int .i64 E]) (by simp [results, Try.results17, go_sem]) rfl ?_
      exact ⟨rfl, HB3.out⟩
set_option maxRecDepth 100000 in
set_option maxHeartbeats 4000000 in
theorem OfR_ok (v : Value) (ls : List SigD) (m : Nat) (w : World) (hv : RdS w v ls) (hl : ls.length ≤ 1099511627776) (hs : SmallS ls) (hm : m < ls.length) (he : knownE ls ((m : Int) + 1) = 0) :
    Calls Try.prog 19 #[v, .int .i64 ((m : Int) + 1)] w fun e w' => e = .returned (.tuple #[.bool ls[m].ab, .int .i64 ls[m].re, .int .i64 0]) ∧ Below w.heap.size w w' := by
  have hC := checkR_all v ls w hv hl hs
  have hE0 : checkS ls = 0 := by
    obtain ⟨h1, h2, _⟩ := known_parts he
    unfold checkS
    rw [if_neg (by omega), if_pos h1]
  rw [hE0] at hC
  have HO : Hid (∀ V : World, Below w.heap.size w V → _) := fun V hV => ofR_yes _ ls m V (hv.later hV) hl hm
  obtain ⟨o, c, rfl, _, g⟩ := hv
  clear hs he g hE0
  generalize ls[m] = a at *
  obtain ⟨ab, re', dep, src, dts⟩ := a
  dsimp only at *
  go_enter Try.func19, Try.ntmps19
  go_upto_region 7 with (first | (go_at_call 28; refine (HO.out w2 HB.out).mono ?_; rintro e w3 ⟨so, sc, sd, dc, rfl, hrs, hrd, hb⟩; have HB2 := hid (HB.out.trans (hb.mono HB.out.size)); have hba : Below w3.heap.size w3 (w3.alloc (.cells #[.bool ab, .int .i64 re', .bool dep, .slice so src.length sc, .slice sd dts.length dc] 42)) := (Below.refl _ w3).alloc (Nat.le_refl _) _; have HB3 := hid (HB2.out.trans (hba.mono HB2.out.size)); have HX := hid (heap_new w3 (.cells #[.bool ab, .int .i64 re', .bool dep, .slice so src.length sc, .slice sd dts.length dc] 42)); have HRD := hid (hrd.later (hb.trans (hba.mono hb.size))); clear hb hba hrs hrd) | (go_at_call 15; refine hC.mono ?_; rintro e w2 ⟨rfl, hb⟩; have HB := hid hb; clear hb))
  have S3 := sig_cells (x := ⟨ab, re', dep, src, dts⟩) HX.out
  have z0 := S3.ab
  have z1 := S3.re
  dsimp only at z0 z1
  go_quiet (fail)
  go_wp2
  refine bodyPost_ret (v := .tuple #[.bool ab, .int .i64 re', .int .i64 0]) (by simp [results, Try.results19, go_sem]) rfl ?_
  exact ⟨rfl, HB3.out.trans (drewN_below _ _ _)⟩
set_option maxRecDepth 100000 in
set_option maxHeartbeats 4000000 in
theorem AbortR_dep (v : Value) (ls : List SigD) (m : Nat) (re : Int) (w : World) (hv : RdS w v ls) (hl : ls.length ≤ 1099511627776) (hs : SmallS ls) (hm : m < ls.length) (he : knownE ls ((m : Int) + 1) = 0) (hd : ls[m].dep = true) :
    Calls Try.prog 17 #[v, .int .i64 ((m : Int) + 1), .int .i64 re] w fun e w' => e = .returned (.tuple #[.slice none 0 0, .slice none 0 0, .int .i64 15]) ∧ Below w.heap.size w w' := by
  have hC := checkR_all v ls w hv hl hs
  have hE0 : checkS ls = 0 := by
    obtain ⟨h1, h2, _⟩ := known_parts he
    unfold checkS
    rw [if_neg (by omega), if_pos h1]
  rw [hE0] at hC
  have HO : Hid (∀ V : World, Below w.heap.size w V → _) := fun V hV => ofR_yes _ ls m V (hv.later hV) hl hm
  obtain ⟨o, c, rfl, _, g⟩ := hv
  clear hs he g hE0
  generalize ls[m] = a at *
  obtain ⟨ab, re', dep, src, dts⟩ := a
  dsimp only at *
  subst hd
  go_enter Try.func17, Try.ntmps17
  go_wp2_with (first | (go_at_call 28; refine (HO.out w2 HB.out).mono ?_; rintro e w3 ⟨so, sc, sd, dc, rfl, hrs, hrd, hb⟩; have HB2 := hid (HB.out.trans (hb.mono HB.out.size)); have hba : Below w3.heap.size w3 (w3.alloc (.cells #[.bool ab, .int .i64 re', .bool true, .slice so src.length sc, .slice sd dts.length dc] 42)) := (Below.refl _ w3).alloc (Nat.le_refl _) _; have HB3 := hid (HB2.out.trans (hba.mono HB2.out.size)); have HX := hid (heap_new w3 (.cells #[.bool ab, .int .i64 re', .bool true, .slice so src.length sc, .slice sd dts.length dc] 42)); have HRD := hid (hrd.later (hb.trans (hba.mono hb.size))); clear hb hba hrs hrd) | (go_at_call 15; refine hC.mono ?_; rintro e w2 ⟨rfl, hb⟩; have HB := hid hb; clear hb))
  refine bodyPost_ret (v := .tuple #[.slice none 0 0, .slice none 0 0, .int .i64 15]) (by simp [results, Try.results17, go_sem]) rfl ?_
  exact ⟨rfl, HB3.out⟩
set_option maxRecDepth 100000 in
set_option maxHeartbeats 4000000 in
theorem AbortR_was (v : Value) (ls : List SigD) (m : Nat) (re : Int) (w : World) (hv : RdS w v ls) (hl : ls.length ≤ 1099511627776) (hs : SmallS ls) (hm : m < ls.length) (he : knownE ls ((m : Int) + 1) = 0) (hd : ls[m].dep = false) (hab : ls[m].ab = true) :
    Calls Try.prog 17 #[v, .int .i64 ((m : Int) + 1), .int .i64 re] w fun e w' => ∃ o c l, e = .returned (.tuple #[.slice o ls.length c, .slice none 0 0, .int .i64 0]) ∧ l.map (·.1) = ls ∧ OwnS w' w' w.heap.size (.slice o ls.length c) l l.length ∧ Below w.heap.size w w' := by
  have hC := checkR_all v ls w hv hl hs
  have hE0 : checkS ls = 0 := by
    obtain ⟨h1, h2, _⟩ := known_parts he
    unfold checkS
    rw [if_neg (by omega), if_pos h1]
  rw [hE0] at hC
  have HO : Hid (∀ V : World, Below w.heap.size w V → _) := fun V hV => ofR_yes _ ls m V (hv.later hV) hl hm
  have HCp : Hid (∀ V : World, Below w.heap.size w V → _) := fun V hV => copyR_any v ls V (hv.later hV) hl hs
  obtain ⟨o, c, rfl, _, g⟩ := hv
  clear hs he g hE0
  generalize ls[m] = a at *
  obtain ⟨ab, re', dep, src, dts⟩ := a
  dsimp only at *
  subst hd
  subst hab
  go_enter Try.func17, Try.ntmps17
  go_wp2_with (first | (go_at_call 7; refine (HCp.out _ HB3.out).mono ?_; rintro e w4 ⟨o4, c4, l, rfl, hm4, ho4, hb⟩; have HM := hid hm4; have HOc := hid (ho4.base (w1 := w4) HB3.out.size); have HB4 := hid (HB3.out.trans (hb.mono HB3.out.size)); have S3 := sig_cells (x := ⟨true, re', false, src, dts⟩) (blkLater hb HX.out); have z0 := S3.ab; dsimp only at z0; clear hm4 ho4 hb S3) | (go_at_call 28; refine (HO.out w2 HB.out).mono ?_; rintro e w3 ⟨so, sc, sd, dc, rfl, hrs, hrd, hb⟩; have HB2 := hid (HB.out.trans (hb.mono HB.out.size)); have hba : Below w3.heap.size w3 (w3.alloc (.cells #[.bool true, .int .i64 re', .bool false, .slice so src.length sc, .slice sd dts.length dc] 42)) := (Below.refl _ w3).alloc (Nat.le_refl _) _; have HB3 := hid (HB2.out.trans (hba.mono HB2.out.size)); have HX := hid (heap_new w3 (.cells #[.bool true, .int .i64 re', .bool false, .slice so src.length sc, .slice sd dts.length dc] 42)); have HRD := hid (hrd.later (hb.trans (hba.mono hb.size))); clear hb hba hrs hrd) | (go_at_call 15; refine hC.mono ?_; rintro e w2 ⟨rfl, hb⟩; have HB := hid hb; clear hb))
  refine bodyPost_ret (v := .tuple #[.slice o4 ls.length c4, .slice none 0 0, .int .i64 0]) (by simp [results, Try.results17, go_sem]) rfl ?_
  exact ⟨o4, c4, l, rfl, HM.out, HOc.out, HB4.out⟩
end Go.Proofs.Ytlibjjmaicgemaa
