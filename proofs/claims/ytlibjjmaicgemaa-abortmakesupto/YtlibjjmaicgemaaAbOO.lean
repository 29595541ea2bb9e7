/- The reference of abort: New. -/
import Derived.Test.YtlibjjmaicgemaaAbKK
namespace Go.Proofs.Ytlibjjmaicgemaa
open Go.RowKit Go.Lib Go.Shelf

/-- append of one more signal, that is built for it. -/
theorem more_new {W w0 : World} {base : Nat} {v : Value} {l : List SigV} (h : OwnS W w0 base v l l.length) (hB : base ≤ W.heap.size) (xa : Bool) (xr : Int) (xd : Bool) (hn : l.length ≤ 1099511627775) :
    ∃ o c W', (Builtin.append_ #[22, 22] 22 #[v, .slice (some ⟨W.heap.size, 0, none⟩) 1 1]).run Try.prog (W.alloc (.cells #[.bool xa, .int .i64 xr, .bool xd, .slice none 0 0, .slice none 0 0] 42)) = .ok (.slice o (l.length + 1) c) W' ∧ OwnS W' w0 base (.slice o (l.length + 1) c) (l ++ [(⟨xa, xr, xd, [], []⟩, Value.slice none 0 0, Value.slice none 0 0)]) (l ++ [((⟨xa, xr, xd, [], []⟩ : SigD), Value.slice none 0 0, Value.slice none 0 0)]).length ∧ Below base W W' := by
  have hba : Below W.heap.size W (W.alloc (.cells #[.bool xa, .int .i64 xr, .bool xd, .slice none 0 0, .slice none 0 0] 42)) := (Below.refl _ W).alloc (Nat.le_refl _) _
  obtain ⟨o, c, W', hr, hO, hb, _⟩ := more_run (h.later hba) (Nat.le_trans hB hba.size) ⟨xa, xr, xd, [], []⟩ rfl rfl W.heap.size (heap_new W _) hn
  exact ⟨o, c, W', hr, hO, (hba.mono hB).trans hb⟩
theorem full_big {ls : List SigD} (h : checkS ls = 0) : ls.length ≤ 1024 := by
  unfold checkS at h
  by_cases hb : 1024 < ls.length
  · rw [if_pos hb] at h; cases h
  · omega
set_option maxRecDepth 100000 in
set_option maxHeartbeats 4000000 in
theorem newR_err (v : Value) (ls : List SigD) (re : Int) (w : World) (hv : RdS w v ls) (hl : ls.length ≤ 1099511627776) (hs : SmallS ls) (he : (fullE ls != 0) = true) :
    Calls Try.prog 9 #[v, .int .i64 re] w fun e w' => e = .returned (.tuple #[.slice none 0 0, .int .i64 0, .int .i64 (fullE ls)]) ∧ Below w.heap.size w w' := by
  have hC := checkR_all v ls w hv hl hs
  obtain ⟨o, c, rfl, _, g⟩ := hv
  clear hs g
  unfold fullE at *
  generalize checkS ls = E at *
  cases hE : (E == 0) with
  | true =>
    rw [hE, if_pos rfl] at he
    have hz : E = 0 := by simpa using hE
    subst hz
    by_cases hf : ls.length = 1024
    · have hg : decide ((ls.length : Int) ≥ 1024) = true := decide_eq_true (by omega)
      rw [if_pos rfl, if_pos hf]
      clear he hE
      have Hf := hid hf
      clear hf
      go_enter Try.func9, Try.ntmps9
      go_wp2_with (go_at_call 15; refine hC.mono ?_; rintro e w2 ⟨rfl, hb⟩; have HB := hid hb; clear hb)
      refine bodyPost_ret (v := .tuple #[.slice none 0 0, .int .i64 0, .int .i64 3]) (by simp [results, Try.results9, go_sem]) rfl ?_
      exact ⟨rfl, HB.out⟩
    · rw [if_neg hf] at he
      cases he
  | false =>
    rw [hE, if_neg Bool.false_ne_true] at he
    rw [if_neg Bool.false_ne_true]
    go_enter Try.func9, Try.ntmps9
    go_wp2_with (go_at_call 15; refine hC.mono ?_; rintro e w2 ⟨rfl, hb⟩; have HB := hid hb; clear hb)
    refine bodyPost_ret (v := .tuple #[.slice none 0 0, .int .i64 0, .int .i64 E]) (by simp [results, Try.results9, go_sem]) rfl ?_
    exact ⟨rfl, HB.out⟩
theorem full_zero {ls : List SigD} (h : fullE ls = 0) : checkS ls = 0 ∧ ls.length < 1024 := by
  unfold fullE at h
  by_cases hc : checkS ls = 0
  · have := full_big hc
    rw [hc] at h
    by_cases hf : ls.length = 1024
    · rw [show ((0 : Int) == 0) = true from rfl, if_pos rfl, if_pos hf] at h
      cases h
    · exact ⟨hc, by omega⟩
  · have : (checkS ls == 0) = false := by simpa using hc
    rw [this, if_neg Bool.false_ne_true] at h
    exact absurd h hc
set_option maxRecDepth 100000 in
set_option maxHeartbeats 4000000 in
theorem newR_ok (v : Value) (ls : List SigD) (re : Int) (w : World) (hv : RdS w v ls) (hs : SmallS ls) (he : fullE ls = 0) :
    Calls Try.prog 9 #[v, .int .i64 re] w fun e w' => ∃ o c l, e = .returned (.tuple #[.slice o (ls.length + 1) c, .int .i64 ((ls.length : Int) + 1), .int .i64 0]) ∧ l.map (·.1) = ls ++ [⟨re != 0, re, false, [], []⟩] ∧ OwnS w' w' w.heap.size (.slice o (ls.length + 1) c) l l.length ∧ Below w.heap.size w w' := by
  obtain ⟨hE, hlt⟩ := full_zero he
  have hC := checkR_all v ls w hv (by omega) hs
  rw [hE] at hC
  have HCp : Hid (∀ V : World, Below w.heap.size w V → _) := fun V hV => copyR_any v ls V (hv.later hV) (by omega) hs
  obtain ⟨o, c, rfl, _, g⟩ := hv
  have hg : decide ((ls.length : Int) ≥ 1024) = false := decide_eq_false (by omega)
  clear hs g he hE
  go_enter Try.func9, Try.ntmps9
  go_upto_region 6 with (go_at_call 15; refine hC.mono ?_; rintro e w2 ⟨rfl, hb⟩; have HB := hid hb; clear hb)
  go_wp2_with (first
    | (at_builtin; refine wpList_append_run _ rfl _ _ 22 22 rfl _ _ rfl rfl _ _ HA.out ?_)
    | (go_at_call 7; refine (HCp.out w2 HB.out).mono ?_; rintro e w3 ⟨o3, c3, l, rfl, hm3, ho3, hb⟩; have HM := hid hm3; have hll : l.length = ls.length := (by rw [← hm3]; simp); obtain ⟨o4, c4, W4, hap, hO4, hb4⟩ := more_new ho3 hb.size (re != 0) re false (by omega); rw [hll] at hap hO4; have HA := hid hap; have HO4 := hid hO4; have HB4 := hid (HB.out.trans ((hb.trans (hb4.mono (Nat.le_refl _))).mono HB.out.size)); clear hap hO4 hb4 hb ho3 hm3 hll))
  refine bodyPost_ret (v := .tuple #[.slice o4 (ls.length + 1) c4, .int .i64 ((ls.length : Int) + 1), .int .i64 0]) (by simp [results, Try.results9, go_sem]) rfl ?_
  exact ⟨o4, c4, _, rfl, by rw [List.map_append, HM.out]; rfl, HO4.out.base HB.out.size, HB4.out⟩
end Go.Proofs.Ytlibjjmaicgemaa
