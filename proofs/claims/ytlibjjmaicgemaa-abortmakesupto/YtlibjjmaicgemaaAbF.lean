/- abort.known, full, Of. -/
import Derived.Test.YtlibjjmaicgemaaAbR
namespace Go.Proofs.Ytlibjjmaicgemaa
open Go.RowKit Go.Lib Go.Shelf

def knownE (ls : List SigD) (h : Int) : Int := if (checkS ls == 0) = true then (if outD ls.length h = true then 2 else 0) else checkS ls
def fullE (ls : List SigD) : Int := if (checkS ls == 0) = true then (if ls.length = 1024 then 3 else 0) else checkS ls
theorem known_parts {ls : List SigD} {h : Int} (hk : knownE ls h = 0) : rightD ls = true ∧ ls.length ≤ 1024 ∧ outD ls.length h = false := by
  unfold knownE at hk
  cases hc : (checkS ls == 0) with
  | false =>
    rw [hc, if_neg Bool.false_ne_true] at hk
    rw [hk] at hc
    cases hc
  | true =>
    rw [hc, if_pos rfl] at hk
    have h0 : checkS ls = 0 := by simpa using hc
    unfold checkS at h0
    by_cases hm : 1024 < ls.length
    · rw [if_pos hm] at h0; cases h0
    · rw [if_neg hm] at h0
      refine ⟨?_, by omega, ?_⟩
      · cases hr : rightD ls with
        | true => rfl
        | false => rw [hr, if_neg Bool.false_ne_true] at h0; cases h0
      · cases ho : outD ls.length h with
        | false => rfl
        | true => rw [ho, if_pos rfl] at hk; cases hk
theorem known_ok {ls : List SigD} {h : Int} (hr : rightD ls = true) (hl : ls.length ≤ 1024) (ho : outD ls.length h = false) : knownE ls h = 0 := by
  have hc : checkS ls = 0 := by unfold checkS; rw [if_neg (by omega), hr, if_pos rfl]
  unfold knownE
  rw [hc, ho]
  rfl
set_option maxRecDepth 100000 in
set_option maxHeartbeats 4000000 in
theorem known_any (v : Value) (ls : List SigD) (h : Int) (w : World) (hv : RdS w v ls) (hl : ls.length ≤ 1099511627776) (hs : SmallS ls) :
    Calls Try.prog 32 #[v, .int .i64 h] w fun e w' => e = .returned (.int .i64 (knownE ls h)) ∧ Below w.heap.size w w' := by
  have hC := check_all v ls w hv hl hs
  obtain ⟨o, c, rfl, _, _⟩ := hv
  have HTh : Hid (∀ (V : World) (D : Nat), V.heap[D]? = some (.cells #[.int .i64 h] 3) → Calls Try.prog 23 #[.slice o ls.length c, .slice (some ⟨D, 0, none⟩) 1 1] V fun e w' => e = .returned (.bool (!outD ls.length h)) ∧ Below V.heap.size V w') := fun V D hD => by
    have := there_any o ls.length c _ [h] V (one_rdI hD) (by simp)
    simpa using this
  unfold knownE
  clear hs
  generalize checkS ls = E at *
  cases he : (E == 0) with
  | false =>
    clear HTh
    go_enter Try.func32, Try.ntmps32
    go_wp2_with (go_at_call 14; refine hC.mono ?_; rintro e w2 ⟨rfl, hb⟩; have HB := hid hb; clear hb)
    go_ret
    exact ⟨rfl, HB.out⟩
  | true =>
    have hz : E = 0 := by simpa using he
    subst hz
    cases ho : outD ls.length h
    all_goals
      rw [ho] at HTh
      go_enter Try.func32, Try.ntmps32
      go_wp2_with (first
        | (go_at_call 14; refine hC.mono ?_; rintro e w2 ⟨rfl, hb⟩; have HB := hid hb; have HQ : Hid (Below w2.heap.size w2 (w2.alloc (.cells #[.int .i64 h] 3))) := (Below.refl _ w2).alloc (Nat.le_refl _) _; clear hb)
        | (go_at_call 23; refine (HTh.out _ _ (heap_new _ _)).mono ?_; rintro e w3 ⟨rfl, hb⟩; have HB3 := hid (HB.out.trans ((HQ.out.trans (hb.mono HQ.out.size)).mono HB.out.size)); clear hb))
      go_ret
      exact ⟨rfl, HB3.out⟩
set_option maxRecDepth 100000 in
set_option maxHeartbeats 4000000 in
theorem full_any (v : Value) (ls : List SigD) (w : World) (hv : RdS w v ls) (hl : ls.length ≤ 1099511627776) (hs : SmallS ls) :
    Calls Try.prog 21 #[v] w fun e w' => e = .returned (.int .i64 (fullE ls)) ∧ Below w.heap.size w w' := by
  have hC := check_all v ls w hv hl hs
  obtain ⟨o, c, rfl, _, g⟩ := hv
  clear g
  unfold fullE
  clear hs
  generalize checkS ls = E at *
  cases he : (E == 0) with
  | false =>
    go_enter Try.func21, Try.ntmps21
    go_wp2_with (go_at_call 14; refine hC.mono ?_; rintro e w2 ⟨rfl, hb⟩; have HB := hid hb; clear hb)
    go_ret
    exact ⟨rfl, HB.out⟩
  | true =>
    have hz : E = 0 := by simpa using he
    subst hz
    rw [if_pos rfl]
    generalize ls.length = n at *
    by_cases hf : n = 1024
    · rw [if_pos hf]
      subst hf
      go_enter Try.func21, Try.ntmps21
      go_wp2_with (go_at_call 14; refine hC.mono ?_; rintro e w2 ⟨rfl, hb⟩; have HB := hid hb; clear hb)
      go_ret
      exact ⟨rfl, HB.out⟩
    · rw [if_neg hf]
      have e1 : ((n : Int) == 1024) = false := by rw [beq_eq_false_iff_ne]; omega
      clear hf
      go_enter Try.func21, Try.ntmps21
      go_wp2_with (go_at_call 14; refine hC.mono ?_; rintro e w2 ⟨rfl, hb⟩; have HB := hid hb; clear hb)
      go_ret
      exact ⟨rfl, HB.out⟩
set_option maxRecDepth 100000 in
set_option maxHeartbeats 4000000 in
theorem ofS_err (v : Value) (ls : List SigD) (h : Int) (w : World) (hv : RdS w v ls) (hl : ls.length ≤ 1099511627776) (hs : SmallS ls) (he : (knownE ls h != 0) = true) :
    Calls Try.prog 18 #[v, .int .i64 h] w fun e w' => e = .returned (.tuple #[.bool false, .int .i64 0, .int .i64 (knownE ls h)]) ∧ Below w.heap.size w w' := by
  have hC := known_any v ls h w hv hl hs
  obtain ⟨o, c, rfl, _, _⟩ := hv
  clear hs
  generalize knownE ls h = E at *
  go_enter Try.func18, Try.ntmps18
  go_wp2_with (go_at_call 32; refine hC.mono ?_; rintro e w2 ⟨rfl, hb⟩; have HB := hid hb; clear hb)
  refine bodyPost_ret (v := .tuple #[.bool false, .int .i64 0, .int .i64 E]) (by simp [results, Try.results18, go_sem]) rfl ?_
  exact ⟨rfl, HB.out⟩
set_option maxRecDepth 100000 in
set_option maxHeartbeats 4000000 in
theorem ofS_ok (v : Value) (ls : List SigD) (m : Nat) (w : World) (hv : RdS w v ls) (hl : ls.length ≤ 1099511627776) (hs : SmallS ls) (hm : m < ls.length) (he : knownE ls ((m : Int) + 1) = 0) :
    Calls Try.prog 18 #[v, .int .i64 ((m : Int) + 1)] w fun e w' => e = .returned (.tuple #[.bool ls[m].ab, .int .i64 ls[m].re, .int .i64 0]) ∧ Below w.heap.size w w' := by
  have hC := known_any v ls ((m : Int) + 1) w hv hl hs
  rw [he] at hC
  obtain ⟨o, c, rfl, _, g⟩ := hv
  obtain ⟨b, off, rfl, hlt, ha⟩ := g (by omega)
  obtain ⟨_, _, ⟨a0, a1, _, _, _⟩, _, _⟩ := ha m hm
  have q1 : (0 : Int) ≤ (m : Int) := by omega
  have q2 : (m : Int) < (ls.length : Int) := by omega
  have hwi : IntKind.i64.wrap (m : Int) = (m : Int) := wrapA (by omega) (by omega)
  have A0 := hid a0
  have A1 := hid a1
  clear hs he g ha a0 a1
  generalize ls[m] = x at *
  go_enter Try.func18, Try.ntmps18
  go_upto_region 4 with (go_at_call 32; refine hC.mono ?_; rintro e w2 ⟨rfl, hb⟩; have HB := hid hb; have a0 := (hb.cell (p := ⟨b, off + m * 5, none⟩) hlt).trans A0.out; have a1 := (hb.cell (p := ⟨b, off + m * 5 + 1, none⟩) hlt).trans A1.out; clear hb)
  go_quiet (fail)
  go_wp2
  refine bodyPost_ret (v := .tuple #[.bool x.ab, .int .i64 x.re, .int .i64 0]) (by simp [results, Try.results18, go_sem]) rfl ?_
  exact ⟨rfl, HB.out.trans (drewN_below _ _ _)⟩
end Go.Proofs.Ytlibjjmaicgemaa
