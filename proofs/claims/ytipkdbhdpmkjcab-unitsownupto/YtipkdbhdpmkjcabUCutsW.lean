/- The walk of the law UnitsCuts. -/
import Derived.Test.YtipkdbhdpmkjcabURRepl
namespace Go.Proofs.Ytipkdbhdpmkjcab
open Go.RowKit Go.Lib

theorem subU_len (us : List Nat) (x y : Nat) : (subU us x y).length ≤ us.length := by
  unfold subU
  split
  · simp
  · rw [cutU_len]; omega
theorem repU_len (us : List Nat) (x y : Nat) (vs : List Nat) : (repU us x y vs).length ≤ 16384 := by
  unfold repU repZ
  split
  · simp
  · split
    · simp
    · simp; omega

set_option maxRecDepth 100000 in
set_option maxHeartbeats 1500000 in
theorem cutsLaw (v v2 : Value) (us vs : List Nat) (x y : Nat) (n : Int) (w : World) (hr : RdU w v us) (hr2 : RdU w v2 vs) (hn : us.length ≤ 1048576) (hn2 : vs.length ≤ 1048576) (hx : x ≤ 4294967295) (hy : y ≤ 4294967295) :
    Calls Try.prog 9 #[v, .int .u32 x, .int .u32 y, v2, .int .i64 n] w fun e w' => e = .returned (.bool true) ∧ Below w.heap.size w w' := by
  have HL : Hid (∀ W : World, _) := lives_any
  have hA := fun W (h : RdU W v us) => sub_any v us x y W h (by omega) hx hy
  have hB := fun W (h : RdU W v us) => rsub_any v us x y W h (by omega) hx hy
  have hC := fun W (h : RdU W v us) (h' : RdU W v2 vs) => replace_any v v2 us vs x y W h h' (by omega) (by omega) hx hy
  have hD := fun W (h : RdU W v us) (h' : RdU W v2 vs) => rreplace_any v v2 us vs x y W h h' (by omega) (by omega) hx hy
  unfold SubPost at hA hB
  unfold RepPost at hC hD
  have hl1 := subU_len us x y
  have hl2 := repU_len us x y vs
  generalize subE us x = se at *
  generalize subU us x y = su at *
  generalize repE us x y vs = re at *
  generalize repU us x y vs = ru at *
  have HA : Hid (∀ W, RdU W v us → _) := hA
  have HB : Hid (∀ W, RdU W v us → _) := hB
  have HC : Hid (∀ W, RdU W v us → RdU W v2 vs → _) := hC
  have HD : Hid (∀ W, RdU W v us → RdU W v2 vs → _) := hD
  have HS : Hid (∀ (a b : Value) (W : World), RdU W a su → RdU W b su → Calls Try.prog 8 #[a, b] W fun e w' => e = .returned (.bool true) ∧ Below W.heap.size W w') := fun a b W h h' => by
    have h3 := rsame_any a b su su W h h' (by omega) (by omega)
    rw [show sameU su su = true by simp [sameU]] at h3
    exact h3
  have HR : Hid (∀ (a b : Value) (W : World), RdU W a ru → RdU W b ru → Calls Try.prog 8 #[a, b] W fun e w' => e = .returned (.bool true) ∧ Below W.heap.size W w') := fun a b W h h' => by
    have h3 := rsame_any a b ru ru W h h' (by omega) (by omega)
    rw [show sameU ru ru = true by simp [sameU]] at h3
    exact h3
  have HW : Hid (∀ W : World, Calls Try.prog 15 #[.int .i64 n] W fun e w' => e = .returned (.int .u32 (n % 4294967296)) ∧ w' = W) := fun W => by
    have h3 := wrap_any n W
    rw [uwrap] at h3
    exact h3
  have HX : Hid (∀ W : World, _) := fun W => rwrap_any n W
  clear hA hB hC hD hl1 hl2
  generalize n % 4294967296 = nn at *
  have z1 : (se == se) = true := by simp
  have z2 : (re == re) = true := by simp
  have z3 : (nn == nn) = true := by simp
  go_enter Try.func9, Try.ntmps9
  go_wp2_with fail
  refine (HA.out _ hr).mono ?_
  rintro e w1 ⟨a, rfl, oa, b1⟩
  replace hr := hr.later b1
  replace hr2 := hr2.later b1
  have ra := own_RdU oa
  clear oa
  go_wp2_with fail
  refine (HB.out _ hr).mono ?_
  rintro e w2 ⟨b, rfl, ob, b2⟩
  replace hr := hr.later b2
  replace hr2 := hr2.later b2
  replace ra := ra.later b2
  replace b1 := b1.trans (b2.mono b1.size)
  have rb := own_RdU ob
  clear b2 ob
  go_wp2_with fail
  refine (HC.out _ hr hr2).mono ?_
  rintro e w3 ⟨c, rfl, oc, b2⟩
  replace hr := hr.later b2
  replace hr2 := hr2.later b2
  replace ra := ra.later b2
  replace rb := rb.later b2
  replace b1 := b1.trans (b2.mono b1.size)
  have rc := own_RdU oc
  clear b2 oc
  go_wp2_with fail
  refine (HD.out _ hr hr2).mono ?_
  rintro e w4 ⟨d, rfl, od, b2⟩
  replace ra := ra.later b2
  replace rb := rb.later b2
  replace rc := rc.later b2
  replace b1 := b1.trans (b2.mono b1.size)
  have rd := own_RdU od
  clear b2 od hr hr2
  go_wp2_with fail
  refine (HL.out _).mono ?_
  rintro e w5 ⟨rfl, b2⟩
  replace ra := ra.later b2
  replace rb := rb.later b2
  replace rc := rc.later b2
  replace rd := rd.later b2
  replace b1 := b1.trans (b2.mono b1.size)
  clear b2
  go_wp2_with fail
  refine (HS.out _ _ _ ra rb).mono ?_
  rintro e w6 ⟨rfl, b2⟩
  replace rc := rc.later b2
  replace rd := rd.later b2
  replace b1 := b1.trans (b2.mono b1.size)
  clear b2 ra rb
  go_wp2_with fail
  refine (HR.out _ _ _ rc rd).mono ?_
  rintro e w7 ⟨rfl, b2⟩
  replace b1 := b1.trans (b2.mono b1.size)
  clear b2 rc rd
  go_wp2_with fail
  refine (HW.out _).mono ?_
  rintro e w8 ⟨rfl, rfl⟩
  go_wp2_with fail
  refine (HX.out _).mono ?_
  rintro e w9 ⟨rfl, rfl⟩
  go_wp2
  go_ret
  exact ⟨rfl, b1⟩

theorem cutsLaw_upto (v : Value) (us : List Nat) (x y : Int) (v2 : Value) (vs : List Nat) (n : Int) (w : World) (hr : RdU w v us) (hn : us.length ≤ 1048576) (_hu : ∀ x ∈ us, x < 65536) (hx : 0 ≤ x ∧ x ≤ 4294967295) (hy : 0 ≤ y ∧ y ≤ 4294967295)
    (hr2 : RdU w v2 vs) (hn2 : vs.length ≤ 1048576) (_hv : ∀ x ∈ vs, x < 65536) (_hz : -9223372036854775808 ≤ n ∧ n ≤ 9223372036854775807) :
    Calls Try.prog 9 #[v, .int .u32 x, .int .u32 y, v2, .int .i64 n] w fun e w' => e = .returned (.bool true) ∧ Below w.heap.size w w' := by
  obtain ⟨x', rfl⟩ := Int.eq_ofNat_of_zero_le hx.1
  obtain ⟨y', rfl⟩ := Int.eq_ofNat_of_zero_le hy.1
  exact cutsLaw v v2 us vs x' y' n w hr hr2 hn hn2 (by omega) (by omega)
end Go.Proofs.Ytipkdbhdpmkjcab
