/- The walk of the law UnitsParts. -/
import Derived.Test.YtipkdbhdpmkjcaaURepl
namespace Go.Proofs.Ytipkdbhdpmkjcaa
open Go.RowKit Go.Lib

theorem wpList_append_guarded {P : Program} (w : World) {ops : Array Oper} {rest : List Oper} {o : Oper} {a : Act} {Q : Exit → Act → World → Prop} (hw : Region.wanted o (yielded ops a.tmps) = true) (s x : Operand) (t tn : TypeId)
    (ho : o.op = .call { callee := .builtin .append, args := #[s, x], argTypes := #[t, tn] }) (vs vx : Value) (hs : a.eval s = vs) (hx : a.eval x = vx)
    (v' : Value) (w' : World) (hr : (Builtin.append_ #[t, tn] o.type #[vs, vx]).run P w = .ok v' w') (h : wpList P ops Q rest (a.put o.dst v') w') : wpList P ops Q (o :: rest) a w :=
  wpList_step fun K hK => by
    rw [if_pos hw]
    exact wp_append_run w s x t tn ho vs vx hs hx v' w' hr (hK _ _ h)

theorem take_cut (us : List Nat) (k n : Nat) : us.take k ++ cutU us k n ++ us.drop (k + min n (us.length - k)) = us := by
  have h1 : cutU us k n = (us.drop k).take (min n (us.length - k)) := cut_min us k n _ rfl
  rw [h1, List.append_assoc, ← List.drop_drop, List.take_append_drop, List.take_append_drop]

theorem sub_head (us : List Nat) (k : Nat) : subU us 0 k = us.take k ∧ subE us 0 = 0 := by
  unfold subU subE cutU
  rw [if_neg (by omega), if_neg (by omega)]
  exact ⟨by simp, rfl⟩
theorem sub_tail (us : List Nat) (x : Nat) (h : x ≤ us.length) (hn : us.length ≤ 4294967295) : subU us x 4294967295 = us.drop x ∧ subE us x = 0 := by
  unfold subU subE cutU
  rw [if_neg (by omega), if_neg (by omega), List.take_of_length_le (by simp; omega)]
  exact ⟨rfl, rfl⟩

set_option maxRecDepth 100000 in
set_option maxHeartbeats 1500000 in
theorem partsLaw (v : Value) (us : List Nat) (k n : Nat) (w : World) (hr : RdU w v us) (hn : us.length ≤ 1048576) (hk : k ≤ 4294967295) (hnn : n ≤ 4294967295) :
    Calls Try.prog 6 #[v, .int .u32 k, .int .u32 n] w fun e w' => e = .returned (.bool true) ∧ Below w.heap.size w w' := by
  have HL : Hid (∀ W : World, _) := lives_any
  have HA : Hid (∀ W, RdU W v us → Calls Try.prog 15 #[v, .int .u32 0, .int .u32 k] W fun e w' => ∃ a, e = .returned (.tuple #[a, .int .i64 0]) ∧ w'.ownsRow W.heap.size 47 1 a (us.take k).length ((us.take k).map unitV) ∧ Below W.heap.size W w') := fun W h => by
    have hs := sub_any v us 0 k W h (by omega) (by omega) hk
    unfold SubPost at hs
    rw [(sub_head us k).1, (sub_head us k).2] at hs
    exact hs
  obtain ⟨m, hm⟩ : ∃ m, (us.take k).length = m := ⟨_, rfl⟩
  have hml : m ≤ us.length := by rw [← hm]; simp; omega
  have hmk : m = min k us.length := by rw [← hm]; simp
  have HB : Hid (∀ W, RdU W v us → Calls Try.prog 15 #[v, .int .u32 m, .int .u32 4294967295] W fun e w' => ∃ a, e = .returned (.tuple #[a, .int .i64 0]) ∧ w'.ownsRow W.heap.size 47 1 a (us.drop m).length ((us.drop m).map unitV) ∧ Below W.heap.size W w') := fun W h => by
    have hs := sub_any v us m 4294967295 W h (by omega) (by omega) (by omega)
    unfold SubPost at hs
    rw [(sub_tail us m hml (by omega)).1, (sub_tail us m hml (by omega)).2] at hs
    exact hs
  have HC : Hid (∀ W, RdU W v us → _) := fun W h => sub_any v us k n W h (by omega) hk hnn
  have HM : Hid (∀ (a : Value) (W : World), RdU W a us → RdU W v us → _) := fun a W h h' => rsame_any a v us us W h h' (by omega) (by omega)
  have hsame : sameU us us = true := by simp [sameU]
  rw [hsame] at HM
  have HJ : Hid (us.take k ++ us.drop m = us) := by
    show _ = _
    rw [hmk]
    by_cases h : k ≤ us.length
    · rw [Nat.min_eq_left h, List.take_append_drop]
    · rw [Nat.min_eq_right (by omega), List.take_of_length_le (by omega)]; simp
  have HAp1 : Hid (∀ (W : World) (a : Value), RdU W a (us.take k) → _) := fun W a h => run_fresh_rd W a (us.take k) 23 h (by rw [hm]; omega)
  obtain ⟨o, cap, hv, _⟩ := hr.form
  subst hv
  rw [hm] at HA
  have Hm : Hid ((us.take k).length = m) := hm
  clear hm hmk
  go_enter Try.func6, Try.ntmps6
  go_wp2_with fail
  refine (HL.out _).mono ?_
  rintro e w1 ⟨rfl, b1⟩
  replace hr := hr.later b1
  go_wp2_with fail
  refine (HA.out _ hr).mono ?_
  rintro e w2 ⟨a, rfl, oa, b2⟩
  replace hr := hr.later b2
  replace b1 := b1.trans (b2.mono b1.size)
  clear b2
  have ra := own_RdU oa
  obtain ⟨oo, ca, hfa⟩ : ∃ oo ca, a = .slice oo m ca := by
    rcases Go.Joins.ownsRow_forms oa with ⟨rfl, h0⟩ | ⟨g, c, rfl⟩
    · exact ⟨none, 0, by rw [h0]⟩
    · exact ⟨_, _, rfl⟩
  subst hfa
  go_wp2_with fail
  refine (HB.out _ hr).mono ?_
  rintro e w3 ⟨b, rfl, ob, b2⟩
  replace hr := hr.later b2
  replace ra := ra.later b2
  replace b1 := b1.trans (b2.mono b1.size)
  clear b2 oa
  have rb := own_RdU ob
  obtain ⟨p1, W1, e1, o1, c1⟩ := HAp1.out w3 _ ra
  have rb1 := rb.later c1
  have hr1 := hr.later c1
  obtain ⟨p2, W2, e2, o2, g2⟩ := run_append_rd W1 w3.heap.size p1 b _ _ 23 o1 c1.size rb1 (by rw [Hm.out]; simp; omega)
  have c2 : Below w3.heap.size w3 W2 := c1.trans (below_grown o1 c1.size g2)
  rw [HJ.out] at o2
  have hM := HM.out p2 W2 (own_RdU o2) (hr.later c2)
  replace b1 := b1.trans (c2.mono b1.size)
  go_wp2_with (first
    | (at_builtin; refine wpList_append_guarded _ rfl _ _ 23 23 rfl _ _ rfl rfl _ _ e1 ?_)
    | (at_builtin; refine wpList_append_guarded _ rfl _ _ 23 23 rfl _ _ rfl rfl _ _ e2 ?_))
  refine hM.mono ?_
  rintro e w4 ⟨rfl, b2⟩
  replace hr := (hr.later c2).later b2
  replace b1 := b1.trans (b2.mono b1.size)
  clear b2 hM c2 c1 e1 e2 o1 o2 g2 rb1 hr1 ra rb ob HA HB HAp1 HL
  go_wp2_with fail
  refine (HC.out _ hr).mono ?_
  rintro e w5 ⟨c, rfl, oc, b2⟩
  replace hr := hr.later b2
  replace b1 := b1.trans (b2.mono b1.size)
  clear b2
  by_cases hlk : us.length < k
  · have e1 : subE us k = 14 := if_pos hlk
    have e2 : subU us k n = [] := if_pos hlk
    rw [e2] at oc
    have q : (us.length : Int) < (k : Int) := by omega
    obtain ⟨oo, cc, rfl⟩ : ∃ oo cc, c = .slice oo 0 cc := by
      rcases Go.Joins.ownsRow_forms oc with ⟨rfl, h0⟩ | ⟨g, cc, rfl⟩
      · exact ⟨none, 0, rfl⟩
      · exact ⟨_, _, rfl⟩
    rw [e1]
    clear e1 e2 oc
    go_wp2
    go_ret
    exact ⟨rfl, b1⟩
  · have e1 : subE us k = 0 := if_neg hlk
    have e2 : subU us k n = cutU us k n := if_neg hlk
    rw [e2] at oc
    rw [e1]
    have rc := own_RdU oc
    have hcl : (cutU us k n).length = min n (us.length - k) := cutU_len us k n
    have hR := (replace_any _ c us (cutU us k n) k n w5 hr rc (by omega) (by rw [hcl]; omega) hk hnn)
    unfold RepPost repE repU repZ at hR
    rw [if_neg hlk, if_neg hlk, hcl, take_cut us k n] at hR
    clear e1 e2 oc rc hcl HC
    by_cases hbig : 16384 < us.length - min n (us.length - k) + min n (us.length - k)
    · rw [if_pos hbig, if_pos hbig] at hR
      have q : (16384 : Int) < (us.length : Int) := by omega
      clear hbig
      go_wp2_with fail
      refine hR.mono ?_
      rintro e w6 ⟨d, rfl, od, b2⟩
      replace b1 := b1.trans (b2.mono b1.size)
      clear b2 od hR
      go_wp2
      go_ret
      exact ⟨rfl, b1⟩
    · rw [if_neg hbig, if_neg hbig] at hR
      clear hbig
      go_wp2_with fail
      refine hR.mono ?_
      rintro e w6 ⟨d, rfl, od, b2⟩
      replace hr := hr.later b2
      replace b1 := b1.trans (b2.mono b1.size)
      clear b2 hR
      have hM := HM.out d w6 (own_RdU od) hr
      go_wp2_with fail
      refine hM.mono ?_
      rintro e w7 ⟨rfl, b2⟩
      replace b1 := b1.trans (b2.mono b1.size)
      clear b2 hM
      go_wp2
      go_ret
      exact ⟨rfl, b1⟩

theorem partsLaw_upto (v : Value) (us : List Nat) (k n : Int) (w : World) (hr : RdU w v us) (hn : us.length ≤ 1048576) (_hu : ∀ x ∈ us, x < 65536) (hk : 0 ≤ k ∧ k ≤ 4294967295) (hnn : 0 ≤ n ∧ n ≤ 4294967295) :
    Calls Try.prog 6 #[v, .int .u32 k, .int .u32 n] w fun e w' => e = .returned (.bool true) ∧ Below w.heap.size w w' := by
  obtain ⟨k', rfl⟩ := Int.eq_ofNat_of_zero_le hk.1
  obtain ⟨n', rfl⟩ := Int.eq_ofNat_of_zero_le hnn.1
  exact partsLaw v us k' n' w hr hn (by omega) (by omega)
end Go.Proofs.Ytipkdbhdpmkjcaa
