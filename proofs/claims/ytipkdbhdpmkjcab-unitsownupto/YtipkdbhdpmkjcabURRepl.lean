/- The walks of the reference's Replace and Wrap. -/
import Derived.Test.YtipkdbhdpmkjcabURepl
import Derived.Deep.RegionLaw
namespace Go.Proofs.Ytipkdbhdpmkjcab
open Go.RowKit Go.Lib

/-- An append at a step of a region that draws its order. -/
theorem step_append_run {P : Program} (w : World) {ops : Array Oper} {o : Oper} {a : Act} {K : Act → World → Prop} {Q : Exit → Act → World → Prop} {E : Prop} (hgd : o.guard = none) (s x : Operand) (t tn : TypeId)
    (ho : o.op = .call { callee := .builtin .append, args := #[s, x], argTypes := #[t, tn] }) (vs vx : Value) (hs : a.eval s = vs) (hx : a.eval x = vx)
    (v' : Value) (w' : World) (hr : (Builtin.append_ #[t, tn] o.type #[vs, vx]).run P w = .ok v' w') (h : K (a.put o.dst v') w') :
    if Region.wanted o (yielded ops a.tmps) = true then Oper.wp P o a w K Q else E := by
  have hw : Region.wanted o (yielded ops a.tmps) = true := by simp [Region.wanted, hgd]
  rw [if_pos hw]
  exact wp_append_run w s x t tn ho vs vx hs hx v' w' hr h

theorem repZ_len (us : List Nat) (x y : Nat) (h : ¬ us.length < x) : (subU us x y).length = repZ us x y := by
  unfold subU repZ
  rw [if_neg h, cutU_len]

set_option maxRecDepth 100000 in
set_option maxHeartbeats 1000000 in
theorem rreplace_any (v v2 : Value) (us vs : List Nat) (x y : Nat) (w : World) (hr : RdU w v us) (hr2 : RdU w v2 vs) (hn : us.length ≤ 1099511627776) (hn2 : vs.length ≤ 1099511627776) (hx : x ≤ 4294967295) (hy : y ≤ 4294967295) :
    Calls Try.prog 23 #[v, .int .u32 x, .int .u32 y, v2] w (RepPost w us x y vs) := by
  obtain ⟨o, cap, rfl, g⟩ := hr.form
  obtain ⟨o2, cap2, rfl, _⟩ := hr2.form
  have hS := rsub_any _ us x y w hr (by omega) hx hy
  unfold SubPost at hS
  unfold RepPost repE repU
  by_cases h : us.length < x
  · rw [if_pos h, if_pos h]
    rw [show subE us x = 14 from if_pos h] at hS
    go_enter Try.func23, Try.ntmps23
    go_wp2_with (go_at_call 22; refine hS.mono ?_; rintro e w1 ⟨c, rfl, oc, b1⟩)
    go_ret2
    exact ⟨_, rfl, World.ownsRow_nil _ _ _ _, b1⟩
  · rw [if_neg h, if_neg h]
    rw [show subE us x = 0 from if_neg h, repZ_len us x y h] at hS
    have hzl : x + repZ us x y ≤ us.length := by unfold repZ; omega
    generalize repZ us x y = z at *
    by_cases hb : 16384 < us.length - z + vs.length
    · rw [if_pos hb, if_pos hb]
      have q : (16384 : Int) < (us.length : Int) - (z : Int) + (vs.length : Int) := by omega
      go_enter Try.func23, Try.ntmps23
      go_wp2_with fail
      refine hS.mono ?_
      rintro e w1 ⟨c, rfl, oc, b1⟩
      obtain ⟨oo, cc, rfl⟩ : ∃ oo cc, c = .slice oo z cc := by
        rcases Go.Joins.ownsRow_forms oc with ⟨rfl, h0⟩ | ⟨g, cc, rfl⟩
        · exact ⟨none, 0, by rw [h0]⟩
        · exact ⟨_, _, rfl⟩
      go_wp2
      go_ret2
      exact ⟨_, rfl, World.ownsRow_nil _ _ _ _, b1⟩
    · rw [if_neg hb, if_neg hb]
      have q : ¬ (16384 : Int) < (us.length : Int) - (z : Int) + (vs.length : Int) := by omega
      go_enter Try.func23, Try.ntmps23
      go_wp2_with fail
      refine hS.mono ?_
      rintro e w1 ⟨c, rfl, oc, b1⟩
      obtain ⟨oo, cc, rfl⟩ : ∃ oo cc, c = .slice oo z cc := by
        rcases Go.Joins.ownsRow_forms oc with ⟨rfl, h0⟩ | ⟨g, cc, rfl⟩
        · exact ⟨none, 0, by rw [h0]⟩
        · exact ⟨_, _, rfl⟩
      replace hr := hr.later b1
      replace hr2 := hr2.later b1
      clear oc hS
      cases o with
      | none =>
        have h0 : us.length = 0 := by
          by_cases hp : 0 < us.length
          · obtain ⟨a, ha, _⟩ := g hp; cases ha
          · omega
        have hus : us = [] := List.eq_nil_of_length_eq_zero h0
        subst hus
        have hx0 : x = 0 := by simp at hzl; omega
        have hz0 : z = 0 := by simp at hzl; omega
        subst hx0 hz0
        obtain ⟨p1, W1, e1, o1, c1⟩ := run_fresh_rd w1 (.slice none 0 cap) [] 23 hr (by simp)
        obtain ⟨p2, W2, e2, o2', g2⟩ := run_append_rd W1.drew w1.heap.size p1 _ _ _ 23 o1.drew c1.size ((hr2.later c1).later ((Below.refl _ W1).drew)) (by simp; omega)
        have c2 : Below w1.heap.size w1 W2 := c1.drew.trans (below_grown o1.drew c1.size g2)
        obtain ⟨p3, W3, e3, o3, g3⟩ := run_append_rd W2 w1.heap.size p2 (.slice none 0 cap) _ [] 23 o2' c2.size (hr.later c2) (by simp; omega)
        have c3 : Below w1.heap.size w1 W3 := c2.trans (below_grown o2' c2.size g3)
        have f0 : IntKind.i64.wrap 0 = 0 := by decide
        go_wp2_with (at_builtin; refine wpList_append_run _ rfl _ _ 23 23 rfl _ _ rfl rfl _ _ e1 ?_)
        go_region_law (first
          | (refine step_append_run _ rfl (.tmp 37) (.tmp 38) 23 23 rfl p1 (.slice o2 vs.length cap2) (by simp [Act.eval, Act.put]) (by simp [Act.eval, Act.put]) p2 W2 e2 ?_)
          | (refine step_append_run _ rfl (.tmp 39) (.tmp 46) 23 23 rfl p2 (.slice none 0 cap) (by simp [Act.eval]) (by simp [Act.eval]) p3 W3 e3 ?_))
        all_goals
          go_wp2
          go_ret2
          exact ⟨p3, rfl, by simpa using Go.Joins.ownsRow_le o3 b1.size, b1.trans (c3.mono b1.size)⟩
      | some a =>
        have hcap : us.length ≤ cap := by
          by_cases hp : 0 < us.length
          · obtain ⟨a', ha, _, hc, _⟩ := g hp; exact hc
          · omega
        obtain ⟨p1, W1, e1, o1, c1⟩ := run_fresh_rd w1 _ _ 23 (rd_head hr hcap x (by omega)) (by simp; omega)
        by_cases hcx : cap = x + z
        · have e0 : us.length - (x + z) = 0 := by omega
          have ed : us.drop (x + z) = [] := List.drop_eq_nil_of_le (by omega)
          subst hcx
          obtain ⟨p2, W2, e2, o2', g2⟩ := run_append_rd W1.drew w1.heap.size p1 _ _ _ 23 o1.drew c1.size ((hr2.later c1).later ((Below.refl _ W1).drew)) (by simp; omega)
          have c2 : Below w1.heap.size w1 W2 := c1.drew.trans (below_grown o1.drew c1.size g2)
          obtain ⟨p3, W3, e3, o3, g3⟩ := run_append_rd W2 w1.heap.size p2 _ _ _ 23 o2' c2.size (show RdU W2 (.slice (some a) 0 0) (us.drop (x + z)) by rw [ed]; exact .inl ⟨_, _, rfl, rfl⟩) (by simp; omega)
          have c3 : Below w1.heap.size w1 W3 := c2.trans (below_grown o2' c2.size g3)
          go_wp2_with (at_builtin; refine wpList_append_run _ rfl _ _ 23 23 rfl _ _ rfl rfl _ _ e1 ?_)
          have f1 : IntKind.i64.wrap (x : Int) = x := by simp [IntKind.wrap, IntKind.signed, IntKind.bits]; omega
          have f2 : IntKind.i64.wrap ((x : Int) + (z : Int)) = (x : Int) + (z : Int) := by simp [IntKind.wrap, IntKind.signed, IntKind.bits]; omega
          have f3 : 0 ≤ (x : Int) + (z : Int) := by omega
          have f4 : (x : Int) + (z : Int) ≤ (us.length : Int) := by omega
          have f5 : ((x : Int) + (z : Int)).toNat = x + z := by omega
          go_region_law (first
            | (refine step_append_run _ rfl (.tmp 37) (.tmp 38) 23 23 rfl p1 (.slice o2 vs.length cap2) (by simp [Act.eval, Act.put]) (by simp [Act.eval, Act.put]) p2 W2 e2 ?_)
            | (refine step_append_run _ rfl (.tmp 39) (.tmp 46) 23 23 rfl p2 (.slice (some a) 0 0) (by simp [Act.eval]) (by simp [Act.eval]) p3 W3 e3 ?_))
          all_goals
            go_wp2
            go_ret2
            exact ⟨p3, rfl, Go.Joins.ownsRow_le o3 b1.size, b1.trans (c3.mono b1.size)⟩
        · obtain ⟨p2, W2, e2, o2', g2⟩ := run_append_rd W1.drew w1.heap.size p1 _ _ _ 23 o1.drew c1.size ((hr2.later c1).later ((Below.refl _ W1).drew)) (by simp; omega)
          have c2 : Below w1.heap.size w1 W2 := c1.drew.trans (below_grown o1.drew c1.size g2)
          obtain ⟨p3, W3, e3, o3, g3⟩ := run_append_rd W2 w1.heap.size p2 _ _ _ 23 o2' c2.size ((rd_tail hr hcap (x + z) hzl).later c2) (by simp; omega)
          have c3 : Below w1.heap.size w1 W3 := c2.trans (below_grown o2' c2.size g3)
          go_wp2_with (at_builtin; refine wpList_append_run _ rfl _ _ 23 23 rfl _ _ rfl rfl _ _ e1 ?_)
          have f1 : IntKind.i64.wrap (x : Int) = x := by simp [IntKind.wrap, IntKind.signed, IntKind.bits]; omega
          have f2 : IntKind.i64.wrap ((x : Int) + (z : Int)) = (x : Int) + (z : Int) := by simp [IntKind.wrap, IntKind.signed, IntKind.bits]; omega
          have f3 : 0 ≤ (x : Int) + (z : Int) := by omega
          have f4 : (x : Int) + (z : Int) ≤ (us.length : Int) := by omega
          have f5 : ((x : Int) + (z : Int)).toNat = x + z := by omega
          go_region_law (first
            | (refine step_append_run _ rfl (.tmp 37) (.tmp 38) 23 23 rfl p1 (.slice o2 vs.length cap2) (by simp [Act.eval, Act.put]) (by simp [Act.eval, Act.put]) p2 W2 e2 ?_)
            | (refine step_append_run _ rfl (.tmp 39) (.tmp 46) 23 23 rfl p2 (.slice (some (a.add (x + z))) (us.length - (x + z)) (cap - (x + z))) (by simp [Act.eval]) (by simp [Act.eval]) p3 W3 e3 ?_))
          all_goals
            go_wp2
            go_ret2
            exact ⟨p3, rfl, Go.Joins.ownsRow_le o3 b1.size, b1.trans (c3.mono b1.size)⟩

theorem rwrap_any (x : Int) (w : World) : Calls Try.prog 24 #[.int .i64 x] w fun e w' => e = .returned (.int .u32 (x % 4294967296)) ∧ w' = w := by
  have hu : IntKind.u64.wrap x = x % 18446744073709551616 := by simp [IntKind.wrap, IntKind.signed, IntKind.bits]
  have hm : x % 18446744073709551616 % 4294967296 = x % 4294967296 := by omega
  have hm1 : 0 ≤ x % 4294967296 := by omega
  have hm2 : x % 4294967296 < 4294967296 := by omega
  go_enter Try.func24, Try.ntmps24
  go_wp2
  go_ret
  exact ⟨rfl, rfl⟩
theorem uwrap (x : Int) : IntKind.u32.wrap x = x % 4294967296 := by
  simp [IntKind.wrap, IntKind.signed, IntKind.bits]
end Go.Proofs.Ytipkdbhdpmkjcab
