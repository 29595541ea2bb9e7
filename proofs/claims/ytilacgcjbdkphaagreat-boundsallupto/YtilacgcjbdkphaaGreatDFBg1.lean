/- bounds.Check, bounds.Length. -/
import Derived.Test.YtilacgcjbdkphaaGreatDFBdaFBd9
import Derived.Test.YtilacgcjbdkphaaGreatDFR4AFOneC
namespace Go.Proofs.YtilacgcjbdkphaaGreat
open Go.RowKit Go.Lib Go.Shelf

theorem orNone_at {ns : List NodeD} {j : Nat} (hj : j < ns.length) : nodeOrNone ns ((j : Int) + 1) = ns[j] := by unfold nodeOrNone; rw [nodeOf_at ns j hj]; rfl

set_option maxRecDepth 100000 in
set_option maxHeartbeats 4000000 in
theorem bLength_any (o : Option Addr) (cap : Nat) (x : Int) (ns : List NodeD) (w : World) (hF : FRd w o cap ns) (hkl : ∀ (i : Nat) (hi : i < ns.length), ns[i].kids.length ≤ 1099511627776) (hal : ∀ (i : Nat) (hi : i < ns.length), ns[i].attrs.length ≤ 1099511627776) :
    Calls Tryz.prog 8 #[.agg #[.slice o ns.length cap], .int .i64 x] w fun e w' => e = .returned (.tuple #[.int .i64 (if toldE ns [x] = 0 then (lenN ns x : Int) else 0), .int .i64 (toldE ns [x])]) ∧ Below w.heap.size w w' := by
  have hB0 : Below w.heap.size w (w.alloc (.cells #[.slice o ns.length cap] 24)) := (Below.refl _ w).alloc (Nat.le_refl _) _
  have hL := Length_any o cap x ns _ (hF.later hB0) hkl hal
  have he : (if toldE ns [x] = 0 then ((lengthD (nodeOrNone ns x) : Nat) : Int) else 0) = if toldE ns [x] = 0 then (lenN ns x : Int) else 0 := by
    by_cases h : toldE ns [x] = 0
    · rw [if_pos h, if_pos h]
      obtain ⟨_, hth⟩ := toldE_zero h
      obtain ⟨j, hj, rfl⟩ := there_idx (hth x (by simp))
      rw [lenN_at j hj, orNone_at hj]
    · rw [if_neg h, if_neg h]
  rw [he] at hL
  have HB0 := hid hB0
  clear he hF hkl hal hB0
  generalize (if toldE ns [x] = 0 then (lenN ns x : Int) else 0) = A at *
  generalize toldE ns [x] = E at *
  go_enter Tryz.func8, Tryz.ntmps8
  go_wp2_with fail
  refine hL.mono ?_
  rintro e v1 ⟨rfl, hb1⟩
  have HB := hid (HB0.out.trans (hb1.mono HB0.out.size))
  clear hL hb1 HB0
  go_wp2
  go_ret2
  exact ⟨rfl, HB.out⟩

theorem looked_any (o : Option Addr) (cap : Nat) (v : Value) (l : List (Int × Int)) (ns : List NodeD) (w : World) (hF : FRd w o cap ns) (hkl : ∀ (i : Nat) (hi : i < ns.length), ns[i].kids.length ≤ 1099511627776) (hal : ∀ (i : Nat) (hi : i < ns.length), ns[i].attrs.length ≤ 1099511627776) (hv : RdB w v l) (hl : l.length ≤ 4096) :
    Calls Tryz.prog 41 #[.agg #[.slice o ns.length cap], v] w fun e w' => ∃ o1 n1 c1 o2 n2 c2 o3 n3 c3 o4 n4 c4, e = .returned (.tuple #[.agg #[.slice o1 n1 c1, .slice o2 n2 c2, .slice o3 n3 c3, .slice o4 n4 c4], .int .i64 (lookE ns l)]) ∧ Below w.heap.size w w' := by
  by_cases hE : lookE ns l = 0
  · obtain ⟨hR, hW⟩ := lookE_zero hE
    refine (bLooked_ok o cap v l ns w hF hkl hal hv hl hR hW).mono ?_
    rintro e w' ⟨bR, bF, bL, rfl, _, hb⟩
    rw [hE]
    exact ⟨_, _, _, _, _, _, _, _, _, _, _, _, rfl, hb⟩
  · refine (bLooked_err o cap v l ns w hF hkl hal hv hl hE).mono ?_
    rintro e w' ⟨rfl, hb⟩
    exact ⟨_, _, _, _, _, _, _, _, _, _, _, _, rfl, hb⟩

set_option maxRecDepth 100000 in
set_option maxHeartbeats 4000000 in
theorem bCheck_any (o : Option Addr) (cap : Nat) (x c : Int) (ns : List NodeD) (w : World) (hF : FRd w o cap ns) (hkl : ∀ (i : Nat) (hi : i < ns.length), ns[i].kids.length ≤ 1099511627776) (hal : ∀ (i : Nat) (hi : i < ns.length), ns[i].attrs.length ≤ 1099511627776) :
    Calls Tryz.prog 17 #[.agg #[.slice o ns.length cap], bndV x c] w fun e w' => e = .returned (.int .i64 (lookE ns [(x, c)])) ∧ Below w.heap.size w w' := by
  obtain ⟨bx, g0, g1, sx⟩ := two_newB w (.cells #[.slice o ns.length cap] 24) (.cells #[.int .i64 x, .int .i64 c] 26)
  have hrd := one_rdB ((w.alloc (.cells #[.slice o ns.length cap] 24)).alloc (.cells #[.int .i64 x, .int .i64 c] 26)) x c
  have hbA : Below ((w.alloc (.cells #[.slice o ns.length cap] 24)).alloc (.cells #[.int .i64 x, .int .i64 c] 26)).heap.size ((w.alloc (.cells #[.slice o ns.length cap] 24)).alloc (.cells #[.int .i64 x, .int .i64 c] 26)) _ := (Below.refl _ _).alloc (Nat.le_refl _) (.cells #[.int .i64 x, .int .i64 c] 26)
  have hL := looked_any o cap _ _ ns _ (hF.later (bx.trans (hbA.mono bx.size))) hkl hal hrd (by simp)
  have Hbx := hid (bx.trans (hbA.mono bx.size))
  rw [sx] at hL
  clear hF hkl hal hrd bx hbA g0 g1
  generalize lookE ns [(x, c)] = E at *
  unfold bndV
  go_enter Tryz.func17, Tryz.ntmps17
  go_wp2_with fail
  refine hL.mono ?_
  rintro e v1 ⟨o1, n1, c1, o2, n2, c2, o3, n3, c3, o4, n4, c4, rfl, hb1⟩
  have HB1 := hid (Hbx.out.trans (hb1.mono Hbx.out.size))
  clear hL hb1
  go_wp2
  go_ret
  exact ⟨rfl, HB1.out.alloc HB1.out.size _⟩
end Go.Proofs.YtilacgcjbdkphaaGreat

