/- The law AbortOnce. -/
import Derived.Test.YtbidfebnkdiabaaAbY
namespace Go.Proofs.Ytbidfebnkdiabaa
open Go.RowKit Go.Lib Go.Shelf

theorem known_at {ls : List SigD} (hr : rightD ls = true) (hl : ls.length ≤ 1024) {p : Nat} (hp : p < ls.length) : knownE ls ((p : Int) + 1) = 0 :=
  known_ok hr hl (by unfold outD; simp; omega)
theorem nodup_ne {T : List Int} (h : T.Nodup) {j k : Nat} (hj : j < T.length) (hk : k < T.length) (hjk : j < k) : (T[j] == T[k]) = false := by
  rw [List.nodup_iff_pairwise_ne, List.pairwise_iff_getElem] at h
  simp only [beq_eq_false_iff_ne]
  exact h j k hj hk hjk
set_option maxRecDepth 100000 in
set_option maxHeartbeats 4000000 in
theorem once_no (v : Value) (ls : List SigD) (h re ot : Int) (w : World) (hv : RdS w v ls) (E : Int) (hE : (E != 0) = true)
    (hA : ∀ V, RdS V v ls → Calls Try.prog 16 #[v, .int .i64 h, .int .i64 re] V fun e w' => e = .returned (.tuple #[.slice none 0 0, .slice none 0 0, .int .i64 E]) ∧ Below V.heap.size V w') :
    Calls Try.prog 6 #[v, .int .i64 h, .int .i64 re, .int .i64 ot] w fun e w' => e = .returned (.bool true) ∧ Below w.heap.size w w' := by
  have HV := hid hv
  have HA := hid hA
  obtain ⟨o, c, rfl, _, _⟩ := hv
  clear hA
  go_enter Try.func6, Try.ntmps6
  go_wp2_with (first
    | (go_at_call 16; refine (HA.out w1 (HV.out.later HB1.out)).mono ?_; rintro e w2 ⟨rfl, hb⟩; have HB2 := hid (HB1.out.trans (hb.mono HB1.out.size)); clear hb)
    | (go_at_call 12; refine (livesA_any w).mono ?_; rintro e w1 ⟨rfl, hb⟩; have HB1 := hid hb; clear hb))
  go_ret
  exact ⟨rfl, HB2.out⟩
set_option maxRecDepth 100000 in
set_option maxHeartbeats 4000000 in
theorem once_ok (v : Value) (ls : List SigD) (m : Nat) (re ot : Int) (w : World) (hv : RdS w v ls) (hs : SmallS ls) (hm : m < ls.length) (hk : knownE ls ((m : Int) + 1) = 0) (hd : ls[m].dep = false) :
    Calls Try.prog 6 #[v, .int .i64 ((m : Int) + 1), .int .i64 re, .int .i64 ot] w fun e w' => e = .returned (.bool true) ∧ Below w.heap.size w w' := by
  have HV := hid hv
  obtain ⟨hr, hl, _⟩ := known_parts hk
  have HA1 : Hid (∀ V, RdS V v ls → _) := fun V hV => abort_any v ls m re V hV hs hm hk hd
  have HOf1 : Hid (∀ (V : World) (p : Nat) (hp : p < ls.length), RdS V v ls → _) := fun V p hp hV => ofS_ok v ls p V hV (by omega) hs hp (known_at hr hl hp)
  obtain ⟨o, c, rfl, _, _⟩ := hv
  clear hd hk
  go_enter Try.func6, Try.ntmps6
  go_upto_region 6 with (first
    | (go_at_call 16; refine (HA1.out w1 (HV.out.later HB1.out)).mono ?_; rintro e w2 ⟨oa, ca, ot2, ct, A, T, rfl, hra, hrt, hab, hb⟩; have HRA := hid hra; have HRT := hid hrt; have HAB := hid hab; have HB2 := hid (HB1.out.trans (hb.mono HB1.out.size)); clear hb hra hrt hab)
    | (go_at_call 12; refine (livesA_any w).mono ?_; rintro e w1 ⟨rfl, hb⟩; have HB1 := hid hb; clear hb))
  have hAl : A.length = ls.length := HAB.out.len
  have hTl : T.length ≤ 1099511627776 := HAB.out.short
  have HOf2 : Hid (∀ (V : World) (p : Nat) (hp : p < A.length), RdS V (.slice oa ls.length ca) A → _) := fun V p hp hV => ofS_ok (.slice oa ls.length ca) A p V hV (by omega) (right_small HAB.out.right (by omega)) hp (known_at HAB.out.right (by omega) hp)
  have HA2 : Hid (∀ V, RdS V (.slice oa ls.length ca) A → _) := fun V hV => abortS_was (.slice oa ls.length ca) A m ot V hV (by omega) (right_small HAB.out.right (by omega)) (by omega) (known_at HAB.out.right (by omega) (by omega)) (HAB.out.dep (by omega)) (HAB.out.ab (by omega))
  have HSA := hid (right_small HAB.out.right (by omega))
  rw [hAl] at HA2
  clear HA1
  go_wp2
  go_loopw [52] (fun t wr => ∃ k : Nat, k ≤ T.length ∧ t = .int .i64 k ∧ Hid (Below w2.heap.size w2 wr)) (fun t _ => T.length - (RowKit.intOf t).toNat)
  case atStart => exact ⟨0, Nat.zero_le _, rfl, Below.refl _ _⟩
  case round =>
    obtain ⟨k, k1, rfl, HBr⟩ := hrel
    by_cases hlt : k < T.length
    · obtain ⟨_, _, hsl, _, hat⟩ := HRT.out
      obtain ⟨tb, toff, rfl, htb, htc⟩ := hat (by omega)
      injection hsl with e1 e2 e3
      subst e1
      clear e2 e3
      have HTC : Hid (∀ (V : World), Below w2.heap.size w2 V → ∀ (j : Nat) (hj : j < T.length), V.cell? ⟨tb, toff + j, none⟩ = some (.int .i64 T[j])) := fun V hV j hj => (hV.cell (p := ⟨tb, toff + j, none⟩) htb).trans (htc j hj)
      have xk := HTC.out wr HBr.out k hlt
      obtain ⟨p, hxp, hp, hp', hpf, hpt⟩ := HAB.out.told T[k] (List.getElem_mem hlt)
      have HNE : Hid (∀ (j : Nat) (hj : j < T.length), j < k → (T[j] == T[k]) = false) := fun j hj hjk => nodup_ne HAB.out.nodup hj hlt hjk
      have q1 : (0 : Int) ≤ (k : Int) := by omega
      have q2 : (k : Int) < (T.length : Int) := by omega
      have HO1 : Hid (∀ V, RdS V (.slice o ls.length c) ls → _) := fun V hV => HOf1.out V p hp hV
      rw [hpf] at HO1
      have HO2 : Hid (∀ V, RdS V (.slice oa ls.length ca) A → _) := fun V hV => HOf2.out V p hp' hV
      rw [hpt] at HO2
      rw [hxp] at xk HNE
      generalize ls[p].re = re1 at *
      generalize A[p].re = re2 at *
      clear htc hat htb hpf hpt hxp HOf1 HOf2 HA2
      go_wp2
      go_loopw [14] (fun t wr => ∃ j : Nat, j ≤ k ∧ t = .int .i64 j ∧ Hid (Below w2.heap.size w2 wr)) (fun t _ => k - (RowKit.intOf t).toNat)
      case atStart => exact ⟨0, Nat.zero_le _, rfl, HBr⟩
      case round =>
        obtain ⟨j, j1, rfl, HBi⟩ := hrel
        by_cases hjk : j < k
        · have xj := HTC.out wr HBi.out j (by omega)
          have hne := HNE.out j (by omega) hjk
          have r1 : (0 : Int) ≤ (j : Int) := by omega
          have r2 : (j : Int) < (T.length : Int) := by omega
          clear HTC HNE HO1 HO2 xk
          generalize T[j] = y at *
          go_wp2
          go_roundw
          case rel => exact ⟨j + 1, by omega, by go_num, HBi⟩
          case measure => simp [RowKit.intOf]; omega
        · clear HTC HNE xk
          obtain rfl : j = k := by omega
          go_wp2_with (first
            | (go_at_call 18; refine (HO2.out w6 (HRA.out.later HB6.out)).mono ?_; rintro e w7 ⟨rfl, hb⟩; have HB7 := hid (HB6.out.trans (hb.mono HB6.out.size)); clear hb)
            | (go_at_call 18; refine (HO1.out wr (HV.out.later (HB2.out.trans (HBi.out.mono HB2.out.size)))).mono ?_; rintro e w6 ⟨rfl, hb⟩; have HB6 := hid (HBi.out.trans (hb.mono HBi.out.size)); clear hb))
          go_roundw
          case rel => exact ⟨j + 1, by omega, by go_num, HB7⟩
          case measure => simp [RowKit.intOf]; omega
    · obtain rfl : k = T.length := by omega
      have HSm : Hid (∀ V v2, RdS V (.slice oa ls.length ca) A → RdS V v2 A → _) := fun V v2 h1 h2 => sameS_eq (.slice oa ls.length ca) v2 A V h1 h2 (by omega) HSA.out
      have HKp : Hid (∀ (j : Nat) (h : j < ls.length) (h' : j < A.length), ls[j].ab = true → A[j].ab = true ∧ A[j].re = ls[j].re) := HAB.out.kept
      clear HAB HRT HSA
      go_upto_region 22 with (first
        | (go_at_call 13; refine (HSm.out w6 _ (HRA.out.later HBq6.out) HRB.out).mono ?_; rintro e w7 ⟨rfl, hb⟩; have HB7 := hid (HBq6.out.trans (hb.mono HBq6.out.size)); clear hb)
        | (go_at_call 16; refine (HA2.out wr (HRA.out.later HBr.out)).mono ?_; rintro e w6 ⟨ob, cb, l2, rfl, hm2, hO, hb⟩; have hrb := hO.read; rw [hm2] at hrb; have HRB := hid hrb; have HBq6 := hid (HBr.out.trans (hb.mono HBr.out.size)); clear hb hrb hO))
      clear HA2 HSm
      go_wp2
      go_loopw [119] (fun t wr => ∃ i : Nat, i ≤ ls.length ∧ t = .int .i64 i ∧ Hid (Below w2.heap.size w2 wr)) (fun t _ => ls.length - (RowKit.intOf t).toNat)
      case atStart => exact ⟨0, Nat.zero_le _, rfl, HB7⟩
      case round =>
        obtain ⟨i, i1, rfl, HBi⟩ := hrel
        by_cases hil : i < ls.length
        · have hil' : i < A.length := by omega
          have hw1 : IntKind.i64.wrap ((i : Int) + 1) = (i : Int) + 1 := wrapA (by omega) (by omega)
          have HO1 : Hid (∀ V, RdS V (.slice o ls.length c) ls → _) := fun V hV => HOf1.out V i hil hV
          have HO2 : Hid (∀ V, RdS V (.slice oa ls.length ca) A → _) := fun V hV => HOf2.out V i hil' hV
          have hkp := HKp.out i hil hil'
          clear HKp HOf1 HOf2
          generalize ls[i].ab = x1 at *
          generalize ls[i].re = x2 at *
          generalize A[i].ab = y1 at *
          generalize A[i].re = y2 at *
          cases x1 with
          | true =>
            obtain ⟨rfl, rfl⟩ := hkp rfl
            go_wp2_with (first
              | (go_at_call 18; refine (HO2.out w8 (HRA.out.later HB8.out)).mono ?_; rintro e w9 ⟨rfl, hb⟩; have HB9 := hid (HB8.out.trans (hb.mono HB8.out.size)); clear hb)
              | (go_at_call 18; refine (HO1.out wr (HV.out.later (HB2.out.trans (HBi.out.mono HB2.out.size)))).mono ?_; rintro e w8 ⟨rfl, hb⟩; have HB8 := hid (HBi.out.trans (hb.mono HBi.out.size)); clear hb))
            go_roundw
            case rel => exact ⟨i + 1, by omega, by go_num, HB9⟩
            case measure => simp [RowKit.intOf]; omega
          | false =>
            clear hkp
            go_wp2_with (first
              | (go_at_call 18; refine (HO2.out w8 (HRA.out.later HB8.out)).mono ?_; rintro e w9 ⟨rfl, hb⟩; have HB9 := hid (HB8.out.trans (hb.mono HB8.out.size)); clear hb)
              | (go_at_call 18; refine (HO1.out wr (HV.out.later (HB2.out.trans (HBi.out.mono HB2.out.size)))).mono ?_; rintro e w8 ⟨rfl, hb⟩; have HB8 := hid (HBi.out.trans (hb.mono HBi.out.size)); clear hb))
            go_roundw
            case rel => exact ⟨i + 1, by omega, by go_num, HB9⟩
            case measure => simp [RowKit.intOf]; omega
        · obtain rfl : i = ls.length := by omega
          go_wp2
          go_ret
          exact ⟨rfl, HB2.out.trans (HBi.out.mono HB2.out.size)⟩
theorem abortOnce_law (v : Value) (ls : List SigD) (h re ot : Int) (w : World) (hv : RdS w v ls) (hl : ls.length ≤ 1099511627776) (hs : SmallS ls) :
    Calls Try.prog 6 #[v, .int .i64 h, .int .i64 re, .int .i64 ot] w fun e w' => e = .returned (.bool true) ∧ Below w.heap.size w w' := by
  rcases abort_parts v ls h re hl hs with ⟨E, hE, hA⟩ | ⟨m, hm, rfl, hk, hd⟩
  · exact once_no v ls h re ot w hv E hE hA
  · exact once_ok v ls m re ot w hv hs hm hk hd
end Go.Proofs.Ytbidfebnkdiabaa
