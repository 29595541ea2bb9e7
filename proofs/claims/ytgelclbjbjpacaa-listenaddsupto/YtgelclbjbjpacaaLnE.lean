/- listen: refused, Passive; slices.IndexFunc and ContainsFunc at listeners; cmp.Or. -/
import Derived.Test.YtgelclbjbjpacaaLnC
namespace Go.Proofs.Ytgelclbjbjpacaa
open Go.RowKit Go.Lib Go.Shelf

def refusedD (x : LstD) : Int := if decide (1024 < x.kind.size) = true then 4 else if (decide (x.node < 1) || decide (3 ≤ x.pas)) = true then 2 else 0
set_option maxRecDepth 100000 in
set_option maxHeartbeats 1000000 in
theorem refused_any (x : LstD) (w : World) : Calls Try.prog 28 #[lstV x] w fun e w' => e = .returned (.int .i64 (refusedD x)) ∧ Below w.heap.size w w' := by
  unfold lstV
  obtain ⟨R, hR⟩ : ∃ R, refusedD x = R := ⟨_, rfl⟩
  rw [hR]
  unfold refusedD at hR
  obtain ⟨i, n, k, c, cp, on, ps, sg⟩ := x
  simp only at hR ⊢
  have e1 : decide (((k.size : Nat) : Int) > 1024) = decide (1024 < k.size) := by rw [decide_eq_decide]; omega
  have e3 : decide ((ps : Int) ≥ 3) = decide (3 ≤ ps) := by rw [decide_eq_decide]; omega
  rw [← e1, ← e3] at hR
  clear e1 e3
  cases h1 : decide (((k.size : Nat) : Int) > 1024) <;> cases h2 : decide (n < 1) <;> cases h3 : decide ((ps : Int) ≥ 3)
  all_goals
    rw [h1, h2, h3] at hR
    first
      | obtain rfl : 4 = R := hR
      | obtain rfl : 2 = R := hR
      | obtain rfl : 0 = R := hR
    go_enter Try.func28, Try.ntmps28
    go_wp2
    go_ret
    exact ⟨rfl, (Below.refl _ w).alloc (Nat.le_refl _) _⟩

def scrollD (k : ByteArray) : Bool := k.toList == [116, 111, 117, 99, 104, 115, 116, 97, 114, 116] || (k.toList == [116, 111, 117, 99, 104, 109, 111, 118, 101] || (k.toList == [119, 104, 101, 101, 108] || k.toList == [109, 111, 117, 115, 101, 119, 104, 101, 101, 108]))
def passD (k : ByteArray) (root : Bool) : Nat := if (root && scrollD k) = true then 1 else 2
set_option maxRecDepth 100000 in
set_option maxHeartbeats 1000000 in
theorem passive_any (k : ByteArray) (root : Bool) (w : World) : Calls Try.prog 14 #[.string k, .bool root] w fun e w' => e = .returned (.int .u8 (passD k root : Nat)) ∧ w' = w := by
  obtain ⟨R, hR⟩ : ∃ R, passD k root = R := ⟨_, rfl⟩
  rw [hR]
  unfold passD scrollD at hR
  cases h1 : (k.toList == [116, 111, 117, 99, 104, 115, 116, 97, 114, 116]) <;> cases h2 : (k.toList == [116, 111, 117, 99, 104, 109, 111, 118, 101]) <;> cases h3 : (k.toList == [119, 104, 101, 101, 108]) <;> cases h4 : (k.toList == [109, 111, 117, 115, 101, 119, 104, 101, 101, 108]) <;> cases root
  all_goals
    rw [h1, h2, h3, h4] at hR
    first
      | obtain rfl : 1 = R := hR
      | obtain rfl : 2 = R := hR
    go_enter Try.func14, Try.ntmps14
    go_wp2
    go_ret
    exact ⟨rfl, rfl⟩
set_option maxRecDepth 100000 in
set_option maxHeartbeats 1000000 in
theorem refPassive_any (k : ByteArray) (root : Bool) (w : World) : Calls Try.prog 15 #[.string k, .bool root] w fun e w' => e = .returned (.int .u8 (passD k root : Nat)) ∧ w' = w := by
  obtain ⟨R, hR⟩ : ∃ R, passD k root = R := ⟨_, rfl⟩
  rw [hR]
  unfold passD scrollD at hR
  cases h1 : (k.toList == [116, 111, 117, 99, 104, 115, 116, 97, 114, 116]) <;> cases h2 : (k.toList == [116, 111, 117, 99, 104, 109, 111, 118, 101]) <;> cases h3 : (k.toList == [119, 104, 101, 101, 108]) <;> cases h4 : (k.toList == [109, 111, 117, 115, 101, 119, 104, 101, 101, 108]) <;> cases root
  all_goals
    rw [h1, h2, h3, h4] at hR
    first
      | obtain rfl : 1 = R := hR
      | obtain rfl : 2 = R := hR
    go_enter Try.func15, Try.ntmps15
    go_wp2
    go_ret
    exact ⟨rfl, rfl⟩
set_option maxRecDepth 100000 in
set_option maxHeartbeats 2000000 in
theorem indexL_any (v f : Value) (l : List LstD) (p : LstD → Bool) (w : World) (hv : RdL w v l) (hl : l.length ≤ 1099511627776) (hf : Which w f p) :
    Calls Try.prog 37 #[v, f] w fun e w' => e = .returned (.int .i64 (firstL p l 0)) ∧ Below w.heap.size w w' := by
  obtain ⟨o, c, rfl, hc, g⟩ := hv
  obtain ⟨fn, lb, rfl, eg, hp⟩ := hf.is
  obtain ⟨N, hN⟩ : ∃ N, firstL p l 0 = N := ⟨_, rfl⟩
  rw [hN]
  have HN : Hid (firstL p (l.drop 0) 0 = N) := hN
  have HP := hid hp
  have G := hid g
  clear hN hp g hf
  go_enter Try.func37, Try.ntmps37
  go_wp2
  go_loopw [8] (fun t wr => ∃ k : Nat, k ≤ l.length ∧ t = .int .i64 k ∧ Hid (Below w.heap.size w wr) ∧ Hid (firstL p (l.drop k) k = N)) (fun t _ => l.length - (RowKit.intOf t).toNat)
  case atStart => exact ⟨0, Nat.zero_le _, rfl, Below.refl _ _, HN⟩
  case round =>
    obtain ⟨k, k1, rfl, hB, hK⟩ := hrel
    by_cases hlt : k < l.length
    · obtain ⟨b, off, rfl, hlt1, ha⟩ := G.out (by omega)
      obtain ⟨x0, x1, x2, x3, x4, x5, x6, x7⟩ := (ha k hlt).later hlt1 hB.out
      have q1 : (0 : Int) ≤ (k : Int) := by omega
      have q2 : (k : Int) < (l.length : Int) := by omega
      have hk := hK.out
      rw [List.drop_eq_getElem_cons hlt, firstL] at hk
      have Hk := hid hk
      have hC := HP.out l[k] wr hB.out
      clear hk hK ha G HP
      generalize l[k] = a at *
      generalize p a = R at *
      unfold lstV at hC
      cases R with
      | true =>
        have hNk : N = (k : Int) := by rw [← Hk.out]; rfl
        subst hNk
        clear Hk
        go_wp2_with (go_at_fn fn; refine hC.mono ?_; rintro e w2 ⟨rfl, hb⟩; have HB2 := hid (hB.out.trans (hb.mono hB.out.size)); clear hb)
        go_ret
        exact ⟨rfl, HB2.out⟩
      | false =>
        have Hn : Hid (firstL p (l.drop (k + 1)) ((k + 1 : Nat) : Int) = N) := by
          have h := Hk.out
          rw [if_neg Bool.false_ne_true] at h
          exact h
        clear Hk
        go_wp2_with (go_at_fn fn; refine hC.mono ?_; rintro e w2 ⟨rfl, hb⟩; have HB2 := hid (hB.out.trans (hb.mono hB.out.size)); clear hb)
        go_roundw
        case rel => exact ⟨k + 1, by omega, by go_num, HB2, Hn⟩
        case measure => simp [RowKit.intOf]; omega
    · have hNk : N = -1 := by
        rw [← hK.out, List.drop_eq_nil_of_le (by omega)]
        rfl
      subst hNk
      clear hK G HP
      go_wp2
      go_ret
      exact ⟨rfl, hB.out⟩
set_option maxRecDepth 100000 in
set_option maxHeartbeats 2000000 in
theorem containsL_any (v f : Value) (l : List LstD) (p : LstD → Bool) (w : World) (hv : RdL w v l) (hl : l.length ≤ 1099511627776) (hf : Which w f p) :
    Calls Try.prog 29 #[v, f] w fun e w' => e = .returned (.bool (l.any p)) ∧ Below w.heap.size w w' := by
  have hI := indexL_any v f l p w hv hl hf
  have hA := firstL_any p l 0 (by omega)
  rw [← hA]
  obtain ⟨o, c, rfl, hc, g⟩ := hv
  obtain ⟨fn, lb, rfl, eg, hp⟩ := hf.is
  clear hA g hp hf
  generalize firstL p l 0 = N at *
  go_enter Try.func29, Try.ntmps29
  go_wp2_with (go_at_call 37; refine hI.mono ?_; rintro e w2 ⟨rfl, hb⟩; have HB2 := hid hb; clear hb)
  go_ret
  exact ⟨rfl, HB2.out⟩
end Go.Proofs.Ytgelclbjbjpacaa
