/- The reference of forest: Find, attrs. -/
import Derived.Test.YtilacgcjbdkphaaGreatFRefA
namespace Go.Proofs.YtilacgcjbdkphaaGreat
open Go.RowKit Go.Lib

set_option maxRecDepth 100000 in
set_option maxHeartbeats 4000000 in
theorem refFind_any (v : Value) (l : List AttrD) (sp pre lo : ByteArray) (w : World) (hr : RdA w v l) (hlen : l.length ≤ 1099511627776) :
    Calls Tryz.prog 140 #[v, .agg #[.string sp, .string pre, .string lo]] w fun e w' => e = .returned (.int .i64 (attrIdx l sp lo)) ∧ Below w.heap.size w w' := by
  obtain ⟨o, cap, rfl, hc, g⟩ := hr
  have HI : Hid (∀ k : Nat, k ≤ l.length → (∀ (j : Nat) (h : j < l.length), j < k → (l[j].space.data.toList == sp.data.toList && l[j].loc.data.toList == lo.data.toList) = false) → _) := idxOf_from l fun a => a.space.data.toList == sp.data.toList && a.loc.data.toList == lo.data.toList
  have hR : attrIdx l sp lo = idxOf l fun a => a.space.data.toList == sp.data.toList && a.loc.data.toList == lo.data.toList := rfl
  rw [hR]
  generalize hRR : (idxOf l fun a => a.space.data.toList == sp.data.toList && a.loc.data.toList == lo.data.toList) = R at HI ⊢
  clear hRR hR
  go_enter Tryz.func140, Tryz.ntmps140
  go_wp2
  go_loopw [9] (fun i wr => ∃ k : Nat, k ≤ l.length ∧ i = .int .i64 k ∧ Below (w.heap.size + 1) (w.alloc (.cells #[.string sp, .string pre, .string lo] 60)) wr ∧ Hid (∀ (j : Nat) (h : j < l.length), j < k → (l[j].space.data.toList == sp.data.toList && l[j].loc.data.toList == lo.data.toList) = false)) (fun i _ => l.length - (RowKit.intOf i).toNat)
  case atStart => exact ⟨0, Nat.zero_le _, rfl, Below.refl _ _, fun j h hj => absurd hj (Nat.not_lt_zero _)⟩
  case round =>
    obtain ⟨k, hk, rfl, hb, hn⟩ := hrel
    have hbw := bx_below hb
    have hsb := bx_size hb
    by_cases hlt : k < l.length
    · obtain ⟨b, off, rfl, hlt2, ha⟩ := g (by omega)
      obtain ⟨c0, c1, c2, c3⟩ := (ha k hlt).later hlt2 hbw
      have hI := HI.out k hk hn.out
      rw [List.drop_eq_getElem_cons hlt] at hI
      have hnx : (l[k].space.data.toList == sp.data.toList && l[k].loc.data.toList == lo.data.toList) = false → ∀ (j : Nat) (h : j < l.length), j < k + 1 → (l[j].space.data.toList == sp.data.toList && l[j].loc.data.toList == lo.data.toList) = false := fun he j hj hjk => by
        by_cases hjk' : j < k
        · exact hn.out j hj hjk'
        · have : j = k := by omega
          subst this
          exact he
      have Hnx := hid hnx
      have HII := hid hI
      have m0 : ((wr.alloc (.cells #[.string l[k].space, .string l[k].pre, .string l[k].loc, .string l[k].val] 125)).cell? ⟨w.heap.size, 0, none⟩) = some (.string sp) := keep_al ((hb.cell (p := ⟨w.heap.size, 0, none⟩) (by show w.heap.size < w.heap.size + 1; omega)).trans (by simp))
      have m2 : ((wr.alloc (.cells #[.string l[k].space, .string l[k].pre, .string l[k].loc, .string l[k].val] 125)).cell? ⟨w.heap.size, 2, none⟩) = some (.string lo) := keep_al ((hb.cell (p := ⟨w.heap.size, 2, none⟩) (by show w.heap.size < w.heap.size + 1; omega)).trans (by simp))
      have e1 : (l[k].space.toList == sp.toList) = (l[k].space.data.toList == sp.data.toList) := by rw [Lib.toList_data, Lib.toList_data]
      have e2 : (l[k].loc.toList == lo.toList) = (l[k].loc.data.toList == lo.data.toList) := by rw [Lib.toList_data, Lib.toList_data]
      have q1 : (0 : Int) ≤ (k : Int) := by omega
      have q2 : (k : Int) < (l.length : Int) := by omega
      have HB2 : Hid (Below (w.heap.size + 1) (w.alloc (.cells #[.string sp, .string pre, .string lo] 60)) (wr.alloc (.cells #[.string l[k].space, .string l[k].pre, .string l[k].loc, .string l[k].val] 125))) := hb.alloc hsb _
      clear hnx hI ha g hn
      generalize l[k] = x at *
      cases hs : (x.space.data.toList == sp.data.toList && x.loc.data.toList == lo.data.toList) with
      | true =>
        have hRk : R = (k : Int) := by
          have h := HII.out
          rw [idxOf_yes x _ _ hs, if_neg (by omega)] at h
          rw [h]
          omega
        rw [Bool.and_eq_true] at hs
        rw [hs.1] at e1
        rw [hs.2] at e2
        subst hRk
        clear HII Hnx HI hs
        go_wp2
        go_ret
        exact ⟨rfl, bx_below HB2.out⟩
      | false =>
        have Hn := hid (Hnx.out hs)
        cases h1 : (x.space.data.toList == sp.data.toList) with
        | false =>
          rw [h1] at e1
          clear HII Hnx hs h1 e2
          go_wp2
          go_roundw
          case rel => exact ⟨k + 1, by omega, by go_num, HB2.out, Hn⟩
          case measure => simp [RowKit.intOf]; omega
        | true =>
          rw [h1, Bool.true_and] at hs
          rw [h1] at e1
          rw [hs] at e2
          clear HII Hnx hs h1
          go_wp2
          go_roundw
          case rel => exact ⟨k + 1, by omega, by go_num, HB2.out, Hn⟩
          case measure => simp [RowKit.intOf]; omega
    · have hRk : R = -1 := by
        have h := HI.out k hk hn.out
        rw [List.drop_eq_nil_of_le (by omega), idxOf_nil, if_pos (by omega)] at h
        exact h
      subst hRk
      clear HI hn g
      go_wp2
      go_ret
      exact ⟨rfl, hbw⟩
end Go.Proofs.YtilacgcjbdkphaaGreat
