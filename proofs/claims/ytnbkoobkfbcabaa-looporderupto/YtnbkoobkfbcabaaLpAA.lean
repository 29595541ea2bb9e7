/- loop: copies of queues. -/
import Derived.Test.YtnbkoobkfbcabaaLpR
namespace Go.Proofs.Ytnbkoobkfbcabaa
open Go.RowKit Go.Lib Go.Shelf

theorem QR.empty {W : World} {g : Nat} {e : TypeId} (sz : Nat) (h : W.heap[g]? = some (.cells #[] e)) : QR W e sz (.slice (some ⟨g, 0, none⟩) 0 0) 0 [] :=
  ⟨by simp, .inr ⟨g, 0, 0, 0, fun _ => default, rfl, ⟨#[], h, rfl, fun i hi => absurd hi (Nat.not_lt_zero _)⟩, Nat.le_refl _, by unfold maxLen; omega, by omega, fun t u hu => by simp at hu⟩⟩
/-- A copy: a row of its own. -/
def CopyTo (V : World) (e : TypeId) (sz n : Nat) (xs : List Value) (v : Value) (W : World) : Prop := QR W e sz v n xs ∧ (∀ g, v.ownBlock = some g → V.heap.size ≤ g) ∧ Below V.heap.size V W
set_option maxRecDepth 100000 in
set_option maxHeartbeats 1000000 in
theorem cloneI_any (v : Value) (l : List Int) (V : World) (hq : QR V 3 1 v l.length (rowN l)) (hl : l.length ≤ 1048576) :
    Calls Try.prog 58 #[v] V fun e w' => ∃ o c, e = .returned (.slice o l.length c) ∧ CopyTo V 3 1 l.length (rowN l) (.slice o l.length c) w' := by
  rcases hq.2 with ⟨rfl, h0⟩ | ⟨g, off, cap, N, f, rfl, hr, hnc, hcm, hfit, hf⟩
  · have hl0 : l = [] := List.eq_nil_of_length_eq_zero h0
    subst hl0
    have q := Go.Lib.run_eql_slice_nil (P := Try.prog) V 26 3 none 0 0 0 0 Try.underlying26
    clear hq
    go_enter Try.func58, Try.ntmps58
    go_wp2
    go_ret
    exact ⟨none, 0, rfl, QR.nil _ _ _, (fun g hg => (by cases hg)), Below.refl _ _⟩
  · obtain ⟨i0, hi, hz0, hz1, hz2⟩ := info_parts info_intQ
    have hb0 : Below V.heap.size V (V.alloc (.cells #[] 3)) := (Below.refl _ V).alloc (Nat.le_refl _) _
    have hle : l.length * 1 ≤ cap * 1 := Nat.mul_le_mul_right _ hnc
    obtain ⟨o, c', w', h1, h2, h3, h4⟩ := run_appendQ (P := Try.prog) (V.alloc (.cells #[] 3)) 26 26 3 i0 _ 1 8 Try.underlying26 hi hz0 hz1 hz2 rfl (by decide) (.slice (some ⟨V.heap.size, 0, none⟩) 0 0) 0 [] (QR.empty 1 (heap_new V _)) ⟨g, off, none⟩ l.length cap (rowN l) (rowN_len l)
      (fun j u hj => by
        have hlt : j < (rowN l).length := (List.getElem?_eq_some_iff.1 hj).1
        rw [rowN_len] at hlt
        rw [Addr.add_lit]
        exact (hb0.cell (p := ⟨g, off + j, none⟩) hr.lt).trans (by rw [hr.cell (by omega), hf j u hj])) (rowN_one l) (by unfold maxLen; omega) (by omega)
    rw [Nat.zero_add, List.nil_append] at *
    have HC : Hid (CopyTo V 3 1 l.length (rowN l) (.slice o l.length c') w') := ⟨h2, fun g' hg' => by
      rcases h4 g' hg' with h' | h'
      · exact Nat.le_of_eq (Option.some.inj h')
      · exact Nat.le_trans hb0.size h', hb0.grown h3 hb0.size (fun k hk => Nat.le_of_eq (Option.some.inj hk))⟩
    have q := Go.Lib.run_eql_slice_nil (P := Try.prog) V 26 3 (some ⟨g, off, none⟩) l.length cap 0 0 Try.underlying26
    generalize l.length = L at *
    clear h2 h3 h4 hb0 hq hr hf hfit
    go_enter Try.func58, Try.ntmps58
    go_wp2_with (at_builtin; refine wpList_append_run _ rfl _ _ 26 26 rfl _ _ rfl rfl _ _ h1 ?_)
    go_ret
    exact ⟨o, c', rfl, HC.out⟩
set_option maxRecDepth 100000 in
set_option maxHeartbeats 1000000 in
theorem cloneA_any (v : Value) (l : List AlD) (V : World) (hq : QR V 103 3 v l.length (rowA l)) (hl : l.length ≤ 1048576) :
    Calls Try.prog 59 #[v] V fun e w' => ∃ o c, e = .returned (.slice o l.length c) ∧ CopyTo V 103 3 l.length (rowA l) (.slice o l.length c) w' := by
  rcases hq.2 with ⟨rfl, h0⟩ | ⟨g, off, cap, N, f, rfl, hr, hnc, hcm, hfit, hf⟩
  · have hl0 : l = [] := List.eq_nil_of_length_eq_zero h0
    subst hl0
    have q := Go.Lib.run_eql_slice_nil (P := Try.prog) V 66 103 none 0 0 0 0 Try.underlying66
    clear hq
    go_enter Try.func59, Try.ntmps59
    go_wp2
    go_ret
    exact ⟨none, 0, rfl, QR.nil _ _ _, (fun g hg => (by cases hg)), Below.refl _ _⟩
  · obtain ⟨i0, hi, hz0, hz1, hz2⟩ := info_parts info_alQ
    have hb0 : Below V.heap.size V (V.alloc (.cells #[] 103)) := (Below.refl _ V).alloc (Nat.le_refl _) _
    have hle : l.length * 3 ≤ cap * 3 := Nat.mul_le_mul_right _ hnc
    obtain ⟨o, c', w', h1, h2, h3, h4⟩ := run_appendQ (P := Try.prog) (V.alloc (.cells #[] 103)) 66 66 103 i0 _ 3 24 Try.underlying66 hi hz0 hz1 hz2 rfl (by decide) (.slice (some ⟨V.heap.size, 0, none⟩) 0 0) 0 [] (QR.empty 3 (heap_new V _)) ⟨g, off, none⟩ l.length cap (rowA l) (rowA_len l)
      (fun j u hj => by
        have hlt : j < (rowA l).length := (List.getElem?_eq_some_iff.1 hj).1
        rw [rowA_len] at hlt
        rw [Addr.add_lit]
        exact (hb0.cell (p := ⟨g, off + j, none⟩) hr.lt).trans (by rw [hr.cell (by omega), hf j u hj])) (rowA_one l) (by unfold maxLen; omega) (by omega)
    rw [Nat.zero_add, List.nil_append] at *
    have HC : Hid (CopyTo V 103 3 l.length (rowA l) (.slice o l.length c') w') := ⟨h2, fun g' hg' => by
      rcases h4 g' hg' with h' | h'
      · exact Nat.le_of_eq (Option.some.inj h')
      · exact Nat.le_trans hb0.size h', hb0.grown h3 hb0.size (fun k hk => Nat.le_of_eq (Option.some.inj hk))⟩
    have q := Go.Lib.run_eql_slice_nil (P := Try.prog) V 66 103 (some ⟨g, off, none⟩) l.length cap 0 0 Try.underlying66
    generalize l.length = L at *
    clear h2 h3 h4 hb0 hq hr hf hfit
    go_enter Try.func59, Try.ntmps59
    go_wp2_with (at_builtin; refine wpList_append_run _ rfl _ _ 66 66 rfl _ _ rfl rfl _ _ h1 ?_)
    go_ret
    exact ⟨o, c', rfl, HC.out⟩
theorem CopyTo.lt {V W : World} {e : TypeId} {sz n : Nat} {xs : List Value} {v : Value} (h : CopyTo V e sz n xs v W) {g : Nat} (hg : v.ownBlock = some g) : g < W.heap.size := h.1.lt hg
/-- The copy stays behind what leaves it alone. -/
theorem CopyTo.keep {V V1 W U : World} {e : TypeId} {sz n : Nat} {xs : List Value} {v : Value} (h : CopyTo V1 e sz n xs v W) (hb : Below V.heap.size V V1) {N : Nat} (hN : V.heap.size ≤ N) (hN2 : N < V1.heap.size) (hU : But1 N W U) : CopyTo V e sz n xs v U := by
  obtain ⟨h1, h2, h3⟩ := h
  have hs := hb.size
  refine ⟨h1.kept fun g hg => hU.block g (h1.lt hg) (by have := h2 g hg; omega), fun g hg => Nat.le_trans hs (h2 g hg), ?_⟩
  have h4 := hb.trans (h3.mono hs)
  exact ⟨hU.os.trans h4.os, hU.tape.trans h4.tape, hU.output.trans h4.output, Nat.le_trans h4.size hU.size, fun k hk => (hU.block k (Nat.lt_of_lt_of_le hk h4.size) (by omega)).trans (h4.block k hk)⟩
set_option maxRecDepth 100000 in
set_option maxHeartbeats 1000000 in
theorem copiedI_any (B i : Nat) (v : Value) (l : List Int) (V : World) (hc : V.cell? ⟨B, i, none⟩ = some v) (hq : QR V 3 1 v l.length (rowN l)) (hl : l.length ≤ 1048576) :
    Calls Try.prog 36 #[.pointer (some ⟨B, i, none⟩)] V fun e w' => ∃ o c, e = .returned (.agg #[.slice o l.length c]) ∧ CopyTo V 3 1 l.length (rowN l) (.slice o l.length c) w' := by
  have hb : Below V.heap.size V (V.alloc (.cells #[.slice none 0 0] 64)) := (Below.refl _ V).alloc (Nat.le_refl _) _
  have hC : Hid (Calls Try.prog 58 #[v] (V.alloc (.cells #[.slice none 0 0] 64)) fun e w' => ∃ o c, e = .returned (.slice o l.length c) ∧ w'.heap[V.heap.size]? = some (.cells #[.slice none 0 0] 64) ∧ Hid (∀ U, But1 V.heap.size w' U → CopyTo V 3 1 l.length (rowN l) (.slice o l.length c) U)) := by
    refine (cloneI_any v l _ (hq.later hb) hl).mono ?_
    rintro e w' ⟨o, c, rfl, h⟩
    exact ⟨o, c, rfl, blkLater h.2.2 (heap_new V _), fun U hU => h.keep hb (Nat.le_refl _) (by simp) hU⟩
  have c0 := cell?_alloc_some (.cells #[.slice none 0 0] 64) hc
  obtain ⟨vo, vc, rfl⟩ := hq.shape
  generalize l.length = L at *
  clear hb hq hc
  go_enter Try.func36, Try.ntmps36
  go_wp2_with (go_at_call 58; refine hC.out.mono ?_; rintro e w3 ⟨o3, c3, rfl, hz, HQ⟩; have z0 := (cell_of_heap hz 0).trans rfl; have f0 := box_fz hz 0; have HZ := hid hz; clear hz)
  have k0 := (cell_of_heap (set_boxQ (o := 0) HZ.out (.slice o3 L c3)) 0).trans rfl
  refine bodyPost_ret (v := .agg #[.slice o3 L c3]) (by simp [results, Try.results36, go_sem, k0]) rfl ?_
  exact ⟨o3, c3, rfl, HQ.out _ ((But1.refl _ _).set 0 _)⟩
set_option maxRecDepth 100000 in
set_option maxHeartbeats 1000000 in
theorem copiedA_any (B i : Nat) (v : Value) (l : List AlD) (V : World) (hc : V.cell? ⟨B, i, none⟩ = some v) (hq : QR V 103 3 v l.length (rowA l)) (hl : l.length ≤ 1048576) :
    Calls Try.prog 37 #[.pointer (some ⟨B, i, none⟩)] V fun e w' => ∃ o c, e = .returned (.agg #[.slice o l.length c]) ∧ CopyTo V 103 3 l.length (rowA l) (.slice o l.length c) w' := by
  have hb : Below V.heap.size V (V.alloc (.cells #[.slice none 0 0] 68)) := (Below.refl _ V).alloc (Nat.le_refl _) _
  have hC : Hid (Calls Try.prog 59 #[v] (V.alloc (.cells #[.slice none 0 0] 68)) fun e w' => ∃ o c, e = .returned (.slice o l.length c) ∧ w'.heap[V.heap.size]? = some (.cells #[.slice none 0 0] 68) ∧ Hid (∀ U, But1 V.heap.size w' U → CopyTo V 103 3 l.length (rowA l) (.slice o l.length c) U)) := by
    refine (cloneA_any v l _ (hq.later hb) hl).mono ?_
    rintro e w' ⟨o, c, rfl, h⟩
    exact ⟨o, c, rfl, blkLater h.2.2 (heap_new V _), fun U hU => h.keep hb (Nat.le_refl _) (by simp) hU⟩
  have c0 := cell?_alloc_some (.cells #[.slice none 0 0] 68) hc
  obtain ⟨vo, vc, rfl⟩ := hq.shape
  generalize l.length = L at *
  clear hb hq hc
  go_enter Try.func37, Try.ntmps37
  go_wp2_with (go_at_call 59; refine hC.out.mono ?_; rintro e w3 ⟨o3, c3, rfl, hz, HQ⟩; have z0 := (cell_of_heap hz 0).trans rfl; have f0 := box_fz hz 0; have HZ := hid hz; clear hz)
  have k0 := (cell_of_heap (set_boxQ (o := 0) HZ.out (.slice o3 L c3)) 0).trans rfl
  refine bodyPost_ret (v := .agg #[.slice o3 L c3]) (by simp [results, Try.results37, go_sem, k0]) rfl ?_
  exact ⟨o3, c3, rfl, HQ.out _ ((But1.refl _ _).set 0 _)⟩
end Go.Proofs.Ytnbkoobkfbcabaa
