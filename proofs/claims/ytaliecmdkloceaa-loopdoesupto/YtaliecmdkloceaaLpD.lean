/- loop: a timer is deleted out of its row, in place. -/
import Derived.Test.YtaliecmdkloceaaLpC
import Derived.Deep.RegionLaw
namespace Go.Proofs.Ytaliecmdkloceaa
open Go.RowKit Go.Lib Go.Shelf

/-- 'clear(s)': the cells hold zeros. -/
theorem run_clearQ {P : Program} (w : World) (t e ty : TypeId) (z : Value) (ht : P.underlying t = some (.slice e)) (hv : ∀ w, (zeroValue e).run P w = .ok z w) (b o n c : Nat) (hn : 0 < n) (h1 : ∀ v ∈ (Builtin.zeroCells z.cells n).toList, v.oneCell' = true)
    (hc : ∀ j, j < (Builtin.zeroCells z.cells n).toList.length → (w.cell? ⟨b, o + j, none⟩).isSome = true) (hf : ∀ j, j < (Builtin.zeroCells z.cells n).toList.length → w.frozen? ⟨b, o + j, none⟩ = false) :
    (Builtin.clear_ #[t] ty #[.slice (some ⟨b, o, none⟩) n c]).run P w = .ok (.tuple #[]) (w.setCells b o (Builtin.zeroCells z.cells n).toList) := by
  have hst := run_storeCells_cells (P := P) b o (Builtin.zeroCells z.cells n).toList 0 w (by simpa using hc) (by simpa using hf) h1
  simp only [Nat.add_zero] at hst
  obtain ⟨m, rfl⟩ : ∃ m, n = m + 1 := ⟨n - 1, by omega⟩
  simp [Builtin.clear_, run_underlying ht, hv, hst]
theorem zero_alQ (w : World) : (zeroValue 99).run Try.prog w = .ok (.agg #[.int .i64 0, .int .i64 0, .int .i64 0]) w := by
  obtain ⟨i0, hi, hz0, hz1, hz2⟩ := info_parts info_alQ
  simp [zeroValue, typeInfo, hi, hz0]
theorem erase_rows (l : List AlD) (i : Nat) : rowA (l.eraseIdx i) = (rowA l).take (i * 3) ++ rowA (l.drop (i + 1)) := by
  rw [List.eraseIdx_eq_take_drop_succ, rowA_append, rowA_take]
set_option maxRecDepth 1000000 in
set_option maxHeartbeats 4000000 in
theorem deleteA_any (g off c i n : Nat) (l : List AlD) (V : World) (hq : QR V 99 3 (.slice (some ⟨g, off, none⟩) n c) n (rowA l)) (hl : l.length = n) (hi : i < n) (hn : n ≤ 1048576) :
    Calls Try.prog 55 #[.slice (some ⟨g, off, none⟩) n c, .int .i64 i, .int .i64 ((i : Int) + 1)] V fun e w' => e = .returned (.slice (some ⟨g, off, none⟩) (n - 1) c) ∧ QR w' 99 3 (.slice (some ⟨g, off, none⟩) (n - 1) c) (n - 1) (rowA (l.eraseIdx i)) ∧ V.grownBy w' (some g) := by
  obtain ⟨i0, hi0, hz0, hz1, hz2⟩ := info_parts info_alQ
  have h2 := hq.2
  rcases h2 with ⟨h, _⟩ | ⟨g', off', cap, N, f, hv, hr, hnc, hcm, hfit, hf⟩
  · cases h
  injection hv with e1 e2 e3
  injection e1 with e1
  injection e1 with e1 e4 e5
  subst e1 e4 e3
  clear e2 e5
  obtain ⟨news, hnews⟩ : ∃ news, rowA (l.drop (i + 1)) = news := ⟨_, rfl⟩
  have hlen : news.length = (n - (i + 1)) * 3 := by rw [← hnews, rowA_len, List.length_drop, hl]
  have hget : ∀ t u, news[t]? = some u → f (off + ((i + 1) * 3 + t)) = u := fun t u hu => by
    rw [← hnews, rowA_drop, List.getElem?_drop] at hu
    exact hf _ u hu
  have hn3 : n * 3 ≤ c * 3 := Nat.mul_le_mul_right _ hnc
  obtain ⟨A, hA, hsrc⟩ : ∃ A : Addr, (if c = i + 1 then some (⟨g, off, none⟩ : Addr) else some ⟨g, off + (i + 1) * 3, none⟩) = some A ∧ Hid (∀ t u, news[t]? = some u → V.drew.cell? (A.add t) = some u) := by
    by_cases h : c = i + 1
    · refine ⟨⟨g, off, none⟩, by rw [if_pos h], fun t u hu => ?_⟩
      have ht : t < news.length := (List.getElem?_eq_some_iff.1 hu).1
      omega
    · refine ⟨⟨g, off + (i + 1) * 3, none⟩, by rw [if_neg h], fun t u hu => ?_⟩
      have ht : t < news.length := (List.getElem?_eq_some_iff.1 hu).1
      rw [Addr.add_lit]
      show V.cell? _ = _
      rw [Nat.add_assoc, hr.cell (by omega), hget t u hu]
  have s2 : Hid (∀ u ∈ news, u.oneCell' = true) := by
    intro u hu
    rw [← hnews] at hu
    exact rowA_one _ u hu
  have s3 : Hid (∀ t, t < news.length → (V.drew.cell? ⟨g, off + i * 3 + t, none⟩).isSome = true ∧ V.drew.frozen? ⟨g, off + i * 3 + t, none⟩ = false) := by
    intro t ht
    refine ⟨?_, hr.frozen _⟩
    show (V.cell? _).isSome = true
    rw [hr.cell (by omega)]
    rfl
  obtain ⟨W1, hW1⟩ : ∃ W1, W1 = V.drew.setCells g (off + i * 3) news := ⟨_, rfl⟩
  have hr1 : W1.rowIs g 99 N (fun j => if off + i * 3 ≤ j ∧ j < off + i * 3 + news.length then news[j - (off + i * 3)]?.getD default else f j) := by
    rw [hW1]
    exact rowIs_setCells news (off + i * 3) V.drew f hr
  have hg1 : V.grownBy W1 (some g) := by
    rw [hW1]
    exact ⟨(grown_setCells g news _ V.drew).os, (grown_setCells g news _ V.drew).tape, (grown_setCells g news _ V.drew).output, (grown_setCells g news _ V.drew).size, (grown_setCells g news _ V.drew).block⟩
  have hzl : (Builtin.zeroCells (Value.agg #[.int .i64 0, .int .i64 0, .int .i64 0]).cells 1).toList = [.int .i64 0, .int .i64 0, .int .i64 0] := by kernel_rfl
  have hcl : ∀ ty, (Builtin.clear_ #[54] ty #[.slice (some ⟨g, off + (n - 1) * 3, none⟩) 1 (c - (n - 1))]).run Try.prog W1 = .ok (.tuple #[]) (W1.setCells g (off + (n - 1) * 3) [.int .i64 0, .int .i64 0, .int .i64 0]) := fun ty => by
    have h := run_clearQ (P := Try.prog) W1 54 99 ty _ Try.underlying54 zero_alQ g (off + (n - 1) * 3) 1 (c - (n - 1)) (by omega) (by rw [hzl]; intro v hv; simp only [List.mem_cons, List.not_mem_nil, or_false] at hv; rcases hv with rfl | rfl | rfl <;> rfl)
      (fun j hj => by rw [hzl] at hj; have : j < 3 := hj; rw [hr1.cell (by omega)]; rfl) (fun j hj => hr1.frozen _)
    rw [hzl] at h
    exact h
  have HQ : Hid (QR (W1.setCells g (off + (n - 1) * 3) [.int .i64 0, .int .i64 0, .int .i64 0]) 99 3 (.slice (some ⟨g, off, none⟩) (n - 1) c) (n - 1) (rowA (l.eraseIdx i))) := by
    refine ⟨by rw [rowA_len, List.length_eraseIdx_of_lt (by omega), hl], .inr ⟨g, off, c, N, _, rfl, rowIs_setCells [.int .i64 0, .int .i64 0, .int .i64 0] (off + (n - 1) * 3) W1 _ hr1, by omega, hcm, hfit, fun t u hu => ?_⟩⟩
    have ht : t < (rowA (l.eraseIdx i)).length := (List.getElem?_eq_some_iff.1 hu).1
    rw [rowA_len, List.length_eraseIdx_of_lt (by omega), hl] at ht
    rw [if_neg (by omega)]
    rw [erase_rows l i, hnews] at hu
    have htl : ((rowA l).take (i * 3)).length = i * 3 := by rw [List.length_take, rowA_len, hl]; omega
    by_cases h : t < i * 3
    · rw [if_neg (by omega)]
      rw [List.getElem?_append_left (by omega), List.getElem?_take, if_pos h] at hu
      exact hf t u hu
    · rw [List.getElem?_append_right (by omega), htl] at hu
      have hlt2 : t - i * 3 < news.length := (List.getElem?_eq_some_iff.1 hu).1
      rw [if_pos (by omega), show off + t - (off + i * 3) = t - i * 3 by omega, hu]
      rfl
  have HG : Hid (V.grownBy (W1.setCells g (off + (n - 1) * 3) [.int .i64 0, .int .i64 0, .int .i64 0]) (some g)) := by
    have h2 := grown_setCells g [.int .i64 0, .int .i64 0, .int .i64 0] (off + (n - 1) * 3) W1
    exact ⟨h2.os.trans hg1.os, h2.tape.trans hg1.tape, h2.output.trans hg1.output, Nat.le_trans hg1.size h2.size, fun k hk hne => (h2.block k (Nat.lt_of_lt_of_le hk hg1.size) hne).trans (hg1.block k hk hne)⟩
  have hW : Hid (W1 = V.drew.setCells g (off + i * 3) news) := hW1
  have hlen2 : Hid (news.length = (n - (i + 1)) * 3) := hlen
  generalize W1.setCells g (off + (n - 1) * 3) [.int .i64 0, .int .i64 0, .int .i64 0] = W2 at *
  have q1 : i + (n - (i + 1)) = n - 1 := by omega
  have q2 : n - (n - 1) = 1 := by omega
  have q3 : i + 1 ≤ n := by omega
  have q4 : i + 1 ≤ c := by omega
  have q5 : i ≤ c := by omega
  have q6 : ¬ (c = n - 1) := by omega
  have q7 : IntKind.i64.wrap ((i : Int) + 1) = (i : Int) + 1 := by rw [IntKind.wrap_i64]; unfold maxLen at hcm; omega
  have q8 : ((i : Int) + 1).toNat = i + 1 := by omega
  have q9 : ¬ ((i : Int) = (i : Int) + 1) := by omega
  have q10 : c ≤ 9223372036854775807 := hcm
  have q11 : n - 1 ≤ n := by omega
  have q12 : n - 1 ≤ c := by omega
  have q13 : (i : Int) + 1 ≤ (n : Int) := by omega
  have q14 : (0 : Int) ≤ (i : Int) + 1 := by omega
  clear hW1 hr1 hg1 hr hf hfit hget hnews hlen hq hzl hz0 hz2 hn3 hcm hl
  have mixed : True := trivial
  go_enter Try.func55, Try.ntmps55
  go_wp2_with fail
  go_region_law (refine step_append_room rfl (.tmp 22) (.tmp 25) 54 rfl 99 i0 3 Try.underlying54 hi0 hz1 g off i c (by simp [Act.eval, Act.put]) A (n - (i + 1)) (c - (i + 1)) news (by simp [Act.eval, Act.put]) hlen2.out hsrc.out s2.out (by omega) s3.out ?_; rw [← hW.out])
  go_wp2
  go_ret
  exact ⟨rfl, HQ.out, HG.out⟩
end Go.Proofs.Ytaliecmdkloceaa
