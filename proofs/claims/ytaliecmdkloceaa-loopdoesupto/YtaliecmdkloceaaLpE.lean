/- loop: a timer is inserted into its row: at the end, in place, into a new row. -/
import Derived.Test.YtaliecmdkloceaaLpC
import Derived.Deep.RegionLaw
import Derived.Shelf.Spec.SlicesInsert
import Derived.Lib.AppendZerosOnto
namespace Go.Proofs.Ytaliecmdkloceaa
open Go.RowKit Go.Lib Go.Shelf

theorem loadCells_first {P : Program} (w : World) (sz n : Nat) (a : Addr) (sLen sCap : Nat) (cs : List Value) (hl : cs.length = n * sz) (hsrc : ∀ j v, cs[j]? = some v → w.cell? (a.add j) = some v) : (Builtin.firstCells sz n (.slice (some a) sLen sCap)).run P w = .ok cs.toArray w :=
  run_firstCells_some w sz n a sLen sCap cs hl hsrc
/-- 'copy' of elements of several cells. -/
theorem run_copyQ {P : Program} (w : World) (dT sT ty elem : TypeId) (sz b o dLen dCap : Nat) (a : Addr) (sLen sCap : Nat) (cs : List Value)
    (hu : P.underlying dT = some (.slice elem)) (hs : (P.info? elem).map (·.size) = some sz) (hn : cs.length = Nat.min sLen dLen * sz)
    (hsrc : ∀ j v, cs[j]? = some v → w.cell? (a.add j) = some v) (hc : ∀ j, j < cs.length → (w.cell? ⟨b, o + j, none⟩).isSome = true) (hf : ∀ j, j < cs.length → w.frozen? ⟨b, o + j, none⟩ = false) (h1 : ∀ v ∈ cs, v.oneCell' = true) :
    (Builtin.copy_ #[dT, sT] ty #[.slice (some ⟨b, o, none⟩) dLen dCap, .slice (some a) sLen sCap]).run P w = .ok (goInt (Nat.min sLen dLen)) (w.setCells b o cs) := by
  have hl := loadCells_first (P := P) w sz (Nat.min sLen dLen) a sLen sCap cs hn hsrc
  have hst := run_storeCells_cells (P := P) b o cs 0 w (by simpa using hc) (by simpa using hf) h1
  cases hq : P.info? elem with
  | none => simp [hq] at hs
  | some i =>
    have hi : i.size = sz := by simpa [hq] using hs
    simp [Builtin.copy_, run_underlying hu, Builtin.lenOf, sizeOf, typeInfo, hq, hi, hl, hst]
/-- What an insertion leaves. -/
def InsTo (V : World) (v : Value) (l : List AlD) (i : Nat) (x : AlD) (e : Ending) (w' : World) : Prop :=
  ∃ o c, e = .returned (.slice o (l.length + 1) c) ∧ QR w' 99 3 (.slice o (l.length + 1) c) (l.length + 1) (rowA (l.take i ++ x :: l.drop i)) ∧ V.grownBy w' v.ownBlock ∧ ∀ g, (Value.slice o (l.length + 1) c).ownBlock = some g → v.ownBlock = some g ∨ V.heap.size ≤ g

theorem al_cells (x : AlD) (V : World) (vb : Nat) (h : V.heap[vb]? = some (.cells #[.int .i64 x.due, .int .i64 x.num, .int .i64 x.id] 99)) : ∀ j u, (alC x)[j]? = some u → V.cell? ⟨vb, 0 + j, none⟩ = some u := fun j u hj => by
  rw [cell_of_heap h, Nat.zero_add]
  unfold alC at hj
  rw [← hj]
  have : j < 3 := (List.getElem?_eq_some_iff.1 hj).1
  rcases (by omega : j = 0 ∨ j = 1 ∨ j = 2) with rfl | rfl | rfl <;> rfl
theorem alC_one (x : AlD) : ∀ u ∈ alC x, u.oneCell' = true := fun u hu => by
  unfold alC at hu
  simp only [List.mem_cons, List.not_mem_nil, or_false] at hu
  rcases hu with rfl | rfl | rfl <;> rfl
theorem rowA_cons (x : AlD) (l : List AlD) : rowA (x :: l) = alC x ++ rowA l := by unfold rowA; rw [List.flatMap_cons]
set_option maxRecDepth 1000000 in
set_option maxHeartbeats 4000000 in
theorem insertEnd_any (v : Value) (l : List AlD) (n vb : Nat) (x : AlD) (V : World) (hq : QR V 99 3 v n (rowA l)) (hl : l.length = n) (hn : n ≤ 1048576) (hx : V.heap[vb]? = some (.cells #[.int .i64 x.due, .int .i64 x.num, .int .i64 x.id] 99)) :
    Calls Try.prog 51 #[v, .int .i64 n, .slice (some ⟨vb, 0, none⟩) 1 1] V fun e w' => InsTo V v l n x e w' := by
  obtain ⟨i0, hi0, hz0, hz1, hz2⟩ := info_parts info_alQ
  obtain ⟨o, c', w', h1, h2, h3, h4⟩ := run_appendQ (P := Try.prog) V 54 54 99 i0 _ 3 24 Try.underlying54 hi0 hz0 hz1 hz2 rfl (by decide) v n (rowA l) hq ⟨vb, 0, none⟩ 1 1 (alC x) rfl
    (fun j u hj => by rw [Addr.add_lit]; exact al_cells x V vb hx j u hj) (alC_one x) (by unfold maxLen; omega) (by omega)
  have HI : Hid (InsTo V v l n x (.returned (.slice o (n + 1) c')) w') := by
    refine ⟨o, c', by rw [hl], ?_, h3, by rw [hl]; exact h4⟩
    rw [hl, List.take_of_length_le (by omega), List.drop_eq_nil_of_le (by omega), rowA_append, rowA_cons]
    show QR w' _ 3 _ _ (rowA l ++ (alC x ++ []))
    rw [List.append_nil]
    exact h2
  have hcap : ∀ o c, v = .slice o n c → n ≤ c := fun o c hv => by
    rcases hq.2 with ⟨h, h0⟩ | ⟨_, _, _, _, _, hv', _, hnc, _⟩
    · omega
    · rw [hv] at hv'
      injection hv' with _ _ e3
      omega
  have hnil : ∀ c, v = .slice none n c → n = 0 ∧ c = 0 := fun c hv => by
    rcases hq.2 with ⟨h, h0⟩ | ⟨_, _, _, _, _, hv', _⟩
    · rw [hv] at h
      injection h with _ _ e3
      exact ⟨h0, e3⟩
    · rw [hv] at hv'
      cases hv'
  obtain ⟨vo, vc, rfl⟩ := hq.shape
  have hc := hcap _ _ rfl
  clear h2 h3 h4 hq hcap hx hz0 hz1 hz2 hl hi0
  cases vo with
  | none =>
    obtain ⟨rfl, rfl⟩ := hnil _ rfl
    clear hnil
    go_enter Try.func51, Try.ntmps51
    go_wp2_with (at_builtin; refine wpList_append_run _ rfl _ _ 54 54 rfl _ _ rfl rfl _ _ h1 ?_)
    go_ret
    exact HI.out
  | some a =>
    obtain ⟨ab, ao, asp⟩ := a
    clear hnil
    go_enter Try.func51, Try.ntmps51
    go_wp2_with (at_builtin; refine wpList_append_run _ rfl _ _ 54 54 rfl _ _ rfl rfl _ _ h1 ?_)
    all_goals (go_ret; exact HI.out)
theorem size_alQ (w : World) : (Go.sizeOf 99).run Try.prog w = .ok 3 w := by
  obtain ⟨i0, hi, hz0, hz1, hz2⟩ := info_parts info_alQ
  simp [sizeOf, typeInfo, hi, hz1]
set_option maxRecDepth 1000000 in
set_option maxHeartbeats 4000000 in
theorem insertShift_any (g off c n i vb : Nat) (l : List AlD) (x : AlD) (V : World) (hq : QR V 99 3 (.slice (some ⟨g, off, none⟩) n c) n (rowA l)) (hl : l.length = n) (hi : i < n) (hroom : n + 1 ≤ c) (hn : n ≤ 1048576) (hx : V.heap[vb]? = some (.cells #[.int .i64 x.due, .int .i64 x.num, .int .i64 x.id] 99)) (hne : vb ≠ g) :
    Calls Try.prog 51 #[.slice (some ⟨g, off, none⟩) n c, .int .i64 i, .slice (some ⟨vb, 0, none⟩) 1 1] V fun e w' => InsTo V (.slice (some ⟨g, off, none⟩) n c) l i x e w' := by
  obtain ⟨i0, hi0, hz0, hz1, hz2⟩ := info_parts info_alQ
  rcases hq.2 with ⟨h, _⟩ | ⟨g', off', cap, N, f, hv, hr, hnc, hcm, hfit, hf⟩
  · cases h
  injection hv with e1 e2 e3
  injection e1 with e1
  injection e1 with e1 e4 e5
  subst e1 e4 e3
  clear e2 e5
  have hr0 := hr
  obtain ⟨cur, hcur, hcs, _⟩ := hr0
  have hsz : (Try.prog.info? 99).map (·.size) = some 3 := by rw [hi0]; simp [hz1]
  have hN : 0 < N := by omega
  have hsa : V.shape? vb = some (99, 3) := by simp [World.shape?, hx]
  have hsb : V.shape? g = some (99, N) := by simp [World.shape?, hcur, hcs]
  have hov : ∀ lb cb, (callFunc 59 #[.slice (some ⟨vb, 0, none⟩) 1 1, .slice (some ⟨g, off + (i + 1) * 3, none⟩) lb cb]).run Try.prog V = .ok (.value (.bool false)) V := fun lb cb => by
    rw [run_callFunc_extern Try.func59 (by kernel_rfl) (by kernel_rfl) (by kernel_rfl) (e := Extern.SlicesOverlaps.overlaps #[54, 54] #[4]) (by kernel_rfl),
      Lib.run_overlaps_apart V 54 4 99 Try.underlying54 3 size_alQ ⟨vb, 0, none⟩ ⟨g, off + (i + 1) * 3, none⟩ 1 1 lb cb hne _ _ 3 N hsa hsb (by omega) (box_fz hx _) (box_fz hx _)]
    rfl
  obtain ⟨news, hnews⟩ : ∃ news, rowA (l.drop i) = news := ⟨_, rfl⟩
  have hlen : news.length = (n - i) * 3 := by rw [← hnews, rowA_len, List.length_drop, hl]
  have hget : ∀ t u, news[t]? = some u → f (off + (i * 3 + t)) = u := fun t u hu => by
    rw [← hnews, rowA_drop, List.getElem?_drop] at hu
    exact hf _ u hu
  have hn3 : (n + 1) * 3 ≤ c * 3 := Nat.mul_le_mul_right _ hroom
  have h1n : ∀ u ∈ news, u.oneCell' = true := by
    intro u hu
    rw [← hnews] at hu
    exact rowA_one _ u hu
  have hcp1 : ∀ ty dc sc, (Builtin.copy_ #[54, 54] ty #[.slice (some ⟨g, off + (i + 1) * 3, none⟩) (n - i) dc, .slice (some ⟨g, off + i * 3, none⟩) (n + 1 - i) sc]).run Try.prog V.drew = .ok (goInt (Nat.min (n + 1 - i) (n - i))) (V.drew.setCells g (off + (i + 1) * 3) news) := fun ty dc sc =>
    run_copyQ V.drew _ _ ty 99 3 g (off + (i + 1) * 3) (n - i) dc ⟨g, off + i * 3, none⟩ (n + 1 - i) sc news Try.underlying54 hsz (by rw [hlen]; congr 1; simp only [Nat.min_def]; split <;> omega)
      (fun j u hj => by
        have ht : j < news.length := (List.getElem?_eq_some_iff.1 hj).1
        rw [Addr.add_lit, Nat.add_assoc]
        show V.cell? _ = _
        rw [hr.cell (by omega), hget j u hj])
      (fun j hj => by show (V.cell? _).isSome = true; rw [hr.cell (by omega)]; rfl) (fun j hj => hr.frozen _) h1n
  obtain ⟨W1, hW1⟩ : ∃ W1, W1 = V.drew.setCells g (off + (i + 1) * 3) news := ⟨_, rfl⟩
  have hr1 : W1.rowIs g 99 N (fun j => if off + (i + 1) * 3 ≤ j ∧ j < off + (i + 1) * 3 + news.length then news[j - (off + (i + 1) * 3)]?.getD default else f j) := by
    rw [hW1]
    exact rowIs_setCells news (off + (i + 1) * 3) V.drew f hr
  have hg1 : V.grownBy W1 (some g) := by
    rw [hW1]
    exact ⟨(grown_setCells g news _ V.drew).os, (grown_setCells g news _ V.drew).tape, (grown_setCells g news _ V.drew).output, (grown_setCells g news _ V.drew).size, (grown_setCells g news _ V.drew).block⟩
  have hxW : W1.heap[vb]? = some (.cells #[.int .i64 x.due, .int .i64 x.num, .int .i64 x.id] 99) := (hg1.block vb (Array.getElem?_eq_some_iff.1 hx).1 (fun h => hne (Option.some.inj h))).trans hx
  have hmin1 : Nat.min 1 (n + 1 - i) = 1 := by simp only [Nat.min_def]; split <;> omega
  have hcp2 : ∀ ty dc, (Builtin.copy_ #[54, 54] ty #[.slice (some ⟨g, off + i * 3, none⟩) (n + 1 - i) dc, .slice (some ⟨vb, 0, none⟩) 1 1]).run Try.prog W1 = .ok (goInt (Nat.min 1 (n + 1 - i))) (W1.setCells g (off + i * 3) (alC x)) := fun ty dc =>
    run_copyQ W1 _ _ ty 99 3 g (off + i * 3) (n + 1 - i) dc ⟨vb, 0, none⟩ 1 1 (alC x) Try.underlying54 hsz (by rw [hmin1]; rfl)
      (fun j u hj => by rw [Addr.add_lit]; exact al_cells x W1 vb hxW j u hj)
      (fun j hj => by have : j < 3 := hj; rw [hr1.cell (by omega)]; rfl) (fun j hj => hr1.frozen _) (alC_one x)
  have HQ : Hid (QR (W1.setCells g (off + i * 3) (alC x)) 99 3 (.slice (some ⟨g, off, none⟩) (n + 1) c) (n + 1) (rowA (l.take i ++ x :: l.drop i))) := by
    refine ⟨by rw [rowA_len, List.length_append, List.length_take, List.length_cons, List.length_drop, hl]; congr 1; omega, .inr ⟨g, off, c, N, _, rfl, rowIs_setCells (alC x) (off + i * 3) W1 _ hr1, hroom, hcm, hfit, fun t u hu => ?_⟩⟩
    have htl : (rowA (l.take i)).length = i * 3 := by rw [rowA_len, List.length_take, hl]; omega
    have hal : (alC x).length = 3 := rfl
    rw [rowA_append, rowA_cons, hnews] at hu
    by_cases h : t < i * 3
    · rw [if_neg (by omega), if_neg (by omega)]
      rw [List.getElem?_append_left (by omega), rowA_take, List.getElem?_take, if_pos h] at hu
      exact hf t u hu
    · rw [List.getElem?_append_right (by omega), htl] at hu
      by_cases h2 : t < i * 3 + 3
      · rw [List.getElem?_append_left (by omega)] at hu
        rw [if_pos (by omega), show off + t - (off + i * 3) = t - i * 3 by omega, hu]
        rfl
      · rw [List.getElem?_append_right (by omega), hal] at hu
        have hlt2 : t - i * 3 - 3 < news.length := (List.getElem?_eq_some_iff.1 hu).1
        rw [if_neg (by omega), if_pos (by omega), show off + t - (off + (i + 1) * 3) = t - i * 3 - 3 by omega, hu]
        rfl
  have HG : Hid (V.grownBy (W1.setCells g (off + i * 3) (alC x)) (some g)) := by
    have h2 := grown_setCells g (alC x) (off + i * 3) W1
    exact ⟨h2.os.trans hg1.os, h2.tape.trans hg1.tape, h2.output.trans hg1.output, Nat.le_trans hg1.size h2.size, fun k hk hne => (h2.block k (Nat.lt_of_lt_of_le hk hg1.size) hne).trans (hg1.block k hk hne)⟩
  have HI : Hid (InsTo V (.slice (some ⟨g, off, none⟩) n c) l i x (.returned (.slice (some ⟨g, off, none⟩) (n + 1) c)) (W1.setCells g (off + i * 3) (alC x))) :=
    ⟨_, c, by rw [hl], by rw [hl]; exact HQ.out, HG.out, fun g' hg' => .inl hg'⟩
  rw [← hW1] at hcp1
  generalize W1.setCells g (off + i * 3) (alC x) = W2 at *
  have hz1' : ¬ ((i : Int) = (n : Int)) := by omega
  have hw1 : IntKind.i64.wrap ((i : Int) + 1) = (i : Int) + 1 := by rw [IntKind.wrap_i64]; omega
  have hw2 : IntKind.i64.wrap ((n : Int) + 1) = (n : Int) + 1 := by rw [IntKind.wrap_i64]; omega
  have hb1 : (0 : Int) ≤ (i : Int) + 1 := by omega
  have hin : i ≤ n := by omega
  have htn : ((i : Int) + 1).toNat = i + 1 := by omega
  have htn2 : ((n : Int) + 1).toNat = n + 1 := by omega
  have hb2 : ¬ (c = i + 1) := by omega
  have hb3 : (i : Int) ≤ (n : Int) + 1 := by omega
  have hb4 : ¬ (c = i) := by omega
  have hb5 : (i : Int) + 1 ≤ (n : Int) + 1 := by omega
  have hc63 : c ≤ 9223372036854775807 := hcm
  clear HQ HG hW1 hr1 hg1 hxW hr hf hfit hget hnews hlen hq hz0 hz1 hz2 hn3 hcm hl hsa hsb hx hcur hcs hN hsz hi0 h1n hnc
  have mixed : True := trivial
  go_enter Try.func51, Try.ntmps51
  go_wp2_with (simp only [hov])
  go_region_law (refine step_copy_runI rfl _ _ 54 54 rfl _ _ (by simp [Act.eval, Act.put]) (by simp [Act.eval, Act.put]) (hcp1 _ _ _) ?_)
  go_wp2_with (at_builtin; refine wpList_copy_runI _ rfl _ _ 54 54 rfl _ _ rfl rfl (hcp2 _ _) ?_)
  go_ret
  exact HI.out
end Go.Proofs.Ytaliecmdkloceaa
