/- loop: the reference: a timer taken out of a row of one's own. -/
import Derived.Test.YtaliecmdkloceaaLpRR
namespace Go.Proofs.Ytaliecmdkloceaa
open Go.RowKit Go.Lib Go.Shelf

theorem QR.pre {W : World} {e : TypeId} {sz n c k : Nat} {o : Option Addr} {xs : List Value} (h : QR W e sz (.slice o n c) n xs) (hk : k ≤ n) : QR W e sz (.slice o k c) k (xs.take (k * sz)) := by
  have hle : k * sz ≤ n * sz := Nat.mul_le_mul_right _ hk
  refine ⟨by rw [List.length_take, h.1]; omega, ?_⟩
  rcases h.2 with ⟨hv, h0⟩ | ⟨g, off, cap, N, f, hv, hr, hnc, hcm, hfit, hf⟩
  · injection hv with e1 e2 e3
    subst e1 e3
    have : k = 0 := by omega
    subst this
    exact .inl ⟨rfl, rfl⟩
  · injection hv with e1 e2 e3
    subst e1 e3
    refine .inr ⟨g, off, c, N, f, rfl, hr, by omega, hcm, hfit, fun t u hu => ?_⟩
    rw [List.getElem?_take] at hu
    split at hu
    · exact hf t u hu
    · cases hu
/-- A timer is taken out. -/
theorem cut_tm {W : World} {g off c : Nat} {l : List AlD} {i : Nat} (h : QR W 92 3 (.slice (some ⟨g, off, none⟩) l.length c) l.length (rowA l)) (hi : i < l.length) (hl : l.length ≤ 1048576) (ty : TypeId) :
    ∃ o' c' w', (Builtin.append_ #[28, 28] ty #[.slice (some ⟨g, off, none⟩) i c, .slice (some (if i + 1 = c then ⟨g, off, none⟩ else ⟨g, off + (i + 1) * 3, none⟩)) (l.length - (i + 1)) (c - (i + 1))]).run Try.prog W = .ok (.slice o' (l.length - 1) c') w' ∧
      QR w' 92 3 (.slice o' (l.length - 1) c') (l.eraseIdx i).length (rowA (l.eraseIdx i)) ∧ W.grownBy w' (some g) ∧ ∀ k, (Value.slice o' (l.length - 1) c').ownBlock = some k → some g = some k ∨ W.heap.size ≤ k := by
  obtain ⟨i0, hi0, hz0, hz1, hz2⟩ := info_parts info_tmR
  have hp := h.pre (Nat.le_of_lt hi)
  have hcap := h.cap_le
  obtain ⟨g2, off2, e, hlt, hc⟩ := h.cells rfl (by rw [rowA_len]; omega)
  injection e with e
  injection e with e1 e2 _
  subst e1 e2
  obtain ⟨o', c', w', r1, r2, r3, r4⟩ := run_appendQ (P := Try.prog) W 28 ty 92 i0 _ 3 24 Try.underlying28 hi0 hz0 hz1 hz2 rfl (by decide) (.slice (some ⟨g, off, none⟩) i c) i _ hp (if i + 1 = c then ⟨g, off, none⟩ else ⟨g, off + (i + 1) * 3, none⟩) (l.length - (i + 1)) (c - (i + 1)) (rowA (l.drop (i + 1))) (by rw [rowA_len, List.length_drop]) (fun j u hj => by
    have hlt2 : j < (rowA (l.drop (i + 1))).length := (List.getElem?_eq_some_iff.1 hj).1
    rw [rowA_len, List.length_drop] at hlt2
    rw [if_neg (by omega), Addr.add_lit]
    rw [rowA_drop, List.getElem?_drop] at hj
    rw [Nat.add_assoc]
    exact hc _ u hj) (rowA_one _) (by unfold maxLen; omega) (by omega)
  rw [show i + (l.length - (i + 1)) = l.length - 1 by omega] at r1 r2 r4
  refine ⟨o', c', w', r1, ?_, r3, r4⟩
  have e1 : (l.eraseIdx i).length = l.length - 1 := List.length_eraseIdx_of_lt hi
  have e2 : rowA (l.eraseIdx i) = List.take (i * 3) (rowA l) ++ rowA (l.drop (i + 1)) := by
    rw [List.eraseIdx_eq_take_drop_succ, rowA_append, rowA_take]
  rw [e1, e2]
  exact r2
/-- Slicing at both sides. -/
theorem RfO.cut {V V1 w1 : World} {n0 : Nat} {r : LpD} {B c g off ct i : Nat} {v : Nat → Value} (h : RfO V n0 r B c v (.slice (some ⟨g, off, none⟩) r.tms.length ct)) (hn : n0 ≤ V.heap.size) (hB : Below V.heap.size V V1) {x : Value}
    (hg : V1.grownBy w1 (some g)) (hq : QR w1 92 3 x (r.tms.eraseIdx i).length (rowA (r.tms.eraseIdx i))) (hown : ∀ k, x.ownBlock = some k → some g = some k ∨ V1.heap.size ≤ k) : RfO w1 n0 { r with tms := r.tms.eraseIdx i } B c v x :=
  h.tms_set hn hB hg hq hown
/-- What is below n0 stays, and what lies in blocks of other types than a state's rows. -/
structure Keep (n0 : Nat) (V W : World) : Prop where
  bel : Below n0 V W
  oth : ∀ (g : Nat) (a : Array Value) (T : TypeId), V.heap[g]? = some (Obj.cells a T) → T ≠ 26 → T ≠ 3 → T ≠ 92 → W.heap[g]? = some (Obj.cells a T)
theorem Keep.of {n0 : Nat} {V W : World} (h : Below V.heap.size V W) (hn : n0 ≤ V.heap.size) : Keep n0 V W := ⟨h.mono hn, fun g _ _ hg _ _ _ => (h.block g (Array.getElem?_eq_some_iff.1 hg).1).trans hg⟩
theorem Keep.later {n0 : Nat} {V U W : World} (h : Keep n0 V U) (hn : n0 ≤ U.heap.size) (hb : Below U.heap.size U W) : Keep n0 V W :=
  ⟨h.bel.trans (hb.mono hn), fun g a T hg h1 h2 h3 => (hb.block g (Array.getElem?_eq_some_iff.1 (h.oth g a T hg h1 h2 h3)).1).trans (h.oth g a T hg h1 h2 h3)⟩
theorem Keep.drew {n0 : Nat} {V U : World} (h : Keep n0 V U) : Keep n0 V U.drew := ⟨h.bel.drew, h.oth⟩
theorem Keep.setN {n0 N o : Nat} {V U : World} (h : Keep n0 V U) (hN : V.heap.size ≤ N) (hn : n0 ≤ V.heap.size) (x : Value) : Keep n0 V (U.setCell ⟨N, o, none⟩ x) :=
  ⟨h.bel.setCell (p := ⟨N, o, none⟩) (Nat.le_trans hn hN) x, fun g a T hg h1 h2 h3 => (Below.heap_setCell _ _ _ g (by show g ≠ N; have := (Array.getElem?_eq_some_iff.1 hg).1; omega)).trans (h.oth g a T hg h1 h2 h3)⟩
theorem Keep.setB {n0 B o : Nat} {V U : World} {arr : Array Value} (h : Keep n0 V U) (hB : n0 ≤ B) (hb : U.heap[B]? = some (.cells arr 26)) (x : Value) : Keep n0 V (U.setCell ⟨B, o, none⟩ x) :=
  ⟨h.bel.setCell (p := ⟨B, o, none⟩) hB x, fun g a T hg h1 h2 h3 => (Below.heap_setCell _ _ _ g (ty_ne (h.oth g a T hg h1 h2 h3) hb h1)).trans (h.oth g a T hg h1 h2 h3)⟩
/-- A row of a state's own. -/
def RowOf (U : World) (n0 : Nat) (v : Value) : Prop := ∀ k, v.ownBlock = some k → n0 ≤ k ∧ ∃ a e, U.heap[k]? = some (Obj.cells a e) ∧ (e = 3 ∨ e = 92)
theorem RowOf.int {U : World} {n0 sz n : Nat} {v : Value} {xs : List Value} (q : QR U 3 sz v n xs) (h : ∀ k, v.ownBlock = some k → n0 ≤ k) : RowOf U n0 v := fun k hk => by
  obtain ⟨a, ha⟩ := q.ty hk
  exact ⟨h k hk, a, _, ha, .inl rfl⟩
theorem RowOf.tm {U : World} {n0 sz n : Nat} {v : Value} {xs : List Value} (q : QR U 92 sz v n xs) (h : ∀ k, v.ownBlock = some k → n0 ≤ k) : RowOf U n0 v := fun k hk => by
  obtain ⟨a, ha⟩ := q.ty hk
  exact ⟨h k hk, a, _, ha, .inr rfl⟩
theorem Keep.grow {n0 : Nat} {V U W : World} {v : Value} (h : Keep n0 V U) (hg : U.grownBy W v.ownBlock) (hn : n0 ≤ U.heap.size) (hr : RowOf U n0 v) : Keep n0 V W :=
  ⟨h.bel.grown hg hn (fun k hk => (hr k hk).1), fun g a T hgg h1 h2 h3 => by
    have h4 := h.oth g a T hgg h1 h2 h3
    rw [hg.block g (Array.getElem?_eq_some_iff.1 h4).1 (fun e => by
      obtain ⟨_, a2, e2, ha, he⟩ := hr g e.symm
      rcases he with rfl | rfl
      · exact ty_ne h4 ha h2 rfl
      · exact ty_ne h4 ha h3 rfl), h4]⟩
theorem Keep.st {n0 N : Nat} {V W : World} (h : Keep n0 V W) (hN : V.heap.size ≤ N) (hn : n0 ≤ V.heap.size) (x1 x2 x3 x4 x5 x6 : Value) : Keep n0 V (stW W N x1 x2 x3 x4 x5 x6) :=
  (((((h.setN hN hn x1).setN hN hn x2).setN hN hn x3).setN hN hn x4).setN hN hn x5).setN hN hn x6
end Go.Proofs.Ytaliecmdkloceaa
