/- loop: Fork. -/
import Derived.Test.YtaliecmdkloceaaLpAA
import Derived.Test.YtaliecmdkloceaaLpW
namespace Go.Proofs.Ytaliecmdkloceaa
open Go.RowKit Go.Lib Go.Shelf

/-- The fork, k of its tasks' queues laid. -/
def forkN (s : LpD) : Nat → LpD
  | 0 => ⟨s.now, s.mic, List.replicate 8 [], s.tms, 0, false⟩
  | k + 1 => setI (forkN s k) (2 + k) (qI s (2 + k))
theorem forkN_all (s : LpD) (h : s.tks.length = 8) : { forkN s 8 with giv := s.giv } = { s with cls := false } := by
  obtain ⟨now, mic, tks, tms, giv, cls⟩ := s
  dsimp only at h
  match tks, h with
  | [a0, a1, a2, a3, a4, a5, a6, a7], _ => rfl
theorem forkN_len (s : LpD) : ∀ k, (forkN s k).tks.length = 8
  | 0 => rfl
  | k + 1 => setI_len _ _ _ (forkN_len s k)
/-- A loop of one's own from n0 on. -/
def OwnAt (W : World) (n0 g : Nat) (s : LpD) : Prop := ∃ F, LpAt W F g s ∧ ∀ k, F k → n0 ≤ k
theorem OwnAt.to {V W : World} {n0 g : Nat} {s s' : LpD} (h : OwnAt V n0 g s) (hn : n0 ≤ V.heap.size) (c : ∀ F, LpAt V F g s → LpTo V F g s' W) : OwnAt W n0 g s' ∧ Below n0 V W := by
  obtain ⟨F, h1, h2⟩ := h
  obtain ⟨a, F', b, d⟩ := c F h1
  refine ⟨⟨F', b, fun k hk => ?_⟩, a.below hn h2⟩
  rcases d k hk with h' | h'
  · exact h2 k h'
  · omega
theorem OwnAt.later {V W : World} {n0 g : Nat} {s : LpD} (h : OwnAt V n0 g s) (hb : Below V.heap.size V W) : OwnAt W n0 g s := by
  obtain ⟨F, h1, h2⟩ := h
  exact ⟨F, h1.later hb, h2⟩
set_option maxRecDepth 100000 in
theorem own_fork {V V1 V2 W : World} {s : LpD} {o1 o2 : Option Addr} {c1 c2 : Nat} (hq1 : CopyTo V 3 1 s.mic.length (rowN s.mic) (.slice o1 s.mic.length c1) V1) (hq2 : CopyTo V1 99 3 s.tms.length (rowA s.tms) (.slice o2 s.tms.length c2) V2)
    (hW : Below V2.heap.size V2 W) (hg : W.heap[V2.heap.size]? = some (.cells #[.int .i64 s.now, .slice o1 s.mic.length c1, .slice none 0 0, .slice none 0 0, .slice none 0 0, .slice none 0 0, .slice none 0 0, .slice none 0 0, .slice none 0 0, .slice none 0 0, .slice o2 s.tms.length c2, .int .i64 0, .int .u32 0, .int .i32 0, .int .u32 0, .bool false] 73)) : OwnAt W V.heap.size V2.heap.size (forkN s 0) := by
  have s1 := hq1.2.2.size
  have s2 := hq2.2.2.size
  have hlt : V2.heap.size < W.heap.size := (Array.getElem?_eq_some_iff.1 hg).1
  have b1 : ∀ g, (Value.slice o1 s.mic.length c1).ownBlock = some g → V.heap.size ≤ g ∧ g < V1.heap.size := fun g h => ⟨hq1.2.1 g h, hq1.1.lt h⟩
  have b2 : ∀ g, (Value.slice o2 s.tms.length c2).ownBlock = some g → V1.heap.size ≤ g ∧ g < V2.heap.size := fun g h => ⟨hq2.2.1 g h, hq2.1.lt h⟩
  obtain ⟨v, hv⟩ : ∃ v : Nat → Value, v = fun i => if i = 1 then .slice o1 s.mic.length c1 else if i = 10 then .slice o2 s.tms.length c2 else .slice none 0 0 := ⟨_, rfl⟩
  have v1 : v 1 = .slice o1 s.mic.length c1 := by rw [hv]; rfl
  have v10 : v 10 = .slice o2 s.tms.length c2 := by rw [hv]; rfl
  have vk : ∀ i, i ≠ 1 → i ≠ 10 → v i = .slice none 0 0 := fun i h1 h2 => by rw [hv]; show (if i = 1 then _ else _) = _; rw [if_neg h1, if_neg h2]
  refine ⟨fun k => V.heap.size ≤ k ∧ k < W.heap.size, ⟨_, v, hg, ⟨rfl, fun i h1 h2 => ?_, rfl, rfl, rfl, rfl, rfl, rfl⟩, fun i h1 h2 => ?_, ?_, fun i h1 h2 g hgg => ?_, fun i j h1 h2 h3 h4 hne g hgg => ?_, ⟨by omega, hlt⟩, fun k hk => hk.2, rfl⟩, fun k hk => hk.1⟩
  · rcases (by omega : i = 1 ∨ i = 2 ∨ i = 3 ∨ i = 4 ∨ i = 5 ∨ i = 6 ∨ i = 7 ∨ i = 8 ∨ i = 9 ∨ i = 10) with rfl | rfl | rfl | rfl | rfl | rfl | rfl | rfl | rfl | rfl
    · rw [v1]; rfl
    · rw [vk 2 (by omega) (by omega)]; rfl
    · rw [vk 3 (by omega) (by omega)]; rfl
    · rw [vk 4 (by omega) (by omega)]; rfl
    · rw [vk 5 (by omega) (by omega)]; rfl
    · rw [vk 6 (by omega) (by omega)]; rfl
    · rw [vk 7 (by omega) (by omega)]; rfl
    · rw [vk 8 (by omega) (by omega)]; rfl
    · rw [vk 9 (by omega) (by omega)]; rfl
    · rw [v10]; rfl
  · by_cases hi : i = 1
    · subst hi
      rw [v1]
      exact hq1.1.later (hq2.2.2.trans (hW.mono s2))
    · rw [vk i hi (by omega)]
      have : qI (forkN s 0) i = [] := by
        unfold qI forkN
        rw [if_neg hi]
        dsimp only
        rw [List.getD_eq_getElem?_getD, List.getElem?_replicate]
        split <;> rfl
      rw [this]
      exact QR.nil _ _ _
  · rw [v10]
    exact hq2.1.later hW
  · by_cases hi : i = 1
    · subst hi
      rw [v1] at hgg
      have := b1 g hgg
      exact ⟨⟨this.1, by omega⟩, by omega⟩
    · by_cases hi10 : i = 10
      · subst hi10
        rw [v10] at hgg
        have := b2 g hgg
        exact ⟨⟨by omega, by omega⟩, by omega⟩
      · rw [vk i hi hi10] at hgg
        cases hgg
  · by_cases hi : i = 1
    · subst hi
      rw [v1] at hgg
      have := b1 g hgg
      by_cases hj : j = 10
      · subst hj
        rw [v10]
        intro hk
        have := b2 g hk
        omega
      · rw [vk j (by omega) hj]
        intro hk
        cases hk
    · by_cases hi10 : i = 10
      · subst hi10
        rw [v10] at hgg
        have := b2 g hgg
        by_cases hj : j = 1
        · subst hj
          rw [v1]
          intro hk
          have := b1 g hk
          omega
        · rw [vk j hj (by omega)]
          intro hk
          cases hk
      · rw [vk i hi hi10] at hgg
        cases hgg
theorem OwnAt.mono {W : World} {n0 n1 g : Nat} {s : LpD} (h : OwnAt W n1 g s) (hn : n0 ≤ n1) : OwnAt W n0 g s := by
  obtain ⟨F, h1, h2⟩ := h
  exact ⟨F, h1, fun k hk => Nat.le_trans hn (h2 k hk)⟩
theorem OwnAt.lcs {W : World} {n0 g : Nat} {s : LpD} (h : OwnAt W n0 g s) : LCs W g s ∧ n0 ≤ g ∧ g < W.heap.size := by
  obtain ⟨F, ⟨arr, v, h1⟩, h2⟩ := h
  exact ⟨h1.cs, h2 _ h1.self, h1.lt⟩
theorem own_put {wr W : World} {n0 g k : Nat} {s : LpD} {l : List Int} {x : Value} (h : OwnAt wr n0 g s) (hn : n0 ≤ wr.heap.size) (hk : k < 8) (hc : CopyTo wr.drew 3 1 l.length (rowN l) x W) :
    (∃ u, W.cell? ⟨g, 2 + k, none⟩ = some u) ∧ W.frozen? ⟨g, 2 + k, none⟩ = false ∧ OwnAt (W.setCell ⟨g, 2 + k, none⟩ x) n0 g (setI s (2 + k) l) ∧ Below n0 wr (W.setCell ⟨g, 2 + k, none⟩ x) := by
  obtain ⟨F, ⟨arr, v, h1⟩, h2⟩ := h
  have h3 : LpV wr.drew F g s arr v := h1.later (Below.refl _ _).drew
  have h4 := h3.later hc.2.2
  have hr := h3.rowI (2 + k) (by omega) (by omega)
  have hq : QTo wr.drew g (2 + k) (v (2 + k)) 3 1 l.length (rowN l) (W.setCell ⟨g, 2 + k, none⟩ x) :=
    qto_of (Below.refl _ _) ⟨hc.2.2.os, hc.2.2.tape, hc.2.2.output, hc.2.2.size, fun j hj _ => hc.2.2.block j hj⟩ hc.1 (fun j hj => .inr (hc.2.1 j hj)) (fun hb => (h3.own (2 + k) (by omega) (by omega) g hb).2 rfl) h3.lt
  have hto := h3.updI (by omega) (by omega) hq
  refine ⟨⟨_, box_at h4.box (h4.arr.q (2 + k) (by omega) (by omega))⟩, box_fz h4.box _, ?_⟩
  obtain ⟨a, F', b, d⟩ := hto
  refine ⟨⟨F', b, fun j hj => ?_⟩, Below.trans ((Below.refl n0 wr).drew) (a.below hn h2)⟩
  rcases d j hj with h' | h'
  · exact h2 j h'
  · have : wr.drew.heap.size = wr.heap.size := rfl
    omega
theorem own_giv {W : World} {n0 g : Nat} {s : LpD} (h : OwnAt W n0 g s) (x : Int) : OwnAt (W.setCell ⟨g, 11, none⟩ (.int .i64 x)) n0 g { s with giv := x } ∧ Below n0 W (W.setCell ⟨g, 11, none⟩ (.int .i64 x)) := by
  obtain ⟨F, ⟨arr, v, h1⟩, h2⟩ := h
  exact ⟨⟨F, ⟨_, _, h1.setGiv x⟩, h2⟩, (Below.refl n0 W).setCell (p := ⟨g, 11, none⟩) (h2 _ h1.self) _⟩
theorem own_close {W : World} {n0 g : Nat} {s : LpD} (h : OwnAt W n0 g s) (hn : n0 ≤ W.heap.size) :
    Calls Try.prog 23 #[.pointer (some ⟨g, 0, none⟩)] W fun e w' => e = .returned (.bool (!s.cls)) ∧ Hid (OwnAt w' n0 g (closeD s)) ∧ Hid (Below n0 W w') := by
  obtain ⟨F, h1, h2⟩ := h
  refine (close_any F g s W h1).mono ?_
  rintro e w' ⟨he, a, F', b, d⟩
  refine ⟨he, ⟨F', b, fun j hj => ?_⟩, a.below hn h2⟩
  rcases d j hj with h' | h'
  · exact h2 j h'
  · omega
theorem close_off (s : LpD) (he : Emp s) (hc : s.cls = true) : closeD { s with cls := false } = s := by
  have h1 : closeD { s with cls := false } = closedD s := by
    unfold closeD
    rw [if_neg (by simp)]
    rfl
  rw [h1, ← he hc]
theorem cls_off (s : LpD) (hc : s.cls = false) : { s with cls := false } = s := by
  obtain ⟨now, mic, tks, tms, giv, cls⟩ := s
  dsimp only at hc
  rw [hc]
end Go.Proofs.Ytaliecmdkloceaa
