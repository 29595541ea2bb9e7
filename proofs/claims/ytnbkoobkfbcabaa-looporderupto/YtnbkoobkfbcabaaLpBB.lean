/- loop: Fork. -/
import Derived.Test.YtnbkoobkfbcabaaLpAA
import Derived.Test.YtnbkoobkfbcabaaLpW
namespace Go.Proofs.Ytnbkoobkfbcabaa
open Go.RowKit Go.Lib Go.Shelf

/-- The fork, k of its tasks' queues laid. -/
def forkN (s : LpD) : Nat → LpD
  | 0 => ⟨s.now, s.mic, List.replicate 8 [], s.tms, 0, false⟩
  | k + 1 => setI (forkN s k) (2 + k) (qI s (2 + k))
theorem forkN_all (s : LpD) (h : s.tks.length = 8) : { forkN s 8 with giv := s.giv } = { s with cls := false } := by
  obtain ⟨now, mic, tks, tms, giv, cls⟩ := s
  dsimp only at h
  match tks, h with
  | [a0, a1, a2, a3, a4, a5, a6, a7], _ => rfl
theorem forkN_len (s : LpD) : ∀ k, (forkN s k).tks.length = 8
  | 0 => rfl
  | k + 1 => setI_len _ _ _ (forkN_len s k)
/-- A loop of one's own from n0 on. -/
def OwnAt (W : World) (n0 g : Nat) (s : LpD) : Prop := ∃ F, LpAt W F g s ∧ ∀ k, F k → n0 ≤ k
theorem OwnAt.to {V W : World} {n0 g : Nat} {s s' : LpD} (h : OwnAt V n0 g s) (hn : n0 ≤ V.heap.size) (c : ∀ F, LpAt V F g s → LpTo V F g s' W) : OwnAt W n0 g s' ∧ Below n0 V W := by
  obtain ⟨F, h1, h2⟩ := h
  obtain ⟨a, F', b, d⟩ := c F h1
  refine ⟨⟨F', b, fun k hk => ?_⟩, a.below hn h2⟩
  rcases d k hk with h' | h'
  · exact h2 k h'
  · omega
theorem OwnAt.later {V W : World} {n0 g : Nat} {s : LpD} (h : OwnAt V n0 g s) (hb : Below V.heap.size V W) : OwnAt W n0 g s := by
  obtain ⟨F, h1, h2⟩ := h
  exact ⟨F, h1.later hb, h2⟩
set_option maxRecDepth 100000 in
theorem own_fork {V V1 V2 W : World} {s : LpD} {o1 o2 : Option Addr} {c1 c2 : Nat} (hq1 : CopyTo V 3 1 s.mic.length (rowN s.mic) (.slice o1 s.mic.length c1) V1) (hq2 : CopyTo V1 103 3 s.tms.length (rowA s.tms) (.slice o2 s.tms.length c2) V2)
    (hW : Below V2.heap.size V2 W) (hg : W.heap[V2.heap.size]? = some (.cells #[.int .i64 s.now, .slice o1 s.mic.length c1, .slice none 0 0, .slice none 0 0, .slice none 0 0, .slice none 0 0, .slice none 0 0, .slice none 0 0, .slice none 0 0, .slice none 0 0, .slice o2 s.tms.length c2, .int .i64 0, .int .u32 0, .int .i32 0, .int .u32 0, .bool false] 85)) : OwnAt W V.heap.size V2.heap.size (forkN s 0) := by
  have s1 := hq1.2.2.size
  have s2 := hq2.2.2.size
  have hlt : V2.heap.size < W.heap.size := (Array.getElem?_eq_some_iff.1 hg).1
  have b1 : ∀ g, (Value.slice o1 s.mic.length c1).ownBlock = some g → V.heap.size ≤ g ∧ g < V1.heap.size := fun g h => ⟨hq1.2.1 g h, hq1.1.lt h⟩
  have b2 : ∀ g, (Value.slice o2 s.tms.length c2).ownBlock = some g → V1.heap.size ≤ g ∧ g < V2.heap.size := fun g h => ⟨hq2.2.1 g h, hq2.1.lt h⟩
  obtain ⟨v, hv⟩ : ∃ v : Nat → Value, v = fun i => if i = 1 then .slice o1 s.mic.length c1 else if i = 10 then .slice o2 s.tms.length c2 else .slice none 0 0 := ⟨_, rfl⟩
  have v1 : v 1 = .slice o1 s.mic.length c1 := by rw [hv]; rfl
  have v10 : v 10 = .slice o2 s.tms.length c2 := by rw [hv]; rfl
  have vk : ∀ i, i ≠ 1 → i ≠ 10 → v i = .slice none 0 0 := fun i h1 h2 => by rw [hv]; show (if i = 1 then _ else _) = _; rw [if_neg h1, if_neg h2]
  refine ⟨fun k => V.heap.size ≤ k ∧ k < W.heap.size, ⟨_, v, hg, ⟨rfl, fun i h1 h2 => ?_, rfl, rfl, rfl, rfl, rfl, rfl⟩, fun i h1 h2 => ?_, ?_, fun i h1 h2 g hgg => ?_, fun i j h1 h2 h3 h4 hne g hgg => ?_, ⟨by omega, hlt⟩, fun k hk => hk.2, rfl⟩, fun k hk => hk.1⟩
  · rcases (by omega : i = 1 ∨ i = 2 ∨ i = 3 ∨ i = 4 ∨ i = 5 ∨ i = 6 ∨ i = 7 ∨ i = 8 ∨ i = 9 ∨ i = 10) with rfl | rfl | rfl | rfl | rfl | rfl | rfl | rfl | rfl | rfl
    · rw [v1]; rfl
    · rw [vk 2 (by omega) (by omega)]; rfl
    · rw [vk 3 (by omega) (by omega)]; rfl
    · rw [vk 4 (by omega) (by omega)]; rfl
    · rw [vk 5 (by omega) (by omega)]; rfl
    · rw [vk 6 (by omega) (by omega)]; rfl
    · rw [vk 7 (by omega) (by omega)]; rfl
    · rw [vk 8 (by omega) (by omega)]; rfl
    · rw [vk 9 (by omega) (by omega)]; rfl
    · rw [v10]; rfl
  · by_cases hi : i = 1
    · subst hi
      rw [v1]
      exact hq1.1.later (hq2.2.2.trans (hW.mono s2))
    · rw [vk i hi (by omega)]
      have : qI (forkN s 0) i = [] := by
        unfold qI forkN
        rw [if_neg hi]
        dsimp only
        rw [List.getD_eq_getElem?_getD, List.getElem?_replicate]
        split <;> rfl
      rw [this]
      exact QR.nil _ _ _
  · rw [v10]
    exact hq2.1.later hW
  · by_cases hi : i = 1
    · subst hi
      rw [v1] at hgg
      have := b1 g hgg
      exact ⟨⟨this.1, by omega⟩, by omega⟩
    · by_cases hi10 : i = 10
      · subst hi10
        rw [v10] at hgg
        have := b2 g hgg
        exact ⟨⟨by omega, by omega⟩, by omega⟩
      · rw [vk i hi hi10] at hgg
        cases hgg
  · by_cases hi : i = 1
    · subst hi
      rw [v1] at hgg
      have := b1 g hgg
      by_cases hj : j = 10
      · subst hj
        rw [v10]
        intro hk
        have := b2 g hk
        omega
      · rw [vk j (by omega) hj]
        intro hk
        cases hk
    · by_cases hi10 : i = 10
      · subst hi10
        rw [v10] at hgg
        have := b2 g hgg
        by_cases hj : j = 1
        · subst hj
          rw [v1]
          intro hk
          have := b1 g hk
          omega
        · rw [vk j hj (by omega)]
          intro hk
          cases hk
      · rw [vk i hi hi10] at hgg
        cases hgg
theorem OwnAt.mono {W : World} {n0 n1 g : Nat} {s : LpD} (h : OwnAt W n1 g s) (hn : n0 ≤ n1) : OwnAt W n0 g s := by
  obtain ⟨F, h1, h2⟩ := h
  exact ⟨F, h1, fun k hk => Nat.le_trans hn (h2 k hk)⟩
theorem OwnAt.lcs {W : World} {n0 g : Nat} {s : LpD} (h : OwnAt W n0 g s) : LCs W g s ∧ n0 ≤ g ∧ g < W.heap.size := by
  obtain ⟨F, ⟨arr, v, h1⟩, h2⟩ := h
  exact ⟨h1.cs, h2 _ h1.self, h1.lt⟩
theorem own_put {wr W : World} {n0 g k : Nat} {s : LpD} {l : List Int} {x : Value} (h : OwnAt wr n0 g s) (hn : n0 ≤ wr.heap.size) (hk : k < 8) (hc : CopyTo wr.drew 3 1 l.length (rowN l) x W) :
    (∃ u, W.cell? ⟨g, 2 + k, none⟩ = some u) ∧ W.frozen? ⟨g, 2 + k, none⟩ = false ∧ OwnAt (W.setCell ⟨g, 2 + k, none⟩ x) n0 g (setI s (2 + k) l) ∧ Below n0 wr (W.setCell ⟨g, 2 + k, none⟩ x) := by
  obtain ⟨F, ⟨arr, v, h1⟩, h2⟩ := h
  have h3 : LpV wr.drew F g s arr v := h1.later (Below.refl _ _).drew
  have h4 := h3.later hc.2.2
  have hr := h3.rowI (2 + k) (by omega) (by omega)
  have hq : QTo wr.drew g (2 + k) (v (2 + k)) 3 1 l.length (rowN l) (W.setCell ⟨g, 2 + k, none⟩ x) :=
    qto_of (Below.refl _ _) ⟨hc.2.2.os, hc.2.2.tape, hc.2.2.output, hc.2.2.size, fun j hj _ => hc.2.2.block j hj⟩ hc.1 (fun j hj => .inr (hc.2.1 j hj)) (fun hb => (h3.own (2 + k) (by omega) (by omega) g hb).2 rfl) h3.lt
  have hto := h3.updI (by omega) (by omega) hq
  refine ⟨⟨_, box_at h4.box (h4.arr.q (2 + k) (by omega) (by omega))⟩, box_fz h4.box _, ?_⟩
  obtain ⟨a, F', b, d⟩ := hto
  refine ⟨⟨F', b, fun j hj => ?_⟩, Below.trans ((Below.refl n0 wr).drew) (a.below hn h2)⟩
  rcases d j hj with h' | h'
  · exact h2 j h'
  · have : wr.drew.heap.size = wr.heap.size := rfl
    omega
theorem own_giv {W : World} {n0 g : Nat} {s : LpD} (h : OwnAt W n0 g s) (x : Int) : OwnAt (W.setCell ⟨g, 11, none⟩ (.int .i64 x)) n0 g { s with giv := x } ∧ Below n0 W (W.setCell ⟨g, 11, none⟩ (.int .i64 x)) := by
  obtain ⟨F, ⟨arr, v, h1⟩, h2⟩ := h
  exact ⟨⟨F, ⟨_, _, h1.setGiv x⟩, h2⟩, (Below.refl n0 W).setCell (p := ⟨g, 11, none⟩) (h2 _ h1.self) _⟩
theorem own_close {W : World} {n0 g : Nat} {s : LpD} (h : OwnAt W n0 g s) (hn : n0 ≤ W.heap.size) :
    Calls Try.prog 24 #[.pointer (some ⟨g, 0, none⟩)] W fun e w' => e = .returned (.bool (!s.cls)) ∧ Hid (OwnAt w' n0 g (closeD s)) ∧ Hid (Below n0 W w') := by
  obtain ⟨F, h1, h2⟩ := h
  refine (close_any F g s W h1).mono ?_
  rintro e w' ⟨he, a, F', b, d⟩
  refine ⟨he, ⟨F', b, fun j hj => ?_⟩, a.below hn h2⟩
  rcases d j hj with h' | h'
  · exact h2 j h'
  · omega
theorem close_off (s : LpD) (he : Emp s) (hc : s.cls = true) : closeD { s with cls := false } = s := by
  have h1 : closeD { s with cls := false } = closedD s := by
    unfold closeD
    rw [if_neg (by simp)]
    rfl
  rw [h1, ← he hc]
theorem cls_off (s : LpD) (hc : s.cls = false) : { s with cls := false } = s := by
  obtain ⟨now, mic, tks, tms, giv, cls⟩ := s
  dsimp only at hc
  rw [hc]
set_option maxRecDepth 100000 in
set_option maxHeartbeats 1000000 in
theorem fork_any (F : Nat → Prop) (B : Nat) (s : LpD) (Wz : World) (h : LpAt Wz F B s) (ho : OkD s) (he : Emp s) :
    Calls Try.prog 15 #[.pointer (some ⟨B, 0, none⟩)] Wz fun e w' => ∃ g, e = .returned (.pointer (some ⟨g, 0, none⟩)) ∧ Below Wz.heap.size Wz w' ∧ OwnAt w' Wz.heap.size g s := by
  have hat := h
  obtain ⟨arr, v, h1⟩ := h
  have N0 := h1.cs.now
  have HBV := hid h1.lt
  have hBV := h1.lt
  have HCS := hid (fun W (hW : Below Wz.heap.size Wz W) => (h1.later hW).cs)
  have HM : Hid (∀ W, Below Wz.heap.size Wz W → Calls Try.prog 36 #[.pointer (some ⟨B, 1, none⟩)] W fun e w' => ∃ o c, e = .returned (.agg #[.slice o s.mic.length c]) ∧ Hid (CopyTo W 3 1 s.mic.length (rowN s.mic) (.slice o s.mic.length c) w') ∧ Below W.heap.size W w') := fun W hW => by
    have h2 := h1.later hW
    refine (copiedI_any B 1 (v 1) s.mic W (box_at h2.box (h2.arr.q 1 (by omega) (by omega))) (h2.rowI 1 (by omega) (by omega)) (by have := ho.tot; unfold totD at this; omega)).mono ?_
    rintro e w' ⟨o, c, rfl, hq⟩
    exact ⟨o, c, rfl, hq, hq.2.2⟩
  have HA : Hid (∀ W, Below Wz.heap.size Wz W → Calls Try.prog 37 #[.pointer (some ⟨B, 10, none⟩)] W fun e w' => ∃ o c, e = .returned (.agg #[.slice o s.tms.length c]) ∧ Hid (CopyTo W 103 3 s.tms.length (rowA s.tms) (.slice o s.tms.length c) w') ∧ Below W.heap.size W w') := fun W hW => by
    have h2 := h1.later hW
    refine (copiedA_any B 10 (v 10) s.tms W (box_at h2.box (h2.arr.q 10 (by omega) (by omega))) h2.rowT (by have := ho.tot; unfold totD at this; omega)).mono ?_
    rintro e w' ⟨o, c, rfl, hq⟩
    exact ⟨o, c, rfl, hq, hq.2.2⟩
  have HI : Hid (∀ k, k < 8 → ∀ W, Below Wz.heap.size Wz W → Calls Try.prog 36 #[.pointer (some ⟨B, 2 + k, none⟩)] W fun e w' => ∃ o c, e = .returned (.agg #[.slice o (qI s (2 + k)).length c]) ∧ Hid (CopyTo W 3 1 (qI s (2 + k)).length (rowN (qI s (2 + k))) (.slice o (qI s (2 + k)).length c) w')) := fun k hk W hW => by
    have h2 := h1.later hW
    exact copiedI_any B (2 + k) (v (2 + k)) (qI s (2 + k)) W (box_at h2.box (h2.arr.q (2 + k) (by omega) (by omega))) (h2.rowI (2 + k) (by omega) (by omega)) (Nat.le_trans (qI_le s _) (by have := ho.tot; omega))
  clear h1
  have HLEN := hid ho.len
  have HOK := hid ho
  have HE := hid he
  have HAT := hid hat
  clear hat ho he
  generalize hNOW : s.now = NOW at *
  generalize hML : s.mic.length = ML at *
  generalize hTL : s.tms.length = TL at *
  have HNOW := hid hNOW
  have HML := hid hML
  have HTL := hid hTL
  clear hNOW hML hTL
  go_enter Try.func15, Try.ntmps15
  go_upto_region 3 with fail
  refine wp_region_held_drew (S := fun V => Below Wz.heap.size Wz V) (by kernel_rfl) ((Below.refl _ _).drew) (fun hHeld => ?_)
  have HB_V0 := hid hHeld
  have HS_V0 := hid hHeld.size
  generalize Wz.drew = V0 at *
  refine wpAnyH_one 0 7 (.pointer (some ⟨B, 0, none⟩)) hHeld rfl rfl (by kernel_rfl) (fun _ _ _ _ _ h => h) (by kernel_rfl) (by kernel_rfl) (by rfl) ?_ ?_
  · intro V hSw; (try dsimp only at hSw); go_simp
  simp only [Act.put, List.setIfInBounds_toArray, List.set_cons_zero, List.set_cons_succ]
  refine wpAnyH_one 1 8 (.pointer (some ⟨B, 0, none⟩)) hHeld rfl rfl (by kernel_rfl) (fun _ _ _ _ _ h => h) (by kernel_rfl) (by kernel_rfl) (by rfl) ?_ ?_
  · intro V hSw; (try dsimp only at hSw); go_simp
  simp only [Act.put, List.setIfInBounds_toArray, List.set_cons_zero, List.set_cons_succ]
  refine wpAnyH_one 2 9 (.pointer (some ⟨B, 0, none⟩)) hHeld rfl rfl (by kernel_rfl) (fun _ _ _ _ _ h => h) (by kernel_rfl) (by kernel_rfl) (by rfl) ?_ ?_
  · intro V hSw; (try dsimp only at hSw); go_simp
  simp only [Act.put, List.setIfInBounds_toArray, List.set_cons_zero, List.set_cons_succ]
  refine wpAnyH_one 3 10 (.int .i64 NOW) hHeld rfl rfl (by kernel_rfl) (fun _ _ _ _ _ h => h) (by kernel_rfl) (by kernel_rfl) (by rfl) ?_ ?_
  · intro V hSw; (try dsimp only at hSw); have k0 := cellLater (B := B) hSw (by omega) N0; go_simp
  simp only [Act.put, List.setIfInBounds_toArray, List.set_cons_zero, List.set_cons_succ]
  refine wpAnyH_one 4 11 (.pointer (some ⟨B, 0, none⟩)) hHeld rfl rfl (by kernel_rfl) (fun _ _ _ _ _ h => h) (by kernel_rfl) (by kernel_rfl) (by rfl) ?_ ?_
  · intro V hSw; (try dsimp only at hSw); go_simp
  simp only [Act.put, List.setIfInBounds_toArray, List.set_cons_zero, List.set_cons_succ]
  refine wpAnyH_one 5 12 (.pointer (some ⟨B, 0, none⟩)) hHeld rfl rfl (by kernel_rfl) (fun _ _ _ _ _ h => h) (by kernel_rfl) (by kernel_rfl) (by rfl) ?_ ?_
  · intro V hSw; (try dsimp only at hSw); go_simp
  simp only [Act.put, List.setIfInBounds_toArray, List.set_cons_zero, List.set_cons_succ]
  refine wpAnyH_one 6 13 (.pointer (some ⟨B, 1, none⟩)) hHeld rfl rfl (by kernel_rfl) (fun _ _ _ _ _ h => h) (by kernel_rfl) (by kernel_rfl) (by rfl) ?_ ?_
  · intro V hSw; (try dsimp only at hSw); go_simp
  simp only [Act.put, List.setIfInBounds_toArray, List.set_cons_zero, List.set_cons_succ]
  refine wpAnyH_one 8 15 (.pointer (some ⟨B, 0, none⟩)) hHeld rfl rfl (by kernel_rfl) (fun _ _ _ _ _ h => h) (by kernel_rfl) (by kernel_rfl) (by rfl) ?_ ?_
  · intro V hSw; (try dsimp only at hSw); go_simp
  simp only [Act.put, List.setIfInBounds_toArray, List.set_cons_zero, List.set_cons_succ]
  refine wpAnyH_one 9 16 (.pointer (some ⟨B, 0, none⟩)) hHeld rfl rfl (by kernel_rfl) (fun _ _ _ _ _ h => h) (by kernel_rfl) (by kernel_rfl) (by rfl) ?_ ?_
  · intro V hSw; (try dsimp only at hSw); go_simp
  simp only [Act.put, List.setIfInBounds_toArray, List.set_cons_zero, List.set_cons_succ]
  refine wpAnyH_one 10 17 (.pointer (some ⟨B, 10, none⟩)) hHeld rfl rfl (by kernel_rfl) (fun _ _ _ _ _ h => h) (by kernel_rfl) (by kernel_rfl) (by rfl) ?_ ?_
  · intro V hSw; (try dsimp only at hSw); go_simp
  simp only [Act.put, List.setIfInBounds_toArray, List.set_cons_zero, List.set_cons_succ]
  refine wpAnyH_ready (rs := [7]) (by kernel_rfl) (by simp) ?_
  refine AllReadyH.cons rfl (fun K hK => ?_) AllReadyH.nil
  go_simp
  go_wp2_with (go_at_call 36; refine (HM.out V0 HB_V0.out).mono ?_; rintro e V1 ⟨o1, c1, rfl, hq1, hb⟩; have HB_V1 := hid (HB_V0.out.trans (hb.mono HB_V0.out.size)); have HS_V1 := hid (HB_V1.out.size))
  refine hK.out _ _ HB_V1.out (fun hHeld => ?_)
  clear hK K
  refine wpAnyH_ready (rs := [11]) (by kernel_rfl) (by simp) ?_
  refine AllReadyH.cons rfl (fun K hK => ?_) AllReadyH.nil
  go_simp
  go_wp2_with (go_at_call 37; refine (HA.out V1 HB_V1.out).mono ?_; rintro e V2 ⟨o2, c2, rfl, hq2, hb⟩; have HB_V2 := hid (HB_V1.out.trans (hb.mono HB_V1.out.size)); have HS_V2 := hid (HB_V2.out.size))
  refine hK.out _ _ HB_V2.out (fun hHeld => ?_)
  clear hK K
  refine wpAnyH_one 12 19 (.agg #[.int .i64 NOW, .slice o1 ML c1, .slice none 0 0, .slice none 0 0, .slice none 0 0, .slice none 0 0, .slice none 0 0, .slice none 0 0, .slice none 0 0, .slice none 0 0, .slice o2 TL c2, .int .i64 0, .int .u32 0, .int .i32 0, .int .u32 0, .bool false]) hHeld rfl rfl (by kernel_rfl) (fun _ _ _ _ _ h => h) (by kernel_rfl) (by kernel_rfl) (by rfl) ?_ ?_
  · intro V hSw; (try dsimp only at hSw); go_simp
  simp only [Act.put, List.setIfInBounds_toArray, List.set_cons_zero, List.set_cons_succ]
  refine wpAnyH_ready (rs := [13]) (by kernel_rfl) (by simp) ?_
  refine AllReadyH.cons rfl (fun K hK => ?_) AllReadyH.nil
  go_simp
  have hnw := heap_new V2 (.cells #[.int .i64 NOW, .slice o1 ML c1, .slice none 0 0, .slice none 0 0, .slice none 0 0, .slice none 0 0, .slice none 0 0, .slice none 0 0, .slice none 0 0, .slice none 0 0, .slice o2 TL c2, .int .i64 0, .int .u32 0, .int .i32 0, .int .u32 0, .bool false] 85)
  have hb : Below V2.heap.size V2 (V2.alloc (.cells #[.int .i64 NOW, .slice o1 ML c1, .slice none 0 0, .slice none 0 0, .slice none 0 0, .slice none 0 0, .slice none 0 0, .slice none 0 0, .slice none 0 0, .slice none 0 0, .slice o2 TL c2, .int .i64 0, .int .u32 0, .int .i32 0, .int .u32 0, .bool false] 85)) := (Below.refl _ V2).alloc (Nat.le_refl _) _
  generalize V2.alloc (.cells #[.int .i64 NOW, .slice o1 ML c1, .slice none 0 0, .slice none 0 0, .slice none 0 0, .slice none 0 0, .slice none 0 0, .slice none 0 0, .slice none 0 0, .slice none 0 0, .slice o2 TL c2, .int .i64 0, .int .u32 0, .int .i32 0, .int .u32 0, .bool false] 85) = V3 at *
  have HB_V3 := hid (HB_V2.out.trans (hb.mono HB_V2.out.size))
  have HS_V3 := hid (HB_V3.out.size)
  refine hK.out _ _ HB_V3.out (fun hHeld => ?_)
  have HB23 := hid hb
  clear hK K hb
  refine wpAnyH_one 14 3 (.pointer (some ⟨V2.heap.size, 0, none⟩)) hHeld rfl rfl (by kernel_rfl) (fun _ _ _ _ _ h => h) (by kernel_rfl) (by kernel_rfl) (by rfl) ?_ ?_
  · intro V hSw; (try dsimp only at hSw); go_simp
  simp only [Act.put, List.setIfInBounds_toArray, List.set_cons_zero, List.set_cons_succ]
  refine wpAnyH_done (by kernel_rfl) ?_ _
  have HOwn : Hid (OwnAt V3 Wz.heap.size V2.heap.size (forkN s 0)) := by
    have e1 := HML.out
    have e2 := HTL.out
    have e3 := HNOW.out
    subst e1 e2 e3
    exact (own_fork hq1.out hq2.out HB23.out hnw).mono HS_V0.out
  generalize V2.heap.size = G at *
  have HBV3 := HB_V3
  clear hq1 hq2 hnw HB23 HB_V0 HB_V1 HB_V2 HS_V0 HS_V1 HS_V2 HS_V3 HB_V3 hHeld
  go_upto_region 5 with fail
  go_loopw [21] (fun t wr => ∃ k : Nat, k ≤ 8 ∧ t = .int .i64 k ∧ Hid (Below Wz.heap.size Wz wr) ∧ Hid (OwnAt wr Wz.heap.size G (forkN s k))) (fun t _ => 8 - (RowKit.intOf t).toNat)
  case atStart => exact ⟨0, by omega, rfl, HBV3, HOwn⟩
  case round =>
    obtain ⟨k, hk, rfl, hB, hO⟩ := hrel
    by_cases hlt : k < 8
    · have d1 : decide ((k : Int) < 8) = true := decide_eq_true (by omega)
      have q1 : (0 : Int) ≤ (k : Int) := by omega
      have q2 : (k : Int) < 8 := by omega
      have HC := hid (HI.out k hlt wr.drew hB.out.drew)
      have HP := hid (fun W o c (h : Hid (CopyTo wr.drew 3 1 (qI s (2 + k)).length (rowN (qI s (2 + k))) (.slice o (qI s (2 + k)).length c) W)) => own_put hO.out hB.out.size hlt h.out)
      generalize (qI s (2 + k)).length = L at *
      clear HOwn HBV3 hO
      go_upto_region 7 with fail
      go_region_with (go_at_call 36; refine HC.out.mono ?_; rintro e w3 ⟨o3, c3, rfl, hq⟩; obtain ⟨⟨u3, k3⟩, f3, _, _⟩ := HP.out _ _ _ hq)
      all_goals
        have h9 := HP.out _ _ _ hq
        have HN : Hid (Below Wz.heap.size Wz (w3.setCell ⟨G, 2 + k, none⟩ (.slice o3 L c3))) := hB.out.trans h9.2.2.2
        have HM9 := hid h9.2.2.1
        clear h9 HP HC hq
        go_wp2
        go_roundw
        case rel => exact ⟨k + 1, by omega, by go_num, HN, HM9⟩
        case measure => simp [RowKit.intOf]; omega
    · have hk8 : k = 8 := by omega
      subst hk8
      have d1 : decide ((8 : Int) < 8) = false := rfl
      obtain ⟨h1, h2, h3⟩ := hO.out.lcs
      have cs := HCS.out wr hB.out
      have g1 := cs.giv
      have x1 := h1.giv
      have x2 := h1.fz 11
      have HG9 := hid (own_giv (hO.out.later (Below.refl _ _).drew) s.giv)
      have hL9 := load_giv B s.giv wr.drew g1
      have hS9 := store_giv G _ s.giv wr.drew x1 x2
      have HF : Hid ({ forkN s 8 with giv := s.giv } = { s with cls := false }) := forkN_all s HLEN.out
      have HGB := hid h2
      clear h1 h2 h3 cs HI HOwn HBV3 HLEN
      go_upto_region 9 with fail
      go_region_with (first | (go_at_call 38; refine hS9.mono ?_; rintro e w3 ⟨rfl, rfl⟩) | (go_at_call 39; refine hL9.mono ?_; rintro e w3 ⟨rfl, rfl⟩))
      all_goals
        have HW9 : Hid (Below Wz.heap.size Wz (wr.setCell ⟨G, 11, none⟩ (.int .i64 s.giv)).drew) := hid (hB.out.drew.trans HG9.out.2)
        have HO9 : Hid (OwnAt (wr.setCell ⟨G, 11, none⟩ (.int .i64 s.giv)).drew Wz.heap.size G { s with cls := false }) := hid (HF.out ▸ HG9.out.1)
        clear HG9 HF hL9 hS9 g1 x1 x2 hO
        generalize (wr.setCell ⟨G, 11, none⟩ (.int .i64 s.giv)).drew = W9 at *
        have g15 := (HCS.out W9 HW9.out).cls
        by_cases hc : s.cls = true
        · rw [hc] at g15
          have HCl := own_close HO9.out HW9.out.size
          go_wp2_with (go_at_call 24; refine HCl.mono ?_; rintro e w4 ⟨rfl, h4, hb4⟩)
          go_ret
          refine ⟨G, rfl, HW9.out.trans hb4.out, ?_⟩
          have := h4.out
          rw [close_off s HE.out hc] at this
          exact this
        · have hc' : s.cls = false := by cases h : s.cls with | true => exact absurd h hc | false => rfl
          rw [hc'] at g15
          go_wp2
          go_ret
          refine ⟨G, rfl, HW9.out, ?_⟩
          have := HO9.out
          rw [cls_off s hc'] at this
          exact this
end Go.Proofs.Ytnbkoobkfbcabaa
