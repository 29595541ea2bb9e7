/- What lies below a node and what lies above it: plain. -/
import Derived.Test.YthkjkcojbepfmaaFOrd2
namespace Go.Proofs.Ythkjkcojbepfmaa
open Go.RowKit Go.Lib

/-- A node, and what hangs below it, each ahead of what hangs on it. -/
def belowF (hang : Int → List Int) : Nat → Int → List Int
  | 0, _ => []
  | f + 1, x => x :: (hang x).flatMap (belowF hang f)
/-- What hangs on a node has it right above. -/
structure Hangs (ns : List NodeD) (up : Int → Int) (hang : Int → List Int) : Prop where
  ok : UpOK ns up
  ends : ∀ j : Nat, j < ns.length → Ends ns ((j : Int) + 1)
  down : ∀ x y, thereB ns.length x = true → y ∈ hang x → thereB ns.length y = true ∧ up y = x
  back : ∀ y, thereB ns.length y = true → up y ≠ 0 → y ∈ hang (up y)
  once : ∀ x, thereB ns.length x = true → (hang x).Nodup
section
variable {ns : List NodeD} {up : Int → Int} {hang : Int → List Int}
theorem Hangs.head (h : Hangs ns up hang) {x : Int} (hx : thereB ns.length x = true) : pathUp ns up x = x :: pathUp ns up (up x) := by
  obtain ⟨j, hj, rfl⟩ := there_idx hx
  exact pathUp_cons ns _ h.ok h.ends j hj
theorem Hangs.up_there (h : Hangs ns up hang) {x : Int} (hx : thereB ns.length x = true) (h0 : up x ≠ 0) : thereB ns.length (up x) = true := by
  obtain ⟨j, hj, rfl⟩ := there_idx hx
  rcases h.ok j hj with a | a
  · exact absurd a h0
  · exact a.2
theorem Hangs.mem (h : Hangs ns up hang) {x y : Int} (hx : thereB ns.length x = true) (hy : y ∈ pathUp ns up x) : thereB ns.length y = true ∧ Reach ns x y :=
  (chainBy_spec ns _ h.ok h.ends (ns.length + 1) x (.inr hx)).1 y hy
theorem Hangs.len (h : Hangs ns up hang) {x : Int} (hx : thereB ns.length x = true) : (pathUp ns up x).length ≤ ns.length := pathUp_len ns up h.ok h.ends x (.inr hx)
/-- Whoever is on the way up has the rest of the way. -/
theorem Hangs.suffix (h : Hangs ns up hang) : ∀ (n : Nat) (y k : Int), (pathUp ns up y).length ≤ n → thereB ns.length y = true → k ∈ pathUp ns up y → ∃ pre, pathUp ns up y = pre ++ pathUp ns up k
  | 0, y, k, hn, hy, hk => by rw [h.head hy] at hn; simp at hn
  | n + 1, y, k, hn, hy, hk => by
    by_cases e : k = y
    · exact ⟨[], by rw [e]; rfl⟩
    · rw [h.head hy] at hn hk
      have hk' : k ∈ pathUp ns up (up y) := by
        rcases List.mem_cons.1 hk with a | a
        · exact absurd a e
        · exact a
      have h0 : up y ≠ 0 := fun e0 => by rw [e0, pathUp_zero] at hk'; cases hk'
      obtain ⟨pre, hp⟩ := h.suffix n (up y) k (by simpa using hn) (h.up_there hy h0) hk'
      exact ⟨y :: pre, by rw [h.head hy, hp]; rfl⟩
theorem Hangs.suf (h : Hangs ns up hang) {y k : Int} (hy : thereB ns.length y = true) (hk : k ∈ pathUp ns up y) : ∃ pre, pathUp ns up y = pre ++ pathUp ns up k := h.suffix _ y k (Nat.le_refl _) hy hk
theorem Hangs.self (h : Hangs ns up hang) {x : Int} (hx : thereB ns.length x = true) : x ∈ pathUp ns up x := by rw [h.head hx]; simp
theorem Hangs.trans (h : Hangs ns up hang) {x y z : Int} (hz : thereB ns.length z = true) (h1 : x ∈ pathUp ns up y) (h2 : y ∈ pathUp ns up z) : x ∈ pathUp ns up z := by
  obtain ⟨pre, hp⟩ := h.suf hz h2
  rw [hp]
  exact List.mem_append.2 (.inr h1)
/-- The one right below, on the way. -/
theorem Hangs.pred (h : Hangs ns up hang) : ∀ (n : Nat) (y x : Int), (pathUp ns up y).length ≤ n → thereB ns.length y = true → x ∈ pathUp ns up y → x ≠ y → ∃ k, k ∈ pathUp ns up y ∧ up k = x ∧ thereB ns.length k = true
  | 0, y, x, hn, hy, _, _ => by rw [h.head hy] at hn; simp at hn
  | n + 1, y, x, hn, hy, hx, hne => by
    rw [h.head hy] at hn hx
    have hx' : x ∈ pathUp ns up (up y) := by
      rcases List.mem_cons.1 hx with a | a
      · exact absurd a hne
      · exact a
    have h0 : up y ≠ 0 := fun e0 => by rw [e0, pathUp_zero] at hx'; cases hx'
    by_cases e : x = up y
    · exact ⟨y, h.self hy, e.symm, hy⟩
    · obtain ⟨k, a, b, c⟩ := h.pred n (up y) x (by simpa using hn) (h.up_there hy h0) hx' e
      exact ⟨k, by rw [h.head hy]; exact List.mem_cons_of_mem _ a, b, c⟩
theorem Hangs.deep (h : Hangs ns up hang) {x y : Int} (hx : thereB ns.length x = true) (hy : y ∈ hang x) : (pathUp ns up y).length = (pathUp ns up x).length + 1 := by
  obtain ⟨a, b⟩ := h.down x y hx hy
  rw [h.head a, b, List.length_cons]
/-- What lies below is what has it above. -/
theorem Hangs.below_iff (h : Hangs ns up hang) : ∀ (f : Nat) (x y : Int), thereB ns.length x = true → ns.length < f + (pathUp ns up x).length → (y ∈ belowF hang f x ↔ thereB ns.length y = true ∧ x ∈ pathUp ns up y)
  | 0, x, y, hx, hf => by have := h.len hx; omega
  | f + 1, x, y, hx, hf => by
    rw [belowF, List.mem_cons, List.mem_flatMap]
    constructor
    · rintro (rfl | ⟨k, hk, hy⟩)
      · exact ⟨hx, h.self hx⟩
      · obtain ⟨a, b⟩ := h.down x k hx hk
        obtain ⟨c, d⟩ := (h.below_iff f k y a (by have := h.deep hx hk; omega)).1 hy
        refine ⟨c, h.trans c ?_ d⟩
        rw [h.head a, b]
        exact List.mem_cons_of_mem _ (h.self hx)
    · rintro ⟨hy, hxy⟩
      by_cases e : y = x
      · exact .inl e
      · right
        obtain ⟨k, a, b, c⟩ := h.pred _ y x (Nat.le_refl _) hy hxy (fun e2 => e e2.symm)
        have hk : k ∈ hang x := by
          rw [← b]
          refine h.back k c (fun e0 => ?_)
          rw [b] at e0
          rw [e0] at hx
          unfold thereB at hx
          simp at hx
        exact ⟨k, hk, (h.below_iff f k y c (by have := h.deep hx hk; omega)).2 ⟨hy, a⟩⟩
/-- Two on one way up, as deep as one another, are one. -/
theorem Hangs.level (h : Hangs ns up hang) {y a b : Int} (hy : thereB ns.length y = true) (ha : a ∈ pathUp ns up y) (hb : b ∈ pathUp ns up y) (he : (pathUp ns up a).length = (pathUp ns up b).length) : a = b := by
  obtain ⟨p, hp⟩ := h.suf hy ha
  obtain ⟨q, hq⟩ := h.suf hy hb
  have h2 := hp.symm.trans hq
  have hl : p.length = q.length := by
    have := congrArg List.length h2
    rw [List.length_append, List.length_append] at this
    omega
  have h3 := (List.append_inj h2 hl).2
  rw [h.head (h.mem hy ha).1, h.head (h.mem hy hb).1] at h3
  exact (List.cons.inj h3).1
/-- Each once. -/
theorem Hangs.below_once (h : Hangs ns up hang) : ∀ (f : Nat) (x : Int), thereB ns.length x = true → ns.length < f + (pathUp ns up x).length → (belowF hang f x).Nodup
  | 0, x, hx, hf => by have := h.len hx; omega
  | f + 1, x, hx, hf => by
    rw [belowF]
    have hd : ∀ k, k ∈ hang x → thereB ns.length k = true ∧ ns.length < f + (pathUp ns up k).length := fun k hk => ⟨(h.down x k hx hk).1, by have := h.deep hx hk; omega⟩
    refine List.nodup_cons.2 ⟨fun hin => ?_, ?_⟩
    · obtain ⟨k, hk, hy⟩ := List.mem_flatMap.1 hin
      obtain ⟨hkt, hkf⟩ := hd k hk
      have hkx := ((h.below_iff f k x hkt hkf).1 hy).2
      obtain ⟨pre, hp⟩ := h.suf hx hkx
      have := congrArg List.length hp
      rw [List.length_append, h.deep hx hk] at this
      omega
    · refine List.pairwise_flatMap.2 ⟨fun k hk => h.below_once f k (hd k hk).1 (hd k hk).2, ?_⟩
      refine List.Pairwise.imp_of_mem ?_ (h.once x hx)
      intro k1 k2 m1 m2 hne y hy1 z hz e
      subst e
      have a := ((h.below_iff f k1 y (hd k1 m1).1 (hd k1 m1).2).1 hy1)
      have b := ((h.below_iff f k2 y (hd k2 m2).1 (hd k2 m2).2).1 hz)
      exact hne (h.level a.1 a.2 b.2 (by rw [h.deep hx m1, h.deep hx m2]))
theorem Hangs.below_len (h : Hangs ns up hang) (f : Nat) (x : Int) (hx : thereB ns.length x = true) (hf : ns.length < f + (pathUp ns up x).length) : (belowF hang f x).length ≤ ns.length :=
  pigeon ns.length _ (h.below_once f x hx hf) (fun y hy => by
    have := ((h.below_iff f x y hx hf).1 hy).1
    unfold thereB at this
    simp only [Bool.and_eq_true, decide_eq_true_eq] at this
    exact this)
end
/-- Kids have their parent above. -/
theorem RightF.kidsHang {ns : List NodeD} (h : RightF ns) : Hangs ns (parentD ns) (kidsD ns) where
  ok := h.parentOK
  ends := h.ends
  down := fun x y hx hy => by
    obtain ⟨j, hj, rfl⟩ := there_idx hx
    have hk : kidsD ns ((j : Int) + 1) = ns[j].kids := by unfold kidsD; rw [nodeOf_at ns j hj]
    rw [hk] at hy
    obtain ⟨n, hn, hp⟩ := (h.kids j hj).1 y hy
    obtain ⟨i, hi, e, e2⟩ := nodeOf_idx hn
    subst e e2
    exact ⟨thereB_idx _ _ hi, by rw [parentD_at ns i hi]; exact hp⟩
  back := fun y hy h0 => h.kid hy h0
  once := fun x hx => by
    obtain ⟨j, hj, rfl⟩ := there_idx hx
    have hk : kidsD ns ((j : Int) + 1) = ns[j].kids := by unfold kidsD; rw [nodeOf_at ns j hj]
    rw [hk]
    exact (h.kids j hj).2
end Go.Proofs.Ythkjkcojbepfmaa
