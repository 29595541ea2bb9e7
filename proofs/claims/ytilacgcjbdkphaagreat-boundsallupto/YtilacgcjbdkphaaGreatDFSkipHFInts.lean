/- A region that draws its order, gone through step by step under a condition on the world: operations whose value is known, operations whose guards say no, and what is left. No program in this text. -/
/- How nodes stand to one another: plain. -/
/- What lies below a node and what lies above it: plain. -/
/- Going up by a function of the program's own: node, parentOf, overOf; the iterator upBy. -/
/- Whether a node is among those that an iterator gives (has, contains); the last one (lastOf, rootOf, topOf). -/
/- Going up, ranged over, each one a node. -/
/- A range over a function whose assignment writes a variable that the loop's relation speaks of ('for last = range all'): the relation holds between rounds alone; behind the assignment another one does. -/
/- The last one that an iterator gives (lastOf, rootOf, topOf). -/
/- What an iterator gives, collected (slices.Collect); the path to a node (pathOf). -/
/- How long two paths run together (fork); where a kid stands (indexOf); cmp.Compare. -/
/- What lies in a node, in tree order (listOf, whose inner function calls itself). -/
/- What lies in a node (listOf for kids; All). -/
/- How two nodes stand to one another (standOf). -/
/- Whether two lists of numbers are one (canopyref04.Ints). -/
import Derived.Test.YtilacgcjbdkphaaGreatFSkip
import Derived.Deep.RegionHeld
import Derived.Test.YtilacgcjbdkphaaGreatFOrd
import Derived.Test.YtilacgcjbdkphaaGreatFSurW
import Derived.RangeFuncNested
import Derived.RangeFuncBound
import Derived.RangeFuncCalls
import Derived.RangeFuncLeaves
import Derived.Shelf.Abstract
import Derived.Shelf.RegionOpen
import Derived.OwnWalkIn
import Derived.TacticsInMore
import Derived.LoopNIn
import Derived.LoopIn
import Derived.Test.YtilacgcjbdkphaaGreatShelf
import Derived.Maps.AppendAt
import Derived.RangeFuncBox
import Derived.Deep.Upon
import Derived.Deep.MidRow
import Derived.Deep.QuietTactic
import Derived.BigQuiet
import Derived.Laws.EntriesVeiled
namespace Go.Proofs.YtilacgcjbdkphaaGreat
open Go.RowKit

section
variable {P : Program} {md : Region.Mode} {ops : Array Oper} {Q : Exit → Act → World → Prop} {S : World → Prop}

theorem wpAnyH_skips (us : List (Nat × Nat)) (fuel : Nat) {listed : Array Bool} {a : Act} {w : World} (hS : S w) (hs : Region.noSelect ops = true) (hQ : ∀ c (a : Act) (t : Tmp) (v : Value) w, Q (.panic c) (a.put (some t) v) w → Q (.panic c) a w) (h1 : skipsOk md ops us listed = true) (h2 : unwanted ops us a = true)
    (h : wpAnyH P md ops Q S fuel (listedAfter us listed) (actAfter us a) w) : wpAnyH P md ops Q S (fuel + us.length) listed a w := by
  induction us generalizing listed a with
  | nil => exact h
  | cons i us ih =>
    simp only [skipsOk, Bool.and_eq_true, beq_iff_eq, Option.map_eq_some_iff] at h1
    obtain ⟨⟨oi, hoi, hd⟩, g2, g3, g4⟩ := h1
    simp only [unwanted, Bool.and_eq_true, hoi, Option.map_some, Option.getD_some, Bool.not_eq_true'] at h2
    simp only [actAfter, listedAfter] at h
    refine wpAnyH_take (i := i.1) (v := undef) hoi hs g2 g3 (fun c a w h => hQ c a i.2 _ w (hd ▸ h)) (Or.inr ⟨h2.1, rfl⟩) hS ?_
    rw [hd]
    exact ih g4 h2.2 h
/-- An operation that yields a value in every world that meets the condition, taken first. -/
theorem wpAnyH_one (i t : Nat) (v : Value) {oi : Oper} {fuel : Nat} {listed : Array Bool} {a : Act} {w : World} (hS : S w) (hi : ops[i]? = some oi) (hd : oi.dst = some t) (hs : Region.noSelect ops = true) (hQ : ∀ c (a : Act) (t : Tmp) (v : Value) w, Q (.panic c) (a.put (some t) v) w → Q (.panic c) a w)
    (hf : Region.free md ops listed i = true) (hr : (Region.ready md ops listed).contains i = true) (hw : Region.wanted oi (yielded ops a.tmps) = true) (hx : ∀ w, S w → (execOp a.eval oi).run P w = .ok (.value v) w)
    (h : wpAnyH P md ops Q S fuel (listed.setIfInBounds i true) (a.put (some t) v) w) : wpAnyH P md ops Q S (fuel + 1) listed a w :=
  wpAnyH_take (i := i) (v := v) hi hs hf hr (fun c a w h => hQ c a t _ w (hd ▸ h)) (Or.inl ⟨hw, hx⟩) hS (hd ▸ h)
end
end Go.Proofs.YtilacgcjbdkphaaGreat

namespace Go.Proofs.YtilacgcjbdkphaaGreat
open Go.RowKit Go.Lib

def containsD (ns : List NodeD) (a b : Int) : Bool := (pathUp ns (parentD ns) b).contains a
def idxI : List Int → Int → Nat → Int
  | [], _, _ => -1
  | y :: t, x, k => if y == x then (k : Int) else idxI t x (k + 1)
def kidsD (ns : List NodeD) (x : Int) : List Int := match nodeOf ns x with
  | some n => n.kids
  | none => []
def cmpI (a b : Int) : Int := if a < b then -1 else if b < a then 1 else 0
theorem idxI_of : ∀ (l : List Int) (x : Int) (k : Nat), x ∈ l → ∃ j : Nat, j < l.length ∧ l.getD j 0 = x ∧ idxI l x k = ((k + j : Nat) : Int)
  | [], _, _, h => by cases h
  | y :: t, x, k, h => by
    unfold idxI
    by_cases e : y = x
    · subst e
      exact ⟨0, by simp, rfl, by simp⟩
    · rw [beq_eq_false_iff_ne.2 e, if_neg Bool.false_ne_true]
      obtain ⟨j, a, b, c⟩ := idxI_of t x (k + 1) (by
        rcases List.mem_cons.1 h with h | h
        · exact absurd h.symm e
        · exact h)
      exact ⟨j + 1, by simpa using a, by simpa using b, by rw [c]; congr 1; omega⟩
theorem RightF.kid {ns : List NodeD} (h : RightF ns) {x : Int} (ht : thereB ns.length x = true) (hp : parentD ns x ≠ 0) : x ∈ kidsD ns (parentD ns x) := by
  obtain ⟨j, hj, rfl⟩ := there_idx ht
  rw [parentD_at ns j hj] at hp ⊢
  rcases h.hang j hj with a | ⟨i, hi, e, hm⟩
  · exact absurd a hp
  · rw [e]
    unfold kidsD
    rw [nodeOf_at ns i hi]
    exact hm
theorem pathUp_mem {ns : List NodeD} (h : RightF ns) {x y : Int} (hx : thereB ns.length x = true) (hy : y ∈ pathUp ns (parentD ns) x) : thereB ns.length y = true ∧ Reach ns x y :=
  (chainBy_spec ns _ h.parentOK h.ends (ns.length + 1) x (.inr hx)).1 y hy
theorem pathUp_head {ns : List NodeD} (h : RightF ns) {x : Int} (hx : thereB ns.length x = true) : pathUp ns (parentD ns) x = x :: pathUp ns (parentD ns) (parentD ns x) := by
  obtain ⟨j, hj, rfl⟩ := there_idx hx
  exact pathUp_cons ns _ h.parentOK h.ends j hj
theorem Reach.trans {ns : List NodeD} {x y z : Int} (h : Reach ns x y) (h2 : Reach ns y z) : Reach ns x z := by
  induction h with
  | refl => exact h2
  | step hm _ ih => exact .step hm (ih h2)
end Go.Proofs.YtilacgcjbdkphaaGreat

namespace Go.Proofs.YtilacgcjbdkphaaGreat
open Go.RowKit Go.Lib

/-- A node, and what hangs below it, each ahead of what hangs on it. -/
def belowF (hang : Int → List Int) : Nat → Int → List Int
  | 0, _ => []
  | f + 1, x => x :: (hang x).flatMap (belowF hang f)
/-- What hangs on a node has it right above. -/
structure Hangs (ns : List NodeD) (up : Int → Int) (hang : Int → List Int) : Prop where
  ok : UpOK ns up
  ends : ∀ j : Nat, j < ns.length → Ends ns ((j : Int) + 1)
  down : ∀ x y, thereB ns.length x = true → y ∈ hang x → thereB ns.length y = true ∧ up y = x
  back : ∀ y, thereB ns.length y = true → up y ≠ 0 → y ∈ hang (up y)
  once : ∀ x, thereB ns.length x = true → (hang x).Nodup
section
variable {ns : List NodeD} {up : Int → Int} {hang : Int → List Int}
theorem Hangs.head (h : Hangs ns up hang) {x : Int} (hx : thereB ns.length x = true) : pathUp ns up x = x :: pathUp ns up (up x) := by
  obtain ⟨j, hj, rfl⟩ := there_idx hx
  exact pathUp_cons ns _ h.ok h.ends j hj
theorem Hangs.up_there (h : Hangs ns up hang) {x : Int} (hx : thereB ns.length x = true) (h0 : up x ≠ 0) : thereB ns.length (up x) = true := by
  obtain ⟨j, hj, rfl⟩ := there_idx hx
  rcases h.ok j hj with a | a
  · exact absurd a h0
  · exact a.2
theorem Hangs.mem (h : Hangs ns up hang) {x y : Int} (hx : thereB ns.length x = true) (hy : y ∈ pathUp ns up x) : thereB ns.length y = true ∧ Reach ns x y :=
  (chainBy_spec ns _ h.ok h.ends (ns.length + 1) x (.inr hx)).1 y hy
theorem Hangs.len (h : Hangs ns up hang) {x : Int} (hx : thereB ns.length x = true) : (pathUp ns up x).length ≤ ns.length := pathUp_len ns up h.ok h.ends x (.inr hx)
/-- Whoever is on the way up has the rest of the way. -/
theorem Hangs.suffix (h : Hangs ns up hang) : ∀ (n : Nat) (y k : Int), (pathUp ns up y).length ≤ n → thereB ns.length y = true → k ∈ pathUp ns up y → ∃ pre, pathUp ns up y = pre ++ pathUp ns up k
  | 0, y, k, hn, hy, hk => by rw [h.head hy] at hn; simp at hn
  | n + 1, y, k, hn, hy, hk => by
    by_cases e : k = y
    · exact ⟨[], by rw [e]; rfl⟩
    · rw [h.head hy] at hn hk
      have hk' : k ∈ pathUp ns up (up y) := by
        rcases List.mem_cons.1 hk with a | a
        · exact absurd a e
        · exact a
      have h0 : up y ≠ 0 := fun e0 => by rw [e0, pathUp_zero] at hk'; cases hk'
      obtain ⟨pre, hp⟩ := h.suffix n (up y) k (by simpa using hn) (h.up_there hy h0) hk'
      exact ⟨y :: pre, by rw [h.head hy, hp]; rfl⟩
theorem Hangs.suf (h : Hangs ns up hang) {y k : Int} (hy : thereB ns.length y = true) (hk : k ∈ pathUp ns up y) : ∃ pre, pathUp ns up y = pre ++ pathUp ns up k := h.suffix _ y k (Nat.le_refl _) hy hk
theorem Hangs.self (h : Hangs ns up hang) {x : Int} (hx : thereB ns.length x = true) : x ∈ pathUp ns up x := by rw [h.head hx]; simp
theorem Hangs.trans (h : Hangs ns up hang) {x y z : Int} (hz : thereB ns.length z = true) (h1 : x ∈ pathUp ns up y) (h2 : y ∈ pathUp ns up z) : x ∈ pathUp ns up z := by
  obtain ⟨pre, hp⟩ := h.suf hz h2
  rw [hp]
  exact List.mem_append.2 (.inr h1)
/-- The one right below, on the way. -/
theorem Hangs.pred (h : Hangs ns up hang) : ∀ (n : Nat) (y x : Int), (pathUp ns up y).length ≤ n → thereB ns.length y = true → x ∈ pathUp ns up y → x ≠ y → ∃ k, k ∈ pathUp ns up y ∧ up k = x ∧ thereB ns.length k = true
  | 0, y, x, hn, hy, _, _ => by rw [h.head hy] at hn; simp at hn
  | n + 1, y, x, hn, hy, hx, hne => by
    rw [h.head hy] at hn hx
    have hx' : x ∈ pathUp ns up (up y) := by
      rcases List.mem_cons.1 hx with a | a
      · exact absurd a hne
      · exact a
    have h0 : up y ≠ 0 := fun e0 => by rw [e0, pathUp_zero] at hx'; cases hx'
    by_cases e : x = up y
    · exact ⟨y, h.self hy, e.symm, hy⟩
    · obtain ⟨k, a, b, c⟩ := h.pred n (up y) x (by simpa using hn) (h.up_there hy h0) hx' e
      exact ⟨k, by rw [h.head hy]; exact List.mem_cons_of_mem _ a, b, c⟩
theorem Hangs.deep (h : Hangs ns up hang) {x y : Int} (hx : thereB ns.length x = true) (hy : y ∈ hang x) : (pathUp ns up y).length = (pathUp ns up x).length + 1 := by
  obtain ⟨a, b⟩ := h.down x y hx hy
  rw [h.head a, b, List.length_cons]
/-- What lies below is what has it above. -/
theorem Hangs.below_iff (h : Hangs ns up hang) : ∀ (f : Nat) (x y : Int), thereB ns.length x = true → ns.length < f + (pathUp ns up x).length → (y ∈ belowF hang f x ↔ thereB ns.length y = true ∧ x ∈ pathUp ns up y)
  | 0, x, y, hx, hf => by have := h.len hx; omega
  | f + 1, x, y, hx, hf => by
    rw [belowF, List.mem_cons, List.mem_flatMap]
    constructor
    · rintro (rfl | ⟨k, hk, hy⟩)
      · exact ⟨hx, h.self hx⟩
      · obtain ⟨a, b⟩ := h.down x k hx hk
        obtain ⟨c, d⟩ := (h.below_iff f k y a (by have := h.deep hx hk; omega)).1 hy
        refine ⟨c, h.trans c ?_ d⟩
        rw [h.head a, b]
        exact List.mem_cons_of_mem _ (h.self hx)
    · rintro ⟨hy, hxy⟩
      by_cases e : y = x
      · exact .inl e
      · right
        obtain ⟨k, a, b, c⟩ := h.pred _ y x (Nat.le_refl _) hy hxy (fun e2 => e e2.symm)
        have hk : k ∈ hang x := by
          rw [← b]
          refine h.back k c (fun e0 => ?_)
          rw [b] at e0
          rw [e0] at hx
          unfold thereB at hx
          simp at hx
        exact ⟨k, hk, (h.below_iff f k y c (by have := h.deep hx hk; omega)).2 ⟨hy, a⟩⟩
/-- Two on one way up, as deep as one another, are one. -/
theorem Hangs.level (h : Hangs ns up hang) {y a b : Int} (hy : thereB ns.length y = true) (ha : a ∈ pathUp ns up y) (hb : b ∈ pathUp ns up y) (he : (pathUp ns up a).length = (pathUp ns up b).length) : a = b := by
  obtain ⟨p, hp⟩ := h.suf hy ha
  obtain ⟨q, hq⟩ := h.suf hy hb
  have h2 := hp.symm.trans hq
  have hl : p.length = q.length := by
    have := congrArg List.length h2
    rw [List.length_append, List.length_append] at this
    omega
  have h3 := (List.append_inj h2 hl).2
  rw [h.head (h.mem hy ha).1, h.head (h.mem hy hb).1] at h3
  exact (List.cons.inj h3).1
/-- Each once. -/
theorem Hangs.below_once (h : Hangs ns up hang) : ∀ (f : Nat) (x : Int), thereB ns.length x = true → ns.length < f + (pathUp ns up x).length → (belowF hang f x).Nodup
  | 0, x, hx, hf => by have := h.len hx; omega
  | f + 1, x, hx, hf => by
    rw [belowF]
    have hd : ∀ k, k ∈ hang x → thereB ns.length k = true ∧ ns.length < f + (pathUp ns up k).length := fun k hk => ⟨(h.down x k hx hk).1, by have := h.deep hx hk; omega⟩
    refine List.nodup_cons.2 ⟨fun hin => ?_, ?_⟩
    · obtain ⟨k, hk, hy⟩ := List.mem_flatMap.1 hin
      obtain ⟨hkt, hkf⟩ := hd k hk
      have hkx := ((h.below_iff f k x hkt hkf).1 hy).2
      obtain ⟨pre, hp⟩ := h.suf hx hkx
      have := congrArg List.length hp
      rw [List.length_append, h.deep hx hk] at this
      omega
    · refine List.pairwise_flatMap.2 ⟨fun k hk => h.below_once f k (hd k hk).1 (hd k hk).2, ?_⟩
      refine List.Pairwise.imp_of_mem ?_ (h.once x hx)
      intro k1 k2 m1 m2 hne y hy1 z hz e
      subst e
      have a := ((h.below_iff f k1 y (hd k1 m1).1 (hd k1 m1).2).1 hy1)
      have b := ((h.below_iff f k2 y (hd k2 m2).1 (hd k2 m2).2).1 hz)
      exact hne (h.level a.1 a.2 b.2 (by rw [h.deep hx m1, h.deep hx m2]))
theorem Hangs.below_len (h : Hangs ns up hang) (f : Nat) (x : Int) (hx : thereB ns.length x = true) (hf : ns.length < f + (pathUp ns up x).length) : (belowF hang f x).length ≤ ns.length :=
  pigeon ns.length _ (h.below_once f x hx hf) (fun y hy => by
    have := ((h.below_iff f x y hx hf).1 hy).1
    unfold thereB at this
    simp only [Bool.and_eq_true, decide_eq_true_eq] at this
    exact this)
end
/-- Kids have their parent above. -/
theorem RightF.kidsHang {ns : List NodeD} (h : RightF ns) : Hangs ns (parentD ns) (kidsD ns) where
  ok := h.parentOK
  ends := h.ends
  down := fun x y hx hy => by
    obtain ⟨j, hj, rfl⟩ := there_idx hx
    have hk : kidsD ns ((j : Int) + 1) = ns[j].kids := by unfold kidsD; rw [nodeOf_at ns j hj]
    rw [hk] at hy
    obtain ⟨n, hn, hp⟩ := (h.kids j hj).1 y hy
    obtain ⟨i, hi, e, e2⟩ := nodeOf_idx hn
    subst e e2
    exact ⟨thereB_idx _ _ hi, by rw [parentD_at ns i hi]; exact hp⟩
  back := fun y hy h0 => h.kid hy h0
  once := fun x hx => by
    obtain ⟨j, hj, rfl⟩ := there_idx hx
    have hk : kidsD ns ((j : Int) + 1) = ns[j].kids := by unfold kidsD; rw [nodeOf_at ns j hj]
    rw [hk]
    exact (h.kids j hj).2
end Go.Proofs.YtilacgcjbdkphaaGreat

namespace Go.Proofs.YtilacgcjbdkphaaGreat
open Go.RowKit Go.Lib Go.Shelf
attribute [local go_sem] Oper.semAt_some

theorem grown_of_below {w w' : World} (h : Below w.heap.size w w') : w.grownBy w' none := ⟨h.os, h.tape, h.output, h.size, fun k hk _ => h.block k hk⟩

set_option maxHeartbeats 1000000 in
theorem onode_any (b off cap n i : Nat) (w : World) (hi : i < n) (hn : n ≤ 1099511627776) :
    Calls Tryz.prog 109 #[forestV b off cap n, .int .i64 ((i : Int) + 1)] w fun e w' => e = .returned (.pointer (some ⟨b, off + i * 16, none⟩)) ∧ Below w.heap.size w w' := by
  unfold forestV
  have h1 : (0 : Int) ≤ (i : Int) := by omega
  have h2 : (i : Int) < (n : Int) := by omega
  go_enter Tryz.func109, Tryz.ntmps109
  go_wp2
  go_ret
  exact ⟨rfl, (Below.refl _ w).alloc (Nat.le_refl _) _⟩

end Go.Proofs.YtilacgcjbdkphaaGreat

namespace Go.Proofs.YtilacgcjbdkphaaGreat
open Go.RowKit Go.Lib Go.Shelf
attribute [local go_sem] Oper.semAt_some

theorem box_cell_l {W : World} {B : Nat} {v : Value} {t : TypeId} (h : W.heap[B]? = some (.cells #[v] t (0, 0))) : W.cell? ⟨B, 0, none⟩ = some v ∧ W.frozen? ⟨B, 0, none⟩ = false := by
  constructor <;> simp [World.cell?, World.frozen?, h]
theorem new_cell_l (W : World) (v : Value) (t : TypeId) : (W.alloc (.cells #[v] t)).cell? ⟨W.heap.size, 0, none⟩ = some v ∧ (W.alloc (.cells #[v] t)).frozen? ⟨W.heap.size, 0, none⟩ = false := box_cell_l (heap_new W _)
theorem keep_cell_l {W : World} {a : Addr} {v : Value} (o : Obj) (h : W.cell? a = some v) : (W.alloc o).cell? a = some v := cell_kept h (World.grownBy_alloc W o none) (fun r e => by cases e)
/-- What upBy has made lies in three boxes. -/
structure UpAt (w : World) (b off cap n k bh bo bf : Nat) (x : Int) : Prop where
  ch : w.cell? ⟨bh, 0, none⟩ = some (.int .i64 x)
  co : w.cell? ⟨bo, 0, none⟩ = some (.func (.func k) #[] #[])
  cf : w.cell? ⟨bf, 0, none⟩ = some (.slice (some ⟨b, off, none⟩) n cap)
  lh : bh < w.heap.size
  lo : bo < w.heap.size
  lf : bf < w.heap.size
theorem UpAt.later {w W : World} {b off cap n k bh bo bf : Nat} {x : Int} (h : UpAt w b off cap n k bh bo bf x) (hb : Below w.heap.size w W) : UpAt W b off cap n k bh bo bf x :=
  ⟨(hb.cell (p := ⟨bh, 0, none⟩) h.lh).trans h.ch, (hb.cell (p := ⟨bo, 0, none⟩) h.lo).trans h.co, (hb.cell (p := ⟨bf, 0, none⟩) h.lf).trans h.cf, Nat.lt_of_lt_of_le h.lh hb.size, Nat.lt_of_lt_of_le h.lo hb.size, Nat.lt_of_lt_of_le h.lf hb.size⟩
end Go.Proofs.YtilacgcjbdkphaaGreat

namespace Go.Proofs.YtilacgcjbdkphaaGreat
open Go.RowKit Go.Lib Go.Shelf

/-- A handle of a node. -/
def There (ns : List NodeD) : Type := { z : Int // thereB ns.length z = true }
end Go.Proofs.YtilacgcjbdkphaaGreat

namespace Go.Proofs.YtilacgcjbdkphaaGreat
open Go Go.RowKit

end Go.Proofs.YtilacgcjbdkphaaGreat

namespace Go.Proofs.YtilacgcjbdkphaaGreat
open Go.RowKit Go.Lib Go.Shelf
attribute [local go_sem] Oper.semAt_some

/-- The last one; 0: there is none. -/
def lastI (l : List Int) : Int := l.getLastD 0
end Go.Proofs.YtilacgcjbdkphaaGreat

namespace Go.Proofs.YtilacgcjbdkphaaGreat
open Go.RowKit Go.Lib Go.Shelf
attribute [local go_sem] Oper.semAt_some

theorem info_int : (Tryz.prog.info? 3).map (fun i => (i.zero, i.size, i.bytes)) = some (some (.int .i64 0), 1, 8) := by kernel_rfl

theorem drewN_below (B q : Nat) (w : World) : Below B w (w.drewN q) := ⟨rfl, rfl, rfl, Nat.le_refl _, fun _ _ => rfl⟩
end Go.Proofs.YtilacgcjbdkphaaGreat

namespace Go.Proofs.YtilacgcjbdkphaaGreat
open Go.RowKit Go.Lib Go.Shelf

set_option maxHeartbeats 1000000 in
theorem cmp_any (x y : Int) (w : World) :
    Calls Tryz.prog 88 #[.int .i64 x, .int .i64 y] w fun e w' => e = .returned (.int .i64 (cmpI x y)) ∧ w' = w := by
  have HN : Hid (∀ (z : Int) (W : World), Calls Tryz.prog 114 #[.int .i64 z] W fun e w' => e = .returned (.bool false) ∧ w' = W) := fun z W => by
    have hz : (z != z) = false := by rw [bne, beq_self_eq_true]; rfl
    go_enter Tryz.func114, Tryz.ntmps114
    go_wp2
    go_ret
    exact ⟨rfl, rfl⟩
  unfold cmpI
  by_cases h1 : x < y
  · have d1 : decide (x < y) = true := decide_eq_true h1
    rw [if_pos h1]
    go_enter Tryz.func88, Tryz.ntmps88
    go_wp2_with fail
    refine (HN.out _ _).mono ?_
    rintro e v1 ⟨rfl, rfl⟩
    go_wp2_with fail
    refine (HN.out _ _).mono ?_
    rintro e v1 ⟨rfl, rfl⟩
    go_wp2
    go_ret
    exact ⟨rfl, rfl⟩
  · have d1 : decide (x < y) = false := decide_eq_false h1
    rw [if_neg h1]
    by_cases h2 : y < x
    · have d2 : decide (y < x) = true := decide_eq_true h2
      rw [if_pos h2]
      go_enter Tryz.func88, Tryz.ntmps88
      go_wp2_with fail
      refine (HN.out _ _).mono ?_
      rintro e v1 ⟨rfl, rfl⟩
      go_wp2_with fail
      refine (HN.out _ _).mono ?_
      rintro e v1 ⟨rfl, rfl⟩
      go_wp2
      go_ret
      exact ⟨rfl, rfl⟩
    · have d2 : decide (y < x) = false := decide_eq_false h2
      rw [if_neg h2]
      go_enter Tryz.func88, Tryz.ntmps88
      go_wp2_with fail
      refine (HN.out _ _).mono ?_
      rintro e v1 ⟨rfl, rfl⟩
      go_wp2_with fail
      refine (HN.out _ _).mono ?_
      rintro e v1 ⟨rfl, rfl⟩
      go_wp2
      go_ret
      exact ⟨rfl, rfl⟩
end Go.Proofs.YtilacgcjbdkphaaGreat

namespace Go.Proofs.YtilacgcjbdkphaaGreat
open Go.RowKit Go.Lib Go.Shelf

theorem boxed_later {W V : World} {B : Nat} {t : TypeId} {v : Value} (h : Boxed W B t v) (hb : Below W.heap.size W V) : Boxed V B t v := (hb.block B h.lt).trans h
theorem boxed_beside {W w1 : World} {n₀ B B' : Nat} {t' e : TypeId} {size : Nat} {v v' u : Value} {k : Nat} {xs : List Value} {tmp : Obj} (hu : Boxed W B' t' u) (hte : t' ≠ e) (hne : B' ≠ B) (hrow : W.ownsRow n₀ e size v k xs) (hgrow : (W.alloc tmp).grownBy w1 v.ownBlock) : Boxed (w1.setCell ⟨B, 0, none⟩ v') B' t' u :=
  ((hu.alloc tmp).kept hgrow (hu.not_row hte hrow)).other hne v'
theorem ownsRow_later {W V : World} {base : Nat} {e : TypeId} {size : Nat} {v : Value} {k : Nat} {xs : List Value} (h : W.ownsRow base e size v k xs) (hb : Below W.heap.size W V) : V.ownsRow base e size v k xs := by
  refine h.kept (grown_of_below hb) ?_
  rcases h.2 with ⟨rfl, _⟩ | ⟨g, cap, cur, rfl, _⟩
  · exact .inl rfl
  · exact .inr (by simp [Value.ownBlock])
theorem ownsRow_rdI {W : World} {base : Nat} {e : TypeId} {v : Value} {l : List Int} (h : W.ownsRow base e 1 v l.length (l.map (Value.int .i64))) : RdI W v l := by
  obtain ⟨_, ⟨rfl, h0⟩ | ⟨g, cp, cur, rfl, hg, hh, hnc, hcm, hcs, htk⟩⟩ := h
  · exact ⟨none, 0, by rw [h0], by omega, fun hp => absurd hp (by omega)⟩
  · refine ⟨_, cp, rfl, hnc, fun _ => ⟨g, 0, rfl, (Array.getElem?_eq_some_iff.1 hh).1, fun j hj => ?_⟩⟩
    rw [cell_of_heap hh, Nat.zero_add]
    have h1 : (cur.toList.take (l.length * 1))[j]? = some (.int .i64 l[j]) := by
      rw [htk, List.getElem?_map, List.getElem?_eq_getElem hj]
      rfl
    rw [List.getElem?_take] at h1
    split at h1
    · simpa using h1
    · cases h1

/-- The boxes of listOf's inner function. -/
structure VisitAt (W : World) (b off cap n hk bl bh bf bv : Nat) : Prop where
  hang : Boxed W bh 105 (.func (.func hk) #[] #[])
  forest : Boxed W bf 24 (.slice (some ⟨b, off, none⟩) n cap)
  visit : Boxed W bv 149 (.func (.func 120) #[] #[.pointer (some ⟨bl, 0, none⟩), .pointer (some ⟨bh, 0, none⟩), .pointer (some ⟨bf, 0, none⟩), .pointer (some ⟨bv, 0, none⟩)])
theorem VisitAt.later {W V : World} {b off cap n hk bl bh bf bv : Nat} (h : VisitAt W b off cap n hk bl bh bf bv) (hb : Below W.heap.size W V) : VisitAt V b off cap n hk bl bh bf bv := ⟨boxed_later h.hang hb, boxed_later h.forest hb, boxed_later h.visit hb⟩
/-- The list that grows. -/
def ListBox (W : World) (base bl : Nat) (l : List Int) : Prop := ∃ v, Boxed W bl 32 v ∧ W.ownsRow base 3 1 v l.length (l.map (Value.int .i64))
theorem ListBox.later {W V : World} {base bl : Nat} {l : List Int} (h : ListBox W base bl l) (hb : Below W.heap.size W V) : ListBox V base bl l := by
  obtain ⟨v, h1, h2⟩ := h
  exact ⟨v, boxed_later h1 hb, ownsRow_later h2 hb⟩

set_option maxRecDepth 100000 in
set_option maxHeartbeats 2000000 in
theorem kidsOf_at (b off cap i : Nat) (ns : List NodeD) (w W : World) (h : FAt w b off cap ns) (hb : Below w.heap.size w W) (hi : i < ns.length) :
    Calls Tryz.prog 106 #[forestV b off cap ns.length, .int .i64 ((i : Int) + 1)] W fun e w' => ∃ v, e = .returned v ∧ RdI w v ns[i].kids ∧ Below W.heap.size W w' := by
  have HN : Hid (∀ W : World, _) := fun W => onode_any b off cap ns.length i W hi h.len
  obtain ⟨L, hc, _, _, hk⟩ := h.at_ i hi
  have Hc := hid (hc.later h.lt hb)
  have Hk := hid hk
  have hlt := Nat.lt_of_lt_of_le h.lt hb.size
  have hle := h.len
  obtain ⟨o, c, hko, _⟩ := hk
  have Hko := hid hko
  clear h hc hko hb
  unfold forestV at *
  generalize ns[i] = x at *
  go_enter Tryz.func106, Tryz.ntmps106
  go_wp2_with fail
  refine (HN.out _).mono ?_
  rintro e v1 ⟨rfl, hb1⟩
  have c0 := (Hc.out.later hlt (box_go hb1)).kids
  rw [Hko.out] at c0
  go_wp2
  go_ret
  exact ⟨_, rfl, by have := Hk.out; rw [Hko.out] at this; exact this, box_go hb1⟩

set_option maxRecDepth 100000 in
set_option maxHeartbeats 8000000 in
theorem visitK_any (b off cap : Nat) (ns : List NodeD) (w : World) (hR : RightF ns) (hF : FAt w b off cap ns) (hkl : ∀ (i : Nat) (hi : i < ns.length), ns[i].kids.length ≤ 1099511627776) (bl bh bf bv : Nat) (lbl : w.heap.size ≤ bl) (nh : bh ≠ bl) (nf : bf ≠ bl) (nv : bv ≠ bl) :
    ∀ (f : Nat) (x : Int) (pre : List Int) (W : World), thereB ns.length x = true → ns.length < f + (pathUp ns (parentD ns) x).length → pre.length + (belowF (kidsD ns) f x).length ≤ 1099511627776 → VisitAt W b off cap ns.length 106 bl bh bf bv → ListBox W w.heap.size bl pre → Below w.heap.size w W →
      Calls Tryz.prog 120 #[.int .i64 x, .pointer (some ⟨bl, 0, none⟩), .pointer (some ⟨bh, 0, none⟩), .pointer (some ⟨bf, 0, none⟩), .pointer (some ⟨bv, 0, none⟩)] W fun e W' => (∃ v, e = .returned v) ∧ VisitAt W' b off cap ns.length 106 bl bh bf bv ∧ ListBox W' w.heap.size bl (pre ++ belowF (kidsD ns) f x) ∧ Below w.heap.size w W' := by
  obtain ⟨i0, hi, hz0, hz1, hz2⟩ := info_parts info_int
  intro f
  induction f with
  | zero =>
    intro x pre W hx hf _ _ _ _
    have := pathUp_len ns (parentD ns) hR.parentOK hR.ends x (.inr hx)
    omega
  | succ f ih =>
    intro x pre W hx hf hl hV hL hB
    obtain ⟨v, hv, hrow⟩ := hL
    obtain ⟨j, hj, rfl⟩ := there_idx hx
    have hkd : kidsD ns ((j : Int) + 1) = ns[j].kids := by unfold kidsD; rw [nodeOf_at ns j hj]
    have HE : Hid (pre ++ belowF (kidsD ns) (f + 1) ((j : Int) + 1) = (pre ++ [(j : Int) + 1]) ++ (ns[j].kids.drop 0).flatMap (belowF (kidsD ns) f)) := by
      show _ = _
      rw [belowF, hkd, List.append_assoc]
      rfl
    have hlen2 : (pre ++ belowF (kidsD ns) (f + 1) ((j : Int) + 1)).length ≤ 1099511627776 := by rw [List.length_append]; exact hl
    obtain ⟨T, hT⟩ : ∃ T, pre ++ belowF (kidsD ns) (f + 1) ((j : Int) + 1) = T := ⟨_, rfl⟩
    rw [hT] at HE hlen2 ⊢
    have hpl : pre.length + 1 ≤ 1099511627776 := by
      have h := congrArg List.length HE.out
      rw [List.length_append, List.length_append] at h
      simp only [List.length_cons, List.length_nil] at h
      omega
    have HK : Hid (∀ V : World, Below w.heap.size w V → _) := fun V hV => kidsOf_at b off cap j ns w V hF hV hj
    have HIH : Hid (∀ (y : Int) (acc : List Int) (V : World), y ∈ ns[j].kids → acc.length + (belowF (kidsD ns) f y).length ≤ 1099511627776 → VisitAt V b off cap ns.length 106 bl bh bf bv → ListBox V w.heap.size bl acc → Below w.heap.size w V → _) := fun y acc V hy hac hV2 hL2 hB2 => by
      obtain ⟨n, hn, hp⟩ := (hR.kids j hj).1 y hy
      obtain ⟨i, hi2, e, e2⟩ := nodeOf_idx hn
      have hyt : thereB ns.length y = true := by rw [e]; exact thereB_idx _ _ hi2
      have hpy : parentD ns y = (j : Int) + 1 := by rw [e, parentD_at ns i hi2, ← hp, ← e2]
      refine ih y acc V hyt ?_ hac hV2 hL2 hB2
      rw [pathUp_head hR hyt, hpy, List.length_cons]
      omega
    have hkl' := hkl j hj
    clear ih hkl hF hf hl hT hkd hx
    have c1 := hv.cell
    have m1 : pre.length + 1 ≤ maxLen := Nat.le_trans hpl (by decide)
    have m2 : (pre.length + 1) * 8 ≤ 140737488355328 := by omega
    have m3 : w.heap.size ≤ (W.alloc (.cells #[.int .i64 ((j : Int) + 1)] 3)).heap.size := by have := hB.size; simp; omega
    unfold forestV at HK
    generalize ns[j].kids = ks at *
    have HV := hid hV
    have HB := hid hB
    clear hV hB
    go_enter Tryz.func120, Tryz.ntmps120
    go_wp2_with (at_builtin; refine wpList_append_own _ rfl _ _ 32 rfl w.heap.size 3 i0 (.int .i64 0) 1 8 Tryz.underlying32 hi hz0 hz1 hz2 rfl (by decide) _ _ _ rfl (hrow.alloc _) ⟨W.heap.size, 0, none⟩ 1 1 [.int .i64 ((j : Int) + 1)] rfl rfl (cell_one_new _ _ _) (by simp [Value.oneCell']) m1 m2 m3 ?_; intro v' w1 hown' hgrow _; obtain ⟨g', cap', rfl⟩ := ownsRow_succ hown'; obtain ⟨hv1, hv2, hr2, hk2, hb2⟩ := hv.appended (by decide) hrow HB.out.size lbl hown' hgrow; have hc1 := hv1.cell; have hf1 := hv1.frozen; have e1 := (boxed_beside HV.out.hang (B := bl) (v' := .slice (some ⟨g', 0, none⟩) (pre.length + 1) cap') (by decide) nh hrow hgrow).cell; have e2 := (boxed_beside HV.out.forest (B := bl) (v' := .slice (some ⟨g', 0, none⟩) (pre.length + 1) cap') (by decide) nf hrow hgrow).cell)
    have HV2 : Hid (VisitAt (w1.setCell ⟨bl, 0, none⟩ (.slice (some ⟨g', 0, none⟩) (pre.length + 1) cap')) b off cap ns.length 106 bl bh bf bv) := ⟨boxed_beside HV.out.hang (by decide) nh hrow hgrow, boxed_beside HV.out.forest (by decide) nf hrow hgrow, boxed_beside HV.out.visit (by decide) nv hrow hgrow⟩
    have HL2 : Hid (ListBox (w1.setCell ⟨bl, 0, none⟩ (.slice (some ⟨g', 0, none⟩) (pre.length + 1) cap')) w.heap.size bl (pre ++ [(j : Int) + 1])) := ⟨_, hv2, by simpa using hr2⟩
    have HB2 := hid (HB.out.trans hb2)
    have hK := HK.out _ HB2.out
    clear HK HV HB hv hrow hgrow hown' hv1 hv2 hr2 hk2 hb2 hc1 hf1 e1 e2 c1 m1 m2 m3 hi hz0 hz1 hz2
    refine hK.mono ?_
    clear hK
    rintro e v3 ⟨vk, rfl, hrk, hb3⟩
    have HV3 := hid (HV2.out.later hb3)
    have HL3 := hid (HL2.out.later hb3)
    have HB3 := hid (HB2.out.trans (hb3.mono HB2.out.size))
    clear HV2 HL2 HB2 hb3
    obtain ⟨ok, ck, rfl, hck, gk⟩ := hrk
    go_wp2
    go_loopw [17] (fun t wr => ∃ (k : Nat) (acc : List Int), k ≤ ks.length ∧ t = .int .i64 k ∧ Hid (T = acc ++ (ks.drop k).flatMap (belowF (kidsD ns) f)) ∧ Hid (VisitAt wr b off cap ns.length 106 bl bh bf bv) ∧ Hid (ListBox wr w.heap.size bl acc) ∧ Hid (Below w.heap.size w wr)) (fun t _ => ks.length - (RowKit.intOf t).toNat)
    case atStart => exact ⟨0, _, Nat.zero_le _, rfl, HE, HV3, HL3, HB3⟩
    case round =>
      obtain ⟨k, acc, hk, rfl, hE, hV, hL, hB⟩ := hrel
      clear HE HV3 HL3 HB3
      by_cases hlt : k < ks.length
      · obtain ⟨bk, offk, rfl, hltk, hak⟩ := gk (by omega)
        have x1 := (hB.out.cell (p := ⟨bk, offk + k, none⟩) hltk).trans (hak k hlt)
        have cv := hV.out.visit.cell
        have q1 : (0 : Int) ≤ (k : Int) := by omega
        have q2 : (k : Int) < (ks.length : Int) := by omega
        have hE' := hE.out
        rw [List.drop_eq_getElem_cons hlt, List.flatMap_cons, ← List.append_assoc] at hE'
        have hln : acc.length + (belowF (kidsD ns) f ks[k]).length ≤ 1099511627776 := by
          have h := congrArg List.length hE'
          rw [List.length_append, List.length_append] at h
          omega
        have hI := HIH.out ks[k] acc wr (List.getElem_mem hlt) hln hV.out hL.out hB.out
        have HE2 := hid hE'
        clear hE' hE hln HIH gk hak hV hL hB
        generalize ks[k] = y at *
        go_wp2_with fail
        refine hI.mono ?_
        clear hI
        rintro e v4 ⟨⟨u, rfl⟩, hV4, hL4, hB4⟩
        have HV4 := hid hV4
        have HL4 := hid hL4
        have HB4 := hid hB4
        clear hV4 hL4 hB4 cv x1
        go_wp2
        go_roundw
        case rel => exact ⟨k + 1, _, by omega, by go_num, HE2, HV4, HL4, HB4⟩
        case measure => simp [RowKit.intOf]; omega
      · have hT : T = acc := by
          have h := hE.out
          rw [List.drop_eq_nil_of_le (by omega), List.flatMap_nil, List.append_nil] at h
          exact h
        have HL5 : Hid (ListBox wr w.heap.size bl T) := by rw [hT]; exact hL
        clear hE hT hL HIH gk
        go_wp2
        go_end0
        exact ⟨⟨_, rfl⟩, hV.out, HL5.out, hB.out⟩
end Go.Proofs.YtilacgcjbdkphaaGreat

namespace Go.Proofs.YtilacgcjbdkphaaGreat
open Go.RowKit Go.Lib Go.Shelf

/-- A node and what lies in it, in tree order. -/
def allD (ns : List NodeD) (x : Int) : List Int := belowF (kidsD ns) (ns.length + 1) x

set_option maxRecDepth 100000 in
set_option maxHeartbeats 4000000 in
theorem listK_any (b off cap : Nat) (x : Int) (ns : List NodeD) (w : World) (hR : RightF ns) (hF : FAt w b off cap ns) (hx : thereB ns.length x = true) (hkl : ∀ (i : Nat) (hi : i < ns.length), ns[i].kids.length ≤ 1099511627776) (hlen : (allD ns x).length ≤ 1099511627776) :
    Calls Tryz.prog 105 #[forestV b off cap ns.length, .int .i64 x, .func (.func 106) #[] #[]] w fun e w' => ∃ v, e = .returned v ∧ w'.ownsRow w.heap.size 3 1 v (allD ns x).length ((allD ns x).map (Value.int .i64)) ∧ Below w.heap.size w w' := by
  have HV : Hid (∀ W : World, VisitAt W b off cap ns.length 106 (w.heap.size + 1 + 1) (w.heap.size + 1) w.heap.size (w.heap.size + 1 + 1 + 1) → ListBox W w.heap.size (w.heap.size + 1 + 1) [] → Below w.heap.size w W → _) := fun W h1 h2 h3 => visitK_any b off cap ns w hR hF hkl (w.heap.size + 1 + 1) (w.heap.size + 1) w.heap.size (w.heap.size + 1 + 1 + 1) (by omega) (by omega) (by omega) (by omega) (ns.length + 1) x [] W hx (by omega) (by rw [List.length_nil, Nat.zero_add]; exact hlen) h1 h2 h3
  clear hF hR hkl hx
  unfold forestV allD at *
  generalize belowF (kidsD ns) (ns.length + 1) x = T at *
  have b0 := Boxed.new w 24 (.slice (some ⟨b, off, none⟩) ns.length cap)
  have b1 := Boxed.new (w.alloc (.cells #[.slice (some ⟨b, off, none⟩) ns.length cap] 24)) 105 (.func (.func 106) #[] #[])
  have b2 := Boxed.new ((w.alloc (.cells #[.slice (some ⟨b, off, none⟩) ns.length cap] 24)).alloc (.cells #[.func (.func 106) #[] #[]] 105)) 32 (.slice none 0 0)
  have b3 := Boxed.new (((w.alloc (.cells #[.slice (some ⟨b, off, none⟩) ns.length cap] 24)).alloc (.cells #[.func (.func 106) #[] #[]] 105)).alloc (.cells #[.slice none 0 0] 32)) 149 (.func (.func 120) #[] #[.pointer (some ⟨w.heap.size + 1 + 1, 0, none⟩), .pointer (some ⟨w.heap.size + 1, 0, none⟩), .pointer (some ⟨w.heap.size, 0, none⟩), .pointer (some ⟨w.heap.size + 1 + 1 + 1, 0, none⟩)])
  simp only [World.size_alloc] at b1 b2 b3
  have HA : Hid (VisitAt (((((w.alloc (.cells #[.slice (some ⟨b, off, none⟩) ns.length cap] 24)).alloc (.cells #[.func (.func 106) #[] #[]] 105)).alloc (.cells #[.slice none 0 0] 32)).alloc (.cells #[.func (.func 120) #[] #[.pointer (some ⟨w.heap.size + 1 + 1, 0, none⟩), .pointer (some ⟨w.heap.size + 1, 0, none⟩), .pointer (some ⟨w.heap.size, 0, none⟩), .pointer (some ⟨w.heap.size + 1 + 1 + 1, 0, none⟩)]] 149))) b off cap ns.length 106 (w.heap.size + 1 + 1) (w.heap.size + 1) w.heap.size (w.heap.size + 1 + 1 + 1)) :=
    ⟨(b1.alloc _).alloc _, ((b0.alloc _).alloc _).alloc _, b3⟩
  have HL : Hid (ListBox (((((w.alloc (.cells #[.slice (some ⟨b, off, none⟩) ns.length cap] 24)).alloc (.cells #[.func (.func 106) #[] #[]] 105)).alloc (.cells #[.slice none 0 0] 32)).alloc (.cells #[.func (.func 120) #[] #[.pointer (some ⟨w.heap.size + 1 + 1, 0, none⟩), .pointer (some ⟨w.heap.size + 1, 0, none⟩), .pointer (some ⟨w.heap.size, 0, none⟩), .pointer (some ⟨w.heap.size + 1 + 1 + 1, 0, none⟩)]] 149))) w.heap.size (w.heap.size + 1 + 1) []) :=
    ⟨_, b2.alloc _, World.ownsRow_nil _ _ _ _⟩
  have HB : Hid (Below w.heap.size w (((((w.alloc (.cells #[.slice (some ⟨b, off, none⟩) ns.length cap] 24)).alloc (.cells #[.func (.func 106) #[] #[]] 105)).alloc (.cells #[.slice none 0 0] 32)).alloc (.cells #[.func (.func 120) #[] #[.pointer (some ⟨w.heap.size + 1 + 1, 0, none⟩), .pointer (some ⟨w.heap.size + 1, 0, none⟩), .pointer (some ⟨w.heap.size, 0, none⟩), .pointer (some ⟨w.heap.size + 1 + 1 + 1, 0, none⟩)]] 149)))) :=
    (((((Below.refl _ w).alloc (Nat.le_refl _) _).alloc (by simp) _).alloc (by simp; omega) _).alloc (by simp; omega) _)
  have hV := HV.out _ HA.out HL.out HB.out
  clear HV HA HL HB b0 b1 b2 b3
  go_enter Tryz.func105, Tryz.ntmps105
  go_wp2_with fail
  refine hV.mono ?_
  clear hV
  rintro e v1 ⟨⟨u, rfl⟩, hA, ⟨v, hv, hrow⟩, hB⟩
  have c1 := hv.cell
  have HR := hid hrow
  have HB := hid hB
  clear hA hv hrow hB
  go_wp2
  exact bodyPost_ret (v := v) (by simp [results, Tryz.results105, go_sem]) rfl ⟨v, rfl, HR.out, HB.out⟩
end Go.Proofs.YtilacgcjbdkphaaGreat

namespace Go.Proofs.YtilacgcjbdkphaaGreat
open Go.RowKit Go.Lib Go.Shelf

end Go.Proofs.YtilacgcjbdkphaaGreat

namespace Go.Proofs.YtilacgcjbdkphaaGreat
open Go.RowKit Go.Lib Go.Shelf

end Go.Proofs.YtilacgcjbdkphaaGreat

