/- Where the arguments hold at most 1048576 values and letters the law WalkBack answers true: without a filter the parent of the first or the last kid is the node, and the sibling ahead of the one behind. -/
/- Without a filter the ways lead back: plain. -/
/- A region that draws its order, gone through step by step under a condition on the world: operations whose value is known, operations whose guards say no, and what is left. No program in this text. -/
/- Without a filter the ways lead back (WalkBack): the law's walk. -/
import Derived.Test.YteflknfejjdkfaaCFWkRFWkU
import Derived.Test.YteflknfejjdkfaaFSkip
import Derived.Deep.RegionHeld
import Derived.Test.YteflknfejjdkfaaCFWk3FWk5
import Derived.Test.YteflknfejjdkfaaCFWk2
import Derived.Deep.DeepCutAuto
import Derived.Deep.CutRange
import Derived.Deep.RegionLaw
import Derived.Test.YteflknfejjdkfaaCFWkXFWkY
import Derived.Test.YteflknfejjdkfaaCFOpenFWk4
import Derived.Test.YteflknfejjdkfaaRows
import Derived.ProofKit
import Derived.OpenShut
import Derived.JoinedCond
namespace Go.Proofs.Yteflknfejjdkfaa
open Go.RowKit Go.Lib

theorem nextH_back {ns : List NodeD} {up : Int → Int} {hang hang' : Int → List Int} (h : Hangs ns up hang) (h' : Hangs ns up hang') (hrev : ∀ x, hang' x = (hang x).reverse) {x : Int} (hx : thereB ns.length x = true) (h0 : nextH up hang x ≠ 0) : nextH up hang' (nextH up hang x) = x := by
  unfold nextH at h0 ⊢
  cases hl : laterH up hang x with
  | nil => rw [hl] at h0; exact absurd rfl h0
  | cons s rest =>
    have hu : up x ≠ 0 := (h.next hx hl).2.2.1
    have hp := h.up_there hx hu
    have hm := h.back x hx hu
    obtain ⟨s1, s2, hs⟩ := List.append_of_mem hm
    have h2 := h.later_at hp hs
    rw [hl] at h2
    rw [← h2] at hs
    have hr : hang' (up x) = rest.reverse ++ s :: (x :: s1.reverse) := by
      rw [hrev, hs]
      simp
    have h3 := h'.later_at hp hr
    show (laterH up hang' s).headD 0 = x
    rw [h3]
    rfl
theorem shownB_any {k : Nat} (hk : knownK k = true) : shownB 4294967295 k = true := by
  rcases known_cases hk with h | h | h | h | h | h | h | h | h <;> (subst h; rfl)
theorem verdict_any1 {ns : List NodeD} (hR : RightF ns) {x : Int} (hx : thereB ns.length x = true) : verdictOf ns 4294967295 [] x = 1 := by
  obtain ⟨j, hj, rfl⟩ := there_idx hx
  rw [verdictOf_at ns _ _ j hj]
  have hkn : knownK ns[j].kind = true := (well_parts (hR.well j hj)).1
  unfold verdictD
  rw [shownB_any hkn, if_pos rfl]
  rfl
section
variable {t : TourD}
theorem TourD.down_all (h : t.OK) (ha : ∀ x, thereB t.ns.length x = true → t.acc x = true) {x : Int} (hx : thereB t.ns.length x = true) : t.downD x = t.kid x := by
  unfold TourD.downD
  refine resM_end ?_
  unfold TourD.downS
  rcases TourD.kid_ok h hx with e | ⟨e, _, _⟩
  · rw [btrue e, Bool.true_or, if_pos rfl]
  · rw [ha _ e, Bool.or_true, if_pos rfl]
theorem TourD.up_all (h : t.OK) (ha : ∀ x, thereB t.ns.length x = true → t.acc x = true) {x : Int} (hx : thereB t.ns.length x = true) (hr : x ≠ t.root) (h0 : t.up x ≠ 0) : t.upD x = t.up x := by
  unfold TourD.upD
  refine resM_end ?_
  unfold TourD.upS
  rw [bfalse hr, bfalse h0, Bool.false_or, if_neg Bool.false_ne_true, ha _ ((TourD.up_ok h hx).resolve_left h0), if_pos rfl]
theorem TourD.along_all (h : t.OK) (ha : ∀ x, thereB t.ns.length x = true → t.acc x = true) {x : Int} (hx : thereB t.ns.length x = true) (hr : x ≠ t.root) : t.alongD x = t.next x := by
  unfold TourD.alongD
  rw [bfalse hr, if_neg Bool.false_ne_true]
  refine resM_end ?_
  unfold TourD.alongS
  rcases TourD.next_ok h hx with ⟨e, _⟩ | ⟨e, _, _⟩
  · show (if (t.next x == 0) = true then _ else _) = _
    rw [btrue e, if_pos rfl, e]
    rcases TourD.up_ok h hx with u | u
    · show (if (t.up x == 0 || t.up x == t.root || t.acc (t.up x)) = true then _ else _) = _
      rw [btrue u, Bool.true_or, Bool.true_or, if_pos rfl]
    · show (if (t.up x == 0 || t.up x == t.root || t.acc (t.up x)) = true then _ else _) = _
      rw [ha _ u, Bool.or_true, if_pos rfl]
  · show (if (t.next x == 0) = true then _ else if t.acc (t.next x) = true then _ else _) = _
    rw [bfalse (there_ne e), if_neg Bool.false_ne_true, ha _ e, if_pos rfl]
end
theorem hangD_turn (ns : List NodeD) (rev : Bool) (x : Int) : hangD ns (!rev) x = (hangD ns rev x).reverse := by
  cases rev with
  | false => rfl
  | true => show kidsD ns x = (revKids ns x).reverse; unfold revKids; rw [List.reverse_reverse]
/-- The pairs of ways. -/
def pairW (i : Nat) : Nat × Nat := if i = 0 then (2, 1) else if i = 1 then (3, 1) else if i = 2 then (5, 4) else (4, 5)
theorem pair_cases {i : Nat} (h : i < 4) : i = 0 ∨ i = 1 ∨ i = 2 ∨ i = 3 := by omega
theorem step_back {ns : List NodeD} (h : RightF ns) {root : Int} (hr : thereB ns.length root = true) {x : Int} (hx : thereB ns.length x = true) {i : Nat} (hi : i < 4) (h0 : stepD ns root 4294967295 [] (pairW i).1 x ≠ 0) (h1 : stepD ns root 4294967295 [] (pairW i).1 x ≠ root) :
    stepD ns root 4294967295 [] (pairW i).2 (stepD ns root 4294967295 [] (pairW i).1 x) = x := by
  have hok := fun rev => tourD_ok h hr 4294967295 [] rev
  have ha : ∀ (rev : Bool) (y : Int), thereB ns.length y = true → (tourD ns root 4294967295 [] rev).acc y = true := fun rev y hy => by
    show (verdictOf ns 4294967295 [] y == 1) = true
    rw [verdict_any1 h hy]
    rfl
  have hdown : ∀ rev rev' : Bool, (tourD ns root 4294967295 [] rev).downD x ≠ 0 → (tourD ns root 4294967295 [] rev).downD x ≠ root → (tourD ns root 4294967295 [] rev').upD ((tourD ns root 4294967295 [] rev).downD x) = x := fun rev rev' e0 e1 => by
    rw [TourD.down_all (hok rev) (ha rev) hx] at e0 e1 ⊢
    obtain ⟨a, b, _⟩ := (TourD.kid_ok (hok rev) hx).resolve_left e0
    have b' : (tourD ns root 4294967295 [] rev').up ((tourD ns root 4294967295 [] rev).kid x) = x := b
    rw [TourD.up_all (hok rev') (ha rev') a e1 (by rw [b']; exact there_ne hx), b']
  have halong : ∀ rev : Bool, (tourD ns root 4294967295 [] rev).alongD x ≠ 0 → (tourD ns root 4294967295 [] rev).alongD x ≠ root → (tourD ns root 4294967295 [] (!rev)).alongD ((tourD ns root 4294967295 [] rev).alongD x) = x := fun rev e0 e1 => by
    have hxr : x ≠ root := fun e => by
      unfold TourD.alongD at e0
      rw [show (x == (tourD ns root 4294967295 [] rev).root) = true from btrue e, if_pos rfl] at e0
      exact e0 rfl
    rw [TourD.along_all (hok rev) (ha rev) hx hxr] at e0 e1 ⊢
    have hn : thereB ns.length ((tourD ns root 4294967295 [] rev).next x) = true := by
      rcases TourD.next_ok (hok rev) hx with ⟨e, _⟩ | ⟨e, _⟩
      · exact absurd e e0
      · exact e
    rw [TourD.along_all (hok (!rev)) (ha (!rev)) hn e1]
    exact nextH_back (hok rev).hangs (hok (!rev)).hangs (hangD_turn ns rev) hx e0
  rcases pair_cases hi with rfl | rfl | rfl | rfl
  · exact hdown false false h0 h1
  · exact hdown true false h0 h1
  · exact halong false h0 h1
  · exact halong true h0 h1
theorem pair_way {i : Nat} (hi : i < 4) : isWay (pairW i).1 = true ∧ isWay (pairW i).2 = true := by
  rcases pair_cases hi with rfl | rfl | rfl | rfl <;> exact ⟨rfl, rfl⟩
end Go.Proofs.Yteflknfejjdkfaa

namespace Go.Proofs.Yteflknfejjdkfaa
open Go.RowKit

section
variable {P : Program} {md : Region.Mode} {ops : Array Oper} {Q : Exit → Act → World → Prop} {S : World → Prop}

theorem wpAnyH_skips (us : List (Nat × Nat)) (fuel : Nat) {listed : Array Bool} {a : Act} {w : World} (hS : S w) (hs : Region.noSelect ops = true) (hQ : ∀ c (a : Act) (t : Tmp) (v : Value) w, Q (.panic c) (a.put (some t) v) w → Q (.panic c) a w) (h1 : skipsOk md ops us listed = true) (h2 : unwanted ops us a = true)
    (h : wpAnyH P md ops Q S fuel (listedAfter us listed) (actAfter us a) w) : wpAnyH P md ops Q S (fuel + us.length) listed a w := by
  induction us generalizing listed a with
  | nil => exact h
  | cons i us ih =>
    simp only [skipsOk, Bool.and_eq_true, beq_iff_eq, Option.map_eq_some_iff] at h1
    obtain ⟨⟨oi, hoi, hd⟩, g2, g3, g4⟩ := h1
    simp only [unwanted, Bool.and_eq_true, hoi, Option.map_some, Option.getD_some, Bool.not_eq_true'] at h2
    simp only [actAfter, listedAfter] at h
    refine wpAnyH_take (i := i.1) (v := undef) hoi hs g2 g3 (fun c a w h => hQ c a i.2 _ w (hd ▸ h)) (Or.inr ⟨h2.1, rfl⟩) hS ?_
    rw [hd]
    exact ih g4 h2.2 h
/-- An operation that yields a value in every world that meets the condition, taken first. -/
theorem wpAnyH_one (i t : Nat) (v : Value) {oi : Oper} {fuel : Nat} {listed : Array Bool} {a : Act} {w : World} (hS : S w) (hi : ops[i]? = some oi) (hd : oi.dst = some t) (hs : Region.noSelect ops = true) (hQ : ∀ c (a : Act) (t : Tmp) (v : Value) w, Q (.panic c) (a.put (some t) v) w → Q (.panic c) a w)
    (hf : Region.free md ops listed i = true) (hr : (Region.ready md ops listed).contains i = true) (hw : Region.wanted oi (yielded ops a.tmps) = true) (hx : ∀ w, S w → (execOp a.eval oi).run P w = .ok (.value v) w)
    (h : wpAnyH P md ops Q S fuel (listed.setIfInBounds i true) (a.put (some t) v) w) : wpAnyH P md ops Q S (fuel + 1) listed a w :=
  wpAnyH_take (i := i) (v := v) hi hs hf hr (fun c a w h => hQ c a t _ w (hd ▸ h)) (Or.inl ⟨hw, hx⟩) hS (hd ▸ h)
end
end Go.Proofs.Yteflknfejjdkfaa

namespace Go.Proofs.Yteflknfejjdkfaa
open Go.RowKit Go.Lib Go.Shelf

/-- What lies behind the list of pairs of ways. -/
structure BackAt (W : World) (F G : Nat) (vf : Value) (root at_ : Int) : Prop where
  f : W.heap[F]? = some (.cells #[vf] 24)
  k : WalkerAt W G root at_ (.slice none 0 0)
  s : W.heap[G + 1 + 1 + 1 + 1 + 1]? = some (.cells #[.slice (some ⟨G + 1, 0, none⟩) 2 2, .slice (some ⟨G + 1 + 1, 0, none⟩) 2 2, .slice (some ⟨G + 1 + 1 + 1, 0, none⟩) 2 2, .slice (some ⟨G + 1 + 1 + 1 + 1, 0, none⟩) 2 2] 48)
  p : ∀ i : Nat, i < 4 → W.heap[G + 1 + i]? = some (.cells #[.int .u8 ((pairW i).1 : Int), .int .u8 ((pairW i).2 : Int)] 43)
theorem BackAt.later {W U : World} {F G : Nat} {vf : Value} {root at_ : Int} (h : BackAt W F G vf root at_) (hb : Below W.heap.size W U) : BackAt U F G vf root at_ :=
  ⟨keep_at h.f hb (Nat.le_refl _), h.k.later hb, keep_at h.s hb (Nat.le_refl _), fun i hi => keep_at (h.p i hi) hb (Nat.le_refl _)⟩
theorem cell_of {W : World} {B : Nat} {cs : Array Value} {t : TypeId} (h : W.heap[B]? = some (.cells cs t)) (j : Nat) : W.cell? ⟨B, j, none⟩ = cs[j]? := by
  unfold World.cell?
  simp only [h]
  exact if_neg (by decide)
theorem BackAt.at_ {W : World} {F G : Nat} {vf : Value} {root at_ : Int} (h : BackAt W F G vf root at_) {i : Nat} (hi : i < 4) : W.cell? ⟨G + 1 + 1 + 1 + 1 + 1, i, none⟩ = some (.slice (some ⟨G + 1 + i, 0, none⟩) 2 2) := by
  rw [cell_of h.s i]
  rcases pair_cases hi with rfl | rfl | rfl | rfl <;> rfl
theorem heap_at {W : World} {o : Obj} {k : Nat} {x : Obj} (h : W.heap[k]? = some x) : (W.alloc o).heap[k]? = some x := (Below.heap_alloc W o k (Array.getElem?_eq_some_iff.1 h).1).trans h
theorem back_new (v1 : World) (F : Nat) (vf : Value) (root at_ : Int) (hf : v1.heap[F]? = some (.cells #[vf] 24)) : BackAt ((((((v1.alloc (.cells #[.int .i64 root, .int .i64 at_, .int .u32 4294967295, .slice none 0 0] 34)).alloc (.cells #[.int .u8 2, .int .u8 1] 43)).alloc (.cells #[.int .u8 3, .int .u8 1] 43)).alloc (.cells #[.int .u8 5, .int .u8 4] 43)).alloc (.cells #[.int .u8 4, .int .u8 5] 43)).alloc (.cells #[.slice (some ⟨v1.heap.size + 1, 0, none⟩) 2 2, .slice (some ⟨v1.heap.size + 1 + 1, 0, none⟩) 2 2, .slice (some ⟨v1.heap.size + 1 + 1 + 1, 0, none⟩) 2 2, .slice (some ⟨v1.heap.size + 1 + 1 + 1 + 1, 0, none⟩) 2 2] 48)) F v1.heap.size vf root at_ := by
  have n0 := vheapW v1 (.cells #[.int .i64 root, .int .i64 at_, .int .u32 4294967295, .slice none 0 0] 34)
  have n1 := vheapW (v1.alloc (.cells #[.int .i64 root, .int .i64 at_, .int .u32 4294967295, .slice none 0 0] 34)) (.cells #[.int .u8 2, .int .u8 1] 43)
  have n2 := vheapW ((v1.alloc (.cells #[.int .i64 root, .int .i64 at_, .int .u32 4294967295, .slice none 0 0] 34)).alloc (.cells #[.int .u8 2, .int .u8 1] 43)) (.cells #[.int .u8 3, .int .u8 1] 43)
  have n3 := vheapW (((v1.alloc (.cells #[.int .i64 root, .int .i64 at_, .int .u32 4294967295, .slice none 0 0] 34)).alloc (.cells #[.int .u8 2, .int .u8 1] 43)).alloc (.cells #[.int .u8 3, .int .u8 1] 43)) (.cells #[.int .u8 5, .int .u8 4] 43)
  have n4 := vheapW ((((v1.alloc (.cells #[.int .i64 root, .int .i64 at_, .int .u32 4294967295, .slice none 0 0] 34)).alloc (.cells #[.int .u8 2, .int .u8 1] 43)).alloc (.cells #[.int .u8 3, .int .u8 1] 43)).alloc (.cells #[.int .u8 5, .int .u8 4] 43)) (.cells #[.int .u8 4, .int .u8 5] 43)
  have n5 := vheapW (((((v1.alloc (.cells #[.int .i64 root, .int .i64 at_, .int .u32 4294967295, .slice none 0 0] 34)).alloc (.cells #[.int .u8 2, .int .u8 1] 43)).alloc (.cells #[.int .u8 3, .int .u8 1] 43)).alloc (.cells #[.int .u8 5, .int .u8 4] 43)).alloc (.cells #[.int .u8 4, .int .u8 5] 43)) (.cells #[.slice (some ⟨v1.heap.size + 1, 0, none⟩) 2 2, .slice (some ⟨v1.heap.size + 1 + 1, 0, none⟩) 2 2, .slice (some ⟨v1.heap.size + 1 + 1 + 1, 0, none⟩) 2 2, .slice (some ⟨v1.heap.size + 1 + 1 + 1 + 1, 0, none⟩) 2 2] 48)
  simp only [World.size_alloc] at n1 n2 n3 n4 n5
  refine ⟨heap_at (heap_at (heap_at (heap_at (heap_at (heap_at hf))))), heap_at (heap_at (heap_at (heap_at (heap_at n0)))), n5, fun i hi => ?_⟩
  rcases pair_cases hi with rfl | rfl | rfl | rfl
  · exact heap_at (heap_at (heap_at (heap_at n1)))
  · exact heap_at (heap_at (heap_at n2))
  · exact heap_at (heap_at n3)
  · exact heap_at n4
theorem back_below {w v1 : World} {root at_ : Int} (h : Below w.heap.size w v1) : Below w.heap.size w ((((((v1.alloc (.cells #[.int .i64 root, .int .i64 at_, .int .u32 4294967295, .slice none 0 0] 34)).alloc (.cells #[.int .u8 2, .int .u8 1] 43)).alloc (.cells #[.int .u8 3, .int .u8 1] 43)).alloc (.cells #[.int .u8 5, .int .u8 4] 43)).alloc (.cells #[.int .u8 4, .int .u8 5] 43)).alloc (.cells #[.slice (some ⟨v1.heap.size + 1, 0, none⟩) 2 2, .slice (some ⟨v1.heap.size + 1 + 1, 0, none⟩) 2 2, .slice (some ⟨v1.heap.size + 1 + 1 + 1, 0, none⟩) 2 2, .slice (some ⟨v1.heap.size + 1 + 1 + 1 + 1, 0, none⟩) 2 2] 48)) := by
  have e := h.size
  exact ((((((h.alloc e _).alloc (by simp; omega) _).alloc (by simp; omega) _).alloc (by simp; omega) _).alloc (by simp; omega) _).alloc (by simp; omega) _)

set_option maxRecDepth 100000 in
set_option maxHeartbeats 4000000 in
theorem back_wrong (o : Option Addr) (cap n : Nat) (root at_ : Int) (E : Int) (w : World) (hne : (E != 0) = true) (HL : LivesW)
    (HS : ∀ (i : Nat) (W : World), i < 4 → Below w.heap.size w W → Calls Try.prog 17 #[.agg #[.slice o n cap], .agg #[.int .i64 root, .int .i64 at_, .int .u32 4294967295, .slice none 0 0], .int .u8 ((pairW i).1 : Int)] W fun e w' => e = .returned (.tuple #[.agg #[.int .i64 0, .int .i64 0, .int .u32 0, .slice none 0 0], .int .i64 0, .int .i64 E]) ∧ Below W.heap.size W w') :
    Calls Try.prog 5 #[.agg #[.slice o n cap], .int .i64 root, .int .i64 at_] w fun e w' => e = .returned (.bool true) ∧ Below w.heap.size w w' := by
  have HB0 := hid ((Below.refl w.heap.size w).alloc (Nat.le_refl _) (.cells #[.slice o n cap] 24))
  have hL := HL (w.alloc (.cells #[.slice o n cap] 24))
  have HS0 := hid HS
  clear HS
  go_enter Try.func5, Try.ntmps5
  go_wp2_with fail
  refine hL.mono ?_
  rintro e v1 ⟨rfl, h1⟩
  have HN := hid (back_new v1 w.heap.size (.slice o n cap) root at_ (keep_at (vheapW w _) h1 (Nat.le_refl _)))
  have HNB := hid (back_below (root := root) (at_ := at_) (HB0.out.trans (h1.mono HB0.out.size)))
  clear hL h1 HB0
  go_wp2
  go_loopw [28] (fun t wr => ∃ k : Nat, k ≤ 4 ∧ t = .int .i64 k ∧ BackAt wr w.heap.size v1.heap.size (.slice o n cap) root at_ ∧ Below w.heap.size w wr) (fun t _ => 4 - (RowKit.intOf t).toNat)
  case atStart => exact ⟨0, by omega, rfl, HN.out, HNB.out⟩
  case round =>
    obtain ⟨k, k1, rfl, hbk, hB⟩ := hrel
    have HB := hid hB
    have HK := hid hbk
    clear hB hbk HN HNB
    by_cases hlt : k < 4
    · have p1 : (0 : Int) ≤ (k : Int) := by omega
      have p2 : (k : Int) < 4 := by omega
      have q0 := HK.out.at_ hlt
      have HW0 := hid HK.out.k
      have HD := hid (HB.out.trans ((Below.refl wr.heap.size wr).drew.mono HB.out.size))
      have HDA := hid (HB.out.trans (((Below.refl wr.heap.size wr).drew.alloc (show wr.heap.size ≤ wr.drew.heap.size from Nat.le_refl _) (.cells #[.int .i64 0, .int .i64 0, .int .u32 0, .slice none 0 0] 34)).mono HB.out.size))
      have HDX := hid (((Below.refl wr.heap.size wr).drew.alloc (show wr.heap.size ≤ wr.drew.heap.size from Nat.le_refl _) (.cells #[.int .i64 0, .int .i64 0, .int .u32 0, .slice none 0 0] 34)))
      have HDB := hid (HB.out.trans (((Below.refl wr.heap.size wr).alloc (Nat.le_refl _) (.cells #[.int .i64 0, .int .i64 0, .int .u32 0, .slice none 0 0] 34)).drew.mono HB.out.size))
      go_upto_region 7 with fail
      go_cut [11, 12, 28] from 28 to 70 (fun t11 t12 t28 wx => t11 = .int .i64 0 ∧ t12 = .int .i64 E ∧ t28 = .int .i64 (k : Int) ∧ Below wr.heap.size wr wx)
      case first =>
        as_aux_lemma =>
          refine wp_region_held_drew (S := (fun V => BackAt V w.heap.size v1.heap.size (.slice o n cap) root at_ ∧ WalkerAt V v1.heap.size root at_ (.slice none 0 0))) (by kernel_rfl) (⟨HK.out.later (Below.refl wr.heap.size wr).drew, HW0.out.later (Below.refl wr.heap.size wr).drew⟩) (fun hHeld => ?_)
          refine wpAnyH_one 0 33 (.agg #[.slice o n cap]) hHeld rfl rfl (by kernel_rfl) (fun _ _ _ _ _ h => h) (by kernel_rfl) (by kernel_rfl) (by rfl) ?_ ?_
          · intro V hSw; (try dsimp only at hSw); have q : V.cell? ⟨w.heap.size, 0, none⟩ = some (.slice o n cap) := cell_of hSw.1.f 0; go_simp
          simp only [Act.put, List.setIfInBounds_toArray, List.set_cons_zero, List.set_cons_succ]
          refine wpAnyH_one 1 34 (.agg #[.int .i64 root, .int .i64 at_, .int .u32 4294967295, .slice none 0 0]) hHeld rfl rfl (by kernel_rfl) (fun _ _ _ _ _ h => h) (by kernel_rfl) (by kernel_rfl) (by rfl) ?_ ?_
          · intro V hSw; (try dsimp only at hSw); obtain ⟨q0, q1, q2, q3⟩ := cells4 hSw.2; go_simp
          simp only [Act.put, List.setIfInBounds_toArray, List.set_cons_zero, List.set_cons_succ]
          refine wpAnyH_one 2 35 (.slice (some ⟨v1.heap.size + 1 + k, 0, none⟩) 2 2) hHeld rfl rfl (by kernel_rfl) (fun _ _ _ _ _ h => h) (by kernel_rfl) (by kernel_rfl) (by rfl) ?_ ?_
          · intro V hSw; (try dsimp only at hSw); go_simp
          simp only [Act.put, List.setIfInBounds_toArray, List.set_cons_zero, List.set_cons_succ]
          refine wpAnyH_one 3 36 (.pointer (some ⟨v1.heap.size + 1 + k, 0, none⟩)) hHeld rfl rfl (by kernel_rfl) (fun _ _ _ _ _ h => h) (by kernel_rfl) (by kernel_rfl) (by rfl) ?_ ?_
          · intro V hSw; (try dsimp only at hSw); go_simp
          simp only [Act.put, List.setIfInBounds_toArray, List.set_cons_zero, List.set_cons_succ]
          refine wpAnyH_one 4 37 (.int .u8 ((pairW k).1 : Int)) hHeld rfl rfl (by kernel_rfl) (fun _ _ _ _ _ h => h) (by kernel_rfl) (by kernel_rfl) (by rfl) ?_ ?_
          · intro V hSw; (try dsimp only at hSw); have q : V.cell? ⟨v1.heap.size + 1 + k, 0, none⟩ = some (.int .u8 ((pairW k).1 : Int)) := cell_of (hSw.1.p k hlt) 0; go_simp
          simp only [Act.put, List.setIfInBounds_toArray, List.set_cons_zero, List.set_cons_succ]
          refine wpAnyH_ready (rs := [5, 10]) (by kernel_rfl) (by simp) ?_
          refine AllReadyH.cons rfl (fun K hK => ?_) (AllReadyH.cons rfl (fun K hK => ?_) AllReadyH.nil)
          · go_simp
            go_wp2_with (go_at_call 17; refine (HS0.out k _ hlt HD.out).mono ?_; rintro e v2 ⟨rfl, hb⟩; have HC2 := hid ((Below.refl wr.heap.size wr).drew.trans (hb.mono (Below.refl wr.heap.size wr).drew.size)); clear hb)
            refine hK.out _ _ ⟨HK.out.later HC2.out, HW0.out.later HC2.out⟩ (fun hHeld => ?_)
            clear hK K
            refine wpAnyH_one 6 32 (.tuple #[.agg #[.int .i64 0, .int .i64 0, .int .u32 0, .slice none 0 0], .int .i64 0, .int .i64 E]) hHeld rfl rfl (by kernel_rfl) (fun _ _ _ _ _ h => h) (by kernel_rfl) (by kernel_rfl) (by rfl) ?_ ?_
            · intro V hSw; (try dsimp only at hSw); go_simp
            simp only [Act.put, List.setIfInBounds_toArray, List.set_cons_zero, List.set_cons_succ]
            refine wpAnyH_one 7 39 (.agg #[.int .i64 0, .int .i64 0, .int .u32 0, .slice none 0 0]) hHeld rfl rfl (by kernel_rfl) (fun _ _ _ _ _ h => h) (by kernel_rfl) (by kernel_rfl) (by rfl) ?_ ?_
            · intro V hSw; (try dsimp only at hSw); go_simp
            simp only [Act.put, List.setIfInBounds_toArray, List.set_cons_zero, List.set_cons_succ]
            refine wpAnyH_one 8 40 (.int .i64 0) hHeld rfl rfl (by kernel_rfl) (fun _ _ _ _ _ h => h) (by kernel_rfl) (by kernel_rfl) (by rfl) ?_ ?_
            · intro V hSw; (try dsimp only at hSw); go_simp
            simp only [Act.put, List.setIfInBounds_toArray, List.set_cons_zero, List.set_cons_succ]
            refine wpAnyH_one 9 41 (.int .i64 E) hHeld rfl rfl (by kernel_rfl) (fun _ _ _ _ _ h => h) (by kernel_rfl) (by kernel_rfl) (by rfl) ?_ ?_
            · intro V hSw; (try dsimp only at hSw); go_simp
            simp only [Act.put, List.setIfInBounds_toArray, List.set_cons_zero, List.set_cons_succ]
            refine wpAnyH_ready (rs := [10]) (by kernel_rfl) (by simp) ?_
            refine AllReadyH.cons rfl (fun K hK => ?_) AllReadyH.nil
            go_simp
            refine hK.out _ _ (⟨HK.out.later (HC2.out.alloc HC2.out.size _), HW0.out.later (HC2.out.alloc HC2.out.size _)⟩) (fun hHeld => ?_)
            clear hK K
            refine wpAnyH_ready (rs := [11]) (by kernel_rfl) (by simp) ?_
            refine AllReadyH.cons rfl (fun K hK => ?_) AllReadyH.nil
            go_simp
            refine hK.out _ _ (⟨HK.out.later (HC2.out.alloc HC2.out.size _), HW0.out.later (HC2.out.alloc HC2.out.size _)⟩) (fun hHeld => ?_)
            clear hK K
            refine wpAnyH_one 12 11 (.int .i64 0) hHeld rfl rfl (by kernel_rfl) (fun _ _ _ _ _ h => h) (by kernel_rfl) (by kernel_rfl) (by rfl) ?_ ?_
            · intro V hSw; (try dsimp only at hSw); go_simp
            simp only [Act.put, List.setIfInBounds_toArray, List.set_cons_zero, List.set_cons_succ]
            refine wpAnyH_one 13 12 (.int .i64 E) hHeld rfl rfl (by kernel_rfl) (fun _ _ _ _ _ h => h) (by kernel_rfl) (by kernel_rfl) (by rfl) ?_ ?_
            · intro V hSw; (try dsimp only at hSw); go_simp
            simp only [Act.put, List.setIfInBounds_toArray, List.set_cons_zero, List.set_cons_succ]
            refine wpAnyH_done (by kernel_rfl) ?_ _
            go_wp2_with fail
            go_meet
            exact ⟨rfl, rfl, rfl, HC2.out.alloc HC2.out.size _⟩
          · go_simp
            refine hK.out _ _ ⟨HK.out.later HDX.out, HW0.out.later HDX.out⟩ (fun hHeld => ?_)
            clear hK K
            refine wpAnyH_ready (rs := [5]) (by kernel_rfl) (by simp) ?_
            refine AllReadyH.cons rfl (fun K hK => ?_) AllReadyH.nil
            go_simp
            go_wp2_with (go_at_call 17; refine (HS0.out k _ hlt (by first | exact HDA.out | exact HDB.out)).mono ?_; rintro e v2 ⟨rfl, hb⟩; have HZ2 : Hid (v2.heap[wr.heap.size]? = some (.cells #[.int .i64 0, .int .i64 0, .int .u32 0, .slice none 0 0] 34)) := (by first | exact zero_new hb | exact zero_newD hb); obtain ⟨m0, m1, m2, m3⟩ := cells4 HZ2.out; obtain ⟨f0, f1, f2, f3⟩ := free4 HZ2.out; have HC2 : Hid (Below wr.heap.size wr v2) := (by first | exact (((Below.refl wr.heap.size wr).drew.alloc (show wr.heap.size ≤ wr.drew.heap.size from Nat.le_refl _) (.cells #[.int .i64 0, .int .i64 0, .int .u32 0, .slice none 0 0] 34)).trans (hb.mono ((Below.refl wr.heap.size wr).drew.alloc (show wr.heap.size ≤ wr.drew.heap.size from Nat.le_refl _) (.cells #[.int .i64 0, .int .i64 0, .int .u32 0, .slice none 0 0] 34)).size)) | exact (((Below.refl wr.heap.size wr).alloc (Nat.le_refl _) (.cells #[.int .i64 0, .int .i64 0, .int .u32 0, .slice none 0 0] 34)).drew.trans (hb.mono ((Below.refl wr.heap.size wr).alloc (Nat.le_refl _) (.cells #[.int .i64 0, .int .i64 0, .int .u32 0, .slice none 0 0] 34)).drew.size))); have HX := hid (Nat.le_refl wr.heap.size); clear hb)
            refine hK.out _ _ (⟨HK.out.later HC2.out, HW0.out.later HC2.out⟩) (fun hHeld => ?_)
            clear hK K
            refine wpAnyH_one 6 32 (.tuple #[.agg #[.int .i64 0, .int .i64 0, .int .u32 0, .slice none 0 0], .int .i64 0, .int .i64 E]) hHeld rfl rfl (by kernel_rfl) (fun _ _ _ _ _ h => h) (by kernel_rfl) (by kernel_rfl) (by rfl) ?_ ?_
            · intro V hSw; (try dsimp only at hSw); go_simp
            simp only [Act.put, List.setIfInBounds_toArray, List.set_cons_zero, List.set_cons_succ]
            refine wpAnyH_one 7 39 (.agg #[.int .i64 0, .int .i64 0, .int .u32 0, .slice none 0 0]) hHeld rfl rfl (by kernel_rfl) (fun _ _ _ _ _ h => h) (by kernel_rfl) (by kernel_rfl) (by rfl) ?_ ?_
            · intro V hSw; (try dsimp only at hSw); go_simp
            simp only [Act.put, List.setIfInBounds_toArray, List.set_cons_zero, List.set_cons_succ]
            refine wpAnyH_one 8 40 (.int .i64 0) hHeld rfl rfl (by kernel_rfl) (fun _ _ _ _ _ h => h) (by kernel_rfl) (by kernel_rfl) (by rfl) ?_ ?_
            · intro V hSw; (try dsimp only at hSw); go_simp
            simp only [Act.put, List.setIfInBounds_toArray, List.set_cons_zero, List.set_cons_succ]
            refine wpAnyH_one 9 41 (.int .i64 E) hHeld rfl rfl (by kernel_rfl) (fun _ _ _ _ _ h => h) (by kernel_rfl) (by kernel_rfl) (by rfl) ?_ ?_
            · intro V hSw; (try dsimp only at hSw); go_simp
            simp only [Act.put, List.setIfInBounds_toArray, List.set_cons_zero, List.set_cons_succ]
            refine wpAnyH_ready (rs := [11]) (by kernel_rfl) (by simp) ?_
            refine AllReadyH.cons rfl (fun K hK => ?_) AllReadyH.nil
            go_simp
            refine hK.out _ _ (⟨HK.out.later (below_four HC2.out HX.out), HW0.out.later (below_four HC2.out HX.out)⟩) (fun hHeld => ?_)
            clear hK K
            refine wpAnyH_one 12 11 (.int .i64 0) hHeld rfl rfl (by kernel_rfl) (fun _ _ _ _ _ h => h) (by kernel_rfl) (by kernel_rfl) (by rfl) ?_ ?_
            · intro V hSw; (try dsimp only at hSw); go_simp
            simp only [Act.put, List.setIfInBounds_toArray, List.set_cons_zero, List.set_cons_succ]
            refine wpAnyH_one 13 12 (.int .i64 E) hHeld rfl rfl (by kernel_rfl) (fun _ _ _ _ _ h => h) (by kernel_rfl) (by kernel_rfl) (by rfl) ?_ ?_
            · intro V hSw; (try dsimp only at hSw); go_simp
            simp only [Act.put, List.setIfInBounds_toArray, List.set_cons_zero, List.set_cons_succ]
            refine wpAnyH_done (by kernel_rfl) ?_ _
            go_wp2_with fail
            go_meet
            exact ⟨rfl, rfl, rfl, below_four HC2.out HX.out⟩
      case rest =>
        obtain ⟨rfl, rfl, rfl, hC⟩ := hcut
        clear HK HD HDA HDX HDB q0 HW0
        go_wp2
        go_ret
        exact ⟨rfl, HB.out.trans (hC.mono HB.out.size)⟩
    · have hk4 : k = 4 := by omega
      subst hk4
      clear hlt k1 HK
      go_wp2
      go_ret
      exact ⟨rfl, HB.out⟩
set_option maxRecDepth 100000 in
set_option maxHeartbeats 8000000 in
theorem back_good (o : Option Addr) (cap n : Nat) (root at_ : Int) (C D : Nat → Int) (w : World) (HL : LivesW)
    (HS : ∀ (i : Nat) (W : World), i < 4 → Below w.heap.size w W → Calls Try.prog 17 #[.agg #[.slice o n cap], .agg #[.int .i64 root, .int .i64 at_, .int .u32 4294967295, .slice none 0 0], .int .u8 ((pairW i).1 : Int)] W fun e w' => ∃ vo vc, e = .returned (.tuple #[.agg #[.int .i64 root, .int .i64 (C i), .int .u32 4294967295, .slice vo 0 vc], .int .i64 (D i), .int .i64 0]) ∧ Below W.heap.size W w')
    (HS2 : ∀ (i : Nat) (vo : Option Addr) (vc : Nat) (W : World), i < 4 → D i ≠ 0 → D i ≠ root → Below w.heap.size w W → Calls Try.prog 17 #[.agg #[.slice o n cap], .agg #[.int .i64 root, .int .i64 (C i), .int .u32 4294967295, .slice vo 0 vc], .int .u8 ((pairW i).2 : Int)] W fun e w' => ∃ c2 vo2 vc2, e = .returned (.tuple #[.agg #[.int .i64 root, .int .i64 c2, .int .u32 4294967295, .slice vo2 0 vc2], .int .i64 at_, .int .i64 0]) ∧ Below W.heap.size W w') :
    Calls Try.prog 5 #[.agg #[.slice o n cap], .int .i64 root, .int .i64 at_] w fun e w' => e = .returned (.bool true) ∧ Below w.heap.size w w' := by
  have HT0 := hid HS2
  have haa : (at_ != at_) = false := bne_self_eq_false _
  clear HS2
  have HB0 := hid ((Below.refl w.heap.size w).alloc (Nat.le_refl _) (.cells #[.slice o n cap] 24))
  have hL := HL (w.alloc (.cells #[.slice o n cap] 24))
  have HS0 := hid HS
  clear HS
  go_enter Try.func5, Try.ntmps5
  go_wp2_with fail
  refine hL.mono ?_
  rintro e v1 ⟨rfl, h1⟩
  have HN := hid (back_new v1 w.heap.size (.slice o n cap) root at_ (keep_at (vheapW w _) h1 (Nat.le_refl _)))
  have HNB := hid (back_below (root := root) (at_ := at_) (HB0.out.trans (h1.mono HB0.out.size)))
  clear hL h1 HB0
  go_wp2
  go_loopw [28] (fun t wr => ∃ k : Nat, k ≤ 4 ∧ t = .int .i64 k ∧ BackAt wr w.heap.size v1.heap.size (.slice o n cap) root at_ ∧ Below w.heap.size w wr) (fun t _ => 4 - (RowKit.intOf t).toNat)
  case atStart => exact ⟨0, by omega, rfl, HN.out, HNB.out⟩
  case round =>
    obtain ⟨k, k1, rfl, hbk, hB⟩ := hrel
    have HB := hid hB
    have HK := hid hbk
    clear hB hbk HN HNB
    by_cases hlt : k < 4
    · have p1 : (0 : Int) ≤ (k : Int) := by omega
      have p2 : (k : Int) < 4 := by omega
      have q0 := HK.out.at_ hlt
      have HW0 := hid HK.out.k
      have HD := hid (HB.out.trans ((Below.refl wr.heap.size wr).drew.mono HB.out.size))
      have HDA := hid (HB.out.trans (((Below.refl wr.heap.size wr).drew.alloc (show wr.heap.size ≤ wr.drew.heap.size from Nat.le_refl _) (.cells #[.int .i64 0, .int .i64 0, .int .u32 0, .slice none 0 0] 34)).mono HB.out.size))
      have HDX := hid (((Below.refl wr.heap.size wr).drew.alloc (show wr.heap.size ≤ wr.drew.heap.size from Nat.le_refl _) (.cells #[.int .i64 0, .int .i64 0, .int .u32 0, .slice none 0 0] 34)))
      have HDB := hid (HB.out.trans (((Below.refl wr.heap.size wr).alloc (Nat.le_refl _) (.cells #[.int .i64 0, .int .i64 0, .int .u32 0, .slice none 0 0] 34)).drew.mono HB.out.size))
      go_upto_region 7 with fail
      go_cut [10, 11, 12, 28] from 28 to 70 (fun t10 t11 t12 t28 wx => ∃ (B : Nat) (vo : Option Addr) (vc : Nat), t10 = .pointer (some ⟨B, 0, none⟩) ∧ t11 = .int .i64 (D k) ∧ t12 = .int .i64 0 ∧ t28 = .int .i64 (k : Int) ∧ WalkerAt wx B root (C k) (.slice vo 0 vc) ∧ Below wr.heap.size wr wx)
      case first =>
        as_aux_lemma =>
          refine wp_region_held_drew (S := (fun V => BackAt V w.heap.size v1.heap.size (.slice o n cap) root at_ ∧ WalkerAt V v1.heap.size root at_ (.slice none 0 0))) (by kernel_rfl) (⟨HK.out.later (Below.refl wr.heap.size wr).drew, HW0.out.later (Below.refl wr.heap.size wr).drew⟩) (fun hHeld => ?_)
          refine wpAnyH_one 0 33 (.agg #[.slice o n cap]) hHeld rfl rfl (by kernel_rfl) (fun _ _ _ _ _ h => h) (by kernel_rfl) (by kernel_rfl) (by rfl) ?_ ?_
          · intro V hSw; (try dsimp only at hSw); have q : V.cell? ⟨w.heap.size, 0, none⟩ = some (.slice o n cap) := cell_of hSw.1.f 0; go_simp
          simp only [Act.put, List.setIfInBounds_toArray, List.set_cons_zero, List.set_cons_succ]
          refine wpAnyH_one 1 34 (.agg #[.int .i64 root, .int .i64 at_, .int .u32 4294967295, .slice none 0 0]) hHeld rfl rfl (by kernel_rfl) (fun _ _ _ _ _ h => h) (by kernel_rfl) (by kernel_rfl) (by rfl) ?_ ?_
          · intro V hSw; (try dsimp only at hSw); obtain ⟨q0, q1, q2, q3⟩ := cells4 hSw.2; go_simp
          simp only [Act.put, List.setIfInBounds_toArray, List.set_cons_zero, List.set_cons_succ]
          refine wpAnyH_one 2 35 (.slice (some ⟨v1.heap.size + 1 + k, 0, none⟩) 2 2) hHeld rfl rfl (by kernel_rfl) (fun _ _ _ _ _ h => h) (by kernel_rfl) (by kernel_rfl) (by rfl) ?_ ?_
          · intro V hSw; (try dsimp only at hSw); go_simp
          simp only [Act.put, List.setIfInBounds_toArray, List.set_cons_zero, List.set_cons_succ]
          refine wpAnyH_one 3 36 (.pointer (some ⟨v1.heap.size + 1 + k, 0, none⟩)) hHeld rfl rfl (by kernel_rfl) (fun _ _ _ _ _ h => h) (by kernel_rfl) (by kernel_rfl) (by rfl) ?_ ?_
          · intro V hSw; (try dsimp only at hSw); go_simp
          simp only [Act.put, List.setIfInBounds_toArray, List.set_cons_zero, List.set_cons_succ]
          refine wpAnyH_one 4 37 (.int .u8 ((pairW k).1 : Int)) hHeld rfl rfl (by kernel_rfl) (fun _ _ _ _ _ h => h) (by kernel_rfl) (by kernel_rfl) (by rfl) ?_ ?_
          · intro V hSw; (try dsimp only at hSw); have q : V.cell? ⟨v1.heap.size + 1 + k, 0, none⟩ = some (.int .u8 ((pairW k).1 : Int)) := cell_of (hSw.1.p k hlt) 0; go_simp
          simp only [Act.put, List.setIfInBounds_toArray, List.set_cons_zero, List.set_cons_succ]
          refine wpAnyH_ready (rs := [5, 10]) (by kernel_rfl) (by simp) ?_
          refine AllReadyH.cons rfl (fun K hK => ?_) (AllReadyH.cons rfl (fun K hK => ?_) AllReadyH.nil)
          · go_simp
            go_wp2_with (go_at_call 17; refine (HS0.out k _ hlt HD.out).mono ?_; rintro e v2 ⟨vo2, vc2, rfl, hb⟩; have HC2 := hid ((Below.refl wr.heap.size wr).drew.trans (hb.mono (Below.refl wr.heap.size wr).drew.size)); clear hb)
            refine hK.out _ _ ⟨HK.out.later HC2.out, HW0.out.later HC2.out⟩ (fun hHeld => ?_)
            clear hK K
            refine wpAnyH_one 6 32 (.tuple #[.agg #[.int .i64 root, .int .i64 (C k), .int .u32 4294967295, .slice vo2 0 vc2], .int .i64 (D k), .int .i64 0]) hHeld rfl rfl (by kernel_rfl) (fun _ _ _ _ _ h => h) (by kernel_rfl) (by kernel_rfl) (by rfl) ?_ ?_
            · intro V hSw; (try dsimp only at hSw); go_simp
            simp only [Act.put, List.setIfInBounds_toArray, List.set_cons_zero, List.set_cons_succ]
            refine wpAnyH_one 7 39 (.agg #[.int .i64 root, .int .i64 (C k), .int .u32 4294967295, .slice vo2 0 vc2]) hHeld rfl rfl (by kernel_rfl) (fun _ _ _ _ _ h => h) (by kernel_rfl) (by kernel_rfl) (by rfl) ?_ ?_
            · intro V hSw; (try dsimp only at hSw); go_simp
            simp only [Act.put, List.setIfInBounds_toArray, List.set_cons_zero, List.set_cons_succ]
            refine wpAnyH_one 8 40 (.int .i64 (D k)) hHeld rfl rfl (by kernel_rfl) (fun _ _ _ _ _ h => h) (by kernel_rfl) (by kernel_rfl) (by rfl) ?_ ?_
            · intro V hSw; (try dsimp only at hSw); go_simp
            simp only [Act.put, List.setIfInBounds_toArray, List.set_cons_zero, List.set_cons_succ]
            refine wpAnyH_one 9 41 (.int .i64 0) hHeld rfl rfl (by kernel_rfl) (fun _ _ _ _ _ h => h) (by kernel_rfl) (by kernel_rfl) (by rfl) ?_ ?_
            · intro V hSw; (try dsimp only at hSw); go_simp
            simp only [Act.put, List.setIfInBounds_toArray, List.set_cons_zero, List.set_cons_succ]
            refine wpAnyH_ready (rs := [10]) (by kernel_rfl) (by simp) ?_
            refine AllReadyH.cons rfl (fun K hK => ?_) AllReadyH.nil
            go_simp
            refine hK.out _ _ (⟨HK.out.later (HC2.out.alloc HC2.out.size _), HW0.out.later (HC2.out.alloc HC2.out.size _)⟩) (fun hHeld => ?_)
            clear hK K
            refine wpAnyH_ready (rs := [11]) (by kernel_rfl) (by simp) ?_
            refine AllReadyH.cons rfl (fun K hK => ?_) AllReadyH.nil
            go_simp
            refine hK.out _ _ (⟨HK.out.later (HC2.out.alloc HC2.out.size _), HW0.out.later (HC2.out.alloc HC2.out.size _)⟩) (fun hHeld => ?_)
            clear hK K
            refine wpAnyH_one 12 11 (.int .i64 (D k)) hHeld rfl rfl (by kernel_rfl) (fun _ _ _ _ _ h => h) (by kernel_rfl) (by kernel_rfl) (by rfl) ?_ ?_
            · intro V hSw; (try dsimp only at hSw); go_simp
            simp only [Act.put, List.setIfInBounds_toArray, List.set_cons_zero, List.set_cons_succ]
            refine wpAnyH_one 13 12 (.int .i64 0) hHeld rfl rfl (by kernel_rfl) (fun _ _ _ _ _ h => h) (by kernel_rfl) (by kernel_rfl) (by rfl) ?_ ?_
            · intro V hSw; (try dsimp only at hSw); go_simp
            simp only [Act.put, List.setIfInBounds_toArray, List.set_cons_zero, List.set_cons_succ]
            refine wpAnyH_done (by kernel_rfl) ?_ _
            go_wp2_with fail
            go_meet
            exact ⟨_, _, _, rfl, rfl, rfl, rfl, WalkerAt.new v2 root (C k) _, HC2.out.alloc HC2.out.size _⟩
          · go_simp
            refine hK.out _ _ ⟨HK.out.later HDX.out, HW0.out.later HDX.out⟩ (fun hHeld => ?_)
            clear hK K
            refine wpAnyH_ready (rs := [5]) (by kernel_rfl) (by simp) ?_
            refine AllReadyH.cons rfl (fun K hK => ?_) AllReadyH.nil
            go_simp
            go_wp2_with (go_at_call 17; refine (HS0.out k _ hlt (by first | exact HDA.out | exact HDB.out)).mono ?_; rintro e v2 ⟨vo2, vc2, rfl, hb⟩; have HZ2 : Hid (v2.heap[wr.heap.size]? = some (.cells #[.int .i64 0, .int .i64 0, .int .u32 0, .slice none 0 0] 34)) := (by first | exact zero_new hb | exact zero_newD hb); obtain ⟨m0, m1, m2, m3⟩ := cells4 HZ2.out; obtain ⟨f0, f1, f2, f3⟩ := free4 HZ2.out; have HC2 : Hid (Below wr.heap.size wr v2) := (by first | exact (((Below.refl wr.heap.size wr).drew.alloc (show wr.heap.size ≤ wr.drew.heap.size from Nat.le_refl _) (.cells #[.int .i64 0, .int .i64 0, .int .u32 0, .slice none 0 0] 34)).trans (hb.mono ((Below.refl wr.heap.size wr).drew.alloc (show wr.heap.size ≤ wr.drew.heap.size from Nat.le_refl _) (.cells #[.int .i64 0, .int .i64 0, .int .u32 0, .slice none 0 0] 34)).size)) | exact (((Below.refl wr.heap.size wr).alloc (Nat.le_refl _) (.cells #[.int .i64 0, .int .i64 0, .int .u32 0, .slice none 0 0] 34)).drew.trans (hb.mono ((Below.refl wr.heap.size wr).alloc (Nat.le_refl _) (.cells #[.int .i64 0, .int .i64 0, .int .u32 0, .slice none 0 0] 34)).drew.size))); have HX := hid (Nat.le_refl wr.heap.size); clear hb)
            refine hK.out _ _ (⟨HK.out.later HC2.out, HW0.out.later HC2.out⟩) (fun hHeld => ?_)
            clear hK K
            refine wpAnyH_one 6 32 (.tuple #[.agg #[.int .i64 root, .int .i64 (C k), .int .u32 4294967295, .slice vo2 0 vc2], .int .i64 (D k), .int .i64 0]) hHeld rfl rfl (by kernel_rfl) (fun _ _ _ _ _ h => h) (by kernel_rfl) (by kernel_rfl) (by rfl) ?_ ?_
            · intro V hSw; (try dsimp only at hSw); go_simp
            simp only [Act.put, List.setIfInBounds_toArray, List.set_cons_zero, List.set_cons_succ]
            refine wpAnyH_one 7 39 (.agg #[.int .i64 root, .int .i64 (C k), .int .u32 4294967295, .slice vo2 0 vc2]) hHeld rfl rfl (by kernel_rfl) (fun _ _ _ _ _ h => h) (by kernel_rfl) (by kernel_rfl) (by rfl) ?_ ?_
            · intro V hSw; (try dsimp only at hSw); go_simp
            simp only [Act.put, List.setIfInBounds_toArray, List.set_cons_zero, List.set_cons_succ]
            refine wpAnyH_one 8 40 (.int .i64 (D k)) hHeld rfl rfl (by kernel_rfl) (fun _ _ _ _ _ h => h) (by kernel_rfl) (by kernel_rfl) (by rfl) ?_ ?_
            · intro V hSw; (try dsimp only at hSw); go_simp
            simp only [Act.put, List.setIfInBounds_toArray, List.set_cons_zero, List.set_cons_succ]
            refine wpAnyH_one 9 41 (.int .i64 0) hHeld rfl rfl (by kernel_rfl) (fun _ _ _ _ _ h => h) (by kernel_rfl) (by kernel_rfl) (by rfl) ?_ ?_
            · intro V hSw; (try dsimp only at hSw); go_simp
            simp only [Act.put, List.setIfInBounds_toArray, List.set_cons_zero, List.set_cons_succ]
            refine wpAnyH_ready (rs := [11]) (by kernel_rfl) (by simp) ?_
            refine AllReadyH.cons rfl (fun K hK => ?_) AllReadyH.nil
            go_simp
            refine hK.out _ _ (⟨HK.out.later (below_four HC2.out HX.out), HW0.out.later (below_four HC2.out HX.out)⟩) (fun hHeld => ?_)
            clear hK K
            refine wpAnyH_one 12 11 (.int .i64 (D k)) hHeld rfl rfl (by kernel_rfl) (fun _ _ _ _ _ h => h) (by kernel_rfl) (by kernel_rfl) (by rfl) ?_ ?_
            · intro V hSw; (try dsimp only at hSw); go_simp
            simp only [Act.put, List.setIfInBounds_toArray, List.set_cons_zero, List.set_cons_succ]
            refine wpAnyH_one 13 12 (.int .i64 0) hHeld rfl rfl (by kernel_rfl) (fun _ _ _ _ _ h => h) (by kernel_rfl) (by kernel_rfl) (by rfl) ?_ ?_
            · intro V hSw; (try dsimp only at hSw); go_simp
            simp only [Act.put, List.setIfInBounds_toArray, List.set_cons_zero, List.set_cons_succ]
            refine wpAnyH_done (by kernel_rfl) ?_ _
            go_wp2_with fail
            go_meet
            exact ⟨_, _, _, rfl, rfl, rfl, rfl, four_set HZ2.out _ _ _ _, below_four HC2.out HX.out⟩
      case rest =>
        obtain ⟨B, vo, vc, rfl, rfl, rfl, rfl, hW, hC⟩ := hcut
        have HW := hid hW
        have HB2 := hid (HB.out.trans (hC.mono HB.out.size))
        have HK2 := hid (HK.out.later hC)
        clear HK HD HDA HDX HDB HW0 q0 hW hC HB HS0
        by_cases h0 : D k = 0
        · rw [h0]
          clear h0 HT0
          go_wp2
          go_roundw
          case rel => exact ⟨k + 1, by omega, by go_num, HK2.out, HB2.out⟩
          case measure => simp [RowKit.intOf]; omega
        · by_cases h1 : D k = root
          · have e1 : (D k == 0) = false := beq_eq_false_iff_ne.2 h0
            have e2 : (D k == root) = true := beq_iff_eq.2 h1
            clear h0 h1 HT0
            generalize D k = d at *
            go_wp2
            go_roundw
            case rel => exact ⟨k + 1, by omega, by go_num, HK2.out, HB2.out⟩
            case measure => simp [RowKit.intOf]; omega
          · have e1 : (D k == 0) = false := beq_eq_false_iff_ne.2 h0
            have e2 : (D k == root) = false := beq_eq_false_iff_ne.2 h1
            have HT1 : Hid (∀ (vo : Option Addr) (vc : Nat) (W : World), Below w.heap.size w W → _) := fun vo vc W hW => HT0.out k vo vc W hlt h0 h1 hW
            clear h0 h1 HT0
            have HW0 := HW
            have HD := hid (HB2.out.trans ((Below.refl wc.heap.size wc).drew.mono HB2.out.size))
            have HDA := hid (HB2.out.trans (((Below.refl wc.heap.size wc).drew.alloc (show wc.heap.size ≤ wc.drew.heap.size from Nat.le_refl _) (.cells #[.int .i64 0, .int .i64 0, .int .u32 0, .slice none 0 0] 34)).mono HB2.out.size))
            have HDX := hid (((Below.refl wc.heap.size wc).drew.alloc (show wc.heap.size ≤ wc.drew.heap.size from Nat.le_refl _) (.cells #[.int .i64 0, .int .i64 0, .int .u32 0, .slice none 0 0] 34)))
            have HDB := hid (HB2.out.trans (((Below.refl wc.heap.size wc).alloc (Nat.le_refl _) (.cells #[.int .i64 0, .int .i64 0, .int .u32 0, .slice none 0 0] 34)).drew.mono HB2.out.size))
            go_upto_region 11 with fail
            go_cut [14, 15, 28] from 28 to 70 (fun t14 t15 t28 wx => t14 = .int .i64 at_ ∧ t15 = .int .i64 0 ∧ t28 = .int .i64 (k : Int) ∧ Below wc.heap.size wc wx)
            case first =>
              as_aux_lemma =>
                refine wp_region_held_drew (S := (fun V => BackAt V w.heap.size v1.heap.size (.slice o n cap) root at_ ∧ WalkerAt V B root (C k) (.slice vo 0 vc))) (by kernel_rfl) (⟨HK2.out.later (Below.refl wc.heap.size wc).drew, HW0.out.later (Below.refl wc.heap.size wc).drew⟩) (fun hHeld => ?_)
                refine wpAnyH_one 0 54 (.agg #[.slice o n cap]) hHeld rfl rfl (by kernel_rfl) (fun _ _ _ _ _ h => h) (by kernel_rfl) (by kernel_rfl) (by rfl) ?_ ?_
                · intro V hSw; (try dsimp only at hSw); have q : V.cell? ⟨w.heap.size, 0, none⟩ = some (.slice o n cap) := cell_of hSw.1.f 0; go_simp
                simp only [Act.put, List.setIfInBounds_toArray, List.set_cons_zero, List.set_cons_succ]
                refine wpAnyH_one 1 55 (.agg #[.int .i64 root, .int .i64 (C k), .int .u32 4294967295, .slice vo 0 vc]) hHeld rfl rfl (by kernel_rfl) (fun _ _ _ _ _ h => h) (by kernel_rfl) (by kernel_rfl) (by rfl) ?_ ?_
                · intro V hSw; (try dsimp only at hSw); obtain ⟨q0, q1, q2, q3⟩ := cells4 hSw.2; go_simp
                simp only [Act.put, List.setIfInBounds_toArray, List.set_cons_zero, List.set_cons_succ]
                refine wpAnyH_one 2 56 (.slice (some ⟨v1.heap.size + 1 + k, 0, none⟩) 2 2) hHeld rfl rfl (by kernel_rfl) (fun _ _ _ _ _ h => h) (by kernel_rfl) (by kernel_rfl) (by rfl) ?_ ?_
                · intro V hSw; (try dsimp only at hSw); go_simp
                simp only [Act.put, List.setIfInBounds_toArray, List.set_cons_zero, List.set_cons_succ]
                refine wpAnyH_one 3 57 (.pointer (some ⟨v1.heap.size + 1 + k, 1, none⟩)) hHeld rfl rfl (by kernel_rfl) (fun _ _ _ _ _ h => h) (by kernel_rfl) (by kernel_rfl) (by rfl) ?_ ?_
                · intro V hSw; (try dsimp only at hSw); go_simp
                simp only [Act.put, List.setIfInBounds_toArray, List.set_cons_zero, List.set_cons_succ]
                refine wpAnyH_one 4 58 (.int .u8 ((pairW k).2 : Int)) hHeld rfl rfl (by kernel_rfl) (fun _ _ _ _ _ h => h) (by kernel_rfl) (by kernel_rfl) (by rfl) ?_ ?_
                · intro V hSw; (try dsimp only at hSw); have q : V.cell? ⟨v1.heap.size + 1 + k, 1, none⟩ = some (.int .u8 ((pairW k).2 : Int)) := cell_of (hSw.1.p k hlt) 1; go_simp
                simp only [Act.put, List.setIfInBounds_toArray, List.set_cons_zero, List.set_cons_succ]
                refine wpAnyH_ready (rs := [5, 10]) (by kernel_rfl) (by simp) ?_
                refine AllReadyH.cons rfl (fun K hK => ?_) (AllReadyH.cons rfl (fun K hK => ?_) AllReadyH.nil)
                · go_simp
                  go_wp2_with (go_at_call 17; refine (HT1.out _ _ _ HD.out).mono ?_; rintro e v2 ⟨c2, vo2, vc2, rfl, hb⟩; have HC2 := hid ((Below.refl wc.heap.size wc).drew.trans (hb.mono (Below.refl wc.heap.size wc).drew.size)); clear hb)
                  refine hK.out _ _ ⟨HK2.out.later HC2.out, HW0.out.later HC2.out⟩ (fun hHeld => ?_)
                  clear hK K
                  refine wpAnyH_one 6 53 (.tuple #[.agg #[.int .i64 root, .int .i64 c2, .int .u32 4294967295, .slice vo2 0 vc2], .int .i64 at_, .int .i64 0]) hHeld rfl rfl (by kernel_rfl) (fun _ _ _ _ _ h => h) (by kernel_rfl) (by kernel_rfl) (by rfl) ?_ ?_
                  · intro V hSw; (try dsimp only at hSw); go_simp
                  simp only [Act.put, List.setIfInBounds_toArray, List.set_cons_zero, List.set_cons_succ]
                  refine wpAnyH_one 7 60 (.agg #[.int .i64 root, .int .i64 c2, .int .u32 4294967295, .slice vo2 0 vc2]) hHeld rfl rfl (by kernel_rfl) (fun _ _ _ _ _ h => h) (by kernel_rfl) (by kernel_rfl) (by rfl) ?_ ?_
                  · intro V hSw; (try dsimp only at hSw); go_simp
                  simp only [Act.put, List.setIfInBounds_toArray, List.set_cons_zero, List.set_cons_succ]
                  refine wpAnyH_one 8 61 (.int .i64 at_) hHeld rfl rfl (by kernel_rfl) (fun _ _ _ _ _ h => h) (by kernel_rfl) (by kernel_rfl) (by rfl) ?_ ?_
                  · intro V hSw; (try dsimp only at hSw); go_simp
                  simp only [Act.put, List.setIfInBounds_toArray, List.set_cons_zero, List.set_cons_succ]
                  refine wpAnyH_one 9 62 (.int .i64 0) hHeld rfl rfl (by kernel_rfl) (fun _ _ _ _ _ h => h) (by kernel_rfl) (by kernel_rfl) (by rfl) ?_ ?_
                  · intro V hSw; (try dsimp only at hSw); go_simp
                  simp only [Act.put, List.setIfInBounds_toArray, List.set_cons_zero, List.set_cons_succ]
                  refine wpAnyH_ready (rs := [10]) (by kernel_rfl) (by simp) ?_
                  refine AllReadyH.cons rfl (fun K hK => ?_) AllReadyH.nil
                  go_simp
                  refine hK.out _ _ (⟨HK2.out.later (HC2.out.alloc HC2.out.size _), HW0.out.later (HC2.out.alloc HC2.out.size _)⟩) (fun hHeld => ?_)
                  clear hK K
                  refine wpAnyH_ready (rs := [11]) (by kernel_rfl) (by simp) ?_
                  refine AllReadyH.cons rfl (fun K hK => ?_) AllReadyH.nil
                  go_simp
                  refine hK.out _ _ (⟨HK2.out.later (HC2.out.alloc HC2.out.size _), HW0.out.later (HC2.out.alloc HC2.out.size _)⟩) (fun hHeld => ?_)
                  clear hK K
                  refine wpAnyH_one 12 14 (.int .i64 at_) hHeld rfl rfl (by kernel_rfl) (fun _ _ _ _ _ h => h) (by kernel_rfl) (by kernel_rfl) (by rfl) ?_ ?_
                  · intro V hSw; (try dsimp only at hSw); go_simp
                  simp only [Act.put, List.setIfInBounds_toArray, List.set_cons_zero, List.set_cons_succ]
                  refine wpAnyH_one 13 15 (.int .i64 0) hHeld rfl rfl (by kernel_rfl) (fun _ _ _ _ _ h => h) (by kernel_rfl) (by kernel_rfl) (by rfl) ?_ ?_
                  · intro V hSw; (try dsimp only at hSw); go_simp
                  simp only [Act.put, List.setIfInBounds_toArray, List.set_cons_zero, List.set_cons_succ]
                  refine wpAnyH_done (by kernel_rfl) ?_ _
                  go_wp2_with fail
                  go_meet
                  exact ⟨rfl, rfl, rfl, HC2.out.alloc HC2.out.size _⟩
                · go_simp
                  refine hK.out _ _ ⟨HK2.out.later HDX.out, HW0.out.later HDX.out⟩ (fun hHeld => ?_)
                  clear hK K
                  refine wpAnyH_ready (rs := [5]) (by kernel_rfl) (by simp) ?_
                  refine AllReadyH.cons rfl (fun K hK => ?_) AllReadyH.nil
                  go_simp
                  go_wp2_with (go_at_call 17; refine (HT1.out _ _ _ (by first | exact HDA.out | exact HDB.out)).mono ?_; rintro e v2 ⟨c2, vo2, vc2, rfl, hb⟩; have HZ2 : Hid (v2.heap[wc.heap.size]? = some (.cells #[.int .i64 0, .int .i64 0, .int .u32 0, .slice none 0 0] 34)) := (by first | exact zero_new hb | exact zero_newD hb); obtain ⟨m0, m1, m2, m3⟩ := cells4 HZ2.out; obtain ⟨f0, f1, f2, f3⟩ := free4 HZ2.out; have HC2 : Hid (Below wc.heap.size wc v2) := (by first | exact (((Below.refl wc.heap.size wc).drew.alloc (show wc.heap.size ≤ wc.drew.heap.size from Nat.le_refl _) (.cells #[.int .i64 0, .int .i64 0, .int .u32 0, .slice none 0 0] 34)).trans (hb.mono ((Below.refl wc.heap.size wc).drew.alloc (show wc.heap.size ≤ wc.drew.heap.size from Nat.le_refl _) (.cells #[.int .i64 0, .int .i64 0, .int .u32 0, .slice none 0 0] 34)).size)) | exact (((Below.refl wc.heap.size wc).alloc (Nat.le_refl _) (.cells #[.int .i64 0, .int .i64 0, .int .u32 0, .slice none 0 0] 34)).drew.trans (hb.mono ((Below.refl wc.heap.size wc).alloc (Nat.le_refl _) (.cells #[.int .i64 0, .int .i64 0, .int .u32 0, .slice none 0 0] 34)).drew.size))); have HX := hid (Nat.le_refl wc.heap.size); clear hb)
                  refine hK.out _ _ (⟨HK2.out.later HC2.out, HW0.out.later HC2.out⟩) (fun hHeld => ?_)
                  clear hK K
                  refine wpAnyH_one 6 53 (.tuple #[.agg #[.int .i64 root, .int .i64 c2, .int .u32 4294967295, .slice vo2 0 vc2], .int .i64 at_, .int .i64 0]) hHeld rfl rfl (by kernel_rfl) (fun _ _ _ _ _ h => h) (by kernel_rfl) (by kernel_rfl) (by rfl) ?_ ?_
                  · intro V hSw; (try dsimp only at hSw); go_simp
                  simp only [Act.put, List.setIfInBounds_toArray, List.set_cons_zero, List.set_cons_succ]
                  refine wpAnyH_one 7 60 (.agg #[.int .i64 root, .int .i64 c2, .int .u32 4294967295, .slice vo2 0 vc2]) hHeld rfl rfl (by kernel_rfl) (fun _ _ _ _ _ h => h) (by kernel_rfl) (by kernel_rfl) (by rfl) ?_ ?_
                  · intro V hSw; (try dsimp only at hSw); go_simp
                  simp only [Act.put, List.setIfInBounds_toArray, List.set_cons_zero, List.set_cons_succ]
                  refine wpAnyH_one 8 61 (.int .i64 at_) hHeld rfl rfl (by kernel_rfl) (fun _ _ _ _ _ h => h) (by kernel_rfl) (by kernel_rfl) (by rfl) ?_ ?_
                  · intro V hSw; (try dsimp only at hSw); go_simp
                  simp only [Act.put, List.setIfInBounds_toArray, List.set_cons_zero, List.set_cons_succ]
                  refine wpAnyH_one 9 62 (.int .i64 0) hHeld rfl rfl (by kernel_rfl) (fun _ _ _ _ _ h => h) (by kernel_rfl) (by kernel_rfl) (by rfl) ?_ ?_
                  · intro V hSw; (try dsimp only at hSw); go_simp
                  simp only [Act.put, List.setIfInBounds_toArray, List.set_cons_zero, List.set_cons_succ]
                  refine wpAnyH_ready (rs := [11]) (by kernel_rfl) (by simp) ?_
                  refine AllReadyH.cons rfl (fun K hK => ?_) AllReadyH.nil
                  go_simp
                  refine hK.out _ _ (⟨HK2.out.later (below_four HC2.out HX.out), HW0.out.later (below_four HC2.out HX.out)⟩) (fun hHeld => ?_)
                  clear hK K
                  refine wpAnyH_one 12 14 (.int .i64 at_) hHeld rfl rfl (by kernel_rfl) (fun _ _ _ _ _ h => h) (by kernel_rfl) (by kernel_rfl) (by rfl) ?_ ?_
                  · intro V hSw; (try dsimp only at hSw); go_simp
                  simp only [Act.put, List.setIfInBounds_toArray, List.set_cons_zero, List.set_cons_succ]
                  refine wpAnyH_one 13 15 (.int .i64 0) hHeld rfl rfl (by kernel_rfl) (fun _ _ _ _ _ h => h) (by kernel_rfl) (by kernel_rfl) (by rfl) ?_ ?_
                  · intro V hSw; (try dsimp only at hSw); go_simp
                  simp only [Act.put, List.setIfInBounds_toArray, List.set_cons_zero, List.set_cons_succ]
                  refine wpAnyH_done (by kernel_rfl) ?_ _
                  go_wp2_with fail
                  go_meet
                  exact ⟨rfl, rfl, rfl, below_four HC2.out HX.out⟩
            case rest =>
              obtain ⟨rfl, rfl, rfl, hC⟩ := hcut
              have HB3 := hid (HB2.out.trans (hC.mono HB2.out.size))
              have HK3 := hid (HK2.out.later hC)
              clear HK2 HD HDA HDX HDB hC HB2 HW HW0
              go_wp2
              go_roundw
              case rel => exact ⟨k + 1, by omega, by go_num, HK3.out, HB3.out⟩
              case measure => simp [RowKit.intOf]; omega
    · have hk4 : k = 4 := by omega
      subst hk4
      clear hlt k1 HK
      go_wp2
      go_ret
      exact ⟨rfl, HB.out⟩

theorem wrongE_two {ns : List NodeD} (hR : RightF ns) {a b : Int} (ha : thereB ns.length a = true) (hb : thereB ns.length b = true) : wrongE ns [a, b] [] = 0 := by
  have hm : missE ns [a, b] = 0 := by
    unfold missE
    rw [(rightD_iff ns).2 hR, if_pos rfl]
    simp [ha, hb]
  unfold wrongE
  rw [hm, if_pos rfl]
  rfl
theorem walkBack_law (HL : LivesW) (o : Option Addr) (cap : Nat) (ns : List NodeD) (root at_ : Int) (w : World) (hF : FRd w o cap ns) (hkl : ∀ (i : Nat) (hi : i < ns.length), ns[i].kids.length ≤ 1099511627776) (hal : ∀ (i : Nat) (hi : i < ns.length), ns[i].attrs.length ≤ 1099511627776) :
    Calls Try.prog 5 #[.agg #[.slice o ns.length cap], .int .i64 root, .int .i64 at_] w fun e w' => e = .returned (.bool true) ∧ Below w.heap.size w w' := by
  have hE : ∀ i, i < 4 → stepE ns root at_ [] (pairW i).1 = wrongE ns [root, at_] [] := fun i hi => by
    unfold stepE
    rw [(pair_way hi).1]
    split
    · rename_i h; rw [h]; rfl
    · rfl
  have h256 : ∀ i, i < 4 → (pairW i).1 < 256 := fun i hi => by rcases pair_cases hi with rfl | rfl | rfl | rfl <;> decide
  by_cases h0 : wrongE ns [root, at_] [] = 0
  · obtain ⟨hR, hth, _⟩ := wrongE_ok h0
    have hrt := hth root (by simp)
    have hct := hth at_ (by simp)
    obtain ⟨j, hj, _⟩ := there_idx hrt
    obtain ⟨b, off, rfl, hFA⟩ := hF.at_ (by omega)
    refine back_good _ cap ns.length root at_ (fun i => if stepD ns root 4294967295 [] (pairW i).1 at_ = 0 then at_ else stepD ns root 4294967295 [] (pairW i).1 at_) (fun i => stepD ns root 4294967295 [] (pairW i).1 at_) w HL (fun i W hi hW => ?_) (fun i vo vc W hi d0 d1 hW => ?_)
    · refine (Step_ok b off cap ns root at_ 4294967295 none 0 [] (pairW i).1 W (hFA.later hW) hkl hal (nil_rdR W) (by decide) (by decide) ((hE i hi).trans h0)).mono ?_
      rintro e w' ⟨vo, vc, rfl, _, hb⟩
      exact ⟨vo, vc, rfl, hb⟩
    · have d0' : stepD ns root 4294967295 [] (pairW i).1 at_ ≠ 0 := d0
      obtain ⟨ht, _⟩ := (stepD_good hR hrt 4294967295 [] (pair_way hi).1 hct).resolve_left d0'
      have hE2 : stepE ns root (stepD ns root 4294967295 [] (pairW i).1 at_) [] (pairW i).2 = 0 := by
        unfold stepE
        rw [(pair_way hi).2, wrongE_two hR hrt ht]
        rfl
      have := Step_ok b off cap ns root (stepD ns root 4294967295 [] (pairW i).1 at_) 4294967295 vo vc [] (pairW i).2 W (hFA.later hW) hkl hal ⟨vo, vc, rfl, Nat.zero_le _, fun h => absurd h (Nat.lt_irrefl _)⟩ (by decide) (by decide) hE2
      rw [step_back hR hrt hct hi d0' d1] at this
      show Calls Try.prog 17 #[.agg #[.slice (some ⟨b, off, none⟩) ns.length cap], .agg #[.int .i64 root, .int .i64 (if stepD ns root 4294967295 [] (pairW i).1 at_ = 0 then at_ else stepD ns root 4294967295 [] (pairW i).1 at_), .int .u32 4294967295, .slice vo 0 vc], .int .u8 ((pairW i).2 : Int)] W _
      rw [if_neg d0']
      refine this.mono ?_
      rintro e w' ⟨vo2, vc2, rfl, _, hb⟩
      exact ⟨_, vo2, vc2, rfl, hb⟩
  · refine back_wrong o cap ns.length root at_ (wrongE ns [root, at_] []) w (by rw [bne, beq_eq_false_iff_ne.2 h0]; rfl) HL (fun i W hi hW => ?_)
    have := Step_err o cap ns root at_ 4294967295 none 0 [] (pairW i).1 W (hF.later hW) hkl hal (nil_rdR W) (by decide) (h256 i hi) (by rw [hE i hi]; exact h0)
    rw [hE i hi] at this
    exact this
end Go.Proofs.Yteflknfejjdkfaa

namespace Go.Proofs.Yteflknfejjdkfaa
open Go.RowKit Go.Lib Go.ChangeShapes Go.WideShapes Go.ChangeAt

theorem Try.ownWalkBack : ownKnob Try.prog.godebug = none := by kernel_rfl

set_option maxRecDepth 100000 in
theorem walkBack_lifted (HL : LivesW) (os : Os) (started : os.Started) (H : Type) (enc : TypeId × Value → H) (F : Stop.Interp) :
    ReturnsInHanded {} Try.checked os 5 .any ((Rows.OpenSpec.upto Rows.walkBackSpec).pre6 enc Try.prog Try.f5 Rows.walkBackUptoRow.domain false) (((Rows.OpenSpec.upto Rows.walkBackSpec).at F).post enc Try.prog Try.f5 false true false false) := by
  refine returnsInHanded_of_cond (C := Try.checked) (s := Rows.OpenSpec.upto Rows.walkBackSpec) (k := Rows.uptoSmall) rfl Try.ownWalkBack started (by kernel_rfl) Try.func5
    (OpenSpec.witness (enc := enc) (C := Try.checked) (s := Rows.OpenSpec.upto Rows.walkBackSpec) (k := Rows.uptoSmall) rfl false ⟨#[], #[.agg #[.slice none 0 0], .int .i64 0, .int .i64 0], []⟩ 8 (by kernel_rfl) (by kernel_rfl) (by kernel_rfl)
      (x := ([.agg [.nil], .lit (.int .i64 0), .lit (.int .i64 0)], [], [])) (by kernel_rfl) rfl (by kernel_rfl)) ?_
  intro W base args ds gs before hval0 hW _ hk _
  have hval : ∀ (j : Nat) t v, Try.f5.params[j]? = some t → args[j]? = some v → Value.okWide Try.prog W .any base t v := hval0
  have hW' := hW
  obtain ⟨p, q, hA0, hV, rfl, _, _⟩ := hW
  have hA : DataW.TrodAll enc Try.prog W 0 (fun _ => true) true Try.f5.params.toList args.toList ds p := hA0
  rw [Try.params5] at hA hval
  obtain ⟨v0, vs0, d0, ds0, p0, q0, hargs, rfl, rfl, h0, r0t⟩ := trodAll_cons hA
  obtain ⟨v1, vs1, d1, ds1, p1, q1, rfl, rfl, rfl, h1, r1t⟩ := trodAll_cons r0t
  obtain ⟨v2, vs2, d2, ds2, p2, q2, rfl, rfl, rfl, h2, r2t⟩ := trodAll_cons r1t
  obtain ⟨rfl, rfl, rfl⟩ := trodAll_nil r2t
  obtain rfl : args = #[v0, v1, v2] := by cases args; simp_all
  obtain ⟨rfl, rfl⟩ := trodVars_none hV
  obtain ⟨o0, cap0, ns0, rfl, hF0, bn0, bk0⟩ := open_forest (hval 0 24 v0 rfl rfl) h0
  obtain ⟨x1, rfl, rfl, rfl, wx1⟩ := open_int Try.underlying3 (hval 1 3 v1 rfl rfl) h1
  obtain ⟨x2, rfl, rfl, rfl, wx2⟩ := open_int Try.underlying3 (hval 2 3 v2 rfl rfl) h2
  have hkk := of_decide_eq_true hk
  simp [Rows.uptoBulkAll] at hkk
  have hlt := hW'.lt
  refine (walkBack_law HL o0 cap0 ns0 x1 x2 W (hF0 (by omega)) (fun i hi => by have := (bk0 i hi).1; omega) (fun i hi => by have := (bk0 i hi).2; omega)).mono fun e W' ⟨he, hb⟩ => ?_
  subst he
  exact ⟨_, rfl, _, _, _, [], _, [], hW', trodAll_mk1 (shut_bool Try.underlying4 _), trodAll_cons_mk (Below.trod Try.fLaidOut (by kernel_rfl) (of_decide_eq_true (by kernel_rfl)) h0 hb (fun y hy => hlt y (by simp [hy]))) (trodAll_cons_mk (shut_int Try.underlying3 wx1) (trodAll_cons_mk (shut_int Try.underlying3 wx2) trodAll_mk0)), rfl, hb.frame _, fun h => by cases h⟩

theorem walkBack_upto : Rows.WalkBackUptoSaid :=
  OpenClaim.holds_of_cond 5 Try.f5 rfl rfl rfl rfl rfl rfl rfl ⟨rfl, rfl, rfl, rfl, rfl⟩ rfl rfl rfl rfl rfl (by kernel_rfl) Try.func5 (by kernel_rfl)
    (of_decide_eq_true (by kernel_rfl)) (by unfold Func.isWrapper; first | (rw [if_pos (by decide +kernel)]; kernel_rfl) | (rw [if_neg (by decide +kernel)]; exact ⟨rfl, rfl⟩))
    (fun os started H enc _ F => walkBack_lifted (livesW_true treeW_any) os started H enc F)
end Go.Proofs.Yteflknfejjdkfaa
