/- What the ways answer: none, or a node that is accepted, within the root if one began there, nearer by a measure; what is reached, one behind the other: plain. -/
/- The reference of walk: the first kid that is accepted, or the last one (Down). -/
/- The reference of walk: the next sibling that is accepted, or the one ahead (Side). -/
/- The reference of walk: the node ahead in tree order that is accepted (Back). -/
/- The reference of walk: the node behind in tree order that is accepted (On). -/
/- The reference of walk: Step, whole. -/
import Derived.Test.YteflknfejjdkfabGreatCFWkPFWkS
import Derived.Test.YteflknfejjdkfabGreatCFWk3FWm5
import Derived.Test.YteflknfejjdkfabGreatCFWk8FWmA
import Derived.Test.YteflknfejjdkfabGreatCFSkipHFWmC
namespace Go.Proofs.YteflknfejjdkfabGreat
open Go.RowKit Go.Lib

theorem resM_all {σ : Type} {step : σ → Sum σ Int} {μ : σ → Nat} {inv : σ → Prop} (hd : ∀ x y, inv x → step x = .inl y → inv y ∧ μ y < μ x) (I : σ → Prop) (G : Int → Prop) (h1 : ∀ x y, inv x → I x → step x = .inl y → I y) (h2 : ∀ x r, inv x → I x → step x = .inr r → G r) : ∀ (n : Nat) (x : σ), μ x ≤ n → inv x → I x → G (resM step μ x)
  | 0, x, hn, hi, hI => by
    cases hs : step x with
    | inr r => rw [resM_end hs]; exact h2 x r hi hI hs
    | inl y => have := (hd x y hi hs).2; omega
  | n + 1, x, hn, hi, hI => by
    cases hs : step x with
    | inr r => rw [resM_end hs]; exact h2 x r hi hI hs
    | inl y =>
      obtain ⟨a, b⟩ := hd x y hi hs
      rw [resM_go inv hd hi hs]
      exact resM_all hd I G h1 h2 n y (by omega) a (h1 x y hi hI hs)
section
variable {t : TourD}
/-- A node lies within the root. -/
def TourD.inn (t : TourD) (x : Int) : Prop := t.root ∈ pathUp t.ns t.up x
theorem TourD.inn_up (h : t.OK) {x : Int} (hx : thereB t.ns.length x = true) (hr : (x == t.root) = false) (hi : t.inn x) : t.inn (t.up x) := by
  unfold TourD.inn at hi ⊢
  rw [h.hangs.head hx] at hi
  rcases List.mem_cons.1 hi with e | e
  · exact absurd e.symm (beq_eq_false_iff_ne.1 hr)
  · exact e
theorem TourD.inn_of (h : t.OK) {x : Int} (hx : thereB t.ns.length x = true) (hi : t.inn (t.up x)) : t.inn x := by
  unfold TourD.inn at hi ⊢
  rw [h.hangs.head hx]
  exact List.mem_cons_of_mem _ hi
/-- What is answered: none, or a node that is accepted, within the root if one began there, nearer by a measure. -/
def TourD.good (t : TourD) (c : Prop) (m : Int → Prop) (r : Int) : Prop := r = 0 ∨ (thereB t.ns.length r = true ∧ t.acc r = true ∧ (c → t.inn r) ∧ m r)
theorem TourD.past_inn (h : t.OK) (c : Prop) (e : Int) : ∀ (n : Nat) (x : Int), t.len x ≤ n → thereB t.ns.length x = true → (c → t.inn (t.up x)) → t.past x e = 0 ∨ (c → t.inn (t.up (t.past x e)))
  | 0, x, hn, hx, _ => by have := TourD.up_len h hx; omega
  | n + 1, x, hn, hx, hc => by
    by_cases hz : t.next x = 0
    · cases hcc : (t.up x == t.root || t.up x == e) with
      | true => exact .inl (TourD.past_stop e hx hz hcc)
      | false =>
        rw [TourD.past_up h e hx hz hcc]
        rcases TourD.up_ok h hx with h0 | h1
        · rw [h0, TourD.past_zero]; exact .inl rfl
        · rw [Bool.or_eq_false_iff] at hcc
          exact TourD.past_inn h c e n (t.up x) (by have := TourD.up_len h hx; omega) h1 (fun k => TourD.inn_up h h1 hcc.1 (hc k))
    · rw [TourD.past_next e hx hz]
      rcases TourD.next_ok h hx with a | ⟨_, b, _⟩
      · exact absurd a.1 hz
      · rw [b]; exact .inr hc
theorem TourD.upD_good (h : t.OK) {x : Int} (hx : thereB t.ns.length x = true) : t.good (t.inn x) (fun r => t.len r < t.len x) (t.upD x) := by
  refine resM_all (TourD.up_dec h) (fun y => t.len y ≤ t.len x ∧ (t.inn x → t.inn y)) _ ?_ ?_ _ x (Nat.le_refl _) hx ⟨Nat.le_refl _, id⟩
  · rintro y z hy ⟨hl, hi⟩ hs
    obtain ⟨_, b⟩ := TourD.up_dec h y z hy hs
    unfold TourD.upS at hs
    split at hs
    · cases hs
    · rename_i hc
      rw [Bool.not_eq_true, Bool.or_eq_false_iff] at hc
      split at hs
      · cases hs
      · cases hs
        exact ⟨by omega, fun k => TourD.inn_up h hy hc.1 (hi k)⟩
  · rintro y r hy ⟨hl, hi⟩ hs
    unfold TourD.upS at hs
    split at hs
    · cases hs; exact .inl rfl
    · rename_i hc
      rw [Bool.not_eq_true, Bool.or_eq_false_iff] at hc
      split at hs
      · rename_i ha
        cases hs
        have hu := (TourD.up_ok h hy).resolve_left (beq_eq_false_iff_ne.1 hc.2)
        exact .inr ⟨hu, ha, fun k => TourD.inn_up h hy hc.1 (hi k), by have := TourD.up_len h hy; omega⟩
      · cases hs
/-- What holds of a state on the way: it is none, or a node that lies so far within the root. -/
def TourD.fine (t : TourD) (c : Prop) (n : Nat) (y : Int) : Prop := y = 0 ∨ (t.rank y < n ∧ (c → t.inn (t.up y)))
theorem TourD.fine_into (h : t.OK) {c : Prop} {n : Nat} {y : Int} (hy : thereB t.ns.length y = true) (hf : t.fine c n y) (hi : t.into y ≠ 0) : t.fine c n (t.into y) := by
  rcases hf with rfl | ⟨a, b⟩
  · exact absurd rfl (there_ne hy)
  · obtain ⟨_, _, _, hu, hr⟩ := (TourD.into_ok h hy).resolve_left hi
    exact .inr ⟨by omega, fun k => by rw [hu]; exact TourD.inn_of h hy (b k)⟩
theorem TourD.fine_past (h : t.OK) {c : Prop} {n : Nat} (e : Int) {y : Int} (hy : thereB t.ns.length y = true) (hf : t.fine c n y) : t.fine c n (t.past y e) := by
  rcases hf with rfl | ⟨a, b⟩
  · exact absurd rfl (there_ne hy)
  · rcases TourD.past_inn h c e _ y (Nat.le_refl _) hy b with h0 | h1
    · exact .inl h0
    · have := (TourD.past_lt h e hy).2
      exact .inr ⟨by omega, h1⟩
theorem TourD.fine_over (h : t.OK) {c : Prop} {n : Nat} {y : Int} (hy : thereB t.ns.length y = true) (hf : t.rank y ≤ n ∧ (c → t.inn y)) : t.fine c n (t.over y) := by
  unfold TourD.over
  cases hr : (y == t.root) with
  | true => exact .inl rfl
  | false =>
    rw [if_neg Bool.false_ne_true]
    rcases TourD.past_inn h c 0 _ y (Nat.le_refl _) hy (fun k => TourD.inn_up h hy hr (hf.2 k)) with h0 | h1
    · exact .inl h0
    · have := (TourD.past_lt h 0 hy).2
      exact .inr ⟨by omega, h1⟩
theorem TourD.fine_good (h : t.OK) {c : Prop} {n : Nat} {y : Int} (hy : t.ok y) (hf : t.fine c n y) (ha : (y == 0 || t.acc y) = true) : t.good c (fun r => t.rank r < n) y := by
  rcases hf with rfl | ⟨a, b⟩
  · exact .inl rfl
  · by_cases h0 : y = 0
    · exact .inl h0
    · have hyt := hy.resolve_left h0
      rw [bfalse h0, Bool.false_or] at ha
      exact .inr ⟨hyt, ha, fun k => TourD.inn_of h hyt (b k), a⟩
theorem TourD.fine_kid (h : t.OK) {x : Int} (hx : thereB t.ns.length x = true) : t.fine (t.inn x) (t.rank x) (t.kid x) := by
  rcases TourD.kid_ok h hx with a | ⟨a, b, c⟩
  · exact .inl a
  · exact .inr ⟨by omega, fun k => by rw [b]; exact k⟩
theorem TourD.downD_good (h : t.OK) {x : Int} (hx : thereB t.ns.length x = true) : t.good (t.inn x) (fun r => t.rank r < t.rank x) (t.downD x) := by
  refine resM_all (TourD.down_dec h x) (t.fine (t.inn x) (t.rank x)) _ ?_ ?_ _ (t.kid x) (Nat.le_refl _) ((TourD.kid_ok h hx).imp id (fun k => k.1)) (TourD.fine_kid h hx)
  · rintro y z hy hf hs
    unfold TourD.downS at hs
    split at hs
    · cases hs
    · rename_i hc
      have hyt : thereB t.ns.length y = true := hy.resolve_left (by rintro rfl; simp at hc)
      split at hs
      · cases hs; exact TourD.fine_past h x hyt hf
      · rename_i h0; cases hs; exact TourD.fine_into h hyt hf (fun e => h0 (beq_iff_eq.2 e))
  · rintro y r hy hf hs
    unfold TourD.downS at hs
    split at hs
    · rename_i hc; cases hs; exact TourD.fine_good h hy hf hc
    · split at hs <;> cases hs
theorem TourD.onD_good (h : t.OK) {x : Int} (hx : thereB t.ns.length x = true) : t.good (t.inn x) (fun r => t.rank r < t.rank x) (t.onD x) := by
  have hok : t.ok (if t.kid x == 0 then t.over x else t.kid x) := by
    split
    · exact (TourD.over_lt h hx).1
    · exact (TourD.kid_ok h hx).imp id (fun k => k.1)
  have hfi : t.fine (t.inn x) (t.rank x) (if t.kid x == 0 then t.over x else t.kid x) := by
    split
    · exact TourD.fine_over h hx ⟨Nat.le_refl _, id⟩
    · exact TourD.fine_kid h hx
  refine resM_all (TourD.on_dec h) (t.fine (t.inn x) (t.rank x)) _ ?_ ?_ _ _ (Nat.le_refl _) hok hfi
  · rintro y z hy hf hs
    unfold TourD.onS at hs
    split at hs
    · cases hs
    · rename_i hc
      have hyt : thereB t.ns.length y = true := hy.resolve_left (by rintro rfl; simp at hc)
      split at hs
      · cases hs
        rcases hf with rfl | ⟨a, b⟩
        · exact absurd rfl (there_ne hyt)
        · exact TourD.fine_over h hyt ⟨Nat.le_of_lt a, fun k => TourD.inn_of h hyt (b k)⟩
      · rename_i h0; cases hs; exact TourD.fine_into h hyt hf (fun e => h0 (beq_iff_eq.2 e))
  · rintro y r hy hf hs
    unfold TourD.onS at hs
    split at hs
    · rename_i hc; cases hs; exact TourD.fine_good h hy hf hc
    · split at hs <;> cases hs
theorem TourD.fine_next (h : t.OK) {c : Prop} {n : Nat} {y : Int} (hy : thereB t.ns.length y = true) (hn : t.after y < n) (hc : c → t.inn (t.up y)) : t.fine c n (t.next y) := by
  rcases TourD.next_ok h hy with a | ⟨_, b, d⟩
  · exact .inl a.1
  · exact .inr ⟨by omega, fun k => by rw [b]; exact hc k⟩
theorem TourD.alongD_good (h : t.OK) {x : Int} (hx : thereB t.ns.length x = true) : t.good (t.inn x) (fun r => t.rank r < t.rank x) (t.alongD x) := by
  unfold TourD.alongD
  cases hr : (x == t.root) with
  | true => exact .inl rfl
  | false =>
    rw [if_neg Bool.false_ne_true]
    have hin : t.inn x → t.inn (t.up x) := TourD.inn_up h hx hr
    have ha0 := TourD.after_lt h hx
    refine resM_all (TourD.along_dec h) (fun p => t.after p.1 < t.rank x ∧ (t.inn x → t.inn (t.up p.1)) ∧ t.fine (t.inn x) (t.rank x) p.2) _ ?_ ?_ _ (x, t.next x) (Nat.le_refl _) ⟨hx, (TourD.next_ok h hx).imp (fun a => a.1) (fun a => a.1), id⟩ ⟨ha0, hin, TourD.fine_next h hx ha0 hin⟩
    · rintro ⟨y, s⟩ q ⟨hy, hs, h0⟩ ⟨hA, hI, hf⟩ hq
      simp only at hy hs h0 hA hI hf
      unfold TourD.alongS at hq
      simp only at hq
      split at hq
      · rename_i hz
        have hz := eq_of_beq hz
        subst hz
        split at hq
        · cases hq
        · rename_i hc
          cases hq
          simp only [Bool.not_eq_true, Bool.or_eq_false_iff] at hc
          have hu := (TourD.up_ok h hy).resolve_left (beq_eq_false_iff_ne.1 hc.1.1)
          have ha : t.after y = t.after (t.up y) := by
            rcases TourD.next_ok h hy with a | a
            · exact a.2
            · exact absurd (h0 rfl) (there_ne a.1)
          have hA2 : t.after (t.up y) < t.rank x := by omega
          have hI2 : t.inn x → t.inn (t.up (t.up y)) := fun k => TourD.inn_up h hu hc.1.2 (hI k)
          exact ⟨hA2, hI2, TourD.fine_next h hu hA2 hI2⟩
      · rename_i hz
        have hst : thereB t.ns.length s = true := hs.resolve_left (fun e => hz (beq_iff_eq.2 e))
        split at hq
        · cases hq
        · cases hq
          rcases hf with rfl | ⟨a, b⟩
          · exact absurd rfl (there_ne hst)
          · have := TourD.after_lt h hst
            refine ⟨by show t.after s < _; omega, b, ?_⟩
            show t.fine _ _ (t.aside s)
            unfold TourD.aside
            split
            · exact TourD.fine_next h hst (by omega) b
            · rename_i h1; exact TourD.fine_into h hst (.inr ⟨a, b⟩) (fun e => h1 (beq_iff_eq.2 e))
    · rintro ⟨y, s⟩ r ⟨hy, hs, h0⟩ ⟨hA, hI, hf⟩ hq
      simp only at hy hs h0 hA hI hf
      unfold TourD.alongS at hq
      simp only at hq
      split at hq
      · split at hq
        · cases hq; exact .inl rfl
        · cases hq
      · split at hq
        · rename_i ha; cases hq; exact TourD.fine_good h hs hf (by rw [ha, Bool.or_true])
        · cases hq
theorem TourD.bottom_inn (h : t.OK) (c : Prop) {x : Int} (hx : thereB t.ns.length x = true) (hc : c → t.inn (t.up x)) : c → t.inn (t.up (t.bottom x)) := by
  refine resM_all (TourD.bottom_dec h) (fun y => c → t.inn (t.up y)) (fun r => c → t.inn (t.up r)) ?_ ?_ _ x (Nat.le_refl _) hx hc
  · rintro y z hy hi hs
    unfold TourD.bottomS at hs
    split at hs
    · cases hs
    · rename_i h0
      cases hs
      obtain ⟨_, _, _, hu, _⟩ := (TourD.into_ok h hy).resolve_left (fun e => h0 (beq_iff_eq.2 e))
      rw [hu]
      exact fun k => TourD.inn_of h hy (hi k)
  · rintro y r hy hi hs
    unfold TourD.bottomS at hs
    split at hs
    · cases hs; exact hi
    · cases hs
theorem TourD.up_postW (h : t.OK) {x : Int} (hx : thereB t.ns.length x = true) (hn : t.next x = 0) : t.post (t.up x) < t.post x := by
  have hl := TourD.up_len h hx
  rcases TourD.next_ok h hx with a | a
  · unfold TourD.post
    omega
  · exact absurd hn (there_ne a.1)
theorem TourD.backD_good (h : t.OK) {x : Int} (hx : thereB t.ns.length x = true) : t.good (t.inn x) (fun r => t.post r < t.post x) (t.backD x) := by
  unfold TourD.backD
  cases hr : (x == t.root) with
  | true => exact .inl rfl
  | false =>
    rw [if_neg Bool.false_ne_true]
    refine resM_all (TourD.back_dec h) (fun y => t.post y ≤ t.post x ∧ (t.inn x → t.inn (t.up y))) _ ?_ ?_ _ x (Nat.le_refl _) hx ⟨Nat.le_refl _, TourD.inn_up h hx hr⟩
    · rintro y z hy ⟨hp, hi⟩ hs
      obtain ⟨_, hlt⟩ := TourD.back_dec h y z hy hs
      unfold TourD.backS at hs
      split at hs
      · split at hs
        · cases hs
        · rename_i hc
          split at hs
          · cases hs
          · split at hs
            · cases hs
            · rename_i hrr
              cases hs
              rw [Bool.not_eq_true, Bool.or_eq_false_iff] at hc
              have hu := (TourD.up_ok h hy).resolve_left (beq_eq_false_iff_ne.1 hc.2)
              exact ⟨by omega, fun k => TourD.inn_up h hu (Bool.not_eq_true _ ▸ hrr) (hi k)⟩
      · rename_i h0
        split at hs
        · cases hs
        · cases hs
          have hn0 : t.next y ≠ 0 := fun e => h0 (beq_iff_eq.2 e)
          rcases TourD.next_ok h hy with a | ⟨a, b, _⟩
          · exact absurd a.1 hn0
          · exact ⟨by omega, TourD.bottom_inn h _ a (fun k => by rw [b]; exact hi k)⟩
    · rintro y r hy ⟨hp, hi⟩ hs
      unfold TourD.backS at hs
      split at hs
      · rename_i hz
        have hz := eq_of_beq hz
        split at hs
        · cases hs; exact .inl rfl
        · rename_i hc
          rw [Bool.not_eq_true, Bool.or_eq_false_iff] at hc
          have hu := (TourD.up_ok h hy).resolve_left (beq_eq_false_iff_ne.1 hc.2)
          split at hs
          · rename_i ha
            cases hs
            exact .inr ⟨hu, ha, hi, by have := TourD.up_postW h hy hz; omega⟩
          · split at hs
            · cases hs; exact .inl rfl
            · cases hs
      · rename_i h0
        have hn0 : t.next y ≠ 0 := fun e => h0 (beq_iff_eq.2 e)
        split at hs
        · rename_i ha
          cases hs
          obtain ⟨hb, hlt⟩ := TourD.back_next h hy hn0
          rcases TourD.next_ok h hy with a | ⟨a, b, _⟩
          · exact absurd a.1 hn0
          · exact .inr ⟨hb, ha, fun k => TourD.inn_of h hb (TourD.bottom_inn h (t.inn x) a (fun k => by rw [b]; exact hi k) k), by omega⟩
        · cases hs
end
/-- Where one comes to, one behind the other. -/
def reachN (f : Int → Int) : Nat → Int → List Int
  | 0, _ => []
  | n + 1, x => if f x == 0 then [] else f x :: reachN f n (f x)
theorem reachN_stable (f : Int → Int) (μ : Int → Nat) (I : Int → Prop) (h : ∀ x, I x → f x ≠ 0 → I (f x) ∧ μ (f x) < μ x) : ∀ (n m : Nat) (x : Int), I x → μ x ≤ n → μ x ≤ m → reachN f n x = reachN f m x
  | 0, 0, _, _, _, _ => rfl
  | 0, m + 1, x, hi, h1, _ => by
    rw [reachN, reachN]
    by_cases h0 : f x = 0
    · rw [btrue h0, if_pos rfl]
    · have := (h x hi h0).2; omega
  | n + 1, 0, x, hi, _, h2 => by
    rw [reachN, reachN]
    by_cases h0 : f x = 0
    · rw [btrue h0, if_pos rfl]
    · have := (h x hi h0).2; omega
  | n + 1, m + 1, x, hi, h1, h2 => by
    rw [reachN, reachN]
    by_cases h0 : f x = 0
    · rw [btrue h0, if_pos rfl, if_pos rfl]
    · rw [bfalse h0, if_neg Bool.false_ne_true, if_neg Bool.false_ne_true]
      obtain ⟨a, b⟩ := h x hi h0
      rw [reachN_stable f μ I h n m (f x) a (by omega) (by omega)]
theorem reachN_len (f : Int → Int) : ∀ (n : Nat) (x : Int), (reachN f n x).length ≤ n
  | 0, _ => Nat.le_refl _
  | n + 1, x => by
    rw [reachN]
    split
    · exact Nat.zero_le _
    · rw [List.length_cons]
      have := reachN_len f n (f x)
      omega
end Go.Proofs.YteflknfejjdkfabGreat

namespace Go.Proofs.YteflknfejjdkfabGreat
open Go.RowKit Go.Lib

set_option maxRecDepth 100000 in
set_option maxHeartbeats 8000000 in
theorem refDown_any (b off cap : Nat) (ns : List NodeD) (root cur : Int) (sh : Nat) (ro : Option Addr) (rc : Nat) (rules : List RuleD) (rev : Bool) (w : World) (hR : RightF ns) (hF : FAt w b off cap ns) (hr : thereB ns.length root = true) (hc : thereB ns.length cur = true) (hs : sh < 4294967296) (hru : RdR w (.slice ro rules.length rc) rules) (hf : filterE rules = 0) :
    Calls Tryz.prog 18 #[.agg #[.slice (some ⟨b, off, none⟩) ns.length cap], .agg #[.int .i64 root, .int .i64 cur, .int .u32 (sh : Int), .slice ro rules.length rc], .bool rev] w fun e w' => e = .returned (.int .i64 ((tourD ns root sh rules rev).downD cur)) ∧ Below w.heap.size w w' := by
  have HC := hid (ref13 b off cap ns root cur sh ro rc rules w hR hF hs hru (filterE_ok hf).1)
  have HO := hid (tourD_ok hR hr sh rules rev)
  have HA0 : AtF w (.slice (some ⟨b, off, none⟩) ns.length cap) (.int .i64 root) (.int .i64 cur) (.int .u32 (sh : Int)) (.slice ro rules.length rc) ((w.alloc (.cells #[.slice (some ⟨b, off, none⟩) ns.length cap] 24)).alloc (.cells #[.int .i64 root, .int .i64 cur, .int .u32 (sh : Int), .slice ro rules.length rc] 30)) := AtF.first _ _ _ _ _ _
  have HV3 : Hid (∀ x, thereB ns.length x = true → verdictOf ns sh rules x = 1 ∨ verdictOf ns sh rules x = 2 ∨ verdictOf ns sh rules x = 3) := fun x hx => by
    obtain ⟨j, hj, rfl⟩ := there_idx hx
    rw [verdictOf_at ns sh rules j hj]
    exact verdictD_of sh _ _ hf
  obtain ⟨R, hRR⟩ : ∃ R, (tourD ns root sh rules rev).downD cur = R := ⟨_, rfl⟩
  rw [hRR]
  have HRR := hid hRR
  have HCU := hid hc
  have HRO := hid hr
  clear hR hF hru hRR hf hr hc
  have hK := HC.out.kid rev cur _ HA0
  go_enter Tryz.func18, Tryz.ntmps18
  go_wp2_with fail
  refine hK.mono ?_
  rintro e v0 ⟨rfl, hA0⟩
  have HK0 := hid (HO.out.hangs.kid_or HCU.out)
  clear hK HA0
  go_wp2
  go_loopw [7] (fun t wr => ∃ x : Int, t = .int .i64 x ∧ ((x = 0 ∧ R = 0) ∨ (thereB ns.length x = true ∧ Hid ((tourD ns root sh rules rev).downR cur x = R))) ∧ AtF w (.slice (some ⟨b, off, none⟩) ns.length cap) (.int .i64 root) (.int .i64 cur) (.int .u32 (sh : Int)) (.slice ro rules.length rc) wr) (fun t _ => rankH ns (parentD ns) (hangD ns rev) (RowKit.intOf t))
  case atStart =>
    refine ⟨_, rfl, ?_, hA0⟩
    rcases HK0.out with h0 | h1
    · have h0' : kidH (hangD ns rev) cur = 0 := h0
      exact .inl ⟨h0', by rw [← HRR.out]; show (tourD ns root sh rules rev).downR cur (kidH (hangD ns rev) cur) = 0; rw [h0']; exact TourD.down_end cur rfl⟩
    · exact .inr ⟨h1.1, HRR⟩
  case round =>
    obtain ⟨x, rfl, hx, hA⟩ := hrel
    clear HRR HK0 hA0
    obtain ⟨q0, q1, q2, q3, q4⟩ := hA.cells
    rcases hx with ⟨rfl, rfl⟩ | ⟨hx, HXR⟩
    · go_wp2
      go_ret
      exact ⟨rfl, hA.below⟩
    · have e0 : (x != 0) = true := bne_t (there_ne hx)
      have hV := HC.out.ver x wr hx hA
      have HX := hid hx
      go_wp2_with fail
      refine hV.mono ?_
      rintro e v1 ⟨rfl, hA1⟩
      clear hV q0 q1 q2 q3 q4
      obtain ⟨q0, q1, q2, q3, q4⟩ := hA1.cells
      by_cases hv : verdictOf ns sh rules x = 1
      · have hRx : R = x := HXR.out.symm.trans (TourD.down_end cur (by show (x == 0 || verdictOf ns sh rules x == 1) = true; rw [hv]; exact Bool.or_true _))
        subst hRx
        rw [hv]
        clear HXR HX HV3 hv hx hA
        go_wp2
        go_ret
        exact ⟨rfl, hA1.below⟩
      · have g1 : ((verdictOf ns sh rules x : Int) == 1) = false := ver_ne hv
        have hacc : (tourD ns root sh rules rev).acc x = false := beq_eq_false_iff_ne.2 hv
        by_cases h3 : verdictOf ns sh rules x = 3
        · have hin : (tourD ns root sh rules rev).into x = kidH (hangD ns rev) x := by
            unfold TourD.into
            rw [show (tourD ns root sh rules rev).rej x = false by show (verdictOf ns sh rules x == 2) = false; rw [h3]; rfl]
            rfl
          have hK := HC.out.kid rev x v1 hA1
          clear g1 hv
          rw [h3]
          clear h3
          go_wp2_with fail
          refine hK.mono ?_
          rintro e v2 ⟨rfl, hA2⟩
          clear hK q0 q1 q2 q3 q4
          obtain ⟨q0, q1, q2, q3, q4⟩ := hA2.cells
          by_cases hk0 : kidH (hangD ns rev) x = 0
          · have k0 : (kidH (hangD ns rev) x != 0) = false := bne_f hk0
            have hinto : (tourD ns root sh rules rev).into x = 0 := hin.trans hk0
            clear hin hk0 hA hA1
            have HQ := hid (TourD.down_past HO.out cur HX.out hacc hinto)
            have HQl := hid (TourD.past_lt HO.out cur HX.out)
            obtain ⟨Q, hQ⟩ : ∃ Q, (tourD ns root sh rules rev).past x cur = Q := ⟨_, rfl⟩
            rw [hQ] at HQ HQl
            have HQe := hid hQ
            clear hQ hacc hinto
            go_wp2
            go_loopw [7] (fun t wr => ∃ y : Int, t = .int .i64 y ∧ thereB ns.length y = true ∧ Hid ((tourD ns root sh rules rev).past y cur = Q) ∧ AtF w (.slice (some ⟨b, off, none⟩) ns.length cap) (.int .i64 root) (.int .i64 cur) (.int .u32 (sh : Int)) (.slice ro rules.length rc) wr) (fun t _ => lenH ns (parentD ns) (RowKit.intOf t))
            case atStart => exact ⟨x, rfl, HX.out, HQe, hA2⟩
            case round =>
              obtain ⟨y, rfl, hy, hyQ, hB⟩ := hrel
              clear q0 q1 q2 q3 q4
              obtain ⟨q0, q1, q2, q3, q4⟩ := hB.cells
              have e2 : (y != 0) = true := bne_t (there_ne hy)
              have hN := HC.out.bes rev y wr hy hB
              go_wp2_with fail
              refine hN.mono ?_
              rintro e v4 ⟨rfl, hB4⟩
              clear hN q0 q1 q2 q3 q4
              obtain ⟨q0, q1, q2, q3, q4⟩ := hB4.cells
              by_cases hn0 : nextH (parentD ns) (hangD ns rev) y = 0
              · have k1 : (nextH (parentD ns) (hangD ns rev) y != 0) = false := bne_f hn0
                have hP := HC.out.par y v4 hB4
                have Hnone := hid (fun hc => TourD.past_none HO.out cur hy hn0 hc)
                have Hup := hid (fun hc => TourD.past_up HO.out cur hy hn0 hc)
                have Hpt := hid (HO.out.hangs.up_or hy)
                have hlen : lenH ns (parentD ns) y = lenH ns (parentD ns) (parentD ns y) + 1 := HO.out.hangs.up_len hy
                have HQR : Hid (Q = 0 → R = 0) := fun h0 => by rw [← HXR.out, HQ.out, h0]; exact TourD.down_end cur rfl
                clear hn0
                go_wp2_with fail
                refine hP.mono ?_
                rintro e v5 ⟨rfl, hB5⟩
                clear hP q0 q1 q2 q3 q4
                obtain ⟨q0, q1, q2, q3, q4⟩ := hB5.cells
                by_cases hp0 : parentD ns y = 0
                · have g0 : (parentD ns y == 0) = true := beq_iff_eq.2 hp0
                  have hR0 : R = 0 := HQR.out (hyQ.out.symm.trans (Hnone.out (.inl hp0)))
                  subst hR0
                  clear hp0
                  clear Hnone Hup Hpt HQR hyQ hlen
                  generalize parentD ns y = P at *
                  go_wp2
                  go_ret
                  exact ⟨rfl, hB5.below⟩
                · have g0 : (parentD ns y == 0) = false := beq_eq_false_iff_ne.2 hp0
                  by_cases hp1 : parentD ns y = root
                  · have g1 : (parentD ns y == root) = true := beq_iff_eq.2 hp1
                    have hR0 : R = 0 := HQR.out (hyQ.out.symm.trans (Hnone.out (.inr (.inl hp1))))
                    subst hR0
                    clear hp0 hp1
                    clear Hnone Hup Hpt HQR hyQ hlen
                    generalize parentD ns y = P at *
                    go_wp2
                    go_ret
                    exact ⟨rfl, hB5.below⟩
                  · have g1 : (parentD ns y == root) = false := beq_eq_false_iff_ne.2 hp1
                    by_cases hp2 : parentD ns y = cur
                    · have g2 : (parentD ns y == cur) = true := beq_iff_eq.2 hp2
                      have hR0 : R = 0 := HQR.out (hyQ.out.symm.trans (Hnone.out (.inr (.inr hp2))))
                      subst hR0
                      clear hp0 hp1 hp2
                      clear Hnone Hup Hpt HQR hyQ hlen
                      generalize parentD ns y = P at *
                      go_wp2
                      go_ret
                      exact ⟨rfl, hB5.below⟩
                    · have g2 : (parentD ns y == cur) = false := beq_eq_false_iff_ne.2 hp2
                      have HPt := hid (Hpt.out.resolve_left hp0)
                      have HPQ := hid ((Hup.out (by show (parentD ns y == root || parentD ns y == cur) = false; rw [g1, g2]; rfl)).symm.trans hyQ.out)
                      have hl0 : lenH ns (parentD ns) (parentD ns y) < lenH ns (parentD ns) y := by omega
                      clear hp0 hp1 hp2 Hnone Hup Hpt HQR hyQ hlen
                      go_wp2
                      go_roundw
                      case rel => exact ⟨parentD ns y, rfl, HPt.out, HPQ, hB5⟩
                      case measure => exact hl0
              · have k1 : (nextH (parentD ns) (hangD ns rev) y != 0) = true := bne_t hn0
                have hQN : Q = nextH (parentD ns) (hangD ns rev) y := hyQ.out.symm.trans (TourD.past_next cur hy hn0)
                subst hQN
                have hle : rankH ns (parentD ns) (hangD ns rev) (nextH (parentD ns) (hangD ns rev) y) < rankH ns (parentD ns) (hangD ns rev) x := HQl.out.2
                have HNt : Hid (thereB ns.length (nextH (parentD ns) (hangD ns rev) y) = true) := HQl.out.1.resolve_left hn0
                have HNR := hid (HQ.out.symm.trans HXR.out)
                clear hn0 hyQ HQ HQl HQe
                go_wp2
                go_roundw
                case rel => exact ⟨nextH (parentD ns) (hangD ns rev) y, rfl, .inr ⟨HNt.out, HNR⟩, hB4⟩
                case measure => exact hle
          · have k0 : (kidH (hangD ns rev) x != 0) = true := bne_t hk0
            have hK2 := HC.out.kid rev x v2 hA2
            have HG := hid (TourD.down_into HO.out cur hx hacc (by rw [hin]; exact hk0))
            have HKd := hid ((HO.out.hangs.kid_or hx).resolve_left hk0)
            rw [hin] at HG
            clear hin hk0 hA hA1 hacc
            go_wp2_with fail
            refine hK2.mono ?_
            rintro e v3 ⟨rfl, hA3⟩
            clear hK2 q0 q1 q2 q3 q4
            obtain ⟨q0, q1, q2, q3, q4⟩ := hA3.cells
            go_wp2
            go_roundw
            case rel => exact ⟨kidH (hangD ns rev) x, rfl, .inr ⟨HKd.out.1, HG.out.symm.trans HXR.out⟩, hA3⟩
            case measure =>
              have : rankH ns (parentD ns) (hangD ns rev) (kidH (hangD ns rev) x) + 1 = rankH ns (parentD ns) (hangD ns rev) x := HKd.out.2.2
              show rankH ns (parentD ns) (hangD ns rev) (kidH (hangD ns rev) x) < rankH ns (parentD ns) (hangD ns rev) x
              omega
        · have g3 : ((verdictOf ns sh rules x : Int) == 3) = false := ver_ne h3
          have hinto : (tourD ns root sh rules rev).into x = 0 := by
            unfold TourD.into
            rw [show (tourD ns root sh rules rev).rej x = true by show (verdictOf ns sh rules x == 2) = true; rw [((HV3.out x hx).resolve_left hv).resolve_right h3]; rfl]
            rfl
          clear hv h3 hA HV3
          have HQ := hid (TourD.down_past HO.out cur HX.out hacc hinto)
          have HQl := hid (TourD.past_lt HO.out cur HX.out)
          obtain ⟨Q, hQ⟩ : ∃ Q, (tourD ns root sh rules rev).past x cur = Q := ⟨_, rfl⟩
          rw [hQ] at HQ HQl
          have HQe := hid hQ
          clear hQ hacc hinto
          go_wp2
          go_loopw [7] (fun t wr => ∃ y : Int, t = .int .i64 y ∧ thereB ns.length y = true ∧ Hid ((tourD ns root sh rules rev).past y cur = Q) ∧ AtF w (.slice (some ⟨b, off, none⟩) ns.length cap) (.int .i64 root) (.int .i64 cur) (.int .u32 (sh : Int)) (.slice ro rules.length rc) wr) (fun t _ => lenH ns (parentD ns) (RowKit.intOf t))
          case atStart => exact ⟨x, rfl, HX.out, HQe, hA1⟩
          case round =>
            obtain ⟨y, rfl, hy, hyQ, hB⟩ := hrel
            clear q0 q1 q2 q3 q4
            obtain ⟨q0, q1, q2, q3, q4⟩ := hB.cells
            have e2 : (y != 0) = true := bne_t (there_ne hy)
            have hN := HC.out.bes rev y wr hy hB
            go_wp2_with fail
            refine hN.mono ?_
            rintro e v4 ⟨rfl, hB4⟩
            clear hN q0 q1 q2 q3 q4
            obtain ⟨q0, q1, q2, q3, q4⟩ := hB4.cells
            by_cases hn0 : nextH (parentD ns) (hangD ns rev) y = 0
            · have k1 : (nextH (parentD ns) (hangD ns rev) y != 0) = false := bne_f hn0
              have hP := HC.out.par y v4 hB4
              have Hnone := hid (fun hc => TourD.past_none HO.out cur hy hn0 hc)
              have Hup := hid (fun hc => TourD.past_up HO.out cur hy hn0 hc)
              have Hpt := hid (HO.out.hangs.up_or hy)
              have hlen : lenH ns (parentD ns) y = lenH ns (parentD ns) (parentD ns y) + 1 := HO.out.hangs.up_len hy
              have HQR : Hid (Q = 0 → R = 0) := fun h0 => by rw [← HXR.out, HQ.out, h0]; exact TourD.down_end cur rfl
              clear hn0
              go_wp2_with fail
              refine hP.mono ?_
              rintro e v5 ⟨rfl, hB5⟩
              clear hP q0 q1 q2 q3 q4
              obtain ⟨q0, q1, q2, q3, q4⟩ := hB5.cells
              by_cases hp0 : parentD ns y = 0
              · have g0 : (parentD ns y == 0) = true := beq_iff_eq.2 hp0
                have hR0 : R = 0 := HQR.out (hyQ.out.symm.trans (Hnone.out (.inl hp0)))
                subst hR0
                clear hp0
                clear Hnone Hup Hpt HQR hyQ hlen
                generalize parentD ns y = P at *
                go_wp2
                go_ret
                exact ⟨rfl, hB5.below⟩
              · have g0 : (parentD ns y == 0) = false := beq_eq_false_iff_ne.2 hp0
                by_cases hp1 : parentD ns y = root
                · have g1 : (parentD ns y == root) = true := beq_iff_eq.2 hp1
                  have hR0 : R = 0 := HQR.out (hyQ.out.symm.trans (Hnone.out (.inr (.inl hp1))))
                  subst hR0
                  clear hp0 hp1
                  clear Hnone Hup Hpt HQR hyQ hlen
                  generalize parentD ns y = P at *
                  go_wp2
                  go_ret
                  exact ⟨rfl, hB5.below⟩
                · have g1 : (parentD ns y == root) = false := beq_eq_false_iff_ne.2 hp1
                  by_cases hp2 : parentD ns y = cur
                  · have g2 : (parentD ns y == cur) = true := beq_iff_eq.2 hp2
                    have hR0 : R = 0 := HQR.out (hyQ.out.symm.trans (Hnone.out (.inr (.inr hp2))))
                    subst hR0
                    clear hp0 hp1 hp2
                    clear Hnone Hup Hpt HQR hyQ hlen
                    generalize parentD ns y = P at *
                    go_wp2
                    go_ret
                    exact ⟨rfl, hB5.below⟩
                  · have g2 : (parentD ns y == cur) = false := beq_eq_false_iff_ne.2 hp2
                    have HPt := hid (Hpt.out.resolve_left hp0)
                    have HPQ := hid ((Hup.out (by show (parentD ns y == root || parentD ns y == cur) = false; rw [g1, g2]; rfl)).symm.trans hyQ.out)
                    have hl0 : lenH ns (parentD ns) (parentD ns y) < lenH ns (parentD ns) y := by omega
                    clear hp0 hp1 hp2 Hnone Hup Hpt HQR hyQ hlen
                    go_wp2
                    go_roundw
                    case rel => exact ⟨parentD ns y, rfl, HPt.out, HPQ, hB5⟩
                    case measure => exact hl0
            · have k1 : (nextH (parentD ns) (hangD ns rev) y != 0) = true := bne_t hn0
              have hQN : Q = nextH (parentD ns) (hangD ns rev) y := hyQ.out.symm.trans (TourD.past_next cur hy hn0)
              subst hQN
              have hle : rankH ns (parentD ns) (hangD ns rev) (nextH (parentD ns) (hangD ns rev) y) < rankH ns (parentD ns) (hangD ns rev) x := HQl.out.2
              have HNt : Hid (thereB ns.length (nextH (parentD ns) (hangD ns rev) y) = true) := HQl.out.1.resolve_left hn0
              have HNR := hid (HQ.out.symm.trans HXR.out)
              clear hn0 hyQ HQ HQl HQe
              go_wp2
              go_roundw
              case rel => exact ⟨nextH (parentD ns) (hangD ns rev) y, rfl, .inr ⟨HNt.out, HNR⟩, hB4⟩
              case measure => exact hle
end Go.Proofs.YteflknfejjdkfabGreat

namespace Go.Proofs.YteflknfejjdkfabGreat
open Go.RowKit Go.Lib

set_option maxRecDepth 100000 in
set_option maxHeartbeats 8000000 in
theorem refSide_any (b off cap : Nat) (ns : List NodeD) (root cur : Int) (sh : Nat) (ro : Option Addr) (rc : Nat) (rules : List RuleD) (rev : Bool) (w : World) (hR : RightF ns) (hF : FAt w b off cap ns) (hr : thereB ns.length root = true) (hc : thereB ns.length cur = true) (hs : sh < 4294967296) (hru : RdR w (.slice ro rules.length rc) rules) (hf : filterE rules = 0) :
    Calls Tryz.prog 19 #[.agg #[.slice (some ⟨b, off, none⟩) ns.length cap], .agg #[.int .i64 root, .int .i64 cur, .int .u32 (sh : Int), .slice ro rules.length rc], .bool rev] w fun e w' => e = .returned (.int .i64 ((tourD ns root sh rules rev).alongD cur)) ∧ Below w.heap.size w w' := by
  have HC := hid (ref13 b off cap ns root cur sh ro rc rules w hR hF hs hru (filterE_ok hf).1)
  have HO := hid (tourD_ok hR hr sh rules rev)
  have HA0 : AtF w (.slice (some ⟨b, off, none⟩) ns.length cap) (.int .i64 root) (.int .i64 cur) (.int .u32 (sh : Int)) (.slice ro rules.length rc) ((w.alloc (.cells #[.slice (some ⟨b, off, none⟩) ns.length cap] 24)).alloc (.cells #[.int .i64 root, .int .i64 cur, .int .u32 (sh : Int), .slice ro rules.length rc] 30)) := AtF.first _ _ _ _ _ _
  obtain ⟨R, hRR⟩ : ∃ R, (tourD ns root sh rules rev).alongD cur = R := ⟨_, rfl⟩
  rw [hRR]
  have HRR := hid hRR
  have HCU := hid hc
  have HRO := hid hr
  clear hR hF hru hRR hf hr hc
  by_cases hcr : cur = root
  · have hR0 : R = 0 := HRR.out.symm.trans (by unfold TourD.alongD; rw [show (cur == (tourD ns root sh rules rev).root) = true from beq_iff_eq.2 hcr]; rfl)
    subst hR0
    have g0 : (cur == root) = true := beq_iff_eq.2 hcr
    clear HC HO HRR HCU HRO hcr
    go_enter Tryz.func19, Tryz.ntmps19
    go_wp2
    go_ret
    exact ⟨rfl, HA0.below⟩
  have g0 : (cur == root) = false := beq_eq_false_iff_ne.2 hcr
  have HRS : Hid ((tourD ns root sh rules rev).alongR cur ((tourD ns root sh rules rev).next cur) = R) := by
    have h := HRR.out
    unfold TourD.alongD at h
    rw [show (cur == (tourD ns root sh rules rev).root) = false from beq_eq_false_iff_ne.2 hcr, if_neg Bool.false_ne_true] at h
    exact h
  clear HRR hcr
  go_enter Tryz.func19, Tryz.ntmps19
  go_wp2
  go_loopw [7] (fun t wr => ∃ x : Int, t = .int .i64 x ∧ thereB ns.length x = true ∧ Hid ((tourD ns root sh rules rev).alongR x ((tourD ns root sh rules rev).next x) = R) ∧ AtF w (.slice (some ⟨b, off, none⟩) ns.length cap) (.int .i64 root) (.int .i64 cur) (.int .u32 (sh : Int)) (.slice ro rules.length rc) wr) (fun t _ => (tourD ns root sh rules rev).alongM (RowKit.intOf t, (tourD ns root sh rules rev).next (RowKit.intOf t)))
  case atStart => exact ⟨cur, rfl, HCU.out, HRS, HA0⟩
  case round =>
    obtain ⟨x, rfl, hx, HXR, hA⟩ := hrel
    clear HRS HA0 g0
    obtain ⟨q0, q1, q2, q3, q4⟩ := hA.cells
    have hN := HC.out.bes rev x wr hx hA
    have HX := hid hx
    have HXI : Hid ((tourD ns root sh rules rev).alongI (x, (tourD ns root sh rules rev).next x)) := ⟨hx, (TourD.next_ok HO.out hx).imp (fun a => a.1) (fun a => a.1), fun h => h⟩
    go_wp2_with fail
    refine hN.mono ?_
    rintro e v1 ⟨rfl, hA1⟩
    clear hN q0 q1 q2 q3 q4
    obtain ⟨q0, q1, q2, q3, q4⟩ := hA1.cells
    obtain ⟨M, hM⟩ : ∃ M, (tourD ns root sh rules rev).alongM (x, (tourD ns root sh rules rev).next x) = M := ⟨_, rfl⟩
    have HM := hid hM
    clear hM hA hx
    obtain ⟨wo, rfl⟩ : ∃ wo : World, wo = wr := ⟨_, rfl⟩
    go_wp2
    go_loopw [7, 8] (fun t u wr => ∃ y s : Int, t = .int .i64 y ∧ u = .int .i64 s ∧ (s = 0 ∨ thereB ns.length s = true) ∧ Hid ((tourD ns root sh rules rev).alongI (y, s)) ∧ Hid ((tourD ns root sh rules rev).alongR y s = R) ∧ Hid ((tourD ns root sh rules rev).alongM (y, s) ≤ M) ∧ AtF w (.slice (some ⟨b, off, none⟩) ns.length cap) (.int .i64 root) (.int .i64 cur) (.int .u32 (sh : Int)) (.slice ro rules.length rc) wr) (fun t u _ => (tourD ns root sh rules rev).alongM (RowKit.intOf t, RowKit.intOf u))
    case atStart => exact ⟨x, _, rfl, rfl, HXI.out.2.1, HXI, HXR, Nat.le_of_eq HM.out, hA1⟩
    case round =>
      obtain ⟨y, s, rfl, rfl, hs, HI, HYR, HYM, hB⟩ := hrel
      clear q0 q1 q2 q3 q4
      obtain ⟨q0, q1, q2, q3, q4⟩ := hB.cells
      rcases hs with rfl | hs
      · have hP := HC.out.par y wr hB
        have hy := HI.out.1
        have Hpt := hid (HO.out.hangs.up_or hy)
        have Hstop : Hid (((tourD ns root sh rules rev).up y == 0 || (tourD ns root sh rules rev).up y == (tourD ns root sh rules rev).root || (tourD ns root sh rules rev).acc ((tourD ns root sh rules rev).up y)) = true → R = 0) := fun h => HYR.out.symm.trans (TourD.along_stop h)
        have Hgo := hid (fun h => TourD.side_up HO.out hy (HI.out.2.2 rfl) h)
        clear hy
        go_wp2_with fail
        refine hP.mono ?_
        rintro e v2 ⟨rfl, hB2⟩
        clear hP q0 q1 q2 q3 q4
        obtain ⟨q0, q1, q2, q3, q4⟩ := hB2.cells
        by_cases hp0 : parentD ns y = 0
        · have hR0 : R = 0 := Hstop.out (by show (parentD ns y == 0 || _ || _) = true; rw [beq_iff_eq.2 hp0]; rfl)
          subst hR0
          have k0 : (parentD ns y == 0) = true := beq_iff_eq.2 hp0
          clear Hpt Hstop Hgo hp0
          go_wp2
          go_ret
          exact ⟨rfl, hB2.below⟩
        · have k0 : (parentD ns y == 0) = false := beq_eq_false_iff_ne.2 hp0
          by_cases hp1 : parentD ns y = root
          · have hR0 : R = 0 := Hstop.out (by show (parentD ns y == 0 || parentD ns y == root || _) = true; rw [beq_iff_eq.2 hp1, Bool.or_true]; rfl)
            subst hR0
            have k1 : (parentD ns y == root) = true := beq_iff_eq.2 hp1
            clear Hpt Hstop Hgo hp0 hp1
            go_wp2
            go_ret
            exact ⟨rfl, hB2.below⟩
          · have k1 : (parentD ns y == root) = false := beq_eq_false_iff_ne.2 hp1
            have hpt := Hpt.out.resolve_left hp0
            have hV := HC.out.ver (parentD ns y) v2 hpt hB2
            have HPt := hid hpt
            clear Hpt hp0 hp1 hpt
            go_wp2_with fail
            refine hV.mono ?_
            rintro e v3 ⟨rfl, hB3⟩
            clear hV q0 q1 q2 q3 q4
            obtain ⟨q0, q1, q2, q3, q4⟩ := hB3.cells
            by_cases hv : verdictOf ns sh rules (parentD ns y) = 1
            · have hR0 : R = 0 := Hstop.out (by show (parentD ns y == 0 || parentD ns y == root || verdictOf ns sh rules (parentD ns y) == 1) = true; rw [hv]; exact Bool.or_true _)
              subst hR0
              rw [hv]
              clear Hstop Hgo hv
              go_wp2
              go_ret
              exact ⟨rfl, hB3.below⟩
            · have g1 : ((verdictOf ns sh rules (parentD ns y) : Int) == 1) = false := ver_ne hv
              have HG := hid (Hgo.out (by show (parentD ns y == 0 || parentD ns y == root || verdictOf ns sh rules (parentD ns y) == 1) = false; rw [k0, k1, beq_eq_false_iff_ne.2 hv]; rfl))
              clear Hstop Hgo hv
              go_wp2
              go_roundw
              case rel => exact ⟨parentD ns y, rfl, HPt.out, HG.out.1.symm.trans HYR.out, hB3⟩
              case measure =>
                have h1 := HG.out.2
                have h2 := HYM.out
                have h3 := HM.out
                show (tourD ns root sh rules rev).alongM (parentD ns y, (tourD ns root sh rules rev).next (parentD ns y)) < (tourD ns root sh rules rev).alongM (x, (tourD ns root sh rules rev).next x)
                rw [h3]
                exact Nat.lt_of_lt_of_le h1 h2
      · have e0 : (s != 0) = true := bne_t (there_ne hs)
        have hV := HC.out.ver s wr hs hB
        have HS := hid hs
        have Hhit : Hid ((tourD ns root sh rules rev).acc s = true → R = s) := fun h => HYR.out.symm.trans (TourD.along_hit y (there_ne hs) h)
        have Hgo := hid (fun h => TourD.side_go HO.out HI.out.1 hs h)
        go_wp2_with fail
        refine hV.mono ?_
        rintro e v2 ⟨rfl, hB2⟩
        clear hV q0 q1 q2 q3 q4
        obtain ⟨q0, q1, q2, q3, q4⟩ := hB2.cells
        by_cases hv : verdictOf ns sh rules s = 1
        · have hRs := Hhit.out (by show (verdictOf ns sh rules s == 1) = true; rw [hv]; rfl)
          subst hRs
          rw [hv]
          clear Hhit Hgo hv HI HYR HYM HXI HXR
          go_wp2
          go_ret
          exact ⟨rfl, hB2.below⟩
        · have g1 : ((verdictOf ns sh rules s : Int) == 1) = false := ver_ne hv
          have HG := hid (Hgo.out (beq_eq_false_iff_ne.2 hv))
          have hK := HC.out.kid rev s v2 hB2
          have Has : Hid ((tourD ns root sh rules rev).aside s = if verdictOf ns sh rules s = 2 ∨ kidH (hangD ns rev) s = 0 then nextH (parentD ns) (hangD ns rev) s else kidH (hangD ns rev) s) := by
            show (tourD ns root sh rules rev).aside s = _
            by_cases h2 : verdictOf ns sh rules s = 2
            · have hi0 : (tourD ns root sh rules rev).into s = 0 := by unfold TourD.into; rw [show (tourD ns root sh rules rev).rej s = true from beq_iff_eq.2 h2, if_pos rfl]
              unfold TourD.aside
              rw [hi0, if_pos (show ((0 : Int) == 0) = true from rfl), if_pos (show verdictOf ns sh rules s = 2 ∨ _ from .inl h2)]
              rfl
            · have hin : (tourD ns root sh rules rev).into s = kidH (hangD ns rev) s := by unfold TourD.into; rw [show (tourD ns root sh rules rev).rej s = false from beq_eq_false_iff_ne.2 h2, if_neg Bool.false_ne_true]; rfl
              unfold TourD.aside
              rw [hin]
              by_cases h0 : kidH (hangD ns rev) s = 0
              · rw [beq_iff_eq.2 h0, if_pos rfl, if_pos (.inr h0)]; rfl
              · rw [beq_eq_false_iff_ne.2 h0, if_neg Bool.false_ne_true, if_neg (fun h => h.elim h2 h0)]
          clear hv Hhit Hgo
          go_wp2_with fail
          refine hK.mono ?_
          rintro e v3 ⟨rfl, hB3⟩
          clear hK q0 q1 q2 q3 q4
          obtain ⟨q0, q1, q2, q3, q4⟩ := hB3.cells
          by_cases h2 : verdictOf ns sh rules s = 2
          · have g2 : ((verdictOf ns sh rules s : Int) == 2) = true := ver_eq h2
            have HA2 := hid (Has.out.trans (if_pos (.inl h2)))
            have hN := HC.out.bes rev s v3 hs hB3
            rw [HA2.out] at HG
            clear Has HA2 h2
            go_wp2_with fail
            refine hN.mono ?_
            rintro e v4 ⟨rfl, hB4⟩
            clear hN q0 q1 q2 q3 q4
            obtain ⟨q0, q1, q2, q3, q4⟩ := hB4.cells
            go_wp2
            go_roundw
            case rel => exact ⟨s, _, rfl, rfl, HG.out.1.2.1, HG.out.1, HG.out.2.1.symm.trans HYR.out, Nat.le_trans (Nat.le_of_lt HG.out.2.2) HYM.out, hB4⟩
            case measure => exact HG.out.2.2
          · have g2 : ((verdictOf ns sh rules s : Int) == 2) = false := ver_ne h2
            by_cases h0 : kidH (hangD ns rev) s = 0
            · have k0 : (kidH (hangD ns rev) s == 0) = true := beq_iff_eq.2 h0
              have HA2 := hid (Has.out.trans (if_pos (.inr h0)))
              have hN := HC.out.bes rev s v3 hs hB3
              rw [HA2.out] at HG
              clear Has HA2 h2 h0
              go_wp2_with fail
              refine hN.mono ?_
              rintro e v4 ⟨rfl, hB4⟩
              clear hN q0 q1 q2 q3 q4
              obtain ⟨q0, q1, q2, q3, q4⟩ := hB4.cells
              go_wp2
              go_roundw
              case rel => exact ⟨s, _, rfl, rfl, HG.out.1.2.1, HG.out.1, HG.out.2.1.symm.trans HYR.out, Nat.le_trans (Nat.le_of_lt HG.out.2.2) HYM.out, hB4⟩
              case measure => exact HG.out.2.2
            · have k0 : (kidH (hangD ns rev) s == 0) = false := beq_eq_false_iff_ne.2 h0
              have HA2 := hid (Has.out.trans (if_neg (fun h => h.elim h2 h0)))
              rw [HA2.out] at HG
              clear Has HA2 h2 h0
              go_wp2
              go_roundw
              case rel => exact ⟨s, _, rfl, rfl, HG.out.1.2.1, HG.out.1, HG.out.2.1.symm.trans HYR.out, Nat.le_trans (Nat.le_of_lt HG.out.2.2) HYM.out, hB3⟩
              case measure => exact HG.out.2.2
end Go.Proofs.YteflknfejjdkfabGreat

namespace Go.Proofs.YteflknfejjdkfabGreat
open Go.RowKit Go.Lib

set_option maxRecDepth 100000 in
set_option maxHeartbeats 8000000 in
theorem refBack_any (b off cap : Nat) (ns : List NodeD) (root cur : Int) (sh : Nat) (ro : Option Addr) (rc : Nat) (rules : List RuleD) (w : World) (hR : RightF ns) (hF : FAt w b off cap ns) (hr : thereB ns.length root = true) (hc : thereB ns.length cur = true) (hs : sh < 4294967296) (hru : RdR w (.slice ro rules.length rc) rules) (hf : filterE rules = 0) :
    Calls Tryz.prog 20 #[.agg #[.slice (some ⟨b, off, none⟩) ns.length cap], .agg #[.int .i64 root, .int .i64 cur, .int .u32 (sh : Int), .slice ro rules.length rc]] w fun e w' => e = .returned (.int .i64 ((tourD ns root sh rules true).backD cur)) ∧ Below w.heap.size w w' := by
  have HC := hid (ref13 b off cap ns root cur sh ro rc rules w hR hF hs hru (filterE_ok hf).1)
  have HO := hid (tourD_ok hR hr sh rules true)
  have HA0 : AtF w (.slice (some ⟨b, off, none⟩) ns.length cap) (.int .i64 root) (.int .i64 cur) (.int .u32 (sh : Int)) (.slice ro rules.length rc) ((w.alloc (.cells #[.slice (some ⟨b, off, none⟩) ns.length cap] 24)).alloc (.cells #[.int .i64 root, .int .i64 cur, .int .u32 (sh : Int), .slice ro rules.length rc] 30)) := AtF.first _ _ _ _ _ _
  obtain ⟨R, hRR⟩ : ∃ R, (tourD ns root sh rules true).backD cur = R := ⟨_, rfl⟩
  rw [hRR]
  have HRR := hid hRR
  have HCU := hid hc
  have HRO := hid hr
  clear hR hF hru hRR hf hr hc
  have HRB : Hid ((cur = root ∧ R = 0) ∨ (cur ≠ root ∧ (tourD ns root sh rules true).backR cur = R)) := by
    have h := HRR.out
    unfold TourD.backD at h
    by_cases hcr : cur = root
    · rw [show (cur == (tourD ns root sh rules true).root) = true from beq_iff_eq.2 hcr, if_pos rfl] at h
      exact .inl ⟨hcr, h.symm⟩
    · rw [show (cur == (tourD ns root sh rules true).root) = false from beq_eq_false_iff_ne.2 hcr, if_neg Bool.false_ne_true] at h
      exact .inr ⟨hcr, h⟩
  clear HRR
  go_enter Tryz.func20, Tryz.ntmps20
  go_wp2
  go_loopw [5] (fun t wr => ∃ x : Int, t = .int .i64 x ∧ thereB ns.length x = true ∧ Hid ((x = root ∧ R = 0) ∨ (x ≠ root ∧ (tourD ns root sh rules true).backR x = R)) ∧ AtF w (.slice (some ⟨b, off, none⟩) ns.length cap) (.int .i64 root) (.int .i64 cur) (.int .u32 (sh : Int)) (.slice ro rules.length rc) wr) (fun t _ => (tourD ns root sh rules true).post (RowKit.intOf t))
  case atStart => exact ⟨cur, rfl, HCU.out, HRB, HA0⟩
  case round =>
    obtain ⟨x, rfl, hx, HXR, hA⟩ := hrel
    clear HRB HA0
    obtain ⟨q0, q1, q2, q3, q4⟩ := hA.cells
    by_cases hxr : x = root
    · have hR0 : R = 0 := HXR.out.elim (fun h => h.2) (fun h => absurd hxr h.1)
      subst hR0
      have e0 : (x != root) = false := bne_f hxr
      clear HXR hxr hx
      go_wp2
      go_ret
      exact ⟨rfl, hA.below⟩
    · have e0 : (x != root) = true := bne_t hxr
      have HYR0 : Hid ((tourD ns root sh rules true).backR x = R) := HXR.out.elim (fun h => absurd h.1 hxr) (fun h => h.2)
      have hN := HC.out.bes true x wr hx hA
      have HX := hid hx
      clear hxr HXR hx
      go_wp2_with fail
      refine hN.mono ?_
      rintro e v1 ⟨rfl, hA1⟩
      clear hN q0 q1 q2 q3 q4
      obtain ⟨q0, q1, q2, q3, q4⟩ := hA1.cells
      clear hA
      go_wp2
      go_loopw [5, 6] (fun t u wr => ∃ y : Int, t = .int .i64 y ∧ u = .int .i64 (nextH (parentD ns) (hangD ns true) y) ∧ thereB ns.length y = true ∧ Hid ((tourD ns root sh rules true).backR y = R) ∧ Hid ((tourD ns root sh rules true).post y ≤ (tourD ns root sh rules true).post x) ∧ AtF w (.slice (some ⟨b, off, none⟩) ns.length cap) (.int .i64 root) (.int .i64 cur) (.int .u32 (sh : Int)) (.slice ro rules.length rc) wr) (fun t _ _ => (tourD ns root sh rules true).post (RowKit.intOf t))
      case atStart => exact ⟨x, rfl, rfl, HX.out, HYR0, Nat.le_refl _, hA1⟩
      case round =>
        obtain ⟨y, rfl, rfl, hy, HYR, HYM, hB⟩ := hrel
        clear q0 q1 q2 q3 q4 e0
        obtain ⟨q0, q1, q2, q3, q4⟩ := hB.cells
        by_cases hn0 : nextH (parentD ns) (hangD ns true) y = 0
        · have k0 : (nextH (parentD ns) (hangD ns true) y != 0) = false := bne_f hn0
          by_cases hyr : y = root
          · have hR0 : R = 0 := HYR.out.symm.trans (TourD.back_stop hn0 (by show (y == root || _) = true; rw [beq_iff_eq.2 hyr]; rfl))
            subst hR0
            have k1 : (y == root) = true := beq_iff_eq.2 hyr
            clear HYR HYM HYR0 hn0 hyr hy
            go_wp2
            go_ret
            exact ⟨rfl, hB.below⟩
          · have k1 : (y == root) = false := beq_eq_false_iff_ne.2 hyr
            have hP := HC.out.par y wr hB
            have Hpt := hid (HO.out.hangs.up_or hy)
            have Hs : Hid (parentD ns y = 0 → R = 0) := fun h => HYR.out.symm.trans (TourD.back_stop hn0 (by show (y == root || parentD ns y == 0) = true; rw [beq_iff_eq.2 h, Bool.or_true]))
            have Hc : Hid (parentD ns y ≠ 0 → (y == (tourD ns root sh rules true).root || (tourD ns root sh rules true).up y == 0) = false) := fun h => by show (y == root || parentD ns y == 0) = false; rw [beq_eq_false_iff_ne.2 hyr, beq_eq_false_iff_ne.2 h]; rfl
            have Hn0 := hid hn0
            have HY := hid hy
            clear hn0 hyr hy
            go_wp2_with fail
            refine hP.mono ?_
            rintro e v2 ⟨rfl, hB2⟩
            clear hP q0 q1 q2 q3 q4
            obtain ⟨q0, q1, q2, q3, q4⟩ := hB2.cells
            by_cases hp0 : parentD ns y = 0
            · have hR0 := Hs.out hp0
              subst hR0
              have k2 : (parentD ns y == 0) = true := beq_iff_eq.2 hp0
              clear HYR HYM HYR0 Hs Hc Hn0 hp0 Hpt
              go_wp2
              go_ret
              exact ⟨rfl, hB2.below⟩
            · have k2 : (parentD ns y == 0) = false := beq_eq_false_iff_ne.2 hp0
              have hP2 := HC.out.par y v2 hB2
              have hpt := Hpt.out.resolve_left hp0
              have HPt := hid hpt
              have HP0 := hid (there_ne hpt)
              have Hc2 := hid (Hc.out hp0)
              clear Hc hp0 Hpt Hs
              go_wp2_with fail
              refine hP2.mono ?_
              rintro e v3 ⟨rfl, hB3⟩
              clear hP2 q0 q1 q2 q3 q4
              obtain ⟨q0, q1, q2, q3, q4⟩ := hB3.cells
              have hV := HC.out.ver (parentD ns y) v3 hpt hB3
              clear hpt
              go_wp2_with fail
              refine hV.mono ?_
              rintro e v4 ⟨rfl, hB4⟩
              clear hV q0 q1 q2 q3 q4
              obtain ⟨q0, q1, q2, q3, q4⟩ := hB4.cells
              by_cases hv : verdictOf ns sh rules (parentD ns y) = 1
              · have hRp : R = parentD ns y := HYR.out.symm.trans (TourD.back_up Hn0.out Hc2.out (by show (verdictOf ns sh rules (parentD ns y) == 1) = true; rw [hv]; rfl))
                subst hRp
                rw [hv]
                clear HYR HYM HYR0 Hn0 Hc2 hv
                go_wp2
                go_ret
                exact ⟨rfl, hB4.below⟩
              · have g1 : ((verdictOf ns sh rules (parentD ns y) : Int) == 1) = false := ver_ne hv
                have Hrel : Hid ((parentD ns y = root ∧ R = 0) ∨ (parentD ns y ≠ root ∧ (tourD ns root sh rules true).backR (parentD ns y) = R)) := by
                  by_cases hpr : parentD ns y = root
                  · exact .inl ⟨hpr, HYR.out.symm.trans (TourD.back_root Hn0.out Hc2.out (beq_eq_false_iff_ne.2 hv) (beq_iff_eq.2 hpr))⟩
                  · exact .inr ⟨hpr, (TourD.back_over HO.out HY.out Hn0.out Hc2.out (beq_eq_false_iff_ne.2 hv) (beq_eq_false_iff_ne.2 hpr)).symm.trans HYR.out⟩
                have hM : (tourD ns root sh rules true).post (parentD ns y) < (tourD ns root sh rules true).post x := Nat.lt_of_lt_of_le (TourD.up_postW HO.out HY.out Hn0.out) HYM.out
                have HMM := hid hM
                clear hv Hc2 hM
                go_wp2
                go_roundw
                case rel => exact ⟨parentD ns y, rfl, HPt.out, Hrel, hB4⟩
                case measure => exact HMM.out
        · have k0 : (nextH (parentD ns) (hangD ns true) y != 0) = true := bne_t hn0
          have hst : thereB ns.length (nextH (parentD ns) (hangD ns true) y) = true := (HO.out.hangs.next_or hy).elim (fun h => absurd h.1 hn0) (fun h => h.1)
          have hV := HC.out.ver (nextH (parentD ns) (hangD ns true) y) wr hst hB
          have HS := hid hst
          have Hhit : Hid ((tourD ns root sh rules true).acc ((tourD ns root sh rules true).bottom (nextH (parentD ns) (hangD ns true) y)) = true → R = (tourD ns root sh rules true).bottom (nextH (parentD ns) (hangD ns true) y)) := fun h => HYR.out.symm.trans (TourD.back_hit hn0 h)
          have Hgo : Hid ((tourD ns root sh rules true).acc ((tourD ns root sh rules true).bottom (nextH (parentD ns) (hangD ns true) y)) = false → thereB ns.length ((tourD ns root sh rules true).bottom (nextH (parentD ns) (hangD ns true) y)) = true ∧ (tourD ns root sh rules true).backR ((tourD ns root sh rules true).bottom (nextH (parentD ns) (hangD ns true) y)) = R ∧ (tourD ns root sh rules true).post ((tourD ns root sh rules true).bottom (nextH (parentD ns) (hangD ns true) y)) < (tourD ns root sh rules true).post y) := fun h => ⟨(TourD.back_goM HO.out hy hn0 h).1, (TourD.back_go HO.out hy hn0 h).symm.trans HYR.out, (TourD.back_goM HO.out hy hn0 h).2⟩
          clear hn0 hst hy
          generalize nextH (parentD ns) (hangD ns true) y = s at *
          go_wp2_with fail
          refine hV.mono ?_
          rintro e v2 ⟨rfl, hB2⟩
          clear hV q0 q1 q2 q3 q4
          obtain ⟨q0, q1, q2, q3, q4⟩ := hB2.cells
          clear hB
          go_wp2
          go_loopw [5, 7] (fun t u wr => ∃ z : Int, t = .int .i64 z ∧ u = .int .u8 (verdictOf ns sh rules z : Int) ∧ thereB ns.length z = true ∧ Hid ((tourD ns root sh rules true).bottom z = (tourD ns root sh rules true).bottom s) ∧ AtF w (.slice (some ⟨b, off, none⟩) ns.length cap) (.int .i64 root) (.int .i64 cur) (.int .u32 (sh : Int)) (.slice ro rules.length rc) wr) (fun t _ _ => rankH ns (parentD ns) (hangD ns true) (RowKit.intOf t))
          case atStart => exact ⟨s, rfl, rfl, HS.out, rfl, hB2⟩
          case round =>
            obtain ⟨z, rfl, rfl, hz, HZB, hD⟩ := hrel
            clear q0 q1 q2 q3 q4 k0
            obtain ⟨q0, q1, q2, q3, q4⟩ := hD.cells
            have Hend : Hid ((tourD ns root sh rules true).into z = 0 → (tourD ns root sh rules true).bottom s = z) := fun h => HZB.out.symm.trans (TourD.bottom_end h)
            by_cases h2 : verdictOf ns sh rules z = 2
            · have g2 : ((verdictOf ns sh rules z : Int) != 2) = false := ver_bne_f h2
              have hv : verdictOf ns sh rules z ≠ 1 := by omega
              have g1 : ((verdictOf ns sh rules z : Int) == 1) = false := ver_ne hv
              have hbz := Hend.out (by unfold TourD.into; rw [show (tourD ns root sh rules true).rej z = true from beq_iff_eq.2 h2]; rfl)
              clear h2
              have HG := hid (Hgo.out (by rw [hbz]; exact beq_eq_false_iff_ne.2 hv))
              rw [hbz] at HG
              have hN := HC.out.bes true z wr hz hD
              clear hv hbz Hhit Hgo Hend HZB
              go_wp2_with fail
              refine hN.mono ?_
              rintro e v6 ⟨rfl, hD6⟩
              clear hN q0 q1 q2 q3 q4
              obtain ⟨q0, q1, q2, q3, q4⟩ := hD6.cells
              go_wp2
              go_roundw
              case rel => exact ⟨z, rfl, rfl, HG.out.1, HG.out.2.1, Nat.le_trans (Nat.le_of_lt HG.out.2.2) HYM.out, hD6⟩
              case measure => exact HG.out.2.2
            · have g2 : ((verdictOf ns sh rules z : Int) != 2) = true := ver_bne_t h2
              have hin : (tourD ns root sh rules true).into z = kidH (hangD ns true) z := by unfold TourD.into; rw [show (tourD ns root sh rules true).rej z = false from beq_eq_false_iff_ne.2 h2]; rfl
              have hK := HC.out.kid true z wr hD
              go_wp2_with fail
              refine hK.mono ?_
              rintro e v3 ⟨rfl, hD3⟩
              clear hK q0 q1 q2 q3 q4
              obtain ⟨q0, q1, q2, q3, q4⟩ := hD3.cells
              by_cases hk0 : kidH (hangD ns true) z = 0
              · have k0 : (kidH (hangD ns true) z != 0) = false := bne_f hk0
                have hbz := Hend.out (hin.trans hk0)
                by_cases hv : verdictOf ns sh rules z = 1
                · have hRz : R = z := (Hhit.out (by rw [hbz]; show (verdictOf ns sh rules z == 1) = true; rw [hv]; rfl)).trans hbz
                  subst hRz
                  have g1 : ((verdictOf ns sh rules R : Int) == 1) = true := ver_eq hv
                  clear Hhit Hgo Hend HZB hbz hin hk0 h2 hv HYR HYR0
                  go_wp2
                  go_ret
                  exact ⟨rfl, hD3.below⟩
                · have g1 : ((verdictOf ns sh rules z : Int) == 1) = false := ver_ne hv
                  clear hin hk0 h2
                  have HG := hid (Hgo.out (by rw [hbz]; exact beq_eq_false_iff_ne.2 hv))
                  rw [hbz] at HG
                  have hN := HC.out.bes true z v3 hz hD3
                  clear hv hbz Hhit Hgo Hend HZB
                  go_wp2_with fail
                  refine hN.mono ?_
                  rintro e v6 ⟨rfl, hD6⟩
                  clear hN q0 q1 q2 q3 q4
                  obtain ⟨q0, q1, q2, q3, q4⟩ := hD6.cells
                  go_wp2
                  go_roundw
                  case rel => exact ⟨z, rfl, rfl, HG.out.1, HG.out.2.1, Nat.le_trans (Nat.le_of_lt HG.out.2.2) HYM.out, hD6⟩
                  case measure => exact HG.out.2.2
              · have k0 : (kidH (hangD ns true) z != 0) = true := bne_t hk0
                have hK2 := HC.out.kid true z v3 hD3
                have HKd := hid ((HO.out.hangs.kid_or hz).resolve_left hk0)
                have HBK : Hid ((tourD ns root sh rules true).bottom (kidH (hangD ns true) z) = (tourD ns root sh rules true).bottom s) := by
                  have h := TourD.bottom_go HO.out hz (by rw [hin]; exact hk0)
                  rw [hin] at h
                  exact h.symm.trans HZB.out
                have hkt := HKd.out.1
                clear hin hk0 h2 Hend HZB
                go_wp2_with fail
                refine hK2.mono ?_
                rintro e v4 ⟨rfl, hD4⟩
                clear hK2 q0 q1 q2 q3 q4
                obtain ⟨q0, q1, q2, q3, q4⟩ := hD4.cells
                have hV := HC.out.ver (kidH (hangD ns true) z) v4 hkt hD4
                clear hkt
                go_wp2_with fail
                refine hV.mono ?_
                rintro e v5 ⟨rfl, hD5⟩
                clear hV q0 q1 q2 q3 q4
                obtain ⟨q0, q1, q2, q3, q4⟩ := hD5.cells
                go_wp2
                go_roundw
                case rel => exact ⟨kidH (hangD ns true) z, rfl, rfl, HKd.out.1, HBK, hD5⟩
                case measure =>
                  have : rankH ns (parentD ns) (hangD ns true) (kidH (hangD ns true) z) + 1 = rankH ns (parentD ns) (hangD ns true) z := HKd.out.2.2
                  show rankH ns (parentD ns) (hangD ns true) (kidH (hangD ns true) z) < rankH ns (parentD ns) (hangD ns true) z
                  omega
end Go.Proofs.YteflknfejjdkfabGreat

namespace Go.Proofs.YteflknfejjdkfabGreat
open Go.RowKit Go.Lib

set_option maxRecDepth 100000 in
set_option maxHeartbeats 8000000 in
theorem refOn_any (b off cap : Nat) (ns : List NodeD) (root cur : Int) (sh : Nat) (ro : Option Addr) (rc : Nat) (rules : List RuleD) (w : World) (hR : RightF ns) (hF : FAt w b off cap ns) (hr : thereB ns.length root = true) (hc : thereB ns.length cur = true) (hs : sh < 4294967296) (hru : RdR w (.slice ro rules.length rc) rules) (hf : filterE rules = 0) :
    Calls Tryz.prog 21 #[.agg #[.slice (some ⟨b, off, none⟩) ns.length cap], .agg #[.int .i64 root, .int .i64 cur, .int .u32 (sh : Int), .slice ro rules.length rc]] w fun e w' => e = .returned (.int .i64 ((tourD ns root sh rules false).onD cur)) ∧ Below w.heap.size w w' := by
  have HC := hid (ref13 b off cap ns root cur sh ro rc rules w hR hF hs hru (filterE_ok hf).1)
  have HO := hid (tourD_ok hR hr sh rules false)
  have HA0 : AtF w (.slice (some ⟨b, off, none⟩) ns.length cap) (.int .i64 root) (.int .i64 cur) (.int .u32 (sh : Int)) (.slice ro rules.length rc) ((w.alloc (.cells #[.slice (some ⟨b, off, none⟩) ns.length cap] 24)).alloc (.cells #[.int .i64 root, .int .i64 cur, .int .u32 (sh : Int), .slice ro rules.length rc] 30)) := AtF.first _ _ _ _ _ _
  obtain ⟨R, hRR⟩ : ∃ R, (tourD ns root sh rules false).onD cur = R := ⟨_, rfl⟩
  rw [hRR]
  have HRR := hid hRR
  have HCU := hid hc
  have HRO := hid hr
  clear hR hF hru hRR hf hr hc
  have HR1 : Hid ((tourD ns root sh rules false).onR ((tourD ns root sh rules false).gon cur 1) = R) := HRR.out
  clear HRR
  go_enter Tryz.func21, Tryz.ntmps21
  go_wp2
  go_loopw [5, 6] (fun t u wr => ∃ (x : Int) (v : Nat), t = .int .i64 x ∧ u = .int .u8 (v : Int) ∧ thereB ns.length x = true ∧ Hid ((tourD ns root sh rules false).onR ((tourD ns root sh rules false).gon x (v : Int)) = R) ∧ AtF w (.slice (some ⟨b, off, none⟩) ns.length cap) (.int .i64 root) (.int .i64 cur) (.int .u32 (sh : Int)) (.slice ro rules.length rc) wr) (fun t u _ => (tourD ns root sh rules false).rank ((tourD ns root sh rules false).gon (RowKit.intOf t) (RowKit.intOf u)))
  case atStart => exact ⟨cur, 1, rfl, rfl, HCU.out, HR1, HA0⟩
  case round =>
    obtain ⟨x, v0, rfl, rfl, hx, HXR, hA⟩ := hrel
    clear HR1 HA0
    obtain ⟨q0, q1, q2, q3, q4⟩ := hA.cells
    have HX := hid hx
    obtain ⟨M, hM⟩ : ∃ M, (tourD ns root sh rules false).rank ((tourD ns root sh rules false).gon x (v0 : Int)) = M := ⟨_, rfl⟩
    have HM := hid hM
    clear hM hx
    go_wp2
    go_loopw [5, 6] (fun t u wr => ∃ (y : Int) (v : Nat), t = .int .i64 y ∧ u = .int .u8 (v : Int) ∧ thereB ns.length y = true ∧ Hid ((tourD ns root sh rules false).onR ((tourD ns root sh rules false).gon y (v : Int)) = R) ∧ Hid ((tourD ns root sh rules false).rank ((tourD ns root sh rules false).gon y (v : Int)) ≤ M) ∧ AtF w (.slice (some ⟨b, off, none⟩) ns.length cap) (.int .i64 root) (.int .i64 cur) (.int .u32 (sh : Int)) (.slice ro rules.length rc) wr) (fun t u _ => (tourD ns root sh rules false).rank ((tourD ns root sh rules false).gon (RowKit.intOf t) (RowKit.intOf u)))
    case atStart => exact ⟨x, v0, rfl, rfl, HX.out, HXR, Nat.le_of_eq HM.out, hA⟩
    case round =>
      obtain ⟨y, v, rfl, rfl, hy, HYR, HYM, hB⟩ := hrel
      clear q0 q1 q2 q3 q4 hA
      obtain ⟨q0, q1, q2, q3, q4⟩ := hB.cells
      by_cases h2 : v = 2
      · have g2 : ((v : Int) != 2) = false := ver_bne_f h2
        have hgo := TourD.gon_over (t := (tourD ns root sh rules false)) (x := y) (v := (v : Int)) (.inl (by omega))
        clear h2
        have HOR : Hid ((tourD ns root sh rules false).onR ((tourD ns root sh rules false).over y) = R) := by rw [← hgo]; exact HYR.out
        have HOM : Hid ((tourD ns root sh rules false).rank ((tourD ns root sh rules false).over y) ≤ M) := by rw [← hgo]; exact HYM.out
        have HOL := hid (TourD.over_lt HO.out hy)
        obtain ⟨O, hO⟩ : ∃ O, (tourD ns root sh rules false).over y = O := ⟨_, rfl⟩
        rw [hO] at HOR HOM HOL
        have HOe := hid hO
        have HY := hid hy
        clear hgo hO HYR HYM hy
        go_wp2
        go_loopw [5, 7, 8] (fun t s u wr => ∃ z : Int, t = .int .i64 y ∧ s = .int .i64 0 ∧ u = .int .i64 z ∧ ((z = 0 ∧ O = 0) ∨ (thereB ns.length z = true ∧ Hid ((tourD ns root sh rules false).over z = O))) ∧ AtF w (.slice (some ⟨b, off, none⟩) ns.length cap) (.int .i64 root) (.int .i64 cur) (.int .u32 (sh : Int)) (.slice ro rules.length rc) wr) (fun _ _ u _ => lenH ns (parentD ns) (RowKit.intOf u))
        case atStart => exact ⟨y, rfl, rfl, rfl, .inr ⟨HY.out, HOe⟩, hB⟩
        case round =>
          obtain ⟨z, rfl, rfl, rfl, hz, hD⟩ := hrel
          clear q0 q1 q2 q3 q4
          obtain ⟨q0, q1, q2, q3, q4⟩ := hD.cells
          rcases hz with ⟨rfl, hO0⟩ | ⟨hz, HZO⟩
          · have hR0 : R = 0 := by rw [← HOR.out, hO0]; exact TourD.on_end rfl
            subst hR0
            clear HOR HOM HOL HOe HXR HM hO0
            go_wp2
            go_ret
            exact ⟨rfl, hD.below⟩
          · have e0 : (z != 0) = true := bne_t (there_ne hz)
            by_cases hzr : z = root
            · have hR0 : R = 0 := by rw [← HOR.out, ← HZO.out, hzr]; exact (congrArg (tourD ns root sh rules false).onR (TourD.over_root (t := (tourD ns root sh rules false)))).trans (TourD.on_end rfl)
              subst hR0
              have k0 : (z == root) = true := beq_iff_eq.2 hzr
              clear HOR HOM HOL HOe HXR HM HZO hzr hz
              go_wp2
              go_ret
              exact ⟨rfl, hD.below⟩
            · have k0 : (z == root) = false := beq_eq_false_iff_ne.2 hzr
              have hN := HC.out.bes false z wr hz hD
              have HZ := hid hz
              have HZr : Hid (z ≠ (tourD ns root sh rules false).root) := hzr
              clear hzr
              go_wp2_with fail
              refine hN.mono ?_
              rintro e v7 ⟨rfl, hD7⟩
              clear hN q0 q1 q2 q3 q4
              obtain ⟨q0, q1, q2, q3, q4⟩ := hD7.cells
              by_cases hn0 : nextH (parentD ns) (hangD ns false) z = 0
              · have k1 : (nextH (parentD ns) (hangD ns false) z != 0) = false := bne_f hn0
                have hP := HC.out.par z v7 hD7
                have Hov := hid (TourD.over_up HO.out HZ.out HZr.out hn0)
                have Hpt := hid (HO.out.hangs.up_or HZ.out)
                have hlen : lenH ns (parentD ns) z = lenH ns (parentD ns) (parentD ns z) + 1 := HO.out.hangs.up_len HZ.out
                have HLL : Hid (lenH ns (parentD ns) (parentD ns z) < lenH ns (parentD ns) z) := by show _ < _; omega
                rw [hn0]
                clear hn0 k1 hlen hz
                go_wp2_with fail
                refine hP.mono ?_
                rintro e v8 ⟨rfl, hD8⟩
                clear hP q0 q1 q2 q3 q4
                obtain ⟨q0, q1, q2, q3, q4⟩ := hD8.cells
                go_wp2
                go_roundw
                case rel =>
                  refine ⟨parentD ns z, rfl, rfl, rfl, ?_, hD8⟩
                  by_cases hp0 : parentD ns z = 0
                  · exact .inl ⟨hp0, HZO.out.symm.trans (Hov.out.1 hp0)⟩
                  · exact .inr ⟨Hpt.out.resolve_left hp0, (Hov.out.2 hp0).symm.trans HZO.out⟩
                case measure => exact HLL.out
              · have k1 : (nextH (parentD ns) (hangD ns false) z != 0) = true := bne_t hn0
                have k2 : (nextH (parentD ns) (hangD ns false) z == 0) = false := beq_eq_false_iff_ne.2 hn0
                have hON : O = nextH (parentD ns) (hangD ns false) z := HZO.out.symm.trans (TourD.over_next HZ.out HZr.out hn0)
                subst hON
                have hnt : thereB ns.length (nextH (parentD ns) (hangD ns false) z) = true := HOL.out.1.resolve_left hn0
                have hV := HC.out.ver (nextH (parentD ns) (hangD ns false) z) v7 hnt hD7
                have HNt := hid hnt
                clear hn0 hz hnt HZO HOe
                generalize nextH (parentD ns) (hangD ns false) z = N at *
                go_wp2_with fail
                refine hV.mono ?_
                rintro e v9 ⟨rfl, hD9⟩
                clear hV q0 q1 q2 q3 q4
                obtain ⟨q0, q1, q2, q3, q4⟩ := hD9.cells
                by_cases hv : verdictOf ns sh rules N = 1
                · have hRN : R = N := HOR.out.symm.trans (TourD.on_end (by show (N == 0 || verdictOf ns sh rules N == 1) = true; rw [hv]; exact Bool.or_true _))
                  subst hRN
                  rw [hv]
                  clear HOR HOM HOL HXR HM hv HNt
                  go_wp2
                  go_ret
                  exact ⟨rfl, hD9.below⟩
                · have g1 : ((verdictOf ns sh rules N : Int) == 1) = false := ver_ne hv
                  have HG := hid (TourD.gon_on HO.out HNt.out (show (tourD ns root sh rules false).acc N = false from beq_eq_false_iff_ne.2 hv) (verdictOf ns sh rules N : Int) (beq_cast _ 2))
                  clear hv
                  go_wp2
                  go_roundw
                  case rel => exact ⟨N, verdictOf ns sh rules N, rfl, rfl, HNt.out, HG.out.1.symm.trans HOR.out, hD9⟩
                  case measure =>
                    have h1 := HG.out.2
                    have h2 := HOM.out
                    have h3 := HM.out
                    show (tourD ns root sh rules false).rank ((tourD ns root sh rules false).gon N (verdictOf ns sh rules N : Int)) < (tourD ns root sh rules false).rank ((tourD ns root sh rules false).gon x (v0 : Int))
                    rw [h3]
                    exact Nat.lt_of_lt_of_le h1 h2
      · have g2 : ((v : Int) != 2) = true := ver_bne_t h2
        have hK := HC.out.kid false y wr hB
        go_wp2_with fail
        refine hK.mono ?_
        rintro e v1 ⟨rfl, hB1⟩
        clear hK q0 q1 q2 q3 q4
        obtain ⟨q0, q1, q2, q3, q4⟩ := hB1.cells
        by_cases hk0 : kidH (hangD ns false) y = 0
        · have k0 : (kidH (hangD ns false) y != 0) = false := bne_f hk0
          have hgo := TourD.gon_over (t := (tourD ns root sh rules false)) (x := y) (v := (v : Int)) (.inr hk0)
          clear h2 hk0 hB
          have HOR : Hid ((tourD ns root sh rules false).onR ((tourD ns root sh rules false).over y) = R) := by rw [← hgo]; exact HYR.out
          have HOM : Hid ((tourD ns root sh rules false).rank ((tourD ns root sh rules false).over y) ≤ M) := by rw [← hgo]; exact HYM.out
          have HOL := hid (TourD.over_lt HO.out hy)
          obtain ⟨O, hO⟩ : ∃ O, (tourD ns root sh rules false).over y = O := ⟨_, rfl⟩
          rw [hO] at HOR HOM HOL
          have HOe := hid hO
          have HY := hid hy
          clear hgo hO HYR HYM hy
          go_wp2
          go_loopw [5, 7, 8] (fun t s u wr => ∃ z : Int, t = .int .i64 y ∧ s = .int .i64 0 ∧ u = .int .i64 z ∧ ((z = 0 ∧ O = 0) ∨ (thereB ns.length z = true ∧ Hid ((tourD ns root sh rules false).over z = O))) ∧ AtF w (.slice (some ⟨b, off, none⟩) ns.length cap) (.int .i64 root) (.int .i64 cur) (.int .u32 (sh : Int)) (.slice ro rules.length rc) wr) (fun _ _ u _ => lenH ns (parentD ns) (RowKit.intOf u))
          case atStart => exact ⟨y, rfl, rfl, rfl, .inr ⟨HY.out, HOe⟩, hB1⟩
          case round =>
            obtain ⟨z, rfl, rfl, rfl, hz, hD⟩ := hrel
            clear q0 q1 q2 q3 q4
            obtain ⟨q0, q1, q2, q3, q4⟩ := hD.cells
            rcases hz with ⟨rfl, hO0⟩ | ⟨hz, HZO⟩
            · have hR0 : R = 0 := by rw [← HOR.out, hO0]; exact TourD.on_end rfl
              subst hR0
              clear HOR HOM HOL HOe HXR HM hO0
              go_wp2
              go_ret
              exact ⟨rfl, hD.below⟩
            · have e0 : (z != 0) = true := bne_t (there_ne hz)
              by_cases hzr : z = root
              · have hR0 : R = 0 := by rw [← HOR.out, ← HZO.out, hzr]; exact (congrArg (tourD ns root sh rules false).onR (TourD.over_root (t := (tourD ns root sh rules false)))).trans (TourD.on_end rfl)
                subst hR0
                have k0 : (z == root) = true := beq_iff_eq.2 hzr
                clear HOR HOM HOL HOe HXR HM HZO hzr hz
                go_wp2
                go_ret
                exact ⟨rfl, hD.below⟩
              · have k0 : (z == root) = false := beq_eq_false_iff_ne.2 hzr
                have hN := HC.out.bes false z wr hz hD
                have HZ := hid hz
                have HZr : Hid (z ≠ (tourD ns root sh rules false).root) := hzr
                clear hzr
                go_wp2_with fail
                refine hN.mono ?_
                rintro e v7 ⟨rfl, hD7⟩
                clear hN q0 q1 q2 q3 q4
                obtain ⟨q0, q1, q2, q3, q4⟩ := hD7.cells
                by_cases hn0 : nextH (parentD ns) (hangD ns false) z = 0
                · have k1 : (nextH (parentD ns) (hangD ns false) z != 0) = false := bne_f hn0
                  have hP := HC.out.par z v7 hD7
                  have Hov := hid (TourD.over_up HO.out HZ.out HZr.out hn0)
                  have Hpt := hid (HO.out.hangs.up_or HZ.out)
                  have hlen : lenH ns (parentD ns) z = lenH ns (parentD ns) (parentD ns z) + 1 := HO.out.hangs.up_len HZ.out
                  have HLL : Hid (lenH ns (parentD ns) (parentD ns z) < lenH ns (parentD ns) z) := by show _ < _; omega
                  rw [hn0]
                  clear hn0 k1 hlen hz
                  go_wp2_with fail
                  refine hP.mono ?_
                  rintro e v8 ⟨rfl, hD8⟩
                  clear hP q0 q1 q2 q3 q4
                  obtain ⟨q0, q1, q2, q3, q4⟩ := hD8.cells
                  go_wp2
                  go_roundw
                  case rel =>
                    refine ⟨parentD ns z, rfl, rfl, rfl, ?_, hD8⟩
                    by_cases hp0 : parentD ns z = 0
                    · exact .inl ⟨hp0, HZO.out.symm.trans (Hov.out.1 hp0)⟩
                    · exact .inr ⟨Hpt.out.resolve_left hp0, (Hov.out.2 hp0).symm.trans HZO.out⟩
                  case measure => exact HLL.out
                · have k1 : (nextH (parentD ns) (hangD ns false) z != 0) = true := bne_t hn0
                  have k2 : (nextH (parentD ns) (hangD ns false) z == 0) = false := beq_eq_false_iff_ne.2 hn0
                  have hON : O = nextH (parentD ns) (hangD ns false) z := HZO.out.symm.trans (TourD.over_next HZ.out HZr.out hn0)
                  subst hON
                  have hnt : thereB ns.length (nextH (parentD ns) (hangD ns false) z) = true := HOL.out.1.resolve_left hn0
                  have hV := HC.out.ver (nextH (parentD ns) (hangD ns false) z) v7 hnt hD7
                  have HNt := hid hnt
                  clear hn0 hz hnt HZO HOe
                  generalize nextH (parentD ns) (hangD ns false) z = N at *
                  go_wp2_with fail
                  refine hV.mono ?_
                  rintro e v9 ⟨rfl, hD9⟩
                  clear hV q0 q1 q2 q3 q4
                  obtain ⟨q0, q1, q2, q3, q4⟩ := hD9.cells
                  by_cases hv : verdictOf ns sh rules N = 1
                  · have hRN : R = N := HOR.out.symm.trans (TourD.on_end (by show (N == 0 || verdictOf ns sh rules N == 1) = true; rw [hv]; exact Bool.or_true _))
                    subst hRN
                    rw [hv]
                    clear HOR HOM HOL HXR HM hv HNt
                    go_wp2
                    go_ret
                    exact ⟨rfl, hD9.below⟩
                  · have g1 : ((verdictOf ns sh rules N : Int) == 1) = false := ver_ne hv
                    have HG := hid (TourD.gon_on HO.out HNt.out (show (tourD ns root sh rules false).acc N = false from beq_eq_false_iff_ne.2 hv) (verdictOf ns sh rules N : Int) (beq_cast _ 2))
                    clear hv
                    go_wp2
                    go_roundw
                    case rel => exact ⟨N, verdictOf ns sh rules N, rfl, rfl, HNt.out, HG.out.1.symm.trans HOR.out, hD9⟩
                    case measure =>
                      have h1 := HG.out.2
                      have h2 := HOM.out
                      have h3 := HM.out
                      show (tourD ns root sh rules false).rank ((tourD ns root sh rules false).gon N (verdictOf ns sh rules N : Int)) < (tourD ns root sh rules false).rank ((tourD ns root sh rules false).gon x (v0 : Int))
                      rw [h3]
                      exact Nat.lt_of_lt_of_le h1 h2
        · have k0 : (kidH (hangD ns false) y != 0) = true := bne_t hk0
          have hgo : (tourD ns root sh rules false).gon y (v : Int) = kidH (hangD ns false) y := TourD.gon_kid (t := (tourD ns root sh rules false)) (x := y) (v := (v : Int)) (by omega) hk0
          have HKR : Hid ((tourD ns root sh rules false).onR (kidH (hangD ns false) y) = R) := by rw [← hgo]; exact HYR.out
          have HKM : Hid ((tourD ns root sh rules false).rank (kidH (hangD ns false) y) ≤ M) := by rw [← hgo]; exact HYM.out
          have HGY := hid hgo
          have HKt : Hid (thereB ns.length (kidH (hangD ns false) y) = true) := ((HO.out.hangs.kid_or hy).resolve_left hk0).1
          have hK2 := HC.out.kid false y v1 hB1
          clear hgo hk0 h2 hB HYR HYM
          go_wp2_with fail
          refine hK2.mono ?_
          rintro e v2 ⟨rfl, hB2⟩
          clear hK2 q0 q1 q2 q3 q4
          obtain ⟨q0, q1, q2, q3, q4⟩ := hB2.cells
          generalize kidH (hangD ns false) y = k at *
          have hV := HC.out.ver k v2 HKt.out hB2
          go_wp2_with fail
          refine hV.mono ?_
          rintro e v3 ⟨rfl, hB3⟩
          clear hV q0 q1 q2 q3 q4
          obtain ⟨q0, q1, q2, q3, q4⟩ := hB3.cells
          by_cases hv : verdictOf ns sh rules k = 1
          · have hRk : R = k := HKR.out.symm.trans (TourD.on_end (by show (k == 0 || verdictOf ns sh rules k == 1) = true; rw [hv]; exact Bool.or_true _))
            subst hRk
            rw [hv]
            clear HKR HKM HGY HKt HXR HM hv
            go_wp2
            go_ret
            exact ⟨rfl, hB3.below⟩
          · have g1 : ((verdictOf ns sh rules k : Int) == 1) = false := ver_ne hv
            have HG := hid (TourD.gon_on HO.out HKt.out (show (tourD ns root sh rules false).acc k = false from beq_eq_false_iff_ne.2 hv) (verdictOf ns sh rules k : Int) (beq_cast _ 2))
            clear hv
            go_wp2
            go_roundw
            case rel => exact ⟨k, verdictOf ns sh rules k, rfl, rfl, HKt.out, HG.out.1.symm.trans HKR.out, Nat.le_trans (Nat.le_of_lt HG.out.2) HKM.out, hB3⟩
            case measure =>
              show (tourD ns root sh rules false).rank ((tourD ns root sh rules false).gon k (verdictOf ns sh rules k : Int)) < (tourD ns root sh rules false).rank ((tourD ns root sh rules false).gon y (v : Int))
              rw [HGY.out]
              exact HG.out.2
end Go.Proofs.YteflknfejjdkfabGreat

namespace Go.Proofs.YteflknfejjdkfabGreat
open Go.RowKit Go.Lib

theorem ref13Step_err (o : Option Addr) (cap : Nat) (ns : List NodeD) (root cur : Int) (sh : Nat) (ro : Option Addr) (rc : Nat) (rules : List RuleD) (way : Nat) (w : World) (hF : FRd w o cap ns) (hkl : ∀ (i : Nat) (hi : i < ns.length), ns[i].kids.length ≤ 1099511627776) (hal : ∀ (i : Nat) (hi : i < ns.length), ns[i].attrs.length ≤ 1099511627776) (hru : RdR w (.slice ro rules.length rc) rules) (hrl : rules.length ≤ 1099511627776) (hE : stepE ns root cur rules way ≠ 0) :
    Calls Tryz.prog 7 #[.agg #[.slice o ns.length cap], .agg #[.int .i64 root, .int .i64 cur, .int .u32 (sh : Int), .slice ro rules.length rc], .int .u8 (way : Int)] w fun e w' => e = .returned (.tuple #[.agg #[.int .i64 0, .int .i64 0, .int .u32 0, .slice none 0 0], .int .i64 0, .int .i64 (stepE ns root cur rules way)]) ∧ Below w.heap.size w w' := by
  have hW : ∀ W : World, Below w.heap.size w W → _ := fun W hW => refwrong_any o cap ns root cur sh ro rc rules W (hF.later hW) hkl hal (hru.later hW) hrl
  by_cases h0 : wrongE ns [root, cur] rules = 0
  · cases hw : isWay way with
    | true => exact absurd (by unfold stepE; rw [if_pos h0, hw]; rfl) hE
    | false =>
      have h23 : stepE ns root cur rules way = 23 := by unfold stepE; rw [if_pos h0, hw]; rfl
      rw [h0] at hW
      rw [h23]
      exact refStep_none hw hW
  · have hw : stepE ns root cur rules way = wrongE ns [root, cur] rules := by unfold stepE; rw [if_neg h0]
    rw [hw]
    exact refStep_bad _ (bne_t h0) hW
theorem ref13Step_ok (b off cap : Nat) (ns : List NodeD) (root cur : Int) (sh : Nat) (ro : Option Addr) (rc : Nat) (rules : List RuleD) (way : Nat) (w : World) (hFA : FAt w b off cap ns) (hkl : ∀ (i : Nat) (hi : i < ns.length), ns[i].kids.length ≤ 1099511627776) (hal : ∀ (i : Nat) (hi : i < ns.length), ns[i].attrs.length ≤ 1099511627776) (hru : RdR w (.slice ro rules.length rc) rules) (hrl : rules.length ≤ 1099511627776) (hs : sh < 4294967296) (hE : stepE ns root cur rules way = 0) :
    Calls Tryz.prog 7 #[.agg #[.slice (some ⟨b, off, none⟩) ns.length cap], .agg #[.int .i64 root, .int .i64 cur, .int .u32 (sh : Int), .slice ro rules.length rc], .int .u8 (way : Int)] w fun e w' => ∃ vo vc, e = .returned (.tuple #[.agg #[.int .i64 root, .int .i64 (if stepD ns root sh rules way cur = 0 then cur else stepD ns root sh rules way cur), .int .u32 (sh : Int), .slice vo rules.length vc], .int .i64 (stepD ns root sh rules way cur), .int .i64 0]) ∧ w'.ownsRow w.heap.size 39 3 (.slice vo rules.length vc) rules.length (rulesC rules) ∧ Below w.heap.size w w' := by
  have hE0 : wrongE ns [root, cur] rules = 0 ∧ isWay way = true := by
    unfold stepE at hE
    split at hE
    · rename_i h
      refine ⟨h, ?_⟩
      cases hw : isWay way with
      | true => rfl
      | false => rw [hw] at hE; exact absurd hE (by decide)
    · rename_i h; exact absurd hE h
  obtain ⟨hR, hth, hfe⟩ := wrongE_ok hE0.1
  have hrt := hth root (by simp)
  have hct := hth cur (by simp)
  have hF : FRd w (some ⟨b, off, none⟩) cap ns := ⟨hFA.len, fun _ => ⟨b, off, rfl, hFA⟩⟩
  have hW : ∀ W : World, Below w.heap.size w W → _ := fun W hW => refwrong_any (some ⟨b, off, none⟩) cap ns root cur sh ro rc rules W (hF.later hW) hkl hal (hru.later hW) hrl
  rw [hE0.1] at hW
  cases ro with
  | some ad => exact refStep_some ad hru (filterE_ok hfe).1 (stepD ns root sh rules way cur) (if stepD ns root sh rules way cur = 0 then cur else stepD ns root sh rules way cur) (fun h => if_pos h) (fun h => if_neg h) hE0.2 hW (fun e W hW => by subst e; exact refUp_any b off cap ns root cur sh (some ad) rc rules (wayRev 1) W hR (hFA.later hW) hrt hct hs (hru.later hW) (filterE_ok hfe).1) (fun e W hW => by subst e; exact refDown_any b off cap ns root cur sh (some ad) rc rules false W hR (hFA.later hW) hrt hct hs (hru.later hW) hfe) (fun e W hW => by subst e; exact refDown_any b off cap ns root cur sh (some ad) rc rules true W hR (hFA.later hW) hrt hct hs (hru.later hW) hfe) (fun e W hW => by subst e; exact refSide_any b off cap ns root cur sh (some ad) rc rules true W hR (hFA.later hW) hrt hct hs (hru.later hW) hfe) (fun e W hW => by subst e; exact refSide_any b off cap ns root cur sh (some ad) rc rules false W hR (hFA.later hW) hrt hct hs (hru.later hW) hfe) (fun e W hW => by subst e; exact refBack_any b off cap ns root cur sh (some ad) rc rules W hR (hFA.later hW) hrt hct hs (hru.later hW) hfe) (fun e W hW => by subst e; exact refOn_any b off cap ns root cur sh (some ad) rc rules W hR (hFA.later hW) hrt hct hs (hru.later hW) hfe)
  | none =>
    have h0 : rules = [] := by
      obtain ⟨o', c', e, _, g⟩ := hru
      cases rules with
      | nil => rfl
      | cons r t =>
        obtain ⟨b', off', e', _⟩ := g (by simp)
        rw [e'] at e
        injection e with e1
        cases e1
    subst h0
    exact refStep_nil (stepD ns root sh [] way cur) (if stepD ns root sh [] way cur = 0 then cur else stepD ns root sh [] way cur) (fun h => if_pos h) (fun h => if_neg h) hE0.2 hW (fun e W hW => by subst e; exact refUp_any b off cap ns root cur sh none rc [] (wayRev 1) W hR (hFA.later hW) hrt hct hs (hru.later hW) (filterE_ok hfe).1) (fun e W hW => by subst e; exact refDown_any b off cap ns root cur sh none rc [] false W hR (hFA.later hW) hrt hct hs (hru.later hW) hfe) (fun e W hW => by subst e; exact refDown_any b off cap ns root cur sh none rc [] true W hR (hFA.later hW) hrt hct hs (hru.later hW) hfe) (fun e W hW => by subst e; exact refSide_any b off cap ns root cur sh none rc [] true W hR (hFA.later hW) hrt hct hs (hru.later hW) hfe) (fun e W hW => by subst e; exact refSide_any b off cap ns root cur sh none rc [] false W hR (hFA.later hW) hrt hct hs (hru.later hW) hfe) (fun e W hW => by subst e; exact refBack_any b off cap ns root cur sh none rc [] W hR (hFA.later hW) hrt hct hs (hru.later hW) hfe) (fun e W hW => by subst e; exact refOn_any b off cap ns root cur sh none rc [] W hR (hFA.later hW) hrt hct hs (hru.later hW) hfe)
end Go.Proofs.YteflknfejjdkfabGreat
