/- The walk of Extract, where the name is valid; and all of it. -/
import Derived.Test.YtbefinbihopgfaaDoorExt2
namespace Go.Proofs.YtbefinbihopgfaaDoor
open Go.RowKit Go.Lib

set_option maxHeartbeats 1000000 in
theorem extract_clash (sp q : ByteArray) (w : World) (hq : q.size ≤ 281474976710656) (h : Laid w) (hl : ¬ 1024 < sp.size) (hv : validateE q = 0) (hc : clashB sp.toList (splitS q).1.toList q.toList = true) :
    Calls Tryd.prog 59 #[.string sp, .string q] w fun e w' => e = .returned (.tuple #[nameV noBytes noBytes noBytes, .int .i64 13]) ∧ Below w.heap.size w w' := by
  have hz : ¬ (1024 : Int) < (sp.size : Int) := by omega
  have hV := fun W hW => validate_any q W (by omega) hW
  have hS := fun W hW => split_any q W hq hW
  have hC := fun W => clash_any sp (splitS q).1 q W
  rw [hv] at hV
  rw [hc] at hC
  generalize splitS q = x at hS hC
  obtain ⟨x1, x2⟩ := x
  clear hv hc
  have HS : Hid (∀ W, Laid W → _) := hS
  have HC : Hid (∀ W : World, _) := hC
  clear hS hC
  go_enter Tryd.func59, Tryd.ntmps59
  go_wp2_with fail
  refine (hV _ (h.later ((Below.refl _ w).alloc (Nat.le_refl _) _))).mono ?_
  rintro e w1 ⟨rfl, hb1⟩
  go_wp2_with fail
  have h1 := (h.later ((Below.refl _ w).alloc (Nat.le_refl _) _)).later hb1
  refine (HS.out w1 h1).mono ?_
  rintro e w2 ⟨rfl, hb2⟩
  go_wp2_with fail
  refine (HC.out w2).mono ?_
  rintro e w2' ⟨rfl, rfl⟩
  have hb3 := hb1.trans (hb2.mono hb1.size)
  obtain ⟨hlt, hbb, c0, c1, c2, f0, f1, f2⟩ := kept3 (by simpa using hb3)
  clear hV hb1 hb2 hb3 h1
  go_wp2
  exact bodyPost_ret (v := .tuple #[nameV noBytes noBytes noBytes, .int .i64 13]) (by simp [results, Tryd.results59, go_sem, noBytes, c0, c1, c2]) rfl ⟨rfl, ((hbb.setCell (Nat.le_refl _) _).setCell (Nat.le_refl _) _).setCell (Nat.le_refl _) _⟩

set_option maxHeartbeats 1000000 in
theorem extract_right (sp q : ByteArray) (w : World) (hq : q.size ≤ 281474976710656) (h : Laid w) (hl : ¬ 1024 < sp.size) (hv : validateE q = 0) (hc : clashB sp.toList (splitS q).1.toList q.toList = false) :
    Calls Tryd.prog 59 #[.string sp, .string q] w fun e w' => e = .returned (.tuple #[nameV sp (splitS q).1 (splitS q).2, .int .i64 0]) ∧ Below w.heap.size w w' := by
  have hz : ¬ (1024 : Int) < (sp.size : Int) := by omega
  have hV := fun W hW => validate_any q W (by omega) hW
  have hS := fun W hW => split_any q W hq hW
  have hC := fun W => clash_any sp (splitS q).1 q W
  rw [hv] at hV
  rw [hc] at hC
  generalize splitS q = x at hS hC ⊢
  obtain ⟨x1, x2⟩ := x
  clear hv hc
  have HS : Hid (∀ W, Laid W → _) := hS
  have HC : Hid (∀ W : World, _) := hC
  clear hS hC
  go_enter Tryd.func59, Tryd.ntmps59
  go_wp2_with fail
  refine (hV _ (h.later ((Below.refl _ w).alloc (Nat.le_refl _) _))).mono ?_
  rintro e w1 ⟨rfl, hb1⟩
  go_wp2_with fail
  have h1 := (h.later ((Below.refl _ w).alloc (Nat.le_refl _) _)).later hb1
  refine (HS.out w1 h1).mono ?_
  rintro e w2 ⟨rfl, hb2⟩
  go_wp2_with fail
  refine (HC.out w2).mono ?_
  rintro e w2' ⟨rfl, rfl⟩
  go_wp2_with fail
  refine (clone_any sp w2' (by omega)).mono ?_
  rintro e w3 ⟨rfl, hb3⟩
  have hb4 := (hb1.trans (hb2.mono hb1.size)).trans (hb3.mono (Nat.le_trans hb1.size hb2.size))
  obtain ⟨hlt, hbb, c0, c1, c2, f0, f1, f2⟩ := kept3 (by simpa using hb4)
  clear hV hb1 hb2 hb3 hb4 h1
  go_wp2
  exact bodyPost_ret (v := .tuple #[nameV sp x1 x2, .int .i64 0]) (by simp [results, Tryd.results59, go_sem, c0, c1, c2]) rfl ⟨rfl, ((hbb.setCell (Nat.le_refl _) _).setCell (Nat.le_refl _) _).setCell (Nat.le_refl _) _⟩

/-- What Extract answers. -/
def extractN (sp q : ByteArray) : ByteArray × ByteArray × ByteArray := if extractE sp q = 0 then (sp, (splitS q).1, (splitS q).2) else (noBytes, noBytes, noBytes)

theorem valid_short (q : ByteArray) (hv : validateE q = 0) : q.size ≤ 1024 := by
  unfold validateE at hv
  split at hv
  · omega
  · omega

theorem extract_any (sp q : ByteArray) (w : World) (hq : q.size ≤ 9223372036854775807) (h : Laid w) :
    Calls Tryd.prog 59 #[.string sp, .string q] w fun e w' => e = .returned (.tuple #[nameV (extractN sp q).1 (extractN sp q).2.1 (extractN sp q).2.2, .int .i64 (extractE sp q)]) ∧ Below w.heap.size w w' := by
  unfold extractN
  by_cases hl : 1024 < sp.size
  · have e1 : extractE sp q = 4 := if_pos hl
    rw [e1, if_neg (by omega)]
    exact extract_long sp q w hl
  · by_cases hv : validateE q = 0
    · cases hc : clashB sp.toList (splitS q).1.toList q.toList with
      | true =>
        have e1 : extractE sp q = 13 := by unfold extractE; rw [if_neg hl, if_neg (by simpa using hv), if_pos hc]
        rw [e1, if_neg (by omega)]
        exact extract_clash sp q w (by have := valid_short q hv; omega) h hl hv hc
      | false =>
        have e1 : extractE sp q = 0 := by unfold extractE; rw [if_neg hl, if_neg (by simpa using hv), if_neg (by rw [hc]; decide)]
        rw [e1, if_pos rfl]
        exact extract_right sp q w (by have := valid_short q hv; omega) h hl hv hc
    · have e1 : extractE sp q = validateE q := by unfold extractE; rw [if_neg hl, if_pos hv]
      rw [e1, if_neg hv]
      exact extract_bad sp q w hq h hl hv
end Go.Proofs.YtbefinbihopgfaaDoor
