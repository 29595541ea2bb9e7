/- The walk of names.Right. -/
import Derived.Test.YtipkdbhdpmkjcacDoorRightParts
import Derived.Deep.RegionWith
import Derived.Deep.DeepCutAuto
import Derived.Deep.CutRange
namespace Go.Proofs.YtipkdbhdpmkjcacDoor
open Go.RowKit Go.Lib

set_option maxRecDepth 100000 in
set_option maxHeartbeats 8000000 in
theorem right_any (a p l : ByteArray) (w : World) (h : Laid w) (hp : p.size ≤ 281474976710656) (hl : l.size ≤ 281474976710656) :
    Calls Tryd.prog 18 #[nameV a p l] w fun e w' => e = .returned (.bool (rightB a p l)) ∧ Below w.heap.size w w' := by
  have hQ := fun W => qualified_any a p l W hp hl
  have hE := fun W hW => extract_any a (qualS p l) W (qual_le p l hp hl) hW
  unfold rightB
  generalize extractN a (qualS p l) = N at hE ⊢
  generalize extractE a (qualS p l) = ex at hE ⊢
  generalize qualS p l = q at hQ hE
  obtain ⟨n1, n2, n3⟩ := N
  have l1 := h.later ((Below.refl _ w).alloc (Nat.le_refl _) (.cells #[.string a, .string p, .string l] 29))
  have b1 := (Below.refl _ w).alloc (Nat.le_refl _) (.cells #[.string a, .string p, .string l] 29)
  have HQ : Hid (∀ W : World, _) := hQ
  have HE : Hid (∀ W, Laid W → _) := hE
  clear hQ hE
  go_enter Tryd.func18, Tryd.ntmps18
  go_upto_region 1 with fail
  go_cut [3, 4] (fun t3 t4 wx => t4 = .int .i64 ex ∧ FinPost w wx a p l n1 n2 n3 t3)
  case first =>
    go_region_with (first
      | (go_at_call 17; (refine (HQ.out _).mono ?_; rintro e w1 ⟨rfl, hb1⟩; obtain ⟨hc1, hf1⟩ := bcell hb1; have hz1 : w.heap.size < w1.heap.size := Nat.lt_of_lt_of_le (by first | (simp; done) | (simp; omega)) hb1.size; have hbd := below_of_drew hb1; have l2 : Laid w1 := (by first | exact l1.later hbd | exact (l1.later ((Below.refl _ _).alloc (Nat.le_refl _) _)).later hbd); have hbw1 : Below w.heap.size w w1 := (by first | exact b1.trans (hbd.mono (by simp)) | exact (b1.alloc (by simp) _).trans (hbd.mono (by first | (simp; done) | (simp; omega)))); clear hbd; have hy1 : w.heap.size + 1 ≤ w1.heap.size := hz1; have hx1 := hb1.size; (try simp only [World.size_alloc, World.size_drew] at hc1 hf1 hx1); have hz1c : w.heap.size < w1.heap.size + 1 := Nat.lt_succ_of_lt hz1; (try have hz1b : w.heap.size + 1 < w1.heap.size := by omega); clear hb1))
      | (go_at_call 16; (refine (HE.out _ (by first | exact l2 | exact l2.later ((Below.refl _ _).alloc (Nat.le_refl _) _))).mono ?_; rintro e w2 ⟨rfl, hb2⟩; obtain ⟨hc2, hf2⟩ := bcell hb2; have hx2 := hb2.size; have hbw2 : Below w.heap.size w w2 := Below.trans (by first | exact hbw1 | exact hbw1.alloc hbw1.size _) (hb2.mono (by first | exact hbw1.size | (simp <;> omega))); have hy2 : w.heap.size < w2.heap.size := Nat.lt_of_lt_of_le (by first | exact hz1 | (simp; omega)) hx2; (try simp only [World.size_alloc] at hc2 hf2 hx2); (try have hz2b : w.heap.size + 1 < w2.heap.size := by omega); (try have hz2c : w1.heap.size < w2.heap.size := by omega); clear hb2 hbw1 l2)))
    all_goals (go_wp2_with fail; go_meet)
    all_goals first
      | exact ⟨rfl, fin_A hz1 hy2 hbw2 hc1 hc2⟩
      | exact ⟨rfl, fin_B hz1 hbw2 hc1 hc2⟩
      | exact ⟨rfl, fin_C hz1b hbw2 hc1 hc2⟩
  case rest =>
    obtain ⟨rfl, hbw, d0, d1, d2, b, rfl, e0, e1, e2⟩ := hcut
    clear l1 b1 HQ HE h hp hl
    cases hx : (ex == 0) with
    | false =>
      go_wp2
      go_ret
      exact ⟨by rw [hx]; rfl, hbw⟩
    | true =>
      go_wp2
      all_goals (go_ret; refine ⟨?_, hbw⟩; simp_all)
end Go.Proofs.YtipkdbhdpmkjcacDoor
