/- The walk of the law's own 'begins': answers that the document gives, at closed texts. -/
import Derived.Test.YtbefinbihopgfaaDoorExt3
namespace Go.Proofs.YtbefinbihopgfaaDoor
open Go.RowKit Go.Lib

abbrev sXml : ByteArray := ⟨#[104, 116, 116, 112, 58, 47, 47, 119, 119, 119, 46, 119, 51, 46, 111, 114, 103, 47, 88, 77, 76, 47, 49, 57, 57, 56, 47, 110, 97, 109, 101, 115, 112, 97, 99, 101]⟩
abbrev qXmlLang : ByteArray := ⟨#[120, 109, 108, 58, 108, 97, 110, 103]⟩
abbrev pXml : ByteArray := ⟨#[120, 109, 108]⟩
abbrev lLang : ByteArray := ⟨#[108, 97, 110, 103]⟩
abbrev qAB : ByteArray := ⟨#[97, 58, 98]⟩

theorem ex1 : extractE sXml qXmlLang = 0 := by decide +kernel
theorem ex1n : extractN sXml qXmlLang = (sXml, pXml, lLang) := by
  unfold extractN
  rw [if_pos ex1]
  have h : (splitS qXmlLang).1.data = pXml.data ∧ (splitS qXmlLang).2.data = lLang.data := by decide +kernel
  have e1 : (splitS qXmlLang).1 = pXml := by cases hx : (splitS qXmlLang).1; rw [hx] at h; exact congrArg ByteArray.mk h.1
  have e2 : (splitS qXmlLang).2 = lLang := by cases hx : (splitS qXmlLang).2; rw [hx] at h; exact congrArg ByteArray.mk h.2
  rw [e1, e2]
theorem ex2 : extractE noBytes qAB = 13 := by decide +kernel
theorem ex3 : qnameB [115, 118, 103, 58, 114, 101, 99, 116] = true := by decide +kernel
theorem ex4 : qnameB [49, 97] = false := by decide +kernel
theorem ex5 : customB [109, 121, 45, 98, 111, 120] = true := by decide +kernel
theorem ex6 : startB 97 = true := by decide +kernel
theorem ex7 : partB 45 = true := by decide +kernel

set_option maxHeartbeats 2000000 in
theorem begins_any (w : World) (h : Laid w) :
    Calls Tryd.prog 32 #[] w fun e w' => e = .returned (.bool true) ∧ Below w.heap.size w w' := by
  have hE1 := fun W hW => extract_any sXml qXmlLang W (by decide) hW
  rw [ex1n, ex1] at hE1
  have hE2 := fun W hW => extract_any noBytes qAB W (by decide) hW
  rw [ex2] at hE2
  have hE2n : extractN noBytes qAB = (noBytes, noBytes, noBytes) := if_neg (by rw [ex2]; decide)
  rw [hE2n] at hE2
  have hQ1 := fun W hW => qname_any ⟨#[115, 118, 103, 58, 114, 101, 99, 116]⟩ W (by decide) hW
  have hQ2 := fun W hW => qname_any ⟨#[49, 97]⟩ W (by decide) hW
  have hCu := fun W hW => custom_any ⟨#[109, 121, 45, 98, 111, 120]⟩ W (by decide) hW
  simp only [ex3] at hQ1
  simp only [ex4] at hQ2
  simp only [ex5] at hCu
  have hS1 : ∀ W, Laid W → Calls Tryd.prog 43 #[.int .i32 97] W fun e w' => e = .returned (.bool true) ∧ Below W.heap.size W w' := fun W hW => by
    obtain ⟨tt, fz, hg⟩ := hW.spans
    have := start_any 97 W tt fz hg
    rwa [ex6] at this
  have hP1 : ∀ W, Laid W → Calls Tryd.prog 44 #[.int .i32 45] W fun e w' => e = .returned (.bool true) ∧ Below W.heap.size W w' := fun W hW => by
    obtain ⟨tt, fz, hg⟩ := hW.spans
    have := part_any 45 W tt fz hg
    rwa [ex7] at this
  have HE1 : Hid (∀ W, Laid W → _) := hE1
  have HE2 : Hid (∀ W, Laid W → _) := hE2
  have HQ1 : Hid (∀ W, Laid W → _) := hQ1
  have HQ2 : Hid (∀ W, Laid W → _) := hQ2
  have HCu : Hid (∀ W, Laid W → _) := hCu
  have HS1 : Hid (∀ W, Laid W → _) := hS1
  have HP1 : Hid (∀ W, Laid W → _) := hP1
  clear hE1 hE2 hQ1 hQ2 hCu hS1 hP1 hE2n
  go_enter Tryd.func32, Tryd.ntmps32
  go_wp2_with fail
  refine (HE1.out w h).mono ?_
  rintro e w1 ⟨rfl, hb1⟩
  go_wp2_with fail
  have l1 := (h.later hb1).later ((Below.refl _ w1).alloc (Nat.le_refl _) (.cells #[.string sXml, .string pXml, .string lLang] 64))
  refine (HE2.out _ l1).mono ?_
  rintro e w2 ⟨rfl, hb2⟩
  obtain ⟨hlt, hbb, c0, c1, c2, _, _, _⟩ := kept3 (by simpa using hb2)
  have l2 := l1.later hb2
  have hbw2 : Below w.heap.size w w2 := hb1.trans (hbb.mono hb1.size)
  clear hb2 hbb
  go_wp2_with fail
  have l3 := l2.later ((Below.refl _ w2).alloc (Nat.le_refl _) (.cells #[.string noBytes, .string noBytes, .string noBytes] 64))
  have hbw3 : Below w.heap.size w (w2.alloc (.cells #[.string noBytes, .string noBytes, .string noBytes] 64)) := hbw2.alloc hbw2.size _
  refine (HQ1.out _ l3).mono ?_
  rintro e w3 ⟨rfl, hb3⟩
  have l4 := l3.later hb3
  have hbw4 := hbw3.trans (hb3.mono hbw3.size)
  clear hb3 hbw3 l3
  go_wp2_with fail
  refine (HQ2.out _ l4).mono ?_
  rintro e w4 ⟨rfl, hb4⟩
  have l5 := l4.later hb4
  have hbw5 := hbw4.trans (hb4.mono hbw4.size)
  clear hb4 hbw4 l4
  go_wp2_with fail
  refine (HCu.out _ l5).mono ?_
  rintro e w5 ⟨rfl, hb5⟩
  have l6 := l5.later hb5
  have hbw6 := hbw5.trans (hb5.mono hbw5.size)
  clear hb5 hbw5 l5
  go_wp2_with fail
  refine (HS1.out _ l6).mono ?_
  rintro e w6 ⟨rfl, hb6⟩
  have l7 := l6.later hb6
  have hbw7 := hbw6.trans (hb6.mono hbw6.size)
  clear hb6 hbw6 l6
  go_wp2_with fail
  refine (HP1.out _ l7).mono ?_
  rintro e w7 ⟨rfl, hb7⟩
  have hbw8 := hbw7.trans (hb7.mono hbw7.size)
  clear hb7 hbw7 l7
  go_wp2
  go_ret
  exact ⟨rfl, hbw8⟩
end Go.Proofs.YtbefinbihopgfaaDoor
