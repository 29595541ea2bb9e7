/- The walks of units.Strip at a text that is its own when stripped, and of canopytop's begins. -/
import Derived.Test.YtipkdbhdpmkjcacDoorTMath
import Derived.Test.YtipkdbhdpmkjcacDoorUSplit
import Derived.Test.YtipkdbhdpmkjcacDoorBack
import Derived.Test.YtipkdbhdpmkjcacDoorSteps
import Derived.Shelf.Strings.FuncGrows
namespace Go.Proofs.YtipkdbhdpmkjcacDoor
open Go.RowKit Go.Lib

set_option maxRecDepth 100000 in
set_option maxHeartbeats 1000000 in
theorem strip_at (s : ByteArray) (w : World) (hs : s.size ≤ 281474976710656) (ht : trimF blankB s = s) (h : Laid w) :
    Calls Tryd.prog 20 #[.string s] w fun e w' => e = .returned (.string s) ∧ Below w.heap.size w w' := by
  have hO := ofRunes_any 38 w
  have hb0 : Below w.heap.size w (w.alloc (.cells #[.func (.func 38) #[] #[]] 50)) := (Below.refl _ w).alloc (Nat.le_refl _) _
  have hT := Tryd.strings_TrimFunc_grows 45 #[.pointer (some ⟨w.heap.size, 0, none⟩)] (enters_of Tryd.func45 (by kernel_rfl) rfl) blankB s (w.alloc (.cells #[.func (.func 38) #[] #[]] 50)) (by omega) (h.later hb0).tabs
    (pred_blank _ w.heap.size (by simp) (by simp))
  rw [ht] at hT
  have HC : Hid (∀ W : World, _) := fun W => uclone_any s W hs
  go_enter Tryd.func20, Tryd.ntmps20
  go_wp2_with (first
    | (go_at_call 37; refine hO.mono ?_; rintro e w1 ⟨rfl, rfl⟩)
    | (go_at_call 39; refine hT.mono ?_; rintro e w2 ⟨rfl, hb2⟩)
    | (go_at_call 33; refine (HC.out _).mono ?_; rintro e w3 ⟨rfl, hb3⟩))
  go_ret
  have hb4 : Below w.heap.size w w2 := hb0.trans (hb2.mono (by simp))
  exact ⟨rfl, hb4.trans (hb3.mono hb4.size)⟩

abbrev tXml : ByteArray := ⟨#[104, 116, 116, 112, 58, 47, 47, 119, 119, 119, 46, 119, 51, 46, 111, 114, 103, 47, 88, 77, 76, 47, 49, 57, 57, 56, 47, 110, 97, 109, 101, 115, 112, 97, 99, 101]⟩
abbrev tXmlLang : ByteArray := ⟨#[120, 109, 108, 58, 108, 97, 110, 103]⟩
abbrev tpXml : ByteArray := ⟨#[120, 109, 108]⟩
abbrev tLang : ByteArray := ⟨#[108, 97, 110, 103]⟩
theorem tx1 : extractE tXml tXmlLang = 0 := by decide +kernel
theorem tx1n : extractN tXml tXmlLang = (tXml, tpXml, tLang) := by
  unfold extractN
  rw [if_pos tx1]
  have h : (splitS tXmlLang).1.data = tpXml.data ∧ (splitS tXmlLang).2.data = tLang.data := by decide +kernel
  have e1 : (splitS tXmlLang).1 = tpXml := by cases hx : (splitS tXmlLang).1; rw [hx] at h; exact congrArg ByteArray.mk h.1
  have e2 : (splitS tXmlLang).2 = tLang := by cases hx : (splitS tXmlLang).2; rw [hx] at h; exact congrArg ByteArray.mk h.2
  rw [e1, e2]
theorem tx2 : nameB [97, 58, 98] = true := by decide +kernel
theorem tx3 : nameB [49] = false := by decide +kernel
theorem tx4 : lowD [68, 73, 86] = [100, 105, 118] := by decide +kernel

set_option maxHeartbeats 2000000 in
theorem tbegins_any (w : World) (h : Laid w) :
    Calls Tryd.prog 15 #[] w fun e w' => e = .returned (.bool true) ∧ Below w.heap.size w w' := by
  have hE1 := fun W hW => extract_any tXml tXmlLang W (by decide) hW
  rw [tx1n, tx1] at hE1
  have hL := fun W => lower_any ⟨#[68, 73, 86]⟩ W (by decide)
  simp only [tx4] at hL
  have hN1 := fun W hW => name_any ⟨#[97, 58, 98]⟩ W (by decide) hW
  have hN2 := fun W hW => name_any ⟨#[49]⟩ W (by decide) hW
  simp only [tx2] at hN1
  simp only [tx3] at hN2
  have HE1 : Hid (∀ W, Laid W → _) := hE1
  have HL : Hid (∀ W : World, _) := hL
  have HN1 : Hid (∀ W, Laid W → _) := hN1
  have HN2 : Hid (∀ W, Laid W → _) := hN2
  clear hE1 hL hN1 hN2
  go_enter Tryd.func15, Tryd.ntmps15
  go_wp2_with fail
  refine (HE1.out w h).mono ?_
  rintro e w1 ⟨rfl, hb1⟩
  go_wp2_with fail
  have l1 := (h.later hb1).later ((Below.refl _ w1).alloc (Nat.le_refl _) (.cells #[.string tXml, .string tpXml, .string tLang] 29))
  refine (HL.out _).mono ?_
  rintro e w2 ⟨rfl, hb2⟩
  obtain ⟨hlt, hbb, c0, c1, c2, _, _, _⟩ := kept3 (by simpa using hb2)
  have l2 := l1.later hb2
  have hbw2 : Below w.heap.size w w2 := hb1.trans (hbb.mono hb1.size)
  clear hb2 hbb
  go_wp2_with fail
  refine (HN1.out _ l2).mono ?_
  rintro e w3 ⟨rfl, hb3⟩
  have l3 := l2.later hb3
  have hbw3 := hbw2.trans (hb3.mono hbw2.size)
  have d0 := (hb3.cell (p := ⟨w1.heap.size, 0, none⟩) hlt).trans c0
  have d1 := (hb3.cell (p := ⟨w1.heap.size, 1, none⟩) hlt).trans c1
  have d2 := (hb3.cell (p := ⟨w1.heap.size, 2, none⟩) hlt).trans c2
  have hlt3 := Nat.lt_of_lt_of_le hlt hb3.size
  clear hb3
  go_wp2_with fail
  refine (HN2.out _ l3).mono ?_
  rintro e w4 ⟨rfl, hb4⟩
  have hbw4 := hbw3.trans (hb4.mono hbw3.size)
  have e0 := (hb4.cell (p := ⟨w1.heap.size, 0, none⟩) hlt3).trans d0
  have e1 := (hb4.cell (p := ⟨w1.heap.size, 1, none⟩) hlt3).trans d1
  have e2 := (hb4.cell (p := ⟨w1.heap.size, 2, none⟩) hlt3).trans d2
  clear hb4 d0 d1 d2 c0 c1 c2
  go_wp2
  go_ret
  exact ⟨rfl, hbw4⟩
end Go.Proofs.YtipkdbhdpmkjcacDoor
