/- The walk of the law UnitsTexts. -/
import Derived.Test.YtipkdbhdpmkjcaaURText
namespace Go.Proofs.Ytipkdbhdpmkjcaa
open Go.RowKit Go.Lib

theorem rtext_any (v : Value) (us : List Nat) (w : World) (h : RdU w v us) (hn : us.length ≤ 17592186044416) (hu : ∀ x ∈ us, x < 65536) :
    Calls Try.prog 10 #[v] w fun e w' => e = .returned (.tuple #[.string ⟨(textR (txD us).1).toArray⟩, .bool (txD us).2]) ∧ Below w.heap.size w w' := by
  rcases h with ⟨o1, c1, rfl, rfl⟩ | ⟨a, cap, rfl, ha, hcap, hm, hc⟩
  · obtain ⟨o, cc, ho, hconv⟩ := own_runes (w := w) (B := w.heap.size) (n := 0) (v := .slice none 0 0) (l := []) (World.ownsRow_nil _ _ _ _) (by simp)
    cases ho
    go_enter Try.func10, Try.ntmps10
    go_wp2
    go_loopw [4, 5, 6] (fun v al i wr => v = .slice none 0 0 ∧ i = .int .i64 0 ∧ al = .bool false ∧ w = wr) (fun _ _ _ _ => 0)
    case atStart => exact ⟨rfl, rfl, rfl, rfl⟩
    case round =>
      obtain ⟨rfl, rfl, rfl, rfl⟩ := hrel
      go_wp2
      go_ret2
      exact ⟨rfl, Below.refl _ _⟩
  · exact rtext_some a cap us w ha hc hn hu

def ofE (U : List Nat) : Int := if 16384 < U.length then 4 else 0
def ofU (U : List Nat) : List Nat := if 16384 < U.length then [] else U
theorem of_rd {w w' : World} {U : List Nat} {e : Ending} (h : OfPost w U e w') : ∃ v, e = .returned (.tuple #[v, .int .i64 (ofE U)]) ∧ RdU w' v (ofU U) ∧ Below w.heap.size w w' := by
  obtain ⟨hb, ⟨hl, rfl⟩ | ⟨hl, v, rfl, ho⟩⟩ := h
  · refine ⟨.slice none 0 0, ?_, .inl ⟨none, 0, rfl, if_pos hl⟩, hb⟩
    unfold ofE
    rw [if_pos hl]
  · refine ⟨v, ?_, ?_, hb⟩
    · unfold ofE
      rw [if_neg (by omega)]
    · unfold ofU
      rw [if_neg (by omega)]
      exact own_RdU ho
theorem ofU_len (U : List Nat) : (ofU U).length ≤ 16384 := by
  unfold ofU
  split
  · simp
  · omega

set_option maxRecDepth 100000 in
set_option maxHeartbeats 2000000 in
theorem textsLaw (s : ByteArray) (v1 v2 : Value) (us vs : List Nat) (w : World) (hs : s.size ≤ 17592186044416) (h1 : RdU w v1 us) (h2 : RdU w v2 vs) (hn1 : us.length ≤ 17592186044416) (hn2 : vs.length ≤ 17592186044416) (hu : ∀ x ∈ us, x < 65536) :
    Calls Try.prog 3 #[.string s, v1, v2] w fun e w' => e = .returned (.bool true) ∧ Below w.heap.size w w' := by
  have hA := fun W => (of_any s W).mono (fun e w' h => of_rd h)
  have hB := fun W => (rof_any s W hs).mono (fun e w' h => of_rd h)
  have hul := ofU_len (unD s.data.toList)
  generalize ofU (unD s.data.toList) = ou at *
  generalize ofE (unD s.data.toList) = oe at *
  have HA : Hid (∀ W : World, _) := hA
  have HB : Hid (∀ W : World, _) := hB
  have HT : Hid (∀ W, RdU W v1 us → _) := fun W h => text_any v1 us W h hn1 hu
  have HR : Hid (∀ W, RdU W v1 us → _) := fun W h => rtext_any v1 us W h hn1 hu
  have HL : Hid (∀ W : World, _) := lives_any
  have HS : Hid (∀ (a b : Value) (W : World), RdU W a ou → RdU W b ou → _) := fun a b W h h' => rsame_any a b ou ou W h h' (by omega) (by omega)
  have HC : Hid (∀ (W : World), RdU W v1 us → RdU W v2 vs → _) := fun W h h' => ucmp_any v1 v2 us vs W h h' (by omega)
  have HD : Hid (∀ (W : World), RdU W v1 us → RdU W v2 vs → _) := fun W h h' => rcmp_any v1 v2 us vs W h h' (by omega) (by omega)
  clear hA hB
  have hsame : sameU ou ou = true := by simp [sameU]
  rw [hsame] at HS
  generalize textR (txD us).1 = tx at *
  generalize (txD us).2 = al at *
  generalize cmpU us vs = cm at *
  have z1 : (oe == oe) = true := by simp
  have z2 : ((⟨tx.toArray⟩ : ByteArray).toList == (⟨tx.toArray⟩ : ByteArray).toList) = true := by simp
  have z3 : (al == al) = true := by simp
  have z4 : (cm == cm) = true := by simp
  go_enter Try.func3, Try.ntmps3
  go_wp2_with fail
  refine (HA.out _).mono ?_
  rintro e w1 ⟨a, rfl, ra, b1⟩
  replace h1 := h1.later b1
  replace h2 := h2.later b1
  go_wp2_with fail
  refine (HB.out _).mono ?_
  rintro e w2 ⟨b, rfl, rb, b2⟩
  replace h1 := h1.later b2
  replace h2 := h2.later b2
  replace ra := ra.later b2
  replace b1 := b1.trans (b2.mono b1.size)
  clear b2
  go_wp2_with fail
  refine (HT.out _ h1).mono ?_
  rintro e w3 ⟨rfl, b2⟩
  replace h1 := h1.later b2
  replace h2 := h2.later b2
  replace ra := ra.later b2
  replace rb := rb.later b2
  replace b1 := b1.trans (b2.mono b1.size)
  clear b2
  go_wp2_with fail
  refine (HR.out _ h1).mono ?_
  rintro e w4 ⟨rfl, b2⟩
  replace h1 := h1.later b2
  replace h2 := h2.later b2
  replace ra := ra.later b2
  replace rb := rb.later b2
  replace b1 := b1.trans (b2.mono b1.size)
  clear b2
  go_wp2_with fail
  refine (HL.out _).mono ?_
  rintro e w5 ⟨rfl, b2⟩
  replace h1 := h1.later b2
  replace h2 := h2.later b2
  replace ra := ra.later b2
  replace rb := rb.later b2
  replace b1 := b1.trans (b2.mono b1.size)
  clear b2
  go_wp2_with fail
  refine (HS.out _ _ _ ra rb).mono ?_
  rintro e w6 ⟨rfl, b2⟩
  replace h1 := h1.later b2
  replace h2 := h2.later b2
  replace b1 := b1.trans (b2.mono b1.size)
  clear b2 ra rb
  go_wp2_with fail
  refine (HC.out _ h1 h2).mono ?_
  rintro e w7 ⟨rfl, rfl⟩
  go_wp2_with fail
  refine (HD.out _ h1 h2).mono ?_
  rintro e w8 ⟨rfl, b2⟩
  replace b1 := b1.trans (b2.mono b1.size)
  clear b2
  go_wp2
  go_ret
  exact ⟨rfl, b1⟩

theorem textsLaw_upto (s : ByteArray) (v1 : Value) (us : List Nat) (v2 : Value) (vs : List Nat) (w : World) (hs : s.size ≤ 1048576) (h1 : RdU w v1 us) (hn1 : us.length ≤ 1048576) (hu : ∀ x ∈ us, x < 65536) (h2 : RdU w v2 vs) (hn2 : vs.length ≤ 1048576) (_hv : ∀ x ∈ vs, x < 65536) :
    Calls Try.prog 3 #[.string s, v1, v2] w fun e w' => e = .returned (.bool true) ∧ Below w.heap.size w w' :=
  textsLaw s v1 v2 us vs w (by omega) h1 h2 (by omega) (by omega) hu
end Go.Proofs.Ytipkdbhdpmkjcaa
