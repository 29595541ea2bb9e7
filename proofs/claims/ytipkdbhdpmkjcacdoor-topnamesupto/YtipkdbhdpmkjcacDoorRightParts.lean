/- What the walks of the two Rights lean on. -/
import Derived.Test.YtipkdbhdpmkjcacDoorExt3
import Derived.Deep.RegionWith
import Derived.Deep.DeepCutAuto
import Derived.Deep.CutRange
namespace Go.Proofs.YtipkdbhdpmkjcacDoor
open Go.RowKit Go.Lib

/-- May a name be one of an element or an attribute? -/
def rightB (a p l : ByteArray) : Bool :=
  (extractE a (qualS p l) == 0) && ((extractN a (qualS p l)).1.toList == a.toList && ((extractN a (qualS p l)).2.1.toList == p.toList && (extractN a (qualS p l)).2.2.toList == l.toList))

theorem below_of_drew {B : Nat} {w w1 : World} (h : Below B w.drew w1) : Below B w w1 := ⟨h.os, h.tape, h.output, h.size, h.block⟩

theorem bcell {W w1 : World} (hb : Below W.heap.size W w1) : (∀ b o, b < W.heap.size → w1.cell? ⟨b, o, none⟩ = W.cell? ⟨b, o, none⟩) ∧ (∀ b o, b < W.heap.size → w1.frozen? ⟨b, o, none⟩ = W.frozen? ⟨b, o, none⟩) :=
  ⟨fun b o h => hb.cell (p := ⟨b, o, none⟩) h, fun b o h => hb.frozen (p := ⟨b, o, none⟩) h⟩

theorem set3_at (W : World) (b : Nat) (v0 v1 v2 x y z : Value) (h0 : W.cell? ⟨b, 0, none⟩ = some v0) (h1 : W.cell? ⟨b, 1, none⟩ = some v1) (h2 : W.cell? ⟨b, 2, none⟩ = some v2) :
    (((W.setCell ⟨b, 0, none⟩ x).setCell ⟨b, 1, none⟩ y).setCell ⟨b, 2, none⟩ z).cell? ⟨b, 0, none⟩ = some x ∧ (((W.setCell ⟨b, 0, none⟩ x).setCell ⟨b, 1, none⟩ y).setCell ⟨b, 2, none⟩ z).cell? ⟨b, 1, none⟩ = some y ∧
      (((W.setCell ⟨b, 0, none⟩ x).setCell ⟨b, 1, none⟩ y).setCell ⟨b, 2, none⟩ z).cell? ⟨b, 2, none⟩ = some z ∧ ∀ b' o, b' ≠ b → (((W.setCell ⟨b, 0, none⟩ x).setCell ⟨b, 1, none⟩ y).setCell ⟨b, 2, none⟩ z).cell? ⟨b', o, none⟩ = W.cell? ⟨b', o, none⟩ := by
  have n10 : (⟨b, 1, none⟩ : Addr) ≠ ⟨b, 0, none⟩ := by simp
  have n20 : (⟨b, 2, none⟩ : Addr) ≠ ⟨b, 0, none⟩ := by simp
  have n21 : (⟨b, 2, none⟩ : Addr) ≠ ⟨b, 1, none⟩ := by simp
  have n01 : (⟨b, 0, none⟩ : Addr) ≠ ⟨b, 1, none⟩ := by simp
  have n02 : (⟨b, 0, none⟩ : Addr) ≠ ⟨b, 2, none⟩ := by simp
  have n12 : (⟨b, 1, none⟩ : Addr) ≠ ⟨b, 2, none⟩ := by simp
  refine ⟨?_, ?_, ?_, fun b' o hb => ?_⟩
  · rw [World.cell?_setCell_other _ _ _ _ n20, World.cell?_setCell_other _ _ _ _ n10, World.cell?_setCell_same _ _ _ h0]
  · rw [World.cell?_setCell_other _ _ _ _ n21, World.cell?_setCell_same _ _ _ ((World.cell?_setCell_other _ _ _ _ n01).trans h1)]
  · rw [World.cell?_setCell_same _ _ _ ((World.cell?_setCell_other _ _ _ _ n12).trans ((World.cell?_setCell_other _ _ _ _ n02).trans h2))]
  · have m0 : (⟨b, 0, none⟩ : Addr) ≠ ⟨b', o, none⟩ := fun e => hb (congrArg Addr.block e).symm
    have m1 : (⟨b, 1, none⟩ : Addr) ≠ ⟨b', o, none⟩ := fun e => hb (congrArg Addr.block e).symm
    have m2 : (⟨b, 2, none⟩ : Addr) ≠ ⟨b', o, none⟩ := fun e => hb (congrArg Addr.block e).symm
    rw [World.cell?_setCell_other _ _ _ _ m2, World.cell?_setCell_other _ _ _ _ m1, World.cell?_setCell_other _ _ _ _ m0]

/-- What is asked behind the call: the name's own cells, and the answer's. -/
def FinPost (w wx : World) (a p l n1 n2 n3 : ByteArray) (t3 : Value) : Prop :=
  Below w.heap.size w wx ∧ wx.cell? ⟨w.heap.size, 0, none⟩ = some (.string a) ∧ wx.cell? ⟨w.heap.size, 1, none⟩ = some (.string p) ∧ wx.cell? ⟨w.heap.size, 2, none⟩ = some (.string l) ∧
    ∃ b, t3 = .pointer (some ⟨b, 0, none⟩) ∧ wx.cell? ⟨b, 0, none⟩ = some (.string n1) ∧ wx.cell? ⟨b, 1, none⟩ = some (.string n2) ∧ wx.cell? ⟨b, 2, none⟩ = some (.string n3)

theorem fin_A {w w1 w2 : World} {a p l n1 n2 n3 : ByteArray} (hz1 : w.heap.size < w1.heap.size) (hy2 : w.heap.size < w2.heap.size) (hbw2 : Below w.heap.size w w2)
    (hc1 : ∀ b o, b < w.heap.size + 1 → w1.cell? ⟨b, o, none⟩ = (w.alloc (.cells #[.string a, .string p, .string l] 29)).drew.cell? ⟨b, o, none⟩)
    (hc2 : ∀ b o, b < w1.heap.size → w2.cell? ⟨b, o, none⟩ = w1.cell? ⟨b, o, none⟩) :
    FinPost w (w2.alloc (.cells #[.string n1, .string n2, .string n3] 29)) a p l n1 n2 n3 (.pointer (some ⟨w2.heap.size, 0, none⟩)) := by
  have old : ∀ o, (w2.alloc (.cells #[.string n1, .string n2, .string n3] 29)).cell? ⟨w.heap.size, o, none⟩ = (w.alloc (.cells #[.string a, .string p, .string l] 29)).cell? ⟨w.heap.size, o, none⟩ := fun o =>
    (((Below.refl w2.heap.size w2).alloc (Nat.le_refl _) _).cell (p := ⟨w.heap.size, o, none⟩) hy2).trans ((hc2 _ o hz1).trans (hc1 _ o (Nat.lt_succ_self _)))
  exact ⟨hbw2.alloc hbw2.size _, (old 0).trans (by simp), (old 1).trans (by simp), (old 2).trans (by simp), _, rfl, by simp, by simp, by simp⟩

theorem fin_B {w w1 w2 : World} {a p l n1 n2 n3 : ByteArray} (hz1 : w.heap.size < w1.heap.size) (hbw2 : Below w.heap.size w w2)
    (hc1 : ∀ b o, b < w.heap.size + 1 → w1.cell? ⟨b, o, none⟩ = (w.alloc (.cells #[.string a, .string p, .string l] 29)).drew.cell? ⟨b, o, none⟩)
    (hc2 : ∀ b o, b < w1.heap.size + 1 → w2.cell? ⟨b, o, none⟩ = (w1.alloc (.cells #[.string ⟨#[]⟩, .string ⟨#[]⟩, .string ⟨#[]⟩] 29)).cell? ⟨b, o, none⟩) :
    FinPost w (((w2.setCell ⟨w1.heap.size, 0, none⟩ (.string n1)).setCell ⟨w1.heap.size, 1, none⟩ (.string n2)).setCell ⟨w1.heap.size, 2, none⟩ (.string n3)) a p l n1 n2 n3 (.pointer (some ⟨w1.heap.size, 0, none⟩)) := by
  have s3 := set3_at w2 w1.heap.size (.string ⟨#[]⟩) (.string ⟨#[]⟩) (.string ⟨#[]⟩) (.string n1) (.string n2) (.string n3) ((hc2 _ 0 (Nat.lt_succ_self _)).trans (by simp)) ((hc2 _ 1 (Nat.lt_succ_self _)).trans (by simp)) ((hc2 _ 2 (Nat.lt_succ_self _)).trans (by simp))
  have old : ∀ o, w2.cell? ⟨w.heap.size, o, none⟩ = (w.alloc (.cells #[.string a, .string p, .string l] 29)).cell? ⟨w.heap.size, o, none⟩ := fun o =>
    (hc2 _ o (Nat.lt_succ_of_lt hz1)).trans ((((Below.refl w1.heap.size w1).alloc (Nat.le_refl _) _).cell (p := ⟨w.heap.size, o, none⟩) hz1).trans (hc1 _ o (Nat.lt_succ_self _)))
  have hne : w.heap.size ≠ w1.heap.size := Nat.ne_of_lt hz1
  have hle := Nat.le_of_lt hz1
  exact ⟨((hbw2.setCell (p := ⟨w1.heap.size, 0, none⟩) hle _).setCell (p := ⟨w1.heap.size, 1, none⟩) hle _).setCell (p := ⟨w1.heap.size, 2, none⟩) hle _,
    (s3.2.2.2 _ _ hne).trans ((old 0).trans (by simp)), (s3.2.2.2 _ _ hne).trans ((old 1).trans (by simp)), (s3.2.2.2 _ _ hne).trans ((old 2).trans (by simp)), _, rfl, s3.1, s3.2.1, s3.2.2.1⟩

theorem fin_C {w w1 w2 : World} {a p l n1 n2 n3 : ByteArray} (hz1 : w.heap.size + 1 < w1.heap.size) (hbw2 : Below w.heap.size w w2)
    (hc1 : ∀ b o, b < w.heap.size + 1 + 1 → w1.cell? ⟨b, o, none⟩ = ((w.alloc (.cells #[.string a, .string p, .string l] 29)).alloc (.cells #[.string ⟨#[]⟩, .string ⟨#[]⟩, .string ⟨#[]⟩] 29)).drew.cell? ⟨b, o, none⟩)
    (hc2 : ∀ b o, b < w1.heap.size → w2.cell? ⟨b, o, none⟩ = w1.cell? ⟨b, o, none⟩) :
    FinPost w (((w2.setCell ⟨w.heap.size + 1, 0, none⟩ (.string n1)).setCell ⟨w.heap.size + 1, 1, none⟩ (.string n2)).setCell ⟨w.heap.size + 1, 2, none⟩ (.string n3)) a p l n1 n2 n3 (.pointer (some ⟨w.heap.size + 1, 0, none⟩)) := by
  have nw : ∀ o, w2.cell? ⟨w.heap.size + 1, o, none⟩ = ((w.alloc (.cells #[.string a, .string p, .string l] 29)).alloc (.cells #[.string ⟨#[]⟩, .string ⟨#[]⟩, .string ⟨#[]⟩] 29)).cell? ⟨w.heap.size + 1, o, none⟩ := fun o => (hc2 _ o hz1).trans (hc1 _ o (Nat.lt_succ_self _))
  have old : ∀ o, w2.cell? ⟨w.heap.size, o, none⟩ = ((w.alloc (.cells #[.string a, .string p, .string l] 29)).alloc (.cells #[.string ⟨#[]⟩, .string ⟨#[]⟩, .string ⟨#[]⟩] 29)).cell? ⟨w.heap.size, o, none⟩ := fun o =>
    (hc2 _ o (Nat.lt_of_succ_lt hz1)).trans (hc1 _ o (Nat.lt_succ_of_lt (Nat.lt_succ_self _)))
  have s3 := set3_at w2 (w.heap.size + 1) (.string ⟨#[]⟩) (.string ⟨#[]⟩) (.string ⟨#[]⟩) (.string n1) (.string n2) (.string n3) ((nw 0).trans (by simp)) ((nw 1).trans (by simp)) ((nw 2).trans (by simp))
  have hne : w.heap.size ≠ w.heap.size + 1 := by omega
  have hle : w.heap.size ≤ w.heap.size + 1 := Nat.le_succ _
  exact ⟨((hbw2.setCell (p := ⟨w.heap.size + 1, 0, none⟩) hle _).setCell (p := ⟨w.heap.size + 1, 1, none⟩) hle _).setCell (p := ⟨w.heap.size + 1, 2, none⟩) hle _,
    (s3.2.2.2 _ _ hne).trans ((old 0).trans (by simp)), (s3.2.2.2 _ _ hne).trans ((old 1).trans (by simp)), (s3.2.2.2 _ _ hne).trans ((old 2).trans (by simp)), _, rfl, s3.1, s3.2.1, s3.2.2.1⟩

theorem qual_le (p l : ByteArray) (hp : p.size ≤ 281474976710656) (hl : l.size ≤ 281474976710656) : (qualS p l).size ≤ 9223372036854775807 := by
  unfold qualS
  split
  · omega
  · simp only [ByteArray.size_append]
    have : (⟨#[58]⟩ : ByteArray).size = 1 := rfl
    omega

end Go.Proofs.YtipkdbhdpmkjcacDoor
