/- The reference of forest: Made, its Bools. -/
import Derived.Test.YtilacgcjbdkphaaGreatFRefB
import Derived.Test.YtilacgcjbdkphaaGreatFRefK
namespace Go.Proofs.YtilacgcjbdkphaaGreat
open Go.RowKit Go.Lib

theorem none_yes {s : ByteArray} (h : s.toList = []) : noneS s = true := by rw [← noneS_toList, h]; rfl
theorem none_no {s : ByteArray} (h : ¬ s.toList = []) : noneS s = false := by
  rw [← noneS_toList]
  cases e : s.toList with
  | nil => exact absurd e h
  | cons a t => rfl
/-- What Made asks, in its order (true: what is asked of lengths, they are too great). -/
def madeB (k : Nat) (PU SY DA AT GN S0 P0 L0 L9 U0 Y0 D0 K0 A0 H0 ht M1 M2 M0 ma O0 Q0 : Bool) : Bool :=
  !PU && !SY && !DA && AT && (if k == 1 then GN else if k == 10 || k == 7 then S0 && P0 && !L0 && !L9 else S0 && P0 && L0) &&
  !((!(k == 10) && (!U0 || !Y0)) || (!hasDataK k && D0) || (!hasKidsK k && K0)) &&
  !((!(k == 1) && (A0 || !H0)) || (!(k == 9) && ht)) &&
  (if k == 12 then M1 || M2 else M0 && !ma && O0) && (Q0 || (!(k == 9) && !(k == 11) && !(k == 12)))
end Go.Proofs.YtilacgcjbdkphaaGreat
