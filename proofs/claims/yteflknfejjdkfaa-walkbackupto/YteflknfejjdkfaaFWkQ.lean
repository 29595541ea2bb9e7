/- Filters: plain, and as they lie. -/
import Derived.Test.YteflknfejjdkfaaFForest
namespace Go.Proofs.Yteflknfejjdkfaa
open Go.RowKit Go.Lib

structure RuleD where
  kind : Nat
  loc : ByteArray
  verdict : Nat
/-- Whether a kind is shown: a shadow root by the fragment's bit. -/
def shownB (sh k : Nat) : Bool := Nat.testBit sh ((if k == 12 then 11 else k) - 1)
def fitsB (r : RuleD) (k : Nat) (lo : ByteArray) : Bool := (r.kind == 0 || r.kind == k) && (noneS r.loc || r.loc.data.toList == lo.data.toList)
def ruledD (l : List RuleD) (k : Nat) (lo : ByteArray) : Nat := match l with
  | [] => 1
  | r :: t => if fitsB r k lo then r.verdict else ruledD t k lo
/-- What a filter says of a node. -/
def verdictD (sh : Nat) (l : List RuleD) (k : Nat) (lo : ByteArray) : Nat := if shownB sh k then ruledD l k lo else 3
def mute (r : RuleD) : Bool := !(r.verdict == 1) && !(r.verdict == 2) && !(r.verdict == 3)
/-- Why a filter is wrong. -/
def filterE (l : List RuleD) : Int := if 64 < l.length then 3 else if l.any mute then 23 else 0
theorem filterE_ok {l : List RuleD} (h : filterE l = 0) : l.length ≤ 64 ∧ ∀ r ∈ l, r.verdict = 1 ∨ r.verdict = 2 ∨ r.verdict = 3 := by
  unfold filterE at h
  split at h
  · cases h
  · rename_i h1
    split at h
    · cases h
    · rename_i h2
      refine ⟨by omega, fun r hr => ?_⟩
      have hm : mute r = false := by
        cases hm : mute r with
        | false => rfl
        | true => exact absurd (List.any_eq_true.2 ⟨r, hr, hm⟩) h2
      unfold mute at hm
      cases e1 : (r.verdict == 1) with
      | true => exact .inl (eq_of_beq e1)
      | false =>
        cases e2 : (r.verdict == 2) with
        | true => exact .inr (.inl (eq_of_beq e2))
        | false =>
          cases e3 : (r.verdict == 3) with
          | true => exact .inr (.inr (eq_of_beq e3))
          | false =>
            rw [e1, e2, e3] at hm
            cases hm
theorem ruledD_of {l : List RuleD} (k : Nat) (lo : ByteArray) (h : ∀ r ∈ l, r.verdict = 1 ∨ r.verdict = 2 ∨ r.verdict = 3) : ruledD l k lo = 1 ∨ ruledD l k lo = 2 ∨ ruledD l k lo = 3 := by
  induction l with
  | nil => exact .inl rfl
  | cons r t ih =>
    rw [ruledD]
    split
    · exact h r (by simp)
    · exact ih (fun q hq => h q (by simp [hq]))
theorem verdictD_of {l : List RuleD} (sh k : Nat) (lo : ByteArray) (h : filterE l = 0) : verdictD sh l k lo = 1 ∨ verdictD sh l k lo = 2 ∨ verdictD sh l k lo = 3 := by
  unfold verdictD
  split
  · exact ruledD_of k lo (filterE_ok h).2
  · exact .inr (.inr rfl)

def ruleV (r : RuleD) : Value := .agg #[.int .u8 (r.kind : Int), .string r.loc, .int .u8 (r.verdict : Int)]
/-- A rule lies at an address. -/
def RuleAt (w : World) (b o : Nat) (r : RuleD) : Prop := w.cell? ⟨b, o, none⟩ = some (.int .u8 (r.kind : Int)) ∧ w.cell? ⟨b, o + 1, none⟩ = some (.string r.loc) ∧ w.cell? ⟨b, o + 2, none⟩ = some (.int .u8 (r.verdict : Int))
theorem RuleAt.later {w W : World} {b o : Nat} {r : RuleD} {B : Nat} (h : RuleAt w b o r) (hb : b < B) (hw : Below B w W) : RuleAt W b o r :=
  ⟨(hw.cell (p := ⟨b, o, none⟩) hb).trans h.1, (hw.cell (p := ⟨b, o + 1, none⟩) hb).trans h.2.1, (hw.cell (p := ⟨b, o + 2, none⟩) hb).trans h.2.2⟩
/-- Rules that are handed on. -/
def RdR (w : World) (v : Value) (l : List RuleD) : Prop :=
  ∃ o cap, v = .slice o l.length cap ∧ l.length ≤ cap ∧ (0 < l.length → ∃ b off, o = some ⟨b, off, none⟩ ∧ b < w.heap.size ∧ ∀ (j : Nat) (h : j < l.length), RuleAt w b (off + j * 3) l[j])
theorem RdR.later {w W : World} {v : Value} {l : List RuleD} (h : RdR w v l) (hb : Below w.heap.size w W) : RdR W v l := by
  obtain ⟨o, cap, rfl, hc, g⟩ := h
  refine ⟨o, cap, rfl, hc, fun hp => ?_⟩
  obtain ⟨b, off, rfl, hlt, ha⟩ := g hp
  exact ⟨b, off, rfl, Nat.lt_of_lt_of_le hlt hb.size, fun j hj => (ha j hj).later hlt hb⟩
theorem nil_rdR (w : World) : RdR w (.slice none 0 0) [] := ⟨none, 0, rfl, Nat.le_refl _, fun h => absurd h (Nat.lt_irrefl _)⟩
end Go.Proofs.Yteflknfejjdkfaa
