/- The walks of Qualified, clash and Extract. -/
import Derived.Test.YtbefinbihopgfaaDoorExtr
namespace Go.Proofs.YtbefinbihopgfaaDoor
open Go.RowKit Go.Lib

/-- A prefix and a local name, put together. -/
def qualS (p l : ByteArray) : ByteArray := if p.toList.isEmpty then l else p ++ ⟨#[58]⟩ ++ l


def xmlSpace : List UInt8 := [104, 116, 116, 112, 58, 47, 47, 119, 119, 119, 46, 119, 51, 46, 111, 114, 103, 47, 88, 77, 76, 47, 49, 57, 57, 56, 47, 110, 97, 109, 101, 115, 112, 97, 99, 101]
def xmlnsSpace : List UInt8 := [104, 116, 116, 112, 58, 47, 47, 119, 119, 119, 46, 119, 51, 46, 111, 114, 103, 47, 50, 48, 48, 48, 47, 120, 109, 108, 110, 115, 47]

/-- May a name not be in its namespace? -/
def clashB (sp p q : List UInt8) : Bool :=
  if (!p.isEmpty && sp.isEmpty) || (p == [120, 109, 108] && !(sp == xmlSpace)) then true
  else !((q == [120, 109, 108, 110, 115] || p == [120, 109, 108, 110, 115]) == (sp == xmlnsSpace))

set_option maxHeartbeats 2000000 in
theorem clash_any (sp p q : ByteArray) (w : World) :
    Calls Tryd.prog 82 #[.string sp, .string p, .string q] w fun e w' => e = .returned (.bool (clashB sp.toList p.toList q.toList)) ∧ w' = w := by
  generalize hc : clashB sp.toList p.toList q.toList = ans
  simp only [clashB, xmlSpace, xmlnsSpace] at hc
  have HC : Hid (_ = ans) := hc
  clear hc
  cases h1 : p.toList.isEmpty <;> cases h2 : sp.toList.isEmpty
  all_goals
    go_enter Tryd.func82, Tryd.ntmps82
    go_wp2
  all_goals first | (exfalso; clear HC; simp_all; done) | (go_ret; refine ⟨?_, rfl⟩; rw [← HC.out]; clear HC; simp [*]; done)

/-- A block of three cells that the call has made keeps what it holds. -/
theorem kept3 {w w1 : World} {a b c : Value} {t : TypeId} (hb : Below (w.heap.size + 1) (w.alloc (.cells #[a, b, c] t)) w1) :
    w.heap.size < w1.heap.size ∧ Below w.heap.size w w1 ∧ w1.cell? ⟨w.heap.size, 0, none⟩ = some a ∧ w1.cell? ⟨w.heap.size, 1, none⟩ = some b ∧ w1.cell? ⟨w.heap.size, 2, none⟩ = some c ∧
      w1.frozen? ⟨w.heap.size, 0, none⟩ = false ∧ w1.frozen? ⟨w.heap.size, 1, none⟩ = false ∧ w1.frozen? ⟨w.heap.size, 2, none⟩ = false := by
  have hz := hb.size
  simp only [World.size_alloc] at hz
  exact ⟨by omega, ((Below.refl _ w).alloc (Nat.le_refl _) _).trans (hb.mono (by omega)),
    (hb.cell (p := ⟨w.heap.size, 0, none⟩) (by simp)).trans (by simp), (hb.cell (p := ⟨w.heap.size, 1, none⟩) (by simp)).trans (by simp), (hb.cell (p := ⟨w.heap.size, 2, none⟩) (by simp)).trans (by simp),
    (hb.frozen (p := ⟨w.heap.size, 0, none⟩) (by simp)).trans (by simp), (hb.frozen (p := ⟨w.heap.size, 1, none⟩) (by simp)).trans (by simp), (hb.frozen (p := ⟨w.heap.size, 2, none⟩) (by simp)).trans (by simp)⟩

abbrev nameV (a p l : ByteArray) : Value := .agg #[.string a, .string p, .string l]
def noBytes : ByteArray := ⟨#[]⟩

/-- A namespace and a qualified name, taken apart; why not. -/
def extractE (sp q : ByteArray) : Int :=
  if 1024 < sp.size then 4 else if validateE q ≠ 0 then validateE q else if clashB sp.toList (splitS q).1.toList q.toList then 13 else 0

set_option maxHeartbeats 400000 in
theorem extract_long (sp q : ByteArray) (w : World) (hl : 1024 < sp.size) :
    Calls Tryd.prog 59 #[.string sp, .string q] w fun e w' => e = .returned (.tuple #[nameV noBytes noBytes noBytes, .int .i64 4]) ∧ Below w.heap.size w w' := by
  have hz : (1024 : Int) < (sp.size : Int) := by omega
  go_enter Tryd.func59, Tryd.ntmps59
  go_wp2_with fail
  exact bodyPost_ret (v := .tuple #[nameV noBytes noBytes noBytes, .int .i64 4]) (by simp [results, Tryd.results59, go_sem, noBytes]) rfl ⟨rfl, (Below.refl _ w).alloc (Nat.le_refl _) _⟩

set_option maxHeartbeats 400000 in
theorem extract_bad (sp q : ByteArray) (w : World) (hq : q.size ≤ 9223372036854775807) (h : Laid w) (hl : ¬ 1024 < sp.size) (hv : validateE q ≠ 0) :
    Calls Tryd.prog 59 #[.string sp, .string q] w fun e w' => e = .returned (.tuple #[nameV noBytes noBytes noBytes, .int .i64 (validateE q)]) ∧ Below w.heap.size w w' := by
  have hz : ¬ (1024 : Int) < (sp.size : Int) := by omega
  have hV := fun W hW => validate_any q W hq hW
  generalize validateE q = v at hV hv ⊢
  have hvb : (v != 0) = true := by simpa using hv
  clear hv
  go_enter Tryd.func59, Tryd.ntmps59
  go_wp2_with fail
  refine (hV _ (h.later ((Below.refl _ w).alloc (Nat.le_refl _) _))).mono ?_
  rintro e w1 ⟨rfl, hb1⟩
  obtain ⟨hlt, hbb, c0, c1, c2, f0, f1, f2⟩ := kept3 (by simpa using hb1)
  clear hV hb1
  go_wp2
  exact bodyPost_ret (v := .tuple #[nameV noBytes noBytes noBytes, .int .i64 v]) (by simp [results, Tryd.results59, go_sem, noBytes, c0, c1, c2]) rfl ⟨rfl, ((hbb.setCell (Nat.le_refl _) _).setCell (Nat.le_refl _) _).setCell (Nat.le_refl _) _⟩
end Go.Proofs.YtbefinbihopgfaaDoor
