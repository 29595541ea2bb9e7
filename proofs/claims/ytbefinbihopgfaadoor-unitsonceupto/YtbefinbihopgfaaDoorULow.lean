/- The walks of units.Lower and units.Fold. -/
import Derived.Test.YtbefinbihopgfaaDoorUPlain
import Derived.Test.YtbefinbihopgfaaDoorProg
import Derived.WalkKit
import Derived.WalkSpells
import Derived.WalkLawsBesides
import Derived.Laws.IdiomStrings
import Derived.Lib.Builder
namespace Go.Proofs.YtbefinbihopgfaaDoor
open Go.RowKit Go.Lib

theorem heap_setCell_at {w : World} {g k : Nat} {C : Array Value} {t : TypeId} {fz : Nat × Nat} (h : w.heap[g]? = some (.cells C t fz)) (v : Value) : (w.setCell ⟨g, k, none⟩ v).heap[g]? = some (.cells (C.setIfInBounds k v) t fz) := by
  simp [World.setCell, Array.getElem?_modify, h]
theorem alloc_at (w : World) (o : Obj) : (w.alloc o).heap[w.heap.size]? = some o := by
  show (w.heap.push o)[w.heap.size]? = _
  simp
theorem frozen_at {w : World} {g N k : Nat} {C : Array Value} {t : TypeId} (h : w.heap[g]? = some (.cells C t (N, N + 1))) (hk : k < N) : w.frozen? ⟨g, k, none⟩ = false := by
  unfold World.frozen?
  rw [h]
  simp
  omega

theorem lowB_up (b : UInt8) (h1 : 65 ≤ b.toNat) (h2 : b.toNat ≤ 90) : ((lowB b).toNat : Int) = (b.toNat : Int) - 65 + 97 := by
  unfold lowB
  rw [if_pos ⟨h1, h2⟩]
  simp
  omega
theorem lowB_same (b : UInt8) (h : ¬ (65 ≤ b.toNat ∧ b.toNat ≤ 90)) : lowB b = b := if_neg h

/-- What the bytes are on the way: small letters up to k. -/
def Lowed (s : ByteArray) (k : Nat) (C : Array Value) : Prop := ∀ (j : Nat) (h : j < s.size), C[j]? = some (.int .u8 (((if j < k then lowB s[j] else s[j]) : UInt8).toNat : Int))

set_option maxRecDepth 100000 in
set_option maxHeartbeats 1000000 in
theorem lower_any (s : ByteArray) (w : World) (hs : s.size ≤ 9223372036854775807) :
    Calls Tryd.prog 12 #[.string s] w fun e w' => e = .returned (.string ⟨(lowD s.data.toList).toArray⟩) ∧ Below w.heap.size w w' := by
  have hconv := run_bytes_of_string (P := Tryd.prog) w 9 49 5 s Tryd.underlying9 Tryd.underlying49 Tryd.underlying5
  have hrow := fun j hj => bytesRow_at s (grownCap w s.size 0 5) j hj
  have hrs : s.size ≤ (bytesRow s (grownCap w s.size 0 5)).size := by
    unfold bytesRow
    simp only [Array.size_append, Array.size_map]
    show s.data.size ≤ _
    omega
  generalize bytesRow s (grownCap w s.size 0 5) = C0 at *
  generalize grownCap w s.size 0 5 = cap at *
  go_enter Tryd.func12, Tryd.ntmps12
  go_wp2
  go_loopw [10] (fun i wr => ∃ (k : Nat) (C : Array Value), k ≤ s.size ∧ i = .int .i64 k ∧ wr.heap[w.heap.size]? = some (.cells C 5 (C0.size, C0.size + 1)) ∧ C.size = C0.size ∧ Lowed s k C ∧ Below w.heap.size w wr) (fun i _ => s.size - (RowKit.intOf i).toNat)
  case atStart =>
    refine ⟨0, C0, Nat.zero_le _, rfl, ?_, rfl, ?_, ?_⟩
    · exact alloc_at w _
    · intro j hj
      rw [hrow j hj]
      simp
      rfl
    · exact ((Below.refl _ w).alloc (Nat.le_refl _) _).drew
  case round =>
    obtain ⟨k, C, hk, rfl, hg, hC, hlow, hbw⟩ := hrel
    by_cases hlt : k < s.size
    · have hx : wr.cell? ⟨w.heap.size, k, none⟩ = some (.int .u8 (s[k].toNat : Int)) := by
        rw [cell_of_heap hg, hlow k hlt, if_neg (by omega)]
      have hf := frozen_at hg (k := k) (by omega)
      have hb := s[k].toNat_lt
      by_cases hup : 65 ≤ s[k].toNat ∧ s[k].toNat ≤ 90
      · have hlb := lowB_up s[k] hup.1 hup.2
        have hset := heap_setCell_at hg (k := k) (.int .u8 ((s[k].toNat : Int) - 65 + 97))
        have hnew : Lowed s (k + 1) (C.setIfInBounds k (.int .u8 ((s[k].toNat : Int) - 65 + 97))) := by
          intro j hj
          rw [Array.getElem?_setIfInBounds]
          by_cases e : k = j
          · subst e
            rw [if_pos rfl, if_pos (by omega), if_pos (by omega), hlb]
          · rw [if_neg e, hlow j hj]
            by_cases h1 : j < k
            · rw [if_pos h1, if_pos (by omega)]
            · rw [if_neg h1, if_neg (by omega)]
        have g1 : (65 : Int) ≤ (s[k].toNat : Int) := by omega
        have g2 : (s[k].toNat : Int) ≤ 90 := by omega
        generalize s[k].toNat = x at *
        go_wp2
        go_roundw
        case rel => exact ⟨k + 1, _, by omega, by go_num, hset, by simpa using hC, hnew, hbw.setCell (p := ⟨w.heap.size, k, none⟩) (Nat.le_refl _) _⟩
        case measure => simp [RowKit.intOf]; omega
      · have hlb := lowB_same s[k] hup
        have hnew : Lowed s (k + 1) C := by
          intro j hj
          rw [hlow j hj]
          by_cases e : k = j
          · subst e
            rw [if_neg (by omega), if_pos (by omega), hlb]
          · by_cases h1 : j < k
            · rw [if_pos h1, if_pos (by omega)]
            · rw [if_neg h1, if_neg (by omega)]
        by_cases g1 : (65 : Int) ≤ (s[k].toNat : Int)
        · have g2 : ¬ (s[k].toNat : Int) ≤ 90 := by omega
          generalize s[k].toNat = x at *
          go_wp2
          go_roundw
          case rel => exact ⟨k + 1, _, by omega, by go_num, hg, hC, hnew, hbw⟩
          case measure => simp [RowKit.intOf]; omega
        · generalize s[k].toNat = x at *
          go_wp2
          go_roundw
          case rel => exact ⟨k + 1, _, by omega, by go_num, hg, hC, hnew, hbw⟩
          case measure => simp [RowKit.intOf]; omega
    · have hke : k = s.size := by omega
      have hl : (lowD s.data.toList).length = s.size := by simp [lowD]
      have hback := run_convert_bytes_back (P := Tryd.prog) wr 49 9 5 ⟨w.heap.size, 0, none⟩ cap (lowD s.data.toList) Tryd.underlying49 Tryd.underlying5 Tryd.underlying9 (fun j hj => by
        rw [hl] at hj
        rw [Addr.add_lit, Nat.zero_add, cell_of_heap hg, hlow j hj, if_pos (by omega)]
        simp [lowD]
        rfl)
      rw [hl] at hback
      go_wp2
      go_ret
      exact ⟨rfl, hbw⟩
end Go.Proofs.YtbefinbihopgfaaDoor
