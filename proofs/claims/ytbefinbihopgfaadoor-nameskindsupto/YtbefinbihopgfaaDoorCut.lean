/- The walks of strings.Cut at a colon and of strings.Clone. -/
import Derived.Test.YtbefinbihopgfaaDoorNShelf
import Derived.Test.YtbefinbihopgfaaDoorPlain
import Derived.Test.YtbefinbihopgfaaDoorProg
import Derived.WalkKit
import Derived.WalkSpells
import Derived.WalkLawsBesides
import Derived.Deep.QuietTactic
import Derived.BigQuiet
import Derived.Lib.IndexLaws
import Derived.Lib.ValidLaws
import Derived.Lib.TrimUEq
namespace Go.Proofs.YtbefinbihopgfaaDoor
open Go.RowKit Go.Lib

set_option maxHeartbeats 400000 in
theorem scut_found (s : ByteArray) (k : Nat) (w : World) (hs : s.size ≤ 9223372036854775807) (hk : k < s.size) (hi : Lib.indexByte s.data.toList 58 = (k : Int)) :
    Calls Tryd.prog 78 #[.string s, .string ⟨#[58]⟩] w fun e w' => e = .returned (.tuple #[.string (s.extract 0 k), .string (s.extract (k + 1) s.size), .bool true]) ∧ ∃ q, w' = w.drewN q := by
  have hC := Tryd.stringslite_Index_one s 58 w
  rw [hi] at hC
  clear hi
  go_enter Tryd.func78, Tryd.ntmps78
  go_wp2_with (go_at_call 90; refine hC.mono ?_; rintro e w' ⟨rfl, rfl⟩)
  go_quiet (fail)
  go_wp2
  go_ret3
  exact ⟨rfl, _, rfl⟩

set_option maxHeartbeats 400000 in
theorem scut_none (s : ByteArray) (w : World) (hi : Lib.indexByte s.data.toList 58 = -1) :
    Calls Tryd.prog 78 #[.string s, .string ⟨#[58]⟩] w fun e w' => e = .returned (.tuple #[.string s, .string ⟨#[]⟩, .bool false]) ∧ w' = w := by
  have hC := Tryd.stringslite_Index_one s 58 w
  rw [hi] at hC
  clear hi
  go_enter Tryd.func78, Tryd.ntmps78
  go_wp2_with (go_at_call 90; refine hC.mono ?_; rintro e w' ⟨rfl, rfl⟩)
  go_ret3
  exact ⟨rfl, rfl⟩

theorem below_drewN (w : World) : ∀ n, Below w.heap.size w (w.drewN n)
  | 0 => Below.refl _ _
  | n + 1 => (below_drewN w n).drew

set_option maxHeartbeats 400000 in
theorem cut_found (s : ByteArray) (k : Nat) (w : World) (hs : s.size ≤ 9223372036854775807) (hk : k < s.size) (hi : Lib.indexByte s.data.toList 58 = (k : Int)) :
    Calls Tryd.prog 51 #[.string s, .string ⟨#[58]⟩] w fun e w' => e = .returned (.tuple #[.string (s.extract 0 k), .string (s.extract (k + 1) s.size), .bool true]) ∧ Below w.heap.size w w' := by
  have hC := scut_found s k w hs hk hi
  clear hi
  go_enter Tryd.func51, Tryd.ntmps51
  go_wp2_with (go_at_call 78; refine hC.mono ?_; rintro e w' ⟨rfl, q, rfl⟩)
  go_ret3
  exact ⟨rfl, below_drewN w q⟩

set_option maxHeartbeats 400000 in
theorem cut_none (s : ByteArray) (w : World) (hi : Lib.indexByte s.data.toList 58 = -1) :
    Calls Tryd.prog 51 #[.string s, .string ⟨#[58]⟩] w fun e w' => e = .returned (.tuple #[.string s, .string ⟨#[]⟩, .bool false]) ∧ Below w.heap.size w w' := by
  have hC := scut_none s w hi
  clear hi
  go_enter Tryd.func51, Tryd.ntmps51
  go_wp2_with (go_at_call 78; refine hC.mono ?_; rintro e w' ⟨rfl, rfl⟩)
  go_ret3
  exact ⟨rfl, Below.refl _ _⟩

set_option maxHeartbeats 400000 in
theorem clone_any (s : ByteArray) (w : World) (hlim : s.size ≤ 281474976710656) :
    Calls Tryd.prog 33 #[.string s] w fun e w' => e = .returned (.string s) ∧ Below w.heap.size w w' := by
  have hC := Tryd.stringslite_Clone s w hlim
  go_enter Tryd.func33, Tryd.ntmps33
  go_wp2_with (go_at_call 60; refine hC.mono ?_; rintro e w' ⟨rfl, hb⟩)
  go_ret
  exact ⟨rfl, hb⟩

/-- Where the first colon stands, or that there is none. -/
theorem colon_at (s : ByteArray) : Lib.indexByte s.data.toList 58 = -1 ∨ ∃ k : Nat, k < s.size ∧ Lib.indexByte s.data.toList 58 = (k : Int) := by
  have h := Lib.indexByte_ge s.data.toList 58
  rcases (by omega : Lib.indexByte s.data.toList 58 = -1 ∨ 0 ≤ Lib.indexByte s.data.toList 58) with h1 | h1
  · exact .inl h1
  · obtain ⟨k, hk⟩ := Int.eq_ofNat_of_zero_le h1
    refine .inr ⟨k, ?_, hk⟩
    have := (Lib.indexByte_some hk).1
    have hlt := (List.getElem?_eq_some_iff.1 this).1
    rw [Lib.size_eq]
    exact hlt
end Go.Proofs.YtbefinbihopgfaaDoor
