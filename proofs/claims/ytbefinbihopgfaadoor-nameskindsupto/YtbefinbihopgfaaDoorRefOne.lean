/- The document's own reading of one rune: as the model's, but for what is not valid. -/
import Derived.Test.YtbefinbihopgfaaDoorConcat
import Derived.Test.YtbefinbihopgfaaDoorProg
import Derived.WalkKit
import Derived.WalkSpells
import Derived.WalkLawsBesides
namespace Go.Proofs.YtbefinbihopgfaaDoor
open Go.RowKit Go.Lib

/-- The rune at the head of a text, and how many bytes it has; 0 and 0: none that is valid. -/
def oneB (l : List UInt8) : Nat × Nat := if (decodeL l).1 = 65533 ∧ (decodeL l).2 = 1 then (0, 0) else decodeL l

theorem oneB_N (l : List UInt8) : oneB l = if (decodeN l.length (l.getD 0 0).toNat (l.getD 1 0).toNat (l.getD 2 0).toNat (l.getD 3 0).toNat).1 = 65533 ∧ (decodeN l.length (l.getD 0 0).toNat (l.getD 1 0).toNat (l.getD 2 0).toNat (l.getD 3 0).toNat).2 = 1 then (0, 0) else decodeN l.length (l.getD 0 0).toNat (l.getD 1 0).toNat (l.getD 2 0).toNat (l.getD 3 0).toNat := by
  unfold oneB
  rw [decodeL_N]

theorem byte_at (s : ByteArray) (k i : Nat) (h : k + i < s.size) : (s.data.toList.drop k).getD i 0 = s[k + i] := by
  have h' : k + i < s.data.toList.length := by rw [← Lib.size_eq]; exact h
  simp only [List.getD, List.getElem?_drop, List.getElem?_eq_getElem h', Option.getD_some]
  rfl
theorem len_at (s : ByteArray) (k : Nat) : (s.data.toList.drop k).length = s.size - k := by rw [List.length_drop, ← Lib.size_eq]

theorem one_ascii (n b0 b1 b2 b3 : Nat) (h : b0 < 128) : decodeN n b0 b1 b2 b3 = (b0, 1) := by unfold decodeN; rw [if_pos h]
theorem one_bad0 (n b0 b1 b2 b3 : Nat) (h0 : 128 ≤ b0) (h : b0 < 194 ∨ 245 ≤ b0) (hb : b0 < 256) : decodeN n b0 b1 b2 b3 = (65533, 1) := by
  rcases decodeN_shape n b0 b1 b2 b3 with ⟨c, e⟩ | ⟨c1, c2, c3, cv, e⟩ | ⟨c1, c2, c3, c4, cv, cs, e⟩ | ⟨c1, c2, c3, c4, c5, cv, cw, e⟩ | e
  all_goals first | exact e | omega
theorem one_two (n b0 b1 b2 b3 : Nat) (h0 : 194 ≤ b0) (h1 : b0 < 224) :
    decodeN n b0 b1 b2 b3 = if 1 < n ∧ 128 ≤ b1 ∧ b1 < 192 then (64 * (b0 - 192) + b1 - 128, 2) else (65533, 1) := by
  unfold decodeN
  rw [if_neg (by omega)]
  by_cases h : 1 < n ∧ 128 ≤ b1 ∧ b1 < 192
  · rw [if_pos h, if_pos (by omega), if_pos (by omega)]
    exact Prod.ext (by dsimp only; omega) rfl
  · rw [if_neg h, if_neg (by omega), if_neg (by omega), if_neg (by omega)]
theorem one_three (n b0 b1 b2 b3 : Nat) (h0 : 224 ≤ b0) (h1 : b0 < 240) :
    decodeN n b0 b1 b2 b3 = if (2 < n ∧ 128 ≤ b1 ∧ b1 < 192 ∧ 128 ≤ b2 ∧ b2 < 192) ∧ 2048 ≤ 64 * (64 * (b0 - 224) + b1 - 128) + b2 - 128 ∧ (64 * (64 * (b0 - 224) + b1 - 128) + b2 - 128 < 55296 ∨ 57344 ≤ 64 * (64 * (b0 - 224) + b1 - 128) + b2 - 128) then (64 * (64 * (b0 - 224) + b1 - 128) + b2 - 128, 3) else (65533, 1) := by
  unfold decodeN
  rw [if_neg (by omega), if_neg (by omega)]
  by_cases h : 2 < n ∧ 128 ≤ b1 ∧ b1 < 192 ∧ 128 ≤ b2 ∧ b2 < 192
  · rw [if_pos (by omega)]
    have e : b0 % 16 * 4096 + b1 % 64 * 64 + b2 % 64 = 64 * (64 * (b0 - 224) + b1 - 128) + b2 - 128 := by omega
    rw [e]
    generalize 64 * (64 * (b0 - 224) + b1 - 128) + b2 - 128 = x at *
    have hx : x < 65536 := by omega
    by_cases hv : 2048 ≤ x ∧ (x < 55296 ∨ 57344 ≤ x)
    · rw [if_pos (by omega), if_pos ⟨h, hv⟩]
    · rw [if_neg (by omega), if_neg (fun g => hv g.2)]
  · rw [if_neg (by omega), if_neg (by omega), if_neg (fun g => h g.1)]
theorem one_four (n b0 b1 b2 b3 : Nat) (h0 : 240 ≤ b0) (h1 : b0 < 245) :
    decodeN n b0 b1 b2 b3 = if (3 < n ∧ 128 ≤ b1 ∧ b1 < 192 ∧ 128 ≤ b2 ∧ b2 < 192 ∧ 128 ≤ b3 ∧ b3 < 192) ∧ 65536 ≤ 64 * (64 * (64 * (b0 - 240) + b1 - 128) + b2 - 128) + b3 - 128 ∧ 64 * (64 * (64 * (b0 - 240) + b1 - 128) + b2 - 128) + b3 - 128 ≤ 1114111 then (64 * (64 * (64 * (b0 - 240) + b1 - 128) + b2 - 128) + b3 - 128, 4) else (65533, 1) := by
  unfold decodeN
  rw [if_neg (by omega), if_neg (by omega), if_neg (by omega)]
  by_cases h : 3 < n ∧ 128 ≤ b1 ∧ b1 < 192 ∧ 128 ≤ b2 ∧ b2 < 192 ∧ 128 ≤ b3 ∧ b3 < 192
  · rw [if_pos (by omega)]
    have e : b0 % 8 * 262144 + b1 % 64 * 4096 + b2 % 64 * 64 + b3 % 64 = 64 * (64 * (64 * (b0 - 240) + b1 - 128) + b2 - 128) + b3 - 128 := by omega
    rw [e]
    generalize 64 * (64 * (64 * (b0 - 240) + b1 - 128) + b2 - 128) + b3 - 128 = x at *
    by_cases hv : 65536 ≤ x ∧ x ≤ 1114111
    · rw [if_pos (by omega), if_pos ⟨h, hv⟩]
    · rw [if_neg (by omega), if_neg (fun g => hv g.2)]
  · rw [if_neg (by omega), if_neg (fun g => h g.1)]

set_option maxRecDepth 100000 in
set_option maxHeartbeats 2000000 in
theorem one_any0 (s : ByteArray) (k : Nat) (w : World) (hk : k < s.size) (h : s[k].toNat < 128) :
    Calls Tryd.prog 75 #[.string s, .int .i64 (k : Int)] w fun e w' => e = .returned (.tuple #[.int .i32 (s[k].toNat : Int), .int .i64 1]) ∧ w' = w := by
  have hz : ((s[k].toNat : Nat) : Int) < 128 := by omega
  go_enter Tryd.func75, Tryd.ntmps75
  go_wp2
  go_ret2
  exact ⟨rfl, rfl⟩

theorem ix (s : ByteArray) (k i : Nat) (h : k + i < s.size) (x : Int) (hx : (s[k + i].toNat : Int) = x) (W : World) (z : Int) (hz : z = ((k + i : Nat) : Int)) :
    (Instr.index 9 (.string s) (.int .i64 z)).run Tryd.prog W = .ok (.int .u8 x) W := by
  subst hz hx
  rw [run_index_string W _ s .i64 _ Tryd.underlying9, dif_pos ⟨by omega, by omega⟩]
  simp only [Int.toNat_natCast]

set_option maxRecDepth 100000 in
set_option maxHeartbeats 4000000 in
theorem one_long2 (s : ByteArray) (k : Nat) (w : World) (hs : s.size ≤ 281474976710656) (hlen : k + 2 ≤ s.size) (c d1 : Int) (hc : (s[k].toNat : Int) = c) (e1 : (s[k + 1].toNat : Int) = d1) (h0 : 194 ≤ c) (h1 : c < 224) (ans : Int × Int)
    (hbad : ¬ (128 ≤ d1 ∧ d1 < 192) → ans = (0, 0)) (hgood : 128 ≤ d1 ∧ d1 < 192 → ans = ((64 * (c - 192) + d1 - 128), 2)) :
    Calls Tryd.prog 75 #[.string s, .int .i64 (k : Int)] w fun e w' => e = .returned (.tuple #[.int .i32 ans.1, .int .i64 ans.2]) ∧ w' = w := by
  have hi0 := fun W => ix s k 0 (by omega) c hc W (k : Int) rfl
  have hi1 := fun W => ix s k 1 (by omega) d1 e1 W ((k : Int) + 1) rfl
  have q1 : 0 ≤ d1 ∧ d1 < 256 := by have := s[k + 1].toNat_lt; omega
  obtain ⟨q1a, q1b⟩ := q1
  have HB : Hid (¬ (128 ≤ d1 ∧ d1 < 192) → ans = (0, 0)) := hbad
  have HG : Hid (128 ≤ d1 ∧ d1 < 192 → ans = ((64 * (c - 192) + d1 - 128), 2)) := hgood
  clear hbad hgood hc e1
  have hlenz : ¬ ((s.size : Int) < (k : Int) + 2) := by omega
  go_enter Tryd.func75, Tryd.ntmps75
  go_wp2
  go_loop [8, 10] (fun r i => (i = .int .i64 1 ∧ r = .int .i64 (c - 192)) ∨ (i = .int .i64 2 ∧ r = .int .i64 (64 * (c - 192) + d1 - 128) ∧ 128 ≤ d1 ∧ d1 < 192)) (fun _ i => 2 - (RowKit.intOf i).toNat)
  case atStart => exact .inl ⟨rfl, rfl⟩
  case round =>
    rcases hrel with ⟨rfl, rfl⟩ | ⟨rfl, rfl, g1a, g1b⟩
    · by_cases g1a : 128 ≤ d1
      · by_cases g1b : d1 < 192
        · go_wp2
          go_round
          case rel => exact .inr ⟨rfl, by go_num, g1a, g1b⟩
          case measure => simp [RowKit.intOf]
        · have ha := HB.out (by omega)
          subst ha
          go_wp2
          go_ret2
          exact ⟨rfl, rfl⟩
      · have ha := HB.out (by omega)
        subst ha
        go_wp2
        go_ret2
        exact ⟨rfl, rfl⟩
    · have ha := HG.out ⟨g1a, g1b⟩
      subst ha
      go_wp2
      go_ret2
      exact ⟨rfl, rfl⟩

set_option maxRecDepth 100000 in
set_option maxHeartbeats 2000000 in
theorem one_short2 (s : ByteArray) (k : Nat) (w : World) (hs : s.size ≤ 281474976710656) (hk : k < s.size) (hlen : ¬ k + 2 ≤ s.size) (c : Int) (hc : (s[k].toNat : Int) = c) (h0 : 194 ≤ c) (h1 : c < 224) :
    Calls Tryd.prog 75 #[.string s, .int .i64 (k : Int)] w fun e w' => e = .returned (.tuple #[.int .i32 0, .int .i64 0]) ∧ w' = w := by
  have hi0 := fun W => ix s k 0 (by omega) c hc W (k : Int) rfl
  clear hc
  have hlenz : (s.size : Int) < (k : Int) + 2 := by omega
  go_enter Tryd.func75, Tryd.ntmps75
  go_wp2
  go_ret2
  exact ⟨rfl, rfl⟩

set_option maxRecDepth 100000 in
set_option maxHeartbeats 4000000 in
theorem one_long3 (s : ByteArray) (k : Nat) (w : World) (hs : s.size ≤ 281474976710656) (hlen : k + 3 ≤ s.size) (c d1 d2 : Int) (hc : (s[k].toNat : Int) = c) (e1 : (s[k + 1].toNat : Int) = d1) (e2 : (s[k + 2].toNat : Int) = d2) (h0 : 224 ≤ c) (h1 : c < 240) (ans : Int × Int)
    (hbad : ¬ ((128 ≤ d1 ∧ d1 < 192 ∧ 128 ≤ d2 ∧ d2 < 192) ∧ 2048 ≤ (64 * (64 * (c - 224) + d1 - 128) + d2 - 128) ∧ ((64 * (64 * (c - 224) + d1 - 128) + d2 - 128) < 55296 ∨ 57344 ≤ (64 * (64 * (c - 224) + d1 - 128) + d2 - 128))) → ans = (0, 0)) (hgood : (128 ≤ d1 ∧ d1 < 192 ∧ 128 ≤ d2 ∧ d2 < 192) ∧ 2048 ≤ (64 * (64 * (c - 224) + d1 - 128) + d2 - 128) ∧ ((64 * (64 * (c - 224) + d1 - 128) + d2 - 128) < 55296 ∨ 57344 ≤ (64 * (64 * (c - 224) + d1 - 128) + d2 - 128)) → ans = ((64 * (64 * (c - 224) + d1 - 128) + d2 - 128), 3)) :
    Calls Tryd.prog 75 #[.string s, .int .i64 (k : Int)] w fun e w' => e = .returned (.tuple #[.int .i32 ans.1, .int .i64 ans.2]) ∧ w' = w := by
  have hi0 := fun W => ix s k 0 (by omega) c hc W (k : Int) rfl
  have hi1 := fun W => ix s k 1 (by omega) d1 e1 W ((k : Int) + 1) rfl
  have q1 : 0 ≤ d1 ∧ d1 < 256 := by have := s[k + 1].toNat_lt; omega
  obtain ⟨q1a, q1b⟩ := q1
  have hi2 := fun W => ix s k 2 (by omega) d2 e2 W ((k : Int) + 2) rfl
  have q2 : 0 ≤ d2 ∧ d2 < 256 := by have := s[k + 2].toNat_lt; omega
  obtain ⟨q2a, q2b⟩ := q2
  have HB : Hid (¬ ((128 ≤ d1 ∧ d1 < 192 ∧ 128 ≤ d2 ∧ d2 < 192) ∧ 2048 ≤ (64 * (64 * (c - 224) + d1 - 128) + d2 - 128) ∧ ((64 * (64 * (c - 224) + d1 - 128) + d2 - 128) < 55296 ∨ 57344 ≤ (64 * (64 * (c - 224) + d1 - 128) + d2 - 128))) → ans = (0, 0)) := hbad
  have HG : Hid ((128 ≤ d1 ∧ d1 < 192 ∧ 128 ≤ d2 ∧ d2 < 192) ∧ 2048 ≤ (64 * (64 * (c - 224) + d1 - 128) + d2 - 128) ∧ ((64 * (64 * (c - 224) + d1 - 128) + d2 - 128) < 55296 ∨ 57344 ≤ (64 * (64 * (c - 224) + d1 - 128) + d2 - 128)) → ans = ((64 * (64 * (c - 224) + d1 - 128) + d2 - 128), 3)) := hgood
  clear hbad hgood hc e1 e2
  have hlenz : ¬ ((s.size : Int) < (k : Int) + 3) := by omega
  go_enter Tryd.func75, Tryd.ntmps75
  go_wp2
  go_loop [8, 10] (fun r i => (i = .int .i64 1 ∧ r = .int .i64 (c - 224)) ∨ (i = .int .i64 2 ∧ r = .int .i64 (64 * (c - 224) + d1 - 128) ∧ 128 ≤ d1 ∧ d1 < 192) ∨ (i = .int .i64 3 ∧ r = .int .i64 (64 * (64 * (c - 224) + d1 - 128) + d2 - 128) ∧ 128 ≤ d1 ∧ d1 < 192 ∧ 128 ≤ d2 ∧ d2 < 192)) (fun _ i => 3 - (RowKit.intOf i).toNat)
  case atStart => exact .inl ⟨rfl, rfl⟩
  case round =>
    rcases hrel with ⟨rfl, rfl⟩ | ⟨rfl, rfl, g1a, g1b⟩ | ⟨rfl, rfl, g1a, g1b, g2a, g2b⟩
    · by_cases g1a : 128 ≤ d1
      · by_cases g1b : d1 < 192
        · go_wp2
          go_round
          case rel => exact .inr (.inl ⟨rfl, by go_num, g1a, g1b⟩)
          case measure => simp [RowKit.intOf]
        · have ha := HB.out (by omega)
          subst ha
          go_wp2
          go_ret2
          exact ⟨rfl, rfl⟩
      · have ha := HB.out (by omega)
        subst ha
        go_wp2
        go_ret2
        exact ⟨rfl, rfl⟩
    · by_cases g2a : 128 ≤ d2
      · by_cases g2b : d2 < 192
        · go_wp2
          go_round
          case rel => exact .inr (.inr ⟨rfl, by go_num, g1a, g1b, g2a, g2b⟩)
          case measure => simp [RowKit.intOf]
        · have ha := HB.out (by omega)
          subst ha
          go_wp2
          go_ret2
          exact ⟨rfl, rfl⟩
      · have ha := HB.out (by omega)
        subst ha
        go_wp2
        go_ret2
        exact ⟨rfl, rfl⟩
    · by_cases y1 : (64 * (64 * (c - 224) + d1 - 128) + d2 - 128) < 2048
      · have ha := HB.out (by omega)
        subst ha
        go_wp2
        go_ret2
        exact ⟨rfl, rfl⟩
      · by_cases y2 : 55296 ≤ (64 * (64 * (c - 224) + d1 - 128) + d2 - 128)
        · by_cases y3 : (64 * (64 * (c - 224) + d1 - 128) + d2 - 128) ≤ 57343
          · have ha := HB.out (by omega)
            subst ha
            go_wp2
            go_ret2
            exact ⟨rfl, rfl⟩
          · have ha := HG.out (by omega)
            subst ha
            go_wp2
            go_ret2
            exact ⟨rfl, rfl⟩
        · have ha := HG.out (by omega)
          subst ha
          go_wp2
          go_ret2
          exact ⟨rfl, rfl⟩

set_option maxRecDepth 100000 in
set_option maxHeartbeats 2000000 in
theorem one_short3 (s : ByteArray) (k : Nat) (w : World) (hs : s.size ≤ 281474976710656) (hk : k < s.size) (hlen : ¬ k + 3 ≤ s.size) (c : Int) (hc : (s[k].toNat : Int) = c) (h0 : 224 ≤ c) (h1 : c < 240) :
    Calls Tryd.prog 75 #[.string s, .int .i64 (k : Int)] w fun e w' => e = .returned (.tuple #[.int .i32 0, .int .i64 0]) ∧ w' = w := by
  have hi0 := fun W => ix s k 0 (by omega) c hc W (k : Int) rfl
  clear hc
  have hlenz : (s.size : Int) < (k : Int) + 3 := by omega
  go_enter Tryd.func75, Tryd.ntmps75
  go_wp2
  go_ret2
  exact ⟨rfl, rfl⟩

set_option maxRecDepth 100000 in
set_option maxHeartbeats 4000000 in
theorem one_long4 (s : ByteArray) (k : Nat) (w : World) (hs : s.size ≤ 281474976710656) (hlen : k + 4 ≤ s.size) (c d1 d2 d3 : Int) (hc : (s[k].toNat : Int) = c) (e1 : (s[k + 1].toNat : Int) = d1) (e2 : (s[k + 2].toNat : Int) = d2) (e3 : (s[k + 3].toNat : Int) = d3) (h0 : 240 ≤ c) (h1 : c < 245) (ans : Int × Int)
    (hbad : ¬ ((128 ≤ d1 ∧ d1 < 192 ∧ 128 ≤ d2 ∧ d2 < 192 ∧ 128 ≤ d3 ∧ d3 < 192) ∧ 65536 ≤ (64 * (64 * (64 * (c - 240) + d1 - 128) + d2 - 128) + d3 - 128) ∧ (64 * (64 * (64 * (c - 240) + d1 - 128) + d2 - 128) + d3 - 128) ≤ 1114111) → ans = (0, 0)) (hgood : (128 ≤ d1 ∧ d1 < 192 ∧ 128 ≤ d2 ∧ d2 < 192 ∧ 128 ≤ d3 ∧ d3 < 192) ∧ 65536 ≤ (64 * (64 * (64 * (c - 240) + d1 - 128) + d2 - 128) + d3 - 128) ∧ (64 * (64 * (64 * (c - 240) + d1 - 128) + d2 - 128) + d3 - 128) ≤ 1114111 → ans = ((64 * (64 * (64 * (c - 240) + d1 - 128) + d2 - 128) + d3 - 128), 4)) :
    Calls Tryd.prog 75 #[.string s, .int .i64 (k : Int)] w fun e w' => e = .returned (.tuple #[.int .i32 ans.1, .int .i64 ans.2]) ∧ w' = w := by
  have hi0 := fun W => ix s k 0 (by omega) c hc W (k : Int) rfl
  have hi1 := fun W => ix s k 1 (by omega) d1 e1 W ((k : Int) + 1) rfl
  have q1 : 0 ≤ d1 ∧ d1 < 256 := by have := s[k + 1].toNat_lt; omega
  obtain ⟨q1a, q1b⟩ := q1
  have hi2 := fun W => ix s k 2 (by omega) d2 e2 W ((k : Int) + 2) rfl
  have q2 : 0 ≤ d2 ∧ d2 < 256 := by have := s[k + 2].toNat_lt; omega
  obtain ⟨q2a, q2b⟩ := q2
  have hi3 := fun W => ix s k 3 (by omega) d3 e3 W ((k : Int) + 3) rfl
  have q3 : 0 ≤ d3 ∧ d3 < 256 := by have := s[k + 3].toNat_lt; omega
  obtain ⟨q3a, q3b⟩ := q3
  have HB : Hid (¬ ((128 ≤ d1 ∧ d1 < 192 ∧ 128 ≤ d2 ∧ d2 < 192 ∧ 128 ≤ d3 ∧ d3 < 192) ∧ 65536 ≤ (64 * (64 * (64 * (c - 240) + d1 - 128) + d2 - 128) + d3 - 128) ∧ (64 * (64 * (64 * (c - 240) + d1 - 128) + d2 - 128) + d3 - 128) ≤ 1114111) → ans = (0, 0)) := hbad
  have HG : Hid ((128 ≤ d1 ∧ d1 < 192 ∧ 128 ≤ d2 ∧ d2 < 192 ∧ 128 ≤ d3 ∧ d3 < 192) ∧ 65536 ≤ (64 * (64 * (64 * (c - 240) + d1 - 128) + d2 - 128) + d3 - 128) ∧ (64 * (64 * (64 * (c - 240) + d1 - 128) + d2 - 128) + d3 - 128) ≤ 1114111 → ans = ((64 * (64 * (64 * (c - 240) + d1 - 128) + d2 - 128) + d3 - 128), 4)) := hgood
  clear hbad hgood hc e1 e2 e3
  have hlenz : ¬ ((s.size : Int) < (k : Int) + 4) := by omega
  go_enter Tryd.func75, Tryd.ntmps75
  go_wp2
  go_loop [8, 10] (fun r i => (i = .int .i64 1 ∧ r = .int .i64 (c - 240)) ∨ (i = .int .i64 2 ∧ r = .int .i64 (64 * (c - 240) + d1 - 128) ∧ 128 ≤ d1 ∧ d1 < 192) ∨ (i = .int .i64 3 ∧ r = .int .i64 (64 * (64 * (c - 240) + d1 - 128) + d2 - 128) ∧ 128 ≤ d1 ∧ d1 < 192 ∧ 128 ≤ d2 ∧ d2 < 192) ∨ (i = .int .i64 4 ∧ r = .int .i64 (64 * (64 * (64 * (c - 240) + d1 - 128) + d2 - 128) + d3 - 128) ∧ 128 ≤ d1 ∧ d1 < 192 ∧ 128 ≤ d2 ∧ d2 < 192 ∧ 128 ≤ d3 ∧ d3 < 192)) (fun _ i => 4 - (RowKit.intOf i).toNat)
  case atStart => exact .inl ⟨rfl, rfl⟩
  case round =>
    rcases hrel with ⟨rfl, rfl⟩ | ⟨rfl, rfl, g1a, g1b⟩ | ⟨rfl, rfl, g1a, g1b, g2a, g2b⟩ | ⟨rfl, rfl, g1a, g1b, g2a, g2b, g3a, g3b⟩
    · by_cases g1a : 128 ≤ d1
      · by_cases g1b : d1 < 192
        · go_wp2
          go_round
          case rel => exact .inr (.inl ⟨rfl, by go_num, g1a, g1b⟩)
          case measure => simp [RowKit.intOf]
        · have ha := HB.out (by omega)
          subst ha
          go_wp2
          go_ret2
          exact ⟨rfl, rfl⟩
      · have ha := HB.out (by omega)
        subst ha
        go_wp2
        go_ret2
        exact ⟨rfl, rfl⟩
    · by_cases g2a : 128 ≤ d2
      · by_cases g2b : d2 < 192
        · go_wp2
          go_round
          case rel => exact .inr (.inr (.inl ⟨rfl, by go_num, g1a, g1b, g2a, g2b⟩))
          case measure => simp [RowKit.intOf]
        · have ha := HB.out (by omega)
          subst ha
          go_wp2
          go_ret2
          exact ⟨rfl, rfl⟩
      · have ha := HB.out (by omega)
        subst ha
        go_wp2
        go_ret2
        exact ⟨rfl, rfl⟩
    · by_cases g3a : 128 ≤ d3
      · by_cases g3b : d3 < 192
        · go_wp2
          go_round
          case rel => exact .inr (.inr (.inr ⟨rfl, by go_num, g1a, g1b, g2a, g2b, g3a, g3b⟩))
          case measure => simp [RowKit.intOf]
        · have ha := HB.out (by omega)
          subst ha
          go_wp2
          go_ret2
          exact ⟨rfl, rfl⟩
      · have ha := HB.out (by omega)
        subst ha
        go_wp2
        go_ret2
        exact ⟨rfl, rfl⟩
    · by_cases y1 : (64 * (64 * (64 * (c - 240) + d1 - 128) + d2 - 128) + d3 - 128) < 65536
      · have ha := HB.out (by omega)
        subst ha
        go_wp2
        go_ret2
        exact ⟨rfl, rfl⟩
      · by_cases y2 : 1114111 < (64 * (64 * (64 * (c - 240) + d1 - 128) + d2 - 128) + d3 - 128)
        · have ha := HB.out (by omega)
          subst ha
          go_wp2
          go_ret2
          exact ⟨rfl, rfl⟩
        · have ha := HG.out (by omega)
          subst ha
          go_wp2
          go_ret2
          exact ⟨rfl, rfl⟩

set_option maxRecDepth 100000 in
set_option maxHeartbeats 2000000 in
theorem one_short4 (s : ByteArray) (k : Nat) (w : World) (hs : s.size ≤ 281474976710656) (hk : k < s.size) (hlen : ¬ k + 4 ≤ s.size) (c : Int) (hc : (s[k].toNat : Int) = c) (h0 : 240 ≤ c) (h1 : c < 245) :
    Calls Tryd.prog 75 #[.string s, .int .i64 (k : Int)] w fun e w' => e = .returned (.tuple #[.int .i32 0, .int .i64 0]) ∧ w' = w := by
  have hi0 := fun W => ix s k 0 (by omega) c hc W (k : Int) rfl
  clear hc
  have hlenz : (s.size : Int) < (k : Int) + 4 := by omega
  go_enter Tryd.func75, Tryd.ntmps75
  go_wp2
  go_ret2
  exact ⟨rfl, rfl⟩

set_option maxRecDepth 100000 in
set_option maxHeartbeats 2000000 in
theorem one_other (s : ByteArray) (k : Nat) (w : World) (hk : k < s.size) (c : Int) (hc : (s[k].toNat : Int) = c) (h0 : 128 ≤ c) (h1 : c < 194 ∨ 245 ≤ c) :
    Calls Tryd.prog 75 #[.string s, .int .i64 (k : Int)] w fun e w' => e = .returned (.tuple #[.int .i32 0, .int .i64 0]) ∧ w' = w := by
  have hi0 := fun W => ix s k 0 (by omega) c hc W (k : Int) rfl
  have hub : c < 256 := by have := s[k].toNat_lt; omega
  clear hc
  rcases h1 with h1 | h1
  all_goals
    go_enter Tryd.func75, Tryd.ntmps75
    go_wp2
    go_ret2
    exact ⟨rfl, rfl⟩

theorem oneB_bad (l : List UInt8) (h : decodeN l.length (l.getD 0 0).toNat (l.getD 1 0).toNat (l.getD 2 0).toNat (l.getD 3 0).toNat = (65533, 1)) : oneB l = (0, 0) := by
  rw [oneB_N, h]; rfl
theorem oneB_good (l : List UInt8) (x n : Nat) (hn : n ≠ 1 ∨ x ≠ 65533) (h : decodeN l.length (l.getD 0 0).toNat (l.getD 1 0).toNat (l.getD 2 0).toNat (l.getD 3 0).toNat = (x, n)) : oneB l = (x, n) := by
  rw [oneB_N, h]
  dsimp only
  rw [if_neg (by omega)]

theorem one_any (s : ByteArray) (k : Nat) (w : World) (hs : s.size ≤ 281474976710656) (hk : k < s.size) :
    Calls Tryd.prog 75 #[.string s, .int .i64 (k : Int)] w fun e w' => e = .returned (.tuple #[.int .i32 ((oneB (s.data.toList.drop k)).1 : Int), .int .i64 ((oneB (s.data.toList.drop k)).2 : Int)]) ∧ w' = w := by
  have hl := len_at s k
  have g0 : (s.data.toList.drop k).getD 0 0 = s[k] := byte_at s k 0 hk
  have u0 := s[k].toNat_lt
  by_cases c1 : s[k].toNat < 128
  · have e := oneB_good (s.data.toList.drop k) s[k].toNat 1 (by omega) (by rw [g0]; exact one_ascii _ _ _ _ _ c1)
    rw [e]
    exact one_any0 s k w hk c1
  · by_cases c2 : s[k].toNat < 194 ∨ 245 ≤ s[k].toNat
    · rw [oneB_bad (s.data.toList.drop k) (by rw [g0]; exact one_bad0 _ _ _ _ _ (by omega) c2 u0)]
      exact one_other s k w hk _ rfl (by omega) (by omega)
    · by_cases c3 : s[k].toNat < 224
      · by_cases hn : k + 2 ≤ s.size
        · have g1 : (s.data.toList.drop k).getD 1 0 = s[k + 1] := byte_at s k 1 (by omega)
          refine one_long2 s k w hs hn _ _ rfl rfl (by omega) (by omega) (((oneB (s.data.toList.drop k)).1 : Int), ((oneB (s.data.toList.drop k)).2 : Int)) (fun hb => ?_) (fun hg => ?_)
          · rw [oneB_bad (s.data.toList.drop k) (by rw [g0, g1, one_two _ _ _ _ _ (by omega) c3, if_neg (by omega)])]; rfl
          · rw [oneB_good (s.data.toList.drop k) _ 2 (by omega) (by rw [g0, g1, one_two _ _ _ _ _ (by omega) c3, if_pos (by omega)])]
            exact Prod.ext (by dsimp only; omega) rfl
        · rw [oneB_bad (s.data.toList.drop k) (by rw [g0, one_two _ _ _ _ _ (by omega) c3, if_neg (by omega)])]
          exact one_short2 s k w hs hk hn _ rfl (by omega) (by omega)
      · by_cases c4 : s[k].toNat < 240
        · by_cases hn : k + 3 ≤ s.size
          · have g1 : (s.data.toList.drop k).getD 1 0 = s[k + 1] := byte_at s k 1 (by omega)
            have g2 : (s.data.toList.drop k).getD 2 0 = s[k + 2] := byte_at s k 2 (by omega)
            refine one_long3 s k w hs hn _ _ _ rfl rfl rfl (by omega) (by omega) (((oneB (s.data.toList.drop k)).1 : Int), ((oneB (s.data.toList.drop k)).2 : Int)) (fun hb => ?_) (fun hg => ?_)
            · rw [oneB_bad (s.data.toList.drop k) (by rw [g0, g1, g2, one_three _ _ _ _ _ (by omega) c4, if_neg (by omega)])]; rfl
            · rw [oneB_good (s.data.toList.drop k) _ 3 (by omega) (by rw [g0, g1, g2, one_three _ _ _ _ _ (by omega) c4, if_pos (by omega)])]
              exact Prod.ext (by dsimp only; omega) rfl
          · rw [oneB_bad (s.data.toList.drop k) (by rw [g0, one_three _ _ _ _ _ (by omega) c4, if_neg (by omega)])]
            exact one_short3 s k w hs hk hn _ rfl (by omega) (by omega)
        · by_cases hn : k + 4 ≤ s.size
          · have g1 : (s.data.toList.drop k).getD 1 0 = s[k + 1] := byte_at s k 1 (by omega)
            have g2 : (s.data.toList.drop k).getD 2 0 = s[k + 2] := byte_at s k 2 (by omega)
            have g3 : (s.data.toList.drop k).getD 3 0 = s[k + 3] := byte_at s k 3 (by omega)
            refine one_long4 s k w hs hn _ _ _ _ rfl rfl rfl rfl (by omega) (by omega) (((oneB (s.data.toList.drop k)).1 : Int), ((oneB (s.data.toList.drop k)).2 : Int)) (fun hb => ?_) (fun hg => ?_)
            · rw [oneB_bad (s.data.toList.drop k) (by rw [g0, g1, g2, g3, one_four _ _ _ _ _ (by omega) (by omega), if_neg (by omega)])]; rfl
            · rw [oneB_good (s.data.toList.drop k) _ 4 (by omega) (by rw [g0, g1, g2, g3, one_four _ _ _ _ _ (by omega) (by omega), if_pos (by omega)])]
              exact Prod.ext (by dsimp only; omega) rfl
          · rw [oneB_bad (s.data.toList.drop k) (by rw [g0, one_four _ _ _ _ _ (by omega) (by omega), if_neg (by omega)])]
            exact one_short4 s k w hs hk hn _ rfl (by omega) (by omega)
end Go.Proofs.YtbefinbihopgfaaDoor
