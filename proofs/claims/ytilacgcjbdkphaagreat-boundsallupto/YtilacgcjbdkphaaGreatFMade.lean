/- The walks of rightName, rightMode and wellMade. -/
import Derived.Test.YtilacgcjbdkphaaGreatFBareA
import Derived.Test.YtilacgcjbdkphaaGreatFBareB
import Derived.Test.YtilacgcjbdkphaaGreatFBareC
import Derived.Test.YtilacgcjbdkphaaGreatFAttrs
import Derived.Test.YtilacgcjbdkphaaGreatFForest
namespace Go.Proofs.YtilacgcjbdkphaaGreat
open Go.RowKit Go.Lib

theorem known_kinds {k : Nat} (h : knownK k = true) : k = 1 ∨ k = 3 ∨ k = 4 ∨ k = 7 ∨ k = 8 ∨ k = 9 ∨ k = 10 ∨ k = 11 ∨ k = 12 := by
  unfold knownK mayHangK mayBeWithinK mayBeTopK hasDataK at h
  simp only [Bool.or_eq_true, beq_iff_eq] at h
  omega
theorem bare_any (k : Nat) (sp pr lo pu sy : ByteArray) (od oa ok : Option Addr) (dn an kn cd ca ck : Nat) (pa dc ho sh : Int) (mo : Nat) (ma ht : Bool) (w : World) (hk : knownK k = true) :
    Calls Tryz.prog 144 #[.agg #[.int .u8 (k : Int), .string sp, .string pr, .string lo, .string pu, .string sy, .slice od dn cd, .slice oa an ca, .int .i64 pa, .slice ok kn ck, .int .i64 dc, .int .i64 ho, .int .i64 sh, .int .u8 (mo : Int), .bool ma, .bool ht]] w fun e w' => e = .returned (.bool (bareB k (noneS sp && noneS pr) (an == 0) (sh == 0) (noneS pu && noneS sy) (ho == 0) (mo == 0) ma ht (noneS lo) (decide (0 < dn)) (decide (0 < kn)) (pa == 0))) ∧ Below w.heap.size w w' := by
  rcases known_kinds hk with rfl | rfl | rfl | rfl | rfl | rfl | rfl | rfl | rfl
  · exact bare_1 sp pr lo pu sy od oa ok dn an kn cd ca ck pa dc ho sh mo ma ht w
  · exact bare_3 sp pr lo pu sy od oa ok dn an kn cd ca ck pa dc ho sh mo ma ht w
  · exact bare_4 sp pr lo pu sy od oa ok dn an kn cd ca ck pa dc ho sh mo ma ht w
  · exact bare_7 sp pr lo pu sy od oa ok dn an kn cd ca ck pa dc ho sh mo ma ht w
  · exact bare_8 sp pr lo pu sy od oa ok dn an kn cd ca ck pa dc ho sh mo ma ht w
  · exact bare_9 sp pr lo pu sy od oa ok dn an kn cd ca ck pa dc ho sh mo ma ht w
  · exact bare_10 sp pr lo pu sy od oa ok dn an kn cd ca ck pa dc ho sh mo ma ht w
  · exact bare_11 sp pr lo pu sy od oa ok dn an kn cd ca ck pa dc ho sh mo ma ht w
  · exact bare_12 sp pr lo pu sy od oa ok dn an kn cd ca ck pa dc ho sh mo ma ht w

set_option maxRecDepth 100000 in
set_option maxHeartbeats 2000000 in
theorem rightName_any (k : Nat) (sp pr lo pu sy : ByteArray) (od oa ok : Option Addr) (dn an kn cd ca ck : Nat) (pa dc ho sh : Int) (mo : Nat) (ma ht : Bool) (w : World) :
    Calls Tryz.prog 145 #[.agg #[.int .u8 (k : Int), .string sp, .string pr, .string lo, .string pu, .string sy, .slice od dn cd, .slice oa an ca, .int .i64 pa, .slice ok kn ck, .int .i64 dc, .int .i64 ho, .int .i64 sh, .int .u8 (mo : Int), .bool ma, .bool ht]] w fun e w' => e = .returned (.bool (!hasLocalK k || goodNameD sp pr lo)) ∧ Below w.heap.size w w' := by
  have hL := hasLocal_any k (w.alloc (.cells #[.int .u8 (k : Int), .string sp, .string pr, .string lo, .string pu, .string sy, .slice od dn cd, .slice oa an ca, .int .i64 pa, .slice ok kn ck, .int .i64 dc, .int .i64 ho, .int .i64 sh, .int .u8 (mo : Int), .bool ma, .bool ht] 64))
  have hG := goodName_any sp pr lo (w.alloc (.cells #[.int .u8 (k : Int), .string sp, .string pr, .string lo, .string pu, .string sy, .slice od dn cd, .slice oa an ca, .int .i64 pa, .slice ok kn ck, .int .i64 dc, .int .i64 ho, .int .i64 sh, .int .u8 (mo : Int), .bool ma, .bool ht] 64))
  generalize hasLocalK k = b1 at *
  generalize goodNameD sp pr lo = b2 at *
  cases b1
  all_goals
    go_enter Tryz.func145, Tryz.ntmps145
    go_wp2_with (first
      | (go_at_call 155; refine hL.mono ?_; rintro e w' ⟨rfl, rfl⟩)
      | (go_at_call 158; refine hG.mono ?_; rintro e v1 ⟨rfl, hb1⟩))
    go_ret
    first
      | exact ⟨rfl, box_go hb1⟩
      | exact ⟨rfl, bx_first0⟩

set_option maxRecDepth 100000 in
set_option maxHeartbeats 2000000 in
theorem rightMode_any (k : Nat) (sp pr lo pu sy : ByteArray) (od oa ok : Option Addr) (dn an kn cd ca ck : Nat) (pa dc ho sh : Int) (mo : Nat) (ma ht : Bool) (w : World) :
    Calls Tryz.prog 148 #[.agg #[.int .u8 (k : Int), .string sp, .string pr, .string lo, .string pu, .string sy, .slice od dn cd, .slice oa an ca, .int .i64 pa, .slice ok kn ck, .int .i64 dc, .int .i64 ho, .int .i64 sh, .int .u8 (mo : Int), .bool ma, .bool ht]] w fun e w' => e = .returned (.bool (!(k == 12) || mo == 1 || mo == 2)) ∧ Below w.heap.size w w' := by
  have e1 : ((k : Int) == 12) = (k == 12) := beq_cast k 12
  have e1' : ((k : Int) != 12) = !(k == 12) := by rw [← e1]; rfl
  have e2 : ((mo : Int) == 1) = (mo == 1) := beq_cast mo 1
  have e3 : ((mo : Int) == 2) = (mo == 2) := beq_cast mo 2
  generalize (k == 12) = b1 at *
  generalize (mo == 1) = b2 at *
  generalize (mo == 2) = b3 at *
  cases b1 <;> cases b2 <;> cases b3
  all_goals
    go_enter Tryz.func148, Tryz.ntmps148
    go_wp2
    go_ret
    exact ⟨rfl, bx_first0⟩

theorem bx_first1 {w v : World} {o : Obj} (h : Below (w.alloc o).heap.size (w.alloc o) v) : Below (w.heap.size + 1) (w.alloc o) v := h.mono (by simp)
/-- Texts of at most so many bytes: two of them. -/
theorem two_all (a b : ByteArray) : ([a, b].all fun x => decide ((x.size : Int) ≤ 1024)) = (decide (a.size ≤ 1024) && decide (b.size ≤ 1024)) := by
  have hd : ∀ x : ByteArray, decide ((x.size : Int) ≤ 1024) = decide (x.size ≤ 1024) := fun x => by
    by_cases h : x.size ≤ 1024
    · rw [decide_eq_true h, decide_eq_true (by omega)]
    · rw [decide_eq_false h, decide_eq_false (by omega)]
  simp only [List.all_cons, List.all_nil, Bool.and_true, hd]
theorem short_two (a b : ByteArray) (W : World) : Calls Tryz.prog 147 #[.int .i64 1024, .slice (some ⟨W.heap.size, 0, none⟩) 2 2] (W.alloc (.cells #[.string a, .string b] 9)) fun e w' => e = .returned (.bool (decide (a.size ≤ 1024) && decide (b.size ≤ 1024))) ∧ Below (W.alloc (.cells #[.string a, .string b] 9)).heap.size (W.alloc (.cells #[.string a, .string b] 9)) w' := by
  have h := short_any 1024 W.heap.size 2 [a, b] (W.alloc (.cells #[.string a, .string b] 9)) (by simp) (by simp) (alloc_cellsT W [a, b] _)
  rw [two_all] at h
  exact h

def wellB (k : Nat) (B N A S D M : Bool) : Bool := knownK k && B && N && A && S && D && M


set_option maxHeartbeats 1000000 in
theorem wm0 (k : Nat) (sp pr lo pu sy : ByteArray) (od oa ok : Option Addr) (dn an kn cd ca ck : Nat) (pa dc ho sh : Int) (mo : Nat) (ma ht : Bool) (w : World) (HK : Hid (Calls Tryz.prog 143 #[.int .u8 (k : Int)] (w.alloc (.cells #[.int .u8 (k : Int), .string sp, .string pr, .string lo, .string pu, .string sy, .slice od dn cd, .slice oa an ca, .int .i64 pa, .slice ok kn ck, .int .i64 dc, .int .i64 ho, .int .i64 sh, .int .u8 (mo : Int), .bool ma, .bool ht] 64)) fun e w' => e = .returned (.bool false) ∧ w' = (w.alloc (.cells #[.int .u8 (k : Int), .string sp, .string pr, .string lo, .string pu, .string sy, .slice od dn cd, .slice oa an ca, .int .i64 pa, .slice ok kn ck, .int .i64 dc, .int .i64 ho, .int .i64 sh, .int .u8 (mo : Int), .bool ma, .bool ht] 64)))) :
    Calls Tryz.prog 135 #[.agg #[.int .u8 (k : Int), .string sp, .string pr, .string lo, .string pu, .string sy, .slice od dn cd, .slice oa an ca, .int .i64 pa, .slice ok kn ck, .int .i64 dc, .int .i64 ho, .int .i64 sh, .int .u8 (mo : Int), .bool ma, .bool ht]] w fun e w' => e = .returned (.bool false) ∧ Below w.heap.size w w' := by
  go_enter Tryz.func135, Tryz.ntmps135
  go_wp2_with (go_at_call 143; refine HK.out.mono ?_; rintro e w' ⟨rfl, rfl⟩)
  go_ret
  exact ⟨rfl, bx_first0⟩

set_option maxRecDepth 100000 in
set_option maxHeartbeats 2000000 in
theorem wm1 (k : Nat) (sp pr lo pu sy : ByteArray) (od oa ok : Option Addr) (dn an kn cd ca ck : Nat) (pa dc ho sh : Int) (mo : Nat) (ma ht : Bool) (w : World) (HK : Hid (Calls Tryz.prog 143 #[.int .u8 (k : Int)] (w.alloc (.cells #[.int .u8 (k : Int), .string sp, .string pr, .string lo, .string pu, .string sy, .slice od dn cd, .slice oa an ca, .int .i64 pa, .slice ok kn ck, .int .i64 dc, .int .i64 ho, .int .i64 sh, .int .u8 (mo : Int), .bool ma, .bool ht] 64)) fun e w' => e = .returned (.bool true) ∧ w' = (w.alloc (.cells #[.int .u8 (k : Int), .string sp, .string pr, .string lo, .string pu, .string sy, .slice od dn cd, .slice oa an ca, .int .i64 pa, .slice ok kn ck, .int .i64 dc, .int .i64 ho, .int .i64 sh, .int .u8 (mo : Int), .bool ma, .bool ht] 64)))) (HB : Hid (∀ W : World, Calls Tryz.prog 144 #[.agg #[.int .u8 (k : Int), .string sp, .string pr, .string lo, .string pu, .string sy, .slice od dn cd, .slice oa an ca, .int .i64 pa, .slice ok kn ck, .int .i64 dc, .int .i64 ho, .int .i64 sh, .int .u8 (mo : Int), .bool ma, .bool ht]] W fun e w' => e = .returned (.bool false) ∧ Below W.heap.size W w')) :
    Calls Tryz.prog 135 #[.agg #[.int .u8 (k : Int), .string sp, .string pr, .string lo, .string pu, .string sy, .slice od dn cd, .slice oa an ca, .int .i64 pa, .slice ok kn ck, .int .i64 dc, .int .i64 ho, .int .i64 sh, .int .u8 (mo : Int), .bool ma, .bool ht]] w fun e w' => e = .returned (.bool false) ∧ Below w.heap.size w w' := by
  have hbox : ∀ W, Below (w.heap.size + 1) (w.alloc (.cells #[.int .u8 (k : Int), .string sp, .string pr, .string lo, .string pu, .string sy, .slice od dn cd, .slice oa an ca, .int .i64 pa, .slice ok kn ck, .int .i64 dc, .int .i64 ho, .int .i64 sh, .int .u8 (mo : Int), .bool ma, .bool ht] 64)) W → W.cell? ⟨w.heap.size, 0, none⟩ = some (.int .u8 (k : Int)) ∧ W.cell? ⟨w.heap.size, 1, none⟩ = some (.string sp) ∧ W.cell? ⟨w.heap.size, 2, none⟩ = some (.string pr) ∧ W.cell? ⟨w.heap.size, 3, none⟩ = some (.string lo) ∧ W.cell? ⟨w.heap.size, 4, none⟩ = some (.string pu) ∧ W.cell? ⟨w.heap.size, 5, none⟩ = some (.string sy) ∧ W.cell? ⟨w.heap.size, 6, none⟩ = some (.slice od dn cd) ∧ W.cell? ⟨w.heap.size, 7, none⟩ = some (.slice oa an ca) ∧ W.cell? ⟨w.heap.size, 8, none⟩ = some (.int .i64 pa) ∧ W.cell? ⟨w.heap.size, 9, none⟩ = some (.slice ok kn ck) ∧ W.cell? ⟨w.heap.size, 10, none⟩ = some (.int .i64 dc) ∧ W.cell? ⟨w.heap.size, 11, none⟩ = some (.int .i64 ho) ∧ W.cell? ⟨w.heap.size, 12, none⟩ = some (.int .i64 sh) ∧ W.cell? ⟨w.heap.size, 13, none⟩ = some (.int .u8 (mo : Int)) ∧ W.cell? ⟨w.heap.size, 14, none⟩ = some (.bool ma) ∧ W.cell? ⟨w.heap.size, 15, none⟩ = some (.bool ht) := fun W hW => ⟨(hW.cell (p := ⟨w.heap.size, 0, none⟩) (by simp)).trans (by simp), (hW.cell (p := ⟨w.heap.size, 1, none⟩) (by simp)).trans (by simp), (hW.cell (p := ⟨w.heap.size, 2, none⟩) (by simp)).trans (by simp), (hW.cell (p := ⟨w.heap.size, 3, none⟩) (by simp)).trans (by simp), (hW.cell (p := ⟨w.heap.size, 4, none⟩) (by simp)).trans (by simp), (hW.cell (p := ⟨w.heap.size, 5, none⟩) (by simp)).trans (by simp), (hW.cell (p := ⟨w.heap.size, 6, none⟩) (by simp)).trans (by simp), (hW.cell (p := ⟨w.heap.size, 7, none⟩) (by simp)).trans (by simp), (hW.cell (p := ⟨w.heap.size, 8, none⟩) (by simp)).trans (by simp), (hW.cell (p := ⟨w.heap.size, 9, none⟩) (by simp)).trans (by simp), (hW.cell (p := ⟨w.heap.size, 10, none⟩) (by simp)).trans (by simp), (hW.cell (p := ⟨w.heap.size, 11, none⟩) (by simp)).trans (by simp), (hW.cell (p := ⟨w.heap.size, 12, none⟩) (by simp)).trans (by simp), (hW.cell (p := ⟨w.heap.size, 13, none⟩) (by simp)).trans (by simp), (hW.cell (p := ⟨w.heap.size, 14, none⟩) (by simp)).trans (by simp), (hW.cell (p := ⟨w.heap.size, 15, none⟩) (by simp)).trans (by simp)⟩
  have Hbox := hid hbox
  clear hbox
  go_enter Tryz.func135, Tryz.ntmps135
  go_wp2_with (first
    | (go_at_call 143; refine HK.out.mono ?_; rintro e w' ⟨rfl, rfl⟩)
    | (go_at_call 144; refine (HB.out _).mono ?_; rintro e v1 ⟨rfl, hb1⟩; have hB1 := bx_first1 hb1; obtain ⟨c0, c1, c2, c3, c4, c5, c6, c7, c8, c9, c10, c11, c12, c13, c14, c15⟩ := Hbox.out v1 hB1; clear hb1))
  go_ret
  exact ⟨rfl, bx_below hB1⟩

set_option maxRecDepth 100000 in
set_option maxHeartbeats 2000000 in
theorem wm2 (k : Nat) (sp pr lo pu sy : ByteArray) (od oa ok : Option Addr) (dn an kn cd ca ck : Nat) (pa dc ho sh : Int) (mo : Nat) (ma ht : Bool) (w : World) (HK : Hid (Calls Tryz.prog 143 #[.int .u8 (k : Int)] (w.alloc (.cells #[.int .u8 (k : Int), .string sp, .string pr, .string lo, .string pu, .string sy, .slice od dn cd, .slice oa an ca, .int .i64 pa, .slice ok kn ck, .int .i64 dc, .int .i64 ho, .int .i64 sh, .int .u8 (mo : Int), .bool ma, .bool ht] 64)) fun e w' => e = .returned (.bool true) ∧ w' = (w.alloc (.cells #[.int .u8 (k : Int), .string sp, .string pr, .string lo, .string pu, .string sy, .slice od dn cd, .slice oa an ca, .int .i64 pa, .slice ok kn ck, .int .i64 dc, .int .i64 ho, .int .i64 sh, .int .u8 (mo : Int), .bool ma, .bool ht] 64)))) (HB : Hid (∀ W : World, Calls Tryz.prog 144 #[.agg #[.int .u8 (k : Int), .string sp, .string pr, .string lo, .string pu, .string sy, .slice od dn cd, .slice oa an ca, .int .i64 pa, .slice ok kn ck, .int .i64 dc, .int .i64 ho, .int .i64 sh, .int .u8 (mo : Int), .bool ma, .bool ht]] W fun e w' => e = .returned (.bool true) ∧ Below W.heap.size W w')) (HN : Hid (∀ W : World, Calls Tryz.prog 145 #[.agg #[.int .u8 (k : Int), .string sp, .string pr, .string lo, .string pu, .string sy, .slice od dn cd, .slice oa an ca, .int .i64 pa, .slice ok kn ck, .int .i64 dc, .int .i64 ho, .int .i64 sh, .int .u8 (mo : Int), .bool ma, .bool ht]] W fun e w' => e = .returned (.bool false) ∧ Below W.heap.size W w')) :
    Calls Tryz.prog 135 #[.agg #[.int .u8 (k : Int), .string sp, .string pr, .string lo, .string pu, .string sy, .slice od dn cd, .slice oa an ca, .int .i64 pa, .slice ok kn ck, .int .i64 dc, .int .i64 ho, .int .i64 sh, .int .u8 (mo : Int), .bool ma, .bool ht]] w fun e w' => e = .returned (.bool false) ∧ Below w.heap.size w w' := by
  have hbox : ∀ W, Below (w.heap.size + 1) (w.alloc (.cells #[.int .u8 (k : Int), .string sp, .string pr, .string lo, .string pu, .string sy, .slice od dn cd, .slice oa an ca, .int .i64 pa, .slice ok kn ck, .int .i64 dc, .int .i64 ho, .int .i64 sh, .int .u8 (mo : Int), .bool ma, .bool ht] 64)) W → W.cell? ⟨w.heap.size, 0, none⟩ = some (.int .u8 (k : Int)) ∧ W.cell? ⟨w.heap.size, 1, none⟩ = some (.string sp) ∧ W.cell? ⟨w.heap.size, 2, none⟩ = some (.string pr) ∧ W.cell? ⟨w.heap.size, 3, none⟩ = some (.string lo) ∧ W.cell? ⟨w.heap.size, 4, none⟩ = some (.string pu) ∧ W.cell? ⟨w.heap.size, 5, none⟩ = some (.string sy) ∧ W.cell? ⟨w.heap.size, 6, none⟩ = some (.slice od dn cd) ∧ W.cell? ⟨w.heap.size, 7, none⟩ = some (.slice oa an ca) ∧ W.cell? ⟨w.heap.size, 8, none⟩ = some (.int .i64 pa) ∧ W.cell? ⟨w.heap.size, 9, none⟩ = some (.slice ok kn ck) ∧ W.cell? ⟨w.heap.size, 10, none⟩ = some (.int .i64 dc) ∧ W.cell? ⟨w.heap.size, 11, none⟩ = some (.int .i64 ho) ∧ W.cell? ⟨w.heap.size, 12, none⟩ = some (.int .i64 sh) ∧ W.cell? ⟨w.heap.size, 13, none⟩ = some (.int .u8 (mo : Int)) ∧ W.cell? ⟨w.heap.size, 14, none⟩ = some (.bool ma) ∧ W.cell? ⟨w.heap.size, 15, none⟩ = some (.bool ht) := fun W hW => ⟨(hW.cell (p := ⟨w.heap.size, 0, none⟩) (by simp)).trans (by simp), (hW.cell (p := ⟨w.heap.size, 1, none⟩) (by simp)).trans (by simp), (hW.cell (p := ⟨w.heap.size, 2, none⟩) (by simp)).trans (by simp), (hW.cell (p := ⟨w.heap.size, 3, none⟩) (by simp)).trans (by simp), (hW.cell (p := ⟨w.heap.size, 4, none⟩) (by simp)).trans (by simp), (hW.cell (p := ⟨w.heap.size, 5, none⟩) (by simp)).trans (by simp), (hW.cell (p := ⟨w.heap.size, 6, none⟩) (by simp)).trans (by simp), (hW.cell (p := ⟨w.heap.size, 7, none⟩) (by simp)).trans (by simp), (hW.cell (p := ⟨w.heap.size, 8, none⟩) (by simp)).trans (by simp), (hW.cell (p := ⟨w.heap.size, 9, none⟩) (by simp)).trans (by simp), (hW.cell (p := ⟨w.heap.size, 10, none⟩) (by simp)).trans (by simp), (hW.cell (p := ⟨w.heap.size, 11, none⟩) (by simp)).trans (by simp), (hW.cell (p := ⟨w.heap.size, 12, none⟩) (by simp)).trans (by simp), (hW.cell (p := ⟨w.heap.size, 13, none⟩) (by simp)).trans (by simp), (hW.cell (p := ⟨w.heap.size, 14, none⟩) (by simp)).trans (by simp), (hW.cell (p := ⟨w.heap.size, 15, none⟩) (by simp)).trans (by simp)⟩
  have Hbox := hid hbox
  clear hbox
  go_enter Tryz.func135, Tryz.ntmps135
  go_wp2_with (first
    | (go_at_call 143; refine HK.out.mono ?_; rintro e w' ⟨rfl, rfl⟩)
    | (go_at_call 144; refine (HB.out _).mono ?_; rintro e v1 ⟨rfl, hb1⟩; have hB1 := bx_first1 hb1; obtain ⟨c0, c1, c2, c3, c4, c5, c6, c7, c8, c9, c10, c11, c12, c13, c14, c15⟩ := Hbox.out v1 hB1; clear hb1)
    | (go_at_call 145; refine (HN.out _).mono ?_; rintro e v2 ⟨rfl, hb2⟩; have hB2 := hB1.trans (hb2.mono (bx_size hB1)); clear c0 c1 c2 c3 c4 c5 c6 c7 c8 c9 c10 c11 c12 c13 c14 c15; obtain ⟨d0, d1, d2, d3, d4, d5, d6, d7, d8, d9, d10, d11, d12, d13, d14, d15⟩ := Hbox.out v2 hB2; clear hb2))
  go_ret
  exact ⟨rfl, bx_below hB2⟩

set_option maxRecDepth 100000 in
set_option maxHeartbeats 2000000 in
theorem wm3 (k : Nat) (sp pr lo pu sy : ByteArray) (od oa ok : Option Addr) (dn an kn cd ca ck : Nat) (pa dc ho sh : Int) (mo : Nat) (ma ht : Bool) (w : World) (HK : Hid (Calls Tryz.prog 143 #[.int .u8 (k : Int)] (w.alloc (.cells #[.int .u8 (k : Int), .string sp, .string pr, .string lo, .string pu, .string sy, .slice od dn cd, .slice oa an ca, .int .i64 pa, .slice ok kn ck, .int .i64 dc, .int .i64 ho, .int .i64 sh, .int .u8 (mo : Int), .bool ma, .bool ht] 64)) fun e w' => e = .returned (.bool true) ∧ w' = (w.alloc (.cells #[.int .u8 (k : Int), .string sp, .string pr, .string lo, .string pu, .string sy, .slice od dn cd, .slice oa an ca, .int .i64 pa, .slice ok kn ck, .int .i64 dc, .int .i64 ho, .int .i64 sh, .int .u8 (mo : Int), .bool ma, .bool ht] 64)))) (HB : Hid (∀ W : World, Calls Tryz.prog 144 #[.agg #[.int .u8 (k : Int), .string sp, .string pr, .string lo, .string pu, .string sy, .slice od dn cd, .slice oa an ca, .int .i64 pa, .slice ok kn ck, .int .i64 dc, .int .i64 ho, .int .i64 sh, .int .u8 (mo : Int), .bool ma, .bool ht]] W fun e w' => e = .returned (.bool true) ∧ Below W.heap.size W w')) (HN : Hid (∀ W : World, Calls Tryz.prog 145 #[.agg #[.int .u8 (k : Int), .string sp, .string pr, .string lo, .string pu, .string sy, .slice od dn cd, .slice oa an ca, .int .i64 pa, .slice ok kn ck, .int .i64 dc, .int .i64 ho, .int .i64 sh, .int .u8 (mo : Int), .bool ma, .bool ht]] W fun e w' => e = .returned (.bool true) ∧ Below W.heap.size W w')) (HA : Hid (∀ W : World, Below (w.heap.size + 1) (w.alloc (.cells #[.int .u8 (k : Int), .string sp, .string pr, .string lo, .string pu, .string sy, .slice od dn cd, .slice oa an ca, .int .i64 pa, .slice ok kn ck, .int .i64 dc, .int .i64 ho, .int .i64 sh, .int .u8 (mo : Int), .bool ma, .bool ht] 64)) W → Calls Tryz.prog 146 #[.slice oa an ca] W fun e w' => e = .returned (.bool false) ∧ Below W.heap.size W w')) :
    Calls Tryz.prog 135 #[.agg #[.int .u8 (k : Int), .string sp, .string pr, .string lo, .string pu, .string sy, .slice od dn cd, .slice oa an ca, .int .i64 pa, .slice ok kn ck, .int .i64 dc, .int .i64 ho, .int .i64 sh, .int .u8 (mo : Int), .bool ma, .bool ht]] w fun e w' => e = .returned (.bool false) ∧ Below w.heap.size w w' := by
  have hbox : ∀ W, Below (w.heap.size + 1) (w.alloc (.cells #[.int .u8 (k : Int), .string sp, .string pr, .string lo, .string pu, .string sy, .slice od dn cd, .slice oa an ca, .int .i64 pa, .slice ok kn ck, .int .i64 dc, .int .i64 ho, .int .i64 sh, .int .u8 (mo : Int), .bool ma, .bool ht] 64)) W → W.cell? ⟨w.heap.size, 0, none⟩ = some (.int .u8 (k : Int)) ∧ W.cell? ⟨w.heap.size, 1, none⟩ = some (.string sp) ∧ W.cell? ⟨w.heap.size, 2, none⟩ = some (.string pr) ∧ W.cell? ⟨w.heap.size, 3, none⟩ = some (.string lo) ∧ W.cell? ⟨w.heap.size, 4, none⟩ = some (.string pu) ∧ W.cell? ⟨w.heap.size, 5, none⟩ = some (.string sy) ∧ W.cell? ⟨w.heap.size, 6, none⟩ = some (.slice od dn cd) ∧ W.cell? ⟨w.heap.size, 7, none⟩ = some (.slice oa an ca) ∧ W.cell? ⟨w.heap.size, 8, none⟩ = some (.int .i64 pa) ∧ W.cell? ⟨w.heap.size, 9, none⟩ = some (.slice ok kn ck) ∧ W.cell? ⟨w.heap.size, 10, none⟩ = some (.int .i64 dc) ∧ W.cell? ⟨w.heap.size, 11, none⟩ = some (.int .i64 ho) ∧ W.cell? ⟨w.heap.size, 12, none⟩ = some (.int .i64 sh) ∧ W.cell? ⟨w.heap.size, 13, none⟩ = some (.int .u8 (mo : Int)) ∧ W.cell? ⟨w.heap.size, 14, none⟩ = some (.bool ma) ∧ W.cell? ⟨w.heap.size, 15, none⟩ = some (.bool ht) := fun W hW => ⟨(hW.cell (p := ⟨w.heap.size, 0, none⟩) (by simp)).trans (by simp), (hW.cell (p := ⟨w.heap.size, 1, none⟩) (by simp)).trans (by simp), (hW.cell (p := ⟨w.heap.size, 2, none⟩) (by simp)).trans (by simp), (hW.cell (p := ⟨w.heap.size, 3, none⟩) (by simp)).trans (by simp), (hW.cell (p := ⟨w.heap.size, 4, none⟩) (by simp)).trans (by simp), (hW.cell (p := ⟨w.heap.size, 5, none⟩) (by simp)).trans (by simp), (hW.cell (p := ⟨w.heap.size, 6, none⟩) (by simp)).trans (by simp), (hW.cell (p := ⟨w.heap.size, 7, none⟩) (by simp)).trans (by simp), (hW.cell (p := ⟨w.heap.size, 8, none⟩) (by simp)).trans (by simp), (hW.cell (p := ⟨w.heap.size, 9, none⟩) (by simp)).trans (by simp), (hW.cell (p := ⟨w.heap.size, 10, none⟩) (by simp)).trans (by simp), (hW.cell (p := ⟨w.heap.size, 11, none⟩) (by simp)).trans (by simp), (hW.cell (p := ⟨w.heap.size, 12, none⟩) (by simp)).trans (by simp), (hW.cell (p := ⟨w.heap.size, 13, none⟩) (by simp)).trans (by simp), (hW.cell (p := ⟨w.heap.size, 14, none⟩) (by simp)).trans (by simp), (hW.cell (p := ⟨w.heap.size, 15, none⟩) (by simp)).trans (by simp)⟩
  have Hbox := hid hbox
  clear hbox
  go_enter Tryz.func135, Tryz.ntmps135
  go_wp2_with (first
    | (go_at_call 143; refine HK.out.mono ?_; rintro e w' ⟨rfl, rfl⟩)
    | (go_at_call 144; refine (HB.out _).mono ?_; rintro e v1 ⟨rfl, hb1⟩; have hB1 := bx_first1 hb1; obtain ⟨c0, c1, c2, c3, c4, c5, c6, c7, c8, c9, c10, c11, c12, c13, c14, c15⟩ := Hbox.out v1 hB1; clear hb1)
    | (go_at_call 145; refine (HN.out _).mono ?_; rintro e v2 ⟨rfl, hb2⟩; have hB2 := hB1.trans (hb2.mono (bx_size hB1)); clear c0 c1 c2 c3 c4 c5 c6 c7 c8 c9 c10 c11 c12 c13 c14 c15; obtain ⟨d0, d1, d2, d3, d4, d5, d6, d7, d8, d9, d10, d11, d12, d13, d14, d15⟩ := Hbox.out v2 hB2; clear hb2)
    | (go_at_call 146; refine (HA.out v2 hB2).mono ?_; rintro e v3 ⟨rfl, hb3⟩; have hB3 := hB2.trans (hb3.mono (bx_size hB2)); clear d0 d1 d2 d3 d4 d5 d6 d7 d8 d9 d10 d11 d12 d13 d14 d15; obtain ⟨e0, e1, e2, e3, e4, e5, e6, e7, e8, e9, e10, e11, e12, e13, e14, e15⟩ := Hbox.out v3 hB3; clear hb3))
  go_ret
  exact ⟨rfl, bx_below hB3⟩

set_option maxRecDepth 100000 in
set_option maxHeartbeats 2000000 in
theorem wm4 (k : Nat) (sp pr lo pu sy : ByteArray) (od oa ok : Option Addr) (dn an kn cd ca ck : Nat) (pa dc ho sh : Int) (mo : Nat) (ma ht : Bool) (w : World) (HK : Hid (Calls Tryz.prog 143 #[.int .u8 (k : Int)] (w.alloc (.cells #[.int .u8 (k : Int), .string sp, .string pr, .string lo, .string pu, .string sy, .slice od dn cd, .slice oa an ca, .int .i64 pa, .slice ok kn ck, .int .i64 dc, .int .i64 ho, .int .i64 sh, .int .u8 (mo : Int), .bool ma, .bool ht] 64)) fun e w' => e = .returned (.bool true) ∧ w' = (w.alloc (.cells #[.int .u8 (k : Int), .string sp, .string pr, .string lo, .string pu, .string sy, .slice od dn cd, .slice oa an ca, .int .i64 pa, .slice ok kn ck, .int .i64 dc, .int .i64 ho, .int .i64 sh, .int .u8 (mo : Int), .bool ma, .bool ht] 64)))) (HB : Hid (∀ W : World, Calls Tryz.prog 144 #[.agg #[.int .u8 (k : Int), .string sp, .string pr, .string lo, .string pu, .string sy, .slice od dn cd, .slice oa an ca, .int .i64 pa, .slice ok kn ck, .int .i64 dc, .int .i64 ho, .int .i64 sh, .int .u8 (mo : Int), .bool ma, .bool ht]] W fun e w' => e = .returned (.bool true) ∧ Below W.heap.size W w')) (HN : Hid (∀ W : World, Calls Tryz.prog 145 #[.agg #[.int .u8 (k : Int), .string sp, .string pr, .string lo, .string pu, .string sy, .slice od dn cd, .slice oa an ca, .int .i64 pa, .slice ok kn ck, .int .i64 dc, .int .i64 ho, .int .i64 sh, .int .u8 (mo : Int), .bool ma, .bool ht]] W fun e w' => e = .returned (.bool true) ∧ Below W.heap.size W w')) (HA : Hid (∀ W : World, Below (w.heap.size + 1) (w.alloc (.cells #[.int .u8 (k : Int), .string sp, .string pr, .string lo, .string pu, .string sy, .slice od dn cd, .slice oa an ca, .int .i64 pa, .slice ok kn ck, .int .i64 dc, .int .i64 ho, .int .i64 sh, .int .u8 (mo : Int), .bool ma, .bool ht] 64)) W → Calls Tryz.prog 146 #[.slice oa an ca] W fun e w' => e = .returned (.bool true) ∧ Below W.heap.size W w')) (HS : Hid (∀ W : World, Calls Tryz.prog 147 #[.int .i64 1024, .slice (some ⟨W.heap.size, 0, none⟩) 2 2] (W.alloc (.cells #[.string pu, .string sy] 9)) fun e w' => e = .returned (.bool false) ∧ Below (W.alloc (.cells #[.string pu, .string sy] 9)).heap.size (W.alloc (.cells #[.string pu, .string sy] 9)) w')) :
    Calls Tryz.prog 135 #[.agg #[.int .u8 (k : Int), .string sp, .string pr, .string lo, .string pu, .string sy, .slice od dn cd, .slice oa an ca, .int .i64 pa, .slice ok kn ck, .int .i64 dc, .int .i64 ho, .int .i64 sh, .int .u8 (mo : Int), .bool ma, .bool ht]] w fun e w' => e = .returned (.bool false) ∧ Below w.heap.size w w' := by
  have hbox : ∀ W, Below (w.heap.size + 1) (w.alloc (.cells #[.int .u8 (k : Int), .string sp, .string pr, .string lo, .string pu, .string sy, .slice od dn cd, .slice oa an ca, .int .i64 pa, .slice ok kn ck, .int .i64 dc, .int .i64 ho, .int .i64 sh, .int .u8 (mo : Int), .bool ma, .bool ht] 64)) W → W.cell? ⟨w.heap.size, 0, none⟩ = some (.int .u8 (k : Int)) ∧ W.cell? ⟨w.heap.size, 1, none⟩ = some (.string sp) ∧ W.cell? ⟨w.heap.size, 2, none⟩ = some (.string pr) ∧ W.cell? ⟨w.heap.size, 3, none⟩ = some (.string lo) ∧ W.cell? ⟨w.heap.size, 4, none⟩ = some (.string pu) ∧ W.cell? ⟨w.heap.size, 5, none⟩ = some (.string sy) ∧ W.cell? ⟨w.heap.size, 6, none⟩ = some (.slice od dn cd) ∧ W.cell? ⟨w.heap.size, 7, none⟩ = some (.slice oa an ca) ∧ W.cell? ⟨w.heap.size, 8, none⟩ = some (.int .i64 pa) ∧ W.cell? ⟨w.heap.size, 9, none⟩ = some (.slice ok kn ck) ∧ W.cell? ⟨w.heap.size, 10, none⟩ = some (.int .i64 dc) ∧ W.cell? ⟨w.heap.size, 11, none⟩ = some (.int .i64 ho) ∧ W.cell? ⟨w.heap.size, 12, none⟩ = some (.int .i64 sh) ∧ W.cell? ⟨w.heap.size, 13, none⟩ = some (.int .u8 (mo : Int)) ∧ W.cell? ⟨w.heap.size, 14, none⟩ = some (.bool ma) ∧ W.cell? ⟨w.heap.size, 15, none⟩ = some (.bool ht) := fun W hW => ⟨(hW.cell (p := ⟨w.heap.size, 0, none⟩) (by simp)).trans (by simp), (hW.cell (p := ⟨w.heap.size, 1, none⟩) (by simp)).trans (by simp), (hW.cell (p := ⟨w.heap.size, 2, none⟩) (by simp)).trans (by simp), (hW.cell (p := ⟨w.heap.size, 3, none⟩) (by simp)).trans (by simp), (hW.cell (p := ⟨w.heap.size, 4, none⟩) (by simp)).trans (by simp), (hW.cell (p := ⟨w.heap.size, 5, none⟩) (by simp)).trans (by simp), (hW.cell (p := ⟨w.heap.size, 6, none⟩) (by simp)).trans (by simp), (hW.cell (p := ⟨w.heap.size, 7, none⟩) (by simp)).trans (by simp), (hW.cell (p := ⟨w.heap.size, 8, none⟩) (by simp)).trans (by simp), (hW.cell (p := ⟨w.heap.size, 9, none⟩) (by simp)).trans (by simp), (hW.cell (p := ⟨w.heap.size, 10, none⟩) (by simp)).trans (by simp), (hW.cell (p := ⟨w.heap.size, 11, none⟩) (by simp)).trans (by simp), (hW.cell (p := ⟨w.heap.size, 12, none⟩) (by simp)).trans (by simp), (hW.cell (p := ⟨w.heap.size, 13, none⟩) (by simp)).trans (by simp), (hW.cell (p := ⟨w.heap.size, 14, none⟩) (by simp)).trans (by simp), (hW.cell (p := ⟨w.heap.size, 15, none⟩) (by simp)).trans (by simp)⟩
  have Hbox := hid hbox
  clear hbox
  go_enter Tryz.func135, Tryz.ntmps135
  go_wp2_with (first
    | (go_at_call 143; refine HK.out.mono ?_; rintro e w' ⟨rfl, rfl⟩)
    | (go_at_call 144; refine (HB.out _).mono ?_; rintro e v1 ⟨rfl, hb1⟩; have hB1 := bx_first1 hb1; obtain ⟨c0, c1, c2, c3, c4, c5, c6, c7, c8, c9, c10, c11, c12, c13, c14, c15⟩ := Hbox.out v1 hB1; clear hb1)
    | (go_at_call 145; refine (HN.out _).mono ?_; rintro e v2 ⟨rfl, hb2⟩; have hB2 := hB1.trans (hb2.mono (bx_size hB1)); clear c0 c1 c2 c3 c4 c5 c6 c7 c8 c9 c10 c11 c12 c13 c14 c15; obtain ⟨d0, d1, d2, d3, d4, d5, d6, d7, d8, d9, d10, d11, d12, d13, d14, d15⟩ := Hbox.out v2 hB2; clear hb2)
    | (go_at_call 146; refine (HA.out v2 hB2).mono ?_; rintro e v3 ⟨rfl, hb3⟩; have hB3 := hB2.trans (hb3.mono (bx_size hB2)); clear d0 d1 d2 d3 d4 d5 d6 d7 d8 d9 d10 d11 d12 d13 d14 d15; obtain ⟨e0, e1, e2, e3, e4, e5, e6, e7, e8, e9, e10, e11, e12, e13, e14, e15⟩ := Hbox.out v3 hB3; clear hb3)
    | (go_at_call 147; refine (HS.out v3).mono ?_; rintro e v4 ⟨rfl, hb4⟩; have hB4 := chain_alloc hB3 (bx_size hB3) hb4; clear e0 e1 e2 e3 e4 e5 e6 e7 e8 e9 e10 e11 e12 e13 e14 e15; obtain ⟨f0, f1, f2, f3, f4, f5, f6, f7, f8, f9, f10, f11, f12, f13, f14, f15⟩ := Hbox.out v4 hB4; clear hb4))
  go_ret
  exact ⟨rfl, bx_below hB4⟩

set_option maxRecDepth 100000 in
set_option maxHeartbeats 2000000 in
theorem wm5 (k : Nat) (sp pr lo pu sy : ByteArray) (od oa ok : Option Addr) (dn an kn cd ca ck : Nat) (pa dc ho sh : Int) (mo : Nat) (ma ht : Bool) (w : World) (HK : Hid (Calls Tryz.prog 143 #[.int .u8 (k : Int)] (w.alloc (.cells #[.int .u8 (k : Int), .string sp, .string pr, .string lo, .string pu, .string sy, .slice od dn cd, .slice oa an ca, .int .i64 pa, .slice ok kn ck, .int .i64 dc, .int .i64 ho, .int .i64 sh, .int .u8 (mo : Int), .bool ma, .bool ht] 64)) fun e w' => e = .returned (.bool true) ∧ w' = (w.alloc (.cells #[.int .u8 (k : Int), .string sp, .string pr, .string lo, .string pu, .string sy, .slice od dn cd, .slice oa an ca, .int .i64 pa, .slice ok kn ck, .int .i64 dc, .int .i64 ho, .int .i64 sh, .int .u8 (mo : Int), .bool ma, .bool ht] 64)))) (HB : Hid (∀ W : World, Calls Tryz.prog 144 #[.agg #[.int .u8 (k : Int), .string sp, .string pr, .string lo, .string pu, .string sy, .slice od dn cd, .slice oa an ca, .int .i64 pa, .slice ok kn ck, .int .i64 dc, .int .i64 ho, .int .i64 sh, .int .u8 (mo : Int), .bool ma, .bool ht]] W fun e w' => e = .returned (.bool true) ∧ Below W.heap.size W w')) (HN : Hid (∀ W : World, Calls Tryz.prog 145 #[.agg #[.int .u8 (k : Int), .string sp, .string pr, .string lo, .string pu, .string sy, .slice od dn cd, .slice oa an ca, .int .i64 pa, .slice ok kn ck, .int .i64 dc, .int .i64 ho, .int .i64 sh, .int .u8 (mo : Int), .bool ma, .bool ht]] W fun e w' => e = .returned (.bool true) ∧ Below W.heap.size W w')) (HA : Hid (∀ W : World, Below (w.heap.size + 1) (w.alloc (.cells #[.int .u8 (k : Int), .string sp, .string pr, .string lo, .string pu, .string sy, .slice od dn cd, .slice oa an ca, .int .i64 pa, .slice ok kn ck, .int .i64 dc, .int .i64 ho, .int .i64 sh, .int .u8 (mo : Int), .bool ma, .bool ht] 64)) W → Calls Tryz.prog 146 #[.slice oa an ca] W fun e w' => e = .returned (.bool true) ∧ Below W.heap.size W w')) (HS : Hid (∀ W : World, Calls Tryz.prog 147 #[.int .i64 1024, .slice (some ⟨W.heap.size, 0, none⟩) 2 2] (W.alloc (.cells #[.string pu, .string sy] 9)) fun e w' => e = .returned (.bool true) ∧ Below (W.alloc (.cells #[.string pu, .string sy] 9)).heap.size (W.alloc (.cells #[.string pu, .string sy] 9)) w')) (hD : ¬ (dn : Int) ≤ 16384) :
    Calls Tryz.prog 135 #[.agg #[.int .u8 (k : Int), .string sp, .string pr, .string lo, .string pu, .string sy, .slice od dn cd, .slice oa an ca, .int .i64 pa, .slice ok kn ck, .int .i64 dc, .int .i64 ho, .int .i64 sh, .int .u8 (mo : Int), .bool ma, .bool ht]] w fun e w' => e = .returned (.bool false) ∧ Below w.heap.size w w' := by
  have hbox : ∀ W, Below (w.heap.size + 1) (w.alloc (.cells #[.int .u8 (k : Int), .string sp, .string pr, .string lo, .string pu, .string sy, .slice od dn cd, .slice oa an ca, .int .i64 pa, .slice ok kn ck, .int .i64 dc, .int .i64 ho, .int .i64 sh, .int .u8 (mo : Int), .bool ma, .bool ht] 64)) W → W.cell? ⟨w.heap.size, 0, none⟩ = some (.int .u8 (k : Int)) ∧ W.cell? ⟨w.heap.size, 1, none⟩ = some (.string sp) ∧ W.cell? ⟨w.heap.size, 2, none⟩ = some (.string pr) ∧ W.cell? ⟨w.heap.size, 3, none⟩ = some (.string lo) ∧ W.cell? ⟨w.heap.size, 4, none⟩ = some (.string pu) ∧ W.cell? ⟨w.heap.size, 5, none⟩ = some (.string sy) ∧ W.cell? ⟨w.heap.size, 6, none⟩ = some (.slice od dn cd) ∧ W.cell? ⟨w.heap.size, 7, none⟩ = some (.slice oa an ca) ∧ W.cell? ⟨w.heap.size, 8, none⟩ = some (.int .i64 pa) ∧ W.cell? ⟨w.heap.size, 9, none⟩ = some (.slice ok kn ck) ∧ W.cell? ⟨w.heap.size, 10, none⟩ = some (.int .i64 dc) ∧ W.cell? ⟨w.heap.size, 11, none⟩ = some (.int .i64 ho) ∧ W.cell? ⟨w.heap.size, 12, none⟩ = some (.int .i64 sh) ∧ W.cell? ⟨w.heap.size, 13, none⟩ = some (.int .u8 (mo : Int)) ∧ W.cell? ⟨w.heap.size, 14, none⟩ = some (.bool ma) ∧ W.cell? ⟨w.heap.size, 15, none⟩ = some (.bool ht) := fun W hW => ⟨(hW.cell (p := ⟨w.heap.size, 0, none⟩) (by simp)).trans (by simp), (hW.cell (p := ⟨w.heap.size, 1, none⟩) (by simp)).trans (by simp), (hW.cell (p := ⟨w.heap.size, 2, none⟩) (by simp)).trans (by simp), (hW.cell (p := ⟨w.heap.size, 3, none⟩) (by simp)).trans (by simp), (hW.cell (p := ⟨w.heap.size, 4, none⟩) (by simp)).trans (by simp), (hW.cell (p := ⟨w.heap.size, 5, none⟩) (by simp)).trans (by simp), (hW.cell (p := ⟨w.heap.size, 6, none⟩) (by simp)).trans (by simp), (hW.cell (p := ⟨w.heap.size, 7, none⟩) (by simp)).trans (by simp), (hW.cell (p := ⟨w.heap.size, 8, none⟩) (by simp)).trans (by simp), (hW.cell (p := ⟨w.heap.size, 9, none⟩) (by simp)).trans (by simp), (hW.cell (p := ⟨w.heap.size, 10, none⟩) (by simp)).trans (by simp), (hW.cell (p := ⟨w.heap.size, 11, none⟩) (by simp)).trans (by simp), (hW.cell (p := ⟨w.heap.size, 12, none⟩) (by simp)).trans (by simp), (hW.cell (p := ⟨w.heap.size, 13, none⟩) (by simp)).trans (by simp), (hW.cell (p := ⟨w.heap.size, 14, none⟩) (by simp)).trans (by simp), (hW.cell (p := ⟨w.heap.size, 15, none⟩) (by simp)).trans (by simp)⟩
  have Hbox := hid hbox
  clear hbox
  go_enter Tryz.func135, Tryz.ntmps135
  go_wp2_with (first
    | (go_at_call 143; refine HK.out.mono ?_; rintro e w' ⟨rfl, rfl⟩)
    | (go_at_call 144; refine (HB.out _).mono ?_; rintro e v1 ⟨rfl, hb1⟩; have hB1 := bx_first1 hb1; obtain ⟨c0, c1, c2, c3, c4, c5, c6, c7, c8, c9, c10, c11, c12, c13, c14, c15⟩ := Hbox.out v1 hB1; clear hb1)
    | (go_at_call 145; refine (HN.out _).mono ?_; rintro e v2 ⟨rfl, hb2⟩; have hB2 := hB1.trans (hb2.mono (bx_size hB1)); clear c0 c1 c2 c3 c4 c5 c6 c7 c8 c9 c10 c11 c12 c13 c14 c15; obtain ⟨d0, d1, d2, d3, d4, d5, d6, d7, d8, d9, d10, d11, d12, d13, d14, d15⟩ := Hbox.out v2 hB2; clear hb2)
    | (go_at_call 146; refine (HA.out v2 hB2).mono ?_; rintro e v3 ⟨rfl, hb3⟩; have hB3 := hB2.trans (hb3.mono (bx_size hB2)); clear d0 d1 d2 d3 d4 d5 d6 d7 d8 d9 d10 d11 d12 d13 d14 d15; obtain ⟨e0, e1, e2, e3, e4, e5, e6, e7, e8, e9, e10, e11, e12, e13, e14, e15⟩ := Hbox.out v3 hB3; clear hb3)
    | (go_at_call 147; refine (HS.out v3).mono ?_; rintro e v4 ⟨rfl, hb4⟩; have hB4 := chain_alloc hB3 (bx_size hB3) hb4; clear e0 e1 e2 e3 e4 e5 e6 e7 e8 e9 e10 e11 e12 e13 e14 e15; obtain ⟨f0, f1, f2, f3, f4, f5, f6, f7, f8, f9, f10, f11, f12, f13, f14, f15⟩ := Hbox.out v4 hB4; clear hb4))
  go_ret
  exact ⟨rfl, bx_below hB4⟩

set_option maxRecDepth 100000 in
set_option maxHeartbeats 2000000 in
theorem wm6 (k : Nat) (sp pr lo pu sy : ByteArray) (od oa ok : Option Addr) (dn an kn cd ca ck : Nat) (pa dc ho sh : Int) (mo : Nat) (ma ht : Bool) (w : World) (MB : Bool) (HK : Hid (Calls Tryz.prog 143 #[.int .u8 (k : Int)] (w.alloc (.cells #[.int .u8 (k : Int), .string sp, .string pr, .string lo, .string pu, .string sy, .slice od dn cd, .slice oa an ca, .int .i64 pa, .slice ok kn ck, .int .i64 dc, .int .i64 ho, .int .i64 sh, .int .u8 (mo : Int), .bool ma, .bool ht] 64)) fun e w' => e = .returned (.bool true) ∧ w' = (w.alloc (.cells #[.int .u8 (k : Int), .string sp, .string pr, .string lo, .string pu, .string sy, .slice od dn cd, .slice oa an ca, .int .i64 pa, .slice ok kn ck, .int .i64 dc, .int .i64 ho, .int .i64 sh, .int .u8 (mo : Int), .bool ma, .bool ht] 64)))) (HB : Hid (∀ W : World, Calls Tryz.prog 144 #[.agg #[.int .u8 (k : Int), .string sp, .string pr, .string lo, .string pu, .string sy, .slice od dn cd, .slice oa an ca, .int .i64 pa, .slice ok kn ck, .int .i64 dc, .int .i64 ho, .int .i64 sh, .int .u8 (mo : Int), .bool ma, .bool ht]] W fun e w' => e = .returned (.bool true) ∧ Below W.heap.size W w')) (HN : Hid (∀ W : World, Calls Tryz.prog 145 #[.agg #[.int .u8 (k : Int), .string sp, .string pr, .string lo, .string pu, .string sy, .slice od dn cd, .slice oa an ca, .int .i64 pa, .slice ok kn ck, .int .i64 dc, .int .i64 ho, .int .i64 sh, .int .u8 (mo : Int), .bool ma, .bool ht]] W fun e w' => e = .returned (.bool true) ∧ Below W.heap.size W w')) (HA : Hid (∀ W : World, Below (w.heap.size + 1) (w.alloc (.cells #[.int .u8 (k : Int), .string sp, .string pr, .string lo, .string pu, .string sy, .slice od dn cd, .slice oa an ca, .int .i64 pa, .slice ok kn ck, .int .i64 dc, .int .i64 ho, .int .i64 sh, .int .u8 (mo : Int), .bool ma, .bool ht] 64)) W → Calls Tryz.prog 146 #[.slice oa an ca] W fun e w' => e = .returned (.bool true) ∧ Below W.heap.size W w')) (HS : Hid (∀ W : World, Calls Tryz.prog 147 #[.int .i64 1024, .slice (some ⟨W.heap.size, 0, none⟩) 2 2] (W.alloc (.cells #[.string pu, .string sy] 9)) fun e w' => e = .returned (.bool true) ∧ Below (W.alloc (.cells #[.string pu, .string sy] 9)).heap.size (W.alloc (.cells #[.string pu, .string sy] 9)) w')) (HM : Hid (∀ W : World, Calls Tryz.prog 148 #[.agg #[.int .u8 (k : Int), .string sp, .string pr, .string lo, .string pu, .string sy, .slice od dn cd, .slice oa an ca, .int .i64 pa, .slice ok kn ck, .int .i64 dc, .int .i64 ho, .int .i64 sh, .int .u8 (mo : Int), .bool ma, .bool ht]] W fun e w' => e = .returned (.bool MB) ∧ Below W.heap.size W w')) (hD : (dn : Int) ≤ 16384) :
    Calls Tryz.prog 135 #[.agg #[.int .u8 (k : Int), .string sp, .string pr, .string lo, .string pu, .string sy, .slice od dn cd, .slice oa an ca, .int .i64 pa, .slice ok kn ck, .int .i64 dc, .int .i64 ho, .int .i64 sh, .int .u8 (mo : Int), .bool ma, .bool ht]] w fun e w' => e = .returned (.bool MB) ∧ Below w.heap.size w w' := by
  have hbox : ∀ W, Below (w.heap.size + 1) (w.alloc (.cells #[.int .u8 (k : Int), .string sp, .string pr, .string lo, .string pu, .string sy, .slice od dn cd, .slice oa an ca, .int .i64 pa, .slice ok kn ck, .int .i64 dc, .int .i64 ho, .int .i64 sh, .int .u8 (mo : Int), .bool ma, .bool ht] 64)) W → W.cell? ⟨w.heap.size, 0, none⟩ = some (.int .u8 (k : Int)) ∧ W.cell? ⟨w.heap.size, 1, none⟩ = some (.string sp) ∧ W.cell? ⟨w.heap.size, 2, none⟩ = some (.string pr) ∧ W.cell? ⟨w.heap.size, 3, none⟩ = some (.string lo) ∧ W.cell? ⟨w.heap.size, 4, none⟩ = some (.string pu) ∧ W.cell? ⟨w.heap.size, 5, none⟩ = some (.string sy) ∧ W.cell? ⟨w.heap.size, 6, none⟩ = some (.slice od dn cd) ∧ W.cell? ⟨w.heap.size, 7, none⟩ = some (.slice oa an ca) ∧ W.cell? ⟨w.heap.size, 8, none⟩ = some (.int .i64 pa) ∧ W.cell? ⟨w.heap.size, 9, none⟩ = some (.slice ok kn ck) ∧ W.cell? ⟨w.heap.size, 10, none⟩ = some (.int .i64 dc) ∧ W.cell? ⟨w.heap.size, 11, none⟩ = some (.int .i64 ho) ∧ W.cell? ⟨w.heap.size, 12, none⟩ = some (.int .i64 sh) ∧ W.cell? ⟨w.heap.size, 13, none⟩ = some (.int .u8 (mo : Int)) ∧ W.cell? ⟨w.heap.size, 14, none⟩ = some (.bool ma) ∧ W.cell? ⟨w.heap.size, 15, none⟩ = some (.bool ht) := fun W hW => ⟨(hW.cell (p := ⟨w.heap.size, 0, none⟩) (by simp)).trans (by simp), (hW.cell (p := ⟨w.heap.size, 1, none⟩) (by simp)).trans (by simp), (hW.cell (p := ⟨w.heap.size, 2, none⟩) (by simp)).trans (by simp), (hW.cell (p := ⟨w.heap.size, 3, none⟩) (by simp)).trans (by simp), (hW.cell (p := ⟨w.heap.size, 4, none⟩) (by simp)).trans (by simp), (hW.cell (p := ⟨w.heap.size, 5, none⟩) (by simp)).trans (by simp), (hW.cell (p := ⟨w.heap.size, 6, none⟩) (by simp)).trans (by simp), (hW.cell (p := ⟨w.heap.size, 7, none⟩) (by simp)).trans (by simp), (hW.cell (p := ⟨w.heap.size, 8, none⟩) (by simp)).trans (by simp), (hW.cell (p := ⟨w.heap.size, 9, none⟩) (by simp)).trans (by simp), (hW.cell (p := ⟨w.heap.size, 10, none⟩) (by simp)).trans (by simp), (hW.cell (p := ⟨w.heap.size, 11, none⟩) (by simp)).trans (by simp), (hW.cell (p := ⟨w.heap.size, 12, none⟩) (by simp)).trans (by simp), (hW.cell (p := ⟨w.heap.size, 13, none⟩) (by simp)).trans (by simp), (hW.cell (p := ⟨w.heap.size, 14, none⟩) (by simp)).trans (by simp), (hW.cell (p := ⟨w.heap.size, 15, none⟩) (by simp)).trans (by simp)⟩
  have Hbox := hid hbox
  clear hbox
  go_enter Tryz.func135, Tryz.ntmps135
  go_wp2_with (first
    | (go_at_call 143; refine HK.out.mono ?_; rintro e w' ⟨rfl, rfl⟩)
    | (go_at_call 144; refine (HB.out _).mono ?_; rintro e v1 ⟨rfl, hb1⟩; have hB1 := bx_first1 hb1; obtain ⟨c0, c1, c2, c3, c4, c5, c6, c7, c8, c9, c10, c11, c12, c13, c14, c15⟩ := Hbox.out v1 hB1; clear hb1)
    | (go_at_call 145; refine (HN.out _).mono ?_; rintro e v2 ⟨rfl, hb2⟩; have hB2 := hB1.trans (hb2.mono (bx_size hB1)); clear c0 c1 c2 c3 c4 c5 c6 c7 c8 c9 c10 c11 c12 c13 c14 c15; obtain ⟨d0, d1, d2, d3, d4, d5, d6, d7, d8, d9, d10, d11, d12, d13, d14, d15⟩ := Hbox.out v2 hB2; clear hb2)
    | (go_at_call 146; refine (HA.out v2 hB2).mono ?_; rintro e v3 ⟨rfl, hb3⟩; have hB3 := hB2.trans (hb3.mono (bx_size hB2)); clear d0 d1 d2 d3 d4 d5 d6 d7 d8 d9 d10 d11 d12 d13 d14 d15; obtain ⟨e0, e1, e2, e3, e4, e5, e6, e7, e8, e9, e10, e11, e12, e13, e14, e15⟩ := Hbox.out v3 hB3; clear hb3)
    | (go_at_call 147; refine (HS.out v3).mono ?_; rintro e v4 ⟨rfl, hb4⟩; have hB4 := chain_alloc hB3 (bx_size hB3) hb4; clear e0 e1 e2 e3 e4 e5 e6 e7 e8 e9 e10 e11 e12 e13 e14 e15; obtain ⟨f0, f1, f2, f3, f4, f5, f6, f7, f8, f9, f10, f11, f12, f13, f14, f15⟩ := Hbox.out v4 hB4; clear hb4)
    | (go_at_call 148; refine (HM.out _).mono ?_; rintro e v5 ⟨rfl, hb5⟩; have hB5 := hB4.trans (hb5.mono (bx_size hB4)); clear hb5))
  go_ret
  exact ⟨rfl, bx_below hB5⟩

theorem wellMade_any (k : Nat) (sp pr lo pu sy : ByteArray) (od oa ok : Option Addr) (dn an kn cd ca ck : Nat) (pa dc ho sh : Int) (mo : Nat) (ma ht : Bool) (l : List AttrD) (w : World) (hA : RdA w (.slice oa an ca) l) (hl : l.length ≤ 1099511627776) :
    Calls Tryz.prog 135 #[.agg #[.int .u8 (k : Int), .string sp, .string pr, .string lo, .string pu, .string sy, .slice od dn cd, .slice oa an ca, .int .i64 pa, .slice ok kn ck, .int .i64 dc, .int .i64 ho, .int .i64 sh, .int .u8 (mo : Int), .bool ma, .bool ht]] w fun e w' => e = .returned (.bool (wellB k (bareB k (noneS sp && noneS pr) (an == 0) (sh == 0) (noneS pu && noneS sy) (ho == 0) (mo == 0) ma ht (noneS lo) (decide (0 < dn)) (decide (0 < kn)) (pa == 0)) (!hasLocalK k || goodNameD sp pr lo) (rightAttrsD l) (decide (pu.size ≤ 1024) && decide (sy.size ≤ 1024)) (decide (dn ≤ 16384)) (!(k == 12) || mo == 1 || mo == 2))) ∧ Below w.heap.size w w' := by
  have HK := known_any k (w.alloc (.cells #[.int .u8 (k : Int), .string sp, .string pr, .string lo, .string pu, .string sy, .slice od dn cd, .slice oa an ca, .int .i64 pa, .slice ok kn ck, .int .i64 dc, .int .i64 ho, .int .i64 sh, .int .u8 (mo : Int), .bool ma, .bool ht] 64))
  have HB := fun (hk : knownK k = true) W => bare_any k sp pr lo pu sy od oa ok dn an kn cd ca ck pa dc ho sh mo ma ht W hk
  have HN := fun W => rightName_any k sp pr lo pu sy od oa ok dn an kn cd ca ck pa dc ho sh mo ma ht W
  have HM := fun W => rightMode_any k sp pr lo pu sy od oa ok dn an kn cd ca ck pa dc ho sh mo ma ht W
  have HA := fun W (hW : Below (w.heap.size + 1) (w.alloc (.cells #[.int .u8 (k : Int), .string sp, .string pr, .string lo, .string pu, .string sy, .slice od dn cd, .slice oa an ca, .int .i64 pa, .slice ok kn ck, .int .i64 dc, .int .i64 ho, .int .i64 sh, .int .u8 (mo : Int), .bool ma, .bool ht] 64)) W) => rightAttrs_any _ l W (hA.later (bx_below hW)) hl
  have HS := fun W => short_two pu sy W
  unfold wellB
  generalize (bareB k (noneS sp && noneS pr) (an == 0) (sh == 0) (noneS pu && noneS sy) (ho == 0) (mo == 0) ma ht (noneS lo) (decide (0 < dn)) (decide (0 < kn)) (pa == 0)) = BB at *
  generalize (!hasLocalK k || goodNameD sp pr lo) = NB at *
  generalize rightAttrsD l = AB at *
  generalize (decide (pu.size ≤ 1024) && decide (sy.size ≤ 1024)) = SB at *
  generalize (!(k == 12) || mo == 1 || mo == 2) = MB at *
  generalize hKK : knownK k = KB at *
  cases KB with
  | false =>
    refine (wm0 k sp pr lo pu sy od oa ok dn an kn cd ca ck pa dc ho sh mo ma ht w HK).mono fun e w' h => ⟨?_, h.2⟩
    rw [h.1]
    rfl
  | true =>
    have HBt := HB rfl
    cases BB with
    | false => exact wm1 k sp pr lo pu sy od oa ok dn an kn cd ca ck pa dc ho sh mo ma ht w HK HBt
    | true =>
      cases NB with
      | false => exact wm2 k sp pr lo pu sy od oa ok dn an kn cd ca ck pa dc ho sh mo ma ht w HK HBt HN
      | true =>
        cases AB with
        | false => exact wm3 k sp pr lo pu sy od oa ok dn an kn cd ca ck pa dc ho sh mo ma ht w HK HBt HN HA
        | true =>
          cases SB with
          | false => exact wm4 k sp pr lo pu sy od oa ok dn an kn cd ca ck pa dc ho sh mo ma ht w HK HBt HN HA HS
          | true =>
            by_cases hD : dn ≤ 16384
            · rw [decide_eq_true hD]
              exact wm6 k sp pr lo pu sy od oa ok dn an kn cd ca ck pa dc ho sh mo ma ht w MB HK HBt HN HA HS HM (by omega)
            · rw [decide_eq_false hD]
              exact wm5 k sp pr lo pu sy od oa ok dn an kn cd ca ck pa dc ho sh mo ma ht w HK HBt HN HA HS (by omega)
end Go.Proofs.YtilacgcjbdkphaaGreat
