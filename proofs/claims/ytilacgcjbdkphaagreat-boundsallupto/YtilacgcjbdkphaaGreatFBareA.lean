/- The walks of forest.bare: kind by kind. -/
import Derived.Test.YtilacgcjbdkphaaGreatFBareL
namespace Go.Proofs.YtilacgcjbdkphaaGreat
open Go.RowKit Go.Lib

set_option maxRecDepth 100000 in
set_option maxHeartbeats 4000000 in
theorem bare_1 (sp pr lo pu sy : ByteArray) (od oa ok : Option Addr) (dn an kn cd ca ck : Nat) (pa dc ho sh : Int) (mo : Nat) (ma ht : Bool) (w : World) :
    Calls Tryz.prog 144 #[.agg #[.int .u8 1, .string sp, .string pr, .string lo, .string pu, .string sy, .slice od dn cd, .slice oa an ca, .int .i64 pa, .slice ok kn ck, .int .i64 dc, .int .i64 ho, .int .i64 sh, .int .u8 (mo : Int), .bool ma, .bool ht]] w fun e w' => e = .returned (.bool (bareB 1 (noneS sp && noneS pr) (an == 0) (sh == 0) (noneS pu && noneS sy) (ho == 0) (mo == 0) ma ht (noneS lo) (decide (0 < dn)) (decide (0 < kn)) (pa == 0))) ∧ Below w.heap.size w w' := by
  have eA : ((an : Int) == 0) = (an == 0) := beq_cast an 0
  have eH' : (ho != 0) = !(ho == 0) := rfl
  have eM : ((mo : Int) == 0) = (mo == 0) := beq_cast mo 0
  have eM' : ((mo : Int) != 0) = !(mo == 0) := by rw [← eM]; rfl
  have eP' : (pa != 0) = !(pa == 0) := rfl
  have eL := noneS_toList lo
  have eL' := noneS_empty lo
  have hbox : ∀ W, Below (w.heap.size + 1) (w.alloc (.cells #[.int .u8 1, .string sp, .string pr, .string lo, .string pu, .string sy, .slice od dn cd, .slice oa an ca, .int .i64 pa, .slice ok kn ck, .int .i64 dc, .int .i64 ho, .int .i64 sh, .int .u8 (mo : Int), .bool ma, .bool ht] 64)) W → W.cell? ⟨w.heap.size, 0, none⟩ = some (.int .u8 1) ∧ W.cell? ⟨w.heap.size, 1, none⟩ = some (.string sp) ∧ W.cell? ⟨w.heap.size, 2, none⟩ = some (.string pr) ∧ W.cell? ⟨w.heap.size, 3, none⟩ = some (.string lo) ∧ W.cell? ⟨w.heap.size, 4, none⟩ = some (.string pu) ∧ W.cell? ⟨w.heap.size, 5, none⟩ = some (.string sy) ∧ W.cell? ⟨w.heap.size, 6, none⟩ = some (.slice od dn cd) ∧ W.cell? ⟨w.heap.size, 7, none⟩ = some (.slice oa an ca) ∧ W.cell? ⟨w.heap.size, 8, none⟩ = some (.int .i64 pa) ∧ W.cell? ⟨w.heap.size, 9, none⟩ = some (.slice ok kn ck) ∧ W.cell? ⟨w.heap.size, 10, none⟩ = some (.int .i64 dc) ∧ W.cell? ⟨w.heap.size, 11, none⟩ = some (.int .i64 ho) ∧ W.cell? ⟨w.heap.size, 12, none⟩ = some (.int .i64 sh) ∧ W.cell? ⟨w.heap.size, 13, none⟩ = some (.int .u8 (mo : Int)) ∧ W.cell? ⟨w.heap.size, 14, none⟩ = some (.bool ma) ∧ W.cell? ⟨w.heap.size, 15, none⟩ = some (.bool ht) := fun W hW => ⟨(hW.cell (p := ⟨w.heap.size, 0, none⟩) (by simp)).trans (by simp), (hW.cell (p := ⟨w.heap.size, 1, none⟩) (by simp)).trans (by simp), (hW.cell (p := ⟨w.heap.size, 2, none⟩) (by simp)).trans (by simp), (hW.cell (p := ⟨w.heap.size, 3, none⟩) (by simp)).trans (by simp), (hW.cell (p := ⟨w.heap.size, 4, none⟩) (by simp)).trans (by simp), (hW.cell (p := ⟨w.heap.size, 5, none⟩) (by simp)).trans (by simp), (hW.cell (p := ⟨w.heap.size, 6, none⟩) (by simp)).trans (by simp), (hW.cell (p := ⟨w.heap.size, 7, none⟩) (by simp)).trans (by simp), (hW.cell (p := ⟨w.heap.size, 8, none⟩) (by simp)).trans (by simp), (hW.cell (p := ⟨w.heap.size, 9, none⟩) (by simp)).trans (by simp), (hW.cell (p := ⟨w.heap.size, 10, none⟩) (by simp)).trans (by simp), (hW.cell (p := ⟨w.heap.size, 11, none⟩) (by simp)).trans (by simp), (hW.cell (p := ⟨w.heap.size, 12, none⟩) (by simp)).trans (by simp), (hW.cell (p := ⟨w.heap.size, 13, none⟩) (by simp)).trans (by simp), (hW.cell (p := ⟨w.heap.size, 14, none⟩) (by simp)).trans (by simp), (hW.cell (p := ⟨w.heap.size, 15, none⟩) (by simp)).trans (by simp)⟩
  have Hbox := hid hbox
  clear hbox
  have HLo : Hid (∀ W : World, Calls Tryz.prog 155 #[.int .u8 1] W fun e w' => e = .returned (.bool true) ∧ w' = W) := fun W => hasLocal_any 1 W
  have HDa : Hid (∀ W : World, Calls Tryz.prog 156 #[.int .u8 1] W fun e w' => e = .returned (.bool false) ∧ w' = W) := fun W => hasData_any 1 W
  have HKi : Hid (∀ W : World, Calls Tryz.prog 157 #[.int .u8 1] W fun e w' => e = .returned (.bool true) ∧ w' = W) := fun W => hasKids_any 1 W
  have HHa : Hid (∀ W : World, Calls Tryz.prog 152 #[.int .u8 1] W fun e w' => e = .returned (.bool true) ∧ w' = W) := fun W => mayHang_any 1 W
  have HA := hid (zero_first pu sy w (.cells #[.int .u8 1, .string sp, .string pr, .string lo, .string pu, .string sy, .slice od dn cd, .slice oa an ca, .int .i64 pa, .slice ok kn ck, .int .i64 dc, .int .i64 ho, .int .i64 sh, .int .u8 (mo : Int), .bool ma, .bool ht] 64))
  generalize (noneS sp && noneS pr) = Z1 at *
  generalize (noneS pu && noneS sy) = Z2 at *
  generalize (an == 0) = A0 at *
  generalize hS : (sh == 0) = S0 at *
  generalize hH : (ho == 0) = H0 at *
  generalize (mo == 0) = M0 at *
  generalize hP : (pa == 0) = P0 at *
  generalize noneS lo = L0 at *
  cases Z2 with
  | true =>
   cases H0 with
   | true =>
    cases M0 with
    | true =>
     cases ma with
     | true =>
      go_enter Tryz.func144, Tryz.ntmps144
      go_wp2_with (first
        | (go_at_call 154; refine (HA.out).mono ?_; rintro e v1 ⟨rfl, hb1⟩; have hbB := bx_first hb1; have hsB := bx_size hbB; obtain ⟨c0, c1, c2, c3, c4, c5, c6, c7, c8, c9, c10, c11, c12, c13, c14, c15⟩ := Hbox.out v1 hbB; clear hb1 HA)
        | (go_at_call 155; refine (HLo.out _).mono ?_; rintro e w' ⟨rfl, rfl⟩)
        | (go_at_call 156; refine (HDa.out _).mono ?_; rintro e w' ⟨rfl, rfl⟩)
        | (go_at_call 157; refine (HKi.out _).mono ?_; rintro e w' ⟨rfl, rfl⟩)
        | (go_at_call 152; refine (HHa.out _).mono ?_; rintro e w' ⟨rfl, rfl⟩))
      go_ret
      first
        | exact ⟨rfl, bx_below hbB⟩
        | exact ⟨rfl, bx_first0⟩
     | false =>
      cases ht with
      | true =>
       go_enter Tryz.func144, Tryz.ntmps144
       go_wp2_with (first
         | (go_at_call 154; refine (HA.out).mono ?_; rintro e v1 ⟨rfl, hb1⟩; have hbB := bx_first hb1; have hsB := bx_size hbB; obtain ⟨c0, c1, c2, c3, c4, c5, c6, c7, c8, c9, c10, c11, c12, c13, c14, c15⟩ := Hbox.out v1 hbB; clear hb1 HA)
         | (go_at_call 155; refine (HLo.out _).mono ?_; rintro e w' ⟨rfl, rfl⟩)
         | (go_at_call 156; refine (HDa.out _).mono ?_; rintro e w' ⟨rfl, rfl⟩)
         | (go_at_call 157; refine (HKi.out _).mono ?_; rintro e w' ⟨rfl, rfl⟩)
         | (go_at_call 152; refine (HHa.out _).mono ?_; rintro e w' ⟨rfl, rfl⟩))
       go_ret
       first
         | exact ⟨rfl, bx_below hbB⟩
         | exact ⟨rfl, bx_first0⟩
      | false =>
       by_cases hD0 : 0 < dn
       · have gD0 : (0 : Int) < (dn : Int) := by omega
         rw [decide_eq_true hD0]
         go_enter Tryz.func144, Tryz.ntmps144
         go_wp2_with (first
           | (go_at_call 154; refine (HA.out).mono ?_; rintro e v1 ⟨rfl, hb1⟩; have hbB := bx_first hb1; have hsB := bx_size hbB; obtain ⟨c0, c1, c2, c3, c4, c5, c6, c7, c8, c9, c10, c11, c12, c13, c14, c15⟩ := Hbox.out v1 hbB; clear hb1 HA)
           | (go_at_call 155; refine (HLo.out _).mono ?_; rintro e w' ⟨rfl, rfl⟩)
           | (go_at_call 156; refine (HDa.out _).mono ?_; rintro e w' ⟨rfl, rfl⟩)
           | (go_at_call 157; refine (HKi.out _).mono ?_; rintro e w' ⟨rfl, rfl⟩)
           | (go_at_call 152; refine (HHa.out _).mono ?_; rintro e w' ⟨rfl, rfl⟩))
         go_ret
         first
           | exact ⟨rfl, bx_below hbB⟩
           | exact ⟨rfl, bx_first0⟩
       · have gD0 : ¬ (0 : Int) < (dn : Int) := by omega
         rw [decide_eq_false hD0]
         go_enter Tryz.func144, Tryz.ntmps144
         go_wp2_with (first
           | (go_at_call 154; refine (HA.out).mono ?_; rintro e v1 ⟨rfl, hb1⟩; have hbB := bx_first hb1; have hsB := bx_size hbB; obtain ⟨c0, c1, c2, c3, c4, c5, c6, c7, c8, c9, c10, c11, c12, c13, c14, c15⟩ := Hbox.out v1 hbB; clear hb1 HA)
           | (go_at_call 155; refine (HLo.out _).mono ?_; rintro e w' ⟨rfl, rfl⟩)
           | (go_at_call 156; refine (HDa.out _).mono ?_; rintro e w' ⟨rfl, rfl⟩)
           | (go_at_call 157; refine (HKi.out _).mono ?_; rintro e w' ⟨rfl, rfl⟩)
           | (go_at_call 152; refine (HHa.out _).mono ?_; rintro e w' ⟨rfl, rfl⟩))
         go_ret
         first
           | exact ⟨rfl, bx_below hbB⟩
           | exact ⟨rfl, bx_first0⟩
    | false =>
     go_enter Tryz.func144, Tryz.ntmps144
     go_wp2_with (first
       | (go_at_call 154; refine (HA.out).mono ?_; rintro e v1 ⟨rfl, hb1⟩; have hbB := bx_first hb1; have hsB := bx_size hbB; obtain ⟨c0, c1, c2, c3, c4, c5, c6, c7, c8, c9, c10, c11, c12, c13, c14, c15⟩ := Hbox.out v1 hbB; clear hb1 HA)
       | (go_at_call 155; refine (HLo.out _).mono ?_; rintro e w' ⟨rfl, rfl⟩)
       | (go_at_call 156; refine (HDa.out _).mono ?_; rintro e w' ⟨rfl, rfl⟩)
       | (go_at_call 157; refine (HKi.out _).mono ?_; rintro e w' ⟨rfl, rfl⟩)
       | (go_at_call 152; refine (HHa.out _).mono ?_; rintro e w' ⟨rfl, rfl⟩))
     go_ret
     first
       | exact ⟨rfl, bx_below hbB⟩
       | exact ⟨rfl, bx_first0⟩
   | false =>
    go_enter Tryz.func144, Tryz.ntmps144
    go_wp2_with (first
      | (go_at_call 154; refine (HA.out).mono ?_; rintro e v1 ⟨rfl, hb1⟩; have hbB := bx_first hb1; have hsB := bx_size hbB; obtain ⟨c0, c1, c2, c3, c4, c5, c6, c7, c8, c9, c10, c11, c12, c13, c14, c15⟩ := Hbox.out v1 hbB; clear hb1 HA)
      | (go_at_call 155; refine (HLo.out _).mono ?_; rintro e w' ⟨rfl, rfl⟩)
      | (go_at_call 156; refine (HDa.out _).mono ?_; rintro e w' ⟨rfl, rfl⟩)
      | (go_at_call 157; refine (HKi.out _).mono ?_; rintro e w' ⟨rfl, rfl⟩)
      | (go_at_call 152; refine (HHa.out _).mono ?_; rintro e w' ⟨rfl, rfl⟩))
    go_ret
    first
      | exact ⟨rfl, bx_below hbB⟩
      | exact ⟨rfl, bx_first0⟩
  | false =>
   go_enter Tryz.func144, Tryz.ntmps144
   go_wp2_with (first
     | (go_at_call 154; refine (HA.out).mono ?_; rintro e v1 ⟨rfl, hb1⟩; have hbB := bx_first hb1; have hsB := bx_size hbB; obtain ⟨c0, c1, c2, c3, c4, c5, c6, c7, c8, c9, c10, c11, c12, c13, c14, c15⟩ := Hbox.out v1 hbB; clear hb1 HA)
     | (go_at_call 155; refine (HLo.out _).mono ?_; rintro e w' ⟨rfl, rfl⟩)
     | (go_at_call 156; refine (HDa.out _).mono ?_; rintro e w' ⟨rfl, rfl⟩)
     | (go_at_call 157; refine (HKi.out _).mono ?_; rintro e w' ⟨rfl, rfl⟩)
     | (go_at_call 152; refine (HHa.out _).mono ?_; rintro e w' ⟨rfl, rfl⟩))
   go_ret
   first
     | exact ⟨rfl, bx_below hbB⟩
     | exact ⟨rfl, bx_first0⟩

set_option maxRecDepth 100000 in
set_option maxHeartbeats 4000000 in
theorem bare_3 (sp pr lo pu sy : ByteArray) (od oa ok : Option Addr) (dn an kn cd ca ck : Nat) (pa dc ho sh : Int) (mo : Nat) (ma ht : Bool) (w : World) :
    Calls Tryz.prog 144 #[.agg #[.int .u8 3, .string sp, .string pr, .string lo, .string pu, .string sy, .slice od dn cd, .slice oa an ca, .int .i64 pa, .slice ok kn ck, .int .i64 dc, .int .i64 ho, .int .i64 sh, .int .u8 (mo : Int), .bool ma, .bool ht]] w fun e w' => e = .returned (.bool (bareB 3 (noneS sp && noneS pr) (an == 0) (sh == 0) (noneS pu && noneS sy) (ho == 0) (mo == 0) ma ht (noneS lo) (decide (0 < dn)) (decide (0 < kn)) (pa == 0))) ∧ Below w.heap.size w w' := by
  have eA : ((an : Int) == 0) = (an == 0) := beq_cast an 0
  have eH' : (ho != 0) = !(ho == 0) := rfl
  have eM : ((mo : Int) == 0) = (mo == 0) := beq_cast mo 0
  have eM' : ((mo : Int) != 0) = !(mo == 0) := by rw [← eM]; rfl
  have eP' : (pa != 0) = !(pa == 0) := rfl
  have eL := noneS_toList lo
  have eL' := noneS_empty lo
  have hbox : ∀ W, Below (w.heap.size + 1) (w.alloc (.cells #[.int .u8 3, .string sp, .string pr, .string lo, .string pu, .string sy, .slice od dn cd, .slice oa an ca, .int .i64 pa, .slice ok kn ck, .int .i64 dc, .int .i64 ho, .int .i64 sh, .int .u8 (mo : Int), .bool ma, .bool ht] 64)) W → W.cell? ⟨w.heap.size, 0, none⟩ = some (.int .u8 3) ∧ W.cell? ⟨w.heap.size, 1, none⟩ = some (.string sp) ∧ W.cell? ⟨w.heap.size, 2, none⟩ = some (.string pr) ∧ W.cell? ⟨w.heap.size, 3, none⟩ = some (.string lo) ∧ W.cell? ⟨w.heap.size, 4, none⟩ = some (.string pu) ∧ W.cell? ⟨w.heap.size, 5, none⟩ = some (.string sy) ∧ W.cell? ⟨w.heap.size, 6, none⟩ = some (.slice od dn cd) ∧ W.cell? ⟨w.heap.size, 7, none⟩ = some (.slice oa an ca) ∧ W.cell? ⟨w.heap.size, 8, none⟩ = some (.int .i64 pa) ∧ W.cell? ⟨w.heap.size, 9, none⟩ = some (.slice ok kn ck) ∧ W.cell? ⟨w.heap.size, 10, none⟩ = some (.int .i64 dc) ∧ W.cell? ⟨w.heap.size, 11, none⟩ = some (.int .i64 ho) ∧ W.cell? ⟨w.heap.size, 12, none⟩ = some (.int .i64 sh) ∧ W.cell? ⟨w.heap.size, 13, none⟩ = some (.int .u8 (mo : Int)) ∧ W.cell? ⟨w.heap.size, 14, none⟩ = some (.bool ma) ∧ W.cell? ⟨w.heap.size, 15, none⟩ = some (.bool ht) := fun W hW => ⟨(hW.cell (p := ⟨w.heap.size, 0, none⟩) (by simp)).trans (by simp), (hW.cell (p := ⟨w.heap.size, 1, none⟩) (by simp)).trans (by simp), (hW.cell (p := ⟨w.heap.size, 2, none⟩) (by simp)).trans (by simp), (hW.cell (p := ⟨w.heap.size, 3, none⟩) (by simp)).trans (by simp), (hW.cell (p := ⟨w.heap.size, 4, none⟩) (by simp)).trans (by simp), (hW.cell (p := ⟨w.heap.size, 5, none⟩) (by simp)).trans (by simp), (hW.cell (p := ⟨w.heap.size, 6, none⟩) (by simp)).trans (by simp), (hW.cell (p := ⟨w.heap.size, 7, none⟩) (by simp)).trans (by simp), (hW.cell (p := ⟨w.heap.size, 8, none⟩) (by simp)).trans (by simp), (hW.cell (p := ⟨w.heap.size, 9, none⟩) (by simp)).trans (by simp), (hW.cell (p := ⟨w.heap.size, 10, none⟩) (by simp)).trans (by simp), (hW.cell (p := ⟨w.heap.size, 11, none⟩) (by simp)).trans (by simp), (hW.cell (p := ⟨w.heap.size, 12, none⟩) (by simp)).trans (by simp), (hW.cell (p := ⟨w.heap.size, 13, none⟩) (by simp)).trans (by simp), (hW.cell (p := ⟨w.heap.size, 14, none⟩) (by simp)).trans (by simp), (hW.cell (p := ⟨w.heap.size, 15, none⟩) (by simp)).trans (by simp)⟩
  have Hbox := hid hbox
  clear hbox
  have HLo : Hid (∀ W : World, Calls Tryz.prog 155 #[.int .u8 3] W fun e w' => e = .returned (.bool false) ∧ w' = W) := fun W => hasLocal_any 3 W
  have HDa : Hid (∀ W : World, Calls Tryz.prog 156 #[.int .u8 3] W fun e w' => e = .returned (.bool true) ∧ w' = W) := fun W => hasData_any 3 W
  have HKi : Hid (∀ W : World, Calls Tryz.prog 157 #[.int .u8 3] W fun e w' => e = .returned (.bool false) ∧ w' = W) := fun W => hasKids_any 3 W
  have HHa : Hid (∀ W : World, Calls Tryz.prog 152 #[.int .u8 3] W fun e w' => e = .returned (.bool true) ∧ w' = W) := fun W => mayHang_any 3 W
  have HA := hid (zero_first sp pr w (.cells #[.int .u8 3, .string sp, .string pr, .string lo, .string pu, .string sy, .slice od dn cd, .slice oa an ca, .int .i64 pa, .slice ok kn ck, .int .i64 dc, .int .i64 ho, .int .i64 sh, .int .u8 (mo : Int), .bool ma, .bool ht] 64))
  have HB : Hid (∀ W : World, _) := fun W => zero_two pu sy W
  generalize (noneS sp && noneS pr) = Z1 at *
  generalize (noneS pu && noneS sy) = Z2 at *
  generalize (an == 0) = A0 at *
  generalize hS : (sh == 0) = S0 at *
  generalize hH : (ho == 0) = H0 at *
  generalize (mo == 0) = M0 at *
  generalize hP : (pa == 0) = P0 at *
  generalize noneS lo = L0 at *
  cases Z1 with
  | true =>
   cases A0 with
   | true =>
    cases S0 with
    | true =>
     cases Z2 with
     | true =>
      cases H0 with
      | true =>
       cases M0 with
       | true =>
        cases ma with
        | true =>
         go_enter Tryz.func144, Tryz.ntmps144
         go_wp2_with (first
           | (go_at_call 154; refine (HA.out).mono ?_; rintro e v1 ⟨rfl, hb1⟩; have hbB := bx_first hb1; have hsB := bx_size hbB; obtain ⟨c0, c1, c2, c3, c4, c5, c6, c7, c8, c9, c10, c11, c12, c13, c14, c15⟩ := Hbox.out v1 hbB; clear hb1 HA)
           | (go_at_call 154; refine (HB.out v1).mono ?_; rintro e v2 ⟨rfl, hb2⟩; have hbB2 := chain_alloc hbB hsB hb2; obtain ⟨d0, d1, d2, d3, d4, d5, d6, d7, d8, d9, d10, d11, d12, d13, d14, d15⟩ := Hbox.out v2 hbB2; clear hb2)
           | (go_at_call 155; refine (HLo.out _).mono ?_; rintro e w' ⟨rfl, rfl⟩)
           | (go_at_call 156; refine (HDa.out _).mono ?_; rintro e w' ⟨rfl, rfl⟩)
           | (go_at_call 157; refine (HKi.out _).mono ?_; rintro e w' ⟨rfl, rfl⟩)
           | (go_at_call 152; refine (HHa.out _).mono ?_; rintro e w' ⟨rfl, rfl⟩))
         go_ret
         first
           | exact ⟨rfl, bx_below hbB2⟩
           | exact ⟨rfl, bx_below hbB⟩
           | exact ⟨rfl, bx_first0⟩
        | false =>
         cases ht with
         | true =>
          go_enter Tryz.func144, Tryz.ntmps144
          go_wp2_with (first
            | (go_at_call 154; refine (HA.out).mono ?_; rintro e v1 ⟨rfl, hb1⟩; have hbB := bx_first hb1; have hsB := bx_size hbB; obtain ⟨c0, c1, c2, c3, c4, c5, c6, c7, c8, c9, c10, c11, c12, c13, c14, c15⟩ := Hbox.out v1 hbB; clear hb1 HA)
            | (go_at_call 154; refine (HB.out v1).mono ?_; rintro e v2 ⟨rfl, hb2⟩; have hbB2 := chain_alloc hbB hsB hb2; obtain ⟨d0, d1, d2, d3, d4, d5, d6, d7, d8, d9, d10, d11, d12, d13, d14, d15⟩ := Hbox.out v2 hbB2; clear hb2)
            | (go_at_call 155; refine (HLo.out _).mono ?_; rintro e w' ⟨rfl, rfl⟩)
            | (go_at_call 156; refine (HDa.out _).mono ?_; rintro e w' ⟨rfl, rfl⟩)
            | (go_at_call 157; refine (HKi.out _).mono ?_; rintro e w' ⟨rfl, rfl⟩)
            | (go_at_call 152; refine (HHa.out _).mono ?_; rintro e w' ⟨rfl, rfl⟩))
          go_ret
          first
            | exact ⟨rfl, bx_below hbB2⟩
            | exact ⟨rfl, bx_below hbB⟩
            | exact ⟨rfl, bx_first0⟩
         | false =>
          cases L0 with
          | true =>
           by_cases hK0 : 0 < kn
           · have gK0 : (0 : Int) < (kn : Int) := by omega
             rw [decide_eq_true hK0]
             go_enter Tryz.func144, Tryz.ntmps144
             go_wp2_with (first
               | (go_at_call 154; refine (HA.out).mono ?_; rintro e v1 ⟨rfl, hb1⟩; have hbB := bx_first hb1; have hsB := bx_size hbB; obtain ⟨c0, c1, c2, c3, c4, c5, c6, c7, c8, c9, c10, c11, c12, c13, c14, c15⟩ := Hbox.out v1 hbB; clear hb1 HA)
               | (go_at_call 154; refine (HB.out v1).mono ?_; rintro e v2 ⟨rfl, hb2⟩; have hbB2 := chain_alloc hbB hsB hb2; obtain ⟨d0, d1, d2, d3, d4, d5, d6, d7, d8, d9, d10, d11, d12, d13, d14, d15⟩ := Hbox.out v2 hbB2; clear hb2)
               | (go_at_call 155; refine (HLo.out _).mono ?_; rintro e w' ⟨rfl, rfl⟩)
               | (go_at_call 156; refine (HDa.out _).mono ?_; rintro e w' ⟨rfl, rfl⟩)
               | (go_at_call 157; refine (HKi.out _).mono ?_; rintro e w' ⟨rfl, rfl⟩)
               | (go_at_call 152; refine (HHa.out _).mono ?_; rintro e w' ⟨rfl, rfl⟩))
             go_ret
             first
               | exact ⟨rfl, bx_below hbB2⟩
               | exact ⟨rfl, bx_below hbB⟩
               | exact ⟨rfl, bx_first0⟩
           · have gK0 : ¬ (0 : Int) < (kn : Int) := by omega
             rw [decide_eq_false hK0]
             go_enter Tryz.func144, Tryz.ntmps144
             go_wp2_with (first
               | (go_at_call 154; refine (HA.out).mono ?_; rintro e v1 ⟨rfl, hb1⟩; have hbB := bx_first hb1; have hsB := bx_size hbB; obtain ⟨c0, c1, c2, c3, c4, c5, c6, c7, c8, c9, c10, c11, c12, c13, c14, c15⟩ := Hbox.out v1 hbB; clear hb1 HA)
               | (go_at_call 154; refine (HB.out v1).mono ?_; rintro e v2 ⟨rfl, hb2⟩; have hbB2 := chain_alloc hbB hsB hb2; obtain ⟨d0, d1, d2, d3, d4, d5, d6, d7, d8, d9, d10, d11, d12, d13, d14, d15⟩ := Hbox.out v2 hbB2; clear hb2)
               | (go_at_call 155; refine (HLo.out _).mono ?_; rintro e w' ⟨rfl, rfl⟩)
               | (go_at_call 156; refine (HDa.out _).mono ?_; rintro e w' ⟨rfl, rfl⟩)
               | (go_at_call 157; refine (HKi.out _).mono ?_; rintro e w' ⟨rfl, rfl⟩)
               | (go_at_call 152; refine (HHa.out _).mono ?_; rintro e w' ⟨rfl, rfl⟩))
             go_ret
             first
               | exact ⟨rfl, bx_below hbB2⟩
               | exact ⟨rfl, bx_below hbB⟩
               | exact ⟨rfl, bx_first0⟩
          | false =>
           go_enter Tryz.func144, Tryz.ntmps144
           go_wp2_with (first
             | (go_at_call 154; refine (HA.out).mono ?_; rintro e v1 ⟨rfl, hb1⟩; have hbB := bx_first hb1; have hsB := bx_size hbB; obtain ⟨c0, c1, c2, c3, c4, c5, c6, c7, c8, c9, c10, c11, c12, c13, c14, c15⟩ := Hbox.out v1 hbB; clear hb1 HA)
             | (go_at_call 154; refine (HB.out v1).mono ?_; rintro e v2 ⟨rfl, hb2⟩; have hbB2 := chain_alloc hbB hsB hb2; obtain ⟨d0, d1, d2, d3, d4, d5, d6, d7, d8, d9, d10, d11, d12, d13, d14, d15⟩ := Hbox.out v2 hbB2; clear hb2)
             | (go_at_call 155; refine (HLo.out _).mono ?_; rintro e w' ⟨rfl, rfl⟩)
             | (go_at_call 156; refine (HDa.out _).mono ?_; rintro e w' ⟨rfl, rfl⟩)
             | (go_at_call 157; refine (HKi.out _).mono ?_; rintro e w' ⟨rfl, rfl⟩)
             | (go_at_call 152; refine (HHa.out _).mono ?_; rintro e w' ⟨rfl, rfl⟩))
           go_ret
           first
             | exact ⟨rfl, bx_below hbB2⟩
             | exact ⟨rfl, bx_below hbB⟩
             | exact ⟨rfl, bx_first0⟩
       | false =>
        go_enter Tryz.func144, Tryz.ntmps144
        go_wp2_with (first
          | (go_at_call 154; refine (HA.out).mono ?_; rintro e v1 ⟨rfl, hb1⟩; have hbB := bx_first hb1; have hsB := bx_size hbB; obtain ⟨c0, c1, c2, c3, c4, c5, c6, c7, c8, c9, c10, c11, c12, c13, c14, c15⟩ := Hbox.out v1 hbB; clear hb1 HA)
          | (go_at_call 154; refine (HB.out v1).mono ?_; rintro e v2 ⟨rfl, hb2⟩; have hbB2 := chain_alloc hbB hsB hb2; obtain ⟨d0, d1, d2, d3, d4, d5, d6, d7, d8, d9, d10, d11, d12, d13, d14, d15⟩ := Hbox.out v2 hbB2; clear hb2)
          | (go_at_call 155; refine (HLo.out _).mono ?_; rintro e w' ⟨rfl, rfl⟩)
          | (go_at_call 156; refine (HDa.out _).mono ?_; rintro e w' ⟨rfl, rfl⟩)
          | (go_at_call 157; refine (HKi.out _).mono ?_; rintro e w' ⟨rfl, rfl⟩)
          | (go_at_call 152; refine (HHa.out _).mono ?_; rintro e w' ⟨rfl, rfl⟩))
        go_ret
        first
          | exact ⟨rfl, bx_below hbB2⟩
          | exact ⟨rfl, bx_below hbB⟩
          | exact ⟨rfl, bx_first0⟩
      | false =>
       go_enter Tryz.func144, Tryz.ntmps144
       go_wp2_with (first
         | (go_at_call 154; refine (HA.out).mono ?_; rintro e v1 ⟨rfl, hb1⟩; have hbB := bx_first hb1; have hsB := bx_size hbB; obtain ⟨c0, c1, c2, c3, c4, c5, c6, c7, c8, c9, c10, c11, c12, c13, c14, c15⟩ := Hbox.out v1 hbB; clear hb1 HA)
         | (go_at_call 154; refine (HB.out v1).mono ?_; rintro e v2 ⟨rfl, hb2⟩; have hbB2 := chain_alloc hbB hsB hb2; obtain ⟨d0, d1, d2, d3, d4, d5, d6, d7, d8, d9, d10, d11, d12, d13, d14, d15⟩ := Hbox.out v2 hbB2; clear hb2)
         | (go_at_call 155; refine (HLo.out _).mono ?_; rintro e w' ⟨rfl, rfl⟩)
         | (go_at_call 156; refine (HDa.out _).mono ?_; rintro e w' ⟨rfl, rfl⟩)
         | (go_at_call 157; refine (HKi.out _).mono ?_; rintro e w' ⟨rfl, rfl⟩)
         | (go_at_call 152; refine (HHa.out _).mono ?_; rintro e w' ⟨rfl, rfl⟩))
       go_ret
       first
         | exact ⟨rfl, bx_below hbB2⟩
         | exact ⟨rfl, bx_below hbB⟩
         | exact ⟨rfl, bx_first0⟩
     | false =>
      go_enter Tryz.func144, Tryz.ntmps144
      go_wp2_with (first
        | (go_at_call 154; refine (HA.out).mono ?_; rintro e v1 ⟨rfl, hb1⟩; have hbB := bx_first hb1; have hsB := bx_size hbB; obtain ⟨c0, c1, c2, c3, c4, c5, c6, c7, c8, c9, c10, c11, c12, c13, c14, c15⟩ := Hbox.out v1 hbB; clear hb1 HA)
        | (go_at_call 154; refine (HB.out v1).mono ?_; rintro e v2 ⟨rfl, hb2⟩; have hbB2 := chain_alloc hbB hsB hb2; obtain ⟨d0, d1, d2, d3, d4, d5, d6, d7, d8, d9, d10, d11, d12, d13, d14, d15⟩ := Hbox.out v2 hbB2; clear hb2)
        | (go_at_call 155; refine (HLo.out _).mono ?_; rintro e w' ⟨rfl, rfl⟩)
        | (go_at_call 156; refine (HDa.out _).mono ?_; rintro e w' ⟨rfl, rfl⟩)
        | (go_at_call 157; refine (HKi.out _).mono ?_; rintro e w' ⟨rfl, rfl⟩)
        | (go_at_call 152; refine (HHa.out _).mono ?_; rintro e w' ⟨rfl, rfl⟩))
      go_ret
      first
        | exact ⟨rfl, bx_below hbB2⟩
        | exact ⟨rfl, bx_below hbB⟩
        | exact ⟨rfl, bx_first0⟩
    | false =>
     go_enter Tryz.func144, Tryz.ntmps144
     go_wp2_with (first
       | (go_at_call 154; refine (HA.out).mono ?_; rintro e v1 ⟨rfl, hb1⟩; have hbB := bx_first hb1; have hsB := bx_size hbB; obtain ⟨c0, c1, c2, c3, c4, c5, c6, c7, c8, c9, c10, c11, c12, c13, c14, c15⟩ := Hbox.out v1 hbB; clear hb1 HA)
       | (go_at_call 154; refine (HB.out v1).mono ?_; rintro e v2 ⟨rfl, hb2⟩; have hbB2 := chain_alloc hbB hsB hb2; obtain ⟨d0, d1, d2, d3, d4, d5, d6, d7, d8, d9, d10, d11, d12, d13, d14, d15⟩ := Hbox.out v2 hbB2; clear hb2)
       | (go_at_call 155; refine (HLo.out _).mono ?_; rintro e w' ⟨rfl, rfl⟩)
       | (go_at_call 156; refine (HDa.out _).mono ?_; rintro e w' ⟨rfl, rfl⟩)
       | (go_at_call 157; refine (HKi.out _).mono ?_; rintro e w' ⟨rfl, rfl⟩)
       | (go_at_call 152; refine (HHa.out _).mono ?_; rintro e w' ⟨rfl, rfl⟩))
     go_ret
     first
       | exact ⟨rfl, bx_below hbB2⟩
       | exact ⟨rfl, bx_below hbB⟩
       | exact ⟨rfl, bx_first0⟩
   | false =>
    go_enter Tryz.func144, Tryz.ntmps144
    go_wp2_with (first
      | (go_at_call 154; refine (HA.out).mono ?_; rintro e v1 ⟨rfl, hb1⟩; have hbB := bx_first hb1; have hsB := bx_size hbB; obtain ⟨c0, c1, c2, c3, c4, c5, c6, c7, c8, c9, c10, c11, c12, c13, c14, c15⟩ := Hbox.out v1 hbB; clear hb1 HA)
      | (go_at_call 154; refine (HB.out v1).mono ?_; rintro e v2 ⟨rfl, hb2⟩; have hbB2 := chain_alloc hbB hsB hb2; obtain ⟨d0, d1, d2, d3, d4, d5, d6, d7, d8, d9, d10, d11, d12, d13, d14, d15⟩ := Hbox.out v2 hbB2; clear hb2)
      | (go_at_call 155; refine (HLo.out _).mono ?_; rintro e w' ⟨rfl, rfl⟩)
      | (go_at_call 156; refine (HDa.out _).mono ?_; rintro e w' ⟨rfl, rfl⟩)
      | (go_at_call 157; refine (HKi.out _).mono ?_; rintro e w' ⟨rfl, rfl⟩)
      | (go_at_call 152; refine (HHa.out _).mono ?_; rintro e w' ⟨rfl, rfl⟩))
    go_ret
    first
      | exact ⟨rfl, bx_below hbB2⟩
      | exact ⟨rfl, bx_below hbB⟩
      | exact ⟨rfl, bx_first0⟩
  | false =>
   go_enter Tryz.func144, Tryz.ntmps144
   go_wp2_with (first
     | (go_at_call 154; refine (HA.out).mono ?_; rintro e v1 ⟨rfl, hb1⟩; have hbB := bx_first hb1; have hsB := bx_size hbB; obtain ⟨c0, c1, c2, c3, c4, c5, c6, c7, c8, c9, c10, c11, c12, c13, c14, c15⟩ := Hbox.out v1 hbB; clear hb1 HA)
     | (go_at_call 154; refine (HB.out v1).mono ?_; rintro e v2 ⟨rfl, hb2⟩; have hbB2 := chain_alloc hbB hsB hb2; obtain ⟨d0, d1, d2, d3, d4, d5, d6, d7, d8, d9, d10, d11, d12, d13, d14, d15⟩ := Hbox.out v2 hbB2; clear hb2)
     | (go_at_call 155; refine (HLo.out _).mono ?_; rintro e w' ⟨rfl, rfl⟩)
     | (go_at_call 156; refine (HDa.out _).mono ?_; rintro e w' ⟨rfl, rfl⟩)
     | (go_at_call 157; refine (HKi.out _).mono ?_; rintro e w' ⟨rfl, rfl⟩)
     | (go_at_call 152; refine (HHa.out _).mono ?_; rintro e w' ⟨rfl, rfl⟩))
   go_ret
   first
     | exact ⟨rfl, bx_below hbB2⟩
     | exact ⟨rfl, bx_below hbB⟩
     | exact ⟨rfl, bx_first0⟩

set_option maxRecDepth 100000 in
set_option maxHeartbeats 4000000 in
theorem bare_4 (sp pr lo pu sy : ByteArray) (od oa ok : Option Addr) (dn an kn cd ca ck : Nat) (pa dc ho sh : Int) (mo : Nat) (ma ht : Bool) (w : World) :
    Calls Tryz.prog 144 #[.agg #[.int .u8 4, .string sp, .string pr, .string lo, .string pu, .string sy, .slice od dn cd, .slice oa an ca, .int .i64 pa, .slice ok kn ck, .int .i64 dc, .int .i64 ho, .int .i64 sh, .int .u8 (mo : Int), .bool ma, .bool ht]] w fun e w' => e = .returned (.bool (bareB 4 (noneS sp && noneS pr) (an == 0) (sh == 0) (noneS pu && noneS sy) (ho == 0) (mo == 0) ma ht (noneS lo) (decide (0 < dn)) (decide (0 < kn)) (pa == 0))) ∧ Below w.heap.size w w' := by
  have eA : ((an : Int) == 0) = (an == 0) := beq_cast an 0
  have eH' : (ho != 0) = !(ho == 0) := rfl
  have eM : ((mo : Int) == 0) = (mo == 0) := beq_cast mo 0
  have eM' : ((mo : Int) != 0) = !(mo == 0) := by rw [← eM]; rfl
  have eP' : (pa != 0) = !(pa == 0) := rfl
  have eL := noneS_toList lo
  have eL' := noneS_empty lo
  have hbox : ∀ W, Below (w.heap.size + 1) (w.alloc (.cells #[.int .u8 4, .string sp, .string pr, .string lo, .string pu, .string sy, .slice od dn cd, .slice oa an ca, .int .i64 pa, .slice ok kn ck, .int .i64 dc, .int .i64 ho, .int .i64 sh, .int .u8 (mo : Int), .bool ma, .bool ht] 64)) W → W.cell? ⟨w.heap.size, 0, none⟩ = some (.int .u8 4) ∧ W.cell? ⟨w.heap.size, 1, none⟩ = some (.string sp) ∧ W.cell? ⟨w.heap.size, 2, none⟩ = some (.string pr) ∧ W.cell? ⟨w.heap.size, 3, none⟩ = some (.string lo) ∧ W.cell? ⟨w.heap.size, 4, none⟩ = some (.string pu) ∧ W.cell? ⟨w.heap.size, 5, none⟩ = some (.string sy) ∧ W.cell? ⟨w.heap.size, 6, none⟩ = some (.slice od dn cd) ∧ W.cell? ⟨w.heap.size, 7, none⟩ = some (.slice oa an ca) ∧ W.cell? ⟨w.heap.size, 8, none⟩ = some (.int .i64 pa) ∧ W.cell? ⟨w.heap.size, 9, none⟩ = some (.slice ok kn ck) ∧ W.cell? ⟨w.heap.size, 10, none⟩ = some (.int .i64 dc) ∧ W.cell? ⟨w.heap.size, 11, none⟩ = some (.int .i64 ho) ∧ W.cell? ⟨w.heap.size, 12, none⟩ = some (.int .i64 sh) ∧ W.cell? ⟨w.heap.size, 13, none⟩ = some (.int .u8 (mo : Int)) ∧ W.cell? ⟨w.heap.size, 14, none⟩ = some (.bool ma) ∧ W.cell? ⟨w.heap.size, 15, none⟩ = some (.bool ht) := fun W hW => ⟨(hW.cell (p := ⟨w.heap.size, 0, none⟩) (by simp)).trans (by simp), (hW.cell (p := ⟨w.heap.size, 1, none⟩) (by simp)).trans (by simp), (hW.cell (p := ⟨w.heap.size, 2, none⟩) (by simp)).trans (by simp), (hW.cell (p := ⟨w.heap.size, 3, none⟩) (by simp)).trans (by simp), (hW.cell (p := ⟨w.heap.size, 4, none⟩) (by simp)).trans (by simp), (hW.cell (p := ⟨w.heap.size, 5, none⟩) (by simp)).trans (by simp), (hW.cell (p := ⟨w.heap.size, 6, none⟩) (by simp)).trans (by simp), (hW.cell (p := ⟨w.heap.size, 7, none⟩) (by simp)).trans (by simp), (hW.cell (p := ⟨w.heap.size, 8, none⟩) (by simp)).trans (by simp), (hW.cell (p := ⟨w.heap.size, 9, none⟩) (by simp)).trans (by simp), (hW.cell (p := ⟨w.heap.size, 10, none⟩) (by simp)).trans (by simp), (hW.cell (p := ⟨w.heap.size, 11, none⟩) (by simp)).trans (by simp), (hW.cell (p := ⟨w.heap.size, 12, none⟩) (by simp)).trans (by simp), (hW.cell (p := ⟨w.heap.size, 13, none⟩) (by simp)).trans (by simp), (hW.cell (p := ⟨w.heap.size, 14, none⟩) (by simp)).trans (by simp), (hW.cell (p := ⟨w.heap.size, 15, none⟩) (by simp)).trans (by simp)⟩
  have Hbox := hid hbox
  clear hbox
  have HLo : Hid (∀ W : World, Calls Tryz.prog 155 #[.int .u8 4] W fun e w' => e = .returned (.bool false) ∧ w' = W) := fun W => hasLocal_any 4 W
  have HDa : Hid (∀ W : World, Calls Tryz.prog 156 #[.int .u8 4] W fun e w' => e = .returned (.bool true) ∧ w' = W) := fun W => hasData_any 4 W
  have HKi : Hid (∀ W : World, Calls Tryz.prog 157 #[.int .u8 4] W fun e w' => e = .returned (.bool false) ∧ w' = W) := fun W => hasKids_any 4 W
  have HHa : Hid (∀ W : World, Calls Tryz.prog 152 #[.int .u8 4] W fun e w' => e = .returned (.bool true) ∧ w' = W) := fun W => mayHang_any 4 W
  have HA := hid (zero_first sp pr w (.cells #[.int .u8 4, .string sp, .string pr, .string lo, .string pu, .string sy, .slice od dn cd, .slice oa an ca, .int .i64 pa, .slice ok kn ck, .int .i64 dc, .int .i64 ho, .int .i64 sh, .int .u8 (mo : Int), .bool ma, .bool ht] 64))
  have HB : Hid (∀ W : World, _) := fun W => zero_two pu sy W
  generalize (noneS sp && noneS pr) = Z1 at *
  generalize (noneS pu && noneS sy) = Z2 at *
  generalize (an == 0) = A0 at *
  generalize hS : (sh == 0) = S0 at *
  generalize hH : (ho == 0) = H0 at *
  generalize (mo == 0) = M0 at *
  generalize hP : (pa == 0) = P0 at *
  generalize noneS lo = L0 at *
  cases Z1 with
  | true =>
   cases A0 with
   | true =>
    cases S0 with
    | true =>
     cases Z2 with
     | true =>
      cases H0 with
      | true =>
       cases M0 with
       | true =>
        cases ma with
        | true =>
         go_enter Tryz.func144, Tryz.ntmps144
         go_wp2_with (first
           | (go_at_call 154; refine (HA.out).mono ?_; rintro e v1 ⟨rfl, hb1⟩; have hbB := bx_first hb1; have hsB := bx_size hbB; obtain ⟨c0, c1, c2, c3, c4, c5, c6, c7, c8, c9, c10, c11, c12, c13, c14, c15⟩ := Hbox.out v1 hbB; clear hb1 HA)
           | (go_at_call 154; refine (HB.out v1).mono ?_; rintro e v2 ⟨rfl, hb2⟩; have hbB2 := chain_alloc hbB hsB hb2; obtain ⟨d0, d1, d2, d3, d4, d5, d6, d7, d8, d9, d10, d11, d12, d13, d14, d15⟩ := Hbox.out v2 hbB2; clear hb2)
           | (go_at_call 155; refine (HLo.out _).mono ?_; rintro e w' ⟨rfl, rfl⟩)
           | (go_at_call 156; refine (HDa.out _).mono ?_; rintro e w' ⟨rfl, rfl⟩)
           | (go_at_call 157; refine (HKi.out _).mono ?_; rintro e w' ⟨rfl, rfl⟩)
           | (go_at_call 152; refine (HHa.out _).mono ?_; rintro e w' ⟨rfl, rfl⟩))
         go_ret
         first
           | exact ⟨rfl, bx_below hbB2⟩
           | exact ⟨rfl, bx_below hbB⟩
           | exact ⟨rfl, bx_first0⟩
        | false =>
         cases ht with
         | true =>
          go_enter Tryz.func144, Tryz.ntmps144
          go_wp2_with (first
            | (go_at_call 154; refine (HA.out).mono ?_; rintro e v1 ⟨rfl, hb1⟩; have hbB := bx_first hb1; have hsB := bx_size hbB; obtain ⟨c0, c1, c2, c3, c4, c5, c6, c7, c8, c9, c10, c11, c12, c13, c14, c15⟩ := Hbox.out v1 hbB; clear hb1 HA)
            | (go_at_call 154; refine (HB.out v1).mono ?_; rintro e v2 ⟨rfl, hb2⟩; have hbB2 := chain_alloc hbB hsB hb2; obtain ⟨d0, d1, d2, d3, d4, d5, d6, d7, d8, d9, d10, d11, d12, d13, d14, d15⟩ := Hbox.out v2 hbB2; clear hb2)
            | (go_at_call 155; refine (HLo.out _).mono ?_; rintro e w' ⟨rfl, rfl⟩)
            | (go_at_call 156; refine (HDa.out _).mono ?_; rintro e w' ⟨rfl, rfl⟩)
            | (go_at_call 157; refine (HKi.out _).mono ?_; rintro e w' ⟨rfl, rfl⟩)
            | (go_at_call 152; refine (HHa.out _).mono ?_; rintro e w' ⟨rfl, rfl⟩))
          go_ret
          first
            | exact ⟨rfl, bx_below hbB2⟩
            | exact ⟨rfl, bx_below hbB⟩
            | exact ⟨rfl, bx_first0⟩
         | false =>
          cases L0 with
          | true =>
           by_cases hK0 : 0 < kn
           · have gK0 : (0 : Int) < (kn : Int) := by omega
             rw [decide_eq_true hK0]
             go_enter Tryz.func144, Tryz.ntmps144
             go_wp2_with (first
               | (go_at_call 154; refine (HA.out).mono ?_; rintro e v1 ⟨rfl, hb1⟩; have hbB := bx_first hb1; have hsB := bx_size hbB; obtain ⟨c0, c1, c2, c3, c4, c5, c6, c7, c8, c9, c10, c11, c12, c13, c14, c15⟩ := Hbox.out v1 hbB; clear hb1 HA)
               | (go_at_call 154; refine (HB.out v1).mono ?_; rintro e v2 ⟨rfl, hb2⟩; have hbB2 := chain_alloc hbB hsB hb2; obtain ⟨d0, d1, d2, d3, d4, d5, d6, d7, d8, d9, d10, d11, d12, d13, d14, d15⟩ := Hbox.out v2 hbB2; clear hb2)
               | (go_at_call 155; refine (HLo.out _).mono ?_; rintro e w' ⟨rfl, rfl⟩)
               | (go_at_call 156; refine (HDa.out _).mono ?_; rintro e w' ⟨rfl, rfl⟩)
               | (go_at_call 157; refine (HKi.out _).mono ?_; rintro e w' ⟨rfl, rfl⟩)
               | (go_at_call 152; refine (HHa.out _).mono ?_; rintro e w' ⟨rfl, rfl⟩))
             go_ret
             first
               | exact ⟨rfl, bx_below hbB2⟩
               | exact ⟨rfl, bx_below hbB⟩
               | exact ⟨rfl, bx_first0⟩
           · have gK0 : ¬ (0 : Int) < (kn : Int) := by omega
             rw [decide_eq_false hK0]
             go_enter Tryz.func144, Tryz.ntmps144
             go_wp2_with (first
               | (go_at_call 154; refine (HA.out).mono ?_; rintro e v1 ⟨rfl, hb1⟩; have hbB := bx_first hb1; have hsB := bx_size hbB; obtain ⟨c0, c1, c2, c3, c4, c5, c6, c7, c8, c9, c10, c11, c12, c13, c14, c15⟩ := Hbox.out v1 hbB; clear hb1 HA)
               | (go_at_call 154; refine (HB.out v1).mono ?_; rintro e v2 ⟨rfl, hb2⟩; have hbB2 := chain_alloc hbB hsB hb2; obtain ⟨d0, d1, d2, d3, d4, d5, d6, d7, d8, d9, d10, d11, d12, d13, d14, d15⟩ := Hbox.out v2 hbB2; clear hb2)
               | (go_at_call 155; refine (HLo.out _).mono ?_; rintro e w' ⟨rfl, rfl⟩)
               | (go_at_call 156; refine (HDa.out _).mono ?_; rintro e w' ⟨rfl, rfl⟩)
               | (go_at_call 157; refine (HKi.out _).mono ?_; rintro e w' ⟨rfl, rfl⟩)
               | (go_at_call 152; refine (HHa.out _).mono ?_; rintro e w' ⟨rfl, rfl⟩))
             go_ret
             first
               | exact ⟨rfl, bx_below hbB2⟩
               | exact ⟨rfl, bx_below hbB⟩
               | exact ⟨rfl, bx_first0⟩
          | false =>
           go_enter Tryz.func144, Tryz.ntmps144
           go_wp2_with (first
             | (go_at_call 154; refine (HA.out).mono ?_; rintro e v1 ⟨rfl, hb1⟩; have hbB := bx_first hb1; have hsB := bx_size hbB; obtain ⟨c0, c1, c2, c3, c4, c5, c6, c7, c8, c9, c10, c11, c12, c13, c14, c15⟩ := Hbox.out v1 hbB; clear hb1 HA)
             | (go_at_call 154; refine (HB.out v1).mono ?_; rintro e v2 ⟨rfl, hb2⟩; have hbB2 := chain_alloc hbB hsB hb2; obtain ⟨d0, d1, d2, d3, d4, d5, d6, d7, d8, d9, d10, d11, d12, d13, d14, d15⟩ := Hbox.out v2 hbB2; clear hb2)
             | (go_at_call 155; refine (HLo.out _).mono ?_; rintro e w' ⟨rfl, rfl⟩)
             | (go_at_call 156; refine (HDa.out _).mono ?_; rintro e w' ⟨rfl, rfl⟩)
             | (go_at_call 157; refine (HKi.out _).mono ?_; rintro e w' ⟨rfl, rfl⟩)
             | (go_at_call 152; refine (HHa.out _).mono ?_; rintro e w' ⟨rfl, rfl⟩))
           go_ret
           first
             | exact ⟨rfl, bx_below hbB2⟩
             | exact ⟨rfl, bx_below hbB⟩
             | exact ⟨rfl, bx_first0⟩
       | false =>
        go_enter Tryz.func144, Tryz.ntmps144
        go_wp2_with (first
          | (go_at_call 154; refine (HA.out).mono ?_; rintro e v1 ⟨rfl, hb1⟩; have hbB := bx_first hb1; have hsB := bx_size hbB; obtain ⟨c0, c1, c2, c3, c4, c5, c6, c7, c8, c9, c10, c11, c12, c13, c14, c15⟩ := Hbox.out v1 hbB; clear hb1 HA)
          | (go_at_call 154; refine (HB.out v1).mono ?_; rintro e v2 ⟨rfl, hb2⟩; have hbB2 := chain_alloc hbB hsB hb2; obtain ⟨d0, d1, d2, d3, d4, d5, d6, d7, d8, d9, d10, d11, d12, d13, d14, d15⟩ := Hbox.out v2 hbB2; clear hb2)
          | (go_at_call 155; refine (HLo.out _).mono ?_; rintro e w' ⟨rfl, rfl⟩)
          | (go_at_call 156; refine (HDa.out _).mono ?_; rintro e w' ⟨rfl, rfl⟩)
          | (go_at_call 157; refine (HKi.out _).mono ?_; rintro e w' ⟨rfl, rfl⟩)
          | (go_at_call 152; refine (HHa.out _).mono ?_; rintro e w' ⟨rfl, rfl⟩))
        go_ret
        first
          | exact ⟨rfl, bx_below hbB2⟩
          | exact ⟨rfl, bx_below hbB⟩
          | exact ⟨rfl, bx_first0⟩
      | false =>
       go_enter Tryz.func144, Tryz.ntmps144
       go_wp2_with (first
         | (go_at_call 154; refine (HA.out).mono ?_; rintro e v1 ⟨rfl, hb1⟩; have hbB := bx_first hb1; have hsB := bx_size hbB; obtain ⟨c0, c1, c2, c3, c4, c5, c6, c7, c8, c9, c10, c11, c12, c13, c14, c15⟩ := Hbox.out v1 hbB; clear hb1 HA)
         | (go_at_call 154; refine (HB.out v1).mono ?_; rintro e v2 ⟨rfl, hb2⟩; have hbB2 := chain_alloc hbB hsB hb2; obtain ⟨d0, d1, d2, d3, d4, d5, d6, d7, d8, d9, d10, d11, d12, d13, d14, d15⟩ := Hbox.out v2 hbB2; clear hb2)
         | (go_at_call 155; refine (HLo.out _).mono ?_; rintro e w' ⟨rfl, rfl⟩)
         | (go_at_call 156; refine (HDa.out _).mono ?_; rintro e w' ⟨rfl, rfl⟩)
         | (go_at_call 157; refine (HKi.out _).mono ?_; rintro e w' ⟨rfl, rfl⟩)
         | (go_at_call 152; refine (HHa.out _).mono ?_; rintro e w' ⟨rfl, rfl⟩))
       go_ret
       first
         | exact ⟨rfl, bx_below hbB2⟩
         | exact ⟨rfl, bx_below hbB⟩
         | exact ⟨rfl, bx_first0⟩
     | false =>
      go_enter Tryz.func144, Tryz.ntmps144
      go_wp2_with (first
        | (go_at_call 154; refine (HA.out).mono ?_; rintro e v1 ⟨rfl, hb1⟩; have hbB := bx_first hb1; have hsB := bx_size hbB; obtain ⟨c0, c1, c2, c3, c4, c5, c6, c7, c8, c9, c10, c11, c12, c13, c14, c15⟩ := Hbox.out v1 hbB; clear hb1 HA)
        | (go_at_call 154; refine (HB.out v1).mono ?_; rintro e v2 ⟨rfl, hb2⟩; have hbB2 := chain_alloc hbB hsB hb2; obtain ⟨d0, d1, d2, d3, d4, d5, d6, d7, d8, d9, d10, d11, d12, d13, d14, d15⟩ := Hbox.out v2 hbB2; clear hb2)
        | (go_at_call 155; refine (HLo.out _).mono ?_; rintro e w' ⟨rfl, rfl⟩)
        | (go_at_call 156; refine (HDa.out _).mono ?_; rintro e w' ⟨rfl, rfl⟩)
        | (go_at_call 157; refine (HKi.out _).mono ?_; rintro e w' ⟨rfl, rfl⟩)
        | (go_at_call 152; refine (HHa.out _).mono ?_; rintro e w' ⟨rfl, rfl⟩))
      go_ret
      first
        | exact ⟨rfl, bx_below hbB2⟩
        | exact ⟨rfl, bx_below hbB⟩
        | exact ⟨rfl, bx_first0⟩
    | false =>
     go_enter Tryz.func144, Tryz.ntmps144
     go_wp2_with (first
       | (go_at_call 154; refine (HA.out).mono ?_; rintro e v1 ⟨rfl, hb1⟩; have hbB := bx_first hb1; have hsB := bx_size hbB; obtain ⟨c0, c1, c2, c3, c4, c5, c6, c7, c8, c9, c10, c11, c12, c13, c14, c15⟩ := Hbox.out v1 hbB; clear hb1 HA)
       | (go_at_call 154; refine (HB.out v1).mono ?_; rintro e v2 ⟨rfl, hb2⟩; have hbB2 := chain_alloc hbB hsB hb2; obtain ⟨d0, d1, d2, d3, d4, d5, d6, d7, d8, d9, d10, d11, d12, d13, d14, d15⟩ := Hbox.out v2 hbB2; clear hb2)
       | (go_at_call 155; refine (HLo.out _).mono ?_; rintro e w' ⟨rfl, rfl⟩)
       | (go_at_call 156; refine (HDa.out _).mono ?_; rintro e w' ⟨rfl, rfl⟩)
       | (go_at_call 157; refine (HKi.out _).mono ?_; rintro e w' ⟨rfl, rfl⟩)
       | (go_at_call 152; refine (HHa.out _).mono ?_; rintro e w' ⟨rfl, rfl⟩))
     go_ret
     first
       | exact ⟨rfl, bx_below hbB2⟩
       | exact ⟨rfl, bx_below hbB⟩
       | exact ⟨rfl, bx_first0⟩
   | false =>
    go_enter Tryz.func144, Tryz.ntmps144
    go_wp2_with (first
      | (go_at_call 154; refine (HA.out).mono ?_; rintro e v1 ⟨rfl, hb1⟩; have hbB := bx_first hb1; have hsB := bx_size hbB; obtain ⟨c0, c1, c2, c3, c4, c5, c6, c7, c8, c9, c10, c11, c12, c13, c14, c15⟩ := Hbox.out v1 hbB; clear hb1 HA)
      | (go_at_call 154; refine (HB.out v1).mono ?_; rintro e v2 ⟨rfl, hb2⟩; have hbB2 := chain_alloc hbB hsB hb2; obtain ⟨d0, d1, d2, d3, d4, d5, d6, d7, d8, d9, d10, d11, d12, d13, d14, d15⟩ := Hbox.out v2 hbB2; clear hb2)
      | (go_at_call 155; refine (HLo.out _).mono ?_; rintro e w' ⟨rfl, rfl⟩)
      | (go_at_call 156; refine (HDa.out _).mono ?_; rintro e w' ⟨rfl, rfl⟩)
      | (go_at_call 157; refine (HKi.out _).mono ?_; rintro e w' ⟨rfl, rfl⟩)
      | (go_at_call 152; refine (HHa.out _).mono ?_; rintro e w' ⟨rfl, rfl⟩))
    go_ret
    first
      | exact ⟨rfl, bx_below hbB2⟩
      | exact ⟨rfl, bx_below hbB⟩
      | exact ⟨rfl, bx_first0⟩
  | false =>
   go_enter Tryz.func144, Tryz.ntmps144
   go_wp2_with (first
     | (go_at_call 154; refine (HA.out).mono ?_; rintro e v1 ⟨rfl, hb1⟩; have hbB := bx_first hb1; have hsB := bx_size hbB; obtain ⟨c0, c1, c2, c3, c4, c5, c6, c7, c8, c9, c10, c11, c12, c13, c14, c15⟩ := Hbox.out v1 hbB; clear hb1 HA)
     | (go_at_call 154; refine (HB.out v1).mono ?_; rintro e v2 ⟨rfl, hb2⟩; have hbB2 := chain_alloc hbB hsB hb2; obtain ⟨d0, d1, d2, d3, d4, d5, d6, d7, d8, d9, d10, d11, d12, d13, d14, d15⟩ := Hbox.out v2 hbB2; clear hb2)
     | (go_at_call 155; refine (HLo.out _).mono ?_; rintro e w' ⟨rfl, rfl⟩)
     | (go_at_call 156; refine (HDa.out _).mono ?_; rintro e w' ⟨rfl, rfl⟩)
     | (go_at_call 157; refine (HKi.out _).mono ?_; rintro e w' ⟨rfl, rfl⟩)
     | (go_at_call 152; refine (HHa.out _).mono ?_; rintro e w' ⟨rfl, rfl⟩))
   go_ret
   first
     | exact ⟨rfl, bx_below hbB2⟩
     | exact ⟨rfl, bx_below hbB⟩
     | exact ⟨rfl, bx_first0⟩
end Go.Proofs.YtilacgcjbdkphaaGreat
