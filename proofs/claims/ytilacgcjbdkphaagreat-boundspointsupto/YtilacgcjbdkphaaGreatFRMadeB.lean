/- The reference of forest: Made, kind by kind. -/
import Derived.Test.YtilacgcjbdkphaaGreatFRMadeL
namespace Go.Proofs.YtilacgcjbdkphaaGreat
open Go.RowKit Go.Lib

set_option maxRecDepth 100000 in
set_option maxHeartbeats 8000000 in
theorem refMade_4 (sp pr lo pu sy : ByteArray) (od oa ok : Option Addr) (dn an kn cd ca ck : Nat) (pa dc ho sh : Int) (mo : Nat) (ma ht AT : Bool) (w : World)
    (HA : Hid (Calls Tryz.prog 124 #[.slice oa an ca] (w.alloc (.cells #[.int .u8 4, .string sp, .string pr, .string lo, .string pu, .string sy, .slice od dn cd, .slice oa an ca, .int .i64 pa, .slice ok kn ck, .int .i64 dc, .int .i64 ho, .int .i64 sh, .int .u8 (mo : Int), .bool ma, .bool ht] 64)) fun e w' => e = .returned (.bool AT) ∧ Below (w.heap.size + 1) (w.alloc (.cells #[.int .u8 4, .string sp, .string pr, .string lo, .string pu, .string sy, .slice od dn cd, .slice oa an ca, .int .i64 pa, .slice ok kn ck, .int .i64 dc, .int .i64 ho, .int .i64 sh, .int .u8 (mo : Int), .bool ma, .bool ht] 64)) w')) :
    Calls Tryz.prog 110 #[.agg #[.int .u8 4, .string sp, .string pr, .string lo, .string pu, .string sy, .slice od dn cd, .slice oa an ca, .int .i64 pa, .slice ok kn ck, .int .i64 dc, .int .i64 ho, .int .i64 sh, .int .u8 (mo : Int), .bool ma, .bool ht]] w fun e w' => e = .returned (.bool (madeB 4 (decide ((1024 : Int) < (pu.size : Int))) (decide ((1024 : Int) < (sy.size : Int))) (decide ((16384 : Int) < (dn : Int))) AT (goodNameD sp pr lo) (noneS sp) (noneS pr) (noneS lo) (decide ((1024 : Int) < (lo.size : Int))) (noneS pu) (noneS sy) (decide ((0 : Int) < (dn : Int))) (decide ((0 : Int) < (kn : Int))) (decide ((0 : Int) < (an : Int))) (sh == 0) ht (mo == 1) (mo == 2) (mo == 0) ma (ho == 0) (pa == 0))) ∧ Below w.heap.size w w' := by
  have HKn : Hid (∀ W : World, Calls Tryz.prog 123 #[.int .u8 4] W fun e w' => e = .returned (.bool true) ∧ w' = W) := fun W => refKnown_any 4 W
  have HDa : Hid (∀ W : World, Calls Tryz.prog 40 #[.int .u8 4] W fun e w' => e = .returned (.bool true) ∧ w' = W) := fun W => refHasData_any 4 W
  have HKi : Hid (∀ W : World, Calls Tryz.prog 34 #[.int .u8 4] W fun e w' => e = .returned (.bool false) ∧ w' = W) := fun W => refHasKids_any 4 W
  have hbox : ∀ W, Below (w.heap.size + 1) (w.alloc (.cells #[.int .u8 4, .string sp, .string pr, .string lo, .string pu, .string sy, .slice od dn cd, .slice oa an ca, .int .i64 pa, .slice ok kn ck, .int .i64 dc, .int .i64 ho, .int .i64 sh, .int .u8 (mo : Int), .bool ma, .bool ht] 64)) W → W.cell? ⟨w.heap.size, 0, none⟩ = some (.int .u8 4) ∧ W.cell? ⟨w.heap.size, 1, none⟩ = some (.string sp) ∧ W.cell? ⟨w.heap.size, 2, none⟩ = some (.string pr) ∧ W.cell? ⟨w.heap.size, 3, none⟩ = some (.string lo) ∧ W.cell? ⟨w.heap.size, 4, none⟩ = some (.string pu) ∧ W.cell? ⟨w.heap.size, 5, none⟩ = some (.string sy) ∧ W.cell? ⟨w.heap.size, 6, none⟩ = some (.slice od dn cd) ∧ W.cell? ⟨w.heap.size, 7, none⟩ = some (.slice oa an ca) ∧ W.cell? ⟨w.heap.size, 8, none⟩ = some (.int .i64 pa) ∧ W.cell? ⟨w.heap.size, 9, none⟩ = some (.slice ok kn ck) ∧ W.cell? ⟨w.heap.size, 10, none⟩ = some (.int .i64 dc) ∧ W.cell? ⟨w.heap.size, 11, none⟩ = some (.int .i64 ho) ∧ W.cell? ⟨w.heap.size, 12, none⟩ = some (.int .i64 sh) ∧ W.cell? ⟨w.heap.size, 13, none⟩ = some (.int .u8 (mo : Int)) ∧ W.cell? ⟨w.heap.size, 14, none⟩ = some (.bool ma) ∧ W.cell? ⟨w.heap.size, 15, none⟩ = some (.bool ht) := fun W hW => ⟨(hW.cell (p := ⟨w.heap.size, 0, none⟩) (by simp)).trans (by simp), (hW.cell (p := ⟨w.heap.size, 1, none⟩) (by simp)).trans (by simp), (hW.cell (p := ⟨w.heap.size, 2, none⟩) (by simp)).trans (by simp), (hW.cell (p := ⟨w.heap.size, 3, none⟩) (by simp)).trans (by simp), (hW.cell (p := ⟨w.heap.size, 4, none⟩) (by simp)).trans (by simp), (hW.cell (p := ⟨w.heap.size, 5, none⟩) (by simp)).trans (by simp), (hW.cell (p := ⟨w.heap.size, 6, none⟩) (by simp)).trans (by simp), (hW.cell (p := ⟨w.heap.size, 7, none⟩) (by simp)).trans (by simp), (hW.cell (p := ⟨w.heap.size, 8, none⟩) (by simp)).trans (by simp), (hW.cell (p := ⟨w.heap.size, 9, none⟩) (by simp)).trans (by simp), (hW.cell (p := ⟨w.heap.size, 10, none⟩) (by simp)).trans (by simp), (hW.cell (p := ⟨w.heap.size, 11, none⟩) (by simp)).trans (by simp), (hW.cell (p := ⟨w.heap.size, 12, none⟩) (by simp)).trans (by simp), (hW.cell (p := ⟨w.heap.size, 13, none⟩) (by simp)).trans (by simp), (hW.cell (p := ⟨w.heap.size, 14, none⟩) (by simp)).trans (by simp), (hW.cell (p := ⟨w.heap.size, 15, none⟩) (by simp)).trans (by simp)⟩
  have Hbox := hid hbox
  clear hbox
  have eM : ((mo : Int) == 0) = (mo == 0) := beq_cast mo 0
  have eM' : ((mo : Int) != 0) = !(mo == 0) := by rw [← eM]; rfl
  have e1 : ((mo : Int) == 1) = (mo == 1) := beq_cast mo 1
  have e1' : ((mo : Int) != 1) = !(mo == 1) := by rw [← e1]; rfl
  have e2 : ((mo : Int) == 2) = (mo == 2) := beq_cast mo 2
  have e2' : ((mo : Int) != 2) = !(mo == 2) := by rw [← e2]; rfl
  have eO : (ho != 0) = !(ho == 0) := rfl
  have eH : (sh != 0) = !(sh == 0) := rfl
  have eU := noneS_toList pu
  have eU' := noneS_empty pu
  have eY := noneS_toList sy
  have eY' := noneS_empty sy
  generalize noneS pu = U0 at *
  generalize noneS sy = Y0 at *
  generalize hH : (sh == 0) = H0 at *
  generalize hO : (ho == 0) = O0 at *
  generalize hQ : (pa == 0) = Q0 at *
  generalize (mo == 0) = M0 at *
  generalize (mo == 1) = M1 at *
  generalize (mo == 2) = M2 at *
  by_cases hPU : (1024 : Int) < (pu.size : Int)
  · rw [decide_eq_true hPU]
    go_enter Tryz.func110, Tryz.ntmps110
    go_wp2_with (first
      | (go_at_call 123; refine (HKn.out _).mono ?_; rintro e w' ⟨rfl, rfl⟩)
      | (go_at_call 124; refine (HA.out).mono ?_; rintro e v1 ⟨rfl, hbB⟩; have hsB := bx_size hbB; obtain ⟨c0, c1, c2, c3, c4, c5, c6, c7, c8, c9, c10, c11, c12, c13, c14, c15⟩ := Hbox.out v1 hbB; clear HA)
      | (go_at_call 40; refine (HDa.out _).mono ?_; rintro e w' ⟨rfl, rfl⟩)
      | (go_at_call 34; refine (HKi.out _).mono ?_; rintro e w' ⟨rfl, rfl⟩))
    go_ret
    first
      | exact ⟨rfl, bx_below hbB⟩
      | exact ⟨rfl, bx_first0⟩
  · rw [decide_eq_false hPU]
    by_cases hSY : (1024 : Int) < (sy.size : Int)
    · rw [decide_eq_true hSY]
      go_enter Tryz.func110, Tryz.ntmps110
      go_wp2_with (first
        | (go_at_call 123; refine (HKn.out _).mono ?_; rintro e w' ⟨rfl, rfl⟩)
        | (go_at_call 124; refine (HA.out).mono ?_; rintro e v1 ⟨rfl, hbB⟩; have hsB := bx_size hbB; obtain ⟨c0, c1, c2, c3, c4, c5, c6, c7, c8, c9, c10, c11, c12, c13, c14, c15⟩ := Hbox.out v1 hbB; clear HA)
        | (go_at_call 40; refine (HDa.out _).mono ?_; rintro e w' ⟨rfl, rfl⟩)
        | (go_at_call 34; refine (HKi.out _).mono ?_; rintro e w' ⟨rfl, rfl⟩))
      go_ret
      first
        | exact ⟨rfl, bx_below hbB⟩
        | exact ⟨rfl, bx_first0⟩
    · rw [decide_eq_false hSY]
      by_cases hDA : (16384 : Int) < (dn : Int)
      · rw [decide_eq_true hDA]
        go_enter Tryz.func110, Tryz.ntmps110
        go_wp2_with (first
          | (go_at_call 123; refine (HKn.out _).mono ?_; rintro e w' ⟨rfl, rfl⟩)
          | (go_at_call 124; refine (HA.out).mono ?_; rintro e v1 ⟨rfl, hbB⟩; have hsB := bx_size hbB; obtain ⟨c0, c1, c2, c3, c4, c5, c6, c7, c8, c9, c10, c11, c12, c13, c14, c15⟩ := Hbox.out v1 hbB; clear HA)
          | (go_at_call 40; refine (HDa.out _).mono ?_; rintro e w' ⟨rfl, rfl⟩)
          | (go_at_call 34; refine (HKi.out _).mono ?_; rintro e w' ⟨rfl, rfl⟩))
        go_ret
        first
          | exact ⟨rfl, bx_below hbB⟩
          | exact ⟨rfl, bx_first0⟩
      · rw [decide_eq_false hDA]
        cases AT with
        | true =>
         by_cases hS0 : sp.toList = []
         · rw [none_yes hS0]
           by_cases hP0 : pr.toList = []
           · rw [none_yes hP0]
             by_cases hL0 : lo.toList = []
             · rw [none_yes hL0]
               cases U0 with
               | true =>
                cases Y0 with
                | true =>
                 by_cases hK0 : (0 : Int) < (kn : Int)
                 · rw [decide_eq_true hK0]
                   go_enter Tryz.func110, Tryz.ntmps110
                   go_wp2_with (first
                     | (go_at_call 123; refine (HKn.out _).mono ?_; rintro e w' ⟨rfl, rfl⟩)
                     | (go_at_call 124; refine (HA.out).mono ?_; rintro e v1 ⟨rfl, hbB⟩; have hsB := bx_size hbB; obtain ⟨c0, c1, c2, c3, c4, c5, c6, c7, c8, c9, c10, c11, c12, c13, c14, c15⟩ := Hbox.out v1 hbB; clear HA)
                     | (go_at_call 40; refine (HDa.out _).mono ?_; rintro e w' ⟨rfl, rfl⟩)
                     | (go_at_call 34; refine (HKi.out _).mono ?_; rintro e w' ⟨rfl, rfl⟩))
                   go_ret
                   first
                     | exact ⟨rfl, bx_below hbB⟩
                     | exact ⟨rfl, bx_first0⟩
                 · rw [decide_eq_false hK0]
                   by_cases hA0 : (0 : Int) < (an : Int)
                   · rw [decide_eq_true hA0]
                     go_enter Tryz.func110, Tryz.ntmps110
                     go_wp2_with (first
                       | (go_at_call 123; refine (HKn.out _).mono ?_; rintro e w' ⟨rfl, rfl⟩)
                       | (go_at_call 124; refine (HA.out).mono ?_; rintro e v1 ⟨rfl, hbB⟩; have hsB := bx_size hbB; obtain ⟨c0, c1, c2, c3, c4, c5, c6, c7, c8, c9, c10, c11, c12, c13, c14, c15⟩ := Hbox.out v1 hbB; clear HA)
                       | (go_at_call 40; refine (HDa.out _).mono ?_; rintro e w' ⟨rfl, rfl⟩)
                       | (go_at_call 34; refine (HKi.out _).mono ?_; rintro e w' ⟨rfl, rfl⟩))
                     go_ret
                     first
                       | exact ⟨rfl, bx_below hbB⟩
                       | exact ⟨rfl, bx_first0⟩
                   · rw [decide_eq_false hA0]
                     cases H0 with
                     | true =>
                      cases ht with
                      | true =>
                       go_enter Tryz.func110, Tryz.ntmps110
                       go_wp2_with (first
                         | (go_at_call 123; refine (HKn.out _).mono ?_; rintro e w' ⟨rfl, rfl⟩)
                         | (go_at_call 124; refine (HA.out).mono ?_; rintro e v1 ⟨rfl, hbB⟩; have hsB := bx_size hbB; obtain ⟨c0, c1, c2, c3, c4, c5, c6, c7, c8, c9, c10, c11, c12, c13, c14, c15⟩ := Hbox.out v1 hbB; clear HA)
                         | (go_at_call 40; refine (HDa.out _).mono ?_; rintro e w' ⟨rfl, rfl⟩)
                         | (go_at_call 34; refine (HKi.out _).mono ?_; rintro e w' ⟨rfl, rfl⟩))
                       go_ret
                       first
                         | exact ⟨rfl, bx_below hbB⟩
                         | exact ⟨rfl, bx_first0⟩
                      | false =>
                       cases M0 with
                       | true =>
                        cases ma with
                        | true =>
                         go_enter Tryz.func110, Tryz.ntmps110
                         go_wp2_with (first
                           | (go_at_call 123; refine (HKn.out _).mono ?_; rintro e w' ⟨rfl, rfl⟩)
                           | (go_at_call 124; refine (HA.out).mono ?_; rintro e v1 ⟨rfl, hbB⟩; have hsB := bx_size hbB; obtain ⟨c0, c1, c2, c3, c4, c5, c6, c7, c8, c9, c10, c11, c12, c13, c14, c15⟩ := Hbox.out v1 hbB; clear HA)
                           | (go_at_call 40; refine (HDa.out _).mono ?_; rintro e w' ⟨rfl, rfl⟩)
                           | (go_at_call 34; refine (HKi.out _).mono ?_; rintro e w' ⟨rfl, rfl⟩))
                         go_ret
                         first
                           | exact ⟨rfl, bx_below hbB⟩
                           | exact ⟨rfl, bx_first0⟩
                        | false =>
                         cases O0 with
                         | true =>
                          cases Q0 with
                          | true =>
                           go_enter Tryz.func110, Tryz.ntmps110
                           go_wp2_with (first
                             | (go_at_call 123; refine (HKn.out _).mono ?_; rintro e w' ⟨rfl, rfl⟩)
                             | (go_at_call 124; refine (HA.out).mono ?_; rintro e v1 ⟨rfl, hbB⟩; have hsB := bx_size hbB; obtain ⟨c0, c1, c2, c3, c4, c5, c6, c7, c8, c9, c10, c11, c12, c13, c14, c15⟩ := Hbox.out v1 hbB; clear HA)
                             | (go_at_call 40; refine (HDa.out _).mono ?_; rintro e w' ⟨rfl, rfl⟩)
                             | (go_at_call 34; refine (HKi.out _).mono ?_; rintro e w' ⟨rfl, rfl⟩))
                           go_ret
                           first
                             | exact ⟨rfl, bx_below hbB⟩
                             | exact ⟨rfl, bx_first0⟩
                          | false =>
                           go_enter Tryz.func110, Tryz.ntmps110
                           go_wp2_with (first
                             | (go_at_call 123; refine (HKn.out _).mono ?_; rintro e w' ⟨rfl, rfl⟩)
                             | (go_at_call 124; refine (HA.out).mono ?_; rintro e v1 ⟨rfl, hbB⟩; have hsB := bx_size hbB; obtain ⟨c0, c1, c2, c3, c4, c5, c6, c7, c8, c9, c10, c11, c12, c13, c14, c15⟩ := Hbox.out v1 hbB; clear HA)
                             | (go_at_call 40; refine (HDa.out _).mono ?_; rintro e w' ⟨rfl, rfl⟩)
                             | (go_at_call 34; refine (HKi.out _).mono ?_; rintro e w' ⟨rfl, rfl⟩))
                           go_ret
                           first
                             | exact ⟨rfl, bx_below hbB⟩
                             | exact ⟨rfl, bx_first0⟩
                         | false =>
                          go_enter Tryz.func110, Tryz.ntmps110
                          go_wp2_with (first
                            | (go_at_call 123; refine (HKn.out _).mono ?_; rintro e w' ⟨rfl, rfl⟩)
                            | (go_at_call 124; refine (HA.out).mono ?_; rintro e v1 ⟨rfl, hbB⟩; have hsB := bx_size hbB; obtain ⟨c0, c1, c2, c3, c4, c5, c6, c7, c8, c9, c10, c11, c12, c13, c14, c15⟩ := Hbox.out v1 hbB; clear HA)
                            | (go_at_call 40; refine (HDa.out _).mono ?_; rintro e w' ⟨rfl, rfl⟩)
                            | (go_at_call 34; refine (HKi.out _).mono ?_; rintro e w' ⟨rfl, rfl⟩))
                          go_ret
                          first
                            | exact ⟨rfl, bx_below hbB⟩
                            | exact ⟨rfl, bx_first0⟩
                       | false =>
                        go_enter Tryz.func110, Tryz.ntmps110
                        go_wp2_with (first
                          | (go_at_call 123; refine (HKn.out _).mono ?_; rintro e w' ⟨rfl, rfl⟩)
                          | (go_at_call 124; refine (HA.out).mono ?_; rintro e v1 ⟨rfl, hbB⟩; have hsB := bx_size hbB; obtain ⟨c0, c1, c2, c3, c4, c5, c6, c7, c8, c9, c10, c11, c12, c13, c14, c15⟩ := Hbox.out v1 hbB; clear HA)
                          | (go_at_call 40; refine (HDa.out _).mono ?_; rintro e w' ⟨rfl, rfl⟩)
                          | (go_at_call 34; refine (HKi.out _).mono ?_; rintro e w' ⟨rfl, rfl⟩))
                        go_ret
                        first
                          | exact ⟨rfl, bx_below hbB⟩
                          | exact ⟨rfl, bx_first0⟩
                     | false =>
                      go_enter Tryz.func110, Tryz.ntmps110
                      go_wp2_with (first
                        | (go_at_call 123; refine (HKn.out _).mono ?_; rintro e w' ⟨rfl, rfl⟩)
                        | (go_at_call 124; refine (HA.out).mono ?_; rintro e v1 ⟨rfl, hbB⟩; have hsB := bx_size hbB; obtain ⟨c0, c1, c2, c3, c4, c5, c6, c7, c8, c9, c10, c11, c12, c13, c14, c15⟩ := Hbox.out v1 hbB; clear HA)
                        | (go_at_call 40; refine (HDa.out _).mono ?_; rintro e w' ⟨rfl, rfl⟩)
                        | (go_at_call 34; refine (HKi.out _).mono ?_; rintro e w' ⟨rfl, rfl⟩))
                      go_ret
                      first
                        | exact ⟨rfl, bx_below hbB⟩
                        | exact ⟨rfl, bx_first0⟩
                | false =>
                 go_enter Tryz.func110, Tryz.ntmps110
                 go_wp2_with (first
                   | (go_at_call 123; refine (HKn.out _).mono ?_; rintro e w' ⟨rfl, rfl⟩)
                   | (go_at_call 124; refine (HA.out).mono ?_; rintro e v1 ⟨rfl, hbB⟩; have hsB := bx_size hbB; obtain ⟨c0, c1, c2, c3, c4, c5, c6, c7, c8, c9, c10, c11, c12, c13, c14, c15⟩ := Hbox.out v1 hbB; clear HA)
                   | (go_at_call 40; refine (HDa.out _).mono ?_; rintro e w' ⟨rfl, rfl⟩)
                   | (go_at_call 34; refine (HKi.out _).mono ?_; rintro e w' ⟨rfl, rfl⟩))
                 go_ret
                 first
                   | exact ⟨rfl, bx_below hbB⟩
                   | exact ⟨rfl, bx_first0⟩
               | false =>
                go_enter Tryz.func110, Tryz.ntmps110
                go_wp2_with (first
                  | (go_at_call 123; refine (HKn.out _).mono ?_; rintro e w' ⟨rfl, rfl⟩)
                  | (go_at_call 124; refine (HA.out).mono ?_; rintro e v1 ⟨rfl, hbB⟩; have hsB := bx_size hbB; obtain ⟨c0, c1, c2, c3, c4, c5, c6, c7, c8, c9, c10, c11, c12, c13, c14, c15⟩ := Hbox.out v1 hbB; clear HA)
                  | (go_at_call 40; refine (HDa.out _).mono ?_; rintro e w' ⟨rfl, rfl⟩)
                  | (go_at_call 34; refine (HKi.out _).mono ?_; rintro e w' ⟨rfl, rfl⟩))
                go_ret
                first
                  | exact ⟨rfl, bx_below hbB⟩
                  | exact ⟨rfl, bx_first0⟩
             · rw [none_no hL0]
               go_enter Tryz.func110, Tryz.ntmps110
               go_wp2_with (first
                 | (go_at_call 123; refine (HKn.out _).mono ?_; rintro e w' ⟨rfl, rfl⟩)
                 | (go_at_call 124; refine (HA.out).mono ?_; rintro e v1 ⟨rfl, hbB⟩; have hsB := bx_size hbB; obtain ⟨c0, c1, c2, c3, c4, c5, c6, c7, c8, c9, c10, c11, c12, c13, c14, c15⟩ := Hbox.out v1 hbB; clear HA)
                 | (go_at_call 40; refine (HDa.out _).mono ?_; rintro e w' ⟨rfl, rfl⟩)
                 | (go_at_call 34; refine (HKi.out _).mono ?_; rintro e w' ⟨rfl, rfl⟩))
               go_ret
               first
                 | exact ⟨rfl, bx_below hbB⟩
                 | exact ⟨rfl, bx_first0⟩
           · rw [none_no hP0]
             go_enter Tryz.func110, Tryz.ntmps110
             go_wp2_with (first
               | (go_at_call 123; refine (HKn.out _).mono ?_; rintro e w' ⟨rfl, rfl⟩)
               | (go_at_call 124; refine (HA.out).mono ?_; rintro e v1 ⟨rfl, hbB⟩; have hsB := bx_size hbB; obtain ⟨c0, c1, c2, c3, c4, c5, c6, c7, c8, c9, c10, c11, c12, c13, c14, c15⟩ := Hbox.out v1 hbB; clear HA)
               | (go_at_call 40; refine (HDa.out _).mono ?_; rintro e w' ⟨rfl, rfl⟩)
               | (go_at_call 34; refine (HKi.out _).mono ?_; rintro e w' ⟨rfl, rfl⟩))
             go_ret
             first
               | exact ⟨rfl, bx_below hbB⟩
               | exact ⟨rfl, bx_first0⟩
         · rw [none_no hS0]
           go_enter Tryz.func110, Tryz.ntmps110
           go_wp2_with (first
             | (go_at_call 123; refine (HKn.out _).mono ?_; rintro e w' ⟨rfl, rfl⟩)
             | (go_at_call 124; refine (HA.out).mono ?_; rintro e v1 ⟨rfl, hbB⟩; have hsB := bx_size hbB; obtain ⟨c0, c1, c2, c3, c4, c5, c6, c7, c8, c9, c10, c11, c12, c13, c14, c15⟩ := Hbox.out v1 hbB; clear HA)
             | (go_at_call 40; refine (HDa.out _).mono ?_; rintro e w' ⟨rfl, rfl⟩)
             | (go_at_call 34; refine (HKi.out _).mono ?_; rintro e w' ⟨rfl, rfl⟩))
           go_ret
           first
             | exact ⟨rfl, bx_below hbB⟩
             | exact ⟨rfl, bx_first0⟩
        | false =>
         go_enter Tryz.func110, Tryz.ntmps110
         go_wp2_with (first
           | (go_at_call 123; refine (HKn.out _).mono ?_; rintro e w' ⟨rfl, rfl⟩)
           | (go_at_call 124; refine (HA.out).mono ?_; rintro e v1 ⟨rfl, hbB⟩; have hsB := bx_size hbB; obtain ⟨c0, c1, c2, c3, c4, c5, c6, c7, c8, c9, c10, c11, c12, c13, c14, c15⟩ := Hbox.out v1 hbB; clear HA)
           | (go_at_call 40; refine (HDa.out _).mono ?_; rintro e w' ⟨rfl, rfl⟩)
           | (go_at_call 34; refine (HKi.out _).mono ?_; rintro e w' ⟨rfl, rfl⟩))
         go_ret
         first
           | exact ⟨rfl, bx_below hbB⟩
           | exact ⟨rfl, bx_first0⟩

set_option maxRecDepth 100000 in
set_option maxHeartbeats 8000000 in
theorem refMade_7 (sp pr lo pu sy : ByteArray) (od oa ok : Option Addr) (dn an kn cd ca ck : Nat) (pa dc ho sh : Int) (mo : Nat) (ma ht AT : Bool) (w : World)
    (HA : Hid (Calls Tryz.prog 124 #[.slice oa an ca] (w.alloc (.cells #[.int .u8 7, .string sp, .string pr, .string lo, .string pu, .string sy, .slice od dn cd, .slice oa an ca, .int .i64 pa, .slice ok kn ck, .int .i64 dc, .int .i64 ho, .int .i64 sh, .int .u8 (mo : Int), .bool ma, .bool ht] 64)) fun e w' => e = .returned (.bool AT) ∧ Below (w.heap.size + 1) (w.alloc (.cells #[.int .u8 7, .string sp, .string pr, .string lo, .string pu, .string sy, .slice od dn cd, .slice oa an ca, .int .i64 pa, .slice ok kn ck, .int .i64 dc, .int .i64 ho, .int .i64 sh, .int .u8 (mo : Int), .bool ma, .bool ht] 64)) w')) :
    Calls Tryz.prog 110 #[.agg #[.int .u8 7, .string sp, .string pr, .string lo, .string pu, .string sy, .slice od dn cd, .slice oa an ca, .int .i64 pa, .slice ok kn ck, .int .i64 dc, .int .i64 ho, .int .i64 sh, .int .u8 (mo : Int), .bool ma, .bool ht]] w fun e w' => e = .returned (.bool (madeB 7 (decide ((1024 : Int) < (pu.size : Int))) (decide ((1024 : Int) < (sy.size : Int))) (decide ((16384 : Int) < (dn : Int))) AT (goodNameD sp pr lo) (noneS sp) (noneS pr) (noneS lo) (decide ((1024 : Int) < (lo.size : Int))) (noneS pu) (noneS sy) (decide ((0 : Int) < (dn : Int))) (decide ((0 : Int) < (kn : Int))) (decide ((0 : Int) < (an : Int))) (sh == 0) ht (mo == 1) (mo == 2) (mo == 0) ma (ho == 0) (pa == 0))) ∧ Below w.heap.size w w' := by
  have HKn : Hid (∀ W : World, Calls Tryz.prog 123 #[.int .u8 7] W fun e w' => e = .returned (.bool true) ∧ w' = W) := fun W => refKnown_any 7 W
  have HDa : Hid (∀ W : World, Calls Tryz.prog 40 #[.int .u8 7] W fun e w' => e = .returned (.bool true) ∧ w' = W) := fun W => refHasData_any 7 W
  have HKi : Hid (∀ W : World, Calls Tryz.prog 34 #[.int .u8 7] W fun e w' => e = .returned (.bool false) ∧ w' = W) := fun W => refHasKids_any 7 W
  have hbox : ∀ W, Below (w.heap.size + 1) (w.alloc (.cells #[.int .u8 7, .string sp, .string pr, .string lo, .string pu, .string sy, .slice od dn cd, .slice oa an ca, .int .i64 pa, .slice ok kn ck, .int .i64 dc, .int .i64 ho, .int .i64 sh, .int .u8 (mo : Int), .bool ma, .bool ht] 64)) W → W.cell? ⟨w.heap.size, 0, none⟩ = some (.int .u8 7) ∧ W.cell? ⟨w.heap.size, 1, none⟩ = some (.string sp) ∧ W.cell? ⟨w.heap.size, 2, none⟩ = some (.string pr) ∧ W.cell? ⟨w.heap.size, 3, none⟩ = some (.string lo) ∧ W.cell? ⟨w.heap.size, 4, none⟩ = some (.string pu) ∧ W.cell? ⟨w.heap.size, 5, none⟩ = some (.string sy) ∧ W.cell? ⟨w.heap.size, 6, none⟩ = some (.slice od dn cd) ∧ W.cell? ⟨w.heap.size, 7, none⟩ = some (.slice oa an ca) ∧ W.cell? ⟨w.heap.size, 8, none⟩ = some (.int .i64 pa) ∧ W.cell? ⟨w.heap.size, 9, none⟩ = some (.slice ok kn ck) ∧ W.cell? ⟨w.heap.size, 10, none⟩ = some (.int .i64 dc) ∧ W.cell? ⟨w.heap.size, 11, none⟩ = some (.int .i64 ho) ∧ W.cell? ⟨w.heap.size, 12, none⟩ = some (.int .i64 sh) ∧ W.cell? ⟨w.heap.size, 13, none⟩ = some (.int .u8 (mo : Int)) ∧ W.cell? ⟨w.heap.size, 14, none⟩ = some (.bool ma) ∧ W.cell? ⟨w.heap.size, 15, none⟩ = some (.bool ht) := fun W hW => ⟨(hW.cell (p := ⟨w.heap.size, 0, none⟩) (by simp)).trans (by simp), (hW.cell (p := ⟨w.heap.size, 1, none⟩) (by simp)).trans (by simp), (hW.cell (p := ⟨w.heap.size, 2, none⟩) (by simp)).trans (by simp), (hW.cell (p := ⟨w.heap.size, 3, none⟩) (by simp)).trans (by simp), (hW.cell (p := ⟨w.heap.size, 4, none⟩) (by simp)).trans (by simp), (hW.cell (p := ⟨w.heap.size, 5, none⟩) (by simp)).trans (by simp), (hW.cell (p := ⟨w.heap.size, 6, none⟩) (by simp)).trans (by simp), (hW.cell (p := ⟨w.heap.size, 7, none⟩) (by simp)).trans (by simp), (hW.cell (p := ⟨w.heap.size, 8, none⟩) (by simp)).trans (by simp), (hW.cell (p := ⟨w.heap.size, 9, none⟩) (by simp)).trans (by simp), (hW.cell (p := ⟨w.heap.size, 10, none⟩) (by simp)).trans (by simp), (hW.cell (p := ⟨w.heap.size, 11, none⟩) (by simp)).trans (by simp), (hW.cell (p := ⟨w.heap.size, 12, none⟩) (by simp)).trans (by simp), (hW.cell (p := ⟨w.heap.size, 13, none⟩) (by simp)).trans (by simp), (hW.cell (p := ⟨w.heap.size, 14, none⟩) (by simp)).trans (by simp), (hW.cell (p := ⟨w.heap.size, 15, none⟩) (by simp)).trans (by simp)⟩
  have Hbox := hid hbox
  clear hbox
  have eM : ((mo : Int) == 0) = (mo == 0) := beq_cast mo 0
  have eM' : ((mo : Int) != 0) = !(mo == 0) := by rw [← eM]; rfl
  have e1 : ((mo : Int) == 1) = (mo == 1) := beq_cast mo 1
  have e1' : ((mo : Int) != 1) = !(mo == 1) := by rw [← e1]; rfl
  have e2 : ((mo : Int) == 2) = (mo == 2) := beq_cast mo 2
  have e2' : ((mo : Int) != 2) = !(mo == 2) := by rw [← e2]; rfl
  have eO : (ho != 0) = !(ho == 0) := rfl
  have eH : (sh != 0) = !(sh == 0) := rfl
  have eU := noneS_toList pu
  have eU' := noneS_empty pu
  have eY := noneS_toList sy
  have eY' := noneS_empty sy
  have eL := noneS_toList lo
  have eL' := noneS_empty lo
  generalize noneS lo = L0 at *
  generalize noneS pu = U0 at *
  generalize noneS sy = Y0 at *
  generalize hH : (sh == 0) = H0 at *
  generalize hO : (ho == 0) = O0 at *
  generalize hQ : (pa == 0) = Q0 at *
  generalize (mo == 0) = M0 at *
  generalize (mo == 1) = M1 at *
  generalize (mo == 2) = M2 at *
  by_cases hPU : (1024 : Int) < (pu.size : Int)
  · rw [decide_eq_true hPU]
    go_enter Tryz.func110, Tryz.ntmps110
    go_wp2_with (first
      | (go_at_call 123; refine (HKn.out _).mono ?_; rintro e w' ⟨rfl, rfl⟩)
      | (go_at_call 124; refine (HA.out).mono ?_; rintro e v1 ⟨rfl, hbB⟩; have hsB := bx_size hbB; obtain ⟨c0, c1, c2, c3, c4, c5, c6, c7, c8, c9, c10, c11, c12, c13, c14, c15⟩ := Hbox.out v1 hbB; clear HA)
      | (go_at_call 40; refine (HDa.out _).mono ?_; rintro e w' ⟨rfl, rfl⟩)
      | (go_at_call 34; refine (HKi.out _).mono ?_; rintro e w' ⟨rfl, rfl⟩))
    go_ret
    first
      | exact ⟨rfl, bx_below hbB⟩
      | exact ⟨rfl, bx_first0⟩
  · rw [decide_eq_false hPU]
    by_cases hSY : (1024 : Int) < (sy.size : Int)
    · rw [decide_eq_true hSY]
      go_enter Tryz.func110, Tryz.ntmps110
      go_wp2_with (first
        | (go_at_call 123; refine (HKn.out _).mono ?_; rintro e w' ⟨rfl, rfl⟩)
        | (go_at_call 124; refine (HA.out).mono ?_; rintro e v1 ⟨rfl, hbB⟩; have hsB := bx_size hbB; obtain ⟨c0, c1, c2, c3, c4, c5, c6, c7, c8, c9, c10, c11, c12, c13, c14, c15⟩ := Hbox.out v1 hbB; clear HA)
        | (go_at_call 40; refine (HDa.out _).mono ?_; rintro e w' ⟨rfl, rfl⟩)
        | (go_at_call 34; refine (HKi.out _).mono ?_; rintro e w' ⟨rfl, rfl⟩))
      go_ret
      first
        | exact ⟨rfl, bx_below hbB⟩
        | exact ⟨rfl, bx_first0⟩
    · rw [decide_eq_false hSY]
      by_cases hDA : (16384 : Int) < (dn : Int)
      · rw [decide_eq_true hDA]
        go_enter Tryz.func110, Tryz.ntmps110
        go_wp2_with (first
          | (go_at_call 123; refine (HKn.out _).mono ?_; rintro e w' ⟨rfl, rfl⟩)
          | (go_at_call 124; refine (HA.out).mono ?_; rintro e v1 ⟨rfl, hbB⟩; have hsB := bx_size hbB; obtain ⟨c0, c1, c2, c3, c4, c5, c6, c7, c8, c9, c10, c11, c12, c13, c14, c15⟩ := Hbox.out v1 hbB; clear HA)
          | (go_at_call 40; refine (HDa.out _).mono ?_; rintro e w' ⟨rfl, rfl⟩)
          | (go_at_call 34; refine (HKi.out _).mono ?_; rintro e w' ⟨rfl, rfl⟩))
        go_ret
        first
          | exact ⟨rfl, bx_below hbB⟩
          | exact ⟨rfl, bx_first0⟩
      · rw [decide_eq_false hDA]
        cases AT with
        | true =>
         by_cases hS0 : sp.toList = []
         · rw [none_yes hS0]
           by_cases hP0 : pr.toList = []
           · rw [none_yes hP0]
             cases L0 with
             | true =>
              go_enter Tryz.func110, Tryz.ntmps110
              go_wp2_with (first
                | (go_at_call 123; refine (HKn.out _).mono ?_; rintro e w' ⟨rfl, rfl⟩)
                | (go_at_call 124; refine (HA.out).mono ?_; rintro e v1 ⟨rfl, hbB⟩; have hsB := bx_size hbB; obtain ⟨c0, c1, c2, c3, c4, c5, c6, c7, c8, c9, c10, c11, c12, c13, c14, c15⟩ := Hbox.out v1 hbB; clear HA)
                | (go_at_call 40; refine (HDa.out _).mono ?_; rintro e w' ⟨rfl, rfl⟩)
                | (go_at_call 34; refine (HKi.out _).mono ?_; rintro e w' ⟨rfl, rfl⟩))
              go_ret
              first
                | exact ⟨rfl, bx_below hbB⟩
                | exact ⟨rfl, bx_first0⟩
             | false =>
              by_cases hL9 : (1024 : Int) < (lo.size : Int)
              · rw [decide_eq_true hL9]
                go_enter Tryz.func110, Tryz.ntmps110
                go_wp2_with (first
                  | (go_at_call 123; refine (HKn.out _).mono ?_; rintro e w' ⟨rfl, rfl⟩)
                  | (go_at_call 124; refine (HA.out).mono ?_; rintro e v1 ⟨rfl, hbB⟩; have hsB := bx_size hbB; obtain ⟨c0, c1, c2, c3, c4, c5, c6, c7, c8, c9, c10, c11, c12, c13, c14, c15⟩ := Hbox.out v1 hbB; clear HA)
                  | (go_at_call 40; refine (HDa.out _).mono ?_; rintro e w' ⟨rfl, rfl⟩)
                  | (go_at_call 34; refine (HKi.out _).mono ?_; rintro e w' ⟨rfl, rfl⟩))
                go_ret
                first
                  | exact ⟨rfl, bx_below hbB⟩
                  | exact ⟨rfl, bx_first0⟩
              · rw [decide_eq_false hL9]
                cases U0 with
                | true =>
                 cases Y0 with
                 | true =>
                  by_cases hK0 : (0 : Int) < (kn : Int)
                  · rw [decide_eq_true hK0]
                    go_enter Tryz.func110, Tryz.ntmps110
                    go_wp2_with (first
                      | (go_at_call 123; refine (HKn.out _).mono ?_; rintro e w' ⟨rfl, rfl⟩)
                      | (go_at_call 124; refine (HA.out).mono ?_; rintro e v1 ⟨rfl, hbB⟩; have hsB := bx_size hbB; obtain ⟨c0, c1, c2, c3, c4, c5, c6, c7, c8, c9, c10, c11, c12, c13, c14, c15⟩ := Hbox.out v1 hbB; clear HA)
                      | (go_at_call 40; refine (HDa.out _).mono ?_; rintro e w' ⟨rfl, rfl⟩)
                      | (go_at_call 34; refine (HKi.out _).mono ?_; rintro e w' ⟨rfl, rfl⟩))
                    go_ret
                    first
                      | exact ⟨rfl, bx_below hbB⟩
                      | exact ⟨rfl, bx_first0⟩
                  · rw [decide_eq_false hK0]
                    by_cases hA0 : (0 : Int) < (an : Int)
                    · rw [decide_eq_true hA0]
                      go_enter Tryz.func110, Tryz.ntmps110
                      go_wp2_with (first
                        | (go_at_call 123; refine (HKn.out _).mono ?_; rintro e w' ⟨rfl, rfl⟩)
                        | (go_at_call 124; refine (HA.out).mono ?_; rintro e v1 ⟨rfl, hbB⟩; have hsB := bx_size hbB; obtain ⟨c0, c1, c2, c3, c4, c5, c6, c7, c8, c9, c10, c11, c12, c13, c14, c15⟩ := Hbox.out v1 hbB; clear HA)
                        | (go_at_call 40; refine (HDa.out _).mono ?_; rintro e w' ⟨rfl, rfl⟩)
                        | (go_at_call 34; refine (HKi.out _).mono ?_; rintro e w' ⟨rfl, rfl⟩))
                      go_ret
                      first
                        | exact ⟨rfl, bx_below hbB⟩
                        | exact ⟨rfl, bx_first0⟩
                    · rw [decide_eq_false hA0]
                      cases H0 with
                      | true =>
                       cases ht with
                       | true =>
                        go_enter Tryz.func110, Tryz.ntmps110
                        go_wp2_with (first
                          | (go_at_call 123; refine (HKn.out _).mono ?_; rintro e w' ⟨rfl, rfl⟩)
                          | (go_at_call 124; refine (HA.out).mono ?_; rintro e v1 ⟨rfl, hbB⟩; have hsB := bx_size hbB; obtain ⟨c0, c1, c2, c3, c4, c5, c6, c7, c8, c9, c10, c11, c12, c13, c14, c15⟩ := Hbox.out v1 hbB; clear HA)
                          | (go_at_call 40; refine (HDa.out _).mono ?_; rintro e w' ⟨rfl, rfl⟩)
                          | (go_at_call 34; refine (HKi.out _).mono ?_; rintro e w' ⟨rfl, rfl⟩))
                        go_ret
                        first
                          | exact ⟨rfl, bx_below hbB⟩
                          | exact ⟨rfl, bx_first0⟩
                       | false =>
                        cases M0 with
                        | true =>
                         cases ma with
                         | true =>
                          go_enter Tryz.func110, Tryz.ntmps110
                          go_wp2_with (first
                            | (go_at_call 123; refine (HKn.out _).mono ?_; rintro e w' ⟨rfl, rfl⟩)
                            | (go_at_call 124; refine (HA.out).mono ?_; rintro e v1 ⟨rfl, hbB⟩; have hsB := bx_size hbB; obtain ⟨c0, c1, c2, c3, c4, c5, c6, c7, c8, c9, c10, c11, c12, c13, c14, c15⟩ := Hbox.out v1 hbB; clear HA)
                            | (go_at_call 40; refine (HDa.out _).mono ?_; rintro e w' ⟨rfl, rfl⟩)
                            | (go_at_call 34; refine (HKi.out _).mono ?_; rintro e w' ⟨rfl, rfl⟩))
                          go_ret
                          first
                            | exact ⟨rfl, bx_below hbB⟩
                            | exact ⟨rfl, bx_first0⟩
                         | false =>
                          cases O0 with
                          | true =>
                           cases Q0 with
                           | true =>
                            go_enter Tryz.func110, Tryz.ntmps110
                            go_wp2_with (first
                              | (go_at_call 123; refine (HKn.out _).mono ?_; rintro e w' ⟨rfl, rfl⟩)
                              | (go_at_call 124; refine (HA.out).mono ?_; rintro e v1 ⟨rfl, hbB⟩; have hsB := bx_size hbB; obtain ⟨c0, c1, c2, c3, c4, c5, c6, c7, c8, c9, c10, c11, c12, c13, c14, c15⟩ := Hbox.out v1 hbB; clear HA)
                              | (go_at_call 40; refine (HDa.out _).mono ?_; rintro e w' ⟨rfl, rfl⟩)
                              | (go_at_call 34; refine (HKi.out _).mono ?_; rintro e w' ⟨rfl, rfl⟩))
                            go_ret
                            first
                              | exact ⟨rfl, bx_below hbB⟩
                              | exact ⟨rfl, bx_first0⟩
                           | false =>
                            go_enter Tryz.func110, Tryz.ntmps110
                            go_wp2_with (first
                              | (go_at_call 123; refine (HKn.out _).mono ?_; rintro e w' ⟨rfl, rfl⟩)
                              | (go_at_call 124; refine (HA.out).mono ?_; rintro e v1 ⟨rfl, hbB⟩; have hsB := bx_size hbB; obtain ⟨c0, c1, c2, c3, c4, c5, c6, c7, c8, c9, c10, c11, c12, c13, c14, c15⟩ := Hbox.out v1 hbB; clear HA)
                              | (go_at_call 40; refine (HDa.out _).mono ?_; rintro e w' ⟨rfl, rfl⟩)
                              | (go_at_call 34; refine (HKi.out _).mono ?_; rintro e w' ⟨rfl, rfl⟩))
                            go_ret
                            first
                              | exact ⟨rfl, bx_below hbB⟩
                              | exact ⟨rfl, bx_first0⟩
                          | false =>
                           go_enter Tryz.func110, Tryz.ntmps110
                           go_wp2_with (first
                             | (go_at_call 123; refine (HKn.out _).mono ?_; rintro e w' ⟨rfl, rfl⟩)
                             | (go_at_call 124; refine (HA.out).mono ?_; rintro e v1 ⟨rfl, hbB⟩; have hsB := bx_size hbB; obtain ⟨c0, c1, c2, c3, c4, c5, c6, c7, c8, c9, c10, c11, c12, c13, c14, c15⟩ := Hbox.out v1 hbB; clear HA)
                             | (go_at_call 40; refine (HDa.out _).mono ?_; rintro e w' ⟨rfl, rfl⟩)
                             | (go_at_call 34; refine (HKi.out _).mono ?_; rintro e w' ⟨rfl, rfl⟩))
                           go_ret
                           first
                             | exact ⟨rfl, bx_below hbB⟩
                             | exact ⟨rfl, bx_first0⟩
                        | false =>
                         go_enter Tryz.func110, Tryz.ntmps110
                         go_wp2_with (first
                           | (go_at_call 123; refine (HKn.out _).mono ?_; rintro e w' ⟨rfl, rfl⟩)
                           | (go_at_call 124; refine (HA.out).mono ?_; rintro e v1 ⟨rfl, hbB⟩; have hsB := bx_size hbB; obtain ⟨c0, c1, c2, c3, c4, c5, c6, c7, c8, c9, c10, c11, c12, c13, c14, c15⟩ := Hbox.out v1 hbB; clear HA)
                           | (go_at_call 40; refine (HDa.out _).mono ?_; rintro e w' ⟨rfl, rfl⟩)
                           | (go_at_call 34; refine (HKi.out _).mono ?_; rintro e w' ⟨rfl, rfl⟩))
                         go_ret
                         first
                           | exact ⟨rfl, bx_below hbB⟩
                           | exact ⟨rfl, bx_first0⟩
                      | false =>
                       go_enter Tryz.func110, Tryz.ntmps110
                       go_wp2_with (first
                         | (go_at_call 123; refine (HKn.out _).mono ?_; rintro e w' ⟨rfl, rfl⟩)
                         | (go_at_call 124; refine (HA.out).mono ?_; rintro e v1 ⟨rfl, hbB⟩; have hsB := bx_size hbB; obtain ⟨c0, c1, c2, c3, c4, c5, c6, c7, c8, c9, c10, c11, c12, c13, c14, c15⟩ := Hbox.out v1 hbB; clear HA)
                         | (go_at_call 40; refine (HDa.out _).mono ?_; rintro e w' ⟨rfl, rfl⟩)
                         | (go_at_call 34; refine (HKi.out _).mono ?_; rintro e w' ⟨rfl, rfl⟩))
                       go_ret
                       first
                         | exact ⟨rfl, bx_below hbB⟩
                         | exact ⟨rfl, bx_first0⟩
                 | false =>
                  go_enter Tryz.func110, Tryz.ntmps110
                  go_wp2_with (first
                    | (go_at_call 123; refine (HKn.out _).mono ?_; rintro e w' ⟨rfl, rfl⟩)
                    | (go_at_call 124; refine (HA.out).mono ?_; rintro e v1 ⟨rfl, hbB⟩; have hsB := bx_size hbB; obtain ⟨c0, c1, c2, c3, c4, c5, c6, c7, c8, c9, c10, c11, c12, c13, c14, c15⟩ := Hbox.out v1 hbB; clear HA)
                    | (go_at_call 40; refine (HDa.out _).mono ?_; rintro e w' ⟨rfl, rfl⟩)
                    | (go_at_call 34; refine (HKi.out _).mono ?_; rintro e w' ⟨rfl, rfl⟩))
                  go_ret
                  first
                    | exact ⟨rfl, bx_below hbB⟩
                    | exact ⟨rfl, bx_first0⟩
                | false =>
                 go_enter Tryz.func110, Tryz.ntmps110
                 go_wp2_with (first
                   | (go_at_call 123; refine (HKn.out _).mono ?_; rintro e w' ⟨rfl, rfl⟩)
                   | (go_at_call 124; refine (HA.out).mono ?_; rintro e v1 ⟨rfl, hbB⟩; have hsB := bx_size hbB; obtain ⟨c0, c1, c2, c3, c4, c5, c6, c7, c8, c9, c10, c11, c12, c13, c14, c15⟩ := Hbox.out v1 hbB; clear HA)
                   | (go_at_call 40; refine (HDa.out _).mono ?_; rintro e w' ⟨rfl, rfl⟩)
                   | (go_at_call 34; refine (HKi.out _).mono ?_; rintro e w' ⟨rfl, rfl⟩))
                 go_ret
                 first
                   | exact ⟨rfl, bx_below hbB⟩
                   | exact ⟨rfl, bx_first0⟩
           · rw [none_no hP0]
             go_enter Tryz.func110, Tryz.ntmps110
             go_wp2_with (first
               | (go_at_call 123; refine (HKn.out _).mono ?_; rintro e w' ⟨rfl, rfl⟩)
               | (go_at_call 124; refine (HA.out).mono ?_; rintro e v1 ⟨rfl, hbB⟩; have hsB := bx_size hbB; obtain ⟨c0, c1, c2, c3, c4, c5, c6, c7, c8, c9, c10, c11, c12, c13, c14, c15⟩ := Hbox.out v1 hbB; clear HA)
               | (go_at_call 40; refine (HDa.out _).mono ?_; rintro e w' ⟨rfl, rfl⟩)
               | (go_at_call 34; refine (HKi.out _).mono ?_; rintro e w' ⟨rfl, rfl⟩))
             go_ret
             first
               | exact ⟨rfl, bx_below hbB⟩
               | exact ⟨rfl, bx_first0⟩
         · rw [none_no hS0]
           go_enter Tryz.func110, Tryz.ntmps110
           go_wp2_with (first
             | (go_at_call 123; refine (HKn.out _).mono ?_; rintro e w' ⟨rfl, rfl⟩)
             | (go_at_call 124; refine (HA.out).mono ?_; rintro e v1 ⟨rfl, hbB⟩; have hsB := bx_size hbB; obtain ⟨c0, c1, c2, c3, c4, c5, c6, c7, c8, c9, c10, c11, c12, c13, c14, c15⟩ := Hbox.out v1 hbB; clear HA)
             | (go_at_call 40; refine (HDa.out _).mono ?_; rintro e w' ⟨rfl, rfl⟩)
             | (go_at_call 34; refine (HKi.out _).mono ?_; rintro e w' ⟨rfl, rfl⟩))
           go_ret
           first
             | exact ⟨rfl, bx_below hbB⟩
             | exact ⟨rfl, bx_first0⟩
        | false =>
         go_enter Tryz.func110, Tryz.ntmps110
         go_wp2_with (first
           | (go_at_call 123; refine (HKn.out _).mono ?_; rintro e w' ⟨rfl, rfl⟩)
           | (go_at_call 124; refine (HA.out).mono ?_; rintro e v1 ⟨rfl, hbB⟩; have hsB := bx_size hbB; obtain ⟨c0, c1, c2, c3, c4, c5, c6, c7, c8, c9, c10, c11, c12, c13, c14, c15⟩ := Hbox.out v1 hbB; clear HA)
           | (go_at_call 40; refine (HDa.out _).mono ?_; rintro e w' ⟨rfl, rfl⟩)
           | (go_at_call 34; refine (HKi.out _).mono ?_; rintro e w' ⟨rfl, rfl⟩))
         go_ret
         first
           | exact ⟨rfl, bx_below hbB⟩
           | exact ⟨rfl, bx_first0⟩
end Go.Proofs.YtilacgcjbdkphaaGreat
