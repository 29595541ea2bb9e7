/- The reference of abort: Same, where both are the same. -/
import Derived.Test.YtlibjjmaicgemaaAbH
import Derived.Deep.DeepCutAuto
import Derived.Deep.CutRange
namespace Go.Proofs.Ytlibjjmaicgemaa
open Go.RowKit Go.Lib Go.Shelf

set_option maxRecDepth 100000 in
set_option maxHeartbeats 4000000 in
theorem sameS_eq (v1 v2 : Value) (l : List SigD) (w : World) (h1 : RdS w v1 l) (h2 : RdS w v2 l) (hl : l.length ≤ 1099511627776) (hs : ∀ x ∈ l, x.src.length ≤ 1099511627776 ∧ x.dts.length ≤ 1099511627776) :
    Calls Try.prog 13 #[v1, v2] w fun e w' => e = .returned (.bool true) ∧ Below w.heap.size w w' := by
  have HB := hid (Below.refl w.heap.size w)
  obtain ⟨o1, c1, rfl, hc1, g1⟩ := h1
  obtain ⟨o2, c2, rfl, hc2, g2⟩ := h2
  have G1 := hid g1
  have G2 := hid g2
  have HS := hid hs
  clear g1 g2 hs
  go_enter Try.func13, Try.ntmps13
  go_wp2
  go_loopw [15] (fun t wr => ∃ k : Nat, k ≤ l.length ∧ t = .int .i64 k ∧ Hid (Below w.heap.size w wr)) (fun t _ => l.length - (RowKit.intOf t).toNat)
  case atStart => exact ⟨0, Nat.zero_le _, rfl, HB⟩
  case round =>
    obtain ⟨k, k1, rfl, HBr⟩ := hrel
    by_cases hlt : k < l.length
    · obtain ⟨b1', off1, rfl, hlt1, ha1⟩ := G1.out (by omega)
      obtain ⟨b2', off2, rfl, hlt2, ha2⟩ := G2.out (by omega)
      obtain ⟨sv1, dv1, X, rs1, rd1⟩ := ha1 k hlt
      obtain ⟨sv2, dv2, Y, rs2, rd2⟩ := ha2 k hlt
      obtain ⟨os1, cs1, rfl, _⟩ := id rs1
      obtain ⟨os2, cs2, rfl, _⟩ := id rs2
      obtain ⟨od1, cd1, rfl, _⟩ := id rd1
      obtain ⟨od2, cd2, rfl, _⟩ := id rd2
      have X' := X.later hlt1 HBr.out
      have Y' := Y.later hlt2 HBr.out
      have x0 := X'.ab
      have x1 := X'.re
      have x2 := X'.dep
      have x3 := X'.src
      have x4 := X'.dts
      have y0 := Y'.ab
      have y1 := Y'.re
      have y2 := Y'.dep
      have y3 := Y'.src
      have y4 := Y'.dts
      have RS1 := hid (rs1.later HBr.out)
      have RS2 := hid (rs2.later HBr.out)
      have RD1 := hid (rd1.later HBr.out)
      have RD2 := hid (rd2.later HBr.out)
      have hlen := HS.out l[k] (List.getElem_mem hlt)
      have q1 : (0 : Int) ≤ (k : Int) := by omega
      have q2 : (k : Int) < (l.length : Int) := by omega
      have hz1 : b1' < wr.heap.size := Nat.lt_of_lt_of_le hlt1 HBr.out.size
      have hz2 : b2' < wr.heap.size := Nat.lt_of_lt_of_le hlt2 HBr.out.size
      clear ha1 ha2 G1 G2 X Y X' Y' rs1 rs2 rd1 rd2 HS
      generalize l[k] = a at *
      obtain ⟨ab, re, dep, src, dts⟩ := a
      dsimp only at *
      go_upto_region 6 with fail
      go_region
      · have N := two_new wr (.cells #[.bool ab, .int .i64 re, .bool dep, .slice os1 src.length cs1, .slice od1 dts.length cd1] 42) (.cells #[.bool ab, .int .i64 re, .bool dep, .slice os2 src.length cs2, .slice od2 dts.length cd2] 42)
        have NB : Below wr.heap.size wr ((wr.alloc (.cells #[.bool ab, .int .i64 re, .bool dep, .slice os1 src.length cs1, .slice od1 dts.length cd1] 42)).alloc (.cells #[.bool ab, .int .i64 re, .bool dep, .slice os2 src.length cs2, .slice od2 dts.length cd2] 42)).drew := N.1.drew
        have ND : Below ((wr.alloc (.cells #[.bool ab, .int .i64 re, .bool dep, .slice os1 src.length cs1, .slice od1 dts.length cd1] 42)).alloc (.cells #[.bool ab, .int .i64 re, .bool dep, .slice os2 src.length cs2, .slice od2 dts.length cd2] 42)).heap.size ((wr.alloc (.cells #[.bool ab, .int .i64 re, .bool dep, .slice os1 src.length cs1, .slice od1 dts.length cd1] 42)).alloc (.cells #[.bool ab, .int .i64 re, .bool dep, .slice os2 src.length cs2, .slice od2 dts.length cd2] 42)) ((wr.alloc (.cells #[.bool ab, .int .i64 re, .bool dep, .slice os1 src.length cs1, .slice od1 dts.length cd1] 42)).alloc (.cells #[.bool ab, .int .i64 re, .bool dep, .slice os2 src.length cs2, .slice od2 dts.length cd2] 42)).drew := (Below.refl _ _).drew
        have S1 := (sig_cells (x := ⟨ab, re, dep, src, dts⟩) N.2.1).later (Array.getElem?_eq_some_iff.1 N.2.1).1 ND
        have S2 := (sig_cells (x := ⟨ab, re, dep, src, dts⟩) N.2.2.1).later (Array.getElem?_eq_some_iff.1 N.2.2.1).1 ND
        have L0 : wr.heap.size < ((wr.alloc (.cells #[.bool ab, .int .i64 re, .bool dep, .slice os1 src.length cs1, .slice od1 dts.length cd1] 42)).alloc (.cells #[.bool ab, .int .i64 re, .bool dep, .slice os2 src.length cs2, .slice od2 dts.length cd2] 42)).drew.heap.size := Nat.lt_of_lt_of_le (Array.getElem?_eq_some_iff.1 N.2.1).1 ND.size
        have L1 : wr.heap.size + 1 < ((wr.alloc (.cells #[.bool ab, .int .i64 re, .bool dep, .slice os1 src.length cs1, .slice od1 dts.length cd1] 42)).alloc (.cells #[.bool ab, .int .i64 re, .bool dep, .slice os2 src.length cs2, .slice od2 dts.length cd2] 42)).drew.heap.size := Nat.lt_of_lt_of_le (Array.getElem?_eq_some_iff.1 N.2.2.1).1 ND.size
        clear N ND
        generalize ((wr.alloc (.cells #[.bool ab, .int .i64 re, .bool dep, .slice os1 src.length cs1, .slice od1 dts.length cd1] 42)).alloc (.cells #[.bool ab, .int .i64 re, .bool dep, .slice os2 src.length cs2, .slice od2 dts.length cd2] 42)).drew = W at *
        have a0 := S1.ab
        have a1 := S1.re
        have a2 := S1.dep
        have a3 := S1.src
        have a4 := S1.dts
        have b0 := S2.ab
        have b1 := S2.re
        have b2 := S2.dep
        have b3 := S2.src
        have b4 := S2.dts
        have T1 := hid S1
        have T2 := hid S2
        have HNB := hid NB
        have HL0 := hid L0
        have HL1 := hid L1
        have es : (src == src) = true := by simp
        have ed : (dts == dts) = true := by simp
        clear S1 S2 NB x0 x1 x2 x3 x4 y0 y1 y2 y3 y4
        dsimp only at *
        go_upto_region 7 with fail
        go_wp2_with (first
          | (go_at_call 20; refine (ints3_any _ _ dts dts w6 ((RD1.out.later HNB.out).later hb6.out) ((RD2.out.later HNB.out).later hb6.out) hlen.2).mono ?_; rintro e w7 ⟨rfl, h7⟩; have hb7 := hid h7; rw [ed])
          | (go_at_call 20; refine (ints3_any _ _ src src W (RS1.out.later HNB.out) (RS2.out.later HNB.out) hlen.1).mono ?_; rintro e w6 ⟨rfl, h6⟩; have hb6 := hid h6; rw [es]; have c4 := (T1.out.later (by first | exact HL0.out | exact HL1.out) h6).dts; have d4 := (T2.out.later (by first | exact HL0.out | exact HL1.out) h6).dts; (try dsimp only at c4 d4); clear h6))
        go_roundw
        case rel => exact ⟨k + 1, by omega, by go_num, hid (HBr.out.trans ((HNB.out.trans ((hb6.out.trans (hb7.out.mono hb6.out.size)).mono HNB.out.size)).mono HBr.out.size))⟩
        case measure => simp [RowKit.intOf]; omega
      · have N := two_new wr (.cells #[.bool ab, .int .i64 re, .bool dep, .slice os2 src.length cs2, .slice od2 dts.length cd2] 42) (.cells #[.bool ab, .int .i64 re, .bool dep, .slice os1 src.length cs1, .slice od1 dts.length cd1] 42)
        have NB : Below wr.heap.size wr ((wr.alloc (.cells #[.bool ab, .int .i64 re, .bool dep, .slice os2 src.length cs2, .slice od2 dts.length cd2] 42)).alloc (.cells #[.bool ab, .int .i64 re, .bool dep, .slice os1 src.length cs1, .slice od1 dts.length cd1] 42)).drew := N.1.drew
        have ND : Below ((wr.alloc (.cells #[.bool ab, .int .i64 re, .bool dep, .slice os2 src.length cs2, .slice od2 dts.length cd2] 42)).alloc (.cells #[.bool ab, .int .i64 re, .bool dep, .slice os1 src.length cs1, .slice od1 dts.length cd1] 42)).heap.size ((wr.alloc (.cells #[.bool ab, .int .i64 re, .bool dep, .slice os2 src.length cs2, .slice od2 dts.length cd2] 42)).alloc (.cells #[.bool ab, .int .i64 re, .bool dep, .slice os1 src.length cs1, .slice od1 dts.length cd1] 42)) ((wr.alloc (.cells #[.bool ab, .int .i64 re, .bool dep, .slice os2 src.length cs2, .slice od2 dts.length cd2] 42)).alloc (.cells #[.bool ab, .int .i64 re, .bool dep, .slice os1 src.length cs1, .slice od1 dts.length cd1] 42)).drew := (Below.refl _ _).drew
        have S2 := (sig_cells (x := ⟨ab, re, dep, src, dts⟩) N.2.1).later (Array.getElem?_eq_some_iff.1 N.2.1).1 ND
        have S1 := (sig_cells (x := ⟨ab, re, dep, src, dts⟩) N.2.2.1).later (Array.getElem?_eq_some_iff.1 N.2.2.1).1 ND
        have L0 : wr.heap.size < ((wr.alloc (.cells #[.bool ab, .int .i64 re, .bool dep, .slice os2 src.length cs2, .slice od2 dts.length cd2] 42)).alloc (.cells #[.bool ab, .int .i64 re, .bool dep, .slice os1 src.length cs1, .slice od1 dts.length cd1] 42)).drew.heap.size := Nat.lt_of_lt_of_le (Array.getElem?_eq_some_iff.1 N.2.1).1 ND.size
        have L1 : wr.heap.size + 1 < ((wr.alloc (.cells #[.bool ab, .int .i64 re, .bool dep, .slice os2 src.length cs2, .slice od2 dts.length cd2] 42)).alloc (.cells #[.bool ab, .int .i64 re, .bool dep, .slice os1 src.length cs1, .slice od1 dts.length cd1] 42)).drew.heap.size := Nat.lt_of_lt_of_le (Array.getElem?_eq_some_iff.1 N.2.2.1).1 ND.size
        clear N ND
        generalize ((wr.alloc (.cells #[.bool ab, .int .i64 re, .bool dep, .slice os2 src.length cs2, .slice od2 dts.length cd2] 42)).alloc (.cells #[.bool ab, .int .i64 re, .bool dep, .slice os1 src.length cs1, .slice od1 dts.length cd1] 42)).drew = W at *
        have a0 := S1.ab
        have a1 := S1.re
        have a2 := S1.dep
        have a3 := S1.src
        have a4 := S1.dts
        have b0 := S2.ab
        have b1 := S2.re
        have b2 := S2.dep
        have b3 := S2.src
        have b4 := S2.dts
        have T1 := hid S1
        have T2 := hid S2
        have HNB := hid NB
        have HL0 := hid L0
        have HL1 := hid L1
        have es : (src == src) = true := by simp
        have ed : (dts == dts) = true := by simp
        clear S1 S2 NB x0 x1 x2 x3 x4 y0 y1 y2 y3 y4
        dsimp only at *
        go_upto_region 7 with fail
        go_wp2_with (first
          | (go_at_call 20; refine (ints3_any _ _ dts dts w6 ((RD1.out.later HNB.out).later hb6.out) ((RD2.out.later HNB.out).later hb6.out) hlen.2).mono ?_; rintro e w7 ⟨rfl, h7⟩; have hb7 := hid h7; rw [ed])
          | (go_at_call 20; refine (ints3_any _ _ src src W (RS1.out.later HNB.out) (RS2.out.later HNB.out) hlen.1).mono ?_; rintro e w6 ⟨rfl, h6⟩; have hb6 := hid h6; rw [es]; have c4 := (T1.out.later (by first | exact HL0.out | exact HL1.out) h6).dts; have d4 := (T2.out.later (by first | exact HL0.out | exact HL1.out) h6).dts; (try dsimp only at c4 d4); clear h6))
        go_roundw
        case rel => exact ⟨k + 1, by omega, by go_num, hid (HBr.out.trans ((HNB.out.trans ((hb6.out.trans (hb7.out.mono hb6.out.size)).mono HNB.out.size)).mono HBr.out.size))⟩
        case measure => simp [RowKit.intOf]; omega
    · clear G1 G2
      go_wp2
      go_ret
      exact ⟨rfl, HBr.out⟩
end Go.Proofs.Ytlibjjmaicgemaa
