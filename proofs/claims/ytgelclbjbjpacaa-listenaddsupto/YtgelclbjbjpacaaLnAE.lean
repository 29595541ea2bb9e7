/- The reference of listen: Abort. -/
import Derived.Test.YtgelclbjbjpacaaLnAD
namespace Go.Proofs.Ytgelclbjbjpacaa
open Go.RowKit Go.Lib Go.Shelf

set_option maxRecDepth 100000 in
set_option maxHeartbeats 4000000 in
theorem refAbort_ok (v : Value) (ls : List LstD) (next n : Int) (w : World) (hr : RdL w v ls) (hl : ls.length ≤ 1099511627775) (hc : checkD ls next = true) :
    Calls Try.prog 19 #[.agg #[v, .int .i64 next], .int .i64 n] w fun e w' => ∃ o c, e = .returned (.tuple #[.agg #[.slice o (ls.filter (fun z => !(n != 0 && z.sig == n))).length c, .int .i64 (idD next)], .int .i64 0]) ∧ w'.ownsRow w.heap.size 27 8 (.slice o (ls.filter (fun z => !(n != 0 && z.sig == n))).length c) (ls.filter (fun z => !(n != 0 && z.sig == n))).length (rowL (ls.filter (fun z => !(n != 0 && z.sig == n)))) ∧ Below w.heap.size w w' := by
  have h2n := two_new w (.cells #[v, .int .i64 next] 24) (.cells #[.slice none 0 0, .int .i64 0] 24)
  have hC := refCheck_any v ls next _ (hr.later h2n.1) (by omega)
  rw [hc] at hC
  replace hC : Calls _ _ _ _ fun e w' => e = .returned (.int .i64 0) ∧ _ := hC
  have HBn := hid h2n.1
  have HLb := hid h2n.2.1
  have HRb := hid h2n.2.2.1
  obtain ⟨l0, l1, lf0, lf1⟩ := box_cells h2n.2.1
  obtain ⟨D, hD⟩ : ∃ D, ls.filter (fun z => !(n != 0 && z.sig == n)) = D := ⟨_, rfl⟩
  rw [hD]
  have HD := hid hD
  obtain ⟨o, cap, rfl, hcap, g⟩ := hr
  have G := hid g
  clear h2n hc g hD
  unfold idD
  by_cases hnx : next < 1
  · rw [if_pos hnx]
    go_enter Try.func19, Try.ntmps19
    go_upto_region 3 with (go_at_call 13; refine hC.mono ?_; rintro e w4 ⟨rfl, hb⟩; have HB4 := hid (HBn.out.trans (hb.mono HBn.out.size)); have HR4 := hid (blkLater hb HRb.out); have HL4 := hid (blkLater hb HLb.out); obtain ⟨t0, t1, t2, t3⟩ := box_cells HL4.out; clear hb)
    have hba : Below w4.heap.size w4 (w4.alloc (.cells #[.slice none 0 0, .int .i64 1] 24)) := (Below.refl _ w4).alloc (Nat.le_refl _) _
    have HK0 : Hid (KeptAt w w4.heap.size 1 ((ls.take 0).filter (fun z => !(n != 0 && z.sig == n))) none 0 _) := ⟨HB4.out.size, HB4.out.trans (hba.mono HB4.out.size), heap_new w4 _, own_nil _ _ _⟩
    have HR0 := hid (blkLater hba HR4.out)
    have hsR : w.heap.size + 1 < w4.heap.size := (Array.getElem?_eq_some_iff.1 HR4.out).1
    obtain ⟨ta0, ta1, ta2, ta3⟩ := box_cells (blkLater hba HL4.out)
    clear hba HR4 HL4 HB4 hC HBn HLb HRb
    go_wp2
    generalize w4.heap.size = LB at *
    go_loopw [20] (fun t wr => ∃ (k : Nat) (o2 : Option Addr) (c2 : Nat), k ≤ ls.length ∧ t = .int .i64 k ∧ Hid (KeptAt w LB 1 ((ls.take k).filter (fun z => !(n != 0 && z.sig == n))) o2 c2 wr) ∧ Hid (wr.heap[w.heap.size + 1]? = some (.cells #[.slice none 0 0, .int .i64 0] 24))) (fun t _ => ls.length - (RowKit.intOf t).toNat)
    case atStart => exact ⟨0, none, 0, Nat.zero_le _, rfl, HK0, HR0⟩
    case round =>
      obtain ⟨k, o2, c2, hk, rfl, hK, hR⟩ := hrel
      clear HK0 HR0
      by_cases hlt : k < ls.length
      · obtain ⟨b, off, rfl, hlt1, ha⟩ := G.out (by omega)
        obtain ⟨x0, x1, x2, x3, x4, x5, x6, x7⟩ := (ha k hlt).later hlt1 hK.out.below
        have q1 : (0 : Int) ≤ (k : Int) := by omega
        have q2 : (k : Int) < (ls.length : Int) := by omega
        have Hfs := hid (filter_step (fun z => !(n != 0 && z.sig == n)) ls k hlt)
        have hfl : ((ls.take k).filter (fun z => !(n != 0 && z.sig == n))).length + 1 ≤ 1099511627776 := by
          have := List.length_filter_le (fun z => !(n != 0 && z.sig == n)) (ls.take k)
          rw [List.length_take] at this
          omega
        clear ha G
        generalize ls[k] = x at *
        have hb1 : Below wr.heap.size wr (wr.alloc (lstO x)) := (Below.refl _ wr).alloc (Nat.le_refl _) _
        have hK1 := hK.out.later hb1
        have hR1 := blkLater hb1 hR.out
        obtain ⟨y0, y1, y2, y3, y4, y5, y6, y7⟩ := lst_cells (heap_new wr (lstO x))
        have HK1 := hid hK1
        have HR1 := hid hR1
        have HPu : Hid (∀ V : World, KeptAt w LB 1 ((ls.take k).filter (fun z => !(n != 0 && z.sig == n))) o2 c2 V → _) := fun V hV => hV.push x hfl
        clear hK hR hK1 hR1 hb1
        have hcs : ((n == 0) = false ∧ (x.sig == n) = true) ∨ ((n == 0) = true) ∨ ((n == 0) = false ∧ (x.sig == n) = false) := by
          cases h1 : (n == 0) <;> cases h2 : (x.sig == n) <;> simp
        rcases hcs with ⟨n0, sx⟩ | n0 | ⟨n0, sx⟩
        · have n0' : (n != 0) = true := by rw [bne, n0]; rfl
          have sx' : (x.sig != n) = false := by rw [bne, sx]; rfl
          have hp : (!(n != 0 && x.sig == n)) = false := by rw [n0', sx]; rfl
          rw [if_neg (by show ¬ (!(n != 0 && x.sig == n)) = true; rw [hp]; exact Bool.false_ne_true), List.append_nil] at Hfs
          clear hp
          clear HPu hfl n0'
          unfold lstO at *
          go_wp2
          go_roundw
          case rel => exact ⟨k + 1, o2, c2, by omega, by go_num, by rw [Hfs.out]; exact HK1, HR1⟩
          case measure => simp [RowKit.intOf]; omega
        · have n0' : (n != 0) = false := by rw [bne, n0]; rfl
          rw [if_pos (by show (!(n != 0 && x.sig == n)) = true; rw [n0']; rfl)] at Hfs
          clear n0'
          generalize (ls.take k).filter (fun z => !(n != 0 && z.sig == n)) = D1 at *
          obtain ⟨s0, s1, s2, s3⟩ := box_cells HK1.out.box
          obtain ⟨o3, c3, V2, hap, hbx, hbl, hk3, hot⟩ := HPu.out _ HK1.out
          rw [World.size_alloc] at hap
          have HR3 := hid (hot _ _ HR1.out (by omega))
          have HAp := hid hap
          have HBx := hid hbx
          have HK3 := hid hk3
          clear hap hbx hbl hk3 hot HPu
          unfold lstO at *
          go_wp2_with (at_builtin; refine wpList_append_run _ rfl _ _ 22 22 rfl _ _ rfl rfl _ _ HAp.out ?_; obtain ⟨u0, u1, u2, u3⟩ := box_cells HBx.out)
          go_roundw
          case rel => exact ⟨k + 1, o3, c3, by omega, by go_num, by rw [Hfs.out]; exact HK3, HR3⟩
          case measure => simp [RowKit.intOf]; omega
        · have n0' : (n != 0) = true := by rw [bne, n0]; rfl
          have sx' : (x.sig != n) = true := by rw [bne, sx]; rfl
          rw [if_pos (by show (!(n != 0 && x.sig == n)) = true; rw [n0', sx]; rfl)] at Hfs
          clear n0'
          generalize (ls.take k).filter (fun z => !(n != 0 && z.sig == n)) = D1 at *
          obtain ⟨s0, s1, s2, s3⟩ := box_cells HK1.out.box
          obtain ⟨o3, c3, V2, hap, hbx, hbl, hk3, hot⟩ := HPu.out _ HK1.out
          rw [World.size_alloc] at hap
          have HR3 := hid (hot _ _ HR1.out (by omega))
          have HAp := hid hap
          have HBx := hid hbx
          have HK3 := hid hk3
          clear hap hbx hbl hk3 hot HPu
          unfold lstO at *
          go_wp2_with (at_builtin; refine wpList_append_run _ rfl _ _ 22 22 rfl _ _ rfl rfl _ _ HAp.out ?_; obtain ⟨u0, u1, u2, u3⟩ := box_cells HBx.out)
          go_roundw
          case rel => exact ⟨k + 1, o3, c3, by omega, by go_num, by rw [Hfs.out]; exact HK3, HR3⟩
          case measure => simp [RowKit.intOf]; omega
      · have hfk : ls.take k = ls := List.take_of_length_le (by omega)
        rw [hfk, HD.out] at hK
        obtain ⟨s0, s1, s2, s3⟩ := box_cells hK.out.box
        obtain ⟨u0, u1, u2, u3⟩ := box_cells hR.out
        clear G hfk
        have HKb := hid hK.out.below
        have HKr := hid hK.out.row
        have HRr := hid hR.out
        have hsw : ¬ LB = w.heap.size + 1 := by omega
        clear hK hR
        go_wp2
        have e0 := set_box (k := 0) (v := .slice o2 D.length c2) HRr.out
        have e1 := set_box (k := 1) (v := .int .i64 1) e0
        obtain ⟨r0, r1, r2, r3⟩ := box_cells e1
        exact bodyPost_ret (v := .tuple #[.agg #[.slice o2 D.length c2, .int .i64 1], .int .i64 0]) (by simp [results, Try.results19, go_sem, r0, r1]) rfl ⟨o2, c2, rfl, own_set (own_set HKr.out HRr.out (by decide) _) e0 (by decide) _, (HKb.out.setCell (p := ⟨w.heap.size + 1, 0, none⟩) (by show _ ≤ w.heap.size + 1; omega) _).setCell (p := ⟨w.heap.size + 1, 1, none⟩) (by show _ ≤ w.heap.size + 1; omega) _⟩
  · rw [if_neg hnx]
    go_enter Try.func19, Try.ntmps19
    go_upto_region 3 with (go_at_call 13; refine hC.mono ?_; rintro e w4 ⟨rfl, hb⟩; have HB4 := hid (HBn.out.trans (hb.mono HBn.out.size)); have HR4 := hid (blkLater hb HRb.out); have HL4 := hid (blkLater hb HLb.out); obtain ⟨t0, t1, t2, t3⟩ := box_cells HL4.out; clear hb)
    have hba : Below w4.heap.size w4 (w4.alloc (.cells #[.slice none 0 0, .int .i64 next] 24)) := (Below.refl _ w4).alloc (Nat.le_refl _) _
    have HK0 : Hid (KeptAt w w4.heap.size next ((ls.take 0).filter (fun z => !(n != 0 && z.sig == n))) none 0 _) := ⟨HB4.out.size, HB4.out.trans (hba.mono HB4.out.size), heap_new w4 _, own_nil _ _ _⟩
    have HR0 := hid (blkLater hba HR4.out)
    have hsR : w.heap.size + 1 < w4.heap.size := (Array.getElem?_eq_some_iff.1 HR4.out).1
    obtain ⟨ta0, ta1, ta2, ta3⟩ := box_cells (blkLater hba HL4.out)
    clear hba HR4 HL4 HB4 hC HBn HLb HRb
    go_wp2
    generalize w4.heap.size = LB at *
    go_loopw [20] (fun t wr => ∃ (k : Nat) (o2 : Option Addr) (c2 : Nat), k ≤ ls.length ∧ t = .int .i64 k ∧ Hid (KeptAt w LB next ((ls.take k).filter (fun z => !(n != 0 && z.sig == n))) o2 c2 wr) ∧ Hid (wr.heap[w.heap.size + 1]? = some (.cells #[.slice none 0 0, .int .i64 0] 24))) (fun t _ => ls.length - (RowKit.intOf t).toNat)
    case atStart => exact ⟨0, none, 0, Nat.zero_le _, rfl, HK0, HR0⟩
    case round =>
      obtain ⟨k, o2, c2, hk, rfl, hK, hR⟩ := hrel
      clear HK0 HR0
      by_cases hlt : k < ls.length
      · obtain ⟨b, off, rfl, hlt1, ha⟩ := G.out (by omega)
        obtain ⟨x0, x1, x2, x3, x4, x5, x6, x7⟩ := (ha k hlt).later hlt1 hK.out.below
        have q1 : (0 : Int) ≤ (k : Int) := by omega
        have q2 : (k : Int) < (ls.length : Int) := by omega
        have Hfs := hid (filter_step (fun z => !(n != 0 && z.sig == n)) ls k hlt)
        have hfl : ((ls.take k).filter (fun z => !(n != 0 && z.sig == n))).length + 1 ≤ 1099511627776 := by
          have := List.length_filter_le (fun z => !(n != 0 && z.sig == n)) (ls.take k)
          rw [List.length_take] at this
          omega
        clear ha G
        generalize ls[k] = x at *
        have hb1 : Below wr.heap.size wr (wr.alloc (lstO x)) := (Below.refl _ wr).alloc (Nat.le_refl _) _
        have hK1 := hK.out.later hb1
        have hR1 := blkLater hb1 hR.out
        obtain ⟨y0, y1, y2, y3, y4, y5, y6, y7⟩ := lst_cells (heap_new wr (lstO x))
        have HK1 := hid hK1
        have HR1 := hid hR1
        have HPu : Hid (∀ V : World, KeptAt w LB next ((ls.take k).filter (fun z => !(n != 0 && z.sig == n))) o2 c2 V → _) := fun V hV => hV.push x hfl
        clear hK hR hK1 hR1 hb1
        have hcs : ((n == 0) = false ∧ (x.sig == n) = true) ∨ ((n == 0) = true) ∨ ((n == 0) = false ∧ (x.sig == n) = false) := by
          cases h1 : (n == 0) <;> cases h2 : (x.sig == n) <;> simp
        rcases hcs with ⟨n0, sx⟩ | n0 | ⟨n0, sx⟩
        · have n0' : (n != 0) = true := by rw [bne, n0]; rfl
          have sx' : (x.sig != n) = false := by rw [bne, sx]; rfl
          have hp : (!(n != 0 && x.sig == n)) = false := by rw [n0', sx]; rfl
          rw [if_neg (by show ¬ (!(n != 0 && x.sig == n)) = true; rw [hp]; exact Bool.false_ne_true), List.append_nil] at Hfs
          clear hp
          clear HPu hfl n0'
          unfold lstO at *
          go_wp2
          go_roundw
          case rel => exact ⟨k + 1, o2, c2, by omega, by go_num, by rw [Hfs.out]; exact HK1, HR1⟩
          case measure => simp [RowKit.intOf]; omega
        · have n0' : (n != 0) = false := by rw [bne, n0]; rfl
          rw [if_pos (by show (!(n != 0 && x.sig == n)) = true; rw [n0']; rfl)] at Hfs
          clear n0'
          generalize (ls.take k).filter (fun z => !(n != 0 && z.sig == n)) = D1 at *
          obtain ⟨s0, s1, s2, s3⟩ := box_cells HK1.out.box
          obtain ⟨o3, c3, V2, hap, hbx, hbl, hk3, hot⟩ := HPu.out _ HK1.out
          rw [World.size_alloc] at hap
          have HR3 := hid (hot _ _ HR1.out (by omega))
          have HAp := hid hap
          have HBx := hid hbx
          have HK3 := hid hk3
          clear hap hbx hbl hk3 hot HPu
          unfold lstO at *
          go_wp2_with (at_builtin; refine wpList_append_run _ rfl _ _ 22 22 rfl _ _ rfl rfl _ _ HAp.out ?_; obtain ⟨u0, u1, u2, u3⟩ := box_cells HBx.out)
          go_roundw
          case rel => exact ⟨k + 1, o3, c3, by omega, by go_num, by rw [Hfs.out]; exact HK3, HR3⟩
          case measure => simp [RowKit.intOf]; omega
        · have n0' : (n != 0) = true := by rw [bne, n0]; rfl
          have sx' : (x.sig != n) = true := by rw [bne, sx]; rfl
          rw [if_pos (by show (!(n != 0 && x.sig == n)) = true; rw [n0', sx]; rfl)] at Hfs
          clear n0'
          generalize (ls.take k).filter (fun z => !(n != 0 && z.sig == n)) = D1 at *
          obtain ⟨s0, s1, s2, s3⟩ := box_cells HK1.out.box
          obtain ⟨o3, c3, V2, hap, hbx, hbl, hk3, hot⟩ := HPu.out _ HK1.out
          rw [World.size_alloc] at hap
          have HR3 := hid (hot _ _ HR1.out (by omega))
          have HAp := hid hap
          have HBx := hid hbx
          have HK3 := hid hk3
          clear hap hbx hbl hk3 hot HPu
          unfold lstO at *
          go_wp2_with (at_builtin; refine wpList_append_run _ rfl _ _ 22 22 rfl _ _ rfl rfl _ _ HAp.out ?_; obtain ⟨u0, u1, u2, u3⟩ := box_cells HBx.out)
          go_roundw
          case rel => exact ⟨k + 1, o3, c3, by omega, by go_num, by rw [Hfs.out]; exact HK3, HR3⟩
          case measure => simp [RowKit.intOf]; omega
      · have hfk : ls.take k = ls := List.take_of_length_le (by omega)
        rw [hfk, HD.out] at hK
        obtain ⟨s0, s1, s2, s3⟩ := box_cells hK.out.box
        obtain ⟨u0, u1, u2, u3⟩ := box_cells hR.out
        clear G hfk
        have HKb := hid hK.out.below
        have HKr := hid hK.out.row
        have HRr := hid hR.out
        have hsw : ¬ LB = w.heap.size + 1 := by omega
        clear hK hR
        go_wp2
        have e0 := set_box (k := 0) (v := .slice o2 D.length c2) HRr.out
        have e1 := set_box (k := 1) (v := .int .i64 next) e0
        obtain ⟨r0, r1, r2, r3⟩ := box_cells e1
        exact bodyPost_ret (v := .tuple #[.agg #[.slice o2 D.length c2, .int .i64 next], .int .i64 0]) (by simp [results, Try.results19, go_sem, r0, r1]) rfl ⟨o2, c2, rfl, own_set (own_set HKr.out HRr.out (by decide) _) e0 (by decide) _, (HKb.out.setCell (p := ⟨w.heap.size + 1, 0, none⟩) (by show _ ≤ w.heap.size + 1; omega) _).setCell (p := ⟨w.heap.size + 1, 1, none⟩) (by show _ ≤ w.heap.size + 1; omega) _⟩
end Go.Proofs.Ytgelclbjbjpacaa
