/- The reference of listen: without. -/
import Derived.Test.YtgelclbjbjpacaaLnH
import Derived.Test.YtgelclbjbjpacaaLnQ
namespace Go.Proofs.Ytgelclbjbjpacaa
open Go.RowKit Go.Lib Go.Shelf

set_option maxRecDepth 100000 in
set_option maxHeartbeats 4000000 in
theorem without_any (v : Value) (ls : List LstD) (next id : Int) (w : World) (hr : RdL w v ls) (hl : ls.length ≤ 1099511627775) :
    Calls Try.prog 39 #[.agg #[v, .int .i64 next], .int .i64 id] w fun e w' => ∃ o c, e = .returned (.agg #[.slice o (ls.filter (fun z => !(z.id == id))).length c, .int .i64 (idD next)]) ∧ w'.ownsRow w.heap.size 27 8 (.slice o (ls.filter (fun z => !(z.id == id))).length c) (ls.filter (fun z => !(z.id == id))).length (rowL (ls.filter (fun z => !(z.id == id)))) ∧ Below w.heap.size w w' := by
  obtain ⟨NX, hNX⟩ : ∃ NX, idD next = NX := ⟨_, rfl⟩
  rw [hNX]
  unfold idD at hNX
  obtain ⟨D, hD⟩ : ∃ D, ls.filter (fun z => !(z.id == id)) = D := ⟨_, rfl⟩
  rw [hD]
  have HD := hid hD
  clear hD
  obtain ⟨o, cap, rfl, hcap, g⟩ := hr
  have G := hid g
  clear g
  have e3 : Below w.heap.size w (((w.alloc (.cells #[.slice o ls.length cap, .int .i64 next] 24)).alloc (.cells #[.slice none 0 0, .int .i64 0] 24)).alloc (.cells #[.slice none 0 0, .int .i64 NX] 24)) := (((Below.refl _ w).alloc (Nat.le_refl _) _).alloc (by simp) _).alloc (by simp; omega) _
  have hA := heap_new w (.cells #[.slice o ls.length cap, .int .i64 next] 24)
  have hA2 := blkLater ((Below.refl _ (w.alloc (.cells #[.slice o ls.length cap, .int .i64 next] 24))).alloc (Nat.le_refl _) (.cells #[.slice none 0 0, .int .i64 0] 24)) hA
  have h2n := two_new (w.alloc (.cells #[.slice o ls.length cap, .int .i64 next] 24)) (.cells #[.slice none 0 0, .int .i64 0] 24) (.cells #[.slice none 0 0, .int .i64 NX] 24)
  rw [World.size_alloc] at h2n
  have HK0 : Hid (KeptAt w (w.heap.size + 1 + 1) NX ((ls.take 0).filter (fun z => !(z.id == id))) none 0 _) := ⟨by omega, e3, h2n.2.2.1, own_nil _ _ _⟩
  have HR0 := hid h2n.2.1
  clear hA hA2 h2n e3
  by_cases hnx : next < 1
  · rw [if_pos hnx] at hNX
    subst hNX
    go_enter Try.func39, Try.ntmps39
    go_wp2
    go_loopw [15] (fun t wr => ∃ (k : Nat) (o2 : Option Addr) (c2 : Nat), k ≤ ls.length ∧ t = .int .i64 k ∧ Hid (KeptAt w (w.heap.size + 1 + 1) 1 ((ls.take k).filter (fun z => !(z.id == id))) o2 c2 wr) ∧ Hid (wr.heap[w.heap.size + 1]? = some (.cells #[.slice none 0 0, .int .i64 0] 24))) (fun t _ => ls.length - (RowKit.intOf t).toNat)
    case atStart => exact ⟨0, none, 0, Nat.zero_le _, rfl, HK0, HR0⟩
    case round =>
      obtain ⟨k, o2, c2, hk, rfl, hK, hR⟩ := hrel
      clear HK0 HR0
      by_cases hlt : k < ls.length
      · obtain ⟨b, off, rfl, hlt1, ha⟩ := G.out (by omega)
        obtain ⟨x0, x1, x2, x3, x4, x5, x6, x7⟩ := (ha k hlt).later hlt1 hK.out.below
        have q1 : (0 : Int) ≤ (k : Int) := by omega
        have q2 : (k : Int) < (ls.length : Int) := by omega
        have Hfs := hid (filter_step (fun z => !(z.id == id)) ls k hlt)
        have hfl : ((ls.take k).filter (fun z => !(z.id == id))).length + 1 ≤ 1099511627776 := by
          have := List.length_filter_le (fun z => !(z.id == id)) (ls.take k)
          rw [List.length_take] at this
          omega
        clear ha G
        generalize ls[k] = x at *
        have hb1 : Below wr.heap.size wr (wr.alloc (lstO x)) := (Below.refl _ wr).alloc (Nat.le_refl _) _
        have hK1 := hK.out.later hb1
        have hR1 := blkLater hb1 hR.out
        have hX1 := heap_new wr (lstO x)
        obtain ⟨y0, y1, y2, y3, y4, y5, y6, y7⟩ := lst_cells hX1
        have HX1 := hid hX1
        have HK1 := hid hK1
        have HR1 := hid hR1
        clear hK hR hK1 hR1 hX1 hb1
        generalize hpx : (x.id == id) = R at *
        have hpx' : (x.id != id) = !R := by rw [bne, hpx]
        cases R with
        | true =>
          rw [if_neg (by decide), List.append_nil] at Hfs
          clear hfl
          unfold lstO at *
          go_wp2
          go_roundw
          case rel => exact ⟨k + 1, o2, c2, by omega, by go_num, by rw [Hfs.out]; exact HK1, HR1⟩
          case measure => simp [RowKit.intOf]; omega
        | false =>
          rw [if_pos (by decide)] at Hfs
          have HPu : Hid (∀ V : World, KeptAt w (w.heap.size + 1 + 1) 1 ((ls.take k).filter (fun z => !(z.id == id))) o2 c2 V → _) := fun V hV => hV.push x hfl
          generalize (ls.take k).filter (fun z => !(z.id == id)) = D1 at *
          obtain ⟨s0, s1, s2, s3⟩ := box_cells HK1.out.box
          obtain ⟨o3, c3, V2, hap, hbx, hbl, hk3, hot⟩ := HPu.out _ HK1.out
          rw [World.size_alloc] at hap
          have HR3 := hid (hot _ _ HR1.out (by omega))
          have HAp := hid hap
          have HBx := hid hbx
          have HK3 := hid hk3
          clear hap hbx hbl hk3 hot HPu
          unfold lstO at *
          go_wp2_with (at_builtin; refine wpList_append_run _ rfl _ _ 22 22 rfl _ _ rfl rfl _ _ HAp.out ?_; obtain ⟨u0, u1, u2, u3⟩ := box_cells HBx.out)
          go_roundw
          case rel => exact ⟨k + 1, o3, c3, by omega, by go_num, by rw [Hfs.out]; exact HK3, HR3⟩
          case measure => simp [RowKit.intOf]; omega
      · have hfk : ls.take k = ls := List.take_of_length_le (by omega)
        rw [hfk, HD.out] at hK
        obtain ⟨s0, s1, s2, s3⟩ := box_cells hK.out.box
        obtain ⟨u0, u1, u2, u3⟩ := box_cells hR.out
        clear G hfk
        have HKb := hid hK.out.below
        have HKr := hid hK.out.row
        have HRr := hid hR.out
        clear hK hR
        go_wp2
        have e0 := set_box (k := 0) (v := .slice o2 D.length c2) HRr.out
        have e1 := set_box (k := 1) (v := .int .i64 1) e0
        obtain ⟨r0, r1, r2, r3⟩ := box_cells e1
        exact bodyPost_ret (v := .agg #[.slice o2 D.length c2, .int .i64 1]) (by simp [results, Try.results39, go_sem, r0, r1]) rfl ⟨o2, c2, rfl, own_set (own_set HKr.out HRr.out (by decide) _) e0 (by decide) _, (HKb.out.setCell (p := ⟨w.heap.size + 1, 0, none⟩) (by show _ ≤ w.heap.size + 1; omega) _).setCell (p := ⟨w.heap.size + 1, 1, none⟩) (by show _ ≤ w.heap.size + 1; omega) _⟩
  · rw [if_neg hnx] at hNX
    subst hNX
    go_enter Try.func39, Try.ntmps39
    go_wp2
    go_loopw [15] (fun t wr => ∃ (k : Nat) (o2 : Option Addr) (c2 : Nat), k ≤ ls.length ∧ t = .int .i64 k ∧ Hid (KeptAt w (w.heap.size + 1 + 1) next ((ls.take k).filter (fun z => !(z.id == id))) o2 c2 wr) ∧ Hid (wr.heap[w.heap.size + 1]? = some (.cells #[.slice none 0 0, .int .i64 0] 24))) (fun t _ => ls.length - (RowKit.intOf t).toNat)
    case atStart => exact ⟨0, none, 0, Nat.zero_le _, rfl, HK0, HR0⟩
    case round =>
      obtain ⟨k, o2, c2, hk, rfl, hK, hR⟩ := hrel
      clear HK0 HR0
      by_cases hlt : k < ls.length
      · obtain ⟨b, off, rfl, hlt1, ha⟩ := G.out (by omega)
        obtain ⟨x0, x1, x2, x3, x4, x5, x6, x7⟩ := (ha k hlt).later hlt1 hK.out.below
        have q1 : (0 : Int) ≤ (k : Int) := by omega
        have q2 : (k : Int) < (ls.length : Int) := by omega
        have Hfs := hid (filter_step (fun z => !(z.id == id)) ls k hlt)
        have hfl : ((ls.take k).filter (fun z => !(z.id == id))).length + 1 ≤ 1099511627776 := by
          have := List.length_filter_le (fun z => !(z.id == id)) (ls.take k)
          rw [List.length_take] at this
          omega
        clear ha G
        generalize ls[k] = x at *
        have hb1 : Below wr.heap.size wr (wr.alloc (lstO x)) := (Below.refl _ wr).alloc (Nat.le_refl _) _
        have hK1 := hK.out.later hb1
        have hR1 := blkLater hb1 hR.out
        have hX1 := heap_new wr (lstO x)
        obtain ⟨y0, y1, y2, y3, y4, y5, y6, y7⟩ := lst_cells hX1
        have HX1 := hid hX1
        have HK1 := hid hK1
        have HR1 := hid hR1
        clear hK hR hK1 hR1 hX1 hb1
        generalize hpx : (x.id == id) = R at *
        have hpx' : (x.id != id) = !R := by rw [bne, hpx]
        cases R with
        | true =>
          rw [if_neg (by decide), List.append_nil] at Hfs
          clear hfl
          unfold lstO at *
          go_wp2
          go_roundw
          case rel => exact ⟨k + 1, o2, c2, by omega, by go_num, by rw [Hfs.out]; exact HK1, HR1⟩
          case measure => simp [RowKit.intOf]; omega
        | false =>
          rw [if_pos (by decide)] at Hfs
          have HPu : Hid (∀ V : World, KeptAt w (w.heap.size + 1 + 1) next ((ls.take k).filter (fun z => !(z.id == id))) o2 c2 V → _) := fun V hV => hV.push x hfl
          generalize (ls.take k).filter (fun z => !(z.id == id)) = D1 at *
          obtain ⟨s0, s1, s2, s3⟩ := box_cells HK1.out.box
          obtain ⟨o3, c3, V2, hap, hbx, hbl, hk3, hot⟩ := HPu.out _ HK1.out
          rw [World.size_alloc] at hap
          have HR3 := hid (hot _ _ HR1.out (by omega))
          have HAp := hid hap
          have HBx := hid hbx
          have HK3 := hid hk3
          clear hap hbx hbl hk3 hot HPu
          unfold lstO at *
          go_wp2_with (at_builtin; refine wpList_append_run _ rfl _ _ 22 22 rfl _ _ rfl rfl _ _ HAp.out ?_; obtain ⟨u0, u1, u2, u3⟩ := box_cells HBx.out)
          go_roundw
          case rel => exact ⟨k + 1, o3, c3, by omega, by go_num, by rw [Hfs.out]; exact HK3, HR3⟩
          case measure => simp [RowKit.intOf]; omega
      · have hfk : ls.take k = ls := List.take_of_length_le (by omega)
        rw [hfk, HD.out] at hK
        obtain ⟨s0, s1, s2, s3⟩ := box_cells hK.out.box
        obtain ⟨u0, u1, u2, u3⟩ := box_cells hR.out
        clear G hfk
        have HKb := hid hK.out.below
        have HKr := hid hK.out.row
        have HRr := hid hR.out
        clear hK hR
        go_wp2
        have e0 := set_box (k := 0) (v := .slice o2 D.length c2) HRr.out
        have e1 := set_box (k := 1) (v := .int .i64 next) e0
        obtain ⟨r0, r1, r2, r3⟩ := box_cells e1
        exact bodyPost_ret (v := .agg #[.slice o2 D.length c2, .int .i64 next]) (by simp [results, Try.results39, go_sem, r0, r1]) rfl ⟨o2, c2, rfl, own_set (own_set HKr.out HRr.out (by decide) _) e0 (by decide) _, (HKb.out.setCell (p := ⟨w.heap.size + 1, 0, none⟩) (by show _ ≤ w.heap.size + 1; omega) _).setCell (p := ⟨w.heap.size + 1, 1, none⟩) (by show _ ≤ w.heap.size + 1; omega) _⟩
end Go.Proofs.Ytgelclbjbjpacaa
