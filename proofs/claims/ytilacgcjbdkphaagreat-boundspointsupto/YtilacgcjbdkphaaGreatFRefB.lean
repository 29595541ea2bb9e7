/- The reference of forest: attrs. -/
import Derived.Test.YtilacgcjbdkphaaGreatFRefF
namespace Go.Proofs.YtilacgcjbdkphaaGreat
open Go.RowKit Go.Lib

set_option maxRecDepth 100000 in
set_option maxHeartbeats 8000000 in
theorem refAttrs_any (v : Value) (l : List AttrD) (w : World) (hr : RdA w v l) (hlen : l.length ≤ 1099511627776) :
    Calls Tryz.prog 124 #[v] w fun e w' => e = .returned (.bool (rightAttrsD l)) ∧ Below w.heap.size w w' := by
  obtain ⟨o, cap, rfl, hc, g⟩ := hr
  by_cases h64 : l.length ≤ 64
  · have HG : Hid (∀ (a b c : ByteArray) (W : World), _) := refNamed_any
    have HA : Hid (∀ (v : Value) (m : List AttrD) (a b c : ByteArray) (W : World), RdA W v m → m.length ≤ 64 → _) := fun v m a b c W h1 h2 => refFind_any v m a b c W h1 (by omega)
    have hR := rightAttrsD_eq l h64
    generalize rightAttrsD l = R at *
    have HR : Hid (attrsFrom l 0 = R) := hR.symm
    clear hR
    have g64 : ¬ (64 : Int) < (l.length : Int) := by omega
    go_enter Tryz.func124, Tryz.ntmps124
    go_wp2
    go_loopw [10] (fun i wr => ∃ k : Nat, k ≤ l.length ∧ i = .int .i64 k ∧ Below w.heap.size w wr ∧ Hid (attrsFrom l k = R)) (fun i _ => l.length - (RowKit.intOf i).toNat)
    case atStart => exact ⟨0, Nat.zero_le _, rfl, Below.refl _ _, HR⟩
    case round =>
      obtain ⟨k, hk, rfl, hb, hfr⟩ := hrel
      have hsw := hb.size
      by_cases hlt : k < l.length
      · obtain ⟨b, off, rfl, hlt2, ha⟩ := g (by omega)
        obtain ⟨c0, c1, c2, c3⟩ := (ha k hlt).later hlt2 hb
        have hfr' := hfr.out
        rw [attrsFrom_step l k hlt] at hfr'
        have hok : attrOkD l k l[k] = (goodNameD l[k].space l[k].pre l[k].loc && decide (l[k].val.size ≤ 4096) && !decide (0 ≤ attrIdx (l.take k) l[k].space l[k].loc)) := by
          unfold attrOkD
          rw [attrIdx_none, Bool.not_not]
        have Hok := hid hok
        have hix : (l.take k).length = k := by rw [List.length_take]; omega
        have HRd : Hid (∀ W, Below w.heap.size w W → RdA W (.slice (some ⟨b, off, none⟩) k cap) (l.take k)) := fun W hW =>
          ⟨_, cap, by rw [hix], by omega, fun _ => ⟨b, off, rfl, by have := hW.size; omega, (ha.take k).later hlt2 hW⟩⟩
        have hAx : ∀ W, Below w.heap.size w W → _ := fun W hW => HA.out _ (l.take k) l[k].space l[k].pre l[k].loc W (HRd.out W hW) (by omega)
        have HAx := hid hAx
        clear hfr hok hAx HRd
        generalize attrOkD l k l[k] = OK at *
        generalize l[k] = x at *
        generalize attrIdx (l.take k) x.space x.loc = IX at *
        clear ha g hix
        have hgd : goodNameD x.space x.pre x.loc = goodNameD x.space x.pre x.loc := rfl
        have HGx : Hid (∀ W : World, _) := fun W => HG.out x.space x.pre x.loc W
        have hsb : decide ((4096 : Int) < (x.val.size : Int)) = !decide (x.val.size ≤ 4096) := by
          by_cases h : x.val.size ≤ 4096
          · rw [decide_eq_true h, decide_eq_false (by omega)]; rfl
          · rw [decide_eq_false h, decide_eq_true (by omega)]; rfl
        clear hgd
        generalize goodNameD x.space x.pre x.loc = GB at *
        generalize decide (x.val.size ≤ 4096) = SB at *
        generalize x.space = y0 at *
        generalize x.pre = y1 at *
        generalize x.loc = y2 at *
        generalize x.val = y3 at *
        go_upto_region 6 with fail
        go_cut [10, 33] from 10 to 34 (fun i t wx => i = .int .i64 k ∧ t = .bool (!(GB && SB && !decide (0 ≤ IX))) ∧ Below w.heap.size w wx)
        case first =>
          have hbx : Below w.heap.size w (wr.alloc (.cells #[.string y0, .string y1, .string y2, .string y3] 125)).drew := (hb.alloc hb.size _).drew
          have hbox : ∀ W, Below (wr.heap.size + 1) (wr.alloc (.cells #[.string y0, .string y1, .string y2, .string y3] 125)) W → W.cell? ⟨wr.heap.size, 0, none⟩ = some (.string y0) ∧ W.cell? ⟨wr.heap.size, 1, none⟩ = some (.string y1) ∧ W.cell? ⟨wr.heap.size, 2, none⟩ = some (.string y2) ∧ W.cell? ⟨wr.heap.size, 3, none⟩ = some (.string y3) := fun W hW =>
            ⟨(hW.cell (p := ⟨wr.heap.size, 0, none⟩) (by simp)).trans (by simp), (hW.cell (p := ⟨wr.heap.size, 1, none⟩) (by simp)).trans (by simp), (hW.cell (p := ⟨wr.heap.size, 2, none⟩) (by simp)).trans (by simp), (hW.cell (p := ⟨wr.heap.size, 3, none⟩) (by simp)).trans (by simp)⟩
          have Hbox := hid hbox
          clear hbox c0 c1 c2 c3
          generalize hIB : decide (0 ≤ IX) = IB at *
          have g1 : (0 : Int) ≤ (k : Int) := by omega
          have g2 : (k : Int) ≤ (cap : Int) := by omega
          cases GB <;> cases SB <;> cases IB
          all_goals
            first | go_region_with (first
              | (go_at_call 125; refine (HGx.out _).mono ?_; rintro e v1 ⟨rfl, hb1⟩; have hbB := box_draw hb1; have hbW := hbx.trans (hb1.mono hbx.size); have hsB := box_size hbB; obtain ⟨d0, d1, d2, d3⟩ := Hbox.out v1 hbB; clear hb1)
              | (go_at_call 140; refine (HAx.out _ ?_).mono ?_; exact hbW; rintro e v3 ⟨rfl, hb3⟩; have hbW3 := hbW.trans (hb3.mono hbW.size); clear hb3)) | fail
            all_goals
              go_wp2_with fail
              go_meet
              first
                | exact ⟨rfl, rfl, hbW3⟩
                | exact ⟨rfl, rfl, hbW⟩
        case rest =>
          obtain ⟨rfl, rfl, hbx⟩ := hcut
          rw [← Hok.out]
          have hfr2 := hfr'
          have HF := hid hfr2
          clear hfr' hfr2 Hok HAx HGx
          cases OK with
          | false =>
            have hRf : R = false := by rw [← HF.out]; rfl
            subst hRf
            clear HF
            go_wp2
            go_ret
            exact ⟨rfl, hbx⟩
          | true =>
            have Hn : Hid (attrsFrom l (k + 1) = R) := by
              have h := HF.out
              rw [Bool.true_and] at h
              exact h
            clear HF
            go_wp2
            go_roundw
            case rel => exact ⟨k + 1, by omega, by go_num, hbx, Hn⟩
            case measure => simp [RowKit.intOf]; omega
      · have hke : k = l.length := by omega
        subst hke
        have hRt : R = true := by rw [← hfr.out, attrsFrom_end]
        subst hRt
        clear hfr g
        go_wp2
        go_ret
        exact ⟨rfl, hb⟩
  · have h64' : (64 : Int) < (l.length : Int) := by omega
    have hR : rightAttrsD l = false := by unfold rightAttrsD; rw [decide_eq_false h64]; rfl
    rw [hR]
    clear g
    go_enter Tryz.func124, Tryz.ntmps124
    go_wp2
    go_ret
    exact ⟨rfl, Below.refl _ _⟩
end Go.Proofs.YtilacgcjbdkphaaGreat
