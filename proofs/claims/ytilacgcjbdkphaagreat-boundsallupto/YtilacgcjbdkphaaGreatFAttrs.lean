/- The walk of forest.rightAttrs. -/
import Derived.Test.YtilacgcjbdkphaaGreatFAttr
import Derived.Deep.RegionWith
import Derived.Deep.DeepCutAuto
import Derived.Deep.CutRange
namespace Go.Proofs.YtilacgcjbdkphaaGreat
open Go.RowKit Go.Lib

theorem AttrsAt.take {w : World} {b o : Nat} {l : List AttrD} (h : AttrsAt w b o l) (k : Nat) : AttrsAt w b o (l.take k) := fun j hj => by
  rw [List.length_take] at hj
  rw [List.getElem_take]
  exact h j (by omega)
theorem attrIdx_none (l : List AttrD) (sp lo : ByteArray) : decide (0 ≤ attrIdx l sp lo) = !(attrAtD l sp lo).isNone := by
  unfold attrIdx idxOf attrAtD
  cases l.findIdx? _ with
  | none => rfl
  | some k => simp
/-- Are the attributes right from a place on? -/
def attrsFrom (l : List AttrD) (k : Nat) : Bool := ((List.range l.length).drop k).all fun i => match l[i]? with
  | some a => attrOkD l i a
  | none => true
theorem attrsFrom_step (l : List AttrD) (k : Nat) (h : k < l.length) : attrsFrom l k = (attrOkD l k l[k] && attrsFrom l (k + 1)) := by
  unfold attrsFrom
  rw [List.drop_eq_getElem_cons (by simpa using h), List.all_cons]
  simp [List.getElem?_eq_getElem h]
theorem attrsFrom_end (l : List AttrD) : attrsFrom l l.length = true := by
  unfold attrsFrom
  rw [List.drop_eq_nil_of_le (by simp)]
  rfl
theorem rightAttrsD_eq (l : List AttrD) (h : l.length ≤ 64) : rightAttrsD l = attrsFrom l 0 := by
  unfold rightAttrsD attrsFrom
  rw [decide_eq_true h, List.drop_zero, Bool.true_and]
  rfl
theorem one_all (x : ByteArray) : ([x].all fun x => decide ((x.size : Int) ≤ 4096)) = decide (x.size ≤ 4096) := by
  simp only [List.all_cons, List.all_nil, Bool.and_true]
  by_cases h : x.size ≤ 4096
  · rw [decide_eq_true h, decide_eq_true (by omega)]
  · rw [decide_eq_false h, decide_eq_false (by omega)]

theorem short_one (x : ByteArray) (W : World) : Calls Tryz.prog 147 #[.int .i64 4096, .slice (some ⟨W.heap.size, 0, none⟩) 1 1] (W.alloc (.cells #[.string x] 9)) fun e w' => e = .returned (.bool (decide (x.size ≤ 4096))) ∧ Below (W.alloc (.cells #[.string x] 9)).heap.size (W.alloc (.cells #[.string x] 9)) w' := by
  have h := short_any 4096 W.heap.size 1 [x] (W.alloc (.cells #[.string x] 9)) (by simp) (by simp) (alloc_cellsT W [x] _)
  rw [one_all] at h
  exact h
theorem box_size {wr v : World} {o : Obj} (h : Below (wr.heap.size + 1) (wr.alloc o) v) : wr.heap.size + 1 ≤ v.heap.size := by
  have := h.size
  simpa using this
theorem box_draw {wr v : World} {o : Obj} (h : Below (wr.alloc o).drew.heap.size (wr.alloc o).drew v) : Below (wr.heap.size + 1) (wr.alloc o) v :=
  ((Below.refl _ _).drew).trans (h.mono (by simp))

set_option maxRecDepth 100000 in
set_option maxHeartbeats 8000000 in
theorem rightAttrs_any (v : Value) (l : List AttrD) (w : World) (hr : RdA w v l) (hlen : l.length ≤ 1099511627776) :
    Calls Tryz.prog 146 #[v] w fun e w' => e = .returned (.bool (rightAttrsD l)) ∧ Below w.heap.size w w' := by
  obtain ⟨o, cap, rfl, hc, g⟩ := hr
  by_cases h64 : l.length ≤ 64
  · have HG : Hid (∀ (a b c : ByteArray) (W : World), _) := goodName_any
    have HS : Hid (∀ (x : ByteArray) (W : World), _) := short_one
    have HA : Hid (∀ (v : Value) (m : List AttrD) (a b c : ByteArray) (W : World), RdA W v m → m.length ≤ 64 → _) := fun v m a b c W h1 h2 => attrAt_any v m a b c W h1 (by omega)
    have hR := rightAttrsD_eq l h64
    generalize rightAttrsD l = R at *
    have HR : Hid (attrsFrom l 0 = R) := hR.symm
    clear hR
    have g64 : ¬ (64 : Int) < (l.length : Int) := by omega
    go_enter Tryz.func146, Tryz.ntmps146
    go_wp2
    go_loopw [10] (fun i wr => ∃ k : Nat, k ≤ l.length ∧ i = .int .i64 k ∧ Below w.heap.size w wr ∧ Hid (attrsFrom l k = R)) (fun i _ => l.length - (RowKit.intOf i).toNat)
    case atStart => exact ⟨0, Nat.zero_le _, rfl, Below.refl _ _, HR⟩
    case round =>
      obtain ⟨k, hk, rfl, hb, hfr⟩ := hrel
      have hsw := hb.size
      by_cases hlt : k < l.length
      · obtain ⟨b, off, rfl, hlt2, ha⟩ := g (by omega)
        obtain ⟨c0, c1, c2, c3⟩ := (ha k hlt).later hlt2 hb
        have hfr' := hfr.out
        rw [attrsFrom_step l k hlt] at hfr'
        have hok : attrOkD l k l[k] = (goodNameD l[k].space l[k].pre l[k].loc && decide (l[k].val.size ≤ 4096) && !decide (0 ≤ attrIdx (l.take k) l[k].space l[k].loc)) := by
          unfold attrOkD
          rw [attrIdx_none, Bool.not_not]
        have Hok := hid hok
        have hix : (l.take k).length = k := by rw [List.length_take]; omega
        have HRd : Hid (∀ W, Below w.heap.size w W → RdA W (.slice (some ⟨b, off, none⟩) k cap) (l.take k)) := fun W hW =>
          ⟨_, cap, by rw [hix], by omega, fun _ => ⟨b, off, rfl, by have := hW.size; omega, (ha.take k).later hlt2 hW⟩⟩
        have hAx : ∀ W, Below w.heap.size w W → _ := fun W hW => HA.out _ (l.take k) l[k].space l[k].pre l[k].loc W (HRd.out W hW) (by omega)
        have HAx := hid hAx
        clear hfr hok hAx HRd
        generalize attrOkD l k l[k] = OK at *
        generalize l[k] = x at *
        generalize attrIdx (l.take k) x.space x.loc = IX at *
        clear ha g hix
        have hgd : goodNameD x.space x.pre x.loc = goodNameD x.space x.pre x.loc := rfl
        have HGx : Hid (∀ W : World, _) := fun W => HG.out x.space x.pre x.loc W
        have HSx : Hid (∀ W : World, _) := fun W => HS.out x.val W
        clear hgd
        generalize goodNameD x.space x.pre x.loc = GB at *
        generalize decide (x.val.size ≤ 4096) = SB at *
        generalize x.space = y0 at *
        generalize x.pre = y1 at *
        generalize x.loc = y2 at *
        generalize x.val = y3 at *
        go_upto_region 6 with fail
        go_cut [10, 34] from 10 to 35 (fun i t wx => i = .int .i64 k ∧ t = .bool (!(GB && SB && !decide (0 ≤ IX))) ∧ Below w.heap.size w wx)
        case first =>
          have hbx : Below w.heap.size w (wr.alloc (.cells #[.string y0, .string y1, .string y2, .string y3] 125)).drew := (hb.alloc hb.size _).drew
          have hbox : ∀ W, Below (wr.heap.size + 1) (wr.alloc (.cells #[.string y0, .string y1, .string y2, .string y3] 125)) W → W.cell? ⟨wr.heap.size, 0, none⟩ = some (.string y0) ∧ W.cell? ⟨wr.heap.size, 1, none⟩ = some (.string y1) ∧ W.cell? ⟨wr.heap.size, 2, none⟩ = some (.string y2) ∧ W.cell? ⟨wr.heap.size, 3, none⟩ = some (.string y3) := fun W hW =>
            ⟨(hW.cell (p := ⟨wr.heap.size, 0, none⟩) (by simp)).trans (by simp), (hW.cell (p := ⟨wr.heap.size, 1, none⟩) (by simp)).trans (by simp), (hW.cell (p := ⟨wr.heap.size, 2, none⟩) (by simp)).trans (by simp), (hW.cell (p := ⟨wr.heap.size, 3, none⟩) (by simp)).trans (by simp)⟩
          have Hbox := hid hbox
          clear hbox c0 c1 c2 c3
          generalize hIB : decide (0 ≤ IX) = IB at *
          have g1 : (0 : Int) ≤ (k : Int) := by omega
          have g2 : (k : Int) ≤ (cap : Int) := by omega
          cases GB <;> cases SB <;> cases IB
          all_goals
            first | go_region_with (first
              | (go_at_call 158; refine (HGx.out _).mono ?_; rintro e v1 ⟨rfl, hb1⟩; have hbB := box_draw hb1; have hbW := hbx.trans (hb1.mono hbx.size); have hsB := box_size hbB; obtain ⟨d0, d1, d2, d3⟩ := Hbox.out v1 hbB; clear hb1)
              | (go_at_call 147; refine (HSx.out v1).mono ?_; rintro e v2 ⟨rfl, hb2⟩; have hbB2 := chain_alloc hbB hsB hb2; have hbW2 := chain_alloc hbW hbW.size hb2; obtain ⟨d0', d1', d2', d3'⟩ := Hbox.out v2 hbB2; clear hb2)
              | (go_at_call 159; refine (HAx.out _ ?_).mono ?_; exact hbW2; rintro e v3 ⟨rfl, hb3⟩; have hbW3 := hbW2.trans (hb3.mono hbW2.size); clear hb3)) | fail
            all_goals
              go_wp2_with fail
              go_meet
              first
                | exact ⟨rfl, rfl, hbW3⟩
                | exact ⟨rfl, rfl, hbW2⟩
                | exact ⟨rfl, rfl, hbW⟩
        case rest =>
          obtain ⟨rfl, rfl, hbx⟩ := hcut
          rw [← Hok.out]
          have hfr2 := hfr'
          have HF := hid hfr2
          clear hfr' hfr2 Hok HAx HGx HSx
          cases OK with
          | false =>
            have hRf : R = false := by rw [← HF.out]; rfl
            subst hRf
            clear HF
            go_wp2
            go_ret
            exact ⟨rfl, hbx⟩
          | true =>
            have Hn : Hid (attrsFrom l (k + 1) = R) := by
              have h := HF.out
              rw [Bool.true_and] at h
              exact h
            clear HF
            go_wp2
            go_roundw
            case rel => exact ⟨k + 1, by omega, by go_num, hbx, Hn⟩
            case measure => simp [RowKit.intOf]; omega
      · have hke : k = l.length := by omega
        subst hke
        have hRt : R = true := by rw [← hfr.out, attrsFrom_end]
        subst hRt
        clear hfr g
        go_wp2
        go_ret
        exact ⟨rfl, hb⟩
  · have h64' : (64 : Int) < (l.length : Int) := by omega
    have hR : rightAttrsD l = false := by unfold rightAttrsD; rw [decide_eq_false h64]; rfl
    rw [hR]
    clear g
    go_enter Tryz.func146, Tryz.ntmps146
    go_wp2
    go_ret
    exact ⟨rfl, Below.refl _ _⟩
end Go.Proofs.YtilacgcjbdkphaaGreat
