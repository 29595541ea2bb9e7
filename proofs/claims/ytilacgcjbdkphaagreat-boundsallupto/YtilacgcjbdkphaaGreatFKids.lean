/- The walks of rightTop and rightKids. -/
import Derived.Test.YtilacgcjbdkphaaGreatFRight
namespace Go.Proofs.YtilacgcjbdkphaaGreat
open Go.RowKit Go.Lib

def kindAt (ns : List NodeD) (x : Int) : Nat := match nodeOf ns x with
  | some n => n.kind
  | none => 0
/-- May a document have kids of these kinds, behind a doctype, behind an element? -/
def topGo : Bool → Bool → List Nat → Bool
  | _, _, [] => true
  | d, e, k :: t =>
    if k == 8 then topGo d e t else if k == 7 then topGo d e t else if k == 10 then (if d || e then false else topGo true e t) else if k == 1 then (if e then false else topGo d true t) else false

set_option maxRecDepth 100000 in
set_option maxHeartbeats 4000000 in
theorem rightTop_any (b off cap : Nat) (ns : List NodeD) (v : Value) (kids : List Int) (w : World) (h : FAt w b off cap ns) (hr : RdI w v kids) (hl : kids.length ≤ 1099511627776) (hk : ∀ x ∈ kids, thereB ns.length x = true) :
    Calls Tryz.prog 150 #[forestV b off cap ns.length, v] w fun e w' => e = .returned (.bool (topGo false false (kids.map (kindAt ns)))) ∧ Below w.heap.size w w' := by
  obtain ⟨o, c, rfl, hc, g⟩ := hr
  have HN : Hid (∀ (j : Nat) (W : World), j < ns.length → _) := fun j W hj => node_any b off cap ns.length j W hj h.len
  have HC : Hid (∀ (j : Nat) (hj : j < ns.length) (W : World), Below w.heap.size w W → ∃ L, NodeCells W b (off + j * 16) ns[j] L) := fun j hj W hW => by
    obtain ⟨L, hc, _⟩ := h.at_ j hj
    exact ⟨L, hc.later h.lt hW⟩
  have hle := h.len
  have Hk := hid hk
  unfold forestV at *
  obtain ⟨R, hR⟩ : ∃ R, topGo false false (kids.map (kindAt ns)) = R := ⟨_, rfl⟩
  rw [hR]
  have HR : Hid (topGo false false ((kids.drop 0).map (kindAt ns)) = R) := hR
  clear hR h hk
  go_enter Tryz.func150, Tryz.ntmps150
  go_wp2
  go_loopw [5, 6, 11] (fun d e i wr => ∃ (k : Nat) (db eb : Bool), k ≤ kids.length ∧ i = .int .i64 k ∧ d = .bool db ∧ e = .bool eb ∧ Below (w.alloc (.cells #[.slice (some ⟨b, off, none⟩) ns.length cap] 24)).heap.size (w.alloc (.cells #[.slice (some ⟨b, off, none⟩) ns.length cap] 24)) wr ∧ Hid (topGo db eb ((kids.drop k).map (kindAt ns)) = R)) (fun _ _ i _ => kids.length - (RowKit.intOf i).toNat)
  case atStart => exact ⟨0, false, false, Nat.zero_le _, rfl, rfl, rfl, Below.refl _ _, HR⟩
  case round =>
    obtain ⟨k, db, eb, hkl, rfl, rfl, rfl, hb, hr⟩ := hrel
    by_cases hlt : k < kids.length
    · obtain ⟨b2, off2, rfl, hlt2, ha⟩ := g (by omega)
      have hbw := box_go hb
      have hx := (hbw.cell (p := ⟨b2, off2 + k, none⟩) hlt2).trans (ha k hlt)
      have cb := box_forest hb
      obtain ⟨j, hj, hje⟩ := there_idx (Hk.out _ (List.getElem_mem hlt))
      have hr' := hr.out
      rw [List.drop_eq_getElem_cons hlt, List.map_cons] at hr'
      have hki : kindAt ns kids[k] = ns[j].kind := by unfold kindAt; rw [hje, nodeOf_at ns j hj]
      rw [hki] at hr'
      unfold topGo at hr'
      rw [hje] at hx
      have e1 : ((ns[j].kind : Int) == 8) = (ns[j].kind == 8) := beq_cast _ 8
      have e2 : ((ns[j].kind : Int) == 7) = (ns[j].kind == 7) := beq_cast _ 7
      have e3 : ((ns[j].kind : Int) == 10) = (ns[j].kind == 10) := beq_cast _ 10
      have e4 : ((ns[j].kind : Int) == 1) = (ns[j].kind == 1) := beq_cast _ 1
      have Hr := hid hr'
      have HNj := hid (fun W => HN.out j W hj)
      have HCj := hid (HC.out j hj)
      have Hb := hid hb
      clear hr hr' hki hje ha g HN HC Hk hbw hb HR
      have Hst : Hid (∀ v1, Below wr.heap.size wr v1 → Below (w.alloc (.cells #[.slice (some ⟨b, off, none⟩) ns.length cap] 24)).heap.size (w.alloc (.cells #[.slice (some ⟨b, off, none⟩) ns.length cap] 24)) v1) := fun v1 h1 => Hb.out.trans (h1.mono Hb.out.size)
      generalize (ns[j].kind == 8) = k8 at *
      generalize (ns[j].kind == 7) = k7 at *
      generalize (ns[j].kind == 10) = k10 at *
      generalize (ns[j].kind == 1) = k1 at *
      have hcase : k8 = true ∨ (k8 = false ∧ k7 = true) ∨ (k8 = false ∧ k7 = false ∧ k10 = true) ∨ (k8 = false ∧ k7 = false ∧ k10 = false ∧ k1 = true) ∨ (k8 = false ∧ k7 = false ∧ k10 = false ∧ k1 = false) := by
        cases k8 <;> cases k7 <;> cases k10 <;> cases k1 <;> simp
      rcases hcase with rfl | ⟨rfl, rfl⟩ | ⟨rfl, rfl, rfl⟩ | ⟨rfl, rfl, rfl, rfl⟩ | ⟨rfl, rfl, rfl, rfl⟩ <;> cases db <;> cases eb
      all_goals
        have hv := Hr.out
        simp only [Bool.false_eq_true, if_true, if_false, Bool.or_true, Bool.or_false, Bool.or_self] at hv
        have Hv := hid hv
        clear hv Hr
        go_wp2_with fail
        refine (HNj.out _).mono ?_
        rintro e v1 ⟨rfl, hb1⟩
        have hbx := Hst.out v1 hb1
        obtain ⟨L, hc1⟩ := HCj.out v1 (box_go hbx)
        have c0 := hc1.kind
        clear hc1 hb1
        go_wp2
        first
          | (go_roundw
             case rel => exact ⟨k + 1, _, _, by omega, by go_num, rfl, rfl, hbx, Hv.out⟩
             case measure => simp [RowKit.intOf]; omega)
          | (go_ret
             exact ⟨by rw [← Hv.out]; rfl, box_go hbx⟩)
    · have hRt : R = true := by rw [← hr.out, List.drop_eq_nil_of_le (by omega)]; rfl
      subst hRt
      clear hr g HN HC Hk HR
      go_wp2
      go_ret
      exact ⟨rfl, box_go hb⟩

/-- May a node have its kids, by their kinds? -/
def rightKidsD (ns : List NodeD) (n : NodeD) : Bool := if n.kind == 9 then topGo false false (n.kids.map (kindAt ns)) else (n.kids.map (kindAt ns)).all mayBeWithinK

set_option maxRecDepth 100000 in
set_option maxHeartbeats 4000000 in
theorem rightKids_any (b off cap i : Nat) (ns : List NodeD) (w : World) (h : FAt w b off cap ns) (hi : i < ns.length) (hl : ns[i].kids.length ≤ 1099511627776) (hk : ∀ x ∈ ns[i].kids, thereB ns.length x = true) :
    Calls Tryz.prog 139 #[forestV b off cap ns.length, .int .i64 ((i : Int) + 1)] w fun e w' => e = .returned (.bool (rightKidsD ns ns[i])) ∧ Below w.heap.size w w' := by
  have HN : Hid (∀ (j : Nat) (W : World), j < ns.length → _) := fun j W hj => node_any b off cap ns.length j W hj h.len
  have HC : Hid (∀ (j : Nat) (hj : j < ns.length) (W : World), Below w.heap.size w W → ∃ L, NodeCells W b (off + j * 16) ns[j] L) := fun j hj W hW => by
    obtain ⟨L, hc, _⟩ := h.at_ j hj
    exact ⟨L, hc.later h.lt hW⟩
  have HM : Hid (∀ (k : Nat) (W : World), Calls Tryz.prog 151 #[.int .u8 (k : Int)] W fun e w' => e = .returned (.bool (mayBeWithinK k)) ∧ W = w') := fun k W => (mayBeWithin_any k W).mono (fun e w' h => ⟨h.1, h.2.symm⟩)
  obtain ⟨L0, hc0, _, _, hrk⟩ := h.at_ i hi
  have HF := hid h
  have Hc0 := hid hc0
  have HT : Hid (∀ W : World, Below w.heap.size w W → _) := fun W hW => rightTop_any b off cap ns L0.kids ns[i].kids W (h.later hW) (hrk.later hW) hl hk
  have hec : ((ns[i].kind : Int) == 9) = (ns[i].kind == 9) := beq_cast ns[i].kind 9
  have hle := h.len
  have hbl := h.lt
  have Hk := hid hk
  obtain ⟨o, c, hko, hcap, g⟩ := hrk
  unfold forestV at *
  obtain ⟨ANS, hANS⟩ : ∃ A, rightKidsD ns ns[i] = A := ⟨_, rfl⟩
  rw [hANS]
  unfold rightKidsD at hANS
  have hN0 := HN.out i (w.alloc (.cells #[.slice (some ⟨b, off, none⟩) ns.length cap] 24)) hi
  clear h hc0 hk
  cases hkk : (ns[i].kind == 9) with
  | true =>
    rw [hkk] at hec
    rw [hkk, if_pos rfl] at hANS
    generalize topGo false false (ns[i].kids.map (kindAt ns)) = T at *
    subst hANS
    go_enter Tryz.func139, Tryz.ntmps139
    go_wp2_with fail
    refine hN0.mono ?_
    rintro e v1 ⟨rfl, hb1⟩
    have hbw1 := box_go hb1
    have hc := Hc0.out.later hbl hbw1
    have c0 := hc.kind
    have c1 := hc.kids
    have cb := box_forest hb1
    have hT := HT.out v1.drew (chain_drew hbw1)
    have Hbd := hid (chain_drew hbw1)
    clear hc hkk hb1 HT HN HC HM HF Hk g hko
    go_upto_region 3 with fail
    first | go_region_with (go_at_call 150; refine hT.mono ?_; rintro e v2 ⟨rfl, hb2⟩; have hbx := Hbd.out.trans (hb2.mono (Hbd.out).size); clear hb2) | fail
    all_goals
      go_wp2_with fail
      go_ret
      exact ⟨rfl, hbx⟩
  | false =>
    rw [hkk] at hec
    rw [hkk, if_neg Bool.false_ne_true] at hANS
    have HR : Hid (((ns[i].kids.drop 0).map (kindAt ns)).all mayBeWithinK = ANS) := hANS
    clear hANS hkk HT
    go_enter Tryz.func139, Tryz.ntmps139
    go_wp2_with fail
    refine hN0.mono ?_
    rintro e v1 ⟨rfl, hb1⟩
    have hbw1 := box_go hb1
    have hc := Hc0.out.later hbl hbw1
    have c0 := hc.kind
    have c1 := hc.kids
    rw [hko] at c1
    have Hb1 := hid hb1
    clear hc hb1 hbw1 hN0
    generalize ns[i].kids = kids at *
    go_wp2
    go_loopw [27] (fun i wr => ∃ k : Nat, k ≤ kids.length ∧ i = .int .i64 k ∧ Below (w.alloc (.cells #[.slice (some ⟨b, off, none⟩) ns.length cap] 24)).heap.size (w.alloc (.cells #[.slice (some ⟨b, off, none⟩) ns.length cap] 24)) wr ∧ Hid (((kids.drop k).map (kindAt ns)).all mayBeWithinK = ANS)) (fun i _ => kids.length - (RowKit.intOf i).toNat)
    case atStart => exact ⟨0, Nat.zero_le _, rfl, Hb1.out, HR⟩
    case round =>
      obtain ⟨k, hkl, rfl, hb, hr⟩ := hrel
      clear c0 c1
      by_cases hlt : k < kids.length
      · obtain ⟨b2, off2, rfl, hlt2, ha⟩ := g (by omega)
        have hbw := box_go hb
        have hx := (hbw.cell (p := ⟨b2, off2 + k, none⟩) hlt2).trans (ha k hlt)
        have cb := box_forest hb
        obtain ⟨j, hj, hje⟩ := there_idx (Hk.out _ (List.getElem_mem hlt))
        have hr' := hr.out
        rw [List.drop_eq_getElem_cons hlt, List.map_cons, List.all_cons] at hr'
        have hki : kindAt ns kids[k] = ns[j].kind := by unfold kindAt; rw [hje, nodeOf_at ns j hj]
        rw [hki] at hr'
        rw [hje] at hx
        have Hr := hid hr'
        have HNj := hid (fun W => HN.out j W hj)
        have HCj := hid (HC.out j hj)
        have HMj := hid (HM.out ns[j].kind)
        have Hb := hid hb
        have Hst : Hid (∀ v1, Below wr.heap.size wr v1 → Below (w.alloc (.cells #[.slice (some ⟨b, off, none⟩) ns.length cap] 24)).heap.size (w.alloc (.cells #[.slice (some ⟨b, off, none⟩) ns.length cap] 24)) v1) := fun v1 h1 => Hb.out.trans (h1.mono Hb.out.size)
        clear hr hr' hki hje ha g HN HC Hk hbw hb HR HM HF Hc0 hec hko
        generalize mayBeWithinK ns[j].kind = MB at *
        cases MB with
        | false =>
          have hE : ANS = false := by rw [← Hr.out]; rfl
          subst hE
          clear Hr
          go_wp2_with fail
          refine (HNj.out _).mono ?_
          rintro e v2 ⟨rfl, hb2⟩
          have hbx := Hst.out v2 hb2
          obtain ⟨L, hc2⟩ := HCj.out v2 (box_go hbx)
          have c0 := hc2.kind
          clear hc2 hb2
          go_wp2_with (go_at_call 151; refine (HMj.out _).mono ?_; rintro e w' ⟨rfl, rfl⟩)
          go_ret
          exact ⟨rfl, box_go hbx⟩
        | true =>
          have Hn : Hid (((kids.drop (k + 1)).map (kindAt ns)).all mayBeWithinK = ANS) := by
            have h := Hr.out
            rw [Bool.true_and] at h
            exact h
          clear Hr
          go_wp2_with fail
          refine (HNj.out _).mono ?_
          rintro e v2 ⟨rfl, hb2⟩
          have hbx := Hst.out v2 hb2
          obtain ⟨L, hc2⟩ := HCj.out v2 (box_go hbx)
          have c0 := hc2.kind
          clear hc2 hb2
          go_wp2_with (go_at_call 151; refine (HMj.out _).mono ?_; rintro e w' ⟨rfl, rfl⟩)
          go_roundw
          case rel => exact ⟨k + 1, by omega, by go_num, hbx, Hn⟩
          case measure => simp [RowKit.intOf]; omega
      · have hRt : ANS = true := by rw [← hr.out, List.drop_eq_nil_of_le (by omega)]; rfl
        subst hRt
        clear hr g HN HC Hk HR HM HF Hc0 hec hko
        go_wp2
        go_ret
        exact ⟨rfl, box_go hb⟩
end Go.Proofs.YtilacgcjbdkphaaGreat
