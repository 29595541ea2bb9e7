/- The walk of rightShadow. -/
import Derived.Test.YtilacgcjbdkphaaGreatFRight
namespace Go.Proofs.YtilacgcjbdkphaaGreat
open Go.RowKit Go.Lib

/-- Is a shadow root its host's, a host's shadow root its own? -/
def rightShadowD (ns : List NodeD) (i : Nat) (n : NodeD) : Bool :=
  if n.kind == 12 then (match nodeOf ns n.host with
    | some u => u.kind == 1 && u.shadow == (i : Int) + 1
    | none => false)
  else n.shadow == 0 || (match nodeOf ns n.shadow with
    | some u => u.kind == 12 && u.host == (i : Int) + 1
    | none => false)

theorem isOfD_true {ns : List NodeD} {x : Int} {k : Nat} (h : isOfD ns x k = true) : ∃ (j : Nat) (hj : j < ns.length), x = (j : Int) + 1 ∧ (ns[j].kind == k) = true := by
  cases ht : thereB ns.length x with
  | false => unfold isOfD nodeOf at h; rw [ht] at h; cases h
  | true =>
    obtain ⟨j, hj, rfl⟩ := there_idx ht
    unfold isOfD at h
    rw [nodeOf_at ns j hj] at h
    exact ⟨j, hj, rfl, h⟩
theorem isOfD_false {ns : List NodeD} {x : Int} {k : Nat} (h : isOfD ns x k = false) (p : NodeD → Bool) : (match nodeOf ns x with | some u => u.kind == k && p u | none => false) = false := by
  unfold isOfD at h
  cases hn : nodeOf ns x with
  | none => rfl
  | some u => rw [hn] at h; simp only at h ⊢; rw [h]; rfl

set_option maxRecDepth 100000 in
set_option maxHeartbeats 4000000 in
theorem rightShadow_any (b off cap i : Nat) (ns : List NodeD) (w : World) (h : FAt w b off cap ns) (hi : i < ns.length) :
    Calls Tryz.prog 138 #[forestV b off cap ns.length, .int .i64 ((i : Int) + 1)] w fun e w' => e = .returned (.bool (rightShadowD ns i ns[i])) ∧ Below w.heap.size w w' := by
  have HN : Hid (∀ (j : Nat) (W : World), j < ns.length → _) := fun j W hj => node_any b off cap ns.length j W hj h.len
  have HI : Hid (∀ (x : Int) (k : Nat) (W : World), FAt W b off cap ns → _) := fun x k W hW => isOf_any b off cap k x ns W hW
  have HF := hid h
  have HC : Hid (∀ (j : Nat) (hj : j < ns.length) (W : World), Below w.heap.size w W → ∃ L, NodeCells W b (off + j * 16) ns[j] L) := fun j hj W hW => by
    obtain ⟨L, hc, _⟩ := h.at_ j hj
    exact ⟨L, hc.later h.lt hW⟩
  have hec : ((ns[i].kind : Int) == 12) = (ns[i].kind == 12) := beq_cast ns[i].kind 12
  have hle := h.len
  have hbl := h.lt
  unfold forestV at *
  obtain ⟨ANS, hANS⟩ : ∃ A, rightShadowD ns i ns[i] = A := ⟨_, rfl⟩
  rw [hANS]
  unfold rightShadowD at hANS
  clear h
  cases hk : (ns[i].kind == 12) with
  | true =>
    rw [hk] at hec
    rw [hk, if_pos rfl] at hANS
    have HANS := hid hANS
    clear hANS
    go_enter Tryz.func138, Tryz.ntmps138
    go_wp2_with fail
    refine (HN.out i _ hi).mono ?_
    rintro e v1 ⟨rfl, hb1⟩
    obtain ⟨L, hc⟩ := HC.out i hi v1 (box_go hb1)
    have c0 := hc.kind
    have c1 := hc.host
    have cb := box_forest hb1
    have hbw1 := box_go hb1
    have hlt1 : w.heap.size < v1.heap.size := by have := hb1.size; simp at this; omega
    have hI := HI.out ns[i].host 1 v1.drew (HF.out.later (chain_drew hbw1))
    have Hbd := hid (chain_drew hbw1)
    have Hb1d := hid (chain_drew hb1)
    clear hc hk hb1
    cases hIB : isOfD ns ns[i].host 1 with
    | false =>
      have hE : ANS = false := by rw [← HANS.out]; exact isOfD_false hIB _
      subst hE
      rw [hIB] at hI
      clear hIB HANS HC HF HN HI
      go_upto_region 3 with fail
      first | go_region_with (go_at_call 149; refine hI.mono ?_; rintro e v2 ⟨rfl, hb2⟩; have hbx := Hbd.out.trans (hb2.mono (Hbd.out).size); clear hb2; rename_i K1 hK1; refine hK1 _ _ ?_; clear hK1; refine wpAny_one 6 20 (.bool false) rfl rfl ?_ ?_ ?_ ?_ ?_ ?_ ?_; kernel_rfl; exact fun _ _ _ _ _ h => h; kernel_rfl; kernel_rfl; rfl; intro W; go_simp; refine wpAny_skips [(7, 21), (8, 22), (9, 23), (10, 24), (11, 25), (12, 26), (13, 27), (14, 28), (15, 29), (16, 30), (17, 31)] 2 ?_ ?_ ?_ ?_ ?_; kernel_rfl; exact fun _ _ _ _ _ h => h; kernel_rfl; kernel_rfl; simp only [actAfter, listedAfter, Act.put, List.setIfInBounds_toArray, List.set_cons_zero, List.set_cons_succ]) | fail
      all_goals
        go_wp2_with fail
        go_ret
        exact ⟨rfl, hbx⟩
    | true =>
      obtain ⟨j, hj, hje, hkj⟩ := isOfD_true hIB
      have hE : ANS = (ns[j].shadow == (i : Int) + 1) := by
        rw [← HANS.out, hje, nodeOf_at ns j hj]
        simp only [hkj, Bool.true_and]
      subst hE
      rw [hIB] at hI
      have HNj := hid (fun W => HN.out j W hj)
      have HCi := hid (HC.out i hi)
      have HCj := hid (HC.out j hj)
      obtain ⟨L3, hc3⟩ := HCj.out v1 hbw1
      have e3 := hc3.shadow
      have hjh : (.int .i64 ns[i].host : Value) = .int .i64 ((j : Int) + 1) := by rw [hje]
      rw [hje] at hI c1
      clear hIB HANS HC HF HN HI hc3 hkj hjh
      have Hje := hid hje
      clear hje
      go_upto_region 3 with fail
      go_region_held (fun W => W.cell? ⟨w.heap.size, 0, none⟩ = some (.slice (some ⟨b, off, none⟩) ns.length cap) ∧ W.cell? ⟨b, off + i * 16 + 11, none⟩ = some (.int .i64 ((j : Int) + 1)) ∧ W.cell? ⟨b, off + j * 16 + 12, none⟩ = some (.int .i64 ns[j].shadow)) (go_keep) (first
        | (go_at_call 149; refine hI.mono ?_; rintro e v2 ⟨rfl, hb2⟩; have hbw2 := Hbd.out.trans (hb2.mono (Hbd.out).size); have Hbx2 := hid (Hb1d.out.trans (hb2.mono (Hb1d.out).size)); have cb2 := box_forest Hbx2.out; obtain ⟨L4, hc4⟩ := HCi.out v2 hbw2; obtain ⟨L7, hc7⟩ := HCj.out v2 hbw2; have e4 := hc4.host; rw [Hje.out] at e4; have e7 := hc7.shadow; clear hb2 hc4 hc7)
        | (go_at_call 134; refine (HNj.out _).mono ?_; rintro e v5 ⟨rfl, hb5⟩; have hbw5 := hbw2.trans (hb5.mono hbw2.size); have cb5 := box_forest (Hbx2.out.trans (hb5.mono Hbx2.out.size)); obtain ⟨L5, hc5⟩ := HCi.out v5 hbw5; obtain ⟨L6, hc6⟩ := HCj.out v5 hbw5; have e5 := hc5.host; rw [Hje.out] at e5; have e6 := hc6.shadow; clear hb5 hc5 hc6))
      all_goals
        go_wp2_with fail
        go_ret
        exact ⟨rfl, hbw5⟩
  | false =>
    rw [hk] at hec
    rw [hk, if_neg Bool.false_ne_true] at hANS
    have HANS := hid hANS
    clear hANS
    go_enter Tryz.func138, Tryz.ntmps138
    go_wp2_with fail
    refine (HN.out i _ hi).mono ?_
    rintro e v1 ⟨rfl, hb1⟩
    obtain ⟨L, hc⟩ := HC.out i hi v1 (box_go hb1)
    have c0 := hc.kind
    have c1 := hc.shadow
    have cb := box_forest hb1
    have hbw1 := box_go hb1
    have hlt1 : w.heap.size < v1.heap.size := by have := hb1.size; simp at this; omega
    have hI := HI.out ns[i].shadow 12 v1.drew (HF.out.later (chain_drew hbw1))
    have Hbd := hid (chain_drew hbw1)
    have Hb1d := hid (chain_drew hb1)
    clear hc hk hb1
    cases hs0 : (ns[i].shadow == 0) with
    | true =>
      have hE : ANS = true := by rw [← HANS.out, hs0]; rfl
      subst hE
      clear HANS HC HF HN HI hI
      go_upto_region 4 with fail
      refine wp_region_any (by kernel_rfl) ?_
      change wpAny _ _ _ _ _ _ _ (World.drew _)
      refine wpAny_one 0 33 (.pointer (some ⟨b, off + i * 16, none⟩)) rfl rfl (by kernel_rfl) (fun _ _ _ _ _ h => h) (by kernel_rfl) (by kernel_rfl) (by kernel_rfl) (fun W => by go_simp) ?_
      refine wpAny_one 1 34 (.pointer (some ⟨b, off + i * 16, none⟩)) rfl rfl (by kernel_rfl) (fun _ _ _ _ _ h => h) (by kernel_rfl) (by kernel_rfl) (by kernel_rfl) (fun W => by go_simp) ?_
      refine wpAny_one 2 35 (.pointer (some ⟨b, off + i * 16 + 12, none⟩)) rfl rfl (by kernel_rfl) (fun _ _ _ _ _ h => h) (by kernel_rfl) (by kernel_rfl) (by kernel_rfl) (fun W => by go_simp) ?_
      refine wpAny_ready (rs := [3]) (by kernel_rfl) (by simp) ?_
      refine AllReady.cons rfl (fun K1 hK1 => ?_) AllReady.nil
      go_simp
      refine hK1 _ _ ?_
      clear hK1
      refine wpAny_one 4 37 (.bool true) rfl rfl (by kernel_rfl) (fun _ _ _ _ _ h => h) (by kernel_rfl) (by kernel_rfl) (by kernel_rfl) (fun W => by go_simp) ?_
      refine wpAny_one 5 38 (.bool true) rfl rfl (by kernel_rfl) (fun _ _ _ _ _ h => h) (by kernel_rfl) (by kernel_rfl) (by kernel_rfl) (fun W => by go_simp) ?_
      refine wpAny_skips [(6, 39), (7, 40), (8, 41), (9, 42), (10, 43), (11, 44), (12, 45), (13, 46), (14, 47), (15, 48), (16, 49), (17, 50), (18, 51), (19, 52), (20, 53), (21, 54), (22, 55), (23, 56), (24, 57)] 2 (by kernel_rfl) (fun _ _ _ _ _ h => h) (by kernel_rfl) (by kernel_rfl) ?_
      simp only [actAfter, listedAfter, Act.put, List.setIfInBounds_toArray, List.set_cons_zero, List.set_cons_succ]
      refine wpAny_one 25 58 (.bool true) rfl rfl (by kernel_rfl) (fun _ _ _ _ _ h => h) (by kernel_rfl) (by kernel_rfl) (by kernel_rfl) (fun W => by go_simp) ?_
      refine wpAny_one 26 4 (.bool true) rfl rfl (by kernel_rfl) (fun _ _ _ _ _ h => h) (by kernel_rfl) (by kernel_rfl) (by kernel_rfl) (fun W => by go_simp) ?_
      refine wpAny_done (by kernel_rfl) ?_ _
      simp only [Act.put, List.setIfInBounds_toArray, List.set_cons_zero, List.set_cons_succ]
      go_wp2_with fail
      go_ret
      exact ⟨rfl, Hbd.out⟩
    | false =>
      cases hIB : isOfD ns ns[i].shadow 12 with
      | false =>
        have hE : ANS = false := by rw [← HANS.out, hs0, Bool.false_or]; exact isOfD_false hIB _
        subst hE
        rw [hIB] at hI
        clear hIB HANS HC HF HN HI
        go_upto_region 4 with fail
        first | go_region_with (go_at_call 149; refine hI.mono ?_; rintro e v2 ⟨rfl, hb2⟩; have hbx := Hbd.out.trans (hb2.mono (Hbd.out).size); clear hb2; rename_i K1 hK1; refine hK1 _ _ ?_; clear hK1; refine wpAny_one 12 45 (.bool false) rfl rfl ?_ ?_ ?_ ?_ ?_ ?_ ?_; kernel_rfl; exact fun _ _ _ _ _ h => h; kernel_rfl; kernel_rfl; kernel_rfl; intro W; go_simp; refine wpAny_skips [(13, 46), (14, 47), (15, 48), (16, 49), (17, 50), (18, 51), (19, 52), (20, 53), (21, 54), (22, 55), (23, 56)] 3 ?_ ?_ ?_ ?_ ?_; kernel_rfl; exact fun _ _ _ _ _ h => h; kernel_rfl; kernel_rfl; simp only [actAfter, listedAfter, Act.put, List.setIfInBounds_toArray, List.set_cons_zero, List.set_cons_succ]) | fail
        all_goals
          go_wp2_with fail
          go_ret
          exact ⟨rfl, hbx⟩
      | true =>
        obtain ⟨j, hj, hje, hkj⟩ := isOfD_true hIB
        have hE : ANS = (ns[j].host == (i : Int) + 1) := by
          rw [← HANS.out, hs0, Bool.false_or, hje, nodeOf_at ns j hj]
          simp only [hkj, Bool.true_and]
        subst hE
        rw [hIB] at hI
        have HNj := hid (fun W => HN.out j W hj)
        have HCi := hid (HC.out i hi)
        have HCj := hid (HC.out j hj)
        obtain ⟨L3, hc3⟩ := HCj.out v1 hbw1
        have e3 := hc3.host
        rw [hje] at hI c1 hs0
        clear hIB HANS HC HF HN HI hc3 hkj
        have Hje := hid hje
        clear hje
        go_upto_region 4 with fail
        go_region_held (fun W => W.cell? ⟨w.heap.size, 0, none⟩ = some (.slice (some ⟨b, off, none⟩) ns.length cap) ∧ W.cell? ⟨b, off + i * 16 + 12, none⟩ = some (.int .i64 ((j : Int) + 1)) ∧ W.cell? ⟨b, off + j * 16 + 11, none⟩ = some (.int .i64 ns[j].host)) (go_keep) (first
          | (go_at_call 149; refine hI.mono ?_; rintro e v2 ⟨rfl, hb2⟩; have hbw2 := Hbd.out.trans (hb2.mono (Hbd.out).size); have Hbx2 := hid (Hb1d.out.trans (hb2.mono (Hb1d.out).size)); have cb2 := box_forest Hbx2.out; obtain ⟨L4, hc4⟩ := HCi.out v2 hbw2; obtain ⟨L7, hc7⟩ := HCj.out v2 hbw2; have e4 := hc4.shadow; rw [Hje.out] at e4; have e7 := hc7.host; clear hb2 hc4 hc7)
          | (go_at_call 134; refine (HNj.out _).mono ?_; rintro e v5 ⟨rfl, hb5⟩; have hbw5 := hbw2.trans (hb5.mono hbw2.size); have cb5 := box_forest (Hbx2.out.trans (hb5.mono Hbx2.out.size)); obtain ⟨L5, hc5⟩ := HCi.out v5 hbw5; obtain ⟨L6, hc6⟩ := HCj.out v5 hbw5; have e5 := hc5.shadow; rw [Hje.out] at e5; have e6 := hc6.host; clear hb5 hc5 hc6))
        all_goals
          go_wp2_with fail
          go_ret
          exact ⟨rfl, hbw5⟩
end Go.Proofs.YtilacgcjbdkphaaGreat
