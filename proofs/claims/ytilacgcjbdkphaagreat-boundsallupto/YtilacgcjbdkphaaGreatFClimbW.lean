/- The walk of climb. -/
import Derived.Test.YtilacgcjbdkphaaGreatFClimb
namespace Go.Proofs.YtilacgcjbdkphaaGreat
open Go.RowKit Go.Lib

/-- A row of numbers of the call's own. -/
def IntsAt (w : World) (g : Nat) (l : List Int) : Prop := w.heap[g]? = some (.cells (l.map (Value.int .i64)).toArray 3 (0, 0))
theorem IntsAt.lt {w : World} {g : Nat} {l : List Int} (h : IntsAt w g l) : g < w.heap.size := (Array.getElem?_eq_some_iff.1 h).1
theorem IntsAt.cell {w : World} {g : Nat} {l : List Int} (h : IntsAt w g l) (j : Nat) (hj : j < l.length) : w.cell? ⟨g, j, none⟩ = some (.int .i64 (l.getD j 0)) := by
  rw [cell_of_heap h, List.getD_eq_getElem?_getD, List.getElem?_eq_getElem hj]
  simp [hj]
theorem IntsAt.frozen {w : World} {g : Nat} {l : List Int} (h : IntsAt w g l) (j : Nat) : w.frozen? ⟨g, j, none⟩ = false := frozen_of_heap h j
theorem IntsAt.later {w W : World} {g : Nat} {l : List Int} (h : IntsAt w g l) (hb : Below w.heap.size w W) : IntsAt W g l := (hb.block g h.lt).trans h
theorem IntsAt.put {w : World} {g : Nat} {l : List Int} (h : IntsAt w g l) (j : Nat) (v : Int) : IntsAt (w.setCell ⟨g, j, none⟩ (.int .i64 v)) g (l.set j v) := by
  unfold IntsAt at h ⊢
  have h2 : (w.setCell ⟨g, j, none⟩ (.int .i64 v)).heap[g]? = some (.cells ((l.map (Value.int .i64)).toArray.setIfInBounds j (.int .i64 v)) 3 (0, 0)) := by
    simp [World.setCell, Array.getElem?_modify, h]
  rw [h2, List.setIfInBounds_toArray, ← List.map_set]
theorem IntsAt.far {w : World} {g g' : Nat} {l : List Int} (h : IntsAt w g l) (j : Nat) (v : Value) (hne : g' ≠ g) : IntsAt (w.setCell ⟨g', j, none⟩ v) g l := by
  unfold IntsAt at h ⊢
  rw [← h]
  simp [World.setCell, Array.getElem?_modify, hne]
theorem BoolsAt.cellD {w : World} {g : Nat} {l : List Bool} (h : BoolsAt w g l) (j : Nat) (d : Bool) (hj : j < l.length) : w.cell? ⟨g, j, none⟩ = some (.bool (l.getD j d)) := by
  rw [h.cell j hj, List.getD_eq_getElem?_getD, List.getElem?_eq_getElem hj]
  rfl

/-- Does going up end, or come where there is an end? -/
def stopB (ns : List NodeD) (h : Int) (en : List Bool) (r : List Int × Int) : Bool := match nodeOf ns r.2 with
  | none => true
  | some _ => !(r.1.getD (r.2 - 1).toNat 0 == h) && !en.getD (r.2 - 1).toNat true
def climbD (ns : List NodeD) (h : Int) (sn : List Int) (en : List Bool) : List Int × List Bool :=
  ((upTo ns h (ns.length + 1) sn h).1, if stopB ns h en (upTo ns h (ns.length + 1) sn h) then en else markTo ns (ns.length + 2) en h)

set_option maxRecDepth 100000 in
set_option maxHeartbeats 4000000 in
theorem climb_any (b off cap bl bm be g i : Nat) (ns : List NodeD) (en : List Bool) (sn0 : List Int) (w0 w : World) (hF : FAt w0 b off cap ns) (hB : Below w0.heap.size w0 w) (hi : i < ns.length)
    (he : BoolsAt w be en) (hs : IntsAt w g sn0) (hel : en.length = ns.length) (hsl : sn0.length = ns.length) (ge : w0.heap.size ≤ be) (gs : w0.heap.size ≤ g) (hne : be ≠ g) (hfr : ∀ j, sn0.getD j 0 ≠ (i : Int) + 1) :
    Calls Tryz.prog 133 #[surveyV b off cap ns.length bl bm be, .int .i64 ((i : Int) + 1), .slice (some ⟨g, 0, none⟩) ns.length ns.length] w fun e w' => e = .returned (.tuple #[]) ∧ Wrote [be, g] w w' ∧ IntsAt w' g (climbD ns ((i : Int) + 1) sn0 en).1 ∧ BoolsAt w' be (climbD ns ((i : Int) + 1) sn0 en).2 := by
  have HA : Hid (∀ (j : Nat) (W : World), FAt W b off cap ns → (hj : j < ns.length) → _) := fun j W hW hj => above_any b off cap j ns W hW hj
  have HT : Hid (∀ (x : Int) (W : World), _) := fun x W => there_one (some ⟨b, off, none⟩) cap ns.length x W hF.len
  have HF := hid hF
  have hle := hF.len
  have hbe : be < w.heap.size := he.lt
  have hgs : g < w.heap.size := hs.lt
  have hw0 : w0.heap.size ≤ w.heap.size := hB.size
  have HB0 := hid hB
  have HMk : Hid (∀ sn x, upTo ns ((i : Int) + 1) (ns.length + 1) sn0 ((i : Int) + 1) = (sn, x) → (∃ n, nodeOf ns x = some n) → (sn.getD (x - 1).toNat 0 = (i : Int) + 1 ∨ en.getD (x - 1).toNat true = true) → MarkOK ns (ns.length + 2) en ((i : Int) + 1)) := fun sn x hup h3 h4 =>
    mark_of_up ns ((i : Int) + 1) (by omega) en (ns.length + 1) sn0 ((i : Int) + 1) en hsl hel (fun j _ hj => absurd hj (hfr j)) (fun j _ hj => hj) (by rw [hup]; exact h3) (by rw [hup]; exact h4)
  obtain ⟨CD, hCD⟩ : ∃ CD, climbD ns ((i : Int) + 1) sn0 en = CD := ⟨_, rfl⟩
  rw [hCD]
  unfold climbD at hCD
  obtain ⟨R, hR⟩ : ∃ R, upTo ns ((i : Int) + 1) (ns.length + 1) sn0 ((i : Int) + 1) = R := ⟨_, rfl⟩
  obtain ⟨M, hM⟩ : ∃ M, markTo ns (ns.length + 2) en ((i : Int) + 1) = M := ⟨_, rfl⟩
  rw [hR, hM] at hCD
  rw [hR] at HMk
  have HCd := hid hCD
  have HR := hid hR
  have HM := hid hM
  clear hCD
  have hz0 := zeros_le sn0
  unfold surveyV forestV at *
  have hb0 : Below w.heap.size w (w.alloc (.cells #[.slice (some ⟨b, off, none⟩) ns.length cap, .slice (some ⟨bl, 0, none⟩) ns.length ns.length, .slice (some ⟨bm, 0, none⟩) ns.length ns.length, .slice (some ⟨be, 0, none⟩) ns.length ns.length] 152)) := (Below.refl _ w).alloc (Nat.le_refl _) _
  have Hs0 := hid (hs.later hb0)
  have He0 := hid (he.later hb0)
  have hbn : w.heap.size ∉ [be, g] := by simp; omega
  have Hbw : Hid (∀ W, Wrote [be, g] (w.alloc (.cells #[.slice (some ⟨b, off, none⟩) ns.length cap, .slice (some ⟨bl, 0, none⟩) ns.length ns.length, .slice (some ⟨bm, 0, none⟩) ns.length ns.length, .slice (some ⟨be, 0, none⟩) ns.length ns.length] 152)) W → Below w0.heap.size w0 W) := fun W hW =>
    (HB0.out.alloc hw0 _).trans (hW.toBelow (by simp; omega) (by intro x hx; simp at hx; omega))
  have Hfin : Hid (∀ W, Wrote [be, g] (w.alloc (.cells #[.slice (some ⟨b, off, none⟩) ns.length cap, .slice (some ⟨bl, 0, none⟩) ns.length ns.length, .slice (some ⟨bm, 0, none⟩) ns.length ns.length, .slice (some ⟨be, 0, none⟩) ns.length ns.length] 152)) W → Wrote [be, g] w W) := fun W hW =>
    ⟨hW.os, hW.tape, hW.output, by have := hW.size; simp at this; omega, fun k hk hn => (hW.block k (by simp; omega) hn).trans (by rw [alloc_old w _ k hk])⟩
  have Hcb : Hid (∀ W, Wrote [be, g] (w.alloc (.cells #[.slice (some ⟨b, off, none⟩) ns.length cap, .slice (some ⟨bl, 0, none⟩) ns.length ns.length, .slice (some ⟨bm, 0, none⟩) ns.length ns.length, .slice (some ⟨be, 0, none⟩) ns.length ns.length] 152)) W → W.cell? ⟨w.heap.size, 0, none⟩ = some (Value.slice (some ⟨b, off, none⟩) ns.length cap) ∧ W.cell? ⟨w.heap.size, 3, none⟩ = some (Value.slice (some ⟨be, 0, none⟩) ns.length ns.length)) := fun W hW =>
    ⟨(hW.cell w.heap.size 0 (by simp) hbn).trans (by simp), (hW.cell w.heap.size 3 (by simp) hbn).trans (by simp)⟩
  have Hmt : Hid (∀ wr v2 : World, ∀ x : Int, Below (wr.alloc (.cells #[.int .i64 x] 3)).heap.size (wr.alloc (.cells #[.int .i64 x] 3)) v2 → Below wr.heap.size wr v2) := fun wr v2 x hb => ((Below.refl _ wr).alloc (Nat.le_refl _) _).trans (hb.mono (by simp))
  clear hF hB he hs hR hM hb0 hfr
  go_enter Tryz.func133, Tryz.ntmps133
  go_wp2
  go_loopg [6] (ns.length + 1) (fun gk t wx => ∃ (sn : List Int) (x : Int), t = .int .i64 x ∧ Wrote [be, g] (w.alloc (.cells #[.slice (some ⟨b, off, none⟩) ns.length cap, .slice (some ⟨bl, 0, none⟩) ns.length ns.length, .slice (some ⟨bm, 0, none⟩) ns.length ns.length, .slice (some ⟨be, 0, none⟩) ns.length ns.length] 152)) wx ∧ BoolsAt wx be en ∧ IntsAt wx g sn ∧ sn.length = ns.length ∧ zeros sn < gk ∧ Hid (upTo ns ((i : Int) + 1) gk sn x = R))
  case atStart => exact ⟨sn0, _, rfl, Wrote.refl _ _, He0.out, Hs0.out, hsl, by omega, HR.out⟩
  case round =>
    obtain ⟨sn, x, rfl, hW, hE, hS, hsn, hgk, hup⟩ := hrel
    obtain ⟨g', rfl⟩ : ∃ g', gk = g' + 1 := ⟨gk - 1, by omega⟩
    have cb := (Hcb.out wr hW).1
    have hT := HT.out x wr
    have HW := hid hW
    have HE := hid hE
    have HS := hid hS
    clear hW hE hS He0 Hs0
    cases ht : thereB ns.length x with
    | false =>
      have hnn : nodeOf ns x = none := by unfold nodeOf; rw [ht]; rfl
      have hRe : R = (sn, x) := by rw [← hup.out]; unfold upTo; rw [hnn]
      have hCe : CD = (sn, en) := by rw [← HCd.out, hRe]; unfold stopB; rw [hnn]; rfl
      subst hCe
      rw [ht] at hT
      have Ht := hid ht
      clear ht hup hRe HCd HR HM HMk
      go_wp2_with fail
      refine hT.mono ?_
      rintro e v2 ⟨rfl, hb2⟩
      have hb2' := Hmt.out wr v2 x hb2
      have hW2 := HW.out.below hb2'
      have cb2 := (Hcb.out v2 hW2).1
      have hT2 := HT.out x v2
      rw [Ht.out] at hT2
      have HW2 := hid hW2
      have Hb2 := hid hb2'
      clear hb2 hb2' hW2 hT cb
      go_wp2_with fail
      refine hT2.mono ?_
      rintro e v3 ⟨rfl, hb3⟩
      have hb3' := Hb2.out.trans ((Hmt.out v2 v3 x hb3).mono Hb2.out.size)
      have HFi := hid (Hfin.out v3 (HW.out.below hb3'))
      have HE3 := hid (HE.out.later hb3')
      have HS3 := hid (HS.out.later hb3')
      clear hb3 hb3' hT2 cb2
      go_wp2
      (try simp only [Exit.inBlock, Exit.then])
      refine bodyPost_ret (results_none rfl _ _ _) rfl ?_
      exact ⟨rfl, HFi.out, HS3.out, HE3.out⟩
    | true =>
      obtain ⟨j, hj, hje⟩ := there_idx ht
      subst hje
      have hjx : (((j : Int) + 1) - 1).toNat = j := by omega
      have hup' := hup.out
      unfold upTo at hup'
      rw [nodeOf_at ns j hj] at hup'
      simp only [hjx] at hup'
      have Hup := hid hup'
      have q3 : (0 : Int) ≤ (j : Int) := by omega
      have q4 : (j : Int) < (ns.length : Int) := by omega
      have hjs : j < sn.length := by omega
      have hje2 : j < en.length := by omega
      rw [ht] at hT
      have Ht := hid ht
      clear hup hup' ht
      obtain ⟨v, hv⟩ : ∃ v, sn.getD j 0 = v := ⟨_, rfl⟩
      rw [hv] at Hup
      have Hv := hid hv
      clear hv
      cases h0 : (v == 0) with
      | true =>
        have h0' : sn.getD j 0 = 0 := Hv.out.trans (by simpa using h0)
        have Hv0 := hid h0'
        have hz := zeros_set sn j ((i : Int) + 1) hjs h0' (by omega)
        have Hn : Hid (upTo ns ((i : Int) + 1) g' (sn.set j ((i : Int) + 1)) (aboveD ns[j]) = R) := by
          have h := Hup.out
          rw [h0, if_pos rfl] at h
          exact h
        have Hz := hid hz
        clear Hup hz h0' HCd HR HM HMk
        go_wp2_with fail
        refine hT.mono ?_
        rintro e v2 ⟨rfl, hb2⟩
        have hb2' := Hmt.out wr v2 _ hb2
        have hW2 := HW.out.below hb2'
        have hS2 := HS.out.later hb2'
        have hE2 := HE.out.later hb2'
        have c2 := hS2.cell j hjs
        rw [Hv0.out] at c2
        have f2 := hS2.frozen j
        have hW3 := hW2.put (g := g) (by simp) j (.int .i64 ((i : Int) + 1))
        have hS3 := hS2.put j ((i : Int) + 1)
        have hE3 := hE2.far j (.int .i64 ((i : Int) + 1)) (Ne.symm hne)
        have cb2 := (Hcb.out v2 hW2).1
        have hgw : ¬ g = w.heap.size := by omega
        have hA := HA.out j _ (HF.out.later (Hbw.out _ hW3)) hj
        have HW3 := hid hW3
        have HS3 := hid hS3
        have HE3 := hid hE3
        clear hb2 hb2' hW2 hS2 hE2 hW3 hS3 hE3 hT cb
        go_wp2_with fail
        refine hA.mono ?_
        rintro e v4 ⟨rfl, hb4⟩
        have HW4 := hid (HW3.out.below hb4)
        have HS4 := hid (HS3.out.later hb4)
        have HE4 := hid (HE3.out.later hb4)
        clear hb4 cb2 c2 f2
        go_wp2
        go_roundg g'
        case measure => omega
        case rel => exact ⟨_, _, rfl, HW4.out, HE4.out, HS4.out, by simpa using hsn, by have := Hz.out; omega, Hn⟩
      | false =>
        have hRe : R = (sn, (j : Int) + 1) := by
          have h := Hup.out
          rw [h0, if_neg Bool.false_ne_true] at h
          exact h.symm
        have hst : stopB ns ((i : Int) + 1) en (sn, (j : Int) + 1) = (!(sn.getD j 0 == (i : Int) + 1) && !en.getD j true) := by
          unfold stopB
          simp only [nodeOf_at ns j hj, hjx]
        rw [Hv.out] at hst
        have HC2 : Hid ((sn, if (!(v == (i : Int) + 1) && !en.getD j true) then en else M) = CD) := by
          have h := HCd.out
          rw [hRe, hst] at h
          exact h
        have HMk2 : Hid ((v = (i : Int) + 1 ∨ en.getD j true = true) → MarkOK ns (ns.length + 2) en ((i : Int) + 1)) := fun h4 =>
          HMk.out sn ((j : Int) + 1) hRe ⟨_, nodeOf_at ns j hj⟩ (by rw [hjx, Hv.out]; exact h4)
        have hpn : (v != (i : Int) + 1) = !(v == (i : Int) + 1) := rfl
        clear hRe hst Hup HCd HMk HR
        have HT2 := hid (HT.out ((j : Int) + 1))
        cases hq : (v == (i : Int) + 1) <;> cases hej : en.getD j true
        case false.false =>
          have hCe : CD = (sn, en) := by rw [← HC2.out, hq, hej]; rfl
          subst hCe
          rw [hq] at hpn
          clear HC2 HMk2
          go_wp2_with fail
          refine hT.mono ?_
          rintro e v2 ⟨rfl, hb2⟩
          have hb2' := Hmt.out wr v2 _ hb2
          have hW2 := HW.out.below hb2'
          have c2 := (HS.out.later hb2').cell j hjs
          rw [Hv.out] at c2
          have cb2 := (Hcb.out v2 hW2).1
          have hT2 := HT2.out v2
          rw [Ht.out] at hT2
          have Hb2 := hid hb2'
          clear hb2 hb2' hW2 hT cb
          go_wp2_with fail
          refine hT2.mono ?_
          rintro e v3 ⟨rfl, hb3⟩
          have hb3' := Hb2.out.trans ((Hmt.out v2 v3 _ hb3).mono Hb2.out.size)
          have hW3 := HW.out.below hb3'
          have c3 := (HS.out.later hb3').cell j hjs
          rw [Hv.out] at c3
          have c4 := (HE.out.later hb3').cellD j true hje2
          rw [hej] at c4
          have cb3 := (Hcb.out v3 hW3).2
          have HFi := hid (Hfin.out v3 hW3)
          have HE3 := hid (HE.out.later hb3')
          have HS3 := hid (HS.out.later hb3')
          clear hb3 hb3' hT2 cb2 c2 hW3
          go_wp2
          (try simp only [Exit.inBlock, Exit.then])
          refine bodyPost_ret (results_none rfl _ _ _) rfl ?_
          exact ⟨rfl, HFi.out, HS3.out, HE3.out⟩
        all_goals
          have hOK := HMk2.out (by first | exact .inl (by simpa using hq) | exact .inr hej)
          have hCe : CD = (sn, M) := by rw [← HC2.out, hq, hej]; rfl
          subst hCe
          rw [hq] at hpn
          have HOK := hid hOK
          clear HC2 HMk2 hOK
          go_wp2_with fail
          refine hT.mono ?_
          rintro e v2 ⟨rfl, hb2⟩
          have hb2' := Hmt.out wr v2 _ hb2
          have hW2 := HW.out.below hb2'
          have c2 := (HS.out.later hb2').cell j hjs
          rw [Hv.out] at c2
          have cb2 := (Hcb.out v2 hW2).1
          have hT2 := HT2.out v2
          rw [Ht.out] at hT2
          have Hb2 := hid hb2'
          clear hb2 hb2' hW2 hT cb
          go_wp2_with fail
          refine hT2.mono ?_
          rintro e v3 ⟨rfl, hb3⟩
          have hb3' := Hb2.out.trans ((Hmt.out v2 v3 _ hb3).mono Hb2.out.size)
          have hW3 := HW.out.below hb3'
          have c3 := (HS.out.later hb3').cell j hjs
          rw [Hv.out] at c3
          have c4 := (HE.out.later hb3').cellD j true hje2
          rw [hej] at c4
          have cb3 := (Hcb.out v3 hW3).2
          have HW3 := hid hW3
          have HE3 := hid (HE.out.later hb3')
          have HS3 := hid (HS.out.later hb3')
          clear hb3 hb3' hT2 cb2 c2 hW3 HW HE HS Hb2
          go_wp2
          go_loopg [6] (ns.length + 2) (fun gk t wx => ∃ (en' : List Bool) (x : Int), t = .int .i64 x ∧ Wrote [be, g] (w.alloc (.cells #[.slice (some ⟨b, off, none⟩) ns.length cap, .slice (some ⟨bl, 0, none⟩) ns.length ns.length, .slice (some ⟨bm, 0, none⟩) ns.length ns.length, .slice (some ⟨be, 0, none⟩) ns.length ns.length] 152)) wx ∧ BoolsAt wx be en' ∧ IntsAt wx g sn ∧ en'.length = ns.length ∧ Hid (MarkOK ns gk en' x) ∧ Hid (markTo ns gk en' x = M))
          case atStart => exact ⟨en, _, rfl, HW3.out, HE3.out, HS3.out, hel, HOK, HM⟩
          case round =>
            obtain ⟨en', x, rfl, hW, hE, hS, hel', hok, hmk⟩ := hrel
            clear c3 c4 cb3 hej hq h0 hpn HOK HM HE3 HS3 HW3 HT2 Ht
            cases gk with
            | zero => exact hok.out.elim
            | succ g2 =>
              obtain ⟨n, hn, hor⟩ := hok.out
              obtain ⟨j2, hj2, rfl, rfl⟩ := nodeOf_idx hn
              have hjx2 : (((j2 : Int) + 1) - 1).toNat = j2 := by omega
              have hmk' := hmk.out
              unfold markTo at hmk'
              rw [hn] at hmk'
              simp only [hjx2] at hmk'
              rw [hjx2] at hor
              have hjl2 : j2 < en'.length := by omega
              have cE := hE.cellD j2 true hjl2
              have fE := hE.frozen j2
              obtain ⟨cb, cb4⟩ := Hcb.out wr hW
              have q5 : (0 : Int) ≤ (j2 : Int) := by omega
              have q6 : (j2 : Int) < (ns.length : Int) := by omega
              have HW := hid hW
              have HE := hid hE
              have HS := hid hS
              have Hmk := hid hmk'
              clear hmk hmk' hok hW hE hS hn
              rcases hor with ht | ⟨ht, hnext⟩
              · have hMe : M = en' := by rw [← Hmk.out, ht]; rfl
                subst hMe
                rw [ht] at cE
                have HFi := hid (Hfin.out wr HW.out)
                clear Hmk ht
                go_wp2
                go_end0
                exact ⟨rfl, HFi.out, HS.out, HE.out⟩
              · have Hn2 : Hid (markTo ns g2 (en'.set j2 true) (aboveD ns[j2]) = M) := by
                  have h := Hmk.out
                  rw [ht, if_neg Bool.false_ne_true] at h
                  exact h
                have Hnx := hid hnext
                rw [ht] at cE
                have hW4 := HW.out.put (g := be) (by simp) j2 (.bool true)
                have hA := HA.out j2 _ (HF.out.later (Hbw.out _ hW4)) hj2
                have HW4 := hid hW4
                have HE4 := hid (HE.out.put j2 true)
                have HS4 := hid (HS.out.far j2 (.bool true) hne)
                have hbew : ¬ be = w.heap.size := by omega
                clear Hmk ht hnext hW4 HW HE HS
                go_wp2_with fail
                refine hA.mono ?_
                rintro e v5 ⟨rfl, hb5⟩
                have HW5 := hid (HW4.out.below hb5)
                have HE5 := hid (HE4.out.later hb5)
                have HS5 := hid (HS4.out.later hb5)
                clear hb5 cb cb4 cE fE
                go_wp2
                go_roundg g2
                case measure => omega
                case rel => exact ⟨_, _, rfl, HW5.out, HE5.out, HS5.out, by simpa using hel', Hnx, Hn2⟩
end Go.Proofs.YtilacgcjbdkphaaGreat
