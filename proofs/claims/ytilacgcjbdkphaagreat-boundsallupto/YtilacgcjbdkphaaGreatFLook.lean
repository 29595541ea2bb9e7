/- The walk of lookAtKids. -/
import Derived.Test.YtilacgcjbdkphaaGreatFSurvey
namespace Go.Proofs.YtilacgcjbdkphaaGreat
open Go.RowKit Go.Lib

/-- Behind writes into some blocks all else is as it was. -/
structure Wrote (S : List Nat) (w w' : World) : Prop where
  os : w'.os = w.os
  tape : w'.tape = w.tape
  output : w'.output = w.output
  size : w.heap.size ≤ w'.heap.size
  block : ∀ k, k < w.heap.size → k ∉ S → w'.heap[k]? = w.heap[k]?
theorem Wrote.refl (S : List Nat) (w : World) : Wrote S w w := ⟨rfl, rfl, rfl, Nat.le_refl _, fun _ _ _ => rfl⟩
theorem Wrote.below {S : List Nat} {w w' W : World} (h : Wrote S w w') (hb : Below w'.heap.size w' W) : Wrote S w W :=
  ⟨hb.os.trans h.os, hb.tape.trans h.tape, hb.output.trans h.output, Nat.le_trans h.size hb.size, fun k hk hn => (hb.block k (Nat.lt_of_lt_of_le hk h.size)).trans (h.block k hk hn)⟩
theorem Wrote.put {S : List Nat} {w w' : World} (h : Wrote S w w') {g : Nat} (hg : g ∈ S) (j : Nat) (v : Value) : Wrote S w (w'.setCell ⟨g, j, none⟩ v) := by
  refine ⟨h.os, h.tape, h.output, by simpa [World.setCell] using h.size, fun k hk hn => ?_⟩
  have hne : g ≠ k := fun e => hn (e ▸ hg)
  rw [← h.block k hk hn]
  simp [World.setCell, Array.getElem?_modify, hne]
theorem Wrote.toBelow {S : List Nat} {w w' : World} (h : Wrote S w w') {B : Nat} (hB : B ≤ w.heap.size) (hS : ∀ g ∈ S, B ≤ g) : Below B w w' :=
  ⟨h.os, h.tape, h.output, h.size, fun k hk => h.block k (Nat.lt_of_lt_of_le hk hB) (fun hm => by have := hS k hm; omega)⟩
theorem Wrote.cell {S : List Nat} {w w' : World} (h : Wrote S w w') (g j : Nat) (hg : g < w.heap.size) (hn : g ∉ S) : w'.cell? ⟨g, j, none⟩ = w.cell? ⟨g, j, none⟩ := by
  unfold World.cell?
  rw [h.block g hg hn]

/-- What becomes of the lists by a kid. -/
def lookStep (ns : List NodeD) (i : Nat) (s : List Bool × List Bool) (x : Int) : List Bool × List Bool :=
  match nodeOf ns x with
  | some n => if n.parent == (i : Int) + 1 && !s.1.getD (x - 1).toNat false then (s.1.set (x - 1).toNat true, s.2) else (s.1, s.2.set i true)
  | none => (s.1, s.2.set i true)
def lookTo (ns : List NodeD) (i : Nat) (kids : List Int) (s : List Bool × List Bool) (k : Nat) : List Bool × List Bool := (kids.take k).foldl (lookStep ns i) s
theorem lookTo_succ (ns : List NodeD) (i : Nat) (kids : List Int) (s : List Bool × List Bool) (k : Nat) (h : k < kids.length) : lookTo ns i kids s (k + 1) = lookStep ns i (lookTo ns i kids s k) kids[k] := by
  unfold lookTo
  rw [List.take_add_one, List.getElem?_eq_getElem h, List.foldl_append]
  rfl
theorem lookStep_len (ns : List NodeD) (i : Nat) (s : List Bool × List Bool) (x : Int) : (lookStep ns i s x).1.length = s.1.length ∧ (lookStep ns i s x).2.length = s.2.length := by
  unfold lookStep
  split
  · split <;> simp
  · simp
theorem lookTo_len (ns : List NodeD) (i : Nat) (kids : List Int) (s : List Bool × List Bool) : ∀ k, k ≤ kids.length → (lookTo ns i kids s k).1.length = s.1.length ∧ (lookTo ns i kids s k).2.length = s.2.length
  | 0, _ => ⟨rfl, rfl⟩
  | k + 1, h => by
    have ih := lookTo_len ns i kids s k (by omega)
    rw [lookTo_succ ns i kids s k (by omega)]
    have := lookStep_len ns i (lookTo ns i kids s k) kids[k]
    omega

set_option maxRecDepth 100000 in
set_option maxHeartbeats 4000000 in
theorem lookAtKids_any (b off cap bl bm be i : Nat) (ns : List NodeD) (l m : List Bool) (w0 w : World) (hF : FAt w0 b off cap ns) (hB : Below w0.heap.size w0 w) (hi : i < ns.length) (hkl : ns[i].kids.length ≤ 1099511627776)
    (hl : BoolsAt w bl l) (hm : BoolsAt w bm m) (hll : l.length = ns.length) (hml : m.length = ns.length) (gl : w0.heap.size ≤ bl) (gm : w0.heap.size ≤ bm) (hne : bl ≠ bm) :
    Calls Tryz.prog 132 #[surveyV b off cap ns.length bl bm be, .int .i64 ((i : Int) + 1)] w fun e w' => e = .returned (.tuple #[]) ∧ Wrote [bl, bm] w w' ∧ BoolsAt w' bl (lookTo ns i ns[i].kids (l, m) ns[i].kids.length).1 ∧ BoolsAt w' bm (lookTo ns i ns[i].kids (l, m) ns[i].kids.length).2 := by
  have HN : Hid (∀ (j : Nat) (W : World), j < ns.length → _) := fun j W hj => node_any b off cap ns.length j W hj hF.len
  have HC : Hid (∀ (j : Nat) (hj : j < ns.length) (W : World), Below w0.heap.size w0 W → ∃ L, NodeCells W b (off + j * 16) ns[j] L) := fun j hj W hW => by
    obtain ⟨L, hc, _⟩ := hF.at_ j hj
    exact ⟨L, hc.later hF.lt hW⟩
  have HT : Hid (∀ (x : Int) (W : World), _) := fun x W => there_one (some ⟨b, off, none⟩) cap ns.length x W hF.len
  obtain ⟨L0, hc0, _, _, hrk⟩ := hF.at_ i hi
  have Hc0 := hid hc0
  have hle := hF.len
  have hbl := hF.lt
  obtain ⟨o, c, hko, hcap, g⟩ := hrk
  have hbs : bl < w.heap.size := hl.lt
  have hms : bm < w.heap.size := hm.lt
  have hlen := lookTo_len ns i ns[i].kids (l, m)
  have hsucc := lookTo_succ ns i ns[i].kids (l, m)
  have Hlen := hid hlen
  have Hsucc := hid hsucc
  unfold surveyV forestV at *
  generalize hK : ns[i].kids = kids at *
  have hw0 : w0.heap.size ≤ w.heap.size := hB.size
  have HB0 := hid hB
  have Hl := hid hl
  have Hm := hid hm
  clear hlen hsucc hc0 hB hl hm hF
  have hN0 := HN.out i (w.alloc (.cells #[.slice (some ⟨b, off, none⟩) ns.length cap, .slice (some ⟨bl, 0, none⟩) ns.length ns.length, .slice (some ⟨bm, 0, none⟩) ns.length ns.length, .slice (some ⟨be, 0, none⟩) ns.length ns.length] 152)) hi
  go_enter Tryz.func132, Tryz.ntmps132
  go_wp2_with fail
  refine hN0.mono ?_
  rintro e v1 ⟨rfl, hb1⟩
  have hbn : w.heap.size ∉ [bl, bm] := by simp; omega
  have HW0 := hid ((Wrote.refl [bl, bm] (w.alloc (.cells #[.slice (some ⟨b, off, none⟩) ns.length cap, .slice (some ⟨bl, 0, none⟩) ns.length ns.length, .slice (some ⟨bm, 0, none⟩) ns.length ns.length, .slice (some ⟨be, 0, none⟩) ns.length ns.length] 152))).below hb1)
  have Hbw : Hid (∀ W, Wrote [bl, bm] (w.alloc (.cells #[.slice (some ⟨b, off, none⟩) ns.length cap, .slice (some ⟨bl, 0, none⟩) ns.length ns.length, .slice (some ⟨bm, 0, none⟩) ns.length ns.length, .slice (some ⟨be, 0, none⟩) ns.length ns.length] 152)) W → Below w0.heap.size w0 W) := fun W hW =>
    (HB0.out.alloc hw0 _).trans (hW.toBelow (by simp; omega) (by intro x hx; simp at hx; omega))
  have c1 := (Hc0.out.later hbl (Hbw.out v1 HW0.out)).kids
  rw [hko] at c1
  have Hl1 := hid (((Hl.out.later ((Below.refl _ w).alloc (Nat.le_refl _) (.cells #[.slice (some ⟨b, off, none⟩) ns.length cap, .slice (some ⟨bl, 0, none⟩) ns.length ns.length, .slice (some ⟨bm, 0, none⟩) ns.length ns.length, .slice (some ⟨be, 0, none⟩) ns.length ns.length] 152))).later hb1))
  have Hm1 := hid (((Hm.out.later ((Below.refl _ w).alloc (Nat.le_refl _) (.cells #[.slice (some ⟨b, off, none⟩) ns.length cap, .slice (some ⟨bl, 0, none⟩) ns.length ns.length, .slice (some ⟨bm, 0, none⟩) ns.length ns.length, .slice (some ⟨be, 0, none⟩) ns.length ns.length] 152))).later hb1))
  have Hfin : Hid (∀ W, Wrote [bl, bm] (w.alloc (.cells #[.slice (some ⟨b, off, none⟩) ns.length cap, .slice (some ⟨bl, 0, none⟩) ns.length ns.length, .slice (some ⟨bm, 0, none⟩) ns.length ns.length, .slice (some ⟨be, 0, none⟩) ns.length ns.length] 152)) W → Wrote [bl, bm] w W) := fun W hW =>
    ⟨hW.os, hW.tape, hW.output, by have := hW.size; simp at this; omega, fun k hk hn => (hW.block k (by simp; omega) hn).trans (by rw [alloc_old w _ k hk])⟩
  clear hb1 hN0 Hl Hm
  have hz : lookTo ns i kids (l, m) 0 = (l, m) := rfl
  go_wp2
  go_loopw [14] (fun q wr => ∃ k : Nat, k ≤ kids.length ∧ q = .int .i64 k ∧ Wrote [bl, bm] (w.alloc (.cells #[.slice (some ⟨b, off, none⟩) ns.length cap, .slice (some ⟨bl, 0, none⟩) ns.length ns.length, .slice (some ⟨bm, 0, none⟩) ns.length ns.length, .slice (some ⟨be, 0, none⟩) ns.length ns.length] 152)) wr ∧ BoolsAt wr bl (lookTo ns i kids (l, m) k).1 ∧ BoolsAt wr bm (lookTo ns i kids (l, m) k).2) (fun q _ => kids.length - (RowKit.intOf q).toNat)
  case atStart => exact ⟨0, Nat.zero_le _, rfl, HW0.out, Hl1.out, Hm1.out⟩
  case round =>
    obtain ⟨k, hk, rfl, hW, hL, hM⟩ := hrel
    clear c1 Hl1 Hm1 HW0 hz
    by_cases hlt : k < kids.length
    · obtain ⟨b2, off2, rfl, hlt2, ha⟩ := g (by omega)
      have hx := ((Hbw.out wr hW).cell (p := ⟨b2, off2 + k, none⟩) hlt2).trans (ha k hlt)
      obtain ⟨len1, len2⟩ := Hlen.out k hk
      have hsc := Hsucc.out k hlt
      have hT := HT.out kids[k] wr
      have cb := (hW.cell w.heap.size 0 (by simp) hbn).trans (by simp : _ = some (Value.slice (some ⟨b, off, none⟩) ns.length cap))
      have hWs := hW.size
      simp at hWs
      clear ha g
      generalize lookTo ns i kids (l, m) k = s at *
      generalize hS1 : lookTo ns i kids (l, m) (k + 1) = s' at hsc
      have HS1 := hid hS1
      clear hS1
      obtain ⟨lk, mk⟩ := s
      simp only at hL hM len1 len2
      generalize kids[k] = x at *
      have Hsc := hid hsc
      have HW := hid hW
      have HL := hid hL
      have HM := hid hM
      clear hsc hW hL hM Hlen Hsucc
      have q1 : (0 : Int) ≤ (i : Int) := by omega
      have q2 : (i : Int) < (ns.length : Int) := by omega
      cases ht : thereB ns.length x with
      | false =>
        have hs' : s' = (lk, mk.set i true) := by rw [Hsc.out]; unfold lookStep nodeOf; rw [ht]; rfl
        subst hs'
        rw [ht] at hT
        clear Hsc ht
        go_wp2_with fail
        refine hT.mono ?_
        rintro e v2 ⟨rfl, hb2⟩
        have hb2' : Below wr.heap.size wr v2 := ((Below.refl _ wr).alloc (Nat.le_refl _) _).trans (hb2.mono (by simp))
        have hW2 := HW.out.below hb2'
        have hL2 := HL.out.later hb2'
        have hM2 := HM.out.later hb2'
        have f2 := hM2.frozen i
        have c2 := hM2.cell i (by omega)
        have u2 := (hW2.cell w.heap.size 2 (by simp) hbn).trans (by simp : _ = some (Value.slice (some ⟨bm, 0, none⟩) ns.length ns.length))
        clear hb2 hb2' hT
        go_wp2
        go_roundw
        case rel => exact ⟨k + 1, by omega, by go_num, hW2.put (by simp) _ _, by rw [HS1.out]; exact hL2.far _ _ (Ne.symm hne), by rw [HS1.out]; exact hM2.put i true⟩
        case measure => simp [RowKit.intOf]; omega
      | true =>
        obtain ⟨j, hj, hje⟩ := there_idx ht
        subst hje
        have hjl : j < lk.length := by omega
        have hjx : (((j : Int) + 1) - 1).toNat = j := by omega
        have hs' : s' = if ns[j].parent == (i : Int) + 1 && !lk.getD j false then (lk.set j true, mk) else (lk, mk.set i true) := by rw [Hsc.out]; unfold lookStep; rw [nodeOf_at ns j hj]; simp only [hjx]
        have hge : lk.getD j false = lk[j]'hjl := by rw [List.getD_eq_getElem?_getD, List.getElem?_eq_getElem hjl]; rfl
        rw [hge] at hs'
        have Hs' := hid hs'
        rw [ht] at hT
        have HNj := hid (fun W => HN.out j W hj)
        have HCj := hid (HC.out j hj)
        have q3 : (0 : Int) ≤ (j : Int) := by omega
        have q4 : (j : Int) < (ns.length : Int) := by omega
        have hpn : (ns[j].parent != (i : Int) + 1) = !(ns[j].parent == (i : Int) + 1) := rfl
        clear Hsc ht hs' hge hjx
        cases hp : (ns[j].parent == (i : Int) + 1) with
        | false =>
          have hs2 : s' = (lk, mk.set i true) := by rw [Hs'.out, hp]; rfl
          subst hs2
          rw [hp] at hpn
          clear Hs'
          go_wp2_with fail
          refine hT.mono ?_
          rintro e v2 ⟨rfl, hb2⟩
          have hb2' : Below wr.heap.size wr v2 := ((Below.refl _ wr).alloc (Nat.le_refl _) _).trans (hb2.mono (by simp))
          have hW2 := HW.out.below hb2'
          have u0 := (hW2.cell w.heap.size 0 (by simp) hbn).trans (by simp : _ = some (Value.slice (some ⟨b, off, none⟩) ns.length cap))
          have Hb2 := hid hb2'
          clear hb2 hb2' hT
          go_wp2_with fail
          refine (HNj.out _).mono ?_
          rintro e v3 ⟨rfl, hb3⟩
          have hb3' : Below wr.heap.size wr v3 := Hb2.out.trans (hb3.mono Hb2.out.size)
          have hW3 := HW.out.below hb3'
          have hL3 := HL.out.later hb3'
          have hM3 := HM.out.later hb3'
          have f3 := hM3.frozen i
          have c3 := hM3.cell i (by omega)
          have u3 := (hW3.cell w.heap.size 2 (by simp) hbn).trans (by simp : _ = some (Value.slice (some ⟨bm, 0, none⟩) ns.length ns.length))
          obtain ⟨L, hc⟩ := HCj.out v3 (Hbw.out v3 hW3)
          have e3 := hc.parent
          clear hb3 hb3' hc u0 hW2
          go_wp2
          go_roundw
          case rel => exact ⟨k + 1, by omega, by go_num, hW3.put (by simp) _ _, by rw [HS1.out]; exact hL3.far _ _ (Ne.symm hne), by rw [HS1.out]; exact hM3.put i true⟩
          case measure => simp [RowKit.intOf]; omega
        | true =>
          rw [hp] at hpn
          cases hlj : lk[j] with
          | true =>
            have hs2 : s' = (lk, mk.set i true) := by rw [Hs'.out, hp, hlj]; rfl
            subst hs2
            clear Hs'
            go_wp2_with fail
            refine hT.mono ?_
            rintro e v2 ⟨rfl, hb2⟩
            have hb2' : Below wr.heap.size wr v2 := ((Below.refl _ wr).alloc (Nat.le_refl _) _).trans (hb2.mono (by simp))
            have hW2 := HW.out.below hb2'
            have u0 := (hW2.cell w.heap.size 0 (by simp) hbn).trans (by simp : _ = some (Value.slice (some ⟨b, off, none⟩) ns.length cap))
            have Hb2 := hid hb2'
            clear hb2 hb2' hT
            go_wp2_with fail
            refine (HNj.out _).mono ?_
            rintro e v3 ⟨rfl, hb3⟩
            have hb3' : Below wr.heap.size wr v3 := Hb2.out.trans (hb3.mono Hb2.out.size)
            have hW3 := HW.out.below hb3'
            have hL3 := HL.out.later hb3'
            have hM3 := HM.out.later hb3'
            have f3 := hM3.frozen i
            have c3 := hM3.cell i (by omega)
            have c4 := hL3.cell j hjl
            rw [hlj] at c4
            have u3 := (hW3.cell w.heap.size 2 (by simp) hbn).trans (by simp : _ = some (Value.slice (some ⟨bm, 0, none⟩) ns.length ns.length))
            have u4 := (hW3.cell w.heap.size 1 (by simp) hbn).trans (by simp : _ = some (Value.slice (some ⟨bl, 0, none⟩) ns.length ns.length))
            obtain ⟨L, hc⟩ := HCj.out v3 (Hbw.out v3 hW3)
            have e3 := hc.parent
            clear hb3 hb3' hc u0 hW2 hlj
            go_wp2
            go_roundw
            case rel => exact ⟨k + 1, by omega, by go_num, hW3.put (by simp) _ _, by rw [HS1.out]; exact hL3.far _ _ (Ne.symm hne), by rw [HS1.out]; exact hM3.put i true⟩
            case measure => simp [RowKit.intOf]; omega
          | false =>
            have hs2 : s' = (lk.set j true, mk) := by rw [Hs'.out, hp, hlj]; rfl
            subst hs2
            clear Hs'
            go_wp2_with fail
            refine hT.mono ?_
            rintro e v2 ⟨rfl, hb2⟩
            have hb2' : Below wr.heap.size wr v2 := ((Below.refl _ wr).alloc (Nat.le_refl _) _).trans (hb2.mono (by simp))
            have hW2 := HW.out.below hb2'
            have u0 := (hW2.cell w.heap.size 0 (by simp) hbn).trans (by simp : _ = some (Value.slice (some ⟨b, off, none⟩) ns.length cap))
            have Hb2 := hid hb2'
            clear hb2 hb2' hT
            go_wp2_with fail
            refine (HNj.out _).mono ?_
            rintro e v3 ⟨rfl, hb3⟩
            have hb3' : Below wr.heap.size wr v3 := Hb2.out.trans (hb3.mono Hb2.out.size)
            have hW3 := HW.out.below hb3'
            have hL3 := HL.out.later hb3'
            have hM3 := HM.out.later hb3'
            have f3 := hL3.frozen j
            have c4 := hL3.cell j hjl
            rw [hlj] at c4
            have u4 := (hW3.cell w.heap.size 1 (by simp) hbn).trans (by simp : _ = some (Value.slice (some ⟨bl, 0, none⟩) ns.length ns.length))
            obtain ⟨L, hc⟩ := HCj.out v3 (Hbw.out v3 hW3)
            have e3 := hc.parent
            clear hb3 hb3' hc u0 hW2 hlj
            go_wp2
            go_roundw
            case rel => exact ⟨k + 1, by omega, by go_num, hW3.put (by simp) _ _, by rw [HS1.out]; exact hL3.put j true, by rw [HS1.out]; exact hM3.far _ _ hne⟩
            case measure => simp [RowKit.intOf]; omega
    · have hke : k = kids.length := by omega
      subst hke
      have HW := hid (Hfin.out wr hW)
      have HL := hid hL
      have HM := hid hM
      clear hW hL hM g HN HC HT Hc0 HB0 Hlen Hsucc Hbw Hfin
      go_wp2
      go_end0
      exact ⟨rfl, HW.out, HL.out, HM.out⟩
end Go.Proofs.YtilacgcjbdkphaaGreat
