/- abort.right, Check (rising being a premise). -/
import Derived.Test.YtlibjjmaicgemaaAbC
import Derived.Test.YtlibjjmaicgemaaAbD
namespace Go.Proofs.Ytlibjjmaicgemaa
open Go.RowKit Go.Lib Go.Shelf

def sortI (l : List Int) : List Int := l.mergeSort fun x y => decide (x ≤ y)
/-- Does a signal by itself look wrong? -/
def oddD (s : SigD) : Bool := (s.ab != (s.re != 0)) || (s.dep && decide (0 < s.dts.length)) || (!s.dep && decide (0 < s.src.length))
def fitD (s : SigD) (row : List Int) : Bool := !oddD s && (decide (s.dts.length = row.length) && sortI s.dts == row)
def fitsD : List SigD → List (List Int) → Bool
  | [], _ => true
  | s :: r, rs => fitD s (rs.headD []) && fitsD r rs.tail
def rightD (ls : List SigD) : Bool := (saidD ls).elim false (fitsD ls)
def checkS (ls : List SigD) : Int := if 1024 < ls.length then 3 else if rightD ls = true then 0 else 2
/-- What rising must be shown to answer. -/
def Rises : Prop := ∀ (V : World) (v : Value) (l : List Int), RdI V v l → l.length ≤ 1024 → Calls Try.prog 40 #[v] V fun e w' => ∃ o c, e = .returned (.slice o l.length c) ∧ RdI w' (.slice o l.length c) (sortI l) ∧ Below V.heap.size V w'

set_option maxRecDepth 100000 in
set_option maxHeartbeats 8000000 in
theorem right_none (v : Value) (ls : List SigD) (w : World) (hv : RdS w v ls) (hl : ls.length ≤ 1024) (hs : SmallS ls) (hn : saidD ls = none) :
    Calls Try.prog 30 #[v] w fun e w' => e = .returned (.bool false) ∧ Below w.heap.size w w' := by
  have hS : Calls Try.prog 38 #[v] w fun e w' => e = .returned (.tuple #[.slice none 0 0, .bool false]) ∧ Below w.heap.size w w' := (saidBy_any v ls w hv hl hs).mono (by
    rintro e w' (⟨_, h1, h2⟩ | ⟨said, g, cur, h, _⟩)
    · exact ⟨h1, h2⟩
    · rw [hn] at h; cases h)
  obtain ⟨o, c, rfl, _, _⟩ := hv
  clear hs hn
  go_enter Try.func30, Try.ntmps30
  go_wp2_with (go_at_call 38; refine hS.mono ?_; rintro e w2 ⟨rfl, hb⟩; have HB := hid hb; clear hb)
  go_ret
  exact ⟨rfl, HB.out⟩
theorem sort_len (l : List Int) : (sortI l).length = l.length := List.length_mergeSort _
set_option maxRecDepth 100000 in
set_option maxHeartbeats 8000000 in
theorem right_some (v : Value) (ls : List SigD) (w : World) (hv : RdS w v ls) (hl : ls.length ≤ 1024) (hs : SmallS ls) (hRs : Rises) (said : List (List Int)) (hn : saidD ls = some said) :
    Calls Try.prog 30 #[v] w fun e w' => e = .returned (.bool (fitsD ls said)) ∧ Below w.heap.size w w' := by
  have hS : Calls Try.prog 38 #[v] w fun e w' => ∃ g cur, said.length = ls.length ∧ GoodR ls.length said ∧ e = .returned (.tuple #[.slice (some ⟨g, 0, none⟩) ls.length ls.length, .bool true]) ∧ SaidAt w' g w.heap.size said cur ∧ Below w.heap.size w w' := (saidBy_any v ls w hv hl hs).mono (by
    rintro e w' (⟨h, _⟩ | ⟨said2, g, cur, h, h1, h2, h3, h4, h5⟩)
    · rw [hn] at h; cases h
    · rw [hn] at h
      have h := Option.some.inj h
      subst h
      exact ⟨g, cur, h1, h2, h3, h4, h5⟩)
  obtain ⟨R, hR⟩ : ∃ R, fitsD ls said = R := ⟨_, rfl⟩
  rw [hR]
  have HR : Hid (fitsD (ls.drop 0) (said.drop 0) = R) := hR
  obtain ⟨o, c, rfl, hc, gg⟩ := hv
  have G := hid gg
  have HRs : Hid Rises := hRs
  have HSm := hid hs
  clear hs hn hR gg hRs
  go_enter Try.func30, Try.ntmps30
  go_upto_region 4 with (go_at_call 38; refine hS.mono ?_; rintro e w2 ⟨g, cur, hlen, hgd, rfl, hSd, hb⟩; have HB2 := hid hb; have HSd := hid hSd; have HGd := hid hgd; clear hb hSd hgd)
  clear hS
  go_wp2
  go_loopw [16] (fun t wr => ∃ (k : Nat), k ≤ ls.length ∧ t = .int .i64 k ∧ Hid (Below w.heap.size w wr) ∧ Hid (SaidAt wr g w.heap.size said cur) ∧ Hid (fitsD (ls.drop k) (said.drop k) = R)) (fun t _ => ls.length - (RowKit.intOf t).toNat)
  case atStart => exact ⟨0, Nat.zero_le _, rfl, HB2, HSd, HR⟩
  case round =>
    obtain ⟨k, hk, rfl, hB, hSd, hK⟩ := hrel
    clear HB2 HSd HR
    by_cases hlt : k < ls.length
    · obtain ⟨b, off, rfl, hb0, ha⟩ := G.out (by omega)
      obtain ⟨sv, dv, hx, hsv, hdv⟩ := ha k hlt
      obtain ⟨x0, x1, x2, x3, x4⟩ := hx.later hb0 hB.out
      have hdr := hdv.later hB.out
      obtain ⟨os, cs, rfl, hcs, gs1⟩ := hsv
      obtain ⟨od, cd, rfl, hcd, gd1⟩ := hdv
      have hks : k < said.length := by omega
      have hk' := hK.out
      rw [List.drop_eq_getElem_cons hlt, List.drop_eq_getElem_cons hks, fitsD, List.headD_cons, List.tail_cons] at hk'
      have q1 : (0 : Int) ≤ (k : Int) := by omega
      have q2 : (k : Int) < (ls.length : Int) := by omega
      have Hgm := hid (HGd.out.short (List.getElem_mem hks))
      clear hK ha hx G HSm hcs hcd gs1 gd1
      generalize ls[k] = x at *
      obtain ⟨xa, xr, xd, xs, xt⟩ := x
      unfold fitD oddD at hk'
      dsimp only at *
      have hba : Below wr.heap.size wr (wr.alloc (.cells #[.bool xa, .int .i64 xr, .bool xd, .slice os xs.length cs, .slice od xt.length cd] 42)) := (Below.refl _ wr).alloc (Nat.le_refl _) _
      have HBx := hid (heap_new wr (.cells #[.bool xa, .int .i64 xr, .bool xd, .slice os xs.length cs, .slice od xt.length cd] 42))
      have HBk := hid (hB.out.trans (hba.mono hB.out.size))
      have HSk := hid (hSd.out.later hba)
      have HDt := hid (hdr.later hba)
      obtain ⟨ro, rc, hrc, hrcur, hrr⟩ := HSk.out.cell k hks
      have HRr := hid hrr
      have Hk := hid hk'
      clear hba hB hSd hdr hrr hrcur hk'
      generalize said[k] = RR at *
      generalize hnt : xt.length = nt at *
      generalize hns : xs.length = ns at *
      generalize hnr : RR.length = nr at *
      have Hnt := hid hnt
      have Hns := hid hns
      have Hnr := hid hnr
      clear hnt hns hnr
      have hpz : True := trivial
      cases h1 : (xr != 0) with
      | true =>
        cases xa with
        | false =>
          have hRf : R = false := by have h := Hk.out; simp [h1] at h; exact h
          subst hRf
          clear Hk HRs HSk HDt HBx HRr hrc Hgm Hnt Hns Hnr
          go_wp2
          go_ret
          exact ⟨rfl, HBk.out⟩
        | true =>
          cases xd with
          | true =>
            rcases Nat.eq_zero_or_pos nt with rfl | hp
            · clear hpz
              have Hk1 : Hid ((decide (0 = nr) && sortI xt == RR && fitsD (ls.drop (k + 1)) (said.drop (k + 1))) = R) := by
                have h := Hk.out
                rw [h1] at h
                exact h
              clear Hk
              go_upto_region 9 with fail
              generalize wr.alloc (.cells #[.bool true, .int .i64 xr, .bool true, .slice os ns cs, .slice od 0 cd] 42) = Wk at *
              generalize wr.heap.size = Bb at *
              clear x0 x1 x2 x3 x4 h1
              have y4 := (cell_of_heap HBx.out 4).trans (show _ = some (.slice od 0 cd) from rfl)
              have sB := (Array.getElem?_eq_some_iff.1 HBx.out).1
              have sg := (Array.getElem?_eq_some_iff.1 HSk.out.blk).1
              clear HBx
              by_cases hle : 0 = nr
              · subst hle
                have Hk2 : Hid ((sortI xt == RR && fitsD (ls.drop (k + 1)) (said.drop (k + 1))) = R) := by
                  have h := Hk1.out
                  rw [decide_eq_true rfl, Bool.true_and] at h
                  exact h
                have hxl : Hid (xt.length ≤ 1024) := by
                  show _ ≤ _
                  have := Hnt.out; have := Hnr.out; have := Hgm.out; omega
                clear Hk1
                refine wp_region_held_drew (S := fun V => Below Wk.heap.size Wk V) (by kernel_rfl) ((Below.refl _ _).drew) (fun hHeld => ?_)
                have HB_V0 := hid hHeld
                have HS_V0 := hid hHeld.size
                generalize Wk.drew = V0 at *
                refine wpAnyH_one 0 48 (.pointer (some ⟨Bb, 4, none⟩)) hHeld rfl rfl (by kernel_rfl) (fun _ _ _ _ _ h => h) (by kernel_rfl) (by kernel_rfl) (by rfl) ?_ ?_
                · intro V hSw; (try dsimp only at hSw); go_simp
                simp only [Act.put, List.setIfInBounds_toArray, List.set_cons_zero, List.set_cons_succ]
                refine wpAnyH_one 1 49 (.slice od 0 cd) hHeld rfl rfl (by kernel_rfl) (fun _ _ _ _ _ h => h) (by kernel_rfl) (by kernel_rfl) (by rfl) ?_ ?_
                · intro V hSw; (try dsimp only at hSw); have k0 := cellLater (B := Bb) hSw (by omega) y4; go_simp
                simp only [Act.put, List.setIfInBounds_toArray, List.set_cons_zero, List.set_cons_succ]
                refine wpAnyH_one 2 50 (.int .i64 0) hHeld rfl rfl (by kernel_rfl) (fun _ _ _ _ _ h => h) (by kernel_rfl) (by kernel_rfl) (by rfl) ?_ ?_
                · intro V hSw; (try dsimp only at hSw); go_simp
                simp only [Act.put, List.setIfInBounds_toArray, List.set_cons_zero, List.set_cons_succ]
                refine wpAnyH_one 3 51 (.slice (some ⟨g, 0, none⟩) ls.length ls.length) hHeld rfl rfl (by kernel_rfl) (fun _ _ _ _ _ h => h) (by kernel_rfl) (by kernel_rfl) (by rfl) ?_ ?_
                · intro V hSw; (try dsimp only at hSw); go_simp
                simp only [Act.put, List.setIfInBounds_toArray, List.set_cons_zero, List.set_cons_succ]
                refine wpAnyH_one 4 52 (.int .i64 (k : Int)) hHeld rfl rfl (by kernel_rfl) (fun _ _ _ _ _ h => h) (by kernel_rfl) (by kernel_rfl) (by rfl) ?_ ?_
                · intro V hSw; (try dsimp only at hSw); go_simp
                simp only [Act.put, List.setIfInBounds_toArray, List.set_cons_zero, List.set_cons_succ]
                refine wpAnyH_one 5 53 (.pointer (some ⟨g, k, none⟩)) hHeld rfl rfl (by kernel_rfl) (fun _ _ _ _ _ h => h) (by kernel_rfl) (by kernel_rfl) (by rfl) ?_ ?_
                · intro V hSw; (try dsimp only at hSw); go_simp
                simp only [Act.put, List.setIfInBounds_toArray, List.set_cons_zero, List.set_cons_succ]
                refine wpAnyH_one 6 54 (.slice ro 0 rc) hHeld rfl rfl (by kernel_rfl) (fun _ _ _ _ _ h => h) (by kernel_rfl) (by kernel_rfl) (by rfl) ?_ ?_
                · intro V hSw; (try dsimp only at hSw); have k0 := cellLater (B := g) hSw (by omega) hrc; go_simp
                simp only [Act.put, List.setIfInBounds_toArray, List.set_cons_zero, List.set_cons_succ]
                refine wpAnyH_one 7 55 (.int .i64 0) hHeld rfl rfl (by kernel_rfl) (fun _ _ _ _ _ h => h) (by kernel_rfl) (by kernel_rfl) (by rfl) ?_ ?_
                · intro V hSw; (try dsimp only at hSw); go_simp
                simp only [Act.put, List.setIfInBounds_toArray, List.set_cons_zero, List.set_cons_succ]
                refine wpAnyH_one 8 56 (.bool false) hHeld rfl rfl (by kernel_rfl) (fun _ _ _ _ _ h => h) (by kernel_rfl) (by kernel_rfl) (by rfl) ?_ ?_
                · intro V hSw; (try dsimp only at hSw); go_simp
                simp only [Act.put, List.setIfInBounds_toArray, List.set_cons_zero, List.set_cons_succ]
                refine wpAnyH_one 9 57 (.bool false) hHeld rfl rfl (by kernel_rfl) (fun _ _ _ _ _ h => h) (by kernel_rfl) (by kernel_rfl) (by rfl) ?_ ?_
                · intro V hSw; (try dsimp only at hSw); go_simp
                simp only [Act.put, List.setIfInBounds_toArray, List.set_cons_zero, List.set_cons_succ]
                refine wpAnyH_one 10 58 (.pointer (some ⟨Bb, 4, none⟩)) hHeld rfl rfl (by kernel_rfl) (fun _ _ _ _ _ h => h) (by kernel_rfl) (by kernel_rfl) (by rfl) ?_ ?_
                · intro V hSw; (try dsimp only at hSw); go_simp
                simp only [Act.put, List.setIfInBounds_toArray, List.set_cons_zero, List.set_cons_succ]
                refine wpAnyH_one 11 59 (.slice od 0 cd) hHeld rfl rfl (by kernel_rfl) (fun _ _ _ _ _ h => h) (by kernel_rfl) (by kernel_rfl) (by rfl) ?_ ?_
                · intro V hSw; (try dsimp only at hSw); have k0 := cellLater (B := Bb) hSw (by omega) y4; go_simp
                simp only [Act.put, List.setIfInBounds_toArray, List.set_cons_zero, List.set_cons_succ]
                refine wpAnyH_one 13 61 (.slice (some ⟨g, 0, none⟩) ls.length ls.length) hHeld rfl rfl (by kernel_rfl) (fun _ _ _ _ _ h => h) (by kernel_rfl) (by kernel_rfl) (by rfl) ?_ ?_
                · intro V hSw; (try dsimp only at hSw); go_simp
                simp only [Act.put, List.setIfInBounds_toArray, List.set_cons_zero, List.set_cons_succ]
                refine wpAnyH_one 14 62 (.int .i64 (k : Int)) hHeld rfl rfl (by kernel_rfl) (fun _ _ _ _ _ h => h) (by kernel_rfl) (by kernel_rfl) (by rfl) ?_ ?_
                · intro V hSw; (try dsimp only at hSw); go_simp
                simp only [Act.put, List.setIfInBounds_toArray, List.set_cons_zero, List.set_cons_succ]
                refine wpAnyH_one 15 63 (.pointer (some ⟨g, k, none⟩)) hHeld rfl rfl (by kernel_rfl) (fun _ _ _ _ _ h => h) (by kernel_rfl) (by kernel_rfl) (by rfl) ?_ ?_
                · intro V hSw; (try dsimp only at hSw); go_simp
                simp only [Act.put, List.setIfInBounds_toArray, List.set_cons_zero, List.set_cons_succ]
                refine wpAnyH_one 16 64 (.slice ro 0 rc) hHeld rfl rfl (by kernel_rfl) (fun _ _ _ _ _ h => h) (by kernel_rfl) (by kernel_rfl) (by rfl) ?_ ?_
                · intro V hSw; (try dsimp only at hSw); have k0 := cellLater (B := g) hSw (by omega) hrc; go_simp
                simp only [Act.put, List.setIfInBounds_toArray, List.set_cons_zero, List.set_cons_succ]
                refine wpAnyH_ready (rs := [12]) (by kernel_rfl) (by simp) ?_
                refine AllReadyH.cons rfl (fun K hK => ?_) AllReadyH.nil
                go_simp
                go_wp2_with (go_at_call 40; refine (HRs.out V0 _ xt (HDt.out.later HB_V0.out) hxl.out).mono ?_; rintro e V1 ⟨ro2, rc2, rfl, hrv, hb⟩; have HB_V1 := hid (HB_V0.out.trans (hb.mono HB_V0.out.size)); have HS_V1 := hid (HB_V1.out.size); have HRv := hid hrv; clear hrv)
                refine hK.out _ _ HB_V1.out (fun hHeld => ?_)
                clear hK K
                refine wpAnyH_ready (rs := [17]) (by kernel_rfl) (by simp) ?_
                refine AllReadyH.cons rfl (fun K hK => ?_) AllReadyH.nil
                go_simp
                go_wp2_with (go_at_call 39; refine (equalI_any _ _ (sortI xt) RR V1 HRv.out (HRr.out.later HB_V1.out) (by rw [sort_len]; have := hxl.out; omega)).mono ?_; rintro e V2 ⟨rfl, hb⟩; have HB_V2 := hid (HB_V1.out.trans (hb.mono HB_V1.out.size)); have HS_V2 := hid (HB_V2.out.size))
                refine hK.out _ _ HB_V2.out (fun hHeld => ?_)
                clear hK K
                refine wpAnyH_one 18 66 (.bool (!(sortI xt == RR))) hHeld rfl rfl (by kernel_rfl) (fun _ _ _ _ _ h => h) (by kernel_rfl) (by kernel_rfl) (by rfl) ?_ ?_
                · intro V hSw; (try dsimp only at hSw); go_simp
                simp only [Act.put, List.setIfInBounds_toArray, List.set_cons_zero, List.set_cons_succ]
                refine wpAnyH_one 19 67 (.bool (!(sortI xt == RR))) hHeld rfl rfl (by kernel_rfl) (fun _ _ _ _ _ h => h) (by kernel_rfl) (by kernel_rfl) (by rfl) ?_ ?_
                · intro V hSw; (try dsimp only at hSw); go_simp
                simp only [Act.put, List.setIfInBounds_toArray, List.set_cons_zero, List.set_cons_succ]
                refine wpAnyH_done (by kernel_rfl) ?_ _
                have HBv := hid (HBk.out.trans (HB_V2.out.mono HBk.out.size))
                have HSv := hid (HSk.out.later HB_V2.out)
                cases hq : (sortI xt == RR) with
                | false =>
                  have hRf : R = false := by rw [← Hk2.out, hq]; rfl
                  subst hRf
                  clear Hk2
                  go_wp2
                  go_ret
                  exact ⟨rfl, HBv.out⟩
                | true =>
                  have Hn : Hid (fitsD (ls.drop (k + 1)) (said.drop (k + 1)) = R) := by
                    show _ = _
                    rw [← Hk2.out, hq, Bool.true_and]
                  clear Hk2
                  go_wp2
                  go_roundw
                  case rel => exact ⟨k + 1, by omega, by go_num, HBv, HSv, Hn⟩
                  case measure => simp [RowKit.intOf]; omega
              · have e1 : (((0 : Nat) : Int) != (nr : Int)) = true := by rw [bne_iff_ne]; omega
                have e2 : ((0 : Int) != (nr : Int)) = true := e1
                have hRf : R = false := by rw [← Hk1.out, decide_eq_false hle]; rfl
                subst hRf
                clear hle Hk1
                refine wp_region_held_drew (S := fun V => Below Wk.heap.size Wk V) (by kernel_rfl) ((Below.refl _ _).drew) (fun hHeld => ?_)
                have HB_V0 := hid hHeld
                have HS_V0 := hid hHeld.size
                generalize Wk.drew = V0 at *
                refine wpAnyH_one 0 48 (.pointer (some ⟨Bb, 4, none⟩)) hHeld rfl rfl (by kernel_rfl) (fun _ _ _ _ _ h => h) (by kernel_rfl) (by kernel_rfl) (by rfl) ?_ ?_
                · intro V hSw; (try dsimp only at hSw); go_simp
                simp only [Act.put, List.setIfInBounds_toArray, List.set_cons_zero, List.set_cons_succ]
                refine wpAnyH_one 1 49 (.slice od 0 cd) hHeld rfl rfl (by kernel_rfl) (fun _ _ _ _ _ h => h) (by kernel_rfl) (by kernel_rfl) (by rfl) ?_ ?_
                · intro V hSw; (try dsimp only at hSw); have k0 := cellLater (B := Bb) hSw (by omega) y4; go_simp
                simp only [Act.put, List.setIfInBounds_toArray, List.set_cons_zero, List.set_cons_succ]
                refine wpAnyH_one 2 50 (.int .i64 0) hHeld rfl rfl (by kernel_rfl) (fun _ _ _ _ _ h => h) (by kernel_rfl) (by kernel_rfl) (by rfl) ?_ ?_
                · intro V hSw; (try dsimp only at hSw); go_simp
                simp only [Act.put, List.setIfInBounds_toArray, List.set_cons_zero, List.set_cons_succ]
                refine wpAnyH_one 3 51 (.slice (some ⟨g, 0, none⟩) ls.length ls.length) hHeld rfl rfl (by kernel_rfl) (fun _ _ _ _ _ h => h) (by kernel_rfl) (by kernel_rfl) (by rfl) ?_ ?_
                · intro V hSw; (try dsimp only at hSw); go_simp
                simp only [Act.put, List.setIfInBounds_toArray, List.set_cons_zero, List.set_cons_succ]
                refine wpAnyH_one 4 52 (.int .i64 (k : Int)) hHeld rfl rfl (by kernel_rfl) (fun _ _ _ _ _ h => h) (by kernel_rfl) (by kernel_rfl) (by rfl) ?_ ?_
                · intro V hSw; (try dsimp only at hSw); go_simp
                simp only [Act.put, List.setIfInBounds_toArray, List.set_cons_zero, List.set_cons_succ]
                refine wpAnyH_one 5 53 (.pointer (some ⟨g, k, none⟩)) hHeld rfl rfl (by kernel_rfl) (fun _ _ _ _ _ h => h) (by kernel_rfl) (by kernel_rfl) (by rfl) ?_ ?_
                · intro V hSw; (try dsimp only at hSw); go_simp
                simp only [Act.put, List.setIfInBounds_toArray, List.set_cons_zero, List.set_cons_succ]
                refine wpAnyH_one 6 54 (.slice ro nr rc) hHeld rfl rfl (by kernel_rfl) (fun _ _ _ _ _ h => h) (by kernel_rfl) (by kernel_rfl) (by rfl) ?_ ?_
                · intro V hSw; (try dsimp only at hSw); have k0 := cellLater (B := g) hSw (by omega) hrc; go_simp
                simp only [Act.put, List.setIfInBounds_toArray, List.set_cons_zero, List.set_cons_succ]
                refine wpAnyH_one 7 55 (.int .i64 (nr : Int)) hHeld rfl rfl (by kernel_rfl) (fun _ _ _ _ _ h => h) (by kernel_rfl) (by kernel_rfl) (by rfl) ?_ ?_
                · intro V hSw; (try dsimp only at hSw); go_simp
                simp only [Act.put, List.setIfInBounds_toArray, List.set_cons_zero, List.set_cons_succ]
                refine wpAnyH_one 8 56 (.bool true) hHeld rfl rfl (by kernel_rfl) (fun _ _ _ _ _ h => h) (by kernel_rfl) (by kernel_rfl) (by rfl) ?_ ?_
                · intro V hSw; (try dsimp only at hSw); go_simp
                simp only [Act.put, List.setIfInBounds_toArray, List.set_cons_zero, List.set_cons_succ]
                refine wpAnyH_one 9 57 (.bool true) hHeld rfl rfl (by kernel_rfl) (fun _ _ _ _ _ h => h) (by kernel_rfl) (by kernel_rfl) (by rfl) ?_ ?_
                · intro V hSw; (try dsimp only at hSw); go_simp
                simp only [Act.put, List.setIfInBounds_toArray, List.set_cons_zero, List.set_cons_succ]
                refine wpAnyH_skips [(10, 58), (11, 59), (12, 60), (13, 61), (14, 62), (15, 63), (16, 64), (17, 65), (18, 66)] 1 hHeld (by kernel_rfl) (fun _ _ _ _ _ h => h) (by kernel_rfl) (by kernel_rfl) ?_
                simp only [actAfter, listedAfter, Act.put, List.setIfInBounds_toArray, List.set_cons_zero, List.set_cons_succ]
                refine wpAnyH_one 19 67 (.bool true) hHeld rfl rfl (by kernel_rfl) (fun _ _ _ _ _ h => h) (by kernel_rfl) (by kernel_rfl) (by rfl) ?_ ?_
                · intro V hSw; (try dsimp only at hSw); go_simp
                simp only [Act.put, List.setIfInBounds_toArray, List.set_cons_zero, List.set_cons_succ]
                refine wpAnyH_done (by kernel_rfl) ?_ _
                go_wp2
                go_ret
                exact ⟨rfl, HBk.out.trans (HB_V0.out.mono HBk.out.size)⟩
            · have d4 : decide ((nt : Int) > 0) = true := decide_eq_true (by omega)
              have d5 : decide (0 < nt) = true := decide_eq_true hp
              clear hpz
              have hRf : R = false := by have h := Hk.out; simp [h1, d5] at h; exact h
              subst hRf
              clear Hk HRs HSk HDt HBx HRr hrc Hgm Hnt Hns Hnr
              go_wp2
              go_ret
              exact ⟨rfl, HBk.out⟩
          | false =>
            rcases Nat.eq_zero_or_pos ns with rfl | hp
            · clear hpz
              have Hk1 : Hid ((decide (nt = nr) && sortI xt == RR && fitsD (ls.drop (k + 1)) (said.drop (k + 1))) = R) := by
                have h := Hk.out
                rw [h1] at h
                exact h
              clear Hk
              go_upto_region 9 with fail
              generalize wr.alloc (.cells #[.bool true, .int .i64 xr, .bool false, .slice os 0 cs, .slice od nt cd] 42) = Wk at *
              generalize wr.heap.size = Bb at *
              clear x0 x1 x2 x3 x4 h1
              have y4 := (cell_of_heap HBx.out 4).trans (show _ = some (.slice od nt cd) from rfl)
              have sB := (Array.getElem?_eq_some_iff.1 HBx.out).1
              have sg := (Array.getElem?_eq_some_iff.1 HSk.out.blk).1
              clear HBx
              by_cases hle : nt = nr
              · subst hle
                have Hk2 : Hid ((sortI xt == RR && fitsD (ls.drop (k + 1)) (said.drop (k + 1))) = R) := by
                  have h := Hk1.out
                  rw [decide_eq_true rfl, Bool.true_and] at h
                  exact h
                have hxl : Hid (xt.length ≤ 1024) := by
                  show _ ≤ _
                  have := Hnt.out; have := Hnr.out; have := Hgm.out; omega
                clear Hk1
                refine wp_region_held_drew (S := fun V => Below Wk.heap.size Wk V) (by kernel_rfl) ((Below.refl _ _).drew) (fun hHeld => ?_)
                have HB_V0 := hid hHeld
                have HS_V0 := hid hHeld.size
                generalize Wk.drew = V0 at *
                refine wpAnyH_one 0 48 (.pointer (some ⟨Bb, 4, none⟩)) hHeld rfl rfl (by kernel_rfl) (fun _ _ _ _ _ h => h) (by kernel_rfl) (by kernel_rfl) (by rfl) ?_ ?_
                · intro V hSw; (try dsimp only at hSw); go_simp
                simp only [Act.put, List.setIfInBounds_toArray, List.set_cons_zero, List.set_cons_succ]
                refine wpAnyH_one 1 49 (.slice od nt cd) hHeld rfl rfl (by kernel_rfl) (fun _ _ _ _ _ h => h) (by kernel_rfl) (by kernel_rfl) (by rfl) ?_ ?_
                · intro V hSw; (try dsimp only at hSw); have k0 := cellLater (B := Bb) hSw (by omega) y4; go_simp
                simp only [Act.put, List.setIfInBounds_toArray, List.set_cons_zero, List.set_cons_succ]
                refine wpAnyH_one 2 50 (.int .i64 (nt : Int)) hHeld rfl rfl (by kernel_rfl) (fun _ _ _ _ _ h => h) (by kernel_rfl) (by kernel_rfl) (by rfl) ?_ ?_
                · intro V hSw; (try dsimp only at hSw); go_simp
                simp only [Act.put, List.setIfInBounds_toArray, List.set_cons_zero, List.set_cons_succ]
                refine wpAnyH_one 3 51 (.slice (some ⟨g, 0, none⟩) ls.length ls.length) hHeld rfl rfl (by kernel_rfl) (fun _ _ _ _ _ h => h) (by kernel_rfl) (by kernel_rfl) (by rfl) ?_ ?_
                · intro V hSw; (try dsimp only at hSw); go_simp
                simp only [Act.put, List.setIfInBounds_toArray, List.set_cons_zero, List.set_cons_succ]
                refine wpAnyH_one 4 52 (.int .i64 (k : Int)) hHeld rfl rfl (by kernel_rfl) (fun _ _ _ _ _ h => h) (by kernel_rfl) (by kernel_rfl) (by rfl) ?_ ?_
                · intro V hSw; (try dsimp only at hSw); go_simp
                simp only [Act.put, List.setIfInBounds_toArray, List.set_cons_zero, List.set_cons_succ]
                refine wpAnyH_one 5 53 (.pointer (some ⟨g, k, none⟩)) hHeld rfl rfl (by kernel_rfl) (fun _ _ _ _ _ h => h) (by kernel_rfl) (by kernel_rfl) (by rfl) ?_ ?_
                · intro V hSw; (try dsimp only at hSw); go_simp
                simp only [Act.put, List.setIfInBounds_toArray, List.set_cons_zero, List.set_cons_succ]
                refine wpAnyH_one 6 54 (.slice ro nt rc) hHeld rfl rfl (by kernel_rfl) (fun _ _ _ _ _ h => h) (by kernel_rfl) (by kernel_rfl) (by rfl) ?_ ?_
                · intro V hSw; (try dsimp only at hSw); have k0 := cellLater (B := g) hSw (by omega) hrc; go_simp
                simp only [Act.put, List.setIfInBounds_toArray, List.set_cons_zero, List.set_cons_succ]
                refine wpAnyH_one 7 55 (.int .i64 (nt : Int)) hHeld rfl rfl (by kernel_rfl) (fun _ _ _ _ _ h => h) (by kernel_rfl) (by kernel_rfl) (by rfl) ?_ ?_
                · intro V hSw; (try dsimp only at hSw); go_simp
                simp only [Act.put, List.setIfInBounds_toArray, List.set_cons_zero, List.set_cons_succ]
                refine wpAnyH_one 8 56 (.bool false) hHeld rfl rfl (by kernel_rfl) (fun _ _ _ _ _ h => h) (by kernel_rfl) (by kernel_rfl) (by rfl) ?_ ?_
                · intro V hSw; (try dsimp only at hSw); go_simp
                simp only [Act.put, List.setIfInBounds_toArray, List.set_cons_zero, List.set_cons_succ]
                refine wpAnyH_one 9 57 (.bool false) hHeld rfl rfl (by kernel_rfl) (fun _ _ _ _ _ h => h) (by kernel_rfl) (by kernel_rfl) (by rfl) ?_ ?_
                · intro V hSw; (try dsimp only at hSw); go_simp
                simp only [Act.put, List.setIfInBounds_toArray, List.set_cons_zero, List.set_cons_succ]
                refine wpAnyH_one 10 58 (.pointer (some ⟨Bb, 4, none⟩)) hHeld rfl rfl (by kernel_rfl) (fun _ _ _ _ _ h => h) (by kernel_rfl) (by kernel_rfl) (by rfl) ?_ ?_
                · intro V hSw; (try dsimp only at hSw); go_simp
                simp only [Act.put, List.setIfInBounds_toArray, List.set_cons_zero, List.set_cons_succ]
                refine wpAnyH_one 11 59 (.slice od nt cd) hHeld rfl rfl (by kernel_rfl) (fun _ _ _ _ _ h => h) (by kernel_rfl) (by kernel_rfl) (by rfl) ?_ ?_
                · intro V hSw; (try dsimp only at hSw); have k0 := cellLater (B := Bb) hSw (by omega) y4; go_simp
                simp only [Act.put, List.setIfInBounds_toArray, List.set_cons_zero, List.set_cons_succ]
                refine wpAnyH_one 13 61 (.slice (some ⟨g, 0, none⟩) ls.length ls.length) hHeld rfl rfl (by kernel_rfl) (fun _ _ _ _ _ h => h) (by kernel_rfl) (by kernel_rfl) (by rfl) ?_ ?_
                · intro V hSw; (try dsimp only at hSw); go_simp
                simp only [Act.put, List.setIfInBounds_toArray, List.set_cons_zero, List.set_cons_succ]
                refine wpAnyH_one 14 62 (.int .i64 (k : Int)) hHeld rfl rfl (by kernel_rfl) (fun _ _ _ _ _ h => h) (by kernel_rfl) (by kernel_rfl) (by rfl) ?_ ?_
                · intro V hSw; (try dsimp only at hSw); go_simp
                simp only [Act.put, List.setIfInBounds_toArray, List.set_cons_zero, List.set_cons_succ]
                refine wpAnyH_one 15 63 (.pointer (some ⟨g, k, none⟩)) hHeld rfl rfl (by kernel_rfl) (fun _ _ _ _ _ h => h) (by kernel_rfl) (by kernel_rfl) (by rfl) ?_ ?_
                · intro V hSw; (try dsimp only at hSw); go_simp
                simp only [Act.put, List.setIfInBounds_toArray, List.set_cons_zero, List.set_cons_succ]
                refine wpAnyH_one 16 64 (.slice ro nt rc) hHeld rfl rfl (by kernel_rfl) (fun _ _ _ _ _ h => h) (by kernel_rfl) (by kernel_rfl) (by rfl) ?_ ?_
                · intro V hSw; (try dsimp only at hSw); have k0 := cellLater (B := g) hSw (by omega) hrc; go_simp
                simp only [Act.put, List.setIfInBounds_toArray, List.set_cons_zero, List.set_cons_succ]
                refine wpAnyH_ready (rs := [12]) (by kernel_rfl) (by simp) ?_
                refine AllReadyH.cons rfl (fun K hK => ?_) AllReadyH.nil
                go_simp
                go_wp2_with (go_at_call 40; refine (HRs.out V0 _ xt (HDt.out.later HB_V0.out) hxl.out).mono ?_; rintro e V1 ⟨ro2, rc2, rfl, hrv, hb⟩; have HB_V1 := hid (HB_V0.out.trans (hb.mono HB_V0.out.size)); have HS_V1 := hid (HB_V1.out.size); have HRv := hid hrv; clear hrv)
                refine hK.out _ _ HB_V1.out (fun hHeld => ?_)
                clear hK K
                refine wpAnyH_ready (rs := [17]) (by kernel_rfl) (by simp) ?_
                refine AllReadyH.cons rfl (fun K hK => ?_) AllReadyH.nil
                go_simp
                go_wp2_with (go_at_call 39; refine (equalI_any _ _ (sortI xt) RR V1 HRv.out (HRr.out.later HB_V1.out) (by rw [sort_len]; have := hxl.out; omega)).mono ?_; rintro e V2 ⟨rfl, hb⟩; have HB_V2 := hid (HB_V1.out.trans (hb.mono HB_V1.out.size)); have HS_V2 := hid (HB_V2.out.size))
                refine hK.out _ _ HB_V2.out (fun hHeld => ?_)
                clear hK K
                refine wpAnyH_one 18 66 (.bool (!(sortI xt == RR))) hHeld rfl rfl (by kernel_rfl) (fun _ _ _ _ _ h => h) (by kernel_rfl) (by kernel_rfl) (by rfl) ?_ ?_
                · intro V hSw; (try dsimp only at hSw); go_simp
                simp only [Act.put, List.setIfInBounds_toArray, List.set_cons_zero, List.set_cons_succ]
                refine wpAnyH_one 19 67 (.bool (!(sortI xt == RR))) hHeld rfl rfl (by kernel_rfl) (fun _ _ _ _ _ h => h) (by kernel_rfl) (by kernel_rfl) (by rfl) ?_ ?_
                · intro V hSw; (try dsimp only at hSw); go_simp
                simp only [Act.put, List.setIfInBounds_toArray, List.set_cons_zero, List.set_cons_succ]
                refine wpAnyH_done (by kernel_rfl) ?_ _
                have HBv := hid (HBk.out.trans (HB_V2.out.mono HBk.out.size))
                have HSv := hid (HSk.out.later HB_V2.out)
                cases hq : (sortI xt == RR) with
                | false =>
                  have hRf : R = false := by rw [← Hk2.out, hq]; rfl
                  subst hRf
                  clear Hk2
                  go_wp2
                  go_ret
                  exact ⟨rfl, HBv.out⟩
                | true =>
                  have Hn : Hid (fitsD (ls.drop (k + 1)) (said.drop (k + 1)) = R) := by
                    show _ = _
                    rw [← Hk2.out, hq, Bool.true_and]
                  clear Hk2
                  go_wp2
                  go_roundw
                  case rel => exact ⟨k + 1, by omega, by go_num, HBv, HSv, Hn⟩
                  case measure => simp [RowKit.intOf]; omega
              · have e1 : (((nt : Nat) : Int) != (nr : Int)) = true := by rw [bne_iff_ne]; omega
                have hRf : R = false := by rw [← Hk1.out, decide_eq_false hle]; rfl
                subst hRf
                clear hle Hk1
                refine wp_region_held_drew (S := fun V => Below Wk.heap.size Wk V) (by kernel_rfl) ((Below.refl _ _).drew) (fun hHeld => ?_)
                have HB_V0 := hid hHeld
                have HS_V0 := hid hHeld.size
                generalize Wk.drew = V0 at *
                refine wpAnyH_one 0 48 (.pointer (some ⟨Bb, 4, none⟩)) hHeld rfl rfl (by kernel_rfl) (fun _ _ _ _ _ h => h) (by kernel_rfl) (by kernel_rfl) (by rfl) ?_ ?_
                · intro V hSw; (try dsimp only at hSw); go_simp
                simp only [Act.put, List.setIfInBounds_toArray, List.set_cons_zero, List.set_cons_succ]
                refine wpAnyH_one 1 49 (.slice od nt cd) hHeld rfl rfl (by kernel_rfl) (fun _ _ _ _ _ h => h) (by kernel_rfl) (by kernel_rfl) (by rfl) ?_ ?_
                · intro V hSw; (try dsimp only at hSw); have k0 := cellLater (B := Bb) hSw (by omega) y4; go_simp
                simp only [Act.put, List.setIfInBounds_toArray, List.set_cons_zero, List.set_cons_succ]
                refine wpAnyH_one 2 50 (.int .i64 (nt : Int)) hHeld rfl rfl (by kernel_rfl) (fun _ _ _ _ _ h => h) (by kernel_rfl) (by kernel_rfl) (by rfl) ?_ ?_
                · intro V hSw; (try dsimp only at hSw); go_simp
                simp only [Act.put, List.setIfInBounds_toArray, List.set_cons_zero, List.set_cons_succ]
                refine wpAnyH_one 3 51 (.slice (some ⟨g, 0, none⟩) ls.length ls.length) hHeld rfl rfl (by kernel_rfl) (fun _ _ _ _ _ h => h) (by kernel_rfl) (by kernel_rfl) (by rfl) ?_ ?_
                · intro V hSw; (try dsimp only at hSw); go_simp
                simp only [Act.put, List.setIfInBounds_toArray, List.set_cons_zero, List.set_cons_succ]
                refine wpAnyH_one 4 52 (.int .i64 (k : Int)) hHeld rfl rfl (by kernel_rfl) (fun _ _ _ _ _ h => h) (by kernel_rfl) (by kernel_rfl) (by rfl) ?_ ?_
                · intro V hSw; (try dsimp only at hSw); go_simp
                simp only [Act.put, List.setIfInBounds_toArray, List.set_cons_zero, List.set_cons_succ]
                refine wpAnyH_one 5 53 (.pointer (some ⟨g, k, none⟩)) hHeld rfl rfl (by kernel_rfl) (fun _ _ _ _ _ h => h) (by kernel_rfl) (by kernel_rfl) (by rfl) ?_ ?_
                · intro V hSw; (try dsimp only at hSw); go_simp
                simp only [Act.put, List.setIfInBounds_toArray, List.set_cons_zero, List.set_cons_succ]
                refine wpAnyH_one 6 54 (.slice ro nr rc) hHeld rfl rfl (by kernel_rfl) (fun _ _ _ _ _ h => h) (by kernel_rfl) (by kernel_rfl) (by rfl) ?_ ?_
                · intro V hSw; (try dsimp only at hSw); have k0 := cellLater (B := g) hSw (by omega) hrc; go_simp
                simp only [Act.put, List.setIfInBounds_toArray, List.set_cons_zero, List.set_cons_succ]
                refine wpAnyH_one 7 55 (.int .i64 (nr : Int)) hHeld rfl rfl (by kernel_rfl) (fun _ _ _ _ _ h => h) (by kernel_rfl) (by kernel_rfl) (by rfl) ?_ ?_
                · intro V hSw; (try dsimp only at hSw); go_simp
                simp only [Act.put, List.setIfInBounds_toArray, List.set_cons_zero, List.set_cons_succ]
                refine wpAnyH_one 8 56 (.bool true) hHeld rfl rfl (by kernel_rfl) (fun _ _ _ _ _ h => h) (by kernel_rfl) (by kernel_rfl) (by rfl) ?_ ?_
                · intro V hSw; (try dsimp only at hSw); go_simp
                simp only [Act.put, List.setIfInBounds_toArray, List.set_cons_zero, List.set_cons_succ]
                refine wpAnyH_one 9 57 (.bool true) hHeld rfl rfl (by kernel_rfl) (fun _ _ _ _ _ h => h) (by kernel_rfl) (by kernel_rfl) (by rfl) ?_ ?_
                · intro V hSw; (try dsimp only at hSw); go_simp
                simp only [Act.put, List.setIfInBounds_toArray, List.set_cons_zero, List.set_cons_succ]
                refine wpAnyH_skips [(10, 58), (11, 59), (12, 60), (13, 61), (14, 62), (15, 63), (16, 64), (17, 65), (18, 66)] 1 hHeld (by kernel_rfl) (fun _ _ _ _ _ h => h) (by kernel_rfl) (by kernel_rfl) ?_
                simp only [actAfter, listedAfter, Act.put, List.setIfInBounds_toArray, List.set_cons_zero, List.set_cons_succ]
                refine wpAnyH_one 19 67 (.bool true) hHeld rfl rfl (by kernel_rfl) (fun _ _ _ _ _ h => h) (by kernel_rfl) (by kernel_rfl) (by rfl) ?_ ?_
                · intro V hSw; (try dsimp only at hSw); go_simp
                simp only [Act.put, List.setIfInBounds_toArray, List.set_cons_zero, List.set_cons_succ]
                refine wpAnyH_done (by kernel_rfl) ?_ _
                go_wp2
                go_ret
                exact ⟨rfl, HBk.out.trans (HB_V0.out.mono HBk.out.size)⟩
            · have d4 : decide ((ns : Int) > 0) = true := decide_eq_true (by omega)
              have d5 : decide (0 < ns) = true := decide_eq_true hp
              clear hpz
              have hRf : R = false := by have h := Hk.out; simp [h1, d5] at h; exact h
              subst hRf
              clear Hk HRs HSk HDt HBx HRr hrc Hgm Hnt Hns Hnr
              go_wp2
              go_ret
              exact ⟨rfl, HBk.out⟩
      | false =>
        cases xa with
        | true =>
          have hRf : R = false := by have h := Hk.out; simp [h1] at h; exact h
          subst hRf
          clear Hk HRs HSk HDt HBx HRr hrc Hgm Hnt Hns Hnr
          go_wp2
          go_ret
          exact ⟨rfl, HBk.out⟩
        | false =>
          cases xd with
          | true =>
            rcases Nat.eq_zero_or_pos nt with rfl | hp
            · clear hpz
              have Hk1 : Hid ((decide (0 = nr) && sortI xt == RR && fitsD (ls.drop (k + 1)) (said.drop (k + 1))) = R) := by
                have h := Hk.out
                rw [h1] at h
                exact h
              clear Hk
              go_upto_region 9 with fail
              generalize wr.alloc (.cells #[.bool false, .int .i64 xr, .bool true, .slice os ns cs, .slice od 0 cd] 42) = Wk at *
              generalize wr.heap.size = Bb at *
              clear x0 x1 x2 x3 x4 h1
              have y4 := (cell_of_heap HBx.out 4).trans (show _ = some (.slice od 0 cd) from rfl)
              have sB := (Array.getElem?_eq_some_iff.1 HBx.out).1
              have sg := (Array.getElem?_eq_some_iff.1 HSk.out.blk).1
              clear HBx
              by_cases hle : 0 = nr
              · subst hle
                have Hk2 : Hid ((sortI xt == RR && fitsD (ls.drop (k + 1)) (said.drop (k + 1))) = R) := by
                  have h := Hk1.out
                  rw [decide_eq_true rfl, Bool.true_and] at h
                  exact h
                have hxl : Hid (xt.length ≤ 1024) := by
                  show _ ≤ _
                  have := Hnt.out; have := Hnr.out; have := Hgm.out; omega
                clear Hk1
                refine wp_region_held_drew (S := fun V => Below Wk.heap.size Wk V) (by kernel_rfl) ((Below.refl _ _).drew) (fun hHeld => ?_)
                have HB_V0 := hid hHeld
                have HS_V0 := hid hHeld.size
                generalize Wk.drew = V0 at *
                refine wpAnyH_one 0 48 (.pointer (some ⟨Bb, 4, none⟩)) hHeld rfl rfl (by kernel_rfl) (fun _ _ _ _ _ h => h) (by kernel_rfl) (by kernel_rfl) (by rfl) ?_ ?_
                · intro V hSw; (try dsimp only at hSw); go_simp
                simp only [Act.put, List.setIfInBounds_toArray, List.set_cons_zero, List.set_cons_succ]
                refine wpAnyH_one 1 49 (.slice od 0 cd) hHeld rfl rfl (by kernel_rfl) (fun _ _ _ _ _ h => h) (by kernel_rfl) (by kernel_rfl) (by rfl) ?_ ?_
                · intro V hSw; (try dsimp only at hSw); have k0 := cellLater (B := Bb) hSw (by omega) y4; go_simp
                simp only [Act.put, List.setIfInBounds_toArray, List.set_cons_zero, List.set_cons_succ]
                refine wpAnyH_one 2 50 (.int .i64 0) hHeld rfl rfl (by kernel_rfl) (fun _ _ _ _ _ h => h) (by kernel_rfl) (by kernel_rfl) (by rfl) ?_ ?_
                · intro V hSw; (try dsimp only at hSw); go_simp
                simp only [Act.put, List.setIfInBounds_toArray, List.set_cons_zero, List.set_cons_succ]
                refine wpAnyH_one 3 51 (.slice (some ⟨g, 0, none⟩) ls.length ls.length) hHeld rfl rfl (by kernel_rfl) (fun _ _ _ _ _ h => h) (by kernel_rfl) (by kernel_rfl) (by rfl) ?_ ?_
                · intro V hSw; (try dsimp only at hSw); go_simp
                simp only [Act.put, List.setIfInBounds_toArray, List.set_cons_zero, List.set_cons_succ]
                refine wpAnyH_one 4 52 (.int .i64 (k : Int)) hHeld rfl rfl (by kernel_rfl) (fun _ _ _ _ _ h => h) (by kernel_rfl) (by kernel_rfl) (by rfl) ?_ ?_
                · intro V hSw; (try dsimp only at hSw); go_simp
                simp only [Act.put, List.setIfInBounds_toArray, List.set_cons_zero, List.set_cons_succ]
                refine wpAnyH_one 5 53 (.pointer (some ⟨g, k, none⟩)) hHeld rfl rfl (by kernel_rfl) (fun _ _ _ _ _ h => h) (by kernel_rfl) (by kernel_rfl) (by rfl) ?_ ?_
                · intro V hSw; (try dsimp only at hSw); go_simp
                simp only [Act.put, List.setIfInBounds_toArray, List.set_cons_zero, List.set_cons_succ]
                refine wpAnyH_one 6 54 (.slice ro 0 rc) hHeld rfl rfl (by kernel_rfl) (fun _ _ _ _ _ h => h) (by kernel_rfl) (by kernel_rfl) (by rfl) ?_ ?_
                · intro V hSw; (try dsimp only at hSw); have k0 := cellLater (B := g) hSw (by omega) hrc; go_simp
                simp only [Act.put, List.setIfInBounds_toArray, List.set_cons_zero, List.set_cons_succ]
                refine wpAnyH_one 7 55 (.int .i64 0) hHeld rfl rfl (by kernel_rfl) (fun _ _ _ _ _ h => h) (by kernel_rfl) (by kernel_rfl) (by rfl) ?_ ?_
                · intro V hSw; (try dsimp only at hSw); go_simp
                simp only [Act.put, List.setIfInBounds_toArray, List.set_cons_zero, List.set_cons_succ]
                refine wpAnyH_one 8 56 (.bool false) hHeld rfl rfl (by kernel_rfl) (fun _ _ _ _ _ h => h) (by kernel_rfl) (by kernel_rfl) (by rfl) ?_ ?_
                · intro V hSw; (try dsimp only at hSw); go_simp
                simp only [Act.put, List.setIfInBounds_toArray, List.set_cons_zero, List.set_cons_succ]
                refine wpAnyH_one 9 57 (.bool false) hHeld rfl rfl (by kernel_rfl) (fun _ _ _ _ _ h => h) (by kernel_rfl) (by kernel_rfl) (by rfl) ?_ ?_
                · intro V hSw; (try dsimp only at hSw); go_simp
                simp only [Act.put, List.setIfInBounds_toArray, List.set_cons_zero, List.set_cons_succ]
                refine wpAnyH_one 10 58 (.pointer (some ⟨Bb, 4, none⟩)) hHeld rfl rfl (by kernel_rfl) (fun _ _ _ _ _ h => h) (by kernel_rfl) (by kernel_rfl) (by rfl) ?_ ?_
                · intro V hSw; (try dsimp only at hSw); go_simp
                simp only [Act.put, List.setIfInBounds_toArray, List.set_cons_zero, List.set_cons_succ]
                refine wpAnyH_one 11 59 (.slice od 0 cd) hHeld rfl rfl (by kernel_rfl) (fun _ _ _ _ _ h => h) (by kernel_rfl) (by kernel_rfl) (by rfl) ?_ ?_
                · intro V hSw; (try dsimp only at hSw); have k0 := cellLater (B := Bb) hSw (by omega) y4; go_simp
                simp only [Act.put, List.setIfInBounds_toArray, List.set_cons_zero, List.set_cons_succ]
                refine wpAnyH_one 13 61 (.slice (some ⟨g, 0, none⟩) ls.length ls.length) hHeld rfl rfl (by kernel_rfl) (fun _ _ _ _ _ h => h) (by kernel_rfl) (by kernel_rfl) (by rfl) ?_ ?_
                · intro V hSw; (try dsimp only at hSw); go_simp
                simp only [Act.put, List.setIfInBounds_toArray, List.set_cons_zero, List.set_cons_succ]
                refine wpAnyH_one 14 62 (.int .i64 (k : Int)) hHeld rfl rfl (by kernel_rfl) (fun _ _ _ _ _ h => h) (by kernel_rfl) (by kernel_rfl) (by rfl) ?_ ?_
                · intro V hSw; (try dsimp only at hSw); go_simp
                simp only [Act.put, List.setIfInBounds_toArray, List.set_cons_zero, List.set_cons_succ]
                refine wpAnyH_one 15 63 (.pointer (some ⟨g, k, none⟩)) hHeld rfl rfl (by kernel_rfl) (fun _ _ _ _ _ h => h) (by kernel_rfl) (by kernel_rfl) (by rfl) ?_ ?_
                · intro V hSw; (try dsimp only at hSw); go_simp
                simp only [Act.put, List.setIfInBounds_toArray, List.set_cons_zero, List.set_cons_succ]
                refine wpAnyH_one 16 64 (.slice ro 0 rc) hHeld rfl rfl (by kernel_rfl) (fun _ _ _ _ _ h => h) (by kernel_rfl) (by kernel_rfl) (by rfl) ?_ ?_
                · intro V hSw; (try dsimp only at hSw); have k0 := cellLater (B := g) hSw (by omega) hrc; go_simp
                simp only [Act.put, List.setIfInBounds_toArray, List.set_cons_zero, List.set_cons_succ]
                refine wpAnyH_ready (rs := [12]) (by kernel_rfl) (by simp) ?_
                refine AllReadyH.cons rfl (fun K hK => ?_) AllReadyH.nil
                go_simp
                go_wp2_with (go_at_call 40; refine (HRs.out V0 _ xt (HDt.out.later HB_V0.out) hxl.out).mono ?_; rintro e V1 ⟨ro2, rc2, rfl, hrv, hb⟩; have HB_V1 := hid (HB_V0.out.trans (hb.mono HB_V0.out.size)); have HS_V1 := hid (HB_V1.out.size); have HRv := hid hrv; clear hrv)
                refine hK.out _ _ HB_V1.out (fun hHeld => ?_)
                clear hK K
                refine wpAnyH_ready (rs := [17]) (by kernel_rfl) (by simp) ?_
                refine AllReadyH.cons rfl (fun K hK => ?_) AllReadyH.nil
                go_simp
                go_wp2_with (go_at_call 39; refine (equalI_any _ _ (sortI xt) RR V1 HRv.out (HRr.out.later HB_V1.out) (by rw [sort_len]; have := hxl.out; omega)).mono ?_; rintro e V2 ⟨rfl, hb⟩; have HB_V2 := hid (HB_V1.out.trans (hb.mono HB_V1.out.size)); have HS_V2 := hid (HB_V2.out.size))
                refine hK.out _ _ HB_V2.out (fun hHeld => ?_)
                clear hK K
                refine wpAnyH_one 18 66 (.bool (!(sortI xt == RR))) hHeld rfl rfl (by kernel_rfl) (fun _ _ _ _ _ h => h) (by kernel_rfl) (by kernel_rfl) (by rfl) ?_ ?_
                · intro V hSw; (try dsimp only at hSw); go_simp
                simp only [Act.put, List.setIfInBounds_toArray, List.set_cons_zero, List.set_cons_succ]
                refine wpAnyH_one 19 67 (.bool (!(sortI xt == RR))) hHeld rfl rfl (by kernel_rfl) (fun _ _ _ _ _ h => h) (by kernel_rfl) (by kernel_rfl) (by rfl) ?_ ?_
                · intro V hSw; (try dsimp only at hSw); go_simp
                simp only [Act.put, List.setIfInBounds_toArray, List.set_cons_zero, List.set_cons_succ]
                refine wpAnyH_done (by kernel_rfl) ?_ _
                have HBv := hid (HBk.out.trans (HB_V2.out.mono HBk.out.size))
                have HSv := hid (HSk.out.later HB_V2.out)
                cases hq : (sortI xt == RR) with
                | false =>
                  have hRf : R = false := by rw [← Hk2.out, hq]; rfl
                  subst hRf
                  clear Hk2
                  go_wp2
                  go_ret
                  exact ⟨rfl, HBv.out⟩
                | true =>
                  have Hn : Hid (fitsD (ls.drop (k + 1)) (said.drop (k + 1)) = R) := by
                    show _ = _
                    rw [← Hk2.out, hq, Bool.true_and]
                  clear Hk2
                  go_wp2
                  go_roundw
                  case rel => exact ⟨k + 1, by omega, by go_num, HBv, HSv, Hn⟩
                  case measure => simp [RowKit.intOf]; omega
              · have e1 : (((0 : Nat) : Int) != (nr : Int)) = true := by rw [bne_iff_ne]; omega
                have e2 : ((0 : Int) != (nr : Int)) = true := e1
                have hRf : R = false := by rw [← Hk1.out, decide_eq_false hle]; rfl
                subst hRf
                clear hle Hk1
                refine wp_region_held_drew (S := fun V => Below Wk.heap.size Wk V) (by kernel_rfl) ((Below.refl _ _).drew) (fun hHeld => ?_)
                have HB_V0 := hid hHeld
                have HS_V0 := hid hHeld.size
                generalize Wk.drew = V0 at *
                refine wpAnyH_one 0 48 (.pointer (some ⟨Bb, 4, none⟩)) hHeld rfl rfl (by kernel_rfl) (fun _ _ _ _ _ h => h) (by kernel_rfl) (by kernel_rfl) (by rfl) ?_ ?_
                · intro V hSw; (try dsimp only at hSw); go_simp
                simp only [Act.put, List.setIfInBounds_toArray, List.set_cons_zero, List.set_cons_succ]
                refine wpAnyH_one 1 49 (.slice od 0 cd) hHeld rfl rfl (by kernel_rfl) (fun _ _ _ _ _ h => h) (by kernel_rfl) (by kernel_rfl) (by rfl) ?_ ?_
                · intro V hSw; (try dsimp only at hSw); have k0 := cellLater (B := Bb) hSw (by omega) y4; go_simp
                simp only [Act.put, List.setIfInBounds_toArray, List.set_cons_zero, List.set_cons_succ]
                refine wpAnyH_one 2 50 (.int .i64 0) hHeld rfl rfl (by kernel_rfl) (fun _ _ _ _ _ h => h) (by kernel_rfl) (by kernel_rfl) (by rfl) ?_ ?_
                · intro V hSw; (try dsimp only at hSw); go_simp
                simp only [Act.put, List.setIfInBounds_toArray, List.set_cons_zero, List.set_cons_succ]
                refine wpAnyH_one 3 51 (.slice (some ⟨g, 0, none⟩) ls.length ls.length) hHeld rfl rfl (by kernel_rfl) (fun _ _ _ _ _ h => h) (by kernel_rfl) (by kernel_rfl) (by rfl) ?_ ?_
                · intro V hSw; (try dsimp only at hSw); go_simp
                simp only [Act.put, List.setIfInBounds_toArray, List.set_cons_zero, List.set_cons_succ]
                refine wpAnyH_one 4 52 (.int .i64 (k : Int)) hHeld rfl rfl (by kernel_rfl) (fun _ _ _ _ _ h => h) (by kernel_rfl) (by kernel_rfl) (by rfl) ?_ ?_
                · intro V hSw; (try dsimp only at hSw); go_simp
                simp only [Act.put, List.setIfInBounds_toArray, List.set_cons_zero, List.set_cons_succ]
                refine wpAnyH_one 5 53 (.pointer (some ⟨g, k, none⟩)) hHeld rfl rfl (by kernel_rfl) (fun _ _ _ _ _ h => h) (by kernel_rfl) (by kernel_rfl) (by rfl) ?_ ?_
                · intro V hSw; (try dsimp only at hSw); go_simp
                simp only [Act.put, List.setIfInBounds_toArray, List.set_cons_zero, List.set_cons_succ]
                refine wpAnyH_one 6 54 (.slice ro nr rc) hHeld rfl rfl (by kernel_rfl) (fun _ _ _ _ _ h => h) (by kernel_rfl) (by kernel_rfl) (by rfl) ?_ ?_
                · intro V hSw; (try dsimp only at hSw); have k0 := cellLater (B := g) hSw (by omega) hrc; go_simp
                simp only [Act.put, List.setIfInBounds_toArray, List.set_cons_zero, List.set_cons_succ]
                refine wpAnyH_one 7 55 (.int .i64 (nr : Int)) hHeld rfl rfl (by kernel_rfl) (fun _ _ _ _ _ h => h) (by kernel_rfl) (by kernel_rfl) (by rfl) ?_ ?_
                · intro V hSw; (try dsimp only at hSw); go_simp
                simp only [Act.put, List.setIfInBounds_toArray, List.set_cons_zero, List.set_cons_succ]
                refine wpAnyH_one 8 56 (.bool true) hHeld rfl rfl (by kernel_rfl) (fun _ _ _ _ _ h => h) (by kernel_rfl) (by kernel_rfl) (by rfl) ?_ ?_
                · intro V hSw; (try dsimp only at hSw); go_simp
                simp only [Act.put, List.setIfInBounds_toArray, List.set_cons_zero, List.set_cons_succ]
                refine wpAnyH_one 9 57 (.bool true) hHeld rfl rfl (by kernel_rfl) (fun _ _ _ _ _ h => h) (by kernel_rfl) (by kernel_rfl) (by rfl) ?_ ?_
                · intro V hSw; (try dsimp only at hSw); go_simp
                simp only [Act.put, List.setIfInBounds_toArray, List.set_cons_zero, List.set_cons_succ]
                refine wpAnyH_skips [(10, 58), (11, 59), (12, 60), (13, 61), (14, 62), (15, 63), (16, 64), (17, 65), (18, 66)] 1 hHeld (by kernel_rfl) (fun _ _ _ _ _ h => h) (by kernel_rfl) (by kernel_rfl) ?_
                simp only [actAfter, listedAfter, Act.put, List.setIfInBounds_toArray, List.set_cons_zero, List.set_cons_succ]
                refine wpAnyH_one 19 67 (.bool true) hHeld rfl rfl (by kernel_rfl) (fun _ _ _ _ _ h => h) (by kernel_rfl) (by kernel_rfl) (by rfl) ?_ ?_
                · intro V hSw; (try dsimp only at hSw); go_simp
                simp only [Act.put, List.setIfInBounds_toArray, List.set_cons_zero, List.set_cons_succ]
                refine wpAnyH_done (by kernel_rfl) ?_ _
                go_wp2
                go_ret
                exact ⟨rfl, HBk.out.trans (HB_V0.out.mono HBk.out.size)⟩
            · have d4 : decide ((nt : Int) > 0) = true := decide_eq_true (by omega)
              have d5 : decide (0 < nt) = true := decide_eq_true hp
              clear hpz
              have hRf : R = false := by have h := Hk.out; simp [h1, d5] at h; exact h
              subst hRf
              clear Hk HRs HSk HDt HBx HRr hrc Hgm Hnt Hns Hnr
              go_wp2
              go_ret
              exact ⟨rfl, HBk.out⟩
          | false =>
            rcases Nat.eq_zero_or_pos ns with rfl | hp
            · clear hpz
              have Hk1 : Hid ((decide (nt = nr) && sortI xt == RR && fitsD (ls.drop (k + 1)) (said.drop (k + 1))) = R) := by
                have h := Hk.out
                rw [h1] at h
                exact h
              clear Hk
              go_upto_region 9 with fail
              generalize wr.alloc (.cells #[.bool false, .int .i64 xr, .bool false, .slice os 0 cs, .slice od nt cd] 42) = Wk at *
              generalize wr.heap.size = Bb at *
              clear x0 x1 x2 x3 x4 h1
              have y4 := (cell_of_heap HBx.out 4).trans (show _ = some (.slice od nt cd) from rfl)
              have sB := (Array.getElem?_eq_some_iff.1 HBx.out).1
              have sg := (Array.getElem?_eq_some_iff.1 HSk.out.blk).1
              clear HBx
              by_cases hle : nt = nr
              · subst hle
                have Hk2 : Hid ((sortI xt == RR && fitsD (ls.drop (k + 1)) (said.drop (k + 1))) = R) := by
                  have h := Hk1.out
                  rw [decide_eq_true rfl, Bool.true_and] at h
                  exact h
                have hxl : Hid (xt.length ≤ 1024) := by
                  show _ ≤ _
                  have := Hnt.out; have := Hnr.out; have := Hgm.out; omega
                clear Hk1
                refine wp_region_held_drew (S := fun V => Below Wk.heap.size Wk V) (by kernel_rfl) ((Below.refl _ _).drew) (fun hHeld => ?_)
                have HB_V0 := hid hHeld
                have HS_V0 := hid hHeld.size
                generalize Wk.drew = V0 at *
                refine wpAnyH_one 0 48 (.pointer (some ⟨Bb, 4, none⟩)) hHeld rfl rfl (by kernel_rfl) (fun _ _ _ _ _ h => h) (by kernel_rfl) (by kernel_rfl) (by rfl) ?_ ?_
                · intro V hSw; (try dsimp only at hSw); go_simp
                simp only [Act.put, List.setIfInBounds_toArray, List.set_cons_zero, List.set_cons_succ]
                refine wpAnyH_one 1 49 (.slice od nt cd) hHeld rfl rfl (by kernel_rfl) (fun _ _ _ _ _ h => h) (by kernel_rfl) (by kernel_rfl) (by rfl) ?_ ?_
                · intro V hSw; (try dsimp only at hSw); have k0 := cellLater (B := Bb) hSw (by omega) y4; go_simp
                simp only [Act.put, List.setIfInBounds_toArray, List.set_cons_zero, List.set_cons_succ]
                refine wpAnyH_one 2 50 (.int .i64 (nt : Int)) hHeld rfl rfl (by kernel_rfl) (fun _ _ _ _ _ h => h) (by kernel_rfl) (by kernel_rfl) (by rfl) ?_ ?_
                · intro V hSw; (try dsimp only at hSw); go_simp
                simp only [Act.put, List.setIfInBounds_toArray, List.set_cons_zero, List.set_cons_succ]
                refine wpAnyH_one 3 51 (.slice (some ⟨g, 0, none⟩) ls.length ls.length) hHeld rfl rfl (by kernel_rfl) (fun _ _ _ _ _ h => h) (by kernel_rfl) (by kernel_rfl) (by rfl) ?_ ?_
                · intro V hSw; (try dsimp only at hSw); go_simp
                simp only [Act.put, List.setIfInBounds_toArray, List.set_cons_zero, List.set_cons_succ]
                refine wpAnyH_one 4 52 (.int .i64 (k : Int)) hHeld rfl rfl (by kernel_rfl) (fun _ _ _ _ _ h => h) (by kernel_rfl) (by kernel_rfl) (by rfl) ?_ ?_
                · intro V hSw; (try dsimp only at hSw); go_simp
                simp only [Act.put, List.setIfInBounds_toArray, List.set_cons_zero, List.set_cons_succ]
                refine wpAnyH_one 5 53 (.pointer (some ⟨g, k, none⟩)) hHeld rfl rfl (by kernel_rfl) (fun _ _ _ _ _ h => h) (by kernel_rfl) (by kernel_rfl) (by rfl) ?_ ?_
                · intro V hSw; (try dsimp only at hSw); go_simp
                simp only [Act.put, List.setIfInBounds_toArray, List.set_cons_zero, List.set_cons_succ]
                refine wpAnyH_one 6 54 (.slice ro nt rc) hHeld rfl rfl (by kernel_rfl) (fun _ _ _ _ _ h => h) (by kernel_rfl) (by kernel_rfl) (by rfl) ?_ ?_
                · intro V hSw; (try dsimp only at hSw); have k0 := cellLater (B := g) hSw (by omega) hrc; go_simp
                simp only [Act.put, List.setIfInBounds_toArray, List.set_cons_zero, List.set_cons_succ]
                refine wpAnyH_one 7 55 (.int .i64 (nt : Int)) hHeld rfl rfl (by kernel_rfl) (fun _ _ _ _ _ h => h) (by kernel_rfl) (by kernel_rfl) (by rfl) ?_ ?_
                · intro V hSw; (try dsimp only at hSw); go_simp
                simp only [Act.put, List.setIfInBounds_toArray, List.set_cons_zero, List.set_cons_succ]
                refine wpAnyH_one 8 56 (.bool false) hHeld rfl rfl (by kernel_rfl) (fun _ _ _ _ _ h => h) (by kernel_rfl) (by kernel_rfl) (by rfl) ?_ ?_
                · intro V hSw; (try dsimp only at hSw); go_simp
                simp only [Act.put, List.setIfInBounds_toArray, List.set_cons_zero, List.set_cons_succ]
                refine wpAnyH_one 9 57 (.bool false) hHeld rfl rfl (by kernel_rfl) (fun _ _ _ _ _ h => h) (by kernel_rfl) (by kernel_rfl) (by rfl) ?_ ?_
                · intro V hSw; (try dsimp only at hSw); go_simp
                simp only [Act.put, List.setIfInBounds_toArray, List.set_cons_zero, List.set_cons_succ]
                refine wpAnyH_one 10 58 (.pointer (some ⟨Bb, 4, none⟩)) hHeld rfl rfl (by kernel_rfl) (fun _ _ _ _ _ h => h) (by kernel_rfl) (by kernel_rfl) (by rfl) ?_ ?_
                · intro V hSw; (try dsimp only at hSw); go_simp
                simp only [Act.put, List.setIfInBounds_toArray, List.set_cons_zero, List.set_cons_succ]
                refine wpAnyH_one 11 59 (.slice od nt cd) hHeld rfl rfl (by kernel_rfl) (fun _ _ _ _ _ h => h) (by kernel_rfl) (by kernel_rfl) (by rfl) ?_ ?_
                · intro V hSw; (try dsimp only at hSw); have k0 := cellLater (B := Bb) hSw (by omega) y4; go_simp
                simp only [Act.put, List.setIfInBounds_toArray, List.set_cons_zero, List.set_cons_succ]
                refine wpAnyH_one 13 61 (.slice (some ⟨g, 0, none⟩) ls.length ls.length) hHeld rfl rfl (by kernel_rfl) (fun _ _ _ _ _ h => h) (by kernel_rfl) (by kernel_rfl) (by rfl) ?_ ?_
                · intro V hSw; (try dsimp only at hSw); go_simp
                simp only [Act.put, List.setIfInBounds_toArray, List.set_cons_zero, List.set_cons_succ]
                refine wpAnyH_one 14 62 (.int .i64 (k : Int)) hHeld rfl rfl (by kernel_rfl) (fun _ _ _ _ _ h => h) (by kernel_rfl) (by kernel_rfl) (by rfl) ?_ ?_
                · intro V hSw; (try dsimp only at hSw); go_simp
                simp only [Act.put, List.setIfInBounds_toArray, List.set_cons_zero, List.set_cons_succ]
                refine wpAnyH_one 15 63 (.pointer (some ⟨g, k, none⟩)) hHeld rfl rfl (by kernel_rfl) (fun _ _ _ _ _ h => h) (by kernel_rfl) (by kernel_rfl) (by rfl) ?_ ?_
                · intro V hSw; (try dsimp only at hSw); go_simp
                simp only [Act.put, List.setIfInBounds_toArray, List.set_cons_zero, List.set_cons_succ]
                refine wpAnyH_one 16 64 (.slice ro nt rc) hHeld rfl rfl (by kernel_rfl) (fun _ _ _ _ _ h => h) (by kernel_rfl) (by kernel_rfl) (by rfl) ?_ ?_
                · intro V hSw; (try dsimp only at hSw); have k0 := cellLater (B := g) hSw (by omega) hrc; go_simp
                simp only [Act.put, List.setIfInBounds_toArray, List.set_cons_zero, List.set_cons_succ]
                refine wpAnyH_ready (rs := [12]) (by kernel_rfl) (by simp) ?_
                refine AllReadyH.cons rfl (fun K hK => ?_) AllReadyH.nil
                go_simp
                go_wp2_with (go_at_call 40; refine (HRs.out V0 _ xt (HDt.out.later HB_V0.out) hxl.out).mono ?_; rintro e V1 ⟨ro2, rc2, rfl, hrv, hb⟩; have HB_V1 := hid (HB_V0.out.trans (hb.mono HB_V0.out.size)); have HS_V1 := hid (HB_V1.out.size); have HRv := hid hrv; clear hrv)
                refine hK.out _ _ HB_V1.out (fun hHeld => ?_)
                clear hK K
                refine wpAnyH_ready (rs := [17]) (by kernel_rfl) (by simp) ?_
                refine AllReadyH.cons rfl (fun K hK => ?_) AllReadyH.nil
                go_simp
                go_wp2_with (go_at_call 39; refine (equalI_any _ _ (sortI xt) RR V1 HRv.out (HRr.out.later HB_V1.out) (by rw [sort_len]; have := hxl.out; omega)).mono ?_; rintro e V2 ⟨rfl, hb⟩; have HB_V2 := hid (HB_V1.out.trans (hb.mono HB_V1.out.size)); have HS_V2 := hid (HB_V2.out.size))
                refine hK.out _ _ HB_V2.out (fun hHeld => ?_)
                clear hK K
                refine wpAnyH_one 18 66 (.bool (!(sortI xt == RR))) hHeld rfl rfl (by kernel_rfl) (fun _ _ _ _ _ h => h) (by kernel_rfl) (by kernel_rfl) (by rfl) ?_ ?_
                · intro V hSw; (try dsimp only at hSw); go_simp
                simp only [Act.put, List.setIfInBounds_toArray, List.set_cons_zero, List.set_cons_succ]
                refine wpAnyH_one 19 67 (.bool (!(sortI xt == RR))) hHeld rfl rfl (by kernel_rfl) (fun _ _ _ _ _ h => h) (by kernel_rfl) (by kernel_rfl) (by rfl) ?_ ?_
                · intro V hSw; (try dsimp only at hSw); go_simp
                simp only [Act.put, List.setIfInBounds_toArray, List.set_cons_zero, List.set_cons_succ]
                refine wpAnyH_done (by kernel_rfl) ?_ _
                have HBv := hid (HBk.out.trans (HB_V2.out.mono HBk.out.size))
                have HSv := hid (HSk.out.later HB_V2.out)
                cases hq : (sortI xt == RR) with
                | false =>
                  have hRf : R = false := by rw [← Hk2.out, hq]; rfl
                  subst hRf
                  clear Hk2
                  go_wp2
                  go_ret
                  exact ⟨rfl, HBv.out⟩
                | true =>
                  have Hn : Hid (fitsD (ls.drop (k + 1)) (said.drop (k + 1)) = R) := by
                    show _ = _
                    rw [← Hk2.out, hq, Bool.true_and]
                  clear Hk2
                  go_wp2
                  go_roundw
                  case rel => exact ⟨k + 1, by omega, by go_num, HBv, HSv, Hn⟩
                  case measure => simp [RowKit.intOf]; omega
              · have e1 : (((nt : Nat) : Int) != (nr : Int)) = true := by rw [bne_iff_ne]; omega
                have hRf : R = false := by rw [← Hk1.out, decide_eq_false hle]; rfl
                subst hRf
                clear hle Hk1
                refine wp_region_held_drew (S := fun V => Below Wk.heap.size Wk V) (by kernel_rfl) ((Below.refl _ _).drew) (fun hHeld => ?_)
                have HB_V0 := hid hHeld
                have HS_V0 := hid hHeld.size
                generalize Wk.drew = V0 at *
                refine wpAnyH_one 0 48 (.pointer (some ⟨Bb, 4, none⟩)) hHeld rfl rfl (by kernel_rfl) (fun _ _ _ _ _ h => h) (by kernel_rfl) (by kernel_rfl) (by rfl) ?_ ?_
                · intro V hSw; (try dsimp only at hSw); go_simp
                simp only [Act.put, List.setIfInBounds_toArray, List.set_cons_zero, List.set_cons_succ]
                refine wpAnyH_one 1 49 (.slice od nt cd) hHeld rfl rfl (by kernel_rfl) (fun _ _ _ _ _ h => h) (by kernel_rfl) (by kernel_rfl) (by rfl) ?_ ?_
                · intro V hSw; (try dsimp only at hSw); have k0 := cellLater (B := Bb) hSw (by omega) y4; go_simp
                simp only [Act.put, List.setIfInBounds_toArray, List.set_cons_zero, List.set_cons_succ]
                refine wpAnyH_one 2 50 (.int .i64 (nt : Int)) hHeld rfl rfl (by kernel_rfl) (fun _ _ _ _ _ h => h) (by kernel_rfl) (by kernel_rfl) (by rfl) ?_ ?_
                · intro V hSw; (try dsimp only at hSw); go_simp
                simp only [Act.put, List.setIfInBounds_toArray, List.set_cons_zero, List.set_cons_succ]
                refine wpAnyH_one 3 51 (.slice (some ⟨g, 0, none⟩) ls.length ls.length) hHeld rfl rfl (by kernel_rfl) (fun _ _ _ _ _ h => h) (by kernel_rfl) (by kernel_rfl) (by rfl) ?_ ?_
                · intro V hSw; (try dsimp only at hSw); go_simp
                simp only [Act.put, List.setIfInBounds_toArray, List.set_cons_zero, List.set_cons_succ]
                refine wpAnyH_one 4 52 (.int .i64 (k : Int)) hHeld rfl rfl (by kernel_rfl) (fun _ _ _ _ _ h => h) (by kernel_rfl) (by kernel_rfl) (by rfl) ?_ ?_
                · intro V hSw; (try dsimp only at hSw); go_simp
                simp only [Act.put, List.setIfInBounds_toArray, List.set_cons_zero, List.set_cons_succ]
                refine wpAnyH_one 5 53 (.pointer (some ⟨g, k, none⟩)) hHeld rfl rfl (by kernel_rfl) (fun _ _ _ _ _ h => h) (by kernel_rfl) (by kernel_rfl) (by rfl) ?_ ?_
                · intro V hSw; (try dsimp only at hSw); go_simp
                simp only [Act.put, List.setIfInBounds_toArray, List.set_cons_zero, List.set_cons_succ]
                refine wpAnyH_one 6 54 (.slice ro nr rc) hHeld rfl rfl (by kernel_rfl) (fun _ _ _ _ _ h => h) (by kernel_rfl) (by kernel_rfl) (by rfl) ?_ ?_
                · intro V hSw; (try dsimp only at hSw); have k0 := cellLater (B := g) hSw (by omega) hrc; go_simp
                simp only [Act.put, List.setIfInBounds_toArray, List.set_cons_zero, List.set_cons_succ]
                refine wpAnyH_one 7 55 (.int .i64 (nr : Int)) hHeld rfl rfl (by kernel_rfl) (fun _ _ _ _ _ h => h) (by kernel_rfl) (by kernel_rfl) (by rfl) ?_ ?_
                · intro V hSw; (try dsimp only at hSw); go_simp
                simp only [Act.put, List.setIfInBounds_toArray, List.set_cons_zero, List.set_cons_succ]
                refine wpAnyH_one 8 56 (.bool true) hHeld rfl rfl (by kernel_rfl) (fun _ _ _ _ _ h => h) (by kernel_rfl) (by kernel_rfl) (by rfl) ?_ ?_
                · intro V hSw; (try dsimp only at hSw); go_simp
                simp only [Act.put, List.setIfInBounds_toArray, List.set_cons_zero, List.set_cons_succ]
                refine wpAnyH_one 9 57 (.bool true) hHeld rfl rfl (by kernel_rfl) (fun _ _ _ _ _ h => h) (by kernel_rfl) (by kernel_rfl) (by rfl) ?_ ?_
                · intro V hSw; (try dsimp only at hSw); go_simp
                simp only [Act.put, List.setIfInBounds_toArray, List.set_cons_zero, List.set_cons_succ]
                refine wpAnyH_skips [(10, 58), (11, 59), (12, 60), (13, 61), (14, 62), (15, 63), (16, 64), (17, 65), (18, 66)] 1 hHeld (by kernel_rfl) (fun _ _ _ _ _ h => h) (by kernel_rfl) (by kernel_rfl) ?_
                simp only [actAfter, listedAfter, Act.put, List.setIfInBounds_toArray, List.set_cons_zero, List.set_cons_succ]
                refine wpAnyH_one 19 67 (.bool true) hHeld rfl rfl (by kernel_rfl) (fun _ _ _ _ _ h => h) (by kernel_rfl) (by kernel_rfl) (by rfl) ?_ ?_
                · intro V hSw; (try dsimp only at hSw); go_simp
                simp only [Act.put, List.setIfInBounds_toArray, List.set_cons_zero, List.set_cons_succ]
                refine wpAnyH_done (by kernel_rfl) ?_ _
                go_wp2
                go_ret
                exact ⟨rfl, HBk.out.trans (HB_V0.out.mono HBk.out.size)⟩
            · have d4 : decide ((ns : Int) > 0) = true := decide_eq_true (by omega)
              have d5 : decide (0 < ns) = true := decide_eq_true hp
              clear hpz
              have hRf : R = false := by have h := Hk.out; simp [h1, d5] at h; exact h
              subst hRf
              clear Hk HRs HSk HDt HBx HRr hrc Hgm Hnt Hns Hnr
              go_wp2
              go_ret
              exact ⟨rfl, HBk.out⟩
    · have hRt : R = true := by
        rw [← hK.out, List.drop_eq_nil_of_le (by omega)]
        rfl
      subst hRt
      clear hK G HSm
      go_wp2
      go_ret
      exact ⟨rfl, hB.out⟩
theorem right_any (v : Value) (ls : List SigD) (w : World) (hv : RdS w v ls) (hl : ls.length ≤ 1024) (hs : SmallS ls) (hRs : Rises) :
    Calls Try.prog 30 #[v] w fun e w' => e = .returned (.bool (rightD ls)) ∧ Below w.heap.size w w' := by
  unfold rightD
  cases hn : saidD ls with
  | none => exact right_none v ls w hv hl hs hn
  | some said => exact right_some v ls w hv hl hs hRs said hn
set_option maxRecDepth 100000 in
set_option maxHeartbeats 8000000 in
theorem checkS_any (v : Value) (ls : List SigD) (w : World) (hv : RdS w v ls) (hl : ls.length ≤ 1099511627776) (hs : SmallS ls) (hRs : Rises) :
    Calls Try.prog 14 #[v] w fun e w' => e = .returned (.int .i64 (checkS ls)) ∧ Below w.heap.size w w' := by
  by_cases hm : 1024 < ls.length
  · have h1 : decide ((ls.length : Int) > 1024) = true := decide_eq_true (by omega)
    have hc : checkS ls = 3 := if_pos hm
    rw [hc]
    obtain ⟨o, c, rfl, _, _⟩ := hv
    clear hc hm hs
    go_enter Try.func14, Try.ntmps14
    go_wp2
    go_ret
    exact ⟨rfl, Below.refl _ _⟩
  · have h1 : decide ((ls.length : Int) > 1024) = false := decide_eq_false (by omega)
    have hR := right_any v ls w hv (by omega) hs hRs
    have hc : checkS ls = if rightD ls = true then 0 else 2 := if_neg hm
    rw [hc]
    obtain ⟨o, c, rfl, _, _⟩ := hv
    clear hc hm hs
    cases hr : rightD ls
    all_goals
      rw [hr] at hR
      go_enter Try.func14, Try.ntmps14
      go_wp2_with (go_at_call 30; refine hR.mono ?_; rintro e w2 ⟨rfl, hb⟩; have HB := hid hb; clear hb)
      go_ret
      exact ⟨rfl, HB.out⟩
end Go.Proofs.Ytlibjjmaicgemaa
