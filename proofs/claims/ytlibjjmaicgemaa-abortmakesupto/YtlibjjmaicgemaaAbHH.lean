/- The reference of abort: linked. -/
import Derived.Test.YtlibjjmaicgemaaAbGG
namespace Go.Proofs.Ytlibjjmaicgemaa
open Go.RowKit Go.Lib Go.Shelf

theorem RdI.take {w : World} {b off c : Nat} {l : List Int} (h : RdI w (.slice (some ⟨b, off, none⟩) l.length c) l) (k : Nat) (hk : k ≤ l.length) : RdI w (.slice (some ⟨b, off, none⟩) k c) (l.take k) := by
  obtain ⟨o, c', e, hc, g⟩ := h
  injection e with e1 e2 e3
  subst e1
  subst e3
  have hkl : (l.take k).length = k := by rw [List.length_take]; omega
  refine ⟨_, c, by rw [hkl], by omega, fun hp => ?_⟩
  rw [hkl] at hp
  obtain ⟨b', off', e', hlt, ha⟩ := g (by omega)
  injection e' with e'
  injection e' with e1 e2
  subst e1
  subst e2
  refine ⟨b, off, rfl, hlt, fun j hj => ?_⟩
  rw [List.getElem_take]
  exact ha j (by rw [hkl] at hj; omega)
theorem link_no {ls : List SigD} {h : Int} {dep : Bool} {links : List Int} {k : Nat} {N : Bool} (hk : k < links.length) (hK : linkD ls h dep (links.take k) (links.drop k) = N) (ho : linkOne ls h dep (links.take k) links[k] = false) : N = false := by
  rw [← hK, List.drop_eq_getElem_cons hk, linkD, ho, Bool.false_and]
theorem link_yes {ls : List SigD} {h : Int} {dep : Bool} {links : List Int} {k : Nat} {N : Bool} (hk : k < links.length) (hK : linkD ls h dep (links.take k) (links.drop k) = N) (ho : linkOne ls h dep (links.take k) links[k] = true) : linkD ls h dep (links.take (k + 1)) (links.drop (k + 1)) = N := by
  rw [← hK, List.drop_eq_getElem_cons hk, linkD, ho, Bool.true_and, List.take_succ_eq_append_getElem hk]
theorem link_no' {ls : List SigD} {h x : Int} {dep : Bool} {links : List Int} {k : Nat} {N : Bool} (hk : k < links.length) (hx : links[k] = x) (hK : linkD ls h dep (links.take k) (links.drop k) = N) (ho : linkOne ls h dep (links.take k) x = false) : N = false := by
  subst hx
  exact link_no hk hK ho
theorem link_yes' {ls : List SigD} {h x : Int} {dep : Bool} {links : List Int} {k : Nat} {N : Bool} (hk : k < links.length) (hx : links[k] = x) (hK : linkD ls h dep (links.take k) (links.drop k) = N) (ho : linkOne ls h dep (links.take k) x = true) : linkD ls h dep (links.take (k + 1)) (links.drop (k + 1)) = N := by
  subst hx
  exact link_yes hk hK ho
set_option maxRecDepth 100000 in
set_option maxHeartbeats 4000000 in
theorem linkedR_any (v lv : Value) (ls : List SigD) (h : Int) (links : List Int) (dep : Bool) (w : World) (hv : RdS w v ls) (hl : ls.length ≤ 1099511627776) (hs : SmallS ls) (hr : RdI w lv links) (hll : links.length ≤ 1099511627776) :
    Calls Try.prog 31 #[v, .int .i64 h, lv, .bool dep] w fun e w' => e = .returned (.bool (linkD ls h dep [] links)) ∧ Below w.heap.size w w' := by
  have HV := hid hv
  have HR := hid hr
  have HSm := hid hs
  obtain ⟨o, c, rfl, _, g⟩ := hv
  obtain ⟨o2, c2, rfl, _, g2⟩ := hr
  obtain ⟨N, hN⟩ : ∃ N, linkD ls h dep [] links = N := ⟨_, rfl⟩
  rw [hN]
  have HN : Hid (linkD ls h dep (links.take 0) (links.drop 0) = N) := hN
  have G2 := hid g2
  clear hN g g2 hs
  go_enter Try.func31, Try.ntmps31
  go_wp2
  go_loopw [16] (fun t wr => ∃ k : Nat, k ≤ links.length ∧ t = .int .i64 k ∧ Hid (Below w.heap.size w wr) ∧ Hid (linkD ls h dep (links.take k) (links.drop k) = N)) (fun t _ => links.length - (RowKit.intOf t).toNat)
  case atStart => exact ⟨0, Nat.zero_le _, rfl, Below.refl _ _, HN⟩
  case round =>
    obtain ⟨k, k1, rfl, hB, hK⟩ := hrel
    clear HN
    by_cases hlt : k < links.length
    · obtain ⟨bl, offl, rfl, hltl, hal⟩ := G2.out (by omega)
      have x0 := (hB.out.cell (p := ⟨bl, offl + k, none⟩) hltl).trans (hal k hlt)
      have q1 : (0 : Int) ≤ (k : Int) := by omega
      have q2 : (k : Int) < (links.length : Int) := by omega
      have q3 : k ≤ c2 := by
        obtain ⟨_, _, e, hc, _⟩ := HR.out
        injection e with _ _ e
        omega
      have q4 : (k : Int) ≤ (c2 : Int) := by omega
      clear hal G2
      cases ho : outD ls.length links[k] with
      | true =>
        have hNf : N = false := link_no hlt hK.out (by unfold linkOne; rw [ho]; rfl)
        subst hNf
        have hO := ofR_no o ls.length c links[k] wr ho
        clear hK HR HV HSm ho
        generalize links[k] = x at *
        go_wp2_with (go_at_call 28; refine hO.mono ?_; rintro e w2 ⟨rfl, hb⟩; have HB2 := hid ((hB.out.trans (hb.mono hB.out.size)).trans (((Below.refl _ w2).alloc (o := .cells #[.bool false, .int .i64 0, .bool false, .slice none 0 0, .slice none 0 0] 42) (Nat.le_refl _)).mono (hB.out.trans (hb.mono hB.out.size)).size)); clear hb)
        go_ret
        exact ⟨rfl, HB2.out⟩
      | false =>
        obtain ⟨p, hpe, hp⟩ := out_no ho
        have HO := hid (ofR_yes (.slice o ls.length c) ls p wr (HV.out.later hB.out) hl hp)
        have HL : Hid (∀ V : World, Below w.heap.size w V → _) := fun V hV => hasR_any _ (links.take k) links[k] V ((HR.out.take k k1).later hV) (by rw [List.length_take]; omega)
        have Hone : Hid (linkOne ls h dep (links.take k) links[k] = (ls[p].dep == dep && (!(links.take k).contains links[k] && (backD ls[p] dep).contains h))) := by
          show _ = _
          unfold linkOne
          rw [ho, hpe, atS_at hp]
          rfl
        have hsl := HSm.out ls[p] (List.getElem_mem hp)
        rw [hpe] at x0
        clear ho HR HV HSm
        have Hx := hid hpe
        clear hpe
        rw [Hx.out] at HL
        rw [Hx.out] at Hone
        generalize ls[p] = a at *
        obtain ⟨ab, re, d2, src, dts⟩ := a
        generalize (links.take k).contains ((p : Int) + 1) = R1 at *
        cases dep <;> cases d2
        · cases R1 with
          | true =>
            have hNf : N = false := link_no' hlt Hx.out hK.out (by rw [Hone.out]; rfl)
            subst hNf
            clear hK Hone
            go_wp2_with (first | (go_at_call 37; refine (HL.out _ HB2.out).mono ?_; rintro e w3 ⟨rfl, hb3⟩; have HB3 := hid (HB2.out.trans (hb3.mono HB2.out.size)); have HC3 := hid hb3; have S3 := sig_cells (x := ⟨ab, re, false, src, dts⟩) (blkLater hb3 HX.out); have z3 := S3.src; have z4 := S3.dts; clear hb3 S3) | (go_at_call 28; refine HO.out.mono ?_; rintro e w2 ⟨so, sc, sd, dc, rfl, hrs, hrd, hb⟩; have HB1 := hid (hB.out.trans (hb.mono hB.out.size)); have hba : Below w2.heap.size w2 (w2.alloc (.cells #[.bool ab, .int .i64 re, .bool false, .slice so src.length sc, .slice sd dts.length dc] 42)) := (Below.refl _ w2).alloc (Nat.le_refl _) _; have HB2 := hid (HB1.out.trans (hba.mono HB1.out.size)); have HRS := hid (hrs.later (hb.trans (hba.mono hb.size))); have HRD := hid (hrd.later (hb.trans (hba.mono hb.size))); have HX := hid (heap_new w2 (.cells #[.bool ab, .int .i64 re, .bool false, .slice so src.length sc, .slice sd dts.length dc] 42)); clear hb hrs hrd hba))
            go_ret
            exact ⟨rfl, HB3.out⟩
          | false =>
            have hone : linkOne ls h false (links.take k) ((p : Int) + 1) = dts.contains h := by rw [Hone.out]; rfl
            clear Hone
            cases hR2 : dts.contains h with
            | false =>
              have hNf : N = false := link_no' hlt Hx.out hK.out (by rw [hone, hR2])
              subst hNf
              clear hK hone
              go_wp2_with (first | (go_at_call 37; refine (hasR_any _ dts h w3 (HRD.out.later HC3.out) hsl.2).mono ?_; rintro e w4 ⟨rfl, hb4⟩; rw [hR2]; have HB4 := hid (HB3.out.trans (hb4.mono HB3.out.size)); clear hb4) | (go_at_call 37; refine (HL.out _ HB2.out).mono ?_; rintro e w3 ⟨rfl, hb3⟩; have HB3 := hid (HB2.out.trans (hb3.mono HB2.out.size)); have HC3 := hid hb3; have S3 := sig_cells (x := ⟨ab, re, false, src, dts⟩) (blkLater hb3 HX.out); have z3 := S3.src; have z4 := S3.dts; clear hb3 S3) | (go_at_call 28; refine HO.out.mono ?_; rintro e w2 ⟨so, sc, sd, dc, rfl, hrs, hrd, hb⟩; have HB1 := hid (hB.out.trans (hb.mono hB.out.size)); have hba : Below w2.heap.size w2 (w2.alloc (.cells #[.bool ab, .int .i64 re, .bool false, .slice so src.length sc, .slice sd dts.length dc] 42)) := (Below.refl _ w2).alloc (Nat.le_refl _) _; have HB2 := hid (HB1.out.trans (hba.mono HB1.out.size)); have HRS := hid (hrs.later (hb.trans (hba.mono hb.size))); have HRD := hid (hrd.later (hb.trans (hba.mono hb.size))); have HX := hid (heap_new w2 (.cells #[.bool ab, .int .i64 re, .bool false, .slice so src.length sc, .slice sd dts.length dc] 42)); clear hb hrs hrd hba))
              go_ret
              exact ⟨rfl, HB4.out⟩
            | true =>
              have Hn := hid (link_yes' hlt Hx.out hK.out (by rw [hone, hR2]))
              clear hK hone
              go_wp2_with (first | (go_at_call 37; refine (hasR_any _ dts h w3 (HRD.out.later HC3.out) hsl.2).mono ?_; rintro e w4 ⟨rfl, hb4⟩; rw [hR2]; have HB4 := hid (HB3.out.trans (hb4.mono HB3.out.size)); clear hb4) | (go_at_call 37; refine (HL.out _ HB2.out).mono ?_; rintro e w3 ⟨rfl, hb3⟩; have HB3 := hid (HB2.out.trans (hb3.mono HB2.out.size)); have HC3 := hid hb3; have S3 := sig_cells (x := ⟨ab, re, false, src, dts⟩) (blkLater hb3 HX.out); have z3 := S3.src; have z4 := S3.dts; clear hb3 S3) | (go_at_call 28; refine HO.out.mono ?_; rintro e w2 ⟨so, sc, sd, dc, rfl, hrs, hrd, hb⟩; have HB1 := hid (hB.out.trans (hb.mono hB.out.size)); have hba : Below w2.heap.size w2 (w2.alloc (.cells #[.bool ab, .int .i64 re, .bool false, .slice so src.length sc, .slice sd dts.length dc] 42)) := (Below.refl _ w2).alloc (Nat.le_refl _) _; have HB2 := hid (HB1.out.trans (hba.mono HB1.out.size)); have HRS := hid (hrs.later (hb.trans (hba.mono hb.size))); have HRD := hid (hrd.later (hb.trans (hba.mono hb.size))); have HX := hid (heap_new w2 (.cells #[.bool ab, .int .i64 re, .bool false, .slice so src.length sc, .slice sd dts.length dc] 42)); clear hb hrs hrd hba))
              go_roundw
              case rel => exact ⟨k + 1, by omega, by go_num, HB4, Hn⟩
              case measure => simp [RowKit.intOf]; omega
        · have hNf : N = false := link_no' hlt Hx.out hK.out (by rw [Hone.out]; rfl)
          subst hNf
          clear hK Hone HL
          go_wp2_with (go_at_call 28; refine HO.out.mono ?_; rintro e w2 ⟨so, sc, sd, dc, rfl, hrs, hrd, hb⟩; have HB1 := hid (hB.out.trans (hb.mono hB.out.size)); have hba : Below w2.heap.size w2 (w2.alloc (.cells #[.bool ab, .int .i64 re, .bool true, .slice so src.length sc, .slice sd dts.length dc] 42)) := (Below.refl _ w2).alloc (Nat.le_refl _) _; have HB2 := hid (HB1.out.trans (hba.mono HB1.out.size)); have HRS := hid (hrs.later (hb.trans (hba.mono hb.size))); have HRD := hid (hrd.later (hb.trans (hba.mono hb.size))); have HX := hid (heap_new w2 (.cells #[.bool ab, .int .i64 re, .bool true, .slice so src.length sc, .slice sd dts.length dc] 42)); clear hb hrs hrd hba)
          go_ret
          exact ⟨rfl, HB2.out⟩
        · have hNf : N = false := link_no' hlt Hx.out hK.out (by rw [Hone.out]; rfl)
          subst hNf
          clear hK Hone HL
          go_wp2_with (go_at_call 28; refine HO.out.mono ?_; rintro e w2 ⟨so, sc, sd, dc, rfl, hrs, hrd, hb⟩; have HB1 := hid (hB.out.trans (hb.mono hB.out.size)); have hba : Below w2.heap.size w2 (w2.alloc (.cells #[.bool ab, .int .i64 re, .bool false, .slice so src.length sc, .slice sd dts.length dc] 42)) := (Below.refl _ w2).alloc (Nat.le_refl _) _; have HB2 := hid (HB1.out.trans (hba.mono HB1.out.size)); have HRS := hid (hrs.later (hb.trans (hba.mono hb.size))); have HRD := hid (hrd.later (hb.trans (hba.mono hb.size))); have HX := hid (heap_new w2 (.cells #[.bool ab, .int .i64 re, .bool false, .slice so src.length sc, .slice sd dts.length dc] 42)); clear hb hrs hrd hba)
          go_ret
          exact ⟨rfl, HB2.out⟩
        · cases R1 with
          | true =>
            have hNf : N = false := link_no' hlt Hx.out hK.out (by rw [Hone.out]; rfl)
            subst hNf
            clear hK Hone
            go_wp2_with (first | (go_at_call 37; refine (HL.out _ HB2.out).mono ?_; rintro e w3 ⟨rfl, hb3⟩; have HB3 := hid (HB2.out.trans (hb3.mono HB2.out.size)); have HC3 := hid hb3; have S3 := sig_cells (x := ⟨ab, re, true, src, dts⟩) (blkLater hb3 HX.out); have z3 := S3.src; have z4 := S3.dts; clear hb3 S3) | (go_at_call 28; refine HO.out.mono ?_; rintro e w2 ⟨so, sc, sd, dc, rfl, hrs, hrd, hb⟩; have HB1 := hid (hB.out.trans (hb.mono hB.out.size)); have hba : Below w2.heap.size w2 (w2.alloc (.cells #[.bool ab, .int .i64 re, .bool true, .slice so src.length sc, .slice sd dts.length dc] 42)) := (Below.refl _ w2).alloc (Nat.le_refl _) _; have HB2 := hid (HB1.out.trans (hba.mono HB1.out.size)); have HRS := hid (hrs.later (hb.trans (hba.mono hb.size))); have HRD := hid (hrd.later (hb.trans (hba.mono hb.size))); have HX := hid (heap_new w2 (.cells #[.bool ab, .int .i64 re, .bool true, .slice so src.length sc, .slice sd dts.length dc] 42)); clear hb hrs hrd hba))
            go_ret
            exact ⟨rfl, HB3.out⟩
          | false =>
            have hone : linkOne ls h true (links.take k) ((p : Int) + 1) = src.contains h := by rw [Hone.out]; rfl
            clear Hone
            cases hR2 : src.contains h with
            | false =>
              have hNf : N = false := link_no' hlt Hx.out hK.out (by rw [hone, hR2])
              subst hNf
              clear hK hone
              go_wp2_with (first | (go_at_call 37; refine (hasR_any _ src h w3 (HRS.out.later HC3.out) hsl.1).mono ?_; rintro e w4 ⟨rfl, hb4⟩; rw [hR2]; have HB4 := hid (HB3.out.trans (hb4.mono HB3.out.size)); clear hb4) | (go_at_call 37; refine (HL.out _ HB2.out).mono ?_; rintro e w3 ⟨rfl, hb3⟩; have HB3 := hid (HB2.out.trans (hb3.mono HB2.out.size)); have HC3 := hid hb3; have S3 := sig_cells (x := ⟨ab, re, true, src, dts⟩) (blkLater hb3 HX.out); have z3 := S3.src; have z4 := S3.dts; clear hb3 S3) | (go_at_call 28; refine HO.out.mono ?_; rintro e w2 ⟨so, sc, sd, dc, rfl, hrs, hrd, hb⟩; have HB1 := hid (hB.out.trans (hb.mono hB.out.size)); have hba : Below w2.heap.size w2 (w2.alloc (.cells #[.bool ab, .int .i64 re, .bool true, .slice so src.length sc, .slice sd dts.length dc] 42)) := (Below.refl _ w2).alloc (Nat.le_refl _) _; have HB2 := hid (HB1.out.trans (hba.mono HB1.out.size)); have HRS := hid (hrs.later (hb.trans (hba.mono hb.size))); have HRD := hid (hrd.later (hb.trans (hba.mono hb.size))); have HX := hid (heap_new w2 (.cells #[.bool ab, .int .i64 re, .bool true, .slice so src.length sc, .slice sd dts.length dc] 42)); clear hb hrs hrd hba))
              go_ret
              exact ⟨rfl, HB4.out⟩
            | true =>
              have Hn := hid (link_yes' hlt Hx.out hK.out (by rw [hone, hR2]))
              clear hK hone
              go_wp2_with (first | (go_at_call 37; refine (hasR_any _ src h w3 (HRS.out.later HC3.out) hsl.1).mono ?_; rintro e w4 ⟨rfl, hb4⟩; rw [hR2]; have HB4 := hid (HB3.out.trans (hb4.mono HB3.out.size)); clear hb4) | (go_at_call 37; refine (HL.out _ HB2.out).mono ?_; rintro e w3 ⟨rfl, hb3⟩; have HB3 := hid (HB2.out.trans (hb3.mono HB2.out.size)); have HC3 := hid hb3; have S3 := sig_cells (x := ⟨ab, re, true, src, dts⟩) (blkLater hb3 HX.out); have z3 := S3.src; have z4 := S3.dts; clear hb3 S3) | (go_at_call 28; refine HO.out.mono ?_; rintro e w2 ⟨so, sc, sd, dc, rfl, hrs, hrd, hb⟩; have HB1 := hid (hB.out.trans (hb.mono hB.out.size)); have hba : Below w2.heap.size w2 (w2.alloc (.cells #[.bool ab, .int .i64 re, .bool true, .slice so src.length sc, .slice sd dts.length dc] 42)) := (Below.refl _ w2).alloc (Nat.le_refl _) _; have HB2 := hid (HB1.out.trans (hba.mono HB1.out.size)); have HRS := hid (hrs.later (hb.trans (hba.mono hb.size))); have HRD := hid (hrd.later (hb.trans (hba.mono hb.size))); have HX := hid (heap_new w2 (.cells #[.bool ab, .int .i64 re, .bool true, .slice so src.length sc, .slice sd dts.length dc] 42)); clear hb hrs hrd hba))
              go_roundw
              case rel => exact ⟨k + 1, by omega, by go_num, HB4, Hn⟩
              case measure => simp [RowKit.intOf]; omega
    · have hNk : N = true := by
        rw [← hK.out, List.drop_eq_nil_of_le (by omega)]
        rfl
      subst hNk
      clear hK
      go_wp2
      go_ret
      exact ⟨rfl, hB.out⟩
end Go.Proofs.Ytlibjjmaicgemaa
