/- The reference of abort: Check. -/
import Derived.Test.YtlibjjmaicgemaaAbHH
namespace Go.Proofs.Ytlibjjmaicgemaa
open Go.RowKit Go.Lib Go.Shelf

theorem link_out {ls : List SigD} {h : Int} {dep : Bool} : ∀ {links b : List Int}, linkD ls h dep b links = true → ∀ k ∈ links, outD ls.length k = false
  | [], _, _, k, hk => by cases hk
  | x :: r, b, hl, k, hk => by
    rw [linkD, Bool.and_eq_true] at hl
    rcases List.mem_cons.1 hk with rfl | hk
    · have := hl.1
      unfold linkOne at this
      rw [Bool.and_eq_true, Bool.not_eq_true'] at this
      exact this.1
    · exact link_out hl.2 k hk
theorem bool_no {a b N : Bool} (h : (a && b) = N) (ha : a = false) : N = false := by rw [← h, ha, Bool.false_and]
theorem bool_yes {a b N : Bool} (h : (a && b) = N) (ha : a = true) : b = N := by rw [← h, ha, Bool.true_and]
def refCheck (ls : List SigD) : Int := if 1024 < ls.length then 3 else if refFrom ls 0 ls = true then 0 else 2
set_option maxRecDepth 100000 in
set_option maxHeartbeats 8000000 in
theorem checkR_any (v : Value) (ls : List SigD) (w : World) (hv : RdS w v ls) (hl : ls.length ≤ 1099511627776) (hs : SmallS ls) :
    Calls Try.prog 15 #[v] w fun e w' => e = .returned (.int .i64 (refCheck ls)) ∧ Below w.heap.size w w' := by
  have HV := hid hv
  have HSm := hid hs
  unfold refCheck
  obtain ⟨o, c, rfl, _, g⟩ := hv
  by_cases hbig : 1024 < ls.length
  · rw [if_pos hbig]
    have hd : decide ((ls.length : Int) > 1024) = true := decide_eq_true (by omega)
    clear g hs
    go_enter Try.func15, Try.ntmps15
    go_wp2
    go_ret
    exact ⟨rfl, Below.refl _ _⟩
  rw [if_neg hbig]
  have hd : decide ((ls.length : Int) > 1024) = false := decide_eq_false (by omega)
  obtain ⟨N, hN⟩ : ∃ N, refFrom ls 0 ls = N := ⟨_, rfl⟩
  rw [hN]
  have HN : Hid (refFrom ls 0 (ls.drop 0) = N) := hN
  have G := hid g
  clear hN g hs
  go_enter Try.func15, Try.ntmps15
  go_wp2
  clear hd
  go_loopw [13] (fun t wr => ∃ k : Nat, k ≤ ls.length ∧ t = .int .i64 k ∧ Hid (Below w.heap.size w wr) ∧ Hid (refFrom ls k (ls.drop k) = N)) (fun t _ => ls.length - (RowKit.intOf t).toNat)
  case atStart => exact ⟨0, Nat.zero_le _, rfl, Below.refl _ _, HN⟩
  case round =>
    obtain ⟨k, k1, rfl, hB, hK⟩ := hrel
    clear HN
    by_cases hlt : k < ls.length
    · obtain ⟨b, off, rfl, hltb, ha⟩ := G.out (by omega)
      obtain ⟨sv, dv, X, rs, rd⟩ := ha k hlt
      have X' := X.later hltb hB.out
      have RS := hid rs
      have RD := hid rd
      obtain ⟨so, sc, rfl, _⟩ := rs
      obtain ⟨sd, dc, rfl, _⟩ := rd
      have x0 := X'.ab
      have x1 := X'.re
      have x2 := X'.dep
      have x3 := X'.src
      have x4 := X'.dts
      have hsl := HSm.out ls[k] (List.getElem_mem hlt)
      have q1 : (0 : Int) ≤ (k : Int) := by omega
      have q2 : (k : Int) < (ls.length : Int) := by omega
      have HL : Hid (∀ (V : World) (lv : Value) (links : List Int) (dep : Bool), Below w.heap.size w V → RdI w lv links → links.length ≤ 1099511627776 → Calls Try.prog 31 #[.slice (some ⟨b, off, none⟩) ls.length c, .int .i64 ((k : Int) + 1), lv, .bool dep] V fun e w' => e = .returned (.bool (linkD ls ((k : Int) + 1) dep [] links)) ∧ Below V.heap.size V w') := fun V lv links dep hV hr hn => linkedR_any _ lv ls _ links dep V (HV.out.later hV) hl HSm.out (hr.later hV) hn
      have HA : Hid (∀ (V : World) (p : Nat) (hp : p < ls.length), Below w.heap.size w V → V.cell? ⟨b, off + p * 5, none⟩ = some (.bool ls[p].ab)) := fun V p hp hV => by
        obtain ⟨_, _, Y, _, _⟩ := ha p hp
        exact (Y.later hltb hV).ab
      have hk := hK.out
      rw [List.drop_eq_getElem_cons hlt, refFrom] at hk
      have Hk := hid hk
      clear hk hK ha G X X' HV HSm
      generalize ls[k] = a at *
      obtain ⟨ab, re, dep, src, dts⟩ := a
      dsimp only at *
      have HBb : Hid (Below w.heap.size w (wr.alloc (.cells #[.bool ab, .int .i64 re, .bool dep, .slice so src.length sc, .slice sd dts.length dc] 42))) := hB.out.trans (((Below.refl _ wr).alloc (Nat.le_refl _) _).mono hB.out.size)
      have HX := hid (heap_new wr (.cells #[.bool ab, .int .i64 re, .bool dep, .slice so src.length sc, .slice sd dts.length dc] 42))
      obtain ⟨Z, hZ⟩ : ∃ Z, (re == 0) = Z := ⟨_, rfl⟩
      cases hE : (Z == ab) with
      | true =>
        have hNf : N = false := bool_no Hk.out (by unfold refOne; dsimp only; rw [hZ, hE]; rfl)
        subst hNf
        clear Hk
        have hZa : Z = ab := by simpa using hE
        subst hZa
        go_wp2
        go_ret
        exact ⟨rfl, HBb.out⟩
      | false =>
        have Hone : Hid (refOne ls k ⟨ab, re, dep, src, dts⟩ = (sideD ls k ⟨ab, re, dep, src, dts⟩ && !lateD ls ⟨ab, re, dep, src, dts⟩)) := by
          show _ = _
          unfold refOne
          dsimp only
          rw [hZ, hE]
          rfl
        have hab : ab = !Z := by cases Z <;> cases ab <;> first | rfl | cases hE
        subst hab
        have hE2 : (Z == !Z) = false := by cases Z <;> rfl
        clear hE
        cases dep
        · have Hsd : Hid (sideD ls k ⟨!Z, re, false, src, dts⟩ = (decide (src.length = 0) && linkD ls ((k : Int) + 1) true [] dts)) := by
            show _ = _
            unfold sideD
            rw [if_neg Bool.false_ne_true]
          by_cases hz : src.length = 0
          · have hnil := List.eq_nil_of_length_eq_zero hz
            subst hnil
            simp only [List.length_nil] at HX HBb x3 RS
            clear hz
            cases hR : linkD ls ((k : Int) + 1) true [] dts with
            | false =>
              have hNf : N = false := bool_no Hk.out (by rw [Hone.out, Hsd.out, hR, Bool.and_false]; rfl)
              subst hNf
              clear Hk Hone Hsd
              go_wp2_with (go_at_call 31; refine (HL.out _ _ dts true HBb.out RD.out hsl.2).mono ?_; rintro e w3 ⟨rfl, hb3⟩; rw [hR]; have HB3 := hid (HBb.out.trans (hb3.mono HBb.out.size)); have HX3 := hid (blkLater hb3 HX.out); have S3 := sig_cells (x := ⟨!Z, re, false, [], dts⟩) HX3.out; have z2 := S3.dep; have z3 := S3.src; clear hb3 S3; dsimp only at z2)
              go_ret
              exact ⟨rfl, HB3.out⟩
            | true =>
              have Hval : Hid (∀ x ∈ ([] : List Int), outD ls.length x = false) := fun x hx => by cases hx
              obtain ⟨M, hM⟩ : ∃ M, lateD ls ⟨!Z, re, false, [], dts⟩ = M := ⟨_, rfl⟩
              have HM : Hid ((([] : List Int).drop 0).any (fun y => abAt ls (y.toNat - 1) && !!Z) = M) := hM
              have Hk2 : Hid ((!M && refFrom ls (k + 1) (ls.drop (k + 1))) = N) := by
                have h := Hk.out
                rw [Hone.out, Hsd.out, hR, hM, Bool.and_true] at h
                exact h
              clear hM Hk Hone Hsd
              go_wp2_with (go_at_call 31; refine (HL.out _ _ dts true HBb.out RD.out hsl.2).mono ?_; rintro e w3 ⟨rfl, hb3⟩; rw [hR]; have HB3 := hid (HBb.out.trans (hb3.mono HBb.out.size)); have HX3 := hid (blkLater hb3 HX.out); have S3 := sig_cells (x := ⟨!Z, re, false, [], dts⟩) HX3.out; have z2 := S3.dep; have z3 := S3.src; clear hb3 S3; dsimp only at z2)
              clear hR hE2 x0 x1 x2 x3 x4 HX HBb
              generalize wr.heap.size = Bb at *
              go_loopw [64] (fun t wr => ∃ j : Nat, j ≤ 0 ∧ t = .int .i64 j ∧ Hid (Below w.heap.size w wr) ∧ Hid (wr.heap[Bb]? = some (.cells #[.bool !Z, .int .i64 re, .bool false, .slice so 0 sc, .slice sd dts.length dc] 42)) ∧ Hid ((([] : List Int).drop j).any (fun y => abAt ls (y.toNat - 1) && !!Z) = M)) (fun t _ => 0 - (RowKit.intOf t).toNat)
              case atStart => exact ⟨0, Nat.zero_le _, rfl, HB3, HX3, HM⟩
              case round =>
                obtain ⟨j, j1, rfl, hB2, hX2, hM2⟩ := hrel
                have hj0 : j = 0 := by omega
                subst hj0
                have hMf : M = false := by
                  rw [← hM2.out, List.drop_eq_nil_of_le (by simp)]
                  rfl
                have Hn := hid (bool_yes Hk2.out (by rw [hMf]; rfl))
                clear hM2 Hk2 hMf
                go_wp2
                go_roundw
                case rel => exact ⟨k + 1, by omega, by go_num, hB2, Hn⟩
                case measure => simp [RowKit.intOf]; omega
          · have hz2 : decide ((src.length : Int) > 0) = true := decide_eq_true (by omega)
            have hz3 : 0 < src.length := by omega
            have hNf : N = false := bool_no Hk.out (by rw [Hone.out, Hsd.out, decide_eq_false hz, Bool.false_and]; rfl)
            subst hNf
            clear Hk Hone Hsd hz
            go_wp2
            go_ret
            exact ⟨rfl, HBb.out⟩
        · have Hsd : Hid (sideD ls k ⟨!Z, re, true, src, dts⟩ = (decide (dts.length = 0) && linkD ls ((k : Int) + 1) false [] src)) := by
            show _ = _
            unfold sideD
            rw [if_pos rfl]
          by_cases hz : dts.length = 0
          · have hnil := List.eq_nil_of_length_eq_zero hz
            subst hnil
            simp only [List.length_nil] at HX HBb x4 RD
            clear hz
            cases hR : linkD ls ((k : Int) + 1) false [] src with
            | false =>
              have hNf : N = false := bool_no Hk.out (by rw [Hone.out, Hsd.out, hR, Bool.and_false]; rfl)
              subst hNf
              clear Hk Hone Hsd
              go_wp2_with (go_at_call 31; refine (HL.out _ _ src false HBb.out RS.out hsl.1).mono ?_; rintro e w3 ⟨rfl, hb3⟩; rw [hR]; have HB3 := hid (HBb.out.trans (hb3.mono HBb.out.size)); have HX3 := hid (blkLater hb3 HX.out); have S3 := sig_cells (x := ⟨!Z, re, true, src, []⟩) HX3.out; have z2 := S3.dep; have z3 := S3.src; clear hb3 S3; dsimp only at z2)
              go_ret
              exact ⟨rfl, HB3.out⟩
            | true =>
              have Hval : Hid (∀ x ∈ src, outD ls.length x = false) := link_out hR
              obtain ⟨M, hM⟩ : ∃ M, lateD ls ⟨!Z, re, true, src, []⟩ = M := ⟨_, rfl⟩
              have HM : Hid ((src.drop 0).any (fun y => abAt ls (y.toNat - 1) && !!Z) = M) := hM
              have Hk2 : Hid ((!M && refFrom ls (k + 1) (ls.drop (k + 1))) = N) := by
                have h := Hk.out
                rw [Hone.out, Hsd.out, hR, hM, Bool.and_true] at h
                exact h
              clear hM Hk Hone Hsd
              go_wp2_with (go_at_call 31; refine (HL.out _ _ src false HBb.out RS.out hsl.1).mono ?_; rintro e w3 ⟨rfl, hb3⟩; rw [hR]; have HB3 := hid (HBb.out.trans (hb3.mono HBb.out.size)); have HX3 := hid (blkLater hb3 HX.out); have S3 := sig_cells (x := ⟨!Z, re, true, src, []⟩) HX3.out; have z2 := S3.dep; have z3 := S3.src; clear hb3 S3; dsimp only at z2)
              clear hR hE2 x0 x1 x2 x3 x4 HX HBb
              generalize wr.heap.size = Bb at *
              go_loopw [64] (fun t wr => ∃ j : Nat, j ≤ src.length ∧ t = .int .i64 j ∧ Hid (Below w.heap.size w wr) ∧ Hid (wr.heap[Bb]? = some (.cells #[.bool !Z, .int .i64 re, .bool true, .slice so src.length sc, .slice sd 0 dc] 42)) ∧ Hid ((src.drop j).any (fun y => abAt ls (y.toNat - 1) && !!Z) = M)) (fun t _ => src.length - (RowKit.intOf t).toNat)
              case atStart => exact ⟨0, Nat.zero_le _, rfl, HB3, HX3, HM⟩
              case round =>
                obtain ⟨j, j1, rfl, hB2, hX2, hM2⟩ := hrel
                by_cases hjl : j < src.length
                · obtain ⟨os, cs, es, _, gs⟩ := RS.out
                  injection es with e1 e2 e3
                  subst e1
                  subst e3
                  clear e2
                  obtain ⟨b2, off2, rfl, hlt2, ha2⟩ := gs (by omega)
                  have y0 := (hB2.out.cell (p := ⟨b2, off2 + j, none⟩) hlt2).trans (ha2 j hjl)
                  obtain ⟨p, hpe, hp⟩ := out_no (Hval.out src[j] (List.getElem_mem hjl))
                  have hm := hM2.out
                  rw [List.drop_eq_getElem_cons hjl, List.any_cons, hpe, show ((p : Int) + 1).toNat - 1 = p by omega, ab_at hp] at hm
                  have HM3 := hid hm
                  rw [hpe] at y0
                  have y1 := HA.out wr p hp hB2.out
                  have S3 := sig_cells (x := ⟨!Z, re, true, src, []⟩) hX2.out
                  have y2 := S3.ab
                  have p1 : (0 : Int) ≤ (p : Int) := by omega
                  have p2 : (p : Int) < (ls.length : Int) := by omega
                  have p3 : (0 : Int) ≤ (j : Int) := by omega
                  have p4 : (j : Int) < (src.length : Int) := by omega
                  have hwp : IntKind.i64.wrap (p : Int) = (p : Int) := wrapA (by omega) (by omega)
                  dsimp only at y2
                  clear hm hM2 ha2 gs hpe S3
                  generalize ls[p].ab = pa at *
                  cases pa with
                  | false =>
                    have Hn : Hid ((src.drop (j + 1)).any (fun y => abAt ls (y.toNat - 1) && !!Z) = M) := by
                      have h := HM3.out
                      rw [Bool.false_and, Bool.false_or] at h
                      exact h
                    clear HM3
                    go_wp2
                    go_roundw
                    case rel => exact ⟨j + 1, by omega, by go_num, hB2, hX2, Hn⟩
                    case measure => simp [RowKit.intOf]; omega
                  | true =>
                    cases Z with
                    | false =>
                      have Hn : Hid ((src.drop (j + 1)).any (fun y => abAt ls (y.toNat - 1) && !!false) = M) := by
                        have h := HM3.out
                        rw [show (true && !!false) = false from rfl, Bool.false_or] at h
                        exact h
                      clear HM3
                      go_wp2
                      go_roundw
                      case rel => exact ⟨j + 1, by omega, by go_num, hB2, hX2, Hn⟩
                      case measure => simp [RowKit.intOf]; omega
                    | true =>
                      have hMt : M = true := by
                        rw [← HM3.out]
                        rfl
                      have hNf : N = false := bool_no Hk2.out (by rw [hMt]; rfl)
                      subst hNf
                      clear HM3 Hk2 hMt
                      go_wp2
                      go_ret
                      exact ⟨rfl, hB2.out⟩
                · clear HL HA
                  have hMf : M = false := by
                    rw [← hM2.out, List.drop_eq_nil_of_le (by omega)]
                    rfl
                  have Hn := hid (bool_yes Hk2.out (by rw [hMf]; rfl))
                  clear hM2 Hk2 hMf
                  go_wp2
                  go_roundw
                  case rel => exact ⟨k + 1, by omega, by go_num, hB2, Hn⟩
                  case measure => simp [RowKit.intOf]; omega
          · have hz2 : decide ((dts.length : Int) > 0) = true := decide_eq_true (by omega)
            have hz3 : 0 < dts.length := by omega
            have hNf : N = false := bool_no Hk.out (by rw [Hone.out, Hsd.out, decide_eq_false hz, Bool.false_and]; rfl)
            subst hNf
            clear Hk Hone Hsd hz
            go_wp2
            go_ret
            exact ⟨rfl, HBb.out⟩
    · have hNk : N = true := by
        rw [← hK.out, List.drop_eq_nil_of_le (by omega)]
        rfl
      subst hNk
      clear hK G
      go_wp2
      go_ret
      exact ⟨rfl, hB.out⟩
end Go.Proofs.Ytlibjjmaicgemaa
