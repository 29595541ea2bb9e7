/- The reference of forest: known, kids. -/
import Derived.Test.YtilacgcjbdkphaaGreatFRefA
namespace Go.Proofs.YtilacgcjbdkphaaGreat
open Go.RowKit Go.Lib

set_option maxHeartbeats 2000000 in
theorem refKnown_any (k : Nat) (w : World) : Calls Tryz.prog 123 #[.int .u8 (k : Int)] w fun e w' => e = .returned (.bool (knownK k)) ∧ w' = w := by
  have HD : Hid (∀ W : World, _) := fun W => refHasData_any k W
  have HK : Hid (∀ W : World, _) := fun W => refHasKids_any k W
  have e10 : ((k : Int) == 10) = (k == 10) := beq_cast k 10
  have hA : knownK k = ((k == 3 || k == 4 || k == 7 || k == 8) || (k == 1 || k == 9 || k == 11 || k == 12) || k == 10) := by
    unfold knownK mayHangK mayBeWithinK hasDataK mayBeTopK
    cases (k == 1) <;> cases (k == 3) <;> cases (k == 4) <;> cases (k == 7) <;> cases (k == 8) <;> cases (k == 10) <;> cases (k == 9) <;> cases (k == 11) <;> cases (k == 12) <;> rfl
  rw [hA]
  clear hA
  generalize (k == 3 || k == 4 || k == 7 || k == 8) = B1 at *
  generalize (k == 1 || k == 9 || k == 11 || k == 12) = B2 at *
  generalize (k == 10) = B3 at *
  cases B1 with
  | true =>
    go_enter Tryz.func123, Tryz.ntmps123
    go_wp2_with fail
    refine (HD.out _).mono ?_
    rintro e v1 ⟨rfl, rfl⟩
    go_wp2
    go_ret
    exact ⟨rfl, rfl⟩
  | false =>
    cases B2
    all_goals
      cases B3
      all_goals
        go_enter Tryz.func123, Tryz.ntmps123
        go_wp2_with fail
        refine (HD.out _).mono ?_
        rintro e v1 ⟨rfl, rfl⟩
        go_wp2_with fail
        refine (HK.out _).mono ?_
        rintro e v1 ⟨rfl, rfl⟩
        go_wp2
        go_ret
        exact ⟨rfl, rfl⟩

/-- May these be the kids of a document, of another one? -/
def kidsGo (doc : Bool) : Nat → Nat → List Nat → Bool
  | e, t, [] => !doc || (decide (e ≤ 1) && decide (t ≤ 1))
  | e, t, k :: r =>
    if k == 1 then kidsGo doc (e + 1) t r
    else if k == 3 then (if doc then false else kidsGo doc e t r)
    else if k == 4 then (if doc then false else kidsGo doc e t r)
    else if k == 8 then kidsGo doc e t r
    else if k == 7 then kidsGo doc e t r
    else if k == 10 then (if !doc || decide (0 < e) then false else kidsGo doc e (t + 1) r)
    else false

set_option maxRecDepth 100000 in
set_option maxHeartbeats 8000000 in
theorem refKids_any (o : Option Addr) (cap kk : Nat) (v : Value) (l : List Int) (ns : List NodeD) (w : World) (hF : FRd w o cap ns) (hv : RdI w v l) (hl : l.length ≤ 1099511627776) :
    Calls Tryz.prog 128 #[.agg #[.slice o ns.length cap], .int .u8 (kk : Int), v] w fun e w' => e = .returned (.bool (kidsGo (kk == 9) 0 0 (l.map (kindAt ns)))) ∧ Below w.heap.size w w' := by
  have HN : Hid (∀ (z : Int) (W : World), Below w.heap.size w W → _) := fun z W hW => refKind_any o cap z ns W (hF.later hW)
  obtain ⟨o2, c2, rfl, hc, g⟩ := hv
  have ek : ((kk : Int) == 9) = (kk == 9) := beq_cast kk 9
  have ekn : ((kk : Int) != 9) = !(kk == 9) := by rw [bne, ek]
  generalize (kk == 9) = DOC at *
  obtain ⟨R, hR⟩ : ∃ R, kidsGo DOC 0 0 (l.map (kindAt ns)) = R := ⟨_, rfl⟩
  rw [hR]
  have HR : Hid (kidsGo DOC 0 0 ((l.drop 0).map (kindAt ns)) = R) := hR
  clear hR hF
  go_enter Tryz.func128, Tryz.ntmps128
  go_wp2
  go_loopw [7, 8, 13] (fun t1 t2 i wr => ∃ k ne nt : Nat, k ≤ l.length ∧ ne ≤ k ∧ nt ≤ k ∧ t1 = .int .i64 ne ∧ t2 = .int .i64 nt ∧ i = .int .i64 k ∧ Below (w.heap.size + 1) (w.alloc (.cells #[.slice o ns.length cap] 24)) wr ∧ Hid (kidsGo DOC ne nt ((l.drop k).map (kindAt ns)) = R)) (fun _ _ i _ => l.length - (RowKit.intOf i).toNat)
  case atStart => exact ⟨0, 0, 0, Nat.zero_le _, Nat.le_refl _, Nat.le_refl _, rfl, rfl, rfl, Below.refl _ _, HR⟩
  case round =>
    obtain ⟨k, ne, nt, hk, hne, hnt, rfl, rfl, rfl, hB, hr⟩ := hrel
    have hBw := bx_below hB
    have hsb := bx_size hB
    have cb : wr.cell? ⟨w.heap.size, 0, none⟩ = some (.slice o ns.length cap) := (hB.cell (p := ⟨w.heap.size, 0, none⟩) (by show w.heap.size < w.heap.size + 1; omega)).trans (by simp)
    by_cases hlt : k < l.length
    · obtain ⟨b, off, rfl, hlt1, ha⟩ := g (by omega)
      have x1 := (hBw.cell (p := ⟨b, off + k, none⟩) hlt1).trans (ha k hlt)
      have q1 : (0 : Int) ≤ (k : Int) := by omega
      have q2 : (k : Int) < (l.length : Int) := by omega
      have hrr := hr.out
      rw [List.drop_eq_getElem_cons hlt, List.map_cons, kidsGo] at hrr
      have hN := HN.out l[k] wr hBw
      have Hrr := hid hrr
      have HB := hid hB
      have HBw := hid hBw
      clear hrr hr hB hBw ha g
      generalize kindAt ns l[k] = K at *
      generalize l[k] = a at *
      have e1 : ((K : Int) == 1) = (K == 1) := beq_cast K 1
      have e3 : ((K : Int) == 3) = (K == 3) := beq_cast K 3
      have e4 : ((K : Int) == 4) = (K == 4) := beq_cast K 4
      have e8 : ((K : Int) == 8) = (K == 8) := beq_cast K 8
      have e7 : ((K : Int) == 7) = (K == 7) := beq_cast K 7
      have e10 : ((K : Int) == 10) = (K == 10) := beq_cast K 10
      generalize (K == 1) = k1 at *
      generalize (K == 3) = k3 at *
      generalize (K == 4) = k4 at *
      generalize (K == 8) = k8 at *
      generalize (K == 7) = k7 at *
      generalize (K == 10) = k10 at *
      cases k1 with
      | true =>
        have Hn : Hid (kidsGo DOC (ne + 1) nt ((l.drop (k + 1)).map (kindAt ns)) = R) := Hrr.out
        clear Hrr HBw
        go_wp2_with fail
        refine hN.mono ?_
        rintro e v1 ⟨rfl, hb1⟩
        have HB1 := hid (HB.out.trans (hb1.mono hsb))
        clear hN hb1 HB
        go_wp2
        go_roundw
        case rel => exact ⟨k + 1, ne + 1, nt, by omega, by omega, by omega, by go_num, rfl, by go_num, HB1.out, Hn⟩
        case measure => simp [RowKit.intOf]; omega
      | false =>
        cases k3 with
        | true =>
          cases DOC with
          | true =>
            have hRf : R = false := Hrr.out.symm
            subst hRf
            clear Hrr
            go_wp2_with fail
            refine hN.mono ?_
            rintro e v1 ⟨rfl, hb1⟩
            have HB1 := hid (HBw.out.trans (hb1.mono HBw.out.size))
            clear hN hb1 HB HBw
            go_wp2
            go_ret
            exact ⟨rfl, HB1.out⟩
          | false =>
            have Hn : Hid (kidsGo false ne nt ((l.drop (k + 1)).map (kindAt ns)) = R) := Hrr.out
            clear Hrr HBw
            go_wp2_with fail
            refine hN.mono ?_
            rintro e v1 ⟨rfl, hb1⟩
            have HB1 := hid (HB.out.trans (hb1.mono hsb))
            clear hN hb1 HB
            go_wp2
            go_roundw
            case rel => exact ⟨k + 1, ne, nt, by omega, by omega, by omega, rfl, rfl, by go_num, HB1.out, Hn⟩
            case measure => simp [RowKit.intOf]; omega
        | false =>
          cases k4 with
          | true =>
            cases DOC with
            | true =>
              have hRf : R = false := Hrr.out.symm
              subst hRf
              clear Hrr
              go_wp2_with fail
              refine hN.mono ?_
              rintro e v1 ⟨rfl, hb1⟩
              have HB1 := hid (HBw.out.trans (hb1.mono HBw.out.size))
              clear hN hb1 HB HBw
              go_wp2
              go_ret
              exact ⟨rfl, HB1.out⟩
            | false =>
              have Hn : Hid (kidsGo false ne nt ((l.drop (k + 1)).map (kindAt ns)) = R) := Hrr.out
              clear Hrr HBw
              go_wp2_with fail
              refine hN.mono ?_
              rintro e v1 ⟨rfl, hb1⟩
              have HB1 := hid (HB.out.trans (hb1.mono hsb))
              clear hN hb1 HB
              go_wp2
              go_roundw
              case rel => exact ⟨k + 1, ne, nt, by omega, by omega, by omega, rfl, rfl, by go_num, HB1.out, Hn⟩
              case measure => simp [RowKit.intOf]; omega
          | false =>
            cases k8 with
            | true =>
              have Hn : Hid (kidsGo DOC ne nt ((l.drop (k + 1)).map (kindAt ns)) = R) := Hrr.out
              clear Hrr HBw
              go_wp2_with fail
              refine hN.mono ?_
              rintro e v1 ⟨rfl, hb1⟩
              have HB1 := hid (HB.out.trans (hb1.mono hsb))
              clear hN hb1 HB
              go_wp2
              go_roundw
              case rel => exact ⟨k + 1, ne, nt, by omega, by omega, by omega, rfl, rfl, by go_num, HB1.out, Hn⟩
              case measure => simp [RowKit.intOf]; omega
            | false =>
              cases k7 with
              | true =>
                have Hn : Hid (kidsGo DOC ne nt ((l.drop (k + 1)).map (kindAt ns)) = R) := Hrr.out
                clear Hrr HBw
                go_wp2_with fail
                refine hN.mono ?_
                rintro e v1 ⟨rfl, hb1⟩
                have HB1 := hid (HB.out.trans (hb1.mono hsb))
                clear hN hb1 HB
                go_wp2
                go_roundw
                case rel => exact ⟨k + 1, ne, nt, by omega, by omega, by omega, rfl, rfl, by go_num, HB1.out, Hn⟩
                case measure => simp [RowKit.intOf]; omega
              | false =>
                cases k10 with
                | true =>
                  cases DOC with
                  | true =>
                    by_cases h0 : 0 < ne
                    · have hde : decide (0 < ne) = true := decide_eq_true h0
                      have hi : (0 : Int) < (ne : Int) := by omega
                      rw [hde] at Hrr
                      have hRf : R = false := Hrr.out.symm
                      subst hRf
                      clear Hrr
                      go_wp2_with fail
                      refine hN.mono ?_
                      rintro e v1 ⟨rfl, hb1⟩
                      have HB1 := hid (HBw.out.trans (hb1.mono HBw.out.size))
                      clear hN hb1 HB HBw
                      go_wp2
                      go_ret
                      exact ⟨rfl, HB1.out⟩
                    · have hz : ne = 0 := by omega
                      subst hz
                      have Hn : Hid (kidsGo true 0 (nt + 1) ((l.drop (k + 1)).map (kindAt ns)) = R) := Hrr.out
                      clear Hrr HBw
                      go_wp2_with fail
                      refine hN.mono ?_
                      rintro e v1 ⟨rfl, hb1⟩
                      have HB1 := hid (HB.out.trans (hb1.mono hsb))
                      clear hN hb1 HB
                      go_wp2
                      go_roundw
                      case rel => exact ⟨k + 1, 0, nt + 1, by omega, by omega, by omega, rfl, by go_num, by go_num, HB1.out, Hn⟩
                      case measure => simp [RowKit.intOf]; omega
                  | false =>
                    have hRf : R = false := Hrr.out.symm
                    subst hRf
                    clear Hrr
                    go_wp2_with fail
                    refine hN.mono ?_
                    rintro e v1 ⟨rfl, hb1⟩
                    have HB1 := hid (HBw.out.trans (hb1.mono HBw.out.size))
                    clear hN hb1 HB HBw
                    go_wp2
                    go_ret
                    exact ⟨rfl, HB1.out⟩
                | false =>
                  have hRf : R = false := Hrr.out.symm
                  subst hRf
                  clear Hrr
                  go_wp2_with fail
                  refine hN.mono ?_
                  rintro e v1 ⟨rfl, hb1⟩
                  have HB1 := hid (HBw.out.trans (hb1.mono HBw.out.size))
                  clear hN hb1 HB HBw
                  go_wp2
                  go_ret
                  exact ⟨rfl, HB1.out⟩
    · have hkn : k = l.length := by omega
      subst hkn
      have hr2 := hr.out
      rw [List.drop_eq_nil_of_le (Nat.le_refl _), List.map_nil, kidsGo] at hr2
      have d1 : decide ((ne : Int) ≤ 1) = decide (ne ≤ 1) := by
        by_cases h : ne ≤ 1
        · rw [decide_eq_true h, decide_eq_true (by omega)]
        · rw [decide_eq_false h, decide_eq_false (by omega)]
      have d2 : decide ((nt : Int) ≤ 1) = decide (nt ≤ 1) := by
        by_cases h : nt ≤ 1
        · rw [decide_eq_true h, decide_eq_true (by omega)]
        · rw [decide_eq_false h, decide_eq_false (by omega)]
      have HBw := hid hBw
      have Hr2 := hid hr2
      clear hr hr2 hB hBw HN g
      generalize decide (ne ≤ 1) = D1 at *
      generalize decide (nt ≤ 1) = D2 at *
      cases DOC <;> cases D1 <;> cases D2
      all_goals
        have hRf := Hr2.out
        simp only [Bool.not_false, Bool.not_true, Bool.true_or, Bool.false_or, Bool.and_self, Bool.and_true, Bool.and_false] at hRf
        subst hRf
        clear Hr2
        go_wp2
        go_ret
        exact ⟨rfl, HBw.out⟩
end Go.Proofs.YtilacgcjbdkphaaGreat
