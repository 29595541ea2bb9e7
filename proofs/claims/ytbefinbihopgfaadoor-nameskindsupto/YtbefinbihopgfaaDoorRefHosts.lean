/- The walks of the document's own Custom and Hosts. -/
import Derived.Test.YtbefinbihopgfaaDoorRefCustom
import Derived.BigGuard
namespace Go.Proofs.YtbefinbihopgfaaDoor
open Go.RowKit Go.Lib

def takenA : List ByteArray := takenL.map fun l => ⟨l.toArray⟩
def hostA : List ByteArray := hostL.map fun l => ⟨l.toArray⟩
theorem takenA_len : takenA.length = 8 := by decide +kernel
theorem hostA_len : hostA.length = 18 := by decide +kernel
theorem mapA (ls : List (List UInt8)) : (ls.map fun l => (⟨l.toArray⟩ : ByteArray)).map (·.data.toList) = ls := by
  rw [List.map_map]
  conv => rhs; rw [← List.map_id ls]
  exact List.map_congr_left (fun l _ => rfl)
/-- A row of texts that has just been laid. -/
theorem strs_cells (strs : List ByteArray) (w : World) (t : TypeId) : ∀ (j : Nat) (h : j < strs.length), (w.alloc (.cells (strs.map Value.string).toArray t)).cell? ⟨w.heap.size, j, none⟩ = some (.string strs[j]) := by
  intro j h
  have hh : (w.alloc (.cells (strs.map Value.string).toArray t)).heap[w.heap.size]? = some (.cells (strs.map Value.string).toArray t) := by
    show (w.heap.push _)[w.heap.size]? = _
    simp
  rw [cell_of_heap hh]
  simp [h]
theorem takenA_among (s : ByteArray) (w : World) (t : TypeId) : Calls Tryd.prog 57 #[.string s, .slice (some ⟨w.heap.size, 0, none⟩) 8 8] (w.alloc (.cells (takenA.map Value.string).toArray t)) fun e w' => e = .returned (.bool (amongB s.data.toList takenL)) ∧ w' = w.alloc (.cells (takenA.map Value.string).toArray t) := by
  have h := among_any s w.heap.size 8 takenA (w.alloc (.cells (takenA.map Value.string).toArray t)) (by rw [takenA_len]; omega) (strs_cells takenA w t)
  have e : takenA.map (·.data.toList) = takenL := mapA takenL
  rw [e, takenA_len] at h
  exact h
theorem hostA_among (s : ByteArray) (w : World) (t : TypeId) : Calls Tryd.prog 57 #[.string s, .slice (some ⟨w.heap.size, 0, none⟩) 18 18] (w.alloc (.cells (hostA.map Value.string).toArray t)) fun e w' => e = .returned (.bool (amongB s.data.toList hostL)) ∧ w' = w.alloc (.cells (hostA.map Value.string).toArray t) := by
  have h := among_any s w.heap.size 18 hostA (w.alloc (.cells (hostA.map Value.string).toArray t)) (by rw [hostA_len]; omega) (strs_cells hostA w t)
  have e : hostA.map (·.data.toList) = hostL := mapA hostL
  rw [e, hostA_len] at h
  exact h

theorem dash_snoc (l : List Nat) (k : Nat) (h : k < l.length) : (l.take (k + 1)).any (fun r => ((r : Int) == 45)) = ((l.take k).any (fun r => ((r : Int) == 45)) || ((l[k] : Int) == 45)) := by
  rw [List.take_succ_eq_append_getElem h, List.any_append]
  simp

set_option maxRecDepth 100000 in
set_option maxHeartbeats 4000000 in
theorem rcustom_any (s : ByteArray) (w : World) (hs : s.size ≤ 17592186044416) :
    Calls Tryd.prog 29 #[.string s] w fun e w' => e = .returned (.bool (customB s.data.toList)) ∧ Below w.heap.size w w' := by
  have hR := runes_any s w hs
  have hbad := custom_bad s.data.toList
  have hnone := custom_none s.data.toList
  have hsome := custom_runes s.data.toList
  have HAm : Hid (∀ (W : World) (t : TypeId), _) := takenA_among s
  generalize customB s.data.toList = ANS at *
  generalize validD s.data.toList = VD at *
  generalize runesD s.data.toList = RD at *
  generalize amongB s.data.toList takenL = AM at *
  have HR : Hid (Calls Tryd.prog 45 #[.string s] w (RunesPost w VD RD)) := hR
  have HB : Hid (VD = false → ANS = false) := hbad
  have HN : Hid (RD = [] → ANS = false) := hnone
  have HS : Hid (VD = true → ∀ r0 rest, RD = r0 :: rest → ANS = ((smallB (r0 : Int) && (r0 :: rest).all (fun r => pcenB (r : Int))) && ((r0 :: rest).any (fun r => ((r : Int) == 45)) && !AM))) := hsome
  have HP : Hid (∀ (r : Int) (W : World), Calls Tryd.prog 56 #[.int .i32 r] W fun e w' => e = .returned (.bool (pcenB r)) ∧ W = w') := fun r W => (rpcen_any r W).mono (fun e w' h => ⟨h.1, h.2.symm⟩)
  clear hR hbad hnone hsome
  go_enter Tryd.func29, Tryd.ntmps29
  go_wp2_with fail
  refine HR.out.mono ?_
  rintro e w1 ⟨hb1, ⟨hvd, rfl⟩ | ⟨hvd, v, rfl, hown⟩⟩
  · have ha := HB.out hvd
    subst ha
    clear hvd
    go_wp2_with fail
    go_ret
    exact ⟨rfl, hb1⟩
  · obtain ⟨o1, o2⟩ := owns_open hown
    cases RD with
    | nil =>
      have ha := HN.out rfl
      subst ha
      obtain ⟨a, c, hv⟩ := o1 rfl
      rw [hv]
      clear o2 hown HS hvd hv
      go_wp2_with fail
      go_ret
      exact ⟨rfl, hb1⟩
    | cons r0 rest =>
      have ha := HS.out hvd r0 rest rfl
      obtain ⟨g, cap, hv, hml, hcells⟩ := o2 r0 rest rfl
      have hc0 : w1.cell? ⟨g, 0, none⟩ = some (.int .i32 (r0 : Int)) := hcells 0 (by simp)
      have hl0 : (((r0 :: rest).length : Int) == 0) = false := beq_eq_false_iff_ne.2 (by simp only [List.length_cons]; omega)
      have hl1 : (0 : Int) < ((r0 :: rest).length : Int) := by simp only [List.length_cons]; omega
      have hl2 : 0 < (r0 :: rest).length := by simp
      have Hr0 : Hid ((r0 :: rest).take 0 = []) := rfl
      rw [hv]
      unfold maxLen at hml
      clear hv o1 o2 hown HN HS HB HR hvd
      generalize r0 :: rest = l at *
      by_cases c1 : (r0 : Int) < 97
      · have hsm : smallB (r0 : Int) = false := by unfold smallB; rw [decide_eq_false (by omega)]; rfl
        rw [hsm, Bool.false_and, Bool.false_and] at ha
        subst ha
        clear hcells hsm
        have d1 : decide ((r0 : Int) < 97) = true := decide_eq_true c1
        go_wp2
        go_ret
        exact ⟨rfl, hb1⟩
      · by_cases c2 : (122 : Int) < (r0 : Int)
        · have hsm : smallB (r0 : Int) = false := by unfold smallB; rw [decide_eq_false (p := (r0 : Int) ≤ 122) (by omega), Bool.and_false]
          rw [hsm, Bool.false_and, Bool.false_and] at ha
          subst ha
          clear hcells hsm
          have d1 : decide ((r0 : Int) < 97) = false := decide_eq_false c1
          have d2 : decide ((122 : Int) < (r0 : Int)) = true := decide_eq_true c2
          go_wp2
          go_ret
          exact ⟨rfl, hb1⟩
        · have hsm : smallB (r0 : Int) = true := by unfold smallB; rw [decide_eq_true (by omega), decide_eq_true (by omega)]; rfl
          rw [hsm, Bool.true_and] at ha
          have HA : Hid (ANS = (l.all (fun r => pcenB (r : Int)) && (l.any (fun r => ((r : Int) == 45)) && !AM))) := ha
          clear ha hsm
          have d1 : decide ((r0 : Int) < 97) = false := decide_eq_false c1
          have d2 : decide ((122 : Int) < (r0 : Int)) = false := decide_eq_false c2
          go_wp2
          go_loop [5, 6] (fun d i => ∃ k : Nat, k ≤ l.length ∧ i = .int .i64 (k : Int) ∧ d = .bool ((l.take k).any (fun r => ((r : Int) == 45))) ∧ Hid (ANS = ((l.drop k).all (fun r => pcenB (r : Int)) && (l.any (fun r => ((r : Int) == 45)) && !AM)))) (fun _ i => l.length - (RowKit.intOf i).toNat)
          case atStart => exact ⟨0, Nat.zero_le _, rfl, rfl, HA.out⟩
          case round =>
            obtain ⟨k, hk, rfl, rfl, hall⟩ := hrel
            clear HA
            by_cases hlt : k < l.length
            · have hck := hcells k hlt
              have hP := fun W => HP.out (l[k] : Int) W
              have hdn := dash_snoc l k hlt
              have hstep : Hid (ANS = ((pcenB (l[k] : Int) && (l.drop (k + 1)).all (fun r => pcenB (r : Int))) && (l.any (fun r => ((r : Int) == 45)) && !AM))) := by
                have h := hall.out
                rw [List.drop_eq_getElem_cons hlt, List.all_cons] at h
                exact h
              have Hd : Hid (_ = _) := hdn
              clear hcells hall hdn
              generalize (l.take k).any (fun r => ((r : Int) == 45)) = dk at *
              generalize pcenB (l[k] : Int) = pb at hP hstep
              generalize l[k] = rk at *
              cases pb with
              | false =>
                have ha : ANS = false := by rw [hstep.out]; rfl
                subst ha
                go_wp2_with (go_at_call 56; refine (hP _).mono ?_; rintro e w' ⟨rfl, rfl⟩)
                go_ret
                exact ⟨rfl, hb1⟩
              | true =>
                have hs2 : Hid (ANS = ((l.drop (k + 1)).all (fun r => pcenB (r : Int)) && (l.any (fun r => ((r : Int) == 45)) && !AM))) := by
                  have h := hstep.out
                  rw [Bool.true_and] at h
                  exact h
                clear hstep
                cases dk with
                | true =>
                  go_wp2_with (go_at_call 56; refine (hP _).mono ?_; rintro e w' ⟨rfl, rfl⟩)
                  go_round
                  case rel => exact ⟨k + 1, by omega, by go_num, by rw [Hd.out]; rfl, hs2⟩
                  case measure => simp [RowKit.intOf]; omega
                | false =>
                  go_wp2_with (go_at_call 56; refine (hP _).mono ?_; rintro e w' ⟨rfl, rfl⟩)
                  go_round
                  case rel => exact ⟨k + 1, by omega, by go_num, by rw [Hd.out]; rfl, hs2⟩
                  case measure => simp [RowKit.intOf]; omega
            · have hke : k = l.length := by omega
              subst hke
              have ha := hall.out
              rw [List.drop_eq_nil_of_le (Nat.le_refl _), List.all_nil, Bool.true_and] at ha
              rw [List.take_of_length_le (Nat.le_refl _)]
              have HA : Hid (_ = _) := ha
              clear hcells hall ha
              generalize l.any (fun r => ((r : Int) == 45)) = dl at *
              have hAm := HAm.out w1 9
              have eA : (takenA.map Value.string).toArray = #[.string ⟨#[97, 110, 110, 111, 116, 97, 116, 105, 111, 110, 45, 120, 109, 108]⟩, .string ⟨#[99, 111, 108, 111, 114, 45, 112, 114, 111, 102, 105, 108, 101]⟩, .string ⟨#[102, 111, 110, 116, 45, 102, 97, 99, 101]⟩, .string ⟨#[102, 111, 110, 116, 45, 102, 97, 99, 101, 45, 115, 114, 99]⟩, .string ⟨#[102, 111, 110, 116, 45, 102, 97, 99, 101, 45, 117, 114, 105]⟩, .string ⟨#[102, 111, 110, 116, 45, 102, 97, 99, 101, 45, 102, 111, 114, 109, 97, 116]⟩, .string ⟨#[102, 111, 110, 116, 45, 102, 97, 99, 101, 45, 110, 97, 109, 101]⟩, .string ⟨#[109, 105, 115, 115, 105, 110, 103, 45, 103, 108, 121, 112, 104]⟩] := by rfl
              rw [eA] at hAm
              clear eA
              cases dl with
              | false =>
                have ha : ANS = false := by rw [HA.out]; rfl
                subst ha
                clear hAm
                go_wp2
                go_ret
                exact ⟨rfl, hb1⟩
              | true =>
                have ha : ANS = !AM := by rw [HA.out]; rfl
                subst ha
                go_wp2_with (go_at_call 57; refine hAm.mono ?_; rintro e w' ⟨rfl, rfl⟩)
                go_ret
                exact ⟨rfl, hb1.alloc hb1.size _⟩

set_option maxRecDepth 100000 in
set_option maxHeartbeats 4000000 in
theorem rhosts_any (s : ByteArray) (w : World) (hs : s.size ≤ 17592186044416) :
    Calls Tryd.prog 31 #[.string s] w fun e w' => e = .returned (.bool (hostsB s.data.toList)) ∧ Below w.heap.size w w' := by
  have hC := rcustom_any s w hs
  have HAm : Hid (∀ (W : World) (t : TypeId), _) := hostA_among s
  unfold hostsB
  generalize customB s.data.toList = b1 at hC ⊢
  generalize amongB s.data.toList hostL = b2 at HAm ⊢
  cases b1 with
  | true =>
    go_enter Tryd.func31, Tryd.ntmps31
    go_wp2_with (go_at_call 29; refine hC.mono ?_; rintro e w1 ⟨rfl, hb1⟩)
    go_ret
    exact ⟨rfl, hb1⟩
  | false =>
    go_enter Tryd.func31, Tryd.ntmps31
    go_wp2_with fail
    refine hC.mono ?_
    rintro e w1 ⟨rfl, hb1⟩
    have hAm := HAm.out w1 9
    have eA : (hostA.map Value.string).toArray = #[.string ⟨#[97, 114, 116, 105, 99, 108, 101]⟩, .string ⟨#[97, 115, 105, 100, 101]⟩, .string ⟨#[98, 108, 111, 99, 107, 113, 117, 111, 116, 101]⟩, .string ⟨#[98, 111, 100, 121]⟩, .string ⟨#[100, 105, 118]⟩, .string ⟨#[102, 111, 111, 116, 101, 114]⟩, .string ⟨#[104, 49]⟩, .string ⟨#[104, 50]⟩, .string ⟨#[104, 51]⟩, .string ⟨#[104, 52]⟩, .string ⟨#[104, 53]⟩, .string ⟨#[104, 54]⟩, .string ⟨#[104, 101, 97, 100, 101, 114]⟩, .string ⟨#[109, 97, 105, 110]⟩, .string ⟨#[110, 97, 118]⟩, .string ⟨#[112]⟩, .string ⟨#[115, 101, 99, 116, 105, 111, 110]⟩, .string ⟨#[115, 112, 97, 110]⟩] := by rfl
    rw [eA] at hAm
    clear eA
    go_wp2_with (go_at_call 57; refine hAm.mono ?_; rintro e w' ⟨rfl, rfl⟩)
    go_ret
    exact ⟨rfl, hb1.alloc hb1.size _⟩
end Go.Proofs.YtbefinbihopgfaaDoor
