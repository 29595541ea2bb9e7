/- The document's own Name, colon, NC and QName: what they come to is what the program's come to. -/
import Derived.Test.YtbefinbihopgfaaDoorRefRead
import Derived.Test.YtbefinbihopgfaaDoorRefAll
import Derived.Test.YtbefinbihopgfaaDoorQName
namespace Go.Proofs.YtbefinbihopgfaaDoor
open Go.RowKit Go.Lib

theorem name_runes (l : List UInt8) (hv : validD l = true) (r0 : Nat) (rest : List Nat) (h : runesD l = r0 :: rest) : nameB l = (startB (r0 : Int) && rest.all (fun r => partB (r : Int))) := by
  have hne : l ≠ [] := by intro e; subst e; cases h
  rw [runesD_step l hne] at h
  obtain ⟨h1, h2⟩ := List.cons.inj h
  unfold nameB
  rw [runsB_ne _ _ _ hne hv, runesD_all partB _ _ (Nat.le_refl _), h1, h2]
theorem name_none (l : List UInt8) (h : runesD l = []) : nameB l = false := by
  by_cases hne : l = []
  · subst hne; rfl
  · rw [runesD_step l hne] at h; cases h

theorem owns_open {w1 : World} {base : Nat} {v : Value} {rd : List Nat} (hown : w1.ownsRow base 21 1 v rd.length (rd.map runeV)) :
    (rd = [] → ∃ a c, v = .slice a 0 c) ∧ ∀ r0 rest, rd = r0 :: rest → ∃ g cap, v = .slice (some ⟨g, 0, none⟩) rd.length cap ∧ rd.length ≤ maxLen ∧ ∀ (j : Nat) (h : j < rd.length), w1.cell? ⟨g, j, none⟩ = some (.int .i32 ((rd[j] : Nat) : Int)) := by
  rcases hown.2 with ⟨rfl, hx⟩ | ⟨g, cap, cur, rfl, _, _, hl, hm, _, _⟩
  · refine ⟨fun _ => ⟨_, _, rfl⟩, fun r0 rest e => ?_⟩
    subst e
    simp at hx
  · refine ⟨fun e => ?_, fun r0 rest _ => ⟨g, cap, rfl, Nat.le_trans hl hm, fun j h => ?_⟩⟩
    · subst e; exact ⟨_, _, rfl⟩
    · have := hown.cells (g := g) rfl j (runeV rd[j]) (by simp [h])
      by_cases hj : j = 0
      · subst hj; simpa [Addr.add, runeV] using this
      · simpa [Addr.add, runeV, hj] using this

set_option maxRecDepth 100000 in
set_option maxHeartbeats 2000000 in
theorem rname_any (s : ByteArray) (w : World) (hs : s.size ≤ 17592186044416) :
    Calls Tryd.prog 23 #[.string s] w fun e w' => e = .returned (.bool (nameB s.data.toList)) ∧ Below w.heap.size w w' := by
  have hR := runes_any s w hs
  have hbad : validD s.data.toList = false → nameB s.data.toList = false := fun h => runsB_bad _ _ _ h
  have hnone := name_none s.data.toList
  have hsome := name_runes s.data.toList
  generalize nameB s.data.toList = ANS at *
  generalize validD s.data.toList = VD at *
  generalize runesD s.data.toList = RD at *
  have HR : Hid (Calls Tryd.prog 45 #[.string s] w (RunesPost w VD RD)) := hR
  have HB : Hid (VD = false → ANS = false) := hbad
  have HN : Hid (RD = [] → ANS = false) := hnone
  have HS : Hid (VD = true → ∀ r0 rest, RD = r0 :: rest → ANS = (startB (r0 : Int) && rest.all (fun r => partB (r : Int)))) := hsome
  clear hR hbad hnone hsome
  go_enter Tryd.func23, Tryd.ntmps23
  go_wp2_with fail
  refine HR.out.mono ?_
  rintro e w1 ⟨hb1, ⟨hvd, rfl⟩ | ⟨hvd, v, rfl, hown⟩⟩
  · have ha := HB.out hvd
    subst ha
    clear hvd
    go_wp2_with fail
    go_ret
    exact ⟨rfl, hb1⟩
  · obtain ⟨o1, o2⟩ := owns_open hown
    cases RD with
    | nil =>
      have ha := HN.out rfl
      subst ha
      obtain ⟨a, c, hv⟩ := o1 rfl
      rw [hv]
      clear o2 hown HS hvd hv
      go_wp2_with fail
      go_ret
      exact ⟨rfl, hb1⟩
    | cons r0 rest =>
      have ha := HS.out hvd r0 rest rfl
      obtain ⟨g, cap, hv, hml, hcells⟩ := o2 r0 rest rfl
      have hc0 : w1.cell? ⟨g, 0, none⟩ = some (.int .i32 (r0 : Int)) := hcells 0 (by simp)
      have hS := fun W => (rstart_any (r0 : Int) W).mono (fun e w' h => (⟨h.1, h.2.symm⟩ : e = .returned (.bool (startB (r0 : Int))) ∧ W = w'))
      have hlen : (r0 :: rest).length = rest.length + 1 := rfl
      have hl0 : (((rest.length : Int) + 1) == 0) = false := beq_eq_false_iff_ne.2 (by omega)
      have hl1 : (0 : Int) < (rest.length : Int) + 1 := by omega
      rw [hv, hlen]
      rw [hlen] at hml
      unfold maxLen at hml
      clear hv o1 o2 hown HN HS HB HR hvd hlen
      cases hst : startB (r0 : Int) with
      | false =>
        rw [hst] at ha hS
        rw [Bool.false_and] at ha
        subst ha
        go_wp2_with (go_at_call 46; refine (hS _).mono ?_; rintro e w' ⟨rfl, rfl⟩)
        go_ret
        exact ⟨rfl, hb1⟩
      | true =>
        rw [hst] at ha hS
        rw [Bool.true_and] at ha
        have HA : Hid (ANS = rest.all (fun r => partB (r : Int))) := ha
        clear ha hst
        go_wp2_with (go_at_call 46; refine (hS _).mono ?_; rintro e w' ⟨rfl, rfl⟩)
        go_loop [5] (fun i => ∃ k : Nat, k ≤ rest.length ∧ i = .int .i64 ((k : Int) + 1) ∧ Hid ((rest.drop k).all (fun r => partB (r : Int)) = ANS)) (fun i => rest.length + 1 - (RowKit.intOf i).toNat)
        case atStart => exact ⟨0, Nat.zero_le _, rfl, HA.out.symm⟩
        case round =>
          obtain ⟨k, hk, rfl, hall⟩ := hrel
          by_cases hlt : k < rest.length
          · have hck : w1.cell? ⟨g, k + 1, none⟩ = some (.int .i32 (rest[k] : Int)) := hcells (k + 1) (by simp; omega)
            have hP := fun W => (rpart_any (rest[k] : Int) W).mono (fun e w' h => (⟨h.1, h.2.symm⟩ : e = .returned (.bool (partB (rest[k] : Int))) ∧ W = w'))
            have hstep : Hid ((partB (rest[k] : Int) && (rest.drop (k + 1)).all (fun r => partB (r : Int))) = ANS) := by
              have h := hall.out
              rw [List.drop_eq_getElem_cons hlt, List.all_cons] at h
              exact h
            have hix : ((k : Int) + 1).toNat = k + 1 := by omega
            have hi1 : (0 : Int) ≤ (k : Int) + 1 := by omega
            have hi2 : (k : Int) + 1 < (rest.length : Int) + 1 := by omega
            clear hcells hall HA
            generalize partB (rest[k] : Int) = pb at hP hstep
            cases pb with
            | false =>
              have ha : ANS = false := hstep.out.symm
              subst ha
              go_wp2_with (go_at_call 47; refine (hP _).mono ?_; rintro e w' ⟨rfl, rfl⟩)
              go_ret
              exact ⟨rfl, hb1⟩
            | true =>
              go_wp2_with (go_at_call 47; refine (hP _).mono ?_; rintro e w' ⟨rfl, rfl⟩)
              go_round
              case rel => exact ⟨k + 1, by omega, by go_num, hstep.out⟩
              case measure => simp [RowKit.intOf]; omega
          · have ha : ANS = true := by rw [← hall.out, List.drop_eq_nil_of_le (by omega)]; rfl
            subst ha
            clear hcells hall HA
            go_wp2
            go_ret
            exact ⟨rfl, hb1⟩
end Go.Proofs.YtbefinbihopgfaaDoor
