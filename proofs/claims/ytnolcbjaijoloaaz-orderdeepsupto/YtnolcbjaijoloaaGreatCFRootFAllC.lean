/- The calls of order that ask one handle: Root, Top. -/
/- The calls of order that ask one handle: All. -/
import Derived.Test.YtnolcbjaijoloaaGreatCFStandFCmpC
import Derived.Test.YtnolcbjaijoloaaGreatCFRangeFAll
namespace Go.Proofs.YtnolcbjaijoloaaGreat
open Go.RowKit Go.Lib Go.Shelf

set_option maxRecDepth 100000 in
set_option maxHeartbeats 2000000 in
theorem Root1_any (b off cap u1 u2 : Nat) (x : Int) (ns : List NodeD) (w : World) (hR : RightF ns) (hF : FAt w b off cap ns) (hx : thereB ns.length x = true)
    (c1 : w.cell? ⟨u1, 0, none⟩ = some (.slice (some ⟨b, off, none⟩) ns.length cap)) (c2 : w.cell? ⟨u2, 0, none⟩ = some (.int .i64 x)) :
    Calls Tryz.prog 43 #[.pointer (some ⟨u1, 0, none⟩), .pointer (some ⟨u2, 0, none⟩)] w fun e w' => e = .returned (.int .i64 (lastI (pathUp ns (parentD ns) x))) ∧ Below w.heap.size w w' := by
  have hP := rootOf_any b off cap x ns w hR hF hx
  unfold forestV at hP
  generalize lastI (pathUp ns (parentD ns) x) = P at *
  go_enter Tryz.func43, Tryz.ntmps43
  go_wp2_with fail
  refine hP.mono ?_
  rintro e v1 ⟨rfl, hb1⟩
  have HB := hid hb1
  clear hP hb1
  go_wp2
  go_ret
  exact ⟨rfl, HB.out⟩

set_option maxRecDepth 100000 in
set_option maxHeartbeats 4000000 in
theorem toldRoot_any (o : Option Addr) (cap u1 u2 : Nat) (R : Int) (v : Value) (hs : List Int) (ns : List NodeD) (w : World) (hF : FRd w o cap ns) (hkl : ∀ (i : Nat) (hi : i < ns.length), ns[i].kids.length ≤ 1099511627776) (hal : ∀ (i : Nat) (hi : i < ns.length), ns[i].attrs.length ≤ 1099511627776) (hv : RdI w v hs) (hl : hs.length ≤ 1099511627776)
    (hT : toldE ns hs = 0 → ∀ W : World, Below w.heap.size w W → Calls Tryz.prog 43 #[.pointer (some ⟨u1, 0, none⟩), .pointer (some ⟨u2, 0, none⟩)] W fun e w' => e = .returned (.int .i64 R) ∧ Below W.heap.size W w') :
    Calls Tryz.prog 42 #[.agg #[.slice o ns.length cap], .func (.func 43) #[] #[.pointer (some ⟨u1, 0, none⟩), .pointer (some ⟨u2, 0, none⟩)], v] w fun e w' => e = .returned (.tuple #[.int .i64 (if toldE ns hs = 0 then R else 0), .int .i64 (toldE ns hs)]) ∧ Below w.heap.size w w' := by
  have HC : Hid (∀ W : World, Below w.heap.size w W → _) := fun W hW => Check_any o cap ns W (hF.later hW) hkl hal
  have hle := hF.len
  obtain ⟨o2, c2, rfl, hc2, g2⟩ := hv
  clear hF hkl hal
  generalize checkN ns = CN at *
  cases hr : rightD ns with
  | false =>
    have e0 : toldE ns hs = 5 := by unfold toldE; rw [hr]; rfl
    have e1 : checkE ns = 5 := by unfold checkE; rw [hr]; rfl
    rw [e0, if_neg (by decide)]
    rw [e1] at HC
    clear hT e0 e1 g2
    go_enter Tryz.func42, Tryz.ntmps42
    go_wp2_with fail
    refine (HC.out _ ((Below.refl _ w).alloc (Nat.le_refl _) _)).mono ?_
    rintro e v1 ⟨rfl, hb1⟩
    go_wp2
    go_ret2
    exact ⟨rfl, box_go hb1⟩
  | true =>
    have e1 : checkE ns = 0 := (checkE_right hr).1
    rw [e1] at HC
    obtain ⟨E, hE⟩ : ∃ E, toldE ns hs = E := ⟨_, rfl⟩
    rw [hE] at hT ⊢
    have HE : Hid ((if (hs.drop 0).all (thereB ns.length) then (0 : Int) else 2) = E) := by
      have := hE
      unfold toldE at this
      rw [hr, if_pos rfl] at this
      exact this
    obtain ⟨T, hTe⟩ : ∃ T, (if E = 0 then R else 0) = T := ⟨_, rfl⟩
    rw [hTe]
    have HTe := hid hTe
    have HT := hid hT
    clear hE hT e1 hTe
    go_enter Tryz.func42, Tryz.ntmps42
    go_wp2_with fail
    refine (HC.out _ ((Below.refl _ w).alloc (Nat.le_refl _) _)).mono ?_
    rintro e v1 ⟨rfl, hb1⟩
    have HB1 := hid (box_go hb1)
    have cb := box_forest hb1
    clear hb1 HC
    go_wp2
    go_loopw [24] (fun t wr => ∃ k : Nat, k ≤ hs.length ∧ t = .int .i64 k ∧ wr = v1 ∧ Hid ((if (hs.drop k).all (thereB ns.length) then (0 : Int) else 2) = E)) (fun t _ => hs.length - (RowKit.intOf t).toNat)
    case atStart => exact ⟨0, Nat.zero_le _, rfl, rfl, HE⟩
    case round =>
      obtain ⟨k, k1, rfl, rfl, hK⟩ := hrel
      by_cases hlt : k < hs.length
      · obtain ⟨b, off, rfl, hlt1, ha⟩ := g2 (by omega)
        have x1 := (HB1.out.cell (p := ⟨b, off + k, none⟩) hlt1).trans (ha k hlt)
        have q1 : (0 : Int) ≤ (k : Int) := by omega
        have q2 : (k : Int) < (hs.length : Int) := by omega
        have hk := hK.out
        rw [List.drop_eq_getElem_cons hlt, List.all_cons] at hk
        have Hk := hid hk
        clear hk hK ha g2
        generalize hs[k] = a at *
        by_cases g1 : a < 1
        · have hf : thereB ns.length a = false := by unfold thereB; rw [decide_eq_false (by omega)]; rfl
          have hE2 : E = 2 := by rw [← Hk.out, hf]; rfl
          subst hE2
          have hT0 : T = 0 := by rw [← HTe.out]; rfl
          subst hT0
          have d1 : decide (a < 1) = true := decide_eq_true g1
          clear Hk hf HT
          go_wp2
          go_ret2
          exact ⟨rfl, HB1.out⟩
        · have d1 : decide (a < 1) = false := decide_eq_false g1
          by_cases g3 : (ns.length : Int) < a
          · have hf : thereB ns.length a = false := by unfold thereB; rw [decide_eq_false (p := a ≤ (ns.length : Int)) (by omega), Bool.and_false]
            have hE2 : E = 2 := by rw [← Hk.out, hf]; rfl
            subst hE2
            have hT0 : T = 0 := by rw [← HTe.out]; rfl
            subst hT0
            have d2 : decide ((ns.length : Int) < a) = true := decide_eq_true g3
            clear Hk hf HT
            go_wp2
            go_ret2
            exact ⟨rfl, HB1.out⟩
          · have hf : thereB ns.length a = true := by unfold thereB; rw [decide_eq_true (by omega), decide_eq_true (by omega)]; rfl
            have d2 : decide ((ns.length : Int) < a) = false := decide_eq_false g3
            have Hn : Hid ((if (hs.drop (k + 1)).all (thereB ns.length) then (0 : Int) else 2) = E) := by
              have h := Hk.out
              rw [hf, Bool.true_and] at h
              exact h
            clear Hk hf
            go_wp2
            go_roundw
            case rel => exact ⟨k + 1, by omega, by go_num, trivial, Hn⟩
            case measure => simp [RowKit.intOf]; omega
      · have hE0 : E = 0 := by rw [← hK.out, List.drop_eq_nil_of_le (by omega)]; rfl
        subst hE0
        have hT := HT.out rfl wr HB1.out
        have hT0 : T = R := by rw [← HTe.out]; rfl
        subst hT0
        clear hK g2 HT HTe
        go_wp2_with fail
        refine hT.mono ?_
        rintro e v2 ⟨rfl, hb2⟩
        have HB2 := hid (HB1.out.trans (hb2.mono HB1.out.size))
        clear hT hb2
        go_wp2
        go_ret2
        exact ⟨rfl, HB2.out⟩

set_option maxRecDepth 100000 in
set_option maxHeartbeats 4000000 in
theorem Root_any (o : Option Addr) (cap : Nat) (x : Int) (ns : List NodeD) (w : World) (hF : FRd w o cap ns) (hkl : ∀ (i : Nat) (hi : i < ns.length), ns[i].kids.length ≤ 1099511627776) (hal : ∀ (i : Nat) (hi : i < ns.length), ns[i].attrs.length ≤ 1099511627776) :
    Calls Tryz.prog 9 #[.agg #[.slice o ns.length cap], .int .i64 x] w fun e w' => e = .returned (.tuple #[.int .i64 (if toldE ns [x] = 0 then lastI (pathUp ns (parentD ns) x) else 0), .int .i64 (toldE ns [x])]) ∧ Below w.heap.size w w' := by
  have hB3 : Below w.heap.size w (((w.alloc (.cells #[.slice o ns.length cap] 24)).alloc (.cells #[.int .i64 x] 3)).alloc (.cells #[.int .i64 x] 3)) := (((Below.refl _ w).alloc (Nat.le_refl _) _).alloc (by simp) _).alloc (by simp; omega) _
  have k0 := new_cell_l w (.slice o ns.length cap) 24
  have k1 := new_cell_l (w.alloc (.cells #[.slice o ns.length cap] 24)) (.int .i64 x) 3
  have kr := one_rdI ((w.alloc (.cells #[.slice o ns.length cap] 24)).alloc (.cells #[.int .i64 x] 3)) x 3
  simp only [World.size_alloc] at k1 kr
  have c0 := keep_cell_l (.cells #[.int .i64 x] 3) (keep_cell_l (.cells #[.int .i64 x] 3) k0.1)
  have c1 := keep_cell_l (.cells #[.int .i64 x] 3) k1.1
  have s0 : w.heap.size < (((w.alloc (.cells #[.slice o ns.length cap] 24)).alloc (.cells #[.int .i64 x] 3)).alloc (.cells #[.int .i64 x] 3)).heap.size := by simp only [World.size_alloc]; omega
  have hT := toldRoot_any o cap w.heap.size (w.heap.size + 1) (lastI (pathUp ns (parentD ns) x)) (.slice (some ⟨w.heap.size + 1 + 1, 0, none⟩) 1 1) [x] ns (((w.alloc (.cells #[.slice o ns.length cap] 24)).alloc (.cells #[.int .i64 x] 3)).alloc (.cells #[.int .i64 x] 3)) (hF.later hB3) hkl hal kr (by simp) (fun hE W hW => by
    obtain ⟨hR, hth⟩ := toldE_zero hE
    have hx := hth x (by simp)
    obtain ⟨i, hi, _⟩ := there_idx hx
    obtain ⟨b, off, rfl, hFA⟩ := hF.at_ (by omega)
    have hBW := hB3.trans (hW.mono hB3.size)
    have h1 := Root1_any b off cap w.heap.size (w.heap.size + 1) x ns W hR (hFA.later hBW) hx
      ((hW.cell (p := ⟨w.heap.size, 0, none⟩) s0).trans c0)
      ((hW.cell (p := ⟨w.heap.size + 1, 0, none⟩) (by show w.heap.size + 1 < _; simp only [World.size_alloc]; omega)).trans c1)
    exact h1)
  generalize (if toldE ns [x] = 0 then lastI (pathUp ns (parentD ns) x) else 0) = A at *
  generalize toldE ns [x] = E at *
  have HB3 := hid hB3
  clear k0 k1 kr c0 c1 s0 hF hkl hal hB3
  go_enter Tryz.func9, Tryz.ntmps9
  go_wp2_with fail
  refine hT.mono ?_
  rintro e v1 ⟨rfl, hb1⟩
  have HB := hid (HB3.out.trans (hb1.mono HB3.out.size))
  clear hT hb1 HB3
  go_wp2
  go_ret2
  exact ⟨rfl, HB.out⟩

set_option maxRecDepth 100000 in
set_option maxHeartbeats 2000000 in
theorem Top1_any (b off cap u1 u2 : Nat) (x : Int) (ns : List NodeD) (w : World) (hR : RightF ns) (hF : FAt w b off cap ns) (hx : thereB ns.length x = true)
    (c1 : w.cell? ⟨u1, 0, none⟩ = some (.slice (some ⟨b, off, none⟩) ns.length cap)) (c2 : w.cell? ⟨u2, 0, none⟩ = some (.int .i64 x)) :
    Calls Tryz.prog 73 #[.pointer (some ⟨u1, 0, none⟩), .pointer (some ⟨u2, 0, none⟩)] w fun e w' => e = .returned (.int .i64 (lastI (pathUp ns (overD ns) x))) ∧ Below w.heap.size w w' := by
  have hP := topOf_any b off cap x ns w hR hF hx
  unfold forestV at hP
  generalize lastI (pathUp ns (overD ns) x) = P at *
  go_enter Tryz.func73, Tryz.ntmps73
  go_wp2_with fail
  refine hP.mono ?_
  rintro e v1 ⟨rfl, hb1⟩
  have HB := hid hb1
  clear hP hb1
  go_wp2
  go_ret
  exact ⟨rfl, HB.out⟩

set_option maxRecDepth 100000 in
set_option maxHeartbeats 4000000 in
theorem toldTop_any (o : Option Addr) (cap u1 u2 : Nat) (R : Int) (v : Value) (hs : List Int) (ns : List NodeD) (w : World) (hF : FRd w o cap ns) (hkl : ∀ (i : Nat) (hi : i < ns.length), ns[i].kids.length ≤ 1099511627776) (hal : ∀ (i : Nat) (hi : i < ns.length), ns[i].attrs.length ≤ 1099511627776) (hv : RdI w v hs) (hl : hs.length ≤ 1099511627776)
    (hT : toldE ns hs = 0 → ∀ W : World, Below w.heap.size w W → Calls Tryz.prog 73 #[.pointer (some ⟨u1, 0, none⟩), .pointer (some ⟨u2, 0, none⟩)] W fun e w' => e = .returned (.int .i64 R) ∧ Below W.heap.size W w') :
    Calls Tryz.prog 42 #[.agg #[.slice o ns.length cap], .func (.func 73) #[] #[.pointer (some ⟨u1, 0, none⟩), .pointer (some ⟨u2, 0, none⟩)], v] w fun e w' => e = .returned (.tuple #[.int .i64 (if toldE ns hs = 0 then R else 0), .int .i64 (toldE ns hs)]) ∧ Below w.heap.size w w' := by
  have HC : Hid (∀ W : World, Below w.heap.size w W → _) := fun W hW => Check_any o cap ns W (hF.later hW) hkl hal
  have hle := hF.len
  obtain ⟨o2, c2, rfl, hc2, g2⟩ := hv
  clear hF hkl hal
  generalize checkN ns = CN at *
  cases hr : rightD ns with
  | false =>
    have e0 : toldE ns hs = 5 := by unfold toldE; rw [hr]; rfl
    have e1 : checkE ns = 5 := by unfold checkE; rw [hr]; rfl
    rw [e0, if_neg (by decide)]
    rw [e1] at HC
    clear hT e0 e1 g2
    go_enter Tryz.func42, Tryz.ntmps42
    go_wp2_with fail
    refine (HC.out _ ((Below.refl _ w).alloc (Nat.le_refl _) _)).mono ?_
    rintro e v1 ⟨rfl, hb1⟩
    go_wp2
    go_ret2
    exact ⟨rfl, box_go hb1⟩
  | true =>
    have e1 : checkE ns = 0 := (checkE_right hr).1
    rw [e1] at HC
    obtain ⟨E, hE⟩ : ∃ E, toldE ns hs = E := ⟨_, rfl⟩
    rw [hE] at hT ⊢
    have HE : Hid ((if (hs.drop 0).all (thereB ns.length) then (0 : Int) else 2) = E) := by
      have := hE
      unfold toldE at this
      rw [hr, if_pos rfl] at this
      exact this
    obtain ⟨T, hTe⟩ : ∃ T, (if E = 0 then R else 0) = T := ⟨_, rfl⟩
    rw [hTe]
    have HTe := hid hTe
    have HT := hid hT
    clear hE hT e1 hTe
    go_enter Tryz.func42, Tryz.ntmps42
    go_wp2_with fail
    refine (HC.out _ ((Below.refl _ w).alloc (Nat.le_refl _) _)).mono ?_
    rintro e v1 ⟨rfl, hb1⟩
    have HB1 := hid (box_go hb1)
    have cb := box_forest hb1
    clear hb1 HC
    go_wp2
    go_loopw [24] (fun t wr => ∃ k : Nat, k ≤ hs.length ∧ t = .int .i64 k ∧ wr = v1 ∧ Hid ((if (hs.drop k).all (thereB ns.length) then (0 : Int) else 2) = E)) (fun t _ => hs.length - (RowKit.intOf t).toNat)
    case atStart => exact ⟨0, Nat.zero_le _, rfl, rfl, HE⟩
    case round =>
      obtain ⟨k, k1, rfl, rfl, hK⟩ := hrel
      by_cases hlt : k < hs.length
      · obtain ⟨b, off, rfl, hlt1, ha⟩ := g2 (by omega)
        have x1 := (HB1.out.cell (p := ⟨b, off + k, none⟩) hlt1).trans (ha k hlt)
        have q1 : (0 : Int) ≤ (k : Int) := by omega
        have q2 : (k : Int) < (hs.length : Int) := by omega
        have hk := hK.out
        rw [List.drop_eq_getElem_cons hlt, List.all_cons] at hk
        have Hk := hid hk
        clear hk hK ha g2
        generalize hs[k] = a at *
        by_cases g1 : a < 1
        · have hf : thereB ns.length a = false := by unfold thereB; rw [decide_eq_false (by omega)]; rfl
          have hE2 : E = 2 := by rw [← Hk.out, hf]; rfl
          subst hE2
          have hT0 : T = 0 := by rw [← HTe.out]; rfl
          subst hT0
          have d1 : decide (a < 1) = true := decide_eq_true g1
          clear Hk hf HT
          go_wp2
          go_ret2
          exact ⟨rfl, HB1.out⟩
        · have d1 : decide (a < 1) = false := decide_eq_false g1
          by_cases g3 : (ns.length : Int) < a
          · have hf : thereB ns.length a = false := by unfold thereB; rw [decide_eq_false (p := a ≤ (ns.length : Int)) (by omega), Bool.and_false]
            have hE2 : E = 2 := by rw [← Hk.out, hf]; rfl
            subst hE2
            have hT0 : T = 0 := by rw [← HTe.out]; rfl
            subst hT0
            have d2 : decide ((ns.length : Int) < a) = true := decide_eq_true g3
            clear Hk hf HT
            go_wp2
            go_ret2
            exact ⟨rfl, HB1.out⟩
          · have hf : thereB ns.length a = true := by unfold thereB; rw [decide_eq_true (by omega), decide_eq_true (by omega)]; rfl
            have d2 : decide ((ns.length : Int) < a) = false := decide_eq_false g3
            have Hn : Hid ((if (hs.drop (k + 1)).all (thereB ns.length) then (0 : Int) else 2) = E) := by
              have h := Hk.out
              rw [hf, Bool.true_and] at h
              exact h
            clear Hk hf
            go_wp2
            go_roundw
            case rel => exact ⟨k + 1, by omega, by go_num, trivial, Hn⟩
            case measure => simp [RowKit.intOf]; omega
      · have hE0 : E = 0 := by rw [← hK.out, List.drop_eq_nil_of_le (by omega)]; rfl
        subst hE0
        have hT := HT.out rfl wr HB1.out
        have hT0 : T = R := by rw [← HTe.out]; rfl
        subst hT0
        clear hK g2 HT HTe
        go_wp2_with fail
        refine hT.mono ?_
        rintro e v2 ⟨rfl, hb2⟩
        have HB2 := hid (HB1.out.trans (hb2.mono HB1.out.size))
        clear hT hb2
        go_wp2
        go_ret2
        exact ⟨rfl, HB2.out⟩

set_option maxRecDepth 100000 in
set_option maxHeartbeats 4000000 in
theorem Top_any (o : Option Addr) (cap : Nat) (x : Int) (ns : List NodeD) (w : World) (hF : FRd w o cap ns) (hkl : ∀ (i : Nat) (hi : i < ns.length), ns[i].kids.length ≤ 1099511627776) (hal : ∀ (i : Nat) (hi : i < ns.length), ns[i].attrs.length ≤ 1099511627776) :
    Calls Tryz.prog 32 #[.agg #[.slice o ns.length cap], .int .i64 x] w fun e w' => e = .returned (.tuple #[.int .i64 (if toldE ns [x] = 0 then lastI (pathUp ns (overD ns) x) else 0), .int .i64 (toldE ns [x])]) ∧ Below w.heap.size w w' := by
  have hB3 : Below w.heap.size w (((w.alloc (.cells #[.slice o ns.length cap] 24)).alloc (.cells #[.int .i64 x] 3)).alloc (.cells #[.int .i64 x] 3)) := (((Below.refl _ w).alloc (Nat.le_refl _) _).alloc (by simp) _).alloc (by simp; omega) _
  have k0 := new_cell_l w (.slice o ns.length cap) 24
  have k1 := new_cell_l (w.alloc (.cells #[.slice o ns.length cap] 24)) (.int .i64 x) 3
  have kr := one_rdI ((w.alloc (.cells #[.slice o ns.length cap] 24)).alloc (.cells #[.int .i64 x] 3)) x 3
  simp only [World.size_alloc] at k1 kr
  have c0 := keep_cell_l (.cells #[.int .i64 x] 3) (keep_cell_l (.cells #[.int .i64 x] 3) k0.1)
  have c1 := keep_cell_l (.cells #[.int .i64 x] 3) k1.1
  have s0 : w.heap.size < (((w.alloc (.cells #[.slice o ns.length cap] 24)).alloc (.cells #[.int .i64 x] 3)).alloc (.cells #[.int .i64 x] 3)).heap.size := by simp only [World.size_alloc]; omega
  have hT := toldTop_any o cap w.heap.size (w.heap.size + 1) (lastI (pathUp ns (overD ns) x)) (.slice (some ⟨w.heap.size + 1 + 1, 0, none⟩) 1 1) [x] ns (((w.alloc (.cells #[.slice o ns.length cap] 24)).alloc (.cells #[.int .i64 x] 3)).alloc (.cells #[.int .i64 x] 3)) (hF.later hB3) hkl hal kr (by simp) (fun hE W hW => by
    obtain ⟨hR, hth⟩ := toldE_zero hE
    have hx := hth x (by simp)
    obtain ⟨i, hi, _⟩ := there_idx hx
    obtain ⟨b, off, rfl, hFA⟩ := hF.at_ (by omega)
    have hBW := hB3.trans (hW.mono hB3.size)
    have h1 := Top1_any b off cap w.heap.size (w.heap.size + 1) x ns W hR (hFA.later hBW) hx
      ((hW.cell (p := ⟨w.heap.size, 0, none⟩) s0).trans c0)
      ((hW.cell (p := ⟨w.heap.size + 1, 0, none⟩) (by show w.heap.size + 1 < _; simp only [World.size_alloc]; omega)).trans c1)
    exact h1)
  generalize (if toldE ns [x] = 0 then lastI (pathUp ns (overD ns) x) else 0) = A at *
  generalize toldE ns [x] = E at *
  have HB3 := hid hB3
  clear k0 k1 kr c0 c1 s0 hF hkl hal hB3
  go_enter Tryz.func32, Tryz.ntmps32
  go_wp2_with fail
  refine hT.mono ?_
  rintro e v1 ⟨rfl, hb1⟩
  have HB := hid (HB3.out.trans (hb1.mono HB3.out.size))
  clear hT hb1 HB3
  go_wp2
  go_ret2
  exact ⟨rfl, HB.out⟩
end Go.Proofs.YtnolcbjaijoloaaGreat

namespace Go.Proofs.YtnolcbjaijoloaaGreat
open Go.RowKit Go.Lib Go.Shelf

theorem ownsRow_base {W : World} {base base' : Nat} {e : TypeId} {size : Nat} {v : Value} {k : Nat} {xs : List Value} (h : W.ownsRow base e size v k xs) (hb : base' ≤ base) : W.ownsRow base' e size v k xs := by
  refine ⟨h.1, ?_⟩
  rcases h.2 with a | ⟨g, cap, cur, hv, hg, rest⟩
  · exact .inl a
  · exact .inr ⟨g, cap, cur, hv, Nat.le_trans hb hg, rest⟩

set_option maxRecDepth 100000 in
set_option maxHeartbeats 2000000 in
theorem All1_any (b off cap u1 u2 : Nat) (x : Int) (ns : List NodeD) (w : World) (hR : RightF ns) (hF : FAt w b off cap ns) (hx : thereB ns.length x = true) (hkl : ∀ (i : Nat) (hi : i < ns.length), ns[i].kids.length ≤ 1099511627776) (hlen : (allD ns x).length ≤ 1099511627776)
    (c1 : w.cell? ⟨u1, 0, none⟩ = some (.slice (some ⟨b, off, none⟩) ns.length cap)) (c2 : w.cell? ⟨u2, 0, none⟩ = some (.int .i64 x)) :
    Calls Tryz.prog 56 #[.pointer (some ⟨u1, 0, none⟩), .pointer (some ⟨u2, 0, none⟩)] w fun e w' => ∃ v, e = .returned v ∧ w'.ownsRow w.heap.size 3 1 v (allD ns x).length ((allD ns x).map (Value.int .i64)) ∧ Below w.heap.size w w' := by
  have hP := listK_any b off cap x ns w hR hF hx hkl hlen
  unfold forestV at hP
  generalize allD ns x = P at *
  clear hkl hlen
  go_enter Tryz.func56, Tryz.ntmps56
  go_wp2_with fail
  refine hP.mono ?_
  rintro e v1 ⟨v, rfl, hrow, hb1⟩
  have HRow := hid hrow
  have HB := hid hb1
  clear hP hb1 hrow
  go_wp2
  exact bodyPost_ret (v := v) (by simp [results, Tryz.results56, go_sem]) rfl ⟨v, rfl, HRow.out, HB.out⟩

set_option maxRecDepth 100000 in
set_option maxHeartbeats 4000000 in
theorem toldAll_any (o : Option Addr) (cap u1 u2 : Nat) (R : List Int) (v : Value) (hs : List Int) (ns : List NodeD) (w : World) (hF : FRd w o cap ns) (hkl : ∀ (i : Nat) (hi : i < ns.length), ns[i].kids.length ≤ 1099511627776) (hal : ∀ (i : Nat) (hi : i < ns.length), ns[i].attrs.length ≤ 1099511627776) (hv : RdI w v hs) (hl : hs.length ≤ 1099511627776)
    (hT : toldE ns hs = 0 → ∀ W : World, Below w.heap.size w W → Calls Tryz.prog 56 #[.pointer (some ⟨u1, 0, none⟩), .pointer (some ⟨u2, 0, none⟩)] W fun e w' => ∃ v, e = .returned v ∧ w'.ownsRow w.heap.size 3 1 v R.length (R.map (Value.int .i64)) ∧ Below W.heap.size W w') :
    Calls Tryz.prog 45 #[.agg #[.slice o ns.length cap], .func (.func 56) #[] #[.pointer (some ⟨u1, 0, none⟩), .pointer (some ⟨u2, 0, none⟩)], v] w fun e w' => ∃ v, e = .returned (.tuple #[v, .int .i64 (toldE ns hs)]) ∧ w'.ownsRow w.heap.size 3 1 v (if toldE ns hs = 0 then R else []).length ((if toldE ns hs = 0 then R else []).map (Value.int .i64)) ∧ Below w.heap.size w w' := by
  have HC : Hid (∀ W : World, Below w.heap.size w W → _) := fun W hW => Check_any o cap ns W (hF.later hW) hkl hal
  have hle := hF.len
  obtain ⟨o2, c2, rfl, hc2, g2⟩ := hv
  clear hF hkl hal
  generalize checkN ns = CN at *
  cases hr : rightD ns with
  | false =>
    have e0 : toldE ns hs = 5 := by unfold toldE; rw [hr]; rfl
    have e1 : checkE ns = 5 := by unfold checkE; rw [hr]; rfl
    rw [e0, if_neg (by decide)]
    rw [e1] at HC
    clear hT e0 e1 g2
    go_enter Tryz.func45, Tryz.ntmps45
    go_wp2_with fail
    refine (HC.out _ ((Below.refl _ w).alloc (Nat.le_refl _) _)).mono ?_
    rintro e v1 ⟨rfl, hb1⟩
    go_wp2
    go_ret2
    exact ⟨_, rfl, World.ownsRow_nil _ _ _ _, box_go hb1⟩
  | true =>
    have e1 : checkE ns = 0 := (checkE_right hr).1
    rw [e1] at HC
    obtain ⟨E, hE⟩ : ∃ E, toldE ns hs = E := ⟨_, rfl⟩
    rw [hE] at hT ⊢
    have HE : Hid ((if (hs.drop 0).all (thereB ns.length) then (0 : Int) else 2) = E) := by
      have := hE
      unfold toldE at this
      rw [hr, if_pos rfl] at this
      exact this
    obtain ⟨T, hTe⟩ : ∃ T, (if E = 0 then R else []) = T := ⟨_, rfl⟩
    rw [hTe]
    have HTe := hid hTe
    have HT := hid hT
    clear hE hT e1 hTe
    go_enter Tryz.func45, Tryz.ntmps45
    go_wp2_with fail
    refine (HC.out _ ((Below.refl _ w).alloc (Nat.le_refl _) _)).mono ?_
    rintro e v1 ⟨rfl, hb1⟩
    have HB1 := hid (box_go hb1)
    have cb := box_forest hb1
    clear hb1 HC
    go_wp2
    go_loopw [24] (fun t wr => ∃ k : Nat, k ≤ hs.length ∧ t = .int .i64 k ∧ wr = v1 ∧ Hid ((if (hs.drop k).all (thereB ns.length) then (0 : Int) else 2) = E)) (fun t _ => hs.length - (RowKit.intOf t).toNat)
    case atStart => exact ⟨0, Nat.zero_le _, rfl, rfl, HE⟩
    case round =>
      obtain ⟨k, k1, rfl, rfl, hK⟩ := hrel
      by_cases hlt : k < hs.length
      · obtain ⟨b, off, rfl, hlt1, ha⟩ := g2 (by omega)
        have x1 := (HB1.out.cell (p := ⟨b, off + k, none⟩) hlt1).trans (ha k hlt)
        have q1 : (0 : Int) ≤ (k : Int) := by omega
        have q2 : (k : Int) < (hs.length : Int) := by omega
        have hk := hK.out
        rw [List.drop_eq_getElem_cons hlt, List.all_cons] at hk
        have Hk := hid hk
        clear hk hK ha g2
        generalize hs[k] = a at *
        by_cases g1 : a < 1
        · have hf : thereB ns.length a = false := by unfold thereB; rw [decide_eq_false (by omega)]; rfl
          have hE2 : E = 2 := by rw [← Hk.out, hf]; rfl
          subst hE2
          have hT0 : T = [] := by rw [← HTe.out]; rfl
          subst hT0
          have d1 : decide (a < 1) = true := decide_eq_true g1
          clear Hk hf HT
          go_wp2
          go_ret2
          exact ⟨_, rfl, World.ownsRow_nil _ _ _ _, HB1.out⟩
        · have d1 : decide (a < 1) = false := decide_eq_false g1
          by_cases g3 : (ns.length : Int) < a
          · have hf : thereB ns.length a = false := by unfold thereB; rw [decide_eq_false (p := a ≤ (ns.length : Int)) (by omega), Bool.and_false]
            have hE2 : E = 2 := by rw [← Hk.out, hf]; rfl
            subst hE2
            have hT0 : T = [] := by rw [← HTe.out]; rfl
            subst hT0
            have d2 : decide ((ns.length : Int) < a) = true := decide_eq_true g3
            clear Hk hf HT
            go_wp2
            go_ret2
            exact ⟨_, rfl, World.ownsRow_nil _ _ _ _, HB1.out⟩
          · have hf : thereB ns.length a = true := by unfold thereB; rw [decide_eq_true (by omega), decide_eq_true (by omega)]; rfl
            have d2 : decide ((ns.length : Int) < a) = false := decide_eq_false g3
            have Hn : Hid ((if (hs.drop (k + 1)).all (thereB ns.length) then (0 : Int) else 2) = E) := by
              have h := Hk.out
              rw [hf, Bool.true_and] at h
              exact h
            clear Hk hf
            go_wp2
            go_roundw
            case rel => exact ⟨k + 1, by omega, by go_num, trivial, Hn⟩
            case measure => simp [RowKit.intOf]; omega
      · have hE0 : E = 0 := by rw [← hK.out, List.drop_eq_nil_of_le (by omega)]; rfl
        subst hE0
        have hT := HT.out rfl wr HB1.out
        have hT0 : T = R := by rw [← HTe.out]; rfl
        subst hT0
        clear hK g2 HT HTe
        go_wp2_with fail
        refine hT.mono ?_
        rintro e v2 ⟨vr, rfl, hrow, hb2⟩
        have HB2 := hid (HB1.out.trans (hb2.mono HB1.out.size))
        have HRow := hid hrow
        clear hT hb2 hrow
        go_wp2
        go_ret2
        exact ⟨_, rfl, HRow.out, HB2.out⟩

set_option maxRecDepth 100000 in
set_option maxHeartbeats 4000000 in
theorem All_any (o : Option Addr) (cap : Nat) (x : Int) (ns : List NodeD) (w : World) (hF : FRd w o cap ns) (hkl : ∀ (i : Nat) (hi : i < ns.length), ns[i].kids.length ≤ 1099511627776) (hal : ∀ (i : Nat) (hi : i < ns.length), ns[i].attrs.length ≤ 1099511627776) (hlen : toldE ns [x] = 0 → (allD ns x).length ≤ 1099511627776) :
    Calls Tryz.prog 18 #[.agg #[.slice o ns.length cap], .int .i64 x] w fun e w' => ∃ v, e = .returned (.tuple #[v, .int .i64 (toldE ns [x])]) ∧ w'.ownsRow w.heap.size 3 1 v (if toldE ns [x] = 0 then allD ns x else []).length ((if toldE ns [x] = 0 then allD ns x else []).map (Value.int .i64)) ∧ Below w.heap.size w w' := by
  have hB3 : Below w.heap.size w (((w.alloc (.cells #[.slice o ns.length cap] 24)).alloc (.cells #[.int .i64 x] 3)).alloc (.cells #[.int .i64 x] 3)) := (((Below.refl _ w).alloc (Nat.le_refl _) _).alloc (by simp) _).alloc (by simp; omega) _
  have k0 := new_cell_l w (.slice o ns.length cap) 24
  have k1 := new_cell_l (w.alloc (.cells #[.slice o ns.length cap] 24)) (.int .i64 x) 3
  have kr := one_rdI ((w.alloc (.cells #[.slice o ns.length cap] 24)).alloc (.cells #[.int .i64 x] 3)) x 3
  simp only [World.size_alloc] at k1 kr
  have c0 := keep_cell_l (.cells #[.int .i64 x] 3) (keep_cell_l (.cells #[.int .i64 x] 3) k0.1)
  have c1 := keep_cell_l (.cells #[.int .i64 x] 3) k1.1
  have s0 : w.heap.size < (((w.alloc (.cells #[.slice o ns.length cap] 24)).alloc (.cells #[.int .i64 x] 3)).alloc (.cells #[.int .i64 x] 3)).heap.size := by simp only [World.size_alloc]; omega
  have hT := toldAll_any o cap w.heap.size (w.heap.size + 1) (allD ns x) (.slice (some ⟨w.heap.size + 1 + 1, 0, none⟩) 1 1) [x] ns (((w.alloc (.cells #[.slice o ns.length cap] 24)).alloc (.cells #[.int .i64 x] 3)).alloc (.cells #[.int .i64 x] 3)) (hF.later hB3) hkl hal kr (by simp) (fun hE W hW => by
    obtain ⟨hR, hth⟩ := toldE_zero hE
    have hx := hth x (by simp)
    obtain ⟨i, hi, _⟩ := there_idx hx
    obtain ⟨b, off, rfl, hFA⟩ := hF.at_ (by omega)
    have hBW := hB3.trans (hW.mono hB3.size)
    have h1 := All1_any b off cap w.heap.size (w.heap.size + 1) x ns W hR (hFA.later hBW) hx hkl (hlen hE)
      ((hW.cell (p := ⟨w.heap.size, 0, none⟩) s0).trans c0)
      ((hW.cell (p := ⟨w.heap.size + 1, 0, none⟩) (by show w.heap.size + 1 < _; simp only [World.size_alloc]; omega)).trans c1)
    refine h1.mono ?_
    rintro e w' ⟨v, rfl, hr, hb⟩
    exact ⟨v, rfl, ownsRow_base hr hW.size, hb⟩)
  generalize (if toldE ns [x] = 0 then allD ns x else []) = A at *
  generalize toldE ns [x] = E at *
  have HB3 := hid hB3
  clear k0 k1 kr c0 c1 s0 hF hkl hal hB3 hlen
  go_enter Tryz.func18, Tryz.ntmps18
  go_wp2_with fail
  refine hT.mono ?_
  rintro e v1 ⟨v, rfl, hrow, hb1⟩
  have HRow := hid (ownsRow_base hrow HB3.out.size)
  have HB := hid (HB3.out.trans (hb1.mono HB3.out.size))
  clear hT hb1 HB3 hrow
  go_wp2
  go_ret2
  exact ⟨_, rfl, HRow.out, HB.out⟩
end Go.Proofs.YtnolcbjaijoloaaGreat
