/- The walk of the law TopNames. -/
import Derived.Test.YtipkdbhdpmkjcacDoorTTop
import Derived.Deep.RegionWith
import Derived.Deep.DeepCutAuto
import Derived.Deep.CutRange
import Derived.Deep.RegionHeld
namespace Go.Proofs.YtipkdbhdpmkjcacDoor
open Go.RowKit Go.Lib

theorem top_yes (sp q : ByteArray) (h : extractE sp q = 0) : sp = (extractN sp q).1 ∧ qualS (extractN sp q).2.1 (extractN sp q).2.2 = q ∧ rightB sp (extractN sp q).2.1 (extractN sp q).2.2 = true ∧ (extractN sp q).2.1.size ≤ q.size ∧ (extractN sp q).2.2.size ≤ q.size ∧ qnameB q.data.toList = true := by
  rw [extractN_zero sp q h]
  refine ⟨rfl, qual_split q (extract_zero sp q h), right_of_extract sp q h, (split_le q).1, (split_le q).2, ?_⟩
  have hv := extract_zero sp q h
  unfold validateE at hv
  split at hv
  · cases hv
  · split at hv
    · rename_i h2
      exact h2
    · cases hv

/-- A name's block, kept. -/
structure Kn (b : Nat) (a p l : ByteArray) (W : World) : Prop where
  n0 : W.cell? ⟨b, 0, none⟩ = some (.string a)
  n1 : W.cell? ⟨b, 1, none⟩ = some (.string p)
  n2 : W.cell? ⟨b, 2, none⟩ = some (.string l)
  ln : b < W.heap.size
theorem Kn.later {b : Nat} {a p l : ByteArray} {W W' : World} (h : Kn b a p l W) (hb : Below W.heap.size W W') : Kn b a p l W' :=
  ⟨(hb.cell (p := ⟨b, 0, none⟩) h.ln).trans h.n0, (hb.cell (p := ⟨b, 1, none⟩) h.ln).trans h.n1, (hb.cell (p := ⟨b, 2, none⟩) h.ln).trans h.n2, Nat.lt_of_lt_of_le h.ln hb.size⟩
theorem Kn.new (a p l : ByteArray) (w : World) (t : TypeId) : Kn w.heap.size a p l (w.alloc (.cells #[.string a, .string p, .string l] t)) :=
  ⟨by simp, by simp, by simp, by simp⟩

/-- A new name's block, kept. -/
def Km (b : Nat) (W : World) : Prop := ∃ x0 x1 x2 t, W.heap[b]? = some (.cells #[x0, x1, x2] t (0, 0))
theorem Km.lt {b : Nat} {W : World} (h : Km b W) : b < W.heap.size := by
  obtain ⟨x0, x1, x2, t, e⟩ := h
  exact (Array.getElem?_eq_some_iff.1 e).1
theorem Km.later {b : Nat} {W W' : World} (h : Km b W) (hb : Below W.heap.size W W') : Km b W' := by
  have hl := h.lt
  obtain ⟨x0, x1, x2, t, e⟩ := h
  exact ⟨x0, x1, x2, t, (hb.block b hl).trans e⟩
theorem Km.new (a p l : Value) (w : World) (t : TypeId) : Km w.heap.size (w.alloc (.cells #[a, p, l] t)) :=
  ⟨a, p, l, t, alloc_at w _⟩
theorem Km.facts {b : Nat} {W : World} (h : Km b W) : (∃ v, W.cell? ⟨b, 0, none⟩ = some v) ∧ (∃ v, W.cell? ⟨b, 1, none⟩ = some v) ∧ (∃ v, W.cell? ⟨b, 2, none⟩ = some v) ∧ W.frozen? ⟨b, 0, none⟩ = false ∧ W.frozen? ⟨b, 1, none⟩ = false ∧ W.frozen? ⟨b, 2, none⟩ = false := by
  obtain ⟨x0, x1, x2, t, e⟩ := h
  exact ⟨⟨x0, (cell_of_heap e 0).trans rfl⟩, ⟨x1, (cell_of_heap e 1).trans rfl⟩, ⟨x2, (cell_of_heap e 2).trans rfl⟩, frozen_of_heap e 0, frozen_of_heap e 1, frozen_of_heap e 2⟩
theorem Km.put {b : Nat} {W : World} (h : Km b W) (a p l : ByteArray) : Kn b a p l (((W.setCell ⟨b, 0, none⟩ (.string a)).setCell ⟨b, 1, none⟩ (.string p)).setCell ⟨b, 2, none⟩ (.string l)) := by
  have hl := h.lt
  obtain ⟨x0, x1, x2, t, e⟩ := h
  have e3 := heap_setCell_at (k := 2) (heap_setCell_at (k := 1) (heap_setCell_at (k := 0) e (.string a)) (.string p)) (.string l)
  exact ⟨(cell_of_heap e3 0).trans rfl, (cell_of_heap e3 1).trans rfl, (cell_of_heap e3 2).trans rfl, (Array.getElem?_eq_some_iff.1 e3).1⟩
theorem Kn.far {b b' o : Nat} {a p l : ByteArray} {W : World} (h : Kn b a p l W) (hne : b < b') (v : Value) : Kn b a p l (W.setCell ⟨b', o, none⟩ v) :=
  ⟨(World.cell?_setCell_far W ⟨b', o, none⟩ ⟨b, 0, none⟩ v (by dsimp only; omega)).trans h.n0, (World.cell?_setCell_far W ⟨b', o, none⟩ ⟨b, 1, none⟩ v (by dsimp only; omega)).trans h.n1, (World.cell?_setCell_far W ⟨b', o, none⟩ ⟨b, 2, none⟩ v (by dsimp only; omega)).trans h.n2, by simpa using h.ln⟩
theorem below_new (w : World) (o : Obj) : Below w.heap.size w (w.alloc o) := (Below.refl _ w).alloc (Nat.le_refl _) o

set_option maxRecDepth 100000 in
set_option maxHeartbeats 8000000 in
theorem topLaw (sp q : ByteArray) (w : World) (_hsp : sp.size ≤ 4294967296) (hq : q.size ≤ 4294967296) (h : Laid w) :
    Calls Tryd.prog 5 #[.string sp, .string q] w fun e w' => e = .returned (.bool true) ∧ Below w.heap.size w w' := by
  have HB : Hid (∀ W, Laid W → _) := fun W (hW : Laid W) => tbegins_any W hW
  have hE := fun W (hW : Laid W) => extract_any sp q W (by omega) hW
  have hF0 := top_yes sp q
  have HQn : Hid (∀ W, Laid W → _) := fun W (hW : Laid W) => qname_any q W (by omega) hW
  generalize extractN sp q = N at hE hF0
  generalize extractE sp q = ex at hE hF0
  obtain ⟨n1, n2, n3⟩ := N
  dsimp only at hE hF0
  have F0 : Hid (ex = 0 → sp = n1 ∧ qualS n2 n3 = q ∧ rightB sp n2 n3 = true ∧ n2.size ≤ q.size ∧ n3.size ≤ q.size ∧ qnameB q.data.toList = true) := hF0
  have HE : Hid (∀ W, Laid W → _) := hE
  clear hE hF0
  have hNm := fun W (hW : Laid W) => name_any q W (by omega) hW
  have hLo := fun W => lower_any q W (by omega)
  have hNl := fun W (hW : Laid W) => name_any ⟨(lowD q.data.toList).toArray⟩ W (by rw [Lib.size_eq]; simp [lowD]; omega) hW
  simp only [name_low] at hNl
  have hCu := fun W (hW : Laid W) => custom_any q W (by omega) hW
  have hHo := fun W (hW : Laid W) => hosts_any q W (by omega) hW
  have hSp := fun W => usplit_any q W hq
  have hSt := fun (ht : trimF blankB q = q) W (hW : Laid W) => strip_at q W (by omega) ht hW
  have hnw := name_words q
  have hch : customB q.data.toList = true → hostsB q.data.toList = true := fun e => by unfold hostsB; rw [e]; rfl
  rw [show goFieldsP blankB q = wordsOf q from rfl] at hnw
  generalize wordsOf q = ws at hSp hnw
  generalize customB q.data.toList = cb at hCu hch
  generalize hostsB q.data.toList = hh at hHo hch
  generalize nameB q.data.toList = nb at hNm hNl hnw
  generalize (⟨(lowD q.data.toList).toArray⟩ : ByteArray) = lo at hLo hNl
  have HNm : Hid (∀ W, Laid W → _) := hNm
  have HLo : Hid (∀ W : World, _) := hLo
  have HNl : Hid (∀ W, Laid W → _) := hNl
  have HCu : Hid (∀ W, Laid W → _) := hCu
  have HHo : Hid (∀ W, Laid W → _) := hHo
  have HSp : Hid (∀ W : World, _) := hSp
  have HSt : Hid (trimF blankB q = q → ∀ W, Laid W → _) := hSt
  have Hnw : Hid (nb = true → ws = [q] ∧ trimF blankB q = q) := hnw
  have Hch : Hid (cb = true → hh = true) := hch
  clear hNm hLo hNl hCu hHo hSp hSt hnw hch
  have hq1 : (q.toList == q.toList) = true := by simp
  have L := St.start h
  go_enter Tryd.func5, Tryd.ntmps5
  go_wp2_with fail
  refine (HB.out _ L.laid).mono ?_
  rintro e w1 ⟨rfl, hb1⟩
  replace L := L.later hb1
  clear hb1
  go_wp2_with fail
  refine (HE.out _ L.laid).mono ?_
  rintro e w2 ⟨rfl, hb2⟩
  replace L := L.later hb2
  clear hb2 HB
  by_cases hex : ex = 0
  · subst hex
    obtain ⟨hN, hqs, hri, hz1, hz2, hqn⟩ := F0.out rfl
    subst hN
    have hQ := fun W => qualified_any sp n2 n3 W (by omega) (by omega)
    have hRi := fun W (hW : Laid W) => right_any sp n2 n3 W hW (by omega) (by omega)
    rw [hqs] at hQ
    rw [hri] at hRi
    have hQn := HQn.out
    rw [hqn] at hQn
    clear HQn hqs hri hz1 hz2 F0 hqn
    have HQ : Hid (∀ W : World, _) := hQ
    have HRi : Hid (∀ W, Laid W → _) := hRi
    have HQn : Hid (∀ W, Laid W → _) := hQn
    clear hQ hRi hQn
    have hs1 : (sp.toList == sp.toList) = true := by simp
    have hs2 : (n2.toList == n2.toList) = true := by simp
    have hs3 : (n3.toList == n3.toList) = true := by simp
    have L3 := L.later ((Below.refl _ w2).alloc (Nat.le_refl _) (.cells #[.string sp, .string n2, .string n3] 29))
    have kp := Kn.new sp n2 n3 w2 29
    go_upto_region 5 with fail
    have hbD : Below (w2.heap.size + 1) (w2.alloc (.cells #[.string sp, .string n2, .string n3] 29)) (w2.alloc (.cells #[.string sp, .string n2, .string n3] 29)).drew := (Below.refl _ _).drew
    have L3d := L3.later (by simpa using hbD)
    have kpd := kp.later (by simpa using hbD)
    go_cut [7, 8] (fun t7 t8 wx => ∃ bm, t7 = .pointer (some ⟨bm, 0, none⟩) ∧ t8 = .int .i64 0 ∧ Kn w2.heap.size sp n2 n3 wx ∧ Kn bm sp n2 n3 wx ∧ Below w.heap.size w wx)
    case first =>
      go_region_with (first
        | (go_at_call 17; refine (HQ.out _).mono ?_; rintro e v1 ⟨rfl, hb⟩
           first
           | (have hbd : Below (w2.alloc (.cells #[.string sp, .string n2, .string n3] 29)).drew.heap.size (w2.alloc (.cells #[.string sp, .string n2, .string n3] 29)).drew v1 := hb
              have kp1 := kpd.later hbd; have L4 := L3d.later hbd; clear hb hbd; obtain ⟨a0, a1, a2, a3⟩ := kp1; have kp1 : Kn w2.heap.size sp n2 n3 v1 := ⟨a0, a1, a2, a3⟩)
           | (have hbd : Below ((w2.alloc (.cells #[.string sp, .string n2, .string n3] 29)).drew.alloc (.cells #[.string ⟨#[]⟩, .string ⟨#[]⟩, .string ⟨#[]⟩] 29)).heap.size ((w2.alloc (.cells #[.string sp, .string n2, .string n3] 29)).drew.alloc (.cells #[.string ⟨#[]⟩, .string ⟨#[]⟩, .string ⟨#[]⟩] 29)) v1 := hb
              have kp1 := (kpd.later (below_new _ _)).later hbd; have L4 := (L3d.later (below_new _ _)).later hbd; have km1 : Km (w2.heap.size + 1) v1 := by have km0 := (Km.new (.string ⟨#[]⟩) (.string ⟨#[]⟩) (.string ⟨#[]⟩) (w2.alloc (.cells #[.string sp, .string n2, .string n3] 29)).drew 29).later hbd; simpa using km0
              clear hb hbd; obtain ⟨a0, a1, a2, a3⟩ := kp1; have kp1 : Kn w2.heap.size sp n2 n3 v1 := ⟨a0, a1, a2, a3⟩))
        | (go_at_call 16
           first
           | (refine (HE.out v1 L4.laid).mono ?_; rintro e v2 ⟨rfl, hb⟩
              have kp2 := kp1.later hb; have L5 := L4.later hb
              (try (have km2 := km1.later hb; obtain ⟨⟨x0, g0⟩, ⟨x1, g1⟩, ⟨x2, g2⟩, f0, f1, f2⟩ := km2.facts))
              clear hb; obtain ⟨b0, b1, b2, b3⟩ := kp2)
           | (refine (HE.out (v1.alloc (.cells #[.string ⟨#[]⟩, .string ⟨#[]⟩, .string ⟨#[]⟩] 29)) (L4.later (below_new _ _)).laid).mono ?_; rintro e v2 ⟨rfl, hb⟩
              have kp2 := (kp1.later (below_new _ _)).later hb; have L5 := (L4.later (below_new _ _)).later hb
              have km2 : Km v1.heap.size v2 := (Km.new (.string ⟨#[]⟩) (.string ⟨#[]⟩) (.string ⟨#[]⟩) v1 29).later hb; obtain ⟨⟨x0, g0⟩, ⟨x1, g1⟩, ⟨x2, g2⟩, f0, f1, f2⟩ := km2.facts
              clear hb; obtain ⟨b0, b1, b2, b3⟩ := kp2)))
      all_goals
        go_wp2_with fail
        go_meet
        have hle : w.heap.size ≤ w2.heap.size := L.bel.size
        have kb : Kn w2.heap.size sp n2 n3 v2 := ⟨b0, b1, b2, b3⟩
        first
        | exact ⟨_, rfl, rfl, kb.later (below_new _ _), Kn.new _ _ _ _ _, (L5.later (below_new _ _)).bel⟩
        | exact ⟨_, rfl, rfl, ((kb.far (by omega) _).far (by omega) _).far (by omega) _, km2.put _ _ _, ((L5.bel.setCell (by dsimp only; omega) _).setCell (by dsimp only; omega) _).setCell (by dsimp only; omega) _⟩
    case rest =>
      obtain ⟨bm, rfl, rfl, kn, km, hbw⟩ := hcut
      have L6 : St w wc := ⟨h.later hbw, hbw⟩
      clear L L3 L3d kp kpd hbD hbw HE
      obtain ⟨m0, m1, m2, m3⟩ := km
      obtain ⟨b0, b1, b2, b3⟩ := kn
      have kn : Kn w2.heap.size sp n2 n3 wc := ⟨b0, b1, b2, b3⟩
      go_wp2_with fail
      refine (HQ.out _).mono ?_
      rintro e w3 ⟨rfl, hb⟩
      replace L6 := L6.later hb
      replace kn := kn.later hb
      clear hb b0 b1 b2 b3 m0 m1 m2 m3
      obtain ⟨b0, b1, b2, b3⟩ := kn
      go_wp2_with fail
      refine (HRi.out _ L6.laid).mono ?_
      rintro e w4 ⟨rfl, hb⟩
      replace L6 := L6.later hb
      clear hb b0 b1 b2 b3
      go_wp2_with fail
      refine (HQn.out _ L6.laid).mono ?_
      rintro e w5 ⟨rfl, hb⟩
      replace L6 := L6.later hb
      clear hb
      go_wp2_with fail
      refine (HNm.out _ L6.laid).mono ?_
      rintro e wn ⟨rfl, hb⟩
      replace L6 := L6.later hb
      clear hb
      cases nb with
      | false =>
        go_wp2_with fail
        refine (HLo.out _).mono ?_
        rintro e wn ⟨rfl, hb⟩
        replace L6 := L6.later hb
        clear hb
        go_wp2_with fail
        refine (HNl.out _ L6.laid).mono ?_
        rintro e wn ⟨rfl, hb⟩
        replace L6 := L6.later hb
        clear hb
        go_wp2_with fail
        refine (HNm.out _ L6.laid).mono ?_
        rintro e wn ⟨rfl, hb⟩
        replace L6 := L6.later hb
        clear hb
        go_wp2_with fail
        refine (HCu.out _ L6.laid).mono ?_
        rintro e wn ⟨rfl, hb⟩
        replace L6 := L6.later hb
        clear hb
        cases cb with
        | false =>
          go_wp2
          go_ret
          exact ⟨rfl, L6.bel⟩
        | true =>
          have hht := Hch.out rfl
          subst hht
          go_wp2_with fail
          refine (HHo.out _ L6.laid).mono ?_
          rintro e wn ⟨rfl, hb⟩
          replace L6 := L6.later hb
          clear hb
          go_wp2
          go_ret
          exact ⟨rfl, L6.bel⟩
      | true =>
        obtain ⟨hws, htr⟩ := Hnw.out rfl
        subst hws
        have HSt2 := HSt.out htr
        have HSt3 : Hid (∀ W, Laid W → _) := HSt2
        clear HSt2 HSt htr
        go_wp2_with fail
        refine (HSp.out _).mono ?_
        rintro e wn ⟨A, rfl, _, _, hb⟩
        replace L6 := L6.later hb
        clear hb
        simp only [List.length_cons, List.length_nil, Nat.zero_add]
        go_wp2_with fail
        refine (HSt3.out _ L6.laid).mono ?_
        rintro e wn ⟨rfl, hb⟩
        replace L6 := L6.later hb
        clear hb
        go_wp2_with fail
        refine (HLo.out _).mono ?_
        rintro e wn ⟨rfl, hb⟩
        replace L6 := L6.later hb
        clear hb
        go_wp2_with fail
        refine (HNl.out _ L6.laid).mono ?_
        rintro e wn ⟨rfl, hb⟩
        replace L6 := L6.later hb
        clear hb
        go_wp2_with fail
        refine (HNm.out _ L6.laid).mono ?_
        rintro e wn ⟨rfl, hb⟩
        replace L6 := L6.later hb
        clear hb
        go_wp2_with fail
        refine (HCu.out _ L6.laid).mono ?_
        rintro e wn ⟨rfl, hb⟩
        replace L6 := L6.later hb
        clear hb
        cases cb with
        | false =>
          go_wp2
          go_ret
          exact ⟨rfl, L6.bel⟩
        | true =>
          have hht := Hch.out rfl
          subst hht
          go_wp2_with fail
          refine (HHo.out _ L6.laid).mono ?_
          rintro e wn ⟨rfl, hb⟩
          replace L6 := L6.later hb
          clear hb
          go_wp2
          go_ret
          exact ⟨rfl, L6.bel⟩
  · have hexb : (ex == 0) = false := beq_eq_false_iff_ne.2 hex
    have hexn : (ex != 0) = true := by simpa using hex
    replace L := L.later (below_new w2 (.cells #[.string n1, .string n2, .string n3] 29))
    clear hex F0 HE HQn
    go_wp2_with fail
    refine (HNm.out _ L.laid).mono ?_
    rintro e wn ⟨rfl, hb⟩
    replace L := L.later hb
    clear hb
    cases nb with
    | false =>
      go_wp2_with fail
      refine (HLo.out _).mono ?_
      rintro e wn ⟨rfl, hb⟩
      replace L := L.later hb
      clear hb
      go_wp2_with fail
      refine (HNl.out _ L.laid).mono ?_
      rintro e wn ⟨rfl, hb⟩
      replace L := L.later hb
      clear hb
      go_wp2_with fail
      refine (HNm.out _ L.laid).mono ?_
      rintro e wn ⟨rfl, hb⟩
      replace L := L.later hb
      clear hb
      go_wp2_with fail
      refine (HCu.out _ L.laid).mono ?_
      rintro e wn ⟨rfl, hb⟩
      replace L := L.later hb
      clear hb
      cases cb with
      | false =>
        go_wp2
        go_ret
        exact ⟨rfl, L.bel⟩
      | true =>
        have hht := Hch.out rfl
        subst hht
        go_wp2_with fail
        refine (HHo.out _ L.laid).mono ?_
        rintro e wn ⟨rfl, hb⟩
        replace L := L.later hb
        clear hb
        go_wp2
        go_ret
        exact ⟨rfl, L.bel⟩
    | true =>
      obtain ⟨hws, htr⟩ := Hnw.out rfl
      subst hws
      have HSt2 := HSt.out htr
      have HSt3 : Hid (∀ W, Laid W → _) := HSt2
      clear HSt2 HSt htr
      go_wp2_with fail
      refine (HSp.out _).mono ?_
      rintro e wn ⟨A, rfl, _, _, hb⟩
      replace L := L.later hb
      clear hb
      simp only [List.length_cons, List.length_nil, Nat.zero_add]
      go_wp2_with fail
      refine (HSt3.out _ L.laid).mono ?_
      rintro e wn ⟨rfl, hb⟩
      replace L := L.later hb
      clear hb
      go_wp2_with fail
      refine (HLo.out _).mono ?_
      rintro e wn ⟨rfl, hb⟩
      replace L := L.later hb
      clear hb
      go_wp2_with fail
      refine (HNl.out _ L.laid).mono ?_
      rintro e wn ⟨rfl, hb⟩
      replace L := L.later hb
      clear hb
      go_wp2_with fail
      refine (HNm.out _ L.laid).mono ?_
      rintro e wn ⟨rfl, hb⟩
      replace L := L.later hb
      clear hb
      go_wp2_with fail
      refine (HCu.out _ L.laid).mono ?_
      rintro e wn ⟨rfl, hb⟩
      replace L := L.later hb
      clear hb
      cases cb with
      | false =>
        go_wp2
        go_ret
        exact ⟨rfl, L.bel⟩
      | true =>
        have hht := Hch.out rfl
        subst hht
        go_wp2_with fail
        refine (HHo.out _ L.laid).mono ?_
        rintro e wn ⟨rfl, hb⟩
        replace L := L.later hb
        clear hb
        go_wp2
        go_ret
        exact ⟨rfl, L.bel⟩
end Go.Proofs.YtipkdbhdpmkjcacDoor
