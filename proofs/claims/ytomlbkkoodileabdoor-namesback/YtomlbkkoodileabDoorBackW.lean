/- The walk of the law NamesBack. -/
import Derived.Test.YtomlbkkoodileabDoorBack
import Derived.Test.YtomlbkkoodileabDoorBegins
import Derived.Test.YtomlbkkoodileabDoorSteps
import Derived.Deep.RegionWith
import Derived.Deep.DeepCutAuto
import Derived.Deep.CutRange
namespace Go.Proofs.YtomlbkkoodileabDoor
open Go.RowKit Go.Lib

theorem back_yes (sp q : ByteArray) (h : extractE sp q = 0) : sp = (extractN sp q).1 ∧ qualS (extractN sp q).2.1 (extractN sp q).2.2 = q ∧ rightB sp (extractN sp q).2.1 (extractN sp q).2.2 = true ∧ (extractN sp q).2.1.size ≤ q.size ∧ (extractN sp q).2.2.size ≤ q.size := by
  rw [extractN_zero sp q h]
  exact ⟨rfl, qual_split q (extract_zero sp q h), right_of_extract sp q h, (split_le q).1, (split_le q).2⟩
theorem back_no (sp q : ByteArray) (h : ¬ extractE sp q = 0) : noBytes = (extractN sp q).1 ∧ noBytes = (extractN sp q).2.1 ∧ noBytes = (extractN sp q).2.2 := by
  rw [extractN_not sp q h]
  exact ⟨rfl, rfl, rfl⟩
theorem right_yes (a p l : ByteArray) (h : rightB a p l = true) : extractE a (qualS p l) = 0 ∧ ((extractN a (qualS p l)).1.toList == a.toList) = true ∧ ((extractN a (qualS p l)).2.1.toList == p.toList) = true ∧ ((extractN a (qualS p l)).2.2.toList == l.toList) = true := by
  unfold rightB at h
  simp only [Bool.and_eq_true] at h
  exact ⟨by simpa using h.1, h.2.1, h.2.2.1, h.2.2.2⟩

/-- Two names' blocks, kept. -/
structure Kp (bn bm : Nat) (a p l : ByteArray) (u0 u1 u2 : Value) (W : World) : Prop where
  n0 : W.cell? ⟨bn, 0, none⟩ = some (.string a)
  n1 : W.cell? ⟨bn, 1, none⟩ = some (.string p)
  n2 : W.cell? ⟨bn, 2, none⟩ = some (.string l)
  m0 : W.cell? ⟨bm, 0, none⟩ = some u0
  m1 : W.cell? ⟨bm, 1, none⟩ = some u1
  m2 : W.cell? ⟨bm, 2, none⟩ = some u2
  f0 : W.frozen? ⟨bm, 0, none⟩ = false
  f1 : W.frozen? ⟨bm, 1, none⟩ = false
  f2 : W.frozen? ⟨bm, 2, none⟩ = false
  ln : bn < W.heap.size
  lm : bm < W.heap.size
theorem Kp.later {bn bm : Nat} {a p l : ByteArray} {u0 u1 u2 : Value} {W W' : World} (h : Kp bn bm a p l u0 u1 u2 W) (hb : Below W.heap.size W W') : Kp bn bm a p l u0 u1 u2 W' :=
  ⟨(hb.cell (p := ⟨bn, 0, none⟩) h.ln).trans h.n0, (hb.cell (p := ⟨bn, 1, none⟩) h.ln).trans h.n1, (hb.cell (p := ⟨bn, 2, none⟩) h.ln).trans h.n2,
   (hb.cell (p := ⟨bm, 0, none⟩) h.lm).trans h.m0, (hb.cell (p := ⟨bm, 1, none⟩) h.lm).trans h.m1, (hb.cell (p := ⟨bm, 2, none⟩) h.lm).trans h.m2,
   (hb.frozen (p := ⟨bm, 0, none⟩) h.lm).trans h.f0, (hb.frozen (p := ⟨bm, 1, none⟩) h.lm).trans h.f1, (hb.frozen (p := ⟨bm, 2, none⟩) h.lm).trans h.f2,
   Nat.lt_of_lt_of_le h.ln hb.size, Nat.lt_of_lt_of_le h.lm hb.size⟩

set_option maxRecDepth 100000 in
set_option maxHeartbeats 8000000 in
theorem backLaw (sp q a p l : ByteArray) (w : World) (_hsp : sp.size ≤ 140737488351232) (hq : q.size ≤ 140737488351232) (_ha : a.size ≤ 140737488351232) (hp : p.size ≤ 140737488351232) (hl : l.size ≤ 140737488351232) (h : Laid w) :
    Calls Tryd.prog 7 #[.string sp, .string q, nameV a p l] w fun e w' => e = .returned (.bool true) ∧ Below w.heap.size w w' := by
  have HB : Hid (∀ W, Laid W → _) := fun W (hW : Laid W) => begins_any W hW
  have hE := fun W (hW : Laid W) => extract_any sp q W (by omega) hW
  have hF0 := back_yes sp q
  have hF1 := back_no sp q
  generalize extractN sp q = N at hE hF0 hF1
  generalize extractE sp q = ex at hE hF0 hF1
  obtain ⟨n1, n2, n3⟩ := N
  dsimp only at hE hF0 hF1
  have F0 : Hid (ex = 0 → sp = n1 ∧ qualS n2 n3 = q ∧ rightB sp n2 n3 = true ∧ n2.size ≤ q.size ∧ n3.size ≤ q.size) := hF0
  have F1 : Hid (¬ ex = 0 → noBytes = n1 ∧ noBytes = n2 ∧ noBytes = n3) := hF1
  have HE : Hid (∀ W, Laid W → _) := hE
  clear hE hF0 hF1
  have L := (St.start h).later ((Below.refl _ w).alloc (Nat.le_refl _) (.cells #[.string a, .string p, .string l] 26))
  go_enter Tryd.func7, Tryd.ntmps7
  go_wp2_with fail
  refine (HB.out _ L.laid).mono ?_
  rintro e w1 ⟨rfl, hb1⟩
  obtain ⟨hlt1, _, c0, c1, c2, _, _, _⟩ := kept3 (by simpa using hb1)
  replace L := L.later hb1
  clear hb1
  go_wp2_with fail
  refine (HE.out _ L.laid).mono ?_
  rintro e w2 ⟨rfl, hb2⟩
  have d0 := (hb2.cell (p := ⟨w.heap.size, 0, none⟩) hlt1).trans c0
  have d1 := (hb2.cell (p := ⟨w.heap.size, 1, none⟩) hlt1).trans c1
  have d2 := (hb2.cell (p := ⟨w.heap.size, 2, none⟩) hlt1).trans c2
  have hlt2 := Nat.lt_of_lt_of_le hlt1 hb2.size
  replace L := L.later hb2
  clear hb2 HE c0 c1 c2 hlt1 HB
  have hW3 : St w (w2.alloc (.cells #[.string n1, .string n2, .string n3] 26)) := L.later ((Below.refl _ w2).alloc (Nat.le_refl _) _)
  go_upto_region 4 with fail
  go_cut [44] (fun t wx => t = .bool false ∧ Below (w2.heap.size + 1) (w2.alloc (.cells #[.string n1, .string n2, .string n3] 26)) wx)
  case first =>
    by_cases hex : ex = 0
    · subst hex
      obtain ⟨hN, hqs, hri, hz1, hz2⟩ := F0.out rfl
      subst hN
      have hQ := fun W => qualified_any sp n2 n3 W (by omega) (by omega)
      have hRi := fun W (hW : Laid W) => right_any sp n2 n3 W hW (by omega) (by omega)
      rw [hqs] at hQ
      rw [hri] at hRi
      clear hqs hri hz1 hz2 F0 F1
      have hq1 : (q.toList == q.toList) = true := by simp
      have hs1 : (sp.toList == sp.toList) = true := by simp
      go_wp2_with fail
      refine (hQ _).mono ?_
      rintro e w3 ⟨rfl, hb3⟩
      simp only [World.size_alloc] at hb3
      obtain ⟨hlt3, _, k0, k1, k2, _, _, _⟩ := kept3 hb3
      have l3 := (hW3.later (by simpa using hb3)).laid
      go_wp2_with fail
      refine (hRi _ l3).mono ?_
      rintro e w4 ⟨rfl, hb4⟩
      have hb5 := hb3.trans (hb4.mono hlt3)
      clear hb3 hb4 l3 hQ hRi
      go_wp2
      go_meet
      exact ⟨rfl, hb5⟩
    · obtain ⟨hN1, hN2, hN3⟩ := F1.out hex
      subst hN1 hN2 hN3
      have hexb : (ex == 0) = false := beq_eq_false_iff_ne.2 hex
      have hexn : (ex != 0) = true := by simpa using hex
      have hnb : noBytes.toList = [] := by rw [Lib.toList_data]; rfl
      clear hex F0 F1
      go_wp2_with fail
      go_meet
      exact ⟨rfl, Below.refl _ _⟩
  case rest =>
    obtain ⟨rfl, hb3⟩ := hcut
    have L3 := hW3.later (by simpa using hb3)
    obtain ⟨hlt3, hbb, m0, m1, m2, f0, f1, f2⟩ := kept3 hb3
    have k0 := (hbb.cell (p := ⟨w.heap.size, 0, none⟩) hlt2).trans d0
    have k1 := (hbb.cell (p := ⟨w.heap.size, 1, none⟩) hlt2).trans d1
    have k2 := (hbb.cell (p := ⟨w.heap.size, 2, none⟩) hlt2).trans d2
    have hltc := Nat.lt_trans hlt2 hlt3
    clear hb3 hbb d0 d1 d2 L hW3 F0 F1
    have hRn := fun W (hW : Laid W) => right_any a p l W hW (by omega) (by omega)
    have hQn := fun W => qualified_any a p l W (by omega) (by omega)
    have hEn := fun W (hW : Laid W) => extract_any a (qualS p l) W (qual_le p l (by omega) (by omega)) hW
    have hyes := right_yes a p l
    generalize rightB a p l = rb at hRn hyes
    cases rb with
    | false =>
      clear hyes hQn hEn
      go_wp2_with (go_at_call 31; refine (hRn _ L3.laid).mono ?_; rintro e w3 ⟨rfl, hb⟩; replace L3 := L3.later hb; clear hb)
      go_ret
      exact ⟨rfl, L3.bel⟩
    | true =>
      obtain ⟨y0, y1, y2, y3⟩ := hyes rfl
      rw [y0] at hEn
      clear hyes y0
      generalize extractN a (qualS p l) = M at hEn y1 y2 y3
      generalize qualS p l = qn at hQn hEn
      obtain ⟨r1, r2, r3⟩ := M
      dsimp only at hEn y1 y2 y3
      go_wp2_with fail
      refine (hRn _ L3.laid).mono ?_
      rintro e w3 ⟨rfl, hb⟩
      have kp : Kp w.heap.size w2.heap.size a p l _ _ _ wc := ⟨k0, k1, k2, m0, m1, m2, f0, f1, f2, hltc, hlt3⟩
      replace kp := kp.later hb
      replace L3 := L3.later hb
      have hmn : w2.heap.size ≠ w.heap.size := Nat.ne_of_gt hlt2
      have hle : w.heap.size ≤ w2.heap.size := Nat.le_of_lt hlt2
      clear hb k0 k1 k2 m0 m1 m2 f0 f1 f2 hltc hlt3 hRn hlt2
      obtain ⟨q0, q1, q2, q3, q4, q5, q6, q7, q8, q9, q10⟩ := kp
      have kp : Kp w.heap.size w2.heap.size a p l _ _ _ w3 := ⟨q0, q1, q2, q3, q4, q5, q6, q7, q8, q9, q10⟩
      have HQn : Hid (∀ W : World, _) := hQn
      have HEn : Hid (∀ W, Laid W → _) := hEn
      clear hQn hEn
      go_upto_region 8 with fail
      go_region_with (first
        | (go_at_call 25; refine (HQn.out _).mono ?_; rintro e v1 ⟨rfl, hb⟩; have hbd := below_of_drew hb; have kp1 := kp.later hbd; have L4 := L3.later hbd; clear hb hbd; obtain ⟨a0, a1, a2, a3, a4, a5, a6, a7, a8, a9, a10⟩ := kp1; have kp1 : Kp w.heap.size w2.heap.size a p l _ _ _ v1 := ⟨a0, a1, a2, a3, a4, a5, a6, a7, a8, a9, a10⟩)
        | (go_at_call 29; refine (HEn.out _ L4.laid).mono ?_; rintro e v2 ⟨rfl, hb⟩; have kp2 := kp1.later hb; have L5 := L4.later hb; clear hb; obtain ⟨b0, b1, b2, b3, b4, b5, b6, b7, b8, b9, b10⟩ := kp2))
      all_goals
        go_wp2
        go_ret
        exact ⟨rfl, ((L5.bel.setCell hle _).setCell hle _).setCell hle _⟩
end Go.Proofs.YtomlbkkoodileabDoor
