/- The calls of order that ask one handle: All. -/
/- bounds: the points of a node, put behind a list (pointsOf). -/
/- bounds: Walk. -/
/- bounds: Contains. -/
import Derived.Test.YthkjkcojbepfmaaFCmp
import Derived.Test.YthkjkcojbepfmaaFLast
import Derived.Test.YthkjkcojbepfmaaFAll
import Derived.Test.YthkjkcojbepfmaaDFBd3FBda
namespace Go.Proofs.Ythkjkcojbepfmaa
open Go.RowKit Go.Lib Go.Shelf

theorem ownsRow_base {W : World} {base base' : Nat} {e : TypeId} {size : Nat} {v : Value} {k : Nat} {xs : List Value} (h : W.ownsRow base e size v k xs) (hb : base' ≤ base) : W.ownsRow base' e size v k xs := by
  refine ⟨h.1, ?_⟩
  rcases h.2 with a | ⟨g, cap, cur, hv, hg, rest⟩
  · exact .inl a
  · exact .inr ⟨g, cap, cur, hv, Nat.le_trans hb hg, rest⟩

set_option maxRecDepth 100000 in
set_option maxHeartbeats 2000000 in
theorem All1_any (b off cap u1 u2 : Nat) (x : Int) (ns : List NodeD) (w : World) (hR : RightF ns) (hF : FAt w b off cap ns) (hx : thereB ns.length x = true) (hkl : ∀ (i : Nat) (hi : i < ns.length), ns[i].kids.length ≤ 1099511627776) (hlen : (allD ns x).length ≤ 1099511627776)
    (c1 : w.cell? ⟨u1, 0, none⟩ = some (.slice (some ⟨b, off, none⟩) ns.length cap)) (c2 : w.cell? ⟨u2, 0, none⟩ = some (.int .i64 x)) :
    Calls Try.prog 48 #[.pointer (some ⟨u1, 0, none⟩), .pointer (some ⟨u2, 0, none⟩)] w fun e w' => ∃ v, e = .returned v ∧ w'.ownsRow w.heap.size 3 1 v (allD ns x).length ((allD ns x).map (Value.int .i64)) ∧ Below w.heap.size w w' := by
  have hP := listK_any b off cap x ns w hR hF hx hkl hlen
  unfold forestV at hP
  generalize allD ns x = P at *
  clear hkl hlen
  go_enter Try.func48, Try.ntmps48
  go_wp2_with fail
  refine hP.mono ?_
  rintro e v1 ⟨v, rfl, hrow, hb1⟩
  have HRow := hid hrow
  have HB := hid hb1
  clear hP hb1 hrow
  go_wp2
  exact bodyPost_ret (v := v) (by simp [results, Try.results48, go_sem]) rfl ⟨v, rfl, HRow.out, HB.out⟩

set_option maxRecDepth 100000 in
set_option maxHeartbeats 4000000 in
theorem toldAll_any (o : Option Addr) (cap u1 u2 : Nat) (R : List Int) (v : Value) (hs : List Int) (ns : List NodeD) (w : World) (hF : FRd w o cap ns) (hkl : ∀ (i : Nat) (hi : i < ns.length), ns[i].kids.length ≤ 1099511627776) (hal : ∀ (i : Nat) (hi : i < ns.length), ns[i].attrs.length ≤ 1099511627776) (hv : RdI w v hs) (hl : hs.length ≤ 1099511627776)
    (hT : toldE ns hs = 0 → ∀ W : World, Below w.heap.size w W → Calls Try.prog 48 #[.pointer (some ⟨u1, 0, none⟩), .pointer (some ⟨u2, 0, none⟩)] W fun e w' => ∃ v, e = .returned v ∧ w'.ownsRow w.heap.size 3 1 v R.length (R.map (Value.int .i64)) ∧ Below W.heap.size W w') :
    Calls Try.prog 47 #[.agg #[.slice o ns.length cap], .func (.func 48) #[] #[.pointer (some ⟨u1, 0, none⟩), .pointer (some ⟨u2, 0, none⟩)], v] w fun e w' => ∃ v, e = .returned (.tuple #[v, .int .i64 (toldE ns hs)]) ∧ w'.ownsRow w.heap.size 3 1 v (if toldE ns hs = 0 then R else []).length ((if toldE ns hs = 0 then R else []).map (Value.int .i64)) ∧ Below w.heap.size w w' := by
  have HC : Hid (∀ W : World, Below w.heap.size w W → _) := fun W hW => Check_any o cap ns W (hF.later hW) hkl hal
  have hle := hF.len
  obtain ⟨o2, c2, rfl, hc2, g2⟩ := hv
  clear hF hkl hal
  generalize checkN ns = CN at *
  cases hr : rightD ns with
  | false =>
    have e0 : toldE ns hs = 5 := by unfold toldE; rw [hr]; rfl
    have e1 : checkE ns = 5 := by unfold checkE; rw [hr]; rfl
    rw [e0, if_neg (by decide)]
    rw [e1] at HC
    clear hT e0 e1 g2
    go_enter Try.func47, Try.ntmps47
    go_wp2_with fail
    refine (HC.out _ ((Below.refl _ w).alloc (Nat.le_refl _) _)).mono ?_
    rintro e v1 ⟨rfl, hb1⟩
    go_wp2
    go_ret2
    exact ⟨_, rfl, World.ownsRow_nil _ _ _ _, box_go hb1⟩
  | true =>
    have e1 : checkE ns = 0 := (checkE_right hr).1
    rw [e1] at HC
    obtain ⟨E, hE⟩ : ∃ E, toldE ns hs = E := ⟨_, rfl⟩
    rw [hE] at hT ⊢
    have HE : Hid ((if (hs.drop 0).all (thereB ns.length) then (0 : Int) else 2) = E) := by
      have := hE
      unfold toldE at this
      rw [hr, if_pos rfl] at this
      exact this
    obtain ⟨T, hTe⟩ : ∃ T, (if E = 0 then R else []) = T := ⟨_, rfl⟩
    rw [hTe]
    have HTe := hid hTe
    have HT := hid hT
    clear hE hT e1 hTe
    go_enter Try.func47, Try.ntmps47
    go_wp2_with fail
    refine (HC.out _ ((Below.refl _ w).alloc (Nat.le_refl _) _)).mono ?_
    rintro e v1 ⟨rfl, hb1⟩
    have HB1 := hid (box_go hb1)
    have cb := box_forest hb1
    clear hb1 HC
    go_wp2
    go_loopw [24] (fun t wr => ∃ k : Nat, k ≤ hs.length ∧ t = .int .i64 k ∧ wr = v1 ∧ Hid ((if (hs.drop k).all (thereB ns.length) then (0 : Int) else 2) = E)) (fun t _ => hs.length - (RowKit.intOf t).toNat)
    case atStart => exact ⟨0, Nat.zero_le _, rfl, rfl, HE⟩
    case round =>
      obtain ⟨k, k1, rfl, rfl, hK⟩ := hrel
      by_cases hlt : k < hs.length
      · obtain ⟨b, off, rfl, hlt1, ha⟩ := g2 (by omega)
        have x1 := (HB1.out.cell (p := ⟨b, off + k, none⟩) hlt1).trans (ha k hlt)
        have q1 : (0 : Int) ≤ (k : Int) := by omega
        have q2 : (k : Int) < (hs.length : Int) := by omega
        have hk := hK.out
        rw [List.drop_eq_getElem_cons hlt, List.all_cons] at hk
        have Hk := hid hk
        clear hk hK ha g2
        generalize hs[k] = a at *
        by_cases g1 : a < 1
        · have hf : thereB ns.length a = false := by unfold thereB; rw [decide_eq_false (by omega)]; rfl
          have hE2 : E = 2 := by rw [← Hk.out, hf]; rfl
          subst hE2
          have hT0 : T = [] := by rw [← HTe.out]; rfl
          subst hT0
          have d1 : decide (a < 1) = true := decide_eq_true g1
          clear Hk hf HT
          go_wp2
          go_ret2
          exact ⟨_, rfl, World.ownsRow_nil _ _ _ _, HB1.out⟩
        · have d1 : decide (a < 1) = false := decide_eq_false g1
          by_cases g3 : (ns.length : Int) < a
          · have hf : thereB ns.length a = false := by unfold thereB; rw [decide_eq_false (p := a ≤ (ns.length : Int)) (by omega), Bool.and_false]
            have hE2 : E = 2 := by rw [← Hk.out, hf]; rfl
            subst hE2
            have hT0 : T = [] := by rw [← HTe.out]; rfl
            subst hT0
            have d2 : decide ((ns.length : Int) < a) = true := decide_eq_true g3
            clear Hk hf HT
            go_wp2
            go_ret2
            exact ⟨_, rfl, World.ownsRow_nil _ _ _ _, HB1.out⟩
          · have hf : thereB ns.length a = true := by unfold thereB; rw [decide_eq_true (by omega), decide_eq_true (by omega)]; rfl
            have d2 : decide ((ns.length : Int) < a) = false := decide_eq_false g3
            have Hn : Hid ((if (hs.drop (k + 1)).all (thereB ns.length) then (0 : Int) else 2) = E) := by
              have h := Hk.out
              rw [hf, Bool.true_and] at h
              exact h
            clear Hk hf
            go_wp2
            go_roundw
            case rel => exact ⟨k + 1, by omega, by go_num, trivial, Hn⟩
            case measure => simp [RowKit.intOf]; omega
      · have hE0 : E = 0 := by rw [← hK.out, List.drop_eq_nil_of_le (by omega)]; rfl
        subst hE0
        have hT := HT.out rfl wr HB1.out
        have hT0 : T = R := by rw [← HTe.out]; rfl
        subst hT0
        clear hK g2 HT HTe
        go_wp2_with fail
        refine hT.mono ?_
        rintro e v2 ⟨vr, rfl, hrow, hb2⟩
        have HB2 := hid (HB1.out.trans (hb2.mono HB1.out.size))
        have HRow := hid hrow
        clear hT hb2 hrow
        go_wp2
        go_ret2
        exact ⟨_, rfl, HRow.out, HB2.out⟩

set_option maxRecDepth 100000 in
set_option maxHeartbeats 4000000 in
theorem All_any (o : Option Addr) (cap : Nat) (x : Int) (ns : List NodeD) (w : World) (hF : FRd w o cap ns) (hkl : ∀ (i : Nat) (hi : i < ns.length), ns[i].kids.length ≤ 1099511627776) (hal : ∀ (i : Nat) (hi : i < ns.length), ns[i].attrs.length ≤ 1099511627776) (hlen : toldE ns [x] = 0 → (allD ns x).length ≤ 1099511627776) :
    Calls Try.prog 37 #[.agg #[.slice o ns.length cap], .int .i64 x] w fun e w' => ∃ v, e = .returned (.tuple #[v, .int .i64 (toldE ns [x])]) ∧ w'.ownsRow w.heap.size 3 1 v (if toldE ns [x] = 0 then allD ns x else []).length ((if toldE ns [x] = 0 then allD ns x else []).map (Value.int .i64)) ∧ Below w.heap.size w w' := by
  have hB3 : Below w.heap.size w (((w.alloc (.cells #[.slice o ns.length cap] 24)).alloc (.cells #[.int .i64 x] 3)).alloc (.cells #[.int .i64 x] 3)) := (((Below.refl _ w).alloc (Nat.le_refl _) _).alloc (by simp) _).alloc (by simp; omega) _
  have k0 := new_cell_l w (.slice o ns.length cap) 24
  have k1 := new_cell_l (w.alloc (.cells #[.slice o ns.length cap] 24)) (.int .i64 x) 3
  have kr := one_rdI ((w.alloc (.cells #[.slice o ns.length cap] 24)).alloc (.cells #[.int .i64 x] 3)) x 3
  simp only [World.size_alloc] at k1 kr
  have c0 := keep_cell_l (.cells #[.int .i64 x] 3) (keep_cell_l (.cells #[.int .i64 x] 3) k0.1)
  have c1 := keep_cell_l (.cells #[.int .i64 x] 3) k1.1
  have s0 : w.heap.size < (((w.alloc (.cells #[.slice o ns.length cap] 24)).alloc (.cells #[.int .i64 x] 3)).alloc (.cells #[.int .i64 x] 3)).heap.size := by simp only [World.size_alloc]; omega
  have hT := toldAll_any o cap w.heap.size (w.heap.size + 1) (allD ns x) (.slice (some ⟨w.heap.size + 1 + 1, 0, none⟩) 1 1) [x] ns (((w.alloc (.cells #[.slice o ns.length cap] 24)).alloc (.cells #[.int .i64 x] 3)).alloc (.cells #[.int .i64 x] 3)) (hF.later hB3) hkl hal kr (by simp) (fun hE W hW => by
    obtain ⟨hR, hth⟩ := toldE_zero hE
    have hx := hth x (by simp)
    obtain ⟨i, hi, _⟩ := there_idx hx
    obtain ⟨b, off, rfl, hFA⟩ := hF.at_ (by omega)
    have hBW := hB3.trans (hW.mono hB3.size)
    have h1 := All1_any b off cap w.heap.size (w.heap.size + 1) x ns W hR (hFA.later hBW) hx hkl (hlen hE)
      ((hW.cell (p := ⟨w.heap.size, 0, none⟩) s0).trans c0)
      ((hW.cell (p := ⟨w.heap.size + 1, 0, none⟩) (by show w.heap.size + 1 < _; simp only [World.size_alloc]; omega)).trans c1)
    refine h1.mono ?_
    rintro e w' ⟨v, rfl, hr, hb⟩
    exact ⟨v, rfl, ownsRow_base hr hW.size, hb⟩)
  generalize (if toldE ns [x] = 0 then allD ns x else []) = A at *
  generalize toldE ns [x] = E at *
  have HB3 := hid hB3
  clear k0 k1 kr c0 c1 s0 hF hkl hal hB3 hlen
  go_enter Try.func37, Try.ntmps37
  go_wp2_with fail
  refine hT.mono ?_
  rintro e v1 ⟨v, rfl, hrow, hb1⟩
  have HRow := hid (ownsRow_base hrow HB3.out.size)
  have HB := hid (HB3.out.trans (hb1.mono HB3.out.size))
  clear hT hb1 HB3 hrow
  go_wp2
  go_ret2
  exact ⟨_, rfl, HRow.out, HB.out⟩
end Go.Proofs.Ythkjkcojbepfmaa

namespace Go.Proofs.Ythkjkcojbepfmaa
open Go.RowKit Go.Lib

/-- Is it no row of points? -/
def noPts (o : Obj) : Prop := ∀ cs fz, o ≠ .cells cs 26 fz
/-- All but rows of points is kept. -/
structure KeepP (W W' : World) : Prop where
  size : W.heap.size ≤ W'.heap.size
  blk : ∀ (k : Nat) (o : Obj), W.heap[k]? = some o → noPts o → W'.heap[k]? = some o
theorem KeepP.refl (W : World) : KeepP W W := ⟨Nat.le_refl _, fun _ _ h _ => h⟩
theorem KeepP.trans {A B C : World} (h : KeepP A B) (k : KeepP B C) : KeepP A C := ⟨Nat.le_trans h.size k.size, fun i o hi hn => k.blk i o (h.blk i o hi hn) hn⟩
theorem KeepP.later {A B : World} (h : Below A.heap.size A B) : KeepP A B := ⟨h.size, fun _ _ hi _ => blkLater h hi⟩
theorem KeepP.grown {A B : World} {base n : Nat} {v : Value} {xs : List Value} (hO : A.ownsRow base 26 2 v n xs) (h : A.grownBy B v.ownBlock) : KeepP A B := by
  refine ⟨h.size, fun k o hi hn => ?_⟩
  have hne : v.ownBlock ≠ some k := by
    obtain ⟨_, ⟨rfl, _⟩ | ⟨g, cap, cur, rfl, _, hh, _⟩⟩ := hO
    · intro hc; cases hc
    · intro hc
      have : g = k := by simpa [Value.ownBlock] using hc
      subst this
      rw [hh] at hi
      exact hn cur (0, 0) (Option.some.inj hi).symm
  exact (h.block k (Array.getElem?_eq_some_iff.1 hi).1 (by intro e; exact hne (by first | exact e | exact e.symm))).trans hi
theorem own_shapeB {W : World} {base size : Nat} {e : TypeId} {v : Value} {n : Nat} {xs : List Value} (h : W.ownsRow base e size v n xs) : ∃ o c, v = .slice o n c := by
  rcases h.2 with ⟨rfl, h0⟩ | ⟨g, cap, cur, rfl, _⟩
  · exact ⟨none, 0, by rw [h0]⟩
  · exact ⟨_, _, rfl⟩
theorem one_rdB (W : World) (x c : Int) : RdB (W.alloc (.cells #[.int .i64 x, .int .i64 c] 26)) (.slice (some ⟨W.heap.size, 0, none⟩) 1 1) [(x, c)] := by
  have h := heap_new W (.cells #[.int .i64 x, .int .i64 c] 26)
  obtain ⟨a, b⟩ := bnd_cells h
  refine ⟨_, 1, rfl, by simp, fun _ => ⟨W.heap.size, 0, rfl, (Array.getElem?_eq_some_iff.1 h).1, fun j hj => ?_⟩⟩
  match j, hj with
  | 0, _ => exact ⟨a, b⟩
/-- A point more. -/
theorem push_pt (W : World) (B : Nat) (v : Value) (done : List (Int × Int)) (x c : Int) (hown : W.ownsRow B 26 2 v done.length (rowP done)) (hB : B ≤ W.heap.size) (hn : done.length ≤ 1000000000) :
    ∃ o cp w', (∀ ty, (Builtin.append_ #[31, 31] ty #[v, .slice (some ⟨W.heap.size, 0, none⟩) 1 1]).run Try.prog (W.alloc (.cells #[.int .i64 x, .int .i64 c] 26)) = .ok (.slice o (done ++ [(x, c)]).length cp) w') ∧ w'.ownsRow B 26 2 (.slice o (done ++ [(x, c)]).length cp) (done ++ [(x, c)]).length (rowP (done ++ [(x, c)])) ∧ Below B W w' ∧ KeepP W w' := by
  have hA : Below W.heap.size W (W.alloc (.cells #[.int .i64 x, .int .i64 c] 26)) := (Below.refl _ W).alloc (Nat.le_refl _) _
  have hO := hown.alloc (.cells #[.int .i64 x, .int .i64 c] 26)
  obtain ⟨v', w', h1, h2, h3⟩ := run_append_rdB _ B v _ done [(x, c)] 0 hO (Nat.le_trans hB hA.size) (one_rdB W x c) (by simp; omega)
  obtain ⟨o, cp, rfl⟩ := own_shapeB h2
  exact ⟨o, cp, w', fun ty => h1, h2, (hA.mono hB).trans (below_grownB hO (Nat.le_trans hB hA.size) h3), (KeepP.later hA).trans (KeepP.grown hO h3)⟩
theorem noPts_of {cs : Array Value} {t : TypeId} {fz : Nat × Nat} (h : t ≠ 26) : noPts (.cells cs t fz) := fun cs' fz' e => by
  injection e with _ e2
  exact h e2
/-- The points of some kids. -/
theorem kidPts_append (P : Int → List (Int × Int)) (x : Int) : ∀ (a : List Int) (k : Int) (i : Nat), kidPts P x (a ++ [k]) i = kidPts P x a i ++ (P k ++ [(x, ((i + a.length : Nat) : Int) + 1)])
  | [], k, i => by simp [kidPts]
  | j :: a, k, i => by
    rw [List.cons_append, kidPts, kidPts_append P x a k (i + 1), kidPts, List.append_assoc, List.cons_append, List.length_cons, show i + 1 + a.length = i + (a.length + 1) by omega]

set_option maxRecDepth 100000 in
set_option maxHeartbeats 8000000 in
theorem pointsOf_any (b off cap B : Nat) (ns : List NodeD) (w : World) (hR : RightF ns) (hF : FAt w b off cap ns) (hwB : w.heap.size ≤ B) :
    ∀ (f : Nat) (x : Int) (v : Value) (done : List (Int × Int)) (W : World), thereB ns.length x = true → ns.length < f + (pathUp ns (parentD ns) x).length → done.length + szD ns x ≤ 1000000000 → Below w.heap.size w W → B ≤ W.heap.size → W.ownsRow B 26 2 v done.length (rowP done) →
      Calls Try.prog 20 #[.agg #[.slice (some ⟨b, off, none⟩) ns.length cap], .int .i64 x, v] W fun e W' => ∃ v', e = .returned v' ∧ W'.ownsRow B 26 2 v' (done ++ ptsD ns x).length (rowP (done ++ ptsD ns x)) ∧ Below B W W' ∧ KeepP W W' := by
  intro f
  induction f with
  | zero =>
    intro x v done W hx hf
    have := pathUp_len ns (parentD ns) hR.parentOK hR.ends x (.inr hx)
    omega
  | succ f ih =>
    intro x v done W hx hf hnd hB hBs hown
    have hle := hF.len
    obtain ⟨j, hj, rfl⟩ := there_idx hx
    have hkd : kidsD ns ((j : Int) + 1) = ns[j].kids := by unfold kidsD; rw [nodeOf_at ns j hj]
    have hdn : dataN ns ((j : Int) + 1) = ns[j].data.length := by unfold dataN; rw [nodeOf_at ns j hj]
    have hpc := pts_cons hR hx
    have hse := sz_eq hR hx
    rw [hkd, hdn] at hpc hse
    have HIH : Hid (∀ (y : Int) (v2 : Value) (done2 : List (Int × Int)) (V : World), y ∈ ns[j].kids → done2.length + szD ns y ≤ 1000000000 → Below w.heap.size w V → B ≤ V.heap.size → V.ownsRow B 26 2 v2 done2.length (rowP done2) → _) := fun y v2 done2 V hy => by
      obtain ⟨n, hn, hp⟩ := (hR.kids j hj).1 y hy
      obtain ⟨i, hi2, e, e2⟩ := nodeOf_idx hn
      have hyt : thereB ns.length y = true := by rw [e]; exact thereB_idx _ _ hi2
      have hpy : parentD ns y = (j : Int) + 1 := by rw [e, parentD_at ns i hi2, ← hp, ← e2]
      refine ih y v2 done2 V hyt ?_
      rw [pathUp_head hR hyt, hpy, List.length_cons]
      omega
    have hkl := hR.kids_lenB j hj
    have hdl := well_dataB (hR.well j hj)
    obtain ⟨T, hT⟩ : ∃ T, ptsD ns ((j : Int) + 1) = T := ⟨_, rfl⟩
    rw [hT] at hpc ⊢
    have HT := hid hpc
    have Hnd := hid hnd
    have Hse := hid hse
    obtain ⟨ov, cv, rfl⟩ := own_shapeB hown
    obtain ⟨Ls, hc, hd3, ha3, hk3⟩ := hF.at_ j hj
    obtain ⟨D, A, K⟩ := Ls
    simp only at hk3 hd3 ha3
    obtain ⟨oa, caa, rfl, _⟩ := ha3
    obtain ⟨od, cdd, rfl, hdcap, _⟩ := hd3
    obtain ⟨ok, ckk, rfl, hkcap, g⟩ := hk3
    obtain ⟨bx, g0, g1, sx⟩ := two_newB W (.cells #[.slice (some ⟨b, off, none⟩) ns.length cap] 24) (nodeO ns[j] (.slice od ns[j].data.length cdd) (.slice oa ns[j].attrs.length caa) (.slice ok ns[j].kids.length ckk))
    have hb1 : Below W.heap.size W (W.alloc (.cells #[.slice (some ⟨b, off, none⟩) ns.length cap] 24)) := (Below.refl _ W).alloc (Nat.le_refl _) _
    obtain ⟨n0, n1, n2, n3, n4, n5, n6, n7, n8, n9, n10, n11, n12, n13, n14, n15⟩ := hc.later hF.lt (hB.trans (hb1.mono hB.size))
    simp only at n6 n7 n9
    have q1 : (0 : Int) ≤ (j : Int) := by omega
    have q2 : (j : Int) < (ns.length : Int) := by omega
    have hO1 : _ := (hown.alloc (.cells #[.slice (some ⟨b, off, none⟩) ns.length cap] 24)).alloc (nodeO ns[j] (.slice od ns[j].data.length cdd) (.slice oa ns[j].attrs.length caa) (.slice ok ns[j].kids.length ckk))
    have HO1 := hid hO1
    have HB1 := hid (hB.trans (bx.mono hB.size))
    have HBs := hid hBs
    have HG := hid g
    have HG0 := hid g0
    have HG1 := hid g1
    have Hsx := hid sx
    have Hbx := hid bx
    have Hwb := hid hwB
    clear ih hR hF hf hc hkd hdn hx hT hown hB hO1 hb1 hpc hnd hse g0 g1 sx bx hwB g hBs
    unfold nodeO at *
    generalize ns[j] = nd at *
    go_enter Try.func20, Try.ntmps20
    go_upto_region 2 with fail
    generalize ((W.alloc (.cells #[.slice (some ⟨b, off, none⟩) ns.length cap] 24)).alloc (.cells #[.int .u8 (nd.kind : Int), .string nd.space, .string nd.pre, .string nd.loc, .string nd.pub, .string nd.sys, (.slice od nd.data.length cdd), (.slice oa nd.attrs.length caa), .int .i64 nd.parent, (.slice ok nd.kids.length ckk), .int .i64 nd.doc, .int .i64 nd.host, .int .i64 nd.shadow, .int .u8 (nd.mode : Int), .bool nd.manual, .bool nd.html] 71)) = W0 at *
    clear n0 n1 n2 n3 n4 n5 n6 n7 n8 n9 n10 n11 n12 n13 n14 n15
    have hSt := bStart_any ((j : Int) + 1) W0
    unfold bndV at hSt
    go_wp2_with fail
    refine hSt.mono ?_
    rintro e v1 ⟨rfl, hb1⟩
    have sx := Hsx.out
    have bx := Hbx.out
    have hBv : B ≤ v1.heap.size := Nat.le_trans HBs.out (Nat.le_trans bx.size hb1.size)
    obtain ⟨o1, c1, w1, e1, ho1, hbb1, hkp1⟩ := push_pt v1 B _ done ((j : Int) + 1) 0 (ownsRow_later HO1.out hb1) hBv (by have := Hnd.out; omega)
    have HR1 := hid ho1
    have E1 := hid e1
    clear e1
    have HBB1 : Hid (Below B W0 w1) := (hb1.mono (Nat.le_trans HBs.out bx.size)).trans hbb1
    have HKP1 := hid ((KeepP.later hb1).trans hkp1)
    clear hSt hb1 ho1 hbb1 hkp1 hBv HO1
    generalize hD1 : done ++ [((j : Int) + 1, (0 : Int))] = D1 at *
    have HD1 := hid hD1
    clear hD1
    have HKB : Hid (∀ V : World, KeepP W0 V → V.heap[W.heap.size]? = _ ∧ V.heap[W.heap.size + 1]? = _) := fun V hV => ⟨hV.blk _ _ HG0.out (noPts_of (by decide)), hV.blk _ _ HG1.out (noPts_of (by decide))⟩
    have p1 := HKB.out w1 HKP1.out
    obtain ⟨d6, d8, d9⟩ := node_boxB p1.2
    clear p1
    go_wp2_with (at_builtin; refine wpList_append_run _ rfl _ _ 31 31 rfl _ _ rfl rfl _ _ (E1.out _) ?_)
    go_loopw [25, 2] (fun t u wr => ∃ (k : Nat) (o2 : Option Addr) (c2 : Nat), k ≤ nd.data.length ∧ t = .int .i64 k ∧ u = .slice o2 (D1 ++ (List.range k).map (fun i : Nat => ((j : Int) + 1, (i : Int) + 1))).length c2 ∧ Hid (wr.ownsRow B 26 2 (.slice o2 (D1 ++ (List.range k).map (fun i : Nat => ((j : Int) + 1, (i : Int) + 1))).length c2) (D1 ++ (List.range k).map (fun i : Nat => ((j : Int) + 1, (i : Int) + 1))).length (rowP (D1 ++ (List.range k).map (fun i : Nat => ((j : Int) + 1, (i : Int) + 1))))) ∧ Hid (Below B W0 wr) ∧ Hid (KeepP W0 wr)) (fun t _ _ => nd.data.length - (RowKit.intOf t).toNat)
    case atStart =>
      have e0 : D1 ++ (List.range 0).map (fun i : Nat => ((j : Int) + 1, (i : Int) + 1)) = D1 := by simp
      exact ⟨0, o1, c1, Nat.zero_le _, rfl, by rw [e0], by rw [e0]; exact HR1, HBB1, HKP1⟩
    case round =>
      obtain ⟨k, o2, c2, hk, rfl, rfl, hO, hBB, hKP⟩ := hrel
      clear HR1 HBB1 HKP1 d6 d8 d9 E1
      have Hln : Hid (D1.length + k ≤ 1000000000) := by
        have := Hnd.out
        have := Hse.out
        have e := congrArg List.length HD1.out
        rw [List.length_append, List.length_singleton] at e
        show _ ≤ _
        omega
      by_cases hlt : k < nd.data.length
      · have q1 : (k : Int) < (nd.data.length : Int) := by omega
        have dl : decide ((k : Int) < (nd.data.length : Int)) = true := decide_eq_true q1
        obtain ⟨o3, c3, w3, e3, ho3, hbb3, hkp3⟩ := push_pt wr B _ _ ((j : Int) + 1) ((k : Int) + 1) hO.out (Nat.le_trans HBs.out (Nat.le_trans bx.size hBB.out.size)) (by rw [List.length_append, List.length_map, List.length_range]; exact Hln.out)
        have hsn : D1 ++ (List.range k).map (fun i : Nat => ((j : Int) + 1, (i : Int) + 1)) ++ [((j : Int) + 1, (k : Int) + 1)] = D1 ++ (List.range (k + 1)).map (fun i : Nat => ((j : Int) + 1, (i : Int) + 1)) := by rw [List.range_succ, List.map_append, List.append_assoc]; rfl
        rw [hsn] at e3 ho3
        have HO3 := hid ho3
        have E3 := hid e3
        clear e3
        have HBB3 := hid (hBB.out.trans hbb3)
        have HKP3 := hid (hKP.out.trans hkp3)
        clear hsn ho3 hbb3 hkp3 hO hBB hKP hdcap
        generalize D1 ++ (List.range k).map (fun i : Nat => ((j : Int) + 1, (i : Int) + 1)) = DK at *
        go_wp2_with (at_builtin; refine wpList_append_run _ rfl _ _ 31 31 rfl _ _ rfl rfl _ _ (E3.out _) ?_)
        go_roundw
        case rel => exact ⟨k + 1, o3, c3, by omega, by go_num, by simp, HO3, HBB3, HKP3⟩
        case measure => simp [RowKit.intOf]; omega
      · have hkn : k = nd.data.length := by omega
        subst hkn
        have dl : decide ((nd.data.length : Int) < (nd.data.length : Int)) = false := decide_eq_false (by omega)
        have HTT : Hid (D1 ++ (List.range nd.data.length).map (fun i : Nat => ((j : Int) + 1, (i : Int) + 1)) ++ kidPts (ptsD ns) ((j : Int) + 1) nd.kids 0 = done ++ T) := by
          show _ = _
          rw [← HD1.out, HT.out]
          simp
        have Hl2 : Hid ((D1 ++ (List.range nd.data.length).map (fun i : Nat => ((j : Int) + 1, (i : Int) + 1))).length + kidSum ns nd.kids ≤ 1000000000) := by
          have := Hnd.out
          have := Hse.out
          have e := congrArg List.length HD1.out
          rw [List.length_append, List.length_singleton] at e
          show _ ≤ _
          rw [List.length_append, List.length_map, List.length_range]
          omega
        generalize D1 ++ (List.range nd.data.length).map (fun i : Nat => ((j : Int) + 1, (i : Int) + 1)) = D2 at *
        obtain ⟨d6, d8, d9⟩ := node_boxB (HKB.out wr hKP.out).2
        have HO2 := hO
        have HBB2 := hBB
        have HKP2 := hKP
        clear hO hBB hKP Hln
        go_wp2
        go_loopw [39, 2] (fun t u wr => ∃ (k : Nat) (o2 : Option Addr) (c2 : Nat), k ≤ nd.kids.length ∧ t = .int .i64 k ∧ u = .slice o2 (D2 ++ kidPts (ptsD ns) ((j : Int) + 1) (nd.kids.take k) 0).length c2 ∧ Hid (wr.ownsRow B 26 2 (.slice o2 (D2 ++ kidPts (ptsD ns) ((j : Int) + 1) (nd.kids.take k) 0).length c2) (D2 ++ kidPts (ptsD ns) ((j : Int) + 1) (nd.kids.take k) 0).length (rowP (D2 ++ kidPts (ptsD ns) ((j : Int) + 1) (nd.kids.take k) 0))) ∧ Hid (Below B W0 wr) ∧ Hid (KeepP W0 wr)) (fun t _ _ => nd.kids.length - (RowKit.intOf t).toNat)
        case atStart =>
          have e0 : D2 ++ kidPts (ptsD ns) ((j : Int) + 1) (nd.kids.take 0) 0 = D2 := by rw [List.take_zero, kidPts, List.append_nil]
          exact ⟨0, o2, c2, Nat.zero_le _, rfl, by rw [e0], by rw [e0]; exact HO2, HBB2, HKP2⟩
        case round =>
          obtain ⟨k, o4, c4, hk, rfl, rfl, hO, hBB, hKP⟩ := hrel
          clear HO2 HBB2 HKP2 d6 d8 d9 dl
          have hBs2 : B ≤ wr.heap.size := Nat.le_trans HBs.out (Nat.le_trans bx.size hBB.out.size)
          have hBw := HB1.out.trans (hBB.out.mono Hwb.out)
          have c0 := (box_cell_l (HKB.out wr hKP.out).1).1
          by_cases hlt : k < nd.kids.length
          · obtain ⟨bk, offk, rfl, hltk, hak⟩ := HG.out (by omega)
            have x1 := cellLater hBw hltk (hak k hlt)
            have htk : nd.kids.take (k + 1) = nd.kids.take k ++ [nd.kids[k]] := by rw [List.take_add_one, List.getElem?_eq_getElem hlt]; rfl
            have hsm : kidSum ns (nd.kids.take k) + (szD ns nd.kids[k] + 1) ≤ kidSum ns nd.kids := by
              have h1 : kidSum ns (nd.kids.take (k + 1)) + kidSum ns (nd.kids.drop (k + 1)) = kidSum ns nd.kids := by rw [← kidSum_append, List.take_append_drop]
              rw [htk, kidSum_append, kidSum_cons] at h1
              omega
            have hl3 : (D2 ++ kidPts (ptsD ns) ((j : Int) + 1) (nd.kids.take k) 0).length + (szD ns nd.kids[k] + 1) ≤ 1000000000 := by
              rw [List.length_append, kidPts_len]
              have := Hl2.out
              omega
            have hCall := HIH.out nd.kids[k] _ _ wr (List.getElem_mem hlt) (by omega) hBw hBs2 hO.out
            have hkp := kidPts_append (ptsD ns) ((j : Int) + 1) (nd.kids.take k) nd.kids[k] 0
            rw [← htk, List.length_take, Nat.min_eq_left (by omega), Nat.zero_add] at hkp
            have Hkp := hid hkp
            have Hl3 := hid hl3
            have p1 : (0 : Int) ≤ (k : Int) := by omega
            have p2 : (k : Int) < (nd.kids.length : Int) := by omega
            have dl : decide ((k : Int) < (nd.kids.length : Int)) = true := decide_eq_true p2
            simp only [List.length_append] at hCall
            clear hak HIH htk hsm hl3 hkp hBw
            have Hsz : Hid (szD ns nd.kids[k] = (ptsD ns nd.kids[k]).length) := rfl
            generalize nd.kids[k] = y at *
            go_wp2_with fail
            refine hCall.mono ?_
            rintro e v2 ⟨vx, rfl, hox', hbx, hkx⟩
            have hox : v2.ownsRow B 26 2 vx (D2 ++ kidPts (ptsD ns) ((j : Int) + 1) (nd.kids.take k) 0 ++ ptsD ns y).length (rowP (D2 ++ kidPts (ptsD ns) ((j : Int) + 1) (nd.kids.take k) 0 ++ ptsD ns y)) := by
              simp only [List.length_append]
              exact hox'
            clear hox'
            obtain ⟨o5, c5, rfl⟩ := own_shapeB hox
            obtain ⟨o6, c6, w6, e6, ho6, hbb6, hkp6⟩ := push_pt v2 B _ _ ((j : Int) + 1) ((k : Int) + 1) hox (Nat.le_trans hBs2 hbx.size) (by rw [List.length_append]; have := Hl3.out; have := Hsz.out; omega)
            have hsn : D2 ++ kidPts (ptsD ns) ((j : Int) + 1) (nd.kids.take k) 0 ++ ptsD ns y ++ [((j : Int) + 1, (k : Int) + 1)] = D2 ++ kidPts (ptsD ns) ((j : Int) + 1) (nd.kids.take (k + 1)) 0 := by rw [Hkp.out]; simp
            rw [hsn] at e6 ho6
            have HO6 := hid ho6
            have E6 := hid e6
            clear e6
            have HBB6 := hid (hBB.out.trans (hbx.trans hbb6))
            have HKP6 := hid (hKP.out.trans (hkx.trans hkp6))
            clear hsn ho6 hbb6 hkp6 hox hbx hkx hO hBB hKP hCall c0 x1
            generalize D2 ++ kidPts (ptsD ns) ((j : Int) + 1) (nd.kids.take k) 0 ++ ptsD ns y = DK at *
            go_wp2_with (at_builtin; refine wpList_append_run _ rfl _ _ 31 31 rfl _ _ rfl rfl _ _ (E6.out _) ?_)
            go_roundw
            case rel => exact ⟨k + 1, o6, c6, by omega, by go_num, by simp, HO6, HBB6, HKP6⟩
            case measure => simp [RowKit.intOf]; omega
          · have hkn : k = nd.kids.length := by omega
            subst hkn
            rw [List.take_length, HTT.out] at hO
            have dl : decide ((nd.kids.length : Int) < (nd.kids.length : Int)) = false := decide_eq_false (by omega)
            have HBf : Hid (Below B W wr) := (bx.mono HBs.out).trans hBB.out
            have HKf : Hid (KeepP W wr) := (KeepP.later bx).trans hKP.out
            have el : (D2 ++ kidPts (ptsD ns) ((j : Int) + 1) (nd.kids.take nd.kids.length) 0).length = (done ++ T).length := by rw [List.take_length, HTT.out]
            rw [el]
            have HOf := hO
            clear hO hBB hKP c0 el
            go_wp2
            go_ret
            exact ⟨_, rfl, HOf.out, HBf.out, HKf.out⟩
end Go.Proofs.Ythkjkcojbepfmaa

namespace Go.Proofs.Ythkjkcojbepfmaa
open Go.RowKit Go.Lib

theorem one_rdH {W : World} {B : Nat} {x c : Int} (h : W.heap[B]? = some (.cells #[.int .i64 x, .int .i64 c] 26)) : RdB W (.slice (some ⟨B, 0, none⟩) 1 1) [(x, c)] := by
  obtain ⟨a, b⟩ := bnd_cells h
  refine ⟨_, 1, rfl, by simp, fun _ => ⟨B, 0, rfl, (Array.getElem?_eq_some_iff.1 h).1, fun j hj => ?_⟩⟩
  match j, hj with
  | 0, _ => exact ⟨a, b⟩

set_option maxRecDepth 100000 in
set_option maxHeartbeats 8000000 in
theorem bWalk_err (o : Option Addr) (cap : Nat) (h : Int) (ns : List NodeD) (w : World) (hF : FRd w o cap ns) (hkl : ∀ (i : Nat) (hi : i < ns.length), ns[i].kids.length ≤ 1099511627776) (hal : ∀ (i : Nat) (hi : i < ns.length), ns[i].attrs.length ≤ 1099511627776) (hE : lookE ns [(h, 0)] ≠ 0) :
    Calls Try.prog 7 #[.agg #[.slice o ns.length cap], .int .i64 h] w fun e w' => e = .returned (.tuple #[.slice none 0 0, .int .i64 (lookE ns [(h, 0)])]) ∧ Below w.heap.size w w' := by
  have HSt : Hid (∀ V : World, Calls Try.prog 17 #[.int .i64 h] V fun e w' => e = .returned (.agg #[.int .i64 h, .int .i64 0]) ∧ Below V.heap.size V w') := fun V => bStart_any h V
  have bx : Below w.heap.size w (w.alloc (.cells #[.slice o ns.length cap] 24)) := (Below.refl _ w).alloc (Nat.le_refl _) _
  have g0 := heap_new w (.cells #[.slice o ns.length cap] 24)
  have sx : (w.alloc (.cells #[.slice o ns.length cap] 24)).heap.size = w.heap.size + 1 := by simp
  have HLk : Hid (∀ (vc : Value) (V : World), Below w.heap.size w V → RdB V vc [(h, 0)] → _) := fun vc V hV hr => bLooked_err o cap vc _ ns V (hF.later hV) hkl hal hr (by simp) hE
  have d0 : (lookE ns [(h, 0)] != 0) = true := by rw [bne, beq_eq_false_iff_ne.2 hE]; rfl
  generalize lookE ns [(h, 0)] = Z at *
  clear hF hkl hal hE
  unfold zeroV at *
  go_enter Try.func7, Try.ntmps7
  go_upto_region 1 with fail
  generalize (w.alloc (.cells #[.slice o ns.length cap] 24)) = W0 at *
  have n0 := (box_cell_l g0).1
  go_cut [6, 7] (fun t u wx => ∃ B, t = .pointer (some ⟨B, 0, none⟩) ∧ u = .int .i64 Z ∧ Held8 W0 (.agg #[.slice none 0 0, .slice none 0 0, .slice none 0 0, .slice none 0 0]) B wx)
  case first =>
    --slow
    refine wp_region_held_drew (S := fun V => Below W0.heap.size W0 V) (by kernel_rfl) ((Below.refl _ _).drew) (fun hHeld => ?_)
    have HB_V0 := hid hHeld
    have hz0 := hHeld.size
    generalize W0.drew = V0 at *
    refine wpAnyH_one 0 11 (.agg #[.slice o ns.length cap]) hHeld rfl rfl (by kernel_rfl) (fun _ _ _ _ _ h => h) (by kernel_rfl) (by kernel_rfl) (by rfl) ?_ ?_
    · intro V hSw; (try dsimp only at hSw); have k0 := cellLater (B := w.heap.size) hSw (by omega) n0; go_simp
    simp only [Act.put, List.setIfInBounds_toArray, List.set_cons_zero, List.set_cons_succ]
    refine wpAnyH_one 1 12 (.int .i64 h) hHeld rfl rfl (by kernel_rfl) (fun _ _ _ _ _ h => h) (by kernel_rfl) (by kernel_rfl) (by rfl) ?_ ?_
    · intro V hSw; (try dsimp only at hSw); go_simp
    simp only [Act.put, List.setIfInBounds_toArray, List.set_cons_zero, List.set_cons_succ]
    refine wpAnyH_ready (rs := [2, 8]) (by kernel_rfl) (by simp) ?_
    refine AllReadyH.cons rfl (fun K hK => ?_) (AllReadyH.cons rfl (fun K hK => ?_) (AllReadyH.nil))
    · go_simp
      go_wp2_with (go_at_call 17; refine (HSt.out V0).mono ?_; rintro e V1 ⟨rfl, hb⟩)
      have HB_V1 := hid (HB_V0.out.trans (hb.mono HB_V0.out.size))
      have hz1 := HB_V1.out.size
      have hy1 := hb.size
      refine hK.out _ _ HB_V1.out (fun hHeld => ?_)
      clear hK K hb
      refine wpAnyH_ready (rs := [3, 8]) (by kernel_rfl) (by simp) ?_
      refine AllReadyH.cons rfl (fun K hK => ?_) (AllReadyH.cons rfl (fun K hK => ?_) (AllReadyH.nil))
      · go_simp
        have hnw := heap_new V1 (.cells #[.int .i64 h, .int .i64 0] 26)
        have hb : Below V1.heap.size V1 (V1.alloc (.cells #[.int .i64 h, .int .i64 0] 26)) := (Below.refl _ V1).alloc (Nat.le_refl _) _
        have hx2 := (Array.getElem?_eq_some_iff.1 hnw).1
        generalize V1.alloc (.cells #[.int .i64 h, .int .i64 0] 26) = V2 at *
        have HB_V2 := hid (HB_V1.out.trans (hb.mono HB_V1.out.size))
        have hz2 := HB_V2.out.size
        have hy2 := hb.size
        have r1 := one_rdH hnw
        refine hK.out _ _ HB_V2.out (fun hHeld => ?_)
        clear hK K hb
        refine wpAnyH_ready (rs := [4, 8]) (by kernel_rfl) (by simp) ?_
        refine AllReadyH.cons rfl (fun K hK => ?_) (AllReadyH.cons rfl (fun K hK => ?_) (AllReadyH.nil))
        · go_simp
          go_wp2_with (go_at_call 14; refine (HLk.out _ V2 (bx.trans (HB_V2.out.mono bx.size)) r1).mono ?_; rintro e V3 ⟨rfl, hb⟩)
          have HB_V3 := hid (HB_V2.out.trans (hb.mono HB_V2.out.size))
          have hz3 := HB_V3.out.size
          have hy3 := hb.size
          have r1 := r1.later hb
          refine hK.out _ _ HB_V3.out (fun hHeld => ?_)
          clear hK K hb
          refine wpAnyH_one 5 10 (.tuple #[.agg #[.slice none 0 0, .slice none 0 0, .slice none 0 0, .slice none 0 0], .int .i64 Z]) hHeld rfl rfl (by kernel_rfl) (fun _ _ _ _ _ h => h) (by kernel_rfl) (by kernel_rfl) (by rfl) ?_ ?_
          · intro V hSw; (try dsimp only at hSw); go_simp
          simp only [Act.put, List.setIfInBounds_toArray, List.set_cons_zero, List.set_cons_succ]
          refine wpAnyH_one 6 16 (.agg #[.slice none 0 0, .slice none 0 0, .slice none 0 0, .slice none 0 0]) hHeld rfl rfl (by kernel_rfl) (fun _ _ _ _ _ h => h) (by kernel_rfl) (by kernel_rfl) (by rfl) ?_ ?_
          · intro V hSw; (try dsimp only at hSw); go_simp
          simp only [Act.put, List.setIfInBounds_toArray, List.set_cons_zero, List.set_cons_succ]
          refine wpAnyH_one 7 17 (.int .i64 Z) hHeld rfl rfl (by kernel_rfl) (fun _ _ _ _ _ h => h) (by kernel_rfl) (by kernel_rfl) (by rfl) ?_ ?_
          · intro V hSw; (try dsimp only at hSw); go_simp
          simp only [Act.put, List.setIfInBounds_toArray, List.set_cons_zero, List.set_cons_succ]
          refine wpAnyH_ready (rs := [8]) (by kernel_rfl) (by simp) ?_
          refine AllReadyH.cons rfl (fun K hK => ?_) (AllReadyH.nil)
          go_simp
          have hfl := heap_new V3 (.cells #[.slice none 0 0, .slice none 0 0, .slice none 0 0, .slice none 0 0] 52)
          have hb : Below V3.heap.size V3 (V3.alloc (.cells #[.slice none 0 0, .slice none 0 0, .slice none 0 0, .slice none 0 0] 52)) := (Below.refl _ V3).alloc (Nat.le_refl _) _
          have hx4 := (Array.getElem?_eq_some_iff.1 hfl).1
          generalize V3.alloc (.cells #[.slice none 0 0, .slice none 0 0, .slice none 0 0, .slice none 0 0] 52) = V4 at *
          have HB_V4 := hid (HB_V3.out.trans (hb.mono HB_V3.out.size))
          have hz4 := HB_V4.out.size
          have hy4 := hb.size
          have r1 := r1.later hb
          refine hK.out _ _ HB_V4.out (fun hHeld => ?_)
          clear hK K hb
          obtain ⟨z0, z1, z2, z3⟩ := sv_cells hfl
          obtain ⟨y0, y1, y2, y3⟩ := sv_free hfl
          refine wpAnyH_ready (rs := [9]) (by kernel_rfl) (by simp) ?_
          refine AllReadyH.cons rfl (fun K hK => ?_) AllReadyH.nil
          go_simp
          have H8 := hid (held8 (a := .slice none 0 0) (b := .slice none 0 0) (c := .slice none 0 0) (d := .slice none 0 0) HB_V4.out (show W0.heap.size ≤ V3.heap.size by omega) hfl)
          refine hK.out _ _ H8.out.below (fun hHeld => ?_)
          clear hK K
          refine wpAnyH_one 10 7 (.int .i64 Z) hHeld rfl rfl (by kernel_rfl) (fun _ _ _ _ _ h => h) (by kernel_rfl) (by kernel_rfl) (by rfl) ?_ ?_
          · intro V hSw; (try dsimp only at hSw); go_simp
          simp only [Act.put, List.setIfInBounds_toArray, List.set_cons_zero, List.set_cons_succ]
          refine wpAnyH_done (by kernel_rfl) ?_ _
          go_wp2_with fail
          go_meet
          exact ⟨_, rfl, rfl, H8.out⟩
        · go_simp
          have hfl := heap_new V2 (.cells #[.slice none 0 0, .slice none 0 0, .slice none 0 0, .slice none 0 0] 52)
          have hb : Below V2.heap.size V2 (V2.alloc (.cells #[.slice none 0 0, .slice none 0 0, .slice none 0 0, .slice none 0 0] 52)) := (Below.refl _ V2).alloc (Nat.le_refl _) _
          have hx3 := (Array.getElem?_eq_some_iff.1 hfl).1
          generalize V2.alloc (.cells #[.slice none 0 0, .slice none 0 0, .slice none 0 0, .slice none 0 0] 52) = V3 at *
          have HB_V3 := hid (HB_V2.out.trans (hb.mono HB_V2.out.size))
          have hz3 := HB_V3.out.size
          have hy3 := hb.size
          have r1 := r1.later hb
          refine hK.out _ _ HB_V3.out (fun hHeld => ?_)
          clear hK K hb
          refine wpAnyH_ready (rs := [4]) (by kernel_rfl) (by simp) ?_
          refine AllReadyH.cons rfl (fun K hK => ?_) (AllReadyH.nil)
          go_simp
          go_wp2_with (go_at_call 14; refine (HLk.out _ V3 (bx.trans (HB_V3.out.mono bx.size)) r1).mono ?_; rintro e V4 ⟨rfl, hb⟩)
          have HB_V4 := hid (HB_V3.out.trans (hb.mono HB_V3.out.size))
          have hz4 := HB_V4.out.size
          have hy4 := hb.size
          have r1 := r1.later hb
          have hfl := blkLater hb hfl
          refine hK.out _ _ HB_V4.out (fun hHeld => ?_)
          clear hK K hb
          refine wpAnyH_one 5 10 (.tuple #[.agg #[.slice none 0 0, .slice none 0 0, .slice none 0 0, .slice none 0 0], .int .i64 Z]) hHeld rfl rfl (by kernel_rfl) (fun _ _ _ _ _ h => h) (by kernel_rfl) (by kernel_rfl) (by rfl) ?_ ?_
          · intro V hSw; (try dsimp only at hSw); go_simp
          simp only [Act.put, List.setIfInBounds_toArray, List.set_cons_zero, List.set_cons_succ]
          refine wpAnyH_one 6 16 (.agg #[.slice none 0 0, .slice none 0 0, .slice none 0 0, .slice none 0 0]) hHeld rfl rfl (by kernel_rfl) (fun _ _ _ _ _ h => h) (by kernel_rfl) (by kernel_rfl) (by rfl) ?_ ?_
          · intro V hSw; (try dsimp only at hSw); go_simp
          simp only [Act.put, List.setIfInBounds_toArray, List.set_cons_zero, List.set_cons_succ]
          refine wpAnyH_one 7 17 (.int .i64 Z) hHeld rfl rfl (by kernel_rfl) (fun _ _ _ _ _ h => h) (by kernel_rfl) (by kernel_rfl) (by rfl) ?_ ?_
          · intro V hSw; (try dsimp only at hSw); go_simp
          simp only [Act.put, List.setIfInBounds_toArray, List.set_cons_zero, List.set_cons_succ]
          obtain ⟨z0, z1, z2, z3⟩ := sv_cells hfl
          obtain ⟨y0, y1, y2, y3⟩ := sv_free hfl
          refine wpAnyH_ready (rs := [9]) (by kernel_rfl) (by simp) ?_
          refine AllReadyH.cons rfl (fun K hK => ?_) AllReadyH.nil
          go_simp
          have H8 := hid (held8 (a := .slice none 0 0) (b := .slice none 0 0) (c := .slice none 0 0) (d := .slice none 0 0) HB_V4.out (show W0.heap.size ≤ V2.heap.size by omega) hfl)
          refine hK.out _ _ H8.out.below (fun hHeld => ?_)
          clear hK K
          refine wpAnyH_one 10 7 (.int .i64 Z) hHeld rfl rfl (by kernel_rfl) (fun _ _ _ _ _ h => h) (by kernel_rfl) (by kernel_rfl) (by rfl) ?_ ?_
          · intro V hSw; (try dsimp only at hSw); go_simp
          simp only [Act.put, List.setIfInBounds_toArray, List.set_cons_zero, List.set_cons_succ]
          refine wpAnyH_done (by kernel_rfl) ?_ _
          go_wp2_with fail
          go_meet
          exact ⟨_, rfl, rfl, H8.out⟩
      · go_simp
        have hfl := heap_new V1 (.cells #[.slice none 0 0, .slice none 0 0, .slice none 0 0, .slice none 0 0] 52)
        have hb : Below V1.heap.size V1 (V1.alloc (.cells #[.slice none 0 0, .slice none 0 0, .slice none 0 0, .slice none 0 0] 52)) := (Below.refl _ V1).alloc (Nat.le_refl _) _
        have hx2 := (Array.getElem?_eq_some_iff.1 hfl).1
        generalize V1.alloc (.cells #[.slice none 0 0, .slice none 0 0, .slice none 0 0, .slice none 0 0] 52) = V2 at *
        have HB_V2 := hid (HB_V1.out.trans (hb.mono HB_V1.out.size))
        have hz2 := HB_V2.out.size
        have hy2 := hb.size
        refine hK.out _ _ HB_V2.out (fun hHeld => ?_)
        clear hK K hb
        refine wpAnyH_ready (rs := [3]) (by kernel_rfl) (by simp) ?_
        refine AllReadyH.cons rfl (fun K hK => ?_) (AllReadyH.nil)
        go_simp
        have hnw := heap_new V2 (.cells #[.int .i64 h, .int .i64 0] 26)
        have hb : Below V2.heap.size V2 (V2.alloc (.cells #[.int .i64 h, .int .i64 0] 26)) := (Below.refl _ V2).alloc (Nat.le_refl _) _
        have hx3 := (Array.getElem?_eq_some_iff.1 hnw).1
        generalize V2.alloc (.cells #[.int .i64 h, .int .i64 0] 26) = V3 at *
        have HB_V3 := hid (HB_V2.out.trans (hb.mono HB_V2.out.size))
        have hz3 := HB_V3.out.size
        have hy3 := hb.size
        have hfl := blkLater hb hfl
        have r1 := one_rdH hnw
        refine hK.out _ _ HB_V3.out (fun hHeld => ?_)
        clear hK K hb
        refine wpAnyH_ready (rs := [4]) (by kernel_rfl) (by simp) ?_
        refine AllReadyH.cons rfl (fun K hK => ?_) (AllReadyH.nil)
        go_simp
        go_wp2_with (go_at_call 14; refine (HLk.out _ V3 (bx.trans (HB_V3.out.mono bx.size)) r1).mono ?_; rintro e V4 ⟨rfl, hb⟩)
        have HB_V4 := hid (HB_V3.out.trans (hb.mono HB_V3.out.size))
        have hz4 := HB_V4.out.size
        have hy4 := hb.size
        have hfl := blkLater hb hfl
        have r1 := r1.later hb
        refine hK.out _ _ HB_V4.out (fun hHeld => ?_)
        clear hK K hb
        refine wpAnyH_one 5 10 (.tuple #[.agg #[.slice none 0 0, .slice none 0 0, .slice none 0 0, .slice none 0 0], .int .i64 Z]) hHeld rfl rfl (by kernel_rfl) (fun _ _ _ _ _ h => h) (by kernel_rfl) (by kernel_rfl) (by rfl) ?_ ?_
        · intro V hSw; (try dsimp only at hSw); go_simp
        simp only [Act.put, List.setIfInBounds_toArray, List.set_cons_zero, List.set_cons_succ]
        refine wpAnyH_one 6 16 (.agg #[.slice none 0 0, .slice none 0 0, .slice none 0 0, .slice none 0 0]) hHeld rfl rfl (by kernel_rfl) (fun _ _ _ _ _ h => h) (by kernel_rfl) (by kernel_rfl) (by rfl) ?_ ?_
        · intro V hSw; (try dsimp only at hSw); go_simp
        simp only [Act.put, List.setIfInBounds_toArray, List.set_cons_zero, List.set_cons_succ]
        refine wpAnyH_one 7 17 (.int .i64 Z) hHeld rfl rfl (by kernel_rfl) (fun _ _ _ _ _ h => h) (by kernel_rfl) (by kernel_rfl) (by rfl) ?_ ?_
        · intro V hSw; (try dsimp only at hSw); go_simp
        simp only [Act.put, List.setIfInBounds_toArray, List.set_cons_zero, List.set_cons_succ]
        obtain ⟨z0, z1, z2, z3⟩ := sv_cells hfl
        obtain ⟨y0, y1, y2, y3⟩ := sv_free hfl
        refine wpAnyH_ready (rs := [9]) (by kernel_rfl) (by simp) ?_
        refine AllReadyH.cons rfl (fun K hK => ?_) AllReadyH.nil
        go_simp
        have H8 := hid (held8 (a := .slice none 0 0) (b := .slice none 0 0) (c := .slice none 0 0) (d := .slice none 0 0) HB_V4.out (show W0.heap.size ≤ V1.heap.size by omega) hfl)
        refine hK.out _ _ H8.out.below (fun hHeld => ?_)
        clear hK K
        refine wpAnyH_one 10 7 (.int .i64 Z) hHeld rfl rfl (by kernel_rfl) (fun _ _ _ _ _ h => h) (by kernel_rfl) (by kernel_rfl) (by rfl) ?_ ?_
        · intro V hSw; (try dsimp only at hSw); go_simp
        simp only [Act.put, List.setIfInBounds_toArray, List.set_cons_zero, List.set_cons_succ]
        refine wpAnyH_done (by kernel_rfl) ?_ _
        go_wp2_with fail
        go_meet
        exact ⟨_, rfl, rfl, H8.out⟩
    · go_simp
      have hfl := heap_new V0 (.cells #[.slice none 0 0, .slice none 0 0, .slice none 0 0, .slice none 0 0] 52)
      have hb : Below V0.heap.size V0 (V0.alloc (.cells #[.slice none 0 0, .slice none 0 0, .slice none 0 0, .slice none 0 0] 52)) := (Below.refl _ V0).alloc (Nat.le_refl _) _
      have hx1 := (Array.getElem?_eq_some_iff.1 hfl).1
      generalize V0.alloc (.cells #[.slice none 0 0, .slice none 0 0, .slice none 0 0, .slice none 0 0] 52) = V1 at *
      have HB_V1 := hid (HB_V0.out.trans (hb.mono HB_V0.out.size))
      have hz1 := HB_V1.out.size
      have hy1 := hb.size
      refine hK.out _ _ HB_V1.out (fun hHeld => ?_)
      clear hK K hb
      refine wpAnyH_ready (rs := [2]) (by kernel_rfl) (by simp) ?_
      refine AllReadyH.cons rfl (fun K hK => ?_) (AllReadyH.nil)
      go_simp
      go_wp2_with (go_at_call 17; refine (HSt.out V1).mono ?_; rintro e V2 ⟨rfl, hb⟩)
      have HB_V2 := hid (HB_V1.out.trans (hb.mono HB_V1.out.size))
      have hz2 := HB_V2.out.size
      have hy2 := hb.size
      have hfl := blkLater hb hfl
      refine hK.out _ _ HB_V2.out (fun hHeld => ?_)
      clear hK K hb
      refine wpAnyH_ready (rs := [3]) (by kernel_rfl) (by simp) ?_
      refine AllReadyH.cons rfl (fun K hK => ?_) (AllReadyH.nil)
      go_simp
      have hnw := heap_new V2 (.cells #[.int .i64 h, .int .i64 0] 26)
      have hb : Below V2.heap.size V2 (V2.alloc (.cells #[.int .i64 h, .int .i64 0] 26)) := (Below.refl _ V2).alloc (Nat.le_refl _) _
      have hx3 := (Array.getElem?_eq_some_iff.1 hnw).1
      generalize V2.alloc (.cells #[.int .i64 h, .int .i64 0] 26) = V3 at *
      have HB_V3 := hid (HB_V2.out.trans (hb.mono HB_V2.out.size))
      have hz3 := HB_V3.out.size
      have hy3 := hb.size
      have hfl := blkLater hb hfl
      have r1 := one_rdH hnw
      refine hK.out _ _ HB_V3.out (fun hHeld => ?_)
      clear hK K hb
      refine wpAnyH_ready (rs := [4]) (by kernel_rfl) (by simp) ?_
      refine AllReadyH.cons rfl (fun K hK => ?_) (AllReadyH.nil)
      go_simp
      go_wp2_with (go_at_call 14; refine (HLk.out _ V3 (bx.trans (HB_V3.out.mono bx.size)) r1).mono ?_; rintro e V4 ⟨rfl, hb⟩)
      have HB_V4 := hid (HB_V3.out.trans (hb.mono HB_V3.out.size))
      have hz4 := HB_V4.out.size
      have hy4 := hb.size
      have hfl := blkLater hb hfl
      have r1 := r1.later hb
      refine hK.out _ _ HB_V4.out (fun hHeld => ?_)
      clear hK K hb
      refine wpAnyH_one 5 10 (.tuple #[.agg #[.slice none 0 0, .slice none 0 0, .slice none 0 0, .slice none 0 0], .int .i64 Z]) hHeld rfl rfl (by kernel_rfl) (fun _ _ _ _ _ h => h) (by kernel_rfl) (by kernel_rfl) (by rfl) ?_ ?_
      · intro V hSw; (try dsimp only at hSw); go_simp
      simp only [Act.put, List.setIfInBounds_toArray, List.set_cons_zero, List.set_cons_succ]
      refine wpAnyH_one 6 16 (.agg #[.slice none 0 0, .slice none 0 0, .slice none 0 0, .slice none 0 0]) hHeld rfl rfl (by kernel_rfl) (fun _ _ _ _ _ h => h) (by kernel_rfl) (by kernel_rfl) (by rfl) ?_ ?_
      · intro V hSw; (try dsimp only at hSw); go_simp
      simp only [Act.put, List.setIfInBounds_toArray, List.set_cons_zero, List.set_cons_succ]
      refine wpAnyH_one 7 17 (.int .i64 Z) hHeld rfl rfl (by kernel_rfl) (fun _ _ _ _ _ h => h) (by kernel_rfl) (by kernel_rfl) (by rfl) ?_ ?_
      · intro V hSw; (try dsimp only at hSw); go_simp
      simp only [Act.put, List.setIfInBounds_toArray, List.set_cons_zero, List.set_cons_succ]
      obtain ⟨z0, z1, z2, z3⟩ := sv_cells hfl
      obtain ⟨y0, y1, y2, y3⟩ := sv_free hfl
      refine wpAnyH_ready (rs := [9]) (by kernel_rfl) (by simp) ?_
      refine AllReadyH.cons rfl (fun K hK => ?_) AllReadyH.nil
      go_simp
      have H8 := hid (held8 (a := .slice none 0 0) (b := .slice none 0 0) (c := .slice none 0 0) (d := .slice none 0 0) HB_V4.out (show W0.heap.size ≤ V0.heap.size by omega) hfl)
      refine hK.out _ _ H8.out.below (fun hHeld => ?_)
      clear hK K
      refine wpAnyH_one 10 7 (.int .i64 Z) hHeld rfl rfl (by kernel_rfl) (fun _ _ _ _ _ h => h) (by kernel_rfl) (by kernel_rfl) (by rfl) ?_ ?_
      · intro V hSw; (try dsimp only at hSw); go_simp
      simp only [Act.put, List.setIfInBounds_toArray, List.set_cons_zero, List.set_cons_succ]
      refine wpAnyH_done (by kernel_rfl) ?_ _
      go_wp2_with fail
      go_meet
      exact ⟨_, rfl, rfl, H8.out⟩
    --end slow
  case rest =>
    obtain ⟨B, rfl, rfl, h8⟩ := hcut
    have HB := hid (bx.trans (h8.below.mono bx.size))
    clear h8
    go_wp2
    go_ret2
    exact ⟨rfl, HB.out⟩

theorem make_pts (n : Nat) (h : n ≤ 1099511627776) (W : World) : ∃ C : Array Value, C.size = n * 2 ∧ (Instr.makeSlice 31 (.int .i64 0) (.int .i64 (n : Int))).run Try.prog W = .ok (.slice (some ⟨W.heap.size, 0, none⟩) 0 n) (W.alloc (.cells C 26)) := by
  obtain ⟨i0, hi, hz0, hz1, hz2⟩ := info_parts info_bndB
  have hr := run_make (P := Try.prog) W 31 26 i0 (.agg #[.int .i64 0, .int .i64 0]) Try.underlying31 hi hz0 .i64 .i64 0 n (Int.le_refl _) (by omega) (by rw [hz2]; omega) (by omega)
  simp only [Int.toNat_natCast, hz1, Int.toNat_zero] at hr
  refine ⟨_, ?_, hr⟩
  simp [madeCells]

set_option maxRecDepth 100000 in
set_option maxHeartbeats 8000000 in
theorem bWalk_ok (o : Option Addr) (cap : Nat) (h : Int) (ns : List NodeD) (w : World) (hF : FRd w o cap ns) (hkl : ∀ (i : Nat) (hi : i < ns.length), ns[i].kids.length ≤ 1099511627776) (hal : ∀ (i : Nat) (hi : i < ns.length), ns[i].attrs.length ≤ 1099511627776) (hE : lookE ns [(h, 0)] = 0) :
    Calls Try.prog 7 #[.agg #[.slice o ns.length cap], .int .i64 h] w fun e w' => ∃ v, e = .returned (.tuple #[v, .int .i64 0]) ∧ w'.ownsRow w.heap.size 26 2 v (ptsD ns h).length (rowP (ptsD ns h)) ∧ Below w.heap.size w w' ∧ ∃ F : Int → Int, Num ns F := by
  have HSt : Hid (∀ V : World, Calls Try.prog 17 #[.int .i64 h] V fun e w' => e = .returned (.agg #[.int .i64 h, .int .i64 0]) ∧ Below V.heap.size V w') := fun V => bStart_any h V
  have hR : RightF ns ∧ wrongD ns [(h, 0)] = 0 := by
    unfold lookE at hE
    split at hE
    · rename_i hr
      exact ⟨(rightD_iff ns).1 hr, hE⟩
    · simp at hE
  obtain ⟨hR, hW⟩ := hR
  have hp : isPt ns (h, 0) := wrongD_zero.1 hW _ (by simp)
  have hq := pt_last hp.1
  obtain ⟨j, hj, rfl⟩ := there_idx hp.1
  obtain ⟨b, off, hoe, hFF⟩ := hF.at_ (by omega)
  have bx : Below w.heap.size w (w.alloc (.cells #[.slice o ns.length cap] 24)) := (Below.refl _ w).alloc (Nat.le_refl _) _
  have g0 := heap_new w (.cells #[.slice o ns.length cap] 24)
  have sx : (w.alloc (.cells #[.slice o ns.length cap] 24)).heap.size = w.heap.size + 1 := by simp
  have HLk : Hid (∀ (vc : Value) (V : World), Below w.heap.size w V → RdB V vc [((j : Int) + 1, 0)] → _) := fun vc V hV hr => bLooked_ok o cap vc _ ns V (hF.later hV) hkl hal hr (by simp) hR hW
  have HNu : Hid (∀ (c : Int), isPt ns ((j : Int) + 1, c) → ∀ (bR bF bL : Nat) (R F L : List Int) (V : World), Below w.heap.size w V → NumsL ns V bR bF bL R F L → Calls Try.prog 18 #[numsV o cap ns.length bR bF bL (ns.length + 1), bndV ((j : Int) + 1) c] V fun e w' => e = .returned (.int .i64 (numD ns (fOf F) ((j : Int) + 1, c))) ∧ Below V.heap.size V w') := by
    intro c hc bR bF bL R F L V hV hN
    rw [hoe]
    exact pNumber_any b off cap bR bF bL j c ns R F L V hR (hFF.later hV) hN hj hc
  have HEn : Hid (∀ (bR bF bL : Nat) (V : World), Below w.heap.size w V → Calls Try.prog 19 #[numsV o cap ns.length bR bF bL (ns.length + 1), .int .i64 ((j : Int) + 1)] V fun e w' => e = .returned (bndV ((j : Int) + 1) (lenN ns ((j : Int) + 1))) ∧ Below V.heap.size V w') := by
    intro bR bF bL V hV
    rw [hoe]
    exact bEnd_any b off cap bR bF bL _ j ns V hR (hFF.later hV) hj
  have HPo : Hid (∀ (B : Nat) (v : Value) (V : World), w.heap.size ≤ B → Below w.heap.size w V → B ≤ V.heap.size → V.ownsRow B 26 2 v ([] : List (Int × Int)).length (rowP []) → Calls Try.prog 20 #[.agg #[.slice o ns.length cap], .int .i64 ((j : Int) + 1), v] V fun e W' => ∃ v', e = .returned v' ∧ W'.ownsRow B 26 2 v' ([] ++ ptsD ns ((j : Int) + 1)).length (rowP ([] ++ ptsD ns ((j : Int) + 1))) ∧ Below B V W' ∧ KeepP V W') := by
    intro B v V hwB hV hB hO
    rw [hoe]
    exact pointsOf_any b off cap B ns w hR hFF hwB (ns.length + 1) _ v [] V (there_of hj) (by omega) (by have := hR.sz (there_of hj); simp; omega) hV hB hO
  have hsz := hR.sz (there_of hj)
  have hsp := sz_pos hR (there_of hj)
  have HLst : Hid (∀ (R F L : List Int), NumL ns R F L → numD ns (fOf F) ((j : Int) + 1, (0 : Int)) = fOf F ((j : Int) + 1) ∧ numD ns (fOf F) ((j : Int) + 1, (lenN ns ((j : Int) + 1) : Int)) = fOf F ((j : Int) + 1) + (szD ns ((j : Int) + 1) : Int) - 1 ∧ 0 ≤ fOf F ((j : Int) + 1) ∧ fOf F ((j : Int) + 1) ≤ 1099511627776) := fun R F L hN => ⟨numD_zero _ _ _, num_last hR hR.oneOf hN.numF (there_of hj), hN.low _ (there_of hj), by have := hN.high _ (there_of hj); unfold fOf; omega⟩
  have Hp := hid hp
  have Hq := hid hq
  clear hF hkl hal hE hR hW hp hq hFF hoe hj
  unfold bndV numsV at *
  generalize (lenN ns ((j : Int) + 1) : Int) = LN at *
  generalize hsZ : szD ns ((j : Int) + 1) = SZ at *
  clear hsZ
  generalize ((j : Int) + 1) = h at *
  go_enter Try.func7, Try.ntmps7
  go_upto_region 1 with fail
  generalize (w.alloc (.cells #[.slice o ns.length cap] 24)) = W0 at *
  have n0 := (box_cell_l g0).1
  go_cut [6, 7] (fun t u wx => ∃ bR bF bL B, t = .pointer (some ⟨B, 0, none⟩) ∧ u = .int .i64 0 ∧ Held8 W0 (.agg #[.slice o ns.length cap, .slice (some ⟨bR, 0, none⟩) (ns.length + 1) (ns.length + 1), .slice (some ⟨bF, 0, none⟩) (ns.length + 1) (ns.length + 1), .slice (some ⟨bL, 0, none⟩) (ns.length + 1) (ns.length + 1)]) B wx ∧ NumsAt ns wx bR bF bL)
  case first =>
    --slow
    refine wp_region_held_drew (S := fun V => Below W0.heap.size W0 V) (by kernel_rfl) ((Below.refl _ _).drew) (fun hHeld => ?_)
    have HB_V0 := hid hHeld
    have hz0 := hHeld.size
    generalize W0.drew = V0 at *
    refine wpAnyH_one 0 11 (.agg #[.slice o ns.length cap]) hHeld rfl rfl (by kernel_rfl) (fun _ _ _ _ _ h => h) (by kernel_rfl) (by kernel_rfl) (by rfl) ?_ ?_
    · intro V hSw; (try dsimp only at hSw); have k0 := cellLater (B := w.heap.size) hSw (by omega) n0; go_simp
    simp only [Act.put, List.setIfInBounds_toArray, List.set_cons_zero, List.set_cons_succ]
    refine wpAnyH_one 1 12 (.int .i64 h) hHeld rfl rfl (by kernel_rfl) (fun _ _ _ _ _ h => h) (by kernel_rfl) (by kernel_rfl) (by rfl) ?_ ?_
    · intro V hSw; (try dsimp only at hSw); go_simp
    simp only [Act.put, List.setIfInBounds_toArray, List.set_cons_zero, List.set_cons_succ]
    refine wpAnyH_ready (rs := [2, 8]) (by kernel_rfl) (by simp) ?_
    refine AllReadyH.cons rfl (fun K hK => ?_) (AllReadyH.cons rfl (fun K hK => ?_) (AllReadyH.nil))
    · go_simp
      go_wp2_with (go_at_call 17; refine (HSt.out V0).mono ?_; rintro e V1 ⟨rfl, hb⟩)
      have HB_V1 := hid (HB_V0.out.trans (hb.mono HB_V0.out.size))
      have hz1 := HB_V1.out.size
      have hy1 := hb.size
      refine hK.out _ _ HB_V1.out (fun hHeld => ?_)
      clear hK K hb
      refine wpAnyH_ready (rs := [3, 8]) (by kernel_rfl) (by simp) ?_
      refine AllReadyH.cons rfl (fun K hK => ?_) (AllReadyH.cons rfl (fun K hK => ?_) (AllReadyH.nil))
      · go_simp
        have hnw := heap_new V1 (.cells #[.int .i64 h, .int .i64 0] 26)
        have hb : Below V1.heap.size V1 (V1.alloc (.cells #[.int .i64 h, .int .i64 0] 26)) := (Below.refl _ V1).alloc (Nat.le_refl _) _
        have hx2 := (Array.getElem?_eq_some_iff.1 hnw).1
        generalize V1.alloc (.cells #[.int .i64 h, .int .i64 0] 26) = V2 at *
        have HB_V2 := hid (HB_V1.out.trans (hb.mono HB_V1.out.size))
        have hz2 := HB_V2.out.size
        have hy2 := hb.size
        have r1 := one_rdH hnw
        refine hK.out _ _ HB_V2.out (fun hHeld => ?_)
        clear hK K hb
        refine wpAnyH_ready (rs := [4, 8]) (by kernel_rfl) (by simp) ?_
        refine AllReadyH.cons rfl (fun K hK => ?_) (AllReadyH.cons rfl (fun K hK => ?_) (AllReadyH.nil))
        · go_simp
          go_wp2_with (go_at_call 14; refine (HLk.out _ V2 (bx.trans (HB_V2.out.mono bx.size)) r1).mono ?_; rintro e V3 ⟨bR, bF, bL, rfl, hNm, hb⟩)
          have HB_V3 := hid (HB_V2.out.trans (hb.mono HB_V2.out.size))
          have hz3 := HB_V3.out.size
          have hy3 := hb.size
          have r1 := r1.later hb
          have hN2 := hNm
          refine hK.out _ _ HB_V3.out (fun hHeld => ?_)
          clear hK K hb
          refine wpAnyH_one 5 10 (.tuple #[.agg #[.slice o ns.length cap, .slice (some ⟨bR, 0, none⟩) (ns.length + 1) (ns.length + 1), .slice (some ⟨bF, 0, none⟩) (ns.length + 1) (ns.length + 1), .slice (some ⟨bL, 0, none⟩) (ns.length + 1) (ns.length + 1)], .int .i64 0]) hHeld rfl rfl (by kernel_rfl) (fun _ _ _ _ _ h => h) (by kernel_rfl) (by kernel_rfl) (by rfl) ?_ ?_
          · intro V hSw; (try dsimp only at hSw); go_simp
          simp only [Act.put, List.setIfInBounds_toArray, List.set_cons_zero, List.set_cons_succ]
          refine wpAnyH_one 6 16 (.agg #[.slice o ns.length cap, .slice (some ⟨bR, 0, none⟩) (ns.length + 1) (ns.length + 1), .slice (some ⟨bF, 0, none⟩) (ns.length + 1) (ns.length + 1), .slice (some ⟨bL, 0, none⟩) (ns.length + 1) (ns.length + 1)]) hHeld rfl rfl (by kernel_rfl) (fun _ _ _ _ _ h => h) (by kernel_rfl) (by kernel_rfl) (by rfl) ?_ ?_
          · intro V hSw; (try dsimp only at hSw); go_simp
          simp only [Act.put, List.setIfInBounds_toArray, List.set_cons_zero, List.set_cons_succ]
          refine wpAnyH_one 7 17 (.int .i64 0) hHeld rfl rfl (by kernel_rfl) (fun _ _ _ _ _ h => h) (by kernel_rfl) (by kernel_rfl) (by rfl) ?_ ?_
          · intro V hSw; (try dsimp only at hSw); go_simp
          simp only [Act.put, List.setIfInBounds_toArray, List.set_cons_zero, List.set_cons_succ]
          refine wpAnyH_ready (rs := [8]) (by kernel_rfl) (by simp) ?_
          refine AllReadyH.cons rfl (fun K hK => ?_) (AllReadyH.nil)
          go_simp
          have hfl := heap_new V3 (.cells #[.slice none 0 0, .slice none 0 0, .slice none 0 0, .slice none 0 0] 52)
          have hb : Below V3.heap.size V3 (V3.alloc (.cells #[.slice none 0 0, .slice none 0 0, .slice none 0 0, .slice none 0 0] 52)) := (Below.refl _ V3).alloc (Nat.le_refl _) _
          have hx4 := (Array.getElem?_eq_some_iff.1 hfl).1
          generalize V3.alloc (.cells #[.slice none 0 0, .slice none 0 0, .slice none 0 0, .slice none 0 0] 52) = V4 at *
          have HB_V4 := hid (HB_V3.out.trans (hb.mono HB_V3.out.size))
          have hz4 := HB_V4.out.size
          have hy4 := hb.size
          have r1 := r1.later hb
          have hN2 := hN2.later hb
          refine hK.out _ _ HB_V4.out (fun hHeld => ?_)
          clear hK K hb
          obtain ⟨z0, z1, z2, z3⟩ := sv_cells hfl
          obtain ⟨y0, y1, y2, y3⟩ := sv_free hfl
          refine wpAnyH_ready (rs := [9]) (by kernel_rfl) (by simp) ?_
          refine AllReadyH.cons rfl (fun K hK => ?_) AllReadyH.nil
          go_simp
          have H8 := hid (held8 (a := .slice o ns.length cap) (b := .slice (some ⟨bR, 0, none⟩) (ns.length + 1) (ns.length + 1)) (c := .slice (some ⟨bF, 0, none⟩) (ns.length + 1) (ns.length + 1)) (d := .slice (some ⟨bL, 0, none⟩) (ns.length + 1) (ns.length + 1)) HB_V4.out (show W0.heap.size ≤ V3.heap.size by omega) hfl)
          have HN8 := hid (nums_set4 (a := .slice o ns.length cap) (b := .slice (some ⟨bR, 0, none⟩) (ns.length + 1) (ns.length + 1)) (c := .slice (some ⟨bF, 0, none⟩) (ns.length + 1) (ns.length + 1)) (d := .slice (some ⟨bL, 0, none⟩) (ns.length + 1) (ns.length + 1)) hN2 hfl)
          refine hK.out _ _ H8.out.below (fun hHeld => ?_)
          clear hK K
          refine wpAnyH_one 10 7 (.int .i64 0) hHeld rfl rfl (by kernel_rfl) (fun _ _ _ _ _ h => h) (by kernel_rfl) (by kernel_rfl) (by rfl) ?_ ?_
          · intro V hSw; (try dsimp only at hSw); go_simp
          simp only [Act.put, List.setIfInBounds_toArray, List.set_cons_zero, List.set_cons_succ]
          refine wpAnyH_done (by kernel_rfl) ?_ _
          go_wp2_with fail
          go_meet
          exact ⟨bR, bF, bL, _, rfl, rfl, H8.out, HN8.out⟩
        · go_simp
          have hfl := heap_new V2 (.cells #[.slice none 0 0, .slice none 0 0, .slice none 0 0, .slice none 0 0] 52)
          have hb : Below V2.heap.size V2 (V2.alloc (.cells #[.slice none 0 0, .slice none 0 0, .slice none 0 0, .slice none 0 0] 52)) := (Below.refl _ V2).alloc (Nat.le_refl _) _
          have hx3 := (Array.getElem?_eq_some_iff.1 hfl).1
          generalize V2.alloc (.cells #[.slice none 0 0, .slice none 0 0, .slice none 0 0, .slice none 0 0] 52) = V3 at *
          have HB_V3 := hid (HB_V2.out.trans (hb.mono HB_V2.out.size))
          have hz3 := HB_V3.out.size
          have hy3 := hb.size
          have r1 := r1.later hb
          refine hK.out _ _ HB_V3.out (fun hHeld => ?_)
          clear hK K hb
          refine wpAnyH_ready (rs := [4]) (by kernel_rfl) (by simp) ?_
          refine AllReadyH.cons rfl (fun K hK => ?_) (AllReadyH.nil)
          go_simp
          go_wp2_with (go_at_call 14; refine (HLk.out _ V3 (bx.trans (HB_V3.out.mono bx.size)) r1).mono ?_; rintro e V4 ⟨bR, bF, bL, rfl, hNm, hb⟩)
          have HB_V4 := hid (HB_V3.out.trans (hb.mono HB_V3.out.size))
          have hz4 := HB_V4.out.size
          have hy4 := hb.size
          have r1 := r1.later hb
          have hfl := blkLater hb hfl
          have hN2 := hNm
          refine hK.out _ _ HB_V4.out (fun hHeld => ?_)
          clear hK K hb
          refine wpAnyH_one 5 10 (.tuple #[.agg #[.slice o ns.length cap, .slice (some ⟨bR, 0, none⟩) (ns.length + 1) (ns.length + 1), .slice (some ⟨bF, 0, none⟩) (ns.length + 1) (ns.length + 1), .slice (some ⟨bL, 0, none⟩) (ns.length + 1) (ns.length + 1)], .int .i64 0]) hHeld rfl rfl (by kernel_rfl) (fun _ _ _ _ _ h => h) (by kernel_rfl) (by kernel_rfl) (by rfl) ?_ ?_
          · intro V hSw; (try dsimp only at hSw); go_simp
          simp only [Act.put, List.setIfInBounds_toArray, List.set_cons_zero, List.set_cons_succ]
          refine wpAnyH_one 6 16 (.agg #[.slice o ns.length cap, .slice (some ⟨bR, 0, none⟩) (ns.length + 1) (ns.length + 1), .slice (some ⟨bF, 0, none⟩) (ns.length + 1) (ns.length + 1), .slice (some ⟨bL, 0, none⟩) (ns.length + 1) (ns.length + 1)]) hHeld rfl rfl (by kernel_rfl) (fun _ _ _ _ _ h => h) (by kernel_rfl) (by kernel_rfl) (by rfl) ?_ ?_
          · intro V hSw; (try dsimp only at hSw); go_simp
          simp only [Act.put, List.setIfInBounds_toArray, List.set_cons_zero, List.set_cons_succ]
          refine wpAnyH_one 7 17 (.int .i64 0) hHeld rfl rfl (by kernel_rfl) (fun _ _ _ _ _ h => h) (by kernel_rfl) (by kernel_rfl) (by rfl) ?_ ?_
          · intro V hSw; (try dsimp only at hSw); go_simp
          simp only [Act.put, List.setIfInBounds_toArray, List.set_cons_zero, List.set_cons_succ]
          obtain ⟨z0, z1, z2, z3⟩ := sv_cells hfl
          obtain ⟨y0, y1, y2, y3⟩ := sv_free hfl
          refine wpAnyH_ready (rs := [9]) (by kernel_rfl) (by simp) ?_
          refine AllReadyH.cons rfl (fun K hK => ?_) AllReadyH.nil
          go_simp
          have H8 := hid (held8 (a := .slice o ns.length cap) (b := .slice (some ⟨bR, 0, none⟩) (ns.length + 1) (ns.length + 1)) (c := .slice (some ⟨bF, 0, none⟩) (ns.length + 1) (ns.length + 1)) (d := .slice (some ⟨bL, 0, none⟩) (ns.length + 1) (ns.length + 1)) HB_V4.out (show W0.heap.size ≤ V2.heap.size by omega) hfl)
          have HN8 := hid (nums_set4 (a := .slice o ns.length cap) (b := .slice (some ⟨bR, 0, none⟩) (ns.length + 1) (ns.length + 1)) (c := .slice (some ⟨bF, 0, none⟩) (ns.length + 1) (ns.length + 1)) (d := .slice (some ⟨bL, 0, none⟩) (ns.length + 1) (ns.length + 1)) hN2 hfl)
          refine hK.out _ _ H8.out.below (fun hHeld => ?_)
          clear hK K
          refine wpAnyH_one 10 7 (.int .i64 0) hHeld rfl rfl (by kernel_rfl) (fun _ _ _ _ _ h => h) (by kernel_rfl) (by kernel_rfl) (by rfl) ?_ ?_
          · intro V hSw; (try dsimp only at hSw); go_simp
          simp only [Act.put, List.setIfInBounds_toArray, List.set_cons_zero, List.set_cons_succ]
          refine wpAnyH_done (by kernel_rfl) ?_ _
          go_wp2_with fail
          go_meet
          exact ⟨bR, bF, bL, _, rfl, rfl, H8.out, HN8.out⟩
      · go_simp
        have hfl := heap_new V1 (.cells #[.slice none 0 0, .slice none 0 0, .slice none 0 0, .slice none 0 0] 52)
        have hb : Below V1.heap.size V1 (V1.alloc (.cells #[.slice none 0 0, .slice none 0 0, .slice none 0 0, .slice none 0 0] 52)) := (Below.refl _ V1).alloc (Nat.le_refl _) _
        have hx2 := (Array.getElem?_eq_some_iff.1 hfl).1
        generalize V1.alloc (.cells #[.slice none 0 0, .slice none 0 0, .slice none 0 0, .slice none 0 0] 52) = V2 at *
        have HB_V2 := hid (HB_V1.out.trans (hb.mono HB_V1.out.size))
        have hz2 := HB_V2.out.size
        have hy2 := hb.size
        refine hK.out _ _ HB_V2.out (fun hHeld => ?_)
        clear hK K hb
        refine wpAnyH_ready (rs := [3]) (by kernel_rfl) (by simp) ?_
        refine AllReadyH.cons rfl (fun K hK => ?_) (AllReadyH.nil)
        go_simp
        have hnw := heap_new V2 (.cells #[.int .i64 h, .int .i64 0] 26)
        have hb : Below V2.heap.size V2 (V2.alloc (.cells #[.int .i64 h, .int .i64 0] 26)) := (Below.refl _ V2).alloc (Nat.le_refl _) _
        have hx3 := (Array.getElem?_eq_some_iff.1 hnw).1
        generalize V2.alloc (.cells #[.int .i64 h, .int .i64 0] 26) = V3 at *
        have HB_V3 := hid (HB_V2.out.trans (hb.mono HB_V2.out.size))
        have hz3 := HB_V3.out.size
        have hy3 := hb.size
        have hfl := blkLater hb hfl
        have r1 := one_rdH hnw
        refine hK.out _ _ HB_V3.out (fun hHeld => ?_)
        clear hK K hb
        refine wpAnyH_ready (rs := [4]) (by kernel_rfl) (by simp) ?_
        refine AllReadyH.cons rfl (fun K hK => ?_) (AllReadyH.nil)
        go_simp
        go_wp2_with (go_at_call 14; refine (HLk.out _ V3 (bx.trans (HB_V3.out.mono bx.size)) r1).mono ?_; rintro e V4 ⟨bR, bF, bL, rfl, hNm, hb⟩)
        have HB_V4 := hid (HB_V3.out.trans (hb.mono HB_V3.out.size))
        have hz4 := HB_V4.out.size
        have hy4 := hb.size
        have hfl := blkLater hb hfl
        have r1 := r1.later hb
        have hN2 := hNm
        refine hK.out _ _ HB_V4.out (fun hHeld => ?_)
        clear hK K hb
        refine wpAnyH_one 5 10 (.tuple #[.agg #[.slice o ns.length cap, .slice (some ⟨bR, 0, none⟩) (ns.length + 1) (ns.length + 1), .slice (some ⟨bF, 0, none⟩) (ns.length + 1) (ns.length + 1), .slice (some ⟨bL, 0, none⟩) (ns.length + 1) (ns.length + 1)], .int .i64 0]) hHeld rfl rfl (by kernel_rfl) (fun _ _ _ _ _ h => h) (by kernel_rfl) (by kernel_rfl) (by rfl) ?_ ?_
        · intro V hSw; (try dsimp only at hSw); go_simp
        simp only [Act.put, List.setIfInBounds_toArray, List.set_cons_zero, List.set_cons_succ]
        refine wpAnyH_one 6 16 (.agg #[.slice o ns.length cap, .slice (some ⟨bR, 0, none⟩) (ns.length + 1) (ns.length + 1), .slice (some ⟨bF, 0, none⟩) (ns.length + 1) (ns.length + 1), .slice (some ⟨bL, 0, none⟩) (ns.length + 1) (ns.length + 1)]) hHeld rfl rfl (by kernel_rfl) (fun _ _ _ _ _ h => h) (by kernel_rfl) (by kernel_rfl) (by rfl) ?_ ?_
        · intro V hSw; (try dsimp only at hSw); go_simp
        simp only [Act.put, List.setIfInBounds_toArray, List.set_cons_zero, List.set_cons_succ]
        refine wpAnyH_one 7 17 (.int .i64 0) hHeld rfl rfl (by kernel_rfl) (fun _ _ _ _ _ h => h) (by kernel_rfl) (by kernel_rfl) (by rfl) ?_ ?_
        · intro V hSw; (try dsimp only at hSw); go_simp
        simp only [Act.put, List.setIfInBounds_toArray, List.set_cons_zero, List.set_cons_succ]
        obtain ⟨z0, z1, z2, z3⟩ := sv_cells hfl
        obtain ⟨y0, y1, y2, y3⟩ := sv_free hfl
        refine wpAnyH_ready (rs := [9]) (by kernel_rfl) (by simp) ?_
        refine AllReadyH.cons rfl (fun K hK => ?_) AllReadyH.nil
        go_simp
        have H8 := hid (held8 (a := .slice o ns.length cap) (b := .slice (some ⟨bR, 0, none⟩) (ns.length + 1) (ns.length + 1)) (c := .slice (some ⟨bF, 0, none⟩) (ns.length + 1) (ns.length + 1)) (d := .slice (some ⟨bL, 0, none⟩) (ns.length + 1) (ns.length + 1)) HB_V4.out (show W0.heap.size ≤ V1.heap.size by omega) hfl)
        have HN8 := hid (nums_set4 (a := .slice o ns.length cap) (b := .slice (some ⟨bR, 0, none⟩) (ns.length + 1) (ns.length + 1)) (c := .slice (some ⟨bF, 0, none⟩) (ns.length + 1) (ns.length + 1)) (d := .slice (some ⟨bL, 0, none⟩) (ns.length + 1) (ns.length + 1)) hN2 hfl)
        refine hK.out _ _ H8.out.below (fun hHeld => ?_)
        clear hK K
        refine wpAnyH_one 10 7 (.int .i64 0) hHeld rfl rfl (by kernel_rfl) (fun _ _ _ _ _ h => h) (by kernel_rfl) (by kernel_rfl) (by rfl) ?_ ?_
        · intro V hSw; (try dsimp only at hSw); go_simp
        simp only [Act.put, List.setIfInBounds_toArray, List.set_cons_zero, List.set_cons_succ]
        refine wpAnyH_done (by kernel_rfl) ?_ _
        go_wp2_with fail
        go_meet
        exact ⟨bR, bF, bL, _, rfl, rfl, H8.out, HN8.out⟩
    · go_simp
      have hfl := heap_new V0 (.cells #[.slice none 0 0, .slice none 0 0, .slice none 0 0, .slice none 0 0] 52)
      have hb : Below V0.heap.size V0 (V0.alloc (.cells #[.slice none 0 0, .slice none 0 0, .slice none 0 0, .slice none 0 0] 52)) := (Below.refl _ V0).alloc (Nat.le_refl _) _
      have hx1 := (Array.getElem?_eq_some_iff.1 hfl).1
      generalize V0.alloc (.cells #[.slice none 0 0, .slice none 0 0, .slice none 0 0, .slice none 0 0] 52) = V1 at *
      have HB_V1 := hid (HB_V0.out.trans (hb.mono HB_V0.out.size))
      have hz1 := HB_V1.out.size
      have hy1 := hb.size
      refine hK.out _ _ HB_V1.out (fun hHeld => ?_)
      clear hK K hb
      refine wpAnyH_ready (rs := [2]) (by kernel_rfl) (by simp) ?_
      refine AllReadyH.cons rfl (fun K hK => ?_) (AllReadyH.nil)
      go_simp
      go_wp2_with (go_at_call 17; refine (HSt.out V1).mono ?_; rintro e V2 ⟨rfl, hb⟩)
      have HB_V2 := hid (HB_V1.out.trans (hb.mono HB_V1.out.size))
      have hz2 := HB_V2.out.size
      have hy2 := hb.size
      have hfl := blkLater hb hfl
      refine hK.out _ _ HB_V2.out (fun hHeld => ?_)
      clear hK K hb
      refine wpAnyH_ready (rs := [3]) (by kernel_rfl) (by simp) ?_
      refine AllReadyH.cons rfl (fun K hK => ?_) (AllReadyH.nil)
      go_simp
      have hnw := heap_new V2 (.cells #[.int .i64 h, .int .i64 0] 26)
      have hb : Below V2.heap.size V2 (V2.alloc (.cells #[.int .i64 h, .int .i64 0] 26)) := (Below.refl _ V2).alloc (Nat.le_refl _) _
      have hx3 := (Array.getElem?_eq_some_iff.1 hnw).1
      generalize V2.alloc (.cells #[.int .i64 h, .int .i64 0] 26) = V3 at *
      have HB_V3 := hid (HB_V2.out.trans (hb.mono HB_V2.out.size))
      have hz3 := HB_V3.out.size
      have hy3 := hb.size
      have hfl := blkLater hb hfl
      have r1 := one_rdH hnw
      refine hK.out _ _ HB_V3.out (fun hHeld => ?_)
      clear hK K hb
      refine wpAnyH_ready (rs := [4]) (by kernel_rfl) (by simp) ?_
      refine AllReadyH.cons rfl (fun K hK => ?_) (AllReadyH.nil)
      go_simp
      go_wp2_with (go_at_call 14; refine (HLk.out _ V3 (bx.trans (HB_V3.out.mono bx.size)) r1).mono ?_; rintro e V4 ⟨bR, bF, bL, rfl, hNm, hb⟩)
      have HB_V4 := hid (HB_V3.out.trans (hb.mono HB_V3.out.size))
      have hz4 := HB_V4.out.size
      have hy4 := hb.size
      have hfl := blkLater hb hfl
      have r1 := r1.later hb
      have hN2 := hNm
      refine hK.out _ _ HB_V4.out (fun hHeld => ?_)
      clear hK K hb
      refine wpAnyH_one 5 10 (.tuple #[.agg #[.slice o ns.length cap, .slice (some ⟨bR, 0, none⟩) (ns.length + 1) (ns.length + 1), .slice (some ⟨bF, 0, none⟩) (ns.length + 1) (ns.length + 1), .slice (some ⟨bL, 0, none⟩) (ns.length + 1) (ns.length + 1)], .int .i64 0]) hHeld rfl rfl (by kernel_rfl) (fun _ _ _ _ _ h => h) (by kernel_rfl) (by kernel_rfl) (by rfl) ?_ ?_
      · intro V hSw; (try dsimp only at hSw); go_simp
      simp only [Act.put, List.setIfInBounds_toArray, List.set_cons_zero, List.set_cons_succ]
      refine wpAnyH_one 6 16 (.agg #[.slice o ns.length cap, .slice (some ⟨bR, 0, none⟩) (ns.length + 1) (ns.length + 1), .slice (some ⟨bF, 0, none⟩) (ns.length + 1) (ns.length + 1), .slice (some ⟨bL, 0, none⟩) (ns.length + 1) (ns.length + 1)]) hHeld rfl rfl (by kernel_rfl) (fun _ _ _ _ _ h => h) (by kernel_rfl) (by kernel_rfl) (by rfl) ?_ ?_
      · intro V hSw; (try dsimp only at hSw); go_simp
      simp only [Act.put, List.setIfInBounds_toArray, List.set_cons_zero, List.set_cons_succ]
      refine wpAnyH_one 7 17 (.int .i64 0) hHeld rfl rfl (by kernel_rfl) (fun _ _ _ _ _ h => h) (by kernel_rfl) (by kernel_rfl) (by rfl) ?_ ?_
      · intro V hSw; (try dsimp only at hSw); go_simp
      simp only [Act.put, List.setIfInBounds_toArray, List.set_cons_zero, List.set_cons_succ]
      obtain ⟨z0, z1, z2, z3⟩ := sv_cells hfl
      obtain ⟨y0, y1, y2, y3⟩ := sv_free hfl
      refine wpAnyH_ready (rs := [9]) (by kernel_rfl) (by simp) ?_
      refine AllReadyH.cons rfl (fun K hK => ?_) AllReadyH.nil
      go_simp
      have H8 := hid (held8 (a := .slice o ns.length cap) (b := .slice (some ⟨bR, 0, none⟩) (ns.length + 1) (ns.length + 1)) (c := .slice (some ⟨bF, 0, none⟩) (ns.length + 1) (ns.length + 1)) (d := .slice (some ⟨bL, 0, none⟩) (ns.length + 1) (ns.length + 1)) HB_V4.out (show W0.heap.size ≤ V0.heap.size by omega) hfl)
      have HN8 := hid (nums_set4 (a := .slice o ns.length cap) (b := .slice (some ⟨bR, 0, none⟩) (ns.length + 1) (ns.length + 1)) (c := .slice (some ⟨bF, 0, none⟩) (ns.length + 1) (ns.length + 1)) (d := .slice (some ⟨bL, 0, none⟩) (ns.length + 1) (ns.length + 1)) hN2 hfl)
      refine hK.out _ _ H8.out.below (fun hHeld => ?_)
      clear hK K
      refine wpAnyH_one 10 7 (.int .i64 0) hHeld rfl rfl (by kernel_rfl) (fun _ _ _ _ _ h => h) (by kernel_rfl) (by kernel_rfl) (by rfl) ?_ ?_
      · intro V hSw; (try dsimp only at hSw); go_simp
      simp only [Act.put, List.setIfInBounds_toArray, List.set_cons_zero, List.set_cons_succ]
      refine wpAnyH_done (by kernel_rfl) ?_ _
      go_wp2_with fail
      go_meet
      exact ⟨bR, bF, bL, _, rfl, rfl, H8.out, HN8.out⟩
    --end slow
  case rest =>
    obtain ⟨bR, bF, bL, B, rfl, rfl, h8, hN⟩ := hcut
    obtain ⟨_, _, _, _, hag, hbox⟩ := h8.box
    simp only [Value.agg.injEq, Array.mk.injEq, List.cons.injEq, and_true] at hag
    obtain ⟨rfl, rfl, rfl, rfl⟩ := hag
    have hs8 := h8.below.size
    have hlB := h8.lt
    have hltB := (Array.getElem?_eq_some_iff.1 hbox).1
    obtain ⟨R, F, L, hNl⟩ := hN.lists
    obtain ⟨t1, t2, t3, t4⟩ := HLst.out R F L hNl.num
    have H1 := hid (HNu.out 0 Hp.out bR bF bL R F L)
    have H2 := hid (HNu.out LN Hq.out bR bF bL R F L)
    have H3 := hid (HEn.out bR bF bL)
    rw [t1] at H1
    rw [t2] at H2
    have bc := bx.trans (h8.below.mono bx.size)
    have g0c := blkLater h8.below g0
    have HNl := hid hNl
    have HNum : Hid (∃ F : Int → Int, Num ns F) := ⟨_, hNl.num.numF⟩
    clear HNu HEn HLst t1 t2 h8 hN hNl n0 HLk
    generalize fOf F h = P at *
    go_upto_region 4 with fail
    generalize hwc : wc = W1 at *
    clear hwc
    obtain ⟨n0, n1, n2, n3⟩ := sv_cells hbox
    go_cut [8, 9] (fun t u wx => t = .int .i64 P ∧ u = .int .i64 (P + (SZ : Int) - 1) ∧ Below W1.heap.size W1 wx)
    case first =>
      --slow
      refine wp_region_held_drew (S := fun V => Below W1.heap.size W1 V) (by kernel_rfl) ((Below.refl _ _).drew) (fun hHeld => ?_)
      have HB_V0 := hid hHeld
      have HS_V0 := hid hHeld.size
      generalize W1.drew = V0 at *
      refine wpAnyH_one 0 21 (.agg #[.slice o ns.length cap, .slice (some ⟨bR, 0, none⟩) (ns.length + 1) (ns.length + 1), .slice (some ⟨bF, 0, none⟩) (ns.length + 1) (ns.length + 1), .slice (some ⟨bL, 0, none⟩) (ns.length + 1) (ns.length + 1)]) hHeld rfl rfl (by kernel_rfl) (fun _ _ _ _ _ h => h) (by kernel_rfl) (by kernel_rfl) (by rfl) ?_ ?_
      · intro V hSw; (try dsimp only at hSw); have k0 := cellLater (B := B) hSw (by omega) n0; have k1 := cellLater (B := B) hSw (by omega) n1; have k2 := cellLater (B := B) hSw (by omega) n2; have k3 := cellLater (B := B) hSw (by omega) n3; go_simp
      simp only [Act.put, List.setIfInBounds_toArray, List.set_cons_zero, List.set_cons_succ]
      refine wpAnyH_one 1 22 (.int .i64 h) hHeld rfl rfl (by kernel_rfl) (fun _ _ _ _ _ h => h) (by kernel_rfl) (by kernel_rfl) (by rfl) ?_ ?_
      · intro V hSw; (try dsimp only at hSw); go_simp
      simp only [Act.put, List.setIfInBounds_toArray, List.set_cons_zero, List.set_cons_succ]
      refine wpAnyH_one 4 25 (.agg #[.slice o ns.length cap, .slice (some ⟨bR, 0, none⟩) (ns.length + 1) (ns.length + 1), .slice (some ⟨bF, 0, none⟩) (ns.length + 1) (ns.length + 1), .slice (some ⟨bL, 0, none⟩) (ns.length + 1) (ns.length + 1)]) hHeld rfl rfl (by kernel_rfl) (fun _ _ _ _ _ h => h) (by kernel_rfl) (by kernel_rfl) (by rfl) ?_ ?_
      · intro V hSw; (try dsimp only at hSw); have k0 := cellLater (B := B) hSw (by omega) n0; have k1 := cellLater (B := B) hSw (by omega) n1; have k2 := cellLater (B := B) hSw (by omega) n2; have k3 := cellLater (B := B) hSw (by omega) n3; go_simp
      simp only [Act.put, List.setIfInBounds_toArray, List.set_cons_zero, List.set_cons_succ]
      refine wpAnyH_one 5 26 (.agg #[.slice o ns.length cap, .slice (some ⟨bR, 0, none⟩) (ns.length + 1) (ns.length + 1), .slice (some ⟨bF, 0, none⟩) (ns.length + 1) (ns.length + 1), .slice (some ⟨bL, 0, none⟩) (ns.length + 1) (ns.length + 1)]) hHeld rfl rfl (by kernel_rfl) (fun _ _ _ _ _ h => h) (by kernel_rfl) (by kernel_rfl) (by rfl) ?_ ?_
      · intro V hSw; (try dsimp only at hSw); have k0 := cellLater (B := B) hSw (by omega) n0; have k1 := cellLater (B := B) hSw (by omega) n1; have k2 := cellLater (B := B) hSw (by omega) n2; have k3 := cellLater (B := B) hSw (by omega) n3; go_simp
      simp only [Act.put, List.setIfInBounds_toArray, List.set_cons_zero, List.set_cons_succ]
      refine wpAnyH_one 6 27 (.int .i64 h) hHeld rfl rfl (by kernel_rfl) (fun _ _ _ _ _ h => h) (by kernel_rfl) (by kernel_rfl) (by rfl) ?_ ?_
      · intro V hSw; (try dsimp only at hSw); go_simp
      simp only [Act.put, List.setIfInBounds_toArray, List.set_cons_zero, List.set_cons_succ]
      refine wpAnyH_ready (rs := [2]) (by kernel_rfl) (by simp) ?_
      refine AllReadyH.cons rfl (fun K hK => ?_) AllReadyH.nil
      go_simp
      go_wp2_with (go_at_call 17; refine (HSt.out V0).mono ?_; rintro e V1 ⟨rfl, hb⟩; have HB_V1 := hid (HB_V0.out.trans (hb.mono HB_V0.out.size)); have HS_V1 := hid (HB_V1.out.size))
      refine hK.out _ _ HB_V1.out (fun hHeld => ?_)
      clear hK K
      refine wpAnyH_ready (rs := [3]) (by kernel_rfl) (by simp) ?_
      refine AllReadyH.cons rfl (fun K hK => ?_) AllReadyH.nil
      go_simp
      go_wp2_with (go_at_call 18; refine (H1.out V1 (bc.trans (HB_V1.out.mono bc.size)) (HNl.out.later HB_V1.out)).mono ?_; rintro e V2 ⟨rfl, hb⟩; have HB_V2 := hid (HB_V1.out.trans (hb.mono HB_V1.out.size)); have HS_V2 := hid (HB_V2.out.size))
      refine hK.out _ _ HB_V2.out (fun hHeld => ?_)
      clear hK K
      refine wpAnyH_ready (rs := [7]) (by kernel_rfl) (by simp) ?_
      refine AllReadyH.cons rfl (fun K hK => ?_) AllReadyH.nil
      go_simp
      go_wp2_with (go_at_call 19; refine (H3.out V2 (bc.trans (HB_V2.out.mono bc.size))).mono ?_; rintro e V3 ⟨rfl, hb⟩; have HB_V3 := hid (HB_V2.out.trans (hb.mono HB_V2.out.size)); have HS_V3 := hid (HB_V3.out.size))
      refine hK.out _ _ HB_V3.out (fun hHeld => ?_)
      clear hK K
      refine wpAnyH_ready (rs := [8]) (by kernel_rfl) (by simp) ?_
      refine AllReadyH.cons rfl (fun K hK => ?_) AllReadyH.nil
      go_simp
      go_wp2_with (go_at_call 18; refine (H2.out V3 (bc.trans (HB_V3.out.mono bc.size)) (HNl.out.later HB_V3.out)).mono ?_; rintro e V4 ⟨rfl, hb⟩; have HB_V4 := hid (HB_V3.out.trans (hb.mono HB_V3.out.size)); have HS_V4 := hid (HB_V4.out.size))
      refine hK.out _ _ HB_V4.out (fun hHeld => ?_)
      clear hK K
      refine wpAnyH_one 9 8 (.int .i64 P) hHeld rfl rfl (by kernel_rfl) (fun _ _ _ _ _ h => h) (by kernel_rfl) (by kernel_rfl) (by rfl) ?_ ?_
      · intro V hSw; (try dsimp only at hSw); go_simp
      simp only [Act.put, List.setIfInBounds_toArray, List.set_cons_zero, List.set_cons_succ]
      refine wpAnyH_one 10 9 (.int .i64 (P + (SZ : Int) - 1)) hHeld rfl rfl (by kernel_rfl) (fun _ _ _ _ _ h => h) (by kernel_rfl) (by kernel_rfl) (by rfl) ?_ ?_
      · intro V hSw; (try dsimp only at hSw); go_simp
      simp only [Act.put, List.setIfInBounds_toArray, List.set_cons_zero, List.set_cons_succ]
      refine wpAnyH_done (by kernel_rfl) ?_ _
      go_wp2_with fail
      go_meet
      exact ⟨rfl, rfl, HB_V4.out⟩
      --end slow
    case rest =>
      obtain ⟨rfl, rfl, hb4⟩ := hcut
      have bc2 := bc.trans (hb4.mono bc.size)
      have g0d := blkLater hb4 g0c
      have c0 := (box_cell_l g0d).1
      have hs2 : W1.heap.size ≤ wc.heap.size := hb4.size
      clear hb4 hbox n0 n1 n2 n3 g0c
      go_upto_region 5 with fail
      generalize hwc : wc = W2 at *
      clear hwc
      have f4 : IntKind.i64.wrap (P + (SZ : Int) - 1 - P) = (SZ : Int) - 1 := by rw [wrap_smallB (by omega) (by omega)]; omega
      have f5 : IntKind.i64.wrap (SZ : Int) = (SZ : Int) := by rw [wrap_smallB (by omega) (by omega)]
      refine wp_region_held_drew (S := fun V => Below W2.heap.size W2 V) (by kernel_rfl) ((Below.refl _ _).drew) (fun hHeld => ?_)
      have HB_V0 := hid hHeld
      have HS_V0 := hid hHeld.size
      generalize W2.drew = V0 at *
      refine wpAnyH_one 0 30 (.agg #[.slice o ns.length cap]) hHeld rfl rfl (by kernel_rfl) (fun _ _ _ _ _ h => h) (by kernel_rfl) (by kernel_rfl) (by rfl) ?_ ?_
      · intro V hSw; (try dsimp only at hSw); have k0 := cellLater (B := w.heap.size) hSw (by omega) c0; go_simp
      simp only [Act.put, List.setIfInBounds_toArray, List.set_cons_zero, List.set_cons_succ]
      refine wpAnyH_one 1 31 (.int .i64 h) hHeld rfl rfl (by kernel_rfl) (fun _ _ _ _ _ h => h) (by kernel_rfl) (by kernel_rfl) (by rfl) ?_ ?_
      · intro V hSw; (try dsimp only at hSw); go_simp
      simp only [Act.put, List.setIfInBounds_toArray, List.set_cons_zero, List.set_cons_succ]
      refine wpAnyH_one 2 32 (.int .i64 (P + (SZ : Int) - 1)) hHeld rfl rfl (by kernel_rfl) (fun _ _ _ _ _ h => h) (by kernel_rfl) (by kernel_rfl) (by rfl) ?_ ?_
      · intro V hSw; (try dsimp only at hSw); go_simp
      simp only [Act.put, List.setIfInBounds_toArray, List.set_cons_zero, List.set_cons_succ]
      refine wpAnyH_one 3 33 (.int .i64 P) hHeld rfl rfl (by kernel_rfl) (fun _ _ _ _ _ h => h) (by kernel_rfl) (by kernel_rfl) (by rfl) ?_ ?_
      · intro V hSw; (try dsimp only at hSw); go_simp
      simp only [Act.put, List.setIfInBounds_toArray, List.set_cons_zero, List.set_cons_succ]
      refine wpAnyH_one 4 34 (.int .i64 ((SZ : Int) - 1)) hHeld rfl rfl (by kernel_rfl) (fun _ _ _ _ _ h => h) (by kernel_rfl) (by kernel_rfl) (by rfl) ?_ ?_
      · intro V hSw; (try dsimp only at hSw); go_simp
      simp only [Act.put, List.setIfInBounds_toArray, List.set_cons_zero, List.set_cons_succ]
      refine wpAnyH_one 5 35 (.int .i64 (SZ : Int)) hHeld rfl rfl (by kernel_rfl) (fun _ _ _ _ _ h => h) (by kernel_rfl) (by kernel_rfl) (by rfl) ?_ ?_
      · intro V hSw; (try dsimp only at hSw); go_simp
      simp only [Act.put, List.setIfInBounds_toArray, List.set_cons_zero, List.set_cons_succ]
      obtain ⟨C, hC, hmk⟩ := make_pts SZ (by omega) V0
      have hown : (V0.alloc (.cells C 26)).ownsRow V0.heap.size 26 2 (.slice (some ⟨V0.heap.size, 0, none⟩) 0 SZ) ([] : List (Int × Int)).length (rowP []) := ⟨rfl, .inr ⟨V0.heap.size, SZ, C, rfl, Nat.le_refl _, heap_new V0 _, Nat.zero_le _, Nat.le_trans (show SZ ≤ 67117056 by omega) (by decide), hC, rfl⟩⟩
      have hbm : Below V0.heap.size V0 (V0.alloc (.cells C 26)) := (Below.refl _ V0).alloc (Nat.le_refl _) _
      have hs0 := HB_V0.out.size
      refine wpAnyH_ready (rs := [6]) (by kernel_rfl) (by simp) ?_
      refine AllReadyH.cons rfl (fun K hK => ?_) AllReadyH.nil
      go_simp
      have HB_V1 := hid (HB_V0.out.trans (hbm.mono HB_V0.out.size))
      have hbm2 := hid hbm
      generalize V0.alloc (.cells C 26) = V1 at *
      refine hK.out _ _ HB_V1.out (fun hHeld => ?_)
      clear hK K hmk
      have hCall := HPo.out V0.heap.size _ V1 (Nat.le_trans bc2.size hs0) (bc2.trans (HB_V1.out.mono bc2.size)) hbm2.out.size hown
      rw [List.nil_append] at hCall
      refine wpAnyH_ready (rs := [7]) (by kernel_rfl) (by simp) ?_
      refine AllReadyH.cons rfl (fun K hK => ?_) AllReadyH.nil
      go_simp
      go_wp2_with (go_at_call 20; refine hCall.mono ?_; rintro e V2 ⟨vx, rfl, hox, hbx, hkx⟩; have HOx := hid hox; have HB_V2 := hid (HB_V1.out.trans (hbx.mono hs0)))
      refine hK.out _ _ HB_V2.out (fun hHeld => ?_)
      clear hK K
      obtain ⟨ox, cx, rfl⟩ := own_shapeB HOx.out
      refine wpAnyH_one 8 4 (.slice ox (ptsD ns h).length cx) hHeld rfl rfl (by kernel_rfl) (fun _ _ _ _ _ h => h) (by kernel_rfl) (by kernel_rfl) (by rfl) ?_ ?_
      · intro V hSw; (try dsimp only at hSw); go_simp
      simp only [Act.put, List.setIfInBounds_toArray, List.set_cons_zero, List.set_cons_succ]
      refine wpAnyH_one 9 5 (.int .i64 0) hHeld rfl rfl (by kernel_rfl) (fun _ _ _ _ _ h => h) (by kernel_rfl) (by kernel_rfl) (by rfl) ?_ ?_
      · intro V hSw; (try dsimp only at hSw); go_simp
      simp only [Act.put, List.setIfInBounds_toArray, List.set_cons_zero, List.set_cons_succ]
      refine wpAnyH_done (by kernel_rfl) ?_ _
      go_wp2_with fail
      go_ret2
      exact ⟨_, rfl, ownsRow_base HOx.out (Nat.le_trans bc2.size hs0), bc2.trans (HB_V2.out.mono bc2.size), HNum.out⟩
end Go.Proofs.Ythkjkcojbepfmaa

namespace Go.Proofs.Ythkjkcojbepfmaa
open Go.RowKit Go.Lib

set_option maxRecDepth 100000 in
set_option maxHeartbeats 8000000 in
theorem bContains_err (o : Option Addr) (cap : Nat) (x c y d h : Int) (ns : List NodeD) (w : World) (hF : FRd w o cap ns) (hkl : ∀ (i : Nat) (hi : i < ns.length), ns[i].kids.length ≤ 1099511627776) (hal : ∀ (i : Nat) (hi : i < ns.length), ns[i].attrs.length ≤ 1099511627776) (hE : setE ns (x, c) (y, d) [(h, 0)] ≠ 0) :
    Calls Try.prog 8 #[.agg #[.slice o ns.length cap], rngV x c y d, .int .i64 h] w fun e w' => e = .returned (.tuple #[.bool false, .bool false, .int .i64 (setE ns (x, c) (y, d) [(h, 0)])]) ∧ Below w.heap.size w w' := by
  have HSt : Hid (∀ V : World, Calls Try.prog 17 #[.int .i64 h] V fun e w' => e = .returned (.agg #[.int .i64 h, .int .i64 0]) ∧ Below V.heap.size V w') := fun V => bStart_any h V
  obtain ⟨bx, g0, g1, sx⟩ := two_newB w (.cells #[.slice o ns.length cap] 24) (.cells #[.int .i64 x, .int .i64 c, .int .i64 y, .int .i64 d] 36)
  have HLk : Hid (∀ (vc : Value) (V : World), Below w.heap.size w V → RdB V vc [(h, 0)] → _) := fun vc V hV hr => bSettled_no o cap vc x c y d _ ns V (hF.later hV) hkl hal hr (by simp) hE
  have d0 : (setE ns (x, c) (y, d) [(h, 0)] != 0) = true := by rw [bne, beq_eq_false_iff_ne.2 hE]; rfl
  generalize setE ns (x, c) (y, d) [(h, 0)] = Z at *
  clear hF hkl hal hE
  unfold zeroV rngV at *
  go_enter Try.func8, Try.ntmps8
  go_upto_region 1 with fail
  generalize ((w.alloc (.cells #[.slice o ns.length cap] 24)).alloc (.cells #[.int .i64 x, .int .i64 c, .int .i64 y, .int .i64 d] 36)) = W0 at *
  have n0 := (box_cell_l g0).1
  obtain ⟨a0, a1, a2, a3⟩ := rng_cells g1
  go_cut [9, 10] (fun t u wx => ∃ B, t = .pointer (some ⟨B, 0, none⟩) ∧ u = .int .i64 Z ∧ Held8 W0 (.agg #[.slice none 0 0, .slice none 0 0, .slice none 0 0, .slice none 0 0]) B wx)
  case first =>
    --slow
    refine wp_region_held_drew (S := fun V => Below W0.heap.size W0 V) (by kernel_rfl) ((Below.refl _ _).drew) (fun hHeld => ?_)
    have HB_V0 := hid hHeld
    have hz0 := hHeld.size
    generalize W0.drew = V0 at *
    refine wpAnyH_one 0 12 (.agg #[.slice o ns.length cap]) hHeld rfl rfl (by kernel_rfl) (fun _ _ _ _ _ h => h) (by kernel_rfl) (by kernel_rfl) (by rfl) ?_ ?_
    · intro V hSw; (try dsimp only at hSw); have k0 := cellLater (B := w.heap.size) hSw (by omega) n0; go_simp
    simp only [Act.put, List.setIfInBounds_toArray, List.set_cons_zero, List.set_cons_succ]
    refine wpAnyH_one 1 13 (.agg #[.int .i64 x, .int .i64 c, .int .i64 y, .int .i64 d]) hHeld rfl rfl (by kernel_rfl) (fun _ _ _ _ _ h => h) (by kernel_rfl) (by kernel_rfl) (by rfl) ?_ ?_
    · intro V hSw; (try dsimp only at hSw); have k0 := cellLater (B := w.heap.size + 1) hSw (by omega) a0; have k1 := cellLater (B := w.heap.size + 1) hSw (by omega) a1; have k2 := cellLater (B := w.heap.size + 1) hSw (by omega) a2; have k3 := cellLater (B := w.heap.size + 1) hSw (by omega) a3; go_simp
    simp only [Act.put, List.setIfInBounds_toArray, List.set_cons_zero, List.set_cons_succ]
    refine wpAnyH_one 2 14 (.int .i64 h) hHeld rfl rfl (by kernel_rfl) (fun _ _ _ _ _ h => h) (by kernel_rfl) (by kernel_rfl) (by rfl) ?_ ?_
    · intro V hSw; (try dsimp only at hSw); go_simp
    simp only [Act.put, List.setIfInBounds_toArray, List.set_cons_zero, List.set_cons_succ]
    refine wpAnyH_ready (rs := [3, 9]) (by kernel_rfl) (by simp) ?_
    refine AllReadyH.cons rfl (fun K hK => ?_) (AllReadyH.cons rfl (fun K hK => ?_) (AllReadyH.nil))
    · go_simp
      go_wp2_with (go_at_call 17; refine (HSt.out V0).mono ?_; rintro e V1 ⟨rfl, hb⟩)
      have HB_V1 := hid (HB_V0.out.trans (hb.mono HB_V0.out.size))
      have hz1 := HB_V1.out.size
      have hy1 := hb.size
      refine hK.out _ _ HB_V1.out (fun hHeld => ?_)
      clear hK K hb
      refine wpAnyH_ready (rs := [4, 9]) (by kernel_rfl) (by simp) ?_
      refine AllReadyH.cons rfl (fun K hK => ?_) (AllReadyH.cons rfl (fun K hK => ?_) (AllReadyH.nil))
      · go_simp
        have hnw := heap_new V1 (.cells #[.int .i64 h, .int .i64 0] 26)
        have hb : Below V1.heap.size V1 (V1.alloc (.cells #[.int .i64 h, .int .i64 0] 26)) := (Below.refl _ V1).alloc (Nat.le_refl _) _
        have hx2 := (Array.getElem?_eq_some_iff.1 hnw).1
        generalize V1.alloc (.cells #[.int .i64 h, .int .i64 0] 26) = V2 at *
        have HB_V2 := hid (HB_V1.out.trans (hb.mono HB_V1.out.size))
        have hz2 := HB_V2.out.size
        have hy2 := hb.size
        have r1 := one_rdH hnw
        refine hK.out _ _ HB_V2.out (fun hHeld => ?_)
        clear hK K hb
        refine wpAnyH_ready (rs := [5, 9]) (by kernel_rfl) (by simp) ?_
        refine AllReadyH.cons rfl (fun K hK => ?_) (AllReadyH.cons rfl (fun K hK => ?_) (AllReadyH.nil))
        · go_simp
          go_wp2_with (go_at_call 21; refine (HLk.out _ V2 (bx.trans (HB_V2.out.mono bx.size)) r1).mono ?_; rintro e V3 ⟨rfl, hb⟩)
          have HB_V3 := hid (HB_V2.out.trans (hb.mono HB_V2.out.size))
          have hz3 := HB_V3.out.size
          have hy3 := hb.size
          have r1 := r1.later hb
          refine hK.out _ _ HB_V3.out (fun hHeld => ?_)
          clear hK K hb
          refine wpAnyH_one 6 11 (.tuple #[.agg #[.slice none 0 0, .slice none 0 0, .slice none 0 0, .slice none 0 0], .int .i64 Z]) hHeld rfl rfl (by kernel_rfl) (fun _ _ _ _ _ h => h) (by kernel_rfl) (by kernel_rfl) (by rfl) ?_ ?_
          · intro V hSw; (try dsimp only at hSw); go_simp
          simp only [Act.put, List.setIfInBounds_toArray, List.set_cons_zero, List.set_cons_succ]
          refine wpAnyH_one 7 18 (.agg #[.slice none 0 0, .slice none 0 0, .slice none 0 0, .slice none 0 0]) hHeld rfl rfl (by kernel_rfl) (fun _ _ _ _ _ h => h) (by kernel_rfl) (by kernel_rfl) (by rfl) ?_ ?_
          · intro V hSw; (try dsimp only at hSw); go_simp
          simp only [Act.put, List.setIfInBounds_toArray, List.set_cons_zero, List.set_cons_succ]
          refine wpAnyH_one 8 19 (.int .i64 Z) hHeld rfl rfl (by kernel_rfl) (fun _ _ _ _ _ h => h) (by kernel_rfl) (by kernel_rfl) (by rfl) ?_ ?_
          · intro V hSw; (try dsimp only at hSw); go_simp
          simp only [Act.put, List.setIfInBounds_toArray, List.set_cons_zero, List.set_cons_succ]
          refine wpAnyH_ready (rs := [9]) (by kernel_rfl) (by simp) ?_
          refine AllReadyH.cons rfl (fun K hK => ?_) (AllReadyH.nil)
          go_simp
          have hfl := heap_new V3 (.cells #[.slice none 0 0, .slice none 0 0, .slice none 0 0, .slice none 0 0] 52)
          have hb : Below V3.heap.size V3 (V3.alloc (.cells #[.slice none 0 0, .slice none 0 0, .slice none 0 0, .slice none 0 0] 52)) := (Below.refl _ V3).alloc (Nat.le_refl _) _
          have hx4 := (Array.getElem?_eq_some_iff.1 hfl).1
          generalize V3.alloc (.cells #[.slice none 0 0, .slice none 0 0, .slice none 0 0, .slice none 0 0] 52) = V4 at *
          have HB_V4 := hid (HB_V3.out.trans (hb.mono HB_V3.out.size))
          have hz4 := HB_V4.out.size
          have hy4 := hb.size
          have r1 := r1.later hb
          refine hK.out _ _ HB_V4.out (fun hHeld => ?_)
          clear hK K hb
          obtain ⟨z0, z1, z2, z3⟩ := sv_cells hfl
          obtain ⟨y0, y1, y2, y3⟩ := sv_free hfl
          refine wpAnyH_ready (rs := [10]) (by kernel_rfl) (by simp) ?_
          refine AllReadyH.cons rfl (fun K hK => ?_) AllReadyH.nil
          go_simp
          have H8 := hid (held8 (a := .slice none 0 0) (b := .slice none 0 0) (c := .slice none 0 0) (d := .slice none 0 0) HB_V4.out (show W0.heap.size ≤ V3.heap.size by omega) hfl)
          refine hK.out _ _ H8.out.below (fun hHeld => ?_)
          clear hK K
          refine wpAnyH_one 11 10 (.int .i64 Z) hHeld rfl rfl (by kernel_rfl) (fun _ _ _ _ _ h => h) (by kernel_rfl) (by kernel_rfl) (by rfl) ?_ ?_
          · intro V hSw; (try dsimp only at hSw); go_simp
          simp only [Act.put, List.setIfInBounds_toArray, List.set_cons_zero, List.set_cons_succ]
          refine wpAnyH_done (by kernel_rfl) ?_ _
          go_wp2_with fail
          go_meet
          exact ⟨_, rfl, rfl, H8.out⟩
        · go_simp
          have hfl := heap_new V2 (.cells #[.slice none 0 0, .slice none 0 0, .slice none 0 0, .slice none 0 0] 52)
          have hb : Below V2.heap.size V2 (V2.alloc (.cells #[.slice none 0 0, .slice none 0 0, .slice none 0 0, .slice none 0 0] 52)) := (Below.refl _ V2).alloc (Nat.le_refl _) _
          have hx3 := (Array.getElem?_eq_some_iff.1 hfl).1
          generalize V2.alloc (.cells #[.slice none 0 0, .slice none 0 0, .slice none 0 0, .slice none 0 0] 52) = V3 at *
          have HB_V3 := hid (HB_V2.out.trans (hb.mono HB_V2.out.size))
          have hz3 := HB_V3.out.size
          have hy3 := hb.size
          have r1 := r1.later hb
          refine hK.out _ _ HB_V3.out (fun hHeld => ?_)
          clear hK K hb
          refine wpAnyH_ready (rs := [5]) (by kernel_rfl) (by simp) ?_
          refine AllReadyH.cons rfl (fun K hK => ?_) (AllReadyH.nil)
          go_simp
          go_wp2_with (go_at_call 21; refine (HLk.out _ V3 (bx.trans (HB_V3.out.mono bx.size)) r1).mono ?_; rintro e V4 ⟨rfl, hb⟩)
          have HB_V4 := hid (HB_V3.out.trans (hb.mono HB_V3.out.size))
          have hz4 := HB_V4.out.size
          have hy4 := hb.size
          have r1 := r1.later hb
          have hfl := blkLater hb hfl
          refine hK.out _ _ HB_V4.out (fun hHeld => ?_)
          clear hK K hb
          refine wpAnyH_one 6 11 (.tuple #[.agg #[.slice none 0 0, .slice none 0 0, .slice none 0 0, .slice none 0 0], .int .i64 Z]) hHeld rfl rfl (by kernel_rfl) (fun _ _ _ _ _ h => h) (by kernel_rfl) (by kernel_rfl) (by rfl) ?_ ?_
          · intro V hSw; (try dsimp only at hSw); go_simp
          simp only [Act.put, List.setIfInBounds_toArray, List.set_cons_zero, List.set_cons_succ]
          refine wpAnyH_one 7 18 (.agg #[.slice none 0 0, .slice none 0 0, .slice none 0 0, .slice none 0 0]) hHeld rfl rfl (by kernel_rfl) (fun _ _ _ _ _ h => h) (by kernel_rfl) (by kernel_rfl) (by rfl) ?_ ?_
          · intro V hSw; (try dsimp only at hSw); go_simp
          simp only [Act.put, List.setIfInBounds_toArray, List.set_cons_zero, List.set_cons_succ]
          refine wpAnyH_one 8 19 (.int .i64 Z) hHeld rfl rfl (by kernel_rfl) (fun _ _ _ _ _ h => h) (by kernel_rfl) (by kernel_rfl) (by rfl) ?_ ?_
          · intro V hSw; (try dsimp only at hSw); go_simp
          simp only [Act.put, List.setIfInBounds_toArray, List.set_cons_zero, List.set_cons_succ]
          obtain ⟨z0, z1, z2, z3⟩ := sv_cells hfl
          obtain ⟨y0, y1, y2, y3⟩ := sv_free hfl
          refine wpAnyH_ready (rs := [10]) (by kernel_rfl) (by simp) ?_
          refine AllReadyH.cons rfl (fun K hK => ?_) AllReadyH.nil
          go_simp
          have H8 := hid (held8 (a := .slice none 0 0) (b := .slice none 0 0) (c := .slice none 0 0) (d := .slice none 0 0) HB_V4.out (show W0.heap.size ≤ V2.heap.size by omega) hfl)
          refine hK.out _ _ H8.out.below (fun hHeld => ?_)
          clear hK K
          refine wpAnyH_one 11 10 (.int .i64 Z) hHeld rfl rfl (by kernel_rfl) (fun _ _ _ _ _ h => h) (by kernel_rfl) (by kernel_rfl) (by rfl) ?_ ?_
          · intro V hSw; (try dsimp only at hSw); go_simp
          simp only [Act.put, List.setIfInBounds_toArray, List.set_cons_zero, List.set_cons_succ]
          refine wpAnyH_done (by kernel_rfl) ?_ _
          go_wp2_with fail
          go_meet
          exact ⟨_, rfl, rfl, H8.out⟩
      · go_simp
        have hfl := heap_new V1 (.cells #[.slice none 0 0, .slice none 0 0, .slice none 0 0, .slice none 0 0] 52)
        have hb : Below V1.heap.size V1 (V1.alloc (.cells #[.slice none 0 0, .slice none 0 0, .slice none 0 0, .slice none 0 0] 52)) := (Below.refl _ V1).alloc (Nat.le_refl _) _
        have hx2 := (Array.getElem?_eq_some_iff.1 hfl).1
        generalize V1.alloc (.cells #[.slice none 0 0, .slice none 0 0, .slice none 0 0, .slice none 0 0] 52) = V2 at *
        have HB_V2 := hid (HB_V1.out.trans (hb.mono HB_V1.out.size))
        have hz2 := HB_V2.out.size
        have hy2 := hb.size
        refine hK.out _ _ HB_V2.out (fun hHeld => ?_)
        clear hK K hb
        refine wpAnyH_ready (rs := [4]) (by kernel_rfl) (by simp) ?_
        refine AllReadyH.cons rfl (fun K hK => ?_) (AllReadyH.nil)
        go_simp
        have hnw := heap_new V2 (.cells #[.int .i64 h, .int .i64 0] 26)
        have hb : Below V2.heap.size V2 (V2.alloc (.cells #[.int .i64 h, .int .i64 0] 26)) := (Below.refl _ V2).alloc (Nat.le_refl _) _
        have hx3 := (Array.getElem?_eq_some_iff.1 hnw).1
        generalize V2.alloc (.cells #[.int .i64 h, .int .i64 0] 26) = V3 at *
        have HB_V3 := hid (HB_V2.out.trans (hb.mono HB_V2.out.size))
        have hz3 := HB_V3.out.size
        have hy3 := hb.size
        have hfl := blkLater hb hfl
        have r1 := one_rdH hnw
        refine hK.out _ _ HB_V3.out (fun hHeld => ?_)
        clear hK K hb
        refine wpAnyH_ready (rs := [5]) (by kernel_rfl) (by simp) ?_
        refine AllReadyH.cons rfl (fun K hK => ?_) (AllReadyH.nil)
        go_simp
        go_wp2_with (go_at_call 21; refine (HLk.out _ V3 (bx.trans (HB_V3.out.mono bx.size)) r1).mono ?_; rintro e V4 ⟨rfl, hb⟩)
        have HB_V4 := hid (HB_V3.out.trans (hb.mono HB_V3.out.size))
        have hz4 := HB_V4.out.size
        have hy4 := hb.size
        have hfl := blkLater hb hfl
        have r1 := r1.later hb
        refine hK.out _ _ HB_V4.out (fun hHeld => ?_)
        clear hK K hb
        refine wpAnyH_one 6 11 (.tuple #[.agg #[.slice none 0 0, .slice none 0 0, .slice none 0 0, .slice none 0 0], .int .i64 Z]) hHeld rfl rfl (by kernel_rfl) (fun _ _ _ _ _ h => h) (by kernel_rfl) (by kernel_rfl) (by rfl) ?_ ?_
        · intro V hSw; (try dsimp only at hSw); go_simp
        simp only [Act.put, List.setIfInBounds_toArray, List.set_cons_zero, List.set_cons_succ]
        refine wpAnyH_one 7 18 (.agg #[.slice none 0 0, .slice none 0 0, .slice none 0 0, .slice none 0 0]) hHeld rfl rfl (by kernel_rfl) (fun _ _ _ _ _ h => h) (by kernel_rfl) (by kernel_rfl) (by rfl) ?_ ?_
        · intro V hSw; (try dsimp only at hSw); go_simp
        simp only [Act.put, List.setIfInBounds_toArray, List.set_cons_zero, List.set_cons_succ]
        refine wpAnyH_one 8 19 (.int .i64 Z) hHeld rfl rfl (by kernel_rfl) (fun _ _ _ _ _ h => h) (by kernel_rfl) (by kernel_rfl) (by rfl) ?_ ?_
        · intro V hSw; (try dsimp only at hSw); go_simp
        simp only [Act.put, List.setIfInBounds_toArray, List.set_cons_zero, List.set_cons_succ]
        obtain ⟨z0, z1, z2, z3⟩ := sv_cells hfl
        obtain ⟨y0, y1, y2, y3⟩ := sv_free hfl
        refine wpAnyH_ready (rs := [10]) (by kernel_rfl) (by simp) ?_
        refine AllReadyH.cons rfl (fun K hK => ?_) AllReadyH.nil
        go_simp
        have H8 := hid (held8 (a := .slice none 0 0) (b := .slice none 0 0) (c := .slice none 0 0) (d := .slice none 0 0) HB_V4.out (show W0.heap.size ≤ V1.heap.size by omega) hfl)
        refine hK.out _ _ H8.out.below (fun hHeld => ?_)
        clear hK K
        refine wpAnyH_one 11 10 (.int .i64 Z) hHeld rfl rfl (by kernel_rfl) (fun _ _ _ _ _ h => h) (by kernel_rfl) (by kernel_rfl) (by rfl) ?_ ?_
        · intro V hSw; (try dsimp only at hSw); go_simp
        simp only [Act.put, List.setIfInBounds_toArray, List.set_cons_zero, List.set_cons_succ]
        refine wpAnyH_done (by kernel_rfl) ?_ _
        go_wp2_with fail
        go_meet
        exact ⟨_, rfl, rfl, H8.out⟩
    · go_simp
      have hfl := heap_new V0 (.cells #[.slice none 0 0, .slice none 0 0, .slice none 0 0, .slice none 0 0] 52)
      have hb : Below V0.heap.size V0 (V0.alloc (.cells #[.slice none 0 0, .slice none 0 0, .slice none 0 0, .slice none 0 0] 52)) := (Below.refl _ V0).alloc (Nat.le_refl _) _
      have hx1 := (Array.getElem?_eq_some_iff.1 hfl).1
      generalize V0.alloc (.cells #[.slice none 0 0, .slice none 0 0, .slice none 0 0, .slice none 0 0] 52) = V1 at *
      have HB_V1 := hid (HB_V0.out.trans (hb.mono HB_V0.out.size))
      have hz1 := HB_V1.out.size
      have hy1 := hb.size
      refine hK.out _ _ HB_V1.out (fun hHeld => ?_)
      clear hK K hb
      refine wpAnyH_ready (rs := [3]) (by kernel_rfl) (by simp) ?_
      refine AllReadyH.cons rfl (fun K hK => ?_) (AllReadyH.nil)
      go_simp
      go_wp2_with (go_at_call 17; refine (HSt.out V1).mono ?_; rintro e V2 ⟨rfl, hb⟩)
      have HB_V2 := hid (HB_V1.out.trans (hb.mono HB_V1.out.size))
      have hz2 := HB_V2.out.size
      have hy2 := hb.size
      have hfl := blkLater hb hfl
      refine hK.out _ _ HB_V2.out (fun hHeld => ?_)
      clear hK K hb
      refine wpAnyH_ready (rs := [4]) (by kernel_rfl) (by simp) ?_
      refine AllReadyH.cons rfl (fun K hK => ?_) (AllReadyH.nil)
      go_simp
      have hnw := heap_new V2 (.cells #[.int .i64 h, .int .i64 0] 26)
      have hb : Below V2.heap.size V2 (V2.alloc (.cells #[.int .i64 h, .int .i64 0] 26)) := (Below.refl _ V2).alloc (Nat.le_refl _) _
      have hx3 := (Array.getElem?_eq_some_iff.1 hnw).1
      generalize V2.alloc (.cells #[.int .i64 h, .int .i64 0] 26) = V3 at *
      have HB_V3 := hid (HB_V2.out.trans (hb.mono HB_V2.out.size))
      have hz3 := HB_V3.out.size
      have hy3 := hb.size
      have hfl := blkLater hb hfl
      have r1 := one_rdH hnw
      refine hK.out _ _ HB_V3.out (fun hHeld => ?_)
      clear hK K hb
      refine wpAnyH_ready (rs := [5]) (by kernel_rfl) (by simp) ?_
      refine AllReadyH.cons rfl (fun K hK => ?_) (AllReadyH.nil)
      go_simp
      go_wp2_with (go_at_call 21; refine (HLk.out _ V3 (bx.trans (HB_V3.out.mono bx.size)) r1).mono ?_; rintro e V4 ⟨rfl, hb⟩)
      have HB_V4 := hid (HB_V3.out.trans (hb.mono HB_V3.out.size))
      have hz4 := HB_V4.out.size
      have hy4 := hb.size
      have hfl := blkLater hb hfl
      have r1 := r1.later hb
      refine hK.out _ _ HB_V4.out (fun hHeld => ?_)
      clear hK K hb
      refine wpAnyH_one 6 11 (.tuple #[.agg #[.slice none 0 0, .slice none 0 0, .slice none 0 0, .slice none 0 0], .int .i64 Z]) hHeld rfl rfl (by kernel_rfl) (fun _ _ _ _ _ h => h) (by kernel_rfl) (by kernel_rfl) (by rfl) ?_ ?_
      · intro V hSw; (try dsimp only at hSw); go_simp
      simp only [Act.put, List.setIfInBounds_toArray, List.set_cons_zero, List.set_cons_succ]
      refine wpAnyH_one 7 18 (.agg #[.slice none 0 0, .slice none 0 0, .slice none 0 0, .slice none 0 0]) hHeld rfl rfl (by kernel_rfl) (fun _ _ _ _ _ h => h) (by kernel_rfl) (by kernel_rfl) (by rfl) ?_ ?_
      · intro V hSw; (try dsimp only at hSw); go_simp
      simp only [Act.put, List.setIfInBounds_toArray, List.set_cons_zero, List.set_cons_succ]
      refine wpAnyH_one 8 19 (.int .i64 Z) hHeld rfl rfl (by kernel_rfl) (fun _ _ _ _ _ h => h) (by kernel_rfl) (by kernel_rfl) (by rfl) ?_ ?_
      · intro V hSw; (try dsimp only at hSw); go_simp
      simp only [Act.put, List.setIfInBounds_toArray, List.set_cons_zero, List.set_cons_succ]
      obtain ⟨z0, z1, z2, z3⟩ := sv_cells hfl
      obtain ⟨y0, y1, y2, y3⟩ := sv_free hfl
      refine wpAnyH_ready (rs := [10]) (by kernel_rfl) (by simp) ?_
      refine AllReadyH.cons rfl (fun K hK => ?_) AllReadyH.nil
      go_simp
      have H8 := hid (held8 (a := .slice none 0 0) (b := .slice none 0 0) (c := .slice none 0 0) (d := .slice none 0 0) HB_V4.out (show W0.heap.size ≤ V0.heap.size by omega) hfl)
      refine hK.out _ _ H8.out.below (fun hHeld => ?_)
      clear hK K
      refine wpAnyH_one 11 10 (.int .i64 Z) hHeld rfl rfl (by kernel_rfl) (fun _ _ _ _ _ h => h) (by kernel_rfl) (by kernel_rfl) (by rfl) ?_ ?_
      · intro V hSw; (try dsimp only at hSw); go_simp
      simp only [Act.put, List.setIfInBounds_toArray, List.set_cons_zero, List.set_cons_succ]
      refine wpAnyH_done (by kernel_rfl) ?_ _
      go_wp2_with fail
      go_meet
      exact ⟨_, rfl, rfl, H8.out⟩
    --end slow
  case rest =>
    obtain ⟨B, rfl, rfl, h8⟩ := hcut
    have HB := hid (bx.trans (h8.below.mono bx.size))
    clear h8
    go_wp2
    exact bodyPost_ret (v := .tuple #[.bool false, .bool false, .int .i64 Z]) (by simp [results, Try.results8, go_sem]) rfl ⟨rfl, HB.out⟩

set_option maxRecDepth 100000 in
set_option maxHeartbeats 8000000 in
theorem bContains_ok (o : Option Addr) (cap : Nat) (x c y d h : Int) (ns : List NodeD) (w : World) (hF : FRd w o cap ns) (hkl : ∀ (i : Nat) (hi : i < ns.length), ns[i].kids.length ≤ 1099511627776) (hal : ∀ (i : Nat) (hi : i < ns.length), ns[i].attrs.length ≤ 1099511627776) (hE : setE ns (x, c) (y, d) [(h, 0)] = 0) :
    Calls Try.prog 8 #[.agg #[.slice o ns.length cap], rngV x c y d, .int .i64 h] w fun e w' => e = .returned (.tuple #[.bool (contD ns (x, c) (y, d) h), .bool (partD ns (x, c) (y, d) h), .int .i64 0]) ∧ Below w.heap.size w w' := by
  have HSt : Hid (∀ V : World, Calls Try.prog 17 #[.int .i64 h] V fun e w' => e = .returned (.agg #[.int .i64 h, .int .i64 0]) ∧ Below V.heap.size V w') := fun V => bStart_any h V
  obtain ⟨bx, g0, g1, sx⟩ := two_newB w (.cells #[.slice o ns.length cap] 24) (.cells #[.int .i64 x, .int .i64 c, .int .i64 y, .int .i64 d] 36)
  obtain ⟨hR, hvd, hp, hq, hm⟩ := setE_zero hE
  have hh : isPt ns (h, 0) := hm _ (by simp)
  have hroot := (valid_root hvd).1
  have HLk : Hid (∀ (vc : Value) (V : World), Below w.heap.size w V → RdB V vc [(h, 0)] → _) := fun vc V hV hr => bSettled_ok o cap vc x c y d _ ns V (hF.later hV) hkl hal hr (by simp) hE
  obtain ⟨i, hi, rfl⟩ := there_idx hp.1
  obtain ⟨j, hj, rfl⟩ := there_idx hq.1
  obtain ⟨k, hk, rfl⟩ := there_idx hh.1
  obtain ⟨b, off, hoe, hFF⟩ := hF.at_ (by omega)
  have HCo : Hid (∀ (bR bF bL : Nat) (V : World), Below w.heap.size w V → NumsAt ns V bR bF bL → Calls Try.prog 22 #[numsV o cap ns.length bR bF bL (ns.length + 1), rngV ((i : Int) + 1) c ((j : Int) + 1) d, .int .i64 ((k : Int) + 1)] V fun e w' => e = .returned (.bool (contD ns ((i : Int) + 1, c) ((j : Int) + 1, d) ((k : Int) + 1))) ∧ Below V.heap.size V w') := by
    intro bR bF bL V hV hN
    obtain ⟨R, F, L, hNl⟩ := hN.lists
    rw [hoe, ← cont_pos hR hNl.num hp hq (there_of hk) hroot]
    exact pContained_any b off cap bR bF bL i j k c d ns R F L V hR (hFF.later hV) hNl hi hj hk hp hq
  have HHo : Hid (∀ (m : Nat), m < ns.length → ∀ (bR bF bL : Nat) (V : World), NumsAt ns V bR bF bL → Calls Try.prog 23 #[numsV o cap ns.length bR bF bL (ns.length + 1), .int .i64 ((k : Int) + 1), .int .i64 ((m : Int) + 1)] V fun e w' => e = .returned (.bool (decide (((m : Int) + 1) ∈ allD ns ((k : Int) + 1)))) ∧ Below V.heap.size V w') := by
    intro m hm2 bR bF bL V hN
    obtain ⟨R, F, L, hNl⟩ := hN.lists
    exact pHolds_any o cap bR bF bL k m ns R F L V hR hNl hk hm2
  have HH1 := hid (HHo.out i hi)
  have HH2 := hid (HHo.out j hj)
  have hpe : partD ns ((i : Int) + 1, c) ((j : Int) + 1, d) ((k : Int) + 1) = (decide (((i : Int) + 1) ∈ allD ns ((k : Int) + 1)) != decide (((j : Int) + 1) ∈ allD ns ((k : Int) + 1))) := rfl
  rw [hpe]
  clear hF hkl hal hE hR hvd hp hq hm hh hroot hFF hoe HHo hpe
  unfold rngV numsV at *
  generalize contD ns ((i : Int) + 1, c) ((j : Int) + 1, d) ((k : Int) + 1) = CD at *
  generalize decide (((i : Int) + 1) ∈ allD ns ((k : Int) + 1)) = D1 at *
  generalize decide (((j : Int) + 1) ∈ allD ns ((k : Int) + 1)) = D2 at *
  clear hi hj hk
  generalize ((i : Int) + 1) = x at *
  generalize ((j : Int) + 1) = y at *
  generalize ((k : Int) + 1) = h at *
  go_enter Try.func8, Try.ntmps8
  go_upto_region 1 with fail
  generalize ((w.alloc (.cells #[.slice o ns.length cap] 24)).alloc (.cells #[.int .i64 x, .int .i64 c, .int .i64 y, .int .i64 d] 36)) = W0 at *
  have n0 := (box_cell_l g0).1
  obtain ⟨a0, a1, a2, a3⟩ := rng_cells g1
  go_cut [9, 10] (fun t u wx => ∃ bR bF bL B, t = .pointer (some ⟨B, 0, none⟩) ∧ u = .int .i64 0 ∧ Held8 W0 (.agg #[.slice o ns.length cap, .slice (some ⟨bR, 0, none⟩) (ns.length + 1) (ns.length + 1), .slice (some ⟨bF, 0, none⟩) (ns.length + 1) (ns.length + 1), .slice (some ⟨bL, 0, none⟩) (ns.length + 1) (ns.length + 1)]) B wx ∧ NumsAt ns wx bR bF bL)
  case first =>
    --slow
    refine wp_region_held_drew (S := fun V => Below W0.heap.size W0 V) (by kernel_rfl) ((Below.refl _ _).drew) (fun hHeld => ?_)
    have HB_V0 := hid hHeld
    have hz0 := hHeld.size
    generalize W0.drew = V0 at *
    refine wpAnyH_one 0 12 (.agg #[.slice o ns.length cap]) hHeld rfl rfl (by kernel_rfl) (fun _ _ _ _ _ h => h) (by kernel_rfl) (by kernel_rfl) (by rfl) ?_ ?_
    · intro V hSw; (try dsimp only at hSw); have k0 := cellLater (B := w.heap.size) hSw (by omega) n0; go_simp
    simp only [Act.put, List.setIfInBounds_toArray, List.set_cons_zero, List.set_cons_succ]
    refine wpAnyH_one 1 13 (.agg #[.int .i64 x, .int .i64 c, .int .i64 y, .int .i64 d]) hHeld rfl rfl (by kernel_rfl) (fun _ _ _ _ _ h => h) (by kernel_rfl) (by kernel_rfl) (by rfl) ?_ ?_
    · intro V hSw; (try dsimp only at hSw); have k0 := cellLater (B := w.heap.size + 1) hSw (by omega) a0; have k1 := cellLater (B := w.heap.size + 1) hSw (by omega) a1; have k2 := cellLater (B := w.heap.size + 1) hSw (by omega) a2; have k3 := cellLater (B := w.heap.size + 1) hSw (by omega) a3; go_simp
    simp only [Act.put, List.setIfInBounds_toArray, List.set_cons_zero, List.set_cons_succ]
    refine wpAnyH_one 2 14 (.int .i64 h) hHeld rfl rfl (by kernel_rfl) (fun _ _ _ _ _ h => h) (by kernel_rfl) (by kernel_rfl) (by rfl) ?_ ?_
    · intro V hSw; (try dsimp only at hSw); go_simp
    simp only [Act.put, List.setIfInBounds_toArray, List.set_cons_zero, List.set_cons_succ]
    refine wpAnyH_ready (rs := [3, 9]) (by kernel_rfl) (by simp) ?_
    refine AllReadyH.cons rfl (fun K hK => ?_) (AllReadyH.cons rfl (fun K hK => ?_) (AllReadyH.nil))
    · go_simp
      go_wp2_with (go_at_call 17; refine (HSt.out V0).mono ?_; rintro e V1 ⟨rfl, hb⟩)
      have HB_V1 := hid (HB_V0.out.trans (hb.mono HB_V0.out.size))
      have hz1 := HB_V1.out.size
      have hy1 := hb.size
      refine hK.out _ _ HB_V1.out (fun hHeld => ?_)
      clear hK K hb
      refine wpAnyH_ready (rs := [4, 9]) (by kernel_rfl) (by simp) ?_
      refine AllReadyH.cons rfl (fun K hK => ?_) (AllReadyH.cons rfl (fun K hK => ?_) (AllReadyH.nil))
      · go_simp
        have hnw := heap_new V1 (.cells #[.int .i64 h, .int .i64 0] 26)
        have hb : Below V1.heap.size V1 (V1.alloc (.cells #[.int .i64 h, .int .i64 0] 26)) := (Below.refl _ V1).alloc (Nat.le_refl _) _
        have hx2 := (Array.getElem?_eq_some_iff.1 hnw).1
        generalize V1.alloc (.cells #[.int .i64 h, .int .i64 0] 26) = V2 at *
        have HB_V2 := hid (HB_V1.out.trans (hb.mono HB_V1.out.size))
        have hz2 := HB_V2.out.size
        have hy2 := hb.size
        have r1 := one_rdH hnw
        refine hK.out _ _ HB_V2.out (fun hHeld => ?_)
        clear hK K hb
        refine wpAnyH_ready (rs := [5, 9]) (by kernel_rfl) (by simp) ?_
        refine AllReadyH.cons rfl (fun K hK => ?_) (AllReadyH.cons rfl (fun K hK => ?_) (AllReadyH.nil))
        · go_simp
          go_wp2_with (go_at_call 21; refine (HLk.out _ V2 (bx.trans (HB_V2.out.mono bx.size)) r1).mono ?_; rintro e V3 ⟨bR, bF, bL, rfl, hNm, hb⟩)
          have HB_V3 := hid (HB_V2.out.trans (hb.mono HB_V2.out.size))
          have hz3 := HB_V3.out.size
          have hy3 := hb.size
          have r1 := r1.later hb
          have hN2 := hNm
          refine hK.out _ _ HB_V3.out (fun hHeld => ?_)
          clear hK K hb
          refine wpAnyH_one 6 11 (.tuple #[.agg #[.slice o ns.length cap, .slice (some ⟨bR, 0, none⟩) (ns.length + 1) (ns.length + 1), .slice (some ⟨bF, 0, none⟩) (ns.length + 1) (ns.length + 1), .slice (some ⟨bL, 0, none⟩) (ns.length + 1) (ns.length + 1)], .int .i64 0]) hHeld rfl rfl (by kernel_rfl) (fun _ _ _ _ _ h => h) (by kernel_rfl) (by kernel_rfl) (by rfl) ?_ ?_
          · intro V hSw; (try dsimp only at hSw); go_simp
          simp only [Act.put, List.setIfInBounds_toArray, List.set_cons_zero, List.set_cons_succ]
          refine wpAnyH_one 7 18 (.agg #[.slice o ns.length cap, .slice (some ⟨bR, 0, none⟩) (ns.length + 1) (ns.length + 1), .slice (some ⟨bF, 0, none⟩) (ns.length + 1) (ns.length + 1), .slice (some ⟨bL, 0, none⟩) (ns.length + 1) (ns.length + 1)]) hHeld rfl rfl (by kernel_rfl) (fun _ _ _ _ _ h => h) (by kernel_rfl) (by kernel_rfl) (by rfl) ?_ ?_
          · intro V hSw; (try dsimp only at hSw); go_simp
          simp only [Act.put, List.setIfInBounds_toArray, List.set_cons_zero, List.set_cons_succ]
          refine wpAnyH_one 8 19 (.int .i64 0) hHeld rfl rfl (by kernel_rfl) (fun _ _ _ _ _ h => h) (by kernel_rfl) (by kernel_rfl) (by rfl) ?_ ?_
          · intro V hSw; (try dsimp only at hSw); go_simp
          simp only [Act.put, List.setIfInBounds_toArray, List.set_cons_zero, List.set_cons_succ]
          refine wpAnyH_ready (rs := [9]) (by kernel_rfl) (by simp) ?_
          refine AllReadyH.cons rfl (fun K hK => ?_) (AllReadyH.nil)
          go_simp
          have hfl := heap_new V3 (.cells #[.slice none 0 0, .slice none 0 0, .slice none 0 0, .slice none 0 0] 52)
          have hb : Below V3.heap.size V3 (V3.alloc (.cells #[.slice none 0 0, .slice none 0 0, .slice none 0 0, .slice none 0 0] 52)) := (Below.refl _ V3).alloc (Nat.le_refl _) _
          have hx4 := (Array.getElem?_eq_some_iff.1 hfl).1
          generalize V3.alloc (.cells #[.slice none 0 0, .slice none 0 0, .slice none 0 0, .slice none 0 0] 52) = V4 at *
          have HB_V4 := hid (HB_V3.out.trans (hb.mono HB_V3.out.size))
          have hz4 := HB_V4.out.size
          have hy4 := hb.size
          have r1 := r1.later hb
          have hN2 := hN2.later hb
          refine hK.out _ _ HB_V4.out (fun hHeld => ?_)
          clear hK K hb
          obtain ⟨z0, z1, z2, z3⟩ := sv_cells hfl
          obtain ⟨y0, y1, y2, y3⟩ := sv_free hfl
          refine wpAnyH_ready (rs := [10]) (by kernel_rfl) (by simp) ?_
          refine AllReadyH.cons rfl (fun K hK => ?_) AllReadyH.nil
          go_simp
          have H8 := hid (held8 (a := .slice o ns.length cap) (b := .slice (some ⟨bR, 0, none⟩) (ns.length + 1) (ns.length + 1)) (c := .slice (some ⟨bF, 0, none⟩) (ns.length + 1) (ns.length + 1)) (d := .slice (some ⟨bL, 0, none⟩) (ns.length + 1) (ns.length + 1)) HB_V4.out (show W0.heap.size ≤ V3.heap.size by omega) hfl)
          have HN8 := hid (nums_set4 (a := .slice o ns.length cap) (b := .slice (some ⟨bR, 0, none⟩) (ns.length + 1) (ns.length + 1)) (c := .slice (some ⟨bF, 0, none⟩) (ns.length + 1) (ns.length + 1)) (d := .slice (some ⟨bL, 0, none⟩) (ns.length + 1) (ns.length + 1)) hN2 hfl)
          refine hK.out _ _ H8.out.below (fun hHeld => ?_)
          clear hK K
          refine wpAnyH_one 11 10 (.int .i64 0) hHeld rfl rfl (by kernel_rfl) (fun _ _ _ _ _ h => h) (by kernel_rfl) (by kernel_rfl) (by rfl) ?_ ?_
          · intro V hSw; (try dsimp only at hSw); go_simp
          simp only [Act.put, List.setIfInBounds_toArray, List.set_cons_zero, List.set_cons_succ]
          refine wpAnyH_done (by kernel_rfl) ?_ _
          go_wp2_with fail
          go_meet
          exact ⟨bR, bF, bL, _, rfl, rfl, H8.out, HN8.out⟩
        · go_simp
          have hfl := heap_new V2 (.cells #[.slice none 0 0, .slice none 0 0, .slice none 0 0, .slice none 0 0] 52)
          have hb : Below V2.heap.size V2 (V2.alloc (.cells #[.slice none 0 0, .slice none 0 0, .slice none 0 0, .slice none 0 0] 52)) := (Below.refl _ V2).alloc (Nat.le_refl _) _
          have hx3 := (Array.getElem?_eq_some_iff.1 hfl).1
          generalize V2.alloc (.cells #[.slice none 0 0, .slice none 0 0, .slice none 0 0, .slice none 0 0] 52) = V3 at *
          have HB_V3 := hid (HB_V2.out.trans (hb.mono HB_V2.out.size))
          have hz3 := HB_V3.out.size
          have hy3 := hb.size
          have r1 := r1.later hb
          refine hK.out _ _ HB_V3.out (fun hHeld => ?_)
          clear hK K hb
          refine wpAnyH_ready (rs := [5]) (by kernel_rfl) (by simp) ?_
          refine AllReadyH.cons rfl (fun K hK => ?_) (AllReadyH.nil)
          go_simp
          go_wp2_with (go_at_call 21; refine (HLk.out _ V3 (bx.trans (HB_V3.out.mono bx.size)) r1).mono ?_; rintro e V4 ⟨bR, bF, bL, rfl, hNm, hb⟩)
          have HB_V4 := hid (HB_V3.out.trans (hb.mono HB_V3.out.size))
          have hz4 := HB_V4.out.size
          have hy4 := hb.size
          have r1 := r1.later hb
          have hfl := blkLater hb hfl
          have hN2 := hNm
          refine hK.out _ _ HB_V4.out (fun hHeld => ?_)
          clear hK K hb
          refine wpAnyH_one 6 11 (.tuple #[.agg #[.slice o ns.length cap, .slice (some ⟨bR, 0, none⟩) (ns.length + 1) (ns.length + 1), .slice (some ⟨bF, 0, none⟩) (ns.length + 1) (ns.length + 1), .slice (some ⟨bL, 0, none⟩) (ns.length + 1) (ns.length + 1)], .int .i64 0]) hHeld rfl rfl (by kernel_rfl) (fun _ _ _ _ _ h => h) (by kernel_rfl) (by kernel_rfl) (by rfl) ?_ ?_
          · intro V hSw; (try dsimp only at hSw); go_simp
          simp only [Act.put, List.setIfInBounds_toArray, List.set_cons_zero, List.set_cons_succ]
          refine wpAnyH_one 7 18 (.agg #[.slice o ns.length cap, .slice (some ⟨bR, 0, none⟩) (ns.length + 1) (ns.length + 1), .slice (some ⟨bF, 0, none⟩) (ns.length + 1) (ns.length + 1), .slice (some ⟨bL, 0, none⟩) (ns.length + 1) (ns.length + 1)]) hHeld rfl rfl (by kernel_rfl) (fun _ _ _ _ _ h => h) (by kernel_rfl) (by kernel_rfl) (by rfl) ?_ ?_
          · intro V hSw; (try dsimp only at hSw); go_simp
          simp only [Act.put, List.setIfInBounds_toArray, List.set_cons_zero, List.set_cons_succ]
          refine wpAnyH_one 8 19 (.int .i64 0) hHeld rfl rfl (by kernel_rfl) (fun _ _ _ _ _ h => h) (by kernel_rfl) (by kernel_rfl) (by rfl) ?_ ?_
          · intro V hSw; (try dsimp only at hSw); go_simp
          simp only [Act.put, List.setIfInBounds_toArray, List.set_cons_zero, List.set_cons_succ]
          obtain ⟨z0, z1, z2, z3⟩ := sv_cells hfl
          obtain ⟨y0, y1, y2, y3⟩ := sv_free hfl
          refine wpAnyH_ready (rs := [10]) (by kernel_rfl) (by simp) ?_
          refine AllReadyH.cons rfl (fun K hK => ?_) AllReadyH.nil
          go_simp
          have H8 := hid (held8 (a := .slice o ns.length cap) (b := .slice (some ⟨bR, 0, none⟩) (ns.length + 1) (ns.length + 1)) (c := .slice (some ⟨bF, 0, none⟩) (ns.length + 1) (ns.length + 1)) (d := .slice (some ⟨bL, 0, none⟩) (ns.length + 1) (ns.length + 1)) HB_V4.out (show W0.heap.size ≤ V2.heap.size by omega) hfl)
          have HN8 := hid (nums_set4 (a := .slice o ns.length cap) (b := .slice (some ⟨bR, 0, none⟩) (ns.length + 1) (ns.length + 1)) (c := .slice (some ⟨bF, 0, none⟩) (ns.length + 1) (ns.length + 1)) (d := .slice (some ⟨bL, 0, none⟩) (ns.length + 1) (ns.length + 1)) hN2 hfl)
          refine hK.out _ _ H8.out.below (fun hHeld => ?_)
          clear hK K
          refine wpAnyH_one 11 10 (.int .i64 0) hHeld rfl rfl (by kernel_rfl) (fun _ _ _ _ _ h => h) (by kernel_rfl) (by kernel_rfl) (by rfl) ?_ ?_
          · intro V hSw; (try dsimp only at hSw); go_simp
          simp only [Act.put, List.setIfInBounds_toArray, List.set_cons_zero, List.set_cons_succ]
          refine wpAnyH_done (by kernel_rfl) ?_ _
          go_wp2_with fail
          go_meet
          exact ⟨bR, bF, bL, _, rfl, rfl, H8.out, HN8.out⟩
      · go_simp
        have hfl := heap_new V1 (.cells #[.slice none 0 0, .slice none 0 0, .slice none 0 0, .slice none 0 0] 52)
        have hb : Below V1.heap.size V1 (V1.alloc (.cells #[.slice none 0 0, .slice none 0 0, .slice none 0 0, .slice none 0 0] 52)) := (Below.refl _ V1).alloc (Nat.le_refl _) _
        have hx2 := (Array.getElem?_eq_some_iff.1 hfl).1
        generalize V1.alloc (.cells #[.slice none 0 0, .slice none 0 0, .slice none 0 0, .slice none 0 0] 52) = V2 at *
        have HB_V2 := hid (HB_V1.out.trans (hb.mono HB_V1.out.size))
        have hz2 := HB_V2.out.size
        have hy2 := hb.size
        refine hK.out _ _ HB_V2.out (fun hHeld => ?_)
        clear hK K hb
        refine wpAnyH_ready (rs := [4]) (by kernel_rfl) (by simp) ?_
        refine AllReadyH.cons rfl (fun K hK => ?_) (AllReadyH.nil)
        go_simp
        have hnw := heap_new V2 (.cells #[.int .i64 h, .int .i64 0] 26)
        have hb : Below V2.heap.size V2 (V2.alloc (.cells #[.int .i64 h, .int .i64 0] 26)) := (Below.refl _ V2).alloc (Nat.le_refl _) _
        have hx3 := (Array.getElem?_eq_some_iff.1 hnw).1
        generalize V2.alloc (.cells #[.int .i64 h, .int .i64 0] 26) = V3 at *
        have HB_V3 := hid (HB_V2.out.trans (hb.mono HB_V2.out.size))
        have hz3 := HB_V3.out.size
        have hy3 := hb.size
        have hfl := blkLater hb hfl
        have r1 := one_rdH hnw
        refine hK.out _ _ HB_V3.out (fun hHeld => ?_)
        clear hK K hb
        refine wpAnyH_ready (rs := [5]) (by kernel_rfl) (by simp) ?_
        refine AllReadyH.cons rfl (fun K hK => ?_) (AllReadyH.nil)
        go_simp
        go_wp2_with (go_at_call 21; refine (HLk.out _ V3 (bx.trans (HB_V3.out.mono bx.size)) r1).mono ?_; rintro e V4 ⟨bR, bF, bL, rfl, hNm, hb⟩)
        have HB_V4 := hid (HB_V3.out.trans (hb.mono HB_V3.out.size))
        have hz4 := HB_V4.out.size
        have hy4 := hb.size
        have hfl := blkLater hb hfl
        have r1 := r1.later hb
        have hN2 := hNm
        refine hK.out _ _ HB_V4.out (fun hHeld => ?_)
        clear hK K hb
        refine wpAnyH_one 6 11 (.tuple #[.agg #[.slice o ns.length cap, .slice (some ⟨bR, 0, none⟩) (ns.length + 1) (ns.length + 1), .slice (some ⟨bF, 0, none⟩) (ns.length + 1) (ns.length + 1), .slice (some ⟨bL, 0, none⟩) (ns.length + 1) (ns.length + 1)], .int .i64 0]) hHeld rfl rfl (by kernel_rfl) (fun _ _ _ _ _ h => h) (by kernel_rfl) (by kernel_rfl) (by rfl) ?_ ?_
        · intro V hSw; (try dsimp only at hSw); go_simp
        simp only [Act.put, List.setIfInBounds_toArray, List.set_cons_zero, List.set_cons_succ]
        refine wpAnyH_one 7 18 (.agg #[.slice o ns.length cap, .slice (some ⟨bR, 0, none⟩) (ns.length + 1) (ns.length + 1), .slice (some ⟨bF, 0, none⟩) (ns.length + 1) (ns.length + 1), .slice (some ⟨bL, 0, none⟩) (ns.length + 1) (ns.length + 1)]) hHeld rfl rfl (by kernel_rfl) (fun _ _ _ _ _ h => h) (by kernel_rfl) (by kernel_rfl) (by rfl) ?_ ?_
        · intro V hSw; (try dsimp only at hSw); go_simp
        simp only [Act.put, List.setIfInBounds_toArray, List.set_cons_zero, List.set_cons_succ]
        refine wpAnyH_one 8 19 (.int .i64 0) hHeld rfl rfl (by kernel_rfl) (fun _ _ _ _ _ h => h) (by kernel_rfl) (by kernel_rfl) (by rfl) ?_ ?_
        · intro V hSw; (try dsimp only at hSw); go_simp
        simp only [Act.put, List.setIfInBounds_toArray, List.set_cons_zero, List.set_cons_succ]
        obtain ⟨z0, z1, z2, z3⟩ := sv_cells hfl
        obtain ⟨y0, y1, y2, y3⟩ := sv_free hfl
        refine wpAnyH_ready (rs := [10]) (by kernel_rfl) (by simp) ?_
        refine AllReadyH.cons rfl (fun K hK => ?_) AllReadyH.nil
        go_simp
        have H8 := hid (held8 (a := .slice o ns.length cap) (b := .slice (some ⟨bR, 0, none⟩) (ns.length + 1) (ns.length + 1)) (c := .slice (some ⟨bF, 0, none⟩) (ns.length + 1) (ns.length + 1)) (d := .slice (some ⟨bL, 0, none⟩) (ns.length + 1) (ns.length + 1)) HB_V4.out (show W0.heap.size ≤ V1.heap.size by omega) hfl)
        have HN8 := hid (nums_set4 (a := .slice o ns.length cap) (b := .slice (some ⟨bR, 0, none⟩) (ns.length + 1) (ns.length + 1)) (c := .slice (some ⟨bF, 0, none⟩) (ns.length + 1) (ns.length + 1)) (d := .slice (some ⟨bL, 0, none⟩) (ns.length + 1) (ns.length + 1)) hN2 hfl)
        refine hK.out _ _ H8.out.below (fun hHeld => ?_)
        clear hK K
        refine wpAnyH_one 11 10 (.int .i64 0) hHeld rfl rfl (by kernel_rfl) (fun _ _ _ _ _ h => h) (by kernel_rfl) (by kernel_rfl) (by rfl) ?_ ?_
        · intro V hSw; (try dsimp only at hSw); go_simp
        simp only [Act.put, List.setIfInBounds_toArray, List.set_cons_zero, List.set_cons_succ]
        refine wpAnyH_done (by kernel_rfl) ?_ _
        go_wp2_with fail
        go_meet
        exact ⟨bR, bF, bL, _, rfl, rfl, H8.out, HN8.out⟩
    · go_simp
      have hfl := heap_new V0 (.cells #[.slice none 0 0, .slice none 0 0, .slice none 0 0, .slice none 0 0] 52)
      have hb : Below V0.heap.size V0 (V0.alloc (.cells #[.slice none 0 0, .slice none 0 0, .slice none 0 0, .slice none 0 0] 52)) := (Below.refl _ V0).alloc (Nat.le_refl _) _
      have hx1 := (Array.getElem?_eq_some_iff.1 hfl).1
      generalize V0.alloc (.cells #[.slice none 0 0, .slice none 0 0, .slice none 0 0, .slice none 0 0] 52) = V1 at *
      have HB_V1 := hid (HB_V0.out.trans (hb.mono HB_V0.out.size))
      have hz1 := HB_V1.out.size
      have hy1 := hb.size
      refine hK.out _ _ HB_V1.out (fun hHeld => ?_)
      clear hK K hb
      refine wpAnyH_ready (rs := [3]) (by kernel_rfl) (by simp) ?_
      refine AllReadyH.cons rfl (fun K hK => ?_) (AllReadyH.nil)
      go_simp
      go_wp2_with (go_at_call 17; refine (HSt.out V1).mono ?_; rintro e V2 ⟨rfl, hb⟩)
      have HB_V2 := hid (HB_V1.out.trans (hb.mono HB_V1.out.size))
      have hz2 := HB_V2.out.size
      have hy2 := hb.size
      have hfl := blkLater hb hfl
      refine hK.out _ _ HB_V2.out (fun hHeld => ?_)
      clear hK K hb
      refine wpAnyH_ready (rs := [4]) (by kernel_rfl) (by simp) ?_
      refine AllReadyH.cons rfl (fun K hK => ?_) (AllReadyH.nil)
      go_simp
      have hnw := heap_new V2 (.cells #[.int .i64 h, .int .i64 0] 26)
      have hb : Below V2.heap.size V2 (V2.alloc (.cells #[.int .i64 h, .int .i64 0] 26)) := (Below.refl _ V2).alloc (Nat.le_refl _) _
      have hx3 := (Array.getElem?_eq_some_iff.1 hnw).1
      generalize V2.alloc (.cells #[.int .i64 h, .int .i64 0] 26) = V3 at *
      have HB_V3 := hid (HB_V2.out.trans (hb.mono HB_V2.out.size))
      have hz3 := HB_V3.out.size
      have hy3 := hb.size
      have hfl := blkLater hb hfl
      have r1 := one_rdH hnw
      refine hK.out _ _ HB_V3.out (fun hHeld => ?_)
      clear hK K hb
      refine wpAnyH_ready (rs := [5]) (by kernel_rfl) (by simp) ?_
      refine AllReadyH.cons rfl (fun K hK => ?_) (AllReadyH.nil)
      go_simp
      go_wp2_with (go_at_call 21; refine (HLk.out _ V3 (bx.trans (HB_V3.out.mono bx.size)) r1).mono ?_; rintro e V4 ⟨bR, bF, bL, rfl, hNm, hb⟩)
      have HB_V4 := hid (HB_V3.out.trans (hb.mono HB_V3.out.size))
      have hz4 := HB_V4.out.size
      have hy4 := hb.size
      have hfl := blkLater hb hfl
      have r1 := r1.later hb
      have hN2 := hNm
      refine hK.out _ _ HB_V4.out (fun hHeld => ?_)
      clear hK K hb
      refine wpAnyH_one 6 11 (.tuple #[.agg #[.slice o ns.length cap, .slice (some ⟨bR, 0, none⟩) (ns.length + 1) (ns.length + 1), .slice (some ⟨bF, 0, none⟩) (ns.length + 1) (ns.length + 1), .slice (some ⟨bL, 0, none⟩) (ns.length + 1) (ns.length + 1)], .int .i64 0]) hHeld rfl rfl (by kernel_rfl) (fun _ _ _ _ _ h => h) (by kernel_rfl) (by kernel_rfl) (by rfl) ?_ ?_
      · intro V hSw; (try dsimp only at hSw); go_simp
      simp only [Act.put, List.setIfInBounds_toArray, List.set_cons_zero, List.set_cons_succ]
      refine wpAnyH_one 7 18 (.agg #[.slice o ns.length cap, .slice (some ⟨bR, 0, none⟩) (ns.length + 1) (ns.length + 1), .slice (some ⟨bF, 0, none⟩) (ns.length + 1) (ns.length + 1), .slice (some ⟨bL, 0, none⟩) (ns.length + 1) (ns.length + 1)]) hHeld rfl rfl (by kernel_rfl) (fun _ _ _ _ _ h => h) (by kernel_rfl) (by kernel_rfl) (by rfl) ?_ ?_
      · intro V hSw; (try dsimp only at hSw); go_simp
      simp only [Act.put, List.setIfInBounds_toArray, List.set_cons_zero, List.set_cons_succ]
      refine wpAnyH_one 8 19 (.int .i64 0) hHeld rfl rfl (by kernel_rfl) (fun _ _ _ _ _ h => h) (by kernel_rfl) (by kernel_rfl) (by rfl) ?_ ?_
      · intro V hSw; (try dsimp only at hSw); go_simp
      simp only [Act.put, List.setIfInBounds_toArray, List.set_cons_zero, List.set_cons_succ]
      obtain ⟨z0, z1, z2, z3⟩ := sv_cells hfl
      obtain ⟨y0, y1, y2, y3⟩ := sv_free hfl
      refine wpAnyH_ready (rs := [10]) (by kernel_rfl) (by simp) ?_
      refine AllReadyH.cons rfl (fun K hK => ?_) AllReadyH.nil
      go_simp
      have H8 := hid (held8 (a := .slice o ns.length cap) (b := .slice (some ⟨bR, 0, none⟩) (ns.length + 1) (ns.length + 1)) (c := .slice (some ⟨bF, 0, none⟩) (ns.length + 1) (ns.length + 1)) (d := .slice (some ⟨bL, 0, none⟩) (ns.length + 1) (ns.length + 1)) HB_V4.out (show W0.heap.size ≤ V0.heap.size by omega) hfl)
      have HN8 := hid (nums_set4 (a := .slice o ns.length cap) (b := .slice (some ⟨bR, 0, none⟩) (ns.length + 1) (ns.length + 1)) (c := .slice (some ⟨bF, 0, none⟩) (ns.length + 1) (ns.length + 1)) (d := .slice (some ⟨bL, 0, none⟩) (ns.length + 1) (ns.length + 1)) hN2 hfl)
      refine hK.out _ _ H8.out.below (fun hHeld => ?_)
      clear hK K
      refine wpAnyH_one 11 10 (.int .i64 0) hHeld rfl rfl (by kernel_rfl) (fun _ _ _ _ _ h => h) (by kernel_rfl) (by kernel_rfl) (by rfl) ?_ ?_
      · intro V hSw; (try dsimp only at hSw); go_simp
      simp only [Act.put, List.setIfInBounds_toArray, List.set_cons_zero, List.set_cons_succ]
      refine wpAnyH_done (by kernel_rfl) ?_ _
      go_wp2_with fail
      go_meet
      exact ⟨bR, bF, bL, _, rfl, rfl, H8.out, HN8.out⟩
    --end slow
  case rest =>
    obtain ⟨bR, bF, bL, B, rfl, rfl, h8, hN⟩ := hcut
    obtain ⟨_, _, _, _, hag, hbox⟩ := h8.box
    simp only [Value.agg.injEq, Array.mk.injEq, List.cons.injEq, and_true] at hag
    obtain ⟨rfl, rfl, rfl, rfl⟩ := hag
    have hs8 := h8.below.size
    have hlB := h8.lt
    have hltB := (Array.getElem?_eq_some_iff.1 hbox).1
    have bc := bx.trans (h8.below.mono bx.size)
    have g1c := blkLater h8.below g1
    have H1 := hid (HCo.out bR bF bL)
    have H2 := hid (HH1.out bR bF bL)
    have H3 := hid (HH2.out bR bF bL)
    have HNl := hid hN
    clear HCo HH1 HH2 h8 hN n0 HLk a0 a1 a2 a3
    go_upto_region 4 with fail
    generalize hwc : wc = W1 at *
    clear hwc
    obtain ⟨n0, n1, n2, n3⟩ := sv_cells hbox
    obtain ⟨a0, a1, a2, a3⟩ := rng_cells g1c
    have hl1 := (Array.getElem?_eq_some_iff.1 g1c).1
    refine wp_region_held_drew (S := fun V => Below W1.heap.size W1 V) (by kernel_rfl) ((Below.refl _ _).drew) (fun hHeld => ?_)
    have HB_V0 := hid hHeld
    have HS_V0 := hid hHeld.size
    generalize W1.drew = V0 at *
    refine wpAnyH_one 0 23 (.agg #[.slice o ns.length cap, .slice (some ⟨bR, 0, none⟩) (ns.length + 1) (ns.length + 1), .slice (some ⟨bF, 0, none⟩) (ns.length + 1) (ns.length + 1), .slice (some ⟨bL, 0, none⟩) (ns.length + 1) (ns.length + 1)]) hHeld rfl rfl (by kernel_rfl) (fun _ _ _ _ _ h => h) (by kernel_rfl) (by kernel_rfl) (by rfl) ?_ ?_
    · intro V hSw; (try dsimp only at hSw); have k0 := cellLater (B := B) hSw (by omega) n0; have k1 := cellLater (B := B) hSw (by omega) n1; have k2 := cellLater (B := B) hSw (by omega) n2; have k3 := cellLater (B := B) hSw (by omega) n3; go_simp
    simp only [Act.put, List.setIfInBounds_toArray, List.set_cons_zero, List.set_cons_succ]
    refine wpAnyH_one 1 24 (.agg #[.int .i64 x, .int .i64 c, .int .i64 y, .int .i64 d]) hHeld rfl rfl (by kernel_rfl) (fun _ _ _ _ _ h => h) (by kernel_rfl) (by kernel_rfl) (by rfl) ?_ ?_
    · intro V hSw; (try dsimp only at hSw); have k0 := cellLater (B := w.heap.size + 1) hSw (by omega) a0; have k1 := cellLater (B := w.heap.size + 1) hSw (by omega) a1; have k2 := cellLater (B := w.heap.size + 1) hSw (by omega) a2; have k3 := cellLater (B := w.heap.size + 1) hSw (by omega) a3; go_simp
    simp only [Act.put, List.setIfInBounds_toArray, List.set_cons_zero, List.set_cons_succ]
    refine wpAnyH_one 2 25 (.int .i64 h) hHeld rfl rfl (by kernel_rfl) (fun _ _ _ _ _ h => h) (by kernel_rfl) (by kernel_rfl) (by rfl) ?_ ?_
    · intro V hSw; (try dsimp only at hSw); go_simp
    simp only [Act.put, List.setIfInBounds_toArray, List.set_cons_zero, List.set_cons_succ]
    refine wpAnyH_one 4 27 (.agg #[.slice o ns.length cap, .slice (some ⟨bR, 0, none⟩) (ns.length + 1) (ns.length + 1), .slice (some ⟨bF, 0, none⟩) (ns.length + 1) (ns.length + 1), .slice (some ⟨bL, 0, none⟩) (ns.length + 1) (ns.length + 1)]) hHeld rfl rfl (by kernel_rfl) (fun _ _ _ _ _ h => h) (by kernel_rfl) (by kernel_rfl) (by rfl) ?_ ?_
    · intro V hSw; (try dsimp only at hSw); have k0 := cellLater (B := B) hSw (by omega) n0; have k1 := cellLater (B := B) hSw (by omega) n1; have k2 := cellLater (B := B) hSw (by omega) n2; have k3 := cellLater (B := B) hSw (by omega) n3; go_simp
    simp only [Act.put, List.setIfInBounds_toArray, List.set_cons_zero, List.set_cons_succ]
    refine wpAnyH_one 5 28 (.int .i64 h) hHeld rfl rfl (by kernel_rfl) (fun _ _ _ _ _ h => h) (by kernel_rfl) (by kernel_rfl) (by rfl) ?_ ?_
    · intro V hSw; (try dsimp only at hSw); go_simp
    simp only [Act.put, List.setIfInBounds_toArray, List.set_cons_zero, List.set_cons_succ]
    refine wpAnyH_one 6 29 (.pointer (some ⟨w.heap.size + 1, 0, none⟩)) hHeld rfl rfl (by kernel_rfl) (fun _ _ _ _ _ h => h) (by kernel_rfl) (by kernel_rfl) (by rfl) ?_ ?_
    · intro V hSw; (try dsimp only at hSw); go_simp
    simp only [Act.put, List.setIfInBounds_toArray, List.set_cons_zero, List.set_cons_succ]
    refine wpAnyH_one 7 30 (.pointer (some ⟨w.heap.size + 1, 0, none⟩)) hHeld rfl rfl (by kernel_rfl) (fun _ _ _ _ _ h => h) (by kernel_rfl) (by kernel_rfl) (by rfl) ?_ ?_
    · intro V hSw; (try dsimp only at hSw); go_simp
    simp only [Act.put, List.setIfInBounds_toArray, List.set_cons_zero, List.set_cons_succ]
    refine wpAnyH_one 8 31 (.int .i64 x) hHeld rfl rfl (by kernel_rfl) (fun _ _ _ _ _ h => h) (by kernel_rfl) (by kernel_rfl) (by rfl) ?_ ?_
    · intro V hSw; (try dsimp only at hSw); have k0 := cellLater (B := w.heap.size + 1) hSw (by omega) a0; go_simp
    simp only [Act.put, List.setIfInBounds_toArray, List.set_cons_zero, List.set_cons_succ]
    refine wpAnyH_one 10 33 (.agg #[.slice o ns.length cap, .slice (some ⟨bR, 0, none⟩) (ns.length + 1) (ns.length + 1), .slice (some ⟨bF, 0, none⟩) (ns.length + 1) (ns.length + 1), .slice (some ⟨bL, 0, none⟩) (ns.length + 1) (ns.length + 1)]) hHeld rfl rfl (by kernel_rfl) (fun _ _ _ _ _ h => h) (by kernel_rfl) (by kernel_rfl) (by rfl) ?_ ?_
    · intro V hSw; (try dsimp only at hSw); have k0 := cellLater (B := B) hSw (by omega) n0; have k1 := cellLater (B := B) hSw (by omega) n1; have k2 := cellLater (B := B) hSw (by omega) n2; have k3 := cellLater (B := B) hSw (by omega) n3; go_simp
    simp only [Act.put, List.setIfInBounds_toArray, List.set_cons_zero, List.set_cons_succ]
    refine wpAnyH_one 11 34 (.int .i64 h) hHeld rfl rfl (by kernel_rfl) (fun _ _ _ _ _ h => h) (by kernel_rfl) (by kernel_rfl) (by rfl) ?_ ?_
    · intro V hSw; (try dsimp only at hSw); go_simp
    simp only [Act.put, List.setIfInBounds_toArray, List.set_cons_zero, List.set_cons_succ]
    refine wpAnyH_one 12 35 (.pointer (some ⟨w.heap.size + 1, 2, none⟩)) hHeld rfl rfl (by kernel_rfl) (fun _ _ _ _ _ h => h) (by kernel_rfl) (by kernel_rfl) (by rfl) ?_ ?_
    · intro V hSw; (try dsimp only at hSw); go_simp
    simp only [Act.put, List.setIfInBounds_toArray, List.set_cons_zero, List.set_cons_succ]
    refine wpAnyH_one 13 36 (.pointer (some ⟨w.heap.size + 1, 2, none⟩)) hHeld rfl rfl (by kernel_rfl) (fun _ _ _ _ _ h => h) (by kernel_rfl) (by kernel_rfl) (by rfl) ?_ ?_
    · intro V hSw; (try dsimp only at hSw); go_simp
    simp only [Act.put, List.setIfInBounds_toArray, List.set_cons_zero, List.set_cons_succ]
    refine wpAnyH_one 14 37 (.int .i64 y) hHeld rfl rfl (by kernel_rfl) (fun _ _ _ _ _ h => h) (by kernel_rfl) (by kernel_rfl) (by rfl) ?_ ?_
    · intro V hSw; (try dsimp only at hSw); have k0 := cellLater (B := w.heap.size + 1) hSw (by omega) a2; go_simp
    simp only [Act.put, List.setIfInBounds_toArray, List.set_cons_zero, List.set_cons_succ]
    refine wpAnyH_ready (rs := [3]) (by kernel_rfl) (by simp) ?_
    refine AllReadyH.cons rfl (fun K hK => ?_) AllReadyH.nil
    go_simp
    go_wp2_with (go_at_call 22; refine (H1.out V0 (bc.trans (HB_V0.out.mono bc.size)) (HNl.out.later HB_V0.out)).mono ?_; rintro e V1 ⟨rfl, hb⟩; have HB_V1 := hid (HB_V0.out.trans (hb.mono HB_V0.out.size)); have HS_V1 := hid (HB_V1.out.size))
    refine hK.out _ _ HB_V1.out (fun hHeld => ?_)
    clear hK K
    refine wpAnyH_ready (rs := [9]) (by kernel_rfl) (by simp) ?_
    refine AllReadyH.cons rfl (fun K hK => ?_) AllReadyH.nil
    go_simp
    go_wp2_with (go_at_call 23; refine (H2.out V1 (HNl.out.later HB_V1.out)).mono ?_; rintro e V2 ⟨rfl, hb⟩; have HB_V2 := hid (HB_V1.out.trans (hb.mono HB_V1.out.size)); have HS_V2 := hid (HB_V2.out.size))
    refine hK.out _ _ HB_V2.out (fun hHeld => ?_)
    clear hK K
    refine wpAnyH_ready (rs := [15]) (by kernel_rfl) (by simp) ?_
    refine AllReadyH.cons rfl (fun K hK => ?_) AllReadyH.nil
    go_simp
    go_wp2_with (go_at_call 23; refine (H3.out V2 (HNl.out.later HB_V2.out)).mono ?_; rintro e V3 ⟨rfl, hb⟩; have HB_V3 := hid (HB_V2.out.trans (hb.mono HB_V2.out.size)); have HS_V3 := hid (HB_V3.out.size))
    refine hK.out _ _ HB_V3.out (fun hHeld => ?_)
    clear hK K
    refine wpAnyH_one 16 39 (.bool (D1 != D2)) hHeld rfl rfl (by kernel_rfl) (fun _ _ _ _ _ h => h) (by kernel_rfl) (by kernel_rfl) (by rfl) ?_ ?_
    · intro V hSw; (try dsimp only at hSw); go_simp; cases D1 <;> cases D2 <;> rfl
    simp only [Act.put, List.setIfInBounds_toArray, List.set_cons_zero, List.set_cons_succ]
    refine wpAnyH_one 17 6 (.bool CD) hHeld rfl rfl (by kernel_rfl) (fun _ _ _ _ _ h => h) (by kernel_rfl) (by kernel_rfl) (by rfl) ?_ ?_
    · intro V hSw; (try dsimp only at hSw); go_simp
    simp only [Act.put, List.setIfInBounds_toArray, List.set_cons_zero, List.set_cons_succ]
    refine wpAnyH_one 18 7 (.bool (D1 != D2)) hHeld rfl rfl (by kernel_rfl) (fun _ _ _ _ _ h => h) (by kernel_rfl) (by kernel_rfl) (by rfl) ?_ ?_
    · intro V hSw; (try dsimp only at hSw); go_simp
    simp only [Act.put, List.setIfInBounds_toArray, List.set_cons_zero, List.set_cons_succ]
    refine wpAnyH_one 19 8 (.int .i64 0) hHeld rfl rfl (by kernel_rfl) (fun _ _ _ _ _ h => h) (by kernel_rfl) (by kernel_rfl) (by rfl) ?_ ?_
    · intro V hSw; (try dsimp only at hSw); go_simp
    simp only [Act.put, List.setIfInBounds_toArray, List.set_cons_zero, List.set_cons_succ]
    refine wpAnyH_done (by kernel_rfl) ?_ _
    go_wp2_with fail
    exact bodyPost_ret (v := .tuple #[.bool CD, .bool (D1 != D2), .int .i64 0]) (by simp [results, Try.results8, go_sem]) rfl ⟨rfl, bc.trans (HB_V3.out.mono bc.size)⟩
end Go.Proofs.Ythkjkcojbepfmaa
