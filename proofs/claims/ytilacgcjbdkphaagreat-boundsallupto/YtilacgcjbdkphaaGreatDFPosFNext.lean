/- What compareDocumentPosition answers (positionOf, Compare). -/
/- The walk of Compare. -/
/- The walk of Common. -/
/- What containing goes with: plain. -/
/- Tree order: where nodes stand in the list of a tree, and what comes next: plain. -/
/- The node ahead of one in the order of its tree (plain). -/
/- The calls of order that ask one handle: All. -/
/- The node behind one in the order of its tree (siblingBehind, behind). -/
import Derived.Test.YtilacgcjbdkphaaGreatDFSkipHFInts
import Derived.Test.YtilacgcjbdkphaaGreatDFWellFCheck
import Derived.Deep.DeepCutAuto
namespace Go.Proofs.YtilacgcjbdkphaaGreat
open Go.RowKit Go.Lib Go.Shelf

/-- The error of a call of order, by its forest and its handles. -/
def toldE (ns : List NodeD) (hs : List Int) : Int := if rightD ns then (if hs.all (thereB ns.length) then 0 else 2) else 5
theorem toldE_ok {ns : List NodeD} {hs : List Int} (h1 : rightD ns = true) (h2 : hs.all (thereB ns.length) = true) : toldE ns hs = 0 := by unfold toldE; rw [h1, h2]; rfl

end Go.Proofs.YtilacgcjbdkphaaGreat

namespace Go.Proofs.YtilacgcjbdkphaaGreat
open Go.RowKit Go.Lib Go.Shelf

theorem toldE_zero {ns : List NodeD} {hs : List Int} (h : toldE ns hs = 0) : RightF ns ∧ ∀ x ∈ hs, thereB ns.length x = true := by
  unfold toldE at h
  cases hr : rightD ns with
  | false => rw [hr, if_neg Bool.false_ne_true] at h; omega
  | true =>
    rw [hr, if_pos rfl] at h
    cases ha : hs.all (thereB ns.length) with
    | false => rw [ha, if_neg Bool.false_ne_true] at h; omega
    | true => exact ⟨(rightD_iff ns).1 hr, fun x hx => List.all_eq_true.1 ha x hx⟩

end Go.Proofs.YtilacgcjbdkphaaGreat

namespace Go.Proofs.YtilacgcjbdkphaaGreat
open Go.RowKit Go.Lib Go.Shelf

end Go.Proofs.YtilacgcjbdkphaaGreat

namespace Go.Proofs.YtilacgcjbdkphaaGreat
open Go.RowKit Go.Lib

theorem lastI_append (p q : List Int) (h : q ≠ []) : lastI (p ++ q) = lastI q := by
  unfold lastI
  rw [List.getLastD_eq_getLast?, List.getLastD_eq_getLast?, List.getLast?_append]
  cases hq : q.getLast? with
  | none => exact absurd (List.getLast?_eq_none_iff.1 hq) h
  | some x => rfl
theorem idxI_none : ∀ (l : List Int) (x : Int) (k : Nat), x ∉ l → idxI l x k = -1
  | [], _, _, _ => rfl
  | y :: t, x, k, h => by
    unfold idxI
    rw [beq_eq_false_iff_ne.2 (fun e => h (by rw [e]; simp)), if_neg Bool.false_ne_true]
    exact idxI_none t x (k + 1) (fun hin => h (List.mem_cons_of_mem _ hin))
theorem idxI_in (l : List Int) (x : Int) : decide (0 ≤ idxI l x 0) = decide (x ∈ l) := by
  by_cases h : x ∈ l
  · obtain ⟨j, _, _, e⟩ := idxI_of l x 0 h
    rw [e, decide_eq_true h, decide_eq_true (by omega)]
  · rw [idxI_none l x 0 h, decide_eq_false h]
    rfl
section
variable {ns : List NodeD} {up : Int → Int} {hang : Int → List Int}
theorem Hangs.drop (h : Hangs ns up hang) : ∀ (j : Nat) (a : Int), thereB ns.length a = true → j < (pathUp ns up a).length → pathUp ns up ((pathUp ns up a).getD j 0) = (pathUp ns up a).drop j
  | 0, a, ha, _ => by
    rw [List.drop_zero]
    conv => lhs; rw [h.head ha]
    rfl
  | j + 1, a, ha, hj => by
    have hh := h.head ha
    rw [hh] at hj ⊢
    simp only [List.length_cons] at hj
    have h0 : up a ≠ 0 := fun e0 => by rw [e0, pathUp_zero] at hj; simp at hj
    have := h.drop j (up a) (h.up_there ha h0) (by omega)
    simpa using this
theorem Hangs.ne_nil (h : Hangs ns up hang) {a : Int} (ha : thereB ns.length a = true) : pathUp ns up a ≠ [] := by rw [h.head ha]; simp
end
theorem contains_mem (ns : List NodeD) (a b : Int) : containsD ns a b = true ↔ a ∈ pathUp ns (parentD ns) b := by
  unfold containsD
  rw [List.contains_eq_mem]
  exact decide_eq_true_iff
end Go.Proofs.YtilacgcjbdkphaaGreat

namespace Go.Proofs.YtilacgcjbdkphaaGreat
open Go.RowKit Go.Lib

section
variable {ns : List NodeD} {up : Int → Int} {hang : Int → List Int}
theorem Hangs.stable (h : Hangs ns up hang) : ∀ (f g : Nat) (x : Int), thereB ns.length x = true → ns.length < f + (pathUp ns up x).length → ns.length < g + (pathUp ns up x).length → belowF hang f x = belowF hang g x
  | 0, _, x, hx, hf, _ => by have := h.len hx; omega
  | _ + 1, 0, x, hx, _, hg => by have := h.len hx; omega
  | f + 1, g + 1, x, hx, hf, hg => by
    rw [belowF, belowF]
    congr 1
    rw [List.flatMap_def, List.flatMap_def]
    congr 1
    refine List.map_congr_left fun k hk => ?_
    have hd := h.deep hx hk
    exact h.stable f g k (h.down x k hx hk).1 (by omega) (by omega)
/-- All below, by the kids. -/
theorem Hangs.cons (h : Hangs ns up hang) {x : Int} (hx : thereB ns.length x = true) : belowF hang (ns.length + 1) x = x :: (hang x).flatMap (belowF hang (ns.length + 1)) := by
  rw [belowF]
  congr 1
  rw [List.flatMap_def, List.flatMap_def]
  congr 1
  refine List.map_congr_left fun k hk => ?_
  have hd := h.deep hx hk
  exact h.stable _ _ k (h.down x k hx hk).1 (by omega) (by omega)
end
theorem all_cons {ns : List NodeD} (h : RightF ns) {x : Int} (hx : thereB ns.length x = true) : allD ns x = x :: (kidsD ns x).flatMap (allD ns) := h.kidsHang.cons hx
theorem mem_all {ns : List NodeD} (h : RightF ns) {x : Int} (hx : thereB ns.length x = true) (y : Int) : y ∈ allD ns x ↔ thereB ns.length y = true ∧ x ∈ pathUp ns (parentD ns) y := h.kidsHang.below_iff (ns.length + 1) x y hx (by omega)
theorem all_once {ns : List NodeD} (h : RightF ns) {x : Int} (hx : thereB ns.length x = true) : (allD ns x).Nodup := h.kidsHang.below_once (ns.length + 1) x hx (by omega)
theorem cmpI_same (a : Int) : cmpI a a = 0 := by unfold cmpI; rw [if_neg (by omega), if_neg (by omega)]
/-- The first of some that is not 0. -/
def firstD (g : Int → Int) : List Int → Int
  | [] => 0
  | x :: t => if g x == 0 then firstD g t else g x
/-- A root has no parent. -/
theorem root_up {ns : List NodeD} (h : RightF ns) : ∀ (n : Nat) (x : Int), (pathUp ns (parentD ns) x).length ≤ n → thereB ns.length x = true → thereB ns.length (lastI (pathUp ns (parentD ns) x)) = true ∧ parentD ns (lastI (pathUp ns (parentD ns) x)) = 0 ∧ lastI (pathUp ns (parentD ns) x) ∈ pathUp ns (parentD ns) x
  | 0, x, hn, hx => by rw [h.kidsHang.head hx] at hn; simp at hn
  | n + 1, x, hn, hx => by
    have hh := h.kidsHang.head hx
    by_cases hp : parentD ns x = 0
    · rw [hh, hp, pathUp_zero]
      have e : lastI [x] = x := rfl
      rw [e]
      exact ⟨hx, hp, by simp⟩
    · have hpt := h.kidsHang.up_there hx hp
      obtain ⟨a, b, c⟩ := root_up h n (parentD ns x) (by rw [hh] at hn; simpa using hn) hpt
      have e : lastI (pathUp ns (parentD ns) x) = lastI (pathUp ns (parentD ns) (parentD ns x)) := by
        rw [hh]
        exact lastI_append [x] _ (h.kidsHang.ne_nil hpt)
      rw [e]
      exact ⟨a, b, by rw [hh]; exact List.mem_cons_of_mem _ c⟩
/-- Who lies in the tree of a root. -/
theorem in_tree {ns : List NodeD} (h : RightF ns) {a b : Int} (ha : thereB ns.length a = true) (hb : thereB ns.length b = true) : b ∈ allD ns (lastI (pathUp ns (parentD ns) a)) ↔ lastI (pathUp ns (parentD ns) a) = lastI (pathUp ns (parentD ns) b) := by
  obtain ⟨r1, r2, r3⟩ := root_up h _ a (Nat.le_refl _) ha
  rw [mem_all h r1]
  constructor
  · rintro ⟨_, hin⟩
    obtain ⟨pre, hp⟩ := h.kidsHang.suf hb hin
    rw [hp, lastI_append _ _ (h.kidsHang.ne_nil r1), h.kidsHang.head r1, r2, pathUp_zero]
    rfl
  · intro e
    rw [e]
    exact ⟨hb, (root_up h _ b (Nat.le_refl _) hb).2.2⟩
end Go.Proofs.YtilacgcjbdkphaaGreat

namespace Go.Proofs.YtilacgcjbdkphaaGreat
open Go.RowKit Go.Lib Go.Shelf

/-- A node's length: its kids, or its data. -/
def lengthD (n : NodeD) : Nat := n.kids.length + n.data.length
theorem length_data {n : NodeD} (h : bareD n = true) (hk : hasDataK n.kind = true) : lengthD n = n.data.length := by
  unfold bareD at h
  simp only [Bool.and_eq_true] at h
  have h7 := h.1.2
  have hkk : hasKidsK n.kind = false := by
    unfold hasDataK at hk
    unfold hasKidsK
    simp at hk
    rcases hk with ((hk | hk) | hk) | hk <;> rw [hk] <;> rfl
  rw [hkk] at h7
  simp at h7
  unfold lengthD
  rw [h7]
  simp
theorem length_kids {n : NodeD} (h : bareD n = true) (hk : hasDataK n.kind = false) : lengthD n = n.kids.length := by
  unfold bareD at h
  simp only [Bool.and_eq_true] at h
  have h6 := h.1.1.2
  rw [hk] at h6
  simp at h6
  unfold lengthD
  rw [h6]
  simp
end Go.Proofs.YtilacgcjbdkphaaGreat

namespace Go.Proofs.YtilacgcjbdkphaaGreat
open Go.RowKit Go.Lib Go.Shelf

theorem ownsRow_base {W : World} {base base' : Nat} {e : TypeId} {size : Nat} {v : Value} {k : Nat} {xs : List Value} (h : W.ownsRow base e size v k xs) (hb : base' ≤ base) : W.ownsRow base' e size v k xs := by
  refine ⟨h.1, ?_⟩
  rcases h.2 with a | ⟨g, cap, cur, hv, hg, rest⟩
  · exact .inl a
  · exact .inr ⟨g, cap, cur, hv, Nat.le_trans hb hg, rest⟩

set_option maxRecDepth 100000 in
set_option maxHeartbeats 2000000 in
theorem All1_any (b off cap u1 u2 : Nat) (x : Int) (ns : List NodeD) (w : World) (hR : RightF ns) (hF : FAt w b off cap ns) (hx : thereB ns.length x = true) (hkl : ∀ (i : Nat) (hi : i < ns.length), ns[i].kids.length ≤ 1099511627776) (hlen : (allD ns x).length ≤ 1099511627776)
    (c1 : w.cell? ⟨u1, 0, none⟩ = some (.slice (some ⟨b, off, none⟩) ns.length cap)) (c2 : w.cell? ⟨u2, 0, none⟩ = some (.int .i64 x)) :
    Calls Tryz.prog 104 #[.pointer (some ⟨u1, 0, none⟩), .pointer (some ⟨u2, 0, none⟩)] w fun e w' => ∃ v, e = .returned v ∧ w'.ownsRow w.heap.size 3 1 v (allD ns x).length ((allD ns x).map (Value.int .i64)) ∧ Below w.heap.size w w' := by
  have hP := listK_any b off cap x ns w hR hF hx hkl hlen
  unfold forestV at hP
  generalize allD ns x = P at *
  clear hkl hlen
  go_enter Tryz.func104, Tryz.ntmps104
  go_wp2_with fail
  refine hP.mono ?_
  rintro e v1 ⟨v, rfl, hrow, hb1⟩
  have HRow := hid hrow
  have HB := hid hb1
  clear hP hb1 hrow
  go_wp2
  exact bodyPost_ret (v := v) (by simp [results, Tryz.results104, go_sem]) rfl ⟨v, rfl, HRow.out, HB.out⟩

set_option maxRecDepth 100000 in
set_option maxHeartbeats 4000000 in
theorem toldAll_any (o : Option Addr) (cap u1 u2 : Nat) (R : List Int) (v : Value) (hs : List Int) (ns : List NodeD) (w : World) (hF : FRd w o cap ns) (hkl : ∀ (i : Nat) (hi : i < ns.length), ns[i].kids.length ≤ 1099511627776) (hal : ∀ (i : Nat) (hi : i < ns.length), ns[i].attrs.length ≤ 1099511627776) (hv : RdI w v hs) (hl : hs.length ≤ 1099511627776)
    (hT : toldE ns hs = 0 → ∀ W : World, Below w.heap.size w W → Calls Tryz.prog 104 #[.pointer (some ⟨u1, 0, none⟩), .pointer (some ⟨u2, 0, none⟩)] W fun e w' => ∃ v, e = .returned v ∧ w'.ownsRow w.heap.size 3 1 v R.length (R.map (Value.int .i64)) ∧ Below W.heap.size W w') :
    Calls Tryz.prog 103 #[.agg #[.slice o ns.length cap], .func (.func 104) #[] #[.pointer (some ⟨u1, 0, none⟩), .pointer (some ⟨u2, 0, none⟩)], v] w fun e w' => ∃ v, e = .returned (.tuple #[v, .int .i64 (toldE ns hs)]) ∧ w'.ownsRow w.heap.size 3 1 v (if toldE ns hs = 0 then R else []).length ((if toldE ns hs = 0 then R else []).map (Value.int .i64)) ∧ Below w.heap.size w w' := by
  have HC : Hid (∀ W : World, Below w.heap.size w W → _) := fun W hW => Check_any o cap ns W (hF.later hW) hkl hal
  have hle := hF.len
  obtain ⟨o2, c2, rfl, hc2, g2⟩ := hv
  clear hF hkl hal
  generalize checkN ns = CN at *
  cases hr : rightD ns with
  | false =>
    have e0 : toldE ns hs = 5 := by unfold toldE; rw [hr]; rfl
    have e1 : checkE ns = 5 := by unfold checkE; rw [hr]; rfl
    rw [e0, if_neg (by decide)]
    rw [e1] at HC
    clear hT e0 e1 g2
    go_enter Tryz.func103, Tryz.ntmps103
    go_wp2_with fail
    refine (HC.out _ ((Below.refl _ w).alloc (Nat.le_refl _) _)).mono ?_
    rintro e v1 ⟨rfl, hb1⟩
    go_wp2
    go_ret2
    exact ⟨_, rfl, World.ownsRow_nil _ _ _ _, box_go hb1⟩
  | true =>
    have e1 : checkE ns = 0 := (checkE_right hr).1
    rw [e1] at HC
    obtain ⟨E, hE⟩ : ∃ E, toldE ns hs = E := ⟨_, rfl⟩
    rw [hE] at hT ⊢
    have HE : Hid ((if (hs.drop 0).all (thereB ns.length) then (0 : Int) else 2) = E) := by
      have := hE
      unfold toldE at this
      rw [hr, if_pos rfl] at this
      exact this
    obtain ⟨T, hTe⟩ : ∃ T, (if E = 0 then R else []) = T := ⟨_, rfl⟩
    rw [hTe]
    have HTe := hid hTe
    have HT := hid hT
    clear hE hT e1 hTe
    go_enter Tryz.func103, Tryz.ntmps103
    go_wp2_with fail
    refine (HC.out _ ((Below.refl _ w).alloc (Nat.le_refl _) _)).mono ?_
    rintro e v1 ⟨rfl, hb1⟩
    have HB1 := hid (box_go hb1)
    have cb := box_forest hb1
    clear hb1 HC
    go_wp2
    go_loopw [24] (fun t wr => ∃ k : Nat, k ≤ hs.length ∧ t = .int .i64 k ∧ wr = v1 ∧ Hid ((if (hs.drop k).all (thereB ns.length) then (0 : Int) else 2) = E)) (fun t _ => hs.length - (RowKit.intOf t).toNat)
    case atStart => exact ⟨0, Nat.zero_le _, rfl, rfl, HE⟩
    case round =>
      obtain ⟨k, k1, rfl, rfl, hK⟩ := hrel
      by_cases hlt : k < hs.length
      · obtain ⟨b, off, rfl, hlt1, ha⟩ := g2 (by omega)
        have x1 := (HB1.out.cell (p := ⟨b, off + k, none⟩) hlt1).trans (ha k hlt)
        have q1 : (0 : Int) ≤ (k : Int) := by omega
        have q2 : (k : Int) < (hs.length : Int) := by omega
        have hk := hK.out
        rw [List.drop_eq_getElem_cons hlt, List.all_cons] at hk
        have Hk := hid hk
        clear hk hK ha g2
        generalize hs[k] = a at *
        by_cases g1 : a < 1
        · have hf : thereB ns.length a = false := by unfold thereB; rw [decide_eq_false (by omega)]; rfl
          have hE2 : E = 2 := by rw [← Hk.out, hf]; rfl
          subst hE2
          have hT0 : T = [] := by rw [← HTe.out]; rfl
          subst hT0
          have d1 : decide (a < 1) = true := decide_eq_true g1
          clear Hk hf HT
          go_wp2
          go_ret2
          exact ⟨_, rfl, World.ownsRow_nil _ _ _ _, HB1.out⟩
        · have d1 : decide (a < 1) = false := decide_eq_false g1
          by_cases g3 : (ns.length : Int) < a
          · have hf : thereB ns.length a = false := by unfold thereB; rw [decide_eq_false (p := a ≤ (ns.length : Int)) (by omega), Bool.and_false]
            have hE2 : E = 2 := by rw [← Hk.out, hf]; rfl
            subst hE2
            have hT0 : T = [] := by rw [← HTe.out]; rfl
            subst hT0
            have d2 : decide ((ns.length : Int) < a) = true := decide_eq_true g3
            clear Hk hf HT
            go_wp2
            go_ret2
            exact ⟨_, rfl, World.ownsRow_nil _ _ _ _, HB1.out⟩
          · have hf : thereB ns.length a = true := by unfold thereB; rw [decide_eq_true (by omega), decide_eq_true (by omega)]; rfl
            have d2 : decide ((ns.length : Int) < a) = false := decide_eq_false g3
            have Hn : Hid ((if (hs.drop (k + 1)).all (thereB ns.length) then (0 : Int) else 2) = E) := by
              have h := Hk.out
              rw [hf, Bool.true_and] at h
              exact h
            clear Hk hf
            go_wp2
            go_roundw
            case rel => exact ⟨k + 1, by omega, by go_num, trivial, Hn⟩
            case measure => simp [RowKit.intOf]; omega
      · have hE0 : E = 0 := by rw [← hK.out, List.drop_eq_nil_of_le (by omega)]; rfl
        subst hE0
        have hT := HT.out rfl wr HB1.out
        have hT0 : T = R := by rw [← HTe.out]; rfl
        subst hT0
        clear hK g2 HT HTe
        go_wp2_with fail
        refine hT.mono ?_
        rintro e v2 ⟨vr, rfl, hrow, hb2⟩
        have HB2 := hid (HB1.out.trans (hb2.mono HB1.out.size))
        have HRow := hid hrow
        clear hT hb2 hrow
        go_wp2
        go_ret2
        exact ⟨_, rfl, HRow.out, HB2.out⟩

set_option maxRecDepth 100000 in
set_option maxHeartbeats 4000000 in
theorem All_any (o : Option Addr) (cap : Nat) (x : Int) (ns : List NodeD) (w : World) (hF : FRd w o cap ns) (hkl : ∀ (i : Nat) (hi : i < ns.length), ns[i].kids.length ≤ 1099511627776) (hal : ∀ (i : Nat) (hi : i < ns.length), ns[i].attrs.length ≤ 1099511627776) (hlen : toldE ns [x] = 0 → (allD ns x).length ≤ 1099511627776) :
    Calls Tryz.prog 73 #[.agg #[.slice o ns.length cap], .int .i64 x] w fun e w' => ∃ v, e = .returned (.tuple #[v, .int .i64 (toldE ns [x])]) ∧ w'.ownsRow w.heap.size 3 1 v (if toldE ns [x] = 0 then allD ns x else []).length ((if toldE ns [x] = 0 then allD ns x else []).map (Value.int .i64)) ∧ Below w.heap.size w w' := by
  have hB3 : Below w.heap.size w (((w.alloc (.cells #[.slice o ns.length cap] 24)).alloc (.cells #[.int .i64 x] 3)).alloc (.cells #[.int .i64 x] 3)) := (((Below.refl _ w).alloc (Nat.le_refl _) _).alloc (by simp) _).alloc (by simp; omega) _
  have k0 := new_cell_l w (.slice o ns.length cap) 24
  have k1 := new_cell_l (w.alloc (.cells #[.slice o ns.length cap] 24)) (.int .i64 x) 3
  have kr := one_rdI ((w.alloc (.cells #[.slice o ns.length cap] 24)).alloc (.cells #[.int .i64 x] 3)) x 3
  simp only [World.size_alloc] at k1 kr
  have c0 := keep_cell_l (.cells #[.int .i64 x] 3) (keep_cell_l (.cells #[.int .i64 x] 3) k0.1)
  have c1 := keep_cell_l (.cells #[.int .i64 x] 3) k1.1
  have s0 : w.heap.size < (((w.alloc (.cells #[.slice o ns.length cap] 24)).alloc (.cells #[.int .i64 x] 3)).alloc (.cells #[.int .i64 x] 3)).heap.size := by simp only [World.size_alloc]; omega
  have hT := toldAll_any o cap w.heap.size (w.heap.size + 1) (allD ns x) (.slice (some ⟨w.heap.size + 1 + 1, 0, none⟩) 1 1) [x] ns (((w.alloc (.cells #[.slice o ns.length cap] 24)).alloc (.cells #[.int .i64 x] 3)).alloc (.cells #[.int .i64 x] 3)) (hF.later hB3) hkl hal kr (by simp) (fun hE W hW => by
    obtain ⟨hR, hth⟩ := toldE_zero hE
    have hx := hth x (by simp)
    obtain ⟨i, hi, _⟩ := there_idx hx
    obtain ⟨b, off, rfl, hFA⟩ := hF.at_ (by omega)
    have hBW := hB3.trans (hW.mono hB3.size)
    have h1 := All1_any b off cap w.heap.size (w.heap.size + 1) x ns W hR (hFA.later hBW) hx hkl (hlen hE)
      ((hW.cell (p := ⟨w.heap.size, 0, none⟩) s0).trans c0)
      ((hW.cell (p := ⟨w.heap.size + 1, 0, none⟩) (by show w.heap.size + 1 < _; simp only [World.size_alloc]; omega)).trans c1)
    refine h1.mono ?_
    rintro e w' ⟨v, rfl, hr, hb⟩
    exact ⟨v, rfl, ownsRow_base hr hW.size, hb⟩)
  generalize (if toldE ns [x] = 0 then allD ns x else []) = A at *
  generalize toldE ns [x] = E at *
  have HB3 := hid hB3
  clear k0 k1 kr c0 c1 s0 hF hkl hal hB3 hlen
  go_enter Tryz.func73, Tryz.ntmps73
  go_wp2_with fail
  refine hT.mono ?_
  rintro e v1 ⟨v, rfl, hrow, hb1⟩
  have HRow := hid (ownsRow_base hrow HB3.out.size)
  have HB := hid (HB3.out.trans (hb1.mono HB3.out.size))
  clear hT hb1 HB3 hrow
  go_wp2
  go_ret2
  exact ⟨_, rfl, HRow.out, HB.out⟩
end Go.Proofs.YtilacgcjbdkphaaGreat

namespace Go.Proofs.YtilacgcjbdkphaaGreat
open Go.RowKit Go.Lib Go.Shelf
attribute [local go_sem] Oper.semAt_some

theorem wrap_small {z : Int} (h1 : 0 ≤ z) (h2 : z ≤ 4398046511104) : IntKind.i64.wrap z = z := by
  simp [IntKind.wrap, IntKind.signed, IntKind.bits]
  omega
end Go.Proofs.YtilacgcjbdkphaaGreat

