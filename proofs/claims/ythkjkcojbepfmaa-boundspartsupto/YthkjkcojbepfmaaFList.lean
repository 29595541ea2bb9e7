/- What lies in a node, in tree order (listOf, whose inner function calls itself). -/
import Derived.Test.YthkjkcojbepfmaaFFork
import Derived.Test.YthkjkcojbepfmaaFBelow
import Derived.Test.YthkjkcojbepfmaaFColl
namespace Go.Proofs.Ythkjkcojbepfmaa
open Go.RowKit Go.Lib Go.Shelf

theorem boxed_later {W V : World} {B : Nat} {t : TypeId} {v : Value} (h : Boxed W B t v) (hb : Below W.heap.size W V) : Boxed V B t v := (hb.block B h.lt).trans h
theorem boxed_beside {W w1 : World} {n₀ B B' : Nat} {t' e : TypeId} {size : Nat} {v v' u : Value} {k : Nat} {xs : List Value} {tmp : Obj} (hu : Boxed W B' t' u) (hte : t' ≠ e) (hne : B' ≠ B) (hrow : W.ownsRow n₀ e size v k xs) (hgrow : (W.alloc tmp).grownBy w1 v.ownBlock) : Boxed (w1.setCell ⟨B, 0, none⟩ v') B' t' u :=
  ((hu.alloc tmp).kept hgrow (hu.not_row hte hrow)).other hne v'
theorem ownsRow_later {W V : World} {base : Nat} {e : TypeId} {size : Nat} {v : Value} {k : Nat} {xs : List Value} (h : W.ownsRow base e size v k xs) (hb : Below W.heap.size W V) : V.ownsRow base e size v k xs := by
  refine h.kept (grown_of_below hb) ?_
  rcases h.2 with ⟨rfl, _⟩ | ⟨g, cap, cur, rfl, _⟩
  · exact .inl rfl
  · exact .inr (by simp [Value.ownBlock])
theorem ownsRow_rdI {W : World} {base : Nat} {e : TypeId} {v : Value} {l : List Int} (h : W.ownsRow base e 1 v l.length (l.map (Value.int .i64))) : RdI W v l := by
  obtain ⟨_, ⟨rfl, h0⟩ | ⟨g, cp, cur, rfl, hg, hh, hnc, hcm, hcs, htk⟩⟩ := h
  · exact ⟨none, 0, by rw [h0], by omega, fun hp => absurd hp (by omega)⟩
  · refine ⟨_, cp, rfl, hnc, fun _ => ⟨g, 0, rfl, (Array.getElem?_eq_some_iff.1 hh).1, fun j hj => ?_⟩⟩
    rw [cell_of_heap hh, Nat.zero_add]
    have h1 : (cur.toList.take (l.length * 1))[j]? = some (.int .i64 l[j]) := by
      rw [htk, List.getElem?_map, List.getElem?_eq_getElem hj]
      rfl
    rw [List.getElem?_take] at h1
    split at h1
    · simpa using h1
    · cases h1

/-- The boxes of listOf's inner function. -/
structure VisitAt (W : World) (b off cap n hk bl bh bf bv : Nat) : Prop where
  hang : Boxed W bh 101 (.func (.func hk) #[] #[])
  forest : Boxed W bf 24 (.slice (some ⟨b, off, none⟩) n cap)
  visit : Boxed W bv 115 (.func (.func 59) #[] #[.pointer (some ⟨bl, 0, none⟩), .pointer (some ⟨bh, 0, none⟩), .pointer (some ⟨bf, 0, none⟩), .pointer (some ⟨bv, 0, none⟩)])
theorem VisitAt.later {W V : World} {b off cap n hk bl bh bf bv : Nat} (h : VisitAt W b off cap n hk bl bh bf bv) (hb : Below W.heap.size W V) : VisitAt V b off cap n hk bl bh bf bv := ⟨boxed_later h.hang hb, boxed_later h.forest hb, boxed_later h.visit hb⟩
/-- The list that grows. -/
def ListBox (W : World) (base bl : Nat) (l : List Int) : Prop := ∃ v, Boxed W bl 50 v ∧ W.ownsRow base 3 1 v l.length (l.map (Value.int .i64))
theorem ListBox.later {W V : World} {base bl : Nat} {l : List Int} (h : ListBox W base bl l) (hb : Below W.heap.size W V) : ListBox V base bl l := by
  obtain ⟨v, h1, h2⟩ := h
  exact ⟨v, boxed_later h1 hb, ownsRow_later h2 hb⟩

set_option maxRecDepth 100000 in
set_option maxHeartbeats 2000000 in
theorem kidsOf_at (b off cap i : Nat) (ns : List NodeD) (w W : World) (h : FAt w b off cap ns) (hb : Below w.heap.size w W) (hi : i < ns.length) :
    Calls Try.prog 50 #[forestV b off cap ns.length, .int .i64 ((i : Int) + 1)] W fun e w' => ∃ v, e = .returned v ∧ RdI w v ns[i].kids ∧ Below W.heap.size W w' := by
  have HN : Hid (∀ W : World, _) := fun W => onode_any b off cap ns.length i W hi h.len
  obtain ⟨L, hc, _, _, hk⟩ := h.at_ i hi
  have Hc := hid (hc.later h.lt hb)
  have Hk := hid hk
  have hlt := Nat.lt_of_lt_of_le h.lt hb.size
  have hle := h.len
  obtain ⟨o, c, hko, _⟩ := hk
  have Hko := hid hko
  clear h hc hko hb
  unfold forestV at *
  generalize ns[i] = x at *
  go_enter Try.func50, Try.ntmps50
  go_wp2_with fail
  refine (HN.out _).mono ?_
  rintro e v1 ⟨rfl, hb1⟩
  have c0 := (Hc.out.later hlt (box_go hb1)).kids
  rw [Hko.out] at c0
  go_wp2
  go_ret
  exact ⟨_, rfl, by have := Hk.out; rw [Hko.out] at this; exact this, box_go hb1⟩

set_option maxRecDepth 100000 in
set_option maxHeartbeats 8000000 in
theorem visitK_any (b off cap : Nat) (ns : List NodeD) (w : World) (hR : RightF ns) (hF : FAt w b off cap ns) (hkl : ∀ (i : Nat) (hi : i < ns.length), ns[i].kids.length ≤ 1099511627776) (bl bh bf bv : Nat) (lbl : w.heap.size ≤ bl) (nh : bh ≠ bl) (nf : bf ≠ bl) (nv : bv ≠ bl) :
    ∀ (f : Nat) (x : Int) (pre : List Int) (W : World), thereB ns.length x = true → ns.length < f + (pathUp ns (parentD ns) x).length → pre.length + (belowF (kidsD ns) f x).length ≤ 1099511627776 → VisitAt W b off cap ns.length 50 bl bh bf bv → ListBox W w.heap.size bl pre → Below w.heap.size w W →
      Calls Try.prog 59 #[.int .i64 x, .pointer (some ⟨bl, 0, none⟩), .pointer (some ⟨bh, 0, none⟩), .pointer (some ⟨bf, 0, none⟩), .pointer (some ⟨bv, 0, none⟩)] W fun e W' => (∃ v, e = .returned v) ∧ VisitAt W' b off cap ns.length 50 bl bh bf bv ∧ ListBox W' w.heap.size bl (pre ++ belowF (kidsD ns) f x) ∧ Below w.heap.size w W' := by
  obtain ⟨i0, hi, hz0, hz1, hz2⟩ := info_parts info_int
  intro f
  induction f with
  | zero =>
    intro x pre W hx hf _ _ _ _
    have := pathUp_len ns (parentD ns) hR.parentOK hR.ends x (.inr hx)
    omega
  | succ f ih =>
    intro x pre W hx hf hl hV hL hB
    obtain ⟨v, hv, hrow⟩ := hL
    obtain ⟨j, hj, rfl⟩ := there_idx hx
    have hkd : kidsD ns ((j : Int) + 1) = ns[j].kids := by unfold kidsD; rw [nodeOf_at ns j hj]
    have HE : Hid (pre ++ belowF (kidsD ns) (f + 1) ((j : Int) + 1) = (pre ++ [(j : Int) + 1]) ++ (ns[j].kids.drop 0).flatMap (belowF (kidsD ns) f)) := by
      show _ = _
      rw [belowF, hkd, List.append_assoc]
      rfl
    have hlen2 : (pre ++ belowF (kidsD ns) (f + 1) ((j : Int) + 1)).length ≤ 1099511627776 := by rw [List.length_append]; exact hl
    obtain ⟨T, hT⟩ : ∃ T, pre ++ belowF (kidsD ns) (f + 1) ((j : Int) + 1) = T := ⟨_, rfl⟩
    rw [hT] at HE hlen2 ⊢
    have hpl : pre.length + 1 ≤ 1099511627776 := by
      have h := congrArg List.length HE.out
      rw [List.length_append, List.length_append] at h
      simp only [List.length_cons, List.length_nil] at h
      omega
    have HK : Hid (∀ V : World, Below w.heap.size w V → _) := fun V hV => kidsOf_at b off cap j ns w V hF hV hj
    have HIH : Hid (∀ (y : Int) (acc : List Int) (V : World), y ∈ ns[j].kids → acc.length + (belowF (kidsD ns) f y).length ≤ 1099511627776 → VisitAt V b off cap ns.length 50 bl bh bf bv → ListBox V w.heap.size bl acc → Below w.heap.size w V → _) := fun y acc V hy hac hV2 hL2 hB2 => by
      obtain ⟨n, hn, hp⟩ := (hR.kids j hj).1 y hy
      obtain ⟨i, hi2, e, e2⟩ := nodeOf_idx hn
      have hyt : thereB ns.length y = true := by rw [e]; exact thereB_idx _ _ hi2
      have hpy : parentD ns y = (j : Int) + 1 := by rw [e, parentD_at ns i hi2, ← hp, ← e2]
      refine ih y acc V hyt ?_ hac hV2 hL2 hB2
      rw [pathUp_head hR hyt, hpy, List.length_cons]
      omega
    have hkl' := hkl j hj
    clear ih hkl hF hf hl hT hkd hx
    have c1 := hv.cell
    have m1 : pre.length + 1 ≤ maxLen := Nat.le_trans hpl (by decide)
    have m2 : (pre.length + 1) * 8 ≤ 140737488355328 := by omega
    have m3 : w.heap.size ≤ (W.alloc (.cells #[.int .i64 ((j : Int) + 1)] 3)).heap.size := by have := hB.size; simp; omega
    unfold forestV at HK
    generalize ns[j].kids = ks at *
    have HV := hid hV
    have HB := hid hB
    clear hV hB
    go_enter Try.func59, Try.ntmps59
    go_wp2_with (at_builtin; refine wpList_append_own _ rfl _ _ 50 rfl w.heap.size 3 i0 (.int .i64 0) 1 8 Try.underlying50 hi hz0 hz1 hz2 rfl (by decide) _ _ _ rfl (hrow.alloc _) ⟨W.heap.size, 0, none⟩ 1 1 [.int .i64 ((j : Int) + 1)] rfl rfl (cell_one_new _ _ _) (by simp [Value.oneCell']) m1 m2 m3 ?_; intro v' w1 hown' hgrow _; obtain ⟨g', cap', rfl⟩ := ownsRow_succ hown'; obtain ⟨hv1, hv2, hr2, hk2, hb2⟩ := hv.appended (by decide) hrow HB.out.size lbl hown' hgrow; have hc1 := hv1.cell; have hf1 := hv1.frozen; have e1 := (boxed_beside HV.out.hang (B := bl) (v' := .slice (some ⟨g', 0, none⟩) (pre.length + 1) cap') (by decide) nh hrow hgrow).cell; have e2 := (boxed_beside HV.out.forest (B := bl) (v' := .slice (some ⟨g', 0, none⟩) (pre.length + 1) cap') (by decide) nf hrow hgrow).cell)
    have HV2 : Hid (VisitAt (w1.setCell ⟨bl, 0, none⟩ (.slice (some ⟨g', 0, none⟩) (pre.length + 1) cap')) b off cap ns.length 50 bl bh bf bv) := ⟨boxed_beside HV.out.hang (by decide) nh hrow hgrow, boxed_beside HV.out.forest (by decide) nf hrow hgrow, boxed_beside HV.out.visit (by decide) nv hrow hgrow⟩
    have HL2 : Hid (ListBox (w1.setCell ⟨bl, 0, none⟩ (.slice (some ⟨g', 0, none⟩) (pre.length + 1) cap')) w.heap.size bl (pre ++ [(j : Int) + 1])) := ⟨_, hv2, by simpa using hr2⟩
    have HB2 := hid (HB.out.trans hb2)
    have hK := HK.out _ HB2.out
    clear HK HV HB hv hrow hgrow hown' hv1 hv2 hr2 hk2 hb2 hc1 hf1 e1 e2 c1 m1 m2 m3 hi hz0 hz1 hz2
    refine hK.mono ?_
    clear hK
    rintro e v3 ⟨vk, rfl, hrk, hb3⟩
    have HV3 := hid (HV2.out.later hb3)
    have HL3 := hid (HL2.out.later hb3)
    have HB3 := hid (HB2.out.trans (hb3.mono HB2.out.size))
    clear HV2 HL2 HB2 hb3
    obtain ⟨ok, ck, rfl, hck, gk⟩ := hrk
    go_wp2
    go_loopw [17] (fun t wr => ∃ (k : Nat) (acc : List Int), k ≤ ks.length ∧ t = .int .i64 k ∧ Hid (T = acc ++ (ks.drop k).flatMap (belowF (kidsD ns) f)) ∧ Hid (VisitAt wr b off cap ns.length 50 bl bh bf bv) ∧ Hid (ListBox wr w.heap.size bl acc) ∧ Hid (Below w.heap.size w wr)) (fun t _ => ks.length - (RowKit.intOf t).toNat)
    case atStart => exact ⟨0, _, Nat.zero_le _, rfl, HE, HV3, HL3, HB3⟩
    case round =>
      obtain ⟨k, acc, hk, rfl, hE, hV, hL, hB⟩ := hrel
      clear HE HV3 HL3 HB3
      by_cases hlt : k < ks.length
      · obtain ⟨bk, offk, rfl, hltk, hak⟩ := gk (by omega)
        have x1 := (hB.out.cell (p := ⟨bk, offk + k, none⟩) hltk).trans (hak k hlt)
        have cv := hV.out.visit.cell
        have q1 : (0 : Int) ≤ (k : Int) := by omega
        have q2 : (k : Int) < (ks.length : Int) := by omega
        have hE' := hE.out
        rw [List.drop_eq_getElem_cons hlt, List.flatMap_cons, ← List.append_assoc] at hE'
        have hln : acc.length + (belowF (kidsD ns) f ks[k]).length ≤ 1099511627776 := by
          have h := congrArg List.length hE'
          rw [List.length_append, List.length_append] at h
          omega
        have hI := HIH.out ks[k] acc wr (List.getElem_mem hlt) hln hV.out hL.out hB.out
        have HE2 := hid hE'
        clear hE' hE hln HIH gk hak hV hL hB
        generalize ks[k] = y at *
        go_wp2_with fail
        refine hI.mono ?_
        clear hI
        rintro e v4 ⟨⟨u, rfl⟩, hV4, hL4, hB4⟩
        have HV4 := hid hV4
        have HL4 := hid hL4
        have HB4 := hid hB4
        clear hV4 hL4 hB4 cv x1
        go_wp2
        go_roundw
        case rel => exact ⟨k + 1, _, by omega, by go_num, HE2, HV4, HL4, HB4⟩
        case measure => simp [RowKit.intOf]; omega
      · have hT : T = acc := by
          have h := hE.out
          rw [List.drop_eq_nil_of_le (by omega), List.flatMap_nil, List.append_nil] at h
          exact h
        have HL5 : Hid (ListBox wr w.heap.size bl T) := by rw [hT]; exact hL
        clear hE hT hL HIH gk
        go_wp2
        go_end0
        exact ⟨⟨_, rfl⟩, hV.out, HL5.out, hB.out⟩
end Go.Proofs.Ythkjkcojbepfmaa
