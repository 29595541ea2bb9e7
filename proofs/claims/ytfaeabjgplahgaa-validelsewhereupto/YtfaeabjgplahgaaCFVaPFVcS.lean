/- Which nodes may be put where (valid), plain: the program's rules and the reference's are one. -/
/- valid: judged. -/
/- valid: Insert, Replace, Adopt. -/
/- valid: Insert, Replace, Adopt, of any forest. -/
/- The small forest of the statements of valid; what is asked of it first. -/
import Derived.Test.YtfaeabjgplahgaaCFVaQFVaD
import Derived.Test.YtfaeabjgplahgaaCFR4AFConcat
import Derived.Test.YtfaeabjgplahgaaCFVaEFVaH
import Derived.Test.YtfaeabjgplahgaaCFRangeFBeg
namespace Go.Proofs.Ytfaeabjgplahgaa
open Go.RowKit Go.Lib Go.Shelf

def judgeD (ns : List NodeD) (rep : Bool) (x p c : Int) : Int :=
  if hasKidsK (kindD ns p) then
    if holdsD ns x p then 10
    else if c != 0 && parentD ns c != p then 11
    else if fitsD (kindD ns p) (kindD ns x) then
      if kindD ns p == 9 then (if takesD ns x (cutD rep (kidsD ns p) c).1 (cutD rep (kidsD ns p) c).2 then 0 else 10) else 0
    else 10
  else 10
def rulesR (ns : List NodeD) (rep : Bool) (x p c : Int) : Int :=
  if !hasKidsK (kindD ns p) || holdsD ns x p then 10
  else if c != 0 && parentD ns c != p then 11
  else if kindD ns x == 9 || kindD ns x == 12 then 10
  else if (isTextK (kindD ns x) && kindD ns p == 9) || (kindD ns x == 10 && !(kindD ns p == 9)) then 10
  else if kindD ns p == 9 && !documentR ns p x c rep then 10 else 0

theorem vcount_any (f : Int → Bool) (l : List Int) : decide (0 < l.countP f) = l.any f := by
  rw [Bool.eq_iff_iff, decide_eq_true_iff, List.countP_pos_iff, List.any_eq_true]
theorem vcount_none (f : Int → Bool) (l : List Int) : (l.countP f == 0) = !(l.any f) := by
  rw [← vcount_any]
  by_cases h : l.countP f = 0
  · rw [h]; rfl
  · rw [decide_eq_true (by omega), beq_eq_false_iff_ne.2 h]; rfl
theorem vcount_one (f : Int → Bool) : ∀ l : List Int, (l.countP f == 1) = (l.any f && !((l.drop (l.findIdx f + 1)).any f))
  | [] => rfl
  | x :: t => by
    cases hx : f x with
    | true =>
      rw [List.countP_cons_of_pos hx, List.any_cons, hx, List.findIdx_cons, hx, Bool.true_or, Bool.true_and]
      show (t.countP f + 1 == 1) = !(t.any f)
      rw [← vcount_none]
      by_cases h : t.countP f = 0
      · rw [h]; rfl
      · rw [beq_eq_false_iff_ne.2 h, beq_eq_false_iff_ne.2 (by omega)]
    | false =>
      rw [List.countP_cons_of_neg (by rw [hx]; exact Bool.false_ne_true), List.any_cons, hx, List.findIdx_cons, hx, Bool.false_or, vcount_one f t]
      rfl
theorem any_text (ns : List NodeD) (l : List Int) : textsR ns l = l.any (isT ns) := by
  unfold textsR
  rw [Bool.eq_iff_iff, decide_eq_true_iff, List.any_eq_true]
  constructor
  · intro h
    rcases (by omega : 0 < l.countP (isK ns 3) ∨ 0 < l.countP (isK ns 4)) with h | h
    · obtain ⟨y, hy, e⟩ := List.countP_pos_iff.1 h
      exact ⟨y, hy, by unfold isK at e; unfold isT isTextK; rw [e]; rfl⟩
    · obtain ⟨y, hy, e⟩ := List.countP_pos_iff.1 h
      exact ⟨y, hy, by unfold isK at e; unfold isT isTextK; rw [e]; exact Bool.or_true _⟩
  · rintro ⟨y, hy, e⟩
    unfold isT isTextK at e
    rcases Bool.or_eq_true_iff.1 e with e | e
    · have := List.countP_pos_iff.2 ⟨y, hy, (by unfold isK; exact e : isK ns 3 y = true)⟩
      omega
    · have := List.countP_pos_iff.2 ⟨y, hy, (by unfold isK; exact e : isK ns 4 y = true)⟩
      omega
/-- A kid parts its list. -/
theorem kid_parts {ks : List Int} {c : Int} (hc : c ∈ ks) : ks.idxOf c < ks.length ∧ ks.drop (ks.idxOf c) = c :: ks.drop (ks.idxOf c + 1) ∧ ks = ks.take (ks.idxOf c) ++ c :: ks.drop (ks.idxOf c + 1) := by
  have h := List.idxOf_lt_length_of_mem hc
  have e := List.drop_eq_getElem_cons h
  rw [List.getElem_idxOf h] at e
  refine ⟨h, e, ?_⟩
  rw [← e, List.take_append_drop]
theorem without_kid {ks : List Int} {c : Int} (hc : c ∈ ks) (ho : ks.Nodup) : ks.filter (fun y => !(y == c)) = ks.take (ks.idxOf c) ++ ks.drop (ks.idxOf c + 1) := by
  obtain ⟨_, _, e⟩ := kid_parts hc
  generalize ks.take (ks.idxOf c) = a at *
  generalize ks.drop (ks.idxOf c + 1) = b at *
  subst e
  have hn := List.nodup_append.1 ho
  have h1 : c ∉ a := fun h => hn.2.2 c h c (by simp) rfl
  have h2 : c ∉ b := (List.nodup_cons.1 hn.2.1).1
  rw [List.filter_append, List.filter_cons_of_neg (by simp)]
  congr 1
  · exact List.filter_eq_self.2 (fun y hy => by simp; exact fun e => h1 (e ▸ hy))
  · exact List.filter_eq_self.2 (fun y hy => by simp; exact fun e => h2 (e ▸ hy))
theorem any_parts (f : Int → Bool) {ks : List Int} {c : Int} (hc : c ∈ ks) : ks.any f = ((ks.take (ks.idxOf c)).any f || (f c || (ks.drop (ks.idxOf c + 1)).any f)) := by
  conv => lhs; rw [(kid_parts hc).2.2]
  rw [List.any_append, List.any_cons]
theorem el_same {ns : List NodeD} {ks : List Int} {c : Int} (rep : Bool) (ho : ks.Nodup) (hc : (c ∈ ks ∧ c ≠ 0) ∨ (c = 0 ∧ rep = false)) : elementR ns ks c rep = takesElD ns (cutD rep ks c).1 (cutD rep ks c).2 := by
  unfold elementR takesElD cutD othersD behindR
  rw [vcount_any, vcount_any]
  cases rep with
  | true =>
    obtain ⟨hc, h0⟩ := hc.resolve_right (fun h => Bool.noConfusion h.2)
    rw [if_pos rfl, if_pos rfl, without_kid hc ho, List.any_append, beq_eq_false_iff_ne.2 h0, if_neg Bool.false_ne_true]
    simp only []
    generalize (ks.take (ks.idxOf c)).any (isK ns 1) = A
    generalize (ks.drop (ks.idxOf c + 1)).any (isK ns 1) = B
    generalize (ks.drop (ks.idxOf c + 1)).any (isK ns 10) = D
    cases A <;> cases B <;> cases D <;> rfl
  | false =>
    rw [if_neg Bool.false_ne_true, if_neg Bool.false_ne_true]
    rcases hc with ⟨hc, h0⟩ | ⟨rfl, _⟩
    · rw [beq_eq_false_iff_ne.2 h0, if_neg Bool.false_ne_true, if_neg Bool.false_ne_true, any_parts (isK ns 1) hc]
      simp only []
      rw [(kid_parts hc).2.1, List.any_cons, List.any_cons, show isK ns 10 c = (kindD ns c == 10) from rfl]
      generalize (ks.take (ks.idxOf c)).any (isK ns 1) = A
      generalize (ks.drop (ks.idxOf c + 1)).any (isK ns 1) = B
      generalize (ks.drop (ks.idxOf c + 1)).any (isK ns 10) = D
      generalize isK ns 1 c = F
      generalize (kindD ns c == 10) = G
      cases A <;> cases B <;> cases D <;> cases F <;> cases G <;> rfl
    · rw [show ((0 : Int) == 0) = true from rfl, if_pos rfl, if_pos rfl]
      simp only [List.any_nil]
      generalize ks.any (isK ns 1) = A
      cases A <;> rfl
theorem dt_same {ns : List NodeD} {ks : List Int} {c : Int} (rep : Bool) (ho : ks.Nodup) (hc : (c ∈ ks ∧ c ≠ 0) ∨ (c = 0 ∧ rep = false)) : doctypeR ns ks c rep = takesDtD ns (cutD rep ks c).1 (cutD rep ks c).2 := by
  unfold doctypeR takesDtD cutD othersD aheadR
  rw [vcount_none, vcount_none]
  cases rep with
  | true =>
    obtain ⟨hc, h0⟩ := hc.resolve_right (fun h => Bool.noConfusion h.2)
    rw [if_pos rfl, if_pos rfl, without_kid hc ho, List.any_append, beq_eq_false_iff_ne.2 h0, if_neg Bool.false_ne_true]
    simp only []
    generalize (ks.take (ks.idxOf c)).any (isK ns 10) = A
    generalize (ks.drop (ks.idxOf c + 1)).any (isK ns 10) = B
    generalize (ks.take (ks.idxOf c)).any (isK ns 1) = D
    cases A <;> cases B <;> cases D <;> rfl
  | false =>
    rw [if_neg Bool.false_ne_true, if_neg Bool.false_ne_true]
    rcases hc with ⟨hc, h0⟩ | ⟨rfl, _⟩
    · rw [beq_eq_false_iff_ne.2 h0, if_neg Bool.false_ne_true, if_neg Bool.false_ne_true, any_parts (isK ns 10) hc]
      simp only []
      rw [(kid_parts hc).2.1, List.any_cons]
      generalize (ks.take (ks.idxOf c)).any (isK ns 10) = A
      generalize (ks.drop (ks.idxOf c + 1)).any (isK ns 10) = B
      generalize (ks.take (ks.idxOf c)).any (isK ns 1) = D
      generalize isK ns 10 c = F
      cases A <;> cases B <;> cases D <;> cases F <;> rfl
    · rw [show ((0 : Int) == 0) = true from rfl, if_pos rfl, if_pos rfl]
      simp only [List.any_nil]
      generalize ks.any (isK ns 10) = A
      generalize ks.any (isK ns 1) = B
      cases A <;> cases B <;> rfl
theorem doc_same {ns : List NodeD} {p x c : Int} (rep : Bool) (ho : (kidsD ns p).Nodup) (hc : (c ∈ kidsD ns p ∧ c ≠ 0) ∨ (c = 0 ∧ rep = false)) : documentR ns p x c rep = takesD ns x (cutD rep (kidsD ns p) c).1 (cutD rep (kidsD ns p) c).2 := by
  unfold documentR takesD takesFrD
  rw [el_same rep ho hc, dt_same rep ho hc, any_text, vcount_none, vcount_one]
  generalize takesElD ns (cutD rep (kidsD ns p) c).1 (cutD rep (kidsD ns p) c).2 = A
  generalize (kidsD ns x).any (isT ns) = T
  generalize ((kidsD ns x).drop ((kidsD ns x).findIdx (isK ns 1) + 1)).any (isK ns 1) = B
  generalize (kidsD ns x).any (isK ns 1) = C
  cases A <;> cases T <;> cases B <;> cases C <;> rfl
/-- The program's rules are the reference's. -/
theorem rules_same {ns : List NodeD} (h : RightF ns) {x p c : Int} (rep : Bool) (hp : thereB ns.length p = true) (hc : thereB ns.length c = true ∨ (c = 0 ∧ rep = false)) : judgeD ns rep x p c = rulesR ns rep x p c := by
  unfold judgeD rulesR
  cases hk : hasKidsK (kindD ns p) with
  | false => rfl
  | true =>
    cases hh : holdsD ns x p with
    | true => rfl
    | false =>
      rw [if_pos rfl, if_neg Bool.false_ne_true, show (!true || false) = false from rfl, if_neg Bool.false_ne_true]
      cases hq : (c != 0 && parentD ns c != p) with
      | true => rfl
      | false =>
        rw [if_neg Bool.false_ne_true, if_neg Bool.false_ne_true]
        have hc2 : (c ∈ kidsD ns p ∧ c ≠ 0) ∨ (c = 0 ∧ rep = false) := by
          rcases hc with ht | hz
          · have h0 := there_ne ht
            have hcp : parentD ns c = p := by
              rw [show (c != 0) = true by rw [bne, beq_eq_false_iff_ne.2 h0]; rfl, Bool.true_and] at hq
              by_cases e : parentD ns c = p
              · exact e
              · rw [bne, beq_eq_false_iff_ne.2 e] at hq; cases hq
            have hm := h.kid ht (by rw [hcp]; exact there_ne hp)
            rw [hcp] at hm
            exact .inl ⟨hm, h0⟩
          · exact .inr hz
        rw [doc_same rep (h.kidsHang.once p hp) hc2]
        unfold fitsD
        generalize takesD ns x (cutD rep (kidsD ns p) c).1 (cutD rep (kidsD ns p) c).2 = T
        by_cases e9 : kindD ns x = 9
        · rw [e9]; rfl
        by_cases e12 : kindD ns x = 12
        · rw [e12]; rfl
        rw [beq_eq_false_iff_ne.2 e9, beq_eq_false_iff_ne.2 e12, Bool.or_false, if_neg Bool.false_ne_true, if_neg Bool.false_ne_true]
        by_cases e10 : kindD ns x = 10
        · rw [e10]
          generalize (kindD ns p == 9) = D
          cases T <;> cases D <;> rfl
        · rw [beq_eq_false_iff_ne.2 e10, if_neg Bool.false_ne_true, Bool.false_and, Bool.or_false]
          generalize (kindD ns p == 9) = D
          generalize isTextK (kindD ns x) = X
          cases T <;> cases D <;> cases X <;> rfl
end Go.Proofs.Ytfaeabjgplahgaa

namespace Go.Proofs.Ytfaeabjgplahgaa
open Go.RowKit Go.Lib Go.Shelf Go.Maps

theorem cut_sub (rep : Bool) (ks : List Int) (c : Int) : (∀ y ∈ (cutD rep ks c).1, y ∈ ks) ∧ (∀ y ∈ (cutD rep ks c).2, y ∈ ks) ∧ (cutD rep ks c).1.length ≤ ks.length ∧ (cutD rep ks c).2.length ≤ ks.length := by
  unfold cutD
  split
  · exact ⟨fun y hy => List.mem_of_mem_take hy, fun y hy => List.mem_of_mem_drop hy, by rw [List.length_take]; omega, by rw [List.length_drop]; omega⟩
  · split
    · exact ⟨fun y hy => hy, fun y hy => absurd hy List.not_mem_nil, Nat.le_refl _, Nat.zero_le _⟩
    · exact ⟨fun y hy => List.mem_of_mem_take hy, fun y hy => List.mem_of_mem_drop hy, by rw [List.length_take]; omega, by rw [List.length_drop]; omega⟩

set_option maxRecDepth 100000 in
set_option maxHeartbeats 4000000 in
theorem judged_no (o : Option Addr) (cap fn : Nat) (x p c E : Int) (v : Value) (ns : List NodeD) (w : World) (hE : (E != 0) = true) (HM : Hid (∀ W : World, Below w.heap.size w W → Calls Try.prog 17 #[.agg #[.slice o ns.length cap], v] W fun e w' => e = .returned (.int .i64 E) ∧ Below W.heap.size W w')) :
    Calls Try.prog 14 #[.agg #[.slice o ns.length cap, .int .i64 x, .int .i64 p, .int .i64 c], .func (.func fn) #[] #[], v] w fun e w' => e = .returned (.int .i64 E) ∧ Below w.heap.size w w' := by
  have hB1 : Below w.heap.size w (w.alloc (.cells #[.slice o ns.length cap, .int .i64 x, .int .i64 p, .int .i64 c] 50)) := (Below.refl _ w).alloc (Nat.le_refl _) _
  have hM := HM.out _ hB1
  clear HM
  go_enter Try.func14, Try.ntmps14
  go_wp2_with fail
  refine hM.mono ?_
  rintro e v1 ⟨rfl, hb⟩
  have HB := hid (hB1.trans (hb.mono hB1.size))
  clear hb hM hB1
  go_wp2
  go_ret
  exact ⟨rfl, HB.out⟩

set_option maxRecDepth 100000 in
set_option maxHeartbeats 16000000 in
theorem judgedA0 (b off cap jx jp : Nat) (v vk : Value) (ok : Option Addr) (ck : Nat) (ks : List Int) (ns : List NodeD) (w : World) (K1 HO FI DD TK : Bool) (KP : Nat) (hjp : jp < ns.length) (hlen : ns.length ≤ 1099511627776) (hvk : vk = .slice ok ks.length ck)
    (HkC : Hid (∀ V : World, Below w.heap.size w V → V.cell? ⟨b, off + jp * 16 + 9, none⟩ = some vk))
    (HM : Hid (∀ W : World, Below w.heap.size w W → Calls Try.prog 17 #[.agg #[.slice (some ⟨b, off, none⟩) ns.length cap], v] W fun e w' => e = .returned (.int .i64 0) ∧ Below W.heap.size W w'))
    (HKp : Hid (∀ W : World, Below w.heap.size w W → Calls Try.prog 18 #[.agg #[.slice (some ⟨b, off, none⟩) ns.length cap], .int .i64 ((jp : Int) + 1)] W fun e w' => e = .returned (.int .u8 (KP : Int)) ∧ Below W.heap.size W w'))
    (HMk : Hid (∀ W : World, Calls Try.prog 22 #[.int .u8 (KP : Int)] W fun e w' => e = .returned (.bool K1) ∧ w' = W))
    (HH : Hid (∀ W : World, Below w.heap.size w W → Calls Try.prog 23 #[.agg #[.slice (some ⟨b, off, none⟩) ns.length cap], .int .i64 ((jx : Int) + 1), .int .i64 ((jp : Int) + 1)] W fun e w' => e = .returned (.tuple #[.bool HO, .int .i64 0]) ∧ Below W.heap.size W w'))
    (HFi : Hid (∀ W : World, Below w.heap.size w W → Calls Try.prog 24 #[.agg #[.slice (some ⟨b, off, none⟩) ns.length cap, .int .i64 ((jx : Int) + 1), .int .i64 ((jp : Int) + 1), .int .i64 (0 : Int)]] W fun e w' => e = .returned (.bool FI) ∧ Below W.heap.size W w'))
    (hD : ((KP : Int) == 9) = DD)
    (HCut : Hid (DD = true → ∀ W : World, Below w.heap.size w W → Calls Try.prog 15 #[vk, .int .i64 (0 : Int)] W fun e w' => ∃ va vb, e = .returned (.tuple #[va, vb]) ∧ Below W.heap.size W w' ∧ ∃ o1 n1 c1 o2 n2 c2, va = .slice o1 n1 c1 ∧ vb = .slice o2 n2 c2 ∧ ∀ V : World, Below w.heap.size w V → Calls Try.prog 25 #[gapV b off cap ns.length (.slice o1 n1 c1) (.slice o2 n2 c2), .int .i64 ((jx : Int) + 1)] V fun e w'' => e = .returned (.bool TK) ∧ Below V.heap.size V w'')) :
    Calls Try.prog 14 #[.agg #[.slice (some ⟨b, off, none⟩) ns.length cap, .int .i64 ((jx : Int) + 1), .int .i64 ((jp : Int) + 1), .int .i64 (0 : Int)], .func (.func 15) #[] #[], v] w fun e w' => e = .returned (.int .i64 (if K1 then (if HO then 10 else (if FI then (if DD then (if TK then 0 else 10) else 0) else 10)) else 10)) ∧ Below w.heap.size w w' := by
  have HB0 : Hid (Below (w.alloc (.cells #[.slice (some ⟨b, off, none⟩) ns.length cap, .int .i64 ((jx : Int) + 1), .int .i64 ((jp : Int) + 1), .int .i64 (0 : Int)] 50)).heap.size (w.alloc (.cells #[.slice (some ⟨b, off, none⟩) ns.length cap, .int .i64 ((jx : Int) + 1), .int .i64 ((jp : Int) + 1), .int .i64 (0 : Int)] 50)) (w.alloc (.cells #[.slice (some ⟨b, off, none⟩) ns.length cap, .int .i64 ((jx : Int) + 1), .int .i64 ((jp : Int) + 1), .int .i64 (0 : Int)] 50))) := Below.refl _ _
  subst hvk
  have p1 : (0 : Int) ≤ (jp : Int) := by omega
  have p2 : (jp : Int) < (ns.length : Int) := by omega
  have pw : IntKind.i64.wrap ((jp : Int) + 1 - 1) = (jp : Int) := by rw [vwrap (by omega) (by omega)]; omega
  have pv : IntKind.i64.wrap (jp : Int) = (jp : Int) := vwrap (by omega) (by omega)
  have pn : ((jp : Int)).toNat = jp := by omega
  go_enter Try.func14, Try.ntmps14
  go_wp2_with fail
  refine (HM.out _ (box_go HB0.out)).mono ?_
  rintro e v1 ⟨rfl, hb⟩
  have HB1 := hid ((HB0).out.trans (hb.mono (HB0).out.size))
  obtain ⟨d0, d1, d2, d3⟩ := box4 HB1.out
  clear hb HB0 HM
  go_wp2_with fail
  refine (HKp.out _ (box_go HB1.out)).mono ?_
  rintro e v2 ⟨rfl, hb⟩
  have HB2 := hid (HB1.out.trans (hb.mono HB1.out.size))
  clear hb HB1 d0 d1 d2 d3
  obtain ⟨d0, d1, d2, d3⟩ := box4 HB2.out
  go_wp2_with fail
  refine (HMk.out _).mono ?_
  rintro e v2' ⟨rfl, e2⟩
  have e2 := e2.symm
  subst e2
  clear HMk
  cases K1 with
  | false =>
    clear HKp HH HFi HCut HkC 
    go_wp2
    go_ret
    exact ⟨rfl, box_go HB2.out⟩
  | true =>
    go_wp2_with fail
    refine (HH.out _ (box_go HB2.out)).mono ?_
    rintro e v3 ⟨rfl, hb⟩
    have HB3 := hid (HB2.out.trans (hb.mono HB2.out.size))
    clear hb HB2 HH d0 d1 d2 d3
    obtain ⟨d0, d1, d2, d3⟩ := box4 HB3.out
    cases HO with
    | true =>
      clear HKp HFi HCut HkC 
      go_wp2
      go_ret
      exact ⟨rfl, box_go HB3.out⟩
    | false =>
      go_upto_region 11 with fail
      go_quiet (fail)
      have HB4 : Hid (Below (w.alloc (.cells #[.slice (some ⟨b, off, none⟩) ns.length cap, .int .i64 ((jx : Int) + 1), .int .i64 ((jp : Int) + 1), .int .i64 (0 : Int)] 50)).heap.size (w.alloc (.cells #[.slice (some ⟨b, off, none⟩) ns.length cap, .int .i64 ((jx : Int) + 1), .int .i64 ((jp : Int) + 1), .int .i64 (0 : Int)] 50)) (v3.drewN nq)) := HB3.out.trans (drewN_below _ _ _)
      clear HB3 d0 d1 d2 d3
      obtain ⟨d0, d1, d2, d3⟩ := box4 HB4.out
      go_wp2_with fail
      refine (HFi.out _ (box_go HB4.out)).mono ?_
      rintro e v4 ⟨rfl, hb⟩
      have HB5 := hid (HB4.out.trans (hb.mono HB4.out.size))
      clear hb HB4 HFi d0 d1 d2 d3
      obtain ⟨d0, d1, d2, d3⟩ := box4 HB5.out
      cases FI with
      | false =>
        clear HKp HCut HkC
        go_wp2
        go_ret
        exact ⟨rfl, box_go HB5.out⟩
      | true =>
        go_wp2_with fail
        refine (HKp.out _ (box_go HB5.out)).mono ?_
        rintro e v5 ⟨rfl, hb⟩
        have HB6 := hid (HB5.out.trans (hb.mono HB5.out.size))
        clear hb HB5 HKp d0 d1 d2 d3
        obtain ⟨d0, d1, d2, d3⟩ := box4 HB6.out
        cases DD with
        | false =>
          clear HCut HkC
          go_wp2
          go_ret
          exact ⟨rfl, box_go HB6.out⟩
        | true =>
          have HB7 := hid (HB6.out.drew)
          have kc := HkC.out _ (box_go HB7.out)
          have hC := (HCut.out (by first | rfl | trivial) _ (box_go HB7.out))
          have HK7 := hid (And.intro (box4 HB7.out) kc)
          clear HCut HB6 d0 d1 d2 d3 kc
          go_upto_region 17 with fail
          refine wp_region_held_drew (S := (fun V => (V.cell? ⟨w.heap.size, 0, none⟩ = some (.slice (some ⟨b, off, none⟩) ns.length cap) ∧ V.cell? ⟨w.heap.size, 1, none⟩ = some (.int .i64 ((jx : Int) + 1)) ∧ V.cell? ⟨w.heap.size, 2, none⟩ = some (.int .i64 ((jp : Int) + 1)) ∧ V.cell? ⟨w.heap.size, 3, none⟩ = some (.int .i64 (0 : Int))) ∧ V.cell? ⟨b, off + jp * 16 + 9, none⟩ = some (.slice ok ks.length ck))) (by kernel_rfl) (HK7.out) (fun hHeld => ?_)
          refine wpAnyH_one 0 72 (.func (.func 15) #[] #[]) hHeld rfl rfl (by kernel_rfl) (fun _ _ _ _ _ h => h) (by kernel_rfl) (by kernel_rfl) (by rfl) ?_ ?_
          · intro V hSw; (try dsimp only at hSw); (obtain ⟨⟨g0, g1, g2, g3⟩, g4⟩ := hSw; go_simp)
          simp only [Act.put, List.setIfInBounds_toArray, List.set_cons_zero, List.set_cons_succ]
          refine wpAnyH_one 1 73 (.pointer (some ⟨w.heap.size, 0, none⟩)) hHeld rfl rfl (by kernel_rfl) (fun _ _ _ _ _ h => h) (by kernel_rfl) (by kernel_rfl) (by rfl) ?_ ?_
          · intro V hSw; (try dsimp only at hSw); (obtain ⟨⟨g0, g1, g2, g3⟩, g4⟩ := hSw; go_simp)
          simp only [Act.put, List.setIfInBounds_toArray, List.set_cons_zero, List.set_cons_succ]
          refine wpAnyH_one 2 74 (.pointer (some ⟨w.heap.size, 0, none⟩)) hHeld rfl rfl (by kernel_rfl) (fun _ _ _ _ _ h => h) (by kernel_rfl) (by kernel_rfl) (by rfl) ?_ ?_
          · intro V hSw; (try dsimp only at hSw); (obtain ⟨⟨g0, g1, g2, g3⟩, g4⟩ := hSw; go_simp)
          simp only [Act.put, List.setIfInBounds_toArray, List.set_cons_zero, List.set_cons_succ]
          refine wpAnyH_one 3 75 (.slice (some ⟨b, off, none⟩) ns.length cap) hHeld rfl rfl (by kernel_rfl) (fun _ _ _ _ _ h => h) (by kernel_rfl) (by kernel_rfl) (by rfl) ?_ ?_
          · intro V hSw; (try dsimp only at hSw); (obtain ⟨⟨g0, g1, g2, g3⟩, g4⟩ := hSw; go_simp)
          simp only [Act.put, List.setIfInBounds_toArray, List.set_cons_zero, List.set_cons_succ]
          refine wpAnyH_one 4 76 (.pointer (some ⟨w.heap.size, 2, none⟩)) hHeld rfl rfl (by kernel_rfl) (fun _ _ _ _ _ h => h) (by kernel_rfl) (by kernel_rfl) (by rfl) ?_ ?_
          · intro V hSw; (try dsimp only at hSw); (obtain ⟨⟨g0, g1, g2, g3⟩, g4⟩ := hSw; go_simp)
          simp only [Act.put, List.setIfInBounds_toArray, List.set_cons_zero, List.set_cons_succ]
          refine wpAnyH_one 5 77 (.int .i64 ((jp : Int) + 1)) hHeld rfl rfl (by kernel_rfl) (fun _ _ _ _ _ h => h) (by kernel_rfl) (by kernel_rfl) (by rfl) ?_ ?_
          · intro V hSw; (try dsimp only at hSw); (obtain ⟨⟨g0, g1, g2, g3⟩, g4⟩ := hSw; go_simp)
          simp only [Act.put, List.setIfInBounds_toArray, List.set_cons_zero, List.set_cons_succ]
          refine wpAnyH_one 6 78 (.int .i64 (jp : Int)) hHeld rfl rfl (by kernel_rfl) (fun _ _ _ _ _ h => h) (by kernel_rfl) (by kernel_rfl) (by rfl) ?_ ?_
          · intro V hSw; (try dsimp only at hSw); (obtain ⟨⟨g0, g1, g2, g3⟩, g4⟩ := hSw; go_simp)
          simp only [Act.put, List.setIfInBounds_toArray, List.set_cons_zero, List.set_cons_succ]
          refine wpAnyH_one 7 79 (.pointer (some ⟨b, off + jp * 16, none⟩)) hHeld rfl rfl (by kernel_rfl) (fun _ _ _ _ _ h => h) (by kernel_rfl) (by kernel_rfl) (by rfl) ?_ ?_
          · intro V hSw; (try dsimp only at hSw); (obtain ⟨⟨g0, g1, g2, g3⟩, g4⟩ := hSw; go_simp)
          simp only [Act.put, List.setIfInBounds_toArray, List.set_cons_zero, List.set_cons_succ]
          refine wpAnyH_one 8 80 (.pointer (some ⟨b, off + jp * 16 + 9, none⟩)) hHeld rfl rfl (by kernel_rfl) (fun _ _ _ _ _ h => h) (by kernel_rfl) (by kernel_rfl) (by rfl) ?_ ?_
          · intro V hSw; (try dsimp only at hSw); (obtain ⟨⟨g0, g1, g2, g3⟩, g4⟩ := hSw; go_simp)
          simp only [Act.put, List.setIfInBounds_toArray, List.set_cons_zero, List.set_cons_succ]
          refine wpAnyH_one 9 81 (.slice ok ks.length ck) hHeld rfl rfl (by kernel_rfl) (fun _ _ _ _ _ h => h) (by kernel_rfl) (by kernel_rfl) (by rfl) ?_ ?_
          · intro V hSw; (try dsimp only at hSw); (obtain ⟨⟨g0, g1, g2, g3⟩, g4⟩ := hSw; go_simp)
          simp only [Act.put, List.setIfInBounds_toArray, List.set_cons_zero, List.set_cons_succ]
          refine wpAnyH_one 10 82 (.pointer (some ⟨w.heap.size, 3, none⟩)) hHeld rfl rfl (by kernel_rfl) (fun _ _ _ _ _ h => h) (by kernel_rfl) (by kernel_rfl) (by rfl) ?_ ?_
          · intro V hSw; (try dsimp only at hSw); (obtain ⟨⟨g0, g1, g2, g3⟩, g4⟩ := hSw; go_simp)
          simp only [Act.put, List.setIfInBounds_toArray, List.set_cons_zero, List.set_cons_succ]
          refine wpAnyH_one 11 83 (.int .i64 (0 : Int)) hHeld rfl rfl (by kernel_rfl) (fun _ _ _ _ _ h => h) (by kernel_rfl) (by kernel_rfl) (by rfl) ?_ ?_
          · intro V hSw; (try dsimp only at hSw); (obtain ⟨⟨g0, g1, g2, g3⟩, g4⟩ := hSw; go_simp)
          simp only [Act.put, List.setIfInBounds_toArray, List.set_cons_zero, List.set_cons_succ]
          refine wpAnyH_ready (rs := [12]) (by kernel_rfl) (by simp) ?_
          refine AllReadyH.cons rfl (fun K hK => ?_) AllReadyH.nil
          go_simp
          go_wp2_with (go_at_call 15; refine hC.mono ?_; rintro e v6 ⟨va, vb, rfl, hb, o1, n1, c1, o2, n2, c2, rfl, rfl, hT⟩; have HB8 := hid (HB7.out.trans (hb.mono HB7.out.size)); have HKz := hid (And.intro (box4 HB8.out) (HkC.out _ (box_go HB8.out))); clear hb hC)
          refine hK.out _ _ (HKz.out) (fun hHeld => ?_)
          clear hK K
          refine wpAnyH_one 13 71 (.tuple #[.slice o1 n1 c1, .slice o2 n2 c2]) hHeld rfl rfl (by kernel_rfl) (fun _ _ _ _ _ h => h) (by kernel_rfl) (by kernel_rfl) (by rfl) ?_ ?_
          · intro V hSw; (try dsimp only at hSw); (obtain ⟨⟨g0, g1, g2, g3⟩, g4⟩ := hSw; go_simp)
          simp only [Act.put, List.setIfInBounds_toArray, List.set_cons_zero, List.set_cons_succ]
          refine wpAnyH_one 14 85 (.slice o1 n1 c1) hHeld rfl rfl (by kernel_rfl) (fun _ _ _ _ _ h => h) (by kernel_rfl) (by kernel_rfl) (by rfl) ?_ ?_
          · intro V hSw; (try dsimp only at hSw); (obtain ⟨⟨g0, g1, g2, g3⟩, g4⟩ := hSw; go_simp)
          simp only [Act.put, List.setIfInBounds_toArray, List.set_cons_zero, List.set_cons_succ]
          refine wpAnyH_one 15 86 (.slice o2 n2 c2) hHeld rfl rfl (by kernel_rfl) (fun _ _ _ _ _ h => h) (by kernel_rfl) (by kernel_rfl) (by rfl) ?_ ?_
          · intro V hSw; (try dsimp only at hSw); (obtain ⟨⟨g0, g1, g2, g3⟩, g4⟩ := hSw; go_simp)
          simp only [Act.put, List.setIfInBounds_toArray, List.set_cons_zero, List.set_cons_succ]
          refine wpAnyH_one 16 10 (.slice o1 n1 c1) hHeld rfl rfl (by kernel_rfl) (fun _ _ _ _ _ h => h) (by kernel_rfl) (by kernel_rfl) (by rfl) ?_ ?_
          · intro V hSw; (try dsimp only at hSw); (obtain ⟨⟨g0, g1, g2, g3⟩, g4⟩ := hSw; go_simp)
          simp only [Act.put, List.setIfInBounds_toArray, List.set_cons_zero, List.set_cons_succ]
          refine wpAnyH_one 17 11 (.slice o2 n2 c2) hHeld rfl rfl (by kernel_rfl) (fun _ _ _ _ _ h => h) (by kernel_rfl) (by kernel_rfl) (by rfl) ?_ ?_
          · intro V hSw; (try dsimp only at hSw); (obtain ⟨⟨g0, g1, g2, g3⟩, g4⟩ := hSw; go_simp)
          simp only [Act.put, List.setIfInBounds_toArray, List.set_cons_zero, List.set_cons_succ]
          refine wpAnyH_done (by kernel_rfl) ?_ _
          have f := box4 HB8.out
          obtain ⟨f0, f1, f2, f3⟩ := f
          go_wp2_with fail
          refine (hT _ (box_go HB8.out)).mono ?_
          rintro e v7 ⟨rfl, hb⟩
          have HB9 := hid (HB8.out.trans (hb.mono HB8.out.size))
          clear hb HB8 hT
          cases TK with
          | true =>
            go_wp2
            go_ret
            exact ⟨rfl, box_go HB9.out⟩
          | false =>
            go_wp2
            go_ret
            exact ⟨rfl, box_go HB9.out⟩
set_option maxRecDepth 100000 in
set_option maxHeartbeats 16000000 in
theorem judgedA1 (b off cap jx jp jc : Nat) (v vk : Value) (ok : Option Addr) (ck : Nat) (ks : List Int) (ns : List NodeD) (w : World) (K1 HO FI DD TK QQ : Bool) (KP : Nat) (pc : Int) (hjc : jc < ns.length) (hQ : (pc != (jp : Int) + 1) = QQ) (hjp : jp < ns.length) (hlen : ns.length ≤ 1099511627776) (hvk : vk = .slice ok ks.length ck)
    (HkC : Hid (∀ V : World, Below w.heap.size w V → V.cell? ⟨b, off + jp * 16 + 9, none⟩ = some vk))
    (HcC : Hid (∀ V : World, Below w.heap.size w V → V.cell? ⟨b, off + jc * 16 + 8, none⟩ = some (.int .i64 pc)))
    (HM : Hid (∀ W : World, Below w.heap.size w W → Calls Try.prog 17 #[.agg #[.slice (some ⟨b, off, none⟩) ns.length cap], v] W fun e w' => e = .returned (.int .i64 0) ∧ Below W.heap.size W w'))
    (HKp : Hid (∀ W : World, Below w.heap.size w W → Calls Try.prog 18 #[.agg #[.slice (some ⟨b, off, none⟩) ns.length cap], .int .i64 ((jp : Int) + 1)] W fun e w' => e = .returned (.int .u8 (KP : Int)) ∧ Below W.heap.size W w'))
    (HMk : Hid (∀ W : World, Calls Try.prog 22 #[.int .u8 (KP : Int)] W fun e w' => e = .returned (.bool K1) ∧ w' = W))
    (HH : Hid (∀ W : World, Below w.heap.size w W → Calls Try.prog 23 #[.agg #[.slice (some ⟨b, off, none⟩) ns.length cap], .int .i64 ((jx : Int) + 1), .int .i64 ((jp : Int) + 1)] W fun e w' => e = .returned (.tuple #[.bool HO, .int .i64 0]) ∧ Below W.heap.size W w'))
    (HFi : Hid (∀ W : World, Below w.heap.size w W → Calls Try.prog 24 #[.agg #[.slice (some ⟨b, off, none⟩) ns.length cap, .int .i64 ((jx : Int) + 1), .int .i64 ((jp : Int) + 1), .int .i64 ((jc : Int) + 1)]] W fun e w' => e = .returned (.bool FI) ∧ Below W.heap.size W w'))
    (hD : ((KP : Int) == 9) = DD)
    (HCut : Hid (QQ = false → DD = true → ∀ W : World, Below w.heap.size w W → Calls Try.prog 15 #[vk, .int .i64 ((jc : Int) + 1)] W fun e w' => ∃ va vb, e = .returned (.tuple #[va, vb]) ∧ Below W.heap.size W w' ∧ ∃ o1 n1 c1 o2 n2 c2, va = .slice o1 n1 c1 ∧ vb = .slice o2 n2 c2 ∧ ∀ V : World, Below w.heap.size w V → Calls Try.prog 25 #[gapV b off cap ns.length (.slice o1 n1 c1) (.slice o2 n2 c2), .int .i64 ((jx : Int) + 1)] V fun e w'' => e = .returned (.bool TK) ∧ Below V.heap.size V w'')) :
    Calls Try.prog 14 #[.agg #[.slice (some ⟨b, off, none⟩) ns.length cap, .int .i64 ((jx : Int) + 1), .int .i64 ((jp : Int) + 1), .int .i64 ((jc : Int) + 1)], .func (.func 15) #[] #[], v] w fun e w' => e = .returned (.int .i64 (if K1 then (if HO then 10 else if QQ then 11 else (if FI then (if DD then (if TK then 0 else 10) else 0) else 10)) else 10)) ∧ Below w.heap.size w w' := by
  have HB0 : Hid (Below (w.alloc (.cells #[.slice (some ⟨b, off, none⟩) ns.length cap, .int .i64 ((jx : Int) + 1), .int .i64 ((jp : Int) + 1), .int .i64 ((jc : Int) + 1)] 50)).heap.size (w.alloc (.cells #[.slice (some ⟨b, off, none⟩) ns.length cap, .int .i64 ((jx : Int) + 1), .int .i64 ((jp : Int) + 1), .int .i64 ((jc : Int) + 1)] 50)) (w.alloc (.cells #[.slice (some ⟨b, off, none⟩) ns.length cap, .int .i64 ((jx : Int) + 1), .int .i64 ((jp : Int) + 1), .int .i64 ((jc : Int) + 1)] 50))) := Below.refl _ _
  subst hvk
  have p1 : (0 : Int) ≤ (jp : Int) := by omega
  have p2 : (jp : Int) < (ns.length : Int) := by omega
  have pw : IntKind.i64.wrap ((jp : Int) + 1 - 1) = (jp : Int) := by rw [vwrap (by omega) (by omega)]; omega
  have pv : IntKind.i64.wrap (jp : Int) = (jp : Int) := vwrap (by omega) (by omega)
  have pn : ((jp : Int)).toNat = jp := by omega
  have p3 : (0 : Int) ≤ (jc : Int) := by omega
  have p4 : (jc : Int) < (ns.length : Int) := by omega
  have p5 : ((jc : Int) + 1 != 0) = true := by rw [bne, beq_eq_false_iff_ne.2 (by omega)]; rfl
  go_enter Try.func14, Try.ntmps14
  go_wp2_with fail
  refine (HM.out _ (box_go HB0.out)).mono ?_
  rintro e v1 ⟨rfl, hb⟩
  have HB1 := hid ((HB0).out.trans (hb.mono (HB0).out.size))
  obtain ⟨d0, d1, d2, d3⟩ := box4 HB1.out
  clear hb HB0 HM
  go_wp2_with fail
  refine (HKp.out _ (box_go HB1.out)).mono ?_
  rintro e v2 ⟨rfl, hb⟩
  have HB2 := hid (HB1.out.trans (hb.mono HB1.out.size))
  clear hb HB1 d0 d1 d2 d3
  obtain ⟨d0, d1, d2, d3⟩ := box4 HB2.out
  go_wp2_with fail
  refine (HMk.out _).mono ?_
  rintro e v2' ⟨rfl, e2⟩
  have e2 := e2.symm
  subst e2
  clear HMk
  cases K1 with
  | false =>
    clear HKp HH HFi HCut HkC HcC
    go_wp2
    go_ret
    exact ⟨rfl, box_go HB2.out⟩
  | true =>
    go_wp2_with fail
    refine (HH.out _ (box_go HB2.out)).mono ?_
    rintro e v3 ⟨rfl, hb⟩
    have HB3 := hid (HB2.out.trans (hb.mono HB2.out.size))
    clear hb HB2 HH d0 d1 d2 d3
    obtain ⟨d0, d1, d2, d3⟩ := box4 HB3.out
    cases HO with
    | true =>
      clear HKp HFi HCut HkC HcC
      go_wp2
      go_ret
      exact ⟨rfl, box_go HB3.out⟩
    | false =>
      have xc := HcC.out v3 (box_go HB3.out)
      clear HcC
      cases QQ with
      | true =>
        clear HKp HFi HCut HkC
        go_upto_region 11 with fail
        go_quiet (fail)
        go_wp2
        go_ret
        exact ⟨rfl, (box_go HB3.out).trans (drewN_below _ _ _)⟩
      | false =>
        go_upto_region 11 with fail
        go_quiet (fail)
        have HB4 : Hid (Below (w.alloc (.cells #[.slice (some ⟨b, off, none⟩) ns.length cap, .int .i64 ((jx : Int) + 1), .int .i64 ((jp : Int) + 1), .int .i64 ((jc : Int) + 1)] 50)).heap.size (w.alloc (.cells #[.slice (some ⟨b, off, none⟩) ns.length cap, .int .i64 ((jx : Int) + 1), .int .i64 ((jp : Int) + 1), .int .i64 ((jc : Int) + 1)] 50)) (v3.drewN nq)) := HB3.out.trans (drewN_below _ _ _)
        clear HB3 d0 d1 d2 d3 xc
        obtain ⟨d0, d1, d2, d3⟩ := box4 HB4.out
        go_wp2_with fail
        refine (HFi.out _ (box_go HB4.out)).mono ?_
        rintro e v4 ⟨rfl, hb⟩
        have HB5 := hid (HB4.out.trans (hb.mono HB4.out.size))
        clear hb HB4 HFi d0 d1 d2 d3
        obtain ⟨d0, d1, d2, d3⟩ := box4 HB5.out
        cases FI with
        | false =>
          clear HKp HCut HkC
          go_wp2
          go_ret
          exact ⟨rfl, box_go HB5.out⟩
        | true =>
          go_wp2_with fail
          refine (HKp.out _ (box_go HB5.out)).mono ?_
          rintro e v5 ⟨rfl, hb⟩
          have HB6 := hid (HB5.out.trans (hb.mono HB5.out.size))
          clear hb HB5 HKp d0 d1 d2 d3
          obtain ⟨d0, d1, d2, d3⟩ := box4 HB6.out
          cases DD with
          | false =>
            clear HCut HkC
            go_wp2
            go_ret
            exact ⟨rfl, box_go HB6.out⟩
          | true =>
            have HB7 := hid (HB6.out.drew)
            have kc := HkC.out _ (box_go HB7.out)
            have hC := (HCut.out (by first | rfl | trivial) (by first | rfl | trivial) _ (box_go HB7.out))
            have HK7 := hid (And.intro (box4 HB7.out) kc)
            clear HCut HB6 d0 d1 d2 d3 kc
            go_upto_region 17 with fail
            refine wp_region_held_drew (S := (fun V => (V.cell? ⟨w.heap.size, 0, none⟩ = some (.slice (some ⟨b, off, none⟩) ns.length cap) ∧ V.cell? ⟨w.heap.size, 1, none⟩ = some (.int .i64 ((jx : Int) + 1)) ∧ V.cell? ⟨w.heap.size, 2, none⟩ = some (.int .i64 ((jp : Int) + 1)) ∧ V.cell? ⟨w.heap.size, 3, none⟩ = some (.int .i64 ((jc : Int) + 1))) ∧ V.cell? ⟨b, off + jp * 16 + 9, none⟩ = some (.slice ok ks.length ck))) (by kernel_rfl) (HK7.out) (fun hHeld => ?_)
            refine wpAnyH_one 0 72 (.func (.func 15) #[] #[]) hHeld rfl rfl (by kernel_rfl) (fun _ _ _ _ _ h => h) (by kernel_rfl) (by kernel_rfl) (by rfl) ?_ ?_
            · intro V hSw; (try dsimp only at hSw); (obtain ⟨⟨g0, g1, g2, g3⟩, g4⟩ := hSw; go_simp)
            simp only [Act.put, List.setIfInBounds_toArray, List.set_cons_zero, List.set_cons_succ]
            refine wpAnyH_one 1 73 (.pointer (some ⟨w.heap.size, 0, none⟩)) hHeld rfl rfl (by kernel_rfl) (fun _ _ _ _ _ h => h) (by kernel_rfl) (by kernel_rfl) (by rfl) ?_ ?_
            · intro V hSw; (try dsimp only at hSw); (obtain ⟨⟨g0, g1, g2, g3⟩, g4⟩ := hSw; go_simp)
            simp only [Act.put, List.setIfInBounds_toArray, List.set_cons_zero, List.set_cons_succ]
            refine wpAnyH_one 2 74 (.pointer (some ⟨w.heap.size, 0, none⟩)) hHeld rfl rfl (by kernel_rfl) (fun _ _ _ _ _ h => h) (by kernel_rfl) (by kernel_rfl) (by rfl) ?_ ?_
            · intro V hSw; (try dsimp only at hSw); (obtain ⟨⟨g0, g1, g2, g3⟩, g4⟩ := hSw; go_simp)
            simp only [Act.put, List.setIfInBounds_toArray, List.set_cons_zero, List.set_cons_succ]
            refine wpAnyH_one 3 75 (.slice (some ⟨b, off, none⟩) ns.length cap) hHeld rfl rfl (by kernel_rfl) (fun _ _ _ _ _ h => h) (by kernel_rfl) (by kernel_rfl) (by rfl) ?_ ?_
            · intro V hSw; (try dsimp only at hSw); (obtain ⟨⟨g0, g1, g2, g3⟩, g4⟩ := hSw; go_simp)
            simp only [Act.put, List.setIfInBounds_toArray, List.set_cons_zero, List.set_cons_succ]
            refine wpAnyH_one 4 76 (.pointer (some ⟨w.heap.size, 2, none⟩)) hHeld rfl rfl (by kernel_rfl) (fun _ _ _ _ _ h => h) (by kernel_rfl) (by kernel_rfl) (by rfl) ?_ ?_
            · intro V hSw; (try dsimp only at hSw); (obtain ⟨⟨g0, g1, g2, g3⟩, g4⟩ := hSw; go_simp)
            simp only [Act.put, List.setIfInBounds_toArray, List.set_cons_zero, List.set_cons_succ]
            refine wpAnyH_one 5 77 (.int .i64 ((jp : Int) + 1)) hHeld rfl rfl (by kernel_rfl) (fun _ _ _ _ _ h => h) (by kernel_rfl) (by kernel_rfl) (by rfl) ?_ ?_
            · intro V hSw; (try dsimp only at hSw); (obtain ⟨⟨g0, g1, g2, g3⟩, g4⟩ := hSw; go_simp)
            simp only [Act.put, List.setIfInBounds_toArray, List.set_cons_zero, List.set_cons_succ]
            refine wpAnyH_one 6 78 (.int .i64 (jp : Int)) hHeld rfl rfl (by kernel_rfl) (fun _ _ _ _ _ h => h) (by kernel_rfl) (by kernel_rfl) (by rfl) ?_ ?_
            · intro V hSw; (try dsimp only at hSw); (obtain ⟨⟨g0, g1, g2, g3⟩, g4⟩ := hSw; go_simp)
            simp only [Act.put, List.setIfInBounds_toArray, List.set_cons_zero, List.set_cons_succ]
            refine wpAnyH_one 7 79 (.pointer (some ⟨b, off + jp * 16, none⟩)) hHeld rfl rfl (by kernel_rfl) (fun _ _ _ _ _ h => h) (by kernel_rfl) (by kernel_rfl) (by rfl) ?_ ?_
            · intro V hSw; (try dsimp only at hSw); (obtain ⟨⟨g0, g1, g2, g3⟩, g4⟩ := hSw; go_simp)
            simp only [Act.put, List.setIfInBounds_toArray, List.set_cons_zero, List.set_cons_succ]
            refine wpAnyH_one 8 80 (.pointer (some ⟨b, off + jp * 16 + 9, none⟩)) hHeld rfl rfl (by kernel_rfl) (fun _ _ _ _ _ h => h) (by kernel_rfl) (by kernel_rfl) (by rfl) ?_ ?_
            · intro V hSw; (try dsimp only at hSw); (obtain ⟨⟨g0, g1, g2, g3⟩, g4⟩ := hSw; go_simp)
            simp only [Act.put, List.setIfInBounds_toArray, List.set_cons_zero, List.set_cons_succ]
            refine wpAnyH_one 9 81 (.slice ok ks.length ck) hHeld rfl rfl (by kernel_rfl) (fun _ _ _ _ _ h => h) (by kernel_rfl) (by kernel_rfl) (by rfl) ?_ ?_
            · intro V hSw; (try dsimp only at hSw); (obtain ⟨⟨g0, g1, g2, g3⟩, g4⟩ := hSw; go_simp)
            simp only [Act.put, List.setIfInBounds_toArray, List.set_cons_zero, List.set_cons_succ]
            refine wpAnyH_one 10 82 (.pointer (some ⟨w.heap.size, 3, none⟩)) hHeld rfl rfl (by kernel_rfl) (fun _ _ _ _ _ h => h) (by kernel_rfl) (by kernel_rfl) (by rfl) ?_ ?_
            · intro V hSw; (try dsimp only at hSw); (obtain ⟨⟨g0, g1, g2, g3⟩, g4⟩ := hSw; go_simp)
            simp only [Act.put, List.setIfInBounds_toArray, List.set_cons_zero, List.set_cons_succ]
            refine wpAnyH_one 11 83 (.int .i64 ((jc : Int) + 1)) hHeld rfl rfl (by kernel_rfl) (fun _ _ _ _ _ h => h) (by kernel_rfl) (by kernel_rfl) (by rfl) ?_ ?_
            · intro V hSw; (try dsimp only at hSw); (obtain ⟨⟨g0, g1, g2, g3⟩, g4⟩ := hSw; go_simp)
            simp only [Act.put, List.setIfInBounds_toArray, List.set_cons_zero, List.set_cons_succ]
            refine wpAnyH_ready (rs := [12]) (by kernel_rfl) (by simp) ?_
            refine AllReadyH.cons rfl (fun K hK => ?_) AllReadyH.nil
            go_simp
            go_wp2_with (go_at_call 15; refine hC.mono ?_; rintro e v6 ⟨va, vb, rfl, hb, o1, n1, c1, o2, n2, c2, rfl, rfl, hT⟩; have HB8 := hid (HB7.out.trans (hb.mono HB7.out.size)); have HKz := hid (And.intro (box4 HB8.out) (HkC.out _ (box_go HB8.out))); clear hb hC)
            refine hK.out _ _ (HKz.out) (fun hHeld => ?_)
            clear hK K
            refine wpAnyH_one 13 71 (.tuple #[.slice o1 n1 c1, .slice o2 n2 c2]) hHeld rfl rfl (by kernel_rfl) (fun _ _ _ _ _ h => h) (by kernel_rfl) (by kernel_rfl) (by rfl) ?_ ?_
            · intro V hSw; (try dsimp only at hSw); (obtain ⟨⟨g0, g1, g2, g3⟩, g4⟩ := hSw; go_simp)
            simp only [Act.put, List.setIfInBounds_toArray, List.set_cons_zero, List.set_cons_succ]
            refine wpAnyH_one 14 85 (.slice o1 n1 c1) hHeld rfl rfl (by kernel_rfl) (fun _ _ _ _ _ h => h) (by kernel_rfl) (by kernel_rfl) (by rfl) ?_ ?_
            · intro V hSw; (try dsimp only at hSw); (obtain ⟨⟨g0, g1, g2, g3⟩, g4⟩ := hSw; go_simp)
            simp only [Act.put, List.setIfInBounds_toArray, List.set_cons_zero, List.set_cons_succ]
            refine wpAnyH_one 15 86 (.slice o2 n2 c2) hHeld rfl rfl (by kernel_rfl) (fun _ _ _ _ _ h => h) (by kernel_rfl) (by kernel_rfl) (by rfl) ?_ ?_
            · intro V hSw; (try dsimp only at hSw); (obtain ⟨⟨g0, g1, g2, g3⟩, g4⟩ := hSw; go_simp)
            simp only [Act.put, List.setIfInBounds_toArray, List.set_cons_zero, List.set_cons_succ]
            refine wpAnyH_one 16 10 (.slice o1 n1 c1) hHeld rfl rfl (by kernel_rfl) (fun _ _ _ _ _ h => h) (by kernel_rfl) (by kernel_rfl) (by rfl) ?_ ?_
            · intro V hSw; (try dsimp only at hSw); (obtain ⟨⟨g0, g1, g2, g3⟩, g4⟩ := hSw; go_simp)
            simp only [Act.put, List.setIfInBounds_toArray, List.set_cons_zero, List.set_cons_succ]
            refine wpAnyH_one 17 11 (.slice o2 n2 c2) hHeld rfl rfl (by kernel_rfl) (fun _ _ _ _ _ h => h) (by kernel_rfl) (by kernel_rfl) (by rfl) ?_ ?_
            · intro V hSw; (try dsimp only at hSw); (obtain ⟨⟨g0, g1, g2, g3⟩, g4⟩ := hSw; go_simp)
            simp only [Act.put, List.setIfInBounds_toArray, List.set_cons_zero, List.set_cons_succ]
            refine wpAnyH_done (by kernel_rfl) ?_ _
            have f := box4 HB8.out
            obtain ⟨f0, f1, f2, f3⟩ := f
            go_wp2_with fail
            refine (hT _ (box_go HB8.out)).mono ?_
            rintro e v7 ⟨rfl, hb⟩
            have HB9 := hid (HB8.out.trans (hb.mono HB8.out.size))
            clear hb HB8 hT
            cases TK with
            | true =>
              go_wp2
              go_ret
              exact ⟨rfl, box_go HB9.out⟩
            | false =>
              go_wp2
              go_ret
              exact ⟨rfl, box_go HB9.out⟩
set_option maxRecDepth 100000 in
set_option maxHeartbeats 16000000 in
theorem judgedI1 (b off cap jx jp jc : Nat) (v vk : Value) (ok : Option Addr) (ck : Nat) (ks : List Int) (ns : List NodeD) (w : World) (K1 HO FI DD TK QQ : Bool) (KP : Nat) (pc : Int) (hjc : jc < ns.length) (hQ : (pc != (jp : Int) + 1) = QQ) (hjp : jp < ns.length) (hlen : ns.length ≤ 1099511627776) (hvk : vk = .slice ok ks.length ck)
    (HkC : Hid (∀ V : World, Below w.heap.size w V → V.cell? ⟨b, off + jp * 16 + 9, none⟩ = some vk))
    (HcC : Hid (∀ V : World, Below w.heap.size w V → V.cell? ⟨b, off + jc * 16 + 8, none⟩ = some (.int .i64 pc)))
    (HM : Hid (∀ W : World, Below w.heap.size w W → Calls Try.prog 17 #[.agg #[.slice (some ⟨b, off, none⟩) ns.length cap], v] W fun e w' => e = .returned (.int .i64 0) ∧ Below W.heap.size W w'))
    (HKp : Hid (∀ W : World, Below w.heap.size w W → Calls Try.prog 18 #[.agg #[.slice (some ⟨b, off, none⟩) ns.length cap], .int .i64 ((jp : Int) + 1)] W fun e w' => e = .returned (.int .u8 (KP : Int)) ∧ Below W.heap.size W w'))
    (HMk : Hid (∀ W : World, Calls Try.prog 22 #[.int .u8 (KP : Int)] W fun e w' => e = .returned (.bool K1) ∧ w' = W))
    (HH : Hid (∀ W : World, Below w.heap.size w W → Calls Try.prog 23 #[.agg #[.slice (some ⟨b, off, none⟩) ns.length cap], .int .i64 ((jx : Int) + 1), .int .i64 ((jp : Int) + 1)] W fun e w' => e = .returned (.tuple #[.bool HO, .int .i64 0]) ∧ Below W.heap.size W w'))
    (HFi : Hid (∀ W : World, Below w.heap.size w W → Calls Try.prog 24 #[.agg #[.slice (some ⟨b, off, none⟩) ns.length cap, .int .i64 ((jx : Int) + 1), .int .i64 ((jp : Int) + 1), .int .i64 ((jc : Int) + 1)]] W fun e w' => e = .returned (.bool FI) ∧ Below W.heap.size W w'))
    (hD : ((KP : Int) == 9) = DD)
    (HCut : Hid (QQ = false → DD = true → ∀ W : World, Below w.heap.size w W → Calls Try.prog 16 #[vk, .int .i64 ((jc : Int) + 1)] W fun e w' => ∃ va vb, e = .returned (.tuple #[va, vb]) ∧ Below W.heap.size W w' ∧ ∃ o1 n1 c1 o2 n2 c2, va = .slice o1 n1 c1 ∧ vb = .slice o2 n2 c2 ∧ ∀ V : World, Below w.heap.size w V → Calls Try.prog 25 #[gapV b off cap ns.length (.slice o1 n1 c1) (.slice o2 n2 c2), .int .i64 ((jx : Int) + 1)] V fun e w'' => e = .returned (.bool TK) ∧ Below V.heap.size V w'')) :
    Calls Try.prog 14 #[.agg #[.slice (some ⟨b, off, none⟩) ns.length cap, .int .i64 ((jx : Int) + 1), .int .i64 ((jp : Int) + 1), .int .i64 ((jc : Int) + 1)], .func (.func 16) #[] #[], v] w fun e w' => e = .returned (.int .i64 (if K1 then (if HO then 10 else if QQ then 11 else (if FI then (if DD then (if TK then 0 else 10) else 0) else 10)) else 10)) ∧ Below w.heap.size w w' := by
  have HB0 : Hid (Below (w.alloc (.cells #[.slice (some ⟨b, off, none⟩) ns.length cap, .int .i64 ((jx : Int) + 1), .int .i64 ((jp : Int) + 1), .int .i64 ((jc : Int) + 1)] 50)).heap.size (w.alloc (.cells #[.slice (some ⟨b, off, none⟩) ns.length cap, .int .i64 ((jx : Int) + 1), .int .i64 ((jp : Int) + 1), .int .i64 ((jc : Int) + 1)] 50)) (w.alloc (.cells #[.slice (some ⟨b, off, none⟩) ns.length cap, .int .i64 ((jx : Int) + 1), .int .i64 ((jp : Int) + 1), .int .i64 ((jc : Int) + 1)] 50))) := Below.refl _ _
  subst hvk
  have p1 : (0 : Int) ≤ (jp : Int) := by omega
  have p2 : (jp : Int) < (ns.length : Int) := by omega
  have pw : IntKind.i64.wrap ((jp : Int) + 1 - 1) = (jp : Int) := by rw [vwrap (by omega) (by omega)]; omega
  have pv : IntKind.i64.wrap (jp : Int) = (jp : Int) := vwrap (by omega) (by omega)
  have pn : ((jp : Int)).toNat = jp := by omega
  have p3 : (0 : Int) ≤ (jc : Int) := by omega
  have p4 : (jc : Int) < (ns.length : Int) := by omega
  have p5 : ((jc : Int) + 1 != 0) = true := by rw [bne, beq_eq_false_iff_ne.2 (by omega)]; rfl
  go_enter Try.func14, Try.ntmps14
  go_wp2_with fail
  refine (HM.out _ (box_go HB0.out)).mono ?_
  rintro e v1 ⟨rfl, hb⟩
  have HB1 := hid ((HB0).out.trans (hb.mono (HB0).out.size))
  obtain ⟨d0, d1, d2, d3⟩ := box4 HB1.out
  clear hb HB0 HM
  go_wp2_with fail
  refine (HKp.out _ (box_go HB1.out)).mono ?_
  rintro e v2 ⟨rfl, hb⟩
  have HB2 := hid (HB1.out.trans (hb.mono HB1.out.size))
  clear hb HB1 d0 d1 d2 d3
  obtain ⟨d0, d1, d2, d3⟩ := box4 HB2.out
  go_wp2_with fail
  refine (HMk.out _).mono ?_
  rintro e v2' ⟨rfl, e2⟩
  have e2 := e2.symm
  subst e2
  clear HMk
  cases K1 with
  | false =>
    clear HKp HH HFi HCut HkC HcC
    go_wp2
    go_ret
    exact ⟨rfl, box_go HB2.out⟩
  | true =>
    go_wp2_with fail
    refine (HH.out _ (box_go HB2.out)).mono ?_
    rintro e v3 ⟨rfl, hb⟩
    have HB3 := hid (HB2.out.trans (hb.mono HB2.out.size))
    clear hb HB2 HH d0 d1 d2 d3
    obtain ⟨d0, d1, d2, d3⟩ := box4 HB3.out
    cases HO with
    | true =>
      clear HKp HFi HCut HkC HcC
      go_wp2
      go_ret
      exact ⟨rfl, box_go HB3.out⟩
    | false =>
      have xc := HcC.out v3 (box_go HB3.out)
      clear HcC
      cases QQ with
      | true =>
        clear HKp HFi HCut HkC
        go_upto_region 11 with fail
        go_quiet (fail)
        go_wp2
        go_ret
        exact ⟨rfl, (box_go HB3.out).trans (drewN_below _ _ _)⟩
      | false =>
        go_upto_region 11 with fail
        go_quiet (fail)
        have HB4 : Hid (Below (w.alloc (.cells #[.slice (some ⟨b, off, none⟩) ns.length cap, .int .i64 ((jx : Int) + 1), .int .i64 ((jp : Int) + 1), .int .i64 ((jc : Int) + 1)] 50)).heap.size (w.alloc (.cells #[.slice (some ⟨b, off, none⟩) ns.length cap, .int .i64 ((jx : Int) + 1), .int .i64 ((jp : Int) + 1), .int .i64 ((jc : Int) + 1)] 50)) (v3.drewN nq)) := HB3.out.trans (drewN_below _ _ _)
        clear HB3 d0 d1 d2 d3 xc
        obtain ⟨d0, d1, d2, d3⟩ := box4 HB4.out
        go_wp2_with fail
        refine (HFi.out _ (box_go HB4.out)).mono ?_
        rintro e v4 ⟨rfl, hb⟩
        have HB5 := hid (HB4.out.trans (hb.mono HB4.out.size))
        clear hb HB4 HFi d0 d1 d2 d3
        obtain ⟨d0, d1, d2, d3⟩ := box4 HB5.out
        cases FI with
        | false =>
          clear HKp HCut HkC
          go_wp2
          go_ret
          exact ⟨rfl, box_go HB5.out⟩
        | true =>
          go_wp2_with fail
          refine (HKp.out _ (box_go HB5.out)).mono ?_
          rintro e v5 ⟨rfl, hb⟩
          have HB6 := hid (HB5.out.trans (hb.mono HB5.out.size))
          clear hb HB5 HKp d0 d1 d2 d3
          obtain ⟨d0, d1, d2, d3⟩ := box4 HB6.out
          cases DD with
          | false =>
            clear HCut HkC
            go_wp2
            go_ret
            exact ⟨rfl, box_go HB6.out⟩
          | true =>
            have HB7 := hid (HB6.out.drew)
            have kc := HkC.out _ (box_go HB7.out)
            have hC := (HCut.out (by first | rfl | trivial) (by first | rfl | trivial) _ (box_go HB7.out))
            have HK7 := hid (And.intro (box4 HB7.out) kc)
            clear HCut HB6 d0 d1 d2 d3 kc
            go_upto_region 17 with fail
            refine wp_region_held_drew (S := (fun V => (V.cell? ⟨w.heap.size, 0, none⟩ = some (.slice (some ⟨b, off, none⟩) ns.length cap) ∧ V.cell? ⟨w.heap.size, 1, none⟩ = some (.int .i64 ((jx : Int) + 1)) ∧ V.cell? ⟨w.heap.size, 2, none⟩ = some (.int .i64 ((jp : Int) + 1)) ∧ V.cell? ⟨w.heap.size, 3, none⟩ = some (.int .i64 ((jc : Int) + 1))) ∧ V.cell? ⟨b, off + jp * 16 + 9, none⟩ = some (.slice ok ks.length ck))) (by kernel_rfl) (HK7.out) (fun hHeld => ?_)
            refine wpAnyH_one 0 72 (.func (.func 16) #[] #[]) hHeld rfl rfl (by kernel_rfl) (fun _ _ _ _ _ h => h) (by kernel_rfl) (by kernel_rfl) (by rfl) ?_ ?_
            · intro V hSw; (try dsimp only at hSw); (obtain ⟨⟨g0, g1, g2, g3⟩, g4⟩ := hSw; go_simp)
            simp only [Act.put, List.setIfInBounds_toArray, List.set_cons_zero, List.set_cons_succ]
            refine wpAnyH_one 1 73 (.pointer (some ⟨w.heap.size, 0, none⟩)) hHeld rfl rfl (by kernel_rfl) (fun _ _ _ _ _ h => h) (by kernel_rfl) (by kernel_rfl) (by rfl) ?_ ?_
            · intro V hSw; (try dsimp only at hSw); (obtain ⟨⟨g0, g1, g2, g3⟩, g4⟩ := hSw; go_simp)
            simp only [Act.put, List.setIfInBounds_toArray, List.set_cons_zero, List.set_cons_succ]
            refine wpAnyH_one 2 74 (.pointer (some ⟨w.heap.size, 0, none⟩)) hHeld rfl rfl (by kernel_rfl) (fun _ _ _ _ _ h => h) (by kernel_rfl) (by kernel_rfl) (by rfl) ?_ ?_
            · intro V hSw; (try dsimp only at hSw); (obtain ⟨⟨g0, g1, g2, g3⟩, g4⟩ := hSw; go_simp)
            simp only [Act.put, List.setIfInBounds_toArray, List.set_cons_zero, List.set_cons_succ]
            refine wpAnyH_one 3 75 (.slice (some ⟨b, off, none⟩) ns.length cap) hHeld rfl rfl (by kernel_rfl) (fun _ _ _ _ _ h => h) (by kernel_rfl) (by kernel_rfl) (by rfl) ?_ ?_
            · intro V hSw; (try dsimp only at hSw); (obtain ⟨⟨g0, g1, g2, g3⟩, g4⟩ := hSw; go_simp)
            simp only [Act.put, List.setIfInBounds_toArray, List.set_cons_zero, List.set_cons_succ]
            refine wpAnyH_one 4 76 (.pointer (some ⟨w.heap.size, 2, none⟩)) hHeld rfl rfl (by kernel_rfl) (fun _ _ _ _ _ h => h) (by kernel_rfl) (by kernel_rfl) (by rfl) ?_ ?_
            · intro V hSw; (try dsimp only at hSw); (obtain ⟨⟨g0, g1, g2, g3⟩, g4⟩ := hSw; go_simp)
            simp only [Act.put, List.setIfInBounds_toArray, List.set_cons_zero, List.set_cons_succ]
            refine wpAnyH_one 5 77 (.int .i64 ((jp : Int) + 1)) hHeld rfl rfl (by kernel_rfl) (fun _ _ _ _ _ h => h) (by kernel_rfl) (by kernel_rfl) (by rfl) ?_ ?_
            · intro V hSw; (try dsimp only at hSw); (obtain ⟨⟨g0, g1, g2, g3⟩, g4⟩ := hSw; go_simp)
            simp only [Act.put, List.setIfInBounds_toArray, List.set_cons_zero, List.set_cons_succ]
            refine wpAnyH_one 6 78 (.int .i64 (jp : Int)) hHeld rfl rfl (by kernel_rfl) (fun _ _ _ _ _ h => h) (by kernel_rfl) (by kernel_rfl) (by rfl) ?_ ?_
            · intro V hSw; (try dsimp only at hSw); (obtain ⟨⟨g0, g1, g2, g3⟩, g4⟩ := hSw; go_simp)
            simp only [Act.put, List.setIfInBounds_toArray, List.set_cons_zero, List.set_cons_succ]
            refine wpAnyH_one 7 79 (.pointer (some ⟨b, off + jp * 16, none⟩)) hHeld rfl rfl (by kernel_rfl) (fun _ _ _ _ _ h => h) (by kernel_rfl) (by kernel_rfl) (by rfl) ?_ ?_
            · intro V hSw; (try dsimp only at hSw); (obtain ⟨⟨g0, g1, g2, g3⟩, g4⟩ := hSw; go_simp)
            simp only [Act.put, List.setIfInBounds_toArray, List.set_cons_zero, List.set_cons_succ]
            refine wpAnyH_one 8 80 (.pointer (some ⟨b, off + jp * 16 + 9, none⟩)) hHeld rfl rfl (by kernel_rfl) (fun _ _ _ _ _ h => h) (by kernel_rfl) (by kernel_rfl) (by rfl) ?_ ?_
            · intro V hSw; (try dsimp only at hSw); (obtain ⟨⟨g0, g1, g2, g3⟩, g4⟩ := hSw; go_simp)
            simp only [Act.put, List.setIfInBounds_toArray, List.set_cons_zero, List.set_cons_succ]
            refine wpAnyH_one 9 81 (.slice ok ks.length ck) hHeld rfl rfl (by kernel_rfl) (fun _ _ _ _ _ h => h) (by kernel_rfl) (by kernel_rfl) (by rfl) ?_ ?_
            · intro V hSw; (try dsimp only at hSw); (obtain ⟨⟨g0, g1, g2, g3⟩, g4⟩ := hSw; go_simp)
            simp only [Act.put, List.setIfInBounds_toArray, List.set_cons_zero, List.set_cons_succ]
            refine wpAnyH_one 10 82 (.pointer (some ⟨w.heap.size, 3, none⟩)) hHeld rfl rfl (by kernel_rfl) (fun _ _ _ _ _ h => h) (by kernel_rfl) (by kernel_rfl) (by rfl) ?_ ?_
            · intro V hSw; (try dsimp only at hSw); (obtain ⟨⟨g0, g1, g2, g3⟩, g4⟩ := hSw; go_simp)
            simp only [Act.put, List.setIfInBounds_toArray, List.set_cons_zero, List.set_cons_succ]
            refine wpAnyH_one 11 83 (.int .i64 ((jc : Int) + 1)) hHeld rfl rfl (by kernel_rfl) (fun _ _ _ _ _ h => h) (by kernel_rfl) (by kernel_rfl) (by rfl) ?_ ?_
            · intro V hSw; (try dsimp only at hSw); (obtain ⟨⟨g0, g1, g2, g3⟩, g4⟩ := hSw; go_simp)
            simp only [Act.put, List.setIfInBounds_toArray, List.set_cons_zero, List.set_cons_succ]
            refine wpAnyH_ready (rs := [12]) (by kernel_rfl) (by simp) ?_
            refine AllReadyH.cons rfl (fun K hK => ?_) AllReadyH.nil
            go_simp
            go_wp2_with (go_at_call 16; refine hC.mono ?_; rintro e v6 ⟨va, vb, rfl, hb, o1, n1, c1, o2, n2, c2, rfl, rfl, hT⟩; have HB8 := hid (HB7.out.trans (hb.mono HB7.out.size)); have HKz := hid (And.intro (box4 HB8.out) (HkC.out _ (box_go HB8.out))); clear hb hC)
            refine hK.out _ _ (HKz.out) (fun hHeld => ?_)
            clear hK K
            refine wpAnyH_one 13 71 (.tuple #[.slice o1 n1 c1, .slice o2 n2 c2]) hHeld rfl rfl (by kernel_rfl) (fun _ _ _ _ _ h => h) (by kernel_rfl) (by kernel_rfl) (by rfl) ?_ ?_
            · intro V hSw; (try dsimp only at hSw); (obtain ⟨⟨g0, g1, g2, g3⟩, g4⟩ := hSw; go_simp)
            simp only [Act.put, List.setIfInBounds_toArray, List.set_cons_zero, List.set_cons_succ]
            refine wpAnyH_one 14 85 (.slice o1 n1 c1) hHeld rfl rfl (by kernel_rfl) (fun _ _ _ _ _ h => h) (by kernel_rfl) (by kernel_rfl) (by rfl) ?_ ?_
            · intro V hSw; (try dsimp only at hSw); (obtain ⟨⟨g0, g1, g2, g3⟩, g4⟩ := hSw; go_simp)
            simp only [Act.put, List.setIfInBounds_toArray, List.set_cons_zero, List.set_cons_succ]
            refine wpAnyH_one 15 86 (.slice o2 n2 c2) hHeld rfl rfl (by kernel_rfl) (fun _ _ _ _ _ h => h) (by kernel_rfl) (by kernel_rfl) (by rfl) ?_ ?_
            · intro V hSw; (try dsimp only at hSw); (obtain ⟨⟨g0, g1, g2, g3⟩, g4⟩ := hSw; go_simp)
            simp only [Act.put, List.setIfInBounds_toArray, List.set_cons_zero, List.set_cons_succ]
            refine wpAnyH_one 16 10 (.slice o1 n1 c1) hHeld rfl rfl (by kernel_rfl) (fun _ _ _ _ _ h => h) (by kernel_rfl) (by kernel_rfl) (by rfl) ?_ ?_
            · intro V hSw; (try dsimp only at hSw); (obtain ⟨⟨g0, g1, g2, g3⟩, g4⟩ := hSw; go_simp)
            simp only [Act.put, List.setIfInBounds_toArray, List.set_cons_zero, List.set_cons_succ]
            refine wpAnyH_one 17 11 (.slice o2 n2 c2) hHeld rfl rfl (by kernel_rfl) (fun _ _ _ _ _ h => h) (by kernel_rfl) (by kernel_rfl) (by rfl) ?_ ?_
            · intro V hSw; (try dsimp only at hSw); (obtain ⟨⟨g0, g1, g2, g3⟩, g4⟩ := hSw; go_simp)
            simp only [Act.put, List.setIfInBounds_toArray, List.set_cons_zero, List.set_cons_succ]
            refine wpAnyH_done (by kernel_rfl) ?_ _
            have f := box4 HB8.out
            obtain ⟨f0, f1, f2, f3⟩ := f
            go_wp2_with fail
            refine (hT _ (box_go HB8.out)).mono ?_
            rintro e v7 ⟨rfl, hb⟩
            have HB9 := hid (HB8.out.trans (hb.mono HB8.out.size))
            clear hb HB8 hT
            cases TK with
            | true =>
              go_wp2
              go_ret
              exact ⟨rfl, box_go HB9.out⟩
            | false =>
              go_wp2
              go_ret
              exact ⟨rfl, box_go HB9.out⟩
end Go.Proofs.Ytfaeabjgplahgaa

namespace Go.Proofs.Ytfaeabjgplahgaa
open Go.RowKit Go.Lib Go.Shelf Go.Maps

set_option maxRecDepth 100000 in
set_option maxHeartbeats 4000000 in
theorem aheadOf_at (v : Value) (ks : List Int) (c : Int) (w0 w : World) (hW : Below w0.heap.size w0 w) (hv : RdI w0 v ks) (hl : ks.length ≤ 1099511627776) (hc : c = 0 ∨ (c ≠ 0 ∧ c ∈ ks)) :
    Calls Try.prog 15 #[v, .int .i64 c] w fun e w' => ∃ v1 v2, e = .returned (.tuple #[v1, v2]) ∧ RdI w0 v1 (cutD false ks c).1 ∧ RdI w0 v2 (cutD false ks c).2 ∧ Below w.heap.size w w' := by
  unfold cutD
  rw [if_neg Bool.false_ne_true]
  rcases hc with rfl | ⟨h0, hm⟩
  · rw [show ((0 : Int) == 0) = true from rfl, if_pos rfl]
    have HV := hid hv
    clear hv hW
    go_enter Try.func15, Try.ntmps15
    go_wp2
    go_ret2
    exact ⟨_, _, rfl, HV.out, rdI_nil _ _ _, Below.refl _ _⟩
  · have e0 : (c == 0) = false := beq_eq_false_iff_ne.2 h0
    rw [e0, if_neg Bool.false_ne_true]
    have hI := index_any v ks c w (hv.later hW) hl
    rw [idxI_mem ks c 0 hm, Nat.zero_add] at hI
    have hlt := List.idxOf_lt_length_of_mem hm
    obtain ⟨o, cp, rfl, hcp, g⟩ := id hv
    obtain ⟨b, off, rfl, _, _⟩ := g (by omega)
    have HT := hid (rdI_take hv (ks.idxOf c) (by omega))
    have HD := hid (rdI_drop hv (ks.idxOf c) (by omega))
    generalize ks.idxOf c = i at *
    have q1 : (0 : Int) ≤ (i : Int) := by omega
    have q2 : (i : Int) ≤ (ks.length : Int) := by omega
    have q3 : (i : Int) ≤ (cp : Int) := by omega
    have q4 : (ks.length : Int) ≤ (cp : Int) := by omega
    have q5 : ¬ cp = i := by omega
    have q6 : ((i : Int)).toNat = i := by omega
    clear g hv hm hW
    go_enter Try.func15, Try.ntmps15
    go_wp2_with fail
    refine hI.mono ?_
    rintro e v1 ⟨rfl, e1⟩
    have e1 := e1.symm
    subst e1
    clear hI
    go_upto_region 4 with fail
    go_quiet (fail)
    go_wp2
    go_ret2
    exact ⟨_, _, rfl, HT.out, HD.out, drewN_below _ _ _⟩
set_option maxRecDepth 100000 in
set_option maxHeartbeats 4000000 in
theorem insteadOf_at (v : Value) (ks : List Int) (c : Int) (w0 w : World) (hW : Below w0.heap.size w0 w) (hv : RdI w0 v ks) (hl : ks.length ≤ 1099511627776) (hm : c ∈ ks) :
    Calls Try.prog 16 #[v, .int .i64 c] w fun e w' => ∃ v1 v2, e = .returned (.tuple #[v1, v2]) ∧ RdI w0 v1 (cutD true ks c).1 ∧ RdI w0 v2 (cutD true ks c).2 ∧ Below w.heap.size w w' := by
  unfold cutD
  rw [if_pos rfl]
  have hI := index_any v ks c w (hv.later hW) hl
  rw [idxI_mem ks c 0 hm, Nat.zero_add] at hI
  have hlt := List.idxOf_lt_length_of_mem hm
  obtain ⟨o, cp, rfl, hcp, g⟩ := id hv
  obtain ⟨b, off, rfl, _, _⟩ := g (by omega)
  have HT := hid (rdI_take hv (ks.idxOf c) (by omega))
  have HD := hid (rdI_drop hv (ks.idxOf c + 1) (by omega))
  generalize ks.idxOf c = i at *
  have q1 : (0 : Int) ≤ (i : Int) := by omega
  have q2 : (i : Int) ≤ (ks.length : Int) := by omega
  have q3 : (i : Int) ≤ (cp : Int) := by omega
  have q4 : (ks.length : Int) ≤ (cp : Int) := by omega
  have q6 : ((i : Int)).toNat = i := by omega
  have q7 : (0 : Int) ≤ (i : Int) + 1 := by omega
  have q8 : (i : Int) + 1 ≤ (ks.length : Int) := by omega
  have q9 : (i : Int) + 1 ≤ (cp : Int) := by omega
  have q10 : ((i : Int) + 1).toNat = i + 1 := by omega
  have q11 : IntKind.i64.wrap ((i : Int) + 1) = (i : Int) + 1 := vwrap (by omega) (by omega)
  clear g hv hm hW
  by_cases hcap : cp = i + 1
  · subst hcap
    have hnil : ks.drop (i + 1) = [] := List.drop_eq_nil_of_le (by omega)
    rw [hnil]
    clear HD hnil
    go_enter Try.func16, Try.ntmps16
    go_wp2_with fail
    refine hI.mono ?_
    rintro e v1 ⟨rfl, e1⟩
    have e1 := e1.symm
    subst e1
    clear hI
    have hln : ks.length - (i + 1) = 0 := by omega
    go_upto_region 2 with fail
    go_quiet (fail)
    go_wp2
    go_ret2
    exact ⟨_, _, rfl, HT.out, rdI_nil _ _ _, drewN_below _ _ _⟩
  · go_enter Try.func16, Try.ntmps16
    go_wp2_with fail
    refine hI.mono ?_
    rintro e v1 ⟨rfl, e1⟩
    have e1 := e1.symm
    subst e1
    clear hI
    go_upto_region 2 with fail
    go_quiet (fail)
    go_wp2
    go_ret2
    exact ⟨_, _, rfl, HT.out, HD.out, drewN_below _ _ _⟩

theorem at_rd {w : World} {b off cap : Nat} {ns : List NodeD} (h : FAt w b off cap ns) : FRd w (some ⟨b, off, none⟩) cap ns := ⟨h.len, fun _ => ⟨b, off, rfl, h⟩⟩
theorem bne_zero {c : Int} (h : c ≠ 0) : (c != 0) = true := by rw [bne, beq_eq_false_iff_ne.2 h]; rfl
/-- What is needed of the parts of a right forest, for judging. -/
theorem kids_there {ns : List NodeD} (h : RightF ns) (j : Nat) (hj : j < ns.length) : ∀ y ∈ ns[j].kids, thereB ns.length y = true := fun y hy =>
  (h.kidsHang.down ((j : Int) + 1) y (thereB_idx _ _ hj) (by rw [kidsD_at ns j hj]; exact hy)).1
theorem known_at {ns : List NodeD} (h : RightF ns) (j : Nat) (hj : j < ns.length) : knownK ns[j].kind = true := by
  have hw := h.well j hj
  unfold wellMadeD at hw
  simp only [Bool.and_eq_true] at hw
  exact hw.1.1.1.1.1.1

theorem cut_takes (rep : Bool) (b off cap jx jp : Nat) (c : Int) (ns : List NodeD) (w : World) (hR : RightF ns) (hF : FAt w b off cap ns) (hkl : ∀ (i : Nat) (hi : i < ns.length), ns[i].kids.length ≤ 1099511627776) (hjx : jx < ns.length) (hjp : jp < ns.length) {va vb : Value} (r1 : RdI w va (cutD rep ns[jp].kids c).1) (r2 : RdI w vb (cutD rep ns[jp].kids c).2) :
    ∃ o1 n1 c1 o2 n2 c2, va = .slice o1 n1 c1 ∧ vb = .slice o2 n2 c2 ∧ ∀ V : World, Below w.heap.size w V → Calls Try.prog 25 #[gapV b off cap ns.length (.slice o1 n1 c1) (.slice o2 n2 c2), .int .i64 ((jx : Int) + 1)] V fun e w'' => e = .returned (.bool (takesD ns ((jx : Int) + 1) (cutD rep ns[jp].kids c).1 (cutD rep ns[jp].kids c).2)) ∧ Below V.heap.size V w'' := by
  obtain ⟨s1, s2, s3, s4⟩ := cut_sub rep ns[jp].kids c
  have hkp := hkl jp hjp
  obtain ⟨o1, c1, rfl, h1, _⟩ := id r1
  obtain ⟨o2, c2, rfl, h2, _⟩ := id r2
  exact ⟨o1, _, c1, o2, _, c2, rfl, rfl, fun V hV => takes_any b off cap o1 o2 c1 c2 jx _ _ ns w V hF hV hjx (known_at hR jx hjx) (hkl jx hjx) (kids_there hR jx hjx) r1 r2 (fun y hy => kids_there hR jp hjp y (s1 y hy)) (fun y hy => kids_there hR jp hjp y (s2 y hy)) (by omega) (by omega)⟩

theorem judge_form {ns : List NodeD} (rep : Bool) (x p c : Int) (K1 HO FI DD TK : Bool) (h1 : hasKidsK (kindD ns p) = K1) (h2 : holdsD ns x p = HO) (h3 : fitsD (kindD ns p) (kindD ns x) = FI) (h4 : (kindD ns p == 9) = DD) (h5 : takesD ns x (cutD rep (kidsD ns p) c).1 (cutD rep (kidsD ns p) c).2 = TK) (Q : Bool) (hq : (c != 0 && parentD ns c != p) = Q) :
    judgeD ns rep x p c = if K1 then (if HO then 10 else if Q then 11 else (if FI then (if DD then (if TK then 0 else 10) else 0) else 10)) else 10 := by
  unfold judgeD
  rw [h1, h2, h3, h4, h5, hq]

set_option maxHeartbeats 1000000 in
theorem judgeA0_ok (b off cap jx jp : Nat) (v : Value) (hs : List Int) (ns : List NodeD) (w : World) (hR : RightF ns) (hF : FAt w b off cap ns) (hkl : ∀ (i : Nat) (hi : i < ns.length), ns[i].kids.length ≤ 1099511627776) (hal : ∀ (i : Nat) (hi : i < ns.length), ns[i].attrs.length ≤ 1099511627776) (hv : RdI w v hs) (hl : hs.length ≤ 1099511627776) (hE : toldE ns hs = 0) (hjx : jx < ns.length) (hjp : jp < ns.length) :
    Calls Try.prog 14 #[.agg #[.slice (some ⟨b, off, none⟩) ns.length cap, .int .i64 ((jx : Int) + 1), .int .i64 ((jp : Int) + 1), .int .i64 0], .func (.func 15) #[] #[], v] w fun e w' => e = .returned (.int .i64 (judgeD ns false ((jx : Int) + 1) ((jp : Int) + 1) 0)) ∧ Below w.heap.size w w' := by
  have hx := thereB_idx _ _ hjx
  have hp := thereB_idx _ _ hjp
  obtain ⟨L, hc, _, _, hkR⟩ := hF.at_ jp hjp
  have hkc := hc.kids
  clear hc
  obtain ⟨vd, va, vk⟩ := L
  simp only at hkc hkR
  obtain ⟨ok, ck, hvk, hck, gk⟩ := id hkR
  have hE2 : toldE ns [(jx : Int) + 1, (jp : Int) + 1] = 0 := toldE_ok ((rightD_iff ns).2 hR) (by simp [hx, hp])
  have HM : ∀ W : World, Below w.heap.size w W → _ := fun W hW => missing_any _ cap v hs ns W (at_rd (hF.later hW)) hkl hal (hv.later hW) hl
  rw [hE] at HM
  have HH : ∀ W : World, Below w.heap.size w W → _ := fun W hW => Holds_any _ cap ((jx : Int) + 1) ((jp : Int) + 1) ns W (at_rd (hF.later hW)) hkl hal
  rw [hE2, if_pos rfl] at HH
  rw [judge_form false ((jx : Int) + 1) ((jp : Int) + 1) 0 _ _ _ _ _ rfl rfl rfl rfl rfl false rfl]
  refine judgedA0 b off cap jx jp v vk ok ck ns[jp].kids ns w _ _ _ _ _ (kindD ns ((jp : Int) + 1)) hjp hF.len hvk (fun V hV => (hV.cell (p := ⟨b, off + jp * 16 + 9, none⟩) hF.lt).trans hkc)
    HM (fun W hW => vkindOf_any b off cap _ ns w W hF hW hp) (fun W => vmayHaveKids_any _ W) HH (fun W hW => fits_any b off cap _ _ _ ns w W hF hW hx hp) (beq_cast _ 9) (fun _ W hW => ?_)
  refine (aheadOf_at vk ns[jp].kids 0 w W hW hkR (hkl jp hjp) (.inl rfl)).mono ?_
  rintro e w' ⟨v1, v2, rfl, r1, r2, hb⟩
  have h := cut_takes false b off cap jx jp 0 ns w hR hF hkl hjx hjp r1 r2
  rw [← kidsD_at ns jp hjp] at h
  exact ⟨v1, v2, rfl, hb, h⟩

set_option maxHeartbeats 1000000 in
theorem judgeA1_ok (b off cap jx jp jc : Nat) (v : Value) (hs : List Int) (ns : List NodeD) (w : World) (hR : RightF ns) (hF : FAt w b off cap ns) (hkl : ∀ (i : Nat) (hi : i < ns.length), ns[i].kids.length ≤ 1099511627776) (hal : ∀ (i : Nat) (hi : i < ns.length), ns[i].attrs.length ≤ 1099511627776) (hv : RdI w v hs) (hl : hs.length ≤ 1099511627776) (hE : toldE ns hs = 0) (hjx : jx < ns.length) (hjp : jp < ns.length) (hjc : jc < ns.length) :
    Calls Try.prog 14 #[.agg #[.slice (some ⟨b, off, none⟩) ns.length cap, .int .i64 ((jx : Int) + 1), .int .i64 ((jp : Int) + 1), .int .i64 ((jc : Int) + 1)], .func (.func 15) #[] #[], v] w fun e w' => e = .returned (.int .i64 (judgeD ns false ((jx : Int) + 1) ((jp : Int) + 1) ((jc : Int) + 1))) ∧ Below w.heap.size w w' := by
  have hx := thereB_idx _ _ hjx
  have hp := thereB_idx _ _ hjp
  obtain ⟨L, hc, _, _, hkR⟩ := hF.at_ jp hjp
  have hkc := hc.kids
  clear hc
  obtain ⟨vd, va, vk⟩ := L
  simp only at hkc hkR
  obtain ⟨ok, ck, hvk, hck, gk⟩ := id hkR
  have hE2 : toldE ns [(jx : Int) + 1, (jp : Int) + 1] = 0 := toldE_ok ((rightD_iff ns).2 hR) (by simp [hx, hp])
  have HM : ∀ W : World, Below w.heap.size w W → _ := fun W hW => missing_any _ cap v hs ns W (at_rd (hF.later hW)) hkl hal (hv.later hW) hl
  rw [hE] at HM
  have HH : ∀ W : World, Below w.heap.size w W → _ := fun W hW => Holds_any _ cap ((jx : Int) + 1) ((jp : Int) + 1) ns W (at_rd (hF.later hW)) hkl hal
  rw [hE2, if_pos rfl] at HH
  obtain ⟨L2, hc2, _, _, _⟩ := hF.at_ jc hjc
  have hpc := hc2.parent
  clear hc2
  have hct := thereB_idx _ _ hjc
  have hc0 := bne_zero (there_ne hct)
  rw [judge_form false ((jx : Int) + 1) ((jp : Int) + 1) ((jc : Int) + 1) _ _ _ _ _ rfl rfl rfl rfl rfl (parentD ns ((jc : Int) + 1) != ((jp : Int) + 1)) (by rw [hc0, Bool.true_and])]
  refine judgedA1 b off cap jx jp jc v vk ok ck ns[jp].kids ns w _ _ _ _ _ _ (kindD ns ((jp : Int) + 1)) ns[jc].parent hjc (by rw [parentD_at ns jc hjc]) hjp hF.len hvk (fun V hV => (hV.cell (p := ⟨b, off + jp * 16 + 9, none⟩) hF.lt).trans hkc) (fun V hV => (hV.cell (p := ⟨b, off + jc * 16 + 8, none⟩) hF.lt).trans hpc)
    HM (fun W hW => vkindOf_any b off cap _ ns w W hF hW hp) (fun W => vmayHaveKids_any _ W) HH (fun W hW => fits_any b off cap _ _ _ ns w W hF hW hx hp) (beq_cast _ 9) (fun hq _ W hW => ?_)
  have hcp : parentD ns ((jc : Int) + 1) = (jp : Int) + 1 := by
    by_cases e : parentD ns ((jc : Int) + 1) = (jp : Int) + 1
    · exact e
    · rw [bne, beq_eq_false_iff_ne.2 e] at hq; cases hq
  have hm := hR.kid hct (by rw [hcp]; exact there_ne hp)
  rw [hcp, kidsD_at ns jp hjp] at hm
  refine (aheadOf_at vk ns[jp].kids ((jc : Int) + 1) w W hW hkR (hkl jp hjp) (.inr ⟨there_ne hct, hm⟩)).mono ?_
  rintro e w' ⟨v1, v2, rfl, r1, r2, hb⟩
  have h := cut_takes false b off cap jx jp ((jc : Int) + 1) ns w hR hF hkl hjx hjp r1 r2
  rw [← kidsD_at ns jp hjp] at h
  exact ⟨v1, v2, rfl, hb, h⟩

set_option maxHeartbeats 1000000 in
theorem judgeI1_ok (b off cap jx jp jc : Nat) (v : Value) (hs : List Int) (ns : List NodeD) (w : World) (hR : RightF ns) (hF : FAt w b off cap ns) (hkl : ∀ (i : Nat) (hi : i < ns.length), ns[i].kids.length ≤ 1099511627776) (hal : ∀ (i : Nat) (hi : i < ns.length), ns[i].attrs.length ≤ 1099511627776) (hv : RdI w v hs) (hl : hs.length ≤ 1099511627776) (hE : toldE ns hs = 0) (hjx : jx < ns.length) (hjp : jp < ns.length) (hjc : jc < ns.length) :
    Calls Try.prog 14 #[.agg #[.slice (some ⟨b, off, none⟩) ns.length cap, .int .i64 ((jx : Int) + 1), .int .i64 ((jp : Int) + 1), .int .i64 ((jc : Int) + 1)], .func (.func 16) #[] #[], v] w fun e w' => e = .returned (.int .i64 (judgeD ns true ((jx : Int) + 1) ((jp : Int) + 1) ((jc : Int) + 1))) ∧ Below w.heap.size w w' := by
  have hx := thereB_idx _ _ hjx
  have hp := thereB_idx _ _ hjp
  obtain ⟨L, hc, _, _, hkR⟩ := hF.at_ jp hjp
  have hkc := hc.kids
  clear hc
  obtain ⟨vd, va, vk⟩ := L
  simp only at hkc hkR
  obtain ⟨ok, ck, hvk, hck, gk⟩ := id hkR
  have hE2 : toldE ns [(jx : Int) + 1, (jp : Int) + 1] = 0 := toldE_ok ((rightD_iff ns).2 hR) (by simp [hx, hp])
  have HM : ∀ W : World, Below w.heap.size w W → _ := fun W hW => missing_any _ cap v hs ns W (at_rd (hF.later hW)) hkl hal (hv.later hW) hl
  rw [hE] at HM
  have HH : ∀ W : World, Below w.heap.size w W → _ := fun W hW => Holds_any _ cap ((jx : Int) + 1) ((jp : Int) + 1) ns W (at_rd (hF.later hW)) hkl hal
  rw [hE2, if_pos rfl] at HH
  obtain ⟨L2, hc2, _, _, _⟩ := hF.at_ jc hjc
  have hpc := hc2.parent
  clear hc2
  have hct := thereB_idx _ _ hjc
  have hc0 := bne_zero (there_ne hct)
  rw [judge_form true ((jx : Int) + 1) ((jp : Int) + 1) ((jc : Int) + 1) _ _ _ _ _ rfl rfl rfl rfl rfl (parentD ns ((jc : Int) + 1) != ((jp : Int) + 1)) (by rw [hc0, Bool.true_and])]
  refine judgedI1 b off cap jx jp jc v vk ok ck ns[jp].kids ns w _ _ _ _ _ _ (kindD ns ((jp : Int) + 1)) ns[jc].parent hjc (by rw [parentD_at ns jc hjc]) hjp hF.len hvk (fun V hV => (hV.cell (p := ⟨b, off + jp * 16 + 9, none⟩) hF.lt).trans hkc) (fun V hV => (hV.cell (p := ⟨b, off + jc * 16 + 8, none⟩) hF.lt).trans hpc)
    HM (fun W hW => vkindOf_any b off cap _ ns w W hF hW hp) (fun W => vmayHaveKids_any _ W) HH (fun W hW => fits_any b off cap _ _ _ ns w W hF hW hx hp) (beq_cast _ 9) (fun hq _ W hW => ?_)
  have hcp : parentD ns ((jc : Int) + 1) = (jp : Int) + 1 := by
    by_cases e : parentD ns ((jc : Int) + 1) = (jp : Int) + 1
    · exact e
    · rw [bne, beq_eq_false_iff_ne.2 e] at hq; cases hq
  have hm := hR.kid hct (by rw [hcp]; exact there_ne hp)
  rw [hcp, kidsD_at ns jp hjp] at hm
  refine (insteadOf_at vk ns[jp].kids ((jc : Int) + 1) w W hW hkR (hkl jp hjp) hm).mono ?_
  rintro e w' ⟨v1, v2, rfl, r1, r2, hb⟩
  have h := cut_takes true b off cap jx jp ((jc : Int) + 1) ns w hR hF hkl hjx hjp r1 r2
  rw [← kidsD_at ns jp hjp] at h
  exact ⟨v1, v2, rfl, hb, h⟩
end Go.Proofs.Ytfaeabjgplahgaa

namespace Go.Proofs.Ytfaeabjgplahgaa
open Go.RowKit Go.Lib Go.Shelf Go.Maps

theorem rd_cells {W : World} {g : Nat} {l : List Int} {t : TypeId} (h : W.heap[g]? = some (.cells (l.map (Value.int .i64)).toArray t)) : RdI W (.slice (some ⟨g, 0, none⟩) l.length l.length) l := by
  refine ⟨_, _, rfl, Nat.le_refl _, fun _ => ⟨g, 0, rfl, (Array.getElem?_eq_some_iff.1 h).1, fun j hj => ?_⟩⟩
  rw [Nat.zero_add, cell_of_heap h]
  simp [hj]
def handlesI (x p c : Int) : List Int := if c == 0 then [x, p] else [x, p, c]
/-- What Insert answers; what Replace answers; what Adopt answers. -/
def insertE (ns : List NodeD) (x p c : Int) : Int := if toldE ns (handlesI x p c) = 0 then judgeD ns false x p c else toldE ns (handlesI x p c)
def replaceE (ns : List NodeD) (x p c : Int) : Int := if toldE ns [x, p, c] = 0 then judgeD ns true x p c else toldE ns [x, p, c]
def adoptE (ns : List NodeD) (x : Int) : Int := if toldE ns [x] = 0 then (if kindD ns x == 9 then 17 else if kindD ns x == 12 then 10 else 0) else toldE ns [x]

theorem judged_insert (o : Option Addr) (cap : Nat) (x p c : Int) (v : Value) (ns : List NodeD) (w : World) (hF : FRd w o cap ns) (hkl : ∀ (i : Nat) (hi : i < ns.length), ns[i].kids.length ≤ 1099511627776) (hal : ∀ (i : Nat) (hi : i < ns.length), ns[i].attrs.length ≤ 1099511627776) (hv : RdI w v (handlesI x p c)) :
    Calls Try.prog 14 #[.agg #[.slice o ns.length cap, .int .i64 x, .int .i64 p, .int .i64 c], .func (.func 15) #[] #[], v] w fun e w' => e = .returned (.int .i64 (insertE ns x p c)) ∧ Below w.heap.size w w' := by
  have hl : (handlesI x p c).length ≤ 1099511627776 := by unfold handlesI; split <;> simp
  unfold insertE
  by_cases hE : toldE ns (handlesI x p c) = 0
  · rw [if_pos hE]
    obtain ⟨hR, hth⟩ := toldE_zero hE
    have hx := hth x (by unfold handlesI; split <;> simp)
    have hp := hth p (by unfold handlesI; split <;> simp)
    obtain ⟨jx, hjx, rfl⟩ := there_idx hx
    obtain ⟨jp, hjp, rfl⟩ := there_idx hp
    obtain ⟨b, off, rfl, hFA⟩ := hF.at_ (by omega)
    by_cases h0 : c = 0
    · subst h0
      exact judgeA0_ok b off cap jx jp v _ ns w hR hFA hkl hal hv hl hE hjx hjp
    · have hc := hth c (by unfold handlesI; rw [beq_eq_false_iff_ne.2 h0, if_neg Bool.false_ne_true]; simp)
      obtain ⟨jc, hjc, rfl⟩ := there_idx hc
      exact judgeA1_ok b off cap jx jp jc v _ ns w hR hFA hkl hal hv hl hE hjx hjp hjc
  · rw [if_neg hE]
    exact judged_no o cap _ x p c _ v ns w (bne_zero hE) (fun W hW => missing_any o cap v _ ns W (hF.later hW) hkl hal (hv.later hW) hl)
theorem judged_replace (o : Option Addr) (cap : Nat) (x p c : Int) (v : Value) (ns : List NodeD) (w : World) (hF : FRd w o cap ns) (hkl : ∀ (i : Nat) (hi : i < ns.length), ns[i].kids.length ≤ 1099511627776) (hal : ∀ (i : Nat) (hi : i < ns.length), ns[i].attrs.length ≤ 1099511627776) (hv : RdI w v [x, p, c]) :
    Calls Try.prog 14 #[.agg #[.slice o ns.length cap, .int .i64 x, .int .i64 p, .int .i64 c], .func (.func 16) #[] #[], v] w fun e w' => e = .returned (.int .i64 (replaceE ns x p c)) ∧ Below w.heap.size w w' := by
  unfold replaceE
  by_cases hE : toldE ns [x, p, c] = 0
  · rw [if_pos hE]
    obtain ⟨hR, hth⟩ := toldE_zero hE
    obtain ⟨jx, hjx, rfl⟩ := there_idx (hth x (by simp))
    obtain ⟨jp, hjp, rfl⟩ := there_idx (hth p (by simp))
    obtain ⟨jc, hjc, rfl⟩ := there_idx (hth c (by simp))
    obtain ⟨b, off, rfl, hFA⟩ := hF.at_ (by omega)
    exact judgeI1_ok b off cap jx jp jc v _ ns w hR hFA hkl hal hv (by simp) hE hjx hjp hjc
  · rw [if_neg hE]
    exact judged_no o cap _ x p c _ v ns w (bne_zero hE) (fun W hW => missing_any o cap v _ ns W (hF.later hW) hkl hal (hv.later hW) (by simp))

set_option maxRecDepth 100000 in
set_option maxHeartbeats 4000000 in
theorem Insert_any (o : Option Addr) (cap : Nat) (x p c : Int) (ns : List NodeD) (w : World) (hF : FRd w o cap ns) (hkl : ∀ (i : Nat) (hi : i < ns.length), ns[i].kids.length ≤ 1099511627776) (hal : ∀ (i : Nat) (hi : i < ns.length), ns[i].attrs.length ≤ 1099511627776) :
    Calls Try.prog 7 #[.agg #[.slice o ns.length cap], .int .i64 x, .int .i64 p, .int .i64 c] w fun e w' => e = .returned (.int .i64 (insertE ns x p c)) ∧ Below w.heap.size w w' := by
  have HJ : ∀ (v : Value) (W : World), Below w.heap.size w W → RdI W v (handlesI x p c) → _ := fun v W hW hv => judged_insert o cap x p c v ns W (hF.later hW) hkl hal hv
  unfold handlesI at HJ
  by_cases h0 : c = 0
  · subst h0
    rw [show ((0 : Int) == 0) = true from rfl, if_pos rfl] at HJ
    have hB : Below w.heap.size w ((w.alloc (.cells #[.slice o ns.length cap] 24)).alloc (.cells #[.int .i64 x, .int .i64 p] 3)) := ((Below.refl _ w).alloc (Nat.le_refl _) _).alloc (by simp) _
    have hJ := HJ (.slice (some ⟨w.heap.size + 1, 0, none⟩) 2 2) _ hB (rd_cells (l := [x, p]) (t := 3) (vheap_new2 _ _ _))
    generalize insertE ns x p 0 = R at *
    have HB := hid hB
    clear HJ hF hkl hal hB
    go_enter Try.func7, Try.ntmps7
    go_wp2_with fail
    refine hJ.mono ?_
    rintro e v1 ⟨rfl, hb⟩
    have HB2 := hid (HB.out.trans (hb.mono HB.out.size))
    clear hb hJ HB
    go_wp2
    go_ret
    exact ⟨rfl, HB2.out⟩
  · have e0 : (c == 0) = false := beq_eq_false_iff_ne.2 h0
    rw [e0, if_neg Bool.false_ne_true] at HJ
    have hB : Below w.heap.size w ((w.alloc (.cells #[.slice o ns.length cap] 24)).alloc (.cells #[.int .i64 x, .int .i64 p, .int .i64 c] 3)) := ((Below.refl _ w).alloc (Nat.le_refl _) _).alloc (by simp) _
    have hJ := HJ (.slice (some ⟨w.heap.size + 1, 0, none⟩) 3 3) _ hB (rd_cells (l := [x, p, c]) (t := 3) (vheap_new2 _ _ _))
    generalize insertE ns x p c = R at *
    have HB := hid hB
    clear HJ hF hkl hal hB
    go_enter Try.func7, Try.ntmps7
    go_wp2_with fail
    refine hJ.mono ?_
    rintro e v1 ⟨rfl, hb⟩
    have HB2 := hid (HB.out.trans (hb.mono HB.out.size))
    clear hb hJ HB
    go_wp2
    go_ret
    exact ⟨rfl, HB2.out⟩
set_option maxRecDepth 100000 in
set_option maxHeartbeats 4000000 in
theorem Replace_any (o : Option Addr) (cap : Nat) (x p c : Int) (ns : List NodeD) (w : World) (hF : FRd w o cap ns) (hkl : ∀ (i : Nat) (hi : i < ns.length), ns[i].kids.length ≤ 1099511627776) (hal : ∀ (i : Nat) (hi : i < ns.length), ns[i].attrs.length ≤ 1099511627776) :
    Calls Try.prog 8 #[.agg #[.slice o ns.length cap], .int .i64 x, .int .i64 p, .int .i64 c] w fun e w' => e = .returned (.int .i64 (replaceE ns x p c)) ∧ Below w.heap.size w w' := by
  have hB : Below w.heap.size w ((w.alloc (.cells #[.slice o ns.length cap] 24)).alloc (.cells #[.int .i64 x, .int .i64 p, .int .i64 c] 3)) := ((Below.refl _ w).alloc (Nat.le_refl _) _).alloc (by simp) _
  have hJ := judged_replace o cap x p c (.slice (some ⟨w.heap.size + 1, 0, none⟩) 3 3) ns _ (hF.later hB) hkl hal (rd_cells (l := [x, p, c]) (t := 3) (vheap_new2 _ _ _))
  generalize replaceE ns x p c = R at *
  have HB := hid hB
  clear hF hkl hal hB
  go_enter Try.func8, Try.ntmps8
  go_wp2_with fail
  refine hJ.mono ?_
  rintro e v1 ⟨rfl, hb⟩
  have HB2 := hid (HB.out.trans (hb.mono HB.out.size))
  clear hb hJ HB
  go_wp2
  go_ret
  exact ⟨rfl, HB2.out⟩
set_option maxRecDepth 100000 in
set_option maxHeartbeats 4000000 in
theorem Adopt_any (o : Option Addr) (cap : Nat) (x : Int) (ns : List NodeD) (w : World) (hF : FRd w o cap ns) (hkl : ∀ (i : Nat) (hi : i < ns.length), ns[i].kids.length ≤ 1099511627776) (hal : ∀ (i : Nat) (hi : i < ns.length), ns[i].attrs.length ≤ 1099511627776) :
    Calls Try.prog 12 #[.agg #[.slice o ns.length cap], .int .i64 x] w fun e w' => e = .returned (.int .i64 (adoptE ns x)) ∧ Below w.heap.size w w' := by
  have hB : Below w.heap.size w ((w.alloc (.cells #[.slice o ns.length cap] 24)).alloc (.cells #[.int .i64 x] 3)) := ((Below.refl _ w).alloc (Nat.le_refl _) _).alloc (by simp) _
  have hM := missing_any o cap (.slice (some ⟨w.heap.size + 1, 0, none⟩) 1 1) [x] ns _ (hF.later hB) hkl hal (rd_cells (l := [x]) (t := 3) (vheap_new2 _ _ _)) (by simp)
  unfold adoptE
  have HB := hid hB
  by_cases hE : toldE ns [x] = 0
  · obtain ⟨hR, hth⟩ := toldE_zero hE
    have hx := hth x (by simp)
    obtain ⟨j, hj, hxj⟩ := there_idx hx
    clear hxj
    obtain ⟨b, off, rfl, hFA⟩ := hF.at_ (by omega)
    have HK : Hid (∀ V : World, Below w.heap.size w V → _) := fun V hV => vkindOf_any b off cap x ns w V hFA hV hx
    rw [hE] at hM
    rw [if_pos hE]
    have e1 : ((kindD ns x : Int) == 9) = (kindD ns x == 9) := beq_cast _ 9
    have e2 : ((kindD ns x : Int) == 12) = (kindD ns x == 12) := beq_cast _ 12
    clear hB hF hkl hal hE hR hth hx hFA
    generalize kindD ns x = K at *
    generalize (K == 9) = B1 at *
    generalize (K == 12) = B2 at *
    have hbx : ∀ V, Below ((w.alloc (.cells #[.slice (some ⟨b, off, none⟩) ns.length cap] 24)).alloc (.cells #[.int .i64 x] 3)).heap.size ((w.alloc (.cells #[.slice (some ⟨b, off, none⟩) ns.length cap] 24)).alloc (.cells #[.int .i64 x] 3)) V → V.cell? ⟨w.heap.size, 0, none⟩ = some (.slice (some ⟨b, off, none⟩) ns.length cap) := fun V hV => (hV.cell (p := ⟨w.heap.size, 0, none⟩) (by show w.heap.size < _; simp; omega)).trans (by simp)
    have HBX := hid hbx
    clear hbx
    cases B1 <;> cases B2
    all_goals
      go_enter Try.func12, Try.ntmps12
      go_wp2_with fail
      refine hM.mono ?_
      rintro e v1 ⟨rfl, hb⟩
      have HB2 := hid (HB.out.trans (hb.mono HB.out.size))
      have cb := HBX.out v1 hb
      clear hb hM HB HBX
      go_wp2_with fail
      refine (HK.out _ HB2.out).mono ?_
      rintro e v2 ⟨rfl, hb⟩
      have HB3 := hid (HB2.out.trans (hb.mono HB2.out.size))
      clear hb HK HB2 cb
      go_wp2
      go_ret
      exact ⟨rfl, HB3.out⟩
  · rw [if_neg hE]
    have hne := bne_zero hE
    generalize toldE ns [x] = E at *
    clear hF hkl hal hB hE
    go_enter Try.func12, Try.ntmps12
    go_wp2_with fail
    refine hM.mono ?_
    rintro e v1 ⟨rfl, hb⟩
    have HB2 := hid (HB.out.trans (hb.mono HB.out.size))
    clear hb hM HB
    go_wp2
    go_ret
    exact ⟨rfl, HB2.out⟩
end Go.Proofs.Ytfaeabjgplahgaa

namespace Go.Proofs.Ytfaeabjgplahgaa
open Go.RowKit Go.Lib Go.Shelf

def smallVs : List NodeD := [{ blankNode with kind := 9, kids := [2, 3], doc := 1 }, { blankNode with kind := 10, loc := ⟨#[97]⟩, parent := 1, doc := 1 }, { blankNode with kind := 1, loc := ⟨#[97]⟩, parent := 1, doc := 1 }, { blankNode with kind := 1, loc := ⟨#[98]⟩, doc := 1 }, { blankNode with kind := 3, data := [65], doc := 1 }]
theorem four_1 (w : World) (a b c d : Obj) : ((((w.alloc a).alloc b).alloc c).alloc d).heap[w.heap.size + 1]? = some b := by
  have h := vheap_new (w.alloc a) b
  simp only [World.size_alloc] at h
  rw [Below.heap_alloc _ _ _ (by simp only [World.size_alloc]; omega), Below.heap_alloc _ _ _ (by simp only [World.size_alloc]; omega)]
  exact h
theorem four_2 (w : World) (a b c d : Obj) : ((((w.alloc a).alloc b).alloc c).alloc d).heap[w.heap.size + 1 + 1]? = some c := by
  have h := vheap_new ((w.alloc a).alloc b) c
  simp only [World.size_alloc] at h
  rw [Below.heap_alloc _ _ _ (by simp only [World.size_alloc]; omega)]
  exact h
theorem four_3 (w : World) (a b c d : Obj) : ((((w.alloc a).alloc b).alloc c).alloc d).heap[w.heap.size + 1 + 1 + 1]? = some d := by
  have h := vheap_new (((w.alloc a).alloc b).alloc c) d
  simp only [World.size_alloc] at h
  exact h
theorem four_below (w : World) (a b c d : Obj) : Below w.heap.size w ((((w.alloc a).alloc b).alloc c).alloc d) :=
  ((((Below.refl _ w).alloc (Nat.le_refl _) a).alloc (by simp) b).alloc (by simp; omega) c).alloc (by simp; omega) d
theorem smallV_at {W : World} {b g1 g2 : Nat} {t1 t2 t : TypeId} (h1 : W.heap[g1]? = some (.cells #[.int .i64 2, .int .i64 3] t1 (0, 0))) (h2 : W.heap[g2]? = some (.cells #[.int .u16 65] t2 (0, 0)))
    (h : W.heap[b]? = some (.cells #[.int .u8 9, .string ⟨#[]⟩, .string ⟨#[]⟩, .string ⟨#[]⟩, .string ⟨#[]⟩, .string ⟨#[]⟩, .slice none 0 0, .slice none 0 0, .int .i64 0, .slice (some ⟨g1, 0, none⟩) 2 2, .int .i64 1, .int .i64 0, .int .i64 0, .int .u8 0, .bool false, .bool false, .int .u8 10, .string ⟨#[]⟩, .string ⟨#[]⟩, .string ⟨#[97]⟩, .string ⟨#[]⟩, .string ⟨#[]⟩, .slice none 0 0, .slice none 0 0, .int .i64 1, .slice none 0 0, .int .i64 1, .int .i64 0, .int .i64 0, .int .u8 0, .bool false, .bool false, .int .u8 1, .string ⟨#[]⟩, .string ⟨#[]⟩, .string ⟨#[97]⟩, .string ⟨#[]⟩, .string ⟨#[]⟩, .slice none 0 0, .slice none 0 0, .int .i64 1, .slice none 0 0, .int .i64 1, .int .i64 0, .int .i64 0, .int .u8 0, .bool false, .bool false, .int .u8 1, .string ⟨#[]⟩, .string ⟨#[]⟩, .string ⟨#[98]⟩, .string ⟨#[]⟩, .string ⟨#[]⟩, .slice none 0 0, .slice none 0 0, .int .i64 0, .slice none 0 0, .int .i64 1, .int .i64 0, .int .i64 0, .int .u8 0, .bool false, .bool false, .int .u8 3, .string ⟨#[]⟩, .string ⟨#[]⟩, .string ⟨#[]⟩, .string ⟨#[]⟩, .string ⟨#[]⟩, .slice (some ⟨g2, 0, none⟩) 1 1, .slice none 0 0, .int .i64 0, .slice none 0 0, .int .i64 1, .int .i64 0, .int .i64 0, .int .u8 0, .bool false, .bool false] t (0, 0))) : FAt W b 0 5 smallVs := by
  refine ⟨(Array.getElem?_eq_some_iff.1 h).1, by decide, by decide, fun i hi => ?_⟩
  match i, hi with
  | 0, _ => exact ⟨⟨.slice none 0 0, .slice none 0 0, .slice (some ⟨g1, 0, none⟩) 2 2⟩, by constructor <;> (rw [cell_of_heap h]; rfl), nil_rdN W, nil_rdA W, rd_cells (l := [2, 3]) h1⟩
  | 1, _ => exact ⟨⟨.slice none 0 0, .slice none 0 0, .slice none 0 0⟩, by constructor <;> (rw [cell_of_heap h]; rfl), nil_rdN W, nil_rdA W, nil_rdI W⟩
  | 2, _ => exact ⟨⟨.slice none 0 0, .slice none 0 0, .slice none 0 0⟩, by constructor <;> (rw [cell_of_heap h]; rfl), nil_rdN W, nil_rdA W, nil_rdI W⟩
  | 3, _ => exact ⟨⟨.slice none 0 0, .slice none 0 0, .slice none 0 0⟩, by constructor <;> (rw [cell_of_heap h]; rfl), nil_rdN W, nil_rdA W, nil_rdI W⟩
  | 4, _ => exact ⟨⟨.slice (some ⟨g2, 0, none⟩) 1 1, .slice none 0 0, .slice none 0 0⟩, by constructor <;> (rw [cell_of_heap h]; rfl), one_rdN' h2, nil_rdA W, nil_rdI W⟩

set_option maxRecDepth 100000 in
set_option maxHeartbeats 4000000 in
theorem smallV_any (w : World) :
    Calls Try.prog 11 #[] w fun e w' => ∃ b : Nat, e = .returned (.agg #[.slice (some ⟨b, 0, none⟩) 5 5]) ∧ FAt w' b 0 5 smallVs ∧ Below w.heap.size w w' := by
  go_enter Try.func11, Try.ntmps11
  go_wp2
  exact bodyPost_ret (v := .agg #[.slice (some ⟨w.heap.size + 1 + 1 + 1, 0, none⟩) 5 5]) (by simp [results, Try.results11, go_sem]) rfl ⟨_, rfl, smallV_at (four_1 _ _ _ _ _) (four_2 _ _ _ _ _) (four_3 _ _ _ _ _), four_below _ _ _ _ _⟩
theorem smallV_answers : insertE smallVs 4 1 0 = 10 ∧ replaceE smallVs 4 1 3 = 0 ∧ insertE smallVs 5 1 0 = 10 ∧ insertE smallVs 5 3 0 = 0 ∧ insertE smallVs 5 3 2 = 11 ∧ adoptE smallVs 1 = 17 ∧ insertE smallVs 9 3 0 = 2 := by decide +kernel

set_option maxRecDepth 100000 in
set_option maxHeartbeats 8000000 in
theorem beginsV_true (w : World) : Calls Try.prog 5 #[] w fun e w' => e = .returned (.bool true) ∧ Below w.heap.size w w' := by
  obtain ⟨a1, a2, a3, a4, a5, a6, a7⟩ := smallV_answers
  have hk := all_kids (ns := smallVs) (by decide +kernel)
  have ha := all_attrs (ns := smallVs) (by decide +kernel)
  have HI : Hid (∀ (b : Nat) (x p c : Int) (W : World), FAt W b 0 5 smallVs → Calls Try.prog 7 #[.agg #[.slice (some ⟨b, 0, none⟩) 5 5], .int .i64 x, .int .i64 p, .int .i64 c] W fun e w' => e = .returned (.int .i64 (insertE smallVs x p c)) ∧ Below W.heap.size W w') := fun b x p c W h => Insert_any (some ⟨b, 0, none⟩) 5 x p c smallVs W (at_rd h) hk ha
  have HR : Hid (∀ (b : Nat) (x p c : Int) (W : World), FAt W b 0 5 smallVs → Calls Try.prog 8 #[.agg #[.slice (some ⟨b, 0, none⟩) 5 5], .int .i64 x, .int .i64 p, .int .i64 c] W fun e w' => e = .returned (.int .i64 (replaceE smallVs x p c)) ∧ Below W.heap.size W w') := fun b x p c W h => Replace_any (some ⟨b, 0, none⟩) 5 x p c smallVs W (at_rd h) hk ha
  have HA : Hid (∀ (b : Nat) (x : Int) (W : World), FAt W b 0 5 smallVs → Calls Try.prog 12 #[.agg #[.slice (some ⟨b, 0, none⟩) 5 5], .int .i64 x] W fun e w' => e = .returned (.int .i64 (adoptE smallVs x)) ∧ Below W.heap.size W w') := fun b x W h => Adopt_any (some ⟨b, 0, none⟩) 5 x smallVs W (at_rd h) hk ha
  have H1 : Hid (∀ (b : Nat) (W : World), FAt W b 0 5 smallVs → _) := fun b W h => HI.out b 4 1 0 W h
  have H2 : Hid (∀ (b : Nat) (W : World), FAt W b 0 5 smallVs → _) := fun b W h => HR.out b 4 1 3 W h
  have H3 : Hid (∀ (b : Nat) (W : World), FAt W b 0 5 smallVs → _) := fun b W h => HI.out b 5 1 0 W h
  have H4 : Hid (∀ (b : Nat) (W : World), FAt W b 0 5 smallVs → _) := fun b W h => HI.out b 5 3 0 W h
  have H5 : Hid (∀ (b : Nat) (W : World), FAt W b 0 5 smallVs → _) := fun b W h => HI.out b 5 3 2 W h
  have H6 : Hid (∀ (b : Nat) (W : World), FAt W b 0 5 smallVs → _) := fun b W h => HA.out b 1 W h
  have H7 : Hid (∀ (b : Nat) (W : World), FAt W b 0 5 smallVs → _) := fun b W h => HI.out b 9 3 0 W h
  rw [a1] at H1
  rw [a2] at H2
  rw [a3] at H3
  rw [a4] at H4
  rw [a5] at H5
  rw [a6] at H6
  rw [a7] at H7
  have HS := hid (smallV_any w)
  clear a1 a2 a3 a4 a5 a6 a7 HI HR HA hk ha
  generalize smallVs = ns at *
  go_enter Try.func5, Try.ntmps5
  go_wp2_with fail
  refine HS.out.mono ?_
  rintro e v0 ⟨b, rfl, hF, hb⟩
  have HW := hid hb
  have HX : Hid (∀ V : World, Below (v0.heap.size + 1) (v0.alloc (.cells #[.slice (some ⟨b, 0, none⟩) 5 5] 24)) V → V.cell? ⟨v0.heap.size, 0, none⟩ = some (.slice (some ⟨b, 0, none⟩) 5 5) ∧ FAt V b 0 5 ns) := fun V hV => ⟨(hV.cell (p := ⟨v0.heap.size, 0, none⟩) (by show v0.heap.size < v0.heap.size + 1; omega)).trans (by simp), hF.later (bx_below hV)⟩
  have HB0 : Hid (Below (v0.heap.size + 1) (v0.alloc (.cells #[.slice (some ⟨b, 0, none⟩) 5 5] 24)) (v0.alloc (.cells #[.slice (some ⟨b, 0, none⟩) 5 5] 24))) := Below.refl _ _
  clear hb hF HS
  go_wp2_with fail
  refine (H1.out b _ (HX.out _ HB0.out).2).mono ?_
  rintro e v1 ⟨rfl, hb⟩
  have HB1 := hid (HB0.out.trans (hb.mono (bx_size HB0.out)))
  clear hb HB0 H1
  have cb := (HX.out v1 HB1.out).1
  go_wp2_with fail
  refine (H2.out b _ (HX.out _ HB1.out).2).mono ?_
  rintro e v2 ⟨rfl, hb⟩
  have HB2 := hid (HB1.out.trans (hb.mono (bx_size HB1.out)))
  clear cb
  clear hb HB1 H2
  have cb := (HX.out v2 HB2.out).1
  go_wp2_with fail
  refine (H3.out b _ (HX.out _ HB2.out).2).mono ?_
  rintro e v3 ⟨rfl, hb⟩
  have HB3 := hid (HB2.out.trans (hb.mono (bx_size HB2.out)))
  clear cb
  clear hb HB2 H3
  have cb := (HX.out v3 HB3.out).1
  go_wp2_with fail
  refine (H4.out b _ (HX.out _ HB3.out).2).mono ?_
  rintro e v4 ⟨rfl, hb⟩
  have HB4 := hid (HB3.out.trans (hb.mono (bx_size HB3.out)))
  clear cb
  clear hb HB3 H4
  have cb := (HX.out v4 HB4.out).1
  go_wp2_with fail
  refine (H5.out b _ (HX.out _ HB4.out).2).mono ?_
  rintro e v5 ⟨rfl, hb⟩
  have HB5 := hid (HB4.out.trans (hb.mono (bx_size HB4.out)))
  clear cb
  clear hb HB4 H5
  have cb := (HX.out v5 HB5.out).1
  go_wp2_with fail
  refine (H6.out b _ (HX.out _ HB5.out).2).mono ?_
  rintro e v6 ⟨rfl, hb⟩
  have HB6 := hid (HB5.out.trans (hb.mono (bx_size HB5.out)))
  clear cb
  clear hb HB5 H6
  have cb := (HX.out v6 HB6.out).1
  go_wp2_with fail
  refine (H7.out b _ (HX.out _ HB6.out).2).mono ?_
  rintro e v7 ⟨rfl, hb⟩
  have HB7 := hid (HB6.out.trans (hb.mono (bx_size HB6.out)))
  clear cb
  clear hb HB6 H7
  have cb := (HX.out v7 HB7.out).1
  go_wp2
  go_ret
  exact ⟨rfl, HW.out.trans ((bx_below HB7.out).mono HW.out.size)⟩
end Go.Proofs.Ytfaeabjgplahgaa
