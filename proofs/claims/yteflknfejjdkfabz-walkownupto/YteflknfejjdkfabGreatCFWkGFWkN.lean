/- walk: why a filter, or a node, can't be asked (wrong). -/
/- walk: a filter that is copied; a tour that is made. -/
/- walk: a filter that is copied (copyOf); a tour that is made (tourOf). -/
/- walk: a tour that is made (tourOf); the table of ways. -/
/- walk: a step (stepOf, and what it makes). -/
/- walk: stepOf. -/
/- walk: Step. -/
import Derived.Test.YteflknfejjdkfabGreatCFWkPFWkS
import Derived.Test.YteflknfejjdkfabGreatCFWellFCheck
import Derived.Test.YteflknfejjdkfabGreatCFWkCFWkF
import Derived.Test.YteflknfejjdkfabGreatCFUpFList
import Derived.Laws.EntriesVeiled
import Derived.Maps.OwnSet
import Derived.Maps.Own
namespace Go.Proofs.YteflknfejjdkfabGreat
open Go.RowKit Go.Lib

/-- The first rule of which something holds. -/
def firstR (p : RuleD → Bool) : List RuleD → Nat → Int
  | [], _ => -1
  | x :: t, k => if p x then (k : Int) else firstR p t (k + 1)
theorem firstR_any (p : RuleD → Bool) : ∀ (l : List RuleD) (k : Nat), decide (0 ≤ firstR p l k) = l.any p
  | [], _ => rfl
  | x :: t, k => by
    rw [firstR, List.any_cons]
    cases p x with
    | true => rw [if_pos rfl, Bool.true_or]; exact decide_eq_true (by omega)
    | false => rw [if_neg Bool.false_ne_true, Bool.false_or]; exact firstR_any p t (k + 1)

set_option maxRecDepth 100000 in
set_option maxHeartbeats 2000000 in
theorem indexFuncR_any (ro : Option Addr) (rc fn : Nat) (l : List RuleD) (p : RuleD → Bool) (w : World) (hv : RdR w (.slice ro l.length rc) l) (hl : l.length ≤ 1099511627776)
    (eg : ∀ args w, (callFunc fn args).run Tryz.prog w = .ok (.enter fn args) w)
    (hp : ∀ x, ∀ W : World, Below w.heap.size w W → Calls Tryz.prog fn #[ruleV x] W fun e w' => e = .returned (.bool (p x)) ∧ Below W.heap.size W w') :
    Calls Tryz.prog 54 #[.slice ro l.length rc, .func (.func fn) #[] #[]] w fun e w' => e = .returned (.int .i64 (firstR p l 0)) ∧ Below w.heap.size w w' := by
  obtain ⟨o', c', he, hc, g⟩ := hv
  obtain ⟨rfl, rfl⟩ : o' = ro ∧ c' = rc := by
    simp only [Value.slice.injEq] at he
    exact ⟨he.1.symm, he.2.2.symm⟩
  obtain ⟨N, hN⟩ : ∃ N, firstR p l 0 = N := ⟨_, rfl⟩
  rw [hN]
  have HN : Hid (firstR p (l.drop 0) 0 = N) := hN
  have HP := hid hp
  have G := hid g
  clear hN hp g he
  unfold ruleV at HP
  go_enter Tryz.func54, Tryz.ntmps54
  go_wp2
  go_loopw [8] (fun t wr => ∃ k : Nat, k ≤ l.length ∧ t = .int .i64 k ∧ Hid (Below w.heap.size w wr) ∧ Hid (firstR p (l.drop k) k = N)) (fun t _ => l.length - (RowKit.intOf t).toNat)
  case atStart => exact ⟨0, Nat.zero_le _, rfl, Below.refl _ _, HN⟩
  case round =>
    obtain ⟨k, k1, rfl, hB, hK⟩ := hrel
    by_cases hlt : k < l.length
    · obtain ⟨b, off, rfl, hlt1, ha⟩ := G.out (by omega)
      obtain ⟨r0, r1, r2⟩ := (ha k hlt).later hlt1 hB.out
      have q1 : (0 : Int) ≤ (k : Int) := by omega
      have q2 : (k : Int) < (l.length : Int) := by omega
      have hk := hK.out
      rw [List.drop_eq_getElem_cons hlt, firstR] at hk
      have Hk := hid hk
      have hC := HP.out l[k] wr hB.out
      clear hk hK ha G HP
      generalize l[k] = a at *
      generalize p a = R at *
      cases R with
      | true =>
        have hNk : N = (k : Int) := by rw [← Hk.out]; rfl
        subst hNk
        clear Hk
        go_wp2_with (go_at_fn fn; refine hC.mono ?_; rintro e w2 ⟨rfl, hb⟩; have HB2 := hid (hB.out.trans (hb.mono hB.out.size)); clear hb)
        go_ret
        exact ⟨rfl, HB2.out⟩
      | false =>
        have Hn : Hid (firstR p (l.drop (k + 1)) (k + 1) = N) := by
          have h := Hk.out
          rw [if_neg Bool.false_ne_true] at h
          exact h
        clear Hk
        go_wp2_with (go_at_fn fn; refine hC.mono ?_; rintro e w2 ⟨rfl, hb⟩; have HB2 := hid (hB.out.trans (hb.mono hB.out.size)); clear hb)
        go_roundw
        case rel => exact ⟨k + 1, by omega, by go_num, HB2, Hn⟩
        case measure => simp [RowKit.intOf]; omega
    · have hNk : N = -1 := by
        rw [← hK.out, List.drop_eq_nil_of_le (by omega)]
        rfl
      subst hNk
      clear hK G HP
      go_wp2
      go_ret
      exact ⟨rfl, hB.out⟩

set_option maxHeartbeats 2000000 in
theorem containsFuncR_any (ro : Option Addr) (rc fn : Nat) (l : List RuleD) (p : RuleD → Bool) (w : World) (hv : RdR w (.slice ro l.length rc) l) (hl : l.length ≤ 1099511627776)
    (eg : ∀ args w, (callFunc fn args).run Tryz.prog w = .ok (.enter fn args) w)
    (hp : ∀ x, ∀ W : World, Below w.heap.size w W → Calls Tryz.prog fn #[ruleV x] W fun e w' => e = .returned (.bool (p x)) ∧ Below W.heap.size W w') :
    Calls Tryz.prog 37 #[.slice ro l.length rc, .func (.func fn) #[] #[]] w fun e w' => e = .returned (.bool (l.any p)) ∧ Below w.heap.size w w' := by
  have hI := indexFuncR_any ro rc fn l p w hv hl eg hp
  rw [← firstR_any p l 0]
  generalize firstR p l 0 = N at *
  clear hp eg hv
  go_enter Tryz.func37, Tryz.ntmps37
  go_wp2_with fail
  refine hI.mono ?_
  rintro e w2 ⟨rfl, hb⟩
  have HB := hid hb
  clear hb hI
  go_wp2
  go_ret
  exact ⟨rfl, HB.out⟩

/-- Why a filter, or a node, can't be asked. -/
def missE (ns : List NodeD) (hs : List Int) : Int := if rightD ns then (if hs.all (thereB ns.length) then 0 else 2) else 5
def wrongE (ns : List NodeD) (hs : List Int) (rules : List RuleD) : Int := if missE ns hs = 0 then filterE rules else missE ns hs
theorem wrongE_ok {ns : List NodeD} {hs : List Int} {rules : List RuleD} (h : wrongE ns hs rules = 0) : RightF ns ∧ (∀ x ∈ hs, thereB ns.length x = true) ∧ filterE rules = 0 := by
  unfold wrongE at h
  split at h
  · rename_i hm
    unfold missE at hm
    cases hr : rightD ns with
    | false => rw [hr] at hm; cases hm
    | true =>
      rw [hr, if_pos rfl] at hm
      cases ha : hs.all (thereB ns.length) with
      | false => rw [ha] at hm; cases hm
      | true => exact ⟨(rightD_iff ns).1 hr, fun x hx => List.all_eq_true.1 ha x hx, h⟩
  · rename_i hm
    exact absurd h hm
theorem wrong_box {w V : World} {a c d : Value} {t u : TypeId} (hb : Below ((w.alloc (.cells #[a] t)).alloc (.cells #[c, d] u)).heap.size ((w.alloc (.cells #[a] t)).alloc (.cells #[c, d] u)) V) : V.cell? ⟨w.heap.size, 0, none⟩ = some a ∧ V.cell? ⟨w.heap.size + 1, 0, none⟩ = some c ∧ V.cell? ⟨w.heap.size + 1, 1, none⟩ = some d := by
  have hn : V.heap[w.heap.size + 1]? = some (.cells #[c, d] u) := by
    have := vheapW (w.alloc (.cells #[a] t)) (.cells #[c, d] u)
    rw [World.size_alloc] at this
    exact (hb.block (w.heap.size + 1) (by simp)).trans this
  have hk : ∀ j : Nat, V.cell? ⟨w.heap.size + 1, j, none⟩ = #[c, d][j]? := fun j => by
    unfold World.cell?
    simp only [hn]
    exact if_neg (by decide)
  exact ⟨(hb.cell (p := ⟨w.heap.size, 0, none⟩) (by simp; omega)).trans (by simp), (hk 0).trans rfl, (hk 1).trans rfl⟩

set_option maxRecDepth 100000 in
set_option maxHeartbeats 4000000 in
theorem wrong_any (o : Option Addr) (cap sh : Nat) (ro : Option Addr) (rc : Nat) (rules : List RuleD) (v : Value) (hs : List Int) (ns : List NodeD) (w : World) (hF : FRd w o cap ns) (hkl : ∀ (i : Nat) (hi : i < ns.length), ns[i].kids.length ≤ 1099511627776) (hal : ∀ (i : Nat) (hi : i < ns.length), ns[i].attrs.length ≤ 1099511627776) (hv : RdI w v hs) (hl : hs.length ≤ 1099511627776) (hr : RdR w (.slice ro rules.length rc) rules) (hrl : rules.length ≤ 1099511627776) :
    Calls Tryz.prog 23 #[.agg #[.slice o ns.length cap], .agg #[.int .u32 (sh : Int), .slice ro rules.length rc], v] w fun e w' => e = .returned (.int .i64 (wrongE ns hs rules)) ∧ Below w.heap.size w w' := by
  have HC : Hid (∀ W : World, Below w.heap.size w W → _) := fun W hW => Check_any o cap ns W (hF.later hW) hkl hal
  have HF : Hid (∀ W : World, Below w.heap.size w W → _) := fun W hW => containsFuncR_any ro rc 38 rules mute W (hr.later hW) hrl (enters_of Tryz.func38 (by kernel_rfl) rfl) (fun x V _ => saysNothing_any x V)
  have hle := hF.len
  obtain ⟨o2, c2, rfl, hc2, g2⟩ := hv
  have hB0 : Below w.heap.size w ((w.alloc (.cells #[.slice o ns.length cap] 24)).alloc (.cells #[.int .u32 (sh : Int), .slice ro rules.length rc] 28)) := ((Below.refl _ w).alloc (Nat.le_refl _) _).alloc (by simp) _
  have HB0 := hid hB0
  clear hF hkl hal hr hB0
  generalize checkN ns = CN at *
  cases hr : rightD ns with
  | false =>
    have e0 : wrongE ns hs rules = 5 := by unfold wrongE missE; rw [hr]; rfl
    have e1 : checkE ns = 5 := by unfold checkE; rw [hr]; rfl
    rw [e0]
    rw [e1] at HC
    clear e0 e1 g2
    go_enter Tryz.func23, Tryz.ntmps23
    go_wp2_with fail
    refine (HC.out _ HB0.out).mono ?_
    rintro e v1 ⟨rfl, hb1⟩
    have HB := hid (HB0.out.trans (hb1.mono HB0.out.size))
    clear hb1 HC
    go_wp2
    go_ret
    exact ⟨rfl, HB.out⟩
  | true =>
    have e1 : checkE ns = 0 := (checkE_right hr).1
    rw [e1] at HC
    obtain ⟨E, hE⟩ : ∃ E, wrongE ns hs rules = E := ⟨_, rfl⟩
    rw [hE]
    have HE : Hid ((if (hs.drop 0).all (thereB ns.length) then filterE rules else 2) = E) := by
      have := hE
      unfold wrongE missE at this
      rw [hr, if_pos rfl] at this
      show (if hs.all (thereB ns.length) then filterE rules else 2) = E
      rw [← this]
      cases hs.all (thereB ns.length) <;> rfl
    clear hE e1
    go_enter Tryz.func23, Tryz.ntmps23
    go_wp2_with fail
    refine (HC.out _ HB0.out).mono ?_
    rintro e v1 ⟨rfl, hb1⟩
    have HB1 := hid (HB0.out.trans (hb1.mono HB0.out.size))
    obtain ⟨cb, cs, cr⟩ := wrong_box hb1
    clear hb1 HC
    go_wp2
    go_loopw [21] (fun t wr => ∃ k : Nat, k ≤ hs.length ∧ t = .int .i64 k ∧ wr = v1 ∧ Hid ((if (hs.drop k).all (thereB ns.length) then filterE rules else 2) = E)) (fun t _ => hs.length - (RowKit.intOf t).toNat)
    case atStart => exact ⟨0, Nat.zero_le _, rfl, rfl, HE⟩
    case round =>
      obtain ⟨k, k1, rfl, rfl, hK⟩ := hrel
      by_cases hlt : k < hs.length
      · obtain ⟨b, off, rfl, hlt1, ha⟩ := g2 (by omega)
        have x1 := (HB1.out.cell (p := ⟨b, off + k, none⟩) hlt1).trans (ha k hlt)
        have q1 : (0 : Int) ≤ (k : Int) := by omega
        have q2 : (k : Int) < (hs.length : Int) := by omega
        have hk := hK.out
        rw [List.drop_eq_getElem_cons hlt, List.all_cons] at hk
        have Hk := hid hk
        clear hk hK ha g2
        generalize hs[k] = a at *
        by_cases g1 : a < 1
        · have hf : thereB ns.length a = false := by unfold thereB; rw [decide_eq_false (by omega)]; rfl
          have hE2 : E = 2 := by rw [← Hk.out, hf]; rfl
          subst hE2
          have d1 : decide (a < 1) = true := decide_eq_true g1
          clear Hk hf
          go_wp2
          go_ret
          exact ⟨rfl, HB1.out⟩
        · have d1 : decide (a < 1) = false := decide_eq_false g1
          by_cases g3 : (ns.length : Int) < a
          · have hf : thereB ns.length a = false := by unfold thereB; rw [decide_eq_false (p := a ≤ (ns.length : Int)) (by omega), Bool.and_false]
            have hE2 : E = 2 := by rw [← Hk.out, hf]; rfl
            subst hE2
            have d2 : decide ((ns.length : Int) < a) = true := decide_eq_true g3
            clear Hk hf
            go_wp2
            go_ret
            exact ⟨rfl, HB1.out⟩
          · have hf : thereB ns.length a = true := by unfold thereB; rw [decide_eq_true (by omega), decide_eq_true (by omega)]; rfl
            have d2 : decide ((ns.length : Int) < a) = false := decide_eq_false g3
            have Hn : Hid ((if (hs.drop (k + 1)).all (thereB ns.length) then filterE rules else 2) = E) := by
              have h := Hk.out
              rw [hf, Bool.true_and] at h
              exact h
            clear Hk hf
            go_wp2
            go_roundw
            case rel => exact ⟨k + 1, by omega, by go_num, trivial, Hn⟩
            case measure => simp [RowKit.intOf]; omega
      · have hE0 : filterE rules = E := by
          rw [← hK.out, List.drop_eq_nil_of_le (by omega)]
          rfl
        clear hK g2
        have hF1 := HF.out wr HB1.out
        unfold filterE at hE0
        by_cases h64 : 64 < rules.length
        · have d3 : decide ((64 : Int) < (rules.length : Int)) = true := decide_eq_true (by omega)
          rw [if_pos h64] at hE0
          subst hE0
          go_wp2
          go_ret
          exact ⟨rfl, HB1.out⟩
        · have d3 : decide ((64 : Int) < (rules.length : Int)) = false := decide_eq_false (by omega)
          rw [if_neg h64] at hE0
          cases hm : rules.any mute with
          | true =>
            rw [hm] at hF1
            rw [hm, if_pos rfl] at hE0
            subst hE0
            go_wp2_with (go_at_call 37; refine hF1.mono ?_; rintro e v2 ⟨rfl, hb2⟩; have HB2 := hid (HB1.out.trans (hb2.mono HB1.out.size)); clear hb2)
            go_ret
            exact ⟨rfl, HB2.out⟩
          | false =>
            rw [hm] at hF1
            rw [hm, if_neg Bool.false_ne_true] at hE0
            subst hE0
            go_wp2_with (go_at_call 37; refine hF1.mono ?_; rintro e v2 ⟨rfl, hb2⟩; have HB2 := hid (HB1.out.trans (hb2.mono HB1.out.size)); clear hb2)
            go_ret
            exact ⟨rfl, HB2.out⟩
end Go.Proofs.YteflknfejjdkfabGreat

namespace Go.Proofs.YteflknfejjdkfabGreat
open Go.RowKit Go.Lib

def ruleCs (r : RuleD) : List Value := [.int .u8 (r.kind : Int), .string r.loc, .int .u8 (r.verdict : Int)]
def rulesC (l : List RuleD) : List Value := l.flatMap ruleCs
theorem rulesC_len : ∀ l : List RuleD, (rulesC l).length = l.length * 3
  | [] => rfl
  | r :: t => by
    have := rulesC_len t
    unfold rulesC at this ⊢
    rw [List.flatMap_cons, List.length_append, this, List.length_cons]
    show 3 + _ = _
    omega
theorem rulesC_get : ∀ (l : List RuleD) (j i : Nat) (hj : j < l.length) (_hi : i < 3), (rulesC l)[j * 3 + i]? = (ruleCs l[j])[i]?
  | [], _, _, hj, _ => by cases hj
  | r :: t, 0, i, _, hi => by
    unfold rulesC
    rw [List.flatMap_cons, List.getElem?_append_left (by show 0 * 3 + i < 3; omega), Nat.zero_mul, Nat.zero_add]
    rfl
  | r :: t, j + 1, i, hj, hi => by
    have h := rulesC_get t j i (by simpa using hj) hi
    unfold rulesC at h ⊢
    rw [List.flatMap_cons, List.getElem?_append_right (by show 3 ≤ _; omega)]
    rw [show (j + 1) * 3 + i - (ruleCs r).length = j * 3 + i by show (j + 1) * 3 + i - 3 = _; omega, h]
    rfl
theorem own_rules {W : World} {base : Nat} {v : Value} {l : List RuleD} (h : W.ownsRow base 39 3 v l.length (rulesC l)) : RdR W v l := by
  obtain ⟨hl, h⟩ := h
  rcases h with ⟨rfl, h0⟩ | ⟨g, cap, cur, rfl, hb, hh, hn, hm, hs, ht⟩
  · refine ⟨none, 0, by rw [h0], by omega, fun hp => by omega⟩
  · refine ⟨some ⟨g, 0, none⟩, cap, rfl, hn, fun _ => ⟨g, 0, rfl, (Array.getElem?_eq_some_iff.1 hh).1, fun j hj => ?_⟩⟩
    have hc : ∀ i, i < 3 → W.cell? ⟨g, j * 3 + i, none⟩ = (ruleCs l[j])[i]? := fun i hi => by
      rw [← rulesC_get l j i hj hi, ← ht, List.getElem?_take, if_pos (by omega), Array.getElem?_toList]
      unfold World.cell?
      simp only [hh]
      exact if_neg (by decide)
    rw [Nat.zero_add]
    exact ⟨(hc 0 (by omega)).trans rfl, (hc 1 (by omega)).trans rfl, (hc 2 (by omega)).trans rfl⟩
theorem info_rule : (Tryz.prog.info? 39).map (fun i => (i.zero, i.size, i.bytes)) = some (some (.agg #[.int .u8 0, .string ⟨#[]⟩, .int .u8 0]), 3, 32) := by kernel_rfl
theorem rules_news {w : World} {b off : Nat} {l : List RuleD} (h : ∀ (j : Nat) (hj : j < l.length), RuleAt w b (off + j * 3) l[j]) : ∀ (j : Nat) (u : Value), (rulesC l)[j]? = some u → w.cell? ((⟨b, off, none⟩ : Addr).add j) = some u := fun j u hj => by
  have hlt : j < (rulesC l).length := (List.getElem?_eq_some_iff.1 hj).1
  rw [rulesC_len] at hlt
  have hq : j / 3 < l.length := by omega
  have hg := rulesC_get l (j / 3) (j % 3) hq (Nat.mod_lt _ (by decide))
  rw [show j / 3 * 3 + j % 3 = j by omega] at hg
  rw [hg] at hj
  have e : (⟨b, off, none⟩ : Addr).add j = ⟨b, off + j, none⟩ := by simp [Addr.add]
  rw [e, show off + j = off + j / 3 * 3 + j % 3 by omega]
  obtain ⟨c0, c1, c2⟩ := h (j / 3) hq
  have hm : j % 3 < 3 := Nat.mod_lt _ (by decide)
  rcases (by omega : j % 3 = 0 ∨ j % 3 = 1 ∨ j % 3 = 2) with hz | hz | hz
  · rw [hz] at hj ⊢; rw [Nat.add_zero, c0]; exact hj
  · rw [hz] at hj ⊢; rw [c1]; exact hj
  · rw [hz] at hj ⊢; rw [c2]; exact hj
theorem rules_one (l : List RuleD) : ∀ u ∈ rulesC l, u.oneCell' = true := fun u hu => by
  obtain ⟨r, _, hr⟩ := List.mem_flatMap.1 hu
  simp only [ruleCs, List.mem_cons, List.not_mem_nil, or_false] at hr
  rcases hr with rfl | rfl | rfl <;> rfl

theorem eqlR_some (ad : Addr) (n c : Nat) (W : World) : Sem.run Tryz.prog (binOp .eql 26 (.slice (some ad) n c) (.slice none 0 0)) W = .ok (.bool false) W := by kernel_rfl
theorem eqlR_none (n c : Nat) (W : World) : Sem.run Tryz.prog (binOp .eql 26 (.slice none n c) (.slice none 0 0)) W = .ok (.bool true) W := by kernel_rfl

set_option maxRecDepth 100000 in
set_option maxHeartbeats 4000000 in
theorem cloneR_any (ro : Option Addr) (rc : Nat) (l : List RuleD) (w : World) (hr : RdR w (.slice ro l.length rc) l) (hl : l.length ≤ 64) :
    Calls Tryz.prog 28 #[.slice ro l.length rc] w fun e w' => ∃ v, e = .returned v ∧ w'.ownsRow w.heap.size 39 3 v l.length (rulesC l) ∧ Below w.heap.size w w' := by
  obtain ⟨i0, hi, hz0, hz1, hz2⟩ := info_parts info_rule
  obtain ⟨o', c', he, hc, g⟩ := hr
  obtain ⟨rfl, rfl⟩ : o' = ro ∧ c' = rc := by
    simp only [Value.slice.injEq] at he
    exact ⟨he.1.symm, he.2.2.symm⟩
  cases o' with
  | none =>
    have h0 : l = [] := by
      cases l with
      | nil => rfl
      | cons r t => obtain ⟨b, off, h, _⟩ := g (by simp); cases h
    subst h0
    clear g he
    have hq := eqlR_none 0 c'
    go_enter Tryz.func28, Tryz.ntmps28
    go_wp2
    go_ret
    exact ⟨_, rfl, ⟨rfl, .inl ⟨rfl, rfl⟩⟩, Below.refl _ _⟩
  | some ad =>
    have hnews : ∀ (j : Nat) (u : Value), (rulesC l)[j]? = some u → w.cell? (ad.add j) = some u := fun j u hj => by
      have hp : 0 < l.length := by
        have hlt : j < (rulesC l).length := (List.getElem?_eq_some_iff.1 hj).1
        rw [rulesC_len] at hlt
        omega
      obtain ⟨b, off, h, _, ha⟩ := g hp
      cases h
      exact rules_news ha j u hj
    have Hnews : Hid (∀ (j : Nat) (u : Value), (rulesC l)[j]? = some u → (w.alloc (.cells #[] 39)).cell? (ad.add j) = some u) := fun j u hj => cell_kept (hnews j u hj) (World.grownBy_alloc w _ none) (fun r e => by cases e)
    have Hone := hid (rules_one l)
    have Hlen := hid (rulesC_len l)
    have Hown : Hid ((w.alloc (.cells #[] 39)).ownsRow w.heap.size 39 3 (.slice (some ⟨w.heap.size, 0, none⟩) 0 0) 0 []) := ⟨rfl, .inr ⟨w.heap.size, 0, #[], rfl, Nat.le_refl _, vheapW w _, Nat.le_refl _, Nat.zero_le _, rfl, rfl⟩⟩
    have HB0 : Hid (Below w.heap.size w (w.alloc (.cells #[] 39))) := (Below.refl _ w).alloc (Nat.le_refl _) _
    have m1 : 0 + l.length ≤ maxLen := by simp only [maxLen]; omega
    have m2 : (0 + l.length) * 32 ≤ 140737488355328 := by omega
    have m3 : w.heap.size ≤ (w.alloc (.cells #[] 39)).heap.size := by simp
    have own_lt : ∀ k, (Value.slice (some ⟨w.heap.size, 0, none⟩) 0 0).ownBlock = some k → w.heap.size ≤ k := fun k hk => by simp only [Value.ownBlock, Option.some.injEq] at hk; omega
    clear g he hnews
    have hq := eqlR_some ad l.length c'
    go_enter Tryz.func28, Tryz.ntmps28
    go_wp2_with (at_builtin; refine wpList_append_own _ rfl _ _ 26 rfl w.heap.size 39 i0 (.agg #[.int .u8 0, .string ⟨#[]⟩, .int .u8 0]) 3 32 Tryz.underlying26 hi hz0 hz1 hz2 rfl (by decide) _ 0 [] rfl Hown.out ad l.length c' (rulesC l) rfl Hlen.out Hnews.out Hone.out m1 m2 m3 ?_; intro v' w1 hown' hgrow _; have HO := hid hown'; have HB := hid (HB0.out.grown hgrow HB0.out.size own_lt); clear hown' hgrow)
    go_ret
    exact ⟨_, rfl, by have := HO.out; rw [Nat.zero_add, List.nil_append] at this; exact this, HB.out⟩
end Go.Proofs.YteflknfejjdkfabGreat

namespace Go.Proofs.YteflknfejjdkfabGreat
open Go.RowKit Go.Lib

theorem enterCloneR (vx : Value) (w : World) : (callFunc 28 #[vx]).run Tryz.prog w = .ok (.enter 28 #[vx]) w := by kernel_rfl
theorem box22 {w V : World} {a b c d : Value} {t u : TypeId} (hb : Below ((w.alloc (.cells #[a, b] t)).alloc (.cells #[c, d] u)).drew.heap.size ((w.alloc (.cells #[a, b] t)).alloc (.cells #[c, d] u)).drew V) : V.cell? ⟨w.heap.size + 1, 0, none⟩ = some c ∧ V.cell? ⟨w.heap.size + 1, 1, none⟩ = some d ∧ V.frozen? ⟨w.heap.size + 1, 0, none⟩ = false ∧ V.frozen? ⟨w.heap.size + 1, 1, none⟩ = false ∧ V.cell? ⟨w.heap.size, 0, none⟩ = some a ∧ V.cell? ⟨w.heap.size, 1, none⟩ = some b := by
  have hn : V.heap[w.heap.size + 1]? = some (.cells #[c, d] u) := by
    have := vheapW (w.alloc (.cells #[a, b] t)) (.cells #[c, d] u)
    rw [World.size_alloc] at this
    exact (hb.block (w.heap.size + 1) (by simp [heap_drew])).trans ((by rw [heap_drew] : _ = _).trans this)
  have hk : ∀ j : Nat, V.cell? ⟨w.heap.size + 1, j, none⟩ = #[c, d][j]? := fun j => by
    unfold World.cell?
    simp only [hn]
    exact if_neg (by decide)
  have hf : ∀ j : Nat, V.frozen? ⟨w.heap.size + 1, j, none⟩ = false := fun j => by simp [World.frozen?, hn]
  exact ⟨(hk 0).trans rfl, (hk 1).trans rfl, hf 0, hf 1, (hb.cell (p := ⟨w.heap.size, 0, none⟩) (by simp [heap_drew]; omega)).trans (by simp), (hb.cell (p := ⟨w.heap.size, 1, none⟩) (by simp [heap_drew]; omega)).trans (by simp)⟩

theorem own_base {W : World} {base base' size : Nat} {e : TypeId} {v : Value} {n : Nat} {xs : List Value} (hb : base' ≤ base) (h : W.ownsRow base e size v n xs) : W.ownsRow base' e size v n xs := by
  refine ⟨h.1, ?_⟩
  rcases h.2 with h | ⟨g, cap, cur, hv, hg, rest⟩
  · exact .inl h
  · exact .inr ⟨g, cap, cur, hv, Nat.le_trans hb hg, rest⟩
theorem own_shape {W : World} {base size : Nat} {e : TypeId} {v : Value} {n : Nat} {xs : List Value} (h : W.ownsRow base e size v n xs) : ∃ o c, v = .slice o n c := by
  rcases h.2 with ⟨rfl, h0⟩ | ⟨g, cap, cur, rfl, _⟩
  · exact ⟨none, 0, by rw [h0]⟩
  · exact ⟨_, _, rfl⟩

set_option maxRecDepth 100000 in
set_option maxHeartbeats 4000000 in
theorem wcopyOf_any (sh : Nat) (ro : Option Addr) (rc : Nat) (l : List RuleD) (w : World) (hr : RdR w (.slice ro l.length rc) l) (hl : l.length ≤ 64) :
    Calls Tryz.prog 14 #[.agg #[.int .u32 (sh : Int), .slice ro l.length rc]] w fun e w' => ∃ o c, e = .returned (.agg #[.int .u32 (sh : Int), .slice o l.length c]) ∧ w'.ownsRow w.heap.size 39 3 (.slice o l.length c) l.length (rulesC l) ∧ Below w.heap.size w w' := by
  have hB0 : Below w.heap.size w ((w.alloc (.cells #[.int .u32 (sh : Int), .slice ro l.length rc] 28)).alloc (.cells #[.int .u32 0, .slice none 0 0] 28)).drew := (((Below.refl _ w).alloc (Nat.le_refl _) _).alloc (by simp) _).drew
  have HC : Hid (∀ V : World, Below w.heap.size w V → _) := fun V hV => cloneR_any ro rc l V (hr.later hV) hl
  have HB0 := hid hB0
  clear hB0 hr
  go_enter Tryz.func14, Tryz.ntmps14
  go_upto_region 1 with fail
  go_region_law (first
    | (refine wstep_call1 _ rfl (.tmp 6) 26 28 rfl (.slice ro l.length rc) (by simp [Act.eval]) (enterCloneR _ _) _ (HC.out _ HB0.out) ?_; rintro e v1 ⟨vv, rfl, hown, hb⟩; obtain ⟨vo, vc, rfl⟩ := own_shape hown; refine ⟨_, rfl, ?_⟩; obtain ⟨k0, k1, f0, f1, a0, a1⟩ := box22 hb; have HO := hid hown; have HB1 := hid (HB0.out.trans (hb.mono HB0.out.size)); have HB2 := hid hb; clear hb hown))
  all_goals
    go_wp2
    have hz : w.heap.size + 1 < ((w.alloc (.cells #[.int .u32 (sh : Int), .slice ro l.length rc] 28)).alloc (.cells #[.int .u32 0, .slice none 0 0] 28)).drew.heap.size := by simp [heap_drew]
    have hzw : w.heap.size ≤ ((w.alloc (.cells #[.int .u32 (sh : Int), .slice ro l.length rc] 28)).alloc (.cells #[.int .u32 0, .slice none 0 0] 28)).drew.heap.size := by simp [heap_drew]; omega
    have r0 : ((v1.setCell ⟨w.heap.size + 1, 0, none⟩ (.int .u32 (sh : Int))).setCell ⟨w.heap.size + 1, 1, none⟩ (.slice vo l.length vc)).cell? ⟨w.heap.size + 1, 0, none⟩ = some (.int .u32 (sh : Int)) := by
      rw [World.cell?_setCell_other _ _ _ _ (fun h => by cases h)]
      exact World.cell?_setCell_same' _ _ _ (by rw [k0]; rfl)
    have r1 : ((v1.setCell ⟨w.heap.size + 1, 0, none⟩ (.int .u32 (sh : Int))).setCell ⟨w.heap.size + 1, 1, none⟩ (.slice vo l.length vc)).cell? ⟨w.heap.size + 1, 1, none⟩ = some (.slice vo l.length vc) :=
      World.cell?_setCell_same' _ _ _ (by rw [World.cell?_setCell_other _ _ _ _ (fun h => by cases h), k1]; rfl)
    exact bodyPost_ret (v := .agg #[.int .u32 (sh : Int), .slice vo l.length vc]) (by simp [results, Tryz.results14, go_sem, r0, r1]) rfl ⟨vo, vc, rfl, own_base hzw (ownsRow_setCell_below (ownsRow_setCell_below HO.out (a := ⟨w.heap.size + 1, 0, none⟩) hz _) (a := ⟨w.heap.size + 1, 1, none⟩) hz _), (HB1.out.setCell (p := ⟨w.heap.size + 1, 0, none⟩) (by simp) _).setCell (p := ⟨w.heap.size + 1, 1, none⟩) (by simp) _⟩
end Go.Proofs.YteflknfejjdkfabGreat

namespace Go.Proofs.YteflknfejjdkfabGreat
open Go.RowKit Go.Lib Go.Maps

theorem five_box {w : World} {a k d : Value} {o2 o3 : Obj} {t1 t4 t5 : TypeId} : Below w.heap.size w (((((w.alloc (.cells #[a] t1)).alloc o2).alloc o3).alloc (.cells #[k] t4)).alloc (.cells #[d] t5)) ∧ (((((w.alloc (.cells #[a] t1)).alloc o2).alloc o3).alloc (.cells #[k] t4)).alloc (.cells #[d] t5)).cell? ⟨w.heap.size, 0, none⟩ = some a ∧ (((((w.alloc (.cells #[a] t1)).alloc o2).alloc o3).alloc (.cells #[k] t4)).alloc (.cells #[d] t5)).cell? ⟨w.heap.size + 1 + 1 + 1, 0, none⟩ = some k ∧ (((((w.alloc (.cells #[a] t1)).alloc o2).alloc o3).alloc (.cells #[k] t4)).alloc (.cells #[d] t5)).cell? ⟨w.heap.size + 1 + 1 + 1 + 1, 0, none⟩ = some d ∧ (((((w.alloc (.cells #[a] t1)).alloc o2).alloc o3).alloc (.cells #[k] t4)).alloc (.cells #[d] t5)).heap.size = w.heap.size + 5 := by
  have c0 := new_cell_l w a t1
  have c3 := new_cell_l (((w.alloc (.cells #[a] t1)).alloc o2).alloc o3) k t4
  have c4 := new_cell_l ((((w.alloc (.cells #[a] t1)).alloc o2).alloc o3).alloc (.cells #[k] t4)) d t5
  simp only [World.size_alloc] at c3 c4
  exact ⟨(((((Below.refl _ w).alloc (Nat.le_refl _) _).alloc (by simp) _).alloc (by simp; omega) _).alloc (by simp; omega) _).alloc (by simp; omega) _, keep_cell_l _ (keep_cell_l _ (keep_cell_l _ (keep_cell_l _ c0.1))), keep_cell_l _ c3.1, c4.1, by simp⟩

def wayRev (way : Nat) : Bool := way == 3 || way == 4 || way == 6
set_option maxRecDepth 100000 in
set_option maxHeartbeats 4000000 in
theorem tourOf_any (b off cap : Nat) (ns : List NodeD) (root cur : Int) (sh : Nat) (ro : Option Addr) (rc : Nat) (rules : List RuleD) (way : Nat) (w : World) (hR : RightF ns) (hF : FAt w b off cap ns) (hr : thereB ns.length root = true) (hs : sh < 4294967296) (hru : RdR w (.slice ro rules.length rc) rules) (hf : rules.length ≤ 64) :
    Calls Tryz.prog 26 #[.agg #[.slice (some ⟨b, off, none⟩) ns.length cap], .agg #[.int .i64 root, .int .i64 cur, .int .u32 (sh : Int), .slice ro rules.length rc], .int .u8 (way : Int)] w fun e w' => ∃ bk bf bd, e = .returned (.agg #[.slice (some ⟨b, off, none⟩) ns.length cap, .int .i64 root, .int .u32 (sh : Int), .slice ro rules.length rc, .func (.func 46) #[] #[.pointer (some ⟨bk, 0, none⟩), .pointer (some ⟨bf, 0, none⟩)], .func (.func 47) #[] #[.pointer (some ⟨bf, 0, none⟩), .pointer (some ⟨bd, 0, none⟩)]]) ∧ TourC w' b off cap ns root sh ro rc rules (wayRev way) bk bf bd ∧ w.heap.size ≤ bk ∧ w.heap.size ≤ bf ∧ w.heap.size ≤ bd ∧ Below w.heap.size w w' := by
  have e1 : ((way : Int) == 3) = (way == 3) := beq_cast _ 3
  have e2 : ((way : Int) == 4) = (way == 4) := beq_cast _ 4
  have e3 : ((way : Int) == 6) = (way == 6) := beq_cast _ 6
  unfold wayRev
  have HT : Hid (∀ (V : World) (rev : Bool) (bk bf bd : Nat), Below w.heap.size w V → V.cell? ⟨bk, 0, none⟩ = some (.func (.func (if rev then 45 else 44)) #[] #[]) → V.cell? ⟨bf, 0, none⟩ = some (.slice (some ⟨b, off, none⟩) ns.length cap) → V.cell? ⟨bd, 0, none⟩ = some (.int .i64 (if rev then -1 else 1)) → bk < V.heap.size → bf < V.heap.size → bd < V.heap.size → TourC V b off cap ns root sh ro rc rules rev bk bf bd) :=
    fun V rev bk bf bd hV k1 k2 k3 l1 l2 l3 => ⟨hR, hF.later hV, hr, hs, hf, hru.later hV, k1, k2, k3, l1, l2, l3⟩
  clear hR hF hr hru
  generalize (way == 3) = b1 at *
  generalize (way == 4) = b2 at *
  generalize (way == 6) = b3 at *
  cases b1 <;> cases b2 <;> cases b3
  all_goals
    go_enter Tryz.func26, Tryz.ntmps26
    go_wp2
    exact bodyPost_ret (v := .agg #[.slice (some ⟨b, off, none⟩) ns.length cap, .int .i64 root, .int .u32 (sh : Int), .slice ro rules.length rc, .func (.func 46) #[] #[.pointer (some ⟨w.heap.size + 1 + 1 + 1, 0, none⟩), .pointer (some ⟨w.heap.size, 0, none⟩)], .func (.func 47) #[] #[.pointer (some ⟨w.heap.size, 0, none⟩), .pointer (some ⟨w.heap.size + 1 + 1 + 1 + 1, 0, none⟩)]]) (by simp [results, Tryz.results26, go_sem]) rfl
      ⟨_, _, _, rfl, HT.out _ _ _ _ _ five_box.1 five_box.2.2.1 five_box.2.1 five_box.2.2.2.1 (by rw [five_box.2.2.2.2]; omega) (by rw [five_box.2.2.2.2]; omega) (by rw [five_box.2.2.2.2]; omega), by omega, by omega, by omega, five_box.1⟩

/-- An element of a map, as it is. -/
def wayR (v : Value) : Option (DataW Value × List MemPlace) := some (.held v, [])
theorem wayLaw : Keyed Tryz.prog 31 := int_keyed (q := .u8) (by kernel_rfl)
theorem wayKey {n : Nat} (h : n < 256) : keyOf Tryz.prog 31 (.int .u8 (n : Int)) = some (.int .u8 (n : Int)) := keyOf_int_mk (q := .u8) (by kernel_rfl) (by simp [Lit.wf, IntKind.min, IntKind.max, IntKind.signed, IntKind.bits]; omega)
theorem waysT : Tryz.prog.underlying 71 = some (.map 31 69) := by kernel_rfl
theorem wayZero (w : World) : (zeroValue 69).run Tryz.prog w = .ok .nilFunc w := by kernel_rfl
def wayF (n : Nat) : Value := .func (.func n) #[] #[]
def wayMap : DataW Value := (((((((DataW.map []).put (.int .u8 1) (.held (wayF 39))).put (.int .u8 2) (.held (wayF 40))).put (.int .u8 3) (.held (wayF 40))).put (.int .u8 4) (.held (wayF 41))).put (.int .u8 5) (.held (wayF 41))).put (.int .u8 6) (.held (wayF 42))).put (.int .u8 7) (.held (wayF 43))

set_option maxRecDepth 100000 in
set_option maxHeartbeats 4000000 in
theorem ways_any (W : World) :
    Calls Tryz.prog 25 #[] W fun e w' => ∃ B, e = .returned (.map (some B)) ∧ W.heap.size ≤ B ∧ w'.ownsMap Tryz.prog 31 wayR B 7 wayMap ∧ Below W.heap.size W w' := by
  have h0 := World.ownsMap_made W Tryz.prog 31 wayR
  obtain ⟨w1, r1, m1, g1⟩ := h0.update wayLaw waysT (by decide) (key := .int .u8 1) (val := wayF 39) (wayKey (n := 1) (by decide)) rfl
  obtain ⟨w2, r2, m2, g2⟩ := m1.update wayLaw waysT (by decide) (key := .int .u8 2) (val := wayF 40) (wayKey (n := 2) (by decide)) rfl
  obtain ⟨w3, r3, m3, g3⟩ := m2.update wayLaw waysT (by decide) (key := .int .u8 3) (val := wayF 40) (wayKey (n := 3) (by decide)) rfl
  obtain ⟨w4, r4, m4, g4⟩ := m3.update wayLaw waysT (by decide) (key := .int .u8 4) (val := wayF 41) (wayKey (n := 4) (by decide)) rfl
  obtain ⟨w5, r5, m5, g5⟩ := m4.update wayLaw waysT (by decide) (key := .int .u8 5) (val := wayF 41) (wayKey (n := 5) (by decide)) rfl
  obtain ⟨w6, r6, m6, g6⟩ := m5.update wayLaw waysT (by decide) (key := .int .u8 6) (val := wayF 42) (wayKey (n := 6) (by decide)) rfl
  obtain ⟨w7, r7, m7, g7⟩ := m6.update wayLaw waysT (by decide) (key := .int .u8 7) (val := wayF 43) (wayKey (n := 7) (by decide)) rfl
  have hB0 : Below W.heap.size W (W.alloc (.map #[] 0)) := (Below.refl _ W).alloc (Nat.le_refl _) _
  have hB1 := hB0.grown g1 hB0.size (fun k hk => by simp at hk; omega)
  have hB2 := hB1.grown g2 hB1.size (fun k hk => by simp at hk; omega)
  have hB3 := hB2.grown g3 hB2.size (fun k hk => by simp at hk; omega)
  have hB4 := hB3.grown g4 hB3.size (fun k hk => by simp at hk; omega)
  have hB5 := hB4.grown g5 hB4.size (fun k hk => by simp at hk; omega)
  have hB6 := hB5.grown g6 hB5.size (fun k hk => by simp at hk; omega)
  have hB7 := hB6.grown g7 hB6.size (fun k hk => by simp at hk; omega)
  have HM := hid m7
  have HB := hid hB7
  unfold wayF at r1 r2 r3 r4 r5 r6 r7
  have hmm := @run_makeMap Tryz.prog
  clear h0 m1 m2 m3 m4 m5 m6 m7 g1 g2 g3 g4 g5 g6 g7 hB0 hB1 hB2 hB3 hB4 hB5 hB6 hB7
  go_enter Tryz.func25, Tryz.ntmps25
  go_wp2
  go_ret
  exact ⟨_, rfl, Nat.le_refl _, HM.out, HB.out⟩
theorem ownsMap_laterW {P : Program} {k : TypeId} {R : Value → Option (DataW Value × List MemPlace)} {B n : Nat} {D : DataW Value} {W V : World} (h : W.ownsMap P k R B n D) (hb : Below W.heap.size W V) : V.ownsMap P k R B n D := by
  have hlt := h.lt
  obtain ⟨es, clock, hh, F, hs, hD⟩ := h
  exact ⟨es, clock, (hb.block B hlt).trans hh, F, hs, hD⟩
theorem way_run {v : World} {B : Nat} (m : v.ownsMap Tryz.prog 31 wayR B 7 wayMap) (k : Nat) (hk : k < 256) (f : Value) (is : Bool) (h1 : wayMap.atKey (.int .u8 (k : Int)) (.held .nilFunc) = .held f) (h2 : Maps.has wayMap (.int .u8 (k : Int)) = is) :
    (Instr.lookup 71 (.map (some B)) (.int .u8 (k : Int)) true).run Tryz.prog v = .ok (.tuple #[f, .bool is]) v := by
  obtain ⟨v', ps, hrun, hv⟩ := m.look_ok wayLaw waysT (wayZero v) (zd := .held .nilFunc) (zp := []) rfl (wayKey hk)
  rw [h1] at hv
  rw [h2] at hrun
  unfold wayR at hv
  simp only [Option.some.injEq, Prod.mk.injEq, DataW.held.injEq] at hv
  rw [hv.1] at hrun
  exact hrun
end Go.Proofs.YteflknfejjdkfabGreat

namespace Go.Proofs.YteflknfejjdkfabGreat
open Go.RowKit Go.Lib Go.Maps

theorem TourC.later {w W : World} {b off cap : Nat} {ns : List NodeD} {root : Int} {sh : Nat} {ro : Option Addr} {rc : Nat} {rules : List RuleD} {rev : Bool} {bk bf bd : Nat} (h : TourC w b off cap ns root sh ro rc rules rev bk bf bd) (hW : Below w.heap.size w W) : TourC W b off cap ns root sh ro rc rules rev bk bf bd :=
  ⟨h.right, h.forest.later hW, h.there, h.small, h.few, h.lies.later hW, (hW.cell (p := ⟨bk, 0, none⟩) h.lk).trans h.kid, (hW.cell (p := ⟨bf, 0, none⟩) h.lf).trans h.box, (hW.cell (p := ⟨bd, 0, none⟩) h.ld).trans h.dir, Nat.lt_of_lt_of_le h.lk hW.size, Nat.lt_of_lt_of_le h.lf hW.size, Nat.lt_of_lt_of_le h.ld hW.size⟩
/-- Where a way leads. -/
def stepD (ns : List NodeD) (root : Int) (sh : Nat) (rules : List RuleD) (way : Nat) (cur : Int) : Int :=
  if way = 1 then (tourD ns root sh rules (wayRev way)).upD cur else if way = 2 ∨ way = 3 then (tourD ns root sh rules (wayRev way)).downD cur
  else if way = 4 ∨ way = 5 then (tourD ns root sh rules (wayRev way)).alongD cur else if way = 6 then (tourD ns root sh rules (wayRev way)).backD cur
  else if way = 7 then (tourD ns root sh rules (wayRev way)).onD cur else 0
def wayFn (way : Nat) : Nat := if way = 1 then 39 else if way = 2 ∨ way = 3 then 40 else if way = 4 ∨ way = 5 then 41 else if way = 6 then 42 else 43
def isWay (way : Nat) : Bool := decide (1 ≤ way) && decide (way ≤ 7)
theorem isWay_cases {way : Nat} (h : isWay way = true) : way = 1 ∨ way = 2 ∨ way = 3 ∨ way = 4 ∨ way = 5 ∨ way = 6 ∨ way = 7 := by
  unfold isWay at h
  rw [Bool.and_eq_true, decide_eq_true_iff, decide_eq_true_iff] at h
  omega
theorem wayMap_in {way : Nat} (h : isWay way = true) : wayMap.atKey (.int .u8 (way : Int)) (.held .nilFunc) = .held (wayF (wayFn way)) ∧ Maps.has wayMap (.int .u8 (way : Int)) = true := by
  rcases isWay_cases h with rfl | rfl | rfl | rfl | rfl | rfl | rfl <;> exact ⟨rfl, rfl⟩
theorem wayMap_out {way : Nat} (h : isWay way = false) : wayMap.atKey (.int .u8 (way : Int)) (.held .nilFunc) = .held .nilFunc ∧ Maps.has wayMap (.int .u8 (way : Int)) = false := by
  have hne : ∀ k : Int, 1 ≤ k → k ≤ 7 → (Lit.int .u8 (way : Int)) ≠ .int .u8 k := fun k h1 h2 e => by
    simp only [Lit.int.injEq, true_and] at e
    unfold isWay at h
    rw [decide_eq_true (by omega : 1 ≤ way), decide_eq_true (by omega : way ≤ 7)] at h
    cases h
  unfold wayMap
  constructor
  · rw [atKey_put_other (hne 7 (by decide) (by decide)), atKey_put_other (hne 6 (by decide) (by decide)), atKey_put_other (hne 5 (by decide) (by decide)), atKey_put_other (hne 4 (by decide) (by decide)), atKey_put_other (hne 3 (by decide) (by decide)), atKey_put_other (hne 2 (by decide) (by decide)), atKey_put_other (hne 1 (by decide) (by decide))]
    rfl
  · rw [has_put_other (hne 7 (by decide) (by decide)), has_put_other (hne 6 (by decide) (by decide)), has_put_other (hne 5 (by decide) (by decide)), has_put_other (hne 4 (by decide) (by decide)), has_put_other (hne 3 (by decide) (by decide)), has_put_other (hne 2 (by decide) (by decide)), has_put_other (hne 1 (by decide) (by decide))]
    rfl
/-- What stepOf makes, as it lies. -/
structure StepC (w : World) (b off cap : Nat) (ns : List NodeD) (root : Int) (sh : Nat) (ro : Option Addr) (rc : Nat) (rules : List RuleD) (way : Nat) (bk bf bd bo bt : Nat) : Prop where
  tour : TourC w b off cap ns root sh ro rc rules (wayRev way) bk bf bd
  isw : isWay way = true
  do_ : w.cell? ⟨bo, 0, none⟩ = some (.func (.func (wayFn way)) #[] #[])
  t : w.cell? ⟨bt, 0, none⟩ = some (.slice (some ⟨b, off, none⟩) ns.length cap) ∧ w.cell? ⟨bt, 1, none⟩ = some (.int .i64 root) ∧ w.cell? ⟨bt, 2, none⟩ = some (.int .u32 (sh : Int)) ∧ w.cell? ⟨bt, 3, none⟩ = some (.slice ro rules.length rc) ∧ w.cell? ⟨bt, 4, none⟩ = some (.func (.func 46) #[] #[.pointer (some ⟨bk, 0, none⟩), .pointer (some ⟨bf, 0, none⟩)]) ∧ w.cell? ⟨bt, 5, none⟩ = some (.func (.func 47) #[] #[.pointer (some ⟨bf, 0, none⟩), .pointer (some ⟨bd, 0, none⟩)])
  lo : bo < w.heap.size
  lt : bt < w.heap.size
theorem StepC.later {w W : World} {b off cap : Nat} {ns : List NodeD} {root : Int} {sh : Nat} {ro : Option Addr} {rc : Nat} {rules : List RuleD} {way : Nat} {bk bf bd bo bt : Nat} (h : StepC w b off cap ns root sh ro rc rules way bk bf bd bo bt) (hW : Below w.heap.size w W) : StepC W b off cap ns root sh ro rc rules way bk bf bd bo bt :=
  ⟨h.tour.later hW, h.isw, (hW.cell (p := ⟨bo, 0, none⟩) h.lo).trans h.do_, ⟨(hW.cell (p := ⟨bt, 0, none⟩) h.lt).trans h.t.1, (hW.cell (p := ⟨bt, 1, none⟩) h.lt).trans h.t.2.1, (hW.cell (p := ⟨bt, 2, none⟩) h.lt).trans h.t.2.2.1, (hW.cell (p := ⟨bt, 3, none⟩) h.lt).trans h.t.2.2.2.1, (hW.cell (p := ⟨bt, 4, none⟩) h.lt).trans h.t.2.2.2.2.1, (hW.cell (p := ⟨bt, 5, none⟩) h.lt).trans h.t.2.2.2.2.2⟩, Nat.lt_of_lt_of_le h.lo hW.size, Nat.lt_of_lt_of_le h.lt hW.size⟩

/-- The way that the table has, taken. -/
theorem way_any {w : World} {b off cap : Nat} {ns : List NodeD} {root : Int} {sh : Nat} {ro : Option Addr} {rc : Nat} {rules : List RuleD} {way : Nat} {bk bf bd bo bt : Nat} (h : StepC w b off cap ns root sh ro rc rules way bk bf bd bo bt) (x : Int) (hx : thereB ns.length x = true) (W : World) (hW : Below w.heap.size w W) :
    Calls Tryz.prog (wayFn way) #[.agg #[.slice (some ⟨b, off, none⟩) ns.length cap, .int .i64 root, .int .u32 (sh : Int), .slice ro rules.length rc, .func (.func 46) #[] #[.pointer (some ⟨bk, 0, none⟩), .pointer (some ⟨bf, 0, none⟩)], .func (.func 47) #[] #[.pointer (some ⟨bf, 0, none⟩), .pointer (some ⟨bd, 0, none⟩)]], .int .i64 x] W fun r w' => r = .returned (.int .i64 (stepD ns root sh rules way x)) ∧ Below W.heap.size W w' := by
  obtain ⟨hT, hw, _, _, _, _⟩ := h
  rcases isWay_cases hw with rfl | rfl | rfl | rfl | rfl | rfl | rfl
  · exact tup_any hT x hx W hW
  · exact tdown_any hT x hx W hW
  · exact tdown_any hT x hx W hW
  · exact talong_any hT x hx W hW
  · exact talong_any hT x hx W hW
  · exact tback_any hT x hx W hW
  · exact ton_any hT x hx W hW
theorem way_enters {way : Nat} (h : isWay way = true) : ∀ args w, (callFunc (wayFn way) args).run Tryz.prog w = .ok (.enter (wayFn way) args) w := by
  rcases isWay_cases h with rfl | rfl | rfl | rfl | rfl | rfl | rfl
  · exact enters_of Tryz.func39 (by kernel_rfl) rfl
  · exact enters_of Tryz.func40 (by kernel_rfl) rfl
  · exact enters_of Tryz.func40 (by kernel_rfl) rfl
  · exact enters_of Tryz.func41 (by kernel_rfl) rfl
  · exact enters_of Tryz.func41 (by kernel_rfl) rfl
  · exact enters_of Tryz.func42 (by kernel_rfl) rfl
  · exact enters_of Tryz.func43 (by kernel_rfl) rfl

set_option maxRecDepth 100000 in
set_option maxHeartbeats 4000000 in
theorem step1_any {w : World} {b off cap : Nat} {ns : List NodeD} {root : Int} {sh : Nat} {ro : Option Addr} {rc : Nat} {rules : List RuleD} {way : Nat} {bk bf bd bo bt : Nat} (h : StepC w b off cap ns root sh ro rc rules way bk bf bd bo bt) (x : Int) (hx : thereB ns.length x = true) (W : World) (hW : Below w.heap.size w W) :
    Calls Tryz.prog 27 #[.int .i64 x, .pointer (some ⟨bo, 0, none⟩), .pointer (some ⟨bt, 0, none⟩)] W fun r w' => r = .returned (.int .i64 (stepD ns root sh rules way x)) ∧ Below W.heap.size W w' := by
  have h2 := h.later hW
  obtain ⟨c0, c1, c2, c3, c4, c5⟩ := h2.t
  have cd := h2.do_
  have eg := way_enters h.isw
  have hC := way_any h x hx W hW
  generalize stepD ns root sh rules way x = R at *
  generalize wayFn way = fn at *
  clear h h2 hW
  go_enter Tryz.func27, Tryz.ntmps27
  go_wp2_with (go_at_fn fn; refine hC.mono ?_; rintro r1 v1 ⟨rfl, hb⟩; have HB := hid hb; clear hb)
  go_ret
  exact ⟨rfl, HB.out⟩
end Go.Proofs.YteflknfejjdkfabGreat

namespace Go.Proofs.YteflknfejjdkfabGreat
open Go.RowKit Go.Lib Go.Maps

theorem two_rdIw (W : World) (x y : Int) (t : TypeId) : RdI (W.alloc (.cells #[.int .i64 x, .int .i64 y] t)) (.slice (some ⟨W.heap.size, 0, none⟩) 2 2) [x, y] :=
  ⟨_, 2, rfl, Nat.le_refl _, fun _ => ⟨_, 0, rfl, by simp, fun j hj => by
    have : j = 0 ∨ j = 1 := by simp at hj; omega
    rcases this with rfl | rfl
    · simp
    · simp⟩⟩
theorem step_box {w V : World} {a c0 c1 c2 c3 : Value} {t u : TypeId} {o3 : Obj} (hb : Below (((w.alloc (.cells #[a] t)).alloc (.cells #[c0, c1, c2, c3] u)).alloc o3).heap.size (((w.alloc (.cells #[a] t)).alloc (.cells #[c0, c1, c2, c3] u)).alloc o3) V) : V.cell? ⟨w.heap.size, 0, none⟩ = some a ∧ V.cell? ⟨w.heap.size + 1, 0, none⟩ = some c0 ∧ V.cell? ⟨w.heap.size + 1, 1, none⟩ = some c1 ∧ V.cell? ⟨w.heap.size + 1, 2, none⟩ = some c2 ∧ V.cell? ⟨w.heap.size + 1, 3, none⟩ = some c3 := by
  have hn : V.heap[w.heap.size + 1]? = some (.cells #[c0, c1, c2, c3] u) := by
    have := vheapW (w.alloc (.cells #[a] t)) (.cells #[c0, c1, c2, c3] u)
    rw [World.size_alloc] at this
    have h2 := Below.heap_alloc ((w.alloc (.cells #[a] t)).alloc (.cells #[c0, c1, c2, c3] u)) o3 (w.heap.size + 1) (by simp)
    exact (hb.block (w.heap.size + 1) (by simp)).trans (h2.trans this)
  have hk : ∀ j : Nat, V.cell? ⟨w.heap.size + 1, j, none⟩ = #[c0, c1, c2, c3][j]? := fun j => by
    unfold World.cell?
    simp only [hn]
    exact if_neg (by decide)
  have h0 : w.heap.size < (((w.alloc (.cells #[a] t)).alloc (.cells #[c0, c1, c2, c3] u)).alloc o3).heap.size := by
    simp only [World.size_alloc]
    omega
  exact ⟨(hb.cell (p := ⟨w.heap.size, 0, none⟩) h0).trans (keep_cell_l _ (keep_cell_l _ (new_cell_l w a t).1)), (hk 0).trans rfl, (hk 1).trans rfl, (hk 2).trans rfl, (hk 3).trans rfl⟩

set_option maxRecDepth 100000 in
set_option maxHeartbeats 4000000 in
theorem stepOf_bad (o : Option Addr) (cap : Nat) (ns : List NodeD) (root cur : Int) (sh : Nat) (ro : Option Addr) (rc : Nat) (rules : List RuleD) (way : Nat) (w : World) (hF : FRd w o cap ns) (hkl : ∀ (i : Nat) (hi : i < ns.length), ns[i].kids.length ≤ 1099511627776) (hal : ∀ (i : Nat) (hi : i < ns.length), ns[i].attrs.length ≤ 1099511627776) (hru : RdR w (.slice ro rules.length rc) rules) (hrl : rules.length ≤ 1099511627776) (hE : wrongE ns [root, cur] rules ≠ 0) :
    Calls Tryz.prog 13 #[.agg #[.slice o ns.length cap], .agg #[.int .i64 root, .int .i64 cur, .int .u32 (sh : Int), .slice ro rules.length rc], .int .u8 (way : Int)] w fun e w' => e = .returned (.tuple #[.nilFunc, .int .i64 (wrongE ns [root, cur] rules)]) ∧ Below w.heap.size w w' := by
  have hB0 : Below w.heap.size w (((w.alloc (.cells #[.slice o ns.length cap] 24)).alloc (.cells #[.int .i64 root, .int .i64 cur, .int .u32 (sh : Int), .slice ro rules.length rc] 30)).alloc (.cells #[.int .i64 root, .int .i64 cur] 3)) := (((Below.refl _ w).alloc (Nat.le_refl _) _).alloc (by simp) _).alloc (by simp; omega) _
  have kr := two_rdIw ((w.alloc (.cells #[.slice o ns.length cap] 24)).alloc (.cells #[.int .i64 root, .int .i64 cur, .int .u32 (sh : Int), .slice ro rules.length rc] 30)) root cur 3
  simp only [World.size_alloc] at kr
  have HW := hid (wrong_any o cap sh ro rc rules _ [root, cur] ns (((w.alloc (.cells #[.slice o ns.length cap] 24)).alloc (.cells #[.int .i64 root, .int .i64 cur, .int .u32 (sh : Int), .slice ro rules.length rc] 30)).alloc (.cells #[.int .i64 root, .int .i64 cur] 3)) (hF.later hB0) hkl hal kr (by simp) (hru.later hB0) hrl)
  have n0 : (wrongE ns [root, cur] rules != 0) = true := by rw [bne, beq_eq_false_iff_ne.2 hE]; rfl
  have HB0 := hid hB0
  clear hF hkl hal hru kr hB0
  generalize wrongE ns [root, cur] rules = E at *
  go_enter Tryz.func13, Tryz.ntmps13
  go_wp2_with (go_at_call 23; refine HW.out.mono ?_; rintro r1 v1 ⟨rfl, hb⟩; have HB1 := hid (HB0.out.trans (hb.mono HB0.out.size)); clear hb)
  go_ret2
  exact ⟨rfl, HB1.out⟩

set_option maxRecDepth 100000 in
set_option maxHeartbeats 4000000 in
theorem stepOf_none (o : Option Addr) (cap : Nat) (ns : List NodeD) (root cur : Int) (sh : Nat) (ro : Option Addr) (rc : Nat) (rules : List RuleD) (way : Nat) (w : World) (hF : FRd w o cap ns) (hkl : ∀ (i : Nat) (hi : i < ns.length), ns[i].kids.length ≤ 1099511627776) (hal : ∀ (i : Nat) (hi : i < ns.length), ns[i].attrs.length ≤ 1099511627776) (hru : RdR w (.slice ro rules.length rc) rules) (hrl : rules.length ≤ 1099511627776) (hE : wrongE ns [root, cur] rules = 0) (hway : isWay way = false) (h256 : way < 256) :
    Calls Tryz.prog 13 #[.agg #[.slice o ns.length cap], .agg #[.int .i64 root, .int .i64 cur, .int .u32 (sh : Int), .slice ro rules.length rc], .int .u8 (way : Int)] w fun e w' => e = .returned (.tuple #[.nilFunc, .int .i64 23]) ∧ Below w.heap.size w w' := by
  have hB0 : Below w.heap.size w (((w.alloc (.cells #[.slice o ns.length cap] 24)).alloc (.cells #[.int .i64 root, .int .i64 cur, .int .u32 (sh : Int), .slice ro rules.length rc] 30)).alloc (.cells #[.int .i64 root, .int .i64 cur] 3)) := (((Below.refl _ w).alloc (Nat.le_refl _) _).alloc (by simp) _).alloc (by simp; omega) _
  have kr := two_rdIw ((w.alloc (.cells #[.slice o ns.length cap] 24)).alloc (.cells #[.int .i64 root, .int .i64 cur, .int .u32 (sh : Int), .slice ro rules.length rc] 30)) root cur 3
  simp only [World.size_alloc] at kr
  have HW := hid (wrong_any o cap sh ro rc rules _ [root, cur] ns (((w.alloc (.cells #[.slice o ns.length cap] 24)).alloc (.cells #[.int .i64 root, .int .i64 cur, .int .u32 (sh : Int), .slice ro rules.length rc] 30)).alloc (.cells #[.int .i64 root, .int .i64 cur] 3)) (hF.later hB0) hkl hal kr (by simp) (hru.later hB0) hrl)
  rw [hE] at HW
  have HB0 := hid hB0
  have HY : Hid (∀ V : World, _) := fun V => ways_any V
  have HL : Hid (∀ (V : World) (B : Nat), V.ownsMap Tryz.prog 31 wayR B 7 wayMap → _) := fun V B m => way_run m way h256 .nilFunc false (wayMap_out hway).1 (wayMap_out hway).2
  clear hF hkl hal hru kr hB0 hE
  go_enter Tryz.func13, Tryz.ntmps13
  go_wp2_with (first
    | (go_at_call 23; refine HW.out.mono ?_; rintro r1 v1 ⟨rfl, hb⟩; have HB1 := hid (HB0.out.trans (hb.mono HB0.out.size)); obtain ⟨i0, i1, i2, i3, i4⟩ := step_box hb; clear hb)
    | (go_at_call 25; refine (HY.out _).mono ?_; rintro r2 v2 ⟨B, rfl, hBB, hm, hb⟩; have hrun := HL.out _ _ hm; have HB2 := hid (HB1.out.trans (hb.mono HB1.out.size)); clear hb hm))
  go_ret2
  exact ⟨rfl, HB2.out.alloc HB2.out.size _⟩

set_option maxRecDepth 100000 in
set_option maxHeartbeats 4000000 in
theorem stepOf_way (b off : Nat) (cap : Nat) (ns : List NodeD) (root cur : Int) (sh : Nat) (ro : Option Addr) (rc : Nat) (rules : List RuleD) (way : Nat) (w : World) (hFA : FAt w b off cap ns) (hkl : ∀ (i : Nat) (hi : i < ns.length), ns[i].kids.length ≤ 1099511627776) (hal : ∀ (i : Nat) (hi : i < ns.length), ns[i].attrs.length ≤ 1099511627776) (hru : RdR w (.slice ro rules.length rc) rules) (hrl : rules.length ≤ 1099511627776) (hs : sh < 4294967296) (hE : wrongE ns [root, cur] rules = 0) (hway : isWay way = true) :
    Calls Tryz.prog 13 #[.agg #[.slice (some ⟨b, off, none⟩) ns.length cap], .agg #[.int .i64 root, .int .i64 cur, .int .u32 (sh : Int), .slice ro rules.length rc], .int .u8 (way : Int)] w fun e w' => ∃ bk bf bd bo bt, e = .returned (.tuple #[.func (.func 27) #[] #[.pointer (some ⟨bo, 0, none⟩), .pointer (some ⟨bt, 0, none⟩)], .int .i64 0]) ∧ StepC w' b off cap ns root sh ro rc rules way bk bf bd bo bt ∧ (w.heap.size ≤ bk ∧ w.heap.size ≤ bf ∧ w.heap.size ≤ bd ∧ w.heap.size ≤ bo ∧ w.heap.size ≤ bt) ∧ Below w.heap.size w w' := by
  have hF : FRd w (some ⟨b, off, none⟩) cap ns := ⟨hFA.len, fun _ => ⟨b, off, rfl, hFA⟩⟩
  have hB0 : Below w.heap.size w (((w.alloc (.cells #[.slice (some ⟨b, off, none⟩) ns.length cap] 24)).alloc (.cells #[.int .i64 root, .int .i64 cur, .int .u32 (sh : Int), .slice ro rules.length rc] 30)).alloc (.cells #[.int .i64 root, .int .i64 cur] 3)) := (((Below.refl _ w).alloc (Nat.le_refl _) _).alloc (by simp) _).alloc (by simp; omega) _
  have kr := two_rdIw ((w.alloc (.cells #[.slice (some ⟨b, off, none⟩) ns.length cap] 24)).alloc (.cells #[.int .i64 root, .int .i64 cur, .int .u32 (sh : Int), .slice ro rules.length rc] 30)) root cur 3
  simp only [World.size_alloc] at kr
  have HW := hid (wrong_any (some ⟨b, off, none⟩) cap sh ro rc rules _ [root, cur] ns (((w.alloc (.cells #[.slice (some ⟨b, off, none⟩) ns.length cap] 24)).alloc (.cells #[.int .i64 root, .int .i64 cur, .int .u32 (sh : Int), .slice ro rules.length rc] 30)).alloc (.cells #[.int .i64 root, .int .i64 cur] 3)) (hF.later hB0) hkl hal kr (by simp) (hru.later hB0) hrl)
  rw [hE] at HW
  have HB0 := hid hB0
  obtain ⟨hR, hth, hfE⟩ := wrongE_ok hE
  have hr := hth root (by simp)
  have h256 : way < 256 := by rcases isWay_cases hway with rfl | rfl | rfl | rfl | rfl | rfl | rfl <;> decide
  have HY : Hid (∀ V : World, _) := fun V => ways_any V
  have HL : Hid (∀ (V : World) (B : Nat), V.ownsMap Tryz.prog 31 wayR B 7 wayMap → _) := fun V B m => way_run m way h256 _ true (wayMap_in hway).1 (wayMap_in hway).2
  have HT : Hid (∀ V : World, Below w.heap.size w V → _) := fun V hV => tourOf_any b off cap ns root cur sh ro rc rules way V hR (hFA.later hV) hr hs (hru.later hV) (filterE_ok hfE).1
  have Hway := hid hway
  unfold wayF at HL
  obtain ⟨fn, hfn⟩ : ∃ fn, wayFn way = fn := ⟨_, rfl⟩
  rw [hfn] at HL
  have Hfn := hid hfn
  clear hF hkl hal hru kr hB0 hE hFA hR hth hfE hfn hway
  go_enter Tryz.func13, Tryz.ntmps13
  go_wp2_with (first
    | (go_at_call 23; refine HW.out.mono ?_; rintro r1 v1 ⟨rfl, hb⟩; have HB1 := hid (HB0.out.trans (hb.mono HB0.out.size)); obtain ⟨i0, i1, i2, i3, i4⟩ := step_box hb; have HX := hid hb; clear hb)
    | (go_at_call 25; refine (HY.out _).mono ?_; rintro r2 v2 ⟨B, rfl, hBB, hm, hb⟩; have hrun := HL.out _ _ hm; have HB2 := hid (HB1.out.trans (hb.mono HB1.out.size)); have HX2 := hid (HX.out.trans (hb.mono HX.out.size)); obtain ⟨j0, j1, j2, j3, j4⟩ := step_box HX2.out; obtain ⟨l0, l1, l2, l3, l4⟩ := step_box (HX2.out.alloc HX2.out.size (.cells #[.func (.func fn) #[] #[]] 69)); have HB3 := hid (HB2.out.alloc HB2.out.size (.cells #[.func (.func fn) #[] #[]] 69)); clear hb hm)
    | (go_at_call 26; refine (HT.out _ HB3.out).mono ?_; rintro r3 v3 ⟨bk, bf, bd, rfl, hTC, b1, b2, b3, hb⟩; have HTC := hid hTC; have HB4 := hid (HB3.out.trans (hb.mono HB3.out.size)); have HDo := hid hb; have HK1 := hid b1; have HK2 := hid b2; have HK3 := hid b3; clear hb hTC b1 b2 b3))
  go_ret2
  have z3 := HB3.out.size
  have z2 := HB2.out.size
  have z4 := HB4.out.size
  refine ⟨bk, bf, bd, _, _, rfl, ⟨HTC.out.later ((Below.refl _ _).alloc (Nat.le_refl _) _), Hway.out, ?_, ?_, ?_, ?_⟩, ⟨Nat.le_trans z3 HK1.out, Nat.le_trans z3 HK2.out, Nat.le_trans z3 HK3.out, z2, z4⟩, HB4.out.alloc HB4.out.size _⟩
  · rw [Hfn.out]
    exact keep_cell_l _ (box_forest HDo.out)
  · exact ⟨by simp, by simp, by simp, by simp, by simp, by simp⟩
  · have h1 := HDo.out.size
    simp only [World.size_alloc] at h1 ⊢
    omega
  · simp only [World.size_alloc]
    omega
end Go.Proofs.YteflknfejjdkfabGreat

namespace Go.Proofs.YteflknfejjdkfabGreat
open Go.RowKit Go.Lib Go.Maps

theorem cells4 {V : World} {B : Nat} {a b c d : Value} {t : TypeId} (h : V.heap[B]? = some (.cells #[a, b, c, d] t)) : V.cell? ⟨B, 0, none⟩ = some a ∧ V.cell? ⟨B, 1, none⟩ = some b ∧ V.cell? ⟨B, 2, none⟩ = some c ∧ V.cell? ⟨B, 3, none⟩ = some d := by
  have hk : ∀ j : Nat, V.cell? ⟨B, j, none⟩ = #[a, b, c, d][j]? := fun j => by
    unfold World.cell?
    simp only [h]
    exact if_neg (by decide)
  exact ⟨(hk 0).trans rfl, (hk 1).trans rfl, (hk 2).trans rfl, (hk 3).trans rfl⟩
theorem free4 {V : World} {B : Nat} {cs : Array Value} {t : TypeId} (h : V.heap[B]? = some (.cells cs t)) : V.frozen? ⟨B, 0, none⟩ = false ∧ V.frozen? ⟨B, 1, none⟩ = false ∧ V.frozen? ⟨B, 2, none⟩ = false ∧ V.frozen? ⟨B, 3, none⟩ = false := by
  have hf : ∀ j : Nat, V.frozen? ⟨B, j, none⟩ = false := fun j => by simp [World.frozen?, h]
  exact ⟨hf 0, hf 1, hf 2, hf 3⟩
theorem three_heap {w V : World} {o1 o2 o3 : Obj} (hb : Below (((w.alloc o1).alloc o2).alloc o3).heap.size (((w.alloc o1).alloc o2).alloc o3) V) : V.heap[w.heap.size]? = some o1 ∧ V.heap[w.heap.size + 1]? = some o2 ∧ V.heap[w.heap.size + 1 + 1]? = some o3 := by
  have h1 := vheapW w o1
  have h2 := vheapW (w.alloc o1) o2
  have h3 := vheapW ((w.alloc o1).alloc o2) o3
  simp only [World.size_alloc] at h2 h3
  have e2 := Below.heap_alloc ((w.alloc o1).alloc o2) o3 (w.heap.size + 1) (by simp)
  have e1 := Below.heap_alloc ((w.alloc o1).alloc o2) o3 w.heap.size (by simp; omega)
  have e0 := Below.heap_alloc (w.alloc o1) o2 w.heap.size (by simp)
  exact ⟨(hb.block w.heap.size (by simp only [World.size_alloc]; omega)).trans (e1.trans (e0.trans h1)), (hb.block (w.heap.size + 1) (by simp only [World.size_alloc]; omega)).trans (e2.trans h2), (hb.block (w.heap.size + 1 + 1) (by simp only [World.size_alloc]; omega)).trans h3⟩
theorem StepC.moved {w v1 V : World} {b off cap : Nat} {ns : List NodeD} {root : Int} {sh : Nat} {ro : Option Addr} {rc : Nat} {rules : List RuleD} {way : Nat} {bk bf bd bo bt : Nat} (h : StepC v1 b off cap ns root sh ro rc rules way bk bf bd bo bt) (s : Nat) (hFA : FAt w b off cap ns) (hru : RdR w (.slice ro rules.length rc) rules) (hV : Below w.heap.size w V) (hc : ∀ k j : Nat, s ≤ k → k < v1.heap.size → V.cell? ⟨k, j, none⟩ = v1.cell? ⟨k, j, none⟩) (hz : v1.heap.size ≤ V.heap.size) (hs : s ≤ bk ∧ s ≤ bf ∧ s ≤ bd ∧ s ≤ bo ∧ s ≤ bt) : StepC V b off cap ns root sh ro rc rules way bk bf bd bo bt :=
  ⟨⟨h.tour.right, hFA.later hV, h.tour.there, h.tour.small, h.tour.few, hru.later hV, (hc bk 0 hs.1 h.tour.lk).trans h.tour.kid, (hc bf 0 hs.2.1 h.tour.lf).trans h.tour.box, (hc bd 0 hs.2.2.1 h.tour.ld).trans h.tour.dir, Nat.lt_of_lt_of_le h.tour.lk hz, Nat.lt_of_lt_of_le h.tour.lf hz, Nat.lt_of_lt_of_le h.tour.ld hz⟩, h.isw, (hc bo 0 hs.2.2.2.1 h.lo).trans h.do_, ⟨(hc bt 0 hs.2.2.2.2 h.lt).trans h.t.1, (hc bt 1 hs.2.2.2.2 h.lt).trans h.t.2.1, (hc bt 2 hs.2.2.2.2 h.lt).trans h.t.2.2.1, (hc bt 3 hs.2.2.2.2 h.lt).trans h.t.2.2.2.1, (hc bt 4 hs.2.2.2.2 h.lt).trans h.t.2.2.2.2.1, (hc bt 5 hs.2.2.2.2 h.lt).trans h.t.2.2.2.2.2⟩, Nat.lt_of_lt_of_le h.lo hz, Nat.lt_of_lt_of_le h.lt hz⟩
theorem ownsRow_laterW {W V : World} {base : Nat} {e : TypeId} {size : Nat} {v : Value} {n : Nat} {xs : List Value} (h : W.ownsRow base e size v n xs) (hb : Below W.heap.size W V) : V.ownsRow base e size v n xs := by
  refine ⟨h.1, ?_⟩
  rcases h.2 with h | ⟨g, cap, cur, hv, hg, hh, rest⟩
  · exact .inl h
  · exact .inr ⟨g, cap, cur, hv, hg, (hb.block g (Array.getElem?_eq_some_iff.1 hh).1).trans hh, rest⟩
theorem step_end {w v1 v2 v3 : World} {o1 o2 o3 : Obj} {x y v : Value} {e : TypeId} {sz n : Nat} {xs : List Value} (hx : Below (((w.alloc o1).alloc o2).alloc o3).heap.size (((w.alloc o1).alloc o2).alloc o3) v1) (hz : Below ((v2.setCell ⟨w.heap.size + 1, 2, none⟩ x).setCell ⟨w.heap.size + 1, 3, none⟩ y).heap.size ((v2.setCell ⟨w.heap.size + 1, 2, none⟩ x).setCell ⟨w.heap.size + 1, 3, none⟩ y) v3) (ho : v2.ownsRow v1.heap.size e sz v n xs) (hb : Below w.heap.size w v2) : v3.ownsRow v1.heap.size e sz v n xs ∧ Below w.heap.size w v3 ∧ w.heap.size + 1 + 1 < v1.heap.size := by
  have h1 := hx.size
  simp only [World.size_alloc] at h1
  have hB : Below w.heap.size w ((v2.setCell ⟨w.heap.size + 1, 2, none⟩ x).setCell ⟨w.heap.size + 1, 3, none⟩ y) := (hb.setCell (p := ⟨w.heap.size + 1, 2, none⟩) (by simp) _).setCell (p := ⟨w.heap.size + 1, 3, none⟩) (by simp) _
  exact ⟨ownsRow_laterW (ownsRow_setCell_below (ownsRow_setCell_below ho (a := ⟨w.heap.size + 1, 2, none⟩) (by show w.heap.size + 1 < _; omega) _) (a := ⟨w.heap.size + 1, 3, none⟩) (by show w.heap.size + 1 < _; omega) _) hz, hB.trans (hz.mono hB.size), by omega⟩
theorem own_four {V : World} {base : Nat} {e : TypeId} {sz n B : Nat} {v a b c d : Value} {xs : List Value} (h : V.ownsRow base e sz v n xs) (hB : B < base) : ((((V.setCell ⟨B, 0, none⟩ a).setCell ⟨B, 1, none⟩ b).setCell ⟨B, 2, none⟩ c).setCell ⟨B, 3, none⟩ d).ownsRow base e sz v n xs :=
  ownsRow_setCell_below (ownsRow_setCell_below (ownsRow_setCell_below (ownsRow_setCell_below h (a := ⟨B, 0, none⟩) hB _) (a := ⟨B, 1, none⟩) hB _) (a := ⟨B, 2, none⟩) hB _) (a := ⟨B, 3, none⟩) hB _
theorem below_four {w V : World} {B : Nat} {a b c d : Value} (h : Below w.heap.size w V) (hB : w.heap.size ≤ B) : Below w.heap.size w ((((V.setCell ⟨B, 0, none⟩ a).setCell ⟨B, 1, none⟩ b).setCell ⟨B, 2, none⟩ c).setCell ⟨B, 3, none⟩ d) :=
  (((h.setCell (p := ⟨B, 0, none⟩) hB _).setCell (p := ⟨B, 1, none⟩) hB _).setCell (p := ⟨B, 2, none⟩) hB _).setCell (p := ⟨B, 3, none⟩) hB _
theorem four_set {V : World} {B : Nat} {a b c d : Value} {t : TypeId} (h : V.heap[B]? = some (.cells #[a, b, c, d] t)) (a' b' c' d' : Value) : ((((V.setCell ⟨B, 0, none⟩ a').setCell ⟨B, 1, none⟩ b').setCell ⟨B, 2, none⟩ c').setCell ⟨B, 3, none⟩ d').heap[B]? = some (.cells #[a', b', c', d'] t) :=
  heap_setCell_same _ B 3 _ t _ (heap_setCell_same _ B 2 _ t _ (heap_setCell_same _ B 1 _ t _ (heap_setCell_same _ B 0 _ t _ h)))
theorem two_set {V : World} {B : Nat} {a b c d : Value} {t : TypeId} (h : V.heap[B]? = some (.cells #[a, b, c, d] t)) (c' d' : Value) : ((V.setCell ⟨B, 2, none⟩ c').setCell ⟨B, 3, none⟩ d').heap[B]? = some (.cells #[a, b, c', d'] t) :=
  heap_setCell_same _ B 3 _ t _ (heap_setCell_same _ B 2 _ t _ h)
theorem three_le {w : World} {o1 o2 o3 : Obj} {a b c d e : Nat} (h : (((w.alloc o1).alloc o2).alloc o3).heap.size ≤ a ∧ (((w.alloc o1).alloc o2).alloc o3).heap.size ≤ b ∧ (((w.alloc o1).alloc o2).alloc o3).heap.size ≤ c ∧ (((w.alloc o1).alloc o2).alloc o3).heap.size ≤ d ∧ (((w.alloc o1).alloc o2).alloc o3).heap.size ≤ e) : w.heap.size + 3 ≤ a ∧ w.heap.size + 3 ≤ b ∧ w.heap.size + 3 ≤ c ∧ w.heap.size + 3 ≤ d ∧ w.heap.size + 3 ≤ e := by
  simp only [World.size_alloc] at h
  omega
theorem step_b2 {w v2 : World} {x y : Value} (h : Below w.heap.size w v2) : Below w.heap.size w ((v2.setCell ⟨w.heap.size + 1, 2, none⟩ x).setCell ⟨w.heap.size + 1, 3, none⟩ y) :=
  (h.setCell (p := ⟨w.heap.size + 1, 2, none⟩) (by simp) _).setCell (p := ⟨w.heap.size + 1, 3, none⟩) (by simp) _
theorem step_c2 {w v1 v2 : World} {o1 o2 o3 : Obj} {x y : Value} (_h0 : Below (((w.alloc o1).alloc o2).alloc o3).heap.size (((w.alloc o1).alloc o2).alloc o3) v1) (h : Below v1.heap.size v1 v2) : ∀ k j : Nat, w.heap.size + 3 ≤ k → k < v1.heap.size → ((v2.setCell ⟨w.heap.size + 1, 2, none⟩ x).setCell ⟨w.heap.size + 1, 3, none⟩ y).cell? ⟨k, j, none⟩ = v1.cell? ⟨k, j, none⟩ := fun k j hk hl => by
  rw [World.cell?_setCell_far _ ⟨w.heap.size + 1, 3, none⟩ ⟨k, j, none⟩ _ (by show w.heap.size + 1 ≠ k; omega), World.cell?_setCell_far _ ⟨w.heap.size + 1, 2, none⟩ ⟨k, j, none⟩ _ (by show w.heap.size + 1 ≠ k; omega)]
  exact h.cell (p := ⟨k, j, none⟩) hl
theorem step_z2 {v1 v2 : World} {p q : Addr} {x y : Value} (h : Below v1.heap.size v1 v2) : v1.heap.size ≤ ((v2.setCell p x).setCell q y).heap.size := by
  simp only [World.size_setCell]
  exact h.size
theorem step_k3 {v2 v3 : World} {B : Nat} {a b c d x y m0 m1 m2 m3 : Value} {t : TypeId} (h1 : v2.heap[B + 1]? = some (.cells #[a, b, c, d] t)) (h2 : v2.heap[B + 1 + 1]? = some (.cells #[m0, m1, m2, m3] t)) (h : Below ((v2.setCell ⟨B + 1, 2, none⟩ x).setCell ⟨B + 1, 3, none⟩ y).heap.size ((v2.setCell ⟨B + 1, 2, none⟩ x).setCell ⟨B + 1, 3, none⟩ y) v3) : v3.heap[B + 1]? = some (.cells #[a, b, x, y] t) ∧ v3.heap[B + 1 + 1]? = some (.cells #[m0, m1, m2, m3] t) := by
  have l2 := (Array.getElem?_eq_some_iff.1 h2).1
  have hz : ((v2.setCell ⟨B + 1, 2, none⟩ x).setCell ⟨B + 1, 3, none⟩ y).heap.size = v2.heap.size := by simp
  refine ⟨(h.block (B + 1) (by omega)).trans (two_set h1 x y), (h.block (B + 1 + 1) (by omega)).trans ?_⟩
  rw [heap_setCell_other _ ⟨B + 1, 3, none⟩ (B + 1 + 1) _ (by show B + 1 + 1 ≠ B + 1; omega), heap_setCell_other _ ⟨B + 1, 2, none⟩ (B + 1 + 1) _ (by show B + 1 + 1 ≠ B + 1; omega)]
  exact h2
/-- Why a walker can't go a way. -/
def stepE (ns : List NodeD) (root cur : Int) (rules : List RuleD) (way : Nat) : Int := if wrongE ns [root, cur] rules = 0 then (if isWay way then 0 else 23) else wrongE ns [root, cur] rules
theorem stepOf_err (o : Option Addr) (cap : Nat) (ns : List NodeD) (root cur : Int) (sh : Nat) (ro : Option Addr) (rc : Nat) (rules : List RuleD) (way : Nat) (w : World) (hF : FRd w o cap ns) (hkl : ∀ (i : Nat) (hi : i < ns.length), ns[i].kids.length ≤ 1099511627776) (hal : ∀ (i : Nat) (hi : i < ns.length), ns[i].attrs.length ≤ 1099511627776) (hru : RdR w (.slice ro rules.length rc) rules) (hrl : rules.length ≤ 1099511627776) (h256 : way < 256) (hE : stepE ns root cur rules way ≠ 0) :
    Calls Tryz.prog 13 #[.agg #[.slice o ns.length cap], .agg #[.int .i64 root, .int .i64 cur, .int .u32 (sh : Int), .slice ro rules.length rc], .int .u8 (way : Int)] w fun e w' => e = .returned (.tuple #[.nilFunc, .int .i64 (stepE ns root cur rules way)]) ∧ Below w.heap.size w w' := by
  unfold stepE at hE ⊢
  by_cases h0 : wrongE ns [root, cur] rules = 0
  · rw [if_pos h0] at hE ⊢
    cases hw : isWay way with
    | true => rw [hw] at hE; exact absurd rfl hE
    | false => exact stepOf_none o cap ns root cur sh ro rc rules way w hF hkl hal hru hrl h0 hw h256
  · rw [if_neg h0]
    exact stepOf_bad o cap ns root cur sh ro rc rules way w hF hkl hal hru hrl h0

set_option maxRecDepth 100000 in
set_option maxHeartbeats 4000000 in
theorem Step_err (o : Option Addr) (cap : Nat) (ns : List NodeD) (root cur : Int) (sh : Nat) (ro : Option Addr) (rc : Nat) (rules : List RuleD) (way : Nat) (w : World) (hF : FRd w o cap ns) (hkl : ∀ (i : Nat) (hi : i < ns.length), ns[i].kids.length ≤ 1099511627776) (hal : ∀ (i : Nat) (hi : i < ns.length), ns[i].attrs.length ≤ 1099511627776) (hru : RdR w (.slice ro rules.length rc) rules) (hrl : rules.length ≤ 1099511627776) (h256 : way < 256) (hE : stepE ns root cur rules way ≠ 0) :
    Calls Tryz.prog 5 #[.agg #[.slice o ns.length cap], .agg #[.int .i64 root, .int .i64 cur, .int .u32 (sh : Int), .slice ro rules.length rc], .int .u8 (way : Int)] w fun e w' => e = .returned (.tuple #[.agg #[.int .i64 0, .int .i64 0, .int .u32 0, .slice none 0 0], .int .i64 0, .int .i64 (stepE ns root cur rules way)]) ∧ Below w.heap.size w w' := by
  have hB0 : Below w.heap.size w (((w.alloc (.cells #[.slice o ns.length cap] 24)).alloc (.cells #[.int .i64 root, .int .i64 cur, .int .u32 (sh : Int), .slice ro rules.length rc] 30)).alloc (.cells #[.int .i64 0, .int .i64 0, .int .u32 0, .slice none 0 0] 30)) := (((Below.refl _ w).alloc (Nat.le_refl _) _).alloc (by simp) _).alloc (by simp; omega) _
  have HW := hid (stepOf_err o cap ns root cur sh ro rc rules way (((w.alloc (.cells #[.slice o ns.length cap] 24)).alloc (.cells #[.int .i64 root, .int .i64 cur, .int .u32 (sh : Int), .slice ro rules.length rc] 30)).alloc (.cells #[.int .i64 0, .int .i64 0, .int .u32 0, .slice none 0 0] 30)) (hF.later hB0) hkl hal (hru.later hB0) hrl h256 hE)
  have n0 : (stepE ns root cur rules way != 0) = true := by rw [bne, beq_eq_false_iff_ne.2 hE]; rfl
  have HB0 := hid hB0
  clear hF hkl hal hru hB0
  generalize stepE ns root cur rules way = E at *
  go_enter Tryz.func5, Tryz.ntmps5
  go_wp2_with (go_at_call 13; refine HW.out.mono ?_; rintro r1 v1 ⟨rfl, hb⟩; have HB1 := hid (HB0.out.trans (hb.mono HB0.out.size)); obtain ⟨k0, k1, k2⟩ := three_heap hb; obtain ⟨i0, i1, i2, i3⟩ := cells4 k2; obtain ⟨f0, f1, f2, f3⟩ := free4 k2; have HK2 := hid k2; clear hb k0 k1 k2)
  have hn := four_set HK2.out (.int .i64 0) (.int .i64 0) (.int .u32 0) (.slice none 0 0)
  obtain ⟨j0, j1, j2, j3⟩ := cells4 hn
  exact bodyPost_ret (v := .tuple #[.agg #[.int .i64 0, .int .i64 0, .int .u32 0, .slice none 0 0], .int .i64 0, .int .i64 E]) (by simp [results, Tryz.results5, go_sem, j0, j1, j2, j3]) rfl ⟨rfl, (((HB1.out.setCell (p := ⟨w.heap.size + 1 + 1, 0, none⟩) (by simp; omega) _).setCell (p := ⟨w.heap.size + 1 + 1, 1, none⟩) (by simp; omega) _).setCell (p := ⟨w.heap.size + 1 + 1, 2, none⟩) (by simp; omega) _).setCell (p := ⟨w.heap.size + 1 + 1, 3, none⟩) (by simp; omega) _⟩

set_option maxRecDepth 100000 in
set_option maxHeartbeats 8000000 in
theorem Step_ok (b off : Nat) (cap : Nat) (ns : List NodeD) (root cur : Int) (sh : Nat) (ro : Option Addr) (rc : Nat) (rules : List RuleD) (way : Nat) (w : World) (hFA : FAt w b off cap ns) (hkl : ∀ (i : Nat) (hi : i < ns.length), ns[i].kids.length ≤ 1099511627776) (hal : ∀ (i : Nat) (hi : i < ns.length), ns[i].attrs.length ≤ 1099511627776) (hru : RdR w (.slice ro rules.length rc) rules) (hrl : rules.length ≤ 1099511627776) (hs : sh < 4294967296) (hE : stepE ns root cur rules way = 0) :
    Calls Tryz.prog 5 #[.agg #[.slice (some ⟨b, off, none⟩) ns.length cap], .agg #[.int .i64 root, .int .i64 cur, .int .u32 (sh : Int), .slice ro rules.length rc], .int .u8 (way : Int)] w fun e w' => ∃ vo vc, e = .returned (.tuple #[.agg #[.int .i64 root, .int .i64 (if stepD ns root sh rules way cur = 0 then cur else stepD ns root sh rules way cur), .int .u32 (sh : Int), .slice vo rules.length vc], .int .i64 (stepD ns root sh rules way cur), .int .i64 0]) ∧ w'.ownsRow w.heap.size 39 3 (.slice vo rules.length vc) rules.length (rulesC rules) ∧ Below w.heap.size w w' := by
  have hB0 : Below w.heap.size w (((w.alloc (.cells #[.slice (some ⟨b, off, none⟩) ns.length cap] 24)).alloc (.cells #[.int .i64 root, .int .i64 cur, .int .u32 (sh : Int), .slice ro rules.length rc] 30)).alloc (.cells #[.int .i64 0, .int .i64 0, .int .u32 0, .slice none 0 0] 30)) := (((Below.refl _ w).alloc (Nat.le_refl _) _).alloc (by simp) _).alloc (by simp; omega) _
  have hE0 : wrongE ns [root, cur] rules = 0 := by
    unfold stepE at hE
    split at hE
    · assumption
    · rename_i h; exact absurd hE h
  have hway : isWay way = true := by
    unfold stepE at hE
    rw [if_pos hE0] at hE
    cases hw : isWay way with
    | true => rfl
    | false => rw [hw] at hE; cases hE
  obtain ⟨hR, hth, hfE⟩ := wrongE_ok hE0
  have hcur := hth cur (by simp)
  have HW := hid (stepOf_way b off cap ns root cur sh ro rc rules way (((w.alloc (.cells #[.slice (some ⟨b, off, none⟩) ns.length cap] 24)).alloc (.cells #[.int .i64 root, .int .i64 cur, .int .u32 (sh : Int), .slice ro rules.length rc] 30)).alloc (.cells #[.int .i64 0, .int .i64 0, .int .u32 0, .slice none 0 0] 30)) (hFA.later hB0) hkl hal (hru.later hB0) hrl hs hE0 hway)
  have HC : Hid (∀ V : World, Below w.heap.size w V → _) := fun V hV => wcopyOf_any sh ro rc rules V (hru.later hV) (filterE_ok hfE).1
  have HS : Hid (∀ (v1 V : World) (bk bf bd bo bt : Nat), StepC v1 b off cap ns root sh ro rc rules way bk bf bd bo bt → (w.heap.size + 3 ≤ bk ∧ w.heap.size + 3 ≤ bf ∧ w.heap.size + 3 ≤ bd ∧ w.heap.size + 3 ≤ bo ∧ w.heap.size + 3 ≤ bt) → Below w.heap.size w V → (∀ k j : Nat, w.heap.size + 3 ≤ k → k < v1.heap.size → V.cell? ⟨k, j, none⟩ = v1.cell? ⟨k, j, none⟩) → v1.heap.size ≤ V.heap.size → _) :=
    fun v1 V bk bf bd bo bt h1 h2 h3 h4 h5 => step1_any (h1.moved (w.heap.size + 3) hFA hru h3 h4 h5 h2) cur hcur V (Below.refl _ _)
  have eg : ∀ args w, (callFunc 27 args).run Tryz.prog w = .ok (.enter 27 args) w := enters_of Tryz.func27 (by kernel_rfl) rfl
  have HB0 := hid hB0
  clear hFA hkl hal hru hB0 hE0 hway hR hth hfE hcur hE
  generalize stepD ns root sh rules way cur = D at *
  by_cases c0 : D = 0
  · subst c0
    rw [if_pos rfl]
    go_enter Tryz.func5, Tryz.ntmps5
    go_wp2_with (first
      | (go_at_call 13; refine HW.out.mono ?_; rintro r1 v1 ⟨bk, bf, bd, bo, bt, rfl, hSC, hbs, hb⟩; have HSC := hid hSC; have HBS := hid (three_le hbs); have HB1 := hid (HB0.out.trans (hb.mono HB0.out.size)); have HX := hid hb; obtain ⟨k0, k1, k2⟩ := three_heap hb; obtain ⟨i0, i1, i2, i3⟩ := cells4 k1; clear hb hSC hbs k0 k1 k2)
      | (go_at_call 14; refine (HC.out _ HB1.out).mono ?_; rintro r2 v2 ⟨vo, vc, rfl, hown, hb⟩; have HO := hid hown; have HY := hid hb; have HB2 := hid (HB1.out.trans (hb.mono HB1.out.size)); obtain ⟨k0, k1, k2⟩ := three_heap (HX.out.trans (hb.mono HX.out.size)); obtain ⟨i0, i1, i2, i3⟩ := cells4 k1; obtain ⟨f0, f1, f2, f3⟩ := free4 k1; have HK1 := hid k1; have HK2 := hid k2; clear hb hown k0 k1 k2)
      | (go_at_fn 27; refine (HS.out _ _ _ _ _ _ _ HSC.out HBS.out (step_b2 HB2.out) (step_c2 HX.out HY.out) (step_z2 HY.out)).mono ?_; rintro r3 v3 ⟨rfl, hb⟩; have HZ := hid hb; obtain ⟨k1, k2⟩ := step_k3 HK1.out HK2.out hb; obtain ⟨i0, i1, i2, i3⟩ := cells4 k1; obtain ⟨f0, f1, f2, f3⟩ := free4 k1; obtain ⟨m0, m1, m2, m3⟩ := cells4 k2; obtain ⟨g0, g1, g2, g3⟩ := free4 k2; have HL1 := hid k1; have HL2 := hid k2; clear hb k1 k2))
    obtain ⟨e1, e2, e3⟩ := step_end HX.out HZ.out HO.out HB2.out
    have hn := four_set HL2.out (.int .i64 root) (.int .i64 cur) (.int .u32 (sh : Int)) (.slice vo rules.length vc)
    obtain ⟨j0, j1, j2, j3⟩ := cells4 hn
    exact bodyPost_ret (v := .tuple #[.agg #[.int .i64 root, .int .i64 cur, .int .u32 (sh : Int), .slice vo rules.length vc], .int .i64 0, .int .i64 0]) (by simp [results, Tryz.results5, go_sem, j0, j1, j2, j3]) rfl ⟨vo, vc, rfl, own_base (by omega) (own_four e1 e3), below_four e2 (by omega)⟩
  · have n0 : (D != 0) = true := by rw [bne, beq_eq_false_iff_ne.2 c0]; rfl
    rw [if_neg c0]
    go_enter Tryz.func5, Tryz.ntmps5
    go_wp2_with (first
      | (go_at_call 13; refine HW.out.mono ?_; rintro r1 v1 ⟨bk, bf, bd, bo, bt, rfl, hSC, hbs, hb⟩; have HSC := hid hSC; have HBS := hid (three_le hbs); have HB1 := hid (HB0.out.trans (hb.mono HB0.out.size)); have HX := hid hb; obtain ⟨k0, k1, k2⟩ := three_heap hb; obtain ⟨i0, i1, i2, i3⟩ := cells4 k1; clear hb hSC hbs k0 k1 k2)
      | (go_at_call 14; refine (HC.out _ HB1.out).mono ?_; rintro r2 v2 ⟨vo, vc, rfl, hown, hb⟩; have HO := hid hown; have HY := hid hb; have HB2 := hid (HB1.out.trans (hb.mono HB1.out.size)); obtain ⟨k0, k1, k2⟩ := three_heap (HX.out.trans (hb.mono HX.out.size)); obtain ⟨i0, i1, i2, i3⟩ := cells4 k1; obtain ⟨f0, f1, f2, f3⟩ := free4 k1; have HK1 := hid k1; have HK2 := hid k2; clear hb hown k0 k1 k2)
      | (go_at_fn 27; refine (HS.out _ _ _ _ _ _ _ HSC.out HBS.out (step_b2 HB2.out) (step_c2 HX.out HY.out) (step_z2 HY.out)).mono ?_; rintro r3 v3 ⟨rfl, hb⟩; have HZ := hid hb; obtain ⟨k1, k2⟩ := step_k3 HK1.out HK2.out hb; obtain ⟨i0, i1, i2, i3⟩ := cells4 k1; obtain ⟨f0, f1, f2, f3⟩ := free4 k1; obtain ⟨m0, m1, m2, m3⟩ := cells4 k2; obtain ⟨g0, g1, g2, g3⟩ := free4 k2; have HL1 := hid k1; have HL2 := hid k2; clear hb k1 k2))
    obtain ⟨e1, e2, e3⟩ := step_end HX.out HZ.out HO.out HB2.out
    have hn := four_set ((heap_setCell_other _ ⟨w.heap.size + 1, 1, none⟩ (w.heap.size + 1 + 1) (.int .i64 D) (by show w.heap.size + 1 + 1 ≠ w.heap.size + 1; omega)).trans HL2.out) (.int .i64 root) (.int .i64 D) (.int .u32 (sh : Int)) (.slice vo rules.length vc)
    obtain ⟨j0, j1, j2, j3⟩ := cells4 hn
    exact bodyPost_ret (v := .tuple #[.agg #[.int .i64 root, .int .i64 D, .int .u32 (sh : Int), .slice vo rules.length vc], .int .i64 D, .int .i64 0]) (by simp [results, Tryz.results5, go_sem, j0, j1, j2, j3]) rfl ⟨vo, vc, rfl, own_base (by omega) (own_four (ownsRow_setCell_below e1 (a := ⟨w.heap.size + 1, 1, none⟩) (by show w.heap.size + 1 < _; omega) _) e3), below_four (e2.setCell (p := ⟨w.heap.size + 1, 1, none⟩) (by simp) _) (by omega)⟩
end Go.Proofs.YteflknfejjdkfabGreat
