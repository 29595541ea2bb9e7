/- abort.Any. -/
import Derived.Test.YtlibjjmaicgemaaAbS
namespace Go.Proofs.Ytlibjjmaicgemaa
open Go.RowKit Go.Lib Go.Shelf

def abH (ls : List SigD) (h : Int) : Bool := abAt ls (h.toNat - 1)
set_option maxRecDepth 100000 in
set_option maxHeartbeats 1000000 in
theorem anyC_any (x : Int) (o : Option Addr) (ls : List SigD) (c g : Nat) (w : World) (h0 : w.heap[g]? = some (.cells #[.slice o ls.length c] 22)) (hr : RdS w (.slice o ls.length c) ls) (hn : ls.length ≤ 1099511627776) (hx : outD ls.length x = false) :
    Calls Try.prog 25 #[.int .i64 x, .pointer (some ⟨g, 0, none⟩)] w fun e w' => e = .returned (.bool (abH ls x)) ∧ Below w.heap.size w w' := by
  have c0 := box1 h0
  obtain ⟨p, rfl, hp⟩ := out_no hx
  obtain ⟨o', c', he, _, hg⟩ := hr
  injection he with e1 e2 e3
  subst e1
  obtain ⟨b, off, rfl, hlt, ha⟩ := hg (by omega)
  obtain ⟨_, _, ⟨a0, _, _, _, _⟩, _, _⟩ := ha p hp
  have q1 : (0 : Int) ≤ (p : Int) := by omega
  have q2 : (p : Int) < (ls.length : Int) := by omega
  have hwp : IntKind.i64.wrap (p : Int) = (p : Int) := wrapA (by omega) (by omega)
  have hab : abH ls ((p : Int) + 1) = ls[p].ab := by
    unfold abH
    rw [show ((p : Int) + 1).toNat - 1 = p by omega, ab_at hp]
  rw [hab]
  clear h0 hg ha e2 e3 hab hx
  generalize ls[p].ab = xa at *
  go_enter Try.func25, Try.ntmps25
  go_wp2
  go_ret
  exact ⟨rfl, Below.refl _ _⟩
theorem ask_any {W : World} {g c : Nat} {o : Option Addr} {ls : List SigD} (h0 : W.heap[g]? = some (.cells #[.slice o ls.length c] 22)) (hr : RdS W (.slice o ls.length c) ls) (hn : ls.length ≤ 1099511627776) :
    AskI W (.func (.func 25) #[] #[.pointer (some ⟨g, 0, none⟩)]) (fun h => !outD ls.length h) (abH ls) :=
  ⟨_, _, rfl, enters_of Try.func25 (by kernel_rfl) rfl, fun x V hq hV => anyC_any x o ls c g V (blkLater hV h0) (hr.later hV) hn (by simpa using hq)⟩
def anyE (ls : List SigD) (is : List Int) : Int := if (fullE ls == 0) = true then (if 1024 < is.length then 3 else if is.any (outD ls.length) = true then 2 else 0) else fullE ls
set_option maxRecDepth 100000 in
set_option maxHeartbeats 4000000 in
theorem anyS_err (v iv : Value) (ls : List SigD) (is : List Int) (w : World) (hv : RdS w v ls) (hi : RdI w iv is) (hl : ls.length ≤ 1099511627776) (hil : is.length ≤ 1099511627776) (hs : SmallS ls) (he : (anyE ls is != 0) = true) :
    Calls Try.prog 10 #[v, iv] w fun e w' => e = .returned (.tuple #[.slice none 0 0, .int .i64 0, .int .i64 (anyE ls is)]) ∧ Below w.heap.size w w' := by
  obtain ⟨o, c, hvs, _, _⟩ := id hv
  subst hvs
  have hb : Below w.heap.size w (w.alloc (.cells #[.slice o ls.length c] 22)) := (Below.refl _ w).alloc (Nat.le_refl _) _
  have hC := full_any _ ls _ (hv.later hb) hl hs
  have HTh : Hid (∀ V : World, Below w.heap.size w V → _) := fun V hV => there_any o ls.length c iv is V (hi.later hV) hil
  have HX := hid (heap_new w (.cells #[.slice o ls.length c] 22))
  have k0 := box1 HX.out
  have HB := hid hb
  obtain ⟨io, ic, rfl, _, gi⟩ := hi
  clear hv hs hb gi
  cases hE : (fullE ls == 0) with
  | false =>
    have hA : anyE ls is = fullE ls := by unfold anyE; rw [hE]; rfl
    rw [hA] at he ⊢
    generalize fullE ls = E at *
    clear HTh hE hA
    go_enter Try.func10, Try.ntmps10
    go_wp2_with (go_at_call 21; refine hC.mono ?_; rintro e w2 ⟨rfl, hb⟩; have HB2 := hid (HB.out.trans (hb.mono HB.out.size)); have k0 := box1 (blkLater hb HX.out); clear hb)
    refine bodyPost_ret (v := .tuple #[.slice none 0 0, .int .i64 0, .int .i64 E]) (by simp [results, Try.results10, go_sem]) rfl ?_
    exact ⟨rfl, HB2.out⟩
  | true =>
    have hz : fullE ls = 0 := by simpa using hE
    rw [hz] at hC
    by_cases hm : 1024 < is.length
    · have hA : anyE ls is = 3 := by unfold anyE; rw [hE, if_pos rfl, if_pos hm]
      rw [hA]
      have h1 : decide ((is.length : Int) > 1024) = true := decide_eq_true (by omega)
      clear HTh hm he hA hE hz
      go_enter Try.func10, Try.ntmps10
      go_wp2_with (go_at_call 21; refine hC.mono ?_; rintro e w2 ⟨rfl, hb⟩; have HB2 := hid (HB.out.trans (hb.mono HB.out.size)); have k0 := box1 (blkLater hb HX.out); clear hb)
      refine bodyPost_ret (v := .tuple #[.slice none 0 0, .int .i64 0, .int .i64 3]) (by simp [results, Try.results10, go_sem]) rfl ?_
      exact ⟨rfl, HB2.out⟩
    · have h1 : decide ((is.length : Int) > 1024) = false := decide_eq_false (by omega)
      cases ho : is.any (outD ls.length) with
      | false =>
        have hA : anyE ls is = 0 := by unfold anyE; rw [hE, if_pos rfl, if_neg hm, ho]; rfl
        rw [hA] at he
        exact absurd he (by decide)
      | true =>
        have hA : anyE ls is = 2 := by unfold anyE; rw [hE, if_pos rfl, if_neg hm, ho]; rfl
        rw [hA]
        rw [ho] at HTh
        clear hm he hA hE hz ho
        go_enter Try.func10, Try.ntmps10
        go_wp2_with (first
          | (go_at_call 21; refine hC.mono ?_; rintro e w2 ⟨rfl, hb⟩; have HB2 := hid (HB.out.trans (hb.mono HB.out.size)); have k0 := box1 (blkLater hb HX.out); clear hb)
          | (go_at_call 23; refine (HTh.out _ HB2.out).mono ?_; rintro e w3 ⟨rfl, hb⟩; have HB3 := hid (HB2.out.trans (hb.mono HB2.out.size)); clear hb))
        refine bodyPost_ret (v := .tuple #[.slice none 0 0, .int .i64 0, .int .i64 2]) (by simp [results, Try.results10, go_sem]) rfl ?_
        exact ⟨rfl, HB3.out⟩
/-- What is known of signals that are right. -/
structure RightOk (ls : List SigD) : Prop where
  small : ∀ (j : Nat) (h : j < ls.length), ls[j].src.length ≤ 1024 ∧ ls[j].dts.length ≤ 1024
  srcs : ∀ (j : Nat) (h : j < ls.length), ls[j].dep = true → ∀ s ∈ ls[j].src, outD ls.length s = false
  dts : ∀ (j : Nat) (h : j < ls.length), ∀ s ∈ ls[j].dts, outD ls.length s = false
/-- Signals with one more that depends on others. -/
def anyL (ls : List SigD) (is : List Int) : List SigD := tiesS ls.length (ledBy (ls ++ [⟨false, 0, true, [], []⟩]) is) (ls ++ [⟨false, 0, true, [], []⟩])
theorem out_mono {n : Nat} {h : Int} (ho : outD n h = false) : outD (n + 1) h = false := by
  obtain ⟨p, rfl, hp⟩ := out_no ho
  unfold outD
  rw [decide_eq_false (by omega), decide_eq_false (by omega)]
  rfl
set_option maxRecDepth 100000 in
set_option maxHeartbeats 4000000 in
theorem anyS_dep (hT : Ties) (v iv : Value) (ls : List SigD) (is : List Int) (w : World) (hv : RdS w v ls) (hi : RdI w iv is) (hl : ls.length ≤ 1024) (hs : SmallS ls) (hro : RightOk ls) (hf : fullE ls = 0) (hil : is.length ≤ 1024) (hth : ∀ h ∈ is, outD ls.length h = false) (hna : is.any (abH ls) = false) :
    Calls Try.prog 10 #[v, iv] w fun e w' => ∃ o c l, e = .returned (.tuple #[.slice o (ls.length + 1) c, .int .i64 ((ls.length : Int) + 1), .int .i64 0]) ∧ l.map (·.1) = anyL ls is ∧ OwnS w' w' w.heap.size (.slice o (ls.length + 1) c) l l.length ∧ Below w.heap.size w w' := by
  obtain ⟨o, c, hvs, _, _⟩ := id hv
  subst hvs
  have hb : Below w.heap.size w (w.alloc (.cells #[.slice o ls.length c] 22)) := (Below.refl _ w).alloc (Nat.le_refl _) _
  have hC := full_any _ ls _ (hv.later hb) (by omega) hs
  rw [hf] at hC
  have hno : is.any (outD ls.length) = false := by
    rw [List.any_eq_false]
    intro h hh
    rw [hth h hh]
    exact Bool.false_ne_true
  have HTh : Hid (∀ V : World, Below w.heap.size w V → _) := fun V hV => there_any o ls.length c iv is V (hi.later hV) (by omega)
  rw [hno] at HTh
  have hfi : firstI (abH ls) is 0 = -1 := by
    have h1 := firstI_any (abH ls) is 0 (by omega)
    rw [hna] at h1
    have h2 := of_decide_eq_false h1
    have : ∀ (l : List Int) (k : Int), 0 ≤ k → firstI (abH ls) l k = -1 ∨ 0 ≤ firstI (abH ls) l k := by
      intro l
      induction l with
      | nil => intro k _; exact .inl rfl
      | cons x r ih =>
        intro k hk
        rw [firstI]
        split
        · exact .inr hk
        · exact ih (k + 1) (by omega)
    rcases this is 0 (by omega) with h | h
    · exact h
    · omega
  have HIx : Hid (∀ V : World, Below w.heap.size w V → V.heap[w.heap.size]? = some (.cells #[.slice o ls.length c] 22) → _) := fun V hV hx => indexI_any iv _ is _ _ V (hi.later hV) (by omega) (ask_any hx (hv.later hV) (by omega)) (fun h hh => by rw [hth h hh]; rfl)
  rw [hfi] at HIx
  have HGr : Hid (∀ V : World, Below w.heap.size w V → _) := fun V hV => grown_any _ ls false 0 true V (hv.later hV) hl hs
  have HLd : Hid (∀ (V W5 : World) (o5 : Option Addr) (c5 : Nat) (l5 : List SigV), Below w.heap.size w V → l5.map (·.1) = ls ++ [⟨false, 0, true, [], []⟩] → OwnS W5 W5 V.heap.size (.slice o5 (ls.length + 1) c5) l5 l5.length → Below V.heap.size V W5 → ∃ g, o5 = some ⟨g, 0, none⟩ ∧ Calls Try.prog 26 #[.slice o5 (ls.length + 1) c5, iv, .func (.func 27) #[.agg #[.slice o5 (ls.length + 1) c5, .int .i64 ((ls.length : Int) + 1)]] #[]] W5 fun e w' => e = .returned (.tuple #[]) ∧ ∃ l, l.map (·.1) = anyL ls is ∧ OwnS w' w' w.heap.size (.slice o5 (ls.length + 1) c5) l l.length ∧ Below w.heap.size w w') := fun V W5 o5 c5 l5 hV hm5 hO5 hb5 => by
    have hl5 : l5.length = ls.length + 1 := by
      have := congrArg List.length hm5
      simpa using this
    rw [← hl5] at hO5
    obtain ⟨g, c', cur, hvv, _⟩ := own_blk hO5.row (by omega)
    injection hvv with e1 e2 e3
    subst e1
    subst e3
    have hg5 : ∀ (j : Nat) (hj : j < l5.length) (hj' : j < (ls ++ [(⟨false, 0, true, [], []⟩ : SigD)]).length), l5[j].1 = (ls ++ [(⟨false, 0, true, [], []⟩ : SigD)])[j] := fun j hj hj' => by
      have : (l5.map (·.1))[j]'(by simpa using hj) = (ls ++ [(⟨false, 0, true, [], []⟩ : SigD)])[j] := by simp only [hm5]
      rw [List.getElem_map] at this
      exact this
    have hok : LeadOk ls.length l5 is := by
      refine ⟨hl5, by omega, hth, hil, fun j hj hd s hs => ?_, fun j hj => ?_⟩
      · rw [hg5 j hj (by simp; omega)] at hd hs
        by_cases e : j < ls.length
        · rw [List.getElem_append_left e] at hd hs
          exact hro.srcs j e hd s hs
        · rw [List.getElem_append_right (by omega)] at hs
          simp at hs
      · rw [hg5 j hj (by simp; omega)]
        by_cases e : j < ls.length
        · rw [List.getElem_append_left e]
          exact hro.small j e
        · rw [List.getElem_append_right (by omega)]
          simp
    refine ⟨g, rfl, ?_⟩
    have h1 := lead_any hT g c5 ls.length l5 iv is W5 W5 V.heap.size hO5 hb5.size hok (fun U hU => (hi.later hV).later (hb5.trans hU))
    rw [hl5, hm5] at h1
    refine h1.mono ?_
    rintro e w' ⟨he, l, hm, hl2, hO, hbb⟩
    rw [← hl2] at hO
    have hO' := hO.base (w1 := w') (base' := w.heap.size) hV.size
    exact ⟨he, l, hm, by rw [← hl2]; exact hO', hV.trans ((hb5.trans hbb).mono hV.size)⟩
  have HX := hid (heap_new w (.cells #[.slice o ls.length c] 22))
  have k0 := box1 HX.out
  have HB := hid hb
  have h1 : decide ((is.length : Int) > 1024) = false := decide_eq_false (by omega)
  obtain ⟨io, ic, rfl, _, gi⟩ := hi
  clear hv hs hb gi hro hf hth hna hno hfi hT
  go_enter Try.func10, Try.ntmps10
  go_wp2_with (first
    | (go_at_call 21; refine hC.mono ?_; rintro e w2 ⟨rfl, hb⟩; have HB2 := hid (HB.out.trans (hb.mono HB.out.size)); have HX2 := hid (blkLater hb HX.out); have k0 := box1 HX2.out; clear hb)
    | (go_at_call 23; refine (HTh.out _ HB2.out).mono ?_; rintro e w3 ⟨rfl, hb⟩; have HB3 := hid (HB2.out.trans (hb.mono HB2.out.size)); have HX3 := hid (blkLater hb HX2.out); clear hb)
    | (go_at_call 24; refine (HIx.out _ HB3.out HX3.out).mono ?_; rintro e w4 ⟨rfl, hb⟩; have HB4 := hid (HB3.out.trans (hb.mono HB3.out.size)); have HX4 := hid (blkLater hb HX3.out); have k0 := box1 HX4.out; clear hb)
    | (go_at_call 22; refine (HGr.out _ HB4.out).mono ?_; rintro e w5 ⟨o5, c5, l5, rfl, hm5, hO5, hb⟩; obtain ⟨g5, hg5, hLd⟩ := HLd.out w4 w5 o5 c5 l5 HB4.out hm5 hO5 hb; have HLd5 := hid hLd; clear hm5 hO5 hb hLd hg5)
    | (go_at_call 26; refine HLd5.out.mono ?_; rintro e w6 ⟨rfl, l6, hm6, hO6, hb6⟩; have HM6 := hid hm6; have HO6 := hid hO6; have HB6 := hid hb6; clear hm6 hO6 hb6))
  refine bodyPost_ret (v := .tuple #[.slice o5 (ls.length + 1) c5, .int .i64 ((ls.length : Int) + 1), .int .i64 0]) (by simp [results, Try.results10, go_sem]) rfl ?_
  exact ⟨o5, c5, l6, rfl, HM6.out, HO6.out, HB6.out⟩
end Go.Proofs.Ytlibjjmaicgemaa
