/- valid: what a gap takes, by the map of rules. -/
/- A region that draws its order, gone through step by step under a condition on the world: operations whose value is known, operations whose guards say no, and what is left. No program in this text. -/
/- valid: what a gap takes of fragments. -/
/- valid: what a gap takes. -/
/- valid: what is missing; what fits by kind. -/
import Derived.Test.YtfaeabjgplahgaaCFVaQFVaD
import Derived.Deep.RegionWith
import Derived.Test.YtfaeabjgplahgaaFSkip
import Derived.Deep.RegionHeld
import Derived.Test.YtfaeabjgplahgaaCFR4AFConcat
namespace Go.Proofs.Ytfaeabjgplahgaa
open Go.RowKit Go.Lib Go.Shelf Go.Maps

theorem ownsMap_later {P : Program} {k : TypeId} {R : Value → Option (DataW Value × List MemPlace)} {B n : Nat} {D : DataW Value} {W V : World} (h : W.ownsMap P k R B n D) (hb : Below W.heap.size W V) : V.ownsMap P k R B n D := by
  have hlt := h.lt
  obtain ⟨es, clock, hh, F, hs, hD⟩ := h
  exact ⟨es, clock, (hb.block B hlt).trans hh, F, hs, hD⟩
theorem rule_run {v : World} {B : Nat} {gv : Value} (m : v.ownsMap Try.prog 32 valR B 3 (ruleMap gv)) (k : Nat) (hk : k < 256) (f : Value) (is : Bool) (h1 : (ruleMap gv).atKey (.int .u8 (k : Int)) (.held .nilFunc) = .held f) (h2 : Maps.has (ruleMap gv) (.int .u8 (k : Int)) = is) :
    (Instr.lookup 71 (.map (some B)) (.int .u8 (k : Int)) true).run Try.prog v = .ok (.tuple #[f, .bool is]) v := by
  obtain ⟨v', ps, hrun, hv⟩ := m.look_ok kindLaw rulesT (ruleZero v) (zd := .held .nilFunc) (zp := []) rfl (kindKey hk)
  rw [h1] at hv
  rw [h2] at hrun
  unfold valR at hv
  simp only [Option.some.injEq, Prod.mk.injEq, DataW.held.injEq] at hv
  rw [hv.1] at hrun
  exact hrun

set_option maxRecDepth 100000 in
set_option maxHeartbeats 8000000 in
theorem takes_none (b off cap : Nat) (o1 o2 : Option Addr) (n1 n2 c1 c2 : Nat) (x : Int) (k : Nat) (f : Value) (ns : List NodeD) (w W : World) (hF : FAt w b off cap ns) (hW : Below w.heap.size w W) (hx : thereB ns.length x = true) (hk : kindD ns x = k) (hk2 : k < 256)
    (h1 : (ruleMap (gapV b off cap ns.length (.slice o1 n1 c1) (.slice o2 n2 c2))).atKey (.int .u8 (k : Int)) (.held .nilFunc) = .held f) (h2 : Maps.has (ruleMap (gapV b off cap ns.length (.slice o1 n1 c1) (.slice o2 n2 c2))) (.int .u8 (k : Int)) = false) :
    Calls Try.prog 25 #[gapV b off cap ns.length (.slice o1 n1 c1) (.slice o2 n2 c2), .int .i64 x] W fun e w' => e = .returned (.bool true) ∧ Below W.heap.size W w' := by
  have HK : Hid (∀ V : World, Below w.heap.size w V → _) := fun V hV => vkindOf_any b off cap x ns w V hF hV hx
  rw [hk] at HK
  have HR : Hid (∀ V : World, _) := fun V => rules_any b off cap ns.length o1 o2 n1 n2 c1 c2 V
  have HL : Hid (∀ (V : World) (B : Nat), V.ownsMap Try.prog 32 valR B 3 (ruleMap (gapV b off cap ns.length (.slice o1 n1 c1) (.slice o2 n2 c2))) → _) := fun V B m => rule_run m k hk2 f false h1 h2
  generalize ruleMap (gapV b off cap ns.length (.slice o1 n1 c1) (.slice o2 n2 c2)) = RM at *
  have hB1 : Below w.heap.size w (W.alloc (.cells #[.slice (some ⟨b, off, none⟩) ns.length cap, .slice o1 n1 c1, .slice o2 n2 c2] 62)).drew := (hW.alloc hW.size _).drew
  have hB2 : Below W.heap.size W (W.alloc (.cells #[.slice (some ⟨b, off, none⟩) ns.length cap, .slice o1 n1 c1, .slice o2 n2 c2] 62)).drew := ((Below.refl _ W).alloc (Nat.le_refl _) _).drew
  have HB1 := hid hB1
  have HB2 := hid hB2
  have Hbox : Hid (∀ V : World, Below (W.alloc (.cells #[.slice (some ⟨b, off, none⟩) ns.length cap, .slice o1 n1 c1, .slice o2 n2 c2] 62)).drew.heap.size (W.alloc (.cells #[.slice (some ⟨b, off, none⟩) ns.length cap, .slice o1 n1 c1, .slice o2 n2 c2] 62)).drew V → V.cell? ⟨W.heap.size, 0, none⟩ = some (.slice (some ⟨b, off, none⟩) ns.length cap) ∧ V.cell? ⟨W.heap.size, 1, none⟩ = some (.slice o1 n1 c1) ∧ V.cell? ⟨W.heap.size, 2, none⟩ = some (.slice o2 n2 c2)) := fun V hV =>
    ⟨(hV.cell (p := ⟨W.heap.size, 0, none⟩) (by show W.heap.size < _; simp [heap_drew])).trans (by simp), (hV.cell (p := ⟨W.heap.size, 1, none⟩) (by show W.heap.size < _; simp [heap_drew])).trans (by simp), (hV.cell (p := ⟨W.heap.size, 2, none⟩) (by show W.heap.size < _; simp [heap_drew])).trans (by simp)⟩
  clear h1 h2 hF hW hx hk hB1 hB2
  unfold gapV at *
  go_enter Try.func25, Try.ntmps25
  go_upto_region 1 with fail
  first | go_region_with (first
    | (go_at_call 41; refine (HR.out _).mono ?_; rintro e vA ⟨BA, rfl, hBA, hm, hb⟩; obtain ⟨d0, d1, d2⟩ := Hbox.out vA hb; have HBA := hid (HB1.out.trans (hb.mono HB1.out.size)); have HBB := hid (HB2.out.trans (hb.mono HB2.out.size)); have HM := hid hm; clear hb hm HR)
    | (go_at_call 18; refine (HK.out _ HBA.out).mono ?_; rintro e vB ⟨rfl, hb⟩; have hrun := HL.out vB _ (ownsMap_later HM.out hb); have HBC := hid (HBB.out.trans (hb.mono HBB.out.size)); clear hb HK HL)
    | (go_at_call 18; refine (HK.out _ HB1.out).mono ?_; rintro e vA ⟨rfl, hb⟩; obtain ⟨d0, d1, d2⟩ := Hbox.out vA hb; have HBB := hid (HB2.out.trans (hb.mono HB2.out.size)); clear hb HK)
    | (go_at_call 41; refine (HR.out _).mono ?_; rintro e vB ⟨BA, rfl, hBA, hm, hb⟩; have hrun := HL.out vB _ hm; have HBC := hid (HBB.out.trans (hb.mono HBB.out.size)); clear hb hm HR HL)) | fail
  all_goals
    go_wp2
    go_ret
    exact ⟨rfl, HBC.out⟩
set_option maxRecDepth 100000 in
set_option maxHeartbeats 8000000 in
theorem takes_rule (b off cap : Nat) (o1 o2 : Option Addr) (n1 n2 c1 c2 : Nat) (x : Int) (k fn : Nat) (R : Bool) (ns : List NodeD) (w W : World) (hF : FAt w b off cap ns) (hW : Below w.heap.size w W) (hx : thereB ns.length x = true) (hk : kindD ns x = k) (hk2 : k < 256)
    (h1 : (ruleMap (gapV b off cap ns.length (.slice o1 n1 c1) (.slice o2 n2 c2))).atKey (.int .u8 (k : Int)) (.held .nilFunc) = .held (.func (.func fn) #[gapV b off cap ns.length (.slice o1 n1 c1) (.slice o2 n2 c2)] #[])) (h2 : Maps.has (ruleMap (gapV b off cap ns.length (.slice o1 n1 c1) (.slice o2 n2 c2))) (.int .u8 (k : Int)) = true)
    (eg : ∀ args w, (callFunc fn args).run Try.prog w = .ok (.enter fn args) w) (HC : Hid (∀ V : World, Below w.heap.size w V → Calls Try.prog fn #[gapV b off cap ns.length (.slice o1 n1 c1) (.slice o2 n2 c2), .int .i64 x] V fun e w' => e = .returned (.bool R) ∧ Below V.heap.size V w')) :
    Calls Try.prog 25 #[gapV b off cap ns.length (.slice o1 n1 c1) (.slice o2 n2 c2), .int .i64 x] W fun e w' => e = .returned (.bool R) ∧ Below W.heap.size W w' := by
  have HK : Hid (∀ V : World, Below w.heap.size w V → _) := fun V hV => vkindOf_any b off cap x ns w V hF hV hx
  rw [hk] at HK
  have HR : Hid (∀ V : World, _) := fun V => rules_any b off cap ns.length o1 o2 n1 n2 c1 c2 V
  have HL : Hid (∀ (V : World) (B : Nat), V.ownsMap Try.prog 32 valR B 3 (ruleMap (gapV b off cap ns.length (.slice o1 n1 c1) (.slice o2 n2 c2))) → _) := fun V B m => rule_run m k hk2 _ true h1 h2
  generalize ruleMap (gapV b off cap ns.length (.slice o1 n1 c1) (.slice o2 n2 c2)) = RM at *
  have hB1 : Below w.heap.size w (W.alloc (.cells #[.slice (some ⟨b, off, none⟩) ns.length cap, .slice o1 n1 c1, .slice o2 n2 c2] 62)).drew := (hW.alloc hW.size _).drew
  have hB2 : Below W.heap.size W (W.alloc (.cells #[.slice (some ⟨b, off, none⟩) ns.length cap, .slice o1 n1 c1, .slice o2 n2 c2] 62)).drew := ((Below.refl _ W).alloc (Nat.le_refl _) _).drew
  have HB1 := hid hB1
  have HB2 := hid hB2
  have Hbox : Hid (∀ V : World, Below (W.alloc (.cells #[.slice (some ⟨b, off, none⟩) ns.length cap, .slice o1 n1 c1, .slice o2 n2 c2] 62)).drew.heap.size (W.alloc (.cells #[.slice (some ⟨b, off, none⟩) ns.length cap, .slice o1 n1 c1, .slice o2 n2 c2] 62)).drew V → V.cell? ⟨W.heap.size, 0, none⟩ = some (.slice (some ⟨b, off, none⟩) ns.length cap) ∧ V.cell? ⟨W.heap.size, 1, none⟩ = some (.slice o1 n1 c1) ∧ V.cell? ⟨W.heap.size, 2, none⟩ = some (.slice o2 n2 c2)) := fun V hV =>
    ⟨(hV.cell (p := ⟨W.heap.size, 0, none⟩) (by show W.heap.size < _; simp [heap_drew])).trans (by simp), (hV.cell (p := ⟨W.heap.size, 1, none⟩) (by show W.heap.size < _; simp [heap_drew])).trans (by simp), (hV.cell (p := ⟨W.heap.size, 2, none⟩) (by show W.heap.size < _; simp [heap_drew])).trans (by simp)⟩
  clear h1 h2 hF hW hx hk hB1 hB2
  unfold gapV at *
  go_enter Try.func25, Try.ntmps25
  go_upto_region 1 with fail
  first | go_region_with (first
    | (go_at_call 41; refine (HR.out _).mono ?_; rintro e vA ⟨BA, rfl, hBA, hm, hb⟩; obtain ⟨d0, d1, d2⟩ := Hbox.out vA hb; have HBA := hid (HB1.out.trans (hb.mono HB1.out.size)); have HBB := hid (HB2.out.trans (hb.mono HB2.out.size)); have HM := hid hm; clear hb hm HR)
    | (go_at_call 18; refine (HK.out _ HBA.out).mono ?_; rintro e vB ⟨rfl, hb⟩; have HBZ := hid (HBA.out.trans (hb.mono HBA.out.size)); have hrun := HL.out vB _ (ownsMap_later HM.out hb); have HBC := hid (HBB.out.trans (hb.mono HBB.out.size)); clear hb HK HL)
    | (go_at_call 18; refine (HK.out _ HB1.out).mono ?_; rintro e vA ⟨rfl, hb⟩; obtain ⟨d0, d1, d2⟩ := Hbox.out vA hb; have HBA := hid (HB1.out.trans (hb.mono HB1.out.size)); have HBB := hid (HB2.out.trans (hb.mono HB2.out.size)); clear hb HK)
    | (go_at_call 41; refine (HR.out _).mono ?_; rintro e vB ⟨BA, rfl, hBA, hm, hb⟩; have HBZ := hid (HBA.out.trans (hb.mono HBA.out.size)); have hrun := HL.out vB _ hm; have HBC := hid (HBB.out.trans (hb.mono HBB.out.size)); clear hb hm HR HL)) | fail
  all_goals
    go_wp2_with (go_at_fn fn; refine (HC.out _ HBZ.out).mono ?_; rintro e vC ⟨rfl, hb⟩; have HBD := hid (HBC.out.trans (hb.mono HBC.out.size)); clear hb)
    go_ret
    exact ⟨rfl, HBD.out⟩
end Go.Proofs.Ytfaeabjgplahgaa

namespace Go.Proofs.Ytfaeabjgplahgaa
open Go.RowKit

section
variable {P : Program} {md : Region.Mode} {ops : Array Oper} {Q : Exit → Act → World → Prop} {S : World → Prop}

theorem wpAnyH_skips (us : List (Nat × Nat)) (fuel : Nat) {listed : Array Bool} {a : Act} {w : World} (hS : S w) (hs : Region.noSelect ops = true) (hQ : ∀ c (a : Act) (t : Tmp) (v : Value) w, Q (.panic c) (a.put (some t) v) w → Q (.panic c) a w) (h1 : skipsOk md ops us listed = true) (h2 : unwanted ops us a = true)
    (h : wpAnyH P md ops Q S fuel (listedAfter us listed) (actAfter us a) w) : wpAnyH P md ops Q S (fuel + us.length) listed a w := by
  induction us generalizing listed a with
  | nil => exact h
  | cons i us ih =>
    simp only [skipsOk, Bool.and_eq_true, beq_iff_eq, Option.map_eq_some_iff] at h1
    obtain ⟨⟨oi, hoi, hd⟩, g2, g3, g4⟩ := h1
    simp only [unwanted, Bool.and_eq_true, hoi, Option.map_some, Option.getD_some, Bool.not_eq_true'] at h2
    simp only [actAfter, listedAfter] at h
    refine wpAnyH_take (i := i.1) (v := undef) hoi hs g2 g3 (fun c a w h => hQ c a i.2 _ w (hd ▸ h)) (Or.inr ⟨h2.1, rfl⟩) hS ?_
    rw [hd]
    exact ih g4 h2.2 h
/-- An operation that yields a value in every world that meets the condition, taken first. -/
theorem wpAnyH_one (i t : Nat) (v : Value) {oi : Oper} {fuel : Nat} {listed : Array Bool} {a : Act} {w : World} (hS : S w) (hi : ops[i]? = some oi) (hd : oi.dst = some t) (hs : Region.noSelect ops = true) (hQ : ∀ c (a : Act) (t : Tmp) (v : Value) w, Q (.panic c) (a.put (some t) v) w → Q (.panic c) a w)
    (hf : Region.free md ops listed i = true) (hr : (Region.ready md ops listed).contains i = true) (hw : Region.wanted oi (yielded ops a.tmps) = true) (hx : ∀ w, S w → (execOp a.eval oi).run P w = .ok (.value v) w)
    (h : wpAnyH P md ops Q S fuel (listed.setIfInBounds i true) (a.put (some t) v) w) : wpAnyH P md ops Q S (fuel + 1) listed a w :=
  wpAnyH_take (i := i) (v := v) hi hs hf hr (fun c a w h => hQ c a t _ w (hd ▸ h)) (Or.inl ⟨hw, hx⟩) hS (hd ▸ h)
end
end Go.Proofs.Ytfaeabjgplahgaa

namespace Go.Proofs.Ytfaeabjgplahgaa
open Go.RowKit Go.Lib Go.Shelf Go.Maps

set_option maxRecDepth 100000 in
set_option maxHeartbeats 16000000 in
theorem frag_none (b off cap : Nat) (o1 o2 ok : Option Addr) (c1 c2 ck j : Nat) (ah be ks : List Int) (ns : List NodeD) (w W : World) (hF : FAt w b off cap ns) (hW : Below w.heap.size w W) (hj : j < ns.length) (hkc : w.cell? ⟨b, off + j * 16 + 9, none⟩ = some (.slice ok ks.length ck)) (HI : Hid (∀ V : World, Below w.heap.size w V → Calls Try.prog 62 #[.slice ok ks.length ck, .func (.func 63) #[gapV b off cap ns.length (.slice o1 ah.length c1) (.slice o2 be.length c2)] #[]] V fun e w' => e = .returned (.int .i64 (-1)) ∧ Below V.heap.size V w')) (T : Bool) (HT : Hid (∀ V : World, Below w.heap.size w V → Calls Try.prog 64 #[.func (.func 65) #[gapV b off cap ns.length (.slice o1 ah.length c1) (.slice o2 be.length c2)] #[], .slice (some ⟨V.heap.size, 0, none⟩) 1 1] (V.alloc (.cells #[.slice ok ks.length ck] 29)) fun e w' => e = .returned (.bool T) ∧ Below (V.heap.size + 1) (V.alloc (.cells #[.slice ok ks.length ck] 29)) w')) :
    Calls Try.prog 48 #[gapV b off cap ns.length (.slice o1 ah.length c1) (.slice o2 be.length c2), .int .i64 ((j : Int) + 1)] W fun e w' => e = .returned (.bool T) ∧ Below W.heap.size W w' := by
  have hB1 : Below w.heap.size w (W.alloc (.cells #[.slice (some ⟨b, off, none⟩) ns.length cap, .slice o1 ah.length c1, .slice o2 be.length c2] 62)) := hW.alloc hW.size _
  have hB2 : Below W.heap.size W (W.alloc (.cells #[.slice (some ⟨b, off, none⟩) ns.length cap, .slice o1 ah.length c1, .slice o2 be.length c2] 62)) := (Below.refl _ W).alloc (Nat.le_refl _) _
  have kc : (W.alloc (.cells #[.slice (some ⟨b, off, none⟩) ns.length cap, .slice o1 ah.length c1, .slice o2 be.length c2] 62)).cell? ⟨b, off + j * 16 + 9, none⟩ = some (.slice ok ks.length ck) := (hB1.cell (p := ⟨b, off + j * 16 + 9, none⟩) hF.lt).trans hkc
  have hI := HI.out _ hB1
  have hlen := hF.len
  have p1 : (0 : Int) ≤ (j : Int) := by omega
  have p2 : (j : Int) < (ns.length : Int) := by omega
  have HB1 := hid hB1
  have HB2 := hid hB2
  have Hbox : Hid (∀ V : World, Below (W.alloc (.cells #[.slice (some ⟨b, off, none⟩) ns.length cap, .slice o1 ah.length c1, .slice o2 be.length c2] 62)).heap.size (W.alloc (.cells #[.slice (some ⟨b, off, none⟩) ns.length cap, .slice o1 ah.length c1, .slice o2 be.length c2] 62)) V → V.cell? ⟨W.heap.size, 0, none⟩ = some (.slice (some ⟨b, off, none⟩) ns.length cap) ∧ V.cell? ⟨W.heap.size, 1, none⟩ = some (.slice o1 ah.length c1) ∧ V.cell? ⟨W.heap.size, 2, none⟩ = some (.slice o2 be.length c2)) := fun V hV =>
    ⟨(hV.cell (p := ⟨W.heap.size, 0, none⟩) (by show W.heap.size < _; simp)).trans (by simp), (hV.cell (p := ⟨W.heap.size, 1, none⟩) (by show W.heap.size < _; simp)).trans (by simp), (hV.cell (p := ⟨W.heap.size, 2, none⟩) (by show W.heap.size < _; simp)).trans (by simp)⟩
  clear hF hW hB1 hB2 hkc HI
  unfold gapV at *
  go_enter Try.func48, Try.ntmps48
  go_wp2_with fail
  refine hI.mono ?_
  rintro e v1 ⟨rfl, hb⟩
  obtain ⟨d0, d1, d2⟩ := Hbox.out v1 hb
  have HC1 := hid (HB1.out.trans (hb.mono HB1.out.size))
  have HD1 := hid (HB2.out.trans (hb.mono HB2.out.size))
  have Hb1 := hid hb
  clear hI kc hb HB1 HB2
  have hT := HT.out v1 HC1.out
  clear HT Hb1 Hbox
  go_wp2_with fail
  refine hT.mono ?_
  rintro e v2 ⟨rfl, hb⟩
  have HB3 := hid ((HD1.out.alloc HD1.out.size _).trans (hb.mono (Nat.le_succ_of_le HD1.out.size)))
  clear hb hT
  go_wp2
  go_ret
  exact ⟨rfl, HB3.out⟩
set_option maxRecDepth 100000 in
set_option maxHeartbeats 16000000 in
theorem frag_text (b off cap : Nat) (o1 o2 ok : Option Addr) (c1 c2 ck j i : Nat) (ah be ks : List Int) (ns : List NodeD) (w W : World) (hF : FAt w b off cap ns) (hW : Below w.heap.size w W) (hj : j < ns.length) (hkc : w.cell? ⟨b, off + j * 16 + 9, none⟩ = some (.slice ok ks.length ck)) (HI : Hid (∀ V : World, Below w.heap.size w V → Calls Try.prog 62 #[.slice ok ks.length ck, .func (.func 63) #[gapV b off cap ns.length (.slice o1 ah.length c1) (.slice o2 be.length c2)] #[]] V fun e w' => e = .returned (.int .i64 (i : Int)) ∧ Below V.heap.size V w')) (HT : Hid (∀ V : World, Below w.heap.size w V → Calls Try.prog 64 #[.func (.func 65) #[gapV b off cap ns.length (.slice o1 ah.length c1) (.slice o2 be.length c2)] #[], .slice (some ⟨V.heap.size, 0, none⟩) 1 1] (V.alloc (.cells #[.slice ok ks.length ck] 29)) fun e w' => e = .returned (.bool false) ∧ Below (V.heap.size + 1) (V.alloc (.cells #[.slice ok ks.length ck] 29)) w')) :
    Calls Try.prog 48 #[gapV b off cap ns.length (.slice o1 ah.length c1) (.slice o2 be.length c2), .int .i64 ((j : Int) + 1)] W fun e w' => e = .returned (.bool false) ∧ Below W.heap.size W w' := by
  have hB1 : Below w.heap.size w (W.alloc (.cells #[.slice (some ⟨b, off, none⟩) ns.length cap, .slice o1 ah.length c1, .slice o2 be.length c2] 62)) := hW.alloc hW.size _
  have hB2 : Below W.heap.size W (W.alloc (.cells #[.slice (some ⟨b, off, none⟩) ns.length cap, .slice o1 ah.length c1, .slice o2 be.length c2] 62)) := (Below.refl _ W).alloc (Nat.le_refl _) _
  have kc : (W.alloc (.cells #[.slice (some ⟨b, off, none⟩) ns.length cap, .slice o1 ah.length c1, .slice o2 be.length c2] 62)).cell? ⟨b, off + j * 16 + 9, none⟩ = some (.slice ok ks.length ck) := (hB1.cell (p := ⟨b, off + j * 16 + 9, none⟩) hF.lt).trans hkc
  have hI := HI.out _ hB1
  have hlen := hF.len
  have p1 : (0 : Int) ≤ (j : Int) := by omega
  have p2 : (j : Int) < (ns.length : Int) := by omega
  have HB1 := hid hB1
  have HB2 := hid hB2
  have Hbox : Hid (∀ V : World, Below (W.alloc (.cells #[.slice (some ⟨b, off, none⟩) ns.length cap, .slice o1 ah.length c1, .slice o2 be.length c2] 62)).heap.size (W.alloc (.cells #[.slice (some ⟨b, off, none⟩) ns.length cap, .slice o1 ah.length c1, .slice o2 be.length c2] 62)) V → V.cell? ⟨W.heap.size, 0, none⟩ = some (.slice (some ⟨b, off, none⟩) ns.length cap) ∧ V.cell? ⟨W.heap.size, 1, none⟩ = some (.slice o1 ah.length c1) ∧ V.cell? ⟨W.heap.size, 2, none⟩ = some (.slice o2 be.length c2)) := fun V hV =>
    ⟨(hV.cell (p := ⟨W.heap.size, 0, none⟩) (by show W.heap.size < _; simp)).trans (by simp), (hV.cell (p := ⟨W.heap.size, 1, none⟩) (by show W.heap.size < _; simp)).trans (by simp), (hV.cell (p := ⟨W.heap.size, 2, none⟩) (by show W.heap.size < _; simp)).trans (by simp)⟩
  clear hF hW hB1 hB2 hkc HI
  unfold gapV at *
  go_enter Try.func48, Try.ntmps48
  go_wp2_with fail
  refine hI.mono ?_
  rintro e v1 ⟨rfl, hb⟩
  obtain ⟨d0, d1, d2⟩ := Hbox.out v1 hb
  have HC1 := hid (HB1.out.trans (hb.mono HB1.out.size))
  have HD1 := hid (HB2.out.trans (hb.mono HB2.out.size))
  have Hb1 := hid hb
  clear hI kc hb HB1 HB2
  have hC2 : Below w.heap.size w v1.drew := HC1.out.drew
  have hD2 : Below W.heap.size W v1.drew := HD1.out.drew
  have hT := HT.out v1.drew hC2
  simp only [heap_drew] at hT
  have HX := hid ((hD2.alloc hD2.size (.cells #[.slice ok ks.length ck] 29)))
  have HS := hid (Nat.le_succ_of_le hD2.size)
  have HY := hid ((hC2.alloc hC2.size (.cells #[.slice ok ks.length ck] 29)))
  have HR := hid (Nat.le_succ_of_le hC2.size)
  have Hb2 := hid (Hb1.out.drew)
  have q0 : ¬ (i : Int) < 0 := by omega
  have HK := hid (Hbox.out _ Hb2.out)
  have HK2 := hid (Hbox.out _ (Hb2.out.alloc Hb2.out.size (.cells #[.slice ok ks.length ck] 29)))
  have HBx : Hid (∀ V, Below (v1.heap.size + 1) (v1.drew.alloc (.cells #[.slice ok ks.length ck] 29)) V → _) := fun V hV => Hbox.out V ((Hb2.out.alloc Hb2.out.size _).trans (hV.mono (Nat.le_succ_of_le Hb2.out.size)))
  clear HT Hb1 Hbox hC2 HC1 HD1 hD2 HY HR Hb2 d0 d1 d2
  go_upto_region 5 with fail
  refine wp_region_held_drew (S := (fun V => V.cell? ⟨W.heap.size, 0, none⟩ = some (.slice (some ⟨b, off, none⟩) ns.length cap) ∧ V.cell? ⟨W.heap.size, 1, none⟩ = some (.slice o1 ah.length c1) ∧ V.cell? ⟨W.heap.size, 2, none⟩ = some (.slice o2 be.length c2))) (by kernel_rfl) (HK.out) (fun hHeld => ?_)
  refine wpAnyH_one 0 26 (.agg #[.slice (some ⟨b, off, none⟩) ns.length cap, .slice o1 ah.length c1, .slice o2 be.length c2]) hHeld rfl rfl (by kernel_rfl) (fun _ _ _ _ _ h => h) (by kernel_rfl) (by kernel_rfl) (by rfl) ?_ ?_
  · intro V hSw; (try dsimp only at hSw); go_simp
  simp only [Act.put, List.setIfInBounds_toArray, List.set_cons_zero, List.set_cons_succ]
  refine wpAnyH_one 1 27 (.func (.func 65) #[.agg #[.slice (some ⟨b, off, none⟩) ns.length cap, .slice o1 ah.length c1, .slice o2 be.length c2]] #[]) hHeld rfl rfl (by kernel_rfl) (fun _ _ _ _ _ h => h) (by kernel_rfl) (by kernel_rfl) (by rfl) ?_ ?_
  · intro V hSw; (try dsimp only at hSw); go_simp
  simp only [Act.put, List.setIfInBounds_toArray, List.set_cons_zero, List.set_cons_succ]
  refine wpAnyH_one 2 28 (.slice ok ks.length ck) hHeld rfl rfl (by kernel_rfl) (fun _ _ _ _ _ h => h) (by kernel_rfl) (by kernel_rfl) (by rfl) ?_ ?_
  · intro V hSw; (try dsimp only at hSw); go_simp
  simp only [Act.put, List.setIfInBounds_toArray, List.set_cons_zero, List.set_cons_succ]
  refine wpAnyH_ready (rs := [3]) (by kernel_rfl) (by simp) ?_
  refine AllReadyH.cons rfl (fun K hK => ?_) AllReadyH.nil
  go_simp
  refine hK.out _ _ (HK2.out) (fun hHeld => ?_)
  clear hK K
  refine wpAnyH_ready (rs := [4]) (by kernel_rfl) (by simp) ?_
  refine AllReadyH.cons rfl (fun K hK => ?_) AllReadyH.nil
  go_simp
  go_wp2_with (go_at_call 64; refine hT.mono ?_; rintro e v2 ⟨rfl, hb⟩; have HB3 := hid (HX.out.trans (hb.mono HS.out)); have HKc := hid (HBx.out v2 hb); clear hb hT)
  refine hK.out _ _ (HKc.out) (fun hHeld => ?_)
  clear hK K
  refine wpAnyH_one 5 31 (.bool false) hHeld rfl rfl (by kernel_rfl) (fun _ _ _ _ _ h => h) (by kernel_rfl) (by kernel_rfl) (by rfl) ?_ ?_
  · intro V hSw; (try dsimp only at hSw); go_simp
  simp only [Act.put, List.setIfInBounds_toArray, List.set_cons_zero, List.set_cons_succ]
  refine wpAnyH_skips [(6, 32), (7, 33), (8, 34), (9, 35), (10, 36), (11, 37), (12, 38), (13, 39)] 10 hHeld (by kernel_rfl) (fun _ _ _ _ _ h => h) (by kernel_rfl) (by kernel_rfl) ?_
  simp only [actAfter, listedAfter, Act.put, List.setIfInBounds_toArray, List.set_cons_zero, List.set_cons_succ]
  refine wpAnyH_one 14 40 (.bool false) hHeld rfl rfl (by kernel_rfl) (fun _ _ _ _ _ h => h) (by kernel_rfl) (by kernel_rfl) (by rfl) ?_ ?_
  · intro V hSw; (try dsimp only at hSw); go_simp
  simp only [Act.put, List.setIfInBounds_toArray, List.set_cons_zero, List.set_cons_succ]
  refine wpAnyH_one 15 41 (.bool false) hHeld rfl rfl (by kernel_rfl) (fun _ _ _ _ _ h => h) (by kernel_rfl) (by kernel_rfl) (by rfl) ?_ ?_
  · intro V hSw; (try dsimp only at hSw); go_simp
  simp only [Act.put, List.setIfInBounds_toArray, List.set_cons_zero, List.set_cons_succ]
  refine wpAnyH_skips [(16, 42), (17, 43), (18, 44), (19, 45), (20, 46), (21, 47)] 2 hHeld (by kernel_rfl) (fun _ _ _ _ _ h => h) (by kernel_rfl) (by kernel_rfl) ?_
  simp only [actAfter, listedAfter, Act.put, List.setIfInBounds_toArray, List.set_cons_zero, List.set_cons_succ]
  refine wpAnyH_one 22 48 (.bool false) hHeld rfl rfl (by kernel_rfl) (fun _ _ _ _ _ h => h) (by kernel_rfl) (by kernel_rfl) (by rfl) ?_ ?_
  · intro V hSw; (try dsimp only at hSw); go_simp
  simp only [Act.put, List.setIfInBounds_toArray, List.set_cons_zero, List.set_cons_succ]
  refine wpAnyH_one 23 4 (.bool false) hHeld rfl rfl (by kernel_rfl) (fun _ _ _ _ _ h => h) (by kernel_rfl) (by kernel_rfl) (by rfl) ?_ ?_
  · intro V hSw; (try dsimp only at hSw); go_simp
  simp only [Act.put, List.setIfInBounds_toArray, List.set_cons_zero, List.set_cons_succ]
  refine wpAnyH_done (by kernel_rfl) ?_ _
  go_wp2_with fail
  go_ret
  exact ⟨rfl, HB3.out⟩
set_option maxRecDepth 100000 in
set_option maxHeartbeats 16000000 in
theorem frag_elem_a (b off cap : Nat) (o1 o2 : Option Addr) (c1 c2 j i bk offk : Nat) (ah be ks : List Int) (ns : List NodeD) (w W : World) (hF : FAt w b off cap ns) (hW : Below w.heap.size w W) (hj : j < ns.length) (hkc : w.cell? ⟨b, off + j * 16 + 9, none⟩ = some (.slice (some ⟨bk, offk, none⟩) ks.length (i + 1))) (HI : Hid (∀ V : World, Below w.heap.size w V → Calls Try.prog 62 #[.slice (some ⟨bk, offk, none⟩) ks.length (i + 1), .func (.func 63) #[gapV b off cap ns.length (.slice o1 ah.length c1) (.slice o2 be.length c2)] #[]] V fun e w' => e = .returned (.int .i64 (i : Int)) ∧ Below V.heap.size V w')) (HT : Hid (∀ V : World, Below w.heap.size w V → Calls Try.prog 64 #[.func (.func 65) #[gapV b off cap ns.length (.slice o1 ah.length c1) (.slice o2 be.length c2)] #[], .slice (some ⟨V.heap.size, 0, none⟩) 1 1] (V.alloc (.cells #[.slice (some ⟨bk, offk, none⟩) ks.length (i + 1)] 29)) fun e w' => e = .returned (.bool true) ∧ Below (V.heap.size + 1) (V.alloc (.cells #[.slice (some ⟨bk, offk, none⟩) ks.length (i + 1)] 29)) w')) (hil : i < ks.length) (hcl : ks.length ≤ i + 1) (hkl : ks.length ≤ 1099511627776) (HD : Hid (∀ V : World, Below w.heap.size w V → Calls Try.prog 64 #[.func (.func 63) #[gapV b off cap ns.length (.slice o1 ah.length c1) (.slice o2 be.length c2)] #[], .slice (some ⟨V.heap.size, 0, none⟩) 1 1] (V.alloc (.cells #[.slice (some ⟨bk, offk, none⟩) 0 0] 29)) fun e w' => e = .returned (.bool false) ∧ Below (V.heap.size + 1) (V.alloc (.cells #[.slice (some ⟨bk, offk, none⟩) 0 0] 29)) w')) :
    Calls Try.prog 48 #[gapV b off cap ns.length (.slice o1 ah.length c1) (.slice o2 be.length c2), .int .i64 ((j : Int) + 1)] W fun e w' => e = .returned (.bool false) ∧ Below W.heap.size W w' := by
  have hB1 : Below w.heap.size w (W.alloc (.cells #[.slice (some ⟨b, off, none⟩) ns.length cap, .slice o1 ah.length c1, .slice o2 be.length c2] 62)) := hW.alloc hW.size _
  have hB2 : Below W.heap.size W (W.alloc (.cells #[.slice (some ⟨b, off, none⟩) ns.length cap, .slice o1 ah.length c1, .slice o2 be.length c2] 62)) := (Below.refl _ W).alloc (Nat.le_refl _) _
  have kc : (W.alloc (.cells #[.slice (some ⟨b, off, none⟩) ns.length cap, .slice o1 ah.length c1, .slice o2 be.length c2] 62)).cell? ⟨b, off + j * 16 + 9, none⟩ = some (.slice (some ⟨bk, offk, none⟩) ks.length (i + 1)) := (hB1.cell (p := ⟨b, off + j * 16 + 9, none⟩) hF.lt).trans hkc
  have hI := HI.out _ hB1
  have hlen := hF.len
  have p1 : (0 : Int) ≤ (j : Int) := by omega
  have p2 : (j : Int) < (ns.length : Int) := by omega
  have HB1 := hid hB1
  have HB2 := hid hB2
  have Hbox : Hid (∀ V : World, Below (W.alloc (.cells #[.slice (some ⟨b, off, none⟩) ns.length cap, .slice o1 ah.length c1, .slice o2 be.length c2] 62)).heap.size (W.alloc (.cells #[.slice (some ⟨b, off, none⟩) ns.length cap, .slice o1 ah.length c1, .slice o2 be.length c2] 62)) V → V.cell? ⟨W.heap.size, 0, none⟩ = some (.slice (some ⟨b, off, none⟩) ns.length cap) ∧ V.cell? ⟨W.heap.size, 1, none⟩ = some (.slice o1 ah.length c1) ∧ V.cell? ⟨W.heap.size, 2, none⟩ = some (.slice o2 be.length c2)) := fun V hV =>
    ⟨(hV.cell (p := ⟨W.heap.size, 0, none⟩) (by show W.heap.size < _; simp)).trans (by simp), (hV.cell (p := ⟨W.heap.size, 1, none⟩) (by show W.heap.size < _; simp)).trans (by simp), (hV.cell (p := ⟨W.heap.size, 2, none⟩) (by show W.heap.size < _; simp)).trans (by simp)⟩
  clear hF hW hB1 hB2 hkc HI
  unfold gapV at *
  go_enter Try.func48, Try.ntmps48
  go_wp2_with fail
  refine hI.mono ?_
  rintro e v1 ⟨rfl, hb⟩
  obtain ⟨d0, d1, d2⟩ := Hbox.out v1 hb
  have HC1 := hid (HB1.out.trans (hb.mono HB1.out.size))
  have HD1 := hid (HB2.out.trans (hb.mono HB2.out.size))
  have Hb1 := hid hb
  clear hI kc hb HB1 HB2
  have hC2 : Below w.heap.size w v1.drew := HC1.out.drew
  have hD2 : Below W.heap.size W v1.drew := HD1.out.drew
  have hT := HT.out v1.drew hC2
  simp only [heap_drew] at hT
  have HX := hid ((hD2.alloc hD2.size (.cells #[.slice (some ⟨bk, offk, none⟩) ks.length (i + 1)] 29)))
  have HS := hid (Nat.le_succ_of_le hD2.size)
  have HY := hid ((hC2.alloc hC2.size (.cells #[.slice (some ⟨bk, offk, none⟩) ks.length (i + 1)] 29)))
  have HR := hid (Nat.le_succ_of_le hC2.size)
  have Hb2 := hid (Hb1.out.drew)
  have q0 : ¬ (i : Int) < 0 := by omega
  have HK := hid (Hbox.out _ Hb2.out)
  have HK2 := hid (Hbox.out _ (Hb2.out.alloc Hb2.out.size (.cells #[.slice (some ⟨bk, offk, none⟩) ks.length (i + 1)] 29)))
  have HBy : Hid (∀ V, Below (v1.heap.size + 1) (v1.drew.alloc (.cells #[.slice (some ⟨bk, offk, none⟩) ks.length (i + 1)] 29)) V → _) := fun V hV => Hbox.out V ((Hb2.out.alloc Hb2.out.size _).trans (hV.mono (Nat.le_succ_of_le Hb2.out.size)))
  have q1 : (0 : Int) ≤ (i : Int) := by omega
  have q2 : (i : Int) < (ks.length : Int) := by omega
  have q4 : (ks.length : Int) ≤ ((i + 1 : Nat) : Int) := by omega
  have q6 : ((i : Int)).toNat = i := by omega
  have q7 : (0 : Int) ≤ (i : Int) + 1 := by omega
  have q8 : (i : Int) + 1 ≤ (ks.length : Int) := by omega
  have q9 : (i : Int) + 1 ≤ ((i + 1 : Nat) : Int) := by omega
  have q10 : ((i : Int) + 1).toNat = i + 1 := by omega
  have q11 : IntKind.i64.wrap ((i : Int) + 1) = (i : Int) + 1 := vwrap (by omega) (by omega)
  clear HBy HT Hb1 hC2 HC1 HD1 hD2 d0 d1 d2
  have hln : ks.length - (i + 1) = 0 := by omega
  go_upto_region 5 with fail
  refine wp_region_held_drew (S := (fun V => V.cell? ⟨W.heap.size, 0, none⟩ = some (.slice (some ⟨b, off, none⟩) ns.length cap) ∧ V.cell? ⟨W.heap.size, 1, none⟩ = some (.slice o1 ah.length c1) ∧ V.cell? ⟨W.heap.size, 2, none⟩ = some (.slice o2 be.length c2))) (by kernel_rfl) (HK.out) (fun hHeld => ?_)
  refine wpAnyH_one 0 26 (.agg #[.slice (some ⟨b, off, none⟩) ns.length cap, .slice o1 ah.length c1, .slice o2 be.length c2]) hHeld rfl rfl (by kernel_rfl) (fun _ _ _ _ _ h => h) (by kernel_rfl) (by kernel_rfl) (by rfl) ?_ ?_
  · intro V hSw; (try dsimp only at hSw); go_simp
  simp only [Act.put, List.setIfInBounds_toArray, List.set_cons_zero, List.set_cons_succ]
  refine wpAnyH_one 1 27 (.func (.func 65) #[.agg #[.slice (some ⟨b, off, none⟩) ns.length cap, .slice o1 ah.length c1, .slice o2 be.length c2]] #[]) hHeld rfl rfl (by kernel_rfl) (fun _ _ _ _ _ h => h) (by kernel_rfl) (by kernel_rfl) (by rfl) ?_ ?_
  · intro V hSw; (try dsimp only at hSw); go_simp
  simp only [Act.put, List.setIfInBounds_toArray, List.set_cons_zero, List.set_cons_succ]
  refine wpAnyH_one 2 28 (.slice (some ⟨bk, offk, none⟩) ks.length (i + 1)) hHeld rfl rfl (by kernel_rfl) (fun _ _ _ _ _ h => h) (by kernel_rfl) (by kernel_rfl) (by rfl) ?_ ?_
  · intro V hSw; (try dsimp only at hSw); go_simp
  simp only [Act.put, List.setIfInBounds_toArray, List.set_cons_zero, List.set_cons_succ]
  refine wpAnyH_ready (rs := [3]) (by kernel_rfl) (by simp) ?_
  refine AllReadyH.cons rfl (fun K hK => ?_) AllReadyH.nil
  go_simp
  refine hK.out _ _ (HK2.out) (fun hHeld => ?_)
  clear hK K
  refine wpAnyH_ready (rs := [4]) (by kernel_rfl) (by simp) ?_
  refine AllReadyH.cons rfl (fun K hK => ?_) AllReadyH.nil
  go_simp
  go_wp2_with (go_at_call 64; refine hT.mono ?_; rintro e v2 ⟨rfl, hb⟩; have HB3 := hid (HX.out.trans (hb.mono HS.out)); have HY3 := hid (HY.out.trans (hb.mono HR.out)); have Hb3 := hid ((Hb2.out.alloc Hb2.out.size _).trans (hb.mono (Nat.le_succ_of_le Hb2.out.size))); have HKc := hid (Hbox.out v2 Hb3.out); have HKd := hid (Hbox.out _ (Hb3.out.alloc Hb3.out.size (.cells #[.slice (some ⟨bk, offk, none⟩) 0 0] 29))); have hD := HD.out v2 HY3.out; clear hb hT)
  refine hK.out _ _ (HKc.out) (fun hHeld => ?_)
  clear hK K
  refine wpAnyH_one 5 31 (.bool true) hHeld rfl rfl (by kernel_rfl) (fun _ _ _ _ _ h => h) (by kernel_rfl) (by kernel_rfl) (by rfl) ?_ ?_
  · intro V hSw; (try dsimp only at hSw); go_simp
  simp only [Act.put, List.setIfInBounds_toArray, List.set_cons_zero, List.set_cons_succ]
  refine wpAnyH_one 6 32 (.agg #[.slice (some ⟨b, off, none⟩) ns.length cap, .slice o1 ah.length c1, .slice o2 be.length c2]) hHeld rfl rfl (by kernel_rfl) (fun _ _ _ _ _ h => h) (by kernel_rfl) (by kernel_rfl) (by rfl) ?_ ?_
  · intro V hSw; (try dsimp only at hSw); go_simp
  simp only [Act.put, List.setIfInBounds_toArray, List.set_cons_zero, List.set_cons_succ]
  refine wpAnyH_one 7 33 (.func (.func 63) #[.agg #[.slice (some ⟨b, off, none⟩) ns.length cap, .slice o1 ah.length c1, .slice o2 be.length c2]] #[]) hHeld rfl rfl (by kernel_rfl) (fun _ _ _ _ _ h => h) (by kernel_rfl) (by kernel_rfl) (by rfl) ?_ ?_
  · intro V hSw; (try dsimp only at hSw); go_simp
  simp only [Act.put, List.setIfInBounds_toArray, List.set_cons_zero, List.set_cons_succ]
  refine wpAnyH_one 8 34 (.slice (some ⟨bk, offk, none⟩) ks.length (i + 1)) hHeld rfl rfl (by kernel_rfl) (fun _ _ _ _ _ h => h) (by kernel_rfl) (by kernel_rfl) (by rfl) ?_ ?_
  · intro V hSw; (try dsimp only at hSw); go_simp
  simp only [Act.put, List.setIfInBounds_toArray, List.set_cons_zero, List.set_cons_succ]
  refine wpAnyH_one 9 35 (.int .i64 (i : Int)) hHeld rfl rfl (by kernel_rfl) (fun _ _ _ _ _ h => h) (by kernel_rfl) (by kernel_rfl) (by rfl) ?_ ?_
  · intro V hSw; (try dsimp only at hSw); go_simp
  simp only [Act.put, List.setIfInBounds_toArray, List.set_cons_zero, List.set_cons_succ]
  refine wpAnyH_one 10 36 (.int .i64 ((i : Int) + 1)) hHeld rfl rfl (by kernel_rfl) (fun _ _ _ _ _ h => h) (by kernel_rfl) (by kernel_rfl) (by rfl) ?_ ?_
  · intro V hSw; (try dsimp only at hSw); go_simp
  simp only [Act.put, List.setIfInBounds_toArray, List.set_cons_zero, List.set_cons_succ]
  refine wpAnyH_one 11 37 (.slice (some ⟨bk, offk, none⟩) 0 0) hHeld rfl rfl (by kernel_rfl) (fun _ _ _ _ _ h => h) (by kernel_rfl) (by kernel_rfl) (by rfl) ?_ ?_
  · intro V hSw; (try dsimp only at hSw); go_simp
  simp only [Act.put, List.setIfInBounds_toArray, List.set_cons_zero, List.set_cons_succ]
  refine wpAnyH_ready (rs := [12]) (by kernel_rfl) (by simp) ?_
  refine AllReadyH.cons rfl (fun K hK => ?_) AllReadyH.nil
  go_simp
  refine hK.out _ _ (HKd.out) (fun hHeld => ?_)
  clear hK K
  refine wpAnyH_ready (rs := [13]) (by kernel_rfl) (by simp) ?_
  refine AllReadyH.cons rfl (fun K hK => ?_) AllReadyH.nil
  go_simp
  go_wp2_with (go_at_call 64; refine hD.mono ?_; rintro e v3 ⟨rfl, hb⟩; have HB4 := hid ((HB3.out.alloc HB3.out.size _).trans (hb.mono (Nat.le_succ_of_le HB3.out.size))); have HY4 := hid ((HY3.out.alloc HY3.out.size _).trans (hb.mono (Nat.le_succ_of_le HY3.out.size))); have Hb4 := hid ((Hb3.out.alloc Hb3.out.size _).trans (hb.mono (Nat.le_succ_of_le Hb3.out.size))); have HKe := hid (Hbox.out v3 Hb4.out); clear hb hD)
  refine hK.out _ _ (HKe.out) (fun hHeld => ?_)
  clear hK K
  refine wpAnyH_one 14 40 (.bool false) hHeld rfl rfl (by kernel_rfl) (fun _ _ _ _ _ h => h) (by kernel_rfl) (by kernel_rfl) (by rfl) ?_ ?_
  · intro V hSw; (try dsimp only at hSw); go_simp
  simp only [Act.put, List.setIfInBounds_toArray, List.set_cons_zero, List.set_cons_succ]
  refine wpAnyH_one 15 41 (.bool false) hHeld rfl rfl (by kernel_rfl) (fun _ _ _ _ _ h => h) (by kernel_rfl) (by kernel_rfl) (by rfl) ?_ ?_
  · intro V hSw; (try dsimp only at hSw); go_simp
  simp only [Act.put, List.setIfInBounds_toArray, List.set_cons_zero, List.set_cons_succ]
  refine wpAnyH_skips [(16, 42), (17, 43), (18, 44), (19, 45), (20, 46), (21, 47)] 2 hHeld (by kernel_rfl) (fun _ _ _ _ _ h => h) (by kernel_rfl) (by kernel_rfl) ?_
  simp only [actAfter, listedAfter, Act.put, List.setIfInBounds_toArray, List.set_cons_zero, List.set_cons_succ]
  refine wpAnyH_one 22 48 (.bool false) hHeld rfl rfl (by kernel_rfl) (fun _ _ _ _ _ h => h) (by kernel_rfl) (by kernel_rfl) (by rfl) ?_ ?_
  · intro V hSw; (try dsimp only at hSw); go_simp
  simp only [Act.put, List.setIfInBounds_toArray, List.set_cons_zero, List.set_cons_succ]
  refine wpAnyH_one 23 4 (.bool false) hHeld rfl rfl (by kernel_rfl) (fun _ _ _ _ _ h => h) (by kernel_rfl) (by kernel_rfl) (by rfl) ?_ ?_
  · intro V hSw; (try dsimp only at hSw); go_simp
  simp only [Act.put, List.setIfInBounds_toArray, List.set_cons_zero, List.set_cons_succ]
  refine wpAnyH_done (by kernel_rfl) ?_ _
  go_wp2_with fail
  go_ret
  exact ⟨rfl, HB4.out⟩
set_option maxRecDepth 100000 in
set_option maxHeartbeats 16000000 in
theorem frag_last_a (b off cap : Nat) (o1 o2 : Option Addr) (c1 c2 j i bk offk : Nat) (ah be ks : List Int) (ns : List NodeD) (w W : World) (hF : FAt w b off cap ns) (hW : Below w.heap.size w W) (hj : j < ns.length) (hkc : w.cell? ⟨b, off + j * 16 + 9, none⟩ = some (.slice (some ⟨bk, offk, none⟩) ks.length (i + 1))) (HI : Hid (∀ V : World, Below w.heap.size w V → Calls Try.prog 62 #[.slice (some ⟨bk, offk, none⟩) ks.length (i + 1), .func (.func 63) #[gapV b off cap ns.length (.slice o1 ah.length c1) (.slice o2 be.length c2)] #[]] V fun e w' => e = .returned (.int .i64 (i : Int)) ∧ Below V.heap.size V w')) (HT : Hid (∀ V : World, Below w.heap.size w V → Calls Try.prog 64 #[.func (.func 65) #[gapV b off cap ns.length (.slice o1 ah.length c1) (.slice o2 be.length c2)] #[], .slice (some ⟨V.heap.size, 0, none⟩) 1 1] (V.alloc (.cells #[.slice (some ⟨bk, offk, none⟩) ks.length (i + 1)] 29)) fun e w' => e = .returned (.bool true) ∧ Below (V.heap.size + 1) (V.alloc (.cells #[.slice (some ⟨bk, offk, none⟩) ks.length (i + 1)] 29)) w')) (hil : i < ks.length) (hcl : ks.length ≤ i + 1) (hkl : ks.length ≤ 1099511627776) (y : Int) (hy : ∀ V : World, Below w.heap.size w V → V.cell? ⟨bk, offk + i, none⟩ = some (.int .i64 y)) (A : Bool) (HD : Hid (∀ V : World, Below w.heap.size w V → Calls Try.prog 64 #[.func (.func 63) #[gapV b off cap ns.length (.slice o1 ah.length c1) (.slice o2 be.length c2)] #[], .slice (some ⟨V.heap.size, 0, none⟩) 1 1] (V.alloc (.cells #[.slice (some ⟨bk, offk, none⟩) 0 0] 29)) fun e w' => e = .returned (.bool true) ∧ Below (V.heap.size + 1) (V.alloc (.cells #[.slice (some ⟨bk, offk, none⟩) 0 0] 29)) w')) (HE : Hid (∀ V : World, Below w.heap.size w V → Calls Try.prog 49 #[gapV b off cap ns.length (.slice o1 ah.length c1) (.slice o2 be.length c2), .int .i64 y] V fun e w' => e = .returned (.bool A) ∧ Below V.heap.size V w')) :
    Calls Try.prog 48 #[gapV b off cap ns.length (.slice o1 ah.length c1) (.slice o2 be.length c2), .int .i64 ((j : Int) + 1)] W fun e w' => e = .returned (.bool A) ∧ Below W.heap.size W w' := by
  have hB1 : Below w.heap.size w (W.alloc (.cells #[.slice (some ⟨b, off, none⟩) ns.length cap, .slice o1 ah.length c1, .slice o2 be.length c2] 62)) := hW.alloc hW.size _
  have hB2 : Below W.heap.size W (W.alloc (.cells #[.slice (some ⟨b, off, none⟩) ns.length cap, .slice o1 ah.length c1, .slice o2 be.length c2] 62)) := (Below.refl _ W).alloc (Nat.le_refl _) _
  have kc : (W.alloc (.cells #[.slice (some ⟨b, off, none⟩) ns.length cap, .slice o1 ah.length c1, .slice o2 be.length c2] 62)).cell? ⟨b, off + j * 16 + 9, none⟩ = some (.slice (some ⟨bk, offk, none⟩) ks.length (i + 1)) := (hB1.cell (p := ⟨b, off + j * 16 + 9, none⟩) hF.lt).trans hkc
  have hI := HI.out _ hB1
  have hlen := hF.len
  have p1 : (0 : Int) ≤ (j : Int) := by omega
  have p2 : (j : Int) < (ns.length : Int) := by omega
  have HB1 := hid hB1
  have HB2 := hid hB2
  have Hbox : Hid (∀ V : World, Below (W.alloc (.cells #[.slice (some ⟨b, off, none⟩) ns.length cap, .slice o1 ah.length c1, .slice o2 be.length c2] 62)).heap.size (W.alloc (.cells #[.slice (some ⟨b, off, none⟩) ns.length cap, .slice o1 ah.length c1, .slice o2 be.length c2] 62)) V → V.cell? ⟨W.heap.size, 0, none⟩ = some (.slice (some ⟨b, off, none⟩) ns.length cap) ∧ V.cell? ⟨W.heap.size, 1, none⟩ = some (.slice o1 ah.length c1) ∧ V.cell? ⟨W.heap.size, 2, none⟩ = some (.slice o2 be.length c2)) := fun V hV =>
    ⟨(hV.cell (p := ⟨W.heap.size, 0, none⟩) (by show W.heap.size < _; simp)).trans (by simp), (hV.cell (p := ⟨W.heap.size, 1, none⟩) (by show W.heap.size < _; simp)).trans (by simp), (hV.cell (p := ⟨W.heap.size, 2, none⟩) (by show W.heap.size < _; simp)).trans (by simp)⟩
  clear hF hW hB1 hB2 hkc HI
  unfold gapV at *
  go_enter Try.func48, Try.ntmps48
  go_wp2_with fail
  refine hI.mono ?_
  rintro e v1 ⟨rfl, hb⟩
  obtain ⟨d0, d1, d2⟩ := Hbox.out v1 hb
  have HC1 := hid (HB1.out.trans (hb.mono HB1.out.size))
  have HD1 := hid (HB2.out.trans (hb.mono HB2.out.size))
  have Hb1 := hid hb
  clear hI kc hb HB1 HB2
  have hC2 : Below w.heap.size w v1.drew := HC1.out.drew
  have hD2 : Below W.heap.size W v1.drew := HD1.out.drew
  have hT := HT.out v1.drew hC2
  simp only [heap_drew] at hT
  have HX := hid ((hD2.alloc hD2.size (.cells #[.slice (some ⟨bk, offk, none⟩) ks.length (i + 1)] 29)))
  have HS := hid (Nat.le_succ_of_le hD2.size)
  have HY := hid ((hC2.alloc hC2.size (.cells #[.slice (some ⟨bk, offk, none⟩) ks.length (i + 1)] 29)))
  have HR := hid (Nat.le_succ_of_le hC2.size)
  have Hb2 := hid (Hb1.out.drew)
  have q0 : ¬ (i : Int) < 0 := by omega
  have HK := hid (Hbox.out _ Hb2.out)
  have HK2 := hid (Hbox.out _ (Hb2.out.alloc Hb2.out.size (.cells #[.slice (some ⟨bk, offk, none⟩) ks.length (i + 1)] 29)))
  have HBy : Hid (∀ V, Below (v1.heap.size + 1) (v1.drew.alloc (.cells #[.slice (some ⟨bk, offk, none⟩) ks.length (i + 1)] 29)) V → _) := fun V hV => Hbox.out V ((Hb2.out.alloc Hb2.out.size _).trans (hV.mono (Nat.le_succ_of_le Hb2.out.size)))
  have q1 : (0 : Int) ≤ (i : Int) := by omega
  have q2 : (i : Int) < (ks.length : Int) := by omega
  have q4 : (ks.length : Int) ≤ ((i + 1 : Nat) : Int) := by omega
  have q6 : ((i : Int)).toNat = i := by omega
  have q7 : (0 : Int) ≤ (i : Int) + 1 := by omega
  have q8 : (i : Int) + 1 ≤ (ks.length : Int) := by omega
  have q9 : (i : Int) + 1 ≤ ((i + 1 : Nat) : Int) := by omega
  have q10 : ((i : Int) + 1).toNat = i + 1 := by omega
  have q11 : IntKind.i64.wrap ((i : Int) + 1) = (i : Int) + 1 := vwrap (by omega) (by omega)
  have HYC := hid hy
  have HC2 := hid hC2
  clear HBy HT Hb1 hC2 HC1 HD1 hD2 hy d0 d1 d2
  have hln : ks.length - (i + 1) = 0 := by omega
  go_upto_region 5 with fail
  refine wp_region_held_drew (S := (fun V => V.cell? ⟨W.heap.size, 0, none⟩ = some (.slice (some ⟨b, off, none⟩) ns.length cap) ∧ V.cell? ⟨W.heap.size, 1, none⟩ = some (.slice o1 ah.length c1) ∧ V.cell? ⟨W.heap.size, 2, none⟩ = some (.slice o2 be.length c2) ∧ V.cell? ⟨bk, offk + i, none⟩ = some (.int .i64 y))) (by kernel_rfl) (⟨HK.out.1, HK.out.2.1, HK.out.2.2, HYC.out _ HC2.out⟩) (fun hHeld => ?_)
  refine wpAnyH_one 0 26 (.agg #[.slice (some ⟨b, off, none⟩) ns.length cap, .slice o1 ah.length c1, .slice o2 be.length c2]) hHeld rfl rfl (by kernel_rfl) (fun _ _ _ _ _ h => h) (by kernel_rfl) (by kernel_rfl) (by rfl) ?_ ?_
  · intro V hSw; (try dsimp only at hSw); go_simp
  simp only [Act.put, List.setIfInBounds_toArray, List.set_cons_zero, List.set_cons_succ]
  refine wpAnyH_one 1 27 (.func (.func 65) #[.agg #[.slice (some ⟨b, off, none⟩) ns.length cap, .slice o1 ah.length c1, .slice o2 be.length c2]] #[]) hHeld rfl rfl (by kernel_rfl) (fun _ _ _ _ _ h => h) (by kernel_rfl) (by kernel_rfl) (by rfl) ?_ ?_
  · intro V hSw; (try dsimp only at hSw); go_simp
  simp only [Act.put, List.setIfInBounds_toArray, List.set_cons_zero, List.set_cons_succ]
  refine wpAnyH_one 2 28 (.slice (some ⟨bk, offk, none⟩) ks.length (i + 1)) hHeld rfl rfl (by kernel_rfl) (fun _ _ _ _ _ h => h) (by kernel_rfl) (by kernel_rfl) (by rfl) ?_ ?_
  · intro V hSw; (try dsimp only at hSw); go_simp
  simp only [Act.put, List.setIfInBounds_toArray, List.set_cons_zero, List.set_cons_succ]
  refine wpAnyH_ready (rs := [3]) (by kernel_rfl) (by simp) ?_
  refine AllReadyH.cons rfl (fun K hK => ?_) AllReadyH.nil
  go_simp
  refine hK.out _ _ (⟨HK2.out.1, HK2.out.2.1, HK2.out.2.2, HYC.out _ HY.out⟩) (fun hHeld => ?_)
  clear hK K
  refine wpAnyH_ready (rs := [4]) (by kernel_rfl) (by simp) ?_
  refine AllReadyH.cons rfl (fun K hK => ?_) AllReadyH.nil
  go_simp
  go_wp2_with (go_at_call 64; refine hT.mono ?_; rintro e v2 ⟨rfl, hb⟩; have HB3 := hid (HX.out.trans (hb.mono HS.out)); have HY3 := hid (HY.out.trans (hb.mono HR.out)); have Hb3 := hid ((Hb2.out.alloc Hb2.out.size _).trans (hb.mono (Nat.le_succ_of_le Hb2.out.size))); have HKc := hid (Hbox.out v2 Hb3.out); have HKd := hid (Hbox.out _ (Hb3.out.alloc Hb3.out.size (.cells #[.slice (some ⟨bk, offk, none⟩) 0 0] 29))); have hD := HD.out v2 HY3.out; clear hb hT)
  refine hK.out _ _ (⟨HKc.out.1, HKc.out.2.1, HKc.out.2.2, HYC.out _ HY3.out⟩) (fun hHeld => ?_)
  clear hK K
  refine wpAnyH_one 5 31 (.bool true) hHeld rfl rfl (by kernel_rfl) (fun _ _ _ _ _ h => h) (by kernel_rfl) (by kernel_rfl) (by rfl) ?_ ?_
  · intro V hSw; (try dsimp only at hSw); go_simp
  simp only [Act.put, List.setIfInBounds_toArray, List.set_cons_zero, List.set_cons_succ]
  refine wpAnyH_one 6 32 (.agg #[.slice (some ⟨b, off, none⟩) ns.length cap, .slice o1 ah.length c1, .slice o2 be.length c2]) hHeld rfl rfl (by kernel_rfl) (fun _ _ _ _ _ h => h) (by kernel_rfl) (by kernel_rfl) (by rfl) ?_ ?_
  · intro V hSw; (try dsimp only at hSw); go_simp
  simp only [Act.put, List.setIfInBounds_toArray, List.set_cons_zero, List.set_cons_succ]
  refine wpAnyH_one 7 33 (.func (.func 63) #[.agg #[.slice (some ⟨b, off, none⟩) ns.length cap, .slice o1 ah.length c1, .slice o2 be.length c2]] #[]) hHeld rfl rfl (by kernel_rfl) (fun _ _ _ _ _ h => h) (by kernel_rfl) (by kernel_rfl) (by rfl) ?_ ?_
  · intro V hSw; (try dsimp only at hSw); go_simp
  simp only [Act.put, List.setIfInBounds_toArray, List.set_cons_zero, List.set_cons_succ]
  refine wpAnyH_one 8 34 (.slice (some ⟨bk, offk, none⟩) ks.length (i + 1)) hHeld rfl rfl (by kernel_rfl) (fun _ _ _ _ _ h => h) (by kernel_rfl) (by kernel_rfl) (by rfl) ?_ ?_
  · intro V hSw; (try dsimp only at hSw); go_simp
  simp only [Act.put, List.setIfInBounds_toArray, List.set_cons_zero, List.set_cons_succ]
  refine wpAnyH_one 9 35 (.int .i64 (i : Int)) hHeld rfl rfl (by kernel_rfl) (fun _ _ _ _ _ h => h) (by kernel_rfl) (by kernel_rfl) (by rfl) ?_ ?_
  · intro V hSw; (try dsimp only at hSw); go_simp
  simp only [Act.put, List.setIfInBounds_toArray, List.set_cons_zero, List.set_cons_succ]
  refine wpAnyH_one 10 36 (.int .i64 ((i : Int) + 1)) hHeld rfl rfl (by kernel_rfl) (fun _ _ _ _ _ h => h) (by kernel_rfl) (by kernel_rfl) (by rfl) ?_ ?_
  · intro V hSw; (try dsimp only at hSw); go_simp
  simp only [Act.put, List.setIfInBounds_toArray, List.set_cons_zero, List.set_cons_succ]
  refine wpAnyH_one 11 37 (.slice (some ⟨bk, offk, none⟩) 0 0) hHeld rfl rfl (by kernel_rfl) (fun _ _ _ _ _ h => h) (by kernel_rfl) (by kernel_rfl) (by rfl) ?_ ?_
  · intro V hSw; (try dsimp only at hSw); go_simp
  simp only [Act.put, List.setIfInBounds_toArray, List.set_cons_zero, List.set_cons_succ]
  refine wpAnyH_ready (rs := [12]) (by kernel_rfl) (by simp) ?_
  refine AllReadyH.cons rfl (fun K hK => ?_) AllReadyH.nil
  go_simp
  refine hK.out _ _ (⟨HKd.out.1, HKd.out.2.1, HKd.out.2.2, HYC.out _ (HY3.out.alloc HY3.out.size _)⟩) (fun hHeld => ?_)
  clear hK K
  refine wpAnyH_ready (rs := [13]) (by kernel_rfl) (by simp) ?_
  refine AllReadyH.cons rfl (fun K hK => ?_) AllReadyH.nil
  go_simp
  go_wp2_with (go_at_call 64; refine hD.mono ?_; rintro e v3 ⟨rfl, hb⟩; have HB4 := hid ((HB3.out.alloc HB3.out.size _).trans (hb.mono (Nat.le_succ_of_le HB3.out.size))); have HY4 := hid ((HY3.out.alloc HY3.out.size _).trans (hb.mono (Nat.le_succ_of_le HY3.out.size))); have Hb4 := hid ((Hb3.out.alloc Hb3.out.size _).trans (hb.mono (Nat.le_succ_of_le Hb3.out.size))); have HKe := hid (Hbox.out v3 Hb4.out); have hE := HE.out v3 HY4.out; clear hb hD)
  refine hK.out _ _ (⟨HKe.out.1, HKe.out.2.1, HKe.out.2.2, HYC.out _ HY4.out⟩) (fun hHeld => ?_)
  clear hK K
  refine wpAnyH_one 14 40 (.bool true) hHeld rfl rfl (by kernel_rfl) (fun _ _ _ _ _ h => h) (by kernel_rfl) (by kernel_rfl) (by rfl) ?_ ?_
  · intro V hSw; (try dsimp only at hSw); go_simp
  simp only [Act.put, List.setIfInBounds_toArray, List.set_cons_zero, List.set_cons_succ]
  refine wpAnyH_one 15 41 (.bool true) hHeld rfl rfl (by kernel_rfl) (fun _ _ _ _ _ h => h) (by kernel_rfl) (by kernel_rfl) (by rfl) ?_ ?_
  · intro V hSw; (try dsimp only at hSw); go_simp
  simp only [Act.put, List.setIfInBounds_toArray, List.set_cons_zero, List.set_cons_succ]
  refine wpAnyH_one 16 42 (.agg #[.slice (some ⟨b, off, none⟩) ns.length cap, .slice o1 ah.length c1, .slice o2 be.length c2]) hHeld rfl rfl (by kernel_rfl) (fun _ _ _ _ _ h => h) (by kernel_rfl) (by kernel_rfl) (by rfl) ?_ ?_
  · intro V hSw; (try dsimp only at hSw); go_simp
  simp only [Act.put, List.setIfInBounds_toArray, List.set_cons_zero, List.set_cons_succ]
  refine wpAnyH_one 17 43 (.slice (some ⟨bk, offk, none⟩) ks.length (i + 1)) hHeld rfl rfl (by kernel_rfl) (fun _ _ _ _ _ h => h) (by kernel_rfl) (by kernel_rfl) (by rfl) ?_ ?_
  · intro V hSw; (try dsimp only at hSw); go_simp
  simp only [Act.put, List.setIfInBounds_toArray, List.set_cons_zero, List.set_cons_succ]
  refine wpAnyH_one 18 44 (.int .i64 (i : Int)) hHeld rfl rfl (by kernel_rfl) (fun _ _ _ _ _ h => h) (by kernel_rfl) (by kernel_rfl) (by rfl) ?_ ?_
  · intro V hSw; (try dsimp only at hSw); go_simp
  simp only [Act.put, List.setIfInBounds_toArray, List.set_cons_zero, List.set_cons_succ]
  refine wpAnyH_one 19 45 (.pointer (some ⟨bk, offk + i, none⟩)) hHeld rfl rfl (by kernel_rfl) (fun _ _ _ _ _ h => h) (by kernel_rfl) (by kernel_rfl) (by rfl) ?_ ?_
  · intro V hSw; (try dsimp only at hSw); go_simp
  simp only [Act.put, List.setIfInBounds_toArray, List.set_cons_zero, List.set_cons_succ]
  refine wpAnyH_one 20 46 (.int .i64 y) hHeld rfl rfl (by kernel_rfl) (fun _ _ _ _ _ h => h) (by kernel_rfl) (by kernel_rfl) (by rfl) ?_ ?_
  · intro V hSw; (try dsimp only at hSw); go_simp
  simp only [Act.put, List.setIfInBounds_toArray, List.set_cons_zero, List.set_cons_succ]
  refine wpAnyH_ready (rs := [21]) (by kernel_rfl) (by simp) ?_
  refine AllReadyH.cons rfl (fun K hK => ?_) AllReadyH.nil
  go_simp
  go_wp2_with (go_at_call 49; refine hE.mono ?_; rintro e v4 ⟨rfl, hb⟩; have HB5 := hid (HB4.out.trans (hb.mono HB4.out.size)); have HY5 := hid (HY4.out.trans (hb.mono HY4.out.size)); have HKf := hid (Hbox.out v4 (Hb4.out.trans (hb.mono Hb4.out.size))); clear hb hE)
  refine hK.out _ _ (⟨HKf.out.1, HKf.out.2.1, HKf.out.2.2, HYC.out _ HY5.out⟩) (fun hHeld => ?_)
  clear hK K
  refine wpAnyH_one 22 48 (.bool A) hHeld rfl rfl (by kernel_rfl) (fun _ _ _ _ _ h => h) (by kernel_rfl) (by kernel_rfl) (by rfl) ?_ ?_
  · intro V hSw; (try dsimp only at hSw); go_simp
  simp only [Act.put, List.setIfInBounds_toArray, List.set_cons_zero, List.set_cons_succ]
  refine wpAnyH_one 23 4 (.bool A) hHeld rfl rfl (by kernel_rfl) (fun _ _ _ _ _ h => h) (by kernel_rfl) (by kernel_rfl) (by rfl) ?_ ?_
  · intro V hSw; (try dsimp only at hSw); go_simp
  simp only [Act.put, List.setIfInBounds_toArray, List.set_cons_zero, List.set_cons_succ]
  refine wpAnyH_done (by kernel_rfl) ?_ _
  go_wp2_with fail
  go_ret
  exact ⟨rfl, HB5.out⟩
set_option maxRecDepth 100000 in
set_option maxHeartbeats 16000000 in
theorem frag_elem_b (b off cap : Nat) (o1 o2 : Option Addr) (c1 c2 ck j i bk offk : Nat) (ah be ks : List Int) (ns : List NodeD) (w W : World) (hF : FAt w b off cap ns) (hW : Below w.heap.size w W) (hj : j < ns.length) (hkc : w.cell? ⟨b, off + j * 16 + 9, none⟩ = some (.slice (some ⟨bk, offk, none⟩) ks.length ck)) (HI : Hid (∀ V : World, Below w.heap.size w V → Calls Try.prog 62 #[.slice (some ⟨bk, offk, none⟩) ks.length ck, .func (.func 63) #[gapV b off cap ns.length (.slice o1 ah.length c1) (.slice o2 be.length c2)] #[]] V fun e w' => e = .returned (.int .i64 (i : Int)) ∧ Below V.heap.size V w')) (HT : Hid (∀ V : World, Below w.heap.size w V → Calls Try.prog 64 #[.func (.func 65) #[gapV b off cap ns.length (.slice o1 ah.length c1) (.slice o2 be.length c2)] #[], .slice (some ⟨V.heap.size, 0, none⟩) 1 1] (V.alloc (.cells #[.slice (some ⟨bk, offk, none⟩) ks.length ck] 29)) fun e w' => e = .returned (.bool true) ∧ Below (V.heap.size + 1) (V.alloc (.cells #[.slice (some ⟨bk, offk, none⟩) ks.length ck] 29)) w')) (hil : i < ks.length) (hcl : ks.length ≤ ck) (hkl : ks.length ≤ 1099511627776) (hcap : ¬ ck = i + 1) (HD : Hid (∀ V : World, Below w.heap.size w V → Calls Try.prog 64 #[.func (.func 63) #[gapV b off cap ns.length (.slice o1 ah.length c1) (.slice o2 be.length c2)] #[], .slice (some ⟨V.heap.size, 0, none⟩) 1 1] (V.alloc (.cells #[.slice (some ⟨bk, offk + (i + 1), none⟩) (ks.length - (i + 1)) (ck - (i + 1))] 29)) fun e w' => e = .returned (.bool false) ∧ Below (V.heap.size + 1) (V.alloc (.cells #[.slice (some ⟨bk, offk + (i + 1), none⟩) (ks.length - (i + 1)) (ck - (i + 1))] 29)) w')) :
    Calls Try.prog 48 #[gapV b off cap ns.length (.slice o1 ah.length c1) (.slice o2 be.length c2), .int .i64 ((j : Int) + 1)] W fun e w' => e = .returned (.bool false) ∧ Below W.heap.size W w' := by
  have hB1 : Below w.heap.size w (W.alloc (.cells #[.slice (some ⟨b, off, none⟩) ns.length cap, .slice o1 ah.length c1, .slice o2 be.length c2] 62)) := hW.alloc hW.size _
  have hB2 : Below W.heap.size W (W.alloc (.cells #[.slice (some ⟨b, off, none⟩) ns.length cap, .slice o1 ah.length c1, .slice o2 be.length c2] 62)) := (Below.refl _ W).alloc (Nat.le_refl _) _
  have kc : (W.alloc (.cells #[.slice (some ⟨b, off, none⟩) ns.length cap, .slice o1 ah.length c1, .slice o2 be.length c2] 62)).cell? ⟨b, off + j * 16 + 9, none⟩ = some (.slice (some ⟨bk, offk, none⟩) ks.length ck) := (hB1.cell (p := ⟨b, off + j * 16 + 9, none⟩) hF.lt).trans hkc
  have hI := HI.out _ hB1
  have hlen := hF.len
  have p1 : (0 : Int) ≤ (j : Int) := by omega
  have p2 : (j : Int) < (ns.length : Int) := by omega
  have HB1 := hid hB1
  have HB2 := hid hB2
  have Hbox : Hid (∀ V : World, Below (W.alloc (.cells #[.slice (some ⟨b, off, none⟩) ns.length cap, .slice o1 ah.length c1, .slice o2 be.length c2] 62)).heap.size (W.alloc (.cells #[.slice (some ⟨b, off, none⟩) ns.length cap, .slice o1 ah.length c1, .slice o2 be.length c2] 62)) V → V.cell? ⟨W.heap.size, 0, none⟩ = some (.slice (some ⟨b, off, none⟩) ns.length cap) ∧ V.cell? ⟨W.heap.size, 1, none⟩ = some (.slice o1 ah.length c1) ∧ V.cell? ⟨W.heap.size, 2, none⟩ = some (.slice o2 be.length c2)) := fun V hV =>
    ⟨(hV.cell (p := ⟨W.heap.size, 0, none⟩) (by show W.heap.size < _; simp)).trans (by simp), (hV.cell (p := ⟨W.heap.size, 1, none⟩) (by show W.heap.size < _; simp)).trans (by simp), (hV.cell (p := ⟨W.heap.size, 2, none⟩) (by show W.heap.size < _; simp)).trans (by simp)⟩
  clear hF hW hB1 hB2 hkc HI
  unfold gapV at *
  go_enter Try.func48, Try.ntmps48
  go_wp2_with fail
  refine hI.mono ?_
  rintro e v1 ⟨rfl, hb⟩
  obtain ⟨d0, d1, d2⟩ := Hbox.out v1 hb
  have HC1 := hid (HB1.out.trans (hb.mono HB1.out.size))
  have HD1 := hid (HB2.out.trans (hb.mono HB2.out.size))
  have Hb1 := hid hb
  clear hI kc hb HB1 HB2
  have hC2 : Below w.heap.size w v1.drew := HC1.out.drew
  have hD2 : Below W.heap.size W v1.drew := HD1.out.drew
  have hT := HT.out v1.drew hC2
  simp only [heap_drew] at hT
  have HX := hid ((hD2.alloc hD2.size (.cells #[.slice (some ⟨bk, offk, none⟩) ks.length ck] 29)))
  have HS := hid (Nat.le_succ_of_le hD2.size)
  have HY := hid ((hC2.alloc hC2.size (.cells #[.slice (some ⟨bk, offk, none⟩) ks.length ck] 29)))
  have HR := hid (Nat.le_succ_of_le hC2.size)
  have Hb2 := hid (Hb1.out.drew)
  have q0 : ¬ (i : Int) < 0 := by omega
  have HK := hid (Hbox.out _ Hb2.out)
  have HK2 := hid (Hbox.out _ (Hb2.out.alloc Hb2.out.size (.cells #[.slice (some ⟨bk, offk, none⟩) ks.length ck] 29)))
  have HBy : Hid (∀ V, Below (v1.heap.size + 1) (v1.drew.alloc (.cells #[.slice (some ⟨bk, offk, none⟩) ks.length ck] 29)) V → _) := fun V hV => Hbox.out V ((Hb2.out.alloc Hb2.out.size _).trans (hV.mono (Nat.le_succ_of_le Hb2.out.size)))
  have q1 : (0 : Int) ≤ (i : Int) := by omega
  have q2 : (i : Int) < (ks.length : Int) := by omega
  have q4 : (ks.length : Int) ≤ (ck : Int) := by omega
  have q6 : ((i : Int)).toNat = i := by omega
  have q7 : (0 : Int) ≤ (i : Int) + 1 := by omega
  have q8 : (i : Int) + 1 ≤ (ks.length : Int) := by omega
  have q9 : (i : Int) + 1 ≤ (ck : Int) := by omega
  have q10 : ((i : Int) + 1).toNat = i + 1 := by omega
  have q11 : IntKind.i64.wrap ((i : Int) + 1) = (i : Int) + 1 := vwrap (by omega) (by omega)
  clear HBy HT Hb1 hC2 HC1 HD1 hD2 d0 d1 d2
  go_upto_region 5 with fail
  refine wp_region_held_drew (S := (fun V => V.cell? ⟨W.heap.size, 0, none⟩ = some (.slice (some ⟨b, off, none⟩) ns.length cap) ∧ V.cell? ⟨W.heap.size, 1, none⟩ = some (.slice o1 ah.length c1) ∧ V.cell? ⟨W.heap.size, 2, none⟩ = some (.slice o2 be.length c2))) (by kernel_rfl) (HK.out) (fun hHeld => ?_)
  refine wpAnyH_one 0 26 (.agg #[.slice (some ⟨b, off, none⟩) ns.length cap, .slice o1 ah.length c1, .slice o2 be.length c2]) hHeld rfl rfl (by kernel_rfl) (fun _ _ _ _ _ h => h) (by kernel_rfl) (by kernel_rfl) (by rfl) ?_ ?_
  · intro V hSw; (try dsimp only at hSw); go_simp
  simp only [Act.put, List.setIfInBounds_toArray, List.set_cons_zero, List.set_cons_succ]
  refine wpAnyH_one 1 27 (.func (.func 65) #[.agg #[.slice (some ⟨b, off, none⟩) ns.length cap, .slice o1 ah.length c1, .slice o2 be.length c2]] #[]) hHeld rfl rfl (by kernel_rfl) (fun _ _ _ _ _ h => h) (by kernel_rfl) (by kernel_rfl) (by rfl) ?_ ?_
  · intro V hSw; (try dsimp only at hSw); go_simp
  simp only [Act.put, List.setIfInBounds_toArray, List.set_cons_zero, List.set_cons_succ]
  refine wpAnyH_one 2 28 (.slice (some ⟨bk, offk, none⟩) ks.length ck) hHeld rfl rfl (by kernel_rfl) (fun _ _ _ _ _ h => h) (by kernel_rfl) (by kernel_rfl) (by rfl) ?_ ?_
  · intro V hSw; (try dsimp only at hSw); go_simp
  simp only [Act.put, List.setIfInBounds_toArray, List.set_cons_zero, List.set_cons_succ]
  refine wpAnyH_ready (rs := [3]) (by kernel_rfl) (by simp) ?_
  refine AllReadyH.cons rfl (fun K hK => ?_) AllReadyH.nil
  go_simp
  refine hK.out _ _ (HK2.out) (fun hHeld => ?_)
  clear hK K
  refine wpAnyH_ready (rs := [4]) (by kernel_rfl) (by simp) ?_
  refine AllReadyH.cons rfl (fun K hK => ?_) AllReadyH.nil
  go_simp
  go_wp2_with (go_at_call 64; refine hT.mono ?_; rintro e v2 ⟨rfl, hb⟩; have HB3 := hid (HX.out.trans (hb.mono HS.out)); have HY3 := hid (HY.out.trans (hb.mono HR.out)); have Hb3 := hid ((Hb2.out.alloc Hb2.out.size _).trans (hb.mono (Nat.le_succ_of_le Hb2.out.size))); have HKc := hid (Hbox.out v2 Hb3.out); have HKd := hid (Hbox.out _ (Hb3.out.alloc Hb3.out.size (.cells #[.slice (some ⟨bk, offk + (i + 1), none⟩) (ks.length - (i + 1)) (ck - (i + 1))] 29))); have hD := HD.out v2 HY3.out; clear hb hT)
  refine hK.out _ _ (HKc.out) (fun hHeld => ?_)
  clear hK K
  refine wpAnyH_one 5 31 (.bool true) hHeld rfl rfl (by kernel_rfl) (fun _ _ _ _ _ h => h) (by kernel_rfl) (by kernel_rfl) (by rfl) ?_ ?_
  · intro V hSw; (try dsimp only at hSw); go_simp
  simp only [Act.put, List.setIfInBounds_toArray, List.set_cons_zero, List.set_cons_succ]
  refine wpAnyH_one 6 32 (.agg #[.slice (some ⟨b, off, none⟩) ns.length cap, .slice o1 ah.length c1, .slice o2 be.length c2]) hHeld rfl rfl (by kernel_rfl) (fun _ _ _ _ _ h => h) (by kernel_rfl) (by kernel_rfl) (by rfl) ?_ ?_
  · intro V hSw; (try dsimp only at hSw); go_simp
  simp only [Act.put, List.setIfInBounds_toArray, List.set_cons_zero, List.set_cons_succ]
  refine wpAnyH_one 7 33 (.func (.func 63) #[.agg #[.slice (some ⟨b, off, none⟩) ns.length cap, .slice o1 ah.length c1, .slice o2 be.length c2]] #[]) hHeld rfl rfl (by kernel_rfl) (fun _ _ _ _ _ h => h) (by kernel_rfl) (by kernel_rfl) (by rfl) ?_ ?_
  · intro V hSw; (try dsimp only at hSw); go_simp
  simp only [Act.put, List.setIfInBounds_toArray, List.set_cons_zero, List.set_cons_succ]
  refine wpAnyH_one 8 34 (.slice (some ⟨bk, offk, none⟩) ks.length ck) hHeld rfl rfl (by kernel_rfl) (fun _ _ _ _ _ h => h) (by kernel_rfl) (by kernel_rfl) (by rfl) ?_ ?_
  · intro V hSw; (try dsimp only at hSw); go_simp
  simp only [Act.put, List.setIfInBounds_toArray, List.set_cons_zero, List.set_cons_succ]
  refine wpAnyH_one 9 35 (.int .i64 (i : Int)) hHeld rfl rfl (by kernel_rfl) (fun _ _ _ _ _ h => h) (by kernel_rfl) (by kernel_rfl) (by rfl) ?_ ?_
  · intro V hSw; (try dsimp only at hSw); go_simp
  simp only [Act.put, List.setIfInBounds_toArray, List.set_cons_zero, List.set_cons_succ]
  refine wpAnyH_one 10 36 (.int .i64 ((i : Int) + 1)) hHeld rfl rfl (by kernel_rfl) (fun _ _ _ _ _ h => h) (by kernel_rfl) (by kernel_rfl) (by rfl) ?_ ?_
  · intro V hSw; (try dsimp only at hSw); go_simp
  simp only [Act.put, List.setIfInBounds_toArray, List.set_cons_zero, List.set_cons_succ]
  refine wpAnyH_one 11 37 (.slice (some ⟨bk, offk + (i + 1), none⟩) (ks.length - (i + 1)) (ck - (i + 1))) hHeld rfl rfl (by kernel_rfl) (fun _ _ _ _ _ h => h) (by kernel_rfl) (by kernel_rfl) (by rfl) ?_ ?_
  · intro V hSw; (try dsimp only at hSw); go_simp
  simp only [Act.put, List.setIfInBounds_toArray, List.set_cons_zero, List.set_cons_succ]
  refine wpAnyH_ready (rs := [12]) (by kernel_rfl) (by simp) ?_
  refine AllReadyH.cons rfl (fun K hK => ?_) AllReadyH.nil
  go_simp
  refine hK.out _ _ (HKd.out) (fun hHeld => ?_)
  clear hK K
  refine wpAnyH_ready (rs := [13]) (by kernel_rfl) (by simp) ?_
  refine AllReadyH.cons rfl (fun K hK => ?_) AllReadyH.nil
  go_simp
  go_wp2_with (go_at_call 64; refine hD.mono ?_; rintro e v3 ⟨rfl, hb⟩; have HB4 := hid ((HB3.out.alloc HB3.out.size _).trans (hb.mono (Nat.le_succ_of_le HB3.out.size))); have HY4 := hid ((HY3.out.alloc HY3.out.size _).trans (hb.mono (Nat.le_succ_of_le HY3.out.size))); have Hb4 := hid ((Hb3.out.alloc Hb3.out.size _).trans (hb.mono (Nat.le_succ_of_le Hb3.out.size))); have HKe := hid (Hbox.out v3 Hb4.out); clear hb hD)
  refine hK.out _ _ (HKe.out) (fun hHeld => ?_)
  clear hK K
  refine wpAnyH_one 14 40 (.bool false) hHeld rfl rfl (by kernel_rfl) (fun _ _ _ _ _ h => h) (by kernel_rfl) (by kernel_rfl) (by rfl) ?_ ?_
  · intro V hSw; (try dsimp only at hSw); go_simp
  simp only [Act.put, List.setIfInBounds_toArray, List.set_cons_zero, List.set_cons_succ]
  refine wpAnyH_one 15 41 (.bool false) hHeld rfl rfl (by kernel_rfl) (fun _ _ _ _ _ h => h) (by kernel_rfl) (by kernel_rfl) (by rfl) ?_ ?_
  · intro V hSw; (try dsimp only at hSw); go_simp
  simp only [Act.put, List.setIfInBounds_toArray, List.set_cons_zero, List.set_cons_succ]
  refine wpAnyH_skips [(16, 42), (17, 43), (18, 44), (19, 45), (20, 46), (21, 47)] 2 hHeld (by kernel_rfl) (fun _ _ _ _ _ h => h) (by kernel_rfl) (by kernel_rfl) ?_
  simp only [actAfter, listedAfter, Act.put, List.setIfInBounds_toArray, List.set_cons_zero, List.set_cons_succ]
  refine wpAnyH_one 22 48 (.bool false) hHeld rfl rfl (by kernel_rfl) (fun _ _ _ _ _ h => h) (by kernel_rfl) (by kernel_rfl) (by rfl) ?_ ?_
  · intro V hSw; (try dsimp only at hSw); go_simp
  simp only [Act.put, List.setIfInBounds_toArray, List.set_cons_zero, List.set_cons_succ]
  refine wpAnyH_one 23 4 (.bool false) hHeld rfl rfl (by kernel_rfl) (fun _ _ _ _ _ h => h) (by kernel_rfl) (by kernel_rfl) (by rfl) ?_ ?_
  · intro V hSw; (try dsimp only at hSw); go_simp
  simp only [Act.put, List.setIfInBounds_toArray, List.set_cons_zero, List.set_cons_succ]
  refine wpAnyH_done (by kernel_rfl) ?_ _
  go_wp2_with fail
  go_ret
  exact ⟨rfl, HB4.out⟩
set_option maxRecDepth 100000 in
set_option maxHeartbeats 16000000 in
theorem frag_last_b (b off cap : Nat) (o1 o2 : Option Addr) (c1 c2 ck j i bk offk : Nat) (ah be ks : List Int) (ns : List NodeD) (w W : World) (hF : FAt w b off cap ns) (hW : Below w.heap.size w W) (hj : j < ns.length) (hkc : w.cell? ⟨b, off + j * 16 + 9, none⟩ = some (.slice (some ⟨bk, offk, none⟩) ks.length ck)) (HI : Hid (∀ V : World, Below w.heap.size w V → Calls Try.prog 62 #[.slice (some ⟨bk, offk, none⟩) ks.length ck, .func (.func 63) #[gapV b off cap ns.length (.slice o1 ah.length c1) (.slice o2 be.length c2)] #[]] V fun e w' => e = .returned (.int .i64 (i : Int)) ∧ Below V.heap.size V w')) (HT : Hid (∀ V : World, Below w.heap.size w V → Calls Try.prog 64 #[.func (.func 65) #[gapV b off cap ns.length (.slice o1 ah.length c1) (.slice o2 be.length c2)] #[], .slice (some ⟨V.heap.size, 0, none⟩) 1 1] (V.alloc (.cells #[.slice (some ⟨bk, offk, none⟩) ks.length ck] 29)) fun e w' => e = .returned (.bool true) ∧ Below (V.heap.size + 1) (V.alloc (.cells #[.slice (some ⟨bk, offk, none⟩) ks.length ck] 29)) w')) (hil : i < ks.length) (hcl : ks.length ≤ ck) (hkl : ks.length ≤ 1099511627776) (hcap : ¬ ck = i + 1) (y : Int) (hy : ∀ V : World, Below w.heap.size w V → V.cell? ⟨bk, offk + i, none⟩ = some (.int .i64 y)) (A : Bool) (HD : Hid (∀ V : World, Below w.heap.size w V → Calls Try.prog 64 #[.func (.func 63) #[gapV b off cap ns.length (.slice o1 ah.length c1) (.slice o2 be.length c2)] #[], .slice (some ⟨V.heap.size, 0, none⟩) 1 1] (V.alloc (.cells #[.slice (some ⟨bk, offk + (i + 1), none⟩) (ks.length - (i + 1)) (ck - (i + 1))] 29)) fun e w' => e = .returned (.bool true) ∧ Below (V.heap.size + 1) (V.alloc (.cells #[.slice (some ⟨bk, offk + (i + 1), none⟩) (ks.length - (i + 1)) (ck - (i + 1))] 29)) w')) (HE : Hid (∀ V : World, Below w.heap.size w V → Calls Try.prog 49 #[gapV b off cap ns.length (.slice o1 ah.length c1) (.slice o2 be.length c2), .int .i64 y] V fun e w' => e = .returned (.bool A) ∧ Below V.heap.size V w')) :
    Calls Try.prog 48 #[gapV b off cap ns.length (.slice o1 ah.length c1) (.slice o2 be.length c2), .int .i64 ((j : Int) + 1)] W fun e w' => e = .returned (.bool A) ∧ Below W.heap.size W w' := by
  have hB1 : Below w.heap.size w (W.alloc (.cells #[.slice (some ⟨b, off, none⟩) ns.length cap, .slice o1 ah.length c1, .slice o2 be.length c2] 62)) := hW.alloc hW.size _
  have hB2 : Below W.heap.size W (W.alloc (.cells #[.slice (some ⟨b, off, none⟩) ns.length cap, .slice o1 ah.length c1, .slice o2 be.length c2] 62)) := (Below.refl _ W).alloc (Nat.le_refl _) _
  have kc : (W.alloc (.cells #[.slice (some ⟨b, off, none⟩) ns.length cap, .slice o1 ah.length c1, .slice o2 be.length c2] 62)).cell? ⟨b, off + j * 16 + 9, none⟩ = some (.slice (some ⟨bk, offk, none⟩) ks.length ck) := (hB1.cell (p := ⟨b, off + j * 16 + 9, none⟩) hF.lt).trans hkc
  have hI := HI.out _ hB1
  have hlen := hF.len
  have p1 : (0 : Int) ≤ (j : Int) := by omega
  have p2 : (j : Int) < (ns.length : Int) := by omega
  have HB1 := hid hB1
  have HB2 := hid hB2
  have Hbox : Hid (∀ V : World, Below (W.alloc (.cells #[.slice (some ⟨b, off, none⟩) ns.length cap, .slice o1 ah.length c1, .slice o2 be.length c2] 62)).heap.size (W.alloc (.cells #[.slice (some ⟨b, off, none⟩) ns.length cap, .slice o1 ah.length c1, .slice o2 be.length c2] 62)) V → V.cell? ⟨W.heap.size, 0, none⟩ = some (.slice (some ⟨b, off, none⟩) ns.length cap) ∧ V.cell? ⟨W.heap.size, 1, none⟩ = some (.slice o1 ah.length c1) ∧ V.cell? ⟨W.heap.size, 2, none⟩ = some (.slice o2 be.length c2)) := fun V hV =>
    ⟨(hV.cell (p := ⟨W.heap.size, 0, none⟩) (by show W.heap.size < _; simp)).trans (by simp), (hV.cell (p := ⟨W.heap.size, 1, none⟩) (by show W.heap.size < _; simp)).trans (by simp), (hV.cell (p := ⟨W.heap.size, 2, none⟩) (by show W.heap.size < _; simp)).trans (by simp)⟩
  clear hF hW hB1 hB2 hkc HI
  unfold gapV at *
  go_enter Try.func48, Try.ntmps48
  go_wp2_with fail
  refine hI.mono ?_
  rintro e v1 ⟨rfl, hb⟩
  obtain ⟨d0, d1, d2⟩ := Hbox.out v1 hb
  have HC1 := hid (HB1.out.trans (hb.mono HB1.out.size))
  have HD1 := hid (HB2.out.trans (hb.mono HB2.out.size))
  have Hb1 := hid hb
  clear hI kc hb HB1 HB2
  have hC2 : Below w.heap.size w v1.drew := HC1.out.drew
  have hD2 : Below W.heap.size W v1.drew := HD1.out.drew
  have hT := HT.out v1.drew hC2
  simp only [heap_drew] at hT
  have HX := hid ((hD2.alloc hD2.size (.cells #[.slice (some ⟨bk, offk, none⟩) ks.length ck] 29)))
  have HS := hid (Nat.le_succ_of_le hD2.size)
  have HY := hid ((hC2.alloc hC2.size (.cells #[.slice (some ⟨bk, offk, none⟩) ks.length ck] 29)))
  have HR := hid (Nat.le_succ_of_le hC2.size)
  have Hb2 := hid (Hb1.out.drew)
  have q0 : ¬ (i : Int) < 0 := by omega
  have HK := hid (Hbox.out _ Hb2.out)
  have HK2 := hid (Hbox.out _ (Hb2.out.alloc Hb2.out.size (.cells #[.slice (some ⟨bk, offk, none⟩) ks.length ck] 29)))
  have HBy : Hid (∀ V, Below (v1.heap.size + 1) (v1.drew.alloc (.cells #[.slice (some ⟨bk, offk, none⟩) ks.length ck] 29)) V → _) := fun V hV => Hbox.out V ((Hb2.out.alloc Hb2.out.size _).trans (hV.mono (Nat.le_succ_of_le Hb2.out.size)))
  have q1 : (0 : Int) ≤ (i : Int) := by omega
  have q2 : (i : Int) < (ks.length : Int) := by omega
  have q4 : (ks.length : Int) ≤ (ck : Int) := by omega
  have q6 : ((i : Int)).toNat = i := by omega
  have q7 : (0 : Int) ≤ (i : Int) + 1 := by omega
  have q8 : (i : Int) + 1 ≤ (ks.length : Int) := by omega
  have q9 : (i : Int) + 1 ≤ (ck : Int) := by omega
  have q10 : ((i : Int) + 1).toNat = i + 1 := by omega
  have q11 : IntKind.i64.wrap ((i : Int) + 1) = (i : Int) + 1 := vwrap (by omega) (by omega)
  have HYC := hid hy
  have HC2 := hid hC2
  clear HBy HT Hb1 hC2 HC1 HD1 hD2 hy d0 d1 d2
  go_upto_region 5 with fail
  refine wp_region_held_drew (S := (fun V => V.cell? ⟨W.heap.size, 0, none⟩ = some (.slice (some ⟨b, off, none⟩) ns.length cap) ∧ V.cell? ⟨W.heap.size, 1, none⟩ = some (.slice o1 ah.length c1) ∧ V.cell? ⟨W.heap.size, 2, none⟩ = some (.slice o2 be.length c2) ∧ V.cell? ⟨bk, offk + i, none⟩ = some (.int .i64 y))) (by kernel_rfl) (⟨HK.out.1, HK.out.2.1, HK.out.2.2, HYC.out _ HC2.out⟩) (fun hHeld => ?_)
  refine wpAnyH_one 0 26 (.agg #[.slice (some ⟨b, off, none⟩) ns.length cap, .slice o1 ah.length c1, .slice o2 be.length c2]) hHeld rfl rfl (by kernel_rfl) (fun _ _ _ _ _ h => h) (by kernel_rfl) (by kernel_rfl) (by rfl) ?_ ?_
  · intro V hSw; (try dsimp only at hSw); go_simp
  simp only [Act.put, List.setIfInBounds_toArray, List.set_cons_zero, List.set_cons_succ]
  refine wpAnyH_one 1 27 (.func (.func 65) #[.agg #[.slice (some ⟨b, off, none⟩) ns.length cap, .slice o1 ah.length c1, .slice o2 be.length c2]] #[]) hHeld rfl rfl (by kernel_rfl) (fun _ _ _ _ _ h => h) (by kernel_rfl) (by kernel_rfl) (by rfl) ?_ ?_
  · intro V hSw; (try dsimp only at hSw); go_simp
  simp only [Act.put, List.setIfInBounds_toArray, List.set_cons_zero, List.set_cons_succ]
  refine wpAnyH_one 2 28 (.slice (some ⟨bk, offk, none⟩) ks.length ck) hHeld rfl rfl (by kernel_rfl) (fun _ _ _ _ _ h => h) (by kernel_rfl) (by kernel_rfl) (by rfl) ?_ ?_
  · intro V hSw; (try dsimp only at hSw); go_simp
  simp only [Act.put, List.setIfInBounds_toArray, List.set_cons_zero, List.set_cons_succ]
  refine wpAnyH_ready (rs := [3]) (by kernel_rfl) (by simp) ?_
  refine AllReadyH.cons rfl (fun K hK => ?_) AllReadyH.nil
  go_simp
  refine hK.out _ _ (⟨HK2.out.1, HK2.out.2.1, HK2.out.2.2, HYC.out _ HY.out⟩) (fun hHeld => ?_)
  clear hK K
  refine wpAnyH_ready (rs := [4]) (by kernel_rfl) (by simp) ?_
  refine AllReadyH.cons rfl (fun K hK => ?_) AllReadyH.nil
  go_simp
  go_wp2_with (go_at_call 64; refine hT.mono ?_; rintro e v2 ⟨rfl, hb⟩; have HB3 := hid (HX.out.trans (hb.mono HS.out)); have HY3 := hid (HY.out.trans (hb.mono HR.out)); have Hb3 := hid ((Hb2.out.alloc Hb2.out.size _).trans (hb.mono (Nat.le_succ_of_le Hb2.out.size))); have HKc := hid (Hbox.out v2 Hb3.out); have HKd := hid (Hbox.out _ (Hb3.out.alloc Hb3.out.size (.cells #[.slice (some ⟨bk, offk + (i + 1), none⟩) (ks.length - (i + 1)) (ck - (i + 1))] 29))); have hD := HD.out v2 HY3.out; clear hb hT)
  refine hK.out _ _ (⟨HKc.out.1, HKc.out.2.1, HKc.out.2.2, HYC.out _ HY3.out⟩) (fun hHeld => ?_)
  clear hK K
  refine wpAnyH_one 5 31 (.bool true) hHeld rfl rfl (by kernel_rfl) (fun _ _ _ _ _ h => h) (by kernel_rfl) (by kernel_rfl) (by rfl) ?_ ?_
  · intro V hSw; (try dsimp only at hSw); go_simp
  simp only [Act.put, List.setIfInBounds_toArray, List.set_cons_zero, List.set_cons_succ]
  refine wpAnyH_one 6 32 (.agg #[.slice (some ⟨b, off, none⟩) ns.length cap, .slice o1 ah.length c1, .slice o2 be.length c2]) hHeld rfl rfl (by kernel_rfl) (fun _ _ _ _ _ h => h) (by kernel_rfl) (by kernel_rfl) (by rfl) ?_ ?_
  · intro V hSw; (try dsimp only at hSw); go_simp
  simp only [Act.put, List.setIfInBounds_toArray, List.set_cons_zero, List.set_cons_succ]
  refine wpAnyH_one 7 33 (.func (.func 63) #[.agg #[.slice (some ⟨b, off, none⟩) ns.length cap, .slice o1 ah.length c1, .slice o2 be.length c2]] #[]) hHeld rfl rfl (by kernel_rfl) (fun _ _ _ _ _ h => h) (by kernel_rfl) (by kernel_rfl) (by rfl) ?_ ?_
  · intro V hSw; (try dsimp only at hSw); go_simp
  simp only [Act.put, List.setIfInBounds_toArray, List.set_cons_zero, List.set_cons_succ]
  refine wpAnyH_one 8 34 (.slice (some ⟨bk, offk, none⟩) ks.length ck) hHeld rfl rfl (by kernel_rfl) (fun _ _ _ _ _ h => h) (by kernel_rfl) (by kernel_rfl) (by rfl) ?_ ?_
  · intro V hSw; (try dsimp only at hSw); go_simp
  simp only [Act.put, List.setIfInBounds_toArray, List.set_cons_zero, List.set_cons_succ]
  refine wpAnyH_one 9 35 (.int .i64 (i : Int)) hHeld rfl rfl (by kernel_rfl) (fun _ _ _ _ _ h => h) (by kernel_rfl) (by kernel_rfl) (by rfl) ?_ ?_
  · intro V hSw; (try dsimp only at hSw); go_simp
  simp only [Act.put, List.setIfInBounds_toArray, List.set_cons_zero, List.set_cons_succ]
  refine wpAnyH_one 10 36 (.int .i64 ((i : Int) + 1)) hHeld rfl rfl (by kernel_rfl) (fun _ _ _ _ _ h => h) (by kernel_rfl) (by kernel_rfl) (by rfl) ?_ ?_
  · intro V hSw; (try dsimp only at hSw); go_simp
  simp only [Act.put, List.setIfInBounds_toArray, List.set_cons_zero, List.set_cons_succ]
  refine wpAnyH_one 11 37 (.slice (some ⟨bk, offk + (i + 1), none⟩) (ks.length - (i + 1)) (ck - (i + 1))) hHeld rfl rfl (by kernel_rfl) (fun _ _ _ _ _ h => h) (by kernel_rfl) (by kernel_rfl) (by rfl) ?_ ?_
  · intro V hSw; (try dsimp only at hSw); go_simp
  simp only [Act.put, List.setIfInBounds_toArray, List.set_cons_zero, List.set_cons_succ]
  refine wpAnyH_ready (rs := [12]) (by kernel_rfl) (by simp) ?_
  refine AllReadyH.cons rfl (fun K hK => ?_) AllReadyH.nil
  go_simp
  refine hK.out _ _ (⟨HKd.out.1, HKd.out.2.1, HKd.out.2.2, HYC.out _ (HY3.out.alloc HY3.out.size _)⟩) (fun hHeld => ?_)
  clear hK K
  refine wpAnyH_ready (rs := [13]) (by kernel_rfl) (by simp) ?_
  refine AllReadyH.cons rfl (fun K hK => ?_) AllReadyH.nil
  go_simp
  go_wp2_with (go_at_call 64; refine hD.mono ?_; rintro e v3 ⟨rfl, hb⟩; have HB4 := hid ((HB3.out.alloc HB3.out.size _).trans (hb.mono (Nat.le_succ_of_le HB3.out.size))); have HY4 := hid ((HY3.out.alloc HY3.out.size _).trans (hb.mono (Nat.le_succ_of_le HY3.out.size))); have Hb4 := hid ((Hb3.out.alloc Hb3.out.size _).trans (hb.mono (Nat.le_succ_of_le Hb3.out.size))); have HKe := hid (Hbox.out v3 Hb4.out); have hE := HE.out v3 HY4.out; clear hb hD)
  refine hK.out _ _ (⟨HKe.out.1, HKe.out.2.1, HKe.out.2.2, HYC.out _ HY4.out⟩) (fun hHeld => ?_)
  clear hK K
  refine wpAnyH_one 14 40 (.bool true) hHeld rfl rfl (by kernel_rfl) (fun _ _ _ _ _ h => h) (by kernel_rfl) (by kernel_rfl) (by rfl) ?_ ?_
  · intro V hSw; (try dsimp only at hSw); go_simp
  simp only [Act.put, List.setIfInBounds_toArray, List.set_cons_zero, List.set_cons_succ]
  refine wpAnyH_one 15 41 (.bool true) hHeld rfl rfl (by kernel_rfl) (fun _ _ _ _ _ h => h) (by kernel_rfl) (by kernel_rfl) (by rfl) ?_ ?_
  · intro V hSw; (try dsimp only at hSw); go_simp
  simp only [Act.put, List.setIfInBounds_toArray, List.set_cons_zero, List.set_cons_succ]
  refine wpAnyH_one 16 42 (.agg #[.slice (some ⟨b, off, none⟩) ns.length cap, .slice o1 ah.length c1, .slice o2 be.length c2]) hHeld rfl rfl (by kernel_rfl) (fun _ _ _ _ _ h => h) (by kernel_rfl) (by kernel_rfl) (by rfl) ?_ ?_
  · intro V hSw; (try dsimp only at hSw); go_simp
  simp only [Act.put, List.setIfInBounds_toArray, List.set_cons_zero, List.set_cons_succ]
  refine wpAnyH_one 17 43 (.slice (some ⟨bk, offk, none⟩) ks.length ck) hHeld rfl rfl (by kernel_rfl) (fun _ _ _ _ _ h => h) (by kernel_rfl) (by kernel_rfl) (by rfl) ?_ ?_
  · intro V hSw; (try dsimp only at hSw); go_simp
  simp only [Act.put, List.setIfInBounds_toArray, List.set_cons_zero, List.set_cons_succ]
  refine wpAnyH_one 18 44 (.int .i64 (i : Int)) hHeld rfl rfl (by kernel_rfl) (fun _ _ _ _ _ h => h) (by kernel_rfl) (by kernel_rfl) (by rfl) ?_ ?_
  · intro V hSw; (try dsimp only at hSw); go_simp
  simp only [Act.put, List.setIfInBounds_toArray, List.set_cons_zero, List.set_cons_succ]
  refine wpAnyH_one 19 45 (.pointer (some ⟨bk, offk + i, none⟩)) hHeld rfl rfl (by kernel_rfl) (fun _ _ _ _ _ h => h) (by kernel_rfl) (by kernel_rfl) (by rfl) ?_ ?_
  · intro V hSw; (try dsimp only at hSw); go_simp
  simp only [Act.put, List.setIfInBounds_toArray, List.set_cons_zero, List.set_cons_succ]
  refine wpAnyH_one 20 46 (.int .i64 y) hHeld rfl rfl (by kernel_rfl) (fun _ _ _ _ _ h => h) (by kernel_rfl) (by kernel_rfl) (by rfl) ?_ ?_
  · intro V hSw; (try dsimp only at hSw); go_simp
  simp only [Act.put, List.setIfInBounds_toArray, List.set_cons_zero, List.set_cons_succ]
  refine wpAnyH_ready (rs := [21]) (by kernel_rfl) (by simp) ?_
  refine AllReadyH.cons rfl (fun K hK => ?_) AllReadyH.nil
  go_simp
  go_wp2_with (go_at_call 49; refine hE.mono ?_; rintro e v4 ⟨rfl, hb⟩; have HB5 := hid (HB4.out.trans (hb.mono HB4.out.size)); have HY5 := hid (HY4.out.trans (hb.mono HY4.out.size)); have HKf := hid (Hbox.out v4 (Hb4.out.trans (hb.mono Hb4.out.size))); clear hb hE)
  refine hK.out _ _ (⟨HKf.out.1, HKf.out.2.1, HKf.out.2.2, HYC.out _ HY5.out⟩) (fun hHeld => ?_)
  clear hK K
  refine wpAnyH_one 22 48 (.bool A) hHeld rfl rfl (by kernel_rfl) (fun _ _ _ _ _ h => h) (by kernel_rfl) (by kernel_rfl) (by rfl) ?_ ?_
  · intro V hSw; (try dsimp only at hSw); go_simp
  simp only [Act.put, List.setIfInBounds_toArray, List.set_cons_zero, List.set_cons_succ]
  refine wpAnyH_one 23 4 (.bool A) hHeld rfl rfl (by kernel_rfl) (fun _ _ _ _ _ h => h) (by kernel_rfl) (by kernel_rfl) (by rfl) ?_ ?_
  · intro V hSw; (try dsimp only at hSw); go_simp
  simp only [Act.put, List.setIfInBounds_toArray, List.set_cons_zero, List.set_cons_succ]
  refine wpAnyH_done (by kernel_rfl) ?_ _
  go_wp2_with fail
  go_ret
  exact ⟨rfl, HB5.out⟩
end Go.Proofs.Ytfaeabjgplahgaa

namespace Go.Proofs.Ytfaeabjgplahgaa
open Go.RowKit Go.Lib Go.Shelf Go.Maps

theorem lack_one (gv : Value) (fn : Nat) (v : Value) (l : List Int) (p : Int → Bool) (w V : World) (hV : Below w.heap.size w V) (hv : RdI w v l) (hl : l.length ≤ 1099511627776) (eg : ∀ args w, (callFunc fn args).run Try.prog w = .ok (.enter fn args) w)
    (hp : ∀ x ∈ l, ∀ U : World, Below w.heap.size w U → Calls Try.prog fn #[gv, .int .i64 x] U fun e w' => e = .returned (.bool (p x)) ∧ Below U.heap.size U w') :
    Calls Try.prog 64 #[.func (.func fn) #[gv] #[], .slice (some ⟨V.heap.size, 0, none⟩) 1 1] (V.alloc (.cells #[v] 29)) fun e w' => e = .returned (.bool (!(l.any p))) ∧ Below (V.heap.size + 1) (V.alloc (.cells #[v] 29)) w' := by
  have hVa : Below w.heap.size w (V.alloc (.cells #[v] 29)) := hV.alloc hV.size _
  have h := lack_any V.heap.size 1 gv fn [(v, l)] p (V.alloc (.cells #[v] 29)) (by simp) (lsts_one (t := 29) (vheap_new _ _) (hv.later hVa)) (by simp) (fun q hq => by simp at hq; rcases hq with rfl; exact hl) eg
    (fun q hq y hy U hU => by
      simp at hq
      subst hq
      exact hp y hy U (hVa.trans (hU.mono hVa.size)))
  simp only [List.any_cons, List.any_nil, Bool.or_false, List.length_cons, List.length_nil, Nat.zero_add, World.size_alloc] at h
  exact h

theorem takesFr_any (b off cap : Nat) (o1 o2 : Option Addr) (c1 c2 j : Nat) (ah be : List Int) (ns : List NodeD) (w W : World) (hF : FAt w b off cap ns) (hW : Below w.heap.size w W) (hj : j < ns.length) (hkl : ns[j].kids.length ≤ 1099511627776) (t3 : ∀ y ∈ ns[j].kids, thereB ns.length y = true) (h1 : RdI w (.slice o1 ah.length c1) ah) (h2 : RdI w (.slice o2 be.length c2) be) (t1 : ∀ y ∈ ah, thereB ns.length y = true) (t2 : ∀ y ∈ be, thereB ns.length y = true) (l1 : ah.length ≤ 1099511627776) (l2 : be.length ≤ 1099511627776) :
    Calls Try.prog 48 #[gapV b off cap ns.length (.slice o1 ah.length c1) (.slice o2 be.length c2), .int .i64 ((j : Int) + 1)] W fun e w' => e = .returned (.bool (takesFrD ns ns[j].kids ah be)) ∧ Below W.heap.size W w' := by
  obtain ⟨L, hc, _, _, hkR⟩ := hF.at_ j hj
  have hkc := hc.kids
  clear hc
  obtain ⟨vd, va, vk⟩ := L
  simp only at hkc hkR
  obtain ⟨ok, ck, rfl, hck, gk⟩ := id hkR
  generalize ns[j].kids = ks at *
  have HI : ∀ V : World, Below w.heap.size w V → _ := fun V hV => indexFuncI_any (.slice ok ks.length ck) (gapV b off cap ns.length (.slice o1 ah.length c1) (.slice o2 be.length c2)) 63 ks (isK ns 1) V (hkR.later hV) hkl (enters_of Try.func63 (by kernel_rfl) rfl)
    (fun y hy U hU => gapEl_any b off cap o1 o2 ah.length be.length c1 c2 y ns w U hF (hV.trans (hU.mono hV.size)) (t3 y hy))
  have HT : ∀ V : World, Below w.heap.size w V → _ := fun V hV => lack_one (gapV b off cap ns.length (.slice o1 ah.length c1) (.slice o2 be.length c2)) 65 (.slice ok ks.length ck) ks (isT ns) w V hV hkR hkl (enters_of Try.func65 (by kernel_rfl) rfl)
    (fun y hy U hU => gapTx_any b off cap o1 o2 ah.length be.length c1 c2 y ns w U hF hU (t3 y hy))
  unfold takesFrD
  cases hany : ks.any (isK ns 1) with
  | false =>
    rw [firstI_none _ _ _ hany] at HI
    rw [if_neg Bool.false_ne_true]
    exact frag_none b off cap o1 o2 ok c1 c2 ck j ah be ks ns w W hF hW hj hkc HI _ HT
  | true =>
    rw [firstI_find _ _ _ hany, Nat.zero_add] at HI
    rw [if_pos rfl]
    have hil : ks.findIdx (isK ns 1) < ks.length := List.findIdx_lt_length.2 (by simpa [List.any_eq_true] using hany)
    have hdl : (ks.drop (ks.findIdx (isK ns 1) + 1)).length ≤ 1099511627776 := by rw [List.length_drop]; omega
    have t4 : ∀ y ∈ ks.drop (ks.findIdx (isK ns 1) + 1), thereB ns.length y = true := fun y hy => t3 y (List.mem_of_mem_drop hy)
    cases htx : ks.any (isT ns) with
    | true =>
      rw [htx] at HT
      exact frag_text b off cap o1 o2 ok c1 c2 ck j _ ah be ks ns w W hF hW hj hkc HI HT
    | false =>
      rw [htx] at HT
      obtain ⟨bk, offk, rfl, hbk, hcell⟩ := gk (by omega)
      have hyc : ∀ V : World, Below w.heap.size w V → V.cell? ⟨bk, offk + ks.findIdx (isK ns 1), none⟩ = some (.int .i64 ks[ks.findIdx (isK ns 1)]) := fun V hV => (hV.cell (p := ⟨bk, offk + ks.findIdx (isK ns 1), none⟩) hbk).trans (hcell _ hil)
      have HE : ∀ V : World, Below w.heap.size w V → _ := fun V hV => takesEl_any b off cap o1 o2 c1 c2 ks[ks.findIdx (isK ns 1)] ah be ns w V hF hV h1 h2 t1 t2 l1 l2
      rw [show (!false && !((ks.drop (ks.findIdx (isK ns 1) + 1)).any (isK ns 1)) && takesElD ns ah be) = (!((ks.drop (ks.findIdx (isK ns 1) + 1)).any (isK ns 1)) && takesElD ns ah be) from rfl]
      have HDr := rdI_drop hkR (ks.findIdx (isK ns 1) + 1) (by omega)
      have HD : ∀ vk', RdI w vk' (ks.drop (ks.findIdx (isK ns 1) + 1)) → ∀ V : World, Below w.heap.size w V → _ := fun vk' hv V hV => lack_one (gapV b off cap ns.length (.slice o1 ah.length c1) (.slice o2 be.length c2)) 63 vk' _ (isK ns 1) w V hV hv hdl (enters_of Try.func63 (by kernel_rfl) rfl)
        (fun y hy U hU => gapEl_any b off cap o1 o2 ah.length be.length c1 c2 y ns w U hF hU (t4 y hy))
      by_cases hcap : ck = ks.findIdx (isK ns 1) + 1
      · have hnil : ks.drop (ks.findIdx (isK ns 1) + 1) = [] := List.drop_eq_nil_of_le (by omega)
        subst hcap
        have HD0 := HD (.slice (some ⟨bk, offk, none⟩) 0 0) (by rw [hnil]; exact rdI_nil _ _ _)
        cases hd : (ks.drop (ks.findIdx (isK ns 1) + 1)).any (isK ns 1) with
        | true => rw [hnil] at hd; cases hd
        | false =>
          rw [hd] at HD0
          exact frag_last_a b off cap o1 o2 c1 c2 j _ bk offk ah be ks ns w W hF hW hj hkc HI HT hil hck hkl _ hyc _ HD0 HE
      · have HD0 := HD _ HDr
        cases hd : (ks.drop (ks.findIdx (isK ns 1) + 1)).any (isK ns 1) with
        | true =>
          rw [hd] at HD0
          exact frag_elem_b b off cap o1 o2 c1 c2 ck j _ bk offk ah be ks ns w W hF hW hj hkc HI HT hil hck hkl hcap HD0
        | false =>
          rw [hd] at HD0
          exact frag_last_b b off cap o1 o2 c1 c2 ck j _ bk offk ah be ks ns w W hF hW hj hkc HI HT hil hck hkl hcap _ hyc _ HD0 HE

theorem known_cases {k : Nat} (h : knownK k = true) : k = 1 ∨ k = 3 ∨ k = 4 ∨ k = 7 ∨ k = 8 ∨ k = 9 ∨ k = 10 ∨ k = 11 ∨ k = 12 := by
  unfold knownK mayHangK mayBeWithinK mayBeTopK hasDataK at h
  simp only [Bool.or_eq_true, beq_iff_eq] at h
  omega

theorem takes_any (b off cap : Nat) (o1 o2 : Option Addr) (c1 c2 j : Nat) (ah be : List Int) (ns : List NodeD) (w W : World) (hF : FAt w b off cap ns) (hW : Below w.heap.size w W) (hj : j < ns.length) (hkn : knownK ns[j].kind = true) (hkl : ns[j].kids.length ≤ 1099511627776) (t3 : ∀ y ∈ ns[j].kids, thereB ns.length y = true) (h1 : RdI w (.slice o1 ah.length c1) ah) (h2 : RdI w (.slice o2 be.length c2) be) (t1 : ∀ y ∈ ah, thereB ns.length y = true) (t2 : ∀ y ∈ be, thereB ns.length y = true) (l1 : ah.length ≤ 1099511627776) (l2 : be.length ≤ 1099511627776) :
    Calls Try.prog 25 #[gapV b off cap ns.length (.slice o1 ah.length c1) (.slice o2 be.length c2), .int .i64 ((j : Int) + 1)] W fun e w' => e = .returned (.bool (takesD ns ((j : Int) + 1) ah be)) ∧ Below W.heap.size W w' := by
  have hk := kindD_at ns j hj
  have hx := thereB_idx _ _ hj
  have hks : kidsD ns ((j : Int) + 1) = ns[j].kids := by unfold kidsD; rw [nodeOf_at ns j hj]
  unfold takesD
  rw [hks]
  rcases known_cases hkn with e | e | e | e | e | e | e | e | e <;> rw [e] at hk <;> rw [hk]
  · exact takes_rule b off cap o1 o2 ah.length be.length c1 c2 _ 1 49 _ ns w W hF hW hx hk (by decide) rfl rfl (enters_of Try.func49 (by kernel_rfl) rfl)
      (fun V hV => takesEl_any b off cap o1 o2 c1 c2 _ ah be ns w V hF hV h1 h2 t1 t2 l1 l2)
  · exact takes_none b off cap o1 o2 ah.length be.length c1 c2 _ 3 .nilFunc ns w W hF hW hx hk (by decide) rfl rfl
  · exact takes_none b off cap o1 o2 ah.length be.length c1 c2 _ 4 .nilFunc ns w W hF hW hx hk (by decide) rfl rfl
  · exact takes_none b off cap o1 o2 ah.length be.length c1 c2 _ 7 .nilFunc ns w W hF hW hx hk (by decide) rfl rfl
  · exact takes_none b off cap o1 o2 ah.length be.length c1 c2 _ 8 .nilFunc ns w W hF hW hx hk (by decide) rfl rfl
  · exact takes_none b off cap o1 o2 ah.length be.length c1 c2 _ 9 .nilFunc ns w W hF hW hx hk (by decide) rfl rfl
  · exact takes_rule b off cap o1 o2 ah.length be.length c1 c2 _ 10 50 _ ns w W hF hW hx hk (by decide) rfl rfl (enters_of Try.func50 (by kernel_rfl) rfl)
      (fun V hV => takesDt_any b off cap o1 o2 c1 c2 _ ah be ns w V hF hV h1 h2 t1 t2 l1 l2)
  · exact takes_rule b off cap o1 o2 ah.length be.length c1 c2 _ 11 48 _ ns w W hF hW hx hk (by decide) rfl rfl (enters_of Try.func48 (by kernel_rfl) rfl)
      (fun V hV => takesFr_any b off cap o1 o2 c1 c2 j ah be ns w V hF hV hj hkl t3 h1 h2 t1 t2 l1 l2)
  · exact takes_none b off cap o1 o2 ah.length be.length c1 c2 _ 12 .nilFunc ns w W hF hW hx hk (by decide) rfl rfl
end Go.Proofs.Ytfaeabjgplahgaa

namespace Go.Proofs.Ytfaeabjgplahgaa
open Go.RowKit Go.Lib Go.Shelf Go.Maps

set_option maxRecDepth 100000 in
set_option maxHeartbeats 4000000 in
theorem missing_any (o : Option Addr) (cap : Nat) (v : Value) (hs : List Int) (ns : List NodeD) (w : World) (hF : FRd w o cap ns) (hkl : ∀ (i : Nat) (hi : i < ns.length), ns[i].kids.length ≤ 1099511627776) (hal : ∀ (i : Nat) (hi : i < ns.length), ns[i].attrs.length ≤ 1099511627776) (hv : RdI w v hs) (hl : hs.length ≤ 1099511627776) :
    Calls Try.prog 17 #[.agg #[.slice o ns.length cap], v] w fun e w' => e = .returned (.int .i64 (toldE ns hs)) ∧ Below w.heap.size w w' := by
  have HC : Hid (∀ W : World, Below w.heap.size w W → _) := fun W hW => Check_any o cap ns W (hF.later hW) hkl hal
  have hle := hF.len
  obtain ⟨o2, c2, rfl, hc2, g2⟩ := hv
  clear hF hkl hal
  generalize checkN ns = CN at *
  cases hr : rightD ns with
  | false =>
    have e0 : toldE ns hs = 5 := by unfold toldE; rw [hr]; rfl
    have e1 : checkE ns = 5 := by unfold checkE; rw [hr]; rfl
    rw [e0]
    rw [e1] at HC
    clear e0 e1 g2
    go_enter Try.func17, Try.ntmps17
    go_wp2_with fail
    refine (HC.out _ ((Below.refl _ w).alloc (Nat.le_refl _) _)).mono ?_
    rintro e v1 ⟨rfl, hb1⟩
    have HB := hid (box_go hb1)
    clear hb1 HC
    go_wp2
    go_ret
    exact ⟨rfl, HB.out⟩
  | true =>
    have e1 : checkE ns = 0 := (checkE_right hr).1
    rw [e1] at HC
    obtain ⟨E, hE⟩ : ∃ E, toldE ns hs = E := ⟨_, rfl⟩
    rw [hE]
    have HE : Hid ((if (hs.drop 0).all (thereB ns.length) then (0 : Int) else 2) = E) := by
      have := hE
      unfold toldE at this
      rw [hr, if_pos rfl] at this
      exact this
    clear hE e1
    go_enter Try.func17, Try.ntmps17
    go_wp2_with fail
    refine (HC.out _ ((Below.refl _ w).alloc (Nat.le_refl _) _)).mono ?_
    rintro e v1 ⟨rfl, hb1⟩
    have HB1 := hid (box_go hb1)
    have cb := box_forest hb1
    clear hb1 HC
    go_wp2
    go_loopw [19] (fun t wr => ∃ k : Nat, k ≤ hs.length ∧ t = .int .i64 k ∧ wr = v1 ∧ Hid ((if (hs.drop k).all (thereB ns.length) then (0 : Int) else 2) = E)) (fun t _ => hs.length - (RowKit.intOf t).toNat)
    case atStart => exact ⟨0, Nat.zero_le _, rfl, rfl, HE⟩
    case round =>
      obtain ⟨k, k1, rfl, rfl, hK⟩ := hrel
      by_cases hlt : k < hs.length
      · obtain ⟨b, off, rfl, hlt1, ha⟩ := g2 (by omega)
        have x1 := (HB1.out.cell (p := ⟨b, off + k, none⟩) hlt1).trans (ha k hlt)
        have q1 : (0 : Int) ≤ (k : Int) := by omega
        have q2 : (k : Int) < (hs.length : Int) := by omega
        have hk := hK.out
        rw [List.drop_eq_getElem_cons hlt, List.all_cons] at hk
        have Hk := hid hk
        clear hk hK ha g2
        generalize hs[k] = a at *
        by_cases g1 : a < 1
        · have hf : thereB ns.length a = false := by unfold thereB; rw [decide_eq_false (by omega)]; rfl
          have hE2 : E = 2 := by rw [← Hk.out, hf]; rfl
          subst hE2
          have d1 : decide (a < 1) = true := decide_eq_true g1
          clear Hk hf
          go_wp2
          go_ret
          exact ⟨rfl, HB1.out⟩
        · have d1 : decide (a < 1) = false := decide_eq_false g1
          by_cases g3 : (ns.length : Int) < a
          · have hf : thereB ns.length a = false := by unfold thereB; rw [decide_eq_false (p := a ≤ (ns.length : Int)) (by omega), Bool.and_false]
            have hE2 : E = 2 := by rw [← Hk.out, hf]; rfl
            subst hE2
            have d2 : decide ((ns.length : Int) < a) = true := decide_eq_true g3
            clear Hk hf
            go_wp2
            go_ret
            exact ⟨rfl, HB1.out⟩
          · have hf : thereB ns.length a = true := by unfold thereB; rw [decide_eq_true (by omega), decide_eq_true (by omega)]; rfl
            have d2 : decide ((ns.length : Int) < a) = false := decide_eq_false g3
            have Hn : Hid ((if (hs.drop (k + 1)).all (thereB ns.length) then (0 : Int) else 2) = E) := by
              have h := Hk.out
              rw [hf, Bool.true_and] at h
              exact h
            clear Hk hf
            go_wp2
            go_roundw
            case rel => exact ⟨k + 1, by omega, by go_num, trivial, Hn⟩
            case measure => simp [RowKit.intOf]; omega
      · have hE0 : E = 0 := by
          rw [← hK.out, List.drop_eq_nil_of_le (by omega)]
          rfl
        subst hE0
        clear hK g2
        go_wp2
        go_ret
        exact ⟨rfl, HB1.out⟩

theorem box4 {w V : World} {a b c d : Value} {t : TypeId} (hb : Below (w.alloc (.cells #[a, b, c, d] t)).heap.size (w.alloc (.cells #[a, b, c, d] t)) V) : V.cell? ⟨w.heap.size, 0, none⟩ = some a ∧ V.cell? ⟨w.heap.size, 1, none⟩ = some b ∧ V.cell? ⟨w.heap.size, 2, none⟩ = some c ∧ V.cell? ⟨w.heap.size, 3, none⟩ = some d := by
  have h := (hb.block w.heap.size (by simp)).trans (vheap_new _ _)
  exact ⟨(cell_of_heap h 0).trans rfl, (cell_of_heap h 1).trans rfl, (cell_of_heap h 2).trans rfl, (cell_of_heap h 3).trans rfl⟩

set_option maxRecDepth 100000 in
set_option maxHeartbeats 8000000 in
theorem fits_any (b off cap : Nat) (x p c : Int) (ns : List NodeD) (w W : World) (hF : FAt w b off cap ns) (hW : Below w.heap.size w W) (hx : thereB ns.length x = true) (hp : thereB ns.length p = true) :
    Calls Try.prog 24 #[.agg #[.slice (some ⟨b, off, none⟩) ns.length cap, .int .i64 x, .int .i64 p, .int .i64 c]] W fun e w' => e = .returned (.bool (fitsD (kindD ns p) (kindD ns x))) ∧ Below W.heap.size W w' := by
  have HKp : Hid (∀ V : World, Below w.heap.size w V → _) := fun V hV => vkindOf_any b off cap p ns w V hF hV hp
  have HKx : Hid (∀ V : World, Below w.heap.size w V → _) := fun V hV => vkindOf_any b off cap x ns w V hF hV hx
  have HT : Hid (∀ V : World, _) := fun V => visText_any (kindD ns x) V
  have hB1 : Below w.heap.size w (W.alloc (.cells #[.slice (some ⟨b, off, none⟩) ns.length cap, .int .i64 x, .int .i64 p, .int .i64 c] 50)) := hW.alloc hW.size _
  have HB1 := hid hB1
  have e1 : ((kindD ns p : Int) == 9) = (kindD ns p == 9) := beq_cast _ 9
  have e2 : ((kindD ns x : Int) == 9) = (kindD ns x == 9) := beq_cast _ 9
  have e3 : ((kindD ns x : Int) == 12) = (kindD ns x == 12) := beq_cast _ 12
  have e4 : ((kindD ns x : Int) == 10) = (kindD ns x == 10) := beq_cast _ 10
  unfold fitsD
  clear hF hW hx hp hB1
  generalize kindD ns p = KP at *
  generalize kindD ns x = KX at *
  generalize isTextK KX = T at *
  generalize (KP == 9) = B1 at *
  generalize (KX == 9) = B2 at *
  generalize (KX == 12) = B3 at *
  generalize (KX == 10) = B4 at *
  cases B1 <;> cases B2 <;> cases B3 <;> cases B4
  all_goals
    go_enter Try.func24, Try.ntmps24
    go_wp2_with fail
    refine (HKp.out _ HB1.out).mono ?_
    rintro e v1 ⟨rfl, hb⟩
    have HC1 := hid (HB1.out.trans (hb.mono HB1.out.size))
    have HX1 := hid hb
    obtain ⟨d0, d1, d2, d3⟩ := box4 hb
    clear hb HKp HB1
    go_wp2_with fail
    refine (HKx.out _ HC1.out).mono ?_
    rintro e v2 ⟨rfl, hb⟩
    have HX2 := hid (HX1.out.trans (hb.mono HX1.out.size))
    clear hb HKx HC1 HX1 d0 d1 d2 d3
    first
      | (go_wp2_with fail
         refine (HT.out _).mono ?_
         rintro e v3 ⟨rfl, e3⟩
         have e3 := e3.symm
         subst e3
         clear HT
         go_wp2
         go_ret
         exact ⟨rfl, box_go HX2.out⟩)
      | (go_wp2
         go_ret
         exact ⟨rfl, box_go HX2.out⟩)
end Go.Proofs.Ytfaeabjgplahgaa
