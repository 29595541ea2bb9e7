/- walk: along and back. -/
/- walk: back. -/
import Derived.Test.YteflknfejjdkfaaFWkD
namespace Go.Proofs.Yteflknfejjdkfaa
open Go.RowKit Go.Lib

theorem TourD.up_post {t : TourD} (h : t.OK) {x : Int} (hx : thereB t.ns.length x = true) (hn : t.next x = 0) : t.post (t.up x) < t.post x := by
  have hl := TourD.up_len h hx
  rcases TourD.next_ok h hx with a | a
  · unfold TourD.post
    omega
  · exact absurd hn (there_ne a.1)
theorem TourD.along_lt {t : TourD} (h : t.OK) {x : Int} (hx : thereB t.ns.length x = true) (hn : t.next x = 0) (hc : (t.up x == 0 || t.up x == t.root || t.acc (t.up x)) = false) : t.alongM (t.up x, t.next (t.up x)) < t.alongM (x, 0) :=
  (TourD.along_dec h (x, 0) (t.up x, t.next (t.up x)) ⟨hx, .inl rfl, fun _ => hn⟩ (by unfold TourD.alongS; simp only [beq_self_eq_true, if_true]; rw [hc, if_neg Bool.false_ne_true])).2
theorem TourD.along_lt2 {t : TourD} (h : t.OK) {x s : Int} (hx : thereB t.ns.length x = true) (hs : thereB t.ns.length s = true) (ha : t.acc s = false) : t.alongM (s, t.aside s) < t.alongM (x, s) :=
  (TourD.along_dec h (x, s) (s, t.aside s) ⟨hx, .inr hs, fun e => absurd e (there_ne hs)⟩ (by unfold TourD.alongS; simp only [bfalse (there_ne hs), Bool.false_eq_true, if_false, ha])).2

set_option maxRecDepth 100000 in
set_option maxHeartbeats 4000000 in
theorem talong_any {w : World} {b off cap : Nat} {ns : List NodeD} {root : Int} {sh : Nat} {ro : Option Addr} {rc : Nat} {rules : List RuleD} {rev : Bool} {bk bf bd : Nat} (TC : TourC w b off cap ns root sh ro rc rules rev bk bf bd) (x : Int) (hx : thereB ns.length x = true) (W : World) (hW : Below w.heap.size w W) :
    Calls Try.prog 49 #[.agg #[.slice (some ⟨b, off, none⟩) ns.length cap, .int .i64 root, .int .u32 (sh : Int), .slice ro rules.length rc, .func (.func 54) #[] #[.pointer (some ⟨bk, 0, none⟩), .pointer (some ⟨bf, 0, none⟩)], .func (.func 55) #[] #[.pointer (some ⟨bf, 0, none⟩), .pointer (some ⟨bd, 0, none⟩)]], .int .i64 x] W fun r w' => r = .returned (.int .i64 ((tourD ns root sh rules rev).alongD x)) ∧ Below W.heap.size W w' := by
  have eg1 : ∀ args w, (callFunc 54 args).run Try.prog w = .ok (.enter 54 args) w := enters_of Try.func54 (by kernel_rfl) rfl
  have eg2 : ∀ args w, (callFunc 55 args).run Try.prog w = .ok (.enter 55 args) w := enters_of Try.func55 (by kernel_rfl) rfl
  have HOK := hid TC.ok
  have hs := hW.size
  have hB0 : Below w.heap.size w (W.alloc (.cells #[.slice (some ⟨b, off, none⟩) ns.length cap, .int .i64 root, .int .u32 (sh : Int), .slice ro rules.length rc, .func (.func 54) #[] #[.pointer (some ⟨bk, 0, none⟩), .pointer (some ⟨bf, 0, none⟩)], .func (.func 55) #[] #[.pointer (some ⟨bf, 0, none⟩), .pointer (some ⟨bd, 0, none⟩)]] 96)) := hW.alloc hW.size _
  have HB1 : Hid (Below W.heap.size W (W.alloc (.cells #[.slice (some ⟨b, off, none⟩) ns.length cap, .int .i64 root, .int .u32 (sh : Int), .slice ro rules.length rc, .func (.func 54) #[] #[.pointer (some ⟨bk, 0, none⟩), .pointer (some ⟨bf, 0, none⟩)], .func (.func 55) #[] #[.pointer (some ⟨bf, 0, none⟩), .pointer (some ⟨bd, 0, none⟩)]] 96))) := (Below.refl _ W).alloc (Nat.le_refl _) _
  have HBx : Hid (∀ V : World, Below (W.heap.size + 1) (W.alloc (.cells #[.slice (some ⟨b, off, none⟩) ns.length cap, .int .i64 root, .int .u32 (sh : Int), .slice ro rules.length rc, .func (.func 54) #[] #[.pointer (some ⟨bk, 0, none⟩), .pointer (some ⟨bf, 0, none⟩)], .func (.func 55) #[] #[.pointer (some ⟨bf, 0, none⟩), .pointer (some ⟨bd, 0, none⟩)]] 96)) V → _) := fun V h => box6 h
  have HU : Hid (∀ V : World, Below (W.heap.size + 1) (W.alloc (.cells #[.slice (some ⟨b, off, none⟩) ns.length cap, .int .i64 root, .int .u32 (sh : Int), .slice ro rules.length rc, .func (.func 54) #[] #[.pointer (some ⟨bk, 0, none⟩), .pointer (some ⟨bf, 0, none⟩)], .func (.func 55) #[] #[.pointer (some ⟨bf, 0, none⟩), .pointer (some ⟨bd, 0, none⟩)]] 96)) V → Below w.heap.size w V) := fun V h => hB0.trans (h.mono (by omega))
  have HE : Hid (∀ V : World, Below (W.heap.size + 1) (W.alloc (.cells #[.slice (some ⟨b, off, none⟩) ns.length cap, .int .i64 root, .int .u32 (sh : Int), .slice ro rules.length rc, .func (.func 54) #[] #[.pointer (some ⟨bk, 0, none⟩), .pointer (some ⟨bf, 0, none⟩)], .func (.func 55) #[] #[.pointer (some ⟨bf, 0, none⟩), .pointer (some ⟨bd, 0, none⟩)]] 96)) V → Below W.heap.size W V) := fun V h => HB1.out.trans (h.mono (by omega))
  have HZ : Hid (∀ V : World, Below (W.heap.size + 1) (W.alloc (.cells #[.slice (some ⟨b, off, none⟩) ns.length cap, .int .i64 root, .int .u32 (sh : Int), .slice ro rules.length rc, .func (.func 54) #[] #[.pointer (some ⟨bk, 0, none⟩), .pointer (some ⟨bf, 0, none⟩)], .func (.func 55) #[] #[.pointer (some ⟨bf, 0, none⟩), .pointer (some ⟨bd, 0, none⟩)]] 96)) V → W.heap.size + 1 ≤ V.heap.size) := fun V h => by have := h.size; simp only [World.size_alloc] at this; exact this
  clear hB0 hs
  have HI : Hid (Below (W.heap.size + 1) (W.alloc (.cells #[.slice (some ⟨b, off, none⟩) ns.length cap, .int .i64 root, .int .u32 (sh : Int), .slice ro rules.length rc, .func (.func 54) #[] #[.pointer (some ⟨bk, 0, none⟩), .pointer (some ⟨bf, 0, none⟩)], .func (.func 55) #[] #[.pointer (some ⟨bf, 0, none⟩), .pointer (some ⟨bd, 0, none⟩)]] 96)) (W.alloc (.cells #[.slice (some ⟨b, off, none⟩) ns.length cap, .int .i64 root, .int .u32 (sh : Int), .slice ro rules.length rc, .func (.func 54) #[] #[.pointer (some ⟨bk, 0, none⟩), .pointer (some ⟨bf, 0, none⟩)], .func (.func 55) #[] #[.pointer (some ⟨bf, 0, none⟩), .pointer (some ⟨bd, 0, none⟩)]] 96))) := Below.refl _ _
  have HN : Hid (∀ (y : Int) (V : World), thereB ns.length y = true → Below w.heap.size w V → _) := fun y V hy hV => tnext_any TC y hy V hV
  have HP : Hid (∀ (y : Int) (V : World), thereB ns.length y = true → Below w.heap.size w V → _) := fun y V hy hV => tparent_any TC y hy V hV
  have HA : Hid (∀ (y : Int) (V : World), thereB ns.length y = true → Below w.heap.size w V → _) := fun y V hy hV => taccepts_any TC y hy V hV
  have HS : Hid (∀ (y : Int) (V : World), thereB ns.length y = true → Below w.heap.size w V → _) := fun y V hy hV => taside_any TC y hy V hV
  clear TC hW
  have hdef : (tourD ns root sh rules rev).alongD x = if x == root then 0 else (tourD ns root sh rules rev).alongR x ((tourD ns root sh rules rev).next x) := rfl
  rw [hdef]
  clear hdef
  cases c0 : (x == root) with
  | true =>
    rw [if_pos rfl]
    go_enter Try.func49, Try.ntmps49
    go_wp2
    go_ret
    exact ⟨rfl, HE.out _ HI.out⟩
  | false =>
    rw [if_neg Bool.false_ne_true]
    obtain ⟨R, hR⟩ : ∃ R, (tourD ns root sh rules rev).alongR x ((tourD ns root sh rules rev).next x) = R := ⟨_, rfl⟩
    rw [hR]
    have HR := hid hR
    clear hR
    go_enter Try.func49, Try.ntmps49
    go_wp2
    go_loopw [5] (fun t wr => ∃ y : Int, t = .int .i64 y ∧ Hid (thereB ns.length y = true) ∧ Hid ((tourD ns root sh rules rev).alongR y ((tourD ns root sh rules rev).next y) = R) ∧ Hid (Below (W.heap.size + 1) (W.alloc (.cells #[.slice (some ⟨b, off, none⟩) ns.length cap, .int .i64 root, .int .u32 (sh : Int), .slice ro rules.length rc, .func (.func 54) #[] #[.pointer (some ⟨bk, 0, none⟩), .pointer (some ⟨bf, 0, none⟩)], .func (.func 55) #[] #[.pointer (some ⟨bf, 0, none⟩), .pointer (some ⟨bd, 0, none⟩)]] 96)) wr)) (fun t _ => (tourD ns root sh rules rev).alongM (RowKit.intOf t, (tourD ns root sh rules rev).next (RowKit.intOf t)))
    case atStart => exact ⟨x, rfl, hx, HR, HI⟩
    case round =>
      obtain ⟨y, rfl, hy, hY, hB⟩ := hrel
      clear hx HR HI c0
      obtain ⟨d0, d1, d2, d3, d4, d5⟩ := HBx.out wr hB.out
      have HNy : Hid (∀ V : World, Below w.heap.size w V → _) := fun V hV => HN.out y V hy.out hV
      have HS0 : Hid ((tourD ns root sh rules rev).next y = 0 ∨ thereB ns.length ((tourD ns root sh rules rev).next y) = true) := (TourD.next_ok HOK.out hy.out).imp (fun h => h.1) (fun h => h.1)
      have HE0 : Hid ((tourD ns root sh rules rev).next y = 0 → (tourD ns root sh rules rev).next y = 0) := fun h => h
      obtain ⟨M0, hM0⟩ : ∃ M0, (tourD ns root sh rules rev).alongM (y, (tourD ns root sh rules rev).next y) = M0 := ⟨_, rfl⟩
      have HM0 := hid hM0
      have HMM : Hid ((tourD ns root sh rules rev).alongM (y, (tourD ns root sh rules rev).next y) ≤ M0) := Nat.le_of_eq hM0
      clear hM0
      go_wp2_with (first
            | (go_at_fn 55; refine (HNy.out _ (HU.out _ hB.out)).mono ?_; rintro r1 v1 ⟨rfl, hb⟩; have HB2 := hid (hB.out.trans (hb.mono (HZ.out _ hB.out))); obtain ⟨i0, i1, i2, i3, i4, i5⟩ := HBx.out _ HB2.out; clear hb)
      )
      go_loopw [5, 6] (fun t s wr => ∃ z k : Int, t = .int .i64 z ∧ s = .int .i64 k ∧ Hid (thereB ns.length z = true) ∧ Hid (k = 0 ∨ thereB ns.length k = true) ∧ Hid (k = 0 → (tourD ns root sh rules rev).next z = 0) ∧ Hid ((tourD ns root sh rules rev).alongR z k = R) ∧ Hid ((tourD ns root sh rules rev).alongM (z, k) ≤ M0) ∧ Hid (Below (W.heap.size + 1) (W.alloc (.cells #[.slice (some ⟨b, off, none⟩) ns.length cap, .int .i64 root, .int .u32 (sh : Int), .slice ro rules.length rc, .func (.func 54) #[] #[.pointer (some ⟨bk, 0, none⟩), .pointer (some ⟨bf, 0, none⟩)], .func (.func 55) #[] #[.pointer (some ⟨bf, 0, none⟩), .pointer (some ⟨bd, 0, none⟩)]] 96)) wr)) (fun t s _ => (tourD ns root sh rules rev).alongM (RowKit.intOf t, RowKit.intOf s))
      case atStart => exact ⟨y, _, rfl, rfl, hy, HS0, HE0, hY, HMM, HB2⟩
      case round =>
        obtain ⟨z, k, rfl, rfl, hz, hk, hk0, hZ, hM, hB3⟩ := hrel
        clear hY HS0 HE0 HMM HB2 HNy
        obtain ⟨j0, j1, j2, j3, j4, j5⟩ := HBx.out wr hB3.out
        by_cases k0 : k = 0
        · subst k0
          have hn0 := hk0.out rfl
          have HPz : Hid (∀ V : World, Below w.heap.size w V → _) := fun V hV => HP.out z V hz.out hV
          cases c1 : ((tourD ns root sh rules rev).up z == 0) with
          | true =>
            have hR0 : R = 0 := by rw [← hZ.out]; exact TourD.along_stop (by rw [c1]; rfl)
            subst hR0
            clear hZ hM hk0 hn0
            generalize (tourD ns root sh rules rev).up z = p at *
            go_wp2_with (first
            | (go_at_call 68; refine (HPz.out _ (HU.out _ hB3.out)).mono ?_; rintro r1 v1 ⟨rfl, hb⟩; have HB4 := hid (hB3.out.trans (hb.mono (HZ.out _ hB3.out))); obtain ⟨i0, i1, i2, i3, i4, i5⟩ := HBx.out _ HB4.out; clear hb)
            )
            go_ret
            exact ⟨rfl, HE.out _ HB4.out⟩
          | false =>
            cases c2 : ((tourD ns root sh rules rev).up z == root) with
            | true =>
              have hR0 : R = 0 := by rw [← hZ.out]; exact TourD.along_stop (by show (_ || (tourD ns root sh rules rev).up z == root || _) = true; rw [c2, Bool.or_true, Bool.true_or])
              subst hR0
              clear hZ hM hk0 hn0
              generalize (tourD ns root sh rules rev).up z = p at *
              go_wp2_with (first
            | (go_at_call 68; refine (HPz.out _ (HU.out _ hB3.out)).mono ?_; rintro r1 v1 ⟨rfl, hb⟩; have HB4 := hid (hB3.out.trans (hb.mono (HZ.out _ hB3.out))); obtain ⟨i0, i1, i2, i3, i4, i5⟩ := HBx.out _ HB4.out; clear hb)
              )
              go_ret
              exact ⟨rfl, HE.out _ HB4.out⟩
            | false =>
              have hpt : thereB ns.length ((tourD ns root sh rules rev).up z) = true := (TourD.up_ok HOK.out hz.out).resolve_left (beq_eq_false_iff_ne.1 c1)
              have HAp : Hid (∀ V : World, Below w.heap.size w V → _) := fun V hV => HA.out _ V hpt hV
              cases ha : (tourD ns root sh rules rev).acc ((tourD ns root sh rules rev).up z) with
              | true =>
                have hR0 : R = 0 := by rw [← hZ.out]; exact TourD.along_stop (by rw [ha, Bool.or_true])
                subst hR0
                rw [ha] at HAp
                clear hZ hM hk0 hn0 ha hpt
                generalize (tourD ns root sh rules rev).up z = p at *
                go_wp2_with (first
            | (go_at_call 69; refine (HAp.out _ (HU.out _ HB4.out)).mono ?_; rintro r1 v1 ⟨rfl, hb⟩; have HB5 := hid (HB4.out.trans (hb.mono (HZ.out _ HB4.out))); obtain ⟨i0, i1, i2, i3, i4, i5⟩ := HBx.out _ HB5.out; clear hb)
            | (go_at_call 68; refine (HPz.out _ (HU.out _ hB3.out)).mono ?_; rintro r1 v1 ⟨rfl, hb⟩; have HB4 := hid (hB3.out.trans (hb.mono (HZ.out _ hB3.out))); obtain ⟨i0, i1, i2, i3, i4, i5⟩ := HBx.out _ HB4.out; clear hb)
                )
                go_ret
                exact ⟨rfl, HE.out _ HB5.out⟩
              | false =>
                have hcc : ((tourD ns root sh rules rev).up z == 0 || (tourD ns root sh rules rev).up z == (tourD ns root sh rules rev).root || (tourD ns root sh rules rev).acc ((tourD ns root sh rules rev).up z)) = false := by show ((tourD ns root sh rules rev).up z == 0 || (tourD ns root sh rules rev).up z == root || _) = false; rw [c1, c2, ha]; rfl
                have Hn : Hid ((tourD ns root sh rules rev).alongR ((tourD ns root sh rules rev).up z) ((tourD ns root sh rules rev).next ((tourD ns root sh rules rev).up z)) = R) := by rw [← hZ.out]; exact (TourD.along_up HOK.out hz.out hn0 hcc).symm
                have Hm : Hid ((tourD ns root sh rules rev).alongM ((tourD ns root sh rules rev).up z, (tourD ns root sh rules rev).next ((tourD ns root sh rules rev).up z)) < (tourD ns root sh rules rev).alongM (y, (tourD ns root sh rules rev).next y)) := by
                  have h1 := TourD.along_lt HOK.out hz.out hn0 hcc
                  have h2 := hM.out
                  have h3 := HM0.out
                  show _ < _
                  omega
                have Hpt := hid hpt
                rw [ha] at HAp
                clear hZ hM hk0 hn0 ha hpt hcc
                generalize (tourD ns root sh rules rev).up z = p at *
                go_wp2_with (first
            | (go_at_call 69; refine (HAp.out _ (HU.out _ HB4.out)).mono ?_; rintro r1 v1 ⟨rfl, hb⟩; have HB5 := hid (HB4.out.trans (hb.mono (HZ.out _ HB4.out))); obtain ⟨i0, i1, i2, i3, i4, i5⟩ := HBx.out _ HB5.out; clear hb)
            | (go_at_call 68; refine (HPz.out _ (HU.out _ hB3.out)).mono ?_; rintro r1 v1 ⟨rfl, hb⟩; have HB4 := hid (hB3.out.trans (hb.mono (HZ.out _ hB3.out))); obtain ⟨i0, i1, i2, i3, i4, i5⟩ := HBx.out _ HB4.out; clear hb)
                )
                go_roundw
                case rel => exact ⟨p, rfl, Hpt, Hn, HB5⟩
                case measure => exact Hm.out
        · have hkt : thereB ns.length k = true := hk.out.resolve_left k0
          have n0 : (k != 0) = true := by rw [bne, beq_eq_false_iff_ne.2 k0]; rfl
          have HAk : Hid (∀ V : World, Below w.heap.size w V → _) := fun V hV => HA.out k V hkt hV
          cases ha : (tourD ns root sh rules rev).acc k with
          | true =>
            have hR0 : R = k := by rw [← hZ.out]; exact TourD.along_hit z k0 ha
            subst hR0
            rw [ha] at HAk
            clear hZ hM hk0 ha
            go_wp2_with (first
            | (go_at_call 69; refine (HAk.out _ (HU.out _ hB3.out)).mono ?_; rintro r1 v1 ⟨rfl, hb⟩; have HB4 := hid (hB3.out.trans (hb.mono (HZ.out _ hB3.out))); obtain ⟨i0, i1, i2, i3, i4, i5⟩ := HBx.out _ HB4.out; clear hb)
            )
            go_ret
            exact ⟨rfl, HE.out _ HB4.out⟩
          | false =>
            have Hn : Hid ((tourD ns root sh rules rev).alongR k ((tourD ns root sh rules rev).aside k) = R) := by rw [← hZ.out]; exact (TourD.along_go HOK.out hz.out hkt ha).symm
            have hlt := TourD.along_lt2 HOK.out hz.out hkt ha
            have Hlt : Hid ((tourD ns root sh rules rev).alongM (k, (tourD ns root sh rules rev).aside k) < (tourD ns root sh rules rev).alongM (z, k)) := hlt
            have Hle : Hid ((tourD ns root sh rules rev).alongM (k, (tourD ns root sh rules rev).aside k) ≤ M0) := Nat.le_trans (Nat.le_of_lt hlt) hM.out
            have Hok : Hid ((tourD ns root sh rules rev).aside k = 0 ∨ thereB ns.length ((tourD ns root sh rules rev).aside k) = true) := (TourD.aside_ok HOK.out hkt).imp (fun h => h.1) (fun h => h.1)
            have Ho0 : Hid ((tourD ns root sh rules rev).aside k = 0 → (tourD ns root sh rules rev).next k = 0) := fun h0 => by
              rcases TourD.aside_ok HOK.out hkt with a | a
              · exact a.2
              · exact absurd h0 (there_ne a.1)
            have HSk : Hid (∀ V : World, Below w.heap.size w V → _) := fun V hV => HS.out k V hkt hV
            have Hkt := hid hkt
            rw [ha] at HAk
            clear hZ hM hk0 ha hlt
            generalize (tourD ns root sh rules rev).aside k = q at *
            go_wp2_with (first
            | (go_at_call 72; refine (HSk.out _ (HU.out _ HB4.out)).mono ?_; rintro r1 v1 ⟨rfl, hb⟩; have HB5 := hid (HB4.out.trans (hb.mono (HZ.out _ HB4.out))); obtain ⟨i0, i1, i2, i3, i4, i5⟩ := HBx.out _ HB5.out; clear hb)
            | (go_at_call 69; refine (HAk.out _ (HU.out _ hB3.out)).mono ?_; rintro r1 v1 ⟨rfl, hb⟩; have HB4 := hid (hB3.out.trans (hb.mono (HZ.out _ hB3.out))); obtain ⟨i0, i1, i2, i3, i4, i5⟩ := HBx.out _ HB4.out; clear hb)
            )
            go_roundw
            case rel => exact ⟨k, q, rfl, rfl, Hkt, Hok, Ho0, Hn, Hle, HB5⟩
            case measure => exact Hlt.out
end Go.Proofs.Yteflknfejjdkfaa

namespace Go.Proofs.Yteflknfejjdkfaa
open Go.RowKit Go.Lib

set_option maxRecDepth 100000 in
set_option maxHeartbeats 4000000 in
theorem tback_any {w : World} {b off cap : Nat} {ns : List NodeD} {root : Int} {sh : Nat} {ro : Option Addr} {rc : Nat} {rules : List RuleD} {rev : Bool} {bk bf bd : Nat} (TC : TourC w b off cap ns root sh ro rc rules rev bk bf bd) (x : Int) (hx : thereB ns.length x = true) (W : World) (hW : Below w.heap.size w W) :
    Calls Try.prog 50 #[.agg #[.slice (some ⟨b, off, none⟩) ns.length cap, .int .i64 root, .int .u32 (sh : Int), .slice ro rules.length rc, .func (.func 54) #[] #[.pointer (some ⟨bk, 0, none⟩), .pointer (some ⟨bf, 0, none⟩)], .func (.func 55) #[] #[.pointer (some ⟨bf, 0, none⟩), .pointer (some ⟨bd, 0, none⟩)]], .int .i64 x] W fun r w' => r = .returned (.int .i64 ((tourD ns root sh rules rev).backD x)) ∧ Below W.heap.size W w' := by
  have eg1 : ∀ args w, (callFunc 54 args).run Try.prog w = .ok (.enter 54 args) w := enters_of Try.func54 (by kernel_rfl) rfl
  have eg2 : ∀ args w, (callFunc 55 args).run Try.prog w = .ok (.enter 55 args) w := enters_of Try.func55 (by kernel_rfl) rfl
  have HOK := hid TC.ok
  have hs := hW.size
  have hB0 : Below w.heap.size w (W.alloc (.cells #[.slice (some ⟨b, off, none⟩) ns.length cap, .int .i64 root, .int .u32 (sh : Int), .slice ro rules.length rc, .func (.func 54) #[] #[.pointer (some ⟨bk, 0, none⟩), .pointer (some ⟨bf, 0, none⟩)], .func (.func 55) #[] #[.pointer (some ⟨bf, 0, none⟩), .pointer (some ⟨bd, 0, none⟩)]] 96)) := hW.alloc hW.size _
  have HB1 : Hid (Below W.heap.size W (W.alloc (.cells #[.slice (some ⟨b, off, none⟩) ns.length cap, .int .i64 root, .int .u32 (sh : Int), .slice ro rules.length rc, .func (.func 54) #[] #[.pointer (some ⟨bk, 0, none⟩), .pointer (some ⟨bf, 0, none⟩)], .func (.func 55) #[] #[.pointer (some ⟨bf, 0, none⟩), .pointer (some ⟨bd, 0, none⟩)]] 96))) := (Below.refl _ W).alloc (Nat.le_refl _) _
  have HBx : Hid (∀ V : World, Below (W.heap.size + 1) (W.alloc (.cells #[.slice (some ⟨b, off, none⟩) ns.length cap, .int .i64 root, .int .u32 (sh : Int), .slice ro rules.length rc, .func (.func 54) #[] #[.pointer (some ⟨bk, 0, none⟩), .pointer (some ⟨bf, 0, none⟩)], .func (.func 55) #[] #[.pointer (some ⟨bf, 0, none⟩), .pointer (some ⟨bd, 0, none⟩)]] 96)) V → _) := fun V h => box6 h
  have HU : Hid (∀ V : World, Below (W.heap.size + 1) (W.alloc (.cells #[.slice (some ⟨b, off, none⟩) ns.length cap, .int .i64 root, .int .u32 (sh : Int), .slice ro rules.length rc, .func (.func 54) #[] #[.pointer (some ⟨bk, 0, none⟩), .pointer (some ⟨bf, 0, none⟩)], .func (.func 55) #[] #[.pointer (some ⟨bf, 0, none⟩), .pointer (some ⟨bd, 0, none⟩)]] 96)) V → Below w.heap.size w V) := fun V h => hB0.trans (h.mono (by omega))
  have HE : Hid (∀ V : World, Below (W.heap.size + 1) (W.alloc (.cells #[.slice (some ⟨b, off, none⟩) ns.length cap, .int .i64 root, .int .u32 (sh : Int), .slice ro rules.length rc, .func (.func 54) #[] #[.pointer (some ⟨bk, 0, none⟩), .pointer (some ⟨bf, 0, none⟩)], .func (.func 55) #[] #[.pointer (some ⟨bf, 0, none⟩), .pointer (some ⟨bd, 0, none⟩)]] 96)) V → Below W.heap.size W V) := fun V h => HB1.out.trans (h.mono (by omega))
  have HZ : Hid (∀ V : World, Below (W.heap.size + 1) (W.alloc (.cells #[.slice (some ⟨b, off, none⟩) ns.length cap, .int .i64 root, .int .u32 (sh : Int), .slice ro rules.length rc, .func (.func 54) #[] #[.pointer (some ⟨bk, 0, none⟩), .pointer (some ⟨bf, 0, none⟩)], .func (.func 55) #[] #[.pointer (some ⟨bf, 0, none⟩), .pointer (some ⟨bd, 0, none⟩)]] 96)) V → W.heap.size + 1 ≤ V.heap.size) := fun V h => by have := h.size; simp only [World.size_alloc] at this; exact this
  clear hB0 hs
  have HI : Hid (Below (W.heap.size + 1) (W.alloc (.cells #[.slice (some ⟨b, off, none⟩) ns.length cap, .int .i64 root, .int .u32 (sh : Int), .slice ro rules.length rc, .func (.func 54) #[] #[.pointer (some ⟨bk, 0, none⟩), .pointer (some ⟨bf, 0, none⟩)], .func (.func 55) #[] #[.pointer (some ⟨bf, 0, none⟩), .pointer (some ⟨bd, 0, none⟩)]] 96)) (W.alloc (.cells #[.slice (some ⟨b, off, none⟩) ns.length cap, .int .i64 root, .int .u32 (sh : Int), .slice ro rules.length rc, .func (.func 54) #[] #[.pointer (some ⟨bk, 0, none⟩), .pointer (some ⟨bf, 0, none⟩)], .func (.func 55) #[] #[.pointer (some ⟨bf, 0, none⟩), .pointer (some ⟨bd, 0, none⟩)]] 96))) := Below.refl _ _
  have HN : Hid (∀ (y : Int) (V : World), thereB ns.length y = true → Below w.heap.size w V → _) := fun y V hy hV => tnext_any TC y hy V hV
  have HP : Hid (∀ (y : Int) (V : World), thereB ns.length y = true → Below w.heap.size w V → _) := fun y V hy hV => tparent_any TC y hy V hV
  have HA : Hid (∀ (y : Int) (V : World), thereB ns.length y = true → Below w.heap.size w V → _) := fun y V hy hV => taccepts_any TC y hy V hV
  have HD : Hid (∀ (y : Int) (V : World), thereB ns.length y = true → Below w.heap.size w V → _) := fun y V hy hV => tbottom_any TC y hy V hV
  clear TC hW
  obtain ⟨R, hR⟩ : ∃ R, (if x == root then 0 else (tourD ns root sh rules rev).backR x) = R := ⟨_, rfl⟩
  have hdef : (tourD ns root sh rules rev).backD x = R := hR
  rw [hdef]
  have HR := hid hR
  clear hdef hR
  go_enter Try.func50, Try.ntmps50
  go_wp2
  go_loopw [5] (fun t wr => ∃ y : Int, t = .int .i64 y ∧ Hid (thereB ns.length y = true) ∧ Hid ((if y == root then 0 else (tourD ns root sh rules rev).backR y) = R) ∧ Hid (Below (W.heap.size + 1) (W.alloc (.cells #[.slice (some ⟨b, off, none⟩) ns.length cap, .int .i64 root, .int .u32 (sh : Int), .slice ro rules.length rc, .func (.func 54) #[] #[.pointer (some ⟨bk, 0, none⟩), .pointer (some ⟨bf, 0, none⟩)], .func (.func 55) #[] #[.pointer (some ⟨bf, 0, none⟩), .pointer (some ⟨bd, 0, none⟩)]] 96)) wr)) (fun t _ => (tourD ns root sh rules rev).post (RowKit.intOf t))
  case atStart => exact ⟨x, rfl, hx, HR, HI⟩
  case round =>
    obtain ⟨y, rfl, hy, hY, hB⟩ := hrel
    clear hx HR HI
    obtain ⟨d0, d1, d2, d3, d4, d5⟩ := HBx.out wr hB.out
    cases c0 : (y == root) with
    | true =>
      have n0 : (y != root) = false := by rw [bne, c0]; rfl
      have hR0 : R = 0 := by rw [← hY.out, c0, if_pos rfl]
      subst hR0
      clear hY
      go_wp2
      go_ret
      exact ⟨rfl, HE.out _ hB.out⟩
    | false =>
      have n0 : (y != root) = true := by rw [bne, c0]; rfl
      have hY2 : Hid ((tourD ns root sh rules rev).backR y = R) := by
        have := hY.out
        rw [c0, if_neg Bool.false_ne_true] at this
        exact this
      clear hY
      have HNy : Hid (∀ V : World, Below w.heap.size w V → _) := fun V hV => HN.out y V hy.out hV
      obtain ⟨M0, hM0⟩ : ∃ M0, (tourD ns root sh rules rev).post y = M0 := ⟨_, rfl⟩
      have HM0 := hid hM0
      have HMM : Hid ((tourD ns root sh rules rev).post y ≤ M0) := Nat.le_of_eq hM0
      clear hM0
      go_wp2_with (first
            | (go_at_fn 55; refine (HNy.out _ (HU.out _ hB.out)).mono ?_; rintro r1 v1 ⟨rfl, hb⟩; have HB2 := hid (hB.out.trans (hb.mono (HZ.out _ hB.out))); obtain ⟨i0, i1, i2, i3, i4, i5⟩ := HBx.out _ HB2.out; clear hb)
      )
      go_loopw [5, 6] (fun t s wr => ∃ z k : Int, t = .int .i64 z ∧ s = .int .i64 k ∧ Hid (thereB ns.length z = true) ∧ Hid ((tourD ns root sh rules rev).next z = k) ∧ Hid ((tourD ns root sh rules rev).backR z = R) ∧ Hid ((tourD ns root sh rules rev).post z ≤ M0) ∧ Hid (Below (W.heap.size + 1) (W.alloc (.cells #[.slice (some ⟨b, off, none⟩) ns.length cap, .int .i64 root, .int .u32 (sh : Int), .slice ro rules.length rc, .func (.func 54) #[] #[.pointer (some ⟨bk, 0, none⟩), .pointer (some ⟨bf, 0, none⟩)], .func (.func 55) #[] #[.pointer (some ⟨bf, 0, none⟩), .pointer (some ⟨bd, 0, none⟩)]] 96)) wr)) (fun t _ _ => (tourD ns root sh rules rev).post (RowKit.intOf t))
      case atStart => exact ⟨y, _, rfl, rfl, hy, rfl, hY2, HMM, HB2⟩
      case round =>
        obtain ⟨z, k, rfl, rfl, hz, hk, hZ, hM, hB3⟩ := hrel
        clear hY2 HMM HB2 HNy c0 n0
        obtain ⟨j0, j1, j2, j3, j4, j5⟩ := HBx.out wr hB3.out
        by_cases k0 : k = 0
        · subst k0
          have HPz : Hid (∀ V : World, Below w.heap.size w V → _) := fun V hV => HP.out z V hz.out hV
          cases c1 : (z == root) with
          | true =>
            have hR0 : R = 0 := by rw [← hZ.out]; exact TourD.back_stop hk.out (by show (z == root || _) = true; rw [c1]; rfl)
            subst hR0
            clear hZ hM hk
            go_wp2
            go_ret
            exact ⟨rfl, HE.out _ hB3.out⟩
          | false =>
            cases c2 : ((tourD ns root sh rules rev).up z == 0) with
            | true =>
              have hR0 : R = 0 := by rw [← hZ.out]; exact TourD.back_stop hk.out (by rw [c2, Bool.or_true])
              subst hR0
              clear hZ hM hk
              generalize (tourD ns root sh rules rev).up z = p at *
              go_wp2_with (first
            | (go_at_call 68; refine (HPz.out _ (HU.out _ hB3.out)).mono ?_; rintro r1 v1 ⟨rfl, hb⟩; have HB4 := hid (hB3.out.trans (hb.mono (HZ.out _ hB3.out))); obtain ⟨i0, i1, i2, i3, i4, i5⟩ := HBx.out _ HB4.out; clear hb)
              )
              go_ret
              exact ⟨rfl, HE.out _ HB4.out⟩
            | false =>
              have hpt : thereB ns.length ((tourD ns root sh rules rev).up z) = true := (TourD.up_ok HOK.out hz.out).resolve_left (beq_eq_false_iff_ne.1 c2)
              have hcc : (z == (tourD ns root sh rules rev).root || (tourD ns root sh rules rev).up z == 0) = false := by show (z == root || _) = false; rw [c1, c2]; rfl
              have HAp : Hid (∀ V : World, Below w.heap.size w V → _) := fun V hV => HA.out _ V hpt hV
              cases ha : (tourD ns root sh rules rev).acc ((tourD ns root sh rules rev).up z) with
              | true =>
                have hR0 : (tourD ns root sh rules rev).up z = R := by rw [← hZ.out]; exact (TourD.back_up hk.out hcc ha).symm
                rw [ha] at HAp
                clear hZ hM hk hpt hcc
                rw [hR0] at HAp HPz c2
                clear ha hR0
                go_wp2_with (first
            | (go_at_call 69; refine (HAp.out _ (HU.out _ HB5.out)).mono ?_; rintro r1 v1 ⟨rfl, hb⟩; have HB6 := hid (HB5.out.trans (hb.mono (HZ.out _ HB5.out))); obtain ⟨i0, i1, i2, i3, i4, i5⟩ := HBx.out _ HB6.out; clear hb)
            | (go_at_call 68; refine (HPz.out _ (HU.out _ HB4.out)).mono ?_; rintro r1 v1 ⟨rfl, hb⟩; have HB5 := hid (HB4.out.trans (hb.mono (HZ.out _ HB4.out))); obtain ⟨i0, i1, i2, i3, i4, i5⟩ := HBx.out _ HB5.out; clear hb)
            | (go_at_call 68; refine (HPz.out _ (HU.out _ hB3.out)).mono ?_; rintro r1 v1 ⟨rfl, hb⟩; have HB4 := hid (hB3.out.trans (hb.mono (HZ.out _ hB3.out))); obtain ⟨i0, i1, i2, i3, i4, i5⟩ := HBx.out _ HB4.out; clear hb)
                )
                go_ret
                exact ⟨rfl, HE.out _ HB6.out⟩
              | false =>
                have Hn : Hid ((if (tourD ns root sh rules rev).up z == root then 0 else (tourD ns root sh rules rev).backR ((tourD ns root sh rules rev).up z)) = R) := by
                  rw [← hZ.out]
                  cases cr : ((tourD ns root sh rules rev).up z == root) with
                  | true => exact (TourD.back_root hk.out hcc ha cr).symm
                  | false => exact (TourD.back_over HOK.out hz.out hk.out hcc ha cr).symm
                have Hm : Hid ((tourD ns root sh rules rev).post ((tourD ns root sh rules rev).up z) < (tourD ns root sh rules rev).post y) := by
                  have h1 := TourD.up_post HOK.out hz.out hk.out
                  have h2 := hM.out
                  have h3 := HM0.out
                  show _ < _
                  omega
                have Hpt := hid hpt
                rw [ha] at HAp
                clear hZ hM hk ha hpt hcc
                generalize (tourD ns root sh rules rev).up z = p at *
                go_wp2_with (first
            | (go_at_call 69; refine (HAp.out _ (HU.out _ HB5.out)).mono ?_; rintro r1 v1 ⟨rfl, hb⟩; have HB6 := hid (HB5.out.trans (hb.mono (HZ.out _ HB5.out))); obtain ⟨i0, i1, i2, i3, i4, i5⟩ := HBx.out _ HB6.out; clear hb)
            | (go_at_call 68; refine (HPz.out _ (HU.out _ HB4.out)).mono ?_; rintro r1 v1 ⟨rfl, hb⟩; have HB5 := hid (HB4.out.trans (hb.mono (HZ.out _ HB4.out))); obtain ⟨i0, i1, i2, i3, i4, i5⟩ := HBx.out _ HB5.out; clear hb)
            | (go_at_call 68; refine (HPz.out _ (HU.out _ hB3.out)).mono ?_; rintro r1 v1 ⟨rfl, hb⟩; have HB4 := hid (hB3.out.trans (hb.mono (HZ.out _ hB3.out))); obtain ⟨i0, i1, i2, i3, i4, i5⟩ := HBx.out _ HB4.out; clear hb)
                )
                go_roundw
                case rel => exact ⟨p, rfl, Hpt, Hn, HB6⟩
                case measure => exact Hm.out
        · have n1 : (k != 0) = true := by rw [bne, beq_eq_false_iff_ne.2 k0]; rfl
          have hnz : (tourD ns root sh rules rev).next z ≠ 0 := by rw [hk.out]; exact k0
          have hkt : thereB ns.length k = true := by
            rcases TourD.next_ok HOK.out hz.out with a | a
            · exact absurd a.1 hnz
            · rw [← hk.out]; exact a.1
          obtain ⟨hbt, hbp⟩ := TourD.back_next HOK.out hz.out hnz
          have hhit := @TourD.back_hit (tourD ns root sh rules rev) z hnz
          have hgo := TourD.back_go HOK.out hz.out hnz
          rw [hk.out] at hbt hbp hhit hgo
          have hbt2 : thereB ns.length ((tourD ns root sh rules rev).bottom k) = true := hbt
          have HDk : Hid (∀ V : World, Below w.heap.size w V → _) := fun V hV => HD.out k V hkt hV
          have HAb : Hid (∀ V : World, Below w.heap.size w V → _) := fun V hV => HA.out _ V hbt2 hV
          cases ha : (tourD ns root sh rules rev).acc ((tourD ns root sh rules rev).bottom k) with
          | true =>
            have hR0 : (tourD ns root sh rules rev).bottom k = R := by rw [← hZ.out]; exact (hhit ha).symm
            rw [ha] at HAb
            rw [hR0] at HAb HDk
            clear hZ hM hk ha hhit hgo hbt hbp hbt2 hnz hR0
            go_wp2_with (first
            | (go_at_call 69; refine (HAb.out _ (HU.out _ HB4.out)).mono ?_; rintro r1 v1 ⟨rfl, hb⟩; have HB5 := hid (HB4.out.trans (hb.mono (HZ.out _ HB4.out))); obtain ⟨i0, i1, i2, i3, i4, i5⟩ := HBx.out _ HB5.out; clear hb)
            | (go_at_call 73; refine (HDk.out _ (HU.out _ hB3.out)).mono ?_; rintro r1 v1 ⟨rfl, hb⟩; have HB4 := hid (hB3.out.trans (hb.mono (HZ.out _ hB3.out))); obtain ⟨i0, i1, i2, i3, i4, i5⟩ := HBx.out _ HB4.out; clear hb)
            )
            go_ret
            exact ⟨rfl, HE.out _ HB5.out⟩
          | false =>
            have Hn : Hid ((tourD ns root sh rules rev).backR ((tourD ns root sh rules rev).bottom k) = R) := by rw [← hZ.out]; exact (hgo ha).symm
            have Hlt : Hid ((tourD ns root sh rules rev).post ((tourD ns root sh rules rev).bottom k) < (tourD ns root sh rules rev).post z) := hbp
            have Hle : Hid ((tourD ns root sh rules rev).post ((tourD ns root sh rules rev).bottom k) ≤ M0) := Nat.le_trans (Nat.le_of_lt hbp) hM.out
            have HNb : Hid (∀ V : World, Below w.heap.size w V → _) := fun V hV => HN.out _ V hbt2 hV
            have Hbt := hid hbt2
            rw [ha] at HAb
            clear hZ hM hk ha hhit hgo hbt hbp hbt2 hnz
            generalize (tourD ns root sh rules rev).bottom k = q at *
            go_wp2_with (first
            | (go_at_fn 55; refine (HNb.out _ (HU.out _ HB5.out)).mono ?_; rintro r1 v1 ⟨rfl, hb⟩; have HB6 := hid (HB5.out.trans (hb.mono (HZ.out _ HB5.out))); obtain ⟨i0, i1, i2, i3, i4, i5⟩ := HBx.out _ HB6.out; clear hb)
            | (go_at_call 69; refine (HAb.out _ (HU.out _ HB4.out)).mono ?_; rintro r1 v1 ⟨rfl, hb⟩; have HB5 := hid (HB4.out.trans (hb.mono (HZ.out _ HB4.out))); obtain ⟨i0, i1, i2, i3, i4, i5⟩ := HBx.out _ HB5.out; clear hb)
            | (go_at_call 73; refine (HDk.out _ (HU.out _ hB3.out)).mono ?_; rintro r1 v1 ⟨rfl, hb⟩; have HB4 := hid (hB3.out.trans (hb.mono (HZ.out _ hB3.out))); obtain ⟨i0, i1, i2, i3, i4, i5⟩ := HBx.out _ HB4.out; clear hb)
            )
            go_roundw
            case rel => exact ⟨q, _, rfl, rfl, Hbt, rfl, Hn, Hle, HB6⟩
            case measure => exact Hlt.out
end Go.Proofs.Yteflknfejjdkfaa
