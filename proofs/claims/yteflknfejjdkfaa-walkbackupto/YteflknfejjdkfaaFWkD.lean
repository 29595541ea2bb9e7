/- walk: the ways. -/
import Derived.Test.YteflknfejjdkfaaFWkC
namespace Go.Proofs.Yteflknfejjdkfaa
open Go.RowKit Go.Lib

set_option maxRecDepth 100000 in
set_option maxHeartbeats 4000000 in
theorem tup_any {w : World} {b off cap : Nat} {ns : List NodeD} {root : Int} {sh : Nat} {ro : Option Addr} {rc : Nat} {rules : List RuleD} {rev : Bool} {bk bf bd : Nat} (TC : TourC w b off cap ns root sh ro rc rules rev bk bf bd) (x : Int) (hx : thereB ns.length x = true) (W : World) (hW : Below w.heap.size w W) :
    Calls Try.prog 47 #[.agg #[.slice (some ⟨b, off, none⟩) ns.length cap, .int .i64 root, .int .u32 (sh : Int), .slice ro rules.length rc, .func (.func 54) #[] #[.pointer (some ⟨bk, 0, none⟩), .pointer (some ⟨bf, 0, none⟩)], .func (.func 55) #[] #[.pointer (some ⟨bf, 0, none⟩), .pointer (some ⟨bd, 0, none⟩)]], .int .i64 x] W fun r w' => r = .returned (.int .i64 ((tourD ns root sh rules rev).upD x)) ∧ Below W.heap.size W w' := by
  have eg1 : ∀ args w, (callFunc 54 args).run Try.prog w = .ok (.enter 54 args) w := enters_of Try.func54 (by kernel_rfl) rfl
  have eg2 : ∀ args w, (callFunc 55 args).run Try.prog w = .ok (.enter 55 args) w := enters_of Try.func55 (by kernel_rfl) rfl
  have HOK := hid TC.ok
  have hs := hW.size
  have hB0 : Below w.heap.size w (W.alloc (.cells #[.slice (some ⟨b, off, none⟩) ns.length cap, .int .i64 root, .int .u32 (sh : Int), .slice ro rules.length rc, .func (.func 54) #[] #[.pointer (some ⟨bk, 0, none⟩), .pointer (some ⟨bf, 0, none⟩)], .func (.func 55) #[] #[.pointer (some ⟨bf, 0, none⟩), .pointer (some ⟨bd, 0, none⟩)]] 96)) := hW.alloc hW.size _
  have HB1 : Hid (Below W.heap.size W (W.alloc (.cells #[.slice (some ⟨b, off, none⟩) ns.length cap, .int .i64 root, .int .u32 (sh : Int), .slice ro rules.length rc, .func (.func 54) #[] #[.pointer (some ⟨bk, 0, none⟩), .pointer (some ⟨bf, 0, none⟩)], .func (.func 55) #[] #[.pointer (some ⟨bf, 0, none⟩), .pointer (some ⟨bd, 0, none⟩)]] 96))) := (Below.refl _ W).alloc (Nat.le_refl _) _
  have HBx : Hid (∀ V : World, Below (W.heap.size + 1) (W.alloc (.cells #[.slice (some ⟨b, off, none⟩) ns.length cap, .int .i64 root, .int .u32 (sh : Int), .slice ro rules.length rc, .func (.func 54) #[] #[.pointer (some ⟨bk, 0, none⟩), .pointer (some ⟨bf, 0, none⟩)], .func (.func 55) #[] #[.pointer (some ⟨bf, 0, none⟩), .pointer (some ⟨bd, 0, none⟩)]] 96)) V → _) := fun V h => box6 h
  have HU : Hid (∀ V : World, Below (W.heap.size + 1) (W.alloc (.cells #[.slice (some ⟨b, off, none⟩) ns.length cap, .int .i64 root, .int .u32 (sh : Int), .slice ro rules.length rc, .func (.func 54) #[] #[.pointer (some ⟨bk, 0, none⟩), .pointer (some ⟨bf, 0, none⟩)], .func (.func 55) #[] #[.pointer (some ⟨bf, 0, none⟩), .pointer (some ⟨bd, 0, none⟩)]] 96)) V → Below w.heap.size w V) := fun V h => hB0.trans (h.mono (by omega))
  have HE : Hid (∀ V : World, Below (W.heap.size + 1) (W.alloc (.cells #[.slice (some ⟨b, off, none⟩) ns.length cap, .int .i64 root, .int .u32 (sh : Int), .slice ro rules.length rc, .func (.func 54) #[] #[.pointer (some ⟨bk, 0, none⟩), .pointer (some ⟨bf, 0, none⟩)], .func (.func 55) #[] #[.pointer (some ⟨bf, 0, none⟩), .pointer (some ⟨bd, 0, none⟩)]] 96)) V → Below W.heap.size W V) := fun V h => HB1.out.trans (h.mono (by omega))
  have HZ : Hid (∀ V : World, Below (W.heap.size + 1) (W.alloc (.cells #[.slice (some ⟨b, off, none⟩) ns.length cap, .int .i64 root, .int .u32 (sh : Int), .slice ro rules.length rc, .func (.func 54) #[] #[.pointer (some ⟨bk, 0, none⟩), .pointer (some ⟨bf, 0, none⟩)], .func (.func 55) #[] #[.pointer (some ⟨bf, 0, none⟩), .pointer (some ⟨bd, 0, none⟩)]] 96)) V → W.heap.size + 1 ≤ V.heap.size) := fun V h => by have := h.size; simp only [World.size_alloc] at this; exact this
  clear hB0 hs
  have HP : Hid (∀ (y : Int) (V : World), thereB ns.length y = true → Below w.heap.size w V → _) := fun y V hy hV => tparent_any TC y hy V hV
  have HA : Hid (∀ (y : Int) (V : World), thereB ns.length y = true → Below w.heap.size w V → _) := fun y V hy hV => taccepts_any TC y hy V hV
  obtain ⟨R, hR⟩ : ∃ R, (tourD ns root sh rules rev).upD x = R := ⟨_, rfl⟩
  rw [hR]
  have HR := hid hR
  clear hR
  clear TC hW
  go_enter Try.func47, Try.ntmps47
  go_wp2
  go_loopw [5] (fun t wr => ∃ y : Int, t = .int .i64 y ∧ Hid (thereB ns.length y = true) ∧ Hid ((tourD ns root sh rules rev).upD y = R) ∧ Hid (Below (W.heap.size + 1) (W.alloc (.cells #[.slice (some ⟨b, off, none⟩) ns.length cap, .int .i64 root, .int .u32 (sh : Int), .slice ro rules.length rc, .func (.func 54) #[] #[.pointer (some ⟨bk, 0, none⟩), .pointer (some ⟨bf, 0, none⟩)], .func (.func 55) #[] #[.pointer (some ⟨bf, 0, none⟩), .pointer (some ⟨bd, 0, none⟩)]] 96)) wr)) (fun t _ => (tourD ns root sh rules rev).len (RowKit.intOf t))
  case atStart => exact ⟨x, rfl, hx, HR, Below.refl _ _⟩
  case round =>
    obtain ⟨y, rfl, hy, hY, hB⟩ := hrel
    clear hx
    obtain ⟨d0, d1, d2, d3, d4, d5⟩ := HBx.out wr hB.out
    have HPy : Hid (∀ V : World, Below w.heap.size w V → _) := fun V hV => HP.out y V hy.out hV
    have HU2 := hid (TourD.up_len HOK.out hy.out)
    cases c1 : (y == root) with
    | true =>
      have n1 : (y != root) = false := by rw [bne, c1]; rfl
      have hR0 : R = 0 := by rw [← hY.out]; exact TourD.up_stop (by show (y == root || _) = true; rw [c1]; rfl)
      subst hR0
      clear hY
      go_wp2
      go_ret
      exact ⟨rfl, HE.out _ hB.out⟩
    | false =>
      have n1 : (y != root) = true := by rw [bne, c1]; rfl
      cases c2 : ((tourD ns root sh rules rev).up y == 0) with
      | true =>
        have hR0 : R = 0 := by rw [← hY.out]; exact TourD.up_stop (by rw [c2, Bool.or_true])
        subst hR0
        have n2 : ((tourD ns root sh rules rev).up y != 0) = false := by rw [bne, c2]; rfl
        clear hY HU2
        generalize (tourD ns root sh rules rev).up y = p at *
        go_wp2_with (first
            | (go_at_call 68; refine (HPy.out _ (HU.out _ hB.out)).mono ?_; rintro r1 v1 ⟨rfl, hb⟩; have HB2 := hid (hB.out.trans (hb.mono (HZ.out _ hB.out))); obtain ⟨i0, i1, i2, i3, i4, i5⟩ := HBx.out _ HB2.out; clear hb)
        )
        go_ret
        exact ⟨rfl, HE.out _ HB2.out⟩
      | false =>
        have hpt : thereB ns.length ((tourD ns root sh rules rev).up y) = true := (TourD.up_ok HOK.out hy.out).resolve_left (beq_eq_false_iff_ne.1 c2)
        have n2 : ((tourD ns root sh rules rev).up y != 0) = true := by rw [bne, c2]; rfl
        have hcc : (y == (tourD ns root sh rules rev).root || (tourD ns root sh rules rev).up y == 0) = false := by show (y == root || _) = false; rw [c1, c2]; rfl
        have HAp : Hid (∀ V : World, Below w.heap.size w V → _) := fun V hV => HA.out _ V hpt hV
        cases ha : (tourD ns root sh rules rev).acc ((tourD ns root sh rules rev).up y) with
        | true =>
          have hR0 : (tourD ns root sh rules rev).up y = R := by rw [← hY.out]; exact (TourD.up_hit hcc ha).symm
          rw [ha] at HAp
          clear hY HU2 hcc
          rw [hR0] at HAp HPy n2 c2
          clear ha hR0
          go_wp2_with (first
            | (go_at_call 69; refine (HAp.out _ (HU.out _ HB3.out)).mono ?_; rintro r1 v1 ⟨rfl, hb⟩; have HB4 := hid (HB3.out.trans (hb.mono (HZ.out _ HB3.out))); obtain ⟨i0, i1, i2, i3, i4, i5⟩ := HBx.out _ HB4.out; clear hb)
            | (go_at_call 68; refine (HPy.out _ (HU.out _ HB2.out)).mono ?_; rintro r1 v1 ⟨rfl, hb⟩; have HB3 := hid (HB2.out.trans (hb.mono (HZ.out _ HB2.out))); obtain ⟨i0, i1, i2, i3, i4, i5⟩ := HBx.out _ HB3.out; clear hb)
            | (go_at_call 68; refine (HPy.out _ (HU.out _ hB.out)).mono ?_; rintro r1 v1 ⟨rfl, hb⟩; have HB2 := hid (hB.out.trans (hb.mono (HZ.out _ hB.out))); obtain ⟨i0, i1, i2, i3, i4, i5⟩ := HBx.out _ HB2.out; clear hb)
          )
          go_ret
          exact ⟨rfl, HE.out _ HB4.out⟩
        | false =>
          have Hn : Hid ((tourD ns root sh rules rev).upD ((tourD ns root sh rules rev).up y) = R) := by rw [← hY.out]; exact (TourD.up_go HOK.out hy.out hcc ha).symm
          have Hm : Hid ((tourD ns root sh rules rev).len ((tourD ns root sh rules rev).up y) < (tourD ns root sh rules rev).len y) := by
            have := HU2.out
            show _ < _
            omega
          have Hpt := hid hpt
          rw [ha] at HAp
          clear hY HU2 hcc ha hpt
          generalize (tourD ns root sh rules rev).up y = p at *
          go_wp2_with (first
            | (go_at_call 69; refine (HAp.out _ (HU.out _ HB3.out)).mono ?_; rintro r1 v1 ⟨rfl, hb⟩; have HB4 := hid (HB3.out.trans (hb.mono (HZ.out _ HB3.out))); obtain ⟨i0, i1, i2, i3, i4, i5⟩ := HBx.out _ HB4.out; clear hb)
            | (go_at_call 68; refine (HPy.out _ (HU.out _ HB2.out)).mono ?_; rintro r1 v1 ⟨rfl, hb⟩; have HB3 := hid (HB2.out.trans (hb.mono (HZ.out _ HB2.out))); obtain ⟨i0, i1, i2, i3, i4, i5⟩ := HBx.out _ HB3.out; clear hb)
            | (go_at_call 68; refine (HPy.out _ (HU.out _ hB.out)).mono ?_; rintro r1 v1 ⟨rfl, hb⟩; have HB2 := hid (hB.out.trans (hb.mono (HZ.out _ hB.out))); obtain ⟨i0, i1, i2, i3, i4, i5⟩ := HBx.out _ HB2.out; clear hb)
          )
          go_roundw
          case rel => exact ⟨p, rfl, Hpt, Hn, HB4⟩
          case measure => exact Hm.out
set_option maxRecDepth 100000 in
set_option maxHeartbeats 4000000 in
theorem tbottom_any {w : World} {b off cap : Nat} {ns : List NodeD} {root : Int} {sh : Nat} {ro : Option Addr} {rc : Nat} {rules : List RuleD} {rev : Bool} {bk bf bd : Nat} (TC : TourC w b off cap ns root sh ro rc rules rev bk bf bd) (x : Int) (hx : thereB ns.length x = true) (W : World) (hW : Below w.heap.size w W) :
    Calls Try.prog 73 #[.agg #[.slice (some ⟨b, off, none⟩) ns.length cap, .int .i64 root, .int .u32 (sh : Int), .slice ro rules.length rc, .func (.func 54) #[] #[.pointer (some ⟨bk, 0, none⟩), .pointer (some ⟨bf, 0, none⟩)], .func (.func 55) #[] #[.pointer (some ⟨bf, 0, none⟩), .pointer (some ⟨bd, 0, none⟩)]], .int .i64 x] W fun r w' => r = .returned (.int .i64 ((tourD ns root sh rules rev).bottom x)) ∧ Below W.heap.size W w' := by
  have eg1 : ∀ args w, (callFunc 54 args).run Try.prog w = .ok (.enter 54 args) w := enters_of Try.func54 (by kernel_rfl) rfl
  have eg2 : ∀ args w, (callFunc 55 args).run Try.prog w = .ok (.enter 55 args) w := enters_of Try.func55 (by kernel_rfl) rfl
  have HOK := hid TC.ok
  have hs := hW.size
  have hB0 : Below w.heap.size w (W.alloc (.cells #[.slice (some ⟨b, off, none⟩) ns.length cap, .int .i64 root, .int .u32 (sh : Int), .slice ro rules.length rc, .func (.func 54) #[] #[.pointer (some ⟨bk, 0, none⟩), .pointer (some ⟨bf, 0, none⟩)], .func (.func 55) #[] #[.pointer (some ⟨bf, 0, none⟩), .pointer (some ⟨bd, 0, none⟩)]] 96)) := hW.alloc hW.size _
  have HB1 : Hid (Below W.heap.size W (W.alloc (.cells #[.slice (some ⟨b, off, none⟩) ns.length cap, .int .i64 root, .int .u32 (sh : Int), .slice ro rules.length rc, .func (.func 54) #[] #[.pointer (some ⟨bk, 0, none⟩), .pointer (some ⟨bf, 0, none⟩)], .func (.func 55) #[] #[.pointer (some ⟨bf, 0, none⟩), .pointer (some ⟨bd, 0, none⟩)]] 96))) := (Below.refl _ W).alloc (Nat.le_refl _) _
  have HBx : Hid (∀ V : World, Below (W.heap.size + 1) (W.alloc (.cells #[.slice (some ⟨b, off, none⟩) ns.length cap, .int .i64 root, .int .u32 (sh : Int), .slice ro rules.length rc, .func (.func 54) #[] #[.pointer (some ⟨bk, 0, none⟩), .pointer (some ⟨bf, 0, none⟩)], .func (.func 55) #[] #[.pointer (some ⟨bf, 0, none⟩), .pointer (some ⟨bd, 0, none⟩)]] 96)) V → _) := fun V h => box6 h
  have HU : Hid (∀ V : World, Below (W.heap.size + 1) (W.alloc (.cells #[.slice (some ⟨b, off, none⟩) ns.length cap, .int .i64 root, .int .u32 (sh : Int), .slice ro rules.length rc, .func (.func 54) #[] #[.pointer (some ⟨bk, 0, none⟩), .pointer (some ⟨bf, 0, none⟩)], .func (.func 55) #[] #[.pointer (some ⟨bf, 0, none⟩), .pointer (some ⟨bd, 0, none⟩)]] 96)) V → Below w.heap.size w V) := fun V h => hB0.trans (h.mono (by omega))
  have HE : Hid (∀ V : World, Below (W.heap.size + 1) (W.alloc (.cells #[.slice (some ⟨b, off, none⟩) ns.length cap, .int .i64 root, .int .u32 (sh : Int), .slice ro rules.length rc, .func (.func 54) #[] #[.pointer (some ⟨bk, 0, none⟩), .pointer (some ⟨bf, 0, none⟩)], .func (.func 55) #[] #[.pointer (some ⟨bf, 0, none⟩), .pointer (some ⟨bd, 0, none⟩)]] 96)) V → Below W.heap.size W V) := fun V h => HB1.out.trans (h.mono (by omega))
  have HZ : Hid (∀ V : World, Below (W.heap.size + 1) (W.alloc (.cells #[.slice (some ⟨b, off, none⟩) ns.length cap, .int .i64 root, .int .u32 (sh : Int), .slice ro rules.length rc, .func (.func 54) #[] #[.pointer (some ⟨bk, 0, none⟩), .pointer (some ⟨bf, 0, none⟩)], .func (.func 55) #[] #[.pointer (some ⟨bf, 0, none⟩), .pointer (some ⟨bd, 0, none⟩)]] 96)) V → W.heap.size + 1 ≤ V.heap.size) := fun V h => by have := h.size; simp only [World.size_alloc] at this; exact this
  clear hB0 hs
  have HI : Hid (Below (W.heap.size + 1) (W.alloc (.cells #[.slice (some ⟨b, off, none⟩) ns.length cap, .int .i64 root, .int .u32 (sh : Int), .slice ro rules.length rc, .func (.func 54) #[] #[.pointer (some ⟨bk, 0, none⟩), .pointer (some ⟨bf, 0, none⟩)], .func (.func 55) #[] #[.pointer (some ⟨bf, 0, none⟩), .pointer (some ⟨bd, 0, none⟩)]] 96)) (W.alloc (.cells #[.slice (some ⟨b, off, none⟩) ns.length cap, .int .i64 root, .int .u32 (sh : Int), .slice ro rules.length rc, .func (.func 54) #[] #[.pointer (some ⟨bk, 0, none⟩), .pointer (some ⟨bf, 0, none⟩)], .func (.func 55) #[] #[.pointer (some ⟨bf, 0, none⟩), .pointer (some ⟨bd, 0, none⟩)]] 96))) := Below.refl _ _
  have HT : Hid (∀ (y : Int) (V : World), thereB ns.length y = true → Below w.heap.size w V → _) := fun y V hy hV => tinto_any TC y hy V hV
  obtain ⟨R, hR⟩ : ∃ R, (tourD ns root sh rules rev).bottom x = R := ⟨_, rfl⟩
  rw [hR]
  have HR := hid hR
  clear hR
  have HTx : Hid (∀ V : World, Below w.heap.size w V → _) := fun V hV => HT.out x V hx hV
  clear TC hW
  go_enter Try.func73, Try.ntmps73
  go_wp2_with (first
            | (go_at_call 70; refine (HTx.out _ (HU.out _ HI.out)).mono ?_; rintro r1 v1 ⟨rfl, hb⟩; have HB2 := hid (HI.out.trans (hb.mono (HZ.out _ HI.out))); obtain ⟨i0, i1, i2, i3, i4, i5⟩ := HBx.out _ HB2.out; clear hb)
  )
  go_loopw [5, 6] (fun t s wr => ∃ y k : Int, t = .int .i64 y ∧ s = .int .i64 k ∧ Hid ((tourD ns root sh rules rev).into y = k) ∧ Hid (thereB ns.length y = true) ∧ Hid ((tourD ns root sh rules rev).bottom y = R) ∧ Hid (Below (W.heap.size + 1) (W.alloc (.cells #[.slice (some ⟨b, off, none⟩) ns.length cap, .int .i64 root, .int .u32 (sh : Int), .slice ro rules.length rc, .func (.func 54) #[] #[.pointer (some ⟨bk, 0, none⟩), .pointer (some ⟨bf, 0, none⟩)], .func (.func 55) #[] #[.pointer (some ⟨bf, 0, none⟩), .pointer (some ⟨bd, 0, none⟩)]] 96)) wr)) (fun t _ _ => (tourD ns root sh rules rev).rank (RowKit.intOf t))
  case atStart => exact ⟨x, _, rfl, rfl, rfl, hx, HR, HB2⟩
  case round =>
    obtain ⟨y, k, rfl, rfl, hk, hy, hY, hB⟩ := hrel
    clear hx HTx HR HB2
    obtain ⟨d0, d1, d2, d3, d4, d5⟩ := HBx.out wr hB.out
    cases c1 : (k == 0) with
    | true =>
      have n1 : (k != 0) = false := by rw [bne, c1]; rfl
      have hR0 : R = y := by rw [← hY.out]; exact TourD.bottom_end (hk.out.trans (eq_of_beq c1))
      subst hR0
      clear hY hk
      go_wp2
      go_ret
      exact ⟨rfl, HE.out _ hB.out⟩
    | false =>
      have n1 : (k != 0) = true := by rw [bne, c1]; rfl
      have h0 : (tourD ns root sh rules rev).into y ≠ 0 := by rw [hk.out]; exact beq_eq_false_iff_ne.1 c1
      obtain ⟨_, _, ht, _, hrk⟩ := (TourD.into_ok HOK.out hy.out).resolve_left h0
      have hg := TourD.bottom_go HOK.out hy.out h0
      rw [hk.out] at ht hrk hg
      have Hn : Hid ((tourD ns root sh rules rev).bottom k = R) := by rw [← hY.out]; exact hg.symm
      have Hm : Hid ((tourD ns root sh rules rev).rank k < (tourD ns root sh rules rev).rank y) := by show _ < _; omega
      have Ht : Hid (thereB ns.length k = true) := ht
      have HTk : Hid (∀ V : World, Below w.heap.size w V → _) := fun V hV => HT.out k V Ht.out hV
      clear hY hrk ht hg h0 hk
      go_wp2_with (first
            | (go_at_call 70; refine (HTk.out _ (HU.out _ hB.out)).mono ?_; rintro r1 v1 ⟨rfl, hb⟩; have HB3 := hid (hB.out.trans (hb.mono (HZ.out _ hB.out))); obtain ⟨i0, i1, i2, i3, i4, i5⟩ := HBx.out _ HB3.out; clear hb)
      )
      go_roundw
      case rel => exact ⟨k, _, rfl, rfl, rfl, Ht, Hn, HB3⟩
      case measure => exact Hm.out
set_option maxRecDepth 100000 in
set_option maxHeartbeats 4000000 in
theorem tdown_any {w : World} {b off cap : Nat} {ns : List NodeD} {root : Int} {sh : Nat} {ro : Option Addr} {rc : Nat} {rules : List RuleD} {rev : Bool} {bk bf bd : Nat} (TC : TourC w b off cap ns root sh ro rc rules rev bk bf bd) (x : Int) (hx : thereB ns.length x = true) (W : World) (hW : Below w.heap.size w W) :
    Calls Try.prog 48 #[.agg #[.slice (some ⟨b, off, none⟩) ns.length cap, .int .i64 root, .int .u32 (sh : Int), .slice ro rules.length rc, .func (.func 54) #[] #[.pointer (some ⟨bk, 0, none⟩), .pointer (some ⟨bf, 0, none⟩)], .func (.func 55) #[] #[.pointer (some ⟨bf, 0, none⟩), .pointer (some ⟨bd, 0, none⟩)]], .int .i64 x] W fun r w' => r = .returned (.int .i64 ((tourD ns root sh rules rev).downD x)) ∧ Below W.heap.size W w' := by
  have eg1 : ∀ args w, (callFunc 54 args).run Try.prog w = .ok (.enter 54 args) w := enters_of Try.func54 (by kernel_rfl) rfl
  have eg2 : ∀ args w, (callFunc 55 args).run Try.prog w = .ok (.enter 55 args) w := enters_of Try.func55 (by kernel_rfl) rfl
  have HOK := hid TC.ok
  have hs := hW.size
  have hB0 : Below w.heap.size w (W.alloc (.cells #[.slice (some ⟨b, off, none⟩) ns.length cap, .int .i64 root, .int .u32 (sh : Int), .slice ro rules.length rc, .func (.func 54) #[] #[.pointer (some ⟨bk, 0, none⟩), .pointer (some ⟨bf, 0, none⟩)], .func (.func 55) #[] #[.pointer (some ⟨bf, 0, none⟩), .pointer (some ⟨bd, 0, none⟩)]] 96)) := hW.alloc hW.size _
  have HB1 : Hid (Below W.heap.size W (W.alloc (.cells #[.slice (some ⟨b, off, none⟩) ns.length cap, .int .i64 root, .int .u32 (sh : Int), .slice ro rules.length rc, .func (.func 54) #[] #[.pointer (some ⟨bk, 0, none⟩), .pointer (some ⟨bf, 0, none⟩)], .func (.func 55) #[] #[.pointer (some ⟨bf, 0, none⟩), .pointer (some ⟨bd, 0, none⟩)]] 96))) := (Below.refl _ W).alloc (Nat.le_refl _) _
  have HBx : Hid (∀ V : World, Below (W.heap.size + 1) (W.alloc (.cells #[.slice (some ⟨b, off, none⟩) ns.length cap, .int .i64 root, .int .u32 (sh : Int), .slice ro rules.length rc, .func (.func 54) #[] #[.pointer (some ⟨bk, 0, none⟩), .pointer (some ⟨bf, 0, none⟩)], .func (.func 55) #[] #[.pointer (some ⟨bf, 0, none⟩), .pointer (some ⟨bd, 0, none⟩)]] 96)) V → _) := fun V h => box6 h
  have HU : Hid (∀ V : World, Below (W.heap.size + 1) (W.alloc (.cells #[.slice (some ⟨b, off, none⟩) ns.length cap, .int .i64 root, .int .u32 (sh : Int), .slice ro rules.length rc, .func (.func 54) #[] #[.pointer (some ⟨bk, 0, none⟩), .pointer (some ⟨bf, 0, none⟩)], .func (.func 55) #[] #[.pointer (some ⟨bf, 0, none⟩), .pointer (some ⟨bd, 0, none⟩)]] 96)) V → Below w.heap.size w V) := fun V h => hB0.trans (h.mono (by omega))
  have HE : Hid (∀ V : World, Below (W.heap.size + 1) (W.alloc (.cells #[.slice (some ⟨b, off, none⟩) ns.length cap, .int .i64 root, .int .u32 (sh : Int), .slice ro rules.length rc, .func (.func 54) #[] #[.pointer (some ⟨bk, 0, none⟩), .pointer (some ⟨bf, 0, none⟩)], .func (.func 55) #[] #[.pointer (some ⟨bf, 0, none⟩), .pointer (some ⟨bd, 0, none⟩)]] 96)) V → Below W.heap.size W V) := fun V h => HB1.out.trans (h.mono (by omega))
  have HZ : Hid (∀ V : World, Below (W.heap.size + 1) (W.alloc (.cells #[.slice (some ⟨b, off, none⟩) ns.length cap, .int .i64 root, .int .u32 (sh : Int), .slice ro rules.length rc, .func (.func 54) #[] #[.pointer (some ⟨bk, 0, none⟩), .pointer (some ⟨bf, 0, none⟩)], .func (.func 55) #[] #[.pointer (some ⟨bf, 0, none⟩), .pointer (some ⟨bd, 0, none⟩)]] 96)) V → W.heap.size + 1 ≤ V.heap.size) := fun V h => by have := h.size; simp only [World.size_alloc] at this; exact this
  clear hB0 hs
  have HI : Hid (Below (W.heap.size + 1) (W.alloc (.cells #[.slice (some ⟨b, off, none⟩) ns.length cap, .int .i64 root, .int .u32 (sh : Int), .slice ro rules.length rc, .func (.func 54) #[] #[.pointer (some ⟨bk, 0, none⟩), .pointer (some ⟨bf, 0, none⟩)], .func (.func 55) #[] #[.pointer (some ⟨bf, 0, none⟩), .pointer (some ⟨bd, 0, none⟩)]] 96)) (W.alloc (.cells #[.slice (some ⟨b, off, none⟩) ns.length cap, .int .i64 root, .int .u32 (sh : Int), .slice ro rules.length rc, .func (.func 54) #[] #[.pointer (some ⟨bk, 0, none⟩), .pointer (some ⟨bf, 0, none⟩)], .func (.func 55) #[] #[.pointer (some ⟨bf, 0, none⟩), .pointer (some ⟨bd, 0, none⟩)]] 96))) := Below.refl _ _
  have HT : Hid (∀ (y : Int) (V : World), thereB ns.length y = true → Below w.heap.size w V → _) := fun y V hy hV => tinto_any TC y hy V hV
  have HA : Hid (∀ (y : Int) (V : World), thereB ns.length y = true → Below w.heap.size w V → _) := fun y V hy hV => taccepts_any TC y hy V hV
  have HP : Hid (∀ (y : Int) (V : World), thereB ns.length y = true → Below w.heap.size w V → _) := fun y V hy hV => tpast_any TC x y hy V hV
  have HKx : Hid (∀ V : World, Below w.heap.size w V → _) := fun V hV => tkid_any TC x hx V hV
  have HK0 : Hid ((tourD ns root sh rules rev).kid x = 0 ∨ thereB ns.length ((tourD ns root sh rules rev).kid x) = true) := (TourD.kid_ok HOK.out hx).imp id (fun h => h.1)
  obtain ⟨R, hR⟩ : ∃ R, (tourD ns root sh rules rev).downR x ((tourD ns root sh rules rev).kid x) = R := ⟨_, rfl⟩
  have hR2 : (tourD ns root sh rules rev).downD x = R := hR
  rw [hR2]
  have HR := hid hR
  clear hR hR2
  clear TC hW
  generalize (tourD ns root sh rules rev).kid x = k0 at *
  go_enter Try.func48, Try.ntmps48
  go_wp2_with (first
            | (go_at_fn 54; refine (HKx.out _ (HU.out _ HI.out)).mono ?_; rintro r1 v1 ⟨rfl, hb⟩; have HB2 := hid (HI.out.trans (hb.mono (HZ.out _ HI.out))); obtain ⟨i0, i1, i2, i3, i4, i5⟩ := HBx.out _ HB2.out; clear hb)
  )
  go_loopw [5] (fun t wr => ∃ y : Int, t = .int .i64 y ∧ Hid (y = 0 ∨ thereB ns.length y = true) ∧ Hid ((tourD ns root sh rules rev).downR x y = R) ∧ Hid (Below (W.heap.size + 1) (W.alloc (.cells #[.slice (some ⟨b, off, none⟩) ns.length cap, .int .i64 root, .int .u32 (sh : Int), .slice ro rules.length rc, .func (.func 54) #[] #[.pointer (some ⟨bk, 0, none⟩), .pointer (some ⟨bf, 0, none⟩)], .func (.func 55) #[] #[.pointer (some ⟨bf, 0, none⟩), .pointer (some ⟨bd, 0, none⟩)]] 96)) wr)) (fun t _ => (tourD ns root sh rules rev).rank (RowKit.intOf t))
  case atStart => exact ⟨_, rfl, HK0.out, HR, HB2⟩
  case round =>
    obtain ⟨y, rfl, hy, hY, hB⟩ := hrel
    clear HR HKx HB2 HK0
    obtain ⟨d0, d1, d2, d3, d4, d5⟩ := HBx.out wr hB.out
    by_cases h0 : y = 0
    · subst h0
      have hR0 : R = 0 := by rw [← hY.out]; exact TourD.down_end x rfl
      subst hR0
      clear hY
      go_wp2
      go_ret
      exact ⟨rfl, HE.out _ hB.out⟩
    · have hyt : thereB ns.length y = true := hy.out.resolve_left h0
      have n0 : (y != 0) = true := by rw [bne, beq_eq_false_iff_ne.2 h0]; rfl
      have HAy : Hid (∀ V : World, Below w.heap.size w V → _) := fun V hV => HA.out y V hyt hV
      cases ha : (tourD ns root sh rules rev).acc y with
      | true =>
        have hR0 : R = y := by rw [← hY.out]; exact TourD.down_end x (by rw [ha, Bool.or_true])
        subst hR0
        rw [ha] at HAy
        clear hY ha
        go_wp2_with (first
            | (go_at_call 69; refine (HAy.out _ (HU.out _ hB.out)).mono ?_; rintro r1 v1 ⟨rfl, hb⟩; have HB3 := hid (hB.out.trans (hb.mono (HZ.out _ hB.out))); obtain ⟨i0, i1, i2, i3, i4, i5⟩ := HBx.out _ HB3.out; clear hb)
        )
        go_ret
        exact ⟨rfl, HE.out _ HB3.out⟩
      | false =>
        rw [ha] at HAy
        have HTy : Hid (∀ V : World, Below w.heap.size w V → _) := fun V hV => HT.out y V hyt hV
        cases c1 : ((tourD ns root sh rules rev).into y == 0) with
        | true =>
          have h1 := eq_of_beq c1
          rw [h1] at HTy
          have Hn : Hid ((tourD ns root sh rules rev).downR x ((tourD ns root sh rules rev).past y x) = R) := by rw [← hY.out]; exact (TourD.down_past HOK.out x hyt ha h1).symm
          obtain ⟨hok, hlt⟩ := TourD.past_lt HOK.out x hyt
          have Hok : Hid ((tourD ns root sh rules rev).past y x = 0 ∨ thereB ns.length ((tourD ns root sh rules rev).past y x) = true) := hok
          have Hlt : Hid ((tourD ns root sh rules rev).rank ((tourD ns root sh rules rev).past y x) < (tourD ns root sh rules rev).rank y) := hlt
          have HPy : Hid (∀ V : World, Below w.heap.size w V → _) := fun V hV => HP.out y V hyt hV
          clear hY ha hok hlt c1 h1
          generalize (tourD ns root sh rules rev).past y x = q at *
          go_wp2_with (first
            | (go_at_call 71; refine (HPy.out _ (HU.out _ HB4.out)).mono ?_; rintro r1 v1 ⟨rfl, hb⟩; have HB5 := hid (HB4.out.trans (hb.mono (HZ.out _ HB4.out))); obtain ⟨i0, i1, i2, i3, i4, i5⟩ := HBx.out _ HB5.out; clear hb)
            | (go_at_call 70; refine (HTy.out _ (HU.out _ HB3.out)).mono ?_; rintro r1 v1 ⟨rfl, hb⟩; have HB4 := hid (HB3.out.trans (hb.mono (HZ.out _ HB3.out))); obtain ⟨i0, i1, i2, i3, i4, i5⟩ := HBx.out _ HB4.out; clear hb)
            | (go_at_call 69; refine (HAy.out _ (HU.out _ hB.out)).mono ?_; rintro r1 v1 ⟨rfl, hb⟩; have HB3 := hid (hB.out.trans (hb.mono (HZ.out _ hB.out))); obtain ⟨i0, i1, i2, i3, i4, i5⟩ := HBx.out _ HB3.out; clear hb)
          )
          go_roundw
          case rel => exact ⟨q, rfl, Hok, Hn, HB5⟩
          case measure => exact Hlt.out
        | false =>
          have h1 := beq_eq_false_iff_ne.1 c1
          have n1 : ((tourD ns root sh rules rev).into y != 0) = true := by rw [bne, c1]; rfl
          have Hn : Hid ((tourD ns root sh rules rev).downR x ((tourD ns root sh rules rev).into y) = R) := by rw [← hY.out]; exact (TourD.down_into HOK.out x hyt ha h1).symm
          obtain ⟨hkk, hrj, ht, hpp, hrk⟩ := (TourD.into_ok HOK.out hyt).resolve_left h1
          have Hok : Hid ((tourD ns root sh rules rev).into y = 0 ∨ thereB ns.length ((tourD ns root sh rules rev).into y) = true) := .inr ht
          have Hlt : Hid ((tourD ns root sh rules rev).rank ((tourD ns root sh rules rev).into y) < (tourD ns root sh rules rev).rank y) := by show _ < _; omega
          clear hY ha c1 h1 ht hrk hkk hrj hpp
          generalize (tourD ns root sh rules rev).into y = q at *
          go_wp2_with (first
            | (go_at_call 70; refine (HTy.out _ (HU.out _ HB3.out)).mono ?_; rintro r1 v1 ⟨rfl, hb⟩; have HB4 := hid (HB3.out.trans (hb.mono (HZ.out _ HB3.out))); obtain ⟨i0, i1, i2, i3, i4, i5⟩ := HBx.out _ HB4.out; clear hb)
            | (go_at_call 69; refine (HAy.out _ (HU.out _ hB.out)).mono ?_; rintro r1 v1 ⟨rfl, hb⟩; have HB3 := hid (hB.out.trans (hb.mono (HZ.out _ hB.out))); obtain ⟨i0, i1, i2, i3, i4, i5⟩ := HBx.out _ HB3.out; clear hb)
          )
          go_roundw
          case rel => exact ⟨q, rfl, Hok, Hn, HB4⟩
          case measure => exact Hlt.out
set_option maxRecDepth 100000 in
set_option maxHeartbeats 4000000 in
theorem ton_any {w : World} {b off cap : Nat} {ns : List NodeD} {root : Int} {sh : Nat} {ro : Option Addr} {rc : Nat} {rules : List RuleD} {rev : Bool} {bk bf bd : Nat} (TC : TourC w b off cap ns root sh ro rc rules rev bk bf bd) (x : Int) (hx : thereB ns.length x = true) (W : World) (hW : Below w.heap.size w W) :
    Calls Try.prog 51 #[.agg #[.slice (some ⟨b, off, none⟩) ns.length cap, .int .i64 root, .int .u32 (sh : Int), .slice ro rules.length rc, .func (.func 54) #[] #[.pointer (some ⟨bk, 0, none⟩), .pointer (some ⟨bf, 0, none⟩)], .func (.func 55) #[] #[.pointer (some ⟨bf, 0, none⟩), .pointer (some ⟨bd, 0, none⟩)]], .int .i64 x] W fun r w' => r = .returned (.int .i64 ((tourD ns root sh rules rev).onD x)) ∧ Below W.heap.size W w' := by
  have eg1 : ∀ args w, (callFunc 54 args).run Try.prog w = .ok (.enter 54 args) w := enters_of Try.func54 (by kernel_rfl) rfl
  have eg2 : ∀ args w, (callFunc 55 args).run Try.prog w = .ok (.enter 55 args) w := enters_of Try.func55 (by kernel_rfl) rfl
  have HOK := hid TC.ok
  have hs := hW.size
  have hB0 : Below w.heap.size w (W.alloc (.cells #[.slice (some ⟨b, off, none⟩) ns.length cap, .int .i64 root, .int .u32 (sh : Int), .slice ro rules.length rc, .func (.func 54) #[] #[.pointer (some ⟨bk, 0, none⟩), .pointer (some ⟨bf, 0, none⟩)], .func (.func 55) #[] #[.pointer (some ⟨bf, 0, none⟩), .pointer (some ⟨bd, 0, none⟩)]] 96)) := hW.alloc hW.size _
  have HB1 : Hid (Below W.heap.size W (W.alloc (.cells #[.slice (some ⟨b, off, none⟩) ns.length cap, .int .i64 root, .int .u32 (sh : Int), .slice ro rules.length rc, .func (.func 54) #[] #[.pointer (some ⟨bk, 0, none⟩), .pointer (some ⟨bf, 0, none⟩)], .func (.func 55) #[] #[.pointer (some ⟨bf, 0, none⟩), .pointer (some ⟨bd, 0, none⟩)]] 96))) := (Below.refl _ W).alloc (Nat.le_refl _) _
  have HBx : Hid (∀ V : World, Below (W.heap.size + 1) (W.alloc (.cells #[.slice (some ⟨b, off, none⟩) ns.length cap, .int .i64 root, .int .u32 (sh : Int), .slice ro rules.length rc, .func (.func 54) #[] #[.pointer (some ⟨bk, 0, none⟩), .pointer (some ⟨bf, 0, none⟩)], .func (.func 55) #[] #[.pointer (some ⟨bf, 0, none⟩), .pointer (some ⟨bd, 0, none⟩)]] 96)) V → _) := fun V h => box6 h
  have HU : Hid (∀ V : World, Below (W.heap.size + 1) (W.alloc (.cells #[.slice (some ⟨b, off, none⟩) ns.length cap, .int .i64 root, .int .u32 (sh : Int), .slice ro rules.length rc, .func (.func 54) #[] #[.pointer (some ⟨bk, 0, none⟩), .pointer (some ⟨bf, 0, none⟩)], .func (.func 55) #[] #[.pointer (some ⟨bf, 0, none⟩), .pointer (some ⟨bd, 0, none⟩)]] 96)) V → Below w.heap.size w V) := fun V h => hB0.trans (h.mono (by omega))
  have HE : Hid (∀ V : World, Below (W.heap.size + 1) (W.alloc (.cells #[.slice (some ⟨b, off, none⟩) ns.length cap, .int .i64 root, .int .u32 (sh : Int), .slice ro rules.length rc, .func (.func 54) #[] #[.pointer (some ⟨bk, 0, none⟩), .pointer (some ⟨bf, 0, none⟩)], .func (.func 55) #[] #[.pointer (some ⟨bf, 0, none⟩), .pointer (some ⟨bd, 0, none⟩)]] 96)) V → Below W.heap.size W V) := fun V h => HB1.out.trans (h.mono (by omega))
  have HZ : Hid (∀ V : World, Below (W.heap.size + 1) (W.alloc (.cells #[.slice (some ⟨b, off, none⟩) ns.length cap, .int .i64 root, .int .u32 (sh : Int), .slice ro rules.length rc, .func (.func 54) #[] #[.pointer (some ⟨bk, 0, none⟩), .pointer (some ⟨bf, 0, none⟩)], .func (.func 55) #[] #[.pointer (some ⟨bf, 0, none⟩), .pointer (some ⟨bd, 0, none⟩)]] 96)) V → W.heap.size + 1 ≤ V.heap.size) := fun V h => by have := h.size; simp only [World.size_alloc] at this; exact this
  clear hB0 hs
  have HI : Hid (Below (W.heap.size + 1) (W.alloc (.cells #[.slice (some ⟨b, off, none⟩) ns.length cap, .int .i64 root, .int .u32 (sh : Int), .slice ro rules.length rc, .func (.func 54) #[] #[.pointer (some ⟨bk, 0, none⟩), .pointer (some ⟨bf, 0, none⟩)], .func (.func 55) #[] #[.pointer (some ⟨bf, 0, none⟩), .pointer (some ⟨bd, 0, none⟩)]] 96)) (W.alloc (.cells #[.slice (some ⟨b, off, none⟩) ns.length cap, .int .i64 root, .int .u32 (sh : Int), .slice ro rules.length rc, .func (.func 54) #[] #[.pointer (some ⟨bk, 0, none⟩), .pointer (some ⟨bf, 0, none⟩)], .func (.func 55) #[] #[.pointer (some ⟨bf, 0, none⟩), .pointer (some ⟨bd, 0, none⟩)]] 96))) := Below.refl _ _
  have HT : Hid (∀ (y : Int) (V : World), thereB ns.length y = true → Below w.heap.size w V → _) := fun y V hy hV => tinto_any TC y hy V hV
  have HA : Hid (∀ (y : Int) (V : World), thereB ns.length y = true → Below w.heap.size w V → _) := fun y V hy hV => taccepts_any TC y hy V hV
  have HP : Hid (∀ (y : Int) (V : World), thereB ns.length y = true → Below w.heap.size w V → _) := fun y V hy hV => tover_any TC y hy V hV
  have HKx : Hid (∀ V : World, Below w.heap.size w V → _) := fun V hV => tkid_any TC x hx V hV
  have HOx : Hid (∀ V : World, Below w.heap.size w V → _) := fun V hV => tover_any TC x hx V hV
  have HK0 : Hid ((tourD ns root sh rules rev).kid x = 0 ∨ thereB ns.length ((tourD ns root sh rules rev).kid x) = true) := (TourD.kid_ok HOK.out hx).imp id (fun h => h.1)
  have HO0 : Hid ((tourD ns root sh rules rev).over x = 0 ∨ thereB ns.length ((tourD ns root sh rules rev).over x) = true) := (TourD.over_lt HOK.out hx).1
  obtain ⟨R, hR⟩ : ∃ R, (tourD ns root sh rules rev).onR (if (tourD ns root sh rules rev).kid x == 0 then (tourD ns root sh rules rev).over x else (tourD ns root sh rules rev).kid x) = R := ⟨_, rfl⟩
  have hR2 : (tourD ns root sh rules rev).onD x = R := hR
  rw [hR2]
  clear hR2
  clear TC hW
  generalize (tourD ns root sh rules rev).kid x = k0 at *
  generalize (tourD ns root sh rules rev).over x = o0 at *
  cases c0 : (k0 == 0) with
  | false =>
    rw [c0, if_neg Bool.false_ne_true] at hR
    have HR := hid hR
    clear hR HOx HO0
    go_enter Try.func51, Try.ntmps51
    go_wp2_with (first
              | (go_at_fn 54; refine (HKx.out _ (HU.out _ HI.out)).mono ?_; rintro r1 v1 ⟨rfl, hb⟩; have HB2 := hid (HI.out.trans (hb.mono (HZ.out _ HI.out))); obtain ⟨i0, i1, i2, i3, i4, i5⟩ := HBx.out _ HB2.out; clear hb)
    )
    go_loopw [5] (fun t wr => ∃ y : Int, t = .int .i64 y ∧ Hid (y = 0 ∨ thereB ns.length y = true) ∧ Hid ((tourD ns root sh rules rev).onR y = R) ∧ Hid (Below (W.heap.size + 1) (W.alloc (.cells #[.slice (some ⟨b, off, none⟩) ns.length cap, .int .i64 root, .int .u32 (sh : Int), .slice ro rules.length rc, .func (.func 54) #[] #[.pointer (some ⟨bk, 0, none⟩), .pointer (some ⟨bf, 0, none⟩)], .func (.func 55) #[] #[.pointer (some ⟨bf, 0, none⟩), .pointer (some ⟨bd, 0, none⟩)]] 96)) wr)) (fun t _ => (tourD ns root sh rules rev).rank (RowKit.intOf t))
    case atStart => exact ⟨_, rfl, HK0.out, HR, HB2⟩
    case round =>
      obtain ⟨y, rfl, hy, hY, hB⟩ := hrel
      clear HR HKx HB2 HK0
      obtain ⟨d0, d1, d2, d3, d4, d5⟩ := HBx.out wr hB.out
      by_cases h0 : y = 0
      · subst h0
        have hR0 : R = 0 := by rw [← hY.out]; exact TourD.on_end rfl
        subst hR0
        clear hY
        go_wp2
        go_ret
        exact ⟨rfl, HE.out _ hB.out⟩
      · have hyt : thereB ns.length y = true := hy.out.resolve_left h0
        have n0 : (y != 0) = true := by rw [bne, beq_eq_false_iff_ne.2 h0]; rfl
        have HAy : Hid (∀ V : World, Below w.heap.size w V → _) := fun V hV => HA.out y V hyt hV
        cases ha : (tourD ns root sh rules rev).acc y with
        | true =>
          have hR0 : R = y := by rw [← hY.out]; exact TourD.on_end (by rw [ha, Bool.or_true])
          subst hR0
          rw [ha] at HAy
          clear hY ha
          go_wp2_with (first
              | (go_at_call 69; refine (HAy.out _ (HU.out _ hB.out)).mono ?_; rintro r1 v1 ⟨rfl, hb⟩; have HB3 := hid (hB.out.trans (hb.mono (HZ.out _ hB.out))); obtain ⟨i0, i1, i2, i3, i4, i5⟩ := HBx.out _ HB3.out; clear hb)
          )
          go_ret
          exact ⟨rfl, HE.out _ HB3.out⟩
        | false =>
          rw [ha] at HAy
          have HTy : Hid (∀ V : World, Below w.heap.size w V → _) := fun V hV => HT.out y V hyt hV
          cases c1 : ((tourD ns root sh rules rev).into y == 0) with
          | true =>
            have h1 := eq_of_beq c1
            rw [h1] at HTy
            have Hn : Hid ((tourD ns root sh rules rev).onR ((tourD ns root sh rules rev).over y) = R) := by rw [← hY.out]; exact (TourD.on_over HOK.out hyt ha h1).symm
            obtain ⟨hok, hlt⟩ := TourD.over_lt HOK.out hyt
            have Hok : Hid ((tourD ns root sh rules rev).over y = 0 ∨ thereB ns.length ((tourD ns root sh rules rev).over y) = true) := hok
            have Hlt : Hid ((tourD ns root sh rules rev).rank ((tourD ns root sh rules rev).over y) < (tourD ns root sh rules rev).rank y) := hlt
            have HPy : Hid (∀ V : World, Below w.heap.size w V → _) := fun V hV => HP.out y V hyt hV
            clear hY ha hok hlt c1 h1
            generalize (tourD ns root sh rules rev).over y = q at *
            go_wp2_with (first
              | (go_at_call 74; refine (HPy.out _ (HU.out _ HB4.out)).mono ?_; rintro r1 v1 ⟨rfl, hb⟩; have HB5 := hid (HB4.out.trans (hb.mono (HZ.out _ HB4.out))); obtain ⟨i0, i1, i2, i3, i4, i5⟩ := HBx.out _ HB5.out; clear hb)
              | (go_at_call 70; refine (HTy.out _ (HU.out _ HB3.out)).mono ?_; rintro r1 v1 ⟨rfl, hb⟩; have HB4 := hid (HB3.out.trans (hb.mono (HZ.out _ HB3.out))); obtain ⟨i0, i1, i2, i3, i4, i5⟩ := HBx.out _ HB4.out; clear hb)
              | (go_at_call 69; refine (HAy.out _ (HU.out _ hB.out)).mono ?_; rintro r1 v1 ⟨rfl, hb⟩; have HB3 := hid (hB.out.trans (hb.mono (HZ.out _ hB.out))); obtain ⟨i0, i1, i2, i3, i4, i5⟩ := HBx.out _ HB3.out; clear hb)
            )
            go_roundw
            case rel => exact ⟨q, rfl, Hok, Hn, HB5⟩
            case measure => exact Hlt.out
          | false =>
            have h1 := beq_eq_false_iff_ne.1 c1
            have n1 : ((tourD ns root sh rules rev).into y != 0) = true := by rw [bne, c1]; rfl
            have Hn : Hid ((tourD ns root sh rules rev).onR ((tourD ns root sh rules rev).into y) = R) := by rw [← hY.out]; exact (TourD.on_into HOK.out hyt ha h1).symm
            obtain ⟨hkk, hrj, ht, hpp, hrk⟩ := (TourD.into_ok HOK.out hyt).resolve_left h1
            have Hok : Hid ((tourD ns root sh rules rev).into y = 0 ∨ thereB ns.length ((tourD ns root sh rules rev).into y) = true) := .inr ht
            have Hlt : Hid ((tourD ns root sh rules rev).rank ((tourD ns root sh rules rev).into y) < (tourD ns root sh rules rev).rank y) := by show _ < _; omega
            clear hY ha c1 h1 ht hrk hkk hrj hpp
            generalize (tourD ns root sh rules rev).into y = q at *
            go_wp2_with (first
              | (go_at_call 70; refine (HTy.out _ (HU.out _ HB3.out)).mono ?_; rintro r1 v1 ⟨rfl, hb⟩; have HB4 := hid (HB3.out.trans (hb.mono (HZ.out _ HB3.out))); obtain ⟨i0, i1, i2, i3, i4, i5⟩ := HBx.out _ HB4.out; clear hb)
              | (go_at_call 69; refine (HAy.out _ (HU.out _ hB.out)).mono ?_; rintro r1 v1 ⟨rfl, hb⟩; have HB3 := hid (hB.out.trans (hb.mono (HZ.out _ hB.out))); obtain ⟨i0, i1, i2, i3, i4, i5⟩ := HBx.out _ HB3.out; clear hb)
            )
            go_roundw
            case rel => exact ⟨q, rfl, Hok, Hn, HB4⟩
            case measure => exact Hlt.out
  | true =>
    rw [c0, if_pos rfl] at hR
    have HR := hid hR
    clear hR HK0
    go_enter Try.func51, Try.ntmps51
    go_wp2_with (first
              | (go_at_call 74; refine (HOx.out _ (HU.out _ HB2.out)).mono ?_; rintro r1 v1 ⟨rfl, hb⟩; have HB3 := hid (HB2.out.trans (hb.mono (HZ.out _ HB2.out))); obtain ⟨i0, i1, i2, i3, i4, i5⟩ := HBx.out _ HB3.out; clear hb)
              | (go_at_fn 54; refine (HKx.out _ (HU.out _ HI.out)).mono ?_; rintro r1 v1 ⟨rfl, hb⟩; have HB2 := hid (HI.out.trans (hb.mono (HZ.out _ HI.out))); obtain ⟨i0, i1, i2, i3, i4, i5⟩ := HBx.out _ HB2.out; clear hb)
    )
    go_loopw [5] (fun t wr => ∃ y : Int, t = .int .i64 y ∧ Hid (y = 0 ∨ thereB ns.length y = true) ∧ Hid ((tourD ns root sh rules rev).onR y = R) ∧ Hid (Below (W.heap.size + 1) (W.alloc (.cells #[.slice (some ⟨b, off, none⟩) ns.length cap, .int .i64 root, .int .u32 (sh : Int), .slice ro rules.length rc, .func (.func 54) #[] #[.pointer (some ⟨bk, 0, none⟩), .pointer (some ⟨bf, 0, none⟩)], .func (.func 55) #[] #[.pointer (some ⟨bf, 0, none⟩), .pointer (some ⟨bd, 0, none⟩)]] 96)) wr)) (fun t _ => (tourD ns root sh rules rev).rank (RowKit.intOf t))
    case atStart => exact ⟨_, rfl, HO0.out, HR, HB3⟩
    case round =>
      obtain ⟨y, rfl, hy, hY, hB⟩ := hrel
      clear HR HKx HB2 HB3 HO0 HOx
      obtain ⟨d0, d1, d2, d3, d4, d5⟩ := HBx.out wr hB.out
      by_cases h0 : y = 0
      · subst h0
        have hR0 : R = 0 := by rw [← hY.out]; exact TourD.on_end rfl
        subst hR0
        clear hY
        go_wp2
        go_ret
        exact ⟨rfl, HE.out _ hB.out⟩
      · have hyt : thereB ns.length y = true := hy.out.resolve_left h0
        have n0 : (y != 0) = true := by rw [bne, beq_eq_false_iff_ne.2 h0]; rfl
        have HAy : Hid (∀ V : World, Below w.heap.size w V → _) := fun V hV => HA.out y V hyt hV
        cases ha : (tourD ns root sh rules rev).acc y with
        | true =>
          have hR0 : R = y := by rw [← hY.out]; exact TourD.on_end (by rw [ha, Bool.or_true])
          subst hR0
          rw [ha] at HAy
          clear hY ha
          go_wp2_with (first
              | (go_at_call 69; refine (HAy.out _ (HU.out _ hB.out)).mono ?_; rintro r1 v1 ⟨rfl, hb⟩; have HB3 := hid (hB.out.trans (hb.mono (HZ.out _ hB.out))); obtain ⟨i0, i1, i2, i3, i4, i5⟩ := HBx.out _ HB3.out; clear hb)
          )
          go_ret
          exact ⟨rfl, HE.out _ HB3.out⟩
        | false =>
          rw [ha] at HAy
          have HTy : Hid (∀ V : World, Below w.heap.size w V → _) := fun V hV => HT.out y V hyt hV
          cases c1 : ((tourD ns root sh rules rev).into y == 0) with
          | true =>
            have h1 := eq_of_beq c1
            rw [h1] at HTy
            have Hn : Hid ((tourD ns root sh rules rev).onR ((tourD ns root sh rules rev).over y) = R) := by rw [← hY.out]; exact (TourD.on_over HOK.out hyt ha h1).symm
            obtain ⟨hok, hlt⟩ := TourD.over_lt HOK.out hyt
            have Hok : Hid ((tourD ns root sh rules rev).over y = 0 ∨ thereB ns.length ((tourD ns root sh rules rev).over y) = true) := hok
            have Hlt : Hid ((tourD ns root sh rules rev).rank ((tourD ns root sh rules rev).over y) < (tourD ns root sh rules rev).rank y) := hlt
            have HPy : Hid (∀ V : World, Below w.heap.size w V → _) := fun V hV => HP.out y V hyt hV
            clear hY ha hok hlt c1 h1
            generalize (tourD ns root sh rules rev).over y = q at *
            go_wp2_with (first
              | (go_at_call 74; refine (HPy.out _ (HU.out _ HB4.out)).mono ?_; rintro r1 v1 ⟨rfl, hb⟩; have HB5 := hid (HB4.out.trans (hb.mono (HZ.out _ HB4.out))); obtain ⟨i0, i1, i2, i3, i4, i5⟩ := HBx.out _ HB5.out; clear hb)
              | (go_at_call 70; refine (HTy.out _ (HU.out _ HB3.out)).mono ?_; rintro r1 v1 ⟨rfl, hb⟩; have HB4 := hid (HB3.out.trans (hb.mono (HZ.out _ HB3.out))); obtain ⟨i0, i1, i2, i3, i4, i5⟩ := HBx.out _ HB4.out; clear hb)
              | (go_at_call 69; refine (HAy.out _ (HU.out _ hB.out)).mono ?_; rintro r1 v1 ⟨rfl, hb⟩; have HB3 := hid (hB.out.trans (hb.mono (HZ.out _ hB.out))); obtain ⟨i0, i1, i2, i3, i4, i5⟩ := HBx.out _ HB3.out; clear hb)
            )
            go_roundw
            case rel => exact ⟨q, rfl, Hok, Hn, HB5⟩
            case measure => exact Hlt.out
          | false =>
            have h1 := beq_eq_false_iff_ne.1 c1
            have n1 : ((tourD ns root sh rules rev).into y != 0) = true := by rw [bne, c1]; rfl
            have Hn : Hid ((tourD ns root sh rules rev).onR ((tourD ns root sh rules rev).into y) = R) := by rw [← hY.out]; exact (TourD.on_into HOK.out hyt ha h1).symm
            obtain ⟨hkk, hrj, ht, hpp, hrk⟩ := (TourD.into_ok HOK.out hyt).resolve_left h1
            have Hok : Hid ((tourD ns root sh rules rev).into y = 0 ∨ thereB ns.length ((tourD ns root sh rules rev).into y) = true) := .inr ht
            have Hlt : Hid ((tourD ns root sh rules rev).rank ((tourD ns root sh rules rev).into y) < (tourD ns root sh rules rev).rank y) := by show _ < _; omega
            clear hY ha c1 h1 ht hrk hkk hrj hpp
            generalize (tourD ns root sh rules rev).into y = q at *
            go_wp2_with (first
              | (go_at_call 70; refine (HTy.out _ (HU.out _ HB3.out)).mono ?_; rintro r1 v1 ⟨rfl, hb⟩; have HB4 := hid (HB3.out.trans (hb.mono (HZ.out _ HB3.out))); obtain ⟨i0, i1, i2, i3, i4, i5⟩ := HBx.out _ HB4.out; clear hb)
              | (go_at_call 69; refine (HAy.out _ (HU.out _ hB.out)).mono ?_; rintro r1 v1 ⟨rfl, hb⟩; have HB3 := hid (hB.out.trans (hb.mono (HZ.out _ hB.out))); obtain ⟨i0, i1, i2, i3, i4, i5⟩ := HBx.out _ HB3.out; clear hb)
            )
            go_roundw
            case rel => exact ⟨q, rfl, Hok, Hn, HB4⟩
            case measure => exact Hlt.out
end Go.Proofs.Yteflknfejjdkfaa
