/- The reference of forest: Made, Check, Right. -/
/- The reference of order: Fault. -/
import Derived.Test.YtilacgcjbdkphaaGreatFRMadeA
import Derived.Test.YtilacgcjbdkphaaGreatFRMadeB
import Derived.Test.YtilacgcjbdkphaaGreatFRMadeC
import Derived.Test.YtilacgcjbdkphaaGreatFRMadeD
import Derived.Test.YtilacgcjbdkphaaGreatFRMadeE
import Derived.Test.YtilacgcjbdkphaaGreatFLink
import Derived.Test.YtilacgcjbdkphaaGreatCFWellFCheck
import Derived.Test.YtilacgcjbdkphaaGreatCFPosFNext
namespace Go.Proofs.YtilacgcjbdkphaaGreat
open Go.RowKit Go.Lib

theorem known_kinds_r {k : Nat} (h : knownK k = true) : k = 1 ∨ k = 3 ∨ k = 4 ∨ k = 7 ∨ k = 8 ∨ k = 9 ∨ k = 10 ∨ k = 11 ∨ k = 12 := by
  unfold knownK mayHangK mayBeWithinK mayBeTopK hasDataK at h
  simp only [Bool.or_eq_true, beq_iff_eq] at h
  omega
theorem far_than (m n : Nat) : decide ((m : Int) < (n : Int)) = !decide (n ≤ m) := by
  by_cases h : n ≤ m
  · rw [decide_eq_true h, decide_eq_false (by omega)]; rfl
  · rw [decide_eq_false h, decide_eq_true (by omega)]; rfl
theorem some_than (n : Nat) : decide ((0 : Int) < (n : Int)) = decide (0 < n) := by
  by_cases h : 0 < n
  · rw [decide_eq_true h, decide_eq_true (by omega)]
  · rw [decide_eq_false h, decide_eq_false (by omega)]
theorem some_eq (n : Nat) : decide (0 < n) = !(n == 0) := by
  cases n with
  | zero => rfl
  | succ n => simp
theorem none_size {s : ByteArray} (h : noneS s = true) : s.size ≤ 1024 := by
  unfold noneS at h
  have h0 := eq_of_beq h
  rw [Lib.size_eq, h0]
  exact Nat.zero_le _
/-- What Made asks is that a node is well made. -/
theorem madeB_well (n : NodeD) (hk : knownK n.kind = true) :
    madeB n.kind (decide ((1024 : Int) < (n.pub.size : Int))) (decide ((1024 : Int) < (n.sys.size : Int))) (decide ((16384 : Int) < (n.data.length : Int))) (rightAttrsD n.attrs) (goodNameD n.space n.pre n.loc) (noneS n.space) (noneS n.pre) (noneS n.loc) (decide ((1024 : Int) < (n.loc.size : Int))) (noneS n.pub) (noneS n.sys) (decide ((0 : Int) < (n.data.length : Int))) (decide ((0 : Int) < (n.kids.length : Int))) (decide ((0 : Int) < (n.attrs.length : Int))) (n.shadow == 0) n.html (n.mode == 1) (n.mode == 2) (n.mode == 0) n.manual (n.host == 0) (n.parent == 0) = wellMadeD n := by
  have e1 := far_than 1024 n.pub.size
  have e2 := far_than 1024 n.sys.size
  have e3 := far_than 16384 n.data.length
  have e4 := far_than 1024 n.loc.size
  rw [show ((1024 : Nat) : Int) = 1024 from rfl] at e1 e2 e4
  rw [show ((16384 : Nat) : Int) = 16384 from rfl] at e3
  rw [e1, e2, e3, e4, some_than, some_than, some_than, some_eq n.attrs.length]
  unfold wellMadeD bareD rightNameD rightModeD
  have hs := @none_size n.space
  have hp := @none_size n.pre
  have hg : noneS n.space = true → noneS n.pre = true → goodNameD n.space n.pre n.loc = (!noneS n.loc && decide (n.loc.size ≤ 1024)) := fun a b => by
    unfold goodNameD
    rw [decide_eq_true (hs a), decide_eq_true (hp b), a, b]
    simp
  rw [hk]
  generalize decide (n.pub.size ≤ 1024) = B1 at *
  generalize decide (n.sys.size ≤ 1024) = B2 at *
  generalize decide (n.data.length ≤ 16384) = B3 at *
  generalize decide (n.loc.size ≤ 1024) = B4 at *
  generalize goodNameD n.space n.pre n.loc = GN at *
  generalize noneS n.space = S0 at *
  generalize noneS n.pre = P0 at *
  generalize noneS n.loc = L0 at *
  generalize noneS n.pub = U0 at *
  generalize noneS n.sys = Y0 at *
  generalize rightAttrsD n.attrs = AT at *
  generalize decide (0 < n.data.length) = D0 at *
  generalize decide (0 < n.kids.length) = K0 at *
  generalize (n.attrs.length == 0) = A0 at *
  generalize (n.shadow == 0) = H0 at *
  generalize (n.host == 0) = O0 at *
  generalize (n.parent == 0) = Q0 at *
  generalize (n.mode == 0) = M0 at *
  generalize (n.mode == 1) = M1 at *
  generalize (n.mode == 2) = M2 at *
  generalize n.html = ht at *
  generalize n.manual = ma at *
  clear hs hp e1 e2 e3 e4
  rcases known_kinds_r hk with h | h | h | h | h | h | h | h | h
  all_goals
    rw [h]
    unfold madeB hasLocalK hasDataK hasKidsK mayHangK mayBeWithinK mayBeTopK hasDataK
    cases S0 <;> cases P0 <;> simp [hg, Bool.and_comm, Bool.and_left_comm, Bool.and_assoc]
theorem refMadeK_any (k : Nat) (sp pr lo pu sy : ByteArray) (od oa ok : Option Addr) (dn an kn cd ca ck : Nat) (pa dc ho sh : Int) (mo : Nat) (ma ht AT : Bool) (w : World) (hk : knownK k = true)
    (HA : Hid (Calls Tryz.prog 124 #[.slice oa an ca] (w.alloc (.cells #[.int .u8 (k : Int), .string sp, .string pr, .string lo, .string pu, .string sy, .slice od dn cd, .slice oa an ca, .int .i64 pa, .slice ok kn ck, .int .i64 dc, .int .i64 ho, .int .i64 sh, .int .u8 (mo : Int), .bool ma, .bool ht] 64)) fun e w' => e = .returned (.bool AT) ∧ Below (w.heap.size + 1) (w.alloc (.cells #[.int .u8 (k : Int), .string sp, .string pr, .string lo, .string pu, .string sy, .slice od dn cd, .slice oa an ca, .int .i64 pa, .slice ok kn ck, .int .i64 dc, .int .i64 ho, .int .i64 sh, .int .u8 (mo : Int), .bool ma, .bool ht] 64)) w')) :
    Calls Tryz.prog 110 #[.agg #[.int .u8 (k : Int), .string sp, .string pr, .string lo, .string pu, .string sy, .slice od dn cd, .slice oa an ca, .int .i64 pa, .slice ok kn ck, .int .i64 dc, .int .i64 ho, .int .i64 sh, .int .u8 (mo : Int), .bool ma, .bool ht]] w fun e w' => e = .returned (.bool (madeB k (decide ((1024 : Int) < (pu.size : Int))) (decide ((1024 : Int) < (sy.size : Int))) (decide ((16384 : Int) < (dn : Int))) AT (goodNameD sp pr lo) (noneS sp) (noneS pr) (noneS lo) (decide ((1024 : Int) < (lo.size : Int))) (noneS pu) (noneS sy) (decide ((0 : Int) < (dn : Int))) (decide ((0 : Int) < (kn : Int))) (decide ((0 : Int) < (an : Int))) (sh == 0) ht (mo == 1) (mo == 2) (mo == 0) ma (ho == 0) (pa == 0))) ∧ Below w.heap.size w w' := by
  rcases known_kinds_r hk with rfl | rfl | rfl | rfl | rfl | rfl | rfl | rfl | rfl
  · exact refMade_1 sp pr lo pu sy od oa ok dn an kn cd ca ck pa dc ho sh mo ma ht AT w HA
  · exact refMade_3 sp pr lo pu sy od oa ok dn an kn cd ca ck pa dc ho sh mo ma ht AT w HA
  · exact refMade_4 sp pr lo pu sy od oa ok dn an kn cd ca ck pa dc ho sh mo ma ht AT w HA
  · exact refMade_7 sp pr lo pu sy od oa ok dn an kn cd ca ck pa dc ho sh mo ma ht AT w HA
  · exact refMade_8 sp pr lo pu sy od oa ok dn an kn cd ca ck pa dc ho sh mo ma ht AT w HA
  · exact refMade_9 sp pr lo pu sy od oa ok dn an kn cd ca ck pa dc ho sh mo ma ht AT w HA
  · exact refMade_10 sp pr lo pu sy od oa ok dn an kn cd ca ck pa dc ho sh mo ma ht AT w HA
  · exact refMade_11 sp pr lo pu sy od oa ok dn an kn cd ca ck pa dc ho sh mo ma ht AT w HA
  · exact refMade_12 sp pr lo pu sy od oa ok dn an kn cd ca ck pa dc ho sh mo ma ht AT w HA

set_option maxRecDepth 100000 in
set_option maxHeartbeats 2000000 in
theorem refMade_any (n : NodeD) (od oa ok : Option Addr) (cd ca ck : Nat) (w : World) (h2 : RdA w (.slice oa n.attrs.length ca) n.attrs) (hal : n.attrs.length ≤ 1099511627776) :
    Calls Tryz.prog 110 #[.agg #[.int .u8 (n.kind : Int), .string n.space, .string n.pre, .string n.loc, .string n.pub, .string n.sys, .slice od n.data.length cd, .slice oa n.attrs.length ca, .int .i64 n.parent, .slice ok n.kids.length ck, .int .i64 n.doc, .int .i64 n.host, .int .i64 n.shadow, .int .u8 (n.mode : Int), .bool n.manual, .bool n.html]] w fun e w' => e = .returned (.bool (wellMadeD n)) ∧ Below w.heap.size w w' := by
  cases hk : knownK n.kind with
  | true =>
    have hA := refAttrs_any _ n.attrs (w.alloc (.cells #[.int .u8 (n.kind : Int), .string n.space, .string n.pre, .string n.loc, .string n.pub, .string n.sys, .slice od n.data.length cd, .slice oa n.attrs.length ca, .int .i64 n.parent, .slice ok n.kids.length ck, .int .i64 n.doc, .int .i64 n.host, .int .i64 n.shadow, .int .u8 (n.mode : Int), .bool n.manual, .bool n.html] 64)) (h2.later ((Below.refl _ w).alloc (Nat.le_refl _) _)) hal
    rw [World.size_alloc] at hA
    rw [← madeB_well n hk]
    exact refMadeK_any n.kind n.space n.pre n.loc n.pub n.sys od oa ok n.data.length n.attrs.length n.kids.length cd ca ck n.parent n.doc n.host n.shadow n.mode n.manual n.html (rightAttrsD n.attrs) w hk hA
  | false =>
    have hw : wellMadeD n = false := by unfold wellMadeD; rw [hk]; rfl
    rw [hw]
    have HK : Hid (∀ W : World, _) := fun W => refKnown_any n.kind W
    rw [hk] at HK
    clear hw hk h2
    go_enter Tryz.func110, Tryz.ntmps110
    go_wp2_with fail
    refine (HK.out _).mono ?_
    rintro e v1 ⟨rfl, rfl⟩
    go_wp2
    go_ret
    exact ⟨rfl, bx_first0⟩

theorem checkE_cases (ns : List NodeD) : (checkE ns = 0 ∧ ns.length ≤ 4096 ∧ ∀ (i : Nat) (hi : i < ns.length), refNodeD ns i ns[i] = true) ∨ (checkE ns = 5 ∧ ¬ (ns.length ≤ 4096 ∧ ∀ (i : Nat) (hi : i < ns.length), refNodeD ns i ns[i] = true)) := by
  unfold checkE
  cases hr : rightD ns with
  | true => exact .inl ⟨rfl, (refRight_iff ns).2 ((rightD_iff ns).1 hr)⟩
  | false =>
    refine .inr ⟨rfl, fun h => ?_⟩
    have := (rightD_iff ns).2 ((refRight_iff ns).1 h)
    rw [hr] at this
    cases this

set_option maxRecDepth 100000 in
set_option maxHeartbeats 8000000 in
theorem refCheck_any (o : Option Addr) (cap : Nat) (ns : List NodeD) (w : World) (hF : FRd w o cap ns) (hkl : ∀ (i : Nat) (hi : i < ns.length), ns[i].kids.length ≤ 1099511627776) (hal : ∀ (i : Nat) (hi : i < ns.length), ns[i].attrs.length ≤ 1099511627776) :
    Calls Tryz.prog 85 #[.agg #[.slice o ns.length cap]] w fun e w' => ∃ N : Int, e = .returned (.tuple #[.int .i64 (checkE ns), .int .i64 N]) ∧ Below w.heap.size w w' := by
  have HR : Hid (∀ (x : Int) (W : World), Below w.heap.size w W → _) := fun x W hW => refRing_any o cap x ns W (hF.later hW)
  have hle := hF.len
  have HC := hid (checkE_cases ns)
  generalize checkE ns = E at *
  by_cases h4 : ns.length ≤ 4096
  · have d4 : ¬ (4096 : Int) < (ns.length : Int) := by omega
    have HF := hid hF
    have Hkl := hid hkl
    have Hal := hid hal
    clear hF hkl hal
    go_enter Tryz.func85, Tryz.ntmps85
    go_wp2
    go_loopw [13] (fun t wr => ∃ k : Nat, k ≤ ns.length ∧ t = .int .i64 k ∧ Hid (Below (w.heap.size + 1) (w.alloc (.cells #[.slice o ns.length cap] 24)) wr) ∧ Hid (∀ (i : Nat) (hi : i < ns.length), i < k → refNodeD ns i ns[i] = true)) (fun t _ => ns.length - (RowKit.intOf t).toNat)
    case atStart => exact ⟨0, Nat.zero_le _, rfl, Below.refl _ _, fun _ _ h => absurd h (Nat.not_lt_zero _)⟩
    case round =>
      obtain ⟨k, hk, rfl, hB, hg⟩ := hrel
      have cb : wr.cell? ⟨w.heap.size, 0, none⟩ = some (.slice o ns.length cap) := (hB.out.cell (p := ⟨w.heap.size, 0, none⟩) (by show w.heap.size < w.heap.size + 1; omega)).trans (by simp)
      by_cases hlt : k < ns.length
      · obtain ⟨b, off, rfl, hFA⟩ := HF.out.at_ (by omega)
        have HFA := hid hFA
        have HL : Hid (∀ W : World, Below w.heap.size w W → _) := fun W hW => refLinks_any b off cap k ns W (hFA.later hW) hlt Hkl.out
        obtain ⟨L, hc, hd, ha, hkk⟩ := hFA.at_ k hlt
        obtain ⟨c0, c1, c2, c3, c4, c5, c6, c7, c8, c9, c10, c11, c12, c13, c14, c15⟩ := hc.later hFA.lt (bx_below hB.out)
        have Ha := hid ha
        obtain ⟨D, A, K⟩ := L
        obtain ⟨od, cd, e1, _⟩ := hd
        obtain ⟨oa, ca, e2, _⟩ := ha
        obtain ⟨ok, ck, e3, _⟩ := hkk
        simp only at e1 e2 e3
        subst e1 e2 e3
        have HM : Hid (∀ W : World, Below w.heap.size w W → _) := fun W hW => refMade_any ns[k] od oa ok cd ca ck W (Ha.out.later hW) (Hal.out k hlt)
        have HRg : Hid (∀ W : World, Below w.heap.size w W → _) := fun W hW => HR.out ((k : Int) + 1) W hW
        have hnd : refNodeD ns k ns[k] = (wellMadeD ns[k] && linksD ns k ns[k] && !ringGo ns (ns.length + 1) ((k : Int) + 1)) := rfl
        have Hnd := hid hnd
        have q1 : (0 : Int) ≤ (k : Int) := by omega
        have q2 : (k : Int) < (ns.length : Int) := by omega
        have HE5 : Hid (refNodeD ns k ns[k] = false → E = 5) := fun h => by
          rcases HC.out with ⟨_, _, h2⟩ | ⟨h2, _⟩
          · rw [h2 k hlt] at h; cases h
          · exact h2
        have HG2 : Hid (refNodeD ns k ns[k] = true → ∀ (i : Nat) (hi : i < ns.length), i < k + 1 → refNodeD ns i ns[i] = true) := fun h i hi hik => by
          by_cases e : i = k
          · subst e; exact h
          · exact hg.out i hi (by omega)
        clear HC HR HF HFA hFA hc hnd Hkl Hal Ha hg
        generalize refNodeD ns k ns[k] = RN at *
        generalize linksD ns k ns[k] = LK at *
        generalize ringGo ns (ns.length + 1) ((k : Int) + 1) = RG at *
        generalize ns[k] = n at *
        generalize wellMadeD n = WM at *
        have hbn := bx_below hB.out
        have hB1 : Below (w.heap.size + 1) (w.alloc (.cells #[.slice (some ⟨b, off, none⟩) ns.length cap] 24)) (wr.alloc (.cells #[.int .u8 (n.kind : Int), .string n.space, .string n.pre, .string n.loc, .string n.pub, .string n.sys, .slice od n.data.length cd, .slice oa n.attrs.length ca, .int .i64 n.parent, .slice ok n.kids.length ck, .int .i64 n.doc, .int .i64 n.host, .int .i64 n.shadow, .int .u8 (n.mode : Int), .bool n.manual, .bool n.html] 64)) := hB.out.alloc (bx_size hB.out) _
        have HB1 := hid hB1
        have cb1 : (wr.alloc (.cells #[.int .u8 (n.kind : Int), .string n.space, .string n.pre, .string n.loc, .string n.pub, .string n.sys, .slice od n.data.length cd, .slice oa n.attrs.length ca, .int .i64 n.parent, .slice ok n.kids.length ck, .int .i64 n.doc, .int .i64 n.host, .int .i64 n.shadow, .int .u8 (n.mode : Int), .bool n.manual, .bool n.html] 64)).cell? ⟨w.heap.size, 0, none⟩ = some (.slice (some ⟨b, off, none⟩) ns.length cap) := (hB1.cell (p := ⟨w.heap.size, 0, none⟩) (by show w.heap.size < w.heap.size + 1; omega)).trans (by simp)
        clear hB1 hbn
        cases WM with
        | false =>
          have hE5 : E = 5 := HE5.out (by rw [Hnd.out]; rfl)
          subst hE5
          clear HE5 HG2 Hnd
          go_wp2_with fail
          refine (HM.out _ (bx_below HB1.out)).mono ?_
          rintro e v1 ⟨rfl, hb1⟩
          have HB2 := hid (HB1.out.trans (hb1.mono (bx_size HB1.out)))
          clear hb1
          go_wp2
          go_ret2
          exact ⟨_, rfl, bx_below HB2.out⟩
        | true =>
          cases LK with
          | false =>
            have hE5 : E = 5 := HE5.out (by rw [Hnd.out]; rfl)
            subst hE5
            clear HE5 HG2 Hnd
            go_wp2_with fail
            refine (HM.out _ (bx_below HB1.out)).mono ?_
            rintro e v1 ⟨rfl, hb1⟩
            have HB2 := hid (HB1.out.trans (hb1.mono (bx_size HB1.out)))
            have cb2 : v1.cell? ⟨w.heap.size, 0, none⟩ = some (.slice (some ⟨b, off, none⟩) ns.length cap) := (HB2.out.cell (p := ⟨w.heap.size, 0, none⟩) (by show w.heap.size < w.heap.size + 1; omega)).trans (by simp)
            clear hb1
            go_wp2_with fail
            refine (HL.out _ (bx_below HB2.out)).mono ?_
            rintro e v2 ⟨rfl, hb2⟩
            have HB3 := hid (HB2.out.trans (hb2.mono (bx_size HB2.out)))
            clear hb2
            go_wp2
            go_ret2
            exact ⟨_, rfl, bx_below HB3.out⟩
          | true =>
            cases RG with
            | true =>
              have hE5 : E = 5 := HE5.out (by rw [Hnd.out]; rfl)
              subst hE5
              clear HE5 HG2 Hnd
              go_wp2_with fail
              refine (HM.out _ (bx_below HB1.out)).mono ?_
              rintro e v1 ⟨rfl, hb1⟩
              have HB2 := hid (HB1.out.trans (hb1.mono (bx_size HB1.out)))
              have cb2 : v1.cell? ⟨w.heap.size, 0, none⟩ = some (.slice (some ⟨b, off, none⟩) ns.length cap) := (HB2.out.cell (p := ⟨w.heap.size, 0, none⟩) (by show w.heap.size < w.heap.size + 1; omega)).trans (by simp)
              clear hb1
              go_wp2_with fail
              refine (HL.out _ (bx_below HB2.out)).mono ?_
              rintro e v2 ⟨rfl, hb2⟩
              have HB3 := hid (HB2.out.trans (hb2.mono (bx_size HB2.out)))
              have cb3 : v2.cell? ⟨w.heap.size, 0, none⟩ = some (.slice (some ⟨b, off, none⟩) ns.length cap) := (HB3.out.cell (p := ⟨w.heap.size, 0, none⟩) (by show w.heap.size < w.heap.size + 1; omega)).trans (by simp)
              clear hb2
              go_wp2_with fail
              refine (HRg.out _ (bx_below HB3.out)).mono ?_
              rintro e v3 ⟨rfl, hb3⟩
              have HB4 := hid (HB3.out.trans (hb3.mono (bx_size HB3.out)))
              clear hb3
              go_wp2
              go_ret2
              exact ⟨_, rfl, bx_below HB4.out⟩
            | false =>
              have Hg2 := hid (HG2.out (by rw [Hnd.out]; rfl))
              clear HE5 HG2 Hnd
              go_wp2_with fail
              refine (HM.out _ (bx_below HB1.out)).mono ?_
              rintro e v1 ⟨rfl, hb1⟩
              have HB2 := hid (HB1.out.trans (hb1.mono (bx_size HB1.out)))
              have cb2 : v1.cell? ⟨w.heap.size, 0, none⟩ = some (.slice (some ⟨b, off, none⟩) ns.length cap) := (HB2.out.cell (p := ⟨w.heap.size, 0, none⟩) (by show w.heap.size < w.heap.size + 1; omega)).trans (by simp)
              clear hb1
              go_wp2_with fail
              refine (HL.out _ (bx_below HB2.out)).mono ?_
              rintro e v2 ⟨rfl, hb2⟩
              have HB3 := hid (HB2.out.trans (hb2.mono (bx_size HB2.out)))
              have cb3 : v2.cell? ⟨w.heap.size, 0, none⟩ = some (.slice (some ⟨b, off, none⟩) ns.length cap) := (HB3.out.cell (p := ⟨w.heap.size, 0, none⟩) (by show w.heap.size < w.heap.size + 1; omega)).trans (by simp)
              clear hb2
              go_wp2_with fail
              refine (HRg.out _ (bx_below HB3.out)).mono ?_
              rintro e v3 ⟨rfl, hb3⟩
              have HB4 := hid (HB3.out.trans (hb3.mono (bx_size HB3.out)))
              clear hb3
              go_wp2
              go_roundw
              case rel => exact ⟨k + 1, by omega, by go_num, HB4, Hg2⟩
              case measure => simp [RowKit.intOf]; omega
      · have hE0 : E = 0 := by
          rcases HC.out with ⟨h, _⟩ | ⟨_, h⟩
          · exact h
          · exact absurd ⟨h4, fun i hi => hg.out i hi (by omega)⟩ h
        subst hE0
        clear HC hg
        go_wp2
        go_ret2
        exact ⟨_, rfl, bx_below hB.out⟩
  · have hE5 : E = 5 := by
      rcases HC.out with ⟨_, h, _⟩ | ⟨h, _⟩
      · exact absurd h h4
      · exact h
    subst hE5
    have d4 : (4096 : Int) < (ns.length : Int) := by omega
    clear HC HR hF hkl hal
    go_enter Tryz.func85, Tryz.ntmps85
    go_wp2
    go_ret2
    exact ⟨_, rfl, bx_first0⟩

set_option maxRecDepth 100000 in
set_option maxHeartbeats 2000000 in
theorem refRight_any (o : Option Addr) (cap : Nat) (ns : List NodeD) (w : World) (hF : FRd w o cap ns) (hkl : ∀ (i : Nat) (hi : i < ns.length), ns[i].kids.length ≤ 1099511627776) (hal : ∀ (i : Nat) (hi : i < ns.length), ns[i].attrs.length ≤ 1099511627776) :
    Calls Tryz.prog 38 #[.agg #[.slice o ns.length cap]] w fun e w' => e = .returned (.bool (rightD ns)) ∧ Below w.heap.size w w' := by
  have HC : Hid (∀ W : World, Below w.heap.size w W → _) := fun W hW => refCheck_any o cap ns W (hF.later hW) hkl hal
  have he : (checkE ns == 0) = rightD ns := by
    unfold checkE
    cases rightD ns <;> rfl
  clear hF hkl hal
  generalize checkE ns = E at *
  generalize rightD ns = R at *
  go_enter Tryz.func38, Tryz.ntmps38
  go_wp2_with fail
  refine (HC.out _ ((Below.refl _ w).alloc (Nat.le_refl _) _)).mono ?_
  rintro e v1 ⟨N, rfl, hb1⟩
  have HB := hid (box_go hb1)
  clear hb1 HC
  go_wp2
  go_ret
  exact ⟨rfl, HB.out⟩
end Go.Proofs.YtilacgcjbdkphaaGreat

namespace Go.Proofs.YtilacgcjbdkphaaGreat
open Go.RowKit Go.Lib Go.Shelf

set_option maxRecDepth 100000 in
set_option maxHeartbeats 4000000 in
theorem refFault_any (o : Option Addr) (cap : Nat) (v : Value) (l : List Int) (ns : List NodeD) (w : World) (hF : FRd w o cap ns) (hkl : ∀ (i : Nat) (hi : i < ns.length), ns[i].kids.length ≤ 1099511627776) (hal : ∀ (i : Nat) (hi : i < ns.length), ns[i].attrs.length ≤ 1099511627776) (hv : RdI w v l) (hl : l.length ≤ 1099511627776) :
    Calls Tryz.prog 9 #[.agg #[.slice o ns.length cap], v] w fun e w' => e = .returned (.int .i64 (toldE ns l)) ∧ Below w.heap.size w w' := by
  have HRt : Hid (∀ (W : World), Below w.heap.size w W → _) := fun W hW => refRight_any o cap ns W (hF.later hW) hkl hal
  obtain ⟨ol, cl, rfl, hcl, gl⟩ := hv
  have hle := hF.len
  have hB0 : Below (w.heap.size + 1) (w.alloc (.cells #[.slice o ns.length cap] 24)) (w.alloc (.cells #[.slice o ns.length cap] 24)) := Below.refl _ _
  have hRt := HRt.out _ (bx_below hB0)
  have HB0 := hid hB0
  clear HRt hF hkl hal hB0
  unfold toldE
  cases hr : rightD ns with
  | false =>
    rw [if_neg Bool.false_ne_true]
    rw [hr] at hRt
    go_enter Tryz.func9, Tryz.ntmps9
    go_wp2_with fail
    refine hRt.mono ?_
    rintro e v1 ⟨rfl, hb1⟩
    have HB1 := hid (HB0.out.trans (hb1.mono (by simp)))
    clear hRt hb1
    go_wp2
    go_ret
    exact ⟨rfl, bx_below HB1.out⟩
  | true =>
    rw [if_pos rfl]
    rw [hr] at hRt
    obtain ⟨R, hRR⟩ : ∃ R : Int, (if l.all (thereB ns.length) = true then (0 : Int) else 2) = R := ⟨_, rfl⟩
    rw [hRR]
    have HR : Hid ((if (l.drop 0).all (thereB ns.length) = true then (0 : Int) else 2) = R) := hRR
    clear hRR hr
    go_enter Tryz.func9, Tryz.ntmps9
    go_wp2_with fail
    refine hRt.mono ?_
    rintro e v1 ⟨rfl, hb1⟩
    have HB1 := hid (HB0.out.trans (hb1.mono (by simp)))
    clear hRt hb1 HB0
    go_wp2
    go_loopw [5] (fun t wr => ∃ k : Nat, k ≤ l.length ∧ t = .int .i64 k ∧ Below (w.heap.size + 1) (w.alloc (.cells #[.slice o ns.length cap] 24)) wr ∧ Hid ((if (l.drop k).all (thereB ns.length) = true then (0 : Int) else 2) = R)) (fun t _ => l.length - (RowKit.intOf t).toNat)
    case atStart => exact ⟨0, Nat.zero_le _, rfl, HB1.out, HR⟩
    case round =>
      obtain ⟨k, hk, rfl, hB, hK⟩ := hrel
      clear HR HB1
      have hBw := bx_below hB
      by_cases hlt : k < l.length
      · obtain ⟨b2, off2, rfl, hlt2, ha2⟩ := gl (by omega)
        have x1 := (hBw.cell (p := ⟨b2, off2 + k, none⟩) hlt2).trans (ha2 k hlt)
        have cb : wr.cell? ⟨w.heap.size, 0, none⟩ = some (.slice o ns.length cap) := (hB.cell (p := ⟨w.heap.size, 0, none⟩) (by show w.heap.size < w.heap.size + 1; omega)).trans (by simp)
        have q1 : (0 : Int) ≤ (k : Int) := by omega
        have q2 : (k : Int) < (l.length : Int) := by omega
        have hk2 := hK.out
        rw [List.drop_eq_getElem_cons hlt, List.all_cons] at hk2
        have HB := hid hB
        clear hK gl ha2 hB hBw
        generalize l[k] = z at *
        by_cases z1 : z < 1
        · have d1 : decide (z < 1) = true := decide_eq_true z1
          have hR2 : R = 2 := by
            rw [← hk2]
            unfold thereB
            rw [decide_eq_false (by omega : ¬ 1 ≤ z)]
            rfl
          subst hR2
          clear hk2
          go_upto_region 6 with fail
          go_quiet (fail)
          go_wp2
          go_ret
          exact ⟨rfl, bx_below (HB.out.trans (drewN_below _ _ _))⟩
        · have d1 : decide (z < 1) = false := decide_eq_false z1
          by_cases z2 : (ns.length : Int) < z
          · have d2 : decide ((ns.length : Int) < z) = true := decide_eq_true z2
            have hR2 : R = 2 := by
              rw [← hk2]
              unfold thereB
              rw [decide_eq_false (by omega : ¬ z ≤ (ns.length : Int)), Bool.and_false]
              rfl
            subst hR2
            clear hk2
            go_upto_region 6 with fail
            go_quiet (fail)
            go_wp2
            go_ret
            exact ⟨rfl, bx_below (HB.out.trans (drewN_below _ _ _))⟩
          · have d2 : decide ((ns.length : Int) < z) = false := decide_eq_false z2
            have ht : thereB ns.length z = true := by
              unfold thereB
              rw [decide_eq_true (by omega), decide_eq_true (by omega)]
              rfl
            rw [ht, Bool.true_and] at hk2
            have Hn := hid hk2
            clear hk2 ht
            go_upto_region 6 with fail
            go_quiet (fail)
            go_wp2
            go_roundw
            case rel => exact ⟨k + 1, by omega, by go_num, HB.out.trans (drewN_below _ _ _), Hn⟩
            case measure => simp [RowKit.intOf]; omega
      · have hRR : R = 0 := by
          rw [← hK.out, List.drop_eq_nil_of_le (by omega)]
          rfl
        subst hRR
        have HBw := hid hBw
        clear hK gl hB hBw
        go_wp2
        go_ret
        exact ⟨rfl, HBw.out⟩
end Go.Proofs.YtilacgcjbdkphaaGreat

