/- The reference of forest: kinds, names, ring. -/
import Derived.Test.YtilacgcjbdkphaaGreatFRefM
namespace Go.Proofs.YtilacgcjbdkphaaGreat
open Go.RowKit Go.Lib

set_option maxHeartbeats 2000000 in
theorem refHasData_any (k : Nat) (w : World) : Calls Tryz.prog 40 #[.int .u8 (k : Int)] w fun e w' => e = .returned (.bool (k == 3 || k == 4 || k == 7 || k == 8)) ∧ w' = w := by
  have e0 : ((k : Int) == 3) = (k == 3) := beq_cast k 3
  have e1 : ((k : Int) == 4) = (k == 4) := beq_cast k 4
  have e2 : ((k : Int) == 7) = (k == 7) := beq_cast k 7
  have e3 : ((k : Int) == 8) = (k == 8) := beq_cast k 8
  generalize (k == 3) = b0 at *
  generalize (k == 4) = b1 at *
  generalize (k == 7) = b2 at *
  generalize (k == 8) = b3 at *
  cases b0 <;> cases b1 <;> cases b2 <;> cases b3
  all_goals
    go_enter Tryz.func40, Tryz.ntmps40
    go_wp2
    go_ret
    exact ⟨rfl, rfl⟩
set_option maxHeartbeats 2000000 in
theorem refHasKids_any (k : Nat) (w : World) : Calls Tryz.prog 34 #[.int .u8 (k : Int)] w fun e w' => e = .returned (.bool (k == 1 || k == 9 || k == 11 || k == 12)) ∧ w' = w := by
  have e0 : ((k : Int) == 1) = (k == 1) := beq_cast k 1
  have e1 : ((k : Int) == 9) = (k == 9) := beq_cast k 9
  have e2 : ((k : Int) == 11) = (k == 11) := beq_cast k 11
  have e3 : ((k : Int) == 12) = (k == 12) := beq_cast k 12
  generalize (k == 1) = b0 at *
  generalize (k == 9) = b1 at *
  generalize (k == 11) = b2 at *
  generalize (k == 12) = b3 at *
  cases b0 <;> cases b1 <;> cases b2 <;> cases b3
  all_goals
    go_enter Tryz.func34, Tryz.ntmps34
    go_wp2
    go_ret
    exact ⟨rfl, rfl⟩
set_option maxRecDepth 100000 in
set_option maxHeartbeats 4000000 in
theorem refNamed_any (sp p l : ByteArray) (w : World) :
    Calls Tryz.prog 125 #[.agg #[.string sp, .string p, .string l]] w fun e w' => e = .returned (.bool (goodNameD sp p l)) ∧ Below w.heap.size w w' := by
  have h1 := noneS_toList sp; have h1' := noneS_empty sp
  have h2 := noneS_toList p; have h2' := noneS_empty p
  have h3 := noneS_toList l; have h3' := noneS_empty l
  have hd : ∀ x : ByteArray, decide ((x.size : Int) ≤ 1024) = decide (x.size ≤ 1024) := fun x => by
    by_cases h : x.size ≤ 1024
    · rw [decide_eq_true h, decide_eq_true (by omega)]
    · rw [decide_eq_false h, decide_eq_false (by omega)]
  have k1 := hd sp
  have k2 := hd p
  have k3 := hd l
  have hA : goodNameD sp p l = (!noneS l && decide (sp.size ≤ 1024) && decide (p.size ≤ 1024) && decide (l.size ≤ 1024) && (noneS p || !noneS sp)) := by
    unfold goodNameD
    cases noneS l <;> cases decide (sp.size ≤ 1024) <;> cases decide (p.size ≤ 1024) <;> cases decide (l.size ≤ 1024) <;> cases noneS p <;> cases noneS sp <;> rfl
  rw [hA]
  clear hA hd
  generalize decide (sp.size ≤ 1024) = s1 at *
  generalize decide (p.size ≤ 1024) = s2 at *
  generalize decide (l.size ≤ 1024) = s3 at *
  generalize noneS sp = b1 at *
  generalize noneS p = b2 at *
  generalize noneS l = b3 at *
  have hb0 : Below w.heap.size w (w.alloc (.cells #[.string sp, .string p, .string l] 60)) := (Below.refl _ w).alloc (Nat.le_refl _) _
  cases b3 with
  | true =>
    go_enter Tryz.func125, Tryz.ntmps125
    go_wp2
    go_ret
    exact ⟨rfl, hb0⟩
  | false =>
    cases s1 with
    | false =>
      go_enter Tryz.func125, Tryz.ntmps125
      go_wp2
      go_ret
      exact ⟨rfl, hb0⟩
    | true =>
      cases s2 with
      | false =>
        go_enter Tryz.func125, Tryz.ntmps125
        go_wp2
        go_ret
        exact ⟨rfl, hb0⟩
      | true =>
        cases s3 with
        | false =>
          go_enter Tryz.func125, Tryz.ntmps125
          go_wp2
          go_ret
          exact ⟨rfl, hb0⟩
        | true =>
          cases b2 with
          | true =>
            go_enter Tryz.func125, Tryz.ntmps125
            go_wp2
            go_ret
            exact ⟨rfl, hb0⟩
          | false =>
            cases b1 with
            | true =>
              go_enter Tryz.func125, Tryz.ntmps125
              go_wp2
              go_ret
              exact ⟨rfl, hb0⟩
            | false =>
              go_enter Tryz.func125, Tryz.ntmps125
              go_wp2
              go_ret
              exact ⟨rfl, hb0⟩

/-- Does going up never end, within some steps? -/
def ringGo (ns : List NodeD) : Nat → Int → Bool
  | 0, _ => true
  | f + 1, x => if thereB ns.length x then ringGo ns f (aboveD (nodeOrNone ns x)) else false

set_option maxRecDepth 100000 in
set_option maxHeartbeats 4000000 in
theorem refRing_any (o : Option Addr) (cap : Nat) (x : Int) (ns : List NodeD) (w : World) (hF : FRd w o cap ns) :
    Calls Tryz.prog 112 #[.agg #[.slice o ns.length cap], .int .i64 x] w fun e w' => e = .returned (.bool (ringGo ns (ns.length + 1) x)) ∧ Below w.heap.size w w' := by
  have HN : Hid (∀ (z : Int) (W : World), Below w.heap.size w W → _) := fun z W hW => refNode_any o cap z ns W (hF.later hW)
  have hle := hF.len
  obtain ⟨R, hR⟩ : ∃ R, ringGo ns (ns.length + 1) x = R := ⟨_, rfl⟩
  rw [hR]
  have HR : Hid (ringGo ns (ns.length + 1 - 0) x = R) := hR
  clear hR hF
  go_enter Tryz.func112, Tryz.ntmps112
  go_wp2
  go_loopw [5, 6] (fun t i wr => ∃ (k : Nat) (y : Int), k ≤ ns.length + 1 ∧ t = .int .i64 y ∧ i = .int .i64 k ∧ Below (w.heap.size + 1) (w.alloc (.cells #[.slice o ns.length cap] 24)) wr ∧ Hid (ringGo ns (ns.length + 1 - k) y = R)) (fun _ i _ => ns.length + 1 - (RowKit.intOf i).toNat)
  case atStart => exact ⟨0, x, Nat.zero_le _, rfl, rfl, Below.refl _ _, HR⟩
  case round =>
    obtain ⟨k, y, hk, rfl, rfl, hB, hr⟩ := hrel
    have hBw := bx_below hB
    have cb : wr.cell? ⟨w.heap.size, 0, none⟩ = some (.slice o ns.length cap) := (hB.cell (p := ⟨w.heap.size, 0, none⟩) (by show w.heap.size < w.heap.size + 1; omega)).trans (by simp)
    by_cases hlt : k < ns.length + 1
    · have d1 : decide ((k : Int) ≤ (ns.length : Int)) = true := decide_eq_true (by omega)
      have hrr := hr.out
      rw [show ns.length + 1 - k = (ns.length - k) + 1 by omega, ringGo] at hrr
      have hN := HN.out y wr hBw
      have Hrr := hid hrr
      have HB := hid hB
      have HBw := hid hBw
      clear hrr hr hB hBw
      cases ht : thereB ns.length y with
      | false =>
        have hRf : R = false := by rw [← Hrr.out, ht]; rfl
        subst hRf
        rw [ht] at hN
        clear Hrr ht
        go_wp2_with fail
        refine hN.mono ?_
        rintro e v1 ⟨L, rfl, h1, h2, h3, hb1⟩
        obtain ⟨od, cd, oa, ca, ok, ck, rfl⟩ := lists_slices h1 h2 h3
        have HB1 := hid (HBw.out.trans (hb1.mono HBw.out.size))
        clear h1 h2 h3 hb1 hN
        unfold nodeV
        go_wp2
        go_ret
        exact ⟨rfl, HB1.out.trans ((Below.refl _ v1).alloc HB1.out.size _)⟩
      | true =>
        have Hn : Hid (ringGo ns (ns.length - k) (aboveD (nodeOrNone ns y)) = R) := by
          have h := Hrr.out
          rw [ht, if_pos rfl] at h
          exact h
        rw [ht] at hN
        clear Hrr ht
        generalize nodeOrNone ns y = n at *
        have HA : Hid (∀ (od oa ok : Option Addr) (ld la lk cd ca ck : Nat) (W : World), _) := fun od oa ok ld la lk cd ca ck W => refAbove_any n od oa ok ld la lk cd ca ck W
        go_wp2_with fail
        refine hN.mono ?_
        rintro e v1 ⟨L, rfl, h1, h2, h3, hb1⟩
        obtain ⟨od, cd, oa, ca, ok, ck, rfl⟩ := lists_slices h1 h2 h3
        have hs1 := HB.out.size
        simp only [World.size_alloc] at hs1
        have HB1 := hid (HB.out.trans (hb1.mono hs1))
        have hs2 := hb1.size
        have hA := HA.out od oa ok n.data.length n.attrs.length n.kids.length cd ca ck (v1.alloc (.cells #[.int .u8 (n.kind : Int), .string n.space, .string n.pre, .string n.loc, .string n.pub, .string n.sys, .slice od n.data.length cd, .slice oa n.attrs.length ca, .int .i64 n.parent, .slice ok n.kids.length ck, .int .i64 n.doc, .int .i64 n.host, .int .i64 n.shadow, .int .u8 (n.mode : Int), .bool n.manual, .bool n.html] 64))
        clear h1 h2 h3 hb1 hN
        unfold nodeV at *
        go_wp2_with fail
        refine hA.mono ?_
        rintro e v2 ⟨rfl, hb2⟩
        have HB2 : Hid (Below (w.heap.size + 1) (w.alloc (.cells #[.slice o ns.length cap] 24)) v2) := HB1.out.trans (((Below.refl _ v1).alloc (by omega) _).trans (hb2.mono (by simp only [World.size_alloc]; omega)))
        clear hb2 hA
        go_wp2
        go_roundw
        case rel => exact ⟨k + 1, _, by omega, rfl, by go_num, HB2.out, by rw [show ns.length + 1 - (k + 1) = ns.length - k by omega]; exact Hn⟩
        case measure => simp [RowKit.intOf]; omega
    · have hkn : k = ns.length + 1 := by omega
      subst hkn
      have hRt : R = true := by
        have := hr.out
        rw [Nat.sub_self] at this
        exact this.symm
      subst hRt
      have d1 : decide (((ns.length + 1 : Nat) : Int) ≤ (ns.length : Int)) = false := decide_eq_false (by omega)
      clear hr HN
      go_wp2
      go_ret
      exact ⟨rfl, hBw⟩
end Go.Proofs.YtilacgcjbdkphaaGreat
