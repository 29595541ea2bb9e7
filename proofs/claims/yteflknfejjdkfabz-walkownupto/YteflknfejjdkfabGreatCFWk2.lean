/- The statements of walk: what is asked first (lives). -/
import Derived.Test.YteflknfejjdkfabGreatCFWkTFWk1
import Derived.Deep.DeepCutAuto
import Derived.Deep.CutRange
import Derived.Deep.RegionLaw
namespace Go.Proofs.YteflknfejjdkfabGreat
open Go.RowKit Go.Lib Go.Shelf

/-- What tree answers. -/
def TreeC : Prop := ∀ V : World, Calls Tryz.prog 11 #[] V fun e w' => ∃ g cap, e = .returned (.agg #[.slice (some ⟨g, 0, none⟩) 4 cap]) ∧ FAt w' g 0 cap treeD ∧ Below V.heap.size V w'
/-- A walker's box. -/
def WalkerAt (W : World) (B : Nat) (r c : Int) (v : Value) : Prop := W.heap[B]? = some (.cells #[.int .i64 r, .int .i64 c, .int .u32 4294967295, v] 30)
theorem keep_at {V v1 : World} {k n : Nat} {Z : Obj} (h : V.heap[k]? = some Z) (hb : Below n V v1) (hn : V.heap.size ≤ n) : v1.heap[k]? = some Z := (hb.block k (Nat.lt_of_lt_of_le (Array.getElem?_eq_some_iff.1 h).1 hn)).trans h
theorem WalkerAt.later {W V : World} {B : Nat} {r c : Int} {v : Value} (h : WalkerAt W B r c v) (hb : Below W.heap.size W V) : WalkerAt V B r c v := keep_at h hb (Nat.le_refl _)
theorem WalkerAt.lt {W : World} {B : Nat} {r c : Int} {v : Value} (h : WalkerAt W B r c v) : B < W.heap.size := (Array.getElem?_eq_some_iff.1 h).1
theorem WalkerAt.new (W : World) (r c : Int) (v : Value) : WalkerAt (W.alloc (.cells #[.int .i64 r, .int .i64 c, .int .u32 4294967295, v] 30)) W.heap.size r c v := vheapW W _
theorem WalkerAt.alloc {W : World} {B : Nat} {r c : Int} {v : Value} (h : WalkerAt W B r c v) (o : Obj) : WalkerAt (W.alloc o) B r c v := (Below.heap_alloc W o B h.lt).trans h
theorem WalkerAt.drew {W : World} {B : Nat} {r c : Int} {v : Value} (h : WalkerAt W B r c v) : WalkerAt W.drew B r c v := h
theorem zero_newD {V v1 : World} {Z : Obj} (hb : Below (V.alloc Z).drew.heap.size (V.alloc Z).drew v1) : v1.heap[V.heap.size]? = some Z := (hb.block V.heap.size (by simp [heap_drew])).trans (vheapW V Z)
theorem zero_new {V v1 : World} {Z : Obj} (hb : Below (V.alloc Z).heap.size (V.alloc Z) v1) : v1.heap[V.heap.size]? = some Z := (hb.block V.heap.size (by simp)).trans (vheapW V Z)
theorem ruleAt_of {V : World} {Br : Nat} (h : V.heap[Br]? = some (.cells #[.int .u8 0, .string ⟨#[98]⟩, .int .u8 2] 39)) : RuleAt V Br 0 ruleB ∧ Br < V.heap.size := by
  have hk : ∀ j : Nat, V.cell? ⟨Br, j, none⟩ = #[Value.int .u8 0, .string ⟨#[98]⟩, .int .u8 2][j]? := fun j => by
    unfold World.cell?
    simp only [h]
    exact if_neg (by decide)
  exact ⟨⟨(hk 0).trans rfl, (hk 1).trans rfl, (hk 2).trans rfl⟩, (Array.getElem?_eq_some_iff.1 h).1⟩

theorem lives4 {w wc : World} {B B3 base : Nat} {v v3 vl : Value} {xs : List Value} {n : Nat} {e : TypeId} (hW : WalkerAt wc B 2 2 v) (h3 : WalkerAt wc B3 2 3 v3) (hne : B ≠ B3) (ho : wc.ownsRow base e 1 vl n xs) (hb : B < base) (hB : Below w.heap.size w wc) (hz : w.heap.size ≤ B) :
    ((wc.setCell ⟨B, 3, none⟩ (.slice (some ⟨wc.heap.size, 0, none⟩) 1 1)).alloc (.cells #[.int .u8 0, .string ⟨#[98]⟩, .int .u8 2] 39)).heap[wc.heap.size]? = some (.cells #[.int .u8 0, .string ⟨#[98]⟩, .int .u8 2] 39) ∧ WalkerAt ((wc.setCell ⟨B, 3, none⟩ (.slice (some ⟨wc.heap.size, 0, none⟩) 1 1)).alloc (.cells #[.int .u8 0, .string ⟨#[98]⟩, .int .u8 2] 39)) B 2 2 (.slice (some ⟨wc.heap.size, 0, none⟩) 1 1) ∧ WalkerAt ((wc.setCell ⟨B, 3, none⟩ (.slice (some ⟨wc.heap.size, 0, none⟩) 1 1)).alloc (.cells #[.int .u8 0, .string ⟨#[98]⟩, .int .u8 2] 39)) B3 2 3 v3 ∧ ((wc.setCell ⟨B, 3, none⟩ (.slice (some ⟨wc.heap.size, 0, none⟩) 1 1)).alloc (.cells #[.int .u8 0, .string ⟨#[98]⟩, .int .u8 2] 39)).ownsRow base e 1 vl n xs ∧ Below w.heap.size w ((wc.setCell ⟨B, 3, none⟩ (.slice (some ⟨wc.heap.size, 0, none⟩) 1 1)).alloc (.cells #[.int .u8 0, .string ⟨#[98]⟩, .int .u8 2] 39)) := by
  have hs : (wc.setCell ⟨B, 3, none⟩ (.slice (some ⟨wc.heap.size, 0, none⟩) 1 1)).heap.size = wc.heap.size := World.size_setCell _ _ _
  have hn := vheapW (wc.setCell ⟨B, 3, none⟩ (.slice (some ⟨wc.heap.size, 0, none⟩) 1 1)) (.cells #[.int .u8 0, .string ⟨#[98]⟩, .int .u8 2] 39)
  rw [hs] at hn
  have h1 : WalkerAt (wc.setCell ⟨B, 3, none⟩ (.slice (some ⟨wc.heap.size, 0, none⟩) 1 1)) B 2 2 (.slice (some ⟨wc.heap.size, 0, none⟩) 1 1) := heap_setCell_same wc B 3 _ _ _ hW
  have h2 : WalkerAt (wc.setCell ⟨B, 3, none⟩ (.slice (some ⟨wc.heap.size, 0, none⟩) 1 1)) B3 2 3 v3 := (heap_setCell_other wc ⟨B, 3, none⟩ B3 _ (fun e => hne e.symm)).trans h3
  have hB2 := hB.setCell (p := ⟨B, 3, none⟩) hz (.slice (some ⟨wc.heap.size, 0, none⟩) 1 1)
  exact ⟨hn, h1.alloc _, h2.alloc _, (ownsRow_setCell_below ho (a := ⟨B, 3, none⟩) hb _).alloc _, hB2.alloc hB2.size _⟩

set_option maxRecDepth 100000 in
set_option maxHeartbeats 16000000 in
theorem livesW_true (HT : TreeC) (w : World) : Calls Tryz.prog 4 #[] w fun e w' => e = .returned (.bool true) ∧ Below w.heap.size w w' := by
  have HT0 := hid (HT w)
  have HT2 : Hid (∀ V : World, _) := fun V => HT V
  have HN : Hid (∀ (g cap : Nat) (V : World), FAt V g 0 cap treeD → _) := fun g cap V h => lNew g cap V h
  have HS : Hid (∀ (g cap : Nat) (vo : Option Addr) (vc : Nat) (V : World), FAt V g 0 cap treeD → _) := fun g cap vo vc V h => lStep g cap vo vc V h
  have HA : Hid (∀ (g cap : Nat) (vo : Option Addr) (vc : Nat) (V : World), FAt V g 0 cap treeD → _) := fun g cap vo vc V h => lAll g cap vo vc V h
  have HS2 : Hid (∀ (g cap rb : Nat) (V : World), FAt V g 0 cap treeD → RuleAt V rb 0 ruleB → rb < V.heap.size → _) := fun g cap rb V h hr hl => lStep2 g cap rb V h hr hl
  clear HT
  go_enter Tryz.func4, Tryz.ntmps4
  go_upto_region 1 with fail
  go_cut [1, 2] (fun t1 t2 wx => ∃ (B : Nat) (vo : Option Addr) (vc : Nat), t1 = .pointer (some ⟨B, 0, none⟩) ∧ t2 = .int .i64 0 ∧ w.heap.size ≤ B ∧ WalkerAt wx B 2 2 (.slice vo 0 vc) ∧ Below w.heap.size w wx)
  case first =>
    as_aux_lemma =>
      go_wp2_with (first
        | (go_at_call 11; refine HT0.out.mono ?_; rintro e v1 ⟨g, cap, rfl, hF, hb⟩; have HF := hid hF; have HB := hid hb; clear hF hb)
        | (go_at_call 10; refine (HN.out _ _ _ HF.out).mono ?_; rintro e v2 ⟨vo, vc, rfl, hb⟩; have HB2 := hid (HB.out.trans (hb.mono HB.out.size)); clear hb))
      go_meet
      exact ⟨v2.heap.size, vo, vc, rfl, rfl, HB2.out.size, WalkerAt.new v2 2 2 _, HB2.out.alloc HB2.out.size _⟩
  case rest =>
    obtain ⟨B, vo, vc, rfl, rfl, hzB, hWk, hB⟩ := hcut
    have HW0 := hid hWk
    have HB0 := hid hB
    have hBl := hWk.lt
    obtain ⟨c0, c1, c2, c3⟩ := cells4 hWk
    obtain ⟨l0, l1, l2, l3⟩ := cells4 ((hWk.alloc (.cells #[.int .i64 0, .int .i64 0, .int .u32 0, .slice none 0 0] 30)).drew)
    clear hWk hB HT0 HN
    go_upto_region 2 with fail
    go_cut [3, 4, 5] (fun t3 t4 t5 wx => ∃ (B3 : Nat) (v3 : Value), t3 = .pointer (some ⟨B3, 0, none⟩) ∧ t4 = .int .i64 3 ∧ t5 = .int .i64 0 ∧ WalkerAt wx B3 2 3 v3 ∧ Below wc.heap.size wc wx)
    case first =>
      as_aux_lemma =>
        go_region_law (first
          | (refine wstep_call0 _ rfl 11 rfl (enterTree _) _ (HT2.out _) ?_; rintro e v1 ⟨g, cap, rfl, hF, hb⟩; refine ⟨_, rfl, ?_⟩; have HF := hid hF; have HC1 := hid (((Below.refl wc.heap.size wc).alloc (Nat.le_refl _) (.cells #[.int .i64 0, .int .i64 0, .int .u32 0, .slice none 0 0] 30)).drew.trans (hb.mono ((Below.refl wc.heap.size wc).alloc (Nat.le_refl _) (.cells #[.int .i64 0, .int .i64 0, .int .u32 0, .slice none 0 0] 30)).drew.size)); have HZ1 := hid (zero_newD hb); have HW1 := hid (WalkerAt.later HW0.out HC1.out); obtain ⟨i0, i1, i2, i3⟩ := cells4 HW1.out; obtain ⟨n0, n1, n2, n3⟩ := cells4 (HW1.out.alloc (.cells #[.int .i64 0, .int .i64 0, .int .u32 0, .slice none 0 0] 30)); clear hb hF)
          | (refine wstep_call0 _ rfl 11 rfl (enterTree _) _ (HT2.out _) ?_; rintro e v1 ⟨g, cap, rfl, hF, hb⟩; refine ⟨_, rfl, ?_⟩; have HF := hid hF; have HC1 := hid ((Below.refl wc.heap.size wc).drew.trans (hb.mono (Below.refl wc.heap.size wc).drew.size)); have HW1 := hid (WalkerAt.later HW0.out HC1.out); obtain ⟨i0, i1, i2, i3⟩ := cells4 HW1.out; obtain ⟨n0, n1, n2, n3⟩ := cells4 (HW1.out.alloc (.cells #[.int .i64 0, .int .i64 0, .int .u32 0, .slice none 0 0] 30)); clear hb hF)
          | (refine wstep_call3 _ rfl (.tmp 18) (.tmp 19) (.const (.int .u8 2)) 24 30 31 5 rfl (.agg #[.slice (some ⟨g, 0, none⟩) 4 cap]) (.agg #[.int .i64 2, .int .i64 2, .int .u32 4294967295, .slice vo 0 vc]) (.int .u8 2) (by simp [Act.eval]) (by simp [Act.eval]) rfl (enterStepF _ _ _ _) _ (HS.out _ _ _ _ _ HF.out) ?_; rintro e v2 ⟨vo2, vc2, rfl, hb⟩; refine ⟨_, rfl, ?_⟩; have HZ2 := hid (keep_at HZ1.out hb (Nat.le_refl _)); obtain ⟨m0, m1, m2, m3⟩ := cells4 HZ2.out; obtain ⟨f0, f1, f2, f3⟩ := free4 HZ2.out; have HC2 := hid (HC1.out.trans (hb.mono HC1.out.size)); have HX := hid (Nat.le_refl wc.heap.size); clear hb)
          | (refine wstep_call3 _ rfl (.tmp 18) (.tmp 19) (.const (.int .u8 2)) 24 30 31 5 rfl (.agg #[.slice (some ⟨g, 0, none⟩) 4 cap]) (.agg #[.int .i64 2, .int .i64 2, .int .u32 4294967295, .slice vo 0 vc]) (.int .u8 2) (by simp [Act.eval]) (by simp [Act.eval]) rfl (enterStepF _ _ _ _) _ (HS.out _ _ _ _ _ (HF.out.later ((Below.refl _ _).alloc (Nat.le_refl _) _))) ?_; rintro e v2 ⟨vo2, vc2, rfl, hb⟩; refine ⟨_, rfl, ?_⟩; have HZ2 := hid (zero_new hb); obtain ⟨m0, m1, m2, m3⟩ := cells4 HZ2.out; obtain ⟨f0, f1, f2, f3⟩ := free4 HZ2.out; have HC2 := hid ((HC1.out.alloc HC1.out.size (.cells #[.int .i64 0, .int .i64 0, .int .u32 0, .slice none 0 0] 30)).trans (hb.mono (HC1.out.alloc HC1.out.size (.cells #[.int .i64 0, .int .i64 0, .int .u32 0, .slice none 0 0] 30)).size)); have HX := hid HC1.out.size; clear hb)
          | (refine wstep_call3 _ rfl (.tmp 18) (.tmp 19) (.const (.int .u8 2)) 24 30 31 5 rfl (.agg #[.slice (some ⟨g, 0, none⟩) 4 cap]) (.agg #[.int .i64 2, .int .i64 2, .int .u32 4294967295, .slice vo 0 vc]) (.int .u8 2) (by simp [Act.eval]) (by simp [Act.eval]) rfl (enterStepF _ _ _ _) _ (HS.out _ _ _ _ _ HF.out) ?_; rintro e v2 ⟨vo2, vc2, rfl, hb⟩; refine ⟨_, rfl, ?_⟩; have HC2 := hid (HC1.out.trans (hb.mono HC1.out.size)); clear hb)
          )
        all_goals
          go_wp2_with fail
          go_meet
          first
            | exact ⟨_, _, rfl, rfl, rfl, WalkerAt.new v2 2 3 _, HC2.out.alloc HC2.out.size _⟩
            | exact ⟨_, _, rfl, rfl, rfl, four_set HZ2.out _ _ _ _, below_four HC2.out HX.out⟩
    case rest =>
      obtain ⟨B3, v3, rfl, rfl, rfl, hW3, hC⟩ := hcut
      have HW := hid (HW0.out.later hC)
      have HB := hid (HB0.out.trans (hC.mono HB0.out.size))
      have HW3 := hid hW3
      clear HW0 HB0 c0 c1 c2 c3 l0 l1 l2 l3 hBl hC hW3 HS
      have HW0 := HW
      have HB0 := HB
      have hBl := HW0.out.lt
      obtain ⟨c0, c1, c2, c3⟩ := cells4 HW0.out
      clear HW HB
      go_upto_region 3 with fail
      go_cut [6, 7] (fun t6 t7 wx => ∃ (base : Nat) (vl : Value), t6 = vl ∧ t7 = .int .i64 0 ∧ B < base ∧ wx.ownsRow base 3 1 vl [3, 4].length ([3, 4].map (Value.int .i64)) ∧ Below wc.heap.size wc wx)
      case first =>
        as_aux_lemma =>
          go_region_law (first
            | (refine wstep_call0 _ rfl 11 rfl (enterTree _) _ (HT2.out _) ?_; rintro e v1 ⟨g, cap, rfl, hF, hb⟩; refine ⟨_, rfl, ?_⟩; have HF := hid hF; have HC1 := hid ((Below.refl wc.heap.size wc).drew.trans (hb.mono (Below.refl wc.heap.size wc).drew.size)); have HW1 := hid (WalkerAt.later HW0.out HC1.out); obtain ⟨i0, i1, i2, i3⟩ := cells4 HW1.out; clear hb hF)
            | (refine wstep_call3 _ rfl (.tmp 25) (.tmp 26) (.const (.int .u8 7)) 24 30 31 6 rfl (.agg #[.slice (some ⟨g, 0, none⟩) 4 cap]) (.agg #[.int .i64 2, .int .i64 2, .int .u32 4294967295, .slice vo 0 vc]) (.int .u8 7) (by simp [Act.eval]) (by simp [Act.eval]) rfl (enterAllF _ _ _ _) _ (HA.out _ _ _ _ _ HF.out) ?_; rintro e v2 ⟨vl, rfl, hown, hb⟩; refine ⟨_, rfl, ?_⟩; have HO := hid hown; have HC2 := hid (HC1.out.trans (hb.mono HC1.out.size)); clear hb hown)
            )
          all_goals
            go_wp2_with fail
            go_meet
            exact ⟨_, _, rfl, rfl, Nat.lt_of_lt_of_le hBl HC1.out.size, HO.out, HC2.out⟩
      case rest =>
        obtain ⟨base, vl, rfl, rfl, hbase, hown, hC⟩ := hcut
        have HW := hid (HW0.out.later hC)
        have HV3 := hid (HW3.out.later hC)
        have HB := hid (HB0.out.trans (hC.mono HB0.out.size))
        have HO := hid hown
        clear HW0 HB0 c0 c1 c2 c3 hBl hC HW3 HA hown
        have hBl := HW.out.lt
        obtain ⟨c0, c1, c2, c3⟩ := cells4 (HW.out.alloc (.cells #[.int .u8 0, .string ⟨#[98]⟩, .int .u8 2] 39))
        obtain ⟨f0, f1, f2, f3⟩ := free4 (HW.out.alloc (.cells #[.int .u8 0, .string ⟨#[98]⟩, .int .u8 2] 39))
        have hB33 : B ≠ B3 := fun e => by
          have h1 := HW.out
          rw [e] at h1
          have := Option.some.inj (h1.symm.trans HV3.out)
          simp at this
        go_upto_region 4 with fail
        go_cut [0] (fun _ wx => ∃ (Br : Nat), wx.heap[Br]? = some (.cells #[.int .u8 0, .string ⟨#[98]⟩, .int .u8 2] 39) ∧ WalkerAt wx B 2 2 (.slice (some ⟨Br, 0, none⟩) 1 1) ∧ WalkerAt wx B3 2 3 v3 ∧ wx.ownsRow base 3 1 u6 [3, 4].length ([3, 4].map (Value.int .i64)) ∧ Below w.heap.size w wx)
        case first =>
          as_aux_lemma =>
            go_wp2_with fail
            go_meet
            exact ⟨_, lives4 HW.out HV3.out hB33 HO.out hbase HB.out hzB⟩
        case rest =>
          obtain ⟨Br, hRb, hWk, hW3, hown, hB⟩ := hcut
          have HR0 := hid hRb
          clear HW HV3 HB HO c0 c1 c2 c3 f0 f1 f2 f3 hBl
          have HW0 := hid hWk
          have HW3 := hid hW3
          have HO := hid hown
          have HB0 := hid hB
          obtain ⟨c0, c1, c2, c3⟩ := cells4 hWk
          obtain ⟨l0, l1, l2, l3⟩ := cells4 ((hWk.alloc (.cells #[.int .i64 0, .int .i64 0, .int .u32 0, .slice none 0 0] 30)).drew)
          have hBl := hWk.lt
          clear hRb hWk hW3 hown hB
          go_upto_region 5 with fail
          go_cut [8, 9, 10] (fun t8 t9 t10 wx => ∃ (B8 : Nat) (v8 : Value), t8 = .pointer (some ⟨B8, 0, none⟩) ∧ t9 = .int .i64 4 ∧ t10 = .int .i64 0 ∧ WalkerAt wx B8 2 4 v8 ∧ Below wc.heap.size wc wx)
          case first =>
            as_aux_lemma =>
              go_region_law (first
                | (refine wstep_call0 _ rfl 11 rfl (enterTree _) _ (HT2.out _) ?_; rintro e v1 ⟨g, cap, rfl, hF, hb⟩; refine ⟨_, rfl, ?_⟩; have HF := hid hF; have HC1 := hid (((Below.refl wc.heap.size wc).alloc (Nat.le_refl _) (.cells #[.int .i64 0, .int .i64 0, .int .u32 0, .slice none 0 0] 30)).drew.trans (hb.mono ((Below.refl wc.heap.size wc).alloc (Nat.le_refl _) (.cells #[.int .i64 0, .int .i64 0, .int .u32 0, .slice none 0 0] 30)).drew.size)); have HZ1 := hid (zero_newD hb); have HW1 := hid (WalkerAt.later HW0.out HC1.out); have HR1 := hid (keep_at HR0.out HC1.out (Nat.le_refl _)); obtain ⟨i0, i1, i2, i3⟩ := cells4 HW1.out; obtain ⟨n0, n1, n2, n3⟩ := cells4 (HW1.out.alloc (.cells #[.int .i64 0, .int .i64 0, .int .u32 0, .slice none 0 0] 30)); clear hb hF)
                | (refine wstep_call0 _ rfl 11 rfl (enterTree _) _ (HT2.out _) ?_; rintro e v1 ⟨g, cap, rfl, hF, hb⟩; refine ⟨_, rfl, ?_⟩; have HF := hid hF; have HC1 := hid ((Below.refl wc.heap.size wc).drew.trans (hb.mono (Below.refl wc.heap.size wc).drew.size)); have HW1 := hid (WalkerAt.later HW0.out HC1.out); have HR1 := hid (keep_at HR0.out HC1.out (Nat.le_refl _)); obtain ⟨i0, i1, i2, i3⟩ := cells4 HW1.out; obtain ⟨n0, n1, n2, n3⟩ := cells4 (HW1.out.alloc (.cells #[.int .i64 0, .int .i64 0, .int .u32 0, .slice none 0 0] 30)); clear hb hF)
                | (refine wstep_call3 _ rfl (.tmp 35) (.tmp 36) (.const (.int .u8 2)) 24 30 31 5 rfl (.agg #[.slice (some ⟨g, 0, none⟩) 4 cap]) (.agg #[.int .i64 2, .int .i64 2, .int .u32 4294967295, .slice (some ⟨Br, 0, none⟩) 1 1]) (.int .u8 2) (by simp [Act.eval]) (by simp [Act.eval]) rfl (enterStepF _ _ _ _) _ (HS2.out _ _ _ _ HF.out (ruleAt_of HR1.out).1 (ruleAt_of HR1.out).2) ?_; rintro e v2 ⟨vo2, vc2, rfl, hb⟩; refine ⟨_, rfl, ?_⟩; have HZ2 := hid (keep_at HZ1.out hb (Nat.le_refl _)); obtain ⟨m0, m1, m2, m3⟩ := cells4 HZ2.out; obtain ⟨f0, f1, f2, f3⟩ := free4 HZ2.out; have HC2 := hid (HC1.out.trans (hb.mono HC1.out.size)); have HX := hid (Nat.le_refl wc.heap.size); clear hb)
                | (refine wstep_call3 _ rfl (.tmp 35) (.tmp 36) (.const (.int .u8 2)) 24 30 31 5 rfl (.agg #[.slice (some ⟨g, 0, none⟩) 4 cap]) (.agg #[.int .i64 2, .int .i64 2, .int .u32 4294967295, .slice (some ⟨Br, 0, none⟩) 1 1]) (.int .u8 2) (by simp [Act.eval]) (by simp [Act.eval]) rfl (enterStepF _ _ _ _) _ (HS2.out _ _ _ _ (HF.out.later ((Below.refl _ _).alloc (Nat.le_refl _) _)) (ruleAt_of (keep_at HR1.out ((Below.refl _ _).alloc (Nat.le_refl _) (.cells #[.int .i64 0, .int .i64 0, .int .u32 0, .slice none 0 0] 30)) (Nat.le_refl _))).1 (ruleAt_of (keep_at HR1.out ((Below.refl _ _).alloc (Nat.le_refl _) (.cells #[.int .i64 0, .int .i64 0, .int .u32 0, .slice none 0 0] 30)) (Nat.le_refl _))).2) ?_; rintro e v2 ⟨vo2, vc2, rfl, hb⟩; refine ⟨_, rfl, ?_⟩; have HZ2 := hid (zero_new hb); obtain ⟨m0, m1, m2, m3⟩ := cells4 HZ2.out; obtain ⟨f0, f1, f2, f3⟩ := free4 HZ2.out; have HC2 := hid ((HC1.out.alloc HC1.out.size (.cells #[.int .i64 0, .int .i64 0, .int .u32 0, .slice none 0 0] 30)).trans (hb.mono (HC1.out.alloc HC1.out.size (.cells #[.int .i64 0, .int .i64 0, .int .u32 0, .slice none 0 0] 30)).size)); have HX := hid HC1.out.size; clear hb)
                | (refine wstep_call3 _ rfl (.tmp 35) (.tmp 36) (.const (.int .u8 2)) 24 30 31 5 rfl (.agg #[.slice (some ⟨g, 0, none⟩) 4 cap]) (.agg #[.int .i64 2, .int .i64 2, .int .u32 4294967295, .slice (some ⟨Br, 0, none⟩) 1 1]) (.int .u8 2) (by simp [Act.eval]) (by simp [Act.eval]) rfl (enterStepF _ _ _ _) _ (HS2.out _ _ _ _ HF.out (ruleAt_of HR1.out).1 (ruleAt_of HR1.out).2) ?_; rintro e v2 ⟨vo2, vc2, rfl, hb⟩; refine ⟨_, rfl, ?_⟩; have HC2 := hid (HC1.out.trans (hb.mono HC1.out.size)); clear hb)
                )
              all_goals
                go_wp2_with fail
                go_meet
                first
                  | exact ⟨_, _, rfl, rfl, rfl, WalkerAt.new v2 2 4 _, HC2.out.alloc HC2.out.size _⟩
                  | exact ⟨_, _, rfl, rfl, rfl, four_set HZ2.out _ _ _ _, below_four HC2.out HX.out⟩
          case rest =>
            obtain ⟨B8, v8, rfl, rfl, rfl, _, hC⟩ := hcut
            have HQ := hid (HW3.out.later hC)
            have HP := hid (ownsRow_rdI (ownsRow_laterW HO.out hC))
            have HB := hid (HB0.out.trans (hC.mono HB0.out.size))
            clear HW3 HO HB0 HW0 HR0 c0 c1 c2 c3 l0 l1 l2 l3 hBl hC
            have h31 := (cells4 HQ.out).2.1
            have kr := two_rdIw wc 3 4 3
            have hI := ints3_any u6 _ [3, 4] [3, 4] (wc.alloc (.cells #[.int .i64 3, .int .i64 4] 3)) (HP.out.later ((Below.refl _ _).alloc (Nat.le_refl _) _)) kr (by decide)
            have hbt : (([3, 4] : List Int) == [3, 4]) = true := rfl
            rw [hbt] at hI
            have HI := hid hI
            clear hI kr hbt
            go_wp2_with (go_at_call 12; refine HI.out.mono ?_; rintro e v9 ⟨rfl, h9⟩; have H9 := hid h9; clear h9)
            go_ret
            exact ⟨rfl, (HB.out.alloc HB.out.size _).trans (H9.out.mono (HB.out.alloc HB.out.size _).size)⟩
end Go.Proofs.YteflknfejjdkfabGreat
