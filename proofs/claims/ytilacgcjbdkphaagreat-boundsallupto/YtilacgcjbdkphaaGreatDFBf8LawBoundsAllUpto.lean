/- Where the arguments hold at most 1048576 values and letters the law BoundsAll answers true: the range of all of a node contains all within it, and its text is its content; that from a point to itself contains nothing. -/
/- bounds: the range of all of a node contains all within it, and its text is its content; that of one point contains nothing (BoundsAll). -/
import Derived.Test.YtilacgcjbdkphaaGreatDFBdkFBf7
import Derived.Test.YtilacgcjbdkphaaGreatDFBg1
import Derived.Test.YtilacgcjbdkphaaGreatFRefA
import Derived.Test.YtilacgcjbdkphaaGreatDFR4AFOneC
import Derived.Test.YtilacgcjbdkphaaGreatDFOpenFBdo
import Derived.Test.YtilacgcjbdkphaaGreatRows
import Derived.ProofKit
import Derived.OpenShut
import Derived.JoinedCond
namespace Go.Proofs.YtilacgcjbdkphaaGreat
open Go.RowKit Go.Lib Go.Shelf

theorem setE_mkF {ns : List NodeD} {p q : Int × Int} {more : List (Int × Int)} (hR : RightF ns) (hv : validD ns p q = true) (hp : isPt ns p) (hq : isPt ns q) (hm : ∀ b ∈ more, isPt ns b) : setE ns p q more = 0 := by
  have h0 : lookE ns (setL p.1 p.2 q.1 q.2 more) = 0 := by
    unfold lookE
    rw [if_pos ((rightD_iff ns).2 hR)]
    refine wrongD_zero.2 (fun b hb => ?_)
    unfold setL at hb
    rcases List.mem_append.1 hb with hb | hb
    · rcases List.mem_cons.1 hb with rfl | hb
      · exact hp
      · rcases List.mem_cons.1 hb with rfl | hb
        · exact hq
        · cases hb
    · exact hm b hb
  unfold setE
  rw [if_pos h0, if_pos hv]
theorem valid_self (ns : List NodeD) (p : Int × Int) : validD ns p p = true := by
  unfold validD
  rw [beq_self_eq_true, decide_eq_true (Nat.le_refl _)]
  rfl
theorem num_exists (o : Option Addr) (cap : Nat) (ns : List NodeD) (w : World) (hF : FRd w o cap ns) (hkl : ∀ (i : Nat) (hi : i < ns.length), ns[i].kids.length ≤ 1099511627776) (hal : ∀ (i : Nat) (hi : i < ns.length), ns[i].attrs.length ≤ 1099511627776) (hR : RightF ns) : ∃ F : Int → Int, Num ns F := by
  obtain ⟨_, _, _, ⟨bR, bF, bL, _, _, hN⟩, _⟩ := Of_ok o cap ns w hF hkl hal hR []
  obtain ⟨_, _, _, hNl⟩ := hN.lists
  exact ⟨_, hNl.num.numF⟩
theorem first_last {ns : List NodeD} {F : Int → Int} (hR : RightF ns) (hN : Num ns F) {h : Int} (hh : thereB ns.length h = true) : posD ns (h, 0) ≤ posD ns (h, (lenN ns h : Int)) := by
  have p1 := (num_pos hR hR.oneOf hN (pt_first hh)).1
  have p3 := (num_pos hR hR.oneOf hN (pt_last hh)).1
  rw [numD_zero] at p1
  rw [num_last hR hR.oneOf hN hh] at p3
  have hs := sz_pos hR hh
  simp only at p1 p3
  omega
theorem text_small {ns : List NodeD} (hR : RightF ns) {x : Int} (hx : thereB ns.length x = true) (c d : Nat) : (textS ns x c d).length ≤ 1099511627776 := by
  unfold textS
  cases ht : textB ns x with
  | true =>
    rw [if_pos rfl, List.length_take, List.length_drop]
    have := data_small hR hx
    omega
  | false =>
    rw [if_neg Bool.false_ne_true]
    unfold textD
    simp only
    rw [ht, if_neg Bool.false_ne_true, if_neg Bool.false_ne_true, List.nil_append, List.append_nil, comm_self hR hx]
    have h1 := flat_len ns ((allD ns x).filter (fun h => textB ns h && contD ns (x, (c : Int)) (x, (d : Int)) h)) (fun y hy => data_small hR (all_there hR hx (List.mem_filter.1 hy).1))
    have h2 := List.length_filter_le (fun h => textB ns h && contD ns (x, (c : Int)) (x, (d : Int)) h) (allD ns x)
    have h3 : (allD ns x).length ≤ 4096 := Nat.le_trans (hR.kidsHang.below_len (ns.length + 1) _ hx (by omega)) hR.small
    omega
theorem cont_whole2 {ns : List NodeD} {F : Int → Int} (hR : RightF ns) (hN : Num ns F) {h k : Int} (hh : thereB ns.length h = true) (hk : thereB ns.length k = true) : contD ns (h, 0) (h, (lenN ns h : Int)) k = (!(k == h) && containsD ns h k) := by
  rw [cont_whole hR hN hh hk]
  congr 1
  have e : (k ∈ allD ns h) ↔ containsD ns h k = true := by
    rw [mem_all hR hh, contains_mem]
    exact ⟨fun a => a.2, fun a => ⟨hk, a⟩⟩
  cases hc : containsD ns h k with
  | true => exact decide_eq_true (e.2 hc)
  | false => exact decide_eq_false fun a => by rw [e.1 a] at hc; cases hc
theorem bText_one (o : Option Addr) (cap : Nat) (x c : Int) (ns : List NodeD) (w : World) (hF : FRd w o cap ns) (hkl : ∀ (i : Nat) (hi : i < ns.length), ns[i].kids.length ≤ 1099511627776) (hal : ∀ (i : Nat) (hi : i < ns.length), ns[i].attrs.length ≤ 1099511627776) (hE : lookE ns [(x, c)] = 0) :
    Calls Tryz.prog 30 #[.agg #[.slice o ns.length cap], .agg #[.int .i64 x, .int .i64 c, .int .i64 x, .int .i64 c]] w fun e w' => ∃ o' c', e = .returned (.tuple #[.slice o' 0 c', .int .i64 0]) ∧ Below w.heap.size w w' ∧ ∃ F : Int → Int, Num ns F := by
  obtain ⟨hR, hW⟩ := lookE_zero hE
  have hp : isPt ns (x, c) := wrongD_zero.1 hW _ (by simp)
  have hpos : 0 < ns.length := by
    obtain ⟨j, hj, _⟩ := there_idx hp.1
    omega
  obtain ⟨b, off, rfl, hFF⟩ := hF.at_ hpos
  obtain ⟨n, rfl⟩ : ∃ n : Nat, c = (n : Int) := ⟨c.toNat, by have := hp.2.1; simp only at this; omega⟩
  refine (bText_SS b off cap x n n ns w hFF hkl hal (setE_mkF hR (valid_self ns _) hp hp (fun b hb => by cases hb))).mono ?_
  rintro e w' ⟨v, rfl, ho, hb, F, hN⟩
  rw [text_none hR hN hp.1] at ho
  obtain ⟨o', c', rfl⟩ := own_shapeN ho
  exact ⟨o', c', rfl, hb, F, hN⟩
theorem bContains_one (o : Option Addr) (cap : Nat) (x c k : Int) (ns : List NodeD) (w : World) (hF : FRd w o cap ns) (hkl : ∀ (i : Nat) (hi : i < ns.length), ns[i].kids.length ≤ 1099511627776) (hal : ∀ (i : Nat) (hi : i < ns.length), ns[i].attrs.length ≤ 1099511627776) (hN : ∃ F : Int → Int, Num ns F) :
    Calls Tryz.prog 24 #[.agg #[.slice o ns.length cap], .agg #[.int .i64 x, .int .i64 c, .int .i64 x, .int .i64 c], .int .i64 k] w fun e w' => e = .returned (.tuple #[.bool false, .bool false, .int .i64 (setE ns (x, c) (x, c) [(k, 0)])]) ∧ Below w.heap.size w w' := by
  by_cases hE : setE ns (x, c) (x, c) [(k, 0)] = 0
  · obtain ⟨hR, _, _, _, hm⟩ := setE_zero hE
    obtain ⟨F, hF2⟩ := hN
    have hk := (hm (k, 0) (by simp)).1
    have h := bContains_ok o cap x c x c k ns w hF hkl hal hE
    rw [cont_none hR hF2 hk, show partD ns (x, c) (x, c) k = false by unfold partD; simp] at h
    rw [hE]
    exact h
  · exact bContains_err o cap x c x c k ns w hF hkl hal hE
theorem bText_all (o : Option Addr) (cap : Nat) (h : Int) (LN : Nat) (ns : List NodeD) (w : World) (hF : FRd w o cap ns) (hkl : ∀ (i : Nat) (hi : i < ns.length), ns[i].kids.length ≤ 1099511627776) (hal : ∀ (i : Nat) (hi : i < ns.length), ns[i].attrs.length ≤ 1099511627776) (hE : toldE ns [h] = 0) (hLN : lenN ns h = LN) :
    Calls Tryz.prog 30 #[.agg #[.slice o ns.length cap], .agg #[.int .i64 h, .int .i64 0, .int .i64 h, .int .i64 (LN : Int)]] w fun e w' => ∃ o' c', e = .returned (.tuple #[.slice o' (textS ns h 0 LN).length c', .int .i64 0]) ∧ RdN w' (.slice o' (textS ns h 0 LN).length c') (textS ns h 0 LN) ∧ Below w.heap.size w w' ∧ ∃ F : Int → Int, Num ns F := by
  obtain ⟨hR, hth⟩ := toldE_zero hE
  have hx := hth h (by simp)
  have hpos : 0 < ns.length := by
    obtain ⟨j, hj, _⟩ := there_idx hx
    omega
  obtain ⟨b, off, rfl, hFF⟩ := hF.at_ hpos
  have hv : validD ns (h, ((0 : Nat) : Int)) (h, (LN : Int)) = true := by
    unfold validD
    rw [beq_self_eq_true, Bool.true_and]
    refine decide_eq_true ?_
    rw [← hLN]
    obtain ⟨F, hN⟩ := num_exists _ cap ns w hF hkl hal hR
    exact first_last hR hN hx
  refine (bText_SS b off cap h 0 LN ns w hFF hkl hal (setE_mkF hR hv (pt_first hx) (by rw [← hLN]; exact pt_last hx) (fun b hb => by cases hb))).mono ?_
  rintro e w' ⟨v, rfl, ho, hb, hN⟩
  have hr := own_rdNF ho
  obtain ⟨o', c', rfl⟩ := own_shapeN ho
  exact ⟨o', c', rfl, hr, hb, hN⟩

set_option maxRecDepth 100000 in
set_option maxHeartbeats 4000000 in
theorem boundsAll_law (o : Option Addr) (cap : Nat) (ns : List NodeD) (h k x c : Int) (w : World) (hF : FRd w o cap ns) (hkl : ∀ (i : Nat) (hi : i < ns.length), ns[i].kids.length ≤ 1099511627776) (hal : ∀ (i : Nat) (hi : i < ns.length), ns[i].attrs.length ≤ 1099511627776) :
    Calls Tryz.prog 5 #[.agg #[.slice o ns.length cap], .int .i64 h, .int .i64 k, bndV x c] w fun e w' => e = .returned (.bool true) ∧ Below w.heap.size w w' := by
  have XL : Hid (∀ V : World, _) := fun V => livesB_true V
  have XC : Hid (∀ V : World, Below w.heap.size w V → _) := fun V hV => bCheck_any o cap x c ns V (hF.later hV) hkl hal
  have XT : Hid (lookE ns [(x, c)] = 0 → ∀ V : World, Below w.heap.size w V → _) := fun hE V hV => bText_one o cap x c ns V (hF.later hV) hkl hal hE
  have XN : Hid ((∃ F : Int → Int, Num ns F) → ∀ V : World, Below w.heap.size w V → _) := fun hN V hV => bContains_one o cap x c k ns V (hF.later hV) hkl hal hN
  have X1 : Hid (∀ V : World, Below w.heap.size w V → _) := fun V hV => bLength_any o cap h ns V (hF.later hV) hkl hal
  obtain ⟨bx, g0, g1, sx⟩ := two_newB w (.cells #[.slice o ns.length cap] 24) (.cells #[.int .i64 x, .int .i64 c] 26)
  unfold bndV at *
  generalize hLE : lookE ns [(x, c)] = LE at *
  generalize setE ns (x, c) (x, c) [(k, 0)] = SE at *
  clear hLE
  by_cases hE1 : toldE ns [h] = 0
  · obtain ⟨hR, hth⟩ := toldE_zero hE1
    have hx := hth h (by simp)
    rw [hE1, if_pos rfl] at X1
    obtain ⟨LN, hLN⟩ : ∃ LN, lenN ns h = LN := ⟨_, rfl⟩
    rw [hLN] at X1
    have X2 : Hid (∀ V : World, Below w.heap.size w V → _) := fun V hV => bText_all o cap h LN ns V (hF.later hV) hkl hal hE1 hLN
    have hTl : (textS ns h 0 LN).length ≤ 1099511627776 := text_small hR hx 0 LN
    obtain ⟨j, hj, hxj⟩ := there_idx hx
    obtain ⟨b, off, rfl, hFF⟩ := hF.at_ (by omega)
    have hle := hFF.len
    have X3 : Hid (∀ V : World, Below w.heap.size w V → Calls Tryz.prog 33 #[.agg #[.slice (some ⟨b, off, none⟩) ns.length cap], .int .i64 h] V fun e w' => ∃ (o : Option Addr) (c : Nat) (is : Bool) (L : List Nat), e = .returned (.tuple #[.slice o L.length c, .bool is, .int .i64 0]) ∧ RdN w' (.slice o L.length c) L ∧ ((ns[j].kind = 1 ∨ ns[j].kind = 11 ∨ ns[j].kind = 12) → L = contentD ns h) ∧ Below V.heap.size V w') := fun V hV => by
      rw [hxj]
      exact cContent_ok b off cap j ns V hR (hFF.later hV) hkl hal hj
    have XE : Hid ((∃ F : Int → Int, Num ns F) → (ns[j].kind = 1 ∨ ns[j].kind = 11 ∨ ns[j].kind = 12) → contentD ns h = textS ns h 0 LN) := fun ⟨F, hN⟩ hk => by
      rw [← hLN]
      refine (text_whole hR hN hx ?_).symm
      rw [hxj, textB_at hj]
      unfold textK
      rcases hk with e | e | e <;> rw [e] <;> rfl
    have XH : Hid (∀ V : World, _) := fun V => refHasKids_any ns[j].kind V
    have XK : Hid (∀ V : World, Below w.heap.size w V → V.cell? ⟨b, off + j * 16, none⟩ = some (.int .u8 (ns[j].kind : Int))) := fun V hV => by
      obtain ⟨Ls, hc, _⟩ := hFF.at_ j hj
      exact (hc.later hFF.lt hV).kind
    have X4 : Hid ((∃ F : Int → Int, Num ns F) → ∀ V : World, Below w.heap.size w V → ∃ (I P : Bool) (SE2 : Int), Calls Tryz.prog 24 #[.agg #[.slice (some ⟨b, off, none⟩) ns.length cap], .agg #[.int .i64 h, .int .i64 0, .int .i64 h, .int .i64 (LN : Int)], .int .i64 k] V (fun e w' => e = .returned (.tuple #[.bool I, .bool P, .int .i64 SE2]) ∧ Below V.heap.size V w') ∧ (SE2 = 0 → I = (!(k == h) && containsD ns h k) ∧ thereB ns.length k = true)) := fun ⟨F, hN⟩ V hV => by
      by_cases hE : setE ns (h, 0) (h, (LN : Int)) [(k, 0)] = 0
      · have hk := ((setE_zero hE).2.2.2.2 (k, 0) (by simp)).1
        refine ⟨_, _, 0, bContains_ok _ cap h 0 h LN k ns V (hF.later hV) hkl hal hE, fun _ => ⟨?_, hk⟩⟩
        rw [← hLN]
        exact cont_whole2 hR hN hx hk
      · exact ⟨_, _, _, bContains_err _ cap h 0 h LN k ns V (hF.later hV) hkl hal hE, fun e => absurd e hE⟩
    have X5 : Hid (thereB ns.length k = true → ∀ V : World, Below w.heap.size w V → _) := fun hk V hV => refContains_any b off cap h k ns V hR (hFF.later hV) hk
    have f1 : IntKind.i64.wrap (h - 1) = (j : Int) := by
      rw [hxj, wrap_smallB (by omega) (by omega)]
      omega
    have q1 : (0 : Int) ≤ (j : Int) := by omega
    have q2 : (j : Int) < (ns.length : Int) := by omega
    clear hF hkl hal hE1 hR hth hx hFF hxj hLN
    generalize contentD ns h = CD at *
    generalize textS ns h 0 LN = TS at *
    generalize containsD ns h k = CT at *
    generalize ns[j].kind = kk at *
    by_cases hLE : LE = 0
    · subst hLE
      have XTT := hid (XT.out rfl)
      clear XT
      go_enter Tryz.func5, Tryz.ntmps5
      go_upto_region 1 with fail
      generalize ((w.alloc (.cells #[.slice (some ⟨b, off, none⟩) ns.length cap] 24)).alloc (.cells #[.int .i64 x, .int .i64 c] 26)) = W0 at *
      have hl := XL.out W0
      go_wp2_with fail
      refine hl.mono ?_
      rintro e0 v1 ⟨rfl, hb⟩
      have bx := bx.trans (hb.mono bx.size)
      have g0 := blkLater hb g0
      have g1 := blkLater hb g1
      clear hl hb sx XL
      have n0 := (box_cell_l g0).1
      obtain ⟨a0, a1⟩ := bnd_cells g1
      have hC := XC.out v1 bx
      go_wp2_with fail
      refine hC.mono ?_
      rintro e0 v2 ⟨rfl, hb⟩
      have bx := bx.trans (hb.mono bx.size)
      have g0 := blkLater hb g0
      have g1 := blkLater hb g1
      clear hC hb n0 a0 a1
      have n0 := (box_cell_l g0).1
      obtain ⟨a0, a1⟩ := bnd_cells g1
      go_upto_region 5 with fail
      have gR := heap_new v2 (.cells #[.int .i64 x, .int .i64 c, .int .i64 x, .int .i64 c] 44)
      have hb : Below v2.heap.size v2 (v2.alloc (.cells #[.int .i64 x, .int .i64 c, .int .i64 x, .int .i64 c] 44)) := (Below.refl _ v2).alloc (Nat.le_refl _) _
      have bx := bx.trans (hb.mono bx.size)
      have g0 := blkLater hb g0
      have g1 := blkLater hb g1
      clear hb n0 a0 a1
      obtain ⟨G, hG⟩ : ∃ G, v2.heap.size = G := ⟨_, rfl⟩
      rw [hG] at gR ⊢
      generalize v2.alloc (.cells #[.int .i64 x, .int .i64 c, .int .i64 x, .int .i64 c] 44) = v3 at *
      clear hG
      have n0 := (box_cell_l g0).1
      obtain ⟨a0, a1⟩ := bnd_cells g1
      obtain ⟨r0, r1, r2, r3⟩ := rng_cells gR
      have hC := XTT.out v3 bx
      go_wp2_with fail
      refine hC.mono ?_
      rintro e0 v4 ⟨ou, cu, rfl, hb, hN⟩
      have bx := bx.trans (hb.mono bx.size)
      have g0 := blkLater hb g0
      have g1 := blkLater hb g1
      have gR := blkLater hb gR
      have HN := hid hN
      clear hN
      clear hC hb n0 a0 a1 r0 r1 r2 r3
      have n0 := (box_cell_l g0).1
      obtain ⟨a0, a1⟩ := bnd_cells g1
      obtain ⟨r0, r1, r2, r3⟩ := rng_cells gR
      have hC := XN.out HN.out v4 bx
      go_wp2_with fail
      refine hC.mono ?_
      rintro e0 v5 ⟨rfl, hb⟩
      have bx := bx.trans (hb.mono bx.size)
      have g0 := blkLater hb g0
      have g1 := blkLater hb g1
      have gR := blkLater hb gR
      clear hC hb n0 a0 a1 r0 r1 r2 r3
      clear HN XTT XN
      go_upto_region 7 with fail
      go_cut [66] (fun t wx => t = .bool false ∧ wx = v5)
      case first =>
        by_cases hs : SE = 0
        · subst hs
          go_wp2_with fail
          go_meet
          exact ⟨rfl, rfl⟩
        · have hs2 : (SE == 0) = false := beq_eq_false_iff_ne.2 hs
          clear hs
          go_wp2_with fail
          go_meet
          exact ⟨rfl, rfl⟩
      case rest =>
      obtain ⟨rfl, hwv⟩ := hcut
      have hwv := hwv.symm
      subst hwv
      clear gR
      have n0 := (box_cell_l g0).1
      obtain ⟨a0, a1⟩ := bnd_cells g1
      have hC := X1.out v5 bx
      go_wp2_with fail
      refine hC.mono ?_
      rintro e0 v6 ⟨rfl, hb⟩
      have bx := bx.trans (hb.mono bx.size)
      have g0 := blkLater hb g0
      have g1 := blkLater hb g1
      clear hC hb n0 a0 a1
      go_upto_region 13 with fail
      have gS := heap_new v6 (.cells #[.int .i64 h, .int .i64 0, .int .i64 h, .int .i64 (LN : Int)] 44)
      have hb : Below v6.heap.size v6 (v6.alloc (.cells #[.int .i64 h, .int .i64 0, .int .i64 h, .int .i64 (LN : Int)] 44)) := (Below.refl _ v6).alloc (Nat.le_refl _) _
      have bx := bx.trans (hb.mono bx.size)
      have g0 := blkLater hb g0
      have g1 := blkLater hb g1
      clear hb
      obtain ⟨G2, hG2⟩ : ∃ G, v6.heap.size = G := ⟨_, rfl⟩
      rw [hG2] at gS ⊢
      generalize v6.alloc (.cells #[.int .i64 h, .int .i64 0, .int .i64 h, .int .i64 (LN : Int)] 44) = v7 at *
      clear hG2
      have kk0 := XK.out v7 bx
      have n0 := (box_cell_l g0).1
      obtain ⟨a0, a1⟩ := bnd_cells g1
      obtain ⟨r0, r1, r2, r3⟩ := rng_cells gS
      have hC := X2.out v7 bx
      go_wp2_with fail
      refine hC.mono ?_
      rintro e0 v8 ⟨ot, ct, rfl, hrt, hb, hN⟩
      have bx := bx.trans (hb.mono bx.size)
      have g0 := blkLater hb g0
      have g1 := blkLater hb g1
      have gS := blkLater hb gS
      have HN := hid hN
      have HRT := hid hrt
      clear hN hrt kk0
      clear hC hb n0 a0 a1 r0 r1 r2 r3
      have n0 := (box_cell_l g0).1
      obtain ⟨a0, a1⟩ := bnd_cells g1
      obtain ⟨r0, r1, r2, r3⟩ := rng_cells gS
      have hC := X3.out v8 bx
      go_wp2_with fail
      refine hC.mono ?_
      rintro e0 v9 ⟨oc, cc, is, LC, rfl, hrc, hLC, hb⟩
      have bx := bx.trans (hb.mono bx.size)
      have g0 := blkLater hb g0
      have g1 := blkLater hb g1
      have gS := blkLater hb gS
      have HRT := hid (HRT.out.later hb)
      have HRC := hid hrc
      have HLC := hid hLC
      clear hrc hLC
      clear hC hb n0 a0 a1 r0 r1 r2 r3
      have e9 : ((kk : Int) == 9) = (kk == 9) := beq_cast kk 9
      have hH := XH.out v9
      go_upto_region 16 with fail
      go_cut [122] (fun t wx => t = .bool false ∧ Below v9.heap.size v9 wx)
      case first =>
        by_cases hk1 : kk = 1 ∨ kk = 11 ∨ kk = 12
        · have hLT : LC = TS := (HLC.out hk1).trans (XE.out HN.out hk1)
          subst hLT
          have hS := sameN_any ot oc ct cc LC v9 HRT.out HRC.out hTl
          have hkb : (kk == 1 || kk == 9 || kk == 11 || kk == 12) = true := by rcases hk1 with e | e | e <;> rw [e] <;> rfl
          have hk9 : (kk == 9) = false := by rcases hk1 with e | e | e <;> rw [e] <;> rfl
          rw [hkb] at hH
          rw [hk9] at e9
          have n9 : ((kk : Int) != 9) = true := by rw [bne, e9]; rfl
          clear hk1 hkb hk9 e9
          go_wp2_with fail
          refine hH.mono ?_
          rintro e0 vv ⟨rfl, rfl⟩
          go_wp2_with fail
          refine hS.mono ?_
          rintro e0 vv2 ⟨rfl, hb⟩
          go_wp2_with fail
          go_meet
          exact ⟨rfl, hb⟩
        · by_cases hk9 : kk = 9
          · subst hk9
            clear e9 hk1
            go_wp2_with fail
            refine hH.mono ?_
            rintro e0 vv ⟨rfl, rfl⟩
            go_wp2_with fail
            go_meet
            exact ⟨rfl, Below.refl _ _⟩
          · have hkb : (kk == 1 || kk == 9 || kk == 11 || kk == 12) = false := by
              simp only [Bool.or_eq_false_iff, beq_eq_false_iff_ne]
              omega
            rw [hkb] at hH
            clear hk1 hk9 hkb e9
            go_wp2_with fail
            refine hH.mono ?_
            rintro e0 vv ⟨rfl, rfl⟩
            go_wp2_with fail
            go_meet
            exact ⟨rfl, Below.refl _ _⟩
      case rest =>
      obtain ⟨rfl, hb⟩ := hcut
      have bx := bx.trans (hb.mono bx.size)
      have g0 := blkLater hb g0
      have g1 := blkLater hb g1
      have gS := blkLater hb gS
      clear hb hH HRT HRC HLC XE X3 X2 X1 XH XK e9
      obtain ⟨I, P, SE2, hC4, hI⟩ := X4.out HN.out wc bx
      clear X4
      have n0 := (box_cell_l g0).1
      obtain ⟨a0, a1⟩ := bnd_cells g1
      obtain ⟨r0, r1, r2, r3⟩ := rng_cells gS
      have hC := hC4
      go_wp2_with fail
      refine hC.mono ?_
      rintro e0 v10 ⟨rfl, hb⟩
      have bx := bx.trans (hb.mono bx.size)
      have g0 := blkLater hb g0
      have g1 := blkLater hb g1
      have gS := blkLater hb gS
      clear hC4
      clear hC hb n0 a0 a1 r0 r1 r2 r3
      by_cases hs : SE2 = 0
      · obtain ⟨hI1, hkt⟩ := hI hs
        have h5 := X5.out hkt v10 bx
        subst hs
        by_cases hkh : k = h
        · subst hkh
          have hI2 : I = false := by rw [hI1]; simp
          subst hI2
          clear hI hI1 h5 X5
          go_wp2
          go_ret
          exact ⟨rfl, bx⟩
        · have hkb : (k == h) = false := beq_eq_false_iff_ne.2 hkh
          rw [hkb] at hI1
          have hI2 : I = CT := by rw [hI1]; rfl
          subst hI2
          have nk : (k != h) = true := by rw [bne, hkb]; rfl
          have n0 := (box_cell_l g0).1
          clear hI hI1 hkh X5 hkb
          go_wp2_with fail
          refine h5.mono ?_
          rintro e0 v11 ⟨rfl, hb⟩
          have bx := bx.trans (hb.mono bx.size)
          clear h5 hb n0
          go_wp2
          go_ret
          exact ⟨by simp, bx⟩
      · have hs2 : (SE2 != 0) = true := by rw [bne, beq_eq_false_iff_ne.2 hs]; rfl
        clear hI hs X5
        go_wp2
        go_ret
        exact ⟨rfl, bx⟩
    · have hd : (LE == 0) = false := beq_eq_false_iff_ne.2 hLE
      clear hLE XT XN
      go_enter Tryz.func5, Tryz.ntmps5
      go_upto_region 1 with fail
      generalize ((w.alloc (.cells #[.slice (some ⟨b, off, none⟩) ns.length cap] 24)).alloc (.cells #[.int .i64 x, .int .i64 c] 26)) = W0 at *
      have hl := XL.out W0
      go_wp2_with fail
      refine hl.mono ?_
      rintro e0 v1 ⟨rfl, hb⟩
      have bx := bx.trans (hb.mono bx.size)
      have g0 := blkLater hb g0
      have g1 := blkLater hb g1
      clear hl hb sx XL
      have n0 := (box_cell_l g0).1
      obtain ⟨a0, a1⟩ := bnd_cells g1
      have hC := XC.out v1 bx
      go_wp2_with fail
      refine hC.mono ?_
      rintro e0 v2 ⟨rfl, hb⟩
      have bx := bx.trans (hb.mono bx.size)
      have g0 := blkLater hb g0
      have g1 := blkLater hb g1
      clear hC hb n0 a0 a1
      have n0 := (box_cell_l g0).1
      obtain ⟨a0, a1⟩ := bnd_cells g1
      have hC := X1.out v2 bx
      go_wp2_with fail
      refine hC.mono ?_
      rintro e0 v6 ⟨rfl, hb⟩
      have bx := bx.trans (hb.mono bx.size)
      have g0 := blkLater hb g0
      have g1 := blkLater hb g1
      clear hC hb n0 a0 a1
      go_upto_region 13 with fail
      have gS := heap_new v6 (.cells #[.int .i64 h, .int .i64 0, .int .i64 h, .int .i64 (LN : Int)] 44)
      have hb : Below v6.heap.size v6 (v6.alloc (.cells #[.int .i64 h, .int .i64 0, .int .i64 h, .int .i64 (LN : Int)] 44)) := (Below.refl _ v6).alloc (Nat.le_refl _) _
      have bx := bx.trans (hb.mono bx.size)
      have g0 := blkLater hb g0
      have g1 := blkLater hb g1
      clear hb
      obtain ⟨G2, hG2⟩ : ∃ G, v6.heap.size = G := ⟨_, rfl⟩
      rw [hG2] at gS ⊢
      generalize v6.alloc (.cells #[.int .i64 h, .int .i64 0, .int .i64 h, .int .i64 (LN : Int)] 44) = v7 at *
      clear hG2
      have kk0 := XK.out v7 bx
      have n0 := (box_cell_l g0).1
      obtain ⟨a0, a1⟩ := bnd_cells g1
      obtain ⟨r0, r1, r2, r3⟩ := rng_cells gS
      have hC := X2.out v7 bx
      go_wp2_with fail
      refine hC.mono ?_
      rintro e0 v8 ⟨ot, ct, rfl, hrt, hb, hN⟩
      have bx := bx.trans (hb.mono bx.size)
      have g0 := blkLater hb g0
      have g1 := blkLater hb g1
      have gS := blkLater hb gS
      have HN := hid hN
      have HRT := hid hrt
      clear hN hrt kk0
      clear hC hb n0 a0 a1 r0 r1 r2 r3
      have n0 := (box_cell_l g0).1
      obtain ⟨a0, a1⟩ := bnd_cells g1
      obtain ⟨r0, r1, r2, r3⟩ := rng_cells gS
      have hC := X3.out v8 bx
      go_wp2_with fail
      refine hC.mono ?_
      rintro e0 v9 ⟨oc, cc, is, LC, rfl, hrc, hLC, hb⟩
      have bx := bx.trans (hb.mono bx.size)
      have g0 := blkLater hb g0
      have g1 := blkLater hb g1
      have gS := blkLater hb gS
      have HRT := hid (HRT.out.later hb)
      have HRC := hid hrc
      have HLC := hid hLC
      clear hrc hLC
      clear hC hb n0 a0 a1 r0 r1 r2 r3
      have e9 : ((kk : Int) == 9) = (kk == 9) := beq_cast kk 9
      have hH := XH.out v9
      go_upto_region 16 with fail
      go_cut [122] (fun t wx => t = .bool false ∧ Below v9.heap.size v9 wx)
      case first =>
        by_cases hk1 : kk = 1 ∨ kk = 11 ∨ kk = 12
        · have hLT : LC = TS := (HLC.out hk1).trans (XE.out HN.out hk1)
          subst hLT
          have hS := sameN_any ot oc ct cc LC v9 HRT.out HRC.out hTl
          have hkb : (kk == 1 || kk == 9 || kk == 11 || kk == 12) = true := by rcases hk1 with e | e | e <;> rw [e] <;> rfl
          have hk9 : (kk == 9) = false := by rcases hk1 with e | e | e <;> rw [e] <;> rfl
          rw [hkb] at hH
          rw [hk9] at e9
          have n9 : ((kk : Int) != 9) = true := by rw [bne, e9]; rfl
          clear hk1 hkb hk9 e9
          go_wp2_with fail
          refine hH.mono ?_
          rintro e0 vv ⟨rfl, rfl⟩
          go_wp2_with fail
          refine hS.mono ?_
          rintro e0 vv2 ⟨rfl, hb⟩
          go_wp2_with fail
          go_meet
          exact ⟨rfl, hb⟩
        · by_cases hk9 : kk = 9
          · subst hk9
            clear e9 hk1
            go_wp2_with fail
            refine hH.mono ?_
            rintro e0 vv ⟨rfl, rfl⟩
            go_wp2_with fail
            go_meet
            exact ⟨rfl, Below.refl _ _⟩
          · have hkb : (kk == 1 || kk == 9 || kk == 11 || kk == 12) = false := by
              simp only [Bool.or_eq_false_iff, beq_eq_false_iff_ne]
              omega
            rw [hkb] at hH
            clear hk1 hk9 hkb e9
            go_wp2_with fail
            refine hH.mono ?_
            rintro e0 vv ⟨rfl, rfl⟩
            go_wp2_with fail
            go_meet
            exact ⟨rfl, Below.refl _ _⟩
      case rest =>
      obtain ⟨rfl, hb⟩ := hcut
      have bx := bx.trans (hb.mono bx.size)
      have g0 := blkLater hb g0
      have g1 := blkLater hb g1
      have gS := blkLater hb gS
      clear hb hH HRT HRC HLC XE X3 X2 X1 XH XK e9
      obtain ⟨I, P, SE2, hC4, hI⟩ := X4.out HN.out wc bx
      clear X4
      have n0 := (box_cell_l g0).1
      obtain ⟨a0, a1⟩ := bnd_cells g1
      obtain ⟨r0, r1, r2, r3⟩ := rng_cells gS
      have hC := hC4
      go_wp2_with fail
      refine hC.mono ?_
      rintro e0 v10 ⟨rfl, hb⟩
      have bx := bx.trans (hb.mono bx.size)
      have g0 := blkLater hb g0
      have g1 := blkLater hb g1
      have gS := blkLater hb gS
      clear hC4
      clear hC hb n0 a0 a1 r0 r1 r2 r3
      by_cases hs : SE2 = 0
      · obtain ⟨hI1, hkt⟩ := hI hs
        have h5 := X5.out hkt v10 bx
        subst hs
        by_cases hkh : k = h
        · subst hkh
          have hI2 : I = false := by rw [hI1]; simp
          subst hI2
          clear hI hI1 h5 X5
          go_wp2
          go_ret
          exact ⟨rfl, bx⟩
        · have hkb : (k == h) = false := beq_eq_false_iff_ne.2 hkh
          rw [hkb] at hI1
          have hI2 : I = CT := by rw [hI1]; rfl
          subst hI2
          have nk : (k != h) = true := by rw [bne, hkb]; rfl
          have n0 := (box_cell_l g0).1
          clear hI hI1 hkh X5 hkb
          go_wp2_with fail
          refine h5.mono ?_
          rintro e0 v11 ⟨rfl, hb⟩
          have bx := bx.trans (hb.mono bx.size)
          clear h5 hb n0
          go_wp2
          go_ret
          exact ⟨by simp, bx⟩
      · have hs2 : (SE2 != 0) = true := by rw [bne, beq_eq_false_iff_ne.2 hs]; rfl
        clear hI hs X5
        go_wp2
        go_ret
        exact ⟨rfl, bx⟩
  · have X1' := X1
    rw [if_neg hE1] at X1
    have hn1 : (toldE ns [h] != 0) = true := by rw [bne, beq_eq_false_iff_ne.2 hE1]; rfl
    clear hF hkl hal hE1 X1'
    generalize toldE ns [h] = E1 at *
    by_cases hLE : LE = 0
    · subst hLE
      have XTT := hid (XT.out rfl)
      clear XT
      go_enter Tryz.func5, Tryz.ntmps5
      go_upto_region 1 with fail
      generalize ((w.alloc (.cells #[.slice o ns.length cap] 24)).alloc (.cells #[.int .i64 x, .int .i64 c] 26)) = W0 at *
      have hl := XL.out W0
      go_wp2_with fail
      refine hl.mono ?_
      rintro e0 v1 ⟨rfl, hb⟩
      have bx := bx.trans (hb.mono bx.size)
      have g0 := blkLater hb g0
      have g1 := blkLater hb g1
      clear hl hb sx XL
      have n0 := (box_cell_l g0).1
      obtain ⟨a0, a1⟩ := bnd_cells g1
      have hC := XC.out v1 bx
      go_wp2_with fail
      refine hC.mono ?_
      rintro e0 v2 ⟨rfl, hb⟩
      have bx := bx.trans (hb.mono bx.size)
      have g0 := blkLater hb g0
      have g1 := blkLater hb g1
      clear hC hb n0 a0 a1
      have n0 := (box_cell_l g0).1
      obtain ⟨a0, a1⟩ := bnd_cells g1
      go_upto_region 5 with fail
      have gR := heap_new v2 (.cells #[.int .i64 x, .int .i64 c, .int .i64 x, .int .i64 c] 44)
      have hb : Below v2.heap.size v2 (v2.alloc (.cells #[.int .i64 x, .int .i64 c, .int .i64 x, .int .i64 c] 44)) := (Below.refl _ v2).alloc (Nat.le_refl _) _
      have bx := bx.trans (hb.mono bx.size)
      have g0 := blkLater hb g0
      have g1 := blkLater hb g1
      clear hb n0 a0 a1
      obtain ⟨G, hG⟩ : ∃ G, v2.heap.size = G := ⟨_, rfl⟩
      rw [hG] at gR ⊢
      generalize v2.alloc (.cells #[.int .i64 x, .int .i64 c, .int .i64 x, .int .i64 c] 44) = v3 at *
      clear hG
      have n0 := (box_cell_l g0).1
      obtain ⟨a0, a1⟩ := bnd_cells g1
      obtain ⟨r0, r1, r2, r3⟩ := rng_cells gR
      have hC := XTT.out v3 bx
      go_wp2_with fail
      refine hC.mono ?_
      rintro e0 v4 ⟨ou, cu, rfl, hb, hN⟩
      have bx := bx.trans (hb.mono bx.size)
      have g0 := blkLater hb g0
      have g1 := blkLater hb g1
      have gR := blkLater hb gR
      have HN := hid hN
      clear hN
      clear hC hb n0 a0 a1 r0 r1 r2 r3
      have n0 := (box_cell_l g0).1
      obtain ⟨a0, a1⟩ := bnd_cells g1
      obtain ⟨r0, r1, r2, r3⟩ := rng_cells gR
      have hC := XN.out HN.out v4 bx
      go_wp2_with fail
      refine hC.mono ?_
      rintro e0 v5 ⟨rfl, hb⟩
      have bx := bx.trans (hb.mono bx.size)
      have g0 := blkLater hb g0
      have g1 := blkLater hb g1
      have gR := blkLater hb gR
      clear hC hb n0 a0 a1 r0 r1 r2 r3
      clear HN XTT XN
      go_upto_region 7 with fail
      go_cut [66] (fun t wx => t = .bool false ∧ wx = v5)
      case first =>
        by_cases hs : SE = 0
        · subst hs
          go_wp2_with fail
          go_meet
          exact ⟨rfl, rfl⟩
        · have hs2 : (SE == 0) = false := beq_eq_false_iff_ne.2 hs
          clear hs
          go_wp2_with fail
          go_meet
          exact ⟨rfl, rfl⟩
      case rest =>
      obtain ⟨rfl, hwv⟩ := hcut
      have hwv := hwv.symm
      subst hwv
      clear gR
      have n0 := (box_cell_l g0).1
      obtain ⟨a0, a1⟩ := bnd_cells g1
      have hC := X1.out v5 bx
      go_wp2_with fail
      refine hC.mono ?_
      rintro e0 v6 ⟨rfl, hb⟩
      have bx := bx.trans (hb.mono bx.size)
      have g0 := blkLater hb g0
      have g1 := blkLater hb g1
      clear hC hb n0 a0 a1
      go_wp2
      go_ret
      exact ⟨rfl, bx⟩
    · have hd : (LE == 0) = false := beq_eq_false_iff_ne.2 hLE
      clear hLE XT XN
      go_enter Tryz.func5, Tryz.ntmps5
      go_upto_region 1 with fail
      generalize ((w.alloc (.cells #[.slice o ns.length cap] 24)).alloc (.cells #[.int .i64 x, .int .i64 c] 26)) = W0 at *
      have hl := XL.out W0
      go_wp2_with fail
      refine hl.mono ?_
      rintro e0 v1 ⟨rfl, hb⟩
      have bx := bx.trans (hb.mono bx.size)
      have g0 := blkLater hb g0
      have g1 := blkLater hb g1
      clear hl hb sx XL
      have n0 := (box_cell_l g0).1
      obtain ⟨a0, a1⟩ := bnd_cells g1
      have hC := XC.out v1 bx
      go_wp2_with fail
      refine hC.mono ?_
      rintro e0 v2 ⟨rfl, hb⟩
      have bx := bx.trans (hb.mono bx.size)
      have g0 := blkLater hb g0
      have g1 := blkLater hb g1
      clear hC hb n0 a0 a1
      have n0 := (box_cell_l g0).1
      obtain ⟨a0, a1⟩ := bnd_cells g1
      have hC := X1.out v2 bx
      go_wp2_with fail
      refine hC.mono ?_
      rintro e0 v6 ⟨rfl, hb⟩
      have bx := bx.trans (hb.mono bx.size)
      have g0 := blkLater hb g0
      have g1 := blkLater hb g1
      clear hC hb n0 a0 a1
      go_wp2
      go_ret
      exact ⟨rfl, bx⟩
end Go.Proofs.YtilacgcjbdkphaaGreat

namespace Go.Proofs.YtilacgcjbdkphaaGreat
open Go.RowKit Go.Lib Go.ChangeShapes Go.WideShapes Go.ChangeAt

theorem Tryz.ownBoundsAll : ownKnob Tryz.prog.godebug = none := by kernel_rfl

set_option maxRecDepth 100000 in
theorem boundsAll_lifted (os : Os) (started : os.Started) (H : Type) (enc : TypeId × Value → H) (F : Stop.Interp) :
    ReturnsInHanded {} Tryz.checked os 5 .any ((Rows.OpenSpec.upto Rows.boundsAllSpec).pre6 enc Tryz.prog Tryz.f5 Rows.boundsAllUptoRow.domain false) (((Rows.OpenSpec.upto Rows.boundsAllSpec).at F).post enc Tryz.prog Tryz.f5 false true false false) := by
  refine returnsInHanded_of_cond (C := Tryz.checked) (s := Rows.OpenSpec.upto Rows.boundsAllSpec) (k := Rows.uptoSmall) rfl Tryz.ownBoundsAll started (by kernel_rfl) Tryz.func5
    (OpenSpec.witness (enc := enc) (C := Tryz.checked) (s := Rows.OpenSpec.upto Rows.boundsAllSpec) (k := Rows.uptoSmall) rfl false ⟨#[], #[.agg #[.slice none 0 0], .int .i64 0, .int .i64 0, .agg #[.int .i64 0, .int .i64 0]], []⟩ 8 (by kernel_rfl) (by kernel_rfl) (by kernel_rfl)
      (x := ([.agg [.nil], .lit (.int .i64 0), .lit (.int .i64 0), .agg [.lit (.int .i64 0), .lit (.int .i64 0)]], [], [])) (by kernel_rfl) rfl (by kernel_rfl)) ?_
  intro W base args ds gs before hval0 hW _ hk _
  have hval : ∀ (j : Nat) t v, Tryz.f5.params[j]? = some t → args[j]? = some v → Value.okWide Tryz.prog W .any base t v := hval0
  have hW' := hW
  obtain ⟨p, q, hA0, hV, rfl, _, _⟩ := hW
  have hA : DataW.TrodAll enc Tryz.prog W 0 (fun _ => true) true Tryz.f5.params.toList args.toList ds p := hA0
  rw [Tryz.params5] at hA hval
  obtain ⟨v0, vs0, d0, ds0, p0, q0, hargs, rfl, rfl, h0, r0t⟩ := trodAll_cons hA
  obtain ⟨v1, vs1, d1, ds1, p1, q1, rfl, rfl, rfl, h1, r1t⟩ := trodAll_cons r0t
  obtain ⟨v2, vs2, d2, ds2, p2, q2, rfl, rfl, rfl, h2, r2t⟩ := trodAll_cons r1t
  obtain ⟨v3, vs3, d3, ds3, p3, q3, rfl, rfl, rfl, h3, r3t⟩ := trodAll_cons r2t
  obtain ⟨rfl, rfl, rfl⟩ := trodAll_nil r3t
  obtain rfl : args = #[v0, v1, v2, v3] := by cases args; simp_all
  obtain ⟨rfl, rfl⟩ := trodVars_none hV
  obtain ⟨o0, cap0, ns0, rfl, hF0, bn0, bk0⟩ := open_forest (hval 0 24 v0 rfl rfl) h0
  obtain ⟨x1, rfl, rfl, rfl, wx1⟩ := open_int Tryz.underlying3 (hval 1 3 v1 rfl rfl) h1
  obtain ⟨x2, rfl, rfl, rfl, wx2⟩ := open_int Tryz.underlying3 (hval 2 3 v2 rfl rfl) h2
  obtain ⟨x3, c3, rfl⟩ := open_bound (hval 3 26 v3 rfl rfl) h3
  have hkk := of_decide_eq_true hk
  simp [Rows.uptoBulkAll] at hkk
  have hlt := hW'.lt
  refine (boundsAll_law o0 cap0 ns0 x1 x2 x3 c3 W (hF0 (by omega)) (fun i hi => by have := (bk0 i hi).1; omega) (fun i hi => by have := (bk0 i hi).2; omega)).mono fun e W' ⟨he, hb⟩ => ?_
  subst he
  exact ⟨_, rfl, _, _, _, [], _, [], hW', trodAll_mk1 (shut_bool Tryz.underlying4 _), trodAll_cons_mk (Below.trod Tryz.fLaidOut (by kernel_rfl) (of_decide_eq_true (by kernel_rfl)) h0 hb (fun y hy => hlt y (by simp [hy]))) (trodAll_cons_mk (shut_int Tryz.underlying3 wx1) (trodAll_cons_mk (shut_int Tryz.underlying3 wx2) (trodAll_cons_mk (Below.trod Tryz.fLaidOut (by kernel_rfl) (of_decide_eq_true (by kernel_rfl)) h3 hb (fun y hy => hlt y (by simp [hy]))) trodAll_mk0))), rfl, hb.frame _, fun h => by cases h⟩

theorem boundsAll_upto : Rows.BoundsAllUptoSaid :=
  OpenClaim.holds_of_cond 5 Tryz.f5 rfl rfl rfl rfl rfl rfl rfl ⟨rfl, rfl, rfl, rfl, rfl⟩ rfl rfl rfl rfl rfl (by kernel_rfl) Tryz.func5 (by kernel_rfl)
    (of_decide_eq_true (by kernel_rfl)) (by unfold Func.isWrapper; first | (rw [if_pos (by decide +kernel)]; kernel_rfl) | (rw [if_neg (by decide +kernel)]; exact ⟨rfl, rfl⟩))
    (fun os started H enc _ F => boundsAll_lifted os started H enc F)
end Go.Proofs.YtilacgcjbdkphaaGreat

