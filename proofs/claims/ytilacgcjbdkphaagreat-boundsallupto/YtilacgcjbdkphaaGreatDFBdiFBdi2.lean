/- bounds: the text of a range (textOf). -/
/- bounds: Text of a range from a text to what is none. -/
/- bounds: the text of a range (textOf), another case. -/
import Derived.Test.YtilacgcjbdkphaaGreatDFBdeFBf0
namespace Go.Proofs.YtilacgcjbdkphaaGreat
open Go.RowKit Go.Lib Go.Shelf

theorem comm_there {ns : List NodeD} (h : RightF ns) {x y : Int} (hx : thereB ns.length x = true) (hy : thereB ns.length y = true) (hr : rootP ns x = rootP ns y) : thereB ns.length (commD ns x y) = true := by
  have key : ∀ l : List Int, (∀ z ∈ l, thereB ns.length z = true) → (∃ z ∈ l, y ∈ allD ns z) → thereB ns.length (firstD (fun z => if y ∈ allD ns z then z else 0) l) = true := by
    intro l
    induction l with
    | nil => rintro _ ⟨z, hz, _⟩; cases hz
    | cons u l ih =>
      intro ht ⟨z, hz, hm⟩
      rw [firstD]
      by_cases hu : y ∈ allD ns u
      · have hu0 : u ≠ 0 := by have := there_natB (ht u (List.mem_cons_self ..)); omega
        rw [if_pos hu, beq_eq_false_iff_ne.2 hu0]
        exact ht u (List.mem_cons_self ..)
      · rw [if_neg hu]
        refine ih (fun v hv => ht v (List.mem_cons_of_mem _ hv)) ?_
        rcases List.mem_cons.1 hz with rfl | hz
        · exact absurd hm hu
        · exact ⟨z, hz, hm⟩
  obtain ⟨a, _, c⟩ := root_up h _ x (Nat.le_refl _) hx
  refine key _ (fun z hz => (pathUp_mem h hx hz).1) ⟨_, c, ?_⟩
  have := (rootP_there h hy).2.2
  rw [← hr] at this
  exact this
/-- What is asked for the text. -/
structure TextC (ns : List NodeD) (w : World) (b off cap bR bF bL : Nat) (x : Int) (c : Nat) (y : Int) (d : Nat) : Prop where
  text : ∀ h, thereB ns.length h = true → ∀ V : World, Below w.heap.size w V → Calls Tryz.prog 98 #[.agg #[.slice (some ⟨b, off, none⟩) ns.length cap], .int .i64 h] V fun e w' => e = .returned (.bool (textB ns h)) ∧ Below V.heap.size V w'
  cont : ∀ h, thereB ns.length h = true → ∀ V : World, Below w.heap.size w V → Calls Tryz.prog 62 #[.agg #[.slice (some ⟨b, off, none⟩) ns.length cap, .slice (some ⟨bR, 0, none⟩) (ns.length + 1) (ns.length + 1), .slice (some ⟨bF, 0, none⟩) (ns.length + 1) (ns.length + 1), .slice (some ⟨bL, 0, none⟩) (ns.length + 1) (ns.length + 1)], .agg #[.int .i64 x, .int .i64 (c : Int), .int .i64 y, .int .i64 (d : Int)], .int .i64 h] V fun e w' => e = .returned (.bool (contD ns (x, (c : Int)) (y, (d : Int)) h)) ∧ Below V.heap.size V w'
  comm : ∀ V : World, Below w.heap.size w V → Calls Tryz.prog 59 #[.agg #[.slice (some ⟨b, off, none⟩) ns.length cap], .agg #[.slice (some ⟨b, off, none⟩) ns.length cap, .slice (some ⟨bR, 0, none⟩) (ns.length + 1) (ns.length + 1), .slice (some ⟨bF, 0, none⟩) (ns.length + 1) (ns.length + 1), .slice (some ⟨bL, 0, none⟩) (ns.length + 1) (ns.length + 1)], .agg #[.int .i64 x, .int .i64 (c : Int), .int .i64 y, .int .i64 (d : Int)]] V fun e w' => e = .returned (.int .i64 (commD ns x y)) ∧ Below V.heap.size V w'
  all : ∀ V : World, Below w.heap.size w V → Calls Tryz.prog 73 #[.agg #[.slice (some ⟨b, off, none⟩) ns.length cap], .int .i64 (commD ns x y)] V fun e w' => ∃ o2 c2, e = .returned (.tuple #[.slice o2 (allD ns (commD ns x y)).length c2, .int .i64 0]) ∧ RdI w' (.slice o2 (allD ns (commD ns x y)).length c2) (allD ns (commD ns x y)) ∧ Below V.heap.size V w'
  alls : ∀ h ∈ allD ns (commD ns x y), thereB ns.length h = true
  few : (allD ns (commD ns x y)).length ≤ 4096
  node : ∀ h, thereB ns.length h = true → ∃ (k : Nat) (od : Option Addr) (cd : Nat), h = (k : Int) + 1 ∧ k < ns.length ∧ RdN w (.slice od (dataD ns h).length cd) (dataD ns h) ∧ (dataD ns h).length ≤ 16384 ∧ (∀ V, Below w.heap.size w V → V.cell? ⟨b, off + k * 16 + 6, none⟩ = some (.slice od (dataD ns h).length cd))
theorem textC_of (b off cap bR bF bL : Nat) (x : Int) (c : Nat) (y : Int) (d : Nat) (ns : List NodeD) (w : World) (hR : RightF ns) (hF : FAt w b off cap ns) (hkl : ∀ (i : Nat) (hi : i < ns.length), ns[i].kids.length ≤ 1099511627776) (hal : ∀ (i : Nat) (hi : i < ns.length), ns[i].attrs.length ≤ 1099511627776) (hN : NumsAt ns w bR bF bL) (hp : isPt ns (x, (c : Int))) (hq : isPt ns (y, (d : Int))) (hroot : rootP ns x = rootP ns y) : TextC ns w b off cap bR bF bL x c y d where
  text := fun h hh V hV => by
    obtain ⟨k, hk, rfl⟩ := there_idx hh
    exact isText_any b off cap k ns V (hF.later hV) hk
  cont := fun h hh V hV => by
    obtain ⟨k, hk, rfl⟩ := there_idx hh
    obtain ⟨i, hi, rfl⟩ := there_idx hp.1
    obtain ⟨j, hj, rfl⟩ := there_idx hq.1
    obtain ⟨R, F, L, hNl⟩ := (hN.later hV).lists
    rw [← cont_pos hR hNl.num hp hq (there_of hk) hroot]
    exact pContained_any b off cap bR bF bL i j k c d ns R F L V hR (hF.later hV) hNl hi hj hk hp hq
  comm := fun V hV => bCommon_any b off cap bR bF bL x c y d ns V hR (hF.later hV) (hN.later hV) hp.1 hq.1
  all := fun V hV => by
    have ht := comm_there hR hp.1 hq.1 hroot
    have e0 : toldE ns [commD ns x y] = 0 := toldE_ok ((rightD_iff ns).2 hR) (by simp [ht])
    have hfew : (allD ns (commD ns x y)).length ≤ 4096 := Nat.le_trans (hR.kidsHang.below_len (ns.length + 1) _ ht (by omega)) hR.small
    refine (All_any (some ⟨b, off, none⟩) cap (commD ns x y) ns V ⟨hF.len, fun _ => ⟨b, off, rfl, hF.later hV⟩⟩ hkl hal (fun _ => by omega)).mono ?_
    rintro e w' ⟨v, rfl, ho, hb⟩
    rw [e0, if_pos rfl] at ho
    obtain ⟨o2, c2, rfl⟩ := own_shapeB ho
    exact ⟨o2, c2, by rw [e0], ownsRow_rdI ho, hb⟩
  alls := fun h hh => all_there hR (comm_there hR hp.1 hq.1 hroot) hh
  few := Nat.le_trans (hR.kidsHang.below_len (ns.length + 1) _ (comm_there hR hp.1 hq.1 hroot) (by omega)) hR.small
  node := fun h hh => by
    obtain ⟨k, hk, rfl⟩ := there_idx hh
    have hd : dataD ns ((k : Int) + 1) = ns[k].data := by unfold dataD; rw [nodeOf_at ns k hk]
    obtain ⟨Ls, hc, hd3, _, _⟩ := hF.at_ k hk
    obtain ⟨D, A, K⟩ := Ls
    simp only at hd3
    obtain ⟨od, cd, rfl, hh3⟩ := hd3
    rw [hd]
    exact ⟨k, od, cd, rfl, hk, ⟨od, cd, rfl, hh3⟩, well_dataB (hR.well k hk), fun V hV => (hc.later hF.lt hV).data⟩
theorem step_append_run {P : Program} (w : World) {ops : Array Oper} {o : Oper} {a : Act} {K : Act → World → Prop} {Q : Exit → Act → World → Prop} {E : Prop} (hgd : o.guard = none) (s x : Operand) (t tn : TypeId)
    (ho : o.op = .call { callee := .builtin .append, args := #[s, x], argTypes := #[t, tn] }) (vs vx : Value) (hs : a.eval s = vs) (hx : a.eval x = vx) (v' : Value) (w' : World) (hr : (Builtin.append_ #[t, tn] o.type #[vs, vx]).run P w = .ok v' w') (h : K (a.put o.dst v') w') :
    if Region.wanted o (yielded ops a.tmps) = true then Oper.wp P o a w K Q else E := by
  have hw : Region.wanted o (yielded ops a.tmps) = true := by simp [Region.wanted, hgd]
  rw [if_pos hw]
  exact wp_append_run w s x t tn ho vs vx hs hx v' w' hr h
theorem filter_one (p : Int → Bool) (a : Int) : [a].filter p = if p a then [a] else [] := by rw [List.filter_cons, List.filter_nil]
theorem catN_snoc (L : List (Value × List Nat)) (e : Value × List Nat) : catLN (L ++ [e]) = catLN L ++ e.2 := by
  unfold catLN
  rw [List.flatMap_append, List.flatMap_cons, List.flatMap_nil, List.append_nil]
theorem parts_cells {W : World} {base : Nat} {o : Option Addr} {cp : Nat} {L : List (Value × List Nat)} (h : W.ownsRow base 53 1 (.slice o L.length cp) L.length (L.map (·.1))) (hr : ∀ e ∈ L, RdN W e.1 e.2) : 0 < L.length → ∃ g, o = some ⟨g, 0, none⟩ ∧ g < W.heap.size ∧ CellsLIN W g L := fun hp => by
  obtain ⟨_, ⟨h0, h1⟩ | ⟨g, cap, cur, h0, hg, hh, hnc, hcm, hcs, htk⟩⟩ := h
  · omega
  · simp only [Value.slice.injEq, true_and] at h0
    obtain ⟨rfl, rfl⟩ := h0
    refine ⟨g, rfl, (Array.getElem?_eq_some_iff.1 hh).1, fun j hj => ⟨?_, hr _ (List.getElem_mem hj)⟩⟩
    rw [cell_of_heap hh]
    have h1 : (cur.toList.take (L.length * 1))[j]? = some L[j].1 := by
      rw [htk, List.getElem?_map, List.getElem?_eq_getElem hj]
      rfl
    rw [List.getElem?_take] at h1
    split at h1
    · simpa using h1
    · cases h1
/-- Parts of a text, in a row of one's own. -/
structure Parts (w W1 : World) (T : List Nat) (n : Nat) (o : Option Addr) (cp : Nat) (L : List (Value × List Nat)) (wx : World) : Prop where
  own : wx.ownsRow W1.heap.size 53 1 (.slice o L.length cp) L.length (L.map (·.1))
  rd : ∀ e ∈ L, RdN w e.1 e.2 ∧ e.2.length ≤ 16384
  cat : catLN L = T
  few : L.length ≤ n
  below : Below W1.heap.size W1 wx
theorem Parts.snoc {w W1 : World} {T : List Nat} {n : Nat} {o : Option Addr} {cp : Nat} {L : List (Value × List Nat)} {wx : World} (h : Parts w W1 T n o cp L wx) {o8 : Option Addr} {c8 : Nat} {v : Value} {us T' : List Nat} {w8 : World} (ho : w8.ownsRow W1.heap.size 53 1 (.slice o8 (L ++ [(v, us)]).length c8) (L ++ [(v, us)]).length ((L ++ [(v, us)]).map (·.1))) (hr : RdN w v us) (hu : us.length ≤ 16384) (hb : Below W1.heap.size W1 w8) (hT : T ++ us = T') : Parts w W1 T' (n + 1) o8 c8 (L ++ [(v, us)]) w8 where
  own := ho
  rd := fun e he => by
    rcases List.mem_append.1 he with a | a
    · exact h.rd e a
    · rw [List.mem_singleton.1 a]
      exact ⟨hr, hu⟩
  cat := by rw [catN_snoc, h.cat]; exact hT
  few := by rw [List.length_append, List.length_singleton]; have := h.few; omega
  below := hb
theorem Parts.later {w W1 : World} {T : List Nat} {n : Nat} {o : Option Addr} {cp : Nat} {L : List (Value × List Nat)} {wx V : World} (h : Parts w W1 T n o cp L wx) (hb : Below wx.heap.size wx V) : Parts w W1 T n o cp L V := ⟨ownsRow_later h.own hb, h.rd, h.cat, h.few, h.below.trans (hb.mono h.below.size)⟩
theorem sumLN_le (L : List (Value × List Nat)) (m : Nat) (h : ∀ e ∈ L, e.2.length ≤ m) : sumLN L ≤ L.length * m := by
  unfold sumLN
  induction L with
  | nil => simp
  | cons e L ih =>
    rw [List.map_cons, List.sum_cons, List.length_cons, Nat.add_mul, Nat.one_mul]
    have := ih fun f hf => h f (List.mem_cons_of_mem _ hf)
    have := h e (List.mem_cons_self ..)
    omega

set_option maxRecDepth 100000 in
set_option maxHeartbeats 8000000 in
theorem textOf_TF (b off cap bR bF bL : Nat) (x : Int) (c : Nat) (y : Int) (d : Nat) (ns : List NodeD) (w : World) (hle : ns.length ≤ 1099511627776) (hC : TextC ns w b off cap bR bF bL x c y d) (hx : isPt ns (x, (c : Int))) (hy : isPt ns (y, (d : Int))) (hxy : x ≠ y) (tx : textB ns x = true) (ty : textB ns y = false) (lx : c ≤ (dataD ns x).length) :
    Calls Tryz.prog 68 #[.agg #[.slice (some ⟨b, off, none⟩) ns.length cap], .agg #[.slice (some ⟨b, off, none⟩) ns.length cap, .slice (some ⟨bR, 0, none⟩) (ns.length + 1) (ns.length + 1), .slice (some ⟨bF, 0, none⟩) (ns.length + 1) (ns.length + 1), .slice (some ⟨bL, 0, none⟩) (ns.length + 1) (ns.length + 1)], .agg #[.int .i64 x, .int .i64 (c : Int), .int .i64 y, .int .i64 (d : Int)]] w fun e w' => ∃ v, e = .returned (.tuple #[v, .int .i64 0]) ∧ w'.ownsRow w.heap.size 70 1 v (textD ns (x, (c : Int)) (y, (d : Int))).length ((textD ns (x, (c : Int)) (y, (d : Int))).map uV) ∧ Below w.heap.size w w' := by
  have HT1 : Hid (textD ns (x, (c : Int)) (y, (d : Int)) = (dataD ns x).drop c ++ ((allD ns (commD ns x y)).filter (fun h => textB ns h && contD ns (x, (c : Int)) (y, (d : Int)) h)).flatMap (dataD ns) ++ []) := by
    show textD ns (x, (c : Int)) (y, (d : Int)) = _
    unfold textD
    rw [tx, ty]
    rfl
  obtain ⟨bx, g0, g1, g2, sx⟩ := three_newB w (.cells #[.slice (some ⟨b, off, none⟩) ns.length cap] 24) (.cells #[.slice (some ⟨b, off, none⟩) ns.length cap, .slice (some ⟨bR, 0, none⟩) (ns.length + 1) (ns.length + 1), .slice (some ⟨bF, 0, none⟩) (ns.length + 1) (ns.length + 1), .slice (some ⟨bL, 0, none⟩) (ns.length + 1) (ns.length + 1)] 77) (.cells #[.int .i64 x, .int .i64 (c : Int), .int .i64 y, .int .i64 (d : Int)] 44)
  have HC := hid hC
  have HFew := hid hC.few
  have hX := hC.text x hx.1
  have hY := hC.text y hy.1
  rw [tx] at hX
  rw [ty] at hY
  have HX := hid hX
  have HY := hid hY
  obtain ⟨kx, odx, cdx, ex, hkx, rdx, ldx, cellx⟩ := hC.node x hx.1
  obtain ⟨ky, ody, cdy, ey, hky, rdy, ldy, celly⟩ := hC.node y hy.1
  have HNx := hid (And.intro rdx (And.intro ldx cellx))
  have HNy := hid (And.intro rdy (And.intro ldy celly))
  have HEx := hid (And.intro ex hkx)
  have HEy := hid (And.intro ey hky)
  clear hX hY rdx ldx cellx rdy ldy celly hx hy tx ty ex ey hkx hky
  generalize textD ns (x, (c : Int)) (y, (d : Int)) = TT at *
  generalize hcm : commD ns x y = cm at *
  have HC2 : Hid (TextC ns w b off cap bR bF bL x c y d ∧ commD ns x y = cm) := ⟨hC, hcm⟩
  clear hC HC hcm
  go_enter Tryz.func68, Tryz.ntmps68
  go_upto_region 1 with fail
  generalize (((w.alloc (.cells #[.slice (some ⟨b, off, none⟩) ns.length cap] 24)).alloc (.cells #[.slice (some ⟨b, off, none⟩) ns.length cap, .slice (some ⟨bR, 0, none⟩) (ns.length + 1) (ns.length + 1), .slice (some ⟨bF, 0, none⟩) (ns.length + 1) (ns.length + 1), .slice (some ⟨bL, 0, none⟩) (ns.length + 1) (ns.length + 1)] 77)).alloc (.cells #[.int .i64 x, .int .i64 (c : Int), .int .i64 y, .int .i64 (d : Int)] 44)) = W0 at *
  have f0 := (box_cell_l g0).1
  obtain ⟨n0, n1, n2, n3⟩ := sv_cells g1
  obtain ⟨a0, a1, a2, a3⟩ := rng_cells g2
  go_cut [26] (fun t wx => t = .bool false ∧ Below W0.heap.size W0 wx)
  case first =>
    have dxy : (x == y) = false := beq_eq_false_iff_ne.2 hxy
    go_wp2_with fail
    go_meet
    exact ⟨rfl, Below.refl _ _⟩
  case rest =>
    obtain ⟨rfl, hb1⟩ := hcut
    have f1 := cellLater hb1 (by omega) f0
    have bw1 := bx.trans (hb1.mono bx.size)
    have z1 := hb1.size
    go_upto_region 3 with fail
    generalize hwc : wc = Wa at *
    clear hwc
    go_cut [8, 9] (fun t u wx => ∃ o2 c2, t = .slice o2 (allD ns cm).length c2 ∧ u = .int .i64 0 ∧ RdI wx (.slice o2 (allD ns cm).length c2) (allD ns cm) ∧ Below Wa.heap.size Wa wx)
    case first =>
      have m0 := cellLater (B := w.heap.size + 1) hb1 (by omega) n0
      have m1 := cellLater (B := w.heap.size + 1) hb1 (by omega) n1
      have m2 := cellLater (B := w.heap.size + 1) hb1 (by omega) n2
      have m3 := cellLater (B := w.heap.size + 1) hb1 (by omega) n3
      have r0 := cellLater (B := w.heap.size + 1 + 1) hb1 (by omega) a0
      have r1 := cellLater (B := w.heap.size + 1 + 1) hb1 (by omega) a1
      have r2 := cellLater (B := w.heap.size + 1 + 1) hb1 (by omega) a2
      have r3 := cellLater (B := w.heap.size + 1 + 1) hb1 (by omega) a3
      have HCo : Hid (∀ V : World, Below w.heap.size w V → Calls Tryz.prog 59 #[.agg #[.slice (some ⟨b, off, none⟩) ns.length cap], .agg #[.slice (some ⟨b, off, none⟩) ns.length cap, .slice (some ⟨bR, 0, none⟩) (ns.length + 1) (ns.length + 1), .slice (some ⟨bF, 0, none⟩) (ns.length + 1) (ns.length + 1), .slice (some ⟨bL, 0, none⟩) (ns.length + 1) (ns.length + 1)], .agg #[.int .i64 x, .int .i64 (c : Int), .int .i64 y, .int .i64 (d : Int)]] V fun e w' => e = .returned (.int .i64 cm) ∧ Below V.heap.size V w') := fun V hV => by
        rw [← HC2.out.2]
        exact HC2.out.1.comm V hV
      have HAl : Hid (∀ V : World, Below w.heap.size w V → Calls Tryz.prog 73 #[.agg #[.slice (some ⟨b, off, none⟩) ns.length cap], .int .i64 cm] V fun e w' => ∃ o2 c2, e = .returned (.tuple #[.slice o2 (allD ns cm).length c2, .int .i64 0]) ∧ RdI w' (.slice o2 (allD ns cm).length c2) (allD ns cm) ∧ Below V.heap.size V w') := fun V hV => by
        have := HC2.out.1.all V hV
        rw [HC2.out.2] at this
        exact this
      refine wp_region_held_drew (S := fun V => Below Wa.heap.size Wa V) (by kernel_rfl) ((Below.refl _ _).drew) (fun hHeld => ?_)
      have HB_V0 := hid hHeld
      have HS_V0 := hid hHeld.size
      generalize Wa.drew = V0 at *
      refine wpAnyH_one 0 47 (.agg #[.slice (some ⟨b, off, none⟩) ns.length cap]) hHeld rfl rfl (by kernel_rfl) (fun _ _ _ _ _ h => h) (by kernel_rfl) (by kernel_rfl) (by rfl) ?_ ?_
      · intro V hSw; (try dsimp only at hSw); have k0 := cellLater (B := w.heap.size) hSw (by omega) f1; go_simp
      simp only [Act.put, List.setIfInBounds_toArray, List.set_cons_zero, List.set_cons_succ]
      refine wpAnyH_one 1 48 (.agg #[.slice (some ⟨b, off, none⟩) ns.length cap]) hHeld rfl rfl (by kernel_rfl) (fun _ _ _ _ _ h => h) (by kernel_rfl) (by kernel_rfl) (by rfl) ?_ ?_
      · intro V hSw; (try dsimp only at hSw); have k0 := cellLater (B := w.heap.size) hSw (by omega) f1; go_simp
      simp only [Act.put, List.setIfInBounds_toArray, List.set_cons_zero, List.set_cons_succ]
      refine wpAnyH_one 2 49 (.agg #[.slice (some ⟨b, off, none⟩) ns.length cap, .slice (some ⟨bR, 0, none⟩) (ns.length + 1) (ns.length + 1), .slice (some ⟨bF, 0, none⟩) (ns.length + 1) (ns.length + 1), .slice (some ⟨bL, 0, none⟩) (ns.length + 1) (ns.length + 1)]) hHeld rfl rfl (by kernel_rfl) (fun _ _ _ _ _ h => h) (by kernel_rfl) (by kernel_rfl) (by rfl) ?_ ?_
      · intro V hSw; (try dsimp only at hSw); have k0 := cellLater (B := w.heap.size + 1) hSw (by omega) m0; have k1 := cellLater (B := w.heap.size + 1) hSw (by omega) m1; have k2 := cellLater (B := w.heap.size + 1) hSw (by omega) m2; have k3 := cellLater (B := w.heap.size + 1) hSw (by omega) m3; go_simp
      simp only [Act.put, List.setIfInBounds_toArray, List.set_cons_zero, List.set_cons_succ]
      refine wpAnyH_one 3 50 (.agg #[.int .i64 x, .int .i64 (c : Int), .int .i64 y, .int .i64 (d : Int)]) hHeld rfl rfl (by kernel_rfl) (fun _ _ _ _ _ h => h) (by kernel_rfl) (by kernel_rfl) (by rfl) ?_ ?_
      · intro V hSw; (try dsimp only at hSw); have k0 := cellLater (B := w.heap.size + 1 + 1) hSw (by omega) r0; have k1 := cellLater (B := w.heap.size + 1 + 1) hSw (by omega) r1; have k2 := cellLater (B := w.heap.size + 1 + 1) hSw (by omega) r2; have k3 := cellLater (B := w.heap.size + 1 + 1) hSw (by omega) r3; go_simp
      simp only [Act.put, List.setIfInBounds_toArray, List.set_cons_zero, List.set_cons_succ]
      refine wpAnyH_ready (rs := [4]) (by kernel_rfl) (by simp) ?_
      refine AllReadyH.cons rfl (fun K hK => ?_) AllReadyH.nil
      go_simp
      go_wp2_with (go_at_call 59; refine (HCo.out V0 (bw1.trans (HB_V0.out.mono bw1.size))).mono ?_; rintro e V1 ⟨rfl, hb⟩; have HB_V1 := hid (HB_V0.out.trans (hb.mono HB_V0.out.size)); have HS_V1 := hid (HB_V1.out.size))
      refine hK.out _ _ HB_V1.out (fun hHeld => ?_)
      clear hK K
      refine wpAnyH_ready (rs := [5]) (by kernel_rfl) (by simp) ?_
      refine AllReadyH.cons rfl (fun K hK => ?_) AllReadyH.nil
      go_simp
      go_wp2_with (go_at_call 73; refine (HAl.out V1 (bw1.trans (HB_V1.out.mono bw1.size))).mono ?_; rintro e V2 ⟨o2, c2, rfl, hrd, hb⟩; have HB_V2 := hid (HB_V1.out.trans (hb.mono HB_V1.out.size)); have HS_V2 := hid (HB_V2.out.size))
      refine hK.out _ _ HB_V2.out (fun hHeld => ?_)
      clear hK K
      refine wpAnyH_one 6 46 (.tuple #[.slice o2 (allD ns cm).length c2, .int .i64 0]) hHeld rfl rfl (by kernel_rfl) (fun _ _ _ _ _ h => h) (by kernel_rfl) (by kernel_rfl) (by rfl) ?_ ?_
      · intro V hSw; (try dsimp only at hSw); go_simp
      simp only [Act.put, List.setIfInBounds_toArray, List.set_cons_zero, List.set_cons_succ]
      refine wpAnyH_one 7 53 (.slice o2 (allD ns cm).length c2) hHeld rfl rfl (by kernel_rfl) (fun _ _ _ _ _ h => h) (by kernel_rfl) (by kernel_rfl) (by rfl) ?_ ?_
      · intro V hSw; (try dsimp only at hSw); go_simp
      simp only [Act.put, List.setIfInBounds_toArray, List.set_cons_zero, List.set_cons_succ]
      refine wpAnyH_one 8 54 (.int .i64 0) hHeld rfl rfl (by kernel_rfl) (fun _ _ _ _ _ h => h) (by kernel_rfl) (by kernel_rfl) (by rfl) ?_ ?_
      · intro V hSw; (try dsimp only at hSw); go_simp
      simp only [Act.put, List.setIfInBounds_toArray, List.set_cons_zero, List.set_cons_succ]
      refine wpAnyH_one 9 8 (.slice o2 (allD ns cm).length c2) hHeld rfl rfl (by kernel_rfl) (fun _ _ _ _ _ h => h) (by kernel_rfl) (by kernel_rfl) (by rfl) ?_ ?_
      · intro V hSw; (try dsimp only at hSw); go_simp
      simp only [Act.put, List.setIfInBounds_toArray, List.set_cons_zero, List.set_cons_succ]
      refine wpAnyH_one 10 9 (.int .i64 0) hHeld rfl rfl (by kernel_rfl) (fun _ _ _ _ _ h => h) (by kernel_rfl) (by kernel_rfl) (by rfl) ?_ ?_
      · intro V hSw; (try dsimp only at hSw); go_simp
      simp only [Act.put, List.setIfInBounds_toArray, List.set_cons_zero, List.set_cons_succ]
      refine wpAnyH_done (by kernel_rfl) ?_ _
      go_wp2_with fail
      go_meet
      exact ⟨o2, c2, rfl, rfl, hrd, HB_V2.out⟩
    case rest =>
      obtain ⟨o2, c2, rfl, rfl, hrd, hb3⟩ := hcut
      have hbb := hb1.trans (hb3.mono hb1.size)
      have bw := bx.trans (hbb.mono bx.size)
      have k0 := cellLater hbb (by omega) f0
      have k1 := blkLater hbb g1
      have k2 := blkLater hbb g2
      have z3 := hbb.size
      clear f0 f1 n0 n1 n2 n3 a0 a1 a2 a3 g0 g1 g2 hb1 hb3 bw1 z1
      have hAL : ∀ h ∈ allD ns cm, thereB ns.length h = true := by
        have := HC2.out.1.alls
        rw [HC2.out.2] at this
        exact this
      have hfew : (allD ns cm).length ≤ 4096 := HFew.out
      have HC := hid HC2.out.1
      clear HC2 HFew
      have HAL := hid hAL
      clear hAL
      generalize allD ns cm = AL at *
      go_upto_region 6 with fail
      generalize hwc : wc = W1 at *
      clear hwc
      go_cut [10] (fun t wx => wx = W1 ∧ ∃ o6 c6, t = .slice o6 0 c6 ∧ W1.ownsRow W1.heap.size 53 1 (.slice o6 0 c6) ([] : List (Value × List Nat)).length (([] : List (Value × List Nat)).map (·.1)))
      case first =>
        go_wp2_with fail
        go_meet
        exact ⟨rfl, none, 0, rfl, World.ownsRow_nil _ _ _ _⟩
      case rest =>
      obtain ⟨hwe, o6, c6, rfl, hO6⟩ := hcut
      have hwe := hwe.symm
      subst hwe
      have HO6 := hid hO6
      clear hO6
      go_upto_region 7 with fail
      obtain ⟨n0, n1, n2, n3⟩ := sv_cells k1
      obtain ⟨a0, a1, a2, a3⟩ := rng_cells k2
      have hXX := HX.out W1 bw
      go_wp2_with fail
      refine hXX.mono ?_
      rintro e v4 ⟨rfl, hb4⟩
      have c0 := cellLater hb4 (by omega) k0
      have HB4 := hid hb4
      have z4 := hb4.size
      clear hXX hb4
      have HPn : Hid (Parts w W1 [] 0 o6 c6 [] v4) := ⟨ownsRow_later HO6.out HB4.out, (fun e he => by cases he), rfl, Nat.le_refl _, HB4.out⟩
      obtain ⟨ex, hkk⟩ := HEx.out
      have q1 : (0 : Int) ≤ (kx : Int) := by omega
      have q2 : (kx : Int) < (ns.length : Int) := by omega
      have q4 : (0 : Int) ≤ (c : Int) := by omega
      have q5 : (c : Int) ≤ ((dataD ns x).length : Int) := by omega
      have q7 : (c : Int) ≤ (cdx : Int) := by
        obtain ⟨_, _, e, h, _⟩ := HNx.out.1
        simp only [Value.slice.injEq, true_and] at e
        omega
      have f6 : IntKind.i64.wrap (x - 1) = (kx : Int) := by rw [wrap_smallB (by omega) (by omega)]; omega
      clear ex
      go_upto_region 8 with fail
      go_cut [10] (fun t wx => ∃ (o : Option Addr) (cp : Nat) (L : List (Value × List Nat)), t = .slice o L.length cp ∧ Parts w W1 ((dataD ns x).drop c) (1) o cp L wx)
      case first =>
        refine wp_region_held_drew (S := fun V => Below W1.heap.size W1 V) (by kernel_rfl) (HB4.out.drew) (fun hHeld => ?_)
        have HB_V0 := hid hHeld
        have hOw : Hid (v4.drew.ownsRow W1.heap.size 53 1 (.slice o6 0 c6) ([] : List (Value × List Nat)).length (([] : List (Value × List Nat)).map (·.1))) := ownsRow_later HO6.out HB4.out.drew
        generalize v4.drew = V0 at *
        refine wpAnyH_one 0 63 (.slice o6 0 c6) hHeld rfl rfl (by kernel_rfl) (fun _ _ _ _ _ h => h) (by kernel_rfl) (by kernel_rfl) (by rfl) ?_ ?_
        · intro V hSw; (try dsimp only at hSw); go_simp
        simp only [Act.put, List.setIfInBounds_toArray, List.set_cons_zero, List.set_cons_succ]
        refine wpAnyH_one 1 64 (.pointer (some ⟨w.heap.size, 0, none⟩)) hHeld rfl rfl (by kernel_rfl) (fun _ _ _ _ _ h => h) (by kernel_rfl) (by kernel_rfl) (by rfl) ?_ ?_
        · intro V hSw; (try dsimp only at hSw); go_simp
        simp only [Act.put, List.setIfInBounds_toArray, List.set_cons_zero, List.set_cons_succ]
        refine wpAnyH_one 2 65 (.slice (some ⟨b, off, none⟩) ns.length cap) hHeld rfl rfl (by kernel_rfl) (fun _ _ _ _ _ h => h) (by kernel_rfl) (by kernel_rfl) (by rfl) ?_ ?_
        · intro V hSw; (try dsimp only at hSw); have k0 := cellLater (B := w.heap.size) hSw (by omega) k0; go_simp
        simp only [Act.put, List.setIfInBounds_toArray, List.set_cons_zero, List.set_cons_succ]
        refine wpAnyH_one 3 66 (.pointer (some ⟨w.heap.size + 1 + 1, 0, none⟩)) hHeld rfl rfl (by kernel_rfl) (fun _ _ _ _ _ h => h) (by kernel_rfl) (by kernel_rfl) (by rfl) ?_ ?_
        · intro V hSw; (try dsimp only at hSw); go_simp
        simp only [Act.put, List.setIfInBounds_toArray, List.set_cons_zero, List.set_cons_succ]
        refine wpAnyH_one 4 67 (.pointer (some ⟨w.heap.size + 1 + 1, 0, none⟩)) hHeld rfl rfl (by kernel_rfl) (fun _ _ _ _ _ h => h) (by kernel_rfl) (by kernel_rfl) (by rfl) ?_ ?_
        · intro V hSw; (try dsimp only at hSw); go_simp
        simp only [Act.put, List.setIfInBounds_toArray, List.set_cons_zero, List.set_cons_succ]
        refine wpAnyH_one 5 68 (.int .i64 x) hHeld rfl rfl (by kernel_rfl) (fun _ _ _ _ _ h => h) (by kernel_rfl) (by kernel_rfl) (by rfl) ?_ ?_
        · intro V hSw; (try dsimp only at hSw); have k0 := cellLater (B := w.heap.size + 1 + 1) hSw (by omega) a0; go_simp
        simp only [Act.put, List.setIfInBounds_toArray, List.set_cons_zero, List.set_cons_succ]
        refine wpAnyH_one 6 69 (.int .i64 (kx : Int)) hHeld rfl rfl (by kernel_rfl) (fun _ _ _ _ _ h => h) (by kernel_rfl) (by kernel_rfl) (by rfl) ?_ ?_
        · intro V hSw; (try dsimp only at hSw); go_simp
        simp only [Act.put, List.setIfInBounds_toArray, List.set_cons_zero, List.set_cons_succ]
        refine wpAnyH_one 7 70 (.pointer (some ⟨b, off + kx * 16, none⟩)) hHeld rfl rfl (by kernel_rfl) (fun _ _ _ _ _ h => h) (by kernel_rfl) (by kernel_rfl) (by rfl) ?_ ?_
        · intro V hSw; (try dsimp only at hSw); go_simp
        simp only [Act.put, List.setIfInBounds_toArray, List.set_cons_zero, List.set_cons_succ]
        refine wpAnyH_one 8 71 (.pointer (some ⟨b, off + kx * 16 + 6, none⟩)) hHeld rfl rfl (by kernel_rfl) (fun _ _ _ _ _ h => h) (by kernel_rfl) (by kernel_rfl) (by rfl) ?_ ?_
        · intro V hSw; (try dsimp only at hSw); go_simp
        simp only [Act.put, List.setIfInBounds_toArray, List.set_cons_zero, List.set_cons_succ]
        refine wpAnyH_one 9 72 (.slice odx (dataD ns x).length cdx) hHeld rfl rfl (by kernel_rfl) (fun _ _ _ _ _ h => h) (by kernel_rfl) (by kernel_rfl) (by rfl) ?_ ?_
        · intro V hSw; (try dsimp only at hSw); have k9 := HNx.out.2.2 V (bw.trans (hSw.mono bw.size)); go_simp
        simp only [Act.put, List.setIfInBounds_toArray, List.set_cons_zero, List.set_cons_succ]
        refine wpAnyH_one 10 73 (.pointer (some ⟨w.heap.size + 1 + 1, 0, none⟩)) hHeld rfl rfl (by kernel_rfl) (fun _ _ _ _ _ h => h) (by kernel_rfl) (by kernel_rfl) (by rfl) ?_ ?_
        · intro V hSw; (try dsimp only at hSw); go_simp
        simp only [Act.put, List.setIfInBounds_toArray, List.set_cons_zero, List.set_cons_succ]
        refine wpAnyH_one 11 74 (.pointer (some ⟨w.heap.size + 1 + 1, 1, none⟩)) hHeld rfl rfl (by kernel_rfl) (fun _ _ _ _ _ h => h) (by kernel_rfl) (by kernel_rfl) (by rfl) ?_ ?_
        · intro V hSw; (try dsimp only at hSw); go_simp
        simp only [Act.put, List.setIfInBounds_toArray, List.set_cons_zero, List.set_cons_succ]
        refine wpAnyH_one 12 75 (.int .i64 (c : Int)) hHeld rfl rfl (by kernel_rfl) (fun _ _ _ _ _ h => h) (by kernel_rfl) (by kernel_rfl) (by rfl) ?_ ?_
        · intro V hSw; (try dsimp only at hSw); have k0 := cellLater (B := w.heap.size + 1 + 1) hSw (by omega) a1; go_simp
        simp only [Act.put, List.setIfInBounds_toArray, List.set_cons_zero, List.set_cons_succ]
        refine wpAnyH_one 13 76 (.slice (if cdx = c then odx else odx.map (·.add c)) ((dataD ns x).length - c) (cdx - c)) hHeld rfl rfl (by kernel_rfl) (fun _ _ _ _ _ h => h) (by kernel_rfl) (by kernel_rfl) (by rfl) ?_ ?_
        · intro V hSw; (try dsimp only at hSw); go_simp
        simp only [Act.put, List.setIfInBounds_toArray, List.set_cons_zero, List.set_cons_succ]
        obtain ⟨o8, c8, w8, e8, ho8, hb8⟩ := push_part V0 W1.heap.size _ ([] : List (Value × List Nat)) (if cdx = c then odx else odx.map (·.add c)) ((dataD ns x).length - c) (cdx - c) ((dataD ns x).drop c) hOw.out HB_V0.out.size (by simp)
        refine wpAnyH_ready (rs := [14]) (by kernel_rfl) (by simp) ?_
        refine AllReadyH.cons rfl (fun K hK => ?_) AllReadyH.nil
        go_simp
        have HB_V1 := hid (HB_V0.out.alloc HB_V0.out.size (.cells #[.slice (if cdx = c then odx else odx.map (·.add c)) ((dataD ns x).length - c) (cdx - c)] 53))
        generalize V0.alloc (.cells #[.slice (if cdx = c then odx else odx.map (·.add c)) ((dataD ns x).length - c) (cdx - c)] 53) = V1 at *
        refine hK.out _ _ HB_V1.out (fun hHeld => ?_)
        clear hK K
        refine wpAnyH_ready (rs := [15]) (by kernel_rfl) (by simp) ?_
        refine AllReadyH.cons rfl (fun K hK => ?_) AllReadyH.nil
        refine step_append_run _ rfl (.tmp 63) (.tmp 77) 132 132 rfl _ _ rfl rfl _ _ (e8 _) ?_
        have HB_V2 := hid (HB_V0.out.trans hb8)
        refine hK.out _ _ HB_V2.out (fun hHeld => ?_)
        clear hK K e8
        simp only [Act.put, List.setIfInBounds_toArray]
        refine wpAnyH_one 16 10 (.slice o8 (([] : List (Value × List Nat)) ++ [(Value.slice (if cdx = c then odx else odx.map (·.add c)) ((dataD ns x).length - c) (cdx - c), (dataD ns x).drop c)]).length c8) hHeld rfl rfl (by kernel_rfl) (fun _ _ _ _ _ h => h) (by kernel_rfl) (by kernel_rfl) (by rfl) ?_ ?_
        · intro V hSw; (try dsimp only at hSw); go_simp
        simp only [Act.put]
        refine wpAnyH_done (by kernel_rfl) ?_ _
        go_wp2_with fail
        all_goals
          go_meet
          exact ⟨o8, c8, _, rfl, Parts.snoc HPn.out ho8 (slice_from HNx.out.1 lx) (by rw [List.length_drop]; have := HNx.out.2.1; omega) HB_V2.out rfl⟩
      case rest =>
      obtain ⟨op, cp, L, rfl, hP⟩ := hcut
      clear HPn q1 q2 q4 q5 q7 f6 hkk
      have HP := hid hP
      have HB9 := hid hP.below
      clear hP c0 HB4 z4 HO6
      have zz := HB9.out.size
      go_wp2
      go_loopw [81, 10] (fun t u wr => ∃ (k : Nat) (o : Option Addr) (cp : Nat) (L : List (Value × List Nat)), k ≤ AL.length ∧ t = .int .i64 k ∧ u = .slice o L.length cp ∧ Hid (Parts w W1 ((dataD ns x).drop c ++ ((AL.take k).filter (fun h => textB ns h && contD ns (x, (c : Int)) (y, (d : Int)) h)).flatMap (dataD ns)) (k + 1) o cp L wr)) (fun t _ _ => AL.length - (RowKit.intOf t).toNat)
      case atStart => exact ⟨0, op, cp, L, Nat.zero_le _, rfl, rfl, by
        have e0 : (dataD ns x).drop c ++ ((AL.take 0).filter (fun h => textB ns h && contD ns (x, (c : Int)) (y, (d : Int)) h)).flatMap (dataD ns) = (dataD ns x).drop c := by simp
        rw [e0]
        exact HP⟩
      case round =>
        obtain ⟨k, o9, c9, L9, hk, rfl, rfl, hP⟩ := hrel
        clear HP HB9 zz
        have hB := hP.out.below
        have hz9 := hB.size
        have bwr := bw.trans (hB.mono bw.size)
        have e0 := cellLater hB (by omega) k0
        obtain ⟨n0, n1, n2, n3⟩ := sv_cells (blkLater hB k1)
        obtain ⟨a0, a1, a2, a3⟩ := rng_cells (blkLater hB k2)
        by_cases hlt : k < AL.length
        · obtain ⟨oa, ca, eoa, hca, ga⟩ := hrd.later hB
          simp only [Value.slice.injEq, true_and] at eoa
          obtain ⟨rfl, rfl⟩ := eoa
          obtain ⟨ba, offa, rfl, hlta, haa⟩ := ga (by omega)
          have x1 := haa k hlt
          have htk : AL.take (k + 1) = AL.take k ++ [AL[k]] := by rw [List.take_add_one, List.getElem?_eq_getElem hlt]; rfl
          have hft : (AL.take (k + 1)).filter (fun h => textB ns h && contD ns (x, (c : Int)) (y, (d : Int)) h) = (AL.take k).filter (fun h => textB ns h && contD ns (x, (c : Int)) (y, (d : Int)) h) ++ (if (textB ns AL[k] && contD ns (x, (c : Int)) (y, (d : Int)) AL[k]) then [AL[k]] else []) := by
            rw [htk, List.filter_append]
            congr 1
            exact filter_one _ _
          have hth := HAL.out _ (List.getElem_mem hlt)
          have hT := HC.out.text AL[k] hth wr bwr
          have HCn := hid (HC.out.cont AL[k] hth)
          obtain ⟨kh, odh, cdh, eh, hkh, rdh, ldh, cellh⟩ := HC.out.node AL[k] hth
          have HNh := hid (And.intro eh (And.intro hkh (And.intro rdh (And.intro ldh cellh))))
          have Hft := hid hft
          have p1 : (0 : Int) ≤ (k : Int) := by omega
          have p2 : (k : Int) < (AL.length : Int) := by omega
          have dl : decide ((k : Int) < (AL.length : Int)) = true := decide_eq_true p2
          clear haa ga htk hft hth eh hkh rdh ldh cellh hca
          generalize AL[k] = h at *
          cases htb : textB ns h with
          | false =>
            rw [htb] at hT
            have HP2 : Hid (Parts w W1 ((dataD ns x).drop c ++ ((AL.take (k + 1)).filter (fun h => textB ns h && contD ns (x, (c : Int)) (y, (d : Int)) h)).flatMap (dataD ns)) (k + 1 + 1) o9 c9 L9 wr) := by
              have e := Hft.out
              rw [htb, Bool.false_and, if_neg Bool.false_ne_true, List.append_nil] at e
              show Parts _ _ _ _ _ _ _ _
              rw [e]
              exact ⟨hP.out.own, hP.out.rd, hP.out.cat, Nat.le_succ_of_le hP.out.few, hP.out.below⟩
            go_wp2_with fail
            refine hT.mono ?_
            rintro e v5 ⟨rfl, hb5⟩
            have HP3 := hid (HP2.out.later hb5)
            clear hT hb5 HP2 hP
            go_wp2
            go_roundw
            case rel => exact ⟨k + 1, o9, c9, L9, by omega, by go_num, rfl, HP3⟩
            case measure => simp [RowKit.intOf]; omega
          | true =>
            rw [htb] at hT
            have HP2 : Hid (Parts w W1 ((dataD ns x).drop c ++ ((AL.take (k + 1)).filter (fun h => textB ns h && contD ns (x, (c : Int)) (y, (d : Int)) h)).flatMap (dataD ns)) (k + 1 + 1) o9 c9 L9 wr ∨ contD ns (x, (c : Int)) (y, (d : Int)) h = true) := by
              cases hcd : contD ns (x, (c : Int)) (y, (d : Int)) h with
              | true => exact .inr rfl
              | false =>
                have e := Hft.out
                rw [htb, hcd, Bool.and_false, if_neg Bool.false_ne_true, List.append_nil] at e
                rw [e]
                exact .inl ⟨hP.out.own, hP.out.rd, hP.out.cat, Nat.le_succ_of_le hP.out.few, hP.out.below⟩
            go_wp2_with fail
            refine hT.mono ?_
            rintro e v5 ⟨rfl, hb5⟩
            have hz5 := hb5.size
            have hc5 := HCn.out v5 (bwr.trans (hb5.mono bwr.size))
            obtain ⟨m0, m1, m2, m3⟩ := sv_cells (blkLater hb5 (blkLater hB k1))
            obtain ⟨r0, r1, r2, r3⟩ := rng_cells (blkLater hb5 (blkLater hB k2))
            have HB5 := hid hb5
            clear hT hb5
            cases hcd : contD ns (x, (c : Int)) (y, (d : Int)) h with
            | false =>
              rw [hcd] at hc5
              have HP3 := hid (HP2.out.resolve_right (by rw [hcd]; exact Bool.false_ne_true))
              go_wp2_with fail
              refine hc5.mono ?_
              rintro e v6 ⟨rfl, hb6⟩
              have HP4 := hid ((HP3.out.later HB5.out).later hb6)
              clear hc5 hb6 HP3 HP2 hP
              go_wp2
              go_roundw
              case rel => exact ⟨k + 1, o9, c9, L9, by omega, by go_num, rfl, HP4⟩
              case measure => simp [RowKit.intOf]; omega
            | true =>
              rw [hcd] at hc5
              go_wp2_with fail
              refine hc5.mono ?_
              rintro e v6 ⟨rfl, hb6⟩
              have hz6 := hb6.size
              have HP5 := hid ((hP.out.later HB5.out).later hb6)
              obtain ⟨eh, hkh, rdh, ldh, cellh⟩ := HNh.out
              have c6 := cellLater hb6 (by omega) (cellLater HB5.out (by omega) e0)
              have c7 := cellh v6 (bw.trans (HP5.out.below.mono bw.size))
              have q1 : (0 : Int) ≤ (kh : Int) := by omega
              have q2 : (kh : Int) < (ns.length : Int) := by omega
              have f6 : IntKind.i64.wrap (h - 1) = (kh : Int) := by rw [wrap_smallB (by omega) (by omega)]; omega
              obtain ⟨o8, c8, w8, e8, ho8, hb8⟩ := push_part v6 W1.heap.size _ L9 odh (dataD ns h).length cdh (dataD ns h) HP5.out.own HP5.out.below.size (by have := HP5.out.few; omega)
              have E8 := hid e8
              have HP6 : Hid (Parts w W1 ((dataD ns x).drop c ++ ((AL.take (k + 1)).filter (fun h => textB ns h && contD ns (x, (c : Int)) (y, (d : Int)) h)).flatMap (dataD ns)) (k + 1 + 1) o8 c8 (L9 ++ [(Value.slice odh (dataD ns h).length cdh, dataD ns h)]) w8) := by
                refine Parts.snoc HP5.out ho8 rdh ldh (HP5.out.below.trans hb8) ?_
                have e := Hft.out
                rw [htb, hcd, Bool.and_self, if_pos rfl] at e
                rw [e, List.flatMap_append, List.flatMap_cons, List.flatMap_nil, List.append_nil, List.append_assoc]
              clear e8 ho8 hb8 HP5 hP HP2 hc5 eh hkh rdh ldh cellh hb6
              go_wp2_with (at_builtin; refine wpList_append_run _ rfl _ _ 132 132 rfl _ _ rfl rfl _ _ (E8.out _) ?_)
              go_roundw
              case rel => exact ⟨k + 1, o8, c8, _, by omega, by go_num, by simp, HP6⟩
              case measure => simp [RowKit.intOf]; omega
        · have hkn : k = AL.length := by omega
          subst hkn
          rw [List.take_length] at hP
          have dl : decide ((AL.length : Int) < (AL.length : Int)) = false := decide_eq_false (by omega)
          have hYY := HY.out wr bwr
          go_wp2_with fail
          refine hYY.mono ?_
          rintro e v7 ⟨rfl, hb7⟩
          have hz7 := hb7.size
          have HP7 := hid (hP.out.later hb7)
          clear hYY hP
          have HPf := HP7
          have hfewL := HPf.out.few
          have hbelow := HPf.out.below
          have hcat := HPf.out.cat
          rw [show (dataD ns x).drop c ++ (AL.filter (fun h => textB ns h && contD ns (x, (c : Int)) (y, (d : Int)) h)).flatMap (dataD ns) = TT by rw [HT1.out, List.append_nil]] at hcat
          have hCc := concat_anyN o9 c9 L9 v7 (parts_cells HPf.out.own fun e he => (HPf.out.rd e he).1.later (bw.trans (hbelow.mono bw.size))) (by omega) (by
            have h1 := sumLN_le L9 16384 fun e he => (HPf.out.rd e he).2
            have h2 : L9.length * 16384 ≤ 5000 * 16384 := Nat.mul_le_mul_right _ (by omega)
            omega)
          rw [hcat] at hCc
          have bw7 := hid (bw.trans (hbelow.mono bw.size))
          clear HPf HP7 hbelow hcat hfewL hb7 n0 n1 n2 n3 a0 a1 a2 a3 e0
          go_wp2_with fail
          refine hCc.mono ?_
          rintro e v9 ⟨vr, rfl, hor, hb9⟩
          obtain ⟨orr, crr, rfl⟩ := own_shapeB hor
          have HOr := hid (ownsRow_base hor bw7.out.size)
          have HBr := hid (bw7.out.trans (hb9.mono bw7.out.size))
          clear hor hb9 hCc
          go_wp2
          go_ret2
          exact ⟨_, rfl, HOr.out, HBr.out⟩
end Go.Proofs.YtilacgcjbdkphaaGreat

namespace Go.Proofs.YtilacgcjbdkphaaGreat
open Go.RowKit Go.Lib Go.Shelf

theorem nil_rdB (w : World) : RdB w (.slice none 0 0) [] := ⟨none, 0, rfl, Nat.le_refl _, fun h => absurd h (Nat.lt_irrefl _)⟩
set_option maxRecDepth 100000 in
set_option maxHeartbeats 4000000 in
theorem bText_TF (b off cap : Nat) (x : Int) (c : Nat) (y : Int) (d : Nat) (ns : List NodeD) (w : World) (hF : FAt w b off cap ns) (hkl : ∀ (i : Nat) (hi : i < ns.length), ns[i].kids.length ≤ 1099511627776) (hal : ∀ (i : Nat) (hi : i < ns.length), ns[i].attrs.length ≤ 1099511627776) (hE : setE ns (x, (c : Int)) (y, (d : Int)) [] = 0) (hxy : x ≠ y) (tx : textB ns x = true) (ty : textB ns y = false) (lx : c ≤ (dataD ns x).length) :
    Calls Tryz.prog 30 #[.agg #[.slice (some ⟨b, off, none⟩) ns.length cap], rngV x c y d] w fun e w' => ∃ v, e = .returned (.tuple #[v, .int .i64 0]) ∧ w'.ownsRow w.heap.size 70 1 v (textD ns (x, (c : Int)) (y, (d : Int))).length ((textD ns (x, (c : Int)) (y, (d : Int))).map uV) ∧ Below w.heap.size w w' := by
  obtain ⟨hR, hvd, hp, hq, _⟩ := setE_zero hE
  have hroot := (valid_root hvd).1
  have hle := hF.len
  obtain ⟨bx, g0, g1, sx⟩ := two_newB w (.cells #[.slice (some ⟨b, off, none⟩) ns.length cap] 24) (.cells #[.int .i64 x, .int .i64 (c : Int), .int .i64 y, .int .i64 (d : Int)] 44)
  have hFr : FRd w (some ⟨b, off, none⟩) cap ns := ⟨hF.len, fun _ => ⟨b, off, rfl, hF⟩⟩
  have hS := bSettled_ok (some ⟨b, off, none⟩) cap (.slice none 0 0) x c y d [] ns _ (hFr.later bx) hkl hal (nil_rdB _) (by simp) hE
  have HT : Hid (∀ (bR bF bL : Nat) (V : World), Below w.heap.size w V → NumsAt ns V bR bF bL → _) := fun bR bF bL V hV hN => textOf_TF b off cap bR bF bL x c y d ns V hle (textC_of b off cap bR bF bL x c y d ns V hR (hF.later hV) hkl hal hN hp hq hroot) hp hq hxy tx ty lx
  have Hbx := hid bx
  have HG0 := hid g0
  have HG1 := hid g1
  clear hF hkl hal hE hR hvd hp hq hroot hFr g0 g1 bx hxy tx ty lx sx
  unfold rngV at *
  generalize textD ns (x, (c : Int)) (y, (d : Int)) = TT at *
  go_enter Tryz.func30, Tryz.ntmps30
  go_wp2_with fail
  refine hS.mono ?_
  rintro e v1 ⟨bR, bF, bL, rfl, hN, hb1⟩
  unfold numsV at *
  have hbA : Below v1.heap.size v1 (v1.alloc (.cells #[.slice (some ⟨b, off, none⟩) ns.length cap, .slice (some ⟨bR, 0, none⟩) (ns.length + 1) (ns.length + 1), .slice (some ⟨bF, 0, none⟩) (ns.length + 1) (ns.length + 1), .slice (some ⟨bL, 0, none⟩) (ns.length + 1) (ns.length + 1)] 77)) := (Below.refl _ v1).alloc (Nat.le_refl _) _
  have hB1 := Hbx.out.trans (hb1.mono Hbx.out.size)
  have hB2 := hB1.trans (hbA.mono hB1.size)
  have h1 := HT.out bR bF bL _ hB2 (hN.later hbA)
  have c0 := (box_cell_l (blkLater hbA (blkLater hb1 HG0.out))).1
  obtain ⟨a0, a1, a2, a3⟩ := rng_cells (blkLater hbA (blkLater hb1 HG1.out))
  have HBB := hid hB2
  clear hS hN hb1 hbA hB1 hB2 HT
  go_wp2_with fail
  refine h1.mono ?_
  rintro e v2 ⟨vr, rfl, hor, hb2⟩
  obtain ⟨orr, crr, rfl⟩ := own_shapeB hor
  have HOr := hid (ownsRow_base hor HBB.out.size)
  have HBr := hid (HBB.out.trans (hb2.mono HBB.out.size))
  clear hor hb2 h1 c0 a0 a1 a2 a3
  go_wp2
  go_ret2
  exact ⟨_, rfl, HOr.out, HBr.out⟩
end Go.Proofs.YtilacgcjbdkphaaGreat

namespace Go.Proofs.YtilacgcjbdkphaaGreat
open Go.RowKit Go.Lib Go.Shelf

set_option maxRecDepth 100000 in
set_option maxHeartbeats 8000000 in
theorem textOf_FF (b off cap bR bF bL : Nat) (x : Int) (c : Nat) (y : Int) (d : Nat) (ns : List NodeD) (w : World) (hle : ns.length ≤ 1099511627776) (hC : TextC ns w b off cap bR bF bL x c y d) (hx : isPt ns (x, (c : Int))) (hy : isPt ns (y, (d : Int))) (tx : textB ns x = false) (ty : textB ns y = false) :
    Calls Tryz.prog 68 #[.agg #[.slice (some ⟨b, off, none⟩) ns.length cap], .agg #[.slice (some ⟨b, off, none⟩) ns.length cap, .slice (some ⟨bR, 0, none⟩) (ns.length + 1) (ns.length + 1), .slice (some ⟨bF, 0, none⟩) (ns.length + 1) (ns.length + 1), .slice (some ⟨bL, 0, none⟩) (ns.length + 1) (ns.length + 1)], .agg #[.int .i64 x, .int .i64 (c : Int), .int .i64 y, .int .i64 (d : Int)]] w fun e w' => ∃ v, e = .returned (.tuple #[v, .int .i64 0]) ∧ w'.ownsRow w.heap.size 70 1 v (textD ns (x, (c : Int)) (y, (d : Int))).length ((textD ns (x, (c : Int)) (y, (d : Int))).map uV) ∧ Below w.heap.size w w' := by
  have HT1 : Hid (textD ns (x, (c : Int)) (y, (d : Int)) = [] ++ ((allD ns (commD ns x y)).filter (fun h => textB ns h && contD ns (x, (c : Int)) (y, (d : Int)) h)).flatMap (dataD ns) ++ []) := by
    show textD ns (x, (c : Int)) (y, (d : Int)) = _
    unfold textD
    rw [tx, ty]
    rfl
  obtain ⟨bx, g0, g1, g2, sx⟩ := three_newB w (.cells #[.slice (some ⟨b, off, none⟩) ns.length cap] 24) (.cells #[.slice (some ⟨b, off, none⟩) ns.length cap, .slice (some ⟨bR, 0, none⟩) (ns.length + 1) (ns.length + 1), .slice (some ⟨bF, 0, none⟩) (ns.length + 1) (ns.length + 1), .slice (some ⟨bL, 0, none⟩) (ns.length + 1) (ns.length + 1)] 77) (.cells #[.int .i64 x, .int .i64 (c : Int), .int .i64 y, .int .i64 (d : Int)] 44)
  have HC := hid hC
  have HFew := hid hC.few
  have hX := hC.text x hx.1
  have hY := hC.text y hy.1
  rw [tx] at hX
  rw [ty] at hY
  have HX := hid hX
  have HY := hid hY
  obtain ⟨kx, odx, cdx, ex, hkx, rdx, ldx, cellx⟩ := hC.node x hx.1
  obtain ⟨ky, ody, cdy, ey, hky, rdy, ldy, celly⟩ := hC.node y hy.1
  have HNx := hid (And.intro rdx (And.intro ldx cellx))
  have HNy := hid (And.intro rdy (And.intro ldy celly))
  have HEx := hid (And.intro ex hkx)
  have HEy := hid (And.intro ey hky)
  clear hX hY rdx ldx cellx rdy ldy celly hx hy tx ty ex ey hkx hky
  generalize textD ns (x, (c : Int)) (y, (d : Int)) = TT at *
  generalize hcm : commD ns x y = cm at *
  have HC2 : Hid (TextC ns w b off cap bR bF bL x c y d ∧ commD ns x y = cm) := ⟨hC, hcm⟩
  clear hC HC hcm
  go_enter Tryz.func68, Tryz.ntmps68
  go_upto_region 1 with fail
  generalize (((w.alloc (.cells #[.slice (some ⟨b, off, none⟩) ns.length cap] 24)).alloc (.cells #[.slice (some ⟨b, off, none⟩) ns.length cap, .slice (some ⟨bR, 0, none⟩) (ns.length + 1) (ns.length + 1), .slice (some ⟨bF, 0, none⟩) (ns.length + 1) (ns.length + 1), .slice (some ⟨bL, 0, none⟩) (ns.length + 1) (ns.length + 1)] 77)).alloc (.cells #[.int .i64 x, .int .i64 (c : Int), .int .i64 y, .int .i64 (d : Int)] 44)) = W0 at *
  have f0 := (box_cell_l g0).1
  obtain ⟨n0, n1, n2, n3⟩ := sv_cells g1
  obtain ⟨a0, a1, a2, a3⟩ := rng_cells g2
  go_cut [26] (fun t wx => t = .bool false ∧ Below W0.heap.size W0 wx)
  case first =>
    by_cases exy : x = y
    · have dxy : (x == y) = true := beq_iff_eq.2 exy
      clear exy
      go_wp2_with fail
      refine (HX.out W0 bx).mono ?_
      rintro e v1 ⟨rfl, hb1⟩
      have HB := hid hb1
      clear hb1
      go_wp2_with fail
      go_meet
      exact ⟨rfl, HB.out⟩
    · have dxy : (x == y) = false := beq_eq_false_iff_ne.2 exy
      clear exy
      go_wp2_with fail
      go_meet
      exact ⟨rfl, Below.refl _ _⟩
  case rest =>
    obtain ⟨rfl, hb1⟩ := hcut
    have f1 := cellLater hb1 (by omega) f0
    have bw1 := bx.trans (hb1.mono bx.size)
    have z1 := hb1.size
    go_upto_region 3 with fail
    generalize hwc : wc = Wa at *
    clear hwc
    go_cut [8, 9] (fun t u wx => ∃ o2 c2, t = .slice o2 (allD ns cm).length c2 ∧ u = .int .i64 0 ∧ RdI wx (.slice o2 (allD ns cm).length c2) (allD ns cm) ∧ Below Wa.heap.size Wa wx)
    case first =>
      have m0 := cellLater (B := w.heap.size + 1) hb1 (by omega) n0
      have m1 := cellLater (B := w.heap.size + 1) hb1 (by omega) n1
      have m2 := cellLater (B := w.heap.size + 1) hb1 (by omega) n2
      have m3 := cellLater (B := w.heap.size + 1) hb1 (by omega) n3
      have r0 := cellLater (B := w.heap.size + 1 + 1) hb1 (by omega) a0
      have r1 := cellLater (B := w.heap.size + 1 + 1) hb1 (by omega) a1
      have r2 := cellLater (B := w.heap.size + 1 + 1) hb1 (by omega) a2
      have r3 := cellLater (B := w.heap.size + 1 + 1) hb1 (by omega) a3
      have HCo : Hid (∀ V : World, Below w.heap.size w V → Calls Tryz.prog 59 #[.agg #[.slice (some ⟨b, off, none⟩) ns.length cap], .agg #[.slice (some ⟨b, off, none⟩) ns.length cap, .slice (some ⟨bR, 0, none⟩) (ns.length + 1) (ns.length + 1), .slice (some ⟨bF, 0, none⟩) (ns.length + 1) (ns.length + 1), .slice (some ⟨bL, 0, none⟩) (ns.length + 1) (ns.length + 1)], .agg #[.int .i64 x, .int .i64 (c : Int), .int .i64 y, .int .i64 (d : Int)]] V fun e w' => e = .returned (.int .i64 cm) ∧ Below V.heap.size V w') := fun V hV => by
        rw [← HC2.out.2]
        exact HC2.out.1.comm V hV
      have HAl : Hid (∀ V : World, Below w.heap.size w V → Calls Tryz.prog 73 #[.agg #[.slice (some ⟨b, off, none⟩) ns.length cap], .int .i64 cm] V fun e w' => ∃ o2 c2, e = .returned (.tuple #[.slice o2 (allD ns cm).length c2, .int .i64 0]) ∧ RdI w' (.slice o2 (allD ns cm).length c2) (allD ns cm) ∧ Below V.heap.size V w') := fun V hV => by
        have := HC2.out.1.all V hV
        rw [HC2.out.2] at this
        exact this
      refine wp_region_held_drew (S := fun V => Below Wa.heap.size Wa V) (by kernel_rfl) ((Below.refl _ _).drew) (fun hHeld => ?_)
      have HB_V0 := hid hHeld
      have HS_V0 := hid hHeld.size
      generalize Wa.drew = V0 at *
      refine wpAnyH_one 0 47 (.agg #[.slice (some ⟨b, off, none⟩) ns.length cap]) hHeld rfl rfl (by kernel_rfl) (fun _ _ _ _ _ h => h) (by kernel_rfl) (by kernel_rfl) (by rfl) ?_ ?_
      · intro V hSw; (try dsimp only at hSw); have k0 := cellLater (B := w.heap.size) hSw (by omega) f1; go_simp
      simp only [Act.put, List.setIfInBounds_toArray, List.set_cons_zero, List.set_cons_succ]
      refine wpAnyH_one 1 48 (.agg #[.slice (some ⟨b, off, none⟩) ns.length cap]) hHeld rfl rfl (by kernel_rfl) (fun _ _ _ _ _ h => h) (by kernel_rfl) (by kernel_rfl) (by rfl) ?_ ?_
      · intro V hSw; (try dsimp only at hSw); have k0 := cellLater (B := w.heap.size) hSw (by omega) f1; go_simp
      simp only [Act.put, List.setIfInBounds_toArray, List.set_cons_zero, List.set_cons_succ]
      refine wpAnyH_one 2 49 (.agg #[.slice (some ⟨b, off, none⟩) ns.length cap, .slice (some ⟨bR, 0, none⟩) (ns.length + 1) (ns.length + 1), .slice (some ⟨bF, 0, none⟩) (ns.length + 1) (ns.length + 1), .slice (some ⟨bL, 0, none⟩) (ns.length + 1) (ns.length + 1)]) hHeld rfl rfl (by kernel_rfl) (fun _ _ _ _ _ h => h) (by kernel_rfl) (by kernel_rfl) (by rfl) ?_ ?_
      · intro V hSw; (try dsimp only at hSw); have k0 := cellLater (B := w.heap.size + 1) hSw (by omega) m0; have k1 := cellLater (B := w.heap.size + 1) hSw (by omega) m1; have k2 := cellLater (B := w.heap.size + 1) hSw (by omega) m2; have k3 := cellLater (B := w.heap.size + 1) hSw (by omega) m3; go_simp
      simp only [Act.put, List.setIfInBounds_toArray, List.set_cons_zero, List.set_cons_succ]
      refine wpAnyH_one 3 50 (.agg #[.int .i64 x, .int .i64 (c : Int), .int .i64 y, .int .i64 (d : Int)]) hHeld rfl rfl (by kernel_rfl) (fun _ _ _ _ _ h => h) (by kernel_rfl) (by kernel_rfl) (by rfl) ?_ ?_
      · intro V hSw; (try dsimp only at hSw); have k0 := cellLater (B := w.heap.size + 1 + 1) hSw (by omega) r0; have k1 := cellLater (B := w.heap.size + 1 + 1) hSw (by omega) r1; have k2 := cellLater (B := w.heap.size + 1 + 1) hSw (by omega) r2; have k3 := cellLater (B := w.heap.size + 1 + 1) hSw (by omega) r3; go_simp
      simp only [Act.put, List.setIfInBounds_toArray, List.set_cons_zero, List.set_cons_succ]
      refine wpAnyH_ready (rs := [4]) (by kernel_rfl) (by simp) ?_
      refine AllReadyH.cons rfl (fun K hK => ?_) AllReadyH.nil
      go_simp
      go_wp2_with (go_at_call 59; refine (HCo.out V0 (bw1.trans (HB_V0.out.mono bw1.size))).mono ?_; rintro e V1 ⟨rfl, hb⟩; have HB_V1 := hid (HB_V0.out.trans (hb.mono HB_V0.out.size)); have HS_V1 := hid (HB_V1.out.size))
      refine hK.out _ _ HB_V1.out (fun hHeld => ?_)
      clear hK K
      refine wpAnyH_ready (rs := [5]) (by kernel_rfl) (by simp) ?_
      refine AllReadyH.cons rfl (fun K hK => ?_) AllReadyH.nil
      go_simp
      go_wp2_with (go_at_call 73; refine (HAl.out V1 (bw1.trans (HB_V1.out.mono bw1.size))).mono ?_; rintro e V2 ⟨o2, c2, rfl, hrd, hb⟩; have HB_V2 := hid (HB_V1.out.trans (hb.mono HB_V1.out.size)); have HS_V2 := hid (HB_V2.out.size))
      refine hK.out _ _ HB_V2.out (fun hHeld => ?_)
      clear hK K
      refine wpAnyH_one 6 46 (.tuple #[.slice o2 (allD ns cm).length c2, .int .i64 0]) hHeld rfl rfl (by kernel_rfl) (fun _ _ _ _ _ h => h) (by kernel_rfl) (by kernel_rfl) (by rfl) ?_ ?_
      · intro V hSw; (try dsimp only at hSw); go_simp
      simp only [Act.put, List.setIfInBounds_toArray, List.set_cons_zero, List.set_cons_succ]
      refine wpAnyH_one 7 53 (.slice o2 (allD ns cm).length c2) hHeld rfl rfl (by kernel_rfl) (fun _ _ _ _ _ h => h) (by kernel_rfl) (by kernel_rfl) (by rfl) ?_ ?_
      · intro V hSw; (try dsimp only at hSw); go_simp
      simp only [Act.put, List.setIfInBounds_toArray, List.set_cons_zero, List.set_cons_succ]
      refine wpAnyH_one 8 54 (.int .i64 0) hHeld rfl rfl (by kernel_rfl) (fun _ _ _ _ _ h => h) (by kernel_rfl) (by kernel_rfl) (by rfl) ?_ ?_
      · intro V hSw; (try dsimp only at hSw); go_simp
      simp only [Act.put, List.setIfInBounds_toArray, List.set_cons_zero, List.set_cons_succ]
      refine wpAnyH_one 9 8 (.slice o2 (allD ns cm).length c2) hHeld rfl rfl (by kernel_rfl) (fun _ _ _ _ _ h => h) (by kernel_rfl) (by kernel_rfl) (by rfl) ?_ ?_
      · intro V hSw; (try dsimp only at hSw); go_simp
      simp only [Act.put, List.setIfInBounds_toArray, List.set_cons_zero, List.set_cons_succ]
      refine wpAnyH_one 10 9 (.int .i64 0) hHeld rfl rfl (by kernel_rfl) (fun _ _ _ _ _ h => h) (by kernel_rfl) (by kernel_rfl) (by rfl) ?_ ?_
      · intro V hSw; (try dsimp only at hSw); go_simp
      simp only [Act.put, List.setIfInBounds_toArray, List.set_cons_zero, List.set_cons_succ]
      refine wpAnyH_done (by kernel_rfl) ?_ _
      go_wp2_with fail
      go_meet
      exact ⟨o2, c2, rfl, rfl, hrd, HB_V2.out⟩
    case rest =>
      obtain ⟨o2, c2, rfl, rfl, hrd, hb3⟩ := hcut
      have hbb := hb1.trans (hb3.mono hb1.size)
      have bw := bx.trans (hbb.mono bx.size)
      have k0 := cellLater hbb (by omega) f0
      have k1 := blkLater hbb g1
      have k2 := blkLater hbb g2
      have z3 := hbb.size
      clear f0 f1 n0 n1 n2 n3 a0 a1 a2 a3 g0 g1 g2 hb1 hb3 bw1 z1
      have hAL : ∀ h ∈ allD ns cm, thereB ns.length h = true := by
        have := HC2.out.1.alls
        rw [HC2.out.2] at this
        exact this
      have hfew : (allD ns cm).length ≤ 4096 := HFew.out
      have HC := hid HC2.out.1
      clear HC2 HFew
      have HAL := hid hAL
      clear hAL
      generalize allD ns cm = AL at *
      go_upto_region 6 with fail
      generalize hwc : wc = W1 at *
      clear hwc
      go_cut [10] (fun t wx => wx = W1 ∧ ∃ o6 c6, t = .slice o6 0 c6 ∧ W1.ownsRow W1.heap.size 53 1 (.slice o6 0 c6) ([] : List (Value × List Nat)).length (([] : List (Value × List Nat)).map (·.1)))
      case first =>
        go_wp2_with fail
        go_meet
        exact ⟨rfl, none, 0, rfl, World.ownsRow_nil _ _ _ _⟩
      case rest =>
      obtain ⟨hwe, o6, c6, rfl, hO6⟩ := hcut
      have hwe := hwe.symm
      subst hwe
      have HO6 := hid hO6
      clear hO6
      go_upto_region 7 with fail
      obtain ⟨n0, n1, n2, n3⟩ := sv_cells k1
      obtain ⟨a0, a1, a2, a3⟩ := rng_cells k2
      have hXX := HX.out W1 bw
      go_wp2_with fail
      refine hXX.mono ?_
      rintro e v4 ⟨rfl, hb4⟩
      have c0 := cellLater hb4 (by omega) k0
      have HB4 := hid hb4
      have z4 := hb4.size
      clear hXX hb4
      go_upto_region 9 with fail
      have hP : Parts w W1 ([] : List Nat) 1 o6 c6 [] v4 := ⟨ownsRow_later HO6.out HB4.out, (fun e he => by cases he), rfl, Nat.zero_le _, HB4.out⟩
      generalize hwc : v4 = wc at *
      clear hwc
      have HP := hid hP
      have HB9 := hid hP.below
      clear hP c0 HB4 z4 HO6
      have zz := HB9.out.size
      go_wp2
      go_loopw [81, 10] (fun t u wr => ∃ (k : Nat) (o : Option Addr) (cp : Nat) (L : List (Value × List Nat)), k ≤ AL.length ∧ t = .int .i64 k ∧ u = .slice o L.length cp ∧ Hid (Parts w W1 (([] : List Nat) ++ ((AL.take k).filter (fun h => textB ns h && contD ns (x, (c : Int)) (y, (d : Int)) h)).flatMap (dataD ns)) (k + 1) o cp L wr)) (fun t _ _ => AL.length - (RowKit.intOf t).toNat)
      case atStart => exact ⟨0, o6, c6, [], Nat.zero_le _, rfl, rfl, by
        have e0 : ([] : List Nat) ++ ((AL.take 0).filter (fun h => textB ns h && contD ns (x, (c : Int)) (y, (d : Int)) h)).flatMap (dataD ns) = ([] : List Nat) := by simp
        rw [e0]
        exact HP⟩
      case round =>
        obtain ⟨k, o9, c9, L9, hk, rfl, rfl, hP⟩ := hrel
        clear HP HB9 zz
        have hB := hP.out.below
        have hz9 := hB.size
        have bwr := bw.trans (hB.mono bw.size)
        have e0 := cellLater hB (by omega) k0
        obtain ⟨n0, n1, n2, n3⟩ := sv_cells (blkLater hB k1)
        obtain ⟨a0, a1, a2, a3⟩ := rng_cells (blkLater hB k2)
        by_cases hlt : k < AL.length
        · obtain ⟨oa, ca, eoa, hca, ga⟩ := hrd.later hB
          simp only [Value.slice.injEq, true_and] at eoa
          obtain ⟨rfl, rfl⟩ := eoa
          obtain ⟨ba, offa, rfl, hlta, haa⟩ := ga (by omega)
          have x1 := haa k hlt
          have htk : AL.take (k + 1) = AL.take k ++ [AL[k]] := by rw [List.take_add_one, List.getElem?_eq_getElem hlt]; rfl
          have hft : (AL.take (k + 1)).filter (fun h => textB ns h && contD ns (x, (c : Int)) (y, (d : Int)) h) = (AL.take k).filter (fun h => textB ns h && contD ns (x, (c : Int)) (y, (d : Int)) h) ++ (if (textB ns AL[k] && contD ns (x, (c : Int)) (y, (d : Int)) AL[k]) then [AL[k]] else []) := by
            rw [htk, List.filter_append]
            congr 1
            exact filter_one _ _
          have hth := HAL.out _ (List.getElem_mem hlt)
          have hT := HC.out.text AL[k] hth wr bwr
          have HCn := hid (HC.out.cont AL[k] hth)
          obtain ⟨kh, odh, cdh, eh, hkh, rdh, ldh, cellh⟩ := HC.out.node AL[k] hth
          have HNh := hid (And.intro eh (And.intro hkh (And.intro rdh (And.intro ldh cellh))))
          have Hft := hid hft
          have p1 : (0 : Int) ≤ (k : Int) := by omega
          have p2 : (k : Int) < (AL.length : Int) := by omega
          have dl : decide ((k : Int) < (AL.length : Int)) = true := decide_eq_true p2
          clear haa ga htk hft hth eh hkh rdh ldh cellh hca
          generalize AL[k] = h at *
          cases htb : textB ns h with
          | false =>
            rw [htb] at hT
            have HP2 : Hid (Parts w W1 (([] : List Nat) ++ ((AL.take (k + 1)).filter (fun h => textB ns h && contD ns (x, (c : Int)) (y, (d : Int)) h)).flatMap (dataD ns)) (k + 1 + 1) o9 c9 L9 wr) := by
              have e := Hft.out
              rw [htb, Bool.false_and, if_neg Bool.false_ne_true, List.append_nil] at e
              show Parts _ _ _ _ _ _ _ _
              rw [e]
              exact ⟨hP.out.own, hP.out.rd, hP.out.cat, Nat.le_succ_of_le hP.out.few, hP.out.below⟩
            go_wp2_with fail
            refine hT.mono ?_
            rintro e v5 ⟨rfl, hb5⟩
            have HP3 := hid (HP2.out.later hb5)
            clear hT hb5 HP2 hP
            go_wp2
            go_roundw
            case rel => exact ⟨k + 1, o9, c9, L9, by omega, by go_num, rfl, HP3⟩
            case measure => simp [RowKit.intOf]; omega
          | true =>
            rw [htb] at hT
            have HP2 : Hid (Parts w W1 (([] : List Nat) ++ ((AL.take (k + 1)).filter (fun h => textB ns h && contD ns (x, (c : Int)) (y, (d : Int)) h)).flatMap (dataD ns)) (k + 1 + 1) o9 c9 L9 wr ∨ contD ns (x, (c : Int)) (y, (d : Int)) h = true) := by
              cases hcd : contD ns (x, (c : Int)) (y, (d : Int)) h with
              | true => exact .inr rfl
              | false =>
                have e := Hft.out
                rw [htb, hcd, Bool.and_false, if_neg Bool.false_ne_true, List.append_nil] at e
                rw [e]
                exact .inl ⟨hP.out.own, hP.out.rd, hP.out.cat, Nat.le_succ_of_le hP.out.few, hP.out.below⟩
            go_wp2_with fail
            refine hT.mono ?_
            rintro e v5 ⟨rfl, hb5⟩
            have hz5 := hb5.size
            have hc5 := HCn.out v5 (bwr.trans (hb5.mono bwr.size))
            obtain ⟨m0, m1, m2, m3⟩ := sv_cells (blkLater hb5 (blkLater hB k1))
            obtain ⟨r0, r1, r2, r3⟩ := rng_cells (blkLater hb5 (blkLater hB k2))
            have HB5 := hid hb5
            clear hT hb5
            cases hcd : contD ns (x, (c : Int)) (y, (d : Int)) h with
            | false =>
              rw [hcd] at hc5
              have HP3 := hid (HP2.out.resolve_right (by rw [hcd]; exact Bool.false_ne_true))
              go_wp2_with fail
              refine hc5.mono ?_
              rintro e v6 ⟨rfl, hb6⟩
              have HP4 := hid ((HP3.out.later HB5.out).later hb6)
              clear hc5 hb6 HP3 HP2 hP
              go_wp2
              go_roundw
              case rel => exact ⟨k + 1, o9, c9, L9, by omega, by go_num, rfl, HP4⟩
              case measure => simp [RowKit.intOf]; omega
            | true =>
              rw [hcd] at hc5
              go_wp2_with fail
              refine hc5.mono ?_
              rintro e v6 ⟨rfl, hb6⟩
              have hz6 := hb6.size
              have HP5 := hid ((hP.out.later HB5.out).later hb6)
              obtain ⟨eh, hkh, rdh, ldh, cellh⟩ := HNh.out
              have c6 := cellLater hb6 (by omega) (cellLater HB5.out (by omega) e0)
              have c7 := cellh v6 (bw.trans (HP5.out.below.mono bw.size))
              have q1 : (0 : Int) ≤ (kh : Int) := by omega
              have q2 : (kh : Int) < (ns.length : Int) := by omega
              have f6 : IntKind.i64.wrap (h - 1) = (kh : Int) := by rw [wrap_smallB (by omega) (by omega)]; omega
              obtain ⟨o8, c8, w8, e8, ho8, hb8⟩ := push_part v6 W1.heap.size _ L9 odh (dataD ns h).length cdh (dataD ns h) HP5.out.own HP5.out.below.size (by have := HP5.out.few; omega)
              have E8 := hid e8
              have HP6 : Hid (Parts w W1 (([] : List Nat) ++ ((AL.take (k + 1)).filter (fun h => textB ns h && contD ns (x, (c : Int)) (y, (d : Int)) h)).flatMap (dataD ns)) (k + 1 + 1) o8 c8 (L9 ++ [(Value.slice odh (dataD ns h).length cdh, dataD ns h)]) w8) := by
                refine Parts.snoc HP5.out ho8 rdh ldh (HP5.out.below.trans hb8) ?_
                have e := Hft.out
                rw [htb, hcd, Bool.and_self, if_pos rfl] at e
                rw [e, List.flatMap_append, List.flatMap_cons, List.flatMap_nil, List.append_nil, List.append_assoc]
              clear e8 ho8 hb8 HP5 hP HP2 hc5 eh hkh rdh ldh cellh hb6
              go_wp2_with (at_builtin; refine wpList_append_run _ rfl _ _ 132 132 rfl _ _ rfl rfl _ _ (E8.out _) ?_)
              go_roundw
              case rel => exact ⟨k + 1, o8, c8, _, by omega, by go_num, by simp, HP6⟩
              case measure => simp [RowKit.intOf]; omega
        · have hkn : k = AL.length := by omega
          subst hkn
          rw [List.take_length] at hP
          have dl : decide ((AL.length : Int) < (AL.length : Int)) = false := decide_eq_false (by omega)
          have hYY := HY.out wr bwr
          go_wp2_with fail
          refine hYY.mono ?_
          rintro e v7 ⟨rfl, hb7⟩
          have hz7 := hb7.size
          have HP7 := hid (hP.out.later hb7)
          clear hYY hP
          have HPf := HP7
          have hfewL := HPf.out.few
          have hbelow := HPf.out.below
          have hcat := HPf.out.cat
          rw [show ([] : List Nat) ++ (AL.filter (fun h => textB ns h && contD ns (x, (c : Int)) (y, (d : Int)) h)).flatMap (dataD ns) = TT by rw [HT1.out, List.append_nil]] at hcat
          have hCc := concat_anyN o9 c9 L9 v7 (parts_cells HPf.out.own fun e he => (HPf.out.rd e he).1.later (bw.trans (hbelow.mono bw.size))) (by omega) (by
            have h1 := sumLN_le L9 16384 fun e he => (HPf.out.rd e he).2
            have h2 : L9.length * 16384 ≤ 5000 * 16384 := Nat.mul_le_mul_right _ (by omega)
            omega)
          rw [hcat] at hCc
          have bw7 := hid (bw.trans (hbelow.mono bw.size))
          clear HPf HP7 hbelow hcat hfewL hb7 n0 n1 n2 n3 a0 a1 a2 a3 e0
          go_wp2_with fail
          refine hCc.mono ?_
          rintro e v9 ⟨vr, rfl, hor, hb9⟩
          obtain ⟨orr, crr, rfl⟩ := own_shapeB hor
          have HOr := hid (ownsRow_base hor bw7.out.size)
          have HBr := hid (bw7.out.trans (hb9.mono bw7.out.size))
          clear hor hb9 hCc
          go_wp2
          go_ret2
          exact ⟨_, rfl, HOr.out, HBr.out⟩
end Go.Proofs.YtilacgcjbdkphaaGreat

