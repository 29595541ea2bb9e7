/- The reference of valid: kinds, counts, parts of lists. -/
/- The reference of valid: without, texts. -/
/- The reference of valid: element and doctype, walked. -/
/- The reference of valid: element and doctype. -/
import Derived.Test.YtfaeabjgplahgaaGreatCFVaPFVcS
import Derived.Test.YtfaeabjgplahgaaGreatCFR4AFConcat
import Derived.Test.YtfaeabjgplahgaaGreatCFVaEFVaH
namespace Go.Proofs.YtfaeabjgplahgaaGreat
open Go.RowKit Go.Lib Go.Shelf

set_option maxRecDepth 100000 in
set_option maxHeartbeats 4000000 in
theorem rkind_any (b off cap : Nat) (x : Int) (ns : List NodeD) (w W : World) (hF : FAt w b off cap ns) (hW : Below w.heap.size w W) (hx : thereB ns.length x = true) :
    Calls Tryz.prog 53 #[.agg #[.slice (some ⟨b, off, none⟩) ns.length cap], .int .i64 x] W fun e w' => e = .returned (.int .u8 (kindD ns x : Int)) ∧ Below W.heap.size W w' := by
  obtain ⟨j, hj, rfl⟩ := there_idx hx
  rw [kindD_at ns j hj]
  have hB : Below w.heap.size w (W.alloc (.cells #[.slice (some ⟨b, off, none⟩) ns.length cap] 24)) := hW.alloc hW.size _
  have hB2 : Below W.heap.size W (W.alloc (.cells #[.slice (some ⟨b, off, none⟩) ns.length cap] 24)) := (Below.refl _ W).alloc (Nat.le_refl _) _
  have hO := refOf_at b off cap j ns w _ hF hB hj
  have HB2 := hid hB2
  clear hF hW hx hB hB2
  generalize ns[j] = n at *
  go_enter Tryz.func53, Tryz.ntmps53
  go_wp2_with fail
  refine hO.mono ?_
  rintro e v1 ⟨L, rfl, h1, h2, h3, hb⟩
  obtain ⟨od, cd, oa, ca, ok, ck, rfl⟩ := lists_slices h1 h2 h3
  have HB := hid (HB2.out.trans (hb.mono HB2.out.size))
  clear h1 h2 h3 hb hO HB2
  unfold nodeV
  have hfl := fld_kind n (.slice od n.data.length cd) (.slice oa n.attrs.length ca) (.slice ok n.kids.length ck)
  go_wp2
  go_ret
  exact ⟨rfl, HB.out⟩
set_option maxHeartbeats 1000000 in
theorem rText_any (k : Nat) (w : World) : Calls Tryz.prog 88 #[.int .u8 (k : Int)] w fun e w' => e = .returned (.bool (isTextK k)) ∧ w' = w := by
  have e1 : ((k : Int) == 3) = (k == 3) := beq_cast k 3
  have e2 : ((k : Int) == 4) = (k == 4) := beq_cast k 4
  unfold isTextK
  generalize (k == 3) = b1 at *
  generalize (k == 4) = b2 at *
  cases b1 <;> cases b2
  all_goals
    go_enter Tryz.func88, Tryz.ntmps88
    go_wp2
    go_ret
    exact ⟨rfl, rfl⟩

set_option maxRecDepth 100000 in
set_option maxHeartbeats 4000000 in
theorem rcount_any (b off cap k : Nat) (v : Value) (l : List Int) (ns : List NodeD) (w W : World) (hF : FAt w b off cap ns) (hW : Below w.heap.size w W) (hv : RdI W v l) (hl : l.length ≤ 1099511627776) (ht : ∀ y ∈ l, thereB ns.length y = true) :
    Calls Tryz.prog 109 #[.agg #[.slice (some ⟨b, off, none⟩) ns.length cap], v, .int .u8 (k : Int)] W fun e w' => e = .returned (.int .i64 (l.countP (isK ns k) : Int)) ∧ Below W.heap.size W w' := by
  obtain ⟨o, c, rfl, hc, g⟩ := hv
  have HKd : Hid (∀ y, thereB ns.length y = true → ∀ V : World, Below w.heap.size w V → _) := fun y hy V hV => rkind_any b off cap y ns w V hF hV hy
  have HTh := hid ht
  have HW := hid hW
  have G := hid g
  have HB0 : Hid (Below (W.heap.size + 1) (W.alloc (.cells #[.slice (some ⟨b, off, none⟩) ns.length cap] 24)) (W.alloc (.cells #[.slice (some ⟨b, off, none⟩) ns.length cap] 24))) := Below.refl _ _
  clear hF hW ht g
  go_enter Tryz.func109, Tryz.ntmps109
  go_wp2
  go_loopw [7, 8] (fun n i wr => ∃ m : Nat, m ≤ l.length ∧ i = .int .i64 m ∧ n = .int .i64 ((l.take m).countP (isK ns k) : Int) ∧ Hid (Below (W.heap.size + 1) (W.alloc (.cells #[.slice (some ⟨b, off, none⟩) ns.length cap] 24)) wr)) (fun _ i _ => l.length - (RowKit.intOf i).toNat)
  case atStart => exact ⟨0, Nat.zero_le _, rfl, rfl, HB0⟩
  case round =>
    obtain ⟨m, hm, rfl, rfl, hB⟩ := hrel
    clear HB0
    by_cases hlt : m < l.length
    · obtain ⟨bl, offl, rfl, hlt1, ha⟩ := G.out (by omega)
      have hBW : Below W.heap.size W wr := bx_below hB.out
      have x1 := (hBW.cell (p := ⟨bl, offl + m, none⟩) hlt1).trans (ha m hlt)
      have cb : wr.cell? ⟨W.heap.size, 0, none⟩ = some (.slice (some ⟨b, off, none⟩) ns.length cap) := (hB.out.cell (p := ⟨W.heap.size, 0, none⟩) (by show W.heap.size < W.heap.size + 1; omega)).trans (by simp)
      have hBw : Below w.heap.size w wr.drew := (HW.out.trans (hBW.mono HW.out.size)).drew
      have hC := HKd.out l[m] (HTh.out _ (List.getElem_mem hlt)) wr.drew hBw
      have hcnt : (l.take (m + 1)).countP (isK ns k) = (l.take m).countP (isK ns k) + (if isK ns k l[m] then 1 else 0) := by
        rw [List.take_succ_eq_append_getElem hlt, List.countP_append, List.countP_singleton]
      have hle : (l.take m).countP (isK ns k) ≤ m := Nat.le_trans List.countP_le_length (by rw [List.length_take]; omega)
      have ek : ((kindD ns l[m] : Int) == (k : Int)) = isK ns k l[m] := beq_cast _ _
      have q1 : (0 : Int) ≤ (m : Int) := by omega
      have q2 : (m : Int) < (l.length : Int) := by omega
      have Hcnt := hid hcnt
      have HBr := hid (hB.out.drew)
      clear ha hBW hBw G HKd hcnt
      generalize l[m] = a at *
      generalize kindD ns a = KA at *
      generalize isK ns k a = R at *
      generalize hN : (l.take m).countP (isK ns k) = N at *
      go_upto_region 5 with fail
      go_region_held (fun V => V.cell? ⟨W.heap.size, 0, none⟩ = some (.slice (some ⟨b, off, none⟩) ns.length cap) ∧ V.cell? ⟨bl, offl + m, none⟩ = some (.int .i64 a)) (first | exact ⟨cb, x1⟩ | exact HS2.out | go_keep) (first | (go_at_call 53; refine hC.mono ?_; rintro e v2 ⟨rfl, hb⟩; have HB2 := hid (HBr.out.trans (hb.mono (bx_size HBr.out))); have HS2 := hid (And.intro ((hb.cell (p := ⟨W.heap.size, 0, none⟩) (World.block_lt_of_cell? wr _ cb)).trans cb) ((hb.cell (p := ⟨bl, offl + m, none⟩) (World.block_lt_of_cell? wr _ x1)).trans x1)); clear hb hC))
      cases R with
      | true =>
        have hn : (l.take (m + 1)).countP (isK ns k) = N + 1 := by rw [Hcnt.out]; rfl
        go_wp2
        go_roundw
        case rel => exact ⟨m + 1, by omega, by go_num, by rw [hn]; go_num, HB2⟩
        case measure => simp [RowKit.intOf]; omega
      | false =>
        have hn : (l.take (m + 1)).countP (isK ns k) = N := by rw [Hcnt.out]; rfl
        go_wp2
        go_roundw
        case rel => exact ⟨m + 1, by omega, by go_num, by rw [hn], HB2⟩
        case measure => simp [RowKit.intOf]; omega
    · have hml : m = l.length := by omega
      subst hml
      clear G HKd HTh
      go_wp2
      go_ret
      exact ⟨by show Ending.returned (Value.int .i64 ((l.take l.length).countP (isK ns k) : Int)) = _; rw [List.take_length], bx_below hB.out⟩

theorem rdI_at {W : World} {v : Value} {l : List Int} (h : RdI W v l) (hp : 0 < l.length) : ∃ b off c, v = .slice (some ⟨b, off, none⟩) l.length c ∧ l.length ≤ c := by
  obtain ⟨o, c, rfl, hc, g⟩ := h
  obtain ⟨b, off, rfl, _, _⟩ := g hp
  exact ⟨b, off, c, rfl, hc⟩

set_option maxRecDepth 100000 in
set_option maxHeartbeats 4000000 in
theorem rahead_any (v : Value) (ks : List Int) (c : Int) (w0 w : World) (hW : Below w0.heap.size w0 w) (hv : RdI w0 v ks) (hl : ks.length ≤ 1099511627776) (hc : c = 0 ∨ (c ≠ 0 ∧ c ∈ ks)) :
    Calls Tryz.prog 139 #[v, .int .i64 c] w fun e w' => ∃ v1, e = .returned v1 ∧ RdI w0 v1 (aheadR ks c) ∧ w' = w := by
  unfold aheadR
  rcases hc with rfl | ⟨h0, hm⟩
  · rw [show ((0 : Int) == 0) = true from rfl, if_pos rfl]
    have HV := hid hv
    obtain ⟨o, cp, rfl, _, _⟩ := hv
    clear hW
    go_enter Tryz.func139, Tryz.ntmps139
    go_wp2
    exact bodyPost_ret (v := .slice o ks.length cp) (by simp [results, Tryz.results139, go_sem]) rfl ⟨_, rfl, HV.out, rfl⟩
  · have e0 : (c == 0) = false := beq_eq_false_iff_ne.2 h0
    rw [e0, if_neg Bool.false_ne_true]
    have hI := refPlace_any v ks c w (hv.later hW) hl
    rw [idxI_mem ks c 0 hm, Nat.zero_add] at hI
    have hlt := List.idxOf_lt_length_of_mem hm
    obtain ⟨b, off, cp, rfl, hcp⟩ := rdI_at hv (by omega)
    have HT := hid (rdI_take hv (ks.idxOf c) (by omega))
    generalize ks.idxOf c = i at *
    have q1 : (0 : Int) ≤ (i : Int) := by omega
    have q2 : (i : Int) ≤ (ks.length : Int) := by omega
    have q3 : (i : Int) ≤ (cp : Int) := by omega
    have q4 : (ks.length : Int) ≤ (cp : Int) := by omega
    clear hv hm hW
    go_enter Tryz.func139, Tryz.ntmps139
    go_wp2_with fail
    refine hI.mono ?_
    rintro e v1 ⟨rfl, e1⟩
    have e1 := e1.symm
    subst e1
    clear hI
    go_wp2
    exact bodyPost_ret (v := .slice (some ⟨b, off, none⟩) i cp) (by simp [results, Tryz.results139, go_sem]) rfl ⟨_, rfl, HT.out, rfl⟩
set_option maxRecDepth 100000 in
set_option maxHeartbeats 4000000 in
theorem rbehind_any (v : Value) (ks : List Int) (c : Int) (w0 w : World) (hW : Below w0.heap.size w0 w) (hv : RdI w0 v ks) (hl : ks.length ≤ 1099511627776) (hc : c = 0 ∨ (c ≠ 0 ∧ c ∈ ks)) :
    Calls Tryz.prog 138 #[v, .int .i64 c] w fun e w' => ∃ v1, e = .returned v1 ∧ RdI w0 v1 (behindR ks c) ∧ w' = w := by
  unfold behindR
  rcases hc with rfl | ⟨h0, hm⟩
  · rw [show ((0 : Int) == 0) = true from rfl, if_pos rfl]
    clear hW hv
    go_enter Tryz.func138, Tryz.ntmps138
    go_wp2
    exact bodyPost_ret (v := .slice none 0 0) (by simp [results, Tryz.results138, go_sem]) rfl ⟨_, rfl, rdI_nil _ _ _, rfl⟩
  · have e0 : (c == 0) = false := beq_eq_false_iff_ne.2 h0
    rw [e0, if_neg Bool.false_ne_true]
    have hI := refPlace_any v ks c w (hv.later hW) hl
    rw [idxI_mem ks c 0 hm, Nat.zero_add] at hI
    have hlt := List.idxOf_lt_length_of_mem hm
    obtain ⟨b, off, cp, rfl, hcp⟩ := rdI_at hv (by omega)
    have HD := hid (rdI_drop hv (ks.idxOf c + 1) (by omega))
    generalize ks.idxOf c = i at *
    have q4 : (ks.length : Int) ≤ (cp : Int) := by omega
    have q7 : (0 : Int) ≤ (i : Int) + 1 := by omega
    have q8 : (i : Int) + 1 ≤ (ks.length : Int) := by omega
    have q9 : (i : Int) + 1 ≤ (cp : Int) := by omega
    have q10 : ((i : Int) + 1).toNat = i + 1 := by omega
    clear hv hm hW
    by_cases hcap : cp = i + 1
    · subst hcap
      have hnil : ks.drop (i + 1) = [] := List.drop_eq_nil_of_le (by omega)
      have hln : ks.length - (i + 1) = 0 := by omega
      rw [hnil]
      clear HD hnil
      go_enter Tryz.func138, Tryz.ntmps138
      go_wp2_with fail
      refine hI.mono ?_
      rintro e v1 ⟨rfl, e1⟩
      have e1 := e1.symm
      subst e1
      clear hI
      go_wp2
      exact bodyPost_ret (v := .slice (some ⟨b, off, none⟩) 0 0) (by simp [results, Tryz.results138, go_sem]) rfl ⟨_, rfl, rdI_nil _ _ _, rfl⟩
    · go_enter Tryz.func138, Tryz.ntmps138
      go_wp2_with fail
      refine hI.mono ?_
      rintro e v1 ⟨rfl, e1⟩
      have e1 := e1.symm
      subst e1
      clear hI
      go_wp2
      exact bodyPost_ret (v := .slice (some ⟨b, off + (i + 1), none⟩) (ks.length - (i + 1)) (cp - (i + 1))) (by simp [results, Tryz.results138, go_sem]) rfl ⟨_, rfl, HD.out, rfl⟩
end Go.Proofs.YtfaeabjgplahgaaGreat

namespace Go.Proofs.YtfaeabjgplahgaaGreat
open Go.RowKit Go.Lib Go.Shelf

theorem filter_take (f : Int → Bool) (l : List Int) (k : Nat) (h : k < l.length) : (l.take (k + 1)).filter f = (l.take k).filter f ++ (if f l[k] then [l[k]] else []) := by
  rw [List.take_succ_eq_append_getElem h, List.filter_append]
  congr 1
  cases hf : f l[k]
  · rw [List.filter_cons_of_neg (by rw [hf]; exact Bool.false_ne_true)]; rfl
  · rw [List.filter_cons_of_pos hf]; rfl

set_option maxRecDepth 100000 in
set_option maxHeartbeats 4000000 in
theorem rwithout_any (v : Value) (l : List Int) (x : Int) (w : World) (hv : RdI w v l) (hl : l.length ≤ 1099511627776) :
    Calls Tryz.prog 137 #[v, .int .i64 x] w fun e w' => ∃ v1, e = .returned v1 ∧ RdI w' v1 (l.filter (fun y => !(y == x))) ∧ Below w.heap.size w w' := by
  obtain ⟨i0, hi, hz0, hz1, hz2⟩ := info_parts info_int
  obtain ⟨o, c, rfl, hc, g⟩ := hv
  have G := hid g
  clear g
  go_enter Tryz.func137, Tryz.ntmps137
  go_wp2
  go_loopw [5, 6] (fun u i wr => ∃ k : Nat, k ≤ l.length ∧ i = .int .i64 k ∧ wr.ownsRow w.heap.size 3 1 u ((l.take k).filter (fun y => !(y == x))).length (((l.take k).filter (fun y => !(y == x))).map (Value.int .i64)) ∧ Hid (Below w.heap.size w wr)) (fun _ i _ => l.length - (RowKit.intOf i).toNat)
  case atStart => exact ⟨0, Nat.zero_le _, rfl, World.ownsRow_nil _ _ _ _, Below.refl _ _⟩
  case round =>
    obtain ⟨k, hk, rfl, hown, hB⟩ := hrel
    by_cases hlt : k < l.length
    · obtain ⟨bl, offl, rfl, hlt1, ha⟩ := G.out (by omega)
      have x1 := (hB.out.cell (p := ⟨bl, offl + k, none⟩) hlt1).trans (ha k hlt)
      have q1 : (0 : Int) ≤ (k : Int) := by omega
      have q2 : (k : Int) < (l.length : Int) := by omega
      have HF := hid (filter_take (fun y => !(y == x)) l k hlt)
      have hfl : ((l.take k).filter (fun y => !(y == x))).length ≤ k := Nat.le_trans (List.length_filter_le _ _) (by rw [List.length_take]; omega)
      clear ha G
      generalize l[k] = a at *
      generalize (l.take k).filter (fun y => !(y == x)) = done at *
      cases he : (a == x) with
      | true =>
        have hne : (a != x) = false := by rw [bne, he]; rfl
        have hn : (l.take (k + 1)).filter (fun y => !(y == x)) = done := by rw [HF.out, he]; simp
        have HOw := hid hown
        clear HF he hown
        go_wp2
        go_roundw
        case rel => exact ⟨k + 1, by omega, by go_num, by rw [hn]; exact HOw.out, hB⟩
        case measure => simp [RowKit.intOf]; omega
      | false =>
        have hne : (a != x) = true := by rw [bne, he]; rfl
        have hn : (l.take (k + 1)).filter (fun y => !(y == x)) = done ++ [a] := by rw [HF.out, he]; rfl
        have m1 : done.length + 1 ≤ maxLen := Nat.le_trans (by omega : done.length + 1 ≤ 1099511627776) (by decide)
        have m2 : (done.length + 1) * 8 ≤ 140737488355328 := by omega
        have hs := hB.out.size
        have m3 : w.heap.size ≤ (wr.alloc (.cells #[.int .i64 a] 3)).heap.size := by simp; omega
        clear HF he
        go_wp2_with (at_builtin; refine wpList_append_own _ rfl _ _ 26 rfl w.heap.size 3 i0 (.int .i64 0) 1 8 Tryz.underlying26 hi hz0 hz1 hz2 rfl (by decide) _ _ _ rfl (hown.alloc _) ⟨wr.heap.size, 0, none⟩ 1 1 [.int .i64 a] rfl rfl (cell_one_new _ _ _) (by simp [Value.oneCell']) m1 m2 m3 ?_; intro v' w1 hown' hgrow _)
        have HB3 : Hid (Below w.heap.size wr w1) := ((Below.refl _ wr).alloc hs _).grown hgrow m3 (fun j hj => (hown.lt j hj).1)
        go_roundw
        case rel => exact ⟨k + 1, by omega, by go_num, by rw [hn]; simpa using hown', hB.out.trans HB3.out⟩
        case measure => simp [RowKit.intOf]; omega
    · have hkl : k = l.length := by omega
      subst hkl
      have HOw := hid hown
      rw [List.take_length] at HOw
      clear G hown
      go_wp2
      go_ret
      exact ⟨_, rfl, ownsRow_rdI HOw.out, hB.out⟩

set_option maxRecDepth 100000 in
set_option maxHeartbeats 4000000 in
theorem rtexts_any (b off cap : Nat) (v : Value) (l : List Int) (ns : List NodeD) (w W : World) (hF : FAt w b off cap ns) (hW : Below w.heap.size w W) (hv : RdI w v l) (hl : l.length ≤ 1099511627776) (ht : ∀ y ∈ l, thereB ns.length y = true) :
    Calls Tryz.prog 110 #[.agg #[.slice (some ⟨b, off, none⟩) ns.length cap], v] W fun e w' => e = .returned (.bool (textsR ns l)) ∧ Below W.heap.size W w' := by
  have H3 : Hid (∀ V : World, Below w.heap.size w V → _) := fun V hV => rcount_any b off cap 3 v l ns w V hF hV (hv.later hV) hl ht
  have H4 : Hid (∀ V : World, Below w.heap.size w V → _) := fun V hV => rcount_any b off cap 4 v l ns w V hF hV (hv.later hV) hl ht
  have b3 : l.countP (isK ns 3) ≤ l.length := List.countP_le_length
  have b4 : l.countP (isK ns 4) ≤ l.length := List.countP_le_length
  unfold textsR
  obtain ⟨o, c, rfl, _, _⟩ := hv
  generalize l.countP (isK ns 3) = A at *
  generalize l.countP (isK ns 4) = B at *
  have hd : decide ((0 : Int) < (A : Int) + (B : Int)) = decide (0 < A + B) := decide_eq_decide.2 (by omega)
  have hw : IntKind.i64.wrap ((A : Int) + (B : Int)) = (A : Int) + (B : Int) := vwrap (by omega) (by omega)
  have HB0 : Hid (Below (W.heap.size + 1) (W.alloc (.cells #[.slice (some ⟨b, off, none⟩) ns.length cap] 24)) (W.alloc (.cells #[.slice (some ⟨b, off, none⟩) ns.length cap] 24)).drew) := (Below.refl _ _).drew
  have HW := hid hW
  have HX : Hid (∀ V : World, Below (W.heap.size + 1) (W.alloc (.cells #[.slice (some ⟨b, off, none⟩) ns.length cap] 24)) V → V.cell? ⟨W.heap.size, 0, none⟩ = some (.slice (some ⟨b, off, none⟩) ns.length cap) ∧ Below w.heap.size w V) := fun V hV => ⟨(hV.cell (p := ⟨W.heap.size, 0, none⟩) (by show W.heap.size < W.heap.size + 1; omega)).trans (by simp), HW.out.trans ((bx_below hV).mono HW.out.size)⟩
  have cb0 := (HX.out _ HB0.out).1
  have HC0 := hid (HX.out _ HB0.out).2
  clear hF hW ht
  go_enter Tryz.func110, Tryz.ntmps110
  go_upto_region 1 with fail
  go_region_held (fun V => V.cell? ⟨W.heap.size, 0, none⟩ = some (.slice (some ⟨b, off, none⟩) ns.length cap)) (first | exact cb0 | exact cb2 | exact cb1 | go_keep) (first
    | (go_at_call_of 109 (Value.int .u8 3); refine (H3.out _ HC0.out).mono ?_; rintro e v1 ⟨rfl, hb⟩; have HB1 := hid (HB0.out.trans (hb.mono (bx_size HB0.out))); have cb1 := (HX.out v1 HB1.out).1; have HC1 := hid (HX.out v1 HB1.out).2; clear hb H3 HC0)
    | (go_at_call_of 109 (Value.int .u8 4); refine (H4.out _ HC0.out).mono ?_; rintro e v1 ⟨rfl, hb⟩; have HB1 := hid (HB0.out.trans (hb.mono (bx_size HB0.out))); have cb1 := (HX.out v1 HB1.out).1; have HC1 := hid (HX.out v1 HB1.out).2; clear hb H4 HC0)
    | (go_at_call_of 109 (Value.int .u8 4); refine (H4.out _ HC1.out).mono ?_; rintro e v2 ⟨rfl, hb⟩; have HB2 := hid (HB1.out.trans (hb.mono (bx_size HB1.out))); have cb2 := (HX.out v2 HB2.out).1; clear hb H4)
    | (go_at_call_of 109 (Value.int .u8 3); refine (H3.out _ HC1.out).mono ?_; rintro e v2 ⟨rfl, hb⟩; have HB2 := hid (HB1.out.trans (hb.mono (bx_size HB1.out))); have cb2 := (HX.out v2 HB2.out).1; clear hb H3))
  all_goals
    go_wp2_with fail
    go_ret
    exact ⟨rfl, bx_below HB2.out⟩
end Go.Proofs.YtfaeabjgplahgaaGreat

namespace Go.Proofs.YtfaeabjgplahgaaGreat
open Go.RowKit Go.Lib Go.Shelf

set_option maxRecDepth 100000 in
set_option maxHeartbeats 4000000 in
theorem relem_iT (b off cap n cp : Nat) (o : Option Addr) (c : Int) (ns : List NodeD) (w W : World) (hW : Below w.heap.size w W) (N1 : Int) (h1 : 0 < N1)
    (HC1 : Hid (∀ V : World, Below w.heap.size w V → Calls Tryz.prog 109 #[.agg #[.slice (some ⟨b, off, none⟩) ns.length cap], .slice o n cp, .int .u8 1] V fun e w'' => e = .returned (.int .i64 N1) ∧ Below V.heap.size V w'')) :
    Calls Tryz.prog 111 #[.agg #[.slice (some ⟨b, off, none⟩) ns.length cap], .slice o n cp, .int .i64 c, .bool false] W fun e w' => e = .returned (.bool false) ∧ Below W.heap.size W w' := by
  have HB0 : Hid (Below (W.heap.size + 1) (W.alloc (.cells #[.slice (some ⟨b, off, none⟩) ns.length cap] 24)) (W.alloc (.cells #[.slice (some ⟨b, off, none⟩) ns.length cap] 24))) := Below.refl _ _
  have HW := hid hW
  have HX : Hid (∀ V : World, Below (W.heap.size + 1) (W.alloc (.cells #[.slice (some ⟨b, off, none⟩) ns.length cap] 24)) V → V.cell? ⟨W.heap.size, 0, none⟩ = some (.slice (some ⟨b, off, none⟩) ns.length cap) ∧ Below w.heap.size w V) := fun V hV => ⟨(hV.cell (p := ⟨W.heap.size, 0, none⟩) (by show W.heap.size < W.heap.size + 1; omega)).trans (by simp), HW.out.trans ((bx_below hV).mono HW.out.size)⟩
  clear hW
  go_enter Tryz.func111, Tryz.ntmps111
  have HBd := hid (HB0.out.drew)
  have cb0 := (HX.out _ HBd.out).1
  have hC := HC1.out (W.alloc (.cells #[.slice (some ⟨b, off, none⟩) ns.length cap] 24)).drew ((HX.out _ HBd.out).2)
  clear HB0 HC1
  go_upto_region 4 with fail
  refine wp_region_held_drew (S := (fun V => V.cell? ⟨W.heap.size, 0, none⟩ = some (.slice (some ⟨b, off, none⟩) ns.length cap))) (by kernel_rfl) (cb0) (fun hHeld => ?_)
  refine wpAnyH_one 0 15 (.agg #[.slice (some ⟨b, off, none⟩) ns.length cap]) hHeld rfl rfl (by kernel_rfl) (fun _ _ _ _ _ h => h) (by kernel_rfl) (by kernel_rfl) (by rfl) ?_ ?_
  · intro V hSw; (try dsimp only at hSw); go_simp
  simp only [Act.put, List.setIfInBounds_toArray, List.set_cons_zero, List.set_cons_succ]
  refine wpAnyH_one 1 16 (.slice o n cp) hHeld rfl rfl (by kernel_rfl) (fun _ _ _ _ _ h => h) (by kernel_rfl) (by kernel_rfl) (by rfl) ?_ ?_
  · intro V hSw; (try dsimp only at hSw); go_simp
  simp only [Act.put, List.setIfInBounds_toArray, List.set_cons_zero, List.set_cons_succ]
  refine wpAnyH_ready (rs := [2]) (by kernel_rfl) (by simp) ?_
  refine AllReadyH.cons rfl (fun K hK => ?_) AllReadyH.nil
  go_simp
  go_wp2_with (go_at_call 109; refine hC.mono ?_; rintro e v2 ⟨rfl, hb⟩; have HB2 := hid (HBd.out.trans (hb.mono (bx_size HBd.out))); have cb1 := (HX.out v2 HB2.out).1; clear hb hC HBd)
  refine hK.out _ _ (cb1) (fun hHeld => ?_)
  clear hK K
  refine wpAnyH_one 3 18 (.bool true) hHeld rfl rfl (by kernel_rfl) (fun _ _ _ _ _ h => h) (by kernel_rfl) (by kernel_rfl) (by rfl) ?_ ?_
  · intro V hSw; (try dsimp only at hSw); go_simp
  simp only [Act.put, List.setIfInBounds_toArray, List.set_cons_zero, List.set_cons_succ]
  refine wpAnyH_one 4 19 (.bool true) hHeld rfl rfl (by kernel_rfl) (fun _ _ _ _ _ h => h) (by kernel_rfl) (by kernel_rfl) (by rfl) ?_ ?_
  · intro V hSw; (try dsimp only at hSw); go_simp
  simp only [Act.put, List.setIfInBounds_toArray, List.set_cons_zero, List.set_cons_succ]
  refine wpAnyH_skips [(5, 20), (6, 21), (7, 22), (8, 23), (9, 24), (10, 25)] 1 hHeld (by kernel_rfl) (fun _ _ _ _ _ h => h) (by kernel_rfl) (by kernel_rfl) ?_
  simp only [actAfter, listedAfter, Act.put, List.setIfInBounds_toArray, List.set_cons_zero, List.set_cons_succ]
  refine wpAnyH_one 11 26 (.bool true) hHeld rfl rfl (by kernel_rfl) (fun _ _ _ _ _ h => h) (by kernel_rfl) (by kernel_rfl) (by rfl) ?_ ?_
  · intro V hSw; (try dsimp only at hSw); go_simp
  simp only [Act.put, List.setIfInBounds_toArray, List.set_cons_zero, List.set_cons_succ]
  refine wpAnyH_done (by kernel_rfl) ?_ _
  go_wp2
  go_ret
  exact ⟨rfl, bx_below HB2.out⟩
set_option maxRecDepth 100000 in
set_option maxHeartbeats 4000000 in
theorem relem_iF (b off cap n cp : Nat) (o : Option Addr) (c : Int) (ns : List NodeD) (w W : World) (hW : Below w.heap.size w W) (N2 : Int) (h2 : 0 < N2)
    (HC1 : Hid (∀ V : World, Below w.heap.size w V → Calls Tryz.prog 109 #[.agg #[.slice (some ⟨b, off, none⟩) ns.length cap], .slice o n cp, .int .u8 1] V fun e w'' => e = .returned (.int .i64 0) ∧ Below V.heap.size V w''))
    (HCu : Hid (∀ V0 : World, Below w.heap.size w V0 → Calls Tryz.prog 138 #[.slice o n cp, .int .i64 c] V0 fun e w' => ∃ oo no co, e = .returned (.slice oo no co) ∧ w' = V0 ∧ ∀ V : World, Below w.heap.size w V → Calls Tryz.prog 109 #[.agg #[.slice (some ⟨b, off, none⟩) ns.length cap], .slice oo no co, .int .u8 10] V fun e w'' => e = .returned (.int .i64 N2) ∧ Below V.heap.size V w'')) :
    Calls Tryz.prog 111 #[.agg #[.slice (some ⟨b, off, none⟩) ns.length cap], .slice o n cp, .int .i64 c, .bool false] W fun e w' => e = .returned (.bool false) ∧ Below W.heap.size W w' := by
  have HB0 : Hid (Below (W.heap.size + 1) (W.alloc (.cells #[.slice (some ⟨b, off, none⟩) ns.length cap] 24)) (W.alloc (.cells #[.slice (some ⟨b, off, none⟩) ns.length cap] 24))) := Below.refl _ _
  have HW := hid hW
  have HX : Hid (∀ V : World, Below (W.heap.size + 1) (W.alloc (.cells #[.slice (some ⟨b, off, none⟩) ns.length cap] 24)) V → V.cell? ⟨W.heap.size, 0, none⟩ = some (.slice (some ⟨b, off, none⟩) ns.length cap) ∧ Below w.heap.size w V) := fun V hV => ⟨(hV.cell (p := ⟨W.heap.size, 0, none⟩) (by show W.heap.size < W.heap.size + 1; omega)).trans (by simp), HW.out.trans ((bx_below hV).mono HW.out.size)⟩
  clear hW
  go_enter Tryz.func111, Tryz.ntmps111
  have HBd := hid (HB0.out.drew)
  have cb0 := (HX.out _ HBd.out).1
  have hC := HC1.out (W.alloc (.cells #[.slice (some ⟨b, off, none⟩) ns.length cap] 24)).drew ((HX.out _ HBd.out).2)
  clear HB0 HC1
  go_upto_region 4 with fail
  refine wp_region_held_drew (S := (fun V => V.cell? ⟨W.heap.size, 0, none⟩ = some (.slice (some ⟨b, off, none⟩) ns.length cap))) (by kernel_rfl) (cb0) (fun hHeld => ?_)
  refine wpAnyH_one 0 15 (.agg #[.slice (some ⟨b, off, none⟩) ns.length cap]) hHeld rfl rfl (by kernel_rfl) (fun _ _ _ _ _ h => h) (by kernel_rfl) (by kernel_rfl) (by rfl) ?_ ?_
  · intro V hSw; (try dsimp only at hSw); go_simp
  simp only [Act.put, List.setIfInBounds_toArray, List.set_cons_zero, List.set_cons_succ]
  refine wpAnyH_one 1 16 (.slice o n cp) hHeld rfl rfl (by kernel_rfl) (fun _ _ _ _ _ h => h) (by kernel_rfl) (by kernel_rfl) (by rfl) ?_ ?_
  · intro V hSw; (try dsimp only at hSw); go_simp
  simp only [Act.put, List.setIfInBounds_toArray, List.set_cons_zero, List.set_cons_succ]
  refine wpAnyH_ready (rs := [2]) (by kernel_rfl) (by simp) ?_
  refine AllReadyH.cons rfl (fun K hK => ?_) AllReadyH.nil
  go_simp
  go_wp2_with (go_at_call 109; refine hC.mono ?_; rintro e v2 ⟨rfl, hb⟩; have HB2 := hid (HBd.out.trans (hb.mono (bx_size HBd.out))); have cb1 := (HX.out v2 HB2.out).1; clear hb hC HBd)
  refine hK.out _ _ (cb1) (fun hHeld => ?_)
  clear hK K
  refine wpAnyH_one 3 18 (.bool false) hHeld rfl rfl (by kernel_rfl) (fun _ _ _ _ _ h => h) (by kernel_rfl) (by kernel_rfl) (by rfl) ?_ ?_
  · intro V hSw; (try dsimp only at hSw); go_simp
  simp only [Act.put, List.setIfInBounds_toArray, List.set_cons_zero, List.set_cons_succ]
  refine wpAnyH_one 4 19 (.bool false) hHeld rfl rfl (by kernel_rfl) (fun _ _ _ _ _ h => h) (by kernel_rfl) (by kernel_rfl) (by rfl) ?_ ?_
  · intro V hSw; (try dsimp only at hSw); go_simp
  simp only [Act.put, List.setIfInBounds_toArray, List.set_cons_zero, List.set_cons_succ]
  refine wpAnyH_one 5 20 (.agg #[.slice (some ⟨b, off, none⟩) ns.length cap]) hHeld rfl rfl (by kernel_rfl) (fun _ _ _ _ _ h => h) (by kernel_rfl) (by kernel_rfl) (by rfl) ?_ ?_
  · intro V hSw; (try dsimp only at hSw); go_simp
  simp only [Act.put, List.setIfInBounds_toArray, List.set_cons_zero, List.set_cons_succ]
  refine wpAnyH_one 6 21 (.slice o n cp) hHeld rfl rfl (by kernel_rfl) (fun _ _ _ _ _ h => h) (by kernel_rfl) (by kernel_rfl) (by rfl) ?_ ?_
  · intro V hSw; (try dsimp only at hSw); go_simp
  simp only [Act.put, List.setIfInBounds_toArray, List.set_cons_zero, List.set_cons_succ]
  refine wpAnyH_one 7 22 (.int .i64 c) hHeld rfl rfl (by kernel_rfl) (fun _ _ _ _ _ h => h) (by kernel_rfl) (by kernel_rfl) (by rfl) ?_ ?_
  · intro V hSw; (try dsimp only at hSw); go_simp
  simp only [Act.put, List.setIfInBounds_toArray, List.set_cons_zero, List.set_cons_succ]
  refine wpAnyH_ready (rs := [8]) (by kernel_rfl) (by simp) ?_
  refine AllReadyH.cons rfl (fun K hK => ?_) AllReadyH.nil
  go_simp
  go_wp2_with (go_at_call 138; refine (HCu.out v2 (HX.out v2 HB2.out).2).mono ?_; rintro e v3 ⟨ob, nb, cb, rfl, e3, hc2⟩; have e3 := e3.symm; subst e3; have hC2 := hc2 v2 (HX.out v2 HB2.out).2; clear hc2 HCu)
  refine hK.out _ _ (cb1) (fun hHeld => ?_)
  clear hK K
  refine wpAnyH_ready (rs := [9]) (by kernel_rfl) (by simp) ?_
  refine AllReadyH.cons rfl (fun K hK => ?_) AllReadyH.nil
  go_simp
  go_wp2_with (go_at_call 109; refine hC2.mono ?_; rintro e v4 ⟨rfl, hb⟩; have HB4 := hid (HB2.out.trans (hb.mono (bx_size HB2.out))); have cb2 := (HX.out v4 HB4.out).1; clear hb hC2)
  refine hK.out _ _ (cb2) (fun hHeld => ?_)
  clear hK K
  refine wpAnyH_one 10 25 (.bool true) hHeld rfl rfl (by kernel_rfl) (fun _ _ _ _ _ h => h) (by kernel_rfl) (by kernel_rfl) (by rfl) ?_ ?_
  · intro V hSw; (try dsimp only at hSw); go_simp
  simp only [Act.put, List.setIfInBounds_toArray, List.set_cons_zero, List.set_cons_succ]
  refine wpAnyH_one 11 26 (.bool true) hHeld rfl rfl (by kernel_rfl) (fun _ _ _ _ _ h => h) (by kernel_rfl) (by kernel_rfl) (by rfl) ?_ ?_
  · intro V hSw; (try dsimp only at hSw); go_simp
  simp only [Act.put, List.setIfInBounds_toArray, List.set_cons_zero, List.set_cons_succ]
  refine wpAnyH_done (by kernel_rfl) ?_ _
  go_wp2
  go_ret
  exact ⟨rfl, bx_below HB4.out⟩
set_option maxRecDepth 100000 in
set_option maxHeartbeats 4000000 in
theorem relem_iGz (b off cap n cp : Nat) (o : Option Addr) (c : Int) (ns : List NodeD) (w W : World) (hW : Below w.heap.size w W)
    (HC1 : Hid (∀ V : World, Below w.heap.size w V → Calls Tryz.prog 109 #[.agg #[.slice (some ⟨b, off, none⟩) ns.length cap], .slice o n cp, .int .u8 1] V fun e w'' => e = .returned (.int .i64 0) ∧ Below V.heap.size V w''))
    (HCu : Hid (∀ V0 : World, Below w.heap.size w V0 → Calls Tryz.prog 138 #[.slice o n cp, .int .i64 c] V0 fun e w' => ∃ oo no co, e = .returned (.slice oo no co) ∧ w' = V0 ∧ ∀ V : World, Below w.heap.size w V → Calls Tryz.prog 109 #[.agg #[.slice (some ⟨b, off, none⟩) ns.length cap], .slice oo no co, .int .u8 10] V fun e w'' => e = .returned (.int .i64 0) ∧ Below V.heap.size V w'')) (hc0 : (c == 0) = true) :
    Calls Tryz.prog 111 #[.agg #[.slice (some ⟨b, off, none⟩) ns.length cap], .slice o n cp, .int .i64 c, .bool false] W fun e w' => e = .returned (.bool true) ∧ Below W.heap.size W w' := by
  have HB0 : Hid (Below (W.heap.size + 1) (W.alloc (.cells #[.slice (some ⟨b, off, none⟩) ns.length cap] 24)) (W.alloc (.cells #[.slice (some ⟨b, off, none⟩) ns.length cap] 24))) := Below.refl _ _
  have HW := hid hW
  have HX : Hid (∀ V : World, Below (W.heap.size + 1) (W.alloc (.cells #[.slice (some ⟨b, off, none⟩) ns.length cap] 24)) V → V.cell? ⟨W.heap.size, 0, none⟩ = some (.slice (some ⟨b, off, none⟩) ns.length cap) ∧ Below w.heap.size w V) := fun V hV => ⟨(hV.cell (p := ⟨W.heap.size, 0, none⟩) (by show W.heap.size < W.heap.size + 1; omega)).trans (by simp), HW.out.trans ((bx_below hV).mono HW.out.size)⟩
  clear hW
  go_enter Tryz.func111, Tryz.ntmps111
  have HBd := hid (HB0.out.drew)
  have cb0 := (HX.out _ HBd.out).1
  have hC := HC1.out (W.alloc (.cells #[.slice (some ⟨b, off, none⟩) ns.length cap] 24)).drew ((HX.out _ HBd.out).2)
  clear HB0 HC1
  go_upto_region 4 with fail
  refine wp_region_held_drew (S := (fun V => V.cell? ⟨W.heap.size, 0, none⟩ = some (.slice (some ⟨b, off, none⟩) ns.length cap))) (by kernel_rfl) (cb0) (fun hHeld => ?_)
  refine wpAnyH_one 0 15 (.agg #[.slice (some ⟨b, off, none⟩) ns.length cap]) hHeld rfl rfl (by kernel_rfl) (fun _ _ _ _ _ h => h) (by kernel_rfl) (by kernel_rfl) (by rfl) ?_ ?_
  · intro V hSw; (try dsimp only at hSw); go_simp
  simp only [Act.put, List.setIfInBounds_toArray, List.set_cons_zero, List.set_cons_succ]
  refine wpAnyH_one 1 16 (.slice o n cp) hHeld rfl rfl (by kernel_rfl) (fun _ _ _ _ _ h => h) (by kernel_rfl) (by kernel_rfl) (by rfl) ?_ ?_
  · intro V hSw; (try dsimp only at hSw); go_simp
  simp only [Act.put, List.setIfInBounds_toArray, List.set_cons_zero, List.set_cons_succ]
  refine wpAnyH_ready (rs := [2]) (by kernel_rfl) (by simp) ?_
  refine AllReadyH.cons rfl (fun K hK => ?_) AllReadyH.nil
  go_simp
  go_wp2_with (go_at_call 109; refine hC.mono ?_; rintro e v2 ⟨rfl, hb⟩; have HB2 := hid (HBd.out.trans (hb.mono (bx_size HBd.out))); have cb1 := (HX.out v2 HB2.out).1; clear hb hC HBd)
  refine hK.out _ _ (cb1) (fun hHeld => ?_)
  clear hK K
  refine wpAnyH_one 3 18 (.bool false) hHeld rfl rfl (by kernel_rfl) (fun _ _ _ _ _ h => h) (by kernel_rfl) (by kernel_rfl) (by rfl) ?_ ?_
  · intro V hSw; (try dsimp only at hSw); go_simp
  simp only [Act.put, List.setIfInBounds_toArray, List.set_cons_zero, List.set_cons_succ]
  refine wpAnyH_one 4 19 (.bool false) hHeld rfl rfl (by kernel_rfl) (fun _ _ _ _ _ h => h) (by kernel_rfl) (by kernel_rfl) (by rfl) ?_ ?_
  · intro V hSw; (try dsimp only at hSw); go_simp
  simp only [Act.put, List.setIfInBounds_toArray, List.set_cons_zero, List.set_cons_succ]
  refine wpAnyH_one 5 20 (.agg #[.slice (some ⟨b, off, none⟩) ns.length cap]) hHeld rfl rfl (by kernel_rfl) (fun _ _ _ _ _ h => h) (by kernel_rfl) (by kernel_rfl) (by rfl) ?_ ?_
  · intro V hSw; (try dsimp only at hSw); go_simp
  simp only [Act.put, List.setIfInBounds_toArray, List.set_cons_zero, List.set_cons_succ]
  refine wpAnyH_one 6 21 (.slice o n cp) hHeld rfl rfl (by kernel_rfl) (fun _ _ _ _ _ h => h) (by kernel_rfl) (by kernel_rfl) (by rfl) ?_ ?_
  · intro V hSw; (try dsimp only at hSw); go_simp
  simp only [Act.put, List.setIfInBounds_toArray, List.set_cons_zero, List.set_cons_succ]
  refine wpAnyH_one 7 22 (.int .i64 c) hHeld rfl rfl (by kernel_rfl) (fun _ _ _ _ _ h => h) (by kernel_rfl) (by kernel_rfl) (by rfl) ?_ ?_
  · intro V hSw; (try dsimp only at hSw); go_simp
  simp only [Act.put, List.setIfInBounds_toArray, List.set_cons_zero, List.set_cons_succ]
  refine wpAnyH_ready (rs := [8]) (by kernel_rfl) (by simp) ?_
  refine AllReadyH.cons rfl (fun K hK => ?_) AllReadyH.nil
  go_simp
  go_wp2_with (go_at_call 138; refine (HCu.out v2 (HX.out v2 HB2.out).2).mono ?_; rintro e v3 ⟨ob, nb, cb, rfl, e3, hc2⟩; have e3 := e3.symm; subst e3; have hC2 := hc2 v2 (HX.out v2 HB2.out).2; clear hc2 HCu)
  refine hK.out _ _ (cb1) (fun hHeld => ?_)
  clear hK K
  refine wpAnyH_ready (rs := [9]) (by kernel_rfl) (by simp) ?_
  refine AllReadyH.cons rfl (fun K hK => ?_) AllReadyH.nil
  go_simp
  go_wp2_with (go_at_call 109; refine hC2.mono ?_; rintro e v4 ⟨rfl, hb⟩; have HB4 := hid (HB2.out.trans (hb.mono (bx_size HB2.out))); have cb2 := (HX.out v4 HB4.out).1; clear hb hC2)
  refine hK.out _ _ (cb2) (fun hHeld => ?_)
  clear hK K
  refine wpAnyH_one 10 25 (.bool false) hHeld rfl rfl (by kernel_rfl) (fun _ _ _ _ _ h => h) (by kernel_rfl) (by kernel_rfl) (by rfl) ?_ ?_
  · intro V hSw; (try dsimp only at hSw); go_simp
  simp only [Act.put, List.setIfInBounds_toArray, List.set_cons_zero, List.set_cons_succ]
  refine wpAnyH_one 11 26 (.bool false) hHeld rfl rfl (by kernel_rfl) (fun _ _ _ _ _ h => h) (by kernel_rfl) (by kernel_rfl) (by rfl) ?_ ?_
  · intro V hSw; (try dsimp only at hSw); go_simp
  simp only [Act.put, List.setIfInBounds_toArray, List.set_cons_zero, List.set_cons_succ]
  refine wpAnyH_done (by kernel_rfl) ?_ _
  go_wp2
  go_ret
  exact ⟨rfl, bx_below HB4.out⟩
set_option maxRecDepth 100000 in
set_option maxHeartbeats 4000000 in
theorem relem_iGk (b off cap n cp : Nat) (o : Option Addr) (c : Int) (ns : List NodeD) (w W : World) (hW : Below w.heap.size w W)
    (HC1 : Hid (∀ V : World, Below w.heap.size w V → Calls Tryz.prog 109 #[.agg #[.slice (some ⟨b, off, none⟩) ns.length cap], .slice o n cp, .int .u8 1] V fun e w'' => e = .returned (.int .i64 0) ∧ Below V.heap.size V w''))
    (HCu : Hid (∀ V0 : World, Below w.heap.size w V0 → Calls Tryz.prog 138 #[.slice o n cp, .int .i64 c] V0 fun e w' => ∃ oo no co, e = .returned (.slice oo no co) ∧ w' = V0 ∧ ∀ V : World, Below w.heap.size w V → Calls Tryz.prog 109 #[.agg #[.slice (some ⟨b, off, none⟩) ns.length cap], .slice oo no co, .int .u8 10] V fun e w'' => e = .returned (.int .i64 0) ∧ Below V.heap.size V w''))
    (hc0 : (c == 0) = false) (K : Nat) (B : Bool) (hB : ((K : Int) == 10) = B) (HKc : Hid (∀ V : World, Below w.heap.size w V → Calls Tryz.prog 53 #[.agg #[.slice (some ⟨b, off, none⟩) ns.length cap], .int .i64 c] V fun e w'' => e = .returned (.int .u8 (K : Int)) ∧ Below V.heap.size V w'')) :
    Calls Tryz.prog 111 #[.agg #[.slice (some ⟨b, off, none⟩) ns.length cap], .slice o n cp, .int .i64 c, .bool false] W fun e w' => e = .returned (.bool (!B)) ∧ Below W.heap.size W w' := by
  have HB0 : Hid (Below (W.heap.size + 1) (W.alloc (.cells #[.slice (some ⟨b, off, none⟩) ns.length cap] 24)) (W.alloc (.cells #[.slice (some ⟨b, off, none⟩) ns.length cap] 24))) := Below.refl _ _
  have HW := hid hW
  have HX : Hid (∀ V : World, Below (W.heap.size + 1) (W.alloc (.cells #[.slice (some ⟨b, off, none⟩) ns.length cap] 24)) V → V.cell? ⟨W.heap.size, 0, none⟩ = some (.slice (some ⟨b, off, none⟩) ns.length cap) ∧ Below w.heap.size w V) := fun V hV => ⟨(hV.cell (p := ⟨W.heap.size, 0, none⟩) (by show W.heap.size < W.heap.size + 1; omega)).trans (by simp), HW.out.trans ((bx_below hV).mono HW.out.size)⟩
  clear hW
  go_enter Tryz.func111, Tryz.ntmps111
  have HBd := hid (HB0.out.drew)
  have cb0 := (HX.out _ HBd.out).1
  have hC := HC1.out (W.alloc (.cells #[.slice (some ⟨b, off, none⟩) ns.length cap] 24)).drew ((HX.out _ HBd.out).2)
  clear HB0 HC1
  go_upto_region 4 with fail
  refine wp_region_held_drew (S := (fun V => V.cell? ⟨W.heap.size, 0, none⟩ = some (.slice (some ⟨b, off, none⟩) ns.length cap))) (by kernel_rfl) (cb0) (fun hHeld => ?_)
  refine wpAnyH_one 0 15 (.agg #[.slice (some ⟨b, off, none⟩) ns.length cap]) hHeld rfl rfl (by kernel_rfl) (fun _ _ _ _ _ h => h) (by kernel_rfl) (by kernel_rfl) (by rfl) ?_ ?_
  · intro V hSw; (try dsimp only at hSw); go_simp
  simp only [Act.put, List.setIfInBounds_toArray, List.set_cons_zero, List.set_cons_succ]
  refine wpAnyH_one 1 16 (.slice o n cp) hHeld rfl rfl (by kernel_rfl) (fun _ _ _ _ _ h => h) (by kernel_rfl) (by kernel_rfl) (by rfl) ?_ ?_
  · intro V hSw; (try dsimp only at hSw); go_simp
  simp only [Act.put, List.setIfInBounds_toArray, List.set_cons_zero, List.set_cons_succ]
  refine wpAnyH_ready (rs := [2]) (by kernel_rfl) (by simp) ?_
  refine AllReadyH.cons rfl (fun K hK => ?_) AllReadyH.nil
  go_simp
  go_wp2_with (go_at_call 109; refine hC.mono ?_; rintro e v2 ⟨rfl, hb⟩; have HB2 := hid (HBd.out.trans (hb.mono (bx_size HBd.out))); have cb1 := (HX.out v2 HB2.out).1; clear hb hC HBd)
  refine hK.out _ _ (cb1) (fun hHeld => ?_)
  clear hK K
  refine wpAnyH_one 3 18 (.bool false) hHeld rfl rfl (by kernel_rfl) (fun _ _ _ _ _ h => h) (by kernel_rfl) (by kernel_rfl) (by rfl) ?_ ?_
  · intro V hSw; (try dsimp only at hSw); go_simp
  simp only [Act.put, List.setIfInBounds_toArray, List.set_cons_zero, List.set_cons_succ]
  refine wpAnyH_one 4 19 (.bool false) hHeld rfl rfl (by kernel_rfl) (fun _ _ _ _ _ h => h) (by kernel_rfl) (by kernel_rfl) (by rfl) ?_ ?_
  · intro V hSw; (try dsimp only at hSw); go_simp
  simp only [Act.put, List.setIfInBounds_toArray, List.set_cons_zero, List.set_cons_succ]
  refine wpAnyH_one 5 20 (.agg #[.slice (some ⟨b, off, none⟩) ns.length cap]) hHeld rfl rfl (by kernel_rfl) (fun _ _ _ _ _ h => h) (by kernel_rfl) (by kernel_rfl) (by rfl) ?_ ?_
  · intro V hSw; (try dsimp only at hSw); go_simp
  simp only [Act.put, List.setIfInBounds_toArray, List.set_cons_zero, List.set_cons_succ]
  refine wpAnyH_one 6 21 (.slice o n cp) hHeld rfl rfl (by kernel_rfl) (fun _ _ _ _ _ h => h) (by kernel_rfl) (by kernel_rfl) (by rfl) ?_ ?_
  · intro V hSw; (try dsimp only at hSw); go_simp
  simp only [Act.put, List.setIfInBounds_toArray, List.set_cons_zero, List.set_cons_succ]
  refine wpAnyH_one 7 22 (.int .i64 c) hHeld rfl rfl (by kernel_rfl) (fun _ _ _ _ _ h => h) (by kernel_rfl) (by kernel_rfl) (by rfl) ?_ ?_
  · intro V hSw; (try dsimp only at hSw); go_simp
  simp only [Act.put, List.setIfInBounds_toArray, List.set_cons_zero, List.set_cons_succ]
  refine wpAnyH_ready (rs := [8]) (by kernel_rfl) (by simp) ?_
  refine AllReadyH.cons rfl (fun K hK => ?_) AllReadyH.nil
  go_simp
  go_wp2_with (go_at_call 138; refine (HCu.out v2 (HX.out v2 HB2.out).2).mono ?_; rintro e v3 ⟨ob, nb, cb, rfl, e3, hc2⟩; have e3 := e3.symm; subst e3; have hC2 := hc2 v2 (HX.out v2 HB2.out).2; clear hc2 HCu)
  refine hK.out _ _ (cb1) (fun hHeld => ?_)
  clear hK K
  refine wpAnyH_ready (rs := [9]) (by kernel_rfl) (by simp) ?_
  refine AllReadyH.cons rfl (fun K hK => ?_) AllReadyH.nil
  go_simp
  go_wp2_with (go_at_call 109; refine hC2.mono ?_; rintro e v4 ⟨rfl, hb⟩; have HB4 := hid (HB2.out.trans (hb.mono (bx_size HB2.out))); have cb2 := (HX.out v4 HB4.out).1; clear hb hC2)
  refine hK.out _ _ (cb2) (fun hHeld => ?_)
  clear hK K
  refine wpAnyH_one 10 25 (.bool false) hHeld rfl rfl (by kernel_rfl) (fun _ _ _ _ _ h => h) (by kernel_rfl) (by kernel_rfl) (by rfl) ?_ ?_
  · intro V hSw; (try dsimp only at hSw); go_simp
  simp only [Act.put, List.setIfInBounds_toArray, List.set_cons_zero, List.set_cons_succ]
  refine wpAnyH_one 11 26 (.bool false) hHeld rfl rfl (by kernel_rfl) (fun _ _ _ _ _ h => h) (by kernel_rfl) (by kernel_rfl) (by rfl) ?_ ?_
  · intro V hSw; (try dsimp only at hSw); go_simp
  simp only [Act.put, List.setIfInBounds_toArray, List.set_cons_zero, List.set_cons_succ]
  refine wpAnyH_done (by kernel_rfl) ?_ _
  have hK := HKc.out v4 (HX.out v4 HB4.out).2
  clear HKc
  go_wp2_with fail
  refine hK.mono ?_
  rintro e v5 ⟨rfl, hb⟩
  have HB5 := hid (HB4.out.trans (hb.mono (bx_size HB4.out)))
  clear hb hK
  go_wp2
  go_ret
  exact ⟨by show Ending.returned (Value.bool ((K : Int) != 10)) = _; rw [bne, hB], bx_below HB5.out⟩
set_option maxRecDepth 100000 in
set_option maxHeartbeats 4000000 in
theorem rdoct_iT (b off cap n cp : Nat) (o : Option Addr) (c : Int) (ns : List NodeD) (w W : World) (hW : Below w.heap.size w W) (N1 : Int) (h1 : 0 < N1)
    (HC1 : Hid (∀ V : World, Below w.heap.size w V → Calls Tryz.prog 109 #[.agg #[.slice (some ⟨b, off, none⟩) ns.length cap], .slice o n cp, .int .u8 10] V fun e w'' => e = .returned (.int .i64 N1) ∧ Below V.heap.size V w'')) :
    Calls Tryz.prog 112 #[.agg #[.slice (some ⟨b, off, none⟩) ns.length cap], .slice o n cp, .int .i64 c, .bool false] W fun e w' => e = .returned (.bool false) ∧ Below W.heap.size W w' := by
  have HB0 : Hid (Below (W.heap.size + 1) (W.alloc (.cells #[.slice (some ⟨b, off, none⟩) ns.length cap] 24)) (W.alloc (.cells #[.slice (some ⟨b, off, none⟩) ns.length cap] 24))) := Below.refl _ _
  have HW := hid hW
  have HX : Hid (∀ V : World, Below (W.heap.size + 1) (W.alloc (.cells #[.slice (some ⟨b, off, none⟩) ns.length cap] 24)) V → V.cell? ⟨W.heap.size, 0, none⟩ = some (.slice (some ⟨b, off, none⟩) ns.length cap) ∧ Below w.heap.size w V) := fun V hV => ⟨(hV.cell (p := ⟨W.heap.size, 0, none⟩) (by show W.heap.size < W.heap.size + 1; omega)).trans (by simp), HW.out.trans ((bx_below hV).mono HW.out.size)⟩
  clear hW
  have z1 : (N1 == 0) = false := beq_eq_false_iff_ne.2 (by omega)
  go_enter Tryz.func112, Tryz.ntmps112
  have HBd := hid (HB0.out.drew)
  have cb0 := (HX.out _ HBd.out).1
  have hC := HC1.out (W.alloc (.cells #[.slice (some ⟨b, off, none⟩) ns.length cap] 24)).drew ((HX.out _ HBd.out).2)
  clear HB0 HC1
  go_upto_region 4 with fail
  refine wp_region_held_drew (S := (fun V => V.cell? ⟨W.heap.size, 0, none⟩ = some (.slice (some ⟨b, off, none⟩) ns.length cap))) (by kernel_rfl) (cb0) (fun hHeld => ?_)
  refine wpAnyH_one 0 15 (.agg #[.slice (some ⟨b, off, none⟩) ns.length cap]) hHeld rfl rfl (by kernel_rfl) (fun _ _ _ _ _ h => h) (by kernel_rfl) (by kernel_rfl) (by rfl) ?_ ?_
  · intro V hSw; (try dsimp only at hSw); go_simp
  simp only [Act.put, List.setIfInBounds_toArray, List.set_cons_zero, List.set_cons_succ]
  refine wpAnyH_one 1 16 (.slice o n cp) hHeld rfl rfl (by kernel_rfl) (fun _ _ _ _ _ h => h) (by kernel_rfl) (by kernel_rfl) (by rfl) ?_ ?_
  · intro V hSw; (try dsimp only at hSw); go_simp
  simp only [Act.put, List.setIfInBounds_toArray, List.set_cons_zero, List.set_cons_succ]
  refine wpAnyH_ready (rs := [2]) (by kernel_rfl) (by simp) ?_
  refine AllReadyH.cons rfl (fun K hK => ?_) AllReadyH.nil
  go_simp
  go_wp2_with (go_at_call 109; refine hC.mono ?_; rintro e v2 ⟨rfl, hb⟩; have HB2 := hid (HBd.out.trans (hb.mono (bx_size HBd.out))); have cb1 := (HX.out v2 HB2.out).1; clear hb hC HBd)
  refine hK.out _ _ (cb1) (fun hHeld => ?_)
  clear hK K
  refine wpAnyH_one 3 18 (.bool false) hHeld rfl rfl (by kernel_rfl) (fun _ _ _ _ _ h => h) (by kernel_rfl) (by kernel_rfl) (by rfl) ?_ ?_
  · intro V hSw; (try dsimp only at hSw); go_simp
  simp only [Act.put, List.setIfInBounds_toArray, List.set_cons_zero, List.set_cons_succ]
  refine wpAnyH_one 4 19 (.bool false) hHeld rfl rfl (by kernel_rfl) (fun _ _ _ _ _ h => h) (by kernel_rfl) (by kernel_rfl) (by rfl) ?_ ?_
  · intro V hSw; (try dsimp only at hSw); go_simp
  simp only [Act.put, List.setIfInBounds_toArray, List.set_cons_zero, List.set_cons_succ]
  refine wpAnyH_skips [(5, 20), (6, 21), (7, 22), (8, 23), (9, 24), (10, 25)] 2 hHeld (by kernel_rfl) (fun _ _ _ _ _ h => h) (by kernel_rfl) (by kernel_rfl) ?_
  simp only [actAfter, listedAfter, Act.put, List.setIfInBounds_toArray, List.set_cons_zero, List.set_cons_succ]
  refine wpAnyH_one 11 26 (.bool false) hHeld rfl rfl (by kernel_rfl) (fun _ _ _ _ _ h => h) (by kernel_rfl) (by kernel_rfl) (by rfl) ?_ ?_
  · intro V hSw; (try dsimp only at hSw); go_simp
  simp only [Act.put, List.setIfInBounds_toArray, List.set_cons_zero, List.set_cons_succ]
  refine wpAnyH_one 12 8 (.bool false) hHeld rfl rfl (by kernel_rfl) (fun _ _ _ _ _ h => h) (by kernel_rfl) (by kernel_rfl) (by rfl) ?_ ?_
  · intro V hSw; (try dsimp only at hSw); go_simp
  simp only [Act.put, List.setIfInBounds_toArray, List.set_cons_zero, List.set_cons_succ]
  refine wpAnyH_done (by kernel_rfl) ?_ _
  go_wp2
  go_ret
  exact ⟨rfl, bx_below HB2.out⟩
set_option maxRecDepth 100000 in
set_option maxHeartbeats 4000000 in
theorem rdoct_iF (b off cap n cp : Nat) (o : Option Addr) (c : Int) (ns : List NodeD) (w W : World) (hW : Below w.heap.size w W) (N2 : Int) (h2 : 0 < N2)
    (HC1 : Hid (∀ V : World, Below w.heap.size w V → Calls Tryz.prog 109 #[.agg #[.slice (some ⟨b, off, none⟩) ns.length cap], .slice o n cp, .int .u8 10] V fun e w'' => e = .returned (.int .i64 0) ∧ Below V.heap.size V w''))
    (HCu : Hid (∀ V0 : World, Below w.heap.size w V0 → Calls Tryz.prog 139 #[.slice o n cp, .int .i64 c] V0 fun e w' => ∃ oo no co, e = .returned (.slice oo no co) ∧ w' = V0 ∧ ∀ V : World, Below w.heap.size w V → Calls Tryz.prog 109 #[.agg #[.slice (some ⟨b, off, none⟩) ns.length cap], .slice oo no co, .int .u8 1] V fun e w'' => e = .returned (.int .i64 N2) ∧ Below V.heap.size V w'')) :
    Calls Tryz.prog 112 #[.agg #[.slice (some ⟨b, off, none⟩) ns.length cap], .slice o n cp, .int .i64 c, .bool false] W fun e w' => e = .returned (.bool false) ∧ Below W.heap.size W w' := by
  have HB0 : Hid (Below (W.heap.size + 1) (W.alloc (.cells #[.slice (some ⟨b, off, none⟩) ns.length cap] 24)) (W.alloc (.cells #[.slice (some ⟨b, off, none⟩) ns.length cap] 24))) := Below.refl _ _
  have HW := hid hW
  have HX : Hid (∀ V : World, Below (W.heap.size + 1) (W.alloc (.cells #[.slice (some ⟨b, off, none⟩) ns.length cap] 24)) V → V.cell? ⟨W.heap.size, 0, none⟩ = some (.slice (some ⟨b, off, none⟩) ns.length cap) ∧ Below w.heap.size w V) := fun V hV => ⟨(hV.cell (p := ⟨W.heap.size, 0, none⟩) (by show W.heap.size < W.heap.size + 1; omega)).trans (by simp), HW.out.trans ((bx_below hV).mono HW.out.size)⟩
  clear hW
  have z2 : (N2 == 0) = false := beq_eq_false_iff_ne.2 (by omega)
  go_enter Tryz.func112, Tryz.ntmps112
  have HBd := hid (HB0.out.drew)
  have cb0 := (HX.out _ HBd.out).1
  have hC := HC1.out (W.alloc (.cells #[.slice (some ⟨b, off, none⟩) ns.length cap] 24)).drew ((HX.out _ HBd.out).2)
  clear HB0 HC1
  go_upto_region 4 with fail
  refine wp_region_held_drew (S := (fun V => V.cell? ⟨W.heap.size, 0, none⟩ = some (.slice (some ⟨b, off, none⟩) ns.length cap))) (by kernel_rfl) (cb0) (fun hHeld => ?_)
  refine wpAnyH_one 0 15 (.agg #[.slice (some ⟨b, off, none⟩) ns.length cap]) hHeld rfl rfl (by kernel_rfl) (fun _ _ _ _ _ h => h) (by kernel_rfl) (by kernel_rfl) (by rfl) ?_ ?_
  · intro V hSw; (try dsimp only at hSw); go_simp
  simp only [Act.put, List.setIfInBounds_toArray, List.set_cons_zero, List.set_cons_succ]
  refine wpAnyH_one 1 16 (.slice o n cp) hHeld rfl rfl (by kernel_rfl) (fun _ _ _ _ _ h => h) (by kernel_rfl) (by kernel_rfl) (by rfl) ?_ ?_
  · intro V hSw; (try dsimp only at hSw); go_simp
  simp only [Act.put, List.setIfInBounds_toArray, List.set_cons_zero, List.set_cons_succ]
  refine wpAnyH_ready (rs := [2]) (by kernel_rfl) (by simp) ?_
  refine AllReadyH.cons rfl (fun K hK => ?_) AllReadyH.nil
  go_simp
  go_wp2_with (go_at_call 109; refine hC.mono ?_; rintro e v2 ⟨rfl, hb⟩; have HB2 := hid (HBd.out.trans (hb.mono (bx_size HBd.out))); have cb1 := (HX.out v2 HB2.out).1; clear hb hC HBd)
  refine hK.out _ _ (cb1) (fun hHeld => ?_)
  clear hK K
  refine wpAnyH_one 3 18 (.bool true) hHeld rfl rfl (by kernel_rfl) (fun _ _ _ _ _ h => h) (by kernel_rfl) (by kernel_rfl) (by rfl) ?_ ?_
  · intro V hSw; (try dsimp only at hSw); go_simp
  simp only [Act.put, List.setIfInBounds_toArray, List.set_cons_zero, List.set_cons_succ]
  refine wpAnyH_one 4 19 (.bool true) hHeld rfl rfl (by kernel_rfl) (fun _ _ _ _ _ h => h) (by kernel_rfl) (by kernel_rfl) (by rfl) ?_ ?_
  · intro V hSw; (try dsimp only at hSw); go_simp
  simp only [Act.put, List.setIfInBounds_toArray, List.set_cons_zero, List.set_cons_succ]
  refine wpAnyH_one 5 20 (.agg #[.slice (some ⟨b, off, none⟩) ns.length cap]) hHeld rfl rfl (by kernel_rfl) (fun _ _ _ _ _ h => h) (by kernel_rfl) (by kernel_rfl) (by rfl) ?_ ?_
  · intro V hSw; (try dsimp only at hSw); go_simp
  simp only [Act.put, List.setIfInBounds_toArray, List.set_cons_zero, List.set_cons_succ]
  refine wpAnyH_one 6 21 (.slice o n cp) hHeld rfl rfl (by kernel_rfl) (fun _ _ _ _ _ h => h) (by kernel_rfl) (by kernel_rfl) (by rfl) ?_ ?_
  · intro V hSw; (try dsimp only at hSw); go_simp
  simp only [Act.put, List.setIfInBounds_toArray, List.set_cons_zero, List.set_cons_succ]
  refine wpAnyH_one 7 22 (.int .i64 c) hHeld rfl rfl (by kernel_rfl) (fun _ _ _ _ _ h => h) (by kernel_rfl) (by kernel_rfl) (by rfl) ?_ ?_
  · intro V hSw; (try dsimp only at hSw); go_simp
  simp only [Act.put, List.setIfInBounds_toArray, List.set_cons_zero, List.set_cons_succ]
  refine wpAnyH_ready (rs := [8]) (by kernel_rfl) (by simp) ?_
  refine AllReadyH.cons rfl (fun K hK => ?_) AllReadyH.nil
  go_simp
  go_wp2_with (go_at_call 139; refine (HCu.out v2 (HX.out v2 HB2.out).2).mono ?_; rintro e v3 ⟨ob, nb, cb, rfl, e3, hc2⟩; have e3 := e3.symm; subst e3; have hC2 := hc2 v2 (HX.out v2 HB2.out).2; clear hc2 HCu)
  refine hK.out _ _ (cb1) (fun hHeld => ?_)
  clear hK K
  refine wpAnyH_ready (rs := [9]) (by kernel_rfl) (by simp) ?_
  refine AllReadyH.cons rfl (fun K hK => ?_) AllReadyH.nil
  go_simp
  go_wp2_with (go_at_call 109; refine hC2.mono ?_; rintro e v4 ⟨rfl, hb⟩; have HB4 := hid (HB2.out.trans (hb.mono (bx_size HB2.out))); have cb2 := (HX.out v4 HB4.out).1; clear hb hC2)
  refine hK.out _ _ (cb2) (fun hHeld => ?_)
  clear hK K
  refine wpAnyH_one 10 25 (.bool false) hHeld rfl rfl (by kernel_rfl) (fun _ _ _ _ _ h => h) (by kernel_rfl) (by kernel_rfl) (by rfl) ?_ ?_
  · intro V hSw; (try dsimp only at hSw); go_simp
  simp only [Act.put, List.setIfInBounds_toArray, List.set_cons_zero, List.set_cons_succ]
  refine wpAnyH_one 11 26 (.bool false) hHeld rfl rfl (by kernel_rfl) (fun _ _ _ _ _ h => h) (by kernel_rfl) (by kernel_rfl) (by rfl) ?_ ?_
  · intro V hSw; (try dsimp only at hSw); go_simp
  simp only [Act.put, List.setIfInBounds_toArray, List.set_cons_zero, List.set_cons_succ]
  refine wpAnyH_one 12 8 (.bool false) hHeld rfl rfl (by kernel_rfl) (fun _ _ _ _ _ h => h) (by kernel_rfl) (by kernel_rfl) (by rfl) ?_ ?_
  · intro V hSw; (try dsimp only at hSw); go_simp
  simp only [Act.put, List.setIfInBounds_toArray, List.set_cons_zero, List.set_cons_succ]
  refine wpAnyH_done (by kernel_rfl) ?_ _
  go_wp2
  go_ret
  exact ⟨rfl, bx_below HB4.out⟩
set_option maxRecDepth 100000 in
set_option maxHeartbeats 4000000 in
theorem rdoct_iG (b off cap n cp : Nat) (o : Option Addr) (c : Int) (ns : List NodeD) (w W : World) (hW : Below w.heap.size w W)
    (HC1 : Hid (∀ V : World, Below w.heap.size w V → Calls Tryz.prog 109 #[.agg #[.slice (some ⟨b, off, none⟩) ns.length cap], .slice o n cp, .int .u8 10] V fun e w'' => e = .returned (.int .i64 0) ∧ Below V.heap.size V w''))
    (HCu : Hid (∀ V0 : World, Below w.heap.size w V0 → Calls Tryz.prog 139 #[.slice o n cp, .int .i64 c] V0 fun e w' => ∃ oo no co, e = .returned (.slice oo no co) ∧ w' = V0 ∧ ∀ V : World, Below w.heap.size w V → Calls Tryz.prog 109 #[.agg #[.slice (some ⟨b, off, none⟩) ns.length cap], .slice oo no co, .int .u8 1] V fun e w'' => e = .returned (.int .i64 0) ∧ Below V.heap.size V w'')) :
    Calls Tryz.prog 112 #[.agg #[.slice (some ⟨b, off, none⟩) ns.length cap], .slice o n cp, .int .i64 c, .bool false] W fun e w' => e = .returned (.bool true) ∧ Below W.heap.size W w' := by
  have HB0 : Hid (Below (W.heap.size + 1) (W.alloc (.cells #[.slice (some ⟨b, off, none⟩) ns.length cap] 24)) (W.alloc (.cells #[.slice (some ⟨b, off, none⟩) ns.length cap] 24))) := Below.refl _ _
  have HW := hid hW
  have HX : Hid (∀ V : World, Below (W.heap.size + 1) (W.alloc (.cells #[.slice (some ⟨b, off, none⟩) ns.length cap] 24)) V → V.cell? ⟨W.heap.size, 0, none⟩ = some (.slice (some ⟨b, off, none⟩) ns.length cap) ∧ Below w.heap.size w V) := fun V hV => ⟨(hV.cell (p := ⟨W.heap.size, 0, none⟩) (by show W.heap.size < W.heap.size + 1; omega)).trans (by simp), HW.out.trans ((bx_below hV).mono HW.out.size)⟩
  clear hW
  go_enter Tryz.func112, Tryz.ntmps112
  have HBd := hid (HB0.out.drew)
  have cb0 := (HX.out _ HBd.out).1
  have hC := HC1.out (W.alloc (.cells #[.slice (some ⟨b, off, none⟩) ns.length cap] 24)).drew ((HX.out _ HBd.out).2)
  clear HB0 HC1
  go_upto_region 4 with fail
  refine wp_region_held_drew (S := (fun V => V.cell? ⟨W.heap.size, 0, none⟩ = some (.slice (some ⟨b, off, none⟩) ns.length cap))) (by kernel_rfl) (cb0) (fun hHeld => ?_)
  refine wpAnyH_one 0 15 (.agg #[.slice (some ⟨b, off, none⟩) ns.length cap]) hHeld rfl rfl (by kernel_rfl) (fun _ _ _ _ _ h => h) (by kernel_rfl) (by kernel_rfl) (by rfl) ?_ ?_
  · intro V hSw; (try dsimp only at hSw); go_simp
  simp only [Act.put, List.setIfInBounds_toArray, List.set_cons_zero, List.set_cons_succ]
  refine wpAnyH_one 1 16 (.slice o n cp) hHeld rfl rfl (by kernel_rfl) (fun _ _ _ _ _ h => h) (by kernel_rfl) (by kernel_rfl) (by rfl) ?_ ?_
  · intro V hSw; (try dsimp only at hSw); go_simp
  simp only [Act.put, List.setIfInBounds_toArray, List.set_cons_zero, List.set_cons_succ]
  refine wpAnyH_ready (rs := [2]) (by kernel_rfl) (by simp) ?_
  refine AllReadyH.cons rfl (fun K hK => ?_) AllReadyH.nil
  go_simp
  go_wp2_with (go_at_call 109; refine hC.mono ?_; rintro e v2 ⟨rfl, hb⟩; have HB2 := hid (HBd.out.trans (hb.mono (bx_size HBd.out))); have cb1 := (HX.out v2 HB2.out).1; clear hb hC HBd)
  refine hK.out _ _ (cb1) (fun hHeld => ?_)
  clear hK K
  refine wpAnyH_one 3 18 (.bool true) hHeld rfl rfl (by kernel_rfl) (fun _ _ _ _ _ h => h) (by kernel_rfl) (by kernel_rfl) (by rfl) ?_ ?_
  · intro V hSw; (try dsimp only at hSw); go_simp
  simp only [Act.put, List.setIfInBounds_toArray, List.set_cons_zero, List.set_cons_succ]
  refine wpAnyH_one 4 19 (.bool true) hHeld rfl rfl (by kernel_rfl) (fun _ _ _ _ _ h => h) (by kernel_rfl) (by kernel_rfl) (by rfl) ?_ ?_
  · intro V hSw; (try dsimp only at hSw); go_simp
  simp only [Act.put, List.setIfInBounds_toArray, List.set_cons_zero, List.set_cons_succ]
  refine wpAnyH_one 5 20 (.agg #[.slice (some ⟨b, off, none⟩) ns.length cap]) hHeld rfl rfl (by kernel_rfl) (fun _ _ _ _ _ h => h) (by kernel_rfl) (by kernel_rfl) (by rfl) ?_ ?_
  · intro V hSw; (try dsimp only at hSw); go_simp
  simp only [Act.put, List.setIfInBounds_toArray, List.set_cons_zero, List.set_cons_succ]
  refine wpAnyH_one 6 21 (.slice o n cp) hHeld rfl rfl (by kernel_rfl) (fun _ _ _ _ _ h => h) (by kernel_rfl) (by kernel_rfl) (by rfl) ?_ ?_
  · intro V hSw; (try dsimp only at hSw); go_simp
  simp only [Act.put, List.setIfInBounds_toArray, List.set_cons_zero, List.set_cons_succ]
  refine wpAnyH_one 7 22 (.int .i64 c) hHeld rfl rfl (by kernel_rfl) (fun _ _ _ _ _ h => h) (by kernel_rfl) (by kernel_rfl) (by rfl) ?_ ?_
  · intro V hSw; (try dsimp only at hSw); go_simp
  simp only [Act.put, List.setIfInBounds_toArray, List.set_cons_zero, List.set_cons_succ]
  refine wpAnyH_ready (rs := [8]) (by kernel_rfl) (by simp) ?_
  refine AllReadyH.cons rfl (fun K hK => ?_) AllReadyH.nil
  go_simp
  go_wp2_with (go_at_call 139; refine (HCu.out v2 (HX.out v2 HB2.out).2).mono ?_; rintro e v3 ⟨ob, nb, cb, rfl, e3, hc2⟩; have e3 := e3.symm; subst e3; have hC2 := hc2 v2 (HX.out v2 HB2.out).2; clear hc2 HCu)
  refine hK.out _ _ (cb1) (fun hHeld => ?_)
  clear hK K
  refine wpAnyH_ready (rs := [9]) (by kernel_rfl) (by simp) ?_
  refine AllReadyH.cons rfl (fun K hK => ?_) AllReadyH.nil
  go_simp
  go_wp2_with (go_at_call 109; refine hC2.mono ?_; rintro e v4 ⟨rfl, hb⟩; have HB4 := hid (HB2.out.trans (hb.mono (bx_size HB2.out))); have cb2 := (HX.out v4 HB4.out).1; clear hb hC2)
  refine hK.out _ _ (cb2) (fun hHeld => ?_)
  clear hK K
  refine wpAnyH_one 10 25 (.bool true) hHeld rfl rfl (by kernel_rfl) (fun _ _ _ _ _ h => h) (by kernel_rfl) (by kernel_rfl) (by rfl) ?_ ?_
  · intro V hSw; (try dsimp only at hSw); go_simp
  simp only [Act.put, List.setIfInBounds_toArray, List.set_cons_zero, List.set_cons_succ]
  refine wpAnyH_one 11 26 (.bool true) hHeld rfl rfl (by kernel_rfl) (fun _ _ _ _ _ h => h) (by kernel_rfl) (by kernel_rfl) (by rfl) ?_ ?_
  · intro V hSw; (try dsimp only at hSw); go_simp
  simp only [Act.put, List.setIfInBounds_toArray, List.set_cons_zero, List.set_cons_succ]
  refine wpAnyH_one 12 8 (.bool true) hHeld rfl rfl (by kernel_rfl) (fun _ _ _ _ _ h => h) (by kernel_rfl) (by kernel_rfl) (by rfl) ?_ ?_
  · intro V hSw; (try dsimp only at hSw); go_simp
  simp only [Act.put, List.setIfInBounds_toArray, List.set_cons_zero, List.set_cons_succ]
  refine wpAnyH_done (by kernel_rfl) ?_ _
  go_wp2
  go_ret
  exact ⟨rfl, bx_below HB4.out⟩
set_option maxRecDepth 100000 in
set_option maxHeartbeats 4000000 in
theorem relem_rT (b off cap n cp : Nat) (o : Option Addr) (c : Int) (ns : List NodeD) (w W : World) (hW : Below w.heap.size w W) (N1 : Int) (h1 : 0 < N1)
    (HWo : Hid (∀ V0 : World, Below w.heap.size w V0 → Calls Tryz.prog 137 #[.slice o n cp, .int .i64 c] V0 fun e w' => ∃ oo no co, e = .returned (.slice oo no co) ∧ Below V0.heap.size V0 w' ∧ ∀ V : World, Below w'.heap.size w' V → Calls Tryz.prog 109 #[.agg #[.slice (some ⟨b, off, none⟩) ns.length cap], .slice oo no co, .int .u8 1] V fun e w'' => e = .returned (.int .i64 N1) ∧ Below V.heap.size V w'')) :
    Calls Tryz.prog 111 #[.agg #[.slice (some ⟨b, off, none⟩) ns.length cap], .slice o n cp, .int .i64 c, .bool true] W fun e w' => e = .returned (.bool false) ∧ Below W.heap.size W w' := by
  have HB0 : Hid (Below (W.heap.size + 1) (W.alloc (.cells #[.slice (some ⟨b, off, none⟩) ns.length cap] 24)) (W.alloc (.cells #[.slice (some ⟨b, off, none⟩) ns.length cap] 24))) := Below.refl _ _
  have HW := hid hW
  have HX : Hid (∀ V : World, Below (W.heap.size + 1) (W.alloc (.cells #[.slice (some ⟨b, off, none⟩) ns.length cap] 24)) V → V.cell? ⟨W.heap.size, 0, none⟩ = some (.slice (some ⟨b, off, none⟩) ns.length cap) ∧ Below w.heap.size w V) := fun V hV => ⟨(hV.cell (p := ⟨W.heap.size, 0, none⟩) (by show W.heap.size < W.heap.size + 1; omega)).trans (by simp), HW.out.trans ((bx_below hV).mono HW.out.size)⟩
  clear hW
  go_enter Tryz.func111, Tryz.ntmps111
  go_wp2_with fail
  refine (HWo.out _ (HX.out _ HB0.out).2).mono ?_
  rintro e v1 ⟨oo, no, co, rfl, hb, hc1⟩
  have HB1 := hid (HB0.out.trans (hb.mono (bx_size HB0.out)))
  have HC1 := hid hc1
  clear hb hc1 HWo HB0
  have HBd := hid (HB1.out.drew)
  have cb0 := (HX.out _ HBd.out).1
  have hC := HC1.out v1.drew ((Below.refl _ _).drew)
  clear HB1 HC1
  go_upto_region 4 with fail
  refine wp_region_held_drew (S := (fun V => V.cell? ⟨W.heap.size, 0, none⟩ = some (.slice (some ⟨b, off, none⟩) ns.length cap))) (by kernel_rfl) (cb0) (fun hHeld => ?_)
  refine wpAnyH_one 0 15 (.agg #[.slice (some ⟨b, off, none⟩) ns.length cap]) hHeld rfl rfl (by kernel_rfl) (fun _ _ _ _ _ h => h) (by kernel_rfl) (by kernel_rfl) (by rfl) ?_ ?_
  · intro V hSw; (try dsimp only at hSw); go_simp
  simp only [Act.put, List.setIfInBounds_toArray, List.set_cons_zero, List.set_cons_succ]
  refine wpAnyH_one 1 16 (.slice oo no co) hHeld rfl rfl (by kernel_rfl) (fun _ _ _ _ _ h => h) (by kernel_rfl) (by kernel_rfl) (by rfl) ?_ ?_
  · intro V hSw; (try dsimp only at hSw); go_simp
  simp only [Act.put, List.setIfInBounds_toArray, List.set_cons_zero, List.set_cons_succ]
  refine wpAnyH_ready (rs := [2]) (by kernel_rfl) (by simp) ?_
  refine AllReadyH.cons rfl (fun K hK => ?_) AllReadyH.nil
  go_simp
  go_wp2_with (go_at_call 109; refine hC.mono ?_; rintro e v2 ⟨rfl, hb⟩; have HB2 := hid (HBd.out.trans (hb.mono (bx_size HBd.out))); have cb1 := (HX.out v2 HB2.out).1; clear hb hC HBd)
  refine hK.out _ _ (cb1) (fun hHeld => ?_)
  clear hK K
  refine wpAnyH_one 3 18 (.bool true) hHeld rfl rfl (by kernel_rfl) (fun _ _ _ _ _ h => h) (by kernel_rfl) (by kernel_rfl) (by rfl) ?_ ?_
  · intro V hSw; (try dsimp only at hSw); go_simp
  simp only [Act.put, List.setIfInBounds_toArray, List.set_cons_zero, List.set_cons_succ]
  refine wpAnyH_one 4 19 (.bool true) hHeld rfl rfl (by kernel_rfl) (fun _ _ _ _ _ h => h) (by kernel_rfl) (by kernel_rfl) (by rfl) ?_ ?_
  · intro V hSw; (try dsimp only at hSw); go_simp
  simp only [Act.put, List.setIfInBounds_toArray, List.set_cons_zero, List.set_cons_succ]
  refine wpAnyH_skips [(5, 20), (6, 21), (7, 22), (8, 23), (9, 24), (10, 25)] 1 hHeld (by kernel_rfl) (fun _ _ _ _ _ h => h) (by kernel_rfl) (by kernel_rfl) ?_
  simp only [actAfter, listedAfter, Act.put, List.setIfInBounds_toArray, List.set_cons_zero, List.set_cons_succ]
  refine wpAnyH_one 11 26 (.bool true) hHeld rfl rfl (by kernel_rfl) (fun _ _ _ _ _ h => h) (by kernel_rfl) (by kernel_rfl) (by rfl) ?_ ?_
  · intro V hSw; (try dsimp only at hSw); go_simp
  simp only [Act.put, List.setIfInBounds_toArray, List.set_cons_zero, List.set_cons_succ]
  refine wpAnyH_done (by kernel_rfl) ?_ _
  go_wp2
  go_ret
  exact ⟨rfl, bx_below HB2.out⟩
set_option maxRecDepth 100000 in
set_option maxHeartbeats 4000000 in
theorem relem_rF (b off cap n cp : Nat) (o : Option Addr) (c : Int) (ns : List NodeD) (w W : World) (hW : Below w.heap.size w W) (N2 : Int) (h2 : 0 < N2)
    (HWo : Hid (∀ V0 : World, Below w.heap.size w V0 → Calls Tryz.prog 137 #[.slice o n cp, .int .i64 c] V0 fun e w' => ∃ oo no co, e = .returned (.slice oo no co) ∧ Below V0.heap.size V0 w' ∧ ∀ V : World, Below w'.heap.size w' V → Calls Tryz.prog 109 #[.agg #[.slice (some ⟨b, off, none⟩) ns.length cap], .slice oo no co, .int .u8 1] V fun e w'' => e = .returned (.int .i64 0) ∧ Below V.heap.size V w''))
    (HCu : Hid (∀ V0 : World, Below w.heap.size w V0 → Calls Tryz.prog 138 #[.slice o n cp, .int .i64 c] V0 fun e w' => ∃ oo no co, e = .returned (.slice oo no co) ∧ w' = V0 ∧ ∀ V : World, Below w.heap.size w V → Calls Tryz.prog 109 #[.agg #[.slice (some ⟨b, off, none⟩) ns.length cap], .slice oo no co, .int .u8 10] V fun e w'' => e = .returned (.int .i64 N2) ∧ Below V.heap.size V w'')) :
    Calls Tryz.prog 111 #[.agg #[.slice (some ⟨b, off, none⟩) ns.length cap], .slice o n cp, .int .i64 c, .bool true] W fun e w' => e = .returned (.bool false) ∧ Below W.heap.size W w' := by
  have HB0 : Hid (Below (W.heap.size + 1) (W.alloc (.cells #[.slice (some ⟨b, off, none⟩) ns.length cap] 24)) (W.alloc (.cells #[.slice (some ⟨b, off, none⟩) ns.length cap] 24))) := Below.refl _ _
  have HW := hid hW
  have HX : Hid (∀ V : World, Below (W.heap.size + 1) (W.alloc (.cells #[.slice (some ⟨b, off, none⟩) ns.length cap] 24)) V → V.cell? ⟨W.heap.size, 0, none⟩ = some (.slice (some ⟨b, off, none⟩) ns.length cap) ∧ Below w.heap.size w V) := fun V hV => ⟨(hV.cell (p := ⟨W.heap.size, 0, none⟩) (by show W.heap.size < W.heap.size + 1; omega)).trans (by simp), HW.out.trans ((bx_below hV).mono HW.out.size)⟩
  clear hW
  go_enter Tryz.func111, Tryz.ntmps111
  go_wp2_with fail
  refine (HWo.out _ (HX.out _ HB0.out).2).mono ?_
  rintro e v1 ⟨oo, no, co, rfl, hb, hc1⟩
  have HB1 := hid (HB0.out.trans (hb.mono (bx_size HB0.out)))
  have HC1 := hid hc1
  clear hb hc1 HWo HB0
  have HBd := hid (HB1.out.drew)
  have cb0 := (HX.out _ HBd.out).1
  have hC := HC1.out v1.drew ((Below.refl _ _).drew)
  clear HB1 HC1
  go_upto_region 4 with fail
  refine wp_region_held_drew (S := (fun V => V.cell? ⟨W.heap.size, 0, none⟩ = some (.slice (some ⟨b, off, none⟩) ns.length cap))) (by kernel_rfl) (cb0) (fun hHeld => ?_)
  refine wpAnyH_one 0 15 (.agg #[.slice (some ⟨b, off, none⟩) ns.length cap]) hHeld rfl rfl (by kernel_rfl) (fun _ _ _ _ _ h => h) (by kernel_rfl) (by kernel_rfl) (by rfl) ?_ ?_
  · intro V hSw; (try dsimp only at hSw); go_simp
  simp only [Act.put, List.setIfInBounds_toArray, List.set_cons_zero, List.set_cons_succ]
  refine wpAnyH_one 1 16 (.slice oo no co) hHeld rfl rfl (by kernel_rfl) (fun _ _ _ _ _ h => h) (by kernel_rfl) (by kernel_rfl) (by rfl) ?_ ?_
  · intro V hSw; (try dsimp only at hSw); go_simp
  simp only [Act.put, List.setIfInBounds_toArray, List.set_cons_zero, List.set_cons_succ]
  refine wpAnyH_ready (rs := [2]) (by kernel_rfl) (by simp) ?_
  refine AllReadyH.cons rfl (fun K hK => ?_) AllReadyH.nil
  go_simp
  go_wp2_with (go_at_call 109; refine hC.mono ?_; rintro e v2 ⟨rfl, hb⟩; have HB2 := hid (HBd.out.trans (hb.mono (bx_size HBd.out))); have cb1 := (HX.out v2 HB2.out).1; clear hb hC HBd)
  refine hK.out _ _ (cb1) (fun hHeld => ?_)
  clear hK K
  refine wpAnyH_one 3 18 (.bool false) hHeld rfl rfl (by kernel_rfl) (fun _ _ _ _ _ h => h) (by kernel_rfl) (by kernel_rfl) (by rfl) ?_ ?_
  · intro V hSw; (try dsimp only at hSw); go_simp
  simp only [Act.put, List.setIfInBounds_toArray, List.set_cons_zero, List.set_cons_succ]
  refine wpAnyH_one 4 19 (.bool false) hHeld rfl rfl (by kernel_rfl) (fun _ _ _ _ _ h => h) (by kernel_rfl) (by kernel_rfl) (by rfl) ?_ ?_
  · intro V hSw; (try dsimp only at hSw); go_simp
  simp only [Act.put, List.setIfInBounds_toArray, List.set_cons_zero, List.set_cons_succ]
  refine wpAnyH_one 5 20 (.agg #[.slice (some ⟨b, off, none⟩) ns.length cap]) hHeld rfl rfl (by kernel_rfl) (fun _ _ _ _ _ h => h) (by kernel_rfl) (by kernel_rfl) (by rfl) ?_ ?_
  · intro V hSw; (try dsimp only at hSw); go_simp
  simp only [Act.put, List.setIfInBounds_toArray, List.set_cons_zero, List.set_cons_succ]
  refine wpAnyH_one 6 21 (.slice o n cp) hHeld rfl rfl (by kernel_rfl) (fun _ _ _ _ _ h => h) (by kernel_rfl) (by kernel_rfl) (by rfl) ?_ ?_
  · intro V hSw; (try dsimp only at hSw); go_simp
  simp only [Act.put, List.setIfInBounds_toArray, List.set_cons_zero, List.set_cons_succ]
  refine wpAnyH_one 7 22 (.int .i64 c) hHeld rfl rfl (by kernel_rfl) (fun _ _ _ _ _ h => h) (by kernel_rfl) (by kernel_rfl) (by rfl) ?_ ?_
  · intro V hSw; (try dsimp only at hSw); go_simp
  simp only [Act.put, List.setIfInBounds_toArray, List.set_cons_zero, List.set_cons_succ]
  refine wpAnyH_ready (rs := [8]) (by kernel_rfl) (by simp) ?_
  refine AllReadyH.cons rfl (fun K hK => ?_) AllReadyH.nil
  go_simp
  go_wp2_with (go_at_call 138; refine (HCu.out v2 (HX.out v2 HB2.out).2).mono ?_; rintro e v3 ⟨ob, nb, cb, rfl, e3, hc2⟩; have e3 := e3.symm; subst e3; have hC2 := hc2 v2 (HX.out v2 HB2.out).2; clear hc2 HCu)
  refine hK.out _ _ (cb1) (fun hHeld => ?_)
  clear hK K
  refine wpAnyH_ready (rs := [9]) (by kernel_rfl) (by simp) ?_
  refine AllReadyH.cons rfl (fun K hK => ?_) AllReadyH.nil
  go_simp
  go_wp2_with (go_at_call 109; refine hC2.mono ?_; rintro e v4 ⟨rfl, hb⟩; have HB4 := hid (HB2.out.trans (hb.mono (bx_size HB2.out))); have cb2 := (HX.out v4 HB4.out).1; clear hb hC2)
  refine hK.out _ _ (cb2) (fun hHeld => ?_)
  clear hK K
  refine wpAnyH_one 10 25 (.bool true) hHeld rfl rfl (by kernel_rfl) (fun _ _ _ _ _ h => h) (by kernel_rfl) (by kernel_rfl) (by rfl) ?_ ?_
  · intro V hSw; (try dsimp only at hSw); go_simp
  simp only [Act.put, List.setIfInBounds_toArray, List.set_cons_zero, List.set_cons_succ]
  refine wpAnyH_one 11 26 (.bool true) hHeld rfl rfl (by kernel_rfl) (fun _ _ _ _ _ h => h) (by kernel_rfl) (by kernel_rfl) (by rfl) ?_ ?_
  · intro V hSw; (try dsimp only at hSw); go_simp
  simp only [Act.put, List.setIfInBounds_toArray, List.set_cons_zero, List.set_cons_succ]
  refine wpAnyH_done (by kernel_rfl) ?_ _
  go_wp2
  go_ret
  exact ⟨rfl, bx_below HB4.out⟩
set_option maxRecDepth 100000 in
set_option maxHeartbeats 4000000 in
theorem relem_rG (b off cap n cp : Nat) (o : Option Addr) (c : Int) (ns : List NodeD) (w W : World) (hW : Below w.heap.size w W)
    (HWo : Hid (∀ V0 : World, Below w.heap.size w V0 → Calls Tryz.prog 137 #[.slice o n cp, .int .i64 c] V0 fun e w' => ∃ oo no co, e = .returned (.slice oo no co) ∧ Below V0.heap.size V0 w' ∧ ∀ V : World, Below w'.heap.size w' V → Calls Tryz.prog 109 #[.agg #[.slice (some ⟨b, off, none⟩) ns.length cap], .slice oo no co, .int .u8 1] V fun e w'' => e = .returned (.int .i64 0) ∧ Below V.heap.size V w''))
    (HCu : Hid (∀ V0 : World, Below w.heap.size w V0 → Calls Tryz.prog 138 #[.slice o n cp, .int .i64 c] V0 fun e w' => ∃ oo no co, e = .returned (.slice oo no co) ∧ w' = V0 ∧ ∀ V : World, Below w.heap.size w V → Calls Tryz.prog 109 #[.agg #[.slice (some ⟨b, off, none⟩) ns.length cap], .slice oo no co, .int .u8 10] V fun e w'' => e = .returned (.int .i64 0) ∧ Below V.heap.size V w'')) :
    Calls Tryz.prog 111 #[.agg #[.slice (some ⟨b, off, none⟩) ns.length cap], .slice o n cp, .int .i64 c, .bool true] W fun e w' => e = .returned (.bool true) ∧ Below W.heap.size W w' := by
  have HB0 : Hid (Below (W.heap.size + 1) (W.alloc (.cells #[.slice (some ⟨b, off, none⟩) ns.length cap] 24)) (W.alloc (.cells #[.slice (some ⟨b, off, none⟩) ns.length cap] 24))) := Below.refl _ _
  have HW := hid hW
  have HX : Hid (∀ V : World, Below (W.heap.size + 1) (W.alloc (.cells #[.slice (some ⟨b, off, none⟩) ns.length cap] 24)) V → V.cell? ⟨W.heap.size, 0, none⟩ = some (.slice (some ⟨b, off, none⟩) ns.length cap) ∧ Below w.heap.size w V) := fun V hV => ⟨(hV.cell (p := ⟨W.heap.size, 0, none⟩) (by show W.heap.size < W.heap.size + 1; omega)).trans (by simp), HW.out.trans ((bx_below hV).mono HW.out.size)⟩
  clear hW
  go_enter Tryz.func111, Tryz.ntmps111
  go_wp2_with fail
  refine (HWo.out _ (HX.out _ HB0.out).2).mono ?_
  rintro e v1 ⟨oo, no, co, rfl, hb, hc1⟩
  have HB1 := hid (HB0.out.trans (hb.mono (bx_size HB0.out)))
  have HC1 := hid hc1
  clear hb hc1 HWo HB0
  have HBd := hid (HB1.out.drew)
  have cb0 := (HX.out _ HBd.out).1
  have hC := HC1.out v1.drew ((Below.refl _ _).drew)
  clear HB1 HC1
  go_upto_region 4 with fail
  refine wp_region_held_drew (S := (fun V => V.cell? ⟨W.heap.size, 0, none⟩ = some (.slice (some ⟨b, off, none⟩) ns.length cap))) (by kernel_rfl) (cb0) (fun hHeld => ?_)
  refine wpAnyH_one 0 15 (.agg #[.slice (some ⟨b, off, none⟩) ns.length cap]) hHeld rfl rfl (by kernel_rfl) (fun _ _ _ _ _ h => h) (by kernel_rfl) (by kernel_rfl) (by rfl) ?_ ?_
  · intro V hSw; (try dsimp only at hSw); go_simp
  simp only [Act.put, List.setIfInBounds_toArray, List.set_cons_zero, List.set_cons_succ]
  refine wpAnyH_one 1 16 (.slice oo no co) hHeld rfl rfl (by kernel_rfl) (fun _ _ _ _ _ h => h) (by kernel_rfl) (by kernel_rfl) (by rfl) ?_ ?_
  · intro V hSw; (try dsimp only at hSw); go_simp
  simp only [Act.put, List.setIfInBounds_toArray, List.set_cons_zero, List.set_cons_succ]
  refine wpAnyH_ready (rs := [2]) (by kernel_rfl) (by simp) ?_
  refine AllReadyH.cons rfl (fun K hK => ?_) AllReadyH.nil
  go_simp
  go_wp2_with (go_at_call 109; refine hC.mono ?_; rintro e v2 ⟨rfl, hb⟩; have HB2 := hid (HBd.out.trans (hb.mono (bx_size HBd.out))); have cb1 := (HX.out v2 HB2.out).1; clear hb hC HBd)
  refine hK.out _ _ (cb1) (fun hHeld => ?_)
  clear hK K
  refine wpAnyH_one 3 18 (.bool false) hHeld rfl rfl (by kernel_rfl) (fun _ _ _ _ _ h => h) (by kernel_rfl) (by kernel_rfl) (by rfl) ?_ ?_
  · intro V hSw; (try dsimp only at hSw); go_simp
  simp only [Act.put, List.setIfInBounds_toArray, List.set_cons_zero, List.set_cons_succ]
  refine wpAnyH_one 4 19 (.bool false) hHeld rfl rfl (by kernel_rfl) (fun _ _ _ _ _ h => h) (by kernel_rfl) (by kernel_rfl) (by rfl) ?_ ?_
  · intro V hSw; (try dsimp only at hSw); go_simp
  simp only [Act.put, List.setIfInBounds_toArray, List.set_cons_zero, List.set_cons_succ]
  refine wpAnyH_one 5 20 (.agg #[.slice (some ⟨b, off, none⟩) ns.length cap]) hHeld rfl rfl (by kernel_rfl) (fun _ _ _ _ _ h => h) (by kernel_rfl) (by kernel_rfl) (by rfl) ?_ ?_
  · intro V hSw; (try dsimp only at hSw); go_simp
  simp only [Act.put, List.setIfInBounds_toArray, List.set_cons_zero, List.set_cons_succ]
  refine wpAnyH_one 6 21 (.slice o n cp) hHeld rfl rfl (by kernel_rfl) (fun _ _ _ _ _ h => h) (by kernel_rfl) (by kernel_rfl) (by rfl) ?_ ?_
  · intro V hSw; (try dsimp only at hSw); go_simp
  simp only [Act.put, List.setIfInBounds_toArray, List.set_cons_zero, List.set_cons_succ]
  refine wpAnyH_one 7 22 (.int .i64 c) hHeld rfl rfl (by kernel_rfl) (fun _ _ _ _ _ h => h) (by kernel_rfl) (by kernel_rfl) (by rfl) ?_ ?_
  · intro V hSw; (try dsimp only at hSw); go_simp
  simp only [Act.put, List.setIfInBounds_toArray, List.set_cons_zero, List.set_cons_succ]
  refine wpAnyH_ready (rs := [8]) (by kernel_rfl) (by simp) ?_
  refine AllReadyH.cons rfl (fun K hK => ?_) AllReadyH.nil
  go_simp
  go_wp2_with (go_at_call 138; refine (HCu.out v2 (HX.out v2 HB2.out).2).mono ?_; rintro e v3 ⟨ob, nb, cb, rfl, e3, hc2⟩; have e3 := e3.symm; subst e3; have hC2 := hc2 v2 (HX.out v2 HB2.out).2; clear hc2 HCu)
  refine hK.out _ _ (cb1) (fun hHeld => ?_)
  clear hK K
  refine wpAnyH_ready (rs := [9]) (by kernel_rfl) (by simp) ?_
  refine AllReadyH.cons rfl (fun K hK => ?_) AllReadyH.nil
  go_simp
  go_wp2_with (go_at_call 109; refine hC2.mono ?_; rintro e v4 ⟨rfl, hb⟩; have HB4 := hid (HB2.out.trans (hb.mono (bx_size HB2.out))); have cb2 := (HX.out v4 HB4.out).1; clear hb hC2)
  refine hK.out _ _ (cb2) (fun hHeld => ?_)
  clear hK K
  refine wpAnyH_one 10 25 (.bool false) hHeld rfl rfl (by kernel_rfl) (fun _ _ _ _ _ h => h) (by kernel_rfl) (by kernel_rfl) (by rfl) ?_ ?_
  · intro V hSw; (try dsimp only at hSw); go_simp
  simp only [Act.put, List.setIfInBounds_toArray, List.set_cons_zero, List.set_cons_succ]
  refine wpAnyH_one 11 26 (.bool false) hHeld rfl rfl (by kernel_rfl) (fun _ _ _ _ _ h => h) (by kernel_rfl) (by kernel_rfl) (by rfl) ?_ ?_
  · intro V hSw; (try dsimp only at hSw); go_simp
  simp only [Act.put, List.setIfInBounds_toArray, List.set_cons_zero, List.set_cons_succ]
  refine wpAnyH_done (by kernel_rfl) ?_ _
  go_wp2
  go_ret
  exact ⟨rfl, bx_below HB4.out⟩
set_option maxRecDepth 100000 in
set_option maxHeartbeats 4000000 in
theorem rdoct_rT (b off cap n cp : Nat) (o : Option Addr) (c : Int) (ns : List NodeD) (w W : World) (hW : Below w.heap.size w W) (N1 : Int) (h1 : 0 < N1)
    (HWo : Hid (∀ V0 : World, Below w.heap.size w V0 → Calls Tryz.prog 137 #[.slice o n cp, .int .i64 c] V0 fun e w' => ∃ oo no co, e = .returned (.slice oo no co) ∧ Below V0.heap.size V0 w' ∧ ∀ V : World, Below w'.heap.size w' V → Calls Tryz.prog 109 #[.agg #[.slice (some ⟨b, off, none⟩) ns.length cap], .slice oo no co, .int .u8 10] V fun e w'' => e = .returned (.int .i64 N1) ∧ Below V.heap.size V w'')) :
    Calls Tryz.prog 112 #[.agg #[.slice (some ⟨b, off, none⟩) ns.length cap], .slice o n cp, .int .i64 c, .bool true] W fun e w' => e = .returned (.bool false) ∧ Below W.heap.size W w' := by
  have HB0 : Hid (Below (W.heap.size + 1) (W.alloc (.cells #[.slice (some ⟨b, off, none⟩) ns.length cap] 24)) (W.alloc (.cells #[.slice (some ⟨b, off, none⟩) ns.length cap] 24))) := Below.refl _ _
  have HW := hid hW
  have HX : Hid (∀ V : World, Below (W.heap.size + 1) (W.alloc (.cells #[.slice (some ⟨b, off, none⟩) ns.length cap] 24)) V → V.cell? ⟨W.heap.size, 0, none⟩ = some (.slice (some ⟨b, off, none⟩) ns.length cap) ∧ Below w.heap.size w V) := fun V hV => ⟨(hV.cell (p := ⟨W.heap.size, 0, none⟩) (by show W.heap.size < W.heap.size + 1; omega)).trans (by simp), HW.out.trans ((bx_below hV).mono HW.out.size)⟩
  clear hW
  have z1 : (N1 == 0) = false := beq_eq_false_iff_ne.2 (by omega)
  go_enter Tryz.func112, Tryz.ntmps112
  go_wp2_with fail
  refine (HWo.out _ (HX.out _ HB0.out).2).mono ?_
  rintro e v1 ⟨oo, no, co, rfl, hb, hc1⟩
  have HB1 := hid (HB0.out.trans (hb.mono (bx_size HB0.out)))
  have HC1 := hid hc1
  clear hb hc1 HWo HB0
  have HBd := hid (HB1.out.drew)
  have cb0 := (HX.out _ HBd.out).1
  have hC := HC1.out v1.drew ((Below.refl _ _).drew)
  clear HB1 HC1
  go_upto_region 4 with fail
  refine wp_region_held_drew (S := (fun V => V.cell? ⟨W.heap.size, 0, none⟩ = some (.slice (some ⟨b, off, none⟩) ns.length cap))) (by kernel_rfl) (cb0) (fun hHeld => ?_)
  refine wpAnyH_one 0 15 (.agg #[.slice (some ⟨b, off, none⟩) ns.length cap]) hHeld rfl rfl (by kernel_rfl) (fun _ _ _ _ _ h => h) (by kernel_rfl) (by kernel_rfl) (by rfl) ?_ ?_
  · intro V hSw; (try dsimp only at hSw); go_simp
  simp only [Act.put, List.setIfInBounds_toArray, List.set_cons_zero, List.set_cons_succ]
  refine wpAnyH_one 1 16 (.slice oo no co) hHeld rfl rfl (by kernel_rfl) (fun _ _ _ _ _ h => h) (by kernel_rfl) (by kernel_rfl) (by rfl) ?_ ?_
  · intro V hSw; (try dsimp only at hSw); go_simp
  simp only [Act.put, List.setIfInBounds_toArray, List.set_cons_zero, List.set_cons_succ]
  refine wpAnyH_ready (rs := [2]) (by kernel_rfl) (by simp) ?_
  refine AllReadyH.cons rfl (fun K hK => ?_) AllReadyH.nil
  go_simp
  go_wp2_with (go_at_call 109; refine hC.mono ?_; rintro e v2 ⟨rfl, hb⟩; have HB2 := hid (HBd.out.trans (hb.mono (bx_size HBd.out))); have cb1 := (HX.out v2 HB2.out).1; clear hb hC HBd)
  refine hK.out _ _ (cb1) (fun hHeld => ?_)
  clear hK K
  refine wpAnyH_one 3 18 (.bool false) hHeld rfl rfl (by kernel_rfl) (fun _ _ _ _ _ h => h) (by kernel_rfl) (by kernel_rfl) (by rfl) ?_ ?_
  · intro V hSw; (try dsimp only at hSw); go_simp
  simp only [Act.put, List.setIfInBounds_toArray, List.set_cons_zero, List.set_cons_succ]
  refine wpAnyH_one 4 19 (.bool false) hHeld rfl rfl (by kernel_rfl) (fun _ _ _ _ _ h => h) (by kernel_rfl) (by kernel_rfl) (by rfl) ?_ ?_
  · intro V hSw; (try dsimp only at hSw); go_simp
  simp only [Act.put, List.setIfInBounds_toArray, List.set_cons_zero, List.set_cons_succ]
  refine wpAnyH_skips [(5, 20), (6, 21), (7, 22), (8, 23), (9, 24), (10, 25)] 2 hHeld (by kernel_rfl) (fun _ _ _ _ _ h => h) (by kernel_rfl) (by kernel_rfl) ?_
  simp only [actAfter, listedAfter, Act.put, List.setIfInBounds_toArray, List.set_cons_zero, List.set_cons_succ]
  refine wpAnyH_one 11 26 (.bool false) hHeld rfl rfl (by kernel_rfl) (fun _ _ _ _ _ h => h) (by kernel_rfl) (by kernel_rfl) (by rfl) ?_ ?_
  · intro V hSw; (try dsimp only at hSw); go_simp
  simp only [Act.put, List.setIfInBounds_toArray, List.set_cons_zero, List.set_cons_succ]
  refine wpAnyH_one 12 8 (.bool false) hHeld rfl rfl (by kernel_rfl) (fun _ _ _ _ _ h => h) (by kernel_rfl) (by kernel_rfl) (by rfl) ?_ ?_
  · intro V hSw; (try dsimp only at hSw); go_simp
  simp only [Act.put, List.setIfInBounds_toArray, List.set_cons_zero, List.set_cons_succ]
  refine wpAnyH_done (by kernel_rfl) ?_ _
  go_wp2
  go_ret
  exact ⟨rfl, bx_below HB2.out⟩
set_option maxRecDepth 100000 in
set_option maxHeartbeats 4000000 in
theorem rdoct_rF (b off cap n cp : Nat) (o : Option Addr) (c : Int) (ns : List NodeD) (w W : World) (hW : Below w.heap.size w W) (N2 : Int) (h2 : 0 < N2)
    (HWo : Hid (∀ V0 : World, Below w.heap.size w V0 → Calls Tryz.prog 137 #[.slice o n cp, .int .i64 c] V0 fun e w' => ∃ oo no co, e = .returned (.slice oo no co) ∧ Below V0.heap.size V0 w' ∧ ∀ V : World, Below w'.heap.size w' V → Calls Tryz.prog 109 #[.agg #[.slice (some ⟨b, off, none⟩) ns.length cap], .slice oo no co, .int .u8 10] V fun e w'' => e = .returned (.int .i64 0) ∧ Below V.heap.size V w''))
    (HCu : Hid (∀ V0 : World, Below w.heap.size w V0 → Calls Tryz.prog 139 #[.slice o n cp, .int .i64 c] V0 fun e w' => ∃ oo no co, e = .returned (.slice oo no co) ∧ w' = V0 ∧ ∀ V : World, Below w.heap.size w V → Calls Tryz.prog 109 #[.agg #[.slice (some ⟨b, off, none⟩) ns.length cap], .slice oo no co, .int .u8 1] V fun e w'' => e = .returned (.int .i64 N2) ∧ Below V.heap.size V w'')) :
    Calls Tryz.prog 112 #[.agg #[.slice (some ⟨b, off, none⟩) ns.length cap], .slice o n cp, .int .i64 c, .bool true] W fun e w' => e = .returned (.bool false) ∧ Below W.heap.size W w' := by
  have HB0 : Hid (Below (W.heap.size + 1) (W.alloc (.cells #[.slice (some ⟨b, off, none⟩) ns.length cap] 24)) (W.alloc (.cells #[.slice (some ⟨b, off, none⟩) ns.length cap] 24))) := Below.refl _ _
  have HW := hid hW
  have HX : Hid (∀ V : World, Below (W.heap.size + 1) (W.alloc (.cells #[.slice (some ⟨b, off, none⟩) ns.length cap] 24)) V → V.cell? ⟨W.heap.size, 0, none⟩ = some (.slice (some ⟨b, off, none⟩) ns.length cap) ∧ Below w.heap.size w V) := fun V hV => ⟨(hV.cell (p := ⟨W.heap.size, 0, none⟩) (by show W.heap.size < W.heap.size + 1; omega)).trans (by simp), HW.out.trans ((bx_below hV).mono HW.out.size)⟩
  clear hW
  have z2 : (N2 == 0) = false := beq_eq_false_iff_ne.2 (by omega)
  go_enter Tryz.func112, Tryz.ntmps112
  go_wp2_with fail
  refine (HWo.out _ (HX.out _ HB0.out).2).mono ?_
  rintro e v1 ⟨oo, no, co, rfl, hb, hc1⟩
  have HB1 := hid (HB0.out.trans (hb.mono (bx_size HB0.out)))
  have HC1 := hid hc1
  clear hb hc1 HWo HB0
  have HBd := hid (HB1.out.drew)
  have cb0 := (HX.out _ HBd.out).1
  have hC := HC1.out v1.drew ((Below.refl _ _).drew)
  clear HB1 HC1
  go_upto_region 4 with fail
  refine wp_region_held_drew (S := (fun V => V.cell? ⟨W.heap.size, 0, none⟩ = some (.slice (some ⟨b, off, none⟩) ns.length cap))) (by kernel_rfl) (cb0) (fun hHeld => ?_)
  refine wpAnyH_one 0 15 (.agg #[.slice (some ⟨b, off, none⟩) ns.length cap]) hHeld rfl rfl (by kernel_rfl) (fun _ _ _ _ _ h => h) (by kernel_rfl) (by kernel_rfl) (by rfl) ?_ ?_
  · intro V hSw; (try dsimp only at hSw); go_simp
  simp only [Act.put, List.setIfInBounds_toArray, List.set_cons_zero, List.set_cons_succ]
  refine wpAnyH_one 1 16 (.slice oo no co) hHeld rfl rfl (by kernel_rfl) (fun _ _ _ _ _ h => h) (by kernel_rfl) (by kernel_rfl) (by rfl) ?_ ?_
  · intro V hSw; (try dsimp only at hSw); go_simp
  simp only [Act.put, List.setIfInBounds_toArray, List.set_cons_zero, List.set_cons_succ]
  refine wpAnyH_ready (rs := [2]) (by kernel_rfl) (by simp) ?_
  refine AllReadyH.cons rfl (fun K hK => ?_) AllReadyH.nil
  go_simp
  go_wp2_with (go_at_call 109; refine hC.mono ?_; rintro e v2 ⟨rfl, hb⟩; have HB2 := hid (HBd.out.trans (hb.mono (bx_size HBd.out))); have cb1 := (HX.out v2 HB2.out).1; clear hb hC HBd)
  refine hK.out _ _ (cb1) (fun hHeld => ?_)
  clear hK K
  refine wpAnyH_one 3 18 (.bool true) hHeld rfl rfl (by kernel_rfl) (fun _ _ _ _ _ h => h) (by kernel_rfl) (by kernel_rfl) (by rfl) ?_ ?_
  · intro V hSw; (try dsimp only at hSw); go_simp
  simp only [Act.put, List.setIfInBounds_toArray, List.set_cons_zero, List.set_cons_succ]
  refine wpAnyH_one 4 19 (.bool true) hHeld rfl rfl (by kernel_rfl) (fun _ _ _ _ _ h => h) (by kernel_rfl) (by kernel_rfl) (by rfl) ?_ ?_
  · intro V hSw; (try dsimp only at hSw); go_simp
  simp only [Act.put, List.setIfInBounds_toArray, List.set_cons_zero, List.set_cons_succ]
  refine wpAnyH_one 5 20 (.agg #[.slice (some ⟨b, off, none⟩) ns.length cap]) hHeld rfl rfl (by kernel_rfl) (fun _ _ _ _ _ h => h) (by kernel_rfl) (by kernel_rfl) (by rfl) ?_ ?_
  · intro V hSw; (try dsimp only at hSw); go_simp
  simp only [Act.put, List.setIfInBounds_toArray, List.set_cons_zero, List.set_cons_succ]
  refine wpAnyH_one 6 21 (.slice o n cp) hHeld rfl rfl (by kernel_rfl) (fun _ _ _ _ _ h => h) (by kernel_rfl) (by kernel_rfl) (by rfl) ?_ ?_
  · intro V hSw; (try dsimp only at hSw); go_simp
  simp only [Act.put, List.setIfInBounds_toArray, List.set_cons_zero, List.set_cons_succ]
  refine wpAnyH_one 7 22 (.int .i64 c) hHeld rfl rfl (by kernel_rfl) (fun _ _ _ _ _ h => h) (by kernel_rfl) (by kernel_rfl) (by rfl) ?_ ?_
  · intro V hSw; (try dsimp only at hSw); go_simp
  simp only [Act.put, List.setIfInBounds_toArray, List.set_cons_zero, List.set_cons_succ]
  refine wpAnyH_ready (rs := [8]) (by kernel_rfl) (by simp) ?_
  refine AllReadyH.cons rfl (fun K hK => ?_) AllReadyH.nil
  go_simp
  go_wp2_with (go_at_call 139; refine (HCu.out v2 (HX.out v2 HB2.out).2).mono ?_; rintro e v3 ⟨ob, nb, cb, rfl, e3, hc2⟩; have e3 := e3.symm; subst e3; have hC2 := hc2 v2 (HX.out v2 HB2.out).2; clear hc2 HCu)
  refine hK.out _ _ (cb1) (fun hHeld => ?_)
  clear hK K
  refine wpAnyH_ready (rs := [9]) (by kernel_rfl) (by simp) ?_
  refine AllReadyH.cons rfl (fun K hK => ?_) AllReadyH.nil
  go_simp
  go_wp2_with (go_at_call 109; refine hC2.mono ?_; rintro e v4 ⟨rfl, hb⟩; have HB4 := hid (HB2.out.trans (hb.mono (bx_size HB2.out))); have cb2 := (HX.out v4 HB4.out).1; clear hb hC2)
  refine hK.out _ _ (cb2) (fun hHeld => ?_)
  clear hK K
  refine wpAnyH_one 10 25 (.bool false) hHeld rfl rfl (by kernel_rfl) (fun _ _ _ _ _ h => h) (by kernel_rfl) (by kernel_rfl) (by rfl) ?_ ?_
  · intro V hSw; (try dsimp only at hSw); go_simp
  simp only [Act.put, List.setIfInBounds_toArray, List.set_cons_zero, List.set_cons_succ]
  refine wpAnyH_one 11 26 (.bool false) hHeld rfl rfl (by kernel_rfl) (fun _ _ _ _ _ h => h) (by kernel_rfl) (by kernel_rfl) (by rfl) ?_ ?_
  · intro V hSw; (try dsimp only at hSw); go_simp
  simp only [Act.put, List.setIfInBounds_toArray, List.set_cons_zero, List.set_cons_succ]
  refine wpAnyH_one 12 8 (.bool false) hHeld rfl rfl (by kernel_rfl) (fun _ _ _ _ _ h => h) (by kernel_rfl) (by kernel_rfl) (by rfl) ?_ ?_
  · intro V hSw; (try dsimp only at hSw); go_simp
  simp only [Act.put, List.setIfInBounds_toArray, List.set_cons_zero, List.set_cons_succ]
  refine wpAnyH_done (by kernel_rfl) ?_ _
  go_wp2
  go_ret
  exact ⟨rfl, bx_below HB4.out⟩
set_option maxRecDepth 100000 in
set_option maxHeartbeats 4000000 in
theorem rdoct_rG (b off cap n cp : Nat) (o : Option Addr) (c : Int) (ns : List NodeD) (w W : World) (hW : Below w.heap.size w W)
    (HWo : Hid (∀ V0 : World, Below w.heap.size w V0 → Calls Tryz.prog 137 #[.slice o n cp, .int .i64 c] V0 fun e w' => ∃ oo no co, e = .returned (.slice oo no co) ∧ Below V0.heap.size V0 w' ∧ ∀ V : World, Below w'.heap.size w' V → Calls Tryz.prog 109 #[.agg #[.slice (some ⟨b, off, none⟩) ns.length cap], .slice oo no co, .int .u8 10] V fun e w'' => e = .returned (.int .i64 0) ∧ Below V.heap.size V w''))
    (HCu : Hid (∀ V0 : World, Below w.heap.size w V0 → Calls Tryz.prog 139 #[.slice o n cp, .int .i64 c] V0 fun e w' => ∃ oo no co, e = .returned (.slice oo no co) ∧ w' = V0 ∧ ∀ V : World, Below w.heap.size w V → Calls Tryz.prog 109 #[.agg #[.slice (some ⟨b, off, none⟩) ns.length cap], .slice oo no co, .int .u8 1] V fun e w'' => e = .returned (.int .i64 0) ∧ Below V.heap.size V w'')) :
    Calls Tryz.prog 112 #[.agg #[.slice (some ⟨b, off, none⟩) ns.length cap], .slice o n cp, .int .i64 c, .bool true] W fun e w' => e = .returned (.bool true) ∧ Below W.heap.size W w' := by
  have HB0 : Hid (Below (W.heap.size + 1) (W.alloc (.cells #[.slice (some ⟨b, off, none⟩) ns.length cap] 24)) (W.alloc (.cells #[.slice (some ⟨b, off, none⟩) ns.length cap] 24))) := Below.refl _ _
  have HW := hid hW
  have HX : Hid (∀ V : World, Below (W.heap.size + 1) (W.alloc (.cells #[.slice (some ⟨b, off, none⟩) ns.length cap] 24)) V → V.cell? ⟨W.heap.size, 0, none⟩ = some (.slice (some ⟨b, off, none⟩) ns.length cap) ∧ Below w.heap.size w V) := fun V hV => ⟨(hV.cell (p := ⟨W.heap.size, 0, none⟩) (by show W.heap.size < W.heap.size + 1; omega)).trans (by simp), HW.out.trans ((bx_below hV).mono HW.out.size)⟩
  clear hW
  go_enter Tryz.func112, Tryz.ntmps112
  go_wp2_with fail
  refine (HWo.out _ (HX.out _ HB0.out).2).mono ?_
  rintro e v1 ⟨oo, no, co, rfl, hb, hc1⟩
  have HB1 := hid (HB0.out.trans (hb.mono (bx_size HB0.out)))
  have HC1 := hid hc1
  clear hb hc1 HWo HB0
  have HBd := hid (HB1.out.drew)
  have cb0 := (HX.out _ HBd.out).1
  have hC := HC1.out v1.drew ((Below.refl _ _).drew)
  clear HB1 HC1
  go_upto_region 4 with fail
  refine wp_region_held_drew (S := (fun V => V.cell? ⟨W.heap.size, 0, none⟩ = some (.slice (some ⟨b, off, none⟩) ns.length cap))) (by kernel_rfl) (cb0) (fun hHeld => ?_)
  refine wpAnyH_one 0 15 (.agg #[.slice (some ⟨b, off, none⟩) ns.length cap]) hHeld rfl rfl (by kernel_rfl) (fun _ _ _ _ _ h => h) (by kernel_rfl) (by kernel_rfl) (by rfl) ?_ ?_
  · intro V hSw; (try dsimp only at hSw); go_simp
  simp only [Act.put, List.setIfInBounds_toArray, List.set_cons_zero, List.set_cons_succ]
  refine wpAnyH_one 1 16 (.slice oo no co) hHeld rfl rfl (by kernel_rfl) (fun _ _ _ _ _ h => h) (by kernel_rfl) (by kernel_rfl) (by rfl) ?_ ?_
  · intro V hSw; (try dsimp only at hSw); go_simp
  simp only [Act.put, List.setIfInBounds_toArray, List.set_cons_zero, List.set_cons_succ]
  refine wpAnyH_ready (rs := [2]) (by kernel_rfl) (by simp) ?_
  refine AllReadyH.cons rfl (fun K hK => ?_) AllReadyH.nil
  go_simp
  go_wp2_with (go_at_call 109; refine hC.mono ?_; rintro e v2 ⟨rfl, hb⟩; have HB2 := hid (HBd.out.trans (hb.mono (bx_size HBd.out))); have cb1 := (HX.out v2 HB2.out).1; clear hb hC HBd)
  refine hK.out _ _ (cb1) (fun hHeld => ?_)
  clear hK K
  refine wpAnyH_one 3 18 (.bool true) hHeld rfl rfl (by kernel_rfl) (fun _ _ _ _ _ h => h) (by kernel_rfl) (by kernel_rfl) (by rfl) ?_ ?_
  · intro V hSw; (try dsimp only at hSw); go_simp
  simp only [Act.put, List.setIfInBounds_toArray, List.set_cons_zero, List.set_cons_succ]
  refine wpAnyH_one 4 19 (.bool true) hHeld rfl rfl (by kernel_rfl) (fun _ _ _ _ _ h => h) (by kernel_rfl) (by kernel_rfl) (by rfl) ?_ ?_
  · intro V hSw; (try dsimp only at hSw); go_simp
  simp only [Act.put, List.setIfInBounds_toArray, List.set_cons_zero, List.set_cons_succ]
  refine wpAnyH_one 5 20 (.agg #[.slice (some ⟨b, off, none⟩) ns.length cap]) hHeld rfl rfl (by kernel_rfl) (fun _ _ _ _ _ h => h) (by kernel_rfl) (by kernel_rfl) (by rfl) ?_ ?_
  · intro V hSw; (try dsimp only at hSw); go_simp
  simp only [Act.put, List.setIfInBounds_toArray, List.set_cons_zero, List.set_cons_succ]
  refine wpAnyH_one 6 21 (.slice o n cp) hHeld rfl rfl (by kernel_rfl) (fun _ _ _ _ _ h => h) (by kernel_rfl) (by kernel_rfl) (by rfl) ?_ ?_
  · intro V hSw; (try dsimp only at hSw); go_simp
  simp only [Act.put, List.setIfInBounds_toArray, List.set_cons_zero, List.set_cons_succ]
  refine wpAnyH_one 7 22 (.int .i64 c) hHeld rfl rfl (by kernel_rfl) (fun _ _ _ _ _ h => h) (by kernel_rfl) (by kernel_rfl) (by rfl) ?_ ?_
  · intro V hSw; (try dsimp only at hSw); go_simp
  simp only [Act.put, List.setIfInBounds_toArray, List.set_cons_zero, List.set_cons_succ]
  refine wpAnyH_ready (rs := [8]) (by kernel_rfl) (by simp) ?_
  refine AllReadyH.cons rfl (fun K hK => ?_) AllReadyH.nil
  go_simp
  go_wp2_with (go_at_call 139; refine (HCu.out v2 (HX.out v2 HB2.out).2).mono ?_; rintro e v3 ⟨ob, nb, cb, rfl, e3, hc2⟩; have e3 := e3.symm; subst e3; have hC2 := hc2 v2 (HX.out v2 HB2.out).2; clear hc2 HCu)
  refine hK.out _ _ (cb1) (fun hHeld => ?_)
  clear hK K
  refine wpAnyH_ready (rs := [9]) (by kernel_rfl) (by simp) ?_
  refine AllReadyH.cons rfl (fun K hK => ?_) AllReadyH.nil
  go_simp
  go_wp2_with (go_at_call 109; refine hC2.mono ?_; rintro e v4 ⟨rfl, hb⟩; have HB4 := hid (HB2.out.trans (hb.mono (bx_size HB2.out))); have cb2 := (HX.out v4 HB4.out).1; clear hb hC2)
  refine hK.out _ _ (cb2) (fun hHeld => ?_)
  clear hK K
  refine wpAnyH_one 10 25 (.bool true) hHeld rfl rfl (by kernel_rfl) (fun _ _ _ _ _ h => h) (by kernel_rfl) (by kernel_rfl) (by rfl) ?_ ?_
  · intro V hSw; (try dsimp only at hSw); go_simp
  simp only [Act.put, List.setIfInBounds_toArray, List.set_cons_zero, List.set_cons_succ]
  refine wpAnyH_one 11 26 (.bool true) hHeld rfl rfl (by kernel_rfl) (fun _ _ _ _ _ h => h) (by kernel_rfl) (by kernel_rfl) (by rfl) ?_ ?_
  · intro V hSw; (try dsimp only at hSw); go_simp
  simp only [Act.put, List.setIfInBounds_toArray, List.set_cons_zero, List.set_cons_succ]
  refine wpAnyH_one 12 8 (.bool true) hHeld rfl rfl (by kernel_rfl) (fun _ _ _ _ _ h => h) (by kernel_rfl) (by kernel_rfl) (by rfl) ?_ ?_
  · intro V hSw; (try dsimp only at hSw); go_simp
  simp only [Act.put, List.setIfInBounds_toArray, List.set_cons_zero, List.set_cons_succ]
  refine wpAnyH_done (by kernel_rfl) ?_ _
  go_wp2
  go_ret
  exact ⟨rfl, bx_below HB4.out⟩
end Go.Proofs.YtfaeabjgplahgaaGreat

namespace Go.Proofs.YtfaeabjgplahgaaGreat
open Go.RowKit Go.Lib Go.Shelf

section
variable {b off cap : Nat} {v : Value} {ks : List Int} {c : Int} {ns : List NodeD} {w : World}
theorem rcut_counts (hF : FAt w b off cap ns) (k : Nat) {l : List Int} (hl : l.length ≤ 1099511627776) (ht : ∀ y ∈ l, thereB ns.length y = true) {v1 : Value} (r : RdI w v1 l) :
    ∃ oo no co, v1 = .slice oo no co ∧ ∀ V : World, Below w.heap.size w V → Calls Tryz.prog 109 #[.agg #[.slice (some ⟨b, off, none⟩) ns.length cap], .slice oo no co, .int .u8 (k : Int)] V fun e w'' => e = .returned (.int .i64 (l.countP (isK ns k) : Int)) ∧ Below V.heap.size V w'' := by
  obtain ⟨o, cp, rfl, _, _⟩ := id r
  exact ⟨o, _, cp, rfl, fun V hV => rcount_any b off cap k _ l ns w V hF hV (r.later hV) hl ht⟩
theorem rwithout_counts (hF : FAt w b off cap ns) (k : Nat) (hv : RdI w v ks) (hl : ks.length ≤ 1099511627776) (ht : ∀ y ∈ ks, thereB ns.length y = true) (V0 : World) (hV0 : Below w.heap.size w V0) :
    Calls Tryz.prog 137 #[v, .int .i64 c] V0 fun e w' => ∃ oo no co, e = .returned (.slice oo no co) ∧ Below V0.heap.size V0 w' ∧ ∀ V : World, Below w'.heap.size w' V → Calls Tryz.prog 109 #[.agg #[.slice (some ⟨b, off, none⟩) ns.length cap], .slice oo no co, .int .u8 (k : Int)] V fun e w'' => e = .returned (.int .i64 ((ks.filter (fun y => !(y == c))).countP (isK ns k) : Int)) ∧ Below V.heap.size V w'' := by
  refine (rwithout_any v ks c V0 (hv.later hV0) hl).mono ?_
  rintro e w' ⟨v1, rfl, r, hb⟩
  have hB := hV0.trans (hb.mono hV0.size)
  obtain ⟨o, cp, rfl, _, _⟩ := id r
  exact ⟨o, _, cp, rfl, hb, fun V hV => rcount_any b off cap k _ _ ns w V hF (hB.trans (hV.mono hB.size)) (r.later hV) (Nat.le_trans (List.length_filter_le _ _) hl) (fun y hy => ht y (List.mem_filter.1 hy).1)⟩
theorem rbehind_counts (hF : FAt w b off cap ns) (k : Nat) (hv : RdI w v ks) (hl : ks.length ≤ 1099511627776) (ht : ∀ y ∈ ks, thereB ns.length y = true) (hc : c = 0 ∨ (c ≠ 0 ∧ c ∈ ks)) (V0 : World) (hV0 : Below w.heap.size w V0) :
    Calls Tryz.prog 138 #[v, .int .i64 c] V0 fun e w' => ∃ oo no co, e = .returned (.slice oo no co) ∧ w' = V0 ∧ ∀ V : World, Below w.heap.size w V → Calls Tryz.prog 109 #[.agg #[.slice (some ⟨b, off, none⟩) ns.length cap], .slice oo no co, .int .u8 (k : Int)] V fun e w'' => e = .returned (.int .i64 ((behindR ks c).countP (isK ns k) : Int)) ∧ Below V.heap.size V w'' := by
  refine (rbehind_any v ks c w V0 hV0 hv hl hc).mono ?_
  rintro e w' ⟨v1, rfl, r, rfl⟩
  have hsub : (∀ y ∈ behindR ks c, y ∈ ks) ∧ (behindR ks c).length ≤ ks.length := by
    unfold behindR
    split
    · exact ⟨fun y hy => absurd hy List.not_mem_nil, Nat.zero_le _⟩
    · exact ⟨fun y hy => List.mem_of_mem_drop hy, by rw [List.length_drop]; omega⟩
  obtain ⟨oo, no, co, rfl, h⟩ := rcut_counts hF k (Nat.le_trans hsub.2 hl) (fun y hy => ht y (hsub.1 y hy)) r
  exact ⟨oo, no, co, rfl, rfl, h⟩
theorem rahead_counts (hF : FAt w b off cap ns) (k : Nat) (hv : RdI w v ks) (hl : ks.length ≤ 1099511627776) (ht : ∀ y ∈ ks, thereB ns.length y = true) (hc : c = 0 ∨ (c ≠ 0 ∧ c ∈ ks)) (V0 : World) (hV0 : Below w.heap.size w V0) :
    Calls Tryz.prog 139 #[v, .int .i64 c] V0 fun e w' => ∃ oo no co, e = .returned (.slice oo no co) ∧ w' = V0 ∧ ∀ V : World, Below w.heap.size w V → Calls Tryz.prog 109 #[.agg #[.slice (some ⟨b, off, none⟩) ns.length cap], .slice oo no co, .int .u8 (k : Int)] V fun e w'' => e = .returned (.int .i64 ((aheadR ks c).countP (isK ns k) : Int)) ∧ Below V.heap.size V w'' := by
  refine (rahead_any v ks c w V0 hV0 hv hl hc).mono ?_
  rintro e w' ⟨v1, rfl, r, rfl⟩
  have hsub : (∀ y ∈ aheadR ks c, y ∈ ks) ∧ (aheadR ks c).length ≤ ks.length := by
    unfold aheadR
    split
    · exact ⟨fun y hy => hy, Nat.le_refl _⟩
    · exact ⟨fun y hy => List.mem_of_mem_take hy, by rw [List.length_take]; omega⟩
  obtain ⟨oo, no, co, rfl, h⟩ := rcut_counts hF k (Nat.le_trans hsub.2 hl) (fun y hy => ht y (hsub.1 y hy)) r
  exact ⟨oo, no, co, rfl, rfl, h⟩

theorem relement_any (rep : Bool) (W : World) (hF : FAt w b off cap ns) (hW : Below w.heap.size w W) (hv : RdI w v ks) (hl : ks.length ≤ 1099511627776) (ht : ∀ y ∈ ks, thereB ns.length y = true) (hc : c = 0 ∨ (c ≠ 0 ∧ c ∈ ks)) :
    Calls Tryz.prog 111 #[.agg #[.slice (some ⟨b, off, none⟩) ns.length cap], v, .int .i64 c, .bool rep] W fun e w' => e = .returned (.bool (elementR ns ks c rep)) ∧ Below W.heap.size W w' := by
  have HC1 : ∀ V : World, Below w.heap.size w V → _ := fun V hV => rcount_any b off cap 1 v ks ns w V hF hV (hv.later hV) hl ht
  have HWo : ∀ V0 : World, Below w.heap.size w V0 → _ := fun V0 hV0 => rwithout_counts (c := c) hF 1 hv hl ht V0 hV0
  have HCu : ∀ V0 : World, Below w.heap.size w V0 → _ := fun V0 hV0 => rbehind_counts hF 10 hv hl ht hc V0 hV0
  obtain ⟨o, cp, rfl, _, _⟩ := id hv
  unfold elementR othersD
  cases rep with
  | false =>
    rw [if_neg Bool.false_ne_true]
    generalize ks.countP (isK ns 1) = N1 at *
    generalize (behindR ks c).countP (isK ns 10) = N2 at *
    by_cases h1 : 0 < N1
    · rw [decide_eq_true h1, Bool.true_or, if_pos rfl]
      exact relem_iT b off cap _ cp o c ns w W hW N1 (by omega) HC1
    · obtain rfl : N1 = 0 := by omega
      rw [decide_eq_false h1, Bool.false_or]
      by_cases h2 : 0 < N2
      · rw [decide_eq_true h2, if_pos rfl]
        exact relem_iF b off cap _ cp o c ns w W hW N2 (by omega) HC1 HCu
      · obtain rfl : N2 = 0 := by omega
        rw [decide_eq_false h2, if_neg Bool.false_ne_true, Bool.false_or]
        rcases hc with rfl | ⟨h0, hm⟩
        · exact relem_iGz b off cap _ cp o 0 ns w W hW HC1 HCu rfl
        · have e0 : (c == 0) = false := beq_eq_false_iff_ne.2 h0
          rw [e0, Bool.false_or]
          exact relem_iGk b off cap _ cp o c ns w W hW HC1 HCu e0 (kindD ns c) _ (beq_cast _ 10) (fun V hV => rkind_any b off cap c ns w V hF hV (ht c hm))
  | true =>
    rw [if_pos rfl]
    generalize (ks.filter (fun y => !(y == c))).countP (isK ns 1) = N1 at *
    generalize (behindR ks c).countP (isK ns 10) = N2 at *
    by_cases h1 : 0 < N1
    · rw [decide_eq_true h1, Bool.true_or, if_pos rfl]
      exact relem_rT b off cap _ cp o c ns w W hW N1 (by omega) HWo
    · obtain rfl : N1 = 0 := by omega
      rw [decide_eq_false h1, Bool.false_or]
      by_cases h2 : 0 < N2
      · rw [decide_eq_true h2, if_pos rfl]
        exact relem_rF b off cap _ cp o c ns w W hW N2 (by omega) HWo HCu
      · obtain rfl : N2 = 0 := by omega
        rw [decide_eq_false h2, if_neg Bool.false_ne_true, Bool.true_or, Bool.true_or]
        exact relem_rG b off cap _ cp o c ns w W hW HWo HCu
theorem rdoctype_any (rep : Bool) (W : World) (hF : FAt w b off cap ns) (hW : Below w.heap.size w W) (hv : RdI w v ks) (hl : ks.length ≤ 1099511627776) (ht : ∀ y ∈ ks, thereB ns.length y = true) (hc : c = 0 ∨ (c ≠ 0 ∧ c ∈ ks)) :
    Calls Tryz.prog 112 #[.agg #[.slice (some ⟨b, off, none⟩) ns.length cap], v, .int .i64 c, .bool rep] W fun e w' => e = .returned (.bool (doctypeR ns ks c rep)) ∧ Below W.heap.size W w' := by
  have HC1 : ∀ V : World, Below w.heap.size w V → _ := fun V hV => rcount_any b off cap 10 v ks ns w V hF hV (hv.later hV) hl ht
  have HWo : ∀ V0 : World, Below w.heap.size w V0 → _ := fun V0 hV0 => rwithout_counts (c := c) hF 10 hv hl ht V0 hV0
  have HCu : ∀ V0 : World, Below w.heap.size w V0 → _ := fun V0 hV0 => rahead_counts hF 1 hv hl ht hc V0 hV0
  obtain ⟨o, cp, rfl, _, _⟩ := id hv
  unfold doctypeR othersD
  cases rep with
  | false =>
    rw [if_neg Bool.false_ne_true]
    generalize ks.countP (isK ns 10) = N1 at *
    generalize (aheadR ks c).countP (isK ns 1) = N2 at *
    by_cases h1 : 0 < N1
    · rw [beq_eq_false_iff_ne.2 (by omega : N1 ≠ 0), Bool.false_and]
      exact rdoct_iT b off cap _ cp o c ns w W hW N1 (by omega) HC1
    · obtain rfl : N1 = 0 := by omega
      rw [show ((0 : Nat) == 0) = true from rfl, Bool.true_and]
      by_cases h2 : 0 < N2
      · rw [beq_eq_false_iff_ne.2 (by omega : N2 ≠ 0)]
        exact rdoct_iF b off cap _ cp o c ns w W hW N2 (by omega) HC1 HCu
      · obtain rfl : N2 = 0 := by omega
        exact rdoct_iG b off cap _ cp o c ns w W hW HC1 HCu
  | true =>
    rw [if_pos rfl]
    generalize (ks.filter (fun y => !(y == c))).countP (isK ns 10) = N1 at *
    generalize (aheadR ks c).countP (isK ns 1) = N2 at *
    by_cases h1 : 0 < N1
    · rw [beq_eq_false_iff_ne.2 (by omega : N1 ≠ 0), Bool.false_and]
      exact rdoct_rT b off cap _ cp o c ns w W hW N1 (by omega) HWo
    · obtain rfl : N1 = 0 := by omega
      rw [show ((0 : Nat) == 0) = true from rfl, Bool.true_and]
      by_cases h2 : 0 < N2
      · rw [beq_eq_false_iff_ne.2 (by omega : N2 ≠ 0)]
        exact rdoct_rF b off cap _ cp o c ns w W hW N2 (by omega) HWo HCu
      · obtain rfl : N2 = 0 := by omega
        exact rdoct_rG b off cap _ cp o c ns w W hW HWo HCu
end
end Go.Proofs.YtfaeabjgplahgaaGreat
