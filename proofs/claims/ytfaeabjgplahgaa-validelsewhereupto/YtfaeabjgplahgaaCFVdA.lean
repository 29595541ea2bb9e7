/- The reference's Inside: a node and what lies in it, shadow trees too. -/
import Derived.Test.YtfaeabjgplahgaaCFR4AFConcat
import Derived.Test.YtfaeabjgplahgaaFRefN
import Derived.Test.YtfaeabjgplahgaaCFVaQFVaD
namespace Go.Proofs.Ytfaeabjgplahgaa
open Go.RowKit Go.Lib Go.Shelf

set_option maxRecDepth 100000 in
set_option maxHeartbeats 4000000 in
theorem refNode_at (b off cap j : Nat) (ns : List NodeD) (w W : World) (hF : FAt w b off cap ns) (hW : Below w.heap.size w W) (hj : j < ns.length) :
    Calls Try.prog 10 #[.agg #[.slice (some ⟨b, off, none⟩) ns.length cap], .int .i64 ((j : Int) + 1)] W fun e w' => ∃ L : Lists, e = .returned (.tuple #[nodeV ns[j] L, .bool true]) ∧ RdN w L.data ns[j].data ∧ RdA w L.attrs ns[j].attrs ∧ RdI w L.kids ns[j].kids ∧ Below W.heap.size W w' := by
  have hle := hF.len
  obtain ⟨L, hc, hd, ha, hk⟩ := hF.at_ j hj
  have hs := hW.size
  have hB : Below w.heap.size w ((W.alloc (.cells #[.slice (some ⟨b, off, none⟩) ns.length cap] 24)).alloc (.cells #[.int .u8 0, .string ⟨#[]⟩, .string ⟨#[]⟩, .string ⟨#[]⟩, .string ⟨#[]⟩, .string ⟨#[]⟩, .slice none 0 0, .slice none 0 0, .int .i64 0, .slice none 0 0, .int .i64 0, .int .i64 0, .int .i64 0, .int .u8 0, .bool false, .bool false] 40)) := (hW.alloc hs _).alloc (by simp; omega) _
  obtain ⟨c0, c1, c2, c3, c4, c5, c6, c7, c8, c9, c10, c11, c12, c13, c14, c15⟩ := hc.later hF.lt hB
  have Hd := hid hd
  have Ha := hid ha
  have Hk := hid hk
  obtain ⟨D, A, K⟩ := L
  obtain ⟨od, cd, e1, _⟩ := hd
  obtain ⟨oa, ca, e2, _⟩ := ha
  obtain ⟨ok, ck, e3, _⟩ := hk
  simp only at e1 e2 e3
  subst e1 e2 e3
  have d1 : decide (((j : Int) + 1) < 1) = false := decide_eq_false (by omega)
  have d2 : decide ((ns.length : Int) < (j : Int) + 1) = false := decide_eq_false (by omega)
  have q1 : (0 : Int) ≤ (j : Int) := by omega
  have q2 : (j : Int) < (ns.length : Int) := by omega
  clear hF hc hB hW hs
  generalize ns[j] = n at *
  go_enter Try.func10, Try.ntmps10
  go_wp2
  have hB2 : ∀ o2 : Obj, Below W.heap.size W ((W.alloc (.cells #[.slice (some ⟨b, off, none⟩) ns.length cap] 24)).alloc o2) := fun o2 => ((Below.refl _ W).alloc (Nat.le_refl _) _).alloc (by simp) _
  exact bodyPost_ret (v := .tuple #[nodeV n ⟨.slice od n.data.length cd, .slice oa n.attrs.length ca, .slice ok n.kids.length ck⟩, .bool true]) (by simp [results, Try.results10, go_sem, nodeV]) rfl ⟨⟨.slice od n.data.length cd, .slice oa n.attrs.length ca, .slice ok n.kids.length ck⟩, rfl, Hd.out, Ha.out, Hk.out, hB2 _⟩

theorem icells {W : World} {bn : Nat} {n : NodeD} {D A K : Value} {t : TypeId} (h : W.heap[bn]? = some (.cells #[.int .u8 (n.kind : Int), .string n.space, .string n.pre, .string n.loc, .string n.pub, .string n.sys, D, A, .int .i64 n.parent, K, .int .i64 n.doc, .int .i64 n.host, .int .i64 n.shadow, .int .u8 (n.mode : Int), .bool n.manual, .bool n.html] t)) : W.cell? ⟨bn, 9, none⟩ = some K ∧ W.cell? ⟨bn, 12, none⟩ = some (.int .i64 n.shadow) := by
  constructor <;> simp [World.cell?, h]
theorem irow_not {W : World} {B : Nat} {e : TypeId} {v : Value} {k : Nat} {xs : List Value} {bn : Nat} {C : Array Value} {t : TypeId} (h : W.ownsRow B e 1 v k xs) (hb : W.heap[bn]? = some (.cells C t)) (ht : t ≠ e) : v.ownBlock ≠ some bn := by
  obtain ⟨_, h⟩ := h
  rcases h with ⟨rfl, _⟩ | ⟨g, cap, cur, rfl, _, hh, _⟩
  · intro hc; cases hc
  · intro hc
    have : g = bn := by simpa [Value.ownBlock] using hc
    subst this
    rw [hh] at hb
    simp at hb
    exact ht hb.2.symm
theorem bne_of {c : Int} (h : c ≠ 0) : (c != 0) = true := by rw [bne, beq_eq_false_iff_ne.2 h]; rfl
set_option maxRecDepth 100000 in
set_option maxHeartbeats 8000000 in
theorem refInside_plain (b off cap j : Nat) (ns : List NodeD) (w : World) (hR : RightF ns) (hF : FAt w b off cap ns) (hj : j < ns.length) (hkl : ns[j].kids.length ≤ 1099511627776) (h0 : ns[j].shadow = 0)
    (IH : Hid (∀ y ∈ hangD ns ((j : Int) + 1), ∀ W : World, Below w.heap.size w W → Calls Try.prog 9 #[.agg #[.slice (some ⟨b, off, none⟩) ns.length cap], .int .i64 y] W fun e w' => ∃ v, e = .returned v ∧ RdI w' v (deepD ns y) ∧ Below W.heap.size W w')) :
    Calls Try.prog 9 #[.agg #[.slice (some ⟨b, off, none⟩) ns.length cap], .int .i64 ((j : Int) + 1)] w fun e w' => ∃ v, e = .returned v ∧ RdI w' v (deepD ns ((j : Int) + 1)) ∧ Below w.heap.size w w' := by
  have hB0 : Below w.heap.size w (w.alloc (.cells #[.slice (some ⟨b, off, none⟩) ns.length cap] 24)) := (Below.refl _ w).alloc (Nat.le_refl _) _
  have hO := refNode_at b off cap j ns w _ hF hB0 hj
  obtain ⟨i0, hi, hz0, hz1, hz2⟩ := info_parts info_int
  have hx : thereB ns.length ((j : Int) + 1) = true := thereB_idx _ _ hj
  have hT := deep_cons hR hx
  have hlen := deep_len hR hx
  have hpos : ∀ y ∈ hangD ns ((j : Int) + 1), 0 < (deepD ns y).length := fun y hy => by
    rw [deep_cons hR (hR.deepHang.down _ y hx hy).1]
    simp
  obtain ⟨T, hTT⟩ : ∃ T, deepD ns ((j : Int) + 1) = T := ⟨_, rfl⟩
  rw [hTT] at hT hlen ⊢
  have hat := hangD_at ns j hj
  have HP := hid hpos
  have HB0 : Hid (Below (w.heap.size + 1) (w.alloc (.cells #[.slice (some ⟨b, off, none⟩) ns.length cap] 24)) (w.alloc (.cells #[.slice (some ⟨b, off, none⟩) ns.length cap] 24))) := Below.refl _ _
  clear hF hTT hx hpos hR hB0
  generalize ns[j] = n at *
  generalize hangD ns ((j : Int) + 1) = hg at *
  have hhg : hg = n.kids := by rw [hat, h0]; rfl
  subst hhg
  have HT : Hid ([(j : Int) + 1] ++ (n.kids.drop 0).flatMap (deepD ns) = T) := hT.symm
  have HM : Hid (∀ y ∈ n.kids, y ∈ n.kids) := fun _ h => h
  have hne : (n.shadow != 0) = false := by rw [h0]; rfl
  clear hat hT h0
  go_enter Try.func9, Try.ntmps9
  go_wp2_with fail
  refine hO.mono ?_
  rintro e v1 ⟨L, rfl, h1, h2, h3, hb1⟩
  obtain ⟨od, cd, oa, ca, ok, ck, rfl⟩ := lists_slices h1 h2 h3
  have hB1 := HB0.out.trans (hb1.mono (bx_size HB0.out))
  have hs1 := bx_size hB1
  have hl1 : w.heap.size < v1.heap.size := by omega
  have hl2 : w.heap.size < v1.heap.size + 1 := by omega
  have cbv : v1.cell? ⟨w.heap.size, 0, none⟩ = some (.slice (some ⟨b, off, none⟩) ns.length cap) := (hB1.cell (p := ⟨w.heap.size, 0, none⟩) (by show w.heap.size < w.heap.size + 1; omega)).trans (by simp)
  have HB1 := hid ((hB1.alloc hs1 (.cells #[.int .u8 (n.kind : Int), .string n.space, .string n.pre, .string n.loc, .string n.pub, .string n.sys, .slice od n.data.length cd, .slice oa n.attrs.length ca, .int .i64 n.parent, .slice ok n.kids.length ck, .int .i64 n.doc, .int .i64 n.host, .int .i64 n.shadow, .int .u8 (n.mode : Int), .bool n.manual, .bool n.html] 40)).alloc (by simp only [World.size_alloc]; omega) (.cells #[.int .i64 ((j : Int) + 1)] 3))
  have hown0 := own_one (v1.alloc (.cells #[.int .u8 (n.kind : Int), .string n.space, .string n.pre, .string n.loc, .string n.pub, .string n.sys, .slice od n.data.length cd, .slice oa n.attrs.length ca, .int .i64 n.parent, .slice ok n.kids.length ck, .int .i64 n.doc, .int .i64 n.host, .int .i64 n.shadow, .int .u8 (n.mode : Int), .bool n.manual, .bool n.html] 40)) (w.heap.size + 1) ((j : Int) + 1) (by simp only [World.size_alloc]; omega)
  simp only [World.size_alloc] at hown0
  have HR1 := hid hown0
  have HN1 := hid ((Below.heap_alloc (v1.alloc (.cells #[.int .u8 (n.kind : Int), .string n.space, .string n.pre, .string n.loc, .string n.pub, .string n.sys, .slice od n.data.length cd, .slice oa n.attrs.length ca, .int .i64 n.parent, .slice ok n.kids.length ck, .int .i64 n.doc, .int .i64 n.host, .int .i64 n.shadow, .int .u8 (n.mode : Int), .bool n.manual, .bool n.html] 40)) (.cells #[.int .i64 ((j : Int) + 1)] 3) v1.heap.size (by simp)).trans (vheap_new v1 (.cells #[.int .u8 (n.kind : Int), .string n.space, .string n.pre, .string n.loc, .string n.pub, .string n.sys, .slice od n.data.length cd, .slice oa n.attrs.length ca, .int .i64 n.parent, .slice ok n.kids.length ck, .int .i64 n.doc, .int .i64 n.host, .int .i64 n.shadow, .int .u8 (n.mode : Int), .bool n.manual, .bool n.html] 40)))
  clear h1 h2 hb1 hO HB0 hB1 hown0
  unfold nodeV
  obtain ⟨o3, c3, e3, hck, gk⟩ := h3
  simp only [Value.slice.injEq] at e3
  obtain ⟨rfl, -, rfl⟩ := e3
  go_wp2
  go_loopw [7, 32] (fun v t wr => ∃ (k : Nat) (done : List Int), k ≤ n.kids.length ∧ t = .int .i64 k ∧ Below (w.heap.size + 1) (w.alloc (.cells #[.slice (some ⟨b, off, none⟩) ns.length cap] 24)) wr ∧ Hid (wr.heap[v1.heap.size]? = some (.cells #[.int .u8 (n.kind : Int), .string n.space, .string n.pre, .string n.loc, .string n.pub, .string n.sys, .slice od n.data.length cd, .slice oa n.attrs.length ca, .int .i64 n.parent, .slice ok n.kids.length ck, .int .i64 n.doc, .int .i64 n.host, .int .i64 n.shadow, .int .u8 (n.mode : Int), .bool n.manual, .bool n.html] 40)) ∧ wr.ownsRow (w.heap.size + 1) 3 1 v done.length (done.map (Value.int .i64)) ∧ Hid (done ++ (n.kids.drop k).flatMap (deepD ns) = T)) (fun _ t _ => n.kids.length - (RowKit.intOf t).toNat)
  case atStart => exact ⟨0, [(j : Int) + 1], Nat.zero_le _, rfl, HB1.out, HN1, HR1.out, HT⟩
  case round =>
    obtain ⟨k, done, hk, rfl, hB, hnb, hown, hr⟩ := hrel
    have hBw := bx_below hB
    have hsb := bx_size hB
    by_cases hlt : k < n.kids.length
    · obtain ⟨bk, offk, rfl, hltk, hak⟩ := gk (by omega)
      have x1 := (hBw.cell (p := ⟨bk, offk + k, none⟩) hltk).trans (hak k hlt)
      have cb : wr.cell? ⟨w.heap.size, 0, none⟩ = some (.slice (some ⟨b, off, none⟩) ns.length cap) := (hB.cell (p := ⟨w.heap.size, 0, none⟩) (by show w.heap.size < w.heap.size + 1; omega)).trans (by simp)
      have q1 : (0 : Int) ≤ (k : Int) := by omega
      have q2 : (k : Int) < (n.kids.length : Int) := by omega
      have hrr := hr.out
      rw [List.drop_eq_getElem_cons hlt, List.flatMap_cons, ← List.append_assoc] at hrr
      have hI := IH.out n.kids[k] (HM.out _ (List.getElem_mem hlt)) wr hBw
      have hp1 := HP.out n.kids[k] (HM.out _ (List.getElem_mem hlt))
      have hdl : done.length + (deepD ns n.kids[k]).length ≤ 4096 := by
        have h := congrArg List.length hrr
        rw [List.length_append, List.length_append] at h
        omega
      have hbl : v1.heap.size < wr.heap.size := (Array.getElem?_eq_some_iff.1 hnb.out).1
      have Hn := hid hrr
      have HB := hid hB
      have HOw := hid hown
      clear hrr hr hB hBw hak gk hown
      generalize deepD ns n.kids[k] = A at *
      generalize n.kids[k] = a at *
      have m1 : done.length + A.length ≤ maxLen := Nat.le_trans hdl (by decide)
      have m2 : (done.length + A.length) * 8 ≤ 140737488355328 := by omega
      go_wp2_with fail
      refine hI.mono ?_
      rintro e v2 ⟨vv, rfl, hrd, hb2⟩
      obtain ⟨o2, c2, rfl, hc2, g2⟩ := hrd
      obtain ⟨b2, off2, rfl, hlt2, ha2⟩ := g2 hp1
      have HB2 := hid (HB.out.trans (hb2.mono hsb))
      have hown2 := ownsRow_later HOw.out hb2
      have hnb2 := (hb2.block v1.heap.size hbl).trans hnb.out
      have hbl2 := Nat.lt_of_lt_of_le hbl hb2.size
      clear hI hb2 HB HOw g2
      go_wp2_with (at_builtin; refine wpList_append_own _ rfl _ _ 29 rfl (w.heap.size + 1) 3 i0 (.int .i64 0) 1 8 Try.underlying29 hi hz0 hz1 hz2 rfl (by decide) _ _ _ rfl hown2 ⟨b2, off2, none⟩ A.length c2 (A.map (Value.int .i64)) rfl (by simp) (news_cells ha2) (news_one A) m1 m2 (bx_size HB2.out) ?_; intro v' w1 hown' hgrow _)
      have HB3 : Hid (Below (w.heap.size + 1) v2 w1) := (Below.refl _ v2).grown hgrow (bx_size HB2.out) (fun j hj => (hown2.lt j hj).1)
      have HNb := hid ((hgrow.block v1.heap.size hbl2 (fun e => irow_not hown2 hnb2 (by decide) e.symm)).trans hnb2)
      go_roundw
      case rel => exact ⟨k + 1, done ++ A, by omega, by go_num, HB2.out.trans HB3.out, HNb, by simpa using hown', Hn⟩
      case measure => simp [RowKit.intOf]; omega
    · have hTd : T = done := by
        rw [← hr.out, List.drop_eq_nil_of_le (by omega), List.flatMap_nil, List.append_nil]
      subst hTd
      have HBw := hid hBw
      have HOw := hid hown
      clear hr hB hBw gk HP IH hown
      go_wp2
      go_ret
      exact ⟨_, rfl, ownsRow_rdI HOw.out, HBw.out⟩
set_option maxRecDepth 100000 in
set_option maxHeartbeats 8000000 in
theorem refInside_shady (b off cap j : Nat) (ns : List NodeD) (w : World) (hR : RightF ns) (hF : FAt w b off cap ns) (hj : j < ns.length) (hkl : ns[j].kids.length ≤ 1099511627776) (h0 : ns[j].shadow ≠ 0)
    (IH : Hid (∀ y ∈ hangD ns ((j : Int) + 1), ∀ W : World, Below w.heap.size w W → Calls Try.prog 9 #[.agg #[.slice (some ⟨b, off, none⟩) ns.length cap], .int .i64 y] W fun e w' => ∃ v, e = .returned v ∧ RdI w' v (deepD ns y) ∧ Below W.heap.size W w')) :
    Calls Try.prog 9 #[.agg #[.slice (some ⟨b, off, none⟩) ns.length cap], .int .i64 ((j : Int) + 1)] w fun e w' => ∃ v, e = .returned v ∧ RdI w' v (deepD ns ((j : Int) + 1)) ∧ Below w.heap.size w w' := by
  have hB0 : Below w.heap.size w (w.alloc (.cells #[.slice (some ⟨b, off, none⟩) ns.length cap] 24)) := (Below.refl _ w).alloc (Nat.le_refl _) _
  have hO := refNode_at b off cap j ns w _ hF hB0 hj
  obtain ⟨i0, hi, hz0, hz1, hz2⟩ := info_parts info_int
  have hx : thereB ns.length ((j : Int) + 1) = true := thereB_idx _ _ hj
  have hT := deep_cons hR hx
  have hlen := deep_len hR hx
  have hpos : ∀ y ∈ hangD ns ((j : Int) + 1), 0 < (deepD ns y).length := fun y hy => by
    rw [deep_cons hR (hR.deepHang.down _ y hx hy).1]
    simp
  obtain ⟨T, hTT⟩ : ∃ T, deepD ns ((j : Int) + 1) = T := ⟨_, rfl⟩
  rw [hTT] at hT hlen ⊢
  have hat := hangD_at ns j hj
  have HP := hid hpos
  have HB0 : Hid (Below (w.heap.size + 1) (w.alloc (.cells #[.slice (some ⟨b, off, none⟩) ns.length cap] 24)) (w.alloc (.cells #[.slice (some ⟨b, off, none⟩) ns.length cap] 24))) := Below.refl _ _
  clear hF hTT hx hpos hR hB0
  generalize ns[j] = n at *
  generalize hangD ns ((j : Int) + 1) = hg at *
  have hhg : hg = n.shadow :: n.kids := by rw [hat, beq_eq_false_iff_ne.2 h0, if_neg Bool.false_ne_true]
  subst hhg
  have HT : Hid (([(j : Int) + 1] ++ deepD ns n.shadow) ++ (n.kids.drop 0).flatMap (deepD ns) = T) := by
    show _ = T
    rw [hT, List.flatMap_cons, List.append_assoc]
    rfl
  have HM : Hid (∀ y ∈ n.kids, y ∈ n.shadow :: n.kids) := fun _ h => List.mem_cons_of_mem _ h
  have hne : (n.shadow != 0) = true := bne_of h0
  have hI0 : Hid (∀ W : World, Below w.heap.size w W → _) := fun W hW => IH.out n.shadow (by simp) W hW
  have hp0 := HP.out n.shadow (by simp)
  have hdl0 : 1 + (deepD ns n.shadow).length ≤ 4096 := by
    have h := congrArg List.length HT.out
    rw [List.length_append, List.length_append, List.length_singleton] at h
    omega
  clear hat hT h0
  go_enter Try.func9, Try.ntmps9
  go_wp2_with fail
  refine hO.mono ?_
  rintro e v1 ⟨L, rfl, h1, h2, h3, hb1⟩
  obtain ⟨od, cd, oa, ca, ok, ck, rfl⟩ := lists_slices h1 h2 h3
  have hB1 := HB0.out.trans (hb1.mono (bx_size HB0.out))
  have hs1 := bx_size hB1
  have hl1 : w.heap.size < v1.heap.size := by omega
  have hl2 : w.heap.size < v1.heap.size + 1 := by omega
  have cbv : v1.cell? ⟨w.heap.size, 0, none⟩ = some (.slice (some ⟨b, off, none⟩) ns.length cap) := (hB1.cell (p := ⟨w.heap.size, 0, none⟩) (by show w.heap.size < w.heap.size + 1; omega)).trans (by simp)
  have HB1 := hid ((hB1.alloc hs1 (.cells #[.int .u8 (n.kind : Int), .string n.space, .string n.pre, .string n.loc, .string n.pub, .string n.sys, .slice od n.data.length cd, .slice oa n.attrs.length ca, .int .i64 n.parent, .slice ok n.kids.length ck, .int .i64 n.doc, .int .i64 n.host, .int .i64 n.shadow, .int .u8 (n.mode : Int), .bool n.manual, .bool n.html] 40)).alloc (by simp only [World.size_alloc]; omega) (.cells #[.int .i64 ((j : Int) + 1)] 3))
  have hown0 := own_one (v1.alloc (.cells #[.int .u8 (n.kind : Int), .string n.space, .string n.pre, .string n.loc, .string n.pub, .string n.sys, .slice od n.data.length cd, .slice oa n.attrs.length ca, .int .i64 n.parent, .slice ok n.kids.length ck, .int .i64 n.doc, .int .i64 n.host, .int .i64 n.shadow, .int .u8 (n.mode : Int), .bool n.manual, .bool n.html] 40)) (w.heap.size + 1) ((j : Int) + 1) (by simp only [World.size_alloc]; omega)
  simp only [World.size_alloc] at hown0
  have HR1 := hid hown0
  have HN1 := hid ((Below.heap_alloc (v1.alloc (.cells #[.int .u8 (n.kind : Int), .string n.space, .string n.pre, .string n.loc, .string n.pub, .string n.sys, .slice od n.data.length cd, .slice oa n.attrs.length ca, .int .i64 n.parent, .slice ok n.kids.length ck, .int .i64 n.doc, .int .i64 n.host, .int .i64 n.shadow, .int .u8 (n.mode : Int), .bool n.manual, .bool n.html] 40)) (.cells #[.int .i64 ((j : Int) + 1)] 3) v1.heap.size (by simp)).trans (vheap_new v1 (.cells #[.int .u8 (n.kind : Int), .string n.space, .string n.pre, .string n.loc, .string n.pub, .string n.sys, .slice od n.data.length cd, .slice oa n.attrs.length ca, .int .i64 n.parent, .slice ok n.kids.length ck, .int .i64 n.doc, .int .i64 n.host, .int .i64 n.shadow, .int .u8 (n.mode : Int), .bool n.manual, .bool n.html] 40)))
  clear h1 h2 hb1 hO HB0 hB1 hown0
  unfold nodeV
  obtain ⟨o3, c3, e3, hck, gk⟩ := h3
  simp only [Value.slice.injEq] at e3
  obtain ⟨rfl, -, rfl⟩ := e3
  have cb2 : ((v1.alloc (.cells #[.int .u8 (n.kind : Int), .string n.space, .string n.pre, .string n.loc, .string n.pub, .string n.sys, .slice od n.data.length cd, .slice oa n.attrs.length ca, .int .i64 n.parent, .slice ok n.kids.length ck, .int .i64 n.doc, .int .i64 n.host, .int .i64 n.shadow, .int .u8 (n.mode : Int), .bool n.manual, .bool n.html] 40)).alloc (.cells #[.int .i64 ((j : Int) + 1)] 3)).cell? ⟨w.heap.size, 0, none⟩ = some (.slice (some ⟨b, off, none⟩) ns.length cap) := (HB1.out.cell (p := ⟨w.heap.size, 0, none⟩) (by show w.heap.size < w.heap.size + 1; omega)).trans (by simp)
  generalize hA : deepD ns n.shadow = A at *
  have m1 : 1 + A.length ≤ maxLen := Nat.le_trans hdl0 (by decide)
  have m2 : (1 + A.length) * 8 ≤ 140737488355328 := by omega
  have hI := hI0.out _ (bx_below HB1.out)
  clear hI0
  go_wp2_with fail
  refine hI.mono ?_
  rintro e v2 ⟨vv, rfl, hrd, hb2⟩
  obtain ⟨o2, c2, rfl, hc2, g2⟩ := hrd
  obtain ⟨b2, off2, rfl, hlt2, ha2⟩ := g2 hp0
  have HB2 := hid (HB1.out.trans (hb2.mono (bx_size HB1.out)))
  have hown2 := ownsRow_later HR1.out hb2
  have hbl : v1.heap.size < ((v1.alloc (.cells #[.int .u8 (n.kind : Int), .string n.space, .string n.pre, .string n.loc, .string n.pub, .string n.sys, .slice od n.data.length cd, .slice oa n.attrs.length ca, .int .i64 n.parent, .slice ok n.kids.length ck, .int .i64 n.doc, .int .i64 n.host, .int .i64 n.shadow, .int .u8 (n.mode : Int), .bool n.manual, .bool n.html] 40)).alloc (.cells #[.int .i64 ((j : Int) + 1)] 3)).heap.size := by simp only [World.size_alloc]; omega
  have hnb2 := (hb2.block v1.heap.size hbl).trans HN1.out
  have hbl2 := Nat.lt_of_lt_of_le hbl hb2.size
  have c9 := (icells hnb2).1
  clear hI hb2 HB1 HR1 HN1 g2 hbl cbv cb2
  go_wp2_with (at_builtin; refine wpList_append_own _ rfl _ _ 29 rfl (w.heap.size + 1) 3 i0 (.int .i64 0) 1 8 Try.underlying29 hi hz0 hz1 hz2 rfl (by decide) _ _ _ rfl hown2 ⟨b2, off2, none⟩ A.length c2 (A.map (Value.int .i64)) rfl (by simp) (news_cells ha2) (news_one A) m1 m2 (bx_size HB2.out) ?_; intro v' w1 hown' hgrow _; have hnb3 := (hgrow.block v1.heap.size hbl2 (fun e => irow_not hown2 hnb2 (by decide) e.symm)).trans hnb2; have c9' := (icells hnb3).1)
  have HB3 := hid (HB2.out.grown hgrow (bx_size HB2.out) (fun j hj => (hown2.lt j hj).1))
  have HN3 := hid hnb3
  have HR3 : Hid (w1.ownsRow (w.heap.size + 1) 3 1 v' ([(j : Int) + 1] ++ A).length (([(j : Int) + 1] ++ A).map (Value.int .i64))) := by
    show w1.ownsRow _ _ _ _ _ _
    rw [List.length_append]
    simpa using hown'
  clear hown' hgrow hown2 hnb2 hnb3 HB2
  go_loopw [7, 32] (fun v t wr => ∃ (k : Nat) (done : List Int), k ≤ n.kids.length ∧ t = .int .i64 k ∧ Below (w.heap.size + 1) (w.alloc (.cells #[.slice (some ⟨b, off, none⟩) ns.length cap] 24)) wr ∧ Hid (wr.heap[v1.heap.size]? = some (.cells #[.int .u8 (n.kind : Int), .string n.space, .string n.pre, .string n.loc, .string n.pub, .string n.sys, .slice od n.data.length cd, .slice oa n.attrs.length ca, .int .i64 n.parent, .slice ok n.kids.length ck, .int .i64 n.doc, .int .i64 n.host, .int .i64 n.shadow, .int .u8 (n.mode : Int), .bool n.manual, .bool n.html] 40)) ∧ wr.ownsRow (w.heap.size + 1) 3 1 v done.length (done.map (Value.int .i64)) ∧ Hid (done ++ (n.kids.drop k).flatMap (deepD ns) = T)) (fun _ t _ => n.kids.length - (RowKit.intOf t).toNat)
  case atStart => exact ⟨0, [(j : Int) + 1] ++ A, Nat.zero_le _, rfl, HB3.out, HN3, HR3.out, HT⟩
  case round =>
    obtain ⟨k, done, hk, rfl, hB, hnb, hown, hr⟩ := hrel
    have hBw := bx_below hB
    have hsb := bx_size hB
    by_cases hlt : k < n.kids.length
    · obtain ⟨bk, offk, rfl, hltk, hak⟩ := gk (by omega)
      have x1 := (hBw.cell (p := ⟨bk, offk + k, none⟩) hltk).trans (hak k hlt)
      have cb : wr.cell? ⟨w.heap.size, 0, none⟩ = some (.slice (some ⟨b, off, none⟩) ns.length cap) := (hB.cell (p := ⟨w.heap.size, 0, none⟩) (by show w.heap.size < w.heap.size + 1; omega)).trans (by simp)
      have q1 : (0 : Int) ≤ (k : Int) := by omega
      have q2 : (k : Int) < (n.kids.length : Int) := by omega
      have hrr := hr.out
      rw [List.drop_eq_getElem_cons hlt, List.flatMap_cons, ← List.append_assoc] at hrr
      have hI := IH.out n.kids[k] (HM.out _ (List.getElem_mem hlt)) wr hBw
      have hp1 := HP.out n.kids[k] (HM.out _ (List.getElem_mem hlt))
      have hdl : done.length + (deepD ns n.kids[k]).length ≤ 4096 := by
        have h := congrArg List.length hrr
        rw [List.length_append, List.length_append] at h
        omega
      have hbl : v1.heap.size < wr.heap.size := (Array.getElem?_eq_some_iff.1 hnb.out).1
      have Hn := hid hrr
      have HB := hid hB
      have HOw := hid hown
      clear hrr hr hB hBw hak gk hown
      generalize deepD ns n.kids[k] = A at *
      generalize n.kids[k] = a at *
      have m1 : done.length + A.length ≤ maxLen := Nat.le_trans hdl (by decide)
      have m2 : (done.length + A.length) * 8 ≤ 140737488355328 := by omega
      go_wp2_with fail
      refine hI.mono ?_
      rintro e v2 ⟨vv, rfl, hrd, hb2⟩
      obtain ⟨o2, c2, rfl, hc2, g2⟩ := hrd
      obtain ⟨b2, off2, rfl, hlt2, ha2⟩ := g2 hp1
      have HB2 := hid (HB.out.trans (hb2.mono hsb))
      have hown2 := ownsRow_later HOw.out hb2
      have hnb2 := (hb2.block v1.heap.size hbl).trans hnb.out
      have hbl2 := Nat.lt_of_lt_of_le hbl hb2.size
      clear hI hb2 HB HOw g2
      go_wp2_with (at_builtin; refine wpList_append_own _ rfl _ _ 29 rfl (w.heap.size + 1) 3 i0 (.int .i64 0) 1 8 Try.underlying29 hi hz0 hz1 hz2 rfl (by decide) _ _ _ rfl hown2 ⟨b2, off2, none⟩ A.length c2 (A.map (Value.int .i64)) rfl (by simp) (news_cells ha2) (news_one A) m1 m2 (bx_size HB2.out) ?_; intro v' w1 hown' hgrow _)
      have HB3 : Hid (Below (w.heap.size + 1) v2 w1) := (Below.refl _ v2).grown hgrow (bx_size HB2.out) (fun j hj => (hown2.lt j hj).1)
      have HNb := hid ((hgrow.block v1.heap.size hbl2 (fun e => irow_not hown2 hnb2 (by decide) e.symm)).trans hnb2)
      go_roundw
      case rel => exact ⟨k + 1, done ++ A, by omega, by go_num, HB2.out.trans HB3.out, HNb, by simpa using hown', Hn⟩
      case measure => simp [RowKit.intOf]; omega
    · have hTd : T = done := by
        rw [← hr.out, List.drop_eq_nil_of_le (by omega), List.flatMap_nil, List.append_nil]
      subst hTd
      have HBw := hid hBw
      have HOw := hid hown
      clear hr hB hBw gk HP IH hown
      go_wp2
      go_ret
      exact ⟨_, rfl, ownsRow_rdI HOw.out, HBw.out⟩
theorem refInside_go (ns : List NodeD) (hR : RightF ns) (hkl : ∀ (i : Nat) (hi : i < ns.length), ns[i].kids.length ≤ 1099511627776) (b off cap : Nat) : ∀ (f : Nat) (x : Int) (w : World), FAt w b off cap ns → thereB ns.length x = true → ns.length < f + (pathUp ns (overD ns) x).length →
    Calls Try.prog 9 #[.agg #[.slice (some ⟨b, off, none⟩) ns.length cap], .int .i64 x] w fun e w' => ∃ v, e = .returned v ∧ RdI w' v (deepD ns x) ∧ Below w.heap.size w w'
  | 0, x, w, _, hx, hf => by
    have := hR.deepHang.len hx
    omega
  | f + 1, x, w, hF, hx, hf => by
    obtain ⟨j, hj, rfl⟩ := there_idx hx
    have IH : ∀ y ∈ hangD ns ((j : Int) + 1), ∀ W : World, Below w.heap.size w W → _ := fun y hy W hW => refInside_go ns hR hkl b off cap f y W (hF.later hW) (hR.deepHang.down _ y hx hy).1 (by rw [hR.deepHang.deep hx hy]; omega)
    by_cases h0 : ns[j].shadow = 0
    · exact refInside_plain b off cap j ns w hR hF hj (hkl j hj) h0 IH
    · exact refInside_shady b off cap j ns w hR hF hj (hkl j hj) h0 IH
theorem refInside_any (b off cap : Nat) (x : Int) (ns : List NodeD) (w : World) (hR : RightF ns) (hF : FAt w b off cap ns) (hkl : ∀ (i : Nat) (hi : i < ns.length), ns[i].kids.length ≤ 1099511627776) (hx : thereB ns.length x = true) :
    Calls Try.prog 9 #[.agg #[.slice (some ⟨b, off, none⟩) ns.length cap], .int .i64 x] w fun e w' => ∃ v, e = .returned v ∧ RdI w' v (deepD ns x) ∧ Below w.heap.size w w' := refInside_go ns hR hkl b off cap (ns.length + 1) x w hF hx (by omega)
end Go.Proofs.Ytfaeabjgplahgaa
