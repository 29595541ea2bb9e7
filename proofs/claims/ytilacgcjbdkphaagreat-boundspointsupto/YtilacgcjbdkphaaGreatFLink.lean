/- The reference of forest: links. -/
import Derived.Test.YtilacgcjbdkphaaGreatFRefR
import Derived.Deep.DeepCutAuto
namespace Go.Proofs.YtilacgcjbdkphaaGreat
open Go.RowKit Go.Lib

def linkPar (ns : List NodeD) (i : Nat) (n : NodeD) : Bool := n.parent == 0 || (thereB ns.length n.parent && countI (nodeOrNone ns n.parent).kids ((i : Int) + 1) == 1)
def linkDoc (ns : List NodeD) (i : Nat) (n : NodeD) : Bool := kindAt ns n.doc == 9 && !(n.kind == 9 && !(n.doc == (i : Int) + 1))
def linkSha (ns : List NodeD) (i : Nat) (n : NodeD) : Bool := n.shadow == 0 || (thereB ns.length n.shadow && (nodeOrNone ns n.shadow).kind == 12 && (nodeOrNone ns n.shadow).host == (i : Int) + 1)
def linkHos (ns : List NodeD) (i : Nat) (n : NodeD) : Bool := !(n.kind == 12) || (thereB ns.length n.host && (nodeOrNone ns n.host).kind == 1 && (nodeOrNone ns n.host).shadow == (i : Int) + 1 && (nodeOrNone ns n.host).doc == n.doc)
theorem linksD_parts (ns : List NodeD) (i : Nat) (n : NodeD) : linksD ns i n = (n.kids.all (linkKid ns i n) && (linkPar ns i n && (linkDoc ns i n && (linkSha ns i n && (linkHos ns i n && kidsGo (n.kind == 9) 0 0 (n.kids.map (kindAt ns))))))) := by
  unfold linksD linkPar linkDoc linkSha linkHos
  simp only [Bool.and_assoc]
theorem bx2_below {w v : World} {o o' : Obj} (h : Below (w.heap.size + 1 + 1) ((w.alloc o).alloc o') v) : Below w.heap.size w v :=
  (((Below.refl _ w).alloc (Nat.le_refl _) o).alloc (by simp) o').trans (h.mono (by omega))
theorem bx2_size {w v : World} {o o' : Obj} (h : Below (w.heap.size + 1 + 1) ((w.alloc o).alloc o') v) : w.heap.size + 1 + 1 ≤ v.heap.size := by
  have := h.size
  simpa using this
/-- Behind a call, and behind a variable that is new. -/
theorem bx2_next {w v v1 : World} {o o' : Obj} (h : Below (w.heap.size + 1 + 1) ((w.alloc o).alloc o') v) (hb : Below v.heap.size v v1) : Below (w.heap.size + 1 + 1) ((w.alloc o).alloc o') v1 := h.trans (hb.mono (bx2_size h))
theorem bx2_new {w v : World} {o o' : Obj} (h : Below (w.heap.size + 1 + 1) ((w.alloc o).alloc o') v) (o2 : Obj) : Below (w.heap.size + 1 + 1) ((w.alloc o).alloc o') (v.alloc o2) := h.alloc (bx2_size h) o2
theorem keep_first (w : World) (o o' : Obj) : ((w.alloc o).alloc o').heap[w.heap.size]? = some o := (Below.heap_alloc _ _ _ (by simp)).trans (heap_new w o)
theorem ne_of_beq {a b : Int} {c : Bool} (h : (a == b) = c) : (a != b) = !c := by rw [bne, h]
theorem count_one (c : Nat) : ((c : Int) == 1) = (c == 1) := beq_cast c 1

set_option maxRecDepth 100000 in
set_option maxHeartbeats 16000000 in
theorem refLinks_any (b off cap i : Nat) (ns : List NodeD) (w : World) (hF : FAt w b off cap ns) (hi : i < ns.length) (hkl : ∀ (i : Nat) (hi : i < ns.length), ns[i].kids.length ≤ 1099511627776) :
    Calls Tryz.prog 111 #[.agg #[.slice (some ⟨b, off, none⟩) ns.length cap], .int .i64 ((i : Int) + 1)] w fun e w' => e = .returned (.bool (linksD ns i ns[i])) ∧ Below w.heap.size w w' := by
  have hFR : FRd w (some ⟨b, off, none⟩) cap ns := ⟨hF.len, fun _ => ⟨b, off, rfl, hF⟩⟩
  have HN : Hid (∀ (z : Int) (W : World), Below w.heap.size w W → _) := fun z W hW => refNode_any (some ⟨b, off, none⟩) cap z ns W (hFR.later hW)
  have HD : Hid (∀ (z : Int) (W : World), Below w.heap.size w W → _) := fun z W hW => refKind_any (some ⟨b, off, none⟩) cap z ns W (hFR.later hW)
  have HS : Hid (∀ (kk : Nat) (v : Value) (l : List Int) (W : World), Below w.heap.size w W → RdI W v l → l.length ≤ 1099511627776 → _) := fun kk v l W hW hv hl => refKids_any (some ⟨b, off, none⟩) cap kk v l ns W (hFR.later hW) hv hl
  have HKL : Hid (∀ z, (nodeOrNone ns z).kids.length ≤ 1099511627776) := fun z => by
    unfold nodeOrNone
    cases hz : nodeOf ns z with
    | none => exact Nat.zero_le _
    | some m =>
      obtain ⟨j, hj, _, e⟩ := nodeOf_idx hz
      rw [Option.getD_some, e]
      exact hkl j hj
  obtain ⟨L, hc, hd, ha, hk⟩ := hF.at_ i hi
  have hkl' := hkl i hi
  have hc1 := hc.later hF.lt ((Below.refl _ w).alloc (Nat.le_refl _) (.cells #[.slice (some ⟨b, off, none⟩) ns.length cap] 24))
  obtain ⟨R, hR⟩ : ∃ R, linksD ns i ns[i] = R := ⟨_, rfl⟩
  rw [hR]
  rw [linksD_parts] at hR
  have hle := hF.len
  clear hFR hkl hc hF
  generalize ns[i] = n at *
  obtain ⟨D, A, K⟩ := L
  obtain ⟨od, cd, e1, _⟩ := hd
  obtain ⟨oa, ca, e2, _⟩ := ha
  have Hk := hid hk
  obtain ⟨ok, ck, e3, hck, gk⟩ := hk
  simp only at e1 e2 e3
  subst e1 e2 e3
  obtain ⟨c0, c1, c2, c3, c4, c5, c6, c7, c8, c9, c10, c11, c12, c13, c14, c15⟩ := hc1
  have HE : Hid (((n.kids.drop 0).all (linkKid ns i n) && (linkPar ns i n && (linkDoc ns i n && (linkSha ns i n && (linkHos ns i n && kidsGo (n.kind == 9) 0 0 (n.kids.map (kindAt ns))))))) = R) := hR
  clear hR
  have q1 : (0 : Int) ≤ (i : Int) := by omega
  have q2 : (i : Int) < (ns.length : Int) := by omega
  have Hbox : Hid (∀ W, Below (w.heap.size + 1 + 1) ((w.alloc (.cells #[.slice (some ⟨b, off, none⟩) ns.length cap] 24)).alloc (.cells #[.int .u8 (n.kind : Int), .string n.space, .string n.pre, .string n.loc, .string n.pub, .string n.sys, .slice od n.data.length cd, .slice oa n.attrs.length ca, .int .i64 n.parent, .slice ok n.kids.length ck, .int .i64 n.doc, .int .i64 n.host, .int .i64 n.shadow, .int .u8 (n.mode : Int), .bool n.manual, .bool n.html] 64)) W →
      W.cell? ⟨w.heap.size, 0, none⟩ = some (.slice (some ⟨b, off, none⟩) ns.length cap) ∧ W.cell? ⟨w.heap.size + 1, 0, none⟩ = some (.int .u8 (n.kind : Int)) ∧ W.cell? ⟨w.heap.size + 1, 8, none⟩ = some (.int .i64 n.parent) ∧ W.cell? ⟨w.heap.size + 1, 9, none⟩ = some (.slice ok n.kids.length ck) ∧ W.cell? ⟨w.heap.size + 1, 10, none⟩ = some (.int .i64 n.doc) ∧ W.cell? ⟨w.heap.size + 1, 11, none⟩ = some (.int .i64 n.host) ∧ W.cell? ⟨w.heap.size + 1, 12, none⟩ = some (.int .i64 n.shadow)) := fun W hW => by
    have hh := heap_new (w.alloc (.cells #[.slice (some ⟨b, off, none⟩) ns.length cap] 24)) (.cells #[.int .u8 (n.kind : Int), .string n.space, .string n.pre, .string n.loc, .string n.pub, .string n.sys, .slice od n.data.length cd, .slice oa n.attrs.length ca, .int .i64 n.parent, .slice ok n.kids.length ck, .int .i64 n.doc, .int .i64 n.host, .int .i64 n.shadow, .int .u8 (n.mode : Int), .bool n.manual, .bool n.html] 64)
    simp only [World.size_alloc] at hh
    have hx := (hW.block (w.heap.size + 1) (by omega)).trans hh
    have h0 := keep_first w (.cells #[.slice (some ⟨b, off, none⟩) ns.length cap] 24) (.cells #[.int .u8 (n.kind : Int), .string n.space, .string n.pre, .string n.loc, .string n.pub, .string n.sys, .slice od n.data.length cd, .slice oa n.attrs.length ca, .int .i64 n.parent, .slice ok n.kids.length ck, .int .i64 n.doc, .int .i64 n.host, .int .i64 n.shadow, .int .u8 (n.mode : Int), .bool n.manual, .bool n.html] 64)
    have hy := (hW.block w.heap.size (by omega)).trans h0
    exact ⟨by rw [cell_of_heap hy]; rfl, by rw [cell_of_heap hx]; rfl, by rw [cell_of_heap hx]; rfl, by rw [cell_of_heap hx]; rfl, by rw [cell_of_heap hx]; rfl, by rw [cell_of_heap hx]; rfl, by rw [cell_of_heap hx]; rfl⟩
  go_enter Tryz.func111, Tryz.ntmps111
  go_wp2
  -- LOOP
  obtain ⟨REST, hREST⟩ : ∃ X, (linkPar ns i n && (linkDoc ns i n && (linkSha ns i n && (linkHos ns i n && kidsGo (n.kind == 9) 0 0 (n.kids.map (kindAt ns)))))) = X := ⟨_, rfl⟩
  rw [hREST] at HE
  have HREST := hid hREST
  clear hREST c0 c1 c2 c3 c4 c5 c6 c7 c8 c9 c10 c11 c12 c13 c14 c15
  go_loopw [25] (fun t wr => ∃ k : Nat, k ≤ n.kids.length ∧ t = .int .i64 k ∧ Hid (Below (w.heap.size + 1 + 1) ((w.alloc (.cells #[.slice (some ⟨b, off, none⟩) ns.length cap] 24)).alloc (.cells #[.int .u8 (n.kind : Int), .string n.space, .string n.pre, .string n.loc, .string n.pub, .string n.sys, .slice od n.data.length cd, .slice oa n.attrs.length ca, .int .i64 n.parent, .slice ok n.kids.length ck, .int .i64 n.doc, .int .i64 n.host, .int .i64 n.shadow, .int .u8 (n.mode : Int), .bool n.manual, .bool n.html] 64)) wr) ∧ Hid (((n.kids.drop k).all (linkKid ns i n) && REST) = R)) (fun t _ => n.kids.length - (RowKit.intOf t).toNat)
  case atStart => exact ⟨0, Nat.zero_le _, rfl, Below.refl _ _, HE⟩
  case round =>
    obtain ⟨k, hk, rfl, hB, hr⟩ := hrel
    clear HE
    obtain ⟨z0, z1, z2, z3, z4, z5, z6⟩ := Hbox.out _ hB.out
    by_cases hlt : k < n.kids.length
    · as_aux_lemma =>
      obtain ⟨bk, offk, rfl, hltk, hak⟩ := gk (by omega)
      have x1 := ((bx2_below hB.out).cell (p := ⟨bk, offk + k, none⟩) hltk).trans (hak k hlt)
      have q3 : (0 : Int) ≤ (k : Int) := by omega
      have q4 : (k : Int) < (n.kids.length : Int) := by omega
      have hrr := hr.out
      rw [List.drop_eq_getElem_cons hlt, List.all_cons] at hrr
      have Hrr := hid hrr
      have HLK : Hid (linkKid ns i n n.kids[k] = (thereB ns.length n.kids[k] && (nodeOrNone ns n.kids[k]).parent == (i : Int) + 1 && countI n.kids n.kids[k] == 1 && (nodeOrNone ns n.kids[k]).doc == n.doc)) := rfl
      have hN := HN.out n.kids[k] wr (bx2_below hB.out)
      have HCt : Hid (∀ W : World, Below w.heap.size w W → _) := fun W hW => refCount_any (.slice (some ⟨bk, offk, none⟩) n.kids.length ck) n.kids n.kids[k] W (Hk.out.later hW) hkl'
      clear hrr hr hak gk HREST
      generalize linkKid ns i n n.kids[k] = LK at *
      generalize nodeOrNone ns n.kids[k] = m at *
      have ec := count_one (countI n.kids n.kids[k])
      generalize countI n.kids n.kids[k] = cc at *
      cases ht : thereB ns.length n.kids[k] with
      | false =>
        have hRf : R = false := by rw [← Hrr.out, HLK.out, ht]; rfl
        subst hRf
        rw [ht] at hN
        clear Hrr HLK ht HCt ec
        generalize n.kids[k] = z at *
        go_wp2_with fail
        refine hN.mono ?_
        clear hN
        rintro e v1 ⟨L1, rfl, r1, r2, r3, hb⟩
        obtain ⟨od1, cd1, oa1, ca1, ok1, ck1, rfl⟩ := lists_slices r1 r2 r3
        have HB1 := hid (bx2_next hB.out hb)
        have Hr1 := hid r3
        clear hb r1 r2 r3
        unfold nodeV
        have HC1 := hid (bx2_new HB1.out (.cells #[.int .u8 (m.kind : Int), .string m.space, .string m.pre, .string m.loc, .string m.pub, .string m.sys, .slice od1 m.data.length cd1, .slice oa1 m.attrs.length ca1, .int .i64 m.parent, .slice ok1 m.kids.length ck1, .int .i64 m.doc, .int .i64 m.host, .int .i64 m.shadow, .int .u8 (m.mode : Int), .bool m.manual, .bool m.html] 64))
        obtain ⟨y0, y1, y2, y3, y4, y5, y6⟩ := Hbox.out _ HC1.out
        go_wp2
        go_ret
        exact ⟨rfl, bx2_below HC1.out⟩
      | true =>
        rw [ht] at hN HLK
        clear ht
        generalize n.kids[k] = z at *
        cases hp : (m.parent == (i : Int) + 1) with
        | false =>
          have hRf : R = false := by rw [← Hrr.out, HLK.out, hp]; rfl
          subst hRf
          have hp' : (m.parent != (i : Int) + 1) = true := ne_of_beq hp
          clear Hrr HLK HCt ec
          go_wp2_with fail
          refine hN.mono ?_
          clear hN
          rintro e v1 ⟨L1, rfl, r1, r2, r3, hb⟩
          obtain ⟨od1, cd1, oa1, ca1, ok1, ck1, rfl⟩ := lists_slices r1 r2 r3
          have HB1 := hid (bx2_next hB.out hb)
          have Hr1 := hid r3
          clear hb r1 r2 r3
          unfold nodeV
          have HC1 := hid (bx2_new HB1.out (.cells #[.int .u8 (m.kind : Int), .string m.space, .string m.pre, .string m.loc, .string m.pub, .string m.sys, .slice od1 m.data.length cd1, .slice oa1 m.attrs.length ca1, .int .i64 m.parent, .slice ok1 m.kids.length ck1, .int .i64 m.doc, .int .i64 m.host, .int .i64 m.shadow, .int .u8 (m.mode : Int), .bool m.manual, .bool m.html] 64))
          obtain ⟨y0, y1, y2, y3, y4, y5, y6⟩ := Hbox.out _ HC1.out
          go_wp2
          go_ret
          exact ⟨rfl, bx2_below HC1.out⟩
        | true =>
          rw [hp] at HLK
          have hp' : (m.parent != (i : Int) + 1) = false := ne_of_beq hp
          cases hcc : (cc == 1) with
          | false =>
            have hRf : R = false := by rw [← Hrr.out, HLK.out, hcc]; rfl
            subst hRf
            have hc' : ((cc : Int) != 1) = true := ne_of_beq (ec.trans hcc)
            clear Hrr HLK ec
            go_wp2_with fail
            refine hN.mono ?_
            clear hN
            rintro e v1 ⟨L1, rfl, r1, r2, r3, hb⟩
            obtain ⟨od1, cd1, oa1, ca1, ok1, ck1, rfl⟩ := lists_slices r1 r2 r3
            have HB1 := hid (bx2_next hB.out hb)
            have Hr1 := hid r3
            clear hb r1 r2 r3
            unfold nodeV
            have HC1 := hid (bx2_new HB1.out (.cells #[.int .u8 (m.kind : Int), .string m.space, .string m.pre, .string m.loc, .string m.pub, .string m.sys, .slice od1 m.data.length cd1, .slice oa1 m.attrs.length ca1, .int .i64 m.parent, .slice ok1 m.kids.length ck1, .int .i64 m.doc, .int .i64 m.host, .int .i64 m.shadow, .int .u8 (m.mode : Int), .bool m.manual, .bool m.html] 64))
            obtain ⟨y0, y1, y2, y3, y4, y5, y6⟩ := Hbox.out _ HC1.out
            have hCt := HCt.out _ (bx2_below HC1.out)
            go_wp2_with fail
            refine hCt.mono ?_
            clear hCt
            rintro e v9 ⟨rfl, rfl⟩
            go_wp2
            go_ret
            exact ⟨rfl, bx2_below HC1.out⟩
          | true =>
            rw [hcc] at HLK
            have hc' : ((cc : Int) != 1) = false := ne_of_beq (ec.trans hcc)
            cases hdd : (m.doc == n.doc) with
            | false =>
              have hRf : R = false := by rw [← Hrr.out, HLK.out, hdd]; rfl
              subst hRf
              have hd' : (m.doc != n.doc) = true := ne_of_beq hdd
              clear Hrr HLK ec
              go_wp2_with fail
              refine hN.mono ?_
              clear hN
              rintro e v1 ⟨L1, rfl, r1, r2, r3, hb⟩
              obtain ⟨od1, cd1, oa1, ca1, ok1, ck1, rfl⟩ := lists_slices r1 r2 r3
              have HB1 := hid (bx2_next hB.out hb)
              have Hr1 := hid r3
              clear hb r1 r2 r3
              unfold nodeV
              have HC1 := hid (bx2_new HB1.out (.cells #[.int .u8 (m.kind : Int), .string m.space, .string m.pre, .string m.loc, .string m.pub, .string m.sys, .slice od1 m.data.length cd1, .slice oa1 m.attrs.length ca1, .int .i64 m.parent, .slice ok1 m.kids.length ck1, .int .i64 m.doc, .int .i64 m.host, .int .i64 m.shadow, .int .u8 (m.mode : Int), .bool m.manual, .bool m.html] 64))
              obtain ⟨y0, y1, y2, y3, y4, y5, y6⟩ := Hbox.out _ HC1.out
              have hCt := HCt.out _ (bx2_below HC1.out)
              go_wp2_with fail
              refine hCt.mono ?_
              clear hCt
              rintro e v9 ⟨rfl, rfl⟩
              go_wp2
              go_ret
              exact ⟨rfl, bx2_below HC1.out⟩
            | true =>
              have Hn : Hid (((n.kids.drop (k + 1)).all (linkKid ns i n) && REST) = R) := by
                have h := Hrr.out
                rw [HLK.out, hdd] at h
                exact h
              have hd' : (m.doc != n.doc) = false := ne_of_beq hdd
              clear Hrr HLK ec
              go_wp2_with fail
              refine hN.mono ?_
              clear hN
              rintro e v1 ⟨L1, rfl, r1, r2, r3, hb⟩
              obtain ⟨od1, cd1, oa1, ca1, ok1, ck1, rfl⟩ := lists_slices r1 r2 r3
              have HB1 := hid (bx2_next hB.out hb)
              have Hr1 := hid r3
              clear hb r1 r2 r3
              unfold nodeV
              have HC1 := hid (bx2_new HB1.out (.cells #[.int .u8 (m.kind : Int), .string m.space, .string m.pre, .string m.loc, .string m.pub, .string m.sys, .slice od1 m.data.length cd1, .slice oa1 m.attrs.length ca1, .int .i64 m.parent, .slice ok1 m.kids.length ck1, .int .i64 m.doc, .int .i64 m.host, .int .i64 m.shadow, .int .u8 (m.mode : Int), .bool m.manual, .bool m.html] 64))
              obtain ⟨y0, y1, y2, y3, y4, y5, y6⟩ := Hbox.out _ HC1.out
              have hCt := HCt.out _ (bx2_below HC1.out)
              go_wp2_with fail
              refine hCt.mono ?_
              clear hCt
              rintro e v9 ⟨rfl, rfl⟩
              go_wp2
              go_roundw
              case rel => exact ⟨k + 1, by omega, by go_num, HC1, Hn⟩
              case measure => simp [RowKit.intOf]; omega
    · as_aux_lemma =>
      have HR0 : Hid (REST = R) := by
        have h := hr.out
        rw [List.drop_eq_nil_of_le (by omega), List.all_nil, Bool.true_and] at h
        exact h
      have Hk2 : Hid (∀ W : World, Below w.heap.size w W → RdI W (.slice ok n.kids.length ck) n.kids) := fun W hW => Hk.out.later hW
      clear hr gk hck
      have HPar : Hid (linkPar ns i n = (n.parent == 0 || (thereB ns.length n.parent && countI (nodeOrNone ns n.parent).kids ((i : Int) + 1) == 1))) := rfl
      have HDoc : Hid (linkDoc ns i n = (kindAt ns n.doc == 9 && !(n.kind == 9 && !(n.doc == (i : Int) + 1)))) := rfl
      have HSha : Hid (linkSha ns i n = (n.shadow == 0 || (thereB ns.length n.shadow && (nodeOrNone ns n.shadow).kind == 12 && (nodeOrNone ns n.shadow).host == (i : Int) + 1))) := rfl
      have HHos : Hid (linkHos ns i n = (!(n.kind == 12) || (thereB ns.length n.host && (nodeOrNone ns n.host).kind == 1 && (nodeOrNone ns n.host).shadow == (i : Int) + 1 && (nodeOrNone ns n.host).doc == n.doc))) := rfl
      generalize linkPar ns i n = P at *
      generalize linkDoc ns i n = DC at *
      generalize linkSha ns i n = SH at *
      generalize linkHos ns i n = HO at *
      have HRR : Hid ((P && (DC && (SH && (HO && kidsGo (n.kind == 9) 0 0 (n.kids.map (kindAt ns)))))) = R) := by
        show _ = R
        rw [HREST.out, HR0.out]
      clear HREST HR0
      have en9 : ((n.kind : Int) == 9) = (n.kind == 9) := beq_cast n.kind 9
      have en12 : ((n.kind : Int) == 12) = (n.kind == 12) := beq_cast n.kind 12
      have HG : Hid (∀ W : World, Below w.heap.size w W → _) := fun W hW => HS.out n.kind (.slice ok n.kids.length ck) n.kids W hW (Hk2.out W hW) hkl'
      clear HS
      go_upto_if 60 with fail
      go_cut [] (fun wx => P = true ∧ Hid (Below (w.heap.size + 1 + 1) ((w.alloc (.cells #[.slice (some ⟨b, off, none⟩) ns.length cap] 24)).alloc (.cells #[.int .u8 (n.kind : Int), .string n.space, .string n.pre, .string n.loc, .string n.pub, .string n.sys, .slice od n.data.length cd, .slice oa n.attrs.length ca, .int .i64 n.parent, .slice ok n.kids.length ck, .int .i64 n.doc, .int .i64 n.host, .int .i64 n.shadow, .int .u8 (n.mode : Int), .bool n.manual, .bool n.html] 64)) wx))
      case first => as_aux_lemma =>
        have hN := HN.out n.parent _ (bx2_below hB.out)
        have hKl := HKL.out n.parent
        generalize nodeOrNone ns n.parent = m at *
        cases hp0 : (n.parent == 0) with
        | true =>
          have hp' : (n.parent != 0) = false := ne_of_beq hp0
          have hP : P = true := by rw [HPar.out, hp0]; rfl
          clear HPar hN
          go_wp2_with fail
          go_meet
          exact ⟨hP, hB⟩
        | false =>
          have hp' : (n.parent != 0) = true := ne_of_beq hp0
          rw [hp0] at HPar
          cases ht : thereB ns.length n.parent with
          | false =>
            have hRf : R = false := by rw [← HRR.out, HPar.out, ht]; rfl
            subst hRf
            rw [ht] at hN
            clear HRR HPar
            go_wp2_with fail
            refine hN.mono ?_
            clear hN
            rintro e v1 ⟨L1, rfl, r1, r2, r3, hb⟩
            obtain ⟨od1, cd1, oa1, ca1, ok1, ck1, rfl⟩ := lists_slices r1 r2 r3
            have HB1 := hid (bx2_next hB.out hb)
            have Hr1 := hid r3
            clear hb r1 r2 r3
            unfold nodeV
            have HC1 := hid (bx2_new HB1.out (.cells #[.int .u8 (m.kind : Int), .string m.space, .string m.pre, .string m.loc, .string m.pub, .string m.sys, .slice od1 m.data.length cd1, .slice oa1 m.attrs.length ca1, .int .i64 m.parent, .slice ok1 m.kids.length ck1, .int .i64 m.doc, .int .i64 m.host, .int .i64 m.shadow, .int .u8 (m.mode : Int), .bool m.manual, .bool m.html] 64))
            obtain ⟨y0, y1, y2, y3, y4, y5, y6⟩ := Hbox.out _ HC1.out
            go_wp2
            go_ret
            exact ⟨rfl, bx2_below HC1.out⟩
          | true =>
            rw [ht] at hN HPar
            have ec := count_one (countI m.kids ((i : Int) + 1))
            have HCt : Hid (∀ (v : Value) (W : World), RdI W v m.kids → _) := fun v W hv => refCount_any v m.kids ((i : Int) + 1) W hv hKl
            generalize countI m.kids ((i : Int) + 1) = cc at *
            cases hcc : (cc == 1) with
            | false =>
              have hRf : R = false := by rw [← HRR.out, HPar.out, hcc]; rfl
              subst hRf
              have hc' : ((cc : Int) != 1) = true := ne_of_beq (ec.trans hcc)
              clear HRR HPar
              go_wp2_with fail
              refine hN.mono ?_
              clear hN
              rintro e v1 ⟨L1, rfl, r1, r2, r3, hb⟩
              obtain ⟨od1, cd1, oa1, ca1, ok1, ck1, rfl⟩ := lists_slices r1 r2 r3
              have HB1 := hid (bx2_next hB.out hb)
              have Hr1 := hid r3
              clear hb r1 r2 r3
              unfold nodeV
              have HC1 := hid (bx2_new HB1.out (.cells #[.int .u8 (m.kind : Int), .string m.space, .string m.pre, .string m.loc, .string m.pub, .string m.sys, .slice od1 m.data.length cd1, .slice oa1 m.attrs.length ca1, .int .i64 m.parent, .slice ok1 m.kids.length ck1, .int .i64 m.doc, .int .i64 m.host, .int .i64 m.shadow, .int .u8 (m.mode : Int), .bool m.manual, .bool m.html] 64))
              obtain ⟨y0, y1, y2, y3, y4, y5, y6⟩ := Hbox.out _ HC1.out
              have hCt := HCt.out _ (v1.alloc (.cells #[.int .u8 (m.kind : Int), .string m.space, .string m.pre, .string m.loc, .string m.pub, .string m.sys, .slice od1 m.data.length cd1, .slice oa1 m.attrs.length ca1, .int .i64 m.parent, .slice ok1 m.kids.length ck1, .int .i64 m.doc, .int .i64 m.host, .int .i64 m.shadow, .int .u8 (m.mode : Int), .bool m.manual, .bool m.html] 64)) (Hr1.out.later ((Below.refl _ v1).alloc (Nat.le_refl _) _))
              go_wp2_with fail
              refine hCt.mono ?_
              clear hCt
              rintro e v9 ⟨rfl, rfl⟩
              go_wp2
              go_ret
              exact ⟨rfl, bx2_below HC1.out⟩
            | true =>
              have hP : P = true := by rw [HPar.out, hcc]; rfl
              have hc' : ((cc : Int) != 1) = false := ne_of_beq (ec.trans hcc)
              clear HPar
              go_wp2_with fail
              refine hN.mono ?_
              clear hN
              rintro e v1 ⟨L1, rfl, r1, r2, r3, hb⟩
              obtain ⟨od1, cd1, oa1, ca1, ok1, ck1, rfl⟩ := lists_slices r1 r2 r3
              have HB1 := hid (bx2_next hB.out hb)
              have Hr1 := hid r3
              clear hb r1 r2 r3
              unfold nodeV
              have HC1 := hid (bx2_new HB1.out (.cells #[.int .u8 (m.kind : Int), .string m.space, .string m.pre, .string m.loc, .string m.pub, .string m.sys, .slice od1 m.data.length cd1, .slice oa1 m.attrs.length ca1, .int .i64 m.parent, .slice ok1 m.kids.length ck1, .int .i64 m.doc, .int .i64 m.host, .int .i64 m.shadow, .int .u8 (m.mode : Int), .bool m.manual, .bool m.html] 64))
              obtain ⟨y0, y1, y2, y3, y4, y5, y6⟩ := Hbox.out _ HC1.out
              have hCt := HCt.out _ (v1.alloc (.cells #[.int .u8 (m.kind : Int), .string m.space, .string m.pre, .string m.loc, .string m.pub, .string m.sys, .slice od1 m.data.length cd1, .slice oa1 m.attrs.length ca1, .int .i64 m.parent, .slice ok1 m.kids.length ck1, .int .i64 m.doc, .int .i64 m.host, .int .i64 m.shadow, .int .u8 (m.mode : Int), .bool m.manual, .bool m.html] 64)) (Hr1.out.later ((Below.refl _ v1).alloc (Nat.le_refl _) _))
              go_wp2_with fail
              refine hCt.mono ?_
              clear hCt
              rintro e v9 ⟨rfl, rfl⟩
              go_wp2_with fail
              go_meet
              exact ⟨hP, HC1⟩
      case rest => as_aux_lemma =>
        obtain ⟨rfl, hB2⟩ := hcut
        clear hB HPar HKL z0 z1 z2 z3 z4 z5 z6
        have HRR2 : Hid ((DC && (SH && (HO && kidsGo (n.kind == 9) 0 0 (n.kids.map (kindAt ns))))) = R) := HRR.out
        clear HRR
        obtain ⟨z0, z1, z2, z3, z4, z5, z6⟩ := Hbox.out _ hB2.out
        go_upto_region 13 with fail
        go_cut [92] (fun t wx => t = .bool (!DC) ∧ Hid (Below (w.heap.size + 1 + 1) ((w.alloc (.cells #[.slice (some ⟨b, off, none⟩) ns.length cap] 24)).alloc (.cells #[.int .u8 (n.kind : Int), .string n.space, .string n.pre, .string n.loc, .string n.pub, .string n.sys, .slice od n.data.length cd, .slice oa n.attrs.length ca, .int .i64 n.parent, .slice ok n.kids.length ck, .int .i64 n.doc, .int .i64 n.host, .int .i64 n.shadow, .int .u8 (n.mode : Int), .bool n.manual, .bool n.html] 64)) wx))
        case first => as_aux_lemma =>
          have hD := HD.out n.doc _ (bx2_below hB2.out)
          have ek : ((kindAt ns n.doc : Int) == 9) = (kindAt ns n.doc == 9) := beq_cast _ 9
          generalize kindAt ns n.doc = kd at *
          cases hkd : (kd == 9) with
          | false =>
            have hD0 : DC = false := by rw [HDoc.out, hkd]; rfl
            have hk' : ((kd : Int) != 9) = true := ne_of_beq (ek.trans hkd)
            go_wp2_with fail
            refine hD.mono ?_
            clear hD
            rintro e v1 ⟨rfl, hb⟩
            have HB1 := hid (bx2_next hB2.out hb)
            clear hb
            obtain ⟨y0, y1, y2, y3, y4, y5, y6⟩ := Hbox.out _ HB1.out
            go_wp2_with fail
            go_meet
            exact ⟨by rw [hD0]; rfl, HB1⟩
          | true =>
            rw [hkd] at HDoc
            have hk' : ((kd : Int) != 9) = false := ne_of_beq (ek.trans hkd)
            cases hn9 : (n.kind == 9) with
            | false =>
              have hD0 : DC = true := by rw [HDoc.out, hn9]; rfl
              rw [hn9] at en9
              go_wp2_with fail
              refine hD.mono ?_
              clear hD
              rintro e v1 ⟨rfl, hb⟩
              have HB1 := hid (bx2_next hB2.out hb)
              clear hb
              obtain ⟨y0, y1, y2, y3, y4, y5, y6⟩ := Hbox.out _ HB1.out
              go_wp2_with fail
              go_meet
              exact ⟨by rw [hD0]; rfl, HB1⟩
            | true =>
              rw [hn9] at HDoc en9
              cases hdi : (n.doc == (i : Int) + 1) with
              | false =>
                have hD0 : DC = false := by rw [HDoc.out, hdi]; rfl
                have hd' : (n.doc != (i : Int) + 1) = true := ne_of_beq hdi
                go_wp2_with fail
                refine hD.mono ?_
                clear hD
                rintro e v1 ⟨rfl, hb⟩
                have HB1 := hid (bx2_next hB2.out hb)
                clear hb
                obtain ⟨y0, y1, y2, y3, y4, y5, y6⟩ := Hbox.out _ HB1.out
                go_wp2_with fail
                go_meet
                exact ⟨by rw [hD0]; rfl, HB1⟩
              | true =>
                have hD0 : DC = true := by rw [HDoc.out, hdi]; rfl
                have hd' : (n.doc != (i : Int) + 1) = false := ne_of_beq hdi
                go_wp2_with fail
                refine hD.mono ?_
                clear hD
                rintro e v1 ⟨rfl, hb⟩
                have HB1 := hid (bx2_next hB2.out hb)
                clear hb
                obtain ⟨y0, y1, y2, y3, y4, y5, y6⟩ := Hbox.out _ HB1.out
                go_wp2_with fail
                go_meet
                exact ⟨by rw [hD0]; rfl, HB1⟩
        case rest => as_aux_lemma =>
          obtain ⟨rfl, hB3⟩ := hcut
          clear hB2 HDoc HD z0 z1 z2 z3 z4 z5 z6
          obtain ⟨z0, z1, z2, z3, z4, z5, z6⟩ := Hbox.out _ hB3.out
          cases DC with
          | false =>
            have hRf : R = false := by rw [← HRR2.out]; rfl
            subst hRf
            clear HRR2
            go_wp2
            go_ret
            exact ⟨rfl, bx2_below hB3.out⟩
          | true =>
            have HRR3 : Hid ((SH && (HO && kidsGo (n.kind == 9) 0 0 (n.kids.map (kindAt ns)))) = R) := HRR2.out
            clear HRR2
            go_upto_if 95 with fail
            go_cut [] (fun wx => SH = true ∧ Hid (Below (w.heap.size + 1 + 1) ((w.alloc (.cells #[.slice (some ⟨b, off, none⟩) ns.length cap] 24)).alloc (.cells #[.int .u8 (n.kind : Int), .string n.space, .string n.pre, .string n.loc, .string n.pub, .string n.sys, .slice od n.data.length cd, .slice oa n.attrs.length ca, .int .i64 n.parent, .slice ok n.kids.length ck, .int .i64 n.doc, .int .i64 n.host, .int .i64 n.shadow, .int .u8 (n.mode : Int), .bool n.manual, .bool n.html] 64)) wx))
            case first => as_aux_lemma =>
              have hN := HN.out n.shadow _ (bx2_below hB3.out)
              generalize nodeOrNone ns n.shadow = m at *
              have em : ((m.kind : Int) == 12) = (m.kind == 12) := beq_cast m.kind 12
              cases hs0 : (n.shadow == 0) with
              | true =>
                have hp' : (n.shadow != 0) = false := ne_of_beq hs0
                have hS : SH = true := by rw [HSha.out, hs0]; rfl
                clear HSha hN
                go_wp2_with fail
                go_meet
                exact ⟨hS, hB3⟩
              | false =>
                have hp' : (n.shadow != 0) = true := ne_of_beq hs0
                rw [hs0] at HSha
                cases ht : thereB ns.length n.shadow with
                | false =>
                  have hRf : R = false := by rw [← HRR3.out, HSha.out, ht]; rfl
                  subst hRf
                  rw [ht] at hN
                  clear HRR3 HSha
                  go_wp2_with fail
                  refine hN.mono ?_
                  clear hN
                  rintro e v1 ⟨L1, rfl, r1, r2, r3, hb⟩
                  obtain ⟨od1, cd1, oa1, ca1, ok1, ck1, rfl⟩ := lists_slices r1 r2 r3
                  have HB1 := hid (bx2_next hB3.out hb)
                  have Hr1 := hid r3
                  clear hb r1 r2 r3
                  unfold nodeV
                  have HC1 := hid (bx2_new HB1.out (.cells #[.int .u8 (m.kind : Int), .string m.space, .string m.pre, .string m.loc, .string m.pub, .string m.sys, .slice od1 m.data.length cd1, .slice oa1 m.attrs.length ca1, .int .i64 m.parent, .slice ok1 m.kids.length ck1, .int .i64 m.doc, .int .i64 m.host, .int .i64 m.shadow, .int .u8 (m.mode : Int), .bool m.manual, .bool m.html] 64))
                  obtain ⟨y0, y1, y2, y3, y4, y5, y6⟩ := Hbox.out _ HC1.out
                  go_wp2
                  go_ret
                  exact ⟨rfl, bx2_below HC1.out⟩
                | true =>
                  rw [ht] at hN HSha
                  cases hm : (m.kind == 12) with
                  | false =>
                    have hRf : R = false := by rw [← HRR3.out, HSha.out, hm]; rfl
                    subst hRf
                    have hm' : ((m.kind : Int) != 12) = true := ne_of_beq (em.trans hm)
                    clear HRR3 HSha
                    go_wp2_with fail
                    refine hN.mono ?_
                    clear hN
                    rintro e v1 ⟨L1, rfl, r1, r2, r3, hb⟩
                    obtain ⟨od1, cd1, oa1, ca1, ok1, ck1, rfl⟩ := lists_slices r1 r2 r3
                    have HB1 := hid (bx2_next hB3.out hb)
                    have Hr1 := hid r3
                    clear hb r1 r2 r3
                    unfold nodeV
                    have HC1 := hid (bx2_new HB1.out (.cells #[.int .u8 (m.kind : Int), .string m.space, .string m.pre, .string m.loc, .string m.pub, .string m.sys, .slice od1 m.data.length cd1, .slice oa1 m.attrs.length ca1, .int .i64 m.parent, .slice ok1 m.kids.length ck1, .int .i64 m.doc, .int .i64 m.host, .int .i64 m.shadow, .int .u8 (m.mode : Int), .bool m.manual, .bool m.html] 64))
                    obtain ⟨y0, y1, y2, y3, y4, y5, y6⟩ := Hbox.out _ HC1.out
                    go_wp2
                    go_ret
                    exact ⟨rfl, bx2_below HC1.out⟩
                  | true =>
                    rw [hm] at HSha
                    have hm' : ((m.kind : Int) != 12) = false := ne_of_beq (em.trans hm)
                    cases hh : (m.host == (i : Int) + 1) with
                    | false =>
                      have hRf : R = false := by rw [← HRR3.out, HSha.out, hh]; rfl
                      subst hRf
                      have hh' : (m.host != (i : Int) + 1) = true := ne_of_beq hh
                      clear HRR3 HSha
                      go_wp2_with fail
                      refine hN.mono ?_
                      clear hN
                      rintro e v1 ⟨L1, rfl, r1, r2, r3, hb⟩
                      obtain ⟨od1, cd1, oa1, ca1, ok1, ck1, rfl⟩ := lists_slices r1 r2 r3
                      have HB1 := hid (bx2_next hB3.out hb)
                      have Hr1 := hid r3
                      clear hb r1 r2 r3
                      unfold nodeV
                      have HC1 := hid (bx2_new HB1.out (.cells #[.int .u8 (m.kind : Int), .string m.space, .string m.pre, .string m.loc, .string m.pub, .string m.sys, .slice od1 m.data.length cd1, .slice oa1 m.attrs.length ca1, .int .i64 m.parent, .slice ok1 m.kids.length ck1, .int .i64 m.doc, .int .i64 m.host, .int .i64 m.shadow, .int .u8 (m.mode : Int), .bool m.manual, .bool m.html] 64))
                      obtain ⟨y0, y1, y2, y3, y4, y5, y6⟩ := Hbox.out _ HC1.out
                      go_wp2
                      go_ret
                      exact ⟨rfl, bx2_below HC1.out⟩
                    | true =>
                      have hS : SH = true := by rw [HSha.out, hh]; rfl
                      have hh' : (m.host != (i : Int) + 1) = false := ne_of_beq hh
                      clear HSha
                      go_wp2_with fail
                      refine hN.mono ?_
                      clear hN
                      rintro e v1 ⟨L1, rfl, r1, r2, r3, hb⟩
                      obtain ⟨od1, cd1, oa1, ca1, ok1, ck1, rfl⟩ := lists_slices r1 r2 r3
                      have HB1 := hid (bx2_next hB3.out hb)
                      have Hr1 := hid r3
                      clear hb r1 r2 r3
                      unfold nodeV
                      have HC1 := hid (bx2_new HB1.out (.cells #[.int .u8 (m.kind : Int), .string m.space, .string m.pre, .string m.loc, .string m.pub, .string m.sys, .slice od1 m.data.length cd1, .slice oa1 m.attrs.length ca1, .int .i64 m.parent, .slice ok1 m.kids.length ck1, .int .i64 m.doc, .int .i64 m.host, .int .i64 m.shadow, .int .u8 (m.mode : Int), .bool m.manual, .bool m.html] 64))
                      obtain ⟨y0, y1, y2, y3, y4, y5, y6⟩ := Hbox.out _ HC1.out
                      go_wp2_with fail
                      go_meet
                      exact ⟨hS, HC1⟩
            case rest => as_aux_lemma =>
              obtain ⟨rfl, hB4⟩ := hcut
              clear hB3 HSha z0 z1 z2 z3 z4 z5 z6
              have HRR4 : Hid ((HO && kidsGo (n.kind == 9) 0 0 (n.kids.map (kindAt ns))) = R) := HRR3.out
              clear HRR3
              obtain ⟨z0, z1, z2, z3, z4, z5, z6⟩ := Hbox.out _ hB4.out
              go_upto_if 118 with fail
              go_cut [] (fun wx => HO = true ∧ Hid (Below (w.heap.size + 1 + 1) ((w.alloc (.cells #[.slice (some ⟨b, off, none⟩) ns.length cap] 24)).alloc (.cells #[.int .u8 (n.kind : Int), .string n.space, .string n.pre, .string n.loc, .string n.pub, .string n.sys, .slice od n.data.length cd, .slice oa n.attrs.length ca, .int .i64 n.parent, .slice ok n.kids.length ck, .int .i64 n.doc, .int .i64 n.host, .int .i64 n.shadow, .int .u8 (n.mode : Int), .bool n.manual, .bool n.html] 64)) wx))
              case first => as_aux_lemma =>
                have hN := HN.out n.host _ (bx2_below hB4.out)
                generalize nodeOrNone ns n.host = m at *
                have em : ((m.kind : Int) == 1) = (m.kind == 1) := beq_cast m.kind 1
                cases hs0 : (n.kind == 12) with
                | false =>
                  rw [hs0] at en12
                  have hS : HO = true := by rw [HHos.out, hs0]; rfl
                  clear HHos hN
                  go_wp2_with fail
                  go_meet
                  exact ⟨hS, hB4⟩
                | true =>
                  rw [hs0] at en12 HHos
                  cases ht : thereB ns.length n.host with
                  | false =>
                    have hRf : R = false := by rw [← HRR4.out, HHos.out, ht]; rfl
                    subst hRf
                    rw [ht] at hN
                    clear HRR4 HHos
                    go_wp2_with fail
                    refine hN.mono ?_
                    clear hN
                    rintro e v1 ⟨L1, rfl, r1, r2, r3, hb⟩
                    obtain ⟨od1, cd1, oa1, ca1, ok1, ck1, rfl⟩ := lists_slices r1 r2 r3
                    have HB1 := hid (bx2_next hB4.out hb)
                    have Hr1 := hid r3
                    clear hb r1 r2 r3
                    unfold nodeV
                    have HC1 := hid (bx2_new HB1.out (.cells #[.int .u8 (m.kind : Int), .string m.space, .string m.pre, .string m.loc, .string m.pub, .string m.sys, .slice od1 m.data.length cd1, .slice oa1 m.attrs.length ca1, .int .i64 m.parent, .slice ok1 m.kids.length ck1, .int .i64 m.doc, .int .i64 m.host, .int .i64 m.shadow, .int .u8 (m.mode : Int), .bool m.manual, .bool m.html] 64))
                    obtain ⟨y0, y1, y2, y3, y4, y5, y6⟩ := Hbox.out _ HC1.out
                    go_wp2
                    go_ret
                    exact ⟨rfl, bx2_below HC1.out⟩
                  | true =>
                    rw [ht] at hN HHos
                    cases hm : (m.kind == 1) with
                    | false =>
                      have hRf : R = false := by rw [← HRR4.out, HHos.out, hm]; rfl
                      subst hRf
                      have hm' : ((m.kind : Int) != 1) = true := ne_of_beq (em.trans hm)
                      clear HRR4 HHos
                      go_wp2_with fail
                      refine hN.mono ?_
                      clear hN
                      rintro e v1 ⟨L1, rfl, r1, r2, r3, hb⟩
                      obtain ⟨od1, cd1, oa1, ca1, ok1, ck1, rfl⟩ := lists_slices r1 r2 r3
                      have HB1 := hid (bx2_next hB4.out hb)
                      have Hr1 := hid r3
                      clear hb r1 r2 r3
                      unfold nodeV
                      have HC1 := hid (bx2_new HB1.out (.cells #[.int .u8 (m.kind : Int), .string m.space, .string m.pre, .string m.loc, .string m.pub, .string m.sys, .slice od1 m.data.length cd1, .slice oa1 m.attrs.length ca1, .int .i64 m.parent, .slice ok1 m.kids.length ck1, .int .i64 m.doc, .int .i64 m.host, .int .i64 m.shadow, .int .u8 (m.mode : Int), .bool m.manual, .bool m.html] 64))
                      obtain ⟨y0, y1, y2, y3, y4, y5, y6⟩ := Hbox.out _ HC1.out
                      go_wp2
                      go_ret
                      exact ⟨rfl, bx2_below HC1.out⟩
                    | true =>
                      rw [hm] at HHos
                      have hm' : ((m.kind : Int) != 1) = false := ne_of_beq (em.trans hm)
                      cases hh : (m.shadow == (i : Int) + 1) with
                      | false =>
                        have hRf : R = false := by rw [← HRR4.out, HHos.out, hh]; rfl
                        subst hRf
                        have hh' : (m.shadow != (i : Int) + 1) = true := ne_of_beq hh
                        clear HRR4 HHos
                        go_wp2_with fail
                        refine hN.mono ?_
                        clear hN
                        rintro e v1 ⟨L1, rfl, r1, r2, r3, hb⟩
                        obtain ⟨od1, cd1, oa1, ca1, ok1, ck1, rfl⟩ := lists_slices r1 r2 r3
                        have HB1 := hid (bx2_next hB4.out hb)
                        have Hr1 := hid r3
                        clear hb r1 r2 r3
                        unfold nodeV
                        have HC1 := hid (bx2_new HB1.out (.cells #[.int .u8 (m.kind : Int), .string m.space, .string m.pre, .string m.loc, .string m.pub, .string m.sys, .slice od1 m.data.length cd1, .slice oa1 m.attrs.length ca1, .int .i64 m.parent, .slice ok1 m.kids.length ck1, .int .i64 m.doc, .int .i64 m.host, .int .i64 m.shadow, .int .u8 (m.mode : Int), .bool m.manual, .bool m.html] 64))
                        obtain ⟨y0, y1, y2, y3, y4, y5, y6⟩ := Hbox.out _ HC1.out
                        go_wp2
                        go_ret
                        exact ⟨rfl, bx2_below HC1.out⟩
                      | true =>
                        rw [hh] at HHos
                        have hh' : (m.shadow != (i : Int) + 1) = false := ne_of_beq hh
                        cases hdd : (m.doc == n.doc) with
                        | false =>
                          have hRf : R = false := by rw [← HRR4.out, HHos.out, hdd]; rfl
                          subst hRf
                          have hd' : (m.doc != n.doc) = true := ne_of_beq hdd
                          clear HRR4 HHos
                          go_wp2_with fail
                          refine hN.mono ?_
                          clear hN
                          rintro e v1 ⟨L1, rfl, r1, r2, r3, hb⟩
                          obtain ⟨od1, cd1, oa1, ca1, ok1, ck1, rfl⟩ := lists_slices r1 r2 r3
                          have HB1 := hid (bx2_next hB4.out hb)
                          have Hr1 := hid r3
                          clear hb r1 r2 r3
                          unfold nodeV
                          have HC1 := hid (bx2_new HB1.out (.cells #[.int .u8 (m.kind : Int), .string m.space, .string m.pre, .string m.loc, .string m.pub, .string m.sys, .slice od1 m.data.length cd1, .slice oa1 m.attrs.length ca1, .int .i64 m.parent, .slice ok1 m.kids.length ck1, .int .i64 m.doc, .int .i64 m.host, .int .i64 m.shadow, .int .u8 (m.mode : Int), .bool m.manual, .bool m.html] 64))
                          obtain ⟨y0, y1, y2, y3, y4, y5, y6⟩ := Hbox.out _ HC1.out
                          go_wp2
                          go_ret
                          exact ⟨rfl, bx2_below HC1.out⟩
                        | true =>
                          have hS : HO = true := by rw [HHos.out, hdd]; rfl
                          have hd' : (m.doc != n.doc) = false := ne_of_beq hdd
                          clear HHos
                          go_wp2_with fail
                          refine hN.mono ?_
                          clear hN
                          rintro e v1 ⟨L1, rfl, r1, r2, r3, hb⟩
                          obtain ⟨od1, cd1, oa1, ca1, ok1, ck1, rfl⟩ := lists_slices r1 r2 r3
                          have HB1 := hid (bx2_next hB4.out hb)
                          have Hr1 := hid r3
                          clear hb r1 r2 r3
                          unfold nodeV
                          have HC1 := hid (bx2_new HB1.out (.cells #[.int .u8 (m.kind : Int), .string m.space, .string m.pre, .string m.loc, .string m.pub, .string m.sys, .slice od1 m.data.length cd1, .slice oa1 m.attrs.length ca1, .int .i64 m.parent, .slice ok1 m.kids.length ck1, .int .i64 m.doc, .int .i64 m.host, .int .i64 m.shadow, .int .u8 (m.mode : Int), .bool m.manual, .bool m.html] 64))
                          obtain ⟨y0, y1, y2, y3, y4, y5, y6⟩ := Hbox.out _ HC1.out
                          go_wp2_with fail
                          go_meet
                          exact ⟨hS, HC1⟩
              case rest => as_aux_lemma =>
                obtain ⟨rfl, hB5⟩ := hcut
                clear hB4 HHos z0 z1 z2 z3 z4 z5 z6
                have HRR5 : Hid (kidsGo (n.kind == 9) 0 0 (n.kids.map (kindAt ns)) = R) := HRR4.out
                clear HRR4
                obtain ⟨z0, z1, z2, z3, z4, z5, z6⟩ := Hbox.out _ hB5.out
                have hG := HG.out _ (bx2_below hB5.out)
                rw [HRR5.out] at hG
                clear HG HRR5 en9 en12
                go_wp2_with fail
                refine hG.mono ?_
                clear hG
                rintro e v1 ⟨rfl, hb⟩
                have HB1 := hid (bx2_next hB5.out hb)
                clear hb
                go_wp2
                go_ret
                exact ⟨rfl, bx2_below HB1.out⟩
end Go.Proofs.YtilacgcjbdkphaaGreat
