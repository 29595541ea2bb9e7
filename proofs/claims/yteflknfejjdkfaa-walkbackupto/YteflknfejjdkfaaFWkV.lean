/- walk: what a filter says of a node (verdict). -/
import Derived.Test.YteflknfejjdkfaaFWkA
namespace Go.Proofs.Yteflknfejjdkfaa
open Go.RowKit Go.Lib

theorem vheapW (w : World) (o : Obj) : (w.alloc o).heap[w.heap.size]? = some o := by
  show (w.heap.push o)[w.heap.size]? = some o
  exact Array.getElem?_push_size
theorem box3 {W V : World} {t : TypeId} {c0 c1 c2 : Value} (h : Below (W.alloc (.cells #[c0, c1, c2] t)).heap.size (W.alloc (.cells #[c0, c1, c2] t)) V) : V.cell? ⟨W.heap.size, 0, none⟩ = some c0 ∧ V.cell? ⟨W.heap.size, 1, none⟩ = some c1 ∧ V.cell? ⟨W.heap.size, 2, none⟩ = some c2 :=
  ⟨(h.cell (p := ⟨W.heap.size, 0, none⟩) (by simp)).trans (by simp), (h.cell (p := ⟨W.heap.size, 1, none⟩) (by simp)).trans (by simp), (h.cell (p := ⟨W.heap.size, 2, none⟩) (by simp)).trans (by simp)⟩
theorem box2 {W V : World} {t : TypeId} {c0 c1 : Value} {o : Obj} (h : Below (W.heap.size + 2) ((W.alloc (.cells #[c0, c1] t)).alloc o) V) : V.cell? ⟨W.heap.size, 0, none⟩ = some c0 ∧ V.cell? ⟨W.heap.size, 1, none⟩ = some c1 :=
  ⟨(h.cell (p := ⟨W.heap.size, 0, none⟩) (by simp)).trans (by simp), (h.cell (p := ⟨W.heap.size, 1, none⟩) (by simp)).trans (by simp)⟩
theorem box16 {W V : World} {t : TypeId} {o : Obj} {c0 c1 c2 c3 c4 c5 c6 c7 c8 c9 c10 c11 c12 c13 c14 c15 : Value} (h : Below (W.heap.size + 2) ((W.alloc o).alloc (.cells #[c0, c1, c2, c3, c4, c5, c6, c7, c8, c9, c10, c11, c12, c13, c14, c15] t)) V) :
    (V.cell? ⟨W.heap.size + 1, 0, none⟩ = some c0 ∧ V.cell? ⟨W.heap.size + 1, 1, none⟩ = some c1 ∧ V.cell? ⟨W.heap.size + 1, 2, none⟩ = some c2 ∧ V.cell? ⟨W.heap.size + 1, 3, none⟩ = some c3 ∧ V.cell? ⟨W.heap.size + 1, 4, none⟩ = some c4 ∧ V.cell? ⟨W.heap.size + 1, 5, none⟩ = some c5 ∧ V.cell? ⟨W.heap.size + 1, 6, none⟩ = some c6 ∧ V.cell? ⟨W.heap.size + 1, 7, none⟩ = some c7) ∧ V.cell? ⟨W.heap.size + 1, 8, none⟩ = some c8 ∧ V.cell? ⟨W.heap.size + 1, 9, none⟩ = some c9 ∧ V.cell? ⟨W.heap.size + 1, 10, none⟩ = some c10 ∧ V.cell? ⟨W.heap.size + 1, 11, none⟩ = some c11 ∧ V.cell? ⟨W.heap.size + 1, 12, none⟩ = some c12 ∧ V.cell? ⟨W.heap.size + 1, 13, none⟩ = some c13 ∧ V.cell? ⟨W.heap.size + 1, 14, none⟩ = some c14 ∧ V.cell? ⟨W.heap.size + 1, 15, none⟩ = some c15 := by
  have hn : V.heap[W.heap.size + 1]? = some (.cells #[c0, c1, c2, c3, c4, c5, c6, c7, c8, c9, c10, c11, c12, c13, c14, c15] t) := by
    have := vheapW (W.alloc o) (.cells #[c0, c1, c2, c3, c4, c5, c6, c7, c8, c9, c10, c11, c12, c13, c14, c15] t)
    rw [World.size_alloc] at this
    exact (h.block (W.heap.size + 1) (by omega)).trans this
  have hk : ∀ j : Nat, V.cell? ⟨W.heap.size + 1, j, none⟩ = #[c0, c1, c2, c3, c4, c5, c6, c7, c8, c9, c10, c11, c12, c13, c14, c15][j]? := fun j => by
    unfold World.cell?
    simp only [hn]
    exact if_neg (by decide)
  exact ⟨⟨(hk 0).trans rfl, (hk 1).trans rfl, (hk 2).trans rfl, (hk 3).trans rfl, (hk 4).trans rfl, (hk 5).trans rfl, (hk 6).trans rfl, (hk 7).trans rfl⟩, (hk 8).trans rfl, (hk 9).trans rfl, (hk 10).trans rfl, (hk 11).trans rfl, (hk 12).trans rfl, (hk 13).trans rfl, (hk 14).trans rfl, (hk 15).trans rfl⟩

set_option maxRecDepth 100000 in
set_option maxHeartbeats 8000000 in
theorem verdict_any (sh : Nat) (ro : Option Addr) (rc : Nat) (rules : List RuleD) (n : NodeD) (od oa ok : Option Addr) (nd cd na ca nk ck : Nat) (W : World) (hk : knownK n.kind = true) (hs : sh < 4294967296) (hr : RdR W (.slice ro rules.length rc) rules) (hf : rules.length ≤ 64) :
    Calls Try.prog 20 #[.agg #[.int .u32 (sh : Int), .slice ro rules.length rc], nodeV n ⟨.slice od nd cd, .slice oa na ca, .slice ok nk ck⟩] W fun e w' => e = .returned (.int .u8 (verdictD sh rules n.kind n.loc : Int)) ∧ Below W.heap.size W w' := by
  have HS : Hid (∀ V : World, _) := fun V => wshown_any sh n.kind V hk hs
  have HF : Hid (∀ (r : RuleD) (V : World), _) := fun r V => wfits_any r n od oa ok nd cd na ca nk ck V
  unfold verdictD
  have hB0 : ∀ o1 o2 : Obj, Below W.heap.size W ((W.alloc o1).alloc o2) := fun o1 o2 => ((Below.refl _ W).alloc (Nat.le_refl _) _).alloc (by simp) _
  have HB0 := hid hB0
  unfold nodeV ruleV at *
  cases hsh : shownB sh n.kind with
  | false =>
    rw [hsh] at HS
    rw [if_neg Bool.false_ne_true]
    clear hsh HF hr hB0
    obtain ⟨n0, n1, n2, n3, n4, n5, n6, n7, n8, n9, n10, n11, n12, n13, n14, n15⟩ := n
    simp only at *
    go_enter Try.func20, Try.ntmps20
    go_wp2_with (go_at_call 33; refine (HS.out _).mono ?_; rintro e v1 ⟨rfl, e1⟩; have e1 := e1.symm; subst e1)
    go_ret
    exact ⟨rfl, HB0.out _ _⟩
  | true =>
    rw [hsh] at HS
    rw [if_pos rfl]
    obtain ⟨R, hR⟩ : ∃ R, ruledD rules n.kind n.loc = R := ⟨_, rfl⟩
    rw [hR]
    have HR : Hid (ruledD (rules.drop 0) n.kind n.loc = R) := hR
    obtain ⟨ro', rc', hro, hcap, g⟩ := hr
    obtain ⟨rfl, rfl⟩ : ro' = ro ∧ rc' = rc := by
      simp only [Value.slice.injEq] at hro
      exact ⟨hro.1.symm, hro.2.2.symm⟩
    have G := hid g
    clear hsh hR g hro hB0 hk
    obtain ⟨n0, n1, n2, n3, n4, n5, n6, n7, n8, n9, n10, n11, n12, n13, n14, n15⟩ := n
    simp only at *
    go_enter Try.func20, Try.ntmps20
    go_wp2_with (go_at_call 33; refine (HS.out _).mono ?_; rintro e v1 ⟨rfl, e1⟩; have e1 := e1.symm; subst e1)
    go_loopw [16] (fun t wr => ∃ k : Nat, k ≤ rules.length ∧ t = .int .i64 k ∧ Hid (Below (W.heap.size + 2) ((W.alloc (.cells #[.int .u32 (sh : Int), .slice ro' rules.length rc'] 28)).alloc (.cells #[.int .u8 (n0 : Int), .string n1, .string n2, .string n3, .string n4, .string n5, .slice od nd cd, .slice oa na ca, .int .i64 n8, .slice ok nk ck, .int .i64 n10, .int .i64 n11, .int .i64 n12, .int .u8 (n13 : Int), .bool n14, .bool n15] 64)) wr) ∧ Hid (ruledD (rules.drop k) n0 n3 = R)) (fun t _ => rules.length - (RowKit.intOf t).toNat)
    case atStart => exact ⟨0, Nat.zero_le _, rfl, Below.refl _ _, HR⟩
    case round =>
      obtain ⟨k, k1, rfl, hB, hK⟩ := hrel
      have hsz := hB.out.size
      simp only [World.size_alloc] at hsz
      by_cases hlt : k < rules.length
      · obtain ⟨rb, roff, rfl, rlt, ra⟩ := G.out (by omega)
        have hBW := (HB0.out _ _).trans (hB.out.mono (by omega))
        obtain ⟨r0, r1, r2⟩ := (ra k hlt).later rlt hBW
        have q1 : (0 : Int) ≤ (k : Int) := by omega
        have q2 : (k : Int) < (rules.length : Int) := by omega
        have hkk := hK.out
        rw [List.drop_eq_getElem_cons hlt, ruledD] at hkk
        have Hk := hid hkk
        have hC := fun V => HF.out rules[k] V
        clear hkk hK ra G HF
        generalize rules[k] = r at *
        obtain ⟨y0, y1, y2⟩ := r
        simp only at *
        have hB2 : Below (W.heap.size + 2) ((W.alloc (.cells #[.int .u32 (sh : Int), .slice (some ⟨rb, roff, none⟩) rules.length rc'] 28)).alloc (.cells #[.int .u8 (n0 : Int), .string n1, .string n2, .string n3, .string n4, .string n5, .slice od nd cd, .slice oa na ca, .int .i64 n8, .slice ok nk ck, .int .i64 n10, .int .i64 n11, .int .i64 n12, .int .u8 (n13 : Int), .bool n14, .bool n15] 64)) (wr.alloc (.cells #[.int .u8 (y0 : Int), .string y1, .int .u8 (y2 : Int)] 70)) := hB.out.alloc hsz _
        obtain ⟨⟨c0, c1, c2, c3, c4, c5, c6, c7⟩, c8, c9, c10, c11, c12, c13, c14, c15⟩ := box16 hB2
        have HBW := hid hBW
        clear hB2 hBW
        cases hfit : fitsB ⟨y0, y1, y2⟩ n0 n3 with
        | true =>
          have hRy : R = y2 := by
            rw [← Hk.out, hfit, if_pos rfl]
          subst hRy
          rw [hfit] at hC
          clear Hk hfit
          go_wp2_with (go_at_call 34; refine (hC _).mono ?_; rintro e v1 ⟨rfl, hb1⟩; obtain ⟨f0, f1, f2⟩ := box3 hb1; have HB3 := hid (HBW.out.trans ((box_go hb1).mono HBW.out.size)); clear hb1)
          go_ret
          exact ⟨rfl, HB3.out⟩
        | false =>
          have Hn : Hid (ruledD (rules.drop (k + 1)) n0 n3 = R) := by
            have h := Hk.out
            rw [hfit, if_neg Bool.false_ne_true] at h
            exact h
          rw [hfit] at hC
          clear Hk hfit
          go_wp2_with (go_at_call 34; refine (hC _).mono ?_; rintro e v1 ⟨rfl, hb1⟩; have HB3 := hid (hB.out.trans ((box_go hb1).mono hsz)); clear hb1)
          go_roundw
          case rel => exact ⟨k + 1, by omega, by go_num, HB3, Hn⟩
          case measure => simp [RowKit.intOf]; omega
      · have hR1 : R = 1 := by
          rw [← hK.out, List.drop_eq_nil_of_le (by omega)]
          rfl
        subst hR1
        clear hK G HF
        go_wp2
        go_ret
        exact ⟨rfl, (HB0.out _ _).trans (hB.out.mono (by omega))⟩
end Go.Proofs.Yteflknfejjdkfaa
