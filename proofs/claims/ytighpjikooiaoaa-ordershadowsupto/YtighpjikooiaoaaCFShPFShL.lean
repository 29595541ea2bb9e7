/- The plain mathematics of OrderShadows: what lies in a node is a part, in order, of what lies in it through shadow trees. -/
/- OrderWithin's own walk. -/
/- OrderShadows' own walk. -/
/- OrderWithin, whole. -/
/- OrderShadows, whole. -/
import Derived.Test.YtighpjikooiaoaaCFR4JFDeepC
import Derived.Test.YtighpjikooiaoaaCFNextFHolds
import Derived.Test.YtighpjikooiaoaaCFConFTree
import Derived.Test.YtighpjikooiaoaaCFRangeFAllC
import Derived.Deep.DeepCutAuto
import Derived.Deep.QuietTactic
import Derived.BigQuiet
import Derived.Test.YtighpjikooiaoaaCFIntsFBegT
namespace Go.Proofs.Ytighpjikooiaoaa
open Go.RowKit Go.Lib Go.Shelf

theorem kids_sub (ns : List NodeD) (x : Int) : (kidsD ns x).Sublist (hangD ns x) := by
  unfold kidsD hangD
  cases nodeOf ns x with
  | none => exact List.Sublist.refl _
  | some n =>
    show n.kids.Sublist (if n.shadow == 0 then n.kids else n.shadow :: n.kids)
    split
    · exact List.Sublist.refl _
    · exact List.sublist_cons_self _ _
theorem flat_sub {f g : Int → List Int} (h : ∀ x, (f x).Sublist (g x)) {l m : List Int} (hl : l.Sublist m) : (l.flatMap f).Sublist (m.flatMap g) := by
  induction hl with
  | slnil => exact List.Sublist.refl _
  | cons a _ ih => rw [List.flatMap_cons]; exact ih.trans (List.sublist_append_right _ _)
  | cons_cons a _ ih => rw [List.flatMap_cons, List.flatMap_cons]; exact (h a).append ih
theorem below_sub (ns : List NodeD) : ∀ (f : Nat) (x : Int), (belowF (kidsD ns) f x).Sublist (belowF (hangD ns) f x)
  | 0, x => List.Sublist.refl _
  | f + 1, x => by
    rw [belowF, belowF]
    exact (flat_sub (below_sub ns f) (kids_sub ns x)).cons_cons x
theorem all_sub (ns : List NodeD) (x : Int) : (allD ns x).Sublist (deepD ns x) := below_sub ns _ x
/-- The place up to which the one list is met in the other one goes on. -/
theorem sub_cases {a b : Int} {s t : List Int} (h : (a :: s).Sublist (b :: t)) : (b = a → s.Sublist t) ∧ (b ≠ a → (a :: s).Sublist t) := by
  cases h with
  | cons _ h => exact ⟨fun _ => (List.sublist_cons_self a s).trans h, fun _ => h⟩
  | cons_cons _ h => exact ⟨fun _ => h, fun e => absurd rfl e⟩
theorem sub_next {l d : List Int} {i k : Nat} (h : (l.drop k).Sublist (d.drop i)) (hk : k < l.length) (hi : i < d.length) : (d[i] = l[k] → (l.drop (k + 1)).Sublist (d.drop (i + 1))) ∧ (d[i] ≠ l[k] → (l.drop k).Sublist (d.drop (i + 1))) := by
  rw [List.drop_eq_getElem_cons hk, List.drop_eq_getElem_cons hi] at h
  rw [List.drop_eq_getElem_cons hk]
  exact sub_cases h
theorem sub_end {l d : List Int} {i k : Nat} (h : (l.drop k).Sublist (d.drop i)) (hk : k ≤ l.length) (he : ¬ i < d.length) : k = l.length := by
  rw [List.drop_eq_nil_of_le (by omega : d.length ≤ i)] at h
  have := List.drop_eq_nil_iff.1 (List.sublist_nil.1 h)
  omega
theorem mem_deep {ns : List NodeD} (h : RightF ns) {x : Int} (hx : thereB ns.length x = true) (y : Int) : y ∈ deepD ns x ↔ thereB ns.length y = true ∧ x ∈ pathUp ns (overD ns) y := h.deepHang.below_iff (ns.length + 1) x y hx (by omega)
theorem holds_mem (ns : List NodeD) (a b : Int) : holdsD ns a b = true ↔ a ∈ pathUp ns (overD ns) b := by
  unfold holdsD
  rw [List.contains_eq_mem, decide_eq_true_iff]
theorem holds_deep {ns : List NodeD} (h : RightF ns) {a b : Int} (ha : thereB ns.length a = true) (hb : thereB ns.length b = true) : decide (0 ≤ idxI (deepD ns a) b 0) = holdsD ns a b := by
  rw [idxI_in]
  unfold holdsD
  rw [List.contains_eq_mem]
  exact decide_eq_decide.2 ⟨fun hm => ((mem_deep h ha b).1 hm).2, fun hm => (mem_deep h ha b).2 ⟨hb, hm⟩⟩
theorem holds_on {ns : List NodeD} (h : RightF ns) {a b c : Int} (hc : thereB ns.length c = true) (h1 : holdsD ns a b = true) (h2 : holdsD ns b c = true) : holdsD ns a c = true :=
  (holds_mem ns a c).2 (h.deepHang.trans hc ((holds_mem ns a b).1 h1) ((holds_mem ns b c).1 h2))
theorem top_up {ns : List NodeD} (h : RightF ns) : ∀ (n : Nat) (x : Int), (pathUp ns (overD ns) x).length ≤ n → thereB ns.length x = true → thereB ns.length (lastI (pathUp ns (overD ns) x)) = true ∧ overD ns (lastI (pathUp ns (overD ns) x)) = 0 ∧ lastI (pathUp ns (overD ns) x) ∈ pathUp ns (overD ns) x
  | 0, x, hn, hx => by rw [h.deepHang.head hx] at hn; simp at hn
  | n + 1, x, hn, hx => by
    have hh := h.deepHang.head hx
    by_cases hp : overD ns x = 0
    · rw [hh, hp, pathUp_zero]
      have e : lastI [x] = x := rfl
      rw [e]
      exact ⟨hx, hp, by simp⟩
    · have hpt := h.deepHang.up_there hx hp
      obtain ⟨a, b, c⟩ := top_up h n (overD ns x) (by rw [hh] at hn; simpa using hn) hpt
      have e : lastI (pathUp ns (overD ns) x) = lastI (pathUp ns (overD ns) (overD ns x)) := by
        rw [hh]
        exact lastI_append [x] _ (h.deepHang.ne_nil hpt)
      rw [e]
      exact ⟨a, b, by rw [hh]; exact List.mem_cons_of_mem _ c⟩
theorem top_top {ns : List NodeD} (h : RightF ns) {x : Int} (hx : thereB ns.length x = true) (h0 : overD ns x = 0) : lastI (pathUp ns (overD ns) x) = x := by
  rw [h.deepHang.head hx, h0, pathUp_zero]
  rfl
end Go.Proofs.Ytighpjikooiaoaa

namespace Go.Proofs.Ytighpjikooiaoaa
open Go.RowKit Go.Lib Go.Shelf

set_option maxRecDepth 100000 in
set_option maxHeartbeats 2000000 in
theorem place_any (v : Value) (l : List Int) (x : Int) (w : World) (hv : RdI w v l) (hl : l.length ≤ 1099511627776) :
    Calls Try.prog 9 #[v, .int .i64 x] w fun e w' => e = .returned (.int .i64 (idxI l x 0)) ∧ w' = w := by
  obtain ⟨o, c, rfl, hc, g⟩ := hv
  obtain ⟨N, hN⟩ : ∃ N, idxI l x 0 = N := ⟨_, rfl⟩
  rw [hN]
  have HN : Hid (idxI (l.drop 0) x 0 = N) := hN
  clear hN
  go_enter Try.func9, Try.ntmps9
  go_wp2
  go_loopw [5] (fun t wr => ∃ k : Nat, k ≤ l.length ∧ t = .int .i64 k ∧ wr = w ∧ Hid (idxI (l.drop k) x k = N)) (fun t _ => l.length - (RowKit.intOf t).toNat)
  case atStart => exact ⟨0, Nat.zero_le _, rfl, rfl, HN⟩
  case round =>
    obtain ⟨k, k1, rfl, rfl, hK⟩ := hrel
    by_cases hlt : k < l.length
    · obtain ⟨b, off, rfl, hlt1, ha⟩ := g (by omega)
      have x1 := ha k hlt
      have q1 : (0 : Int) ≤ (k : Int) := by omega
      have q2 : (k : Int) < (l.length : Int) := by omega
      have hk := hK.out
      rw [List.drop_eq_getElem_cons hlt, idxI] at hk
      have Hk := hid hk
      clear hk hK ha g
      generalize l[k] = a at *
      cases he : (a == x) with
      | true =>
        have hNk : N = (k : Int) := by
          rw [← Hk.out, he]
          rfl
        subst hNk
        clear Hk
        go_wp2
        go_ret
        exact ⟨rfl, rfl⟩
      | false =>
        have Hn : Hid (idxI (l.drop (k + 1)) x (k + 1) = N) := by
          have h := Hk.out
          rw [he, if_neg Bool.false_ne_true] at h
          exact h
        clear Hk
        go_wp2
        go_roundw
        case rel => exact ⟨k + 1, by omega, by go_num, trivial, Hn⟩
        case measure => simp [RowKit.intOf]; omega
    · have hNk : N = -1 := by
        rw [← hK.out, List.drop_eq_nil_of_le (by omega)]
        rfl
      subst hNk
      clear hK g
      go_wp2
      go_ret
      exact ⟨rfl, rfl⟩

end Go.Proofs.Ytighpjikooiaoaa

namespace Go.Proofs.Ytighpjikooiaoaa
open Go.RowKit Go.Lib Go.Shelf

set_option maxRecDepth 100000 in
set_option maxHeartbeats 16000000 in
theorem shadows_refused (o : Option Addr) (cap : Nat) (x y z t E : Int) (l d : List Int) (ns : List NodeD) (w : World) (hE : (E != 0) = true) (HBg : Hid (∀ W : World, Calls Try.prog 4 #[] W fun e w' => e = .returned (.bool true) ∧ Below W.heap.size W w')) (HA : Hid (∀ W : World, Below w.heap.size w W → Calls Try.prog 5 #[.agg #[.slice o ns.length cap], .int .i64 x] W fun e w' => ∃ v, e = .returned (.tuple #[v, .int .i64 E]) ∧ RdI w' v l ∧ Below W.heap.size W w')) (HD : Hid (∀ W : World, Below w.heap.size w W → Calls Try.prog 6 #[.agg #[.slice o ns.length cap], .int .i64 x] W fun e w' => ∃ v, e = .returned (.tuple #[v, .int .i64 E]) ∧ RdI w' v d ∧ Below W.heap.size W w')) (HT : Hid (∀ W : World, Below w.heap.size w W → Calls Try.prog 7 #[.agg #[.slice o ns.length cap], .int .i64 x] W fun e w' => e = .returned (.tuple #[.int .i64 t, .int .i64 E]) ∧ Below W.heap.size W w')) :
    Calls Try.prog 3 #[.agg #[.slice o ns.length cap], .int .i64 x, .int .i64 y, .int .i64 z] w fun e w' => e = .returned (.bool true) ∧ Below w.heap.size w w' := by
  go_enter Try.func3, Try.ntmps3
  go_wp2_with fail
  refine (HBg.out _).mono ?_
  rintro e v0 ⟨rfl, hb0⟩
  have HB0 := hid (box_go hb0)
  have cb0 := box_forest hb0
  have hs0 := hb0.size
  simp only [World.size_alloc] at hs0
  clear hb0 HBg
  go_wp2_with fail
  refine (HA.out _ HB0.out).mono ?_
  rintro e v1 ⟨vl, rfl, hl, hb⟩
  have HB1 := hid (HB0.out.trans (hb.mono HB0.out.size))
  have cb1 := (hb.cell (p := ⟨w.heap.size, 0, none⟩) (by show w.heap.size < v0.heap.size; omega)).trans cb0
  have hs1 := Nat.le_trans hs0 hb.size
  obtain ⟨ol, cl, rfl, hcl, _⟩ := hl
  clear hb cb0 HB0 hs0 HA
  go_wp2_with fail
  refine (HD.out _ HB1.out).mono ?_
  rintro e v2 ⟨vd, rfl, hd, hb⟩
  have HB2 := hid (HB1.out.trans (hb.mono HB1.out.size))
  have cb2 := (hb.cell (p := ⟨w.heap.size, 0, none⟩) (by show w.heap.size < v1.heap.size; omega)).trans cb1
  have hs2 := Nat.le_trans hs1 hb.size
  obtain ⟨od, cd, rfl, hcd, _⟩ := hd
  clear hb cb1 HB1 hs1 HD
  go_wp2_with fail
  refine (HT.out _ HB2.out).mono ?_
  rintro e v3 ⟨rfl, hb⟩
  have HB3 := hid (HB2.out.trans (hb.mono HB2.out.size))
  clear hb cb2 HB2 hs2 HT
  have hEE : (E == E) = true := beq_self_eq_true E
  go_wp2
  go_ret
  exact ⟨rfl, HB3.out⟩

set_option maxRecDepth 100000 in
set_option maxHeartbeats 16000000 in
theorem shadows_main (o : Option Addr) (cap : Nat) (x y z t E1 E2 E3 : Int) (X Y Z : Bool) (l d : List Int) (ns : List NodeD) (w : World) (hll : l.length ≤ 1099511627776) (hdl : d.length ≤ 1099511627776) (Hsub : Hid (l.Sublist d)) (HC : Hid ((E1 != 0) = true ∨ (E1 = 0 ∧ (E2 != 0) = true) ∨ (E1 = 0 ∧ E2 = 0 ∧ E3 = 0 ∧ X = decide (0 ≤ idxI d y 0) ∧ (X = true → Y = true → Z = true)))) (HBg : Hid (∀ W : World, Calls Try.prog 4 #[] W fun e w' => e = .returned (.bool true) ∧ Below W.heap.size W w')) (HA : Hid (∀ W : World, Below w.heap.size w W → Calls Try.prog 5 #[.agg #[.slice o ns.length cap], .int .i64 x] W fun e w' => ∃ v, e = .returned (.tuple #[v, .int .i64 0]) ∧ RdI w' v l ∧ Below W.heap.size W w')) (HD : Hid (∀ W : World, Below w.heap.size w W → Calls Try.prog 6 #[.agg #[.slice o ns.length cap], .int .i64 x] W fun e w' => ∃ v, e = .returned (.tuple #[v, .int .i64 0]) ∧ RdI w' v d ∧ Below W.heap.size W w')) (HT : Hid (∀ W : World, Below w.heap.size w W → Calls Try.prog 7 #[.agg #[.slice o ns.length cap], .int .i64 x] W fun e w' => e = .returned (.tuple #[.int .i64 t, .int .i64 0]) ∧ Below W.heap.size W w')) (H1 : Hid (∀ W : World, Below w.heap.size w W → Calls Try.prog 8 #[.agg #[.slice o ns.length cap], .int .i64 x, .int .i64 y] W fun e w' => e = .returned (.tuple #[.bool X, .int .i64 E1]) ∧ Below W.heap.size W w')) (H2 : Hid (∀ W : World, Below w.heap.size w W → Calls Try.prog 8 #[.agg #[.slice o ns.length cap], .int .i64 y, .int .i64 z] W fun e w' => e = .returned (.tuple #[.bool Y, .int .i64 E2]) ∧ Below W.heap.size W w')) (H3 : Hid (∀ W : World, Below w.heap.size w W → Calls Try.prog 8 #[.agg #[.slice o ns.length cap], .int .i64 x, .int .i64 z] W fun e w' => e = .returned (.tuple #[.bool Z, .int .i64 E3]) ∧ Below W.heap.size W w')) (HU : Hid (∀ W : World, Below w.heap.size w W → Calls Try.prog 8 #[.agg #[.slice o ns.length cap], .int .i64 t, .int .i64 x] W fun e w' => e = .returned (.tuple #[.bool true, .int .i64 0]) ∧ Below W.heap.size W w')) (HS : Hid (∀ W : World, Below w.heap.size w W → Calls Try.prog 7 #[.agg #[.slice o ns.length cap], .int .i64 t] W fun e w' => e = .returned (.tuple #[.int .i64 t, .int .i64 0]) ∧ Below W.heap.size W w')) :
    Calls Try.prog 3 #[.agg #[.slice o ns.length cap], .int .i64 x, .int .i64 y, .int .i64 z] w fun e w' => e = .returned (.bool true) ∧ Below w.heap.size w w' := by
  go_enter Try.func3, Try.ntmps3
  go_wp2_with fail
  refine (HBg.out _).mono ?_
  rintro e v0 ⟨rfl, hb0⟩
  have HB0 := hid (box_go hb0)
  have cb0 := box_forest hb0
  have hs0 := hb0.size
  simp only [World.size_alloc] at hs0
  clear hb0 HBg
  go_wp2_with fail
  refine (HA.out _ HB0.out).mono ?_
  rintro e v1 ⟨vl, rfl, hl, hb⟩
  have HB1 := hid (HB0.out.trans (hb.mono HB0.out.size))
  have cb1 := (hb.cell (p := ⟨w.heap.size, 0, none⟩) (by show w.heap.size < v0.heap.size; omega)).trans cb0
  have hs1 := Nat.le_trans hs0 hb.size
  have Hl := hid hl
  obtain ⟨ol, cl, rfl, hcl, _⟩ := hl
  clear hb cb0 HB0 hs0 HA
  go_wp2_with fail
  refine (HD.out _ HB1.out).mono ?_
  rintro e v2 ⟨vd, rfl, hd, hb⟩
  have HB2 := hid (HB1.out.trans (hb.mono HB1.out.size))
  have cb2 := (hb.cell (p := ⟨w.heap.size, 0, none⟩) (by show w.heap.size < v1.heap.size; omega)).trans cb1
  have hs2 := Nat.le_trans hs1 hb.size
  have Hl2 := hid (Hl.out.later hb)
  have Hd := hid hd
  obtain ⟨od, cd, rfl, hcd, _⟩ := hd
  clear hb cb1 HB1 hs1 HD Hl
  go_wp2_with fail
  refine (HT.out _ HB2.out).mono ?_
  rintro e v3 ⟨rfl, hb⟩
  have HB3 := hid (HB2.out.trans (hb.mono HB2.out.size))
  have cb3 := (hb.cell (p := ⟨w.heap.size, 0, none⟩) (by show w.heap.size < v2.heap.size; omega)).trans cb2
  have hs3 := Nat.le_trans hs2 hb.size
  have hl3 := Hl2.out.later hb
  have hd3 := Hd.out.later hb
  clear hb cb2 HB2 hs2 HT Hl2 Hd
  have Hd3 := hid hd3
  obtain ⟨o1, c1, e1, _, g1⟩ := hl3
  obtain ⟨o2, c2, e2, _, g2⟩ := hd3
  simp only [Value.slice.injEq] at e1 e2
  obtain ⟨rfl, _, rfl⟩ := e1
  obtain ⟨rfl, _, rfl⟩ := e2
  have G1 := hid g1
  have G2 := hid g2
  clear g1 g2
  go_wp2
  go_loopw [15, 16] (fun a i wr => ∃ k j m : Nat, k ≤ l.length ∧ j ≤ d.length ∧ a = .int .i64 k ∧ i = .int .i64 j ∧ wr = v3.drewN m ∧ Hid ((l.drop k).Sublist (d.drop j))) (fun _ i _ => d.length - (RowKit.intOf i).toNat)
  case atStart => exact ⟨0, 0, 0, Nat.zero_le _, Nat.zero_le _, rfl, rfl, rfl, by show (l.drop 0).Sublist (d.drop 0); exact Hsub.out⟩
  case round =>
    obtain ⟨k, j, m, k1, j1, rfl, rfl, rfl, hK⟩ := hrel
    by_cases hgo : j < d.length ∧ k < l.length
    · obtain ⟨q1, q2⟩ := hgo
      obtain ⟨b1, off1, rfl, hlt1, ha1⟩ := G1.out (by omega)
      obtain ⟨b2, off2, rfl, hlt2, ha2⟩ := G2.out (by omega)
      have x1 := ha1 k q2
      have x2 := ha2 j q1
      have Hn := hid (sub_next hK.out q2 q1)
      have p1 : (0 : Int) ≤ (k : Int) := by omega
      have p2 : (k : Int) < (l.length : Int) := by omega
      have p3 : (0 : Int) ≤ (j : Int) := by omega
      have p4 : (j : Int) < (d.length : Int) := by omega
      clear ha1 ha2 hK G1 G2 Hd3 HC Hsub H1 H2 H3 HU HS HB3
      generalize l[k] = a1 at *
      generalize d[j] = a2 at *
      cases he : (a2 == a1) with
      | true =>
        have Hr := hid (Hn.out.1 (eq_of_beq he))
        clear Hn
        go_upto_region 12 with fail
        go_quiet (fail)
        go_wp2
        go_roundw
        case rel => exact ⟨k + 1, j + 1, m + nq, by omega, by omega, by go_num, by go_num, by simp, Hr⟩
        case measure => simp [RowKit.intOf]; omega
      | false =>
        have Hr := hid (Hn.out.2 (beq_eq_false_iff_ne.1 he))
        clear Hn
        go_upto_region 12 with fail
        go_quiet (fail)
        go_wp2
        go_roundw
        case rel => exact ⟨k, j + 1, m + nq, by omega, by omega, rfl, by go_num, by simp, Hr⟩
        case measure => simp [RowKit.intOf]; omega
    · have hk : k = l.length := by
        by_cases hj : j < d.length
        · have : ¬ k < l.length := fun h => hgo ⟨hj, h⟩
          omega
        · exact sub_end hK.out k1 hj
      subst hk
      clear hK hgo G1 G2 Hsub
      have HB4 : Hid (Below w.heap.size w (v3.drewN m)) := HB3.out.trans (drewN_below _ _ _)
      have Hd4 : Hid (RdI (v3.drewN m) (.slice od d.length cd) d) := Hd3.out.later (drewN_below _ _ _)
      have cb4 : (v3.drewN m).cell? ⟨w.heap.size, 0, none⟩ = some (.slice o ns.length cap) := by simpa using cb3
      have hs4 : w.heap.size + 1 ≤ (v3.drewN m).heap.size := by simpa using hs3
      obtain ⟨v4, hv4⟩ : ∃ v4, v3.drewN m = v4 := ⟨_, rfl⟩
      rw [hv4] at HB4 Hd4 cb4 hs4 ⊢
      clear hv4 HB3 Hd3 cb3 hs3
      go_upto_region 10 with fail
      go_cut [15, 16, 69] from 60 to 82 (fun a i q wx => a = .int .i64 (l.length : Int) ∧ i = .int .i64 j ∧ q = .bool false ∧ wx = v4)
      case first => as_aux_lemma =>
        clear H1 H2 H3 HU HS HC HB4 Hd4 cb4 hs4
        by_cases hj : (j : Int) < (d.length : Int)
        · go_wp2_with fail
          go_meet
          exact ⟨rfl, rfl, rfl, rfl⟩
        · go_wp2_with fail
          go_meet
          exact ⟨rfl, rfl, rfl, rfl⟩
      case rest => as_aux_lemma =>
        obtain ⟨rfl, rfl, rfl, e4⟩ := hcut
        have e4 := e4.symm
        subst e4
        go_wp2_with fail
        refine (H1.out _ HB4.out).mono ?_
        rintro e v5 ⟨rfl, hb⟩
        have HB5 := hid (HB4.out.trans (hb.mono HB4.out.size))
        have cb5 := (hb.cell (p := ⟨w.heap.size, 0, none⟩) (by show w.heap.size < v4.heap.size; omega)).trans cb4
        have hs5 := Nat.le_trans hs4 hb.size
        have Hd5 := hid (Hd4.out.later hb)
        clear hb cb4 HB4 hs4 Hd4 H1
        go_wp2_with fail
        refine (H2.out _ HB5.out).mono ?_
        rintro e v6 ⟨rfl, hb⟩
        have HB6 := hid (HB5.out.trans (hb.mono HB5.out.size))
        have cb6 := (hb.cell (p := ⟨w.heap.size, 0, none⟩) (by show w.heap.size < v5.heap.size; omega)).trans cb5
        have hs6 := Nat.le_trans hs5 hb.size
        have Hd6 := hid (Hd5.out.later hb)
        clear hb cb5 HB5 hs5 Hd5 H2
        go_wp2_with fail
        refine (H3.out _ HB6.out).mono ?_
        rintro e v7 ⟨rfl, hb⟩
        have HB7 := hid (HB6.out.trans (hb.mono HB6.out.size))
        have cb7 := (hb.cell (p := ⟨w.heap.size, 0, none⟩) (by show w.heap.size < v6.heap.size; omega)).trans cb6
        have hs7 := Nat.le_trans hs6 hb.size
        have Hd7 := hid (Hd6.out.later hb)
        clear hb cb6 HB6 hs6 Hd6 H3
        have hC := HC.out
        clear HC
        rcases hC with hE | ⟨rfl, hE⟩ | ⟨rfl, rfl, rfl, hX, hZ⟩
        · clear HU HS Hd7
          go_wp2
          go_ret
          exact ⟨rfl, HB7.out⟩
        · clear HU HS Hd7
          go_wp2
          go_ret
          exact ⟨rfl, HB7.out⟩
        · have HX := hid hX
          have HZ := hid hZ
          clear hX hZ
          go_wp2_with fail
          refine (HU.out _ HB7.out).mono ?_
          rintro e v8 ⟨rfl, hb⟩
          have HB8 := hid (HB7.out.trans (hb.mono HB7.out.size))
          have cb8 := (hb.cell (p := ⟨w.heap.size, 0, none⟩) (by show w.heap.size < v7.heap.size; omega)).trans cb7
          have hs8 := Nat.le_trans hs7 hb.size
          have Hd8 := hid (Hd7.out.later hb)
          clear hb cb7 HB7 hs7 Hd7 HU
          go_wp2_with fail
          refine (HS.out _ HB8.out).mono ?_
          rintro e v9 ⟨rfl, hb⟩
          have HB9 := hid (HB8.out.trans (hb.mono HB8.out.size))
          have Hd9 := hid (Hd8.out.later hb)
          clear hb cb8 HB8 hs8 Hd8 HS
          have hP := place_any _ d y v9 Hd9.out hdl
          have htt : (t == t) = true := beq_self_eq_true t
          have hX := HX.out
          have hZ := HZ.out
          clear HX HZ Hd9
          generalize idxI d y 0 = P at *
          have HXP := hid hX
          clear hX
          by_cases hP0 : (0 : Int) ≤ P
          · have hXt : X = true := by rw [HXP.out]; exact decide_eq_true hP0
            subst hXt
            clear HXP
            cases Y with
            | false =>
              clear hZ
              go_wp2_with fail
              refine hP.mono ?_
              rintro e v10 ⟨rfl, e10⟩
              have e10 := e10.symm
              subst e10
              clear hP
              go_wp2
              go_ret
              exact ⟨rfl, HB9.out⟩
            | true =>
              have hZt : Z = true := hZ rfl rfl
              subst hZt
              clear hZ
              go_wp2_with fail
              refine hP.mono ?_
              rintro e v10 ⟨rfl, e10⟩
              have e10 := e10.symm
              subst e10
              clear hP
              go_wp2
              go_ret
              exact ⟨rfl, HB9.out⟩
          · have hXf : X = false := by rw [HXP.out]; exact decide_eq_false hP0
            subst hXf
            clear HXP hZ
            go_wp2_with fail
            refine hP.mono ?_
            rintro e v10 ⟨rfl, e10⟩
            have e10 := e10.symm
            subst e10
            clear hP
            go_wp2
            go_ret
            exact ⟨by show Ending.returned (Value.bool !decide (0 ≤ P)) = _; rw [decide_eq_false (by omega : ¬ (0 : Int) ≤ P)]; rfl, HB9.out⟩
end Go.Proofs.Ytighpjikooiaoaa

namespace Go.Proofs.Ytighpjikooiaoaa
open Go.RowKit Go.Lib
theorem toldE_one {ns : List NodeD} {x : Int} (hR : RightF ns) (hx : thereB ns.length x = true) : toldE ns [x] = 0 := toldE_ok ((rightD_iff ns).2 hR) (by simp [hx])
theorem toldE_two {ns : List NodeD} {x y : Int} (hR : RightF ns) (hx : thereB ns.length x = true) (hy : thereB ns.length y = true) : toldE ns [x, y] = 0 := toldE_ok ((rightD_iff ns).2 hR) (by simp [hx, hy])
section
variable {o : Option Addr} {cap : Nat} {ns : List NodeD} {w : World}
theorem Root_ok (hF : FRd w o cap ns) (hkl : ∀ (i : Nat) (hi : i < ns.length), ns[i].kids.length ≤ 1099511627776) (hal : ∀ (i : Nat) (hi : i < ns.length), ns[i].attrs.length ≤ 1099511627776) (hR : RightF ns) {x : Int} (hx : thereB ns.length x = true) (W : World) (hW : Below w.heap.size w W) :
    Calls Try.prog 13 #[.agg #[.slice o ns.length cap], .int .i64 x] W fun e w' => e = .returned (.tuple #[.int .i64 (lastI (pathUp ns (parentD ns) x)), .int .i64 0]) ∧ Below W.heap.size W w' := by
  have := Root_any o cap x ns W (hF.later hW) hkl hal
  rw [toldE_one hR hx, if_pos rfl] at this
  exact this
theorem All_ok (hF : FRd w o cap ns) (hkl : ∀ (i : Nat) (hi : i < ns.length), ns[i].kids.length ≤ 1099511627776) (hal : ∀ (i : Nat) (hi : i < ns.length), ns[i].attrs.length ≤ 1099511627776) (hR : RightF ns) {x : Int} (hx : thereB ns.length x = true) (W : World) (hW : Below w.heap.size w W) :
    Calls Try.prog 5 #[.agg #[.slice o ns.length cap], .int .i64 x] W fun e w' => ∃ v, e = .returned (.tuple #[v, .int .i64 0]) ∧ RdI w' v (allD ns x) ∧ Below W.heap.size W w' := by
  have := All_any o cap x ns W (hF.later hW) hkl hal (fun _ => all_len hR hx)
  rw [toldE_one hR hx, if_pos rfl] at this
  refine this.mono ?_
  rintro e w' ⟨v, rfl, hr, hb⟩
  exact ⟨v, rfl, ownsRow_rdI hr, hb⟩
end
end Go.Proofs.Ytighpjikooiaoaa

namespace Go.Proofs.Ytighpjikooiaoaa
open Go.RowKit Go.Lib Go.Shelf
theorem sh_list {P : Program} {f : FuncId} {args : Array Value} {w : World} {E : Int} {l : List Int} (h : Calls P f args w fun e w' => ∃ v, e = .returned (.tuple #[v, .int .i64 E]) ∧ w'.ownsRow w.heap.size 3 1 v l.length (l.map (Value.int .i64)) ∧ Below w.heap.size w w') :
    Calls P f args w fun e w' => ∃ v, e = .returned (.tuple #[v, .int .i64 E]) ∧ RdI w' v l ∧ Below w.heap.size w w' := by
  refine h.mono ?_
  rintro e w' ⟨v, rfl, hr, hb⟩
  exact ⟨v, rfl, ownsRow_rdI hr, hb⟩
theorem ne_zero {E : Int} (h : E ≠ 0) : (E != 0) = true := by rw [bne, beq_eq_false_iff_ne.2 h]; rfl
theorem orderShadows_law (o : Option Addr) (cap : Nat) (x y z : Int) (ns : List NodeD) (w : World) (hF : FRd w o cap ns) (hkl : ∀ (i : Nat) (hi : i < ns.length), ns[i].kids.length ≤ 1099511627776) (hal : ∀ (i : Nat) (hi : i < ns.length), ns[i].attrs.length ≤ 1099511627776) :
    Calls Try.prog 3 #[.agg #[.slice o ns.length cap], .int .i64 x, .int .i64 y, .int .i64 z] w fun e w' => e = .returned (.bool true) ∧ Below w.heap.size w w' := by
  have HA : ∀ W : World, Below w.heap.size w W → _ := fun W hW => sh_list (All_any o cap x ns W (hF.later hW) hkl hal (fun hE => by obtain ⟨hR, hth⟩ := toldE_zero hE; exact all_len hR (hth x (by simp))))
  have HD : ∀ W : World, Below w.heap.size w W → _ := fun W hW => sh_list (Deep_any o cap x ns W (hF.later hW) hkl hal)
  have HT : ∀ W : World, Below w.heap.size w W → _ := fun W hW => Top_any o cap x ns W (hF.later hW) hkl hal
  have H1 : ∀ W : World, Below w.heap.size w W → _ := fun W hW => Holds_any o cap x y ns W (hF.later hW) hkl hal
  have H2 : ∀ W : World, Below w.heap.size w W → _ := fun W hW => Holds_any o cap y z ns W (hF.later hW) hkl hal
  have H3 : ∀ W : World, Below w.heap.size w W → _ := fun W hW => Holds_any o cap x z ns W (hF.later hW) hkl hal
  by_cases hE : toldE ns [x] = 0
  · obtain ⟨hR, hth⟩ := toldE_zero hE
    have hx := hth x (by simp)
    obtain ⟨t1, t2, t3⟩ := top_up hR _ x (Nat.le_refl _) hx
    simp only [hE, if_true] at HA HD HT
    refine shadows_main o cap x y z _ _ _ _ _ _ _ _ _ ns w (all_len hR hx) (Nat.le_trans (deep_len hR hx) (by decide)) (all_sub ns x) ?_ (fun W => begins_true W) HA HD HT H1 H2 H3
      (fun W hW => ?_) (fun W hW => ?_)
    · by_cases hE1 : toldE ns [x, y] = 0
      · have hy := (toldE_zero hE1).2 y (by simp)
        by_cases hE2 : toldE ns [y, z] = 0
        · have hz := (toldE_zero hE2).2 z (by simp)
          have hE3 := toldE_two hR hx hz
          refine .inr (.inr ⟨hE1, hE2, hE3, ?_, ?_⟩)
          · rw [if_pos hE1]
            exact (holds_deep hR hx hy).symm
          · rw [if_pos hE1, if_pos hE2, if_pos hE3]
            exact holds_on hR hz
        · exact .inr (.inl ⟨hE1, ne_zero hE2⟩)
      · exact .inl (ne_zero hE1)
    · have h := Holds_any o cap (lastI (pathUp ns (overD ns) x)) x ns W (hF.later hW) hkl hal
      rw [toldE_two hR t1 hx, if_pos rfl, (holds_mem ns _ x).2 t3] at h
      exact h
    · have h := Top_any o cap (lastI (pathUp ns (overD ns) x)) ns W (hF.later hW) hkl hal
      rw [toldE_one hR t1, if_pos rfl, top_top hR t1 t2] at h
      exact h
  · simp only [if_neg hE] at HA HD HT
    exact shadows_refused o cap x y z _ _ _ _ ns w (ne_zero hE) (fun W => begins_true W) HA HD HT
end Go.Proofs.Ytighpjikooiaoaa
