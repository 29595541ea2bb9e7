/- walk: All. -/
/- walk: New. -/
/- Whether two lists of numbers are one (canopyref03.Ints). -/
/- The statements of walk: the calls that are made of the tree. -/
import Derived.Test.YteflknfejjdkfaaCFWkRFWkU
import Derived.Test.YteflknfejjdkfaaCFWkIFWkN
import Derived.Test.YteflknfejjdkfaaFFork
import Derived.Test.YteflknfejjdkfaaFRefN
import Derived.Test.YteflknfejjdkfaaFList
namespace Go.Proofs.Yteflknfejjdkfaa
open Go.RowKit Go.Lib Go.Shelf
attribute [local go_sem] Oper.semAt_some

theorem two_heap {w V : World} {o1 o2 : Obj} (hb : Below ((w.alloc o1).alloc o2).heap.size ((w.alloc o1).alloc o2) V) : V.heap[w.heap.size]? = some o1 ∧ V.heap[w.heap.size + 1]? = some o2 := by
  have h1 := vheapW w o1
  have h2 := vheapW (w.alloc o1) o2
  simp only [World.size_alloc] at h2
  have e0 := Below.heap_alloc (w.alloc o1) o2 w.heap.size (by simp)
  exact ⟨(hb.block w.heap.size (by simp only [World.size_alloc]; omega)).trans (e0.trans h1), (hb.block (w.heap.size + 1) (by simp only [World.size_alloc]; omega)).trans h2⟩
theorem boxed_besideW {W w1 : World} {n₀ B B' : Nat} {t' e : TypeId} {size : Nat} {v v' u : Value} {k : Nat} {xs : List Value} {tmp : Obj} (hu : Boxed W B' t' u) (hte : t' ≠ e) (hne : B' ≠ B) (hrow : W.ownsRow n₀ e size v k xs) (hgrow : (W.alloc tmp).grownBy w1 v.ownBlock) : Boxed (w1.setCell ⟨B, 0, none⟩ v') B' t' u :=
  ((hu.alloc tmp).kept hgrow (hu.not_row hte hrow)).other hne v'
theorem put_cell (W : World) (l : Nat) (o' : Obj) (B : Nat) (h : B ≠ l) : (W.putObj l o').cell? ⟨B, 0, none⟩ = W.cell? ⟨B, 0, none⟩ := by
  unfold World.cell?
  rw [show (W.putObj l o').heap[B]? = W.heap[B]? from by simp [World.putObj, Ne.symm h]]
set_option maxHeartbeats 1000000 in
theorem reached_any (x : Int) (bo bt : Nat) (w : World) :
    Calls Try.prog 26 #[.int .i64 x, .func (.func 40) #[] #[.pointer (some ⟨bo, 0, none⟩), .pointer (some ⟨bt, 0, none⟩)]] w fun e w' => e = .returned (.func (.func 41) #[] #[.pointer (some ⟨w.heap.size + 1, 0, none⟩), .pointer (some ⟨w.heap.size, 0, none⟩)]) ∧ w' = (w.alloc (.cells #[.int .i64 x] 3)).alloc (.cells #[.func (.func 40) #[] #[.pointer (some ⟨bo, 0, none⟩), .pointer (some ⟨bt, 0, none⟩)]] 71) := by
  go_enter Try.func26, Try.ntmps26
  go_wp2
  go_ret
  exact ⟨rfl, rfl⟩

set_option maxRecDepth 100000 in
set_option maxHeartbeats 4000000 in
theorem All_err (o : Option Addr) (cap : Nat) (ns : List NodeD) (root cur : Int) (sh : Nat) (ro : Option Addr) (rc : Nat) (rules : List RuleD) (way : Nat) (w : World) (hF : FRd w o cap ns) (hkl : ∀ (i : Nat) (hi : i < ns.length), ns[i].kids.length ≤ 1099511627776) (hal : ∀ (i : Nat) (hi : i < ns.length), ns[i].attrs.length ≤ 1099511627776) (hru : RdR w (.slice ro rules.length rc) rules) (hrl : rules.length ≤ 1099511627776) (h256 : way < 256) (hE : stepE ns root cur rules way ≠ 0) :
    Calls Try.prog 13 #[.agg #[.slice o ns.length cap], .agg #[.int .i64 root, .int .i64 cur, .int .u32 (sh : Int), .slice ro rules.length rc], .int .u8 (way : Int)] w fun e w' => e = .returned (.tuple #[.slice none 0 0, .int .i64 (stepE ns root cur rules way)]) ∧ Below w.heap.size w w' := by
  have hB0 : Below w.heap.size w ((w.alloc (.cells #[.slice o ns.length cap] 24)).alloc (.cells #[.int .i64 root, .int .i64 cur, .int .u32 (sh : Int), .slice ro rules.length rc] 34)) := ((Below.refl _ w).alloc (Nat.le_refl _) _).alloc (by simp) _
  have HW := hid (stepOf_err o cap ns root cur sh ro rc rules way ((w.alloc (.cells #[.slice o ns.length cap] 24)).alloc (.cells #[.int .i64 root, .int .i64 cur, .int .u32 (sh : Int), .slice ro rules.length rc] 34)) (hF.later hB0) hkl hal (hru.later hB0) hrl h256 hE)
  have n0 : (stepE ns root cur rules way != 0) = true := by rw [bne, beq_eq_false_iff_ne.2 hE]; rfl
  have HB0 := hid hB0
  clear hF hkl hal hru hB0 hE
  generalize stepE ns root cur rules way = E at *
  refine (callsIn_wide (n := 5)).1 ?_
  refine callsIn_of_wp_marks Try.func13 rfl trivial ?_ rfl
  simp only [Try.ntmps13, List.size_toArray, List.length_cons, List.length_nil, Nat.reduceAdd, Nat.reduceSub, Array.replicate_succ, Array.replicate_zero, List.push_toArray, List.append_toArray, List.nil_append, List.cons_append]
  gi_wp2
  refine ⟨trivial, (callsIn_wide.2 HW.out).mono ?_⟩
  rintro r1 v1 ⟨rfl, hb⟩
  have HB1 := hid (HB0.out.trans (hb.mono HB0.out.size))
  clear hb
  gi_wp2
  exact ⟨.tuple #[.slice none 0 0, .int .i64 E], by simp [results, Try.results13, go_sem], rfl, HB1.out⟩

set_option maxRecDepth 100000 in
set_option maxHeartbeats 8000000 in
theorem All_ok (b off : Nat) (cap : Nat) (ns : List NodeD) (root cur : Int) (sh : Nat) (ro : Option Addr) (rc : Nat) (rules : List RuleD) (way : Nat) (w : World) (hFA : FAt w b off cap ns) (hkl : ∀ (i : Nat) (hi : i < ns.length), ns[i].kids.length ≤ 1099511627776) (hal : ∀ (i : Nat) (hi : i < ns.length), ns[i].attrs.length ≤ 1099511627776) (hru : RdR w (.slice ro rules.length rc) rules) (hrl : rules.length ≤ 1099511627776) (hs : sh < 4294967296) (hE : stepE ns root cur rules way = 0) :
    Calls Try.prog 13 #[.agg #[.slice (some ⟨b, off, none⟩) ns.length cap], .agg #[.int .i64 root, .int .i64 cur, .int .u32 (sh : Int), .slice ro rules.length rc], .int .u8 (way : Int)] w fun e w' => ∃ v, e = .returned (.tuple #[v, .int .i64 0]) ∧ w'.ownsRow w.heap.size 3 1 v (reachD ns root sh rules way cur).length ((reachD ns root sh rules way cur).map (Value.int .i64)) ∧ Below w.heap.size w w' := by
  obtain ⟨i0, hi, hz0, hz1, hz2⟩ := info_parts info_int
  have hB0 : Below w.heap.size w ((w.alloc (.cells #[.slice (some ⟨b, off, none⟩) ns.length cap] 24)).alloc (.cells #[.int .i64 root, .int .i64 cur, .int .u32 (sh : Int), .slice ro rules.length rc] 34)) := ((Below.refl _ w).alloc (Nat.le_refl _) _).alloc (by simp) _
  have hE0 : wrongE ns [root, cur] rules = 0 := by
    unfold stepE at hE
    split at hE
    · assumption
    · rename_i h; exact absurd hE h
  have hway : isWay way = true := by
    unfold stepE at hE
    rw [if_pos hE0] at hE
    cases hw : isWay way with
    | true => rfl
    | false => rw [hw] at hE; cases hE
  obtain ⟨hR, hth, hfE⟩ := wrongE_ok hE0
  have hcur := hth cur (by simp)
  have hroot := hth root (by simp)
  have hlen := reachD_len hR hroot sh rules way hcur
  have HW := hid (stepOf_way b off cap ns root cur sh ro rc rules way ((w.alloc (.cells #[.slice (some ⟨b, off, none⟩) ns.length cap] 24)).alloc (.cells #[.int .i64 root, .int .i64 cur, .int .u32 (sh : Int), .slice ro rules.length rc] 34)) (hFA.later hB0) hkl hal (hru.later hB0) hrl hs hE0 hway)
  have HB0 := hid hB0
  clear hB0 hE
  refine (callsIn_wide (n := 5)).1 ?_
  refine callsIn_of_wp_marks Try.func13 rfl trivial ?_ rfl
  simp only [Try.ntmps13, List.size_toArray, List.length_cons, List.length_nil, Nat.reduceAdd, Nat.reduceSub, Array.replicate_succ, Array.replicate_zero, List.push_toArray, List.append_toArray, List.nil_append, List.cons_append]
  gi_wp2
  refine ⟨trivial, (callsIn_wide.2 HW.out).mono ?_⟩
  rintro r1 v1 ⟨bk, bf, bd, bo, bt, rfl, hSC, hbs, hb⟩
  have HB1 := hid (HB0.out.trans (hb.mono HB0.out.size))
  obtain ⟨k0, k1⟩ := two_heap hb
  obtain ⟨c0, c1, c2, c3⟩ := cells4 k1
  have c1' := keep_cell_l (.cells #[.slice none 0 0] 40) c1
  have HR := hid (reached_any cur bo bt (v1.alloc (.cells #[.slice none 0 0] 40)))
  clear hb k0 k1
  gi_wp2
  refine ⟨trivial, (callsIn_wide.2 HR.out).mono ?_⟩
  rintro r2 v2 ⟨rfl, rfl⟩
  gi_wp2
  have bO : Boxed (((v1.alloc (.cells #[.slice none 0 0] 40)).alloc (.cells #[.int .i64 cur] 3)).alloc (.cells #[.func (.func 40) #[] #[.pointer (some ⟨bo, 0, none⟩), .pointer (some ⟨bt, 0, none⟩)]] 71)) v1.heap.size 40 (.slice none 0 0) := ((Boxed.new v1 40 (.slice none 0 0)).alloc _).alloc _
  have bC : Boxed (((v1.alloc (.cells #[.slice none 0 0] 40)).alloc (.cells #[.int .i64 cur] 3)).alloc (.cells #[.func (.func 40) #[] #[.pointer (some ⟨bo, 0, none⟩), .pointer (some ⟨bt, 0, none⟩)]] 71)) (v1.heap.size + 1) 3 (.int .i64 cur) := by
    have := Boxed.new (v1.alloc (.cells #[.slice none 0 0] 40)) 3 (.int .i64 cur)
    rw [World.size_alloc] at this
    exact this.alloc _
  have bS : Boxed (((v1.alloc (.cells #[.slice none 0 0] 40)).alloc (.cells #[.int .i64 cur] 3)).alloc (.cells #[.func (.func 40) #[] #[.pointer (some ⟨bo, 0, none⟩), .pointer (some ⟨bt, 0, none⟩)]] 71)) (v1.heap.size + 1 + 1) 71 (.func (.func 40) #[] #[.pointer (some ⟨bo, 0, none⟩), .pointer (some ⟨bt, 0, none⟩)]) := by
    have := Boxed.new ((v1.alloc (.cells #[.slice none 0 0] 40)).alloc (.cells #[.int .i64 cur] 3)) 71 (.func (.func 40) #[] #[.pointer (some ⟨bo, 0, none⟩), .pointer (some ⟨bt, 0, none⟩)])
    simp only [World.size_alloc] at this
    exact this
  have hB5 : Below v1.heap.size v1 (((v1.alloc (.cells #[.slice none 0 0] 40)).alloc (.cells #[.int .i64 cur] 3)).alloc (.cells #[.func (.func 40) #[] #[.pointer (some ⟨bo, 0, none⟩), .pointer (some ⟨bt, 0, none⟩)]] 71)) := (((Below.refl _ v1).alloc (Nat.le_refl _) _).alloc (by simp) _).alloc (by simp; omega) _
  have hzw : w.heap.size ≤ v1.heap.size := HB1.out.size
  have hG : ∀ y, thereB ns.length y = true → stepD ns root sh rules way y = 0 ∨ thereB ns.length (stepD ns root sh rules way y) = true := fun y hy => (stepD_good hR hroot sh rules hway hy).imp id (fun h => h.1)
  have hL : ∀ y, thereB ns.length y = true → reachD ns root sh rules way y = restL (reachD ns root sh rules way) (stepD ns root sh rules way y) := fun y hy => reachD_eq hR hroot sh rules hway hy
  have hS : ∀ (y : Int) (V : World), thereB ns.length y = true → Below v1.heap.size (((v1.alloc (.cells #[.slice none 0 0] 40)).alloc (.cells #[.int .i64 cur] 3)).alloc (.cells #[.func (.func 40) #[] #[.pointer (some ⟨bo, 0, none⟩), .pointer (some ⟨bt, 0, none⟩)]] 71)) V → _ := fun y V hy hV => step1_any hSC y hy V (hB5.trans hV)
  refine wpIn_rangeFunc_ownG rfl (by omega) (gf := 41) (lb := #[.pointer (some ⟨v1.heap.size + 1 + 1, 0, none⟩), .pointer (some ⟨v1.heap.size + 1, 0, none⟩)]) rfl trivial (enters_of Try.func41 (by kernel_rfl) rfl)
    (reach_stops (5 - 1) (v1.heap.size + 1 + 1) (v1.heap.size + 1) v1.heap.size bo bt ns.length (by omega) cur (stepD ns root sh rules way) (reachD ns root sh rules way) _ (by simp only [World.size_alloc]; omega) (by simp only [World.size_alloc]; omega) (by simp only [World.size_alloc]; omega) hS hG hL bS.cell bC.cell hcur)
    (fun h k => ⟨h.1.trans k.1, k.2.trans h.2⟩)
    (fun W l o o' hl hW hc hw => ⟨belowK_b (w := (((v1.alloc (.cells #[.slice none 0 0] 40)).alloc (.cells #[.int .i64 cur] 3)).alloc (.cells #[.func (.func 40) #[] #[.pointer (some ⟨bo, 0, none⟩), .pointer (some ⟨bt, 0, none⟩)]] 71))) (by simp only [World.size_alloc]; omega) W l o o' hl hW hc hw, put_cell W l o' (v1.heap.size + 1 + 1) (by simp only [World.size_alloc] at hl; omega)⟩) (Below.refl _ _) (fun _ => rfl)
    (fun pre W => ((∃ v, Boxed W v1.heap.size 40 v ∧ W.ownsRow v1.heap.size 3 1 v pre.length (pre.map (Value.int .i64)) ∧ (v = .slice none 0 0 ↔ pre = [])) ∧ Boxed W (v1.heap.size + 1 + 1) 71 (.func (.func 40) #[] #[.pointer (some ⟨bo, 0, none⟩), .pointer (some ⟨bt, 0, none⟩)])) ∧ Below v1.heap.size v1 W)
    (fun _ _ _ => False)
    (OwnFrom.and (OwnFrom.and (Own.from (holdsRow_own v1.heap.size v1.heap.size 40 3 1 (fun pre => pre.length) (fun pre => pre.map (Value.int .i64)) (fun pre v => v = .slice none 0 0 ↔ pre = [])) _) (Own.from (boxed_own _ _ _) _)) (ownFrom_below (Nat.le_refl _) (by simp only [World.size_alloc]; omega)))
    (fun _ _ _ _ _ hs _ _ => hs)
    ⟨⟨⟨_, bO, World.ownsRow_nil _ _ _ _, by simp⟩, bS⟩, hB5⟩
    (fun z => { tmps := #[.agg #[.slice (some ⟨b, off, none⟩) ns.length cap], .agg #[.int .i64 root, .int .i64 cur, .int .u32 (sh : Int), .slice ro rules.length rc], .int .u8 (way : Int), .pointer (some ⟨w.heap.size, 0, none⟩), .pointer (some ⟨w.heap.size + 1, 0, none⟩), undef, .slice none 0 0, .int .i64 0, .func (.func 40) #[] #[.pointer (some ⟨bo, 0, none⟩), .pointer (some ⟨bt, 0, none⟩)], .int .i64 0, .pointer (some ⟨v1.heap.size, 0, none⟩), .int .i64 z, .tuple #[.func (.func 40) #[] #[.pointer (some ⟨bo, 0, none⟩), .pointer (some ⟨bt, 0, none⟩)], .int .i64 0], .agg #[.slice (some ⟨b, off, none⟩) ns.length cap], .agg #[.int .i64 root, .int .i64 cur, .int .u32 (sh : Int), .slice ro rules.length rc], .int .u8 (way : Int), .tuple #[.func (.func 40) #[] #[.pointer (some ⟨bo, 0, none⟩), .pointer (some ⟨bt, 0, none⟩)], .int .i64 0], .func (.func 40) #[] #[.pointer (some ⟨bo, 0, none⟩), .pointer (some ⟨bt, 0, none⟩)], .int .i64 0, .int .i64 0, .bool false, undef, .pointer (some ⟨w.heap.size + 1, 1, none⟩), .int .i64 cur, .func (.func 40) #[] #[.pointer (some ⟨bo, 0, none⟩), .pointer (some ⟨bt, 0, none⟩)], .func (.func 41) #[] #[.pointer (some ⟨v1.heap.size + 1 + 1, 0, none⟩), .pointer (some ⟨v1.heap.size + 1, 0, none⟩)], .int .i64 z, undef, undef, undef, undef, undef], defers := [] }) ?assign ?body ?done ?stop
  case assign =>
    intro l z W K hK
    gi_wp2
    exact hK
  case body =>
    rintro l pre z W ⟨⟨⟨v, hv, hrow, hnil⟩, hvs⟩, hB⟩ hlt
    have hc := hv.cell
    have m1 : pre.length + 1 ≤ maxLen := by simp only [maxLen]; omega
    have m2 : (pre.length + 1) * 8 ≤ 140737488355328 := by omega
    have m3 : v1.heap.size ≤ (W.alloc (.cells #[.int .i64 z] 3)).heap.size := by have := hB.size; simp; omega
    gi_wp2_with (gi_at_builtin; refine wpListIn_append_own _ rfl _ _ 40 rfl v1.heap.size 3 i0 (.int .i64 0) 1 8 Try.underlying40 hi hz0 hz1 hz2 rfl (by decide) _ _ _ rfl (hrow.alloc _) ⟨W.heap.size, 0, none⟩ 1 1 [.int .i64 z] rfl rfl (cell_one_new _ _ _) (by simp [Value.oneCell']) m1 m2 m3 ?_; intro v' w1 hown' hgrow _; obtain ⟨g', cap', rfl⟩ := ownsRow_succ hown'; obtain ⟨hv1, hv2, hr2, hk2, hb2⟩ := hv.appended (by decide) hrow hB.size (Nat.le_refl _) hown' hgrow; have hvs2 := boxed_besideW hvs (B := v1.heap.size) (v' := .slice (some ⟨g', 0, none⟩) (pre.length + 1) cap') (by decide) (by omega) hrow hgrow; have hc1 := hv1.cell; have hf1 := hv1.frozen)
    exact ⟨hk2.from _, ⟨hb2, hvs2.cell.trans hvs.cell.symm⟩, ⟨⟨_, hv2, by simpa using hr2, by simp⟩, hvs2⟩, hB.trans hb2⟩
  case done =>
    rintro D ys W hD rfl ⟨⟨⟨v, hv, hrow, hnil⟩, hvs⟩, hB⟩ hK
    have hc := hv.cell
    gi_wp2
    refine ⟨by simp, .inl ⟨_, _, rfl, run_takeDeferred hK, ?_⟩⟩
    have hBw : Below w.heap.size w W := HB1.out.trans (hB.mono hzw)
    exact ⟨.tuple #[v, .int .i64 0], by simp [results, Try.results13, go_sem], v, rfl, own_base hzw (ownsRow_putObj hrow _ hK rfl), hBw.trans (belowK_b (w := w) (Nat.le_refl _) W D _ _ (by simp only [World.size_alloc] at hD; omega) hK rfl rfl)⟩
  case stop =>
    rintro D c pre W _ _ h _
    exact h.elim
end Go.Proofs.Yteflknfejjdkfaa

namespace Go.Proofs.Yteflknfejjdkfaa
open Go.RowKit Go.Lib Go.Maps

theorem new_heap {w V : World} {o1 o2 o3 o4 : Obj} (hb : Below ((((w.alloc o1).alloc o2).alloc o3).alloc o4).heap.size ((((w.alloc o1).alloc o2).alloc o3).alloc o4) V) : V.heap[w.heap.size + 1]? = some o2 ∧ V.heap[w.heap.size + 1 + 1]? = some o3 := by
  have h2 := vheapW (w.alloc o1) o2
  have h3 := vheapW ((w.alloc o1).alloc o2) o3
  simp only [World.size_alloc] at h2 h3
  have e1 := Below.heap_alloc (((w.alloc o1).alloc o2).alloc o3) o4 (w.heap.size + 1) (by simp only [World.size_alloc]; omega)
  have e2 := Below.heap_alloc ((w.alloc o1).alloc o2) o3 (w.heap.size + 1) (by simp only [World.size_alloc]; omega)
  have e3 := Below.heap_alloc (((w.alloc o1).alloc o2).alloc o3) o4 (w.heap.size + 1 + 1) (by simp only [World.size_alloc]; omega)
  exact ⟨(hb.block (w.heap.size + 1) (by simp only [World.size_alloc]; omega)).trans (e1.trans (e2.trans h2)), (hb.block (w.heap.size + 1 + 1) (by simp only [World.size_alloc]; omega)).trans (e3.trans h3)⟩
theorem cells2 {V : World} {B : Nat} {a b : Value} {t : TypeId} (h : V.heap[B]? = some (.cells #[a, b] t)) : V.cell? ⟨B, 0, none⟩ = some a ∧ V.cell? ⟨B, 1, none⟩ = some b := by
  have hk : ∀ j : Nat, V.cell? ⟨B, j, none⟩ = #[a, b][j]? := fun j => by
    unfold World.cell?
    simp only [h]
    exact if_neg (by decide)
  exact ⟨(hk 0).trans rfl, (hk 1).trans rfl⟩
set_option maxRecDepth 100000 in
set_option maxHeartbeats 4000000 in
theorem New_err (o : Option Addr) (cap : Nat) (ns : List NodeD) (root : Int) (sh : Nat) (ro : Option Addr) (rc : Nat) (rules : List RuleD) (w : World) (hF : FRd w o cap ns) (hkl : ∀ (i : Nat) (hi : i < ns.length), ns[i].kids.length ≤ 1099511627776) (hal : ∀ (i : Nat) (hi : i < ns.length), ns[i].attrs.length ≤ 1099511627776) (hru : RdR w (.slice ro rules.length rc) rules) (hrl : rules.length ≤ 1099511627776) (hE : wrongE ns [root] rules ≠ 0) :
    Calls Try.prog 9 #[.agg #[.slice o ns.length cap], .int .i64 root, .agg #[.int .u32 (sh : Int), .slice ro rules.length rc]] w fun e w' => e = .returned (.tuple #[.agg #[.int .i64 0, .int .i64 0, .int .u32 0, .slice none 0 0], .int .i64 (wrongE ns [root] rules)]) ∧ Below w.heap.size w w' := by
  have hB0 : Below w.heap.size w ((((w.alloc (.cells #[.slice o ns.length cap] 24)).alloc (.cells #[.int .u32 (sh : Int), .slice ro rules.length rc] 28)).alloc (.cells #[.int .i64 0, .int .i64 0, .int .u32 0, .slice none 0 0] 34)).alloc (.cells #[.int .i64 root] 3)) := ((((Below.refl _ w).alloc (Nat.le_refl _) _).alloc (by simp) _).alloc (by simp; omega) _).alloc (by simp; omega) _
  have kr := one_rdI (((w.alloc (.cells #[.slice o ns.length cap] 24)).alloc (.cells #[.int .u32 (sh : Int), .slice ro rules.length rc] 28)).alloc (.cells #[.int .i64 0, .int .i64 0, .int .u32 0, .slice none 0 0] 34)) root 3
  simp only [World.size_alloc] at kr
  have HW := hid (wrong_any o cap sh ro rc rules _ [root] ns ((((w.alloc (.cells #[.slice o ns.length cap] 24)).alloc (.cells #[.int .u32 (sh : Int), .slice ro rules.length rc] 28)).alloc (.cells #[.int .i64 0, .int .i64 0, .int .u32 0, .slice none 0 0] 34)).alloc (.cells #[.int .i64 root] 3)) (hF.later hB0) hkl hal kr (by simp) (hru.later hB0) hrl)
  have n0 : (wrongE ns [root] rules != 0) = true := by rw [bne, beq_eq_false_iff_ne.2 hE]; rfl
  have HB0 := hid hB0
  clear hF hkl hal hru kr hB0 hE
  generalize wrongE ns [root] rules = E at *
  go_enter Try.func9, Try.ntmps9
  go_wp2_with (go_at_call 19; refine HW.out.mono ?_; rintro r1 v1 ⟨rfl, hb⟩; have HB1 := hid (HB0.out.trans (hb.mono HB0.out.size)); obtain ⟨k1, k2⟩ := new_heap hb; obtain ⟨i0, i1, i2, i3⟩ := cells4 k2; obtain ⟨f0, f1, f2, f3⟩ := free4 k2; have HK2 := hid k2; clear hb k1 k2)
  have hn := four_set HK2.out (.int .i64 0) (.int .i64 0) (.int .u32 0) (.slice none 0 0)
  obtain ⟨j0, j1, j2, j3⟩ := cells4 hn
  exact bodyPost_ret (v := .tuple #[.agg #[.int .i64 0, .int .i64 0, .int .u32 0, .slice none 0 0], .int .i64 E]) (by simp [results, Try.results9, go_sem, j0, j1, j2, j3]) rfl ⟨rfl, below_four HB1.out (by omega)⟩

set_option maxRecDepth 100000 in
set_option maxHeartbeats 4000000 in
theorem New_ok (o : Option Addr) (cap : Nat) (ns : List NodeD) (root : Int) (sh : Nat) (ro : Option Addr) (rc : Nat) (rules : List RuleD) (w : World) (hF : FRd w o cap ns) (hkl : ∀ (i : Nat) (hi : i < ns.length), ns[i].kids.length ≤ 1099511627776) (hal : ∀ (i : Nat) (hi : i < ns.length), ns[i].attrs.length ≤ 1099511627776) (hru : RdR w (.slice ro rules.length rc) rules) (hrl : rules.length ≤ 1099511627776) (hE : wrongE ns [root] rules = 0) :
    Calls Try.prog 9 #[.agg #[.slice o ns.length cap], .int .i64 root, .agg #[.int .u32 (sh : Int), .slice ro rules.length rc]] w fun e w' => ∃ vo vc, e = .returned (.tuple #[.agg #[.int .i64 root, .int .i64 root, .int .u32 (sh : Int), .slice vo rules.length vc], .int .i64 0]) ∧ w'.ownsRow w.heap.size 70 3 (.slice vo rules.length vc) rules.length (rulesC rules) ∧ Below w.heap.size w w' := by
  have hB0 : Below w.heap.size w ((((w.alloc (.cells #[.slice o ns.length cap] 24)).alloc (.cells #[.int .u32 (sh : Int), .slice ro rules.length rc] 28)).alloc (.cells #[.int .i64 0, .int .i64 0, .int .u32 0, .slice none 0 0] 34)).alloc (.cells #[.int .i64 root] 3)) := ((((Below.refl _ w).alloc (Nat.le_refl _) _).alloc (by simp) _).alloc (by simp; omega) _).alloc (by simp; omega) _
  have kr := one_rdI (((w.alloc (.cells #[.slice o ns.length cap] 24)).alloc (.cells #[.int .u32 (sh : Int), .slice ro rules.length rc] 28)).alloc (.cells #[.int .i64 0, .int .i64 0, .int .u32 0, .slice none 0 0] 34)) root 3
  simp only [World.size_alloc] at kr
  have HW := hid (wrong_any o cap sh ro rc rules _ [root] ns ((((w.alloc (.cells #[.slice o ns.length cap] 24)).alloc (.cells #[.int .u32 (sh : Int), .slice ro rules.length rc] 28)).alloc (.cells #[.int .i64 0, .int .i64 0, .int .u32 0, .slice none 0 0] 34)).alloc (.cells #[.int .i64 root] 3)) (hF.later hB0) hkl hal kr (by simp) (hru.later hB0) hrl)
  rw [hE] at HW
  obtain ⟨_, _, hfE⟩ := wrongE_ok hE
  have HC : Hid (∀ V : World, Below w.heap.size w V → _) := fun V hV => wcopyOf_any sh ro rc rules V (hru.later hV) (filterE_ok hfE).1
  have HB0 := hid hB0
  clear hF hkl hal hru kr hB0 hE hfE
  go_enter Try.func9, Try.ntmps9
  go_wp2_with (first
    | (go_at_call 19; refine HW.out.mono ?_; rintro r1 v1 ⟨rfl, hb⟩; have HB1 := hid (HB0.out.trans (hb.mono HB0.out.size)); have HX := hid hb; obtain ⟨k1, k2⟩ := new_heap hb; obtain ⟨i0, i1⟩ := cells2 k1; clear hb k1 k2)
    | (go_at_call 23; refine (HC.out _ HB1.out).mono ?_; rintro r2 v2 ⟨vo, vc, rfl, hown, hb⟩; have HO := hid hown; have HB2 := hid (HB1.out.trans (hb.mono HB1.out.size)); obtain ⟨k1, k2⟩ := new_heap (HX.out.trans (hb.mono HX.out.size)); obtain ⟨m0, m1, m2, m3⟩ := cells4 k2; obtain ⟨f0, f1, f2, f3⟩ := free4 k2; have HK2 := hid k2; clear hb hown k1 k2))
  have hn := four_set HK2.out (.int .i64 root) (.int .i64 root) (.int .u32 (sh : Int)) (.slice vo rules.length vc)
  obtain ⟨j0, j1, j2, j3⟩ := cells4 hn
  have hz := HX.out.size
  simp only [World.size_alloc] at hz
  exact bodyPost_ret (v := .tuple #[.agg #[.int .i64 root, .int .i64 root, .int .u32 (sh : Int), .slice vo rules.length vc], .int .i64 0]) (by simp [results, Try.results9, go_sem, j0, j1, j2, j3]) rfl ⟨vo, vc, rfl, own_base (by omega) (own_four HO.out (by omega)), below_four HB2.out (by omega)⟩
end Go.Proofs.Yteflknfejjdkfaa

namespace Go.Proofs.Yteflknfejjdkfaa
open Go.RowKit Go.Lib Go.Shelf

theorem beq_drop3 (p q : List Int) (k : Nat) (h1 : k < p.length) (h2 : k < q.length) : (p.drop k == q.drop k) = (p[k] == q[k] && (p.drop (k + 1) == q.drop (k + 1))) := by
  rw [List.drop_eq_getElem_cons h1, List.drop_eq_getElem_cons h2]
  rfl
theorem beq_len3 {p q : List Int} (h : p.length ≠ q.length) : (p == q) = false := beq_eq_false_iff_ne.2 (fun e => h (congrArg List.length e))

set_option maxRecDepth 100000 in
set_option maxHeartbeats 4000000 in
theorem ints3_any (v1 v2 : Value) (p q : List Int) (w : World) (hp : RdI w v1 p) (hq : RdI w v2 q) (lp : p.length ≤ 1099511627776) :
    Calls Try.prog 14 #[v1, v2] w fun e w' => e = .returned (.bool (p == q)) ∧ Below w.heap.size w w' := by
  obtain ⟨o1, c1, rfl, hc1, g1⟩ := hp
  obtain ⟨o2, c2, rfl, hc2, g2⟩ := hq
  by_cases hl : p.length = q.length
  · obtain ⟨R, hR⟩ : ∃ R, (p == q) = R := ⟨_, rfl⟩
    rw [hR]
    have HR : Hid ((p.drop 0 == q.drop 0) = R) := hR
    have e1 : ((p.length : Int) != (q.length : Int)) = false := by rw [hl]; simp
    clear hR
    go_enter Try.func14, Try.ntmps14
    go_wp2
    go_loopw [13] (fun t wr => ∃ k m : Nat, k ≤ p.length ∧ t = .int .i64 k ∧ wr = w.drewN m ∧ Hid ((p.drop k == q.drop k) = R)) (fun t _ => p.length - (RowKit.intOf t).toNat)
    case atStart => exact ⟨0, 0, Nat.zero_le _, rfl, rfl, HR⟩
    case round =>
      obtain ⟨k, m, k1, rfl, rfl, hK⟩ := hrel
      clear HR
      by_cases l1 : k < p.length
      · have l2 : k < q.length := by omega
        obtain ⟨b1, off1, rfl, hlt1, ha1⟩ := g1 (by omega)
        obtain ⟨b2, off2, rfl, hlt2, ha2⟩ := g2 (by omega)
        have x1 := ha1 k l1
        have x2 := ha2 k l2
        have Hf := hid (beq_drop3 p q k l1 l2)
        have q1 : (0 : Int) ≤ (k : Int) := by omega
        have q2 : (k : Int) < (p.length : Int) := by omega
        have q3 : (k : Int) < (q.length : Int) := by omega
        clear ha1 ha2 g1 g2
        generalize p[k] = a at *
        generalize q[k] = a2 at *
        cases he : (a == a2) with
        | true =>
          have Hn : Hid ((p.drop (k + 1) == q.drop (k + 1)) = R) := by
            show _ = _
            rw [← hK.out, Hf.out, he, Bool.true_and]
          have hne : (a != a2) = false := by rw [bne, he]; rfl
          clear Hf hK e1 hl
          go_upto_region 6 with fail
          go_quiet (fail)
          go_wp2
          go_roundw
          case rel => exact ⟨k + 1, m + nq, by omega, by go_num, by simp, Hn⟩
          case measure => simp [RowKit.intOf]; omega
        | false =>
          have hRf : R = false := by rw [← hK.out, Hf.out, he, Bool.false_and]
          have hne : (a != a2) = true := by rw [bne, he]; rfl
          subst hRf
          clear Hf hK e1 hl
          go_upto_region 6 with fail
          go_quiet (fail)
          go_wp2
          go_ret
          exact ⟨rfl, (drewN_below _ _ _).trans (drewN_below _ _ _)⟩
      · have hRt : R = true := by
          rw [← hK.out, List.drop_eq_nil_of_le (by omega), List.drop_eq_nil_of_le (by omega)]
          rfl
        subst hRt
        have hkp : k = p.length := by omega
        subst hkp
        have hd : decide (p.length < q.length) = false := decide_eq_false (by omega)
        clear hK g1 g2 e1 hl l1 k1
        go_wp2
        go_ret
        exact ⟨rfl, drewN_below _ _ _⟩
  · rw [beq_len3 hl]
    have e1 : ((p.length : Int) != (q.length : Int)) = true := by rw [bne, beq_eq_false_iff_ne.2 (by omega)]; rfl
    clear g1 g2
    go_enter Try.func14, Try.ntmps14
    go_wp2
    go_ret
    exact ⟨rfl, Below.refl _ _⟩
end Go.Proofs.Yteflknfejjdkfaa

namespace Go.Proofs.Yteflknfejjdkfaa
open Go.RowKit Go.Lib Go.Shelf

def treeD : List NodeD := [{ noNode with kind := 9, kids := [2], doc := 1 }, { noNode with kind := 1, loc := ⟨#[97]⟩, parent := 1, kids := [3, 4], doc := 1 }, { noNode with kind := 1, loc := ⟨#[98]⟩, parent := 2, doc := 1 }, { noNode with kind := 1, loc := ⟨#[99]⟩, parent := 2, doc := 1 }]
def showAll : Nat := 4294967295
def ruleB : RuleD := ⟨0, ⟨#[98]⟩, 2⟩
theorem tree_right : rightD treeD = true := by decide +kernel
theorem tree_answers : wrongE treeD [2] [] = 0 ∧ stepE treeD 2 2 [] 2 = 0 ∧ stepE treeD 2 2 [] 7 = 0 ∧ stepE treeD 2 2 [ruleB] 2 = 0 ∧ stepD treeD 2 showAll [] 2 2 = 3 ∧ reachD treeD 2 showAll [] 7 2 = [3, 4] ∧ stepD treeD 2 showAll [ruleB] 2 2 = 4 := by decide +kernel
theorem rdR_nil (W : World) (o : Option Addr) (c : Nat) : RdR W (.slice o ([] : List RuleD).length c) [] := ⟨o, c, rfl, Nat.zero_le _, fun h => absurd h (Nat.lt_irrefl _)⟩
theorem tree_kids : ∀ (i : Nat) (hi : i < treeD.length), treeD[i].kids.length ≤ 1099511627776 := by decide +kernel
theorem tree_attrs : ∀ (i : Nat) (hi : i < treeD.length), treeD[i].attrs.length ≤ 1099511627776 := by decide +kernel
theorem at_rdW {w : World} {b off cap : Nat} {ns : List NodeD} (h : FAt w b off cap ns) : FRd w (some ⟨b, off, none⟩) cap ns := ⟨h.len, fun _ => ⟨b, off, rfl, h⟩⟩
theorem enterTree (w : World) : (callFunc 24 #[]).run Try.prog w = .ok (.enter 24 #[]) w := by kernel_rfl
theorem enterStepF (a b c : Value) (w : World) : (callFunc 17 #[a, b, c]).run Try.prog w = .ok (.enter 17 #[a, b, c]) w := by kernel_rfl
theorem enterAllF (a b c : Value) (w : World) : (callFunc 13 #[a, b, c]).run Try.prog w = .ok (.enter 13 #[a, b, c]) w := by kernel_rfl
/-- The calls that are made, in any world. -/
theorem lNew (g cap : Nat) (V : World) (h : FAt V g 0 cap treeD) : Calls Try.prog 9 #[.agg #[.slice (some ⟨g, 0, none⟩) 4 cap], .int .i64 2, .agg #[.int .u32 4294967295, .slice none 0 0]] V fun e w' => ∃ vo vc, e = .returned (.tuple #[.agg #[.int .i64 2, .int .i64 2, .int .u32 4294967295, .slice vo 0 vc], .int .i64 0]) ∧ Below V.heap.size V w' := by
  refine (New_ok (some ⟨g, 0, none⟩) cap treeD 2 showAll none 0 [] V (at_rdW h) tree_kids tree_attrs (rdR_nil V none 0) (by decide) tree_answers.1).mono ?_
  rintro e w' ⟨vo, vc, rfl, _, hb⟩
  exact ⟨vo, vc, rfl, hb⟩
theorem lStep (g cap : Nat) (vo : Option Addr) (vc : Nat) (V : World) (h : FAt V g 0 cap treeD) : Calls Try.prog 17 #[.agg #[.slice (some ⟨g, 0, none⟩) 4 cap], .agg #[.int .i64 2, .int .i64 2, .int .u32 4294967295, .slice vo 0 vc], .int .u8 2] V fun e w' => ∃ vo vc, e = .returned (.tuple #[.agg #[.int .i64 2, .int .i64 3, .int .u32 4294967295, .slice vo 0 vc], .int .i64 3, .int .i64 0]) ∧ Below V.heap.size V w' := by
  refine (Step_ok g 0 cap treeD 2 2 showAll vo vc [] 2 V h tree_kids tree_attrs (rdR_nil V vo vc) (by decide) (by decide) tree_answers.2.1).mono ?_
  rintro e w' ⟨vo, vc, rfl, _, hb⟩
  rw [tree_answers.2.2.2.2.1]
  exact ⟨vo, vc, rfl, hb⟩
theorem lAll (g cap : Nat) (vo : Option Addr) (vc : Nat) (V : World) (h : FAt V g 0 cap treeD) : Calls Try.prog 13 #[.agg #[.slice (some ⟨g, 0, none⟩) 4 cap], .agg #[.int .i64 2, .int .i64 2, .int .u32 4294967295, .slice vo 0 vc], .int .u8 7] V fun e w' => ∃ v, e = .returned (.tuple #[v, .int .i64 0]) ∧ w'.ownsRow V.heap.size 3 1 v [3, 4].length ([3, 4].map (Value.int .i64)) ∧ Below V.heap.size V w' := by
  refine (All_ok g 0 cap treeD 2 2 showAll vo vc [] 7 V h tree_kids tree_attrs (rdR_nil V vo vc) (by decide) (by decide) tree_answers.2.2.1).mono ?_
  rintro e w' ⟨v, rfl, ho, hb⟩
  rw [tree_answers.2.2.2.2.2.1] at ho
  exact ⟨v, rfl, ho, hb⟩
theorem lStep2 (g cap rb : Nat) (V : World) (h : FAt V g 0 cap treeD) (hr : RuleAt V rb 0 ruleB) (hlt : rb < V.heap.size) : Calls Try.prog 17 #[.agg #[.slice (some ⟨g, 0, none⟩) 4 cap], .agg #[.int .i64 2, .int .i64 2, .int .u32 4294967295, .slice (some ⟨rb, 0, none⟩) 1 1], .int .u8 2] V fun e w' => ∃ vo vc, e = .returned (.tuple #[.agg #[.int .i64 2, .int .i64 4, .int .u32 4294967295, .slice vo 1 vc], .int .i64 4, .int .i64 0]) ∧ Below V.heap.size V w' := by
  refine (Step_ok g 0 cap treeD 2 2 showAll (some ⟨rb, 0, none⟩) 1 [ruleB] 2 V h tree_kids tree_attrs ⟨_, 1, rfl, Nat.le_refl _, fun _ => ⟨rb, 0, rfl, hlt, fun j hj => by
    have : j = 0 := by simp at hj; omega
    subst this
    exact hr⟩⟩ (by decide) (by decide) tree_answers.2.2.2.1).mono ?_
  rintro e w' ⟨vo, vc, rfl, _, hb⟩
  rw [tree_answers.2.2.2.2.2.2]
  exact ⟨vo, vc, rfl, hb⟩
end Go.Proofs.Yteflknfejjdkfaa
