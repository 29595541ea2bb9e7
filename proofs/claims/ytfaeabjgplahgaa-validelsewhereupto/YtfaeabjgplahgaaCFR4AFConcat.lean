/- The reference of order: Of, Place. -/
/- The reference of order: Root, Ancestors. -/
/- The reference of order: Contains, Common. -/
/- The reference of order: All. -/
/- Whether a node holds another one (has for overOf, holds, Holds). -/
/- The reference of order: Above, Top, Holds. -/
/- What hangs on a node through shadow trees (plain). -/
/- slices.Grow at nothing and slices.Concat, at ints. -/
import Derived.Test.YtfaeabjgplahgaaFRefN
import Derived.Test.YtfaeabjgplahgaaCFRangeFBeg
import Derived.Test.YtfaeabjgplahgaaFRefM
import Derived.Deep.RegionLaw
import Derived.Lib.AppendZerosOnto
import Derived.Deep.AppendSrc
namespace Go.Proofs.Ytfaeabjgplahgaa
open Go.RowKit Go.Lib Go.Shelf

end Go.Proofs.Ytfaeabjgplahgaa

namespace Go.Proofs.Ytfaeabjgplahgaa
open Go.RowKit Go.Lib Go.Shelf

/-- A node's parent, read out of its value. -/
theorem fld_parent (n : NodeD) (D A K : Value) (W : World) : Sem.run Try.prog (Instr.field 40 (.agg #[.int .u8 (n.kind : Int), .string n.space, .string n.pre, .string n.loc, .string n.pub, .string n.sys, D, A, .int .i64 n.parent, K, .int .i64 n.doc, .int .i64 n.host, .int .i64 n.shadow, .int .u8 (n.mode : Int), .bool n.manual, .bool n.html]) 6) W = .ok (.int .i64 n.parent) W := by kernel_rfl
theorem lastI_one (x : Int) : lastI [x] = x := rfl
theorem lastI_cons (x : Int) (l : List Int) (h : l ≠ []) : lastI (x :: l) = lastI l := lastI_append [x] l h

end Go.Proofs.Ytfaeabjgplahgaa

namespace Go.Proofs.Ytfaeabjgplahgaa
open Go.RowKit Go.Lib Go.Shelf

theorem contains_parts {ns : List NodeD} (hR : RightF ns) (a : Int) {b : Int} (hb : thereB ns.length b = true) : containsD ns a b = (a == b || decide (0 ≤ idxI (pathUp ns (parentD ns) (parentD ns b)) a 0)) := by
  unfold containsD
  rw [pathUp_head hR hb, idxI_in, List.contains_cons]
  congr 1
  exact List.contains_eq_mem _ _
theorem forkN_short : ∀ (u t q : List Int), forkN (u ++ t) q ≤ u.length → forkN (u ++ t) q = forkN u q
  | [], t, q, h => by
    have : forkN [] q = 0 := by cases q <;> rfl
    rw [this]
    simpa using h
  | x :: u, t, [], _ => rfl
  | x :: u, t, y :: q, h => by
    rw [List.cons_append, forkN] at h ⊢
    rw [forkN]
    by_cases hxy : (x == y) = true
    · rw [if_pos hxy] at h ⊢
      rw [if_pos hxy]
      rw [List.length_cons] at h
      rw [forkN_short u t q (by omega)]
    · rw [if_neg hxy, if_neg hxy]
theorem pathD_step {ns : List NodeD} (hR : RightF ns) {y : Int} (hy : thereB ns.length y = true) : pathD ns y = pathD ns (parentD ns y) ++ [y] := by
  unfold pathD
  rw [pathUp_head hR hy, List.reverse_cons]
theorem common_here {ns : List NodeD} (hR : RightF ns) {y b : Int} (hy : thereB ns.length y = true) (hb : thereB ns.length b = true) (hc : containsD ns y b = true) : commonD ns y b = y := by
  obtain ⟨pre, hp⟩ := hR.kidsHang.suf hb ((contains_mem ns y b).1 hc)
  have hD : pathD ns b = pathD ns y ++ pre.reverse := by unfold pathD; rw [hp, List.reverse_append]
  obtain ⟨l0, l1⟩ := pathD_last hR hy
  have hf : forkN (pathD ns y) (pathD ns b) = (pathD ns y).length := by
    have := forkN_append (pathD ns y) [] pre.reverse
    rw [List.append_nil] at this
    rw [hD, this]
    have : forkN [] pre.reverse = 0 := by cases pre.reverse <;> rfl
    rw [this, Nat.add_zero]
  unfold commonD
  rw [hf, l1, if_neg]
  intro h
  have := eq_of_beq h
  omega
theorem common_step {ns : List NodeD} (hR : RightF ns) {y b : Int} (hy : thereB ns.length y = true) (hc : containsD ns y b = false) : commonD ns y b = commonD ns (parentD ns y) b := by
  have hs := pathD_step hR hy
  have hlt : forkN (pathD ns y) (pathD ns b) ≤ (pathD ns (parentD ns y)).length := by
    have h1 := (forkN_le (pathD ns y) (pathD ns b)).1
    have h2 : forkN (pathD ns y) (pathD ns b) ≠ (pathD ns y).length := fun h => by
      rw [contains_of_prefix hR hy h] at hc
      cases hc
    have h3 := congrArg List.length hs
    rw [List.length_append, List.length_singleton] at h3
    omega
  have hf : forkN (pathD ns y) (pathD ns b) = forkN (pathD ns (parentD ns y)) (pathD ns b) := by
    rw [hs] at hlt ⊢
    exact forkN_short _ _ _ hlt
  unfold commonD
  rw [hf] at hlt ⊢
  by_cases h0 : forkN (pathD ns (parentD ns y)) (pathD ns b) = 0
  · rw [h0]; rfl
  · rw [if_neg (by simpa using h0), if_neg (by simpa using h0), hs, List.getD_eq_getElem?_getD, List.getElem?_append_left (by omega), ← List.getD_eq_getElem?_getD]
theorem common_none (ns : List NodeD) (b : Int) : commonD ns 0 b = 0 := by
  have h0 : pathD ns 0 = [] := by unfold pathD; rw [pathUp_zero]; rfl
  have : forkN [] (pathD ns b) = 0 := by cases (pathD ns b) <;> rfl
  unfold commonD
  rw [h0, this]
  rfl

end Go.Proofs.Ytfaeabjgplahgaa

namespace Go.Proofs.Ytfaeabjgplahgaa
open Go.RowKit Go.Lib Go.Shelf

/-- A call of a function at a step of a region that draws its order. -/
theorem step_call {P : Program} (w : World) {ops : Array Oper} {o : Oper} {a : Act} {K : Act → World → Prop} {Q : Exit → Act → World → Prop} {E : Prop} (hgd : o.guard = none) (s x : Operand) (t tn : TypeId) (f : FuncId)
    (ho : o.op = .call { callee := .value (.func f), args := #[s, x], argTypes := #[t, tn] }) (vs vx : Value) (hs : a.eval s = vs) (hx : a.eval x = vx) (hE : (callFunc f #[vs, vx]).run P w = .ok (.enter f #[vs, vx]) w) (R : Ending → World → Prop)
    (hc : Calls P f #[vs, vx] w R) (h : ∀ e w', R e w' → ∃ v, e = .returned v ∧ K (a.put o.dst v) w') :
    if Region.wanted o (yielded ops a.tmps) = true then Oper.wp P o a w K Q else E := by
  have hw : Region.wanted o (yielded ops a.tmps) = true := by simp [Region.wanted, hgd]
  rw [if_pos hw]
  have hf : a.eval (.func f) = .func (.func f) #[] #[] := rfl
  unfold Oper.wp
  simp [execOp, ho, resolve, invoke, hs, hx, hf, hE, Deferred.ofValue]
  refine hc.mono ?_
  rintro e w' hR
  obtain ⟨v, rfl, hK⟩ := h e w' hR
  exact hK

/-- An append at a step of a region that draws its order. -/
theorem step_append_own {P : Program} (w : World) {ops : Array Oper} {o : Oper} {a : Act} {K : Act → World → Prop} {Q : Exit → Act → World → Prop} {E : Prop} (hgd : o.guard = none) (s x : Operand) (t : TypeId)
    (ho : o.op = .call { callee := .builtin .append, args := #[s, x], argTypes := #[t, t] })
    (base : Nat) (e : TypeId) (i : TypeInfo) (z : Value) (size bytes : Nat) (ht : P.underlying t = some (.slice e)) (hi : P.info? e = some i) (hz : i.zero = some z)
    (hsize : i.size = size) (hby : i.bytes = bytes) (hzs : z.cells.size = size) (hsz : 0 < size)
    (v : Value) (n : Nat) (xs : List Value) (hs : a.eval s = v) (hown : w.ownsRow base e size v n xs)
    (ad : Addr) (m c : Nat) (news : List Value) (hx : a.eval x = .slice (some ad) m c) (hl : news.length = m * size) (hnews : ∀ j u, news[j]? = some u → w.cell? (ad.add j) = some u) (h1 : ∀ u ∈ news, u.oneCell' = true)
    (h63 : n + m ≤ maxLen) (hbytes : (n + m) * bytes ≤ 140737488355328) (hbase : base ≤ w.heap.size)
    (h : ∀ v' w', w'.ownsRow base e size v' (n + m) (xs ++ news) → w.grownBy w' v.ownBlock → (v' = .slice none 0 0 ↔ v = .slice none 0 0 ∧ m = 0) → K (a.put o.dst v') w') :
    if Region.wanted o (yielded ops a.tmps) = true then Oper.wp P o a w K Q else E := by
  have hw : Region.wanted o (yielded ops a.tmps) = true := by simp [Region.wanted, hgd]
  rw [if_pos hw]
  exact wp_append_own w s x t ho base e i z size bytes ht hi hz hsize hby hzs hsz v n xs hs hown ad m c news hx hl hnews h1 h63 hbytes hbase h

/-- A node's kids, read out of its value. -/
theorem fld_kids (n : NodeD) (D A K : Value) (W : World) : Sem.run Try.prog (Instr.field 40 (.agg #[.int .u8 (n.kind : Int), .string n.space, .string n.pre, .string n.loc, .string n.pub, .string n.sys, D, A, .int .i64 n.parent, K, .int .i64 n.doc, .int .i64 n.host, .int .i64 n.shadow, .int .u8 (n.mode : Int), .bool n.manual, .bool n.html]) 7) W = .ok K W := by kernel_rfl
theorem own_one (w : World) (B : Nat) (x : Int) (hB : B ≤ w.heap.size) : (w.alloc (.cells #[.int .i64 x] 3)).ownsRow B 3 1 (.slice (some ⟨w.heap.size, 0, none⟩) 1 1) 1 [Value.int .i64 x] :=
  ⟨rfl, .inr ⟨w.heap.size, 1, #[.int .i64 x], rfl, hB, heap_new w _, Nat.le_refl _, (by decide), rfl, rfl⟩⟩

theorem news_cells {w : World} {b off : Nat} {A : List Int} (h : ∀ (j : Nat) (hj : j < A.length), w.cell? ⟨b, off + j, none⟩ = some (.int .i64 A[j])) : ∀ (j : Nat) (u : Value), (A.map (Value.int .i64))[j]? = some u → w.cell? ((⟨b, off, none⟩ : Addr).add j) = some u := fun j u hj => by
  rw [List.getElem?_map] at hj
  obtain ⟨x, hx, rfl⟩ := Option.map_eq_some_iff.1 hj
  obtain ⟨hj', rfl⟩ := List.getElem?_eq_some_iff.1 hx
  have e : (⟨b, off, none⟩ : Addr).add j = ⟨b, off + j, none⟩ := by simp [Addr.add]
  rw [e]
  exact h j hj'
theorem news_one (A : List Int) : ∀ u ∈ A.map (Value.int .i64), u.oneCell' = true := fun u hu => by
  obtain ⟨x, _, rfl⟩ := List.mem_map.1 hu
  rfl

end Go.Proofs.Ytfaeabjgplahgaa

namespace Go.Proofs.Ytfaeabjgplahgaa
open Go.RowKit Go.Lib Go.Shelf
attribute [local go_sem] Oper.semAt_some

/-- Does a node hold another one, through shadow trees? -/
def holdsD (ns : List NodeD) (a b : Int) : Bool := (pathUp ns (overD ns) b).contains a

set_option maxRecDepth 100000 in
set_option maxHeartbeats 4000000 in
theorem hasO_any (b off cap bh bo bf : Nat) (x a : Int) (ns : List NodeD) (w : World) (hR : RightF ns) (hF : FAt w b off cap ns) (hU : UpAt w b off cap ns.length 47 bh bo bf x) (hx : x = 0 ∨ thereB ns.length x = true) :
    Calls Try.prog 45 #[upV bh bo bf, .int .i64 a] w fun e w' => e = .returned (.bool (decide (a ∈ pathUp ns (overD ns) x))) ∧ Below w.heap.size w w' := by
  refine (callsIn_wide (n := 5)).1 ?_
  unfold upV
  refine callsIn_of_wp_marks Try.func45 rfl trivial ?_ rfl
  simp only [Try.ntmps45, List.size_toArray, List.length_cons, List.length_nil, Nat.reduceAdd, Nat.reduceSub, Array.replicate_succ, Array.replicate_zero, List.push_toArray, List.append_toArray, List.nil_append, List.cons_append]
  gi_wp2
  have c0 := new_cell_l w (.int .i64 a) 3
  have c1 := new_cell_l (w.alloc (.cells #[.int .i64 a] 3)) (.bool false) 4
  simp only [World.size_alloc] at c1
  have hB0 : Below w.heap.size w ((w.alloc (.cells #[.int .i64 a] 3)).alloc (.cells #[.bool false] 4)) := ((Below.refl _ w).alloc (Nat.le_refl _) _).alloc (by simp) _
  have hU2 := hU.later hB0
  refine wpIn_rangeFunc_ownF rfl (by omega) (gf := 59) (lb := #[.pointer (some ⟨bh, 0, none⟩), .pointer (some ⟨bo, 0, none⟩), .pointer (some ⟨bf, 0, none⟩)]) rfl trivial (enters_of Try.func59 (by kernel_rfl) rfl)
    (upO_stops (5 - 1) bh bo bf w.heap.size b off cap (by omega) x ns w _ hR hF (Nat.le_refl _) hB0 (by simp; omega) hU.lh hU.lo hU.lf hU2.ch hU2.co hU2.cf hx) belowK_t (belowK_b (by simp; omega)) (Below.refl _ _) (fun _ => rfl)
    (fun pre W => ((∀ y ∈ pre, y ≠ a) ∧ W.cell? ⟨w.heap.size, 0, none⟩ = some (.int .i64 a) ∧ W.cell? ⟨w.heap.size + 1, 0, none⟩ = some (.bool false) ∧ W.frozen? ⟨w.heap.size + 1, 0, none⟩ = false) ∧ Below w.heap.size w W)
    (fun c pre W => (c = .ret ∧ a ∈ pre ∧ W.cell? ⟨w.heap.size + 1, 0, none⟩ = some (.bool true)) ∧ Below w.heap.size w W)
    (OwnFrom.and (Own.from (fun s A B row hs hg hr => ⟨hs.1, cell_kept hs.2.1 hg hr, cell_kept hs.2.2.1 hg hr, (frozen_kept hs.2.2.1 hg hr).trans hs.2.2.2⟩) _) (ownFrom_below (Nat.le_refl _) (by simp; omega)))
    (fun c => OwnFrom.and (Own.from (fun s A B row hs hg hr => ⟨hs.1, hs.2.1, cell_kept hs.2.2 hg hr⟩) _) (ownFrom_below (Nat.le_refl _) (by simp; omega)))
    ⟨⟨by simp, keep_cell_l _ c0.1, c1.1, c1.2⟩, hB0⟩
    (fun z => { tmps := #[.func (.func 59) #[] #[.pointer (some ⟨bh, 0, none⟩), .pointer (some ⟨bo, 0, none⟩), .pointer (some ⟨bf, 0, none⟩)], .int .i64 a, undef, .pointer (some ⟨w.heap.size, 0, none⟩), .pointer (some ⟨w.heap.size + 1, 0, none⟩), .int .i64 z, .func (.func 59) #[] #[.pointer (some ⟨bh, 0, none⟩), .pointer (some ⟨bo, 0, none⟩), .pointer (some ⟨bf, 0, none⟩)], .int .i64 z, undef, undef, undef], defers := [] }) ?assign ?body ?done ?stop
  case assign =>
    intro l z W K hK
    gi_wp2
    exact hK
  case body =>
    rintro l pre z W ⟨⟨hp, hcw, hcr, hfr⟩, hB⟩ _
    gi_wp2
    · rename_i hz
      obtain rfl : z = a := eq_of_beq hz
      exact ⟨KeepsOthers.setCell _ _ _, ⟨rfl, List.mem_append.2 (.inr (by simp)), World.cell?_setCell_same' _ _ _ (by rw [hcr]; rfl)⟩, hB.setCell (p := ⟨w.heap.size + 1, 0, none⟩) (by simp) _⟩
    · rename_i hz
      exact ⟨KeepsOthers.refl _, Below.refl _ _, ⟨fun y hy => (List.mem_append.1 hy).elim (hp y) (fun e e' => by simp at e; subst e; subst e'; simp at hz), hcw, hcr, hfr⟩, hB⟩
  case done =>
    rintro D ys W hD rfl ⟨⟨hne, _, hcr, hfr⟩, hB⟩ hK
    gi_wp2
    have hK' := (KeepsOthers.setCell W ⟨w.heap.size + 1, 0, none⟩ (.bool false)).same D _ hK rfl
    refine ⟨by simp, .inl ⟨_, _, rfl, run_takeDeferred hK', ?_⟩⟩
    have hc5 := cell_kept (World.cell?_setCell_same' W ⟨w.heap.size + 1, 0, none⟩ (.bool false) (by rw [hcr]; rfl)) (grownBy_putObj' _ D (.deferred none)) (fun r e => by cases e; exact ⟨_, hK', rfl⟩)
    refine ⟨.bool false, ?_, by rw [decide_eq_false (fun h => hne a h rfl)], (hB.setCell (p := ⟨w.heap.size + 1, 0, none⟩) (by simp) _).trans (belowK_b (w := w) (Nat.le_refl _) _ D _ _ (by simp at hD; omega) hK' rfl rfl)⟩
    simp [results, Try.f45, go_sem, hc5]
  case stop =>
    rintro D c pre W hD hpre ⟨⟨rfl, hin, hcr⟩, hB⟩ hK
    gi_wp2
    refine ⟨by simp, .inl ⟨_, _, rfl, run_takeDeferred hK, ?_⟩⟩
    have hc5 := cell_kept hcr (grownBy_putObj' _ D (.deferred none)) (fun r e => by cases e; exact ⟨_, hK, rfl⟩)
    refine ⟨.bool true, ?_, by rw [decide_eq_true (hpre.subset hin)], hB.trans (belowK_b (w := w) (Nat.le_refl _) W D _ _ (by simp at hD; omega) hK rfl rfl)⟩
    simp [results, Try.f45, go_sem, hc5]

set_option maxRecDepth 100000 in
set_option maxHeartbeats 4000000 in
theorem holds_any (b off cap : Nat) (a x : Int) (ns : List NodeD) (w : World) (hR : RightF ns) (hF : FAt w b off cap ns) (hx : thereB ns.length x = true) :
    Calls Try.prog 39 #[forestV b off cap ns.length, .int .i64 a, .int .i64 x] w fun e w' => e = .returned (.bool (holdsD ns a x)) ∧ Below w.heap.size w w' := by
  have hcd : holdsD ns a x = decide (a ∈ pathUp ns (overD ns) x) := by
    unfold holdsD
    rw [List.contains_eq_mem]
  rw [hcd]
  have HU : Hid (∀ W : World, _) := fun W => upBy_any b off cap ns.length x 47 W
  have HH : Hid (∀ (bh bo bf : Nat) (W : World), Below w.heap.size w W → UpAt W b off cap ns.length 47 bh bo bf x → _) := fun bh bo bf W hW hU => hasO_any b off cap bh bo bf x a ns W hR (hF.later hW) hU (.inr hx)
  clear hcd hF hR
  unfold forestV upV at *
  generalize decide (a ∈ pathUp ns (overD ns) x) = R at *
  go_enter Try.func39, Try.ntmps39
  go_wp2_with fail
  refine (HU.out _).mono ?_
  rintro e v1 ⟨rfl, rfl⟩
  have hA := upAt_new b off cap ns.length 47 x (w.alloc (.cells #[.slice (some ⟨b, off, none⟩) ns.length cap] 24))
  have hB := up_below b off cap ns.length 47 x (w.alloc (.cells #[.slice (some ⟨b, off, none⟩) ns.length cap] 24))
  simp only [World.size_alloc] at hA
  have hBw : Below w.heap.size w _ := ((Below.refl _ w).alloc (Nat.le_refl _) _).trans (hB.mono (by simp))
  have hH := HH.out _ _ _ _ hBw hA
  have HB := hid hBw
  clear hBw hB hA
  go_wp2_with fail
  refine hH.mono ?_
  rintro e v2 ⟨rfl, hb2⟩
  have HB2 := hid (HB.out.trans (hb2.mono HB.out.size))
  clear hb2 HB hH
  go_wp2
  go_ret
  exact ⟨rfl, HB2.out⟩

set_option maxRecDepth 100000 in
set_option maxHeartbeats 4000000 in
theorem toldHolds_any (o : Option Addr) (cap u1 u2 u3 : Nat) (R : Bool) (v : Value) (hs : List Int) (ns : List NodeD) (w : World) (hF : FRd w o cap ns) (hkl : ∀ (i : Nat) (hi : i < ns.length), ns[i].kids.length ≤ 1099511627776) (hal : ∀ (i : Nat) (hi : i < ns.length), ns[i].attrs.length ≤ 1099511627776) (hv : RdI w v hs) (hl : hs.length ≤ 1099511627776)
    (hT : toldE ns hs = 0 → ∀ W : World, Below w.heap.size w W → Calls Try.prog 38 #[.pointer (some ⟨u1, 0, none⟩), .pointer (some ⟨u2, 0, none⟩), .pointer (some ⟨u3, 0, none⟩)] W fun e w' => e = .returned (.bool R) ∧ Below W.heap.size W w') :
    Calls Try.prog 37 #[.agg #[.slice o ns.length cap], .func (.func 38) #[] #[.pointer (some ⟨u1, 0, none⟩), .pointer (some ⟨u2, 0, none⟩), .pointer (some ⟨u3, 0, none⟩)], v] w fun e w' => e = .returned (.tuple #[.bool (if toldE ns hs = 0 then R else false), .int .i64 (toldE ns hs)]) ∧ Below w.heap.size w w' := by
  have HC : Hid (∀ W : World, Below w.heap.size w W → _) := fun W hW => Check_any o cap ns W (hF.later hW) hkl hal
  have hle := hF.len
  obtain ⟨o2, c2, rfl, hc2, g2⟩ := hv
  clear hF hkl hal
  generalize checkN ns = CN at *
  cases hr : rightD ns with
  | false =>
    have e0 : toldE ns hs = 5 := by unfold toldE; rw [hr]; rfl
    have e1 : checkE ns = 5 := by unfold checkE; rw [hr]; rfl
    rw [e0, if_neg (by decide)]
    rw [e1] at HC
    clear hT e0 e1 g2
    go_enter Try.func37, Try.ntmps37
    go_wp2_with fail
    refine (HC.out _ ((Below.refl _ w).alloc (Nat.le_refl _) _)).mono ?_
    rintro e v1 ⟨rfl, hb1⟩
    go_wp2
    go_ret2
    exact ⟨rfl, box_go hb1⟩
  | true =>
    have e1 : checkE ns = 0 := (checkE_right hr).1
    rw [e1] at HC
    obtain ⟨E, hE⟩ : ∃ E, toldE ns hs = E := ⟨_, rfl⟩
    rw [hE] at hT ⊢
    have HE : Hid ((if (hs.drop 0).all (thereB ns.length) then (0 : Int) else 2) = E) := by
      have := hE
      unfold toldE at this
      rw [hr, if_pos rfl] at this
      exact this
    obtain ⟨T, hTe⟩ : ∃ T, (if E = 0 then R else false) = T := ⟨_, rfl⟩
    rw [hTe]
    have HTe := hid hTe
    have HT := hid hT
    clear hE hT e1 hTe
    go_enter Try.func37, Try.ntmps37
    go_wp2_with fail
    refine (HC.out _ ((Below.refl _ w).alloc (Nat.le_refl _) _)).mono ?_
    rintro e v1 ⟨rfl, hb1⟩
    have HB1 := hid (box_go hb1)
    have cb := box_forest hb1
    clear hb1 HC
    go_wp2
    go_loopw [24] (fun t wr => ∃ k : Nat, k ≤ hs.length ∧ t = .int .i64 k ∧ wr = v1 ∧ Hid ((if (hs.drop k).all (thereB ns.length) then (0 : Int) else 2) = E)) (fun t _ => hs.length - (RowKit.intOf t).toNat)
    case atStart => exact ⟨0, Nat.zero_le _, rfl, rfl, HE⟩
    case round =>
      obtain ⟨k, k1, rfl, rfl, hK⟩ := hrel
      by_cases hlt : k < hs.length
      · obtain ⟨b, off, rfl, hlt1, ha⟩ := g2 (by omega)
        have x1 := (HB1.out.cell (p := ⟨b, off + k, none⟩) hlt1).trans (ha k hlt)
        have q1 : (0 : Int) ≤ (k : Int) := by omega
        have q2 : (k : Int) < (hs.length : Int) := by omega
        have hk := hK.out
        rw [List.drop_eq_getElem_cons hlt, List.all_cons] at hk
        have Hk := hid hk
        clear hk hK ha g2
        generalize hs[k] = a at *
        by_cases g1 : a < 1
        · have hf : thereB ns.length a = false := by unfold thereB; rw [decide_eq_false (by omega)]; rfl
          have hE2 : E = 2 := by rw [← Hk.out, hf]; rfl
          subst hE2
          have hT0 : T = false := by rw [← HTe.out]; rfl
          subst hT0
          have d1 : decide (a < 1) = true := decide_eq_true g1
          clear Hk hf HT
          go_wp2
          go_ret2
          exact ⟨rfl, HB1.out⟩
        · have d1 : decide (a < 1) = false := decide_eq_false g1
          by_cases g3 : (ns.length : Int) < a
          · have hf : thereB ns.length a = false := by unfold thereB; rw [decide_eq_false (p := a ≤ (ns.length : Int)) (by omega), Bool.and_false]
            have hE2 : E = 2 := by rw [← Hk.out, hf]; rfl
            subst hE2
            have hT0 : T = false := by rw [← HTe.out]; rfl
            subst hT0
            have d2 : decide ((ns.length : Int) < a) = true := decide_eq_true g3
            clear Hk hf HT
            go_wp2
            go_ret2
            exact ⟨rfl, HB1.out⟩
          · have hf : thereB ns.length a = true := by unfold thereB; rw [decide_eq_true (by omega), decide_eq_true (by omega)]; rfl
            have d2 : decide ((ns.length : Int) < a) = false := decide_eq_false g3
            have Hn : Hid ((if (hs.drop (k + 1)).all (thereB ns.length) then (0 : Int) else 2) = E) := by
              have h := Hk.out
              rw [hf, Bool.true_and] at h
              exact h
            clear Hk hf
            go_wp2
            go_roundw
            case rel => exact ⟨k + 1, by omega, by go_num, trivial, Hn⟩
            case measure => simp [RowKit.intOf]; omega
      · have hE0 : E = 0 := by rw [← hK.out, List.drop_eq_nil_of_le (by omega)]; rfl
        subst hE0
        have hT := HT.out rfl wr HB1.out
        have hT0 : T = R := by rw [← HTe.out]; rfl
        subst hT0
        clear hK g2 HT HTe
        go_wp2_with fail
        refine hT.mono ?_
        rintro e v2 ⟨rfl, hb2⟩
        have HB2 := hid (HB1.out.trans (hb2.mono HB1.out.size))
        clear hT hb2
        go_wp2
        go_ret2
        exact ⟨rfl, HB2.out⟩

set_option maxRecDepth 100000 in
set_option maxHeartbeats 2000000 in
theorem Holds1_any (b off cap u1 u2 u3 : Nat) (x y : Int) (ns : List NodeD) (w : World) (hR : RightF ns) (hF : FAt w b off cap ns) (hy : thereB ns.length y = true)
    (c1 : w.cell? ⟨u1, 0, none⟩ = some (.slice (some ⟨b, off, none⟩) ns.length cap)) (c2 : w.cell? ⟨u2, 0, none⟩ = some (.int .i64 x)) (c3 : w.cell? ⟨u3, 0, none⟩ = some (.int .i64 y)) :
    Calls Try.prog 38 #[.pointer (some ⟨u1, 0, none⟩), .pointer (some ⟨u2, 0, none⟩), .pointer (some ⟨u3, 0, none⟩)] w fun e w' => e = .returned (.bool (holdsD ns x y)) ∧ Below w.heap.size w w' := by
  have hP := holds_any b off cap x y ns w hR hF hy
  unfold forestV at hP
  generalize holdsD ns x y = P at *
  go_enter Try.func38, Try.ntmps38
  go_wp2_with fail
  refine hP.mono ?_
  rintro e v1 ⟨rfl, hb1⟩
  have HB := hid hb1
  clear hP hb1
  go_wp2
  go_ret
  exact ⟨rfl, HB.out⟩

set_option maxRecDepth 100000 in
set_option maxHeartbeats 4000000 in
theorem Holds_any (o : Option Addr) (cap : Nat) (x y : Int) (ns : List NodeD) (w : World) (hF : FRd w o cap ns) (hkl : ∀ (i : Nat) (hi : i < ns.length), ns[i].kids.length ≤ 1099511627776) (hal : ∀ (i : Nat) (hi : i < ns.length), ns[i].attrs.length ≤ 1099511627776) :
    Calls Try.prog 23 #[.agg #[.slice o ns.length cap], .int .i64 x, .int .i64 y] w fun e w' => e = .returned (.tuple #[.bool (if toldE ns [x, y] = 0 then holdsD ns x y else false), .int .i64 (toldE ns [x, y])]) ∧ Below w.heap.size w w' := by
  have hB4 : Below w.heap.size w ((((w.alloc (.cells #[.slice o ns.length cap] 24)).alloc (.cells #[.int .i64 x] 3)).alloc (.cells #[.int .i64 y] 3)).alloc (.cells #[.int .i64 x, .int .i64 y] 3)) := ((((Below.refl _ w).alloc (Nat.le_refl _) _).alloc (by simp) _).alloc (by simp; omega) _).alloc (by simp; omega) _
  have k0 := new_cell_l w (.slice o ns.length cap) 24
  have k1 := new_cell_l (w.alloc (.cells #[.slice o ns.length cap] 24)) (.int .i64 x) 3
  have k2 := new_cell_l ((w.alloc (.cells #[.slice o ns.length cap] 24)).alloc (.cells #[.int .i64 x] 3)) (.int .i64 y) 3
  have kr := two_rdI (((w.alloc (.cells #[.slice o ns.length cap] 24)).alloc (.cells #[.int .i64 x] 3)).alloc (.cells #[.int .i64 y] 3)) x y 3
  simp only [World.size_alloc] at k1 k2 kr
  have c0 := keep_cell_l (.cells #[.int .i64 x, .int .i64 y] 3) (keep_cell_l (.cells #[.int .i64 y] 3) (keep_cell_l (.cells #[.int .i64 x] 3) k0.1))
  have c1 := keep_cell_l (.cells #[.int .i64 x, .int .i64 y] 3) (keep_cell_l (.cells #[.int .i64 y] 3) k1.1)
  have c2 := keep_cell_l (.cells #[.int .i64 x, .int .i64 y] 3) k2.1
  have hT := toldHolds_any o cap w.heap.size (w.heap.size + 1) (w.heap.size + 1 + 1) (holdsD ns x y) _ [x, y] ns _ (hF.later hB4) hkl hal kr (by simp) (fun hE W hW => by
    obtain ⟨hR, hth⟩ := toldE_zero hE
    have hx := hth x (by simp)
    have hy := hth y (by simp)
    have hpos : 0 < ns.length := by
      obtain ⟨j, hj, _⟩ := there_idx hx
      omega
    obtain ⟨b, off, rfl, hFA⟩ := hF.at_ hpos
    have s0 : w.heap.size < ((((w.alloc (.cells #[.slice (some ⟨b, off, none⟩) ns.length cap] 24)).alloc (.cells #[.int .i64 x] 3)).alloc (.cells #[.int .i64 y] 3)).alloc (.cells #[.int .i64 x, .int .i64 y] 3)).heap.size := by simp only [World.size_alloc]; omega
    exact Holds1_any b off cap _ _ _ x y ns W hR (hFA.later (hB4.trans (hW.mono hB4.size))) hy
      ((hW.cell (p := ⟨w.heap.size, 0, none⟩) s0).trans c0)
      ((hW.cell (p := ⟨w.heap.size + 1, 0, none⟩) (by show w.heap.size + 1 < _; simp only [World.size_alloc]; omega)).trans c1)
      ((hW.cell (p := ⟨w.heap.size + 1 + 1, 0, none⟩) (by show w.heap.size + 1 + 1 < _; simp only [World.size_alloc]; omega)).trans c2))
  generalize (if toldE ns [x, y] = 0 then holdsD ns x y else false) = A at *
  generalize toldE ns [x, y] = E at *
  have HB4 := hid hB4
  clear k0 k1 k2 kr c0 c1 c2 hF hkl hal hB4
  go_enter Try.func23, Try.ntmps23
  go_wp2_with fail
  refine hT.mono ?_
  rintro e v1 ⟨rfl, hb1⟩
  have HB := hid (HB4.out.trans (hb1.mono HB4.out.size))
  clear hT hb1 HB4
  go_wp2
  go_ret2
  exact ⟨rfl, HB.out⟩
end Go.Proofs.Ytfaeabjgplahgaa

namespace Go.Proofs.Ytfaeabjgplahgaa
open Go.RowKit Go.Lib Go.Shelf

theorem fld_kind (n : NodeD) (D A K : Value) (W : World) : Sem.run Try.prog (Instr.field 40 (.agg #[.int .u8 (n.kind : Int), .string n.space, .string n.pre, .string n.loc, .string n.pub, .string n.sys, D, A, .int .i64 n.parent, K, .int .i64 n.doc, .int .i64 n.host, .int .i64 n.shadow, .int .u8 (n.mode : Int), .bool n.manual, .bool n.html]) 0) W = .ok (.int .u8 (n.kind : Int)) W := by kernel_rfl
theorem fld_host (n : NodeD) (D A K : Value) (W : World) : Sem.run Try.prog (Instr.field 40 (.agg #[.int .u8 (n.kind : Int), .string n.space, .string n.pre, .string n.loc, .string n.pub, .string n.sys, D, A, .int .i64 n.parent, K, .int .i64 n.doc, .int .i64 n.host, .int .i64 n.shadow, .int .u8 (n.mode : Int), .bool n.manual, .bool n.html]) 9) W = .ok (.int .i64 n.host) W := by kernel_rfl
theorem over_kind {ns : List NodeD} (h : RightF ns) (j : Nat) (hj : j < ns.length) : overD ns ((j : Int) + 1) = if ns[j].kind == 12 then ns[j].host else ns[j].parent := by
  rw [overD_at ns j hj]
  by_cases hk : ns[j].kind = 12
  · have ht := h.host j hj hk
    have hne : ns[j].host ≠ 0 := fun e => by
      rw [e] at ht
      cases ht
    rw [beq_eq_false_iff_ne.2 hne, if_neg Bool.false_ne_true, hk]
    rfl
  · rw [bare_host (well_parts (h.well j hj)).2.1 hk, beq_eq_false_iff_ne.2 hk, if_neg Bool.false_ne_true]
    rfl
theorem over_there {ns : List NodeD} (h : RightF ns) {x : Int} (hx : thereB ns.length x = true) : overD ns x = 0 ∨ thereB ns.length (overD ns x) = true := by
  obtain ⟨j, hj, rfl⟩ := there_idx hx
  rcases h.overOK j hj with e | ⟨_, e⟩
  · exact .inl e
  · exact .inr e
theorem over_head {ns : List NodeD} (h : RightF ns) {x : Int} (hx : thereB ns.length x = true) : pathUp ns (overD ns) x = x :: pathUp ns (overD ns) (overD ns x) := by
  obtain ⟨j, hj, rfl⟩ := there_idx hx
  exact pathUp_cons ns _ h.overOK h.ends j hj

theorem holds_here (ns : List NodeD) {a b : Int} (hR : RightF ns) (hb : thereB ns.length b = true) : holdsD ns a b = (b == a || holdsD ns a (overD ns b)) := by
  unfold holdsD
  rw [over_head hR hb, List.contains_cons]
  congr 1
  rw [Bool.eq_iff_iff, beq_iff_eq, beq_iff_eq]
  exact ⟨Eq.symm, Eq.symm⟩
end Go.Proofs.Ytfaeabjgplahgaa

namespace Go.Proofs.Ytfaeabjgplahgaa
open Go.RowKit Go.Lib Go.Shelf

def hangD (ns : List NodeD) (x : Int) : List Int := match nodeOf ns x with
  | some n => if n.shadow == 0 then n.kids else n.shadow :: n.kids
  | none => []
theorem hangD_at (ns : List NodeD) (j : Nat) (hj : j < ns.length) : hangD ns ((j : Int) + 1) = if ns[j].shadow == 0 then ns[j].kids else ns[j].shadow :: ns[j].kids := by unfold hangD; rw [nodeOf_at ns j hj]
theorem bare_no_shadow {n : NodeD} (h : bareD n = true) (hk : n.kind ≠ 1) : n.shadow = 0 := by
  unfold bareD at h
  simp only [Bool.and_eq_true] at h
  have h1 := h.1.1.1.1.1.1.1
  rw [beq_eq_false_iff_ne.2 hk] at h1
  simp at h1
  exact h1.2
theorem shadow_down {ns : List NodeD} (h : RightF ns) (j : Nat) (hj : j < ns.length) (h0 : ns[j].shadow ≠ 0) : ∃ (i : Nat) (hi : i < ns.length), ns[j].shadow = (i : Int) + 1 ∧ ns[i].kind = 12 ∧ ns[i].host = (j : Int) + 1 := by
  have hs := h.shadow j hj
  have hb := (well_parts (h.well j hj)).2.1
  have hk : ns[j].kind = 1 := by
    by_cases hk : ns[j].kind = 1
    · exact hk
    · exact absurd (bare_no_shadow hb hk) h0
  unfold rightShadowD at hs
  rw [hk, if_neg (by decide), beq_eq_false_iff_ne.2 h0, Bool.false_or] at hs
  cases hn : nodeOf ns ns[j].shadow with
  | none => rw [hn] at hs; cases hs
  | some u =>
    rw [hn] at hs
    obtain ⟨i, hi, e, e2⟩ := nodeOf_idx hn
    subst e2
    simp only [Bool.and_eq_true, beq_iff_eq] at hs
    exact ⟨i, hi, e, hs.1, hs.2⟩
theorem shadow_back {ns : List NodeD} (h : RightF ns) (j : Nat) (hj : j < ns.length) (hk : ns[j].kind = 12) : ∃ (i : Nat) (hi : i < ns.length), ns[j].host = (i : Int) + 1 ∧ ns[i].shadow = (j : Int) + 1 := by
  have hs := h.shadow j hj
  unfold rightShadowD at hs
  rw [hk, if_pos (by decide)] at hs
  cases hn : nodeOf ns ns[j].host with
  | none => rw [hn] at hs; cases hs
  | some u =>
    rw [hn] at hs
    obtain ⟨i, hi, e, e2⟩ := nodeOf_idx hn
    subst e2
    simp only [Bool.and_eq_true, beq_iff_eq] at hs
    exact ⟨i, hi, e, hs.2⟩
theorem over_kid {ns : List NodeD} (h : RightF ns) {x y : Int} (hx : thereB ns.length x = true) (hy : y ∈ kidsD ns x) : thereB ns.length y = true ∧ overD ns y = x ∧ parentD ns y = x := by
  obtain ⟨ht, hp⟩ := h.kidsHang.down x y hx hy
  refine ⟨ht, ?_, hp⟩
  obtain ⟨i, hi, rfl⟩ := there_idx ht
  rw [parentD_at ns i hi] at hp
  have hk : ns[i].kind ≠ 12 := fun hk => there_ne hx (by rw [← hp]; exact bare_shadow (well_parts (h.well i hi)).2.1 hk)
  rw [over_kind h i hi, beq_eq_false_iff_ne.2 hk, if_neg Bool.false_ne_true, hp]
theorem kidsD_at (ns : List NodeD) (j : Nat) (hj : j < ns.length) : kidsD ns ((j : Int) + 1) = ns[j].kids := by unfold kidsD; rw [nodeOf_at ns j hj]
/-- What hangs on a node, shadow trees too, has it above. -/
theorem RightF.deepHang {ns : List NodeD} (h : RightF ns) : Hangs ns (overD ns) (hangD ns) where
  ok := h.overOK
  ends := h.ends
  down := fun x y hx hy => by
    obtain ⟨j, hj, rfl⟩ := there_idx hx
    rw [hangD_at ns j hj] at hy
    have kid : y ∈ ns[j].kids → thereB ns.length y = true ∧ overD ns y = (j : Int) + 1 := fun hm => by
      have := over_kid h hx (y := y) (by rw [kidsD_at ns j hj]; exact hm)
      exact ⟨this.1, this.2.1⟩
    by_cases h0 : ns[j].shadow = 0
    · rw [h0, show ((0 : Int) == 0) = true from rfl, if_pos rfl] at hy
      exact kid hy
    · rw [beq_eq_false_iff_ne.2 h0, if_neg Bool.false_ne_true] at hy
      rcases List.mem_cons.1 hy with e | hm
      · obtain ⟨i, hi, e1, e2, e3⟩ := shadow_down h j hj h0
        rw [e, e1]
        exact ⟨thereB_idx _ _ hi, by rw [over_kind h i hi, e2, e3]; rfl⟩
      · exact kid hm
  back := fun y hy h0 => by
    obtain ⟨j, hj, rfl⟩ := there_idx hy
    by_cases hk : ns[j].kind = 12
    · have e : overD ns ((j : Int) + 1) = ns[j].host := by rw [over_kind h j hj, hk]; rfl
      obtain ⟨i, hi, e1, e2⟩ := shadow_back h j hj hk
      rw [e, e1, hangD_at ns i hi, e2, if_neg]
      · simp
      · intro hh
        have := eq_of_beq hh
        omega
    · have e : overD ns ((j : Int) + 1) = parentD ns ((j : Int) + 1) := by rw [over_kind h j hj, beq_eq_false_iff_ne.2 hk, if_neg Bool.false_ne_true, parentD_at ns j hj]
      rw [e] at h0 ⊢
      have hm := h.kid hy h0
      obtain ⟨i, hi, e1⟩ := there_idx (h.kidsHang.up_there hy h0)
      rw [e1] at hm ⊢
      rw [kidsD_at ns i hi] at hm
      rw [hangD_at ns i hi]
      split
      · exact hm
      · exact List.mem_cons_of_mem _ hm
  once := fun x hx => by
    have ho := h.kidsHang.once x hx
    obtain ⟨j, hj, rfl⟩ := there_idx hx
    rw [hangD_at ns j hj]
    rw [kidsD_at ns j hj] at ho
    by_cases h0 : ns[j].shadow = 0
    · rw [h0, show ((0 : Int) == 0) = true from rfl, if_pos rfl]
      exact ho
    · rw [beq_eq_false_iff_ne.2 h0, if_neg Bool.false_ne_true]
      refine List.nodup_cons.2 ⟨fun hm => ?_, ho⟩
      obtain ⟨i, hi, e1, e2, e3⟩ := shadow_down h j hj h0
      have hp := (over_kid h hx (y := ns[j].shadow) (by rw [kidsD_at ns j hj]; exact hm)).2.2
      rw [e1, parentD_at ns i hi, bare_shadow (well_parts (h.well i hi)).2.1 e2] at hp
      omega
/-- A node and what lies in it, shadow trees too. -/
def deepD (ns : List NodeD) (x : Int) : List Int := belowF (hangD ns) (ns.length + 1) x
theorem deep_cons {ns : List NodeD} (h : RightF ns) {x : Int} (hx : thereB ns.length x = true) : deepD ns x = x :: (hangD ns x).flatMap (deepD ns) := h.deepHang.cons hx
theorem deep_len {ns : List NodeD} (h : RightF ns) {x : Int} (hx : thereB ns.length x = true) : (deepD ns x).length ≤ 4096 := Nat.le_trans (h.deepHang.below_len (ns.length + 1) x hx (by omega)) h.small
end Go.Proofs.Ytfaeabjgplahgaa

namespace Go.Proofs.Ytfaeabjgplahgaa
open Go.RowKit Go.Lib Go.Shelf

/-- Units that are put behind a row of the call's own. -/
theorem run_append_rdI (w : World) (B : Nat) (v src : Value) (done us : List Int) (ty : TypeId) (hown : w.ownsRow B 3 1 v done.length (done.map (Value.int .i64))) (hB : B ≤ w.heap.size) (hr : RdI w src us) (hn : done.length + us.length ≤ 4398046511104) :
    ∃ v' w', (Builtin.append_ #[29, 29] ty #[v, src]).run Try.prog w = .ok v' w' ∧ w'.ownsRow B 3 1 v' (done ++ us).length ((done ++ us).map (Value.int .i64)) ∧ w.grownBy w' v.ownBlock := by
  obtain ⟨i0, hi, hz0, hz1, hz2⟩ := info_parts info_int
  have hcase : (∃ cap, src = .slice none 0 cap ∧ us = []) ∨ ∃ a cap, src = .slice (some a) us.length cap ∧ (∀ (j : Nat) (h : j < us.length), w.cell? (a.add j) = some (.int .i64 us[j])) := by
    obtain ⟨o, cap, rfl, _, g⟩ := hr
    by_cases h0 : us.length = 0
    · have hn : us = [] := List.eq_nil_of_length_eq_zero h0
      subst hn
      cases o with
      | none => exact .inl ⟨cap, rfl, rfl⟩
      | some a => exact .inr ⟨a, cap, rfl, fun j hj => by simp at hj⟩
    · obtain ⟨b, off, rfl, _, ha⟩ := g (by omega)
      refine .inr ⟨⟨b, off, none⟩, cap, rfl, fun j hj => ?_⟩
      have e : (⟨b, off, none⟩ : Addr).add j = ⟨b, off + j, none⟩ := by simp [Addr.add]
      rw [e]
      exact ha j hj
  rcases hcase with ⟨cap, rfl, rfl⟩ | ⟨a, cap, rfl, hc⟩
  · refine ⟨v, w, ?_, by simpa using hown, ⟨rfl, rfl, rfl, Nat.le_refl _, fun _ _ _ => rfl⟩⟩
    rcases hown.2 with ⟨hv, _⟩ | ⟨g, c, cur, hv, _, hg, hnc, _⟩
    · subst hv
      have hs := Src.ofNil (P := Try.prog) w (size := i0.size) Try.underlying29 cap
      simp [Builtin.append_, run_underlying Try.underlying29, sizeOf, typeInfo, hi, Builtin.lenOf]
      rw [hs.cells]
      rfl
    · subst hv
      have hs := Src.ofNil (P := Try.prog) w (size := i0.size) Try.underlying29 cap
      have h := run_append_room_src w 29 29 ty 3 i0 Try.underlying29 hi g 0 done.length c (.slice none 0 cap) 0 [] hs (by omega) (fun j hj => by simp at hj) (fun j hj => by simp at hj)
      exact h
  · obtain ⟨v', w', h1, h2, h3, _⟩ := run_append_own (P := Try.prog) w B 29 ty 3 i0 (.int .i64 0) 1 8 Try.underlying29 hi hz0 hz1 hz2 rfl (by decide) v done.length (done.map (Value.int .i64)) hown a us.length cap (us.map (Value.int .i64)) (by simp) (fun j u hj => by
      rw [List.getElem?_map] at hj
      obtain ⟨x, hx, rfl⟩ := Option.map_eq_some_iff.1 hj
      obtain ⟨hj', rfl⟩ := List.getElem?_eq_some_iff.1 hx
      exact hc j hj') (fun u hu => by obtain ⟨x, _, rfl⟩ := List.mem_map.1 hu; rfl) (by unfold maxLen; omega) (by omega) hB
    exact ⟨v', w', h1, by simpa using h2, h3⟩

theorem below_grownI {B : Nat} {w w1 : World} {v : Value} {n : Nat} {xs : List Value} (hown : w.ownsRow B 3 1 v n xs) (hB : B ≤ w.heap.size) (hg : w.grownBy w1 v.ownBlock) : Below B w w1 :=
  (Below.refl B w).grown hg hB (fun j hj => (hown.lt j hj).1)

/-- Strings of units that lie one behind the other. -/
def CellsLI (w : World) (g : Nat) (L : List (Value × List Int)) : Prop := ∀ (j : Nat) (h : j < L.length), w.cell? ⟨g, j, none⟩ = some L[j].1 ∧ RdI w L[j].1 L[j].2
theorem CellsLI.later {w W : World} {g : Nat} {L : List (Value × List Int)} (h : CellsLI w g L) (hg : g < w.heap.size) (hb : Below w.heap.size w W) : CellsLI W g L := fun j hj =>
  ⟨(hb.cell (p := ⟨g, j, none⟩) hg).trans (h j hj).1, (h j hj).2.later hb⟩
def sumL (L : List (Value × List Int)) : Nat := (L.map (·.2.length)).sum
def catL (L : List (Value × List Int)) : List Int := L.flatMap (·.2)
theorem catL_len (L : List (Value × List Int)) : (catL L).length = sumL L := by
  simp [catL, sumL, List.length_flatMap]
theorem take_step (L : List (Value × List Int)) (k : Nat) (h : k < L.length) : L.take (k + 1) = L.take k ++ [L[k]] := by
  rw [List.take_add_one, List.getElem?_eq_getElem h]
  rfl
theorem sum_step (L : List (Value × List Int)) (k : Nat) (h : k < L.length) : sumL (L.take (k + 1)) = sumL (L.take k) + L[k].2.length := by
  unfold sumL
  rw [take_step L k h, List.map_append, List.sum_append, List.map_cons, List.map_nil, List.sum_cons, List.sum_nil, Nat.add_zero]
theorem cat_step (L : List (Value × List Int)) (k : Nat) (h : k < L.length) : catL (L.take (k + 1)) = catL (L.take k) ++ L[k].2 := by
  unfold catL
  rw [take_step L k h, List.flatMap_append, List.flatMap_cons, List.flatMap_nil, List.append_nil]
theorem sum_le (L : List (Value × List Int)) (k : Nat) : sumL (L.take k) ≤ sumL L := by
  have h : sumL L = sumL (L.take k) + sumL (L.drop k) := by
    unfold sumL
    rw [← List.sum_append, ← List.map_append, List.take_append_drop]
  omega

end Go.Proofs.Ytfaeabjgplahgaa
