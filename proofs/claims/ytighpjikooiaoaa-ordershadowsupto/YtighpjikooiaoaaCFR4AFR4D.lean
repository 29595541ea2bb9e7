/- The reference of order: Of, Place. -/
/- The reference of order: Root, Ancestors. -/
/- The reference of order: Contains, Common. -/
/- The reference of order: All. -/
import Derived.Test.YtighpjikooiaoaaFRefN
import Derived.Test.YtighpjikooiaoaaCFConFTree
import Derived.Test.YtighpjikooiaoaaCFIntsFBegT
import Derived.Test.YtighpjikooiaoaaFRefM
import Derived.Deep.RegionLaw
namespace Go.Proofs.Ytighpjikooiaoaa
open Go.RowKit Go.Lib Go.Shelf

end Go.Proofs.Ytighpjikooiaoaa

namespace Go.Proofs.Ytighpjikooiaoaa
open Go.RowKit Go.Lib Go.Shelf

/-- A node's parent, read out of its value. -/
theorem fld_parent (n : NodeD) (D A K : Value) (W : World) : Sem.run Try.prog (Instr.field 47 (.agg #[.int .u8 (n.kind : Int), .string n.space, .string n.pre, .string n.loc, .string n.pub, .string n.sys, D, A, .int .i64 n.parent, K, .int .i64 n.doc, .int .i64 n.host, .int .i64 n.shadow, .int .u8 (n.mode : Int), .bool n.manual, .bool n.html]) 6) W = .ok (.int .i64 n.parent) W := by kernel_rfl
theorem lastI_one (x : Int) : lastI [x] = x := rfl
theorem lastI_cons (x : Int) (l : List Int) (h : l ≠ []) : lastI (x :: l) = lastI l := lastI_append [x] l h

end Go.Proofs.Ytighpjikooiaoaa

namespace Go.Proofs.Ytighpjikooiaoaa
open Go.RowKit Go.Lib Go.Shelf

theorem contains_parts {ns : List NodeD} (hR : RightF ns) (a : Int) {b : Int} (hb : thereB ns.length b = true) : containsD ns a b = (a == b || decide (0 ≤ idxI (pathUp ns (parentD ns) (parentD ns b)) a 0)) := by
  unfold containsD
  rw [pathUp_head hR hb, idxI_in, List.contains_cons]
  congr 1
  exact List.contains_eq_mem _ _
theorem forkN_short : ∀ (u t q : List Int), forkN (u ++ t) q ≤ u.length → forkN (u ++ t) q = forkN u q
  | [], t, q, h => by
    have : forkN [] q = 0 := by cases q <;> rfl
    rw [this]
    simpa using h
  | x :: u, t, [], _ => rfl
  | x :: u, t, y :: q, h => by
    rw [List.cons_append, forkN] at h ⊢
    rw [forkN]
    by_cases hxy : (x == y) = true
    · rw [if_pos hxy] at h ⊢
      rw [if_pos hxy]
      rw [List.length_cons] at h
      rw [forkN_short u t q (by omega)]
    · rw [if_neg hxy, if_neg hxy]
theorem pathD_step {ns : List NodeD} (hR : RightF ns) {y : Int} (hy : thereB ns.length y = true) : pathD ns y = pathD ns (parentD ns y) ++ [y] := by
  unfold pathD
  rw [pathUp_head hR hy, List.reverse_cons]
theorem common_here {ns : List NodeD} (hR : RightF ns) {y b : Int} (hy : thereB ns.length y = true) (hb : thereB ns.length b = true) (hc : containsD ns y b = true) : commonD ns y b = y := by
  obtain ⟨pre, hp⟩ := hR.kidsHang.suf hb ((contains_mem ns y b).1 hc)
  have hD : pathD ns b = pathD ns y ++ pre.reverse := by unfold pathD; rw [hp, List.reverse_append]
  obtain ⟨l0, l1⟩ := pathD_last hR hy
  have hf : forkN (pathD ns y) (pathD ns b) = (pathD ns y).length := by
    have := forkN_append (pathD ns y) [] pre.reverse
    rw [List.append_nil] at this
    rw [hD, this]
    have : forkN [] pre.reverse = 0 := by cases pre.reverse <;> rfl
    rw [this, Nat.add_zero]
  unfold commonD
  rw [hf, l1, if_neg]
  intro h
  have := eq_of_beq h
  omega
theorem common_step {ns : List NodeD} (hR : RightF ns) {y b : Int} (hy : thereB ns.length y = true) (hc : containsD ns y b = false) : commonD ns y b = commonD ns (parentD ns y) b := by
  have hs := pathD_step hR hy
  have hlt : forkN (pathD ns y) (pathD ns b) ≤ (pathD ns (parentD ns y)).length := by
    have h1 := (forkN_le (pathD ns y) (pathD ns b)).1
    have h2 : forkN (pathD ns y) (pathD ns b) ≠ (pathD ns y).length := fun h => by
      rw [contains_of_prefix hR hy h] at hc
      cases hc
    have h3 := congrArg List.length hs
    rw [List.length_append, List.length_singleton] at h3
    omega
  have hf : forkN (pathD ns y) (pathD ns b) = forkN (pathD ns (parentD ns y)) (pathD ns b) := by
    rw [hs] at hlt ⊢
    exact forkN_short _ _ _ hlt
  unfold commonD
  rw [hf] at hlt ⊢
  by_cases h0 : forkN (pathD ns (parentD ns y)) (pathD ns b) = 0
  · rw [h0]; rfl
  · rw [if_neg (by simpa using h0), if_neg (by simpa using h0), hs, List.getD_eq_getElem?_getD, List.getElem?_append_left (by omega), ← List.getD_eq_getElem?_getD]
theorem common_none (ns : List NodeD) (b : Int) : commonD ns 0 b = 0 := by
  have h0 : pathD ns 0 = [] := by unfold pathD; rw [pathUp_zero]; rfl
  have : forkN [] (pathD ns b) = 0 := by cases (pathD ns b) <;> rfl
  unfold commonD
  rw [h0, this]
  rfl

end Go.Proofs.Ytighpjikooiaoaa

namespace Go.Proofs.Ytighpjikooiaoaa
open Go.RowKit Go.Lib Go.Shelf

/-- A call of a function at a step of a region that draws its order. -/
theorem step_call {P : Program} (w : World) {ops : Array Oper} {o : Oper} {a : Act} {K : Act → World → Prop} {Q : Exit → Act → World → Prop} {E : Prop} (hgd : o.guard = none) (s x : Operand) (t tn : TypeId) (f : FuncId)
    (ho : o.op = .call { callee := .value (.func f), args := #[s, x], argTypes := #[t, tn] }) (vs vx : Value) (hs : a.eval s = vs) (hx : a.eval x = vx) (hE : (callFunc f #[vs, vx]).run P w = .ok (.enter f #[vs, vx]) w) (R : Ending → World → Prop)
    (hc : Calls P f #[vs, vx] w R) (h : ∀ e w', R e w' → ∃ v, e = .returned v ∧ K (a.put o.dst v) w') :
    if Region.wanted o (yielded ops a.tmps) = true then Oper.wp P o a w K Q else E := by
  have hw : Region.wanted o (yielded ops a.tmps) = true := by simp [Region.wanted, hgd]
  rw [if_pos hw]
  have hf : a.eval (.func f) = .func (.func f) #[] #[] := rfl
  unfold Oper.wp
  simp [execOp, ho, resolve, invoke, hs, hx, hf, hE, Deferred.ofValue]
  refine hc.mono ?_
  rintro e w' hR
  obtain ⟨v, rfl, hK⟩ := h e w' hR
  exact hK

/-- An append at a step of a region that draws its order. -/
theorem step_append_own {P : Program} (w : World) {ops : Array Oper} {o : Oper} {a : Act} {K : Act → World → Prop} {Q : Exit → Act → World → Prop} {E : Prop} (hgd : o.guard = none) (s x : Operand) (t : TypeId)
    (ho : o.op = .call { callee := .builtin .append, args := #[s, x], argTypes := #[t, t] })
    (base : Nat) (e : TypeId) (i : TypeInfo) (z : Value) (size bytes : Nat) (ht : P.underlying t = some (.slice e)) (hi : P.info? e = some i) (hz : i.zero = some z)
    (hsize : i.size = size) (hby : i.bytes = bytes) (hzs : z.cells.size = size) (hsz : 0 < size)
    (v : Value) (n : Nat) (xs : List Value) (hs : a.eval s = v) (hown : w.ownsRow base e size v n xs)
    (ad : Addr) (m c : Nat) (news : List Value) (hx : a.eval x = .slice (some ad) m c) (hl : news.length = m * size) (hnews : ∀ j u, news[j]? = some u → w.cell? (ad.add j) = some u) (h1 : ∀ u ∈ news, u.oneCell' = true)
    (h63 : n + m ≤ maxLen) (hbytes : (n + m) * bytes ≤ 140737488355328) (hbase : base ≤ w.heap.size)
    (h : ∀ v' w', w'.ownsRow base e size v' (n + m) (xs ++ news) → w.grownBy w' v.ownBlock → (v' = .slice none 0 0 ↔ v = .slice none 0 0 ∧ m = 0) → K (a.put o.dst v') w') :
    if Region.wanted o (yielded ops a.tmps) = true then Oper.wp P o a w K Q else E := by
  have hw : Region.wanted o (yielded ops a.tmps) = true := by simp [Region.wanted, hgd]
  rw [if_pos hw]
  exact wp_append_own w s x t ho base e i z size bytes ht hi hz hsize hby hzs hsz v n xs hs hown ad m c news hx hl hnews h1 h63 hbytes hbase h

/-- A node's kids, read out of its value. -/
theorem fld_kids (n : NodeD) (D A K : Value) (W : World) : Sem.run Try.prog (Instr.field 47 (.agg #[.int .u8 (n.kind : Int), .string n.space, .string n.pre, .string n.loc, .string n.pub, .string n.sys, D, A, .int .i64 n.parent, K, .int .i64 n.doc, .int .i64 n.host, .int .i64 n.shadow, .int .u8 (n.mode : Int), .bool n.manual, .bool n.html]) 7) W = .ok K W := by kernel_rfl
theorem own_one (w : World) (B : Nat) (x : Int) (hB : B ≤ w.heap.size) : (w.alloc (.cells #[.int .i64 x] 3)).ownsRow B 3 1 (.slice (some ⟨w.heap.size, 0, none⟩) 1 1) 1 [Value.int .i64 x] :=
  ⟨rfl, .inr ⟨w.heap.size, 1, #[.int .i64 x], rfl, hB, heap_new w _, Nat.le_refl _, (by decide), rfl, rfl⟩⟩

theorem news_cells {w : World} {b off : Nat} {A : List Int} (h : ∀ (j : Nat) (hj : j < A.length), w.cell? ⟨b, off + j, none⟩ = some (.int .i64 A[j])) : ∀ (j : Nat) (u : Value), (A.map (Value.int .i64))[j]? = some u → w.cell? ((⟨b, off, none⟩ : Addr).add j) = some u := fun j u hj => by
  rw [List.getElem?_map] at hj
  obtain ⟨x, hx, rfl⟩ := Option.map_eq_some_iff.1 hj
  obtain ⟨hj', rfl⟩ := List.getElem?_eq_some_iff.1 hx
  have e : (⟨b, off, none⟩ : Addr).add j = ⟨b, off + j, none⟩ := by simp [Addr.add]
  rw [e]
  exact h j hj'
theorem news_one (A : List Int) : ∀ u ∈ A.map (Value.int .i64), u.oneCell' = true := fun u hu => by
  obtain ⟨x, _, rfl⟩ := List.mem_map.1 hu
  rfl

end Go.Proofs.Ytighpjikooiaoaa
