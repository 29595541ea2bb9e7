/- loop: timers, plain; rows that a queue has for its own, wherever in their block they begin; what append does to them. -/
import Derived.Test.YtaliecmdkloceaaLnA
import Derived.Lib.SliceRun
import Derived.Lib.LazyBuf
import Derived.Deep.OwnRows
import Derived.Deep.DeepCutAuto
import Derived.Deep.CutRange
namespace Go.Proofs.Ytaliecmdkloceaa
open Go.RowKit Go.Lib Go.Shelf

/-- A timer that waits. -/
structure AlD where
  due : Int
  num : Int
  id : Int
def alC (x : AlD) : List Value := [.int .i64 x.due, .int .i64 x.num, .int .i64 x.id]
def alV (x : AlD) : Value := .agg #[.int .i64 x.due, .int .i64 x.num, .int .i64 x.id]
def rowA (l : List AlD) : List Value := l.flatMap alC
def rowN (l : List Int) : List Value := l.map (Value.int .i64)
theorem rowA_len : ∀ l : List AlD, (rowA l).length = l.length * 3
  | [] => rfl
  | r :: t => by
    have := rowA_len t
    unfold rowA at this ⊢
    rw [List.flatMap_cons, List.length_append, this, List.length_cons]
    show 3 + _ = _
    omega
theorem rowN_len (l : List Int) : (rowN l).length = l.length * 1 := by unfold rowN; simp
theorem rowA_get : ∀ (l : List AlD) (j i : Nat) (hj : j < l.length) (_hi : i < 3), (rowA l)[j * 3 + i]? = (alC l[j])[i]?
  | [], _, _, hj, _ => by cases hj
  | r :: t, 0, i, _, hi => by
    unfold rowA
    rw [List.flatMap_cons, List.getElem?_append_left (by show 0 * 3 + i < 3; omega), Nat.zero_mul, Nat.zero_add]
    rfl
  | r :: t, j + 1, i, hj, hi => by
    have h := rowA_get t j i (by simpa using hj) hi
    unfold rowA at h ⊢
    rw [List.flatMap_cons, List.getElem?_append_right (by show 3 ≤ _; omega)]
    rw [show (j + 1) * 3 + i - (alC r).length = j * 3 + i by show (j + 1) * 3 + i - 3 = _; omega, h]
    rfl
theorem rowA_append (a b : List AlD) : rowA (a ++ b) = rowA a ++ rowA b := by unfold rowA; rw [List.flatMap_append]
theorem rowN_append (a b : List Int) : rowN (a ++ b) = rowN a ++ rowN b := by unfold rowN; rw [List.map_append]
theorem rowA_one (l : List AlD) : ∀ u ∈ rowA l, u.oneCell' = true := fun u hu => by
  obtain ⟨r, _, hr⟩ := List.mem_flatMap.1 hu
  simp only [alC, List.mem_cons, List.not_mem_nil, or_false] at hr
  rcases hr with rfl | rfl | rfl <;> rfl
theorem rowN_one (l : List Int) : ∀ u ∈ rowN l, u.oneCell' = true := fun u hu => by
  obtain ⟨x, _, rfl⟩ := List.mem_map.1 hu
  rfl
theorem rowA_drop (l : List AlD) (k : Nat) : rowA (l.drop k) = (rowA l).drop (k * 3) := by
  by_cases hk : k ≤ l.length
  · conv => rhs; rw [← List.take_append_drop k l, rowA_append]
    have : (rowA (l.take k)).length = k * 3 := by rw [rowA_len, List.length_take, Nat.min_eq_left hk]
    rw [← this, List.drop_left]
  · rw [List.drop_eq_nil_of_le (by omega), List.drop_eq_nil_of_le (by rw [rowA_len]; omega)]
    rfl
theorem rowA_take (l : List AlD) (k : Nat) : rowA (l.take k) = (rowA l).take (k * 3) := by
  by_cases hk : k ≤ l.length
  · conv => rhs; rw [← List.take_append_drop k l, rowA_append]
    have : (rowA (l.take k)).length = k * 3 := by rw [rowA_len, List.length_take, Nat.min_eq_left hk]
    rw [← this, List.take_left]
  · rw [List.take_of_length_le (by omega), List.take_of_length_le (by rw [rowA_len]; omega)]

/-- A row of n elements of size sz that a queue has for its own; its cells are xs. -/
def QR (W : World) (e : TypeId) (sz : Nat) (v : Value) (n : Nat) (xs : List Value) : Prop :=
  xs.length = n * sz ∧ ((v = .slice none 0 0 ∧ n = 0) ∨
    ∃ g off cap N f, v = .slice (some ⟨g, off, none⟩) n cap ∧ W.rowIs g e N f ∧ n ≤ cap ∧ cap ≤ maxLen ∧ off + cap * sz ≤ N ∧ ∀ (t : Nat) (u : Value), xs[t]? = some u → f (off + t) = u)
section
variable {W V : World} {e : TypeId} {sz : Nat} {v : Value} {n : Nat} {xs : List Value}
theorem QR.nil (W : World) (e : TypeId) (sz : Nat) : QR W e sz (.slice none 0 0) 0 [] := ⟨by simp, .inl ⟨rfl, rfl⟩⟩
theorem QR.shape (h : QR W e sz v n xs) : ∃ o c, v = .slice o n c := by
  rcases h.2 with ⟨rfl, h0⟩ | ⟨g, off, cap, N, f, rfl, _⟩
  · exact ⟨none, 0, by rw [h0]⟩
  · exact ⟨_, _, rfl⟩
theorem QR.lt (h : QR W e sz v n xs) {g : Nat} (hg : v.ownBlock = some g) : g < W.heap.size := by
  rcases h.2 with ⟨rfl, _⟩ | ⟨g', off, cap, N, f, rfl, hr, _⟩
  · cases hg
  · have : g' = g := Option.some.inj hg
    rw [← this]
    exact hr.lt
theorem QR.kept (h : QR W e sz v n xs) (hk : ∀ g, v.ownBlock = some g → V.heap[g]? = W.heap[g]?) : QR V e sz v n xs := by
  refine ⟨h.1, ?_⟩
  rcases h.2 with h0 | ⟨g, off, cap, N, f, rfl, hr, r⟩
  · exact .inl h0
  · exact .inr ⟨g, off, cap, N, f, rfl, hr.of_block (hk g rfl), r⟩
theorem QR.later (h : QR W e sz v n xs) (hb : Below W.heap.size W V) : QR V e sz v n xs := h.kept fun g hg => hb.block g (h.lt hg)
/-- Its cells. -/
theorem QR.cells (h : QR W e sz v n xs) {o : Option Addr} {m c : Nat} (hv : v = .slice o m c) (hp : 0 < xs.length) : ∃ g off, o = some ⟨g, off, none⟩ ∧ g < W.heap.size ∧ ∀ (j : Nat) (u : Value), xs[j]? = some u → W.cell? ⟨g, off + j, none⟩ = some u := by
  rcases h.2 with ⟨_, h0⟩ | ⟨g, off, cap, N, f, hv', hr, hnc, hcm, hfit, hf⟩
  · have := h.1
    rw [h0, Nat.zero_mul] at this
    omega
  · rw [hv] at hv'
    injection hv' with e1 e2 e3
    refine ⟨g, off, e1, hr.lt, fun j u hj => ?_⟩
    have hlt : j < xs.length := (List.getElem?_eq_some_iff.1 hj).1
    have := h.1
    have hle : n * sz ≤ cap * sz := Nat.mul_le_mul_right _ hnc
    rw [hr.cell (by omega), hf j u hj]
theorem QR.of_own {base : Nat} (h : W.ownsRow base e sz v n xs) : QR W e sz v n xs := by
  refine ⟨h.1, ?_⟩
  rcases h.2 with h0 | ⟨g, cap, cur, rfl, hb, hg, hnc, hcm, hcs, ht⟩
  · exact .inl h0
  · refine .inr ⟨g, 0, cap, cur.size, fun i => cur[i]?.getD default, rfl, ⟨cur, hg, rfl, fun i hi => by show _ = some (cur[i]?.getD default); rw [Array.getElem?_eq_getElem hi]; rfl⟩, hnc, hcm, by omega, fun t u hu => ?_⟩
    rw [← ht, List.getElem?_take] at hu
    split at hu
    · rw [Array.getElem?_toList] at hu
      show cur[0 + t]?.getD default = u
      rw [Nat.zero_add, hu]
      rfl
    · cases hu
end
theorem grown_setCells (b : Nat) : ∀ (vs : List Value) (o : Nat) (w : World), w.grownBy (w.setCells b o vs) (some b)
  | [], _, w => ⟨rfl, rfl, rfl, Nat.le_refl _, fun _ _ _ => rfl⟩
  | v :: r, o, w => by
    have h := grown_setCells b r (o + 1) (w.setCell ⟨b, o, none⟩ v)
    exact ⟨h.os, h.tape, h.output, Nat.le_trans (Nat.le_of_eq (Array.size_modify).symm) h.size, fun k hk hne => (h.block k (by show k < (w.heap.modify _ _).size; rw [Array.size_modify]; exact hk) hne).trans (Below.heap_setCell _ _ _ k (fun e => hne (by rw [e])))⟩
/-- Elements that are put behind a queue's row. -/
theorem run_appendQ {P : Program} (w : World) (t ty e : TypeId) (i : TypeInfo) (z : Value) (sz bytes : Nat) (ht : P.underlying t = some (.slice e)) (hi : P.info? e = some i) (hz : i.zero = some z)
    (hsize : i.size = sz) (hby : i.bytes = bytes) (hzs : z.cells.size = sz) (hsz : 0 < sz) (v : Value) (n : Nat) (xs : List Value) (hq : QR w e sz v n xs)
    (a : Addr) (m c : Nat) (news : List Value) (hl : news.length = m * sz) (hnews : ∀ j u, news[j]? = some u → w.cell? (a.add j) = some u) (h1 : ∀ u ∈ news, u.oneCell' = true)
    (h63 : n + m ≤ maxLen) (hbytes : (n + m) * bytes ≤ 140737488355328) :
    ∃ o c' w', (Builtin.append_ #[t, t] ty #[v, .slice (some a) m c]).run P w = .ok (.slice o (n + m) c') w' ∧ QR w' e sz (.slice o (n + m) c') (n + m) (xs ++ news) ∧ w.grownBy w' v.ownBlock ∧
      ∀ g, (Value.slice o (n + m) c').ownBlock = some g → v.ownBlock = some g ∨ w.heap.size ≤ g := by
  subst hsize
  subst hby
  have hxl := hq.1
  have hlen : (xs ++ news).length = (n + m) * i.size := by rw [List.length_append, hxl, hl, Nat.add_mul]
  rcases hq.2 with ⟨rfl, rfl⟩ | ⟨g, off, cap, N, f, rfl, hr, hnc, hcm, hfit, hf⟩
  · have hxs : xs = [] := List.eq_nil_of_length_eq_zero (by rw [hxl]; simp)
    subst hxs
    obtain ⟨v', w', h2, h3, h4, _⟩ := run_append_own (P := P) w w.heap.size t ty e i z i.size i.bytes ht hi hz rfl rfl hzs hsz (.slice none 0 0) 0 [] (World.ownsRow_nil _ _ _ _) a m c news hl hnews h1 h63 hbytes (Nat.le_refl _)
    obtain ⟨o, c', rfl⟩ := own_shape h3
    exact ⟨o, c', w', h2, QR.of_own h3, h4, fun g hg => .inr (h3.lt g hg).1⟩
  · have hle : n * i.size ≤ cap * i.size := Nat.mul_le_mul_right _ hnc
    have hcell : ∀ j, j < cap * i.size → w.cell? ⟨g, off + j, none⟩ = some (f (off + j)) := fun j hj => hr.cell (by omega)
    have hs : Src P i.size t (.slice (some a) m c) m news w := Src.ofSlice w ht a m c news hl hnews h1
    by_cases hroom : n + m ≤ cap
    · have hle2 : (n + m) * i.size ≤ cap * i.size := Nat.mul_le_mul_right _ hroom
      rw [Nat.add_mul] at hle2
      have h := run_append_room_src w t t ty e i ht hi g off n cap _ m news hs hroom
        (fun j hj => by rw [Nat.add_assoc, hcell _ (by omega)]; rfl) (fun j hj => hr.frozen _)
      refine ⟨_, _, _, h, ⟨hlen, .inr ⟨g, off, cap, N, _, rfl, rowIs_setCells news (off + n * i.size) w f hr, hroom, hcm, hfit, fun t u hu => ?_⟩⟩, grown_setCells g news _ w, fun g' hg' => .inl hg'⟩
      by_cases htn : t < n * i.size
      · rw [List.getElem?_append_left (by omega)] at hu
        rw [if_neg (by omega)]
        exact hf t u hu
      · rw [List.getElem?_append_right (by omega), hxl] at hu
        have hlt : t - n * i.size < news.length := (List.getElem?_eq_some_iff.1 hu).1
        rw [if_pos (by omega), show off + t - (off + n * i.size) = t - n * i.size by omega, hu]
        rfl
    · have hold : (Builtin.firstCells i.size n (.slice (some ⟨g, off, none⟩) n cap)).run P w.drew = .ok xs.toArray w.drew :=
        run_firstCells_some w.drew i.size n ⟨g, off, none⟩ n cap xs hxl (fun j u hj => by
          have hlt : j < xs.length := (List.getElem?_eq_some_iff.1 hj).1
          rw [Addr.add_lit]
          show w.cell? _ = _
          rw [hcell j (by omega), hf j u hj])
      have h := run_append_grow_src w t t ty e i z ht hi hz (some ⟨g, off, none⟩) n cap xs hold _ m news hs (by omega) (by unfold maxLen at h63; omega) (growslice_fits (by omega) hbytes)
      obtain ⟨G, hG⟩ : ∃ G, grownCap w (n + m) cap e = G := ⟨_, rfl⟩
      have hG1 : n + m ≤ G := by rw [← hG]; exact grownCap_ge w _ _ _
      have hG2 : G ≤ maxLen := by rw [← hG]; exact grownCap_le_maxLen w (n + m) cap e h63
      rw [hG] at h
      obtain ⟨R, hR⟩ : ∃ R : Array Value, (xs ++ news).toArray ++ Builtin.zeroCells z.cells (G - (n + m)) = R := ⟨_, rfl⟩
      have hRs : R.size = G * i.size := by
        rw [← hR, Array.size_append, size_zeroCells, hzs, List.size_toArray, hlen, ← Nat.add_mul]
        congr 1
        omega
      rw [hR] at h
      refine ⟨_, _, _, h, ⟨hlen, .inr ⟨w.heap.size, 0, G, R.size, fun j => R[j]?.getD default, rfl, World.rowIs_alloc w.drew R e _ (fun j hj => by show _ = some (R[j]?.getD default); rw [Array.getElem?_eq_getElem hj]; rfl), hG1, hG2, by omega, fun t u hu => ?_⟩⟩, ⟨rfl, rfl, rfl, by simp, fun k hk _ => Below.heap_alloc w.drew _ k hk⟩, fun g' hg' => .inr (Nat.le_of_eq (Option.some.inj hg'))⟩
      have hlt : t < (xs ++ news).length := (List.getElem?_eq_some_iff.1 hu).1
      show R[0 + t]?.getD default = u
      rw [Nat.zero_add, ← hR, Array.getElem?_append_left (by rw [List.size_toArray]; exact hlt), List.getElem?_toArray, hu]
      rfl
theorem info_intQ : (Try.prog.info? 3).map (fun i => (i.zero, i.size, i.bytes)) = some (some (.int .i64 0), 1, 8) := by kernel_rfl
theorem info_alQ : (Try.prog.info? 99).map (fun i => (i.zero, i.size, i.bytes)) = some (some (.agg #[.int .i64 0, .int .i64 0, .int .i64 0]), 3, 24) := by kernel_rfl
/-- One number put behind a queue's row. -/
theorem run_appendQ1 (w : World) (ty : TypeId) (v : Value) (l : List Int) (x : Int) (B : Nat) (c : Nat) (hq : QR w 3 1 v l.length (rowN l)) (hx : w.cell? ⟨B, 0, none⟩ = some (.int .i64 x)) (hl : l.length ≤ 1048576) :
    ∃ o c' w', (Builtin.append_ #[26, 26] ty #[v, .slice (some ⟨B, 0, none⟩) 1 c]).run Try.prog w = .ok (.slice o (l.length + 1) c') w' ∧ QR w' 3 1 (.slice o (l.length + 1) c') (l ++ [x]).length (rowN (l ++ [x])) ∧ w.grownBy w' v.ownBlock ∧
      ∀ g, (Value.slice o (l.length + 1) c').ownBlock = some g → v.ownBlock = some g ∨ w.heap.size ≤ g := by
  obtain ⟨i0, hi, hz0, hz1, hz2⟩ := info_parts info_intQ
  obtain ⟨o, c', w', h1, h2, h3, h4⟩ := run_appendQ (P := Try.prog) w 26 ty 3 i0 _ 1 8 Try.underlying26 hi hz0 hz1 hz2 rfl (by decide) v l.length (rowN l) hq ⟨B, 0, none⟩ 1 c [.int .i64 x] rfl
    (fun j u hj => by
      have hlt : j < 1 := (List.getElem?_eq_some_iff.1 hj).1
      have h0 : j = 0 := by omega
      subst h0
      rw [Addr.add_lit]
      have := Option.some.inj hj
      subst this
      exact hx) (fun u hu => by rw [List.mem_singleton] at hu; rw [hu]; rfl) (by unfold maxLen; omega) (by omega)
  refine ⟨o, c', w', h1, ?_, h3, h4⟩
  rw [rowN_append, List.length_append]
  exact h2
/-- The first element is taken away. -/
theorem QR.tail {W : World} {e : TypeId} {sz g off n c : Nat} {xs : List Value} (h : QR W e sz (.slice (some ⟨g, off, none⟩) (n + 1) c) (n + 1) xs) : QR W e sz (.slice (some (if c = 1 then ⟨g, off, none⟩ else ⟨g, off + sz, none⟩)) n (c - 1)) n (xs.drop sz) := by
  refine ⟨by rw [List.length_drop, h.1, Nat.add_mul, Nat.one_mul]; omega, ?_⟩
  rcases h.2 with ⟨h0, _⟩ | ⟨g', off', cap, N, f, hv, hr, hnc, hcm, hfit, hf⟩
  · cases h0
  · injection hv with e1 e2 e3
    injection e1 with e1
    injection e1 with e1 e4 e5
    subst e1 e4 e3
    by_cases hc : c = 1
    · subst hc
      have hn : n = 0 := by omega
      subst hn
      refine .inr ⟨g, off, 0, N, f, by rw [if_pos rfl], hr, Nat.le_refl _, by unfold maxLen; omega, by omega, fun t u hu => ?_⟩
      have hlt : t < (xs.drop sz).length := (List.getElem?_eq_some_iff.1 hu).1
      have := h.1
      rw [List.length_drop] at hlt
      omega
    · have hcs : c * sz = (c - 1) * sz + sz := by
        conv => lhs; rw [show c = c - 1 + 1 by omega, Nat.add_mul, Nat.one_mul]
      refine .inr ⟨g, off + sz, c - 1, N, f, by rw [if_neg hc], hr, by omega, by omega, by omega, fun t u hu => ?_⟩
      rw [List.getElem?_drop] at hu
      rw [Nat.add_assoc]
      exact hf _ u hu
end Go.Proofs.Ytaliecmdkloceaa
