/- Listeners, plain and as they lie; rows of them. -/
import Derived.Test.YtaliecmdkloceaaFSkipH
import Derived.Test.YtaliecmdkloceaaProg
import Derived.BigGuard
import Derived.BigQuiet
import Derived.Lib.Builder
import Derived.Lib.Hide
import Derived.Lib.AppendZeros
import Derived.Deep.Upon
import Derived.Shelf.Abstract
import Derived.Laws.EntriesVeiled
namespace Go.Proofs.Ytaliecmdkloceaa
open Go.RowKit Go.Lib Go.Shelf

/-- A listener. -/
structure LstD where
  id : Int
  node : Int
  kind : ByteArray
  cb : Int
  cap : Bool
  once : Bool
  pas : Nat
  sig : Int
def lstC (x : LstD) : List Value := [.int .i64 x.id, .int .i64 x.node, .string x.kind, .int .i64 x.cb, .bool x.cap, .bool x.once, .int .u8 (x.pas : Int), .int .i64 x.sig]
def lstV (x : LstD) : Value := .agg #[.int .i64 x.id, .int .i64 x.node, .string x.kind, .int .i64 x.cb, .bool x.cap, .bool x.once, .int .u8 (x.pas : Int), .int .i64 x.sig]
def markV (x : LstD) : Value := .agg #[.int .i64 x.node, .string x.kind, .int .i64 x.cb, .bool x.cap]
def rowL (l : List LstD) : List Value := l.flatMap lstC
theorem rowL_len : ∀ l : List LstD, (rowL l).length = l.length * 8
  | [] => rfl
  | r :: t => by
    have := rowL_len t
    unfold rowL at this ⊢
    rw [List.flatMap_cons, List.length_append, this, List.length_cons]
    show 8 + _ = _
    omega
theorem rowL_get : ∀ (l : List LstD) (j i : Nat) (hj : j < l.length) (_hi : i < 8), (rowL l)[j * 8 + i]? = (lstC l[j])[i]?
  | [], _, _, hj, _ => by cases hj
  | r :: t, 0, i, _, hi => by
    unfold rowL
    rw [List.flatMap_cons, List.getElem?_append_left (by show 0 * 8 + i < 8; omega), Nat.zero_mul, Nat.zero_add]
    rfl
  | r :: t, j + 1, i, hj, hi => by
    have h := rowL_get t j i (by simpa using hj) hi
    unfold rowL at h ⊢
    rw [List.flatMap_cons, List.getElem?_append_right (by show 8 ≤ _; omega)]
    rw [show (j + 1) * 8 + i - (lstC r).length = j * 8 + i by show (j + 1) * 8 + i - 8 = _; omega, h]
    rfl
theorem rowL_append (a b : List LstD) : rowL (a ++ b) = rowL a ++ rowL b := by unfold rowL; rw [List.flatMap_append]
theorem rowL_one (l : List LstD) : ∀ u ∈ rowL l, u.oneCell' = true := fun u hu => by
  obtain ⟨r, _, hr⟩ := List.mem_flatMap.1 hu
  simp only [lstC, List.mem_cons, List.not_mem_nil, or_false] at hr
  rcases hr with rfl | rfl | rfl | rfl | rfl | rfl | rfl | rfl <;> rfl
/-- A listener lies at an address. -/
structure LCells (w : World) (b o : Nat) (x : LstD) : Prop where
  id : w.cell? ⟨b, o, none⟩ = some (.int .i64 x.id)
  node : w.cell? ⟨b, o + 1, none⟩ = some (.int .i64 x.node)
  kind : w.cell? ⟨b, o + 2, none⟩ = some (.string x.kind)
  cb : w.cell? ⟨b, o + 3, none⟩ = some (.int .i64 x.cb)
  cap : w.cell? ⟨b, o + 4, none⟩ = some (.bool x.cap)
  once : w.cell? ⟨b, o + 5, none⟩ = some (.bool x.once)
  pas : w.cell? ⟨b, o + 6, none⟩ = some (.int .u8 (x.pas : Int))
  sig : w.cell? ⟨b, o + 7, none⟩ = some (.int .i64 x.sig)
theorem LCells.later {w W : World} {b o : Nat} {x : LstD} {n : Nat} (h : LCells w b o x) (hlt : b < n) (hb : Below n w W) : LCells W b o x where
  id := (hb.cell (p := ⟨b, o, none⟩) hlt).trans h.id
  node := (hb.cell (p := ⟨b, o + 1, none⟩) hlt).trans h.node
  kind := (hb.cell (p := ⟨b, o + 2, none⟩) hlt).trans h.kind
  cb := (hb.cell (p := ⟨b, o + 3, none⟩) hlt).trans h.cb
  cap := (hb.cell (p := ⟨b, o + 4, none⟩) hlt).trans h.cap
  once := (hb.cell (p := ⟨b, o + 5, none⟩) hlt).trans h.once
  pas := (hb.cell (p := ⟨b, o + 6, none⟩) hlt).trans h.pas
  sig := (hb.cell (p := ⟨b, o + 7, none⟩) hlt).trans h.sig
/-- Listeners that are handed on. -/
def RdL (w : World) (v : Value) (l : List LstD) : Prop :=
  ∃ o cap, v = .slice o l.length cap ∧ l.length ≤ cap ∧ (0 < l.length → ∃ b off, o = some ⟨b, off, none⟩ ∧ b < w.heap.size ∧ ∀ (j : Nat) (h : j < l.length), LCells w b (off + j * 8) l[j])
theorem RdL.later {w W : World} {v : Value} {l : List LstD} (h : RdL w v l) (hb : Below w.heap.size w W) : RdL W v l := by
  obtain ⟨o, cap, rfl, hc, g⟩ := h
  refine ⟨o, cap, rfl, hc, fun hp => ?_⟩
  obtain ⟨b, off, rfl, hlt, ha⟩ := g hp
  exact ⟨b, off, rfl, Nat.lt_of_lt_of_le hlt hb.size, fun j hj => (ha j hj).later hlt hb⟩
/-- Numbers that are handed on. -/
def RdI (w : World) (v : Value) (l : List Int) : Prop :=
  ∃ o cap, v = .slice o l.length cap ∧ l.length ≤ cap ∧ (0 < l.length → ∃ b off, o = some ⟨b, off, none⟩ ∧ b < w.heap.size ∧ ∀ (j : Nat) (h : j < l.length), w.cell? ⟨b, off + j, none⟩ = some (.int .i64 l[j]))
theorem RdI.later {w W : World} {v : Value} {l : List Int} (h : RdI w v l) (hb : Below w.heap.size w W) : RdI W v l := by
  obtain ⟨o, cap, rfl, hc, g⟩ := h
  refine ⟨o, cap, rfl, hc, fun hp => ?_⟩
  obtain ⟨b, off, rfl, hlt, ha⟩ := g hp
  exact ⟨b, off, rfl, Nat.lt_of_lt_of_le hlt hb.size, fun j hj => (hb.cell (p := ⟨b, off + j, none⟩) hlt).trans (ha j hj)⟩

theorem heap_new (w : World) (o : Obj) : (w.alloc o).heap[w.heap.size]? = some o := by
  show (w.heap.push o)[w.heap.size]? = some o
  exact Array.getElem?_push_size
theorem cellLater {W V : World} {B o : Nat} {v : Value} (h : Below W.heap.size W V) (hl : B < W.heap.size) (hc : W.cell? ⟨B, o, none⟩ = some v) : V.cell? ⟨B, o, none⟩ = some v := (h.cell (p := ⟨B, o, none⟩) hl).trans hc
theorem blkLater {V W : World} {B : Nat} {o : Obj} (hb : Below V.heap.size V W) (h : V.heap[B]? = some o) : W.heap[B]? = some o := (hb.block B (Array.getElem?_eq_some_iff.1 h).1).trans h
theorem box1 {w : World} {g : Nat} {v : Value} {t : TypeId} (h : w.heap[g]? = some (.cells #[v] t)) : w.cell? ⟨g, 0, none⟩ = some v := (cell_of_heap h 0).trans rfl
theorem two_new (w : World) (a b : Obj) : Below w.heap.size w ((w.alloc a).alloc b) ∧ ((w.alloc a).alloc b).heap[w.heap.size]? = some a ∧ ((w.alloc a).alloc b).heap[w.heap.size + 1]? = some b ∧ ((w.alloc a).alloc b).heap.size = w.heap.size + 1 + 1 := by
  refine ⟨((Below.refl _ w).alloc (Nat.le_refl _) _).alloc (by simp) _, (Below.heap_alloc _ _ _ (by simp)).trans (heap_new w a), ?_, by simp⟩
  have := heap_new (w.alloc a) b
  simp only [World.size_alloc] at this
  exact this
theorem own_shape {W : World} {base size : Nat} {e : TypeId} {v : Value} {n : Nat} {xs : List Value} (h : W.ownsRow base e size v n xs) : ∃ o c, v = .slice o n c := by
  rcases h.2 with ⟨rfl, h0⟩ | ⟨g, cap, cur, rfl, _⟩
  · exact ⟨none, 0, by rw [h0]⟩
  · exact ⟨_, _, rfl⟩
theorem own_base {W : World} {base base' size : Nat} {e : TypeId} {v : Value} {n : Nat} {xs : List Value} (hb : base' ≤ base) (h : W.ownsRow base e size v n xs) : W.ownsRow base' e size v n xs := by
  obtain ⟨h1, h2⟩ := h
  refine ⟨h1, ?_⟩
  rcases h2 with h2 | ⟨k, cap, cur, hv, hg', r⟩
  · exact .inl h2
  · exact .inr ⟨k, cap, cur, hv, Nat.le_trans hb hg', r⟩
theorem own_later {W V : World} {base : Nat} {e : TypeId} {size : Nat} {v : Value} {k : Nat} {xs : List Value} (h : W.ownsRow base e size v k xs) (hb : Below W.heap.size W V) : V.ownsRow base e size v k xs := by
  obtain ⟨h1, h2⟩ := h
  refine ⟨h1, ?_⟩
  rcases h2 with h2 | ⟨k, cap, cur, hv, hg', hh, r⟩
  · exact .inl h2
  · exact .inr ⟨k, cap, cur, hv, hg', blkLater hb hh, r⟩
theorem own_set {W : World} {base size n B o : Nat} {e e2 : TypeId} {v : Value} {xs : List Value} {cur : Array Value} {fz : Nat × Nat} (h : W.ownsRow base e size v n xs) (hB : W.heap[B]? = some (.cells cur e2 fz)) (hne : e2 ≠ e) (x : Value) : (W.setCell ⟨B, o, none⟩ x).ownsRow base e size v n xs := by
  obtain ⟨h1, h2⟩ := h
  refine ⟨h1, ?_⟩
  rcases h2 with h2 | ⟨k, cap, cu, hv, hg', hh, r⟩
  · exact .inl h2
  · refine .inr ⟨k, cap, cu, hv, hg', ?_, r⟩
    have hk : k ≠ B := by
      intro e
      rw [e, hB] at hh
      have := Option.some.inj hh
      injection this with _ ht
      exact hne ht
    exact (Below.heap_setCell W ⟨B, o, none⟩ x k hk).trans hh
theorem heap_grow {W w1 : World} {row : Option Nat} {k : Nat} {x : Obj} (h : W.heap[k]? = some x) (hg : W.grownBy w1 row) (hne : row ≠ some k) : w1.heap[k]? = some x :=
  (hg.block k (Array.getElem?_eq_some_iff.1 h).1 (fun e => hne e.symm)).trans h
theorem own_not {W : World} {base size n B : Nat} {e e2 : TypeId} {v : Value} {xs : List Value} {cur : Array Value} {fz : Nat × Nat} (h : W.ownsRow base e size v n xs) (hB : W.heap[B]? = some (.cells cur e2 fz)) (hne : e2 ≠ e) : v.ownBlock ≠ some B := by
  rcases h.2 with ⟨rfl, _⟩ | ⟨k, cap, cu, rfl, _, hh, _⟩
  · intro h; cases h
  · intro h
    have h' : k = B := Option.some.inj h
    rw [h', hB] at hh
    have := Option.some.inj hh
    injection this with _ ht
    exact hne ht
theorem own_nil {W : World} (base : Nat) (e : TypeId) (size : Nat) : W.ownsRow base e size (.slice none 0 0) 0 [] := ⟨by simp, .inl ⟨rfl, rfl⟩⟩
theorem below_own {B : Nat} {w w1 : World} {v : Value} {n size : Nat} {e : TypeId} {xs : List Value} (hown : w.ownsRow B e size v n xs) (hB : B ≤ w.heap.size) (hg : w.grownBy w1 v.ownBlock) : Below B w w1 :=
  (Below.refl B w).grown hg hB (fun j hj => (hown.lt j hj).1)

theorem own_rdI {W : World} {base : Nat} {e : TypeId} {v : Value} {l : List Int} (h : W.ownsRow base e 1 v l.length (l.map (Value.int .i64))) : RdI W v l := by
  obtain ⟨_, ⟨rfl, h0⟩ | ⟨g, cp, cur, rfl, hg, hh, hnc, hcm, hcs, htk⟩⟩ := h
  · exact ⟨none, 0, by rw [h0], by omega, fun hp => absurd hp (by omega)⟩
  · refine ⟨_, cp, rfl, hnc, fun _ => ⟨g, 0, rfl, (Array.getElem?_eq_some_iff.1 hh).1, fun j hj => ?_⟩⟩
    rw [cell_of_heap hh, Nat.zero_add]
    have : cur[j]? = (cur.toList.take (l.length * 1))[j]? := by rw [List.getElem?_take, if_pos (by omega), Array.getElem?_toList]
    rw [this, htk, List.getElem?_map, List.getElem?_eq_getElem hj]
    rfl
theorem info_parts {P : Program} {e : TypeId} {z : Value} {s b : Nat} (h : (P.info? e).map (fun i => (i.zero, i.size, i.bytes)) = some (some z, s, b)) : ∃ i, P.info? e = some i ∧ i.zero = some z ∧ i.size = s ∧ i.bytes = b := by
  cases hi : P.info? e with
  | none => rw [hi] at h; cases h
  | some i =>
    rw [hi] at h
    simp only [Option.map_some, Option.some.injEq, Prod.mk.injEq] at h
    exact ⟨i, rfl, h.1, h.2.1, h.2.2⟩
theorem rd_news {w : World} {b off : Nat} {l : List LstD} (h : ∀ (j : Nat) (hj : j < l.length), LCells w b (off + j * 8) l[j]) : ∀ (j : Nat) (u : Value), (rowL l)[j]? = some u → w.cell? ((⟨b, off, none⟩ : Addr).add j) = some u := fun j u hj => by
  have hlt : j < (rowL l).length := (List.getElem?_eq_some_iff.1 hj).1
  rw [rowL_len] at hlt
  have hq : j / 8 < l.length := by omega
  have hm : j % 8 < 8 := Nat.mod_lt _ (by decide)
  have hg := rowL_get l (j / 8) (j % 8) hq hm
  rw [show j / 8 * 8 + j % 8 = j by omega] at hg
  rw [hg] at hj
  have e : (⟨b, off, none⟩ : Addr).add j = ⟨b, off + j, none⟩ := by simp [Addr.add]
  rw [e, show off + j = off + j / 8 * 8 + j % 8 by omega]
  have h := h (j / 8) hq
  rcases (by omega : j % 8 = 0 ∨ j % 8 = 1 ∨ j % 8 = 2 ∨ j % 8 = 3 ∨ j % 8 = 4 ∨ j % 8 = 5 ∨ j % 8 = 6 ∨ j % 8 = 7) with hz | hz | hz | hz | hz | hz | hz | hz
  · rw [hz] at hj ⊢; rw [Nat.add_zero, h.id]; exact hj
  · rw [hz] at hj ⊢; rw [h.node]; exact hj
  · rw [hz] at hj ⊢; rw [h.kind]; exact hj
  · rw [hz] at hj ⊢; rw [h.cb]; exact hj
  · rw [hz] at hj ⊢; rw [h.cap]; exact hj
  · rw [hz] at hj ⊢; rw [h.once]; exact hj
  · rw [hz] at hj ⊢; rw [h.pas]; exact hj
  · rw [hz] at hj ⊢; rw [h.sig]; exact hj
/-- Two listeners are alike. -/
def markEq (x y : LstD) : Bool := x.node == y.node && (x.kind.toList == y.kind.toList && (x.cb == y.cb && x.cap == y.cap))
def fairD (x : LstD) : Bool := (x.pas == 1 || x.pas == 2) && (x.cb != 0 && (decide (1 ≤ x.node) && decide (x.kind.size ≤ 1024)))
/-- Are listeners right, those ahead of them being so? -/
def goodD (next : Int) : Int → List LstD → List LstD → Bool
  | _, _, [] => true
  | last, seen, x :: r => decide (last < x.id) && (decide (x.id < next) && (fairD x && (!(seen.any (markEq x)) && goodD next x.id (seen ++ [x]) r)))
def checkD (ls : List LstD) (next : Int) : Bool := (ls.isEmpty && next == 0) || ((decide (1 ≤ next) && decide (next ≤ 1099511627776)) && (decide (ls.length ≤ 1024) && goodD next 0 [] ls))
def errC (b : Bool) : Int := if b = true then 0 else 2
/-- The first one that is asked for, counted from k; -1: none. -/
def firstL (p : LstD → Bool) : List LstD → Int → Int
  | [], _ => -1
  | x :: r, k => if p x = true then k else firstL p r (k + 1)
theorem firstL_any (p : LstD → Bool) : ∀ (l : List LstD) (k : Int), 0 ≤ k → decide (firstL p l k ≥ 0) = l.any p
  | [], k, _ => by simp [firstL]
  | x :: r, k, hk => by
    rw [firstL, List.any_cons]
    cases hp : p x with
    | true => simp [hk]
    | false =>
      rw [if_neg Bool.false_ne_true, Bool.false_or]
      exact firstL_any p r (k + 1) (by omega)
end Go.Proofs.Ytaliecmdkloceaa
