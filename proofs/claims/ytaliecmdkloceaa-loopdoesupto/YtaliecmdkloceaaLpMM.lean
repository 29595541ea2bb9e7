/- loop: the reference's states: as they lie, to be read, and of one's own. -/
import Derived.Test.YtaliecmdkloceaaLpJJ
import Derived.Test.YtaliecmdkloceaaLpW
import Derived.Test.YtaliecmdkloceaaLpAA
namespace Go.Proofs.Ytaliecmdkloceaa
open Go.RowKit Go.Lib Go.Shelf

/-- The rows of a state: its tasks (0 to 7), its microtasks (8). -/
def tabL (r : LpD) (i : Nat) : List Int := if i = 8 then r.mic else r.tks.getD i []
/-- Timers that are handed on. -/
def RdT (w : World) (v : Value) (l : List AlD) : Prop :=
  ∃ o cap, v = .slice o l.length cap ∧ l.length ≤ cap ∧ (0 < l.length → ∃ b off, o = some ⟨b, off, none⟩ ∧ b < w.heap.size ∧ ∀ (j : Nat) (_ : j < l.length), w.cell? ⟨b, off + j * 3, none⟩ = some (.int .i64 l[j].due) ∧ w.cell? ⟨b, off + j * 3 + 1, none⟩ = some (.int .i64 l[j].num) ∧ w.cell? ⟨b, off + j * 3 + 2, none⟩ = some (.int .i64 l[j].id))
theorem RdT.later {w W : World} {v : Value} {l : List AlD} (h : RdT w v l) (hb : Below w.heap.size w W) : RdT W v l := by
  obtain ⟨o, cap, rfl, hc, g⟩ := h
  refine ⟨o, cap, rfl, hc, fun hp => ?_⟩
  obtain ⟨b, off, rfl, hlt, ha⟩ := g hp
  exact ⟨b, off, rfl, Nat.lt_of_lt_of_le hlt hb.size, fun j hj => ⟨(hb.cell (p := ⟨b, off + j * 3, none⟩) hlt).trans (ha j hj).1, (hb.cell (p := ⟨b, off + j * 3 + 1, none⟩) hlt).trans (ha j hj).2.1, (hb.cell (p := ⟨b, off + j * 3 + 2, none⟩) hlt).trans (ha j hj).2.2⟩⟩
theorem QR.cap_le {W : World} {e : TypeId} {sz n m c : Nat} {o : Option Addr} {xs : List Value} (h : QR W e sz (.slice o m c) n xs) : n ≤ c := by
  rcases h.2 with ⟨hv, h0⟩ | ⟨_, _, cap, _, _, hv, _, hnc, _⟩
  · omega
  · injection hv with _ _ e3
    omega
theorem QR.rdI {W : World} {v : Value} {l : List Int} (h : QR W 3 1 v l.length (rowN l)) : RdI W v l := by
  obtain ⟨o, c, rfl⟩ := h.shape
  refine ⟨o, c, rfl, h.cap_le, fun hp => ?_⟩
  obtain ⟨g, off, rfl, hlt, hc⟩ := h.cells rfl (by rw [rowN_len]; omega)
  exact ⟨g, off, rfl, hlt, fun j hj => hc j _ (by unfold rowN; rw [List.getElem?_map, List.getElem?_eq_getElem hj]; rfl)⟩
theorem QR.rdT {W : World} {e : TypeId} {v : Value} {l : List AlD} (h : QR W e 3 v l.length (rowA l)) : RdT W v l := by
  obtain ⟨o, c, rfl⟩ := h.shape
  refine ⟨o, c, rfl, h.cap_le, fun hp => ?_⟩
  obtain ⟨g, off, rfl, hlt, hc⟩ := h.cells rfl (by rw [rowA_len]; omega)
  refine ⟨g, off, rfl, hlt, fun j hj => ⟨?_, ?_, ?_⟩⟩
  · exact hc (j * 3) _ ((rowA_get l j 0 hj (by omega)).trans rfl)
  · rw [Nat.add_assoc]
    exact hc (j * 3 + 1) _ ((rowA_get l j 1 hj (by omega)).trans rfl)
  · rw [Nat.add_assoc]
    exact hc (j * 3 + 2) _ ((rowA_get l j 2 hj (by omega)).trans rfl)
/-- The block of a row is one of its elements' type. -/
theorem QR.ty {W : World} {e : TypeId} {sz n : Nat} {v : Value} {xs : List Value} (h : QR W e sz v n xs) {g : Nat} (hg : v.ownBlock = some g) : ∃ arr, W.heap[g]? = some (.cells arr e) := by
  rcases h.2 with ⟨rfl, _⟩ | ⟨g', off, cap, N, f, rfl, ⟨cur, hh, _⟩, _⟩
  · cases hg
  · have : g' = g := Option.some.inj hg
    subst this
    exact ⟨cur, hh⟩
theorem ty_ne {W : World} {g k : Nat} {a b : Array Value} {S T : TypeId} (hg : W.heap[g]? = some (.cells a S)) (hk : W.heap[k]? = some (.cells b T)) (hne : S ≠ T) : g ≠ k := by
  rintro rfl
  rw [hg] at hk
  injection hk with hk
  injection hk with _ h
  exact hne h
/-- A state that can be read. -/
structure RfRd (W : World) (r : LpD) (B c : Nat) (v : Nat → Value) (tv : Value) : Prop where
  lt : B < W.heap.size
  cell : ∀ i, i < 8 → W.cell? ⟨B, i, none⟩ = some (v i)
  row : ∀ i, i ≤ 8 → RdI W (v i) (tabL r i)
  tms : RdT W tv r.tms
  cap : 8 ≤ c
  len : r.tks.length = 8
theorem RfRd.later {W U : World} {r : LpD} {B c : Nat} {v : Nat → Value} {tv : Value} (h : RfRd W r B c v tv) (hb : Below W.heap.size W U) : RfRd U r B c v tv :=
  ⟨Nat.lt_of_lt_of_le h.lt hb.size, fun i hi => cellLater hb h.lt (h.cell i hi), fun i hi => (h.row i hi).later hb, h.tms.later hb, h.cap, h.len⟩
def stR (r : LpD) (B c : Nat) (m t : Value) : Value := .agg #[.bool r.cls, .int .i64 r.now, .int .i64 r.giv, m, .slice (some ⟨B, 0, none⟩) 8 c, t]
def stO (r : LpD) (B c : Nat) (m t : Value) : Obj := .cells #[.bool r.cls, .int .i64 r.now, .int .i64 r.giv, m, .slice (some ⟨B, 0, none⟩) 8 c, t] 30
def zS : Obj := .cells #[.bool false, .int .i64 0, .int .i64 0, .slice none 0 0, .slice none 0 0, .slice none 0 0] 30
/-- A state of one's own, from n0 on. -/
structure RfO (W : World) (n0 : Nat) (r : LpD) (B c : Nat) (v : Nat → Value) (tv : Value) : Prop where
  box : ∃ arr, W.heap[B]? = some (.cells arr 26) ∧ ∀ i, i < 8 → arr[i]? = some (v i)
  row : ∀ i, i ≤ 8 → QR W 3 1 (v i) (tabL r i).length (rowN (tabL r i))
  tm : QR W 92 3 tv r.tms.length (rowA r.tms)
  lowB : n0 ≤ B
  low : ∀ i, i ≤ 8 → ∀ g, (v i).ownBlock = some g → n0 ≤ g
  lowT : ∀ g, tv.ownBlock = some g → n0 ≤ g
  apart : ∀ i j, i ≤ 8 → j ≤ 8 → i ≠ j → ∀ g, (v i).ownBlock = some g → (v j).ownBlock ≠ some g
  cap : 8 ≤ c
  len : r.tks.length = 8
theorem RfO.rd {W : World} {n0 : Nat} {r : LpD} {B c : Nat} {v : Nat → Value} {tv : Value} (h : RfO W n0 r B c v tv) : RfRd W r B c v tv := by
  obtain ⟨arr, h1, h2⟩ := h.box
  exact ⟨(Array.getElem?_eq_some_iff.1 h1).1, fun i hi => box_at h1 (h2 i hi), fun i hi => (h.row i hi).rdI, h.tm.rdT, h.cap, h.len⟩
theorem RfO.cell {W : World} {n0 : Nat} {r : LpD} {B c : Nat} {v : Nat → Value} {tv : Value} (h : RfO W n0 r B c v tv) {i : Nat} (hi : i < 8) : W.cell? ⟨B, i, none⟩ = some (v i) := h.rd.cell i hi
theorem RfO.fz {W : World} {n0 : Nat} {r : LpD} {B c : Nat} {v : Nat → Value} {tv : Value} (h : RfO W n0 r B c v tv) (i : Nat) : W.frozen? ⟨B, i, none⟩ = false := by
  obtain ⟨arr, h1, h2⟩ := h.box
  exact box_fz h1 i
/-- It stays where its blocks stay. -/
theorem RfO.keep {W U : World} {n0 : Nat} {r : LpD} {B c : Nat} {v : Nat → Value} {tv : Value} (h : RfO W n0 r B c v tv) (hb : ∀ (g : Nat) (arr : Array Value) (T : TypeId), W.heap[g]? = some (Obj.cells arr T) → T = 26 ∨ T = 3 ∨ T = 92 → U.heap[g]? = W.heap[g]?) : RfO U n0 r B c v tv := by
  obtain ⟨arr, h1, h2⟩ := h.box
  refine ⟨⟨arr, (hb _ _ _ h1 (.inl rfl)).trans h1, h2⟩, fun i hi => (h.row i hi).kept fun g hg => ?_, h.tm.kept fun g hg => ?_, h.lowB, h.low, h.lowT, h.apart, h.cap, h.len⟩
  · obtain ⟨a, ha⟩ := (h.row i hi).ty hg
    exact hb _ _ _ ha (.inr (.inl rfl))
  · obtain ⟨a, ha⟩ := h.tm.ty hg
    exact hb _ _ _ ha (.inr (.inr rfl))
theorem RfO.later {W U : World} {n0 : Nat} {r : LpD} {B c : Nat} {v : Nat → Value} {tv : Value} (h : RfO W n0 r B c v tv) (hb : Below W.heap.size W U) : RfO U n0 r B c v tv :=
  h.keep fun g _ _ hg _ => hb.block g (Array.getElem?_eq_some_iff.1 hg).1
/-- A store into a variable of another type. -/
theorem RfO.set {W : World} {n0 : Nat} {r : LpD} {B c : Nat} {v : Nat → Value} {tv : Value} (h : RfO W n0 r B c v tv) {g o : Nat} {a : Array Value} {T : TypeId} (hg : W.heap[g]? = some (.cells a T)) (h1 : T ≠ 26) (h2 : T ≠ 3) (h3 : T ≠ 92) (x : Value) : RfO (W.setCell ⟨g, o, none⟩ x) n0 r B c v tv :=
  h.keep fun k _ S hk hS => Below.heap_setCell _ _ _ k (by
    show k ≠ g
    refine ty_ne hk hg ?_
    rcases hS with rfl | rfl | rfl
    · exact fun e => h1 e.symm
    · exact fun e => h2 e.symm
    · exact fun e => h3 e.symm)
theorem tab_task (r : LpD) (i : Nat) (l : List Int) (hi : i < 8) (h8 : r.tks.length = 8) (j : Nat) : tabL { r with tks := r.tks.set i l } j = if j = i then l else tabL r j := by
  unfold tabL
  by_cases hji : j = i
  · subst hji
    rw [if_pos rfl, if_neg (by omega)]
    show (r.tks.set j l).getD j [] = l
    rw [List.getD_eq_getElem?_getD, List.getElem?_set_self (by omega)]
    rfl
  · rw [if_neg hji]
    split
    · rfl
    · show (r.tks.set i l).getD j [] = _
      rw [List.getD_eq_getElem?_getD, List.getElem?_set_ne (fun e => hji e.symm), List.getD_eq_getElem?_getD]
theorem tab_mic (r : LpD) (l : List Int) (j : Nat) : tabL { r with mic := l } j = if j = 8 then l else tabL r j := by
  unfold tabL
  by_cases hj : j = 8
  · rw [if_pos hj, if_pos hj]
  · rw [if_neg hj, if_neg hj, if_neg hj]
def putV2 (v : Nat → Value) (i : Nat) (x : Value) : Nat → Value := fun j => if j = i then x else v j
theorem grown_ne {V1 w1 : World} {o : Option Nat} {k : Nat} (hg : V1.grownBy w1 o) (hk : k < V1.heap.size) (hne : o ≠ some k) : w1.heap[k]? = V1.heap[k]? := hg.block k hk (fun e => hne e.symm)
/-- One of its rows of numbers has grown, or become another piece of itself. -/
theorem RfO.row_upd {V V1 w1 : World} {n0 : Nat} {r r' : LpD} {B c : Nat} {v : Nat → Value} {tv : Value} (h : RfO V n0 r B c v tv) (hn : n0 ≤ V.heap.size) (hB : Below V.heap.size V V1) {i : Nat} (hi : i ≤ 8) {x : Value} {l' : List Int}
    (hg : V1.grownBy w1 (v i).ownBlock) (hq : QR w1 3 1 x l'.length (rowN l')) (hown : ∀ g, x.ownBlock = some g → (v i).ownBlock = some g ∨ V1.heap.size ≤ g) {arr : Array Value} (hbx : V.heap[B]? = some (.cells arr 26))
    (ht : ∀ j, j ≤ 8 → tabL r' j = if j = i then l' else tabL r j) (htm : r'.tms = r.tms) (hl8 : r'.tks.length = 8)
    {arr' : Array Value} {U : World} (hU : U.heap[B]? = some (.cells arr' 26)) (hUa : ∀ j, j < 8 → arr'[j]? = some (putV2 v i x j)) (hUk : ∀ k, k ≠ B → U.heap[k]? = w1.heap[k]?) :
    RfO U n0 r' B c (putV2 v i x) tv := by
  have hs := hB.size
  have hown' := hown
  have hBne : ∀ j, j ≤ 8 → ∀ g, (v j).ownBlock = some g → g ≠ B := fun j hj g hgj => by
    obtain ⟨a, ha⟩ := (h.row j hj).ty hgj
    exact ty_ne ha hbx (by decide)
  have hk : ∀ j, j ≤ 8 → j ≠ i → ∀ g, (v j).ownBlock = some g → U.heap[g]? = V.heap[g]? := fun j hj hne g hgj => by
    have hlt := (h.row j hj).lt hgj
    rw [hUk g (hBne j hj g hgj), grown_ne hg (Nat.lt_of_lt_of_le hlt hs) (fun e => h.apart j i hj hi hne g hgj e), hB.block g hlt]
  have hx : ∀ g, x.ownBlock = some g → n0 ≤ g ∧ g ≠ B := fun g hgx => by
    rcases hown g hgx with h' | h'
    · exact ⟨h.low i hi g h', hBne i hi g h'⟩
    · have := (Array.getElem?_eq_some_iff.1 hbx).1
      exact ⟨by omega, by omega⟩
  refine ⟨⟨arr', hU, hUa⟩, fun j hj => ?_, ?_, h.lowB, fun j hj g hgj => ?_, h.lowT, fun j k hj hk' hne g hgj => ?_, h.cap, hl8⟩
  · rw [ht j hj]
    unfold putV2
    by_cases hji : j = i
    · rw [if_pos hji, if_pos hji]
      exact hq.kept fun g hgx => hUk g (hx g hgx).2
    · rw [if_neg hji, if_neg hji]
      exact (h.row j hj).kept (hk j hj hji)
  · rw [htm]
    refine h.tm.kept fun g hgt => ?_
    have hlt := h.tm.lt hgt
    obtain ⟨a, ha⟩ := h.tm.ty hgt
    rw [hUk g (ty_ne ha hbx (by decide)), grown_ne hg (Nat.lt_of_lt_of_le hlt hs) (fun e => by
      obtain ⟨a2, ha2⟩ := (h.row i hi).ty e
      exact ty_ne ha ha2 (by decide) rfl), hB.block g hlt]
  · unfold putV2 at hgj
    by_cases hji : j = i
    · rw [if_pos hji] at hgj
      exact (hx g hgj).1
    · rw [if_neg hji] at hgj
      exact h.low j hj g hgj
  · unfold putV2 at hgj ⊢
    by_cases hji : j = i
    · rw [if_pos hji] at hgj
      rw [if_neg (by omega)]
      intro hk2
      rcases hown' g hgj with h' | h'
      · exact h.apart i k hi hk' (by omega) g h' hk2
      · have := (h.row k hk').lt hk2
        omega
    · rw [if_neg hji] at hgj
      by_cases hki : k = i
      · rw [if_pos hki]
        intro hk2
        rcases hown' g hk2 with h' | h'
        · exact h.apart j i hj hi hji g hgj h'
        · have := (h.row j hj).lt hgj
          omega
      · rw [if_neg hki]
        exact h.apart j k hj hk' hne g hgj
/-- A row of tasks: stored into the table. -/
theorem RfO.task_set {V V1 w1 : World} {n0 : Nat} {r : LpD} {B c : Nat} {v : Nat → Value} {tv : Value} (h : RfO V n0 r B c v tv) (hn : n0 ≤ V.heap.size) (hB : Below V.heap.size V V1) {i : Nat} (hi : i < 8) {x : Value} {l' : List Int}
    (hg : V1.grownBy w1 (v i).ownBlock) (hq : QR w1 3 1 x l'.length (rowN l')) (hown : ∀ g, x.ownBlock = some g → (v i).ownBlock = some g ∨ V1.heap.size ≤ g) :
    RfO (w1.setCell ⟨B, i, none⟩ x) n0 { r with tks := r.tks.set i l' } B c (putV2 v i x) tv := by
  obtain ⟨arr, h1, h2⟩ := h.box
  have hlt := (Array.getElem?_eq_some_iff.1 h1).1
  have hBn : (v i).ownBlock ≠ some B := fun e => by
    obtain ⟨a, ha⟩ := (h.row i (by omega)).ty e
    exact ty_ne ha h1 (by decide) rfl
  have hw : w1.heap[B]? = some (.cells arr 26) := (grown_ne hg (Nat.lt_of_lt_of_le hlt hB.size) hBn).trans ((hB.block B hlt).trans h1)
  refine h.row_upd (r' := { r with tks := r.tks.set i l' }) hn hB (by omega) hg hq hown h1 (fun j _ => tab_task r i l' hi h.len j) rfl (by simpa using h.len) (set_boxQ hw x) (fun j hj => ?_) (fun k hk => Below.heap_setCell _ _ _ k hk)
  unfold putV2
  by_cases hji : j = i
  · subst hji
    rw [if_pos rfl]
    exact get_set_same (h2 j hj)
  · rw [if_neg hji]
    exact get_set (h2 j hj) hji
/-- The row of microtasks. -/
theorem RfO.mic_set {V V1 w1 : World} {n0 : Nat} {r : LpD} {B c : Nat} {v : Nat → Value} {tv : Value} (h : RfO V n0 r B c v tv) (hn : n0 ≤ V.heap.size) (hB : Below V.heap.size V V1) {x : Value} {l' : List Int}
    (hg : V1.grownBy w1 (v 8).ownBlock) (hq : QR w1 3 1 x l'.length (rowN l')) (hown : ∀ g, x.ownBlock = some g → (v 8).ownBlock = some g ∨ V1.heap.size ≤ g) :
    RfO w1 n0 { r with mic := l' } B c (putV2 v 8 x) tv := by
  obtain ⟨arr, h1, h2⟩ := h.box
  have hlt := (Array.getElem?_eq_some_iff.1 h1).1
  have hBn : (v 8).ownBlock ≠ some B := fun e => by
    obtain ⟨a, ha⟩ := (h.row 8 (by omega)).ty e
    exact ty_ne ha h1 (by decide) rfl
  have hw : w1.heap[B]? = some (.cells arr 26) := (grown_ne hg (Nat.lt_of_lt_of_le hlt hB.size) hBn).trans ((hB.block B hlt).trans h1)
  refine h.row_upd (r' := { r with mic := l' }) hn hB (by omega) hg hq hown h1 (fun j _ => tab_mic r l' j) rfl h.len hw (fun j hj => ?_) (fun k _ => rfl)
  unfold putV2
  rw [if_neg (by omega)]
  exact h2 j hj
/-- The row of timers. -/
theorem RfO.tms_set {V V1 w1 : World} {n0 : Nat} {r : LpD} {B c : Nat} {v : Nat → Value} {tv : Value} (h : RfO V n0 r B c v tv) (hn : n0 ≤ V.heap.size) (hB : Below V.heap.size V V1) {x : Value} {l' : List AlD}
    (hg : V1.grownBy w1 tv.ownBlock) (hq : QR w1 92 3 x l'.length (rowA l')) (hown : ∀ g, x.ownBlock = some g → tv.ownBlock = some g ∨ V1.heap.size ≤ g) :
    RfO w1 n0 { r with tms := l' } B c v x := by
  obtain ⟨arr, h1, h2⟩ := h.box
  have hlt := (Array.getElem?_eq_some_iff.1 h1).1
  have hs := hB.size
  have hne : ∀ (g : Nat) (a : Array Value) (T : TypeId), V.heap[g]? = some (Obj.cells a T) → T ≠ 92 → w1.heap[g]? = V.heap[g]? := fun g a T hgg hT => by
    have hgl := (Array.getElem?_eq_some_iff.1 hgg).1
    rw [grown_ne hg (Nat.lt_of_lt_of_le hgl hs) (fun e => by
      obtain ⟨a2, ha2⟩ := h.tm.ty e
      exact ty_ne hgg ha2 hT rfl), hB.block g hgl]
  refine ⟨⟨arr, (hne _ _ _ h1 (by decide)).trans h1, h2⟩, fun i hi => (h.row i hi).kept fun g hgi => ?_, hq, h.lowB, h.low, fun g hgx => ?_, h.apart, h.cap, h.len⟩
  · obtain ⟨a, ha⟩ := (h.row i hi).ty hgi
    exact hne _ _ _ ha (by decide)
  · rcases hown g hgx with h' | h'
    · exact h.lowT g h'
    · omega
/-- Its plain cells. -/
theorem RfO.plain {V : World} {n0 : Nat} {r r' : LpD} {B c : Nat} {v : Nat → Value} {tv : Value} (h : RfO V n0 r B c v tv) (h1 : r'.mic = r.mic) (h2 : r'.tks = r.tks) (h3 : r'.tms = r.tms) : RfO V n0 r' B c v tv := by
  have ht : tabL r' = tabL r := by unfold tabL; rw [h1, h2]
  exact ⟨h.box, by rw [ht]; exact h.row, by rw [h3]; exact h.tm, h.lowB, h.low, h.lowT, h.apart, h.cap, by rw [h2]; exact h.len⟩
end Go.Proofs.Ytaliecmdkloceaa
