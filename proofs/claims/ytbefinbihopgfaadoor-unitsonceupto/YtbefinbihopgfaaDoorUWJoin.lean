/- The walks of the reference's Join and of units.Collapse; a list of texts put into an empty row. -/
import Derived.Test.YtbefinbihopgfaaDoorUJoin
import Derived.Test.YtbefinbihopgfaaDoorUWSplit
import Derived.Test.YtbefinbihopgfaaDoorUSet
import Derived.Deep.AppendSrc
namespace Go.Proofs.YtbefinbihopgfaaDoor
open Go.RowKit Go.Lib

theorem join_snoc (l : List (List UInt8)) (x sep : List UInt8) : join (l ++ [x]) sep = if l = [] then x else join l sep ++ sep ++ x := by
  cases l with
  | nil => rw [if_pos rfl, List.nil_append, join_one]
  | cons a t =>
    rw [if_neg (by simp), List.cons_append, join_cons, join_cons]
    simp [joinTail]
/-- What is put together behind k of them. -/
def joinTo (xs : List ByteArray) (k : Nat) : List UInt8 := join ((xs.map (·.data.toList)).take k) [32]
theorem joinTo_one (xs : List ByteArray) (h : 0 < xs.length) : joinTo xs 1 = xs[0].data.toList := by
  unfold joinTo
  rw [List.take_succ_eq_append_getElem (by simpa using h), join_snoc, if_pos (by simp)]
  simp
theorem joinTo_succ (xs : List ByteArray) (k : Nat) (h : k < xs.length) (hk : 0 < k) : joinTo xs (k + 1) = joinTo xs k ++ [32] ++ xs[k].data.toList := by
  unfold joinTo
  have hl : k < (xs.map (·.data.toList)).length := by simpa using h
  rw [List.take_succ_eq_append_getElem hl, join_snoc, if_neg]
  · simp
  · intro e
    have := congrArg List.length e
    rw [List.length_take, List.length_map, List.length_nil] at this
    omega
theorem joinTo_all (xs : List ByteArray) : joinTo xs xs.length = joinS xs ⟨#[32]⟩ := by
  unfold joinTo joinS
  rw [List.take_of_length_le (by simp)]
theorem lens_le : ∀ (xs : List ByteArray) (m : Nat), (∀ x ∈ xs, x.size ≤ m) → lens (xs.map (·.data.toList)) ≤ xs.length * m
  | [], m, _ => by simp [lens]
  | x :: t, m, h => by
    have ih := lens_le t m (fun y hy => h y (by simp [hy]))
    have hx := h x (by simp)
    rw [Lib.size_eq] at hx
    unfold lens at ih ⊢
    rw [List.map_cons, List.map_cons, List.sum_cons, List.length_cons, Nat.add_mul]
    omega
theorem joinS_len (xs : List ByteArray) (n m : Nat) (hn : xs.length ≤ n) (h : ∀ x ∈ xs, x.size ≤ m) : (joinS xs ⟨#[32]⟩).length ≤ n + n * m := by
  have h1 := lens_le xs m h
  have h2 : xs.length * m ≤ n * m := Nat.mul_le_mul_right m hn
  unfold joinS
  cases xs with
  | nil => simp [join_nil]
  | cons a t =>
    rw [List.map_cons] at h1 ⊢
    rw [join_length]
    simp only [List.length_map, List.length_cons, List.length_nil] at *
    omega
theorem joinTo_len (xs : List ByteArray) : ∀ k, k ≤ xs.length → (joinTo xs k).length ≤ (joinTo xs xs.length).length := by
  intro k hk
  obtain ⟨d, hd⟩ : ∃ d, xs.length = k + d := ⟨xs.length - k, by omega⟩
  rw [hd]
  clear hk
  revert hd
  induction d generalizing k with
  | zero => intro _; exact Nat.le_refl _
  | succ d ih =>
    intro hd
    refine Nat.le_trans ?_ (show (joinTo xs (k + 1)).length ≤ (joinTo xs (k + (d + 1))).length by
      have := ih (k + 1) (by omega)
      rw [show k + 1 + d = k + (d + 1) by omega] at this
      exact this)
    by_cases h0 : 0 < k
    · rw [joinTo_succ xs k (by omega) h0]
      simp only [List.length_append]
      omega
    · have : k = 0 := by omega
      subst this
      simp [joinTo, join_nil]

set_option maxRecDepth 100000 in
set_option maxHeartbeats 1000000 in
theorem rjoin_any (v : Value) (xs : List ByteArray) (w : World) (hr : RdS w v xs) (hn : xs.length ≤ 1099511627776) (hl : (joinS xs ⟨#[32]⟩).length ≤ 70368744177664) :
    Calls Tryd.prog 20 #[v] w fun e w' => e = .returned (.string ⟨(joinS xs ⟨#[32]⟩).toArray⟩) ∧ Below w.heap.size w w' := by
  obtain ⟨o, cap, rfl, g⟩ := hr
  obtain ⟨i0, hi, hz0, hz1, hz2⟩ := info_parts Tryd.infoByte
  rw [← joinTo_all] at hl ⊢
  have hjl := joinTo_len xs
  generalize hTT : joinTo xs xs.length = T at hl hjl ⊢
  have HT := uj_hid hTT
  have Hjl := uj_hid hjl
  clear hTT hjl
  go_enter Tryd.func20, Tryd.ntmps20
  go_wp2
  go_loopw [3, 8] (fun v i wr => ∃ k : Nat, k ≤ xs.length ∧ i = .int .i64 k ∧ wr.ownsRow w.heap.size 5 1 v (joinTo xs k).length ((joinTo xs k).map byteV) ∧ Below w.heap.size w wr) (fun _ i _ => xs.length - (RowKit.intOf i).toNat)
  case atStart => exact ⟨0, Nat.zero_le _, rfl, World.ownsRow_nil _ _ _ _, Below.refl _ _⟩
  case round =>
    obtain ⟨k, hk, rfl, hrow, hnx⟩ := hrel
    have hsw := hnx.size
    have hkl := Hjl.out k hk
    by_cases hlt : k < xs.length
    · have hkl1 := Hjl.out (k + 1) hlt
      obtain ⟨a, rfl, ha, hc⟩ := g (by omega)
      have e1 : (a.add k).block = a.block := by unfold Addr.add; split <;> rfl
      have hx := (hnx.cell (p := a.add k) (by rw [e1]; exact ha)).trans (hc k hlt)
      clear hc g
      by_cases hk0 : k = 0
      · have hkz : ¬ (0 : Int) < (k : Int) := by omega
        have hs2 : joinTo xs (k + 1) = xs[k].data.toList := by subst hk0; exact joinTo_one xs hlt
        have hs0 : joinTo xs k = [] := by subst hk0; simp [joinTo, join_nil]
        have hss : xs[k].size = xs[k].data.toList.length := Lib.size_eq _
        rw [hs0] at hrow
        have hxl : xs[k].size ≤ 70368744177664 := by rw [hs2] at hkl1; omega
        have Hs2 := uj_hid hs2
        clear hs2 hs0 hkl hkl1 hk0 hss
        generalize xs[k] = x at *
        go_wp2_with (at_builtin; refine wpList_append_own_string _ rfl _ _ 49 9 rfl w.heap.size 5 i0 Tryd.underlying49 Tryd.underlying9 hi hz0 hz1 hz2 _ _ _ rfl hrow x rfl (by unfold maxLen; simp only [List.length_nil]; omega) (by simp only [List.length_nil]; omega) (by omega) ?_)
        intro v' w3 hown' hgrow2 _
        go_wp2
        go_roundw
        case rel =>
          refine ⟨k + 1, by omega, by go_num, ?_, ?_⟩
          · have e1 : x.data.toList.length = x.size := (Lib.size_eq _).symm
            rw [Hs2.out, e1]
            exact hown'
          · exact hnx.grown hgrow2 (by omega) (fun j hj => (hrow.lt j hj).1)
        case measure => simp [RowKit.intOf]; omega
      · have hs2 := joinTo_succ xs k hlt (by omega)
        have hkp : (0 : Int) < (k : Int) := by omega
        have hss : xs[k].size = xs[k].data.toList.length := Lib.size_eq _
        have hxl : (joinTo xs k).length + 1 + xs[k].size ≤ 70368744177664 := by
          rw [hs2] at hkl1
          simp only [List.length_append, List.length_cons, List.length_nil] at hkl1
          omega
        have Hs2 := uj_hid hs2
        clear hs2 hkl1 hkl hk0 hss
        generalize xs[k] = x at *
        generalize joinTo xs k = jk at *
        have hc1 : ∀ (j : Nat) (u : Value), [Value.int .u8 32][j]? = some u → (wr.alloc (.cells #[.int .u8 32] 5)).cell? ((⟨wr.heap.size, 0, none⟩ : Addr).add j) = some u := by
          intro j u hj
          match j, hj with
          | 0, hj => simp at hj; subst hj; simp [Addr.add]
        have HC1 := uj_hid hc1
        clear hc1
        go_wp2_with (first
          | (at_builtin; refine wpList_append_own_string _ rfl _ _ 49 9 rfl w.heap.size 5 i0 Tryd.underlying49 Tryd.underlying9 hi hz0 hz1 hz2 _ _ _ rfl hown' x rfl (by unfold maxLen; omega) (by omega) (by omega) ?_)
          | (at_builtin
             refine wpList_append_own _ rfl _ _ 49 rfl w.heap.size 5 i0 (.int .u8 0) 1 1 Tryd.underlying49 hi hz0 hz1 hz2 rfl (by decide) _ _ _ rfl (hrow.alloc _) ⟨wr.heap.size, 0, none⟩ 1 1 [.int .u8 32] rfl rfl HC1.out (fun u hu => by simp at hu; subst hu; rfl) (by unfold maxLen; omega) (by omega) (by simp; omega) ?_
             intro v' w3 hown' hgrow2 _
             have hb3 : Below w.heap.size w w3 := (hnx.alloc hnx.size _).grown hgrow2 (by simp; omega) (fun j hj => (hrow.lt j hj).1)
             have hs3 := hb3.size
             clear hgrow2 hrow hnx))
        intro v4 w4 hown4 hgrow4 _
        go_wp2
        go_roundw
        case rel =>
          refine ⟨k + 1, by omega, by go_num, ?_, ?_⟩
          · have e1 : (jk ++ [32] ++ x.data.toList).length = jk.length + 1 + x.size := by rw [List.length_append, List.length_append, ← Lib.size_eq]; rfl
            have e2 : (jk ++ [32] ++ x.data.toList).map byteV = jk.map byteV ++ [.int .u8 32] ++ strCells x := by rw [List.map_append, List.map_append]; rfl
            rw [Hs2.out, e1, e2, List.append_assoc]
            exact hown4
          · exact hb3.grown hgrow4 (by omega) (fun j hj => (hown'.lt j hj).1)
        case measure => simp [RowKit.intOf]; omega
    · have hkl : k = xs.length := by omega
      subst hkl
      rw [HT.out] at hrow
      obtain ⟨o2, c2, rfl, hconv⟩ := own_bytes hrow
      go_wp2
      go_ret
      exact ⟨rfl, hnx⟩

theorem words_len (s : ByteArray) : (wordsOf s).length ≤ s.size + 1 := by
  unfold wordsOf
  rw [words_eqB]
  have := wordsTo_len s s.size
  split
  · rw [List.length_append]; simp; omega
  · omega
/-- One blank between words. -/
def flatD (s : ByteArray) : ByteArray := ⟨(joinS (wordsOf s) ⟨#[32]⟩).toArray⟩
theorem flat_len (s : ByteArray) (h : s.size ≤ 1048576) : (joinS (wordsOf s) ⟨#[32]⟩).length ≤ 1099513724929 := by
  have h1 := joinS_len (wordsOf s) 1048577 1048576 (by have := words_len s; omega) (fun x hx => Nat.le_trans (words_size s x hx) h)
  omega

set_option maxRecDepth 100000 in
set_option maxHeartbeats 1000000 in
theorem collapse_any (s : ByteArray) (w : World) (hs : s.size ≤ 4294967296) (hl : (joinS (wordsOf s) ⟨#[32]⟩).length ≤ 140737488355328) :
    Calls Tryd.prog 19 #[.string s] w fun e w' => e = .returned (.string (flatD s)) ∧ Below w.heap.size w w' := by
  have hS := usplit_any s w hs
  have hwl := words_len s
  unfold flatD
  generalize wordsOf s = ws at *
  have HJ : Hid (∀ (A : Nat) (W : World), CellsS W A ws → _) := fun A W h => ujoin_any A ws.length ws ⟨#[32]⟩ W h (by omega) (Nat.le_refl _) hl
  go_enter Tryd.func19, Tryd.ntmps19
  go_wp2_with fail
  refine hS.mono ?_
  rintro e w1 ⟨A, rfl, hA, hc, hb⟩
  go_wp2_with fail
  refine (HJ.out A w1 hc).mono ?_
  rintro e w2 ⟨rfl, hb2⟩
  go_wp2
  go_ret
  exact ⟨rfl, hb.trans (hb2.mono hb.size)⟩

theorem own_emptyS (w : World) (B : Nat) (hB : B ≤ w.heap.size) : (w.alloc (.cells #[] 9)).ownsRow B 9 1 (.slice (some ⟨w.heap.size, 0, none⟩) 0 0) 0 (([] : List ByteArray).map Value.string) :=
  ⟨rfl, .inr ⟨w.heap.size, 0, #[], rfl, hB, alloc_at w _, Nat.le_refl _, Nat.zero_le _, rfl, rfl⟩⟩

/-- Texts that are put into an empty row of the call's own. -/
theorem run_fresh_rdS (w : World) (src : Value) (ws : List ByteArray) (ty : TypeId) (hr : RdS w src ws) (hn : ws.length ≤ 1099511627776) :
    ∃ v' w', (Builtin.append_ #[22, 22] ty #[.slice (some ⟨w.heap.size, 0, none⟩) 0 0, src]).run Tryd.prog (w.alloc (.cells #[] 9)) = .ok v' w' ∧ w'.ownsRow w.heap.size 9 1 v' ws.length (ws.map Value.string) ∧ Below w.heap.size w w' := by
  have hb0 : Below w.heap.size w (w.alloc (.cells #[] 9)) := (Below.refl _ w).alloc (Nat.le_refl _) _
  obtain ⟨i0, hi, hz0, hz1, hz2⟩ := info_parts Tryd.infoStr
  have hown := own_emptyS w w.heap.size (Nat.le_refl _)
  obtain ⟨o, cap, rfl, g⟩ := hr.later hb0
  have hcase : (o = none ∧ ws = []) ∨ ∃ a, o = some a ∧ ∀ (j : Nat) (h : j < ws.length), (w.alloc (.cells #[] 9)).cell? (a.add j) = some (.string ws[j]) := by
    cases o with
    | none =>
      left
      refine ⟨rfl, ?_⟩
      by_cases hp : 0 < ws.length
      · obtain ⟨a, ha, _⟩ := g hp; cases ha
      · exact List.eq_nil_of_length_eq_zero (by omega)
    | some a =>
      right
      refine ⟨a, rfl, fun j hj => ?_⟩
      obtain ⟨a', ha, _, hc⟩ := g (by omega)
      cases ha
      exact hc j hj
  rcases hcase with ⟨rfl, rfl⟩ | ⟨a, rfl, hc⟩
  · have hs := Src.ofNil (P := Tryd.prog) (w.alloc (.cells #[] 9)) (size := i0.size) Tryd.underlying22 cap
    have h := run_append_room_src (w.alloc (.cells #[] 9)) 22 22 ty 9 i0 Tryd.underlying22 hi w.heap.size 0 0 0 (.slice none 0 cap) 0 [] hs (by omega) (fun j hj => by simp at hj) (fun j hj => by simp at hj)
    exact ⟨_, _, h, by simpa [World.setCells] using hown, hb0⟩
  · obtain ⟨v', w', h1, h2, h3, _⟩ := run_append_own (P := Tryd.prog) (w.alloc (.cells #[] 9)) w.heap.size 22 ty 9 i0 (.string ⟨#[]⟩) 1 16 Tryd.underlying22 hi hz0 hz1 hz2 rfl (by decide) _ 0 _ hown a ws.length cap (ws.map Value.string) (by simp) (fun j u hj => by
      rw [List.getElem?_map] at hj
      obtain ⟨x, hx, rfl⟩ := Option.map_eq_some_iff.1 hj
      obtain ⟨hj', rfl⟩ := List.getElem?_eq_some_iff.1 hx
      exact hc j hj') (fun u hu => by obtain ⟨x, _, rfl⟩ := List.mem_map.1 hu; rfl) (by unfold maxLen; omega) (by omega) (by simp)
    exact ⟨v', w', h1, by simpa using h2, hb0.grown h3 (by simp) (fun j hj => (hown.lt j hj).1)⟩
end Go.Proofs.YtbefinbihopgfaaDoor
