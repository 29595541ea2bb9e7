/- The document's own reading of a whole text into runes. -/
import Derived.Test.YtbefinbihopgfaaDoorRefOne
namespace Go.Proofs.YtbefinbihopgfaaDoor
open Go.RowKit Go.Lib

def runesGo : Nat → List UInt8 → List Nat
  | 0, _ => []
  | n + 1, l => if l = [] then [] else (decodeL l).1 :: runesGo n (l.drop (decodeL l).2)
def runesD (l : List UInt8) : List Nat := runesGo l.length l

theorem runesGo_nil : ∀ n, runesGo n [] = []
  | 0 => rfl
  | _ + 1 => by simp [runesGo]
theorem runesGo_fuel : ∀ (n m : Nat) (l : List UInt8), l.length ≤ n → l.length ≤ m → runesGo n l = runesGo m l
  | 0, m, l, h, _ => by
    have : l = [] := List.eq_nil_of_length_eq_zero (by omega)
    subst this
    rw [runesGo_nil, runesGo_nil]
  | n + 1, 0, l, _, h => by
    have : l = [] := List.eq_nil_of_length_eq_zero (by omega)
    subst this
    rw [runesGo_nil, runesGo_nil]
  | n + 1, m + 1, l, h1, h2 => by
    unfold runesGo
    by_cases hne : l = []
    · rw [if_pos hne, if_pos hne]
    · have hw := decodeL_width l
      have hl : 0 < l.length := List.length_pos_iff.2 hne
      rw [if_neg hne, if_neg hne, runesGo_fuel n m _ (by rw [List.length_drop]; omega) (by rw [List.length_drop]; omega)]
theorem runesD_step (l : List UInt8) (hne : l ≠ []) : runesD l = (decodeL l).1 :: runesD (l.drop (decodeL l).2) := by
  unfold runesD
  have hw := decodeL_width l
  have hl : 0 < l.length := List.length_pos_iff.2 hne
  obtain ⟨n, hn⟩ : ∃ n, l.length = n + 1 := ⟨l.length - 1, by omega⟩
  rw [hn]
  conv => lhs; unfold runesGo
  rw [if_neg hne, runesGo_fuel n (l.drop (decodeL l).2).length _ (by rw [List.length_drop]; omega) (Nat.le_refl _)]
theorem runesD_all (q : Int → Bool) : ∀ (n : Nat) (l : List UInt8), l.length ≤ n → allR q l = (runesD l).all (fun r => q (r : Int))
  | 0, l, hn => by
    have : l = [] := List.eq_nil_of_length_eq_zero (by omega)
    subst this; rfl
  | n + 1, l, hn => by
    by_cases hne : l = []
    · subst hne; rfl
    · have hw := decodeL_width l
      have hl : 0 < l.length := List.length_pos_iff.2 hne
      rw [allR_step q l hne, runesD_step l hne, List.all_cons, runesD_all q n _ (by rw [List.length_drop]; omega)]

def runeV (r : Nat) : Value := .int .i32 (r : Int)

theorem Tryd.infoRune : (Tryd.prog.info? 21).map (fun i => (i.zero, i.size, i.bytes)) = some (some (.int .i32 0), 1, 4) := by kernel_rfl

/-- What Runes comes to: nothing and no, where a text is not valid; else its runes, in memory of the call's own, and yes. -/
def RunesPost (w : World) (vd : Bool) (rd : List Nat) (e : Ending) (w' : World) : Prop :=
  Below w.heap.size w w' ∧ ((vd = false ∧ e = .returned (.tuple #[.slice none 0 0, .bool false])) ∨
    (vd = true ∧ ∃ v, e = .returned (.tuple #[v, .bool true]) ∧ w'.ownsRow w.heap.size 21 1 v rd.length (rd.map runeV)))

set_option maxRecDepth 100000 in
set_option maxHeartbeats 2000000 in
theorem runes_any (s : ByteArray) (w : World) (hs : s.size ≤ 17592186044416) :
    Calls Tryd.prog 45 #[.string s] w (RunesPost w (validD s.data.toList) (runesD s.data.toList)) := by
  obtain ⟨i0, hi, hz0, hz1, hz2⟩ := info_parts Tryd.infoRune
  generalize hRD : runesD s.data.toList = RD
  generalize hVD : validD s.data.toList = VD
  have HRD : Hid (runesD s.data.toList = RD) := hRD
  have HVD : Hid (validD s.data.toList = VD) := hVD
  clear hRD hVD
  go_enter Tryd.func45, Tryd.ntmps45
  go_wp2
  go_loopw [4, 5] (fun v i wr => ∃ (k : Nat) (done : List Nat), k ≤ s.size ∧ done.length ≤ k ∧ i = .int .i64 k ∧ wr.ownsRow w.heap.size 21 1 v done.length (done.map runeV) ∧ Below w.heap.size w wr ∧
      Hid (done ++ runesD (s.data.toList.drop k) = RD) ∧ Hid (validD (s.data.toList.drop k) = VD)) (fun _ i _ => s.size - (RowKit.intOf i).toNat)
  case atStart => exact ⟨0, [], Nat.zero_le _, Nat.le_refl _, rfl, World.ownsRow_nil _ _ _ _, Below.refl _ _, HRD.out, HVD.out⟩
  case round =>
    obtain ⟨k, done, hk, hdk, rfl, hown, hnx, hr, hv⟩ := hrel
    have hszw := hnx.size
    by_cases hlt : k < s.size
    · have hO := (one_any s k wr (by omega) hlt).mono (fun e w' h => (⟨h.1, h.2.symm⟩ : e = .returned (.tuple #[.int .i32 ((oneB (s.data.toList.drop k)).1 : Int), .int .i64 ((oneB (s.data.toList.drop k)).2 : Int)]) ∧ wr = w'))
      have hne : s.data.toList.drop k ≠ [] := by
        intro e; have := congrArg List.length e; rw [len_at] at this; simp at this; omega
      by_cases hb : badStep (s.data.toList.drop k)
      · have e1 : oneB (s.data.toList.drop k) = (0, 0) := if_pos hb
        rw [e1] at hO
        have hVf : VD = false := by
          rw [← hv.out, validD_step _ hne]
          exact if_pos hb
        subst hVf
        clear e1 hb
        go_wp2_with (go_at_call 75; refine hO.mono ?_; rintro e w' ⟨rfl, rfl⟩)
        go_ret2
        exact ⟨hnx, .inl ⟨rfl, rfl⟩⟩
      · have e1 : oneB (s.data.toList.drop k) = decodeL (s.data.toList.drop k) := if_neg hb
        rw [e1] at hO
        have hw := decodeL_width (s.data.toList.drop k)
        have hle := decodeL_le _ hne
        rw [len_at] at hle
        have hrn : Hid ((done ++ [(decodeL (s.data.toList.drop k)).1]) ++ runesD (s.data.toList.drop (k + (decodeL (s.data.toList.drop k)).2)) = RD) := by
          have h := hr.out
          rw [runesD_step _ hne, List.drop_drop] at h
          show _ = _
          rw [List.append_assoc]
          exact h
        have hvn : Hid (validD (s.data.toList.drop (k + (decodeL (s.data.toList.drop k)).2)) = VD) := by
          have h := hv.out
          have hb' : ¬ ((decodeL (s.data.toList.drop k)).1 = 65533 ∧ (decodeL (s.data.toList.drop k)).2 = 1) := hb
          rw [validD_step _ hne, if_neg hb', List.drop_drop] at h
          exact h
        generalize decodeL (s.data.toList.drop k) = dd at *
        obtain ⟨rr, nn⟩ := dd
        have hnn : ((nn : Int) == 0) = false := beq_eq_false_iff_ne.2 (by dsimp only at hw; omega)
        dsimp only at hw hle hrn hvn hO
        clear e1 hb hne hr hv
        go_wp2_with (first
          | (go_at_call 75; refine hO.mono ?_; rintro e w' ⟨rfl, rfl⟩)
          | (at_builtin; refine wpList_append_own _ rfl _ _ 56 rfl w.heap.size 21 i0 (.int .i32 0) 1 4 Tryd.underlying56 hi hz0 hz1 hz2 rfl (by decide) _ _ _ rfl (hown.alloc _) ⟨wr.heap.size, 0, none⟩ 1 1 [runeV rr] rfl rfl ?c1 ?c2 ?c3 ?c4 ?c5 ?_))
        case c1 =>
          intro j u hj
          match j, hj with
          | 0, hj => simp at hj; subst hj; simp [Addr.add, runeV]
        case c2 => intro u hu; simp at hu; subst hu; rfl
        case c3 => unfold maxLen; omega
        case c4 => omega
        case c5 => simp; omega
        intro v' w1 hown' hgrow _
        have hb1 : Below w.heap.size w w1 := (hnx.alloc hnx.size _).grown hgrow (by simp; omega) (fun j hj => (hown.lt j hj).1)
        go_wp2
        go_roundw
        case rel => exact ⟨k + nn, done ++ [rr], by omega, by simp; omega, by go_num, by simpa using hown', hb1, hrn, hvn⟩
        case measure => simp [RowKit.intOf]; omega
    · have hnil : s.data.toList.drop k = [] := List.drop_eq_nil_of_le (by rw [← Lib.size_eq]; omega)
      have hVt : VD = true := by rw [← hv.out, hnil]; rfl
      have hRt : RD = done := by rw [← hr.out, hnil]; exact List.append_nil _
      subst hVt hRt
      clear hnil hr hv
      go_wp2
      go_ret2
      exact ⟨hnx, .inr ⟨rfl, _, rfl, hown⟩⟩
end Go.Proofs.YtbefinbihopgfaaDoor
