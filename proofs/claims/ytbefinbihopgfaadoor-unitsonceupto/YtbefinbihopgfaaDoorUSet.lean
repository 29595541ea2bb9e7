/- The walks of units.Set and of the reference's Has and Set. -/
import Derived.Test.YtbefinbihopgfaaDoorUCmp
import Derived.Maps.OwnSet
import Derived.Maps.AppendAt
import Derived.StringKeys
namespace Go.Proofs.YtbefinbihopgfaaDoor
open Go.RowKit Go.Lib Go.Maps

def hasS (l : List ByteArray) (x : ByteArray) : Bool := l.any fun y => y.data.toList == x.data.toList
def addS (l : List ByteArray) (x : ByteArray) : List ByteArray := if hasS l x then l else l ++ [x]
/-- Each of some texts once. -/
def setS (ws : List ByteArray) : List ByteArray := ws.foldl addS []
def setTo (ws : List ByteArray) (k : Nat) : List ByteArray := setS (ws.take k)
def keyS (s : ByteArray) : Lit := .string s.data.toList
def mapTo (ws : List ByteArray) (k : Nat) : DataW Unit := setOf (.agg []) ((setTo ws k).map keyS)

theorem setTo_zero (ws : List ByteArray) : setTo ws 0 = [] := rfl
theorem setTo_succ (ws : List ByteArray) (k : Nat) (h : k < ws.length) : setTo ws (k + 1) = addS (setTo ws k) ws[k] := by
  unfold setTo setS
  rw [List.take_add_one, List.getElem?_eq_getElem h, List.foldl_append]
  rfl
theorem setTo_all (ws : List ByteArray) : setTo ws ws.length = setS ws := by
  unfold setTo
  rw [List.take_length]
theorem setTo_le (ws : List ByteArray) : ∀ k, k ≤ ws.length → (setTo ws k).length ≤ k
  | 0, _ => by simp [setTo_zero]
  | k + 1, h => by
    have ih := setTo_le ws k (by omega)
    rw [setTo_succ ws k (by omega)]
    unfold addS
    split
    · omega
    · simp; omega
theorem mapTo_zero (ws : List ByteArray) : mapTo ws 0 = .map [] := by simp [mapTo, setTo_zero, setOf]
theorem has_mapTo (ws : List ByteArray) (k : Nat) (x : ByteArray) : Maps.has (mapTo ws k) (keyS x) = hasS (setTo ws k) x := by
  unfold mapTo hasS
  rw [has_setOf _ _ _ (fun y hy => by obtain ⟨_, _, rfl⟩ := List.mem_map.1 hy; trivial), List.any_map]
  rfl
theorem set_old (ws : List ByteArray) (k : Nat) (h : k < ws.length) (hh : hasS (setTo ws k) ws[k] = true) : setTo ws (k + 1) = setTo ws k := by
  rw [setTo_succ ws k h, addS, if_pos hh]
theorem set_new (ws : List ByteArray) (k : Nat) (h : k < ws.length) (hh : hasS (setTo ws k) ws[k] = false) : setTo ws (k + 1) = setTo ws k ++ [ws[k]] := by
  rw [setTo_succ ws k h, addS, if_neg (by rw [hh]; exact Bool.false_ne_true)]
theorem map_old (ws : List ByteArray) (k : Nat) (h : k < ws.length) (hh : hasS (setTo ws k) ws[k] = true) : mapTo ws (k + 1) = mapTo ws k := by
  unfold mapTo
  rw [set_old ws k h hh]
theorem map_new (ws : List ByteArray) (k : Nat) (h : k < ws.length) (hh : hasS (setTo ws k) ws[k] = false) : mapTo ws (k + 1) = (mapTo ws k).put (keyS ws[k]) (.agg []) := by
  unfold mapTo
  rw [set_new ws k h hh, List.map_append, List.map_singleton, setOf_snoc]
theorem row_ne {w : World} {base : Nat} {e : TypeId} {size : Nat} {v : Value} {n : Nat} {xs : List Value} (h : w.ownsRow base e size v n xs) {b : Nat} (hb : b < base) : some b ≠ v.ownBlock := fun e1 => by
  have := (h.lt b e1.symm).1
  omega

theorem Tryd.infoStr : (Tryd.prog.info? 9).map (fun i => (i.zero, i.size, i.bytes)) = some (some (.string ⟨#[]⟩), 1, 16) := by kernel_rfl
theorem Tryd.keyed : Keyed Tryd.prog 9 := string_keyed Tryd.underlying9
theorem Tryd.zeroUnit (w : World) : (zeroValue 36).run Tryd.prog w = .ok (.agg #[]) w := by kernel_rfl

set_option maxRecDepth 100000 in
set_option maxHeartbeats 1500000 in
theorem set_any (v : Value) (ws : List ByteArray) (w : World) (hr : RdS w v ws) (hn : ws.length ≤ 1099511627776) (hz : ∀ x ∈ ws, x.size ≤ 140737488355328) :
    Calls Tryd.prog 6 #[v] w fun e w' => ∃ v', e = .returned v' ∧ w'.ownsRow w.heap.size 9 1 v' (setS ws).length ((setS ws).map Value.string) ∧ Below w.heap.size w w' := by
  obtain ⟨o, cap, rfl, g⟩ := hr
  have hmm := @run_makeMap Tryd.prog
  obtain ⟨i0, hi, hz0, hz1, hz2⟩ := info_parts Tryd.infoStr
  have HCl : Hid (∀ (x : ByteArray) W, x.size ≤ 281474976710656 → _) := uclone_any
  go_enter Tryd.func6, Tryd.ntmps6
  go_wp2
  go_loopw [3, 12] (fun v i wr => ∃ k : Nat, k ≤ ws.length ∧ i = .int .i64 k ∧ wr.ownsMap Tryd.prog 9 unitElem w.heap.size k (mapTo ws k) ∧ wr.ownsRow (w.heap.size + 1) 9 1 v (setTo ws k).length ((setTo ws k).map Value.string) ∧ Below w.heap.size w wr ∧ w.heap.size + 1 ≤ wr.heap.size) (fun _ i _ => ws.length - (RowKit.intOf i).toNat)
  case atStart => exact ⟨0, Nat.zero_le _, rfl, by rw [mapTo_zero]; exact World.ownsMap_made _ _ _ _, World.ownsRow_nil _ _ _ _, (Below.refl _ _).alloc (Nat.le_refl _) _, by simp⟩
  case round =>
    obtain ⟨k, hk, rfl, hown, hrow, hnx, hws⟩ := hrel
    by_cases hlt : k < ws.length
    · obtain ⟨a, rfl, ha, hc⟩ := g (by omega)
      have e1 : (a.add k).block = a.block := by unfold Addr.add; split <;> rfl
      have hx := (hnx.cell (p := a.add k) (by rw [e1]; exact ha)).trans (hc k hlt)
      have hsz := hz ws[k] (List.getElem_mem hlt)
      have hkey : keyOf Tryd.prog 9 (.string ws[k]) = some (keyS ws[k]) := Go.WideMaps.keyOf_string_mk Tryd.underlying9 (by unfold maxLen; omega)
      have hhas := has_mapTo ws k ws[k]
      have hal := setTo_le ws k hk
      have hC := fun W => HCl.out ws[k] W (by omega)
      cases hh : hasS (setTo ws k) ws[k] with
      | true =>
        have hm2 := map_old ws k hlt hh
        have hs2 := set_old ws k hlt hh
        rw [hh] at hhas
        generalize ws[k] = x at *
        generalize keyS x = kx at *
        go_wp2_with (at_lookup; refine wpList_lookup_own_unit _ rfl _ _ 35 rfl 9 36 Tryd.keyed Tryd.underlying35 (Tryd.zeroUnit _) w.heap.size k _ rfl hown _ _ rfl hkey ?_)
        go_roundw
        case rel => exact ⟨k + 1, by omega, by go_num, by rw [hm2]; exact (hown.alloc _).mono (Nat.le_succ _), by rw [hs2]; exact hrow.alloc _, hnx.alloc hnx.size _, by simp; omega⟩
        case measure => simp [RowKit.intOf]; omega
      | false =>
        have hm2 := map_new ws k hlt hh
        have hs2 := set_new ws k hlt hh
        rw [hh] at hhas
        generalize ws[k] = x at *
        generalize keyS x = kx at *
        go_wp2_with (first
          | (at_lookup; refine wpList_lookup_own_unit _ rfl _ _ 35 rfl 9 36 Tryd.keyed Tryd.underlying35 (Tryd.zeroUnit _) w.heap.size k _ rfl hown _ _ rfl hkey ?_)
          | (at_mapUpdate; refine wpList_mapUpdate_own _ rfl _ _ _ 35 rfl 9 36 Tryd.keyed Tryd.underlying35 (unitElem (H := Unit)) w.heap.size k _ rfl (hown.alloc _) (by unfold maxLen; omega) _ _ _ rfl rfl hkey _ [] unitElem_mk ?_; intro w1 hown1 hgrow1))
        have hrow1 := (hrow.alloc (.cells #[] 36)).kept hgrow1 (Or.inr (row_ne hrow (Nat.lt_succ_self _)).symm)
        have s1 := hgrow1.size
        simp at s1
        have hb1 : Below w.heap.size w w1 := (hnx.alloc hnx.size _).grown hgrow1 (by simp; omega) (fun j hj => by cases hj; exact Nat.le_refl _)
        refine (hC w1).mono ?_
        rintro e w2 ⟨rfl, b2⟩
        have gr2 : w1.grownBy w2 none := ⟨b2.os, b2.tape, b2.output, b2.size, fun k hk _ => b2.block k hk⟩
        have hown2 := hown1.kept gr2 (by simp)
        have hrow2 := own_below hrow1 b2
        have hb2 := hb1.trans (b2.mono (by omega))
        have s2 := b2.size
        clear hown1 hrow1 b2 gr2 hb1 hgrow1
        go_wp2_with (at_builtin; refine wpList_append_own _ rfl _ _ 22 rfl (w.heap.size + 1) 9 i0 (.string ⟨#[]⟩) 1 16 Tryd.underlying22 hi hz0 hz1 hz2 rfl (by decide) _ _ _ rfl (hrow2.alloc _) ⟨w2.heap.size, 0, none⟩ 1 1 [.string x] rfl rfl ?c1 ?c2 ?c3 ?c4 ?c5 ?_)
        case c1 =>
          intro j u hj
          match j, hj with
          | 0, hj => simp at hj; subst hj; simp [Addr.add]
        case c2 => intro u hu; simp at hu; subst hu; rfl
        case c3 => unfold maxLen; omega
        case c4 => omega
        case c5 => simp; omega
        intro v' w3 hown' hgrow2 _
        have s3 := hgrow2.size
        simp at s3
        go_wp2
        go_roundw
        case rel =>
          refine ⟨k + 1, by omega, by go_num, ?_, ?_, ?_, by omega⟩
          · rw [hm2]
            exact (hown2.alloc _).kept hgrow2 (row_ne hrow2 (Nat.lt_succ_self _))
          · rw [hs2]
            simpa using hown'
          · exact (hb2.alloc (by omega) _).grown hgrow2 (by simp; omega) (fun j hj => Nat.le_trans (Nat.le_succ _) (hrow2.lt j hj).1)
        case measure => simp [RowKit.intOf]; omega
    · have hkl : k = ws.length := by omega
      subst hkl
      rw [setTo_all] at hrow
      go_wp2
      go_ret
      exact ⟨_, rfl, Go.Joins.ownsRow_le hrow (by omega), hnx⟩

theorem hasS_step (l : List ByteArray) (x : ByteArray) (k : Nat) (h : k < l.length) : hasS (l.drop k) x = ((l[k].toList == x.toList) || hasS (l.drop (k + 1)) x) := by
  rw [List.drop_eq_getElem_cons h]
  unfold hasS
  rw [List.any_cons, Lib.toList_data, Lib.toList_data]

set_option maxRecDepth 100000 in
set_option maxHeartbeats 1000000 in
theorem has_any (v : Value) (ws : List ByteArray) (x : ByteArray) (w : World) (hr : RdS w v ws) (hn : ws.length ≤ 1099511627776) :
    Calls Tryd.prog 21 #[v, .string x] w fun e w' => e = .returned (.bool (hasS ws x)) ∧ w' = w := by
  obtain ⟨o, cap, rfl, g⟩ := hr
  obtain ⟨R, hR⟩ : ∃ R, hasS ws x = R := ⟨_, rfl⟩
  rw [hR]
  have HR : Hid (hasS (ws.drop 0) x = R) := hR
  clear hR
  go_enter Tryd.func21, Tryd.ntmps21
  go_wp2
  go_loopw [9] (fun i wr => ∃ k : Nat, k ≤ ws.length ∧ i = .int .i64 k ∧ w = wr ∧ Hid (hasS (ws.drop k) x = R)) (fun i _ => ws.length - (RowKit.intOf i).toNat)
  case atStart => exact ⟨0, Nat.zero_le _, rfl, rfl, HR.out⟩
  case round =>
    obtain ⟨k, hk, rfl, rfl, hr⟩ := hrel
    by_cases hlt : k < ws.length
    · obtain ⟨a, rfl, ha, hc⟩ := g (by omega)
      have hx := hc k hlt
      clear hc g
      have hr' := hr.out
      rw [hasS_step ws x k hlt] at hr'
      generalize ws[k] = y at *
      clear hr
      cases hxy : (y.toList == x.toList) with
      | true =>
        rw [hxy, Bool.true_or] at hr'
        subst hr'
        go_wp2
        go_ret
        exact ⟨rfl, rfl⟩
      | false =>
        rw [hxy, Bool.false_or] at hr'
        go_wp2
        go_roundw
        case rel => exact ⟨k + 1, by omega, by go_num, trivial, hr'⟩
        case measure => simp [RowKit.intOf]; omega
    · have hRf : R = false := by rw [← hr.out, List.drop_eq_nil_of_le (by omega)]; rfl
      subst hRf
      clear hr
      go_wp2
      go_ret
      exact ⟨rfl, rfl⟩

theorem own_RdS {w : World} {B n : Nat} {v : Value} {ws : List ByteArray} (h : w.ownsRow B 9 1 v n (ws.map Value.string)) : RdS w v ws := by
  have hl := h.1
  rw [List.length_map, Nat.mul_one] at hl
  rcases h.2 with ⟨hv, h0⟩ | ⟨g, cap, cur, hv, _, hg, hn, hm, hcs, ht⟩
  · exact ⟨none, 0, by rw [hl, h0]; exact hv, fun hp => by omega⟩
  · rw [Nat.mul_one] at hcs ht
    refine ⟨some ⟨g, 0, none⟩, cap, by rw [hl]; exact hv, fun _ => ⟨_, rfl, (Array.getElem?_eq_some_iff.1 hg).1, fun j hj => ?_⟩⟩
    rw [Addr.add_lit, Nat.zero_add, cell_of_heap hg]
    have hj2 : j < n := by omega
    have := congrArg (fun l => l[j]?) ht
    simp only [List.getElem?_take, hj2, if_true, List.getElem?_map, Array.getElem?_toList] at this
    rw [this, List.getElem?_eq_getElem hj]
    rfl

set_option maxRecDepth 100000 in
set_option maxHeartbeats 1000000 in
theorem rset_any (v : Value) (ws : List ByteArray) (w : World) (hr : RdS w v ws) (hn : ws.length ≤ 1099511627776) :
    Calls Tryd.prog 9 #[v] w fun e w' => ∃ v', e = .returned v' ∧ w'.ownsRow w.heap.size 9 1 v' (setS ws).length ((setS ws).map Value.string) ∧ Below w.heap.size w w' := by
  obtain ⟨o, cap, rfl, g⟩ := hr
  obtain ⟨i0, hi, hz0, hz1, hz2⟩ := info_parts Tryd.infoStr
  have HH : Hid (∀ (v : Value) (ws : List ByteArray) (x : ByteArray) (w : World), RdS w v ws → _ → _) := has_any
  go_enter Tryd.func9, Tryd.ntmps9
  go_wp2
  go_loopw [3, 8] (fun v i wr => ∃ k : Nat, k ≤ ws.length ∧ i = .int .i64 k ∧ wr.ownsRow w.heap.size 9 1 v (setTo ws k).length ((setTo ws k).map Value.string) ∧ Below w.heap.size w wr) (fun _ i _ => ws.length - (RowKit.intOf i).toNat)
  case atStart => exact ⟨0, Nat.zero_le _, rfl, World.ownsRow_nil _ _ _ _, Below.refl _ _⟩
  case round =>
    obtain ⟨k, hk, rfl, hrow, hnx⟩ := hrel
    have hsw := hnx.size
    by_cases hlt : k < ws.length
    · obtain ⟨a, rfl, ha, hc⟩ := g (by omega)
      have e1 : (a.add k).block = a.block := by unfold Addr.add; split <;> rfl
      have hx := (hnx.cell (p := a.add k) (by rw [e1]; exact ha)).trans (hc k hlt)
      have hal := setTo_le ws k hk
      have hH := (HH.out _ _ ws[k] wr (own_RdS hrow) (by omega)).mono (fun e w' h => (⟨h.1, h.2.symm⟩ : e = .returned (.bool (hasS (setTo ws k) ws[k])) ∧ wr = w'))
      cases hh : hasS (setTo ws k) ws[k] with
      | true =>
        have hs2 := set_old ws k hlt hh
        rw [hh] at hH
        generalize ws[k] = x at *
        go_wp2_with (go_at_call 21; refine hH.mono ?_; rintro e w' ⟨rfl, rfl⟩)
        go_roundw
        case rel => exact ⟨k + 1, by omega, by go_num, by rw [hs2]; exact hrow, hnx⟩
        case measure => simp [RowKit.intOf]; omega
      | false =>
        have hs2 := set_new ws k hlt hh
        rw [hh] at hH
        generalize ws[k] = x at *
        go_wp2_with (first
          | (go_at_call 21; refine hH.mono ?_; rintro e w' ⟨rfl, rfl⟩)
          | (at_builtin; refine wpList_append_own _ rfl _ _ 22 rfl w.heap.size 9 i0 (.string ⟨#[]⟩) 1 16 Tryd.underlying22 hi hz0 hz1 hz2 rfl (by decide) _ _ _ rfl (hrow.alloc _) ⟨wr.heap.size, 0, none⟩ 1 1 [.string x] rfl rfl ?c1 ?c2 ?c3 ?c4 ?c5 ?_))
        case c1 =>
          intro j u hj
          match j, hj with
          | 0, hj => simp at hj; subst hj; simp [Addr.add]
        case c2 => intro u hu; simp at hu; subst hu; rfl
        case c3 => unfold maxLen; omega
        case c4 => omega
        case c5 => simp; omega
        intro v' w3 hown' hgrow2 _
        go_wp2
        go_roundw
        case rel =>
          refine ⟨k + 1, by omega, by go_num, ?_, ?_⟩
          · rw [hs2]
            simpa using hown'
          · exact (hnx.alloc hnx.size _).grown hgrow2 (by simp; omega) (fun j hj => (hrow.lt j hj).1)
        case measure => simp [RowKit.intOf]; omega
    · have hkl : k = ws.length := by omega
      subst hkl
      rw [setTo_all] at hrow
      go_wp2
      go_ret
      exact ⟨_, rfl, hrow, hnx⟩
end Go.Proofs.YtbefinbihopgfaaDoor
