/- The walk of the reference's Text. -/
import Derived.Test.YtipkdbhdpmkjcaaURef
import Derived.Test.YtipkdbhdpmkjcaaUEnc
import Derived.Deep.AppendLies
import Derived.Deep.RegionLaw
namespace Go.Proofs.Ytipkdbhdpmkjcaa
open Go.RowKit Go.Lib

def runeV (r : Nat) : Value := .int .i32 (r : Int)
theorem Try.infoRune : (Try.prog.info? 21).map (fun i => (i.zero, i.size, i.bytes)) = some (some (.int .i32 0), 1, 4) := by kernel_rfl

theorem runes_back (w : World) (a : Addr) (cap : Nat) (l : List Nat) (h : ∀ r ∈ l, r ≤ 1114111) (hc : ∀ j (hj : j < l.length), w.cell? (a.add j) = some (runeV l[j])) :
    (convert 56 9 (.slice (some a) l.length cap)).run Try.prog w = .ok (.string ⟨(textR l).toArray⟩) w := by
  rw [run_convert_runes_string w 56 9 21 (some a) l.length cap Try.underlying56 Try.underlying21 Try.underlying9]
  have hl := run_loadCells_list (P := Try.prog) w a ((l.map (fun r : Nat => (r : Int))).map (Value.int .i32)) (fun j v hj => by
    have hj' : j < l.length := by
      have := (List.getElem?_eq_some_iff.1 hj).1
      simpa using this
    rw [hc j hj']
    simp [List.getElem?_eq_getElem hj'] at hj
    rw [← hj]
    rfl)
  simp only [List.length_map] at hl
  rw [run_runesToString w a l.length cap _ hl, runesBytes_eq l h]

theorem own_runes {w : World} {B n : Nat} {v : Value} {l : List Nat} (h : w.ownsRow B 21 1 v n (l.map runeV)) (hle : ∀ r ∈ l, r ≤ 1114111) :
    ∃ o cap, v = .slice o n cap ∧ (convert 56 9 (.slice o n cap)).run Try.prog w = .ok (.string ⟨(textR l).toArray⟩) w := by
  have hl := h.1
  rw [List.length_map, Nat.mul_one] at hl
  rcases h.2 with ⟨hv, h0⟩ | ⟨g, cap, cur, hv, _, hg, hn, hm, hcs, ht⟩
  · have : l = [] := List.eq_nil_of_length_eq_zero (by omega)
    subst this
    subst h0
    refine ⟨none, 0, hv, ?_⟩
    rw [run_convert_runes_string w 56 9 21 none 0 0 Try.underlying56 Try.underlying21 Try.underlying9]
    simp [Conv.runesToString, textR, Sem.run_pure]
    rfl
  · rw [Nat.mul_one] at hcs ht
    refine ⟨some ⟨g, 0, none⟩, cap, hv, ?_⟩
    subst hl
    refine runes_back w ⟨g, 0, none⟩ cap l hle fun j hj => ?_
    rw [Addr.add_lit, Nat.zero_add, cell_of_heap hg]
    have := congrArg (fun l => l[j]?) ht
    simp only [List.getElem?_take, hj, if_true, List.getElem?_map, Array.getElem?_toList] at this
    rw [this, List.getElem?_eq_getElem hj]
    rfl

set_option maxRecDepth 100000 in
set_option maxHeartbeats 2000000 in
theorem rtext_some (a : Addr) (cap : Nat) (us : List Nat) (w : World) (ha : a.block < w.heap.size) (hc : CellsU w a us) (hn : us.length ≤ 17592186044416) (hu : ∀ x ∈ us, x < 65536) :
    Calls Try.prog 10 #[.slice (some a) us.length cap] w fun e w' => e = .returned (.tuple #[.string ⟨(textR (txD us).1).toArray⟩, .bool (txD us).2]) ∧ Below w.heap.size w w' := by
  have hle := txD_le us.length us (Nat.le_refl _) hu
  generalize hT : (txD us).1 = TX at *
  generalize hA : (txD us).2 = AL
  have HT : Hid ((txD us).1 = TX) := hT
  have HA : Hid ((txD us).2 = AL) := hA
  clear hT hA
  obtain ⟨i0, hi, hz0, hz1, hz2⟩ := info_parts Try.infoRune
  go_enter Try.func10, Try.ntmps10
  go_wp2
  go_loopw [4, 5, 6] (fun v al i wr => ∃ (k : Nat) (done : List Nat) (b : Bool), k ≤ us.length ∧ i = .int .i64 k ∧ al = .bool b ∧ wr.ownsRow w.heap.size 21 1 v done.length (done.map runeV) ∧ Below w.heap.size w wr ∧ done.length ≤ k ∧
      Hid (done ++ (txD (us.drop k)).1 = TX) ∧ Hid ((b || (txD (us.drop k)).2) = AL)) (fun _ _ i _ => us.length - (RowKit.intOf i).toNat)
  case atStart => exact ⟨0, [], false, Nat.zero_le _, rfl, rfl, World.ownsRow_nil _ _ _ _, Below.refl _ w, by simp, HT.out, by have h := HA.out; show _ = _; rw [Bool.false_or]; exact h⟩
  case round =>
    obtain ⟨k, done, b, hk, rfl, rfl, hown, hbw, hal, htx, hala⟩ := hrel
    have hsw := hbw.size
    by_cases hlt : k < us.length
    · have hcw := (hc.later ha hbw)
      have hx : wr.cell? (a.add k) = some (unitV us[k]) := hcw k hlt
      have hxb := hu us[k] (List.getElem_mem hlt)
      have hd : us.drop k = us[k] :: us.drop (k + 1) := List.drop_eq_getElem_cons hlt
      have hH := (rhigh_any us[k] wr).mono (fun e w' h => (⟨h.1, h.2.symm⟩ : e = .returned (.bool (hiB us[k])) ∧ wr = w'))
      have hL := (rlow_any us[k] wr).mono (fun e w' h => (⟨h.1, h.2.symm⟩ : e = .returned (.bool (loB us[k])) ∧ wr = w'))
      have q0 : (k : Int) < (us.length : Int) := by omega
      by_cases hp : pairB (us.drop k) = true
      · have hk1 : k + 1 < us.length := by
          rw [hd] at hp
          cases hq : us.drop (k + 1) with
          | nil => rw [hq] at hp; cases hp
          | cons y t => have := congrArg List.length hq; simp at this; omega
        have hd2 : us.drop (k + 1) = us[k + 1] :: us.drop (k + 2) := List.drop_eq_getElem_cons hk1
        have hy : wr.cell? (a.add (k + 1)) = some (unitV us[k + 1]) := hcw (k + 1) hk1
        have hyb := hu us[k + 1] (List.getElem_mem hk1)
        have hp2 : hiB us[k] = true ∧ loB us[k + 1] = true := by
          rw [hd, hd2] at hp
          simpa [pairB] using hp
        obtain ⟨hxh, hyl⟩ := hp2
        have hxr : 55296 ≤ us[k] ∧ us[k] < 56320 := by simpa [hiB] using hxh
        have hyr : 56320 ≤ us[k + 1] ∧ us[k + 1] < 57344 := by simpa [loB] using hyl
        have hs2 := txD_pair (us.drop k) us[k] us[k + 1] (us.drop (k + 2)) (by rw [hd, hd2]) hxh hyl
        have htn : Hid ((done ++ [65536 + (us[k] - 55296) * 1024 + (us[k + 1] - 56320)]) ++ (txD (us.drop (k + 2))).1 = TX) := by
          have h := htx.out
          rw [hs2] at h
          show _ = _
          rw [List.append_assoc]
          exact h
        have han : Hid ((b || (txD (us.drop (k + 2))).2) = AL) := by have h := hala.out; rw [hs2] at h; exact h
        have hL2 := (rlow_any us[k + 1] wr).mono (fun e w' h => (⟨h.1, h.2.symm⟩ : e = .returned (.bool (loB us[k + 1])) ∧ wr = w'))
        rw [hxh] at hH
        rw [hyl] at hL2
        have q1 : (k : Int) + 1 < (us.length : Int) := by omega
        generalize us[k] = x at *
        generalize us[k + 1] = y at *
        clear hs2 hd hd2 hp htx hala hxh hyl hL
        unfold unitV at hx hy hH hL2
        rw [Addr.add_succ'] at hy
        go_wp2_with (first
          | (go_at_call 29; refine hH.mono ?_; rintro e w' ⟨rfl, rfl⟩)
          | (go_at_call 30; refine hL2.mono ?_; rintro e w' ⟨rfl, rfl⟩))
        have f1 : IntKind.i32.wrap (x : Int) = x := wraps_i32 _ (by omega) (by omega)
        have f2 : IntKind.i32.wrap ((x : Int) - 55296) = (x : Int) - 55296 := wraps_i32 _ (by omega) (by omega)
        have f3 : IntKind.i32.wrap (((x : Int) - 55296) * 1024) = ((x : Int) - 55296) * 1024 := wraps_i32 _ (by omega) (by omega)
        have f4 : IntKind.i32.wrap (65536 + ((x : Int) - 55296) * 1024) = 65536 + ((x : Int) - 55296) * 1024 := wraps_i32 _ (by omega) (by omega)
        have f5 : IntKind.i32.wrap (y : Int) = y := wraps_i32 _ (by omega) (by omega)
        have f6 : IntKind.i32.wrap (65536 + ((x : Int) - 55296) * 1024 + (y : Int)) = 65536 + ((x : Int) - 55296) * 1024 + (y : Int) := wraps_i32 _ (by omega) (by omega)
        have f7 : IntKind.i32.wrap (65536 + ((x : Int) - 55296) * 1024 + (y : Int) - 56320) = 65536 + ((x : Int) - 55296) * 1024 + (y : Int) - 56320 := wraps_i32 _ (by omega) (by omega)
        have f8 : IntKind.i64.wrap ((k : Int) + 1) = (k : Int) + 1 := by simp [IntKind.wrap, IntKind.signed, IntKind.bits]; omega
        have f9 : 0 ≤ (k : Int) + 1 ∧ (k : Int) + 1 < (us.length : Int) := by omega
        have f10 : ((k : Int) + 1).toNat = k + 1 := by omega
        have f11 : 0 ≤ (k : Int) ∧ (k : Int) < (us.length : Int) := by omega
        obtain ⟨z, hz⟩ : ∃ z, 65536 + (x - 55296) * 1024 + (y - 56320) = z := ⟨_, rfl⟩
        have hzi : 65536 + ((x : Int) - 55296) * 1024 + (y : Int) - 56320 = (z : Int) := by omega
        rw [hz] at htn
        have o3 : Hid (((wr.alloc (.cells #[runeV z] 21)).drew).ownsRow w.heap.size 21 1 u4 done.length (done.map runeV)) := (hown.alloc _).drew
        have n3 : Hid (∀ j u, [runeV z][j]? = some u → ((wr.alloc (.cells #[runeV z] 21)).drew).cell? ((⟨wr.heap.size, 0, none⟩ : Addr).add j) = some u) := fun j u hj => by
          match j, hj with
          | 0, hj => simp at hj; subst hj; simp [Addr.add]
        have e3 : Hid (∀ u ∈ [runeV z], u.oneCell' = true) := fun u hu => by simp at hu; subst hu; rfl
        have m3 : Hid (done.length + 1 ≤ maxLen) := by show _ ≤ _; unfold maxLen; omega
        have b3 : Hid ((done.length + 1) * 4 ≤ 140737488355328) := by show _ ≤ _; omega
        have s3 : Hid (w.heap.size ≤ ((wr.alloc (.cells #[runeV z] 21)).drew).heap.size) := by show _ ≤ _; simp; omega
        have g3 : Hid (∀ w1, ((wr.alloc (.cells #[runeV z] 21)).drew).grownBy w1 u4.ownBlock → Below w.heap.size w w1) := fun w1 hg => ((hbw.alloc hbw.size _).drew).grown hg (by simp; omega) (fun j hj => (hown.lt j hj).1)
        unfold runeV at n3 e3 g3
        have o4 : Hid (((wr.alloc (.cells #[.int .i32 (z : Int)] 21)).drew).ownsRow w.heap.size 21 1 u4 done.length (done.map runeV)) := o3
        rw [hzi] at f7
        go_region_law (refine step_append_lies _ rfl (.tmp 42) (.tmp 59) 56 rfl w.heap.size 21 i0 (.int .i32 0) 1 4 Try.underlying56 hi hz0 hz1 hz2 rfl (by decide) u4 done.length (done.map runeV) (by simp [Act.eval]) o4.out ⟨wr.heap.size, 0, none⟩ 1 1 [.int .i32 (z : Int)] (by simp [Act.eval]) rfl n3.out e3.out (by decide) m3.out b3.out s3.out _ rfl ?_; intro g cp w1 hown1 hgrow1 _ _)
        all_goals
          go_wp2
          go_roundw
          case rel => exact ⟨k + 2, done ++ [z], b, by omega, by go_num, rfl, by simpa [runeV] using hown1, g3.out _ hgrow1, by simp; omega, htn, han⟩
          case measure => simp [RowKit.intOf]; omega
      · have hpf : Hid (¬ (hiB us[k] = true ∧ ∃ h : k + 1 < us.length, loB us[k + 1] = true)) := fun ⟨h1, h2, h3⟩ => hp (by
          rw [hd, List.drop_eq_getElem_cons h2]
          simp [pairB, h1, h3])
        by_cases ho : (hiB us[k] || loB us[k]) = true
        · have hs2 := txD_alone _ us[k] (us.drop (k + 1)) hd hp ho
          have htn : Hid ((done ++ [65533]) ++ (txD (us.drop (k + 1))).1 = TX) := by
            have h := htx.out
            rw [hs2] at h
            show _ = _
            rw [List.append_assoc]
            exact h
          have han : Hid ((true || (txD (us.drop (k + 1))).2) = AL) := by have h := hala.out; rw [hs2, Bool.or_true] at h; show _ = _; rw [Bool.true_or]; exact h
          clear hs2 hd hp htx hala
          cases hh : hiB us[k] with
          | true =>
            rw [hh] at hH
            by_cases hk1 : k + 1 < us.length
            · have hy : wr.cell? (a.add (k + 1)) = some (unitV us[k + 1]) := hcw (k + 1) hk1
              have hL2 := (rlow_any us[k + 1] wr).mono (fun e w' h => (⟨h.1, h.2.symm⟩ : e = .returned (.bool (loB us[k + 1])) ∧ wr = w'))
              have hlf : loB us[k + 1] = false := by
                cases e : loB us[k + 1] with
                | false => rfl
                | true => exact absurd ⟨hh, hk1, e⟩ hpf.out
              rw [hlf] at hL2
              have q1 : (k : Int) + 1 < (us.length : Int) := by omega
              generalize us[k] = x at *
              generalize us[k + 1] = y at *
              unfold unitV at hx hy hH hL2
              rw [Addr.add_succ'] at hy
              clear hL hpf hlf hh ho
              go_wp2_with (first
                | (go_at_call 29; refine hH.mono ?_; rintro e w' ⟨rfl, rfl⟩)
                | (go_at_call 30; refine hL2.mono ?_; rintro e w' ⟨rfl, rfl⟩)
                | (at_builtin; refine wpList_append_own _ rfl _ _ 56 rfl w.heap.size 21 i0 (.int .i32 0) 1 4 Try.underlying56 hi hz0 hz1 hz2 rfl (by decide) _ _ _ rfl (hown.alloc _) ⟨wr.heap.size, 0, none⟩ 1 1 [runeV 65533] rfl rfl ?c1 ?c2 ?c3 ?c4 ?c5 ?_))
              case c1 =>
                intro j u hj
                match j, hj with
                | 0, hj => simp at hj; subst hj; simp [Addr.add, runeV]
              case c2 => intro u hu; simp at hu; subst hu; rfl
              case c3 => unfold maxLen; omega
              case c4 => omega
              case c5 => simp; omega
              intro v' w1 hown' hgrow _
              have hb1 : Below w.heap.size w w1 := (hbw.alloc hbw.size _).grown hgrow (by simp; omega) (fun j hj => (hown.lt j hj).1)
              go_wp2
              go_roundw
              case rel => exact ⟨k + 1, done ++ [65533], true, by omega, by go_num, rfl, by simpa using hown', hb1, by simp; omega, htn, han⟩
              case measure => simp [RowKit.intOf]; omega
            · have q1 : ¬ (k : Int) + 1 < (us.length : Int) := by omega
              generalize us[k] = x at *
              unfold unitV at hx hH
              clear hL hpf hh ho
              go_wp2_with (first
                | (go_at_call 29; refine hH.mono ?_; rintro e w' ⟨rfl, rfl⟩)
                | (at_builtin; refine wpList_append_own _ rfl _ _ 56 rfl w.heap.size 21 i0 (.int .i32 0) 1 4 Try.underlying56 hi hz0 hz1 hz2 rfl (by decide) _ _ _ rfl (hown.alloc _) ⟨wr.heap.size, 0, none⟩ 1 1 [runeV 65533] rfl rfl ?c1 ?c2 ?c3 ?c4 ?c5 ?_))
              case c1 =>
                intro j u hj
                match j, hj with
                | 0, hj => simp at hj; subst hj; simp [Addr.add, runeV]
              case c2 => intro u hu; simp at hu; subst hu; rfl
              case c3 => unfold maxLen; omega
              case c4 => omega
              case c5 => simp; omega
              intro v' w1 hown' hgrow _
              have hb1 : Below w.heap.size w w1 := (hbw.alloc hbw.size _).grown hgrow (by simp; omega) (fun j hj => (hown.lt j hj).1)
              go_wp2
              go_roundw
              case rel => exact ⟨k + 1, done ++ [65533], true, by omega, by go_num, rfl, by simpa using hown', hb1, by simp; omega, htn, han⟩
              case measure => simp [RowKit.intOf]; omega
          | false =>
            rw [hh] at hH ho
            rw [show loB us[k] = true by simpa using ho] at hL
            generalize us[k] = x at *
            unfold unitV at hx hH hL
            clear hpf hh ho
            go_wp2_with (first
              | (go_at_call 29; refine hH.mono ?_; rintro e w' ⟨rfl, rfl⟩)
              | (go_at_call 30; refine hL.mono ?_; rintro e w' ⟨rfl, rfl⟩)
              | (at_builtin; refine wpList_append_own _ rfl _ _ 56 rfl w.heap.size 21 i0 (.int .i32 0) 1 4 Try.underlying56 hi hz0 hz1 hz2 rfl (by decide) _ _ _ rfl (hown.alloc _) ⟨wr.heap.size, 0, none⟩ 1 1 [runeV 65533] rfl rfl ?c1 ?c2 ?c3 ?c4 ?c5 ?_))
            case c1 =>
              intro j u hj
              match j, hj with
              | 0, hj => simp at hj; subst hj; simp [Addr.add, runeV]
            case c2 => intro u hu; simp at hu; subst hu; rfl
            case c3 => unfold maxLen; omega
            case c4 => omega
            case c5 => simp; omega
            intro v' w1 hown' hgrow _
            have hb1 : Below w.heap.size w w1 := (hbw.alloc hbw.size _).grown hgrow (by simp; omega) (fun j hj => (hown.lt j hj).1)
            go_wp2
            go_roundw
            case rel => exact ⟨k + 1, done ++ [65533], true, by omega, by go_num, rfl, by simpa using hown', hb1, by simp; omega, htn, han⟩
            case measure => simp [RowKit.intOf]; omega
        · have ho' : (hiB us[k] || loB us[k]) = false := by simpa using ho
          have hs2 := txD_plain _ us[k] (us.drop (k + 1)) hd hp ho'
          have htn : Hid ((done ++ [us[k]]) ++ (txD (us.drop (k + 1))).1 = TX) := by
            have h := htx.out
            rw [hs2] at h
            show _ = _
            rw [List.append_assoc]
            exact h
          have han : Hid ((b || (txD (us.drop (k + 1))).2) = AL) := by have h := hala.out; rw [hs2] at h; exact h
          simp only [Bool.or_eq_false_iff] at ho'
          rw [ho'.1] at hH
          rw [ho'.2] at hL
          generalize us[k] = x at *
          unfold unitV at hx hH hL
          clear hpf ho hs2 hd hp htx hala ho'
          go_wp2_with (first
            | (go_at_call 29; refine hH.mono ?_; rintro e w' ⟨rfl, rfl⟩)
            | (go_at_call 30; refine hL.mono ?_; rintro e w' ⟨rfl, rfl⟩)
            | (at_builtin; refine wpList_append_own _ rfl _ _ 56 rfl w.heap.size 21 i0 (.int .i32 0) 1 4 Try.underlying56 hi hz0 hz1 hz2 rfl (by decide) _ _ _ rfl (hown.alloc _) ⟨wr.heap.size, 0, none⟩ 1 1 [runeV x] rfl rfl ?c1 ?c2 ?c3 ?c4 ?c5 ?_))
          case c1 =>
            intro j u hj
            match j, hj with
            | 0, hj => simp at hj; subst hj; simp [Addr.add, runeV]
          case c2 => intro u hu; simp at hu; subst hu; rfl
          case c3 => unfold maxLen; omega
          case c4 => omega
          case c5 => simp; omega
          intro v' w1 hown' hgrow _
          have hb1 : Below w.heap.size w w1 := (hbw.alloc hbw.size _).grown hgrow (by simp; omega) (fun j hj => (hown.lt j hj).1)
          go_wp2
          go_roundw
          case rel => exact ⟨k + 1, done ++ [x], b, by omega, by go_num, rfl, by simpa using hown', hb1, by simp; omega, htn, han⟩
          case measure => simp [RowKit.intOf]; omega
    · have hnil : us.drop k = [] := List.drop_eq_nil_of_le (by omega)
      have q0 : ¬ (k : Int) < (us.length : Int) := by omega
      have e1 : TX = done := by rw [← htx.out, hnil]; simp [txD_nil]
      have e2 : AL = b := by rw [← hala.out, hnil]; simp [txD_nil]
      subst e1 e2
      clear htx hala hnil HT HA
      obtain ⟨o, cc, rfl, hconv⟩ := own_runes hown hle
      go_wp2
      go_ret2
      exact ⟨rfl, hbw⟩
end Go.Proofs.Ytipkdbhdpmkjcaa
