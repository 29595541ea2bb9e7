/- iterate: the first node that a filter accepts, of those that a step leads to (first, of judge.accepts). -/
/- iterate: the steps of an iterator, as they are handed on (Next$1, Prev$1). -/
/- iterate: an iterator that goes on (moved, by Next's step). -/
/- iterate: Next. -/
/- iterate: an iterator that goes on (moved, by Prev's step). -/
/- iterate: Prev. -/
/- iterate: what Next has told Prev tells at once behind it, and the other way round: plain. -/
/- iterate: Next and Prev of an iterator that is not right. -/
/- The small forest of the statements of iterate. -/
/- What the statements of iterate ask first (begins). -/
import Derived.Test.YticenjhhefiboaaGreatFFIt0FSkipH
import Derived.Test.YticenjhhefiboaaGreatFFWkGFItR
import Derived.Test.YticenjhhefiboaaGreatFFRMade
namespace Go.Proofs.YticenjhhefiboaaGreat
open Go.RowKit Go.Lib Go.Shelf
attribute [local go_sem] Oper.semAt_some

set_option maxRecDepth 100000 in
set_option maxHeartbeats 4000000 in
theorem firstNA_any (bh bs bf bi : Nat) (jv : Value) (x : Int) (f : Int → Int) (L : Int → List Int) (I : Int → Prop) (q : Int → Bool) (w : World) (hbh : bh < w.heap.size) (hbs : bs < w.heap.size)
    (hS : ∀ (y : Int) (V : World), I y → Below w.heap.size w V → Calls Tryz.prog 31 #[.int .i64 y, .pointer (some ⟨bf, 0, none⟩), .pointer (some ⟨bi, 0, none⟩)] V fun e w' => e = .returned (.int .i64 (f y)) ∧ Below V.heap.size V w')
    (hT : ∀ (y : Int) (V : World), I y → Below w.heap.size w V → Calls Tryz.prog 60 #[jv, .int .i64 y] V fun e w' => e = .returned (.bool (q y)) ∧ Below V.heap.size V w')
    (hG : ∀ y, I y → f y = 0 ∨ I (f y)) (hL : ∀ y, I y → L y = restL L (f y)) (hI0 : ∀ y, I y → y ≠ 0)
    (ch : w.cell? ⟨bh, 0, none⟩ = some (.int .i64 x)) (cs : w.cell? ⟨bs, 0, none⟩ = some (.func (.func 31) #[] #[.pointer (some ⟨bf, 0, none⟩), .pointer (some ⟨bi, 0, none⟩)])) (hx : x = 0 ∨ I x) :
    Calls Tryz.prog 58 #[.func (.func 85) #[] #[.pointer (some ⟨bh, 0, none⟩), .pointer (some ⟨bs, 0, none⟩)], .func (.func 60) #[jv] #[]] w fun e w' => e = .returned (.int .i64 (firstB q (restL L x))) ∧ Below w.heap.size w w' := by
  refine (callsIn_wide (n := 6)).1 ?_
  refine callsIn_of_wp_marks Tryz.func58 rfl trivial ?_ rfl
  simp only [Tryz.ntmps58, List.size_toArray, List.length_cons, List.length_nil, Nat.reduceAdd, Nat.reduceSub, Array.replicate_succ, Array.replicate_zero, List.push_toArray, List.append_toArray, List.nil_append, List.cons_append]
  have HT := hid hT
  have eg : ∀ args w, (callFunc 60 args).run Tryz.prog w = .ok (.enter 60 args) w := enters_of Tryz.func60 (by kernel_rfl) rfl
  clear hT
  gi_wp2
  have c0 := new_cell_l w (.func (.func 60) #[jv] #[]) 93
  have c1 := new_cell_l (w.alloc (.cells #[.func (.func 60) #[jv] #[]] 93)) (.int .i64 0) 3
  simp only [World.size_alloc] at c1
  have hB0 : Below w.heap.size w ((w.alloc (.cells #[.func (.func 60) #[jv] #[]] 93)).alloc (.cells #[.int .i64 0] 3)) := ((Below.refl _ w).alloc (Nat.le_refl _) _).alloc (by simp) _
  have hsV : ((w.alloc (.cells #[.func (.func 60) #[jv] #[]] 93)).alloc (.cells #[.int .i64 0] 3)).heap.size = w.heap.size + 1 + 1 := by simp
  refine wpIn_rangeFunc_ownF (α := { z : Int // I z }) rfl (by omega) (gf := 85) (lb := #[.pointer (some ⟨bh, 0, none⟩), .pointer (some ⟨bs, 0, none⟩)]) rfl trivial (enters_of Tryz.func85 (by kernel_rfl) rfl)
    (fromN_stops (6 - 1) bh bs w.heap.size bf bi (by omega) x f L I _ (by rw [hsV]; omega) hbh hbs (fun y V hy hV => hS y V hy (hB0.trans (hV.mono (Nat.le_refl _)))) hG hL hI0 ((hB0.cell (p := ⟨bh, 0, none⟩) hbh).trans ch) ((hB0.cell (p := ⟨bs, 0, none⟩) hbs).trans cs) hx) belowK_t (belowK_b (by rw [hsV]; omega)) (Below.refl _ _) (fun _ => rfl)
    (fun pre W => ((∀ y ∈ pre, q y.1 = false) ∧ W.cell? ⟨w.heap.size, 0, none⟩ = some (.func (.func 60) #[jv] #[]) ∧ W.cell? ⟨w.heap.size + 1, 0, none⟩ = some (.int .i64 0) ∧ W.frozen? ⟨w.heap.size + 1, 0, none⟩ = false ∧ w.heap.size ≤ W.heap.size) ∧ Below w.heap.size w W)
    (fun c pre W => (c = .ret ∧ ∃ (p0 : List { z : Int // I z }) (z : { z : Int // I z }), pre = p0 ++ [z] ∧ (∀ y ∈ p0, q y.1 = false) ∧ q z.1 = true ∧ W.cell? ⟨w.heap.size + 1, 0, none⟩ = some (.int .i64 z.1)) ∧ Below w.heap.size w W)
    (OwnFrom.and (Own.from (fun s A B row hs hg hr => ⟨hs.1, cell_kept hs.2.1 hg hr, cell_kept hs.2.2.1 hg hr, (frozen_kept hs.2.2.1 hg hr).trans hs.2.2.2.1, Nat.le_trans hs.2.2.2.2 hg.size⟩) _) (ownFrom_below (Nat.le_refl _) (by rw [hsV]; omega)))
    (fun c => OwnFrom.and (Own.from (fun s A B row hs hg hr => by
      obtain ⟨h1, p0, z, h2, h3, h4, h5⟩ := hs
      exact ⟨h1, p0, z, h2, h3, h4, cell_kept h5 hg hr⟩) _) (ownFrom_below (Nat.le_refl _) (by rw [hsV]; omega)))
    ⟨⟨by simp, keep_cell_l _ c0.1, c1.1, c1.2, by rw [hsV]; omega⟩, hB0⟩
    (fun z => { tmps := #[.func (.func 85) #[] #[.pointer (some ⟨bh, 0, none⟩), .pointer (some ⟨bs, 0, none⟩)], .func (.func 60) #[jv] #[], undef, .pointer (some ⟨w.heap.size, 0, none⟩), .pointer (some ⟨w.heap.size + 1, 0, none⟩), .int .i64 z.1, .func (.func 85) #[] #[.pointer (some ⟨bh, 0, none⟩), .pointer (some ⟨bs, 0, none⟩)], .int .i64 z.1, undef, undef, undef, undef], defers := [] }) ?assign ?body ?done ?stop
  case assign =>
    intro l z W K hK
    gi_wp2
    exact hK
  case body =>
    rintro l pre z W ⟨⟨hp, hcf, hcr, hfr, hsz⟩, hB⟩ _
    have hTz := HT.out z.1 W z.2 hB
    have HB := hid hB
    clear hB
    gi_wp2
    refine ⟨trivial, (callsIn_wide.2 hTz).mono ?_⟩
    rintro e v3 ⟨rfl, hb3⟩
    have hcf3 := cell_kept hcf (grown_of_below hb3) (fun r e => by cases e)
    have hcr3 := cell_kept hcr (grown_of_below hb3) (fun r e => by cases e)
    have hfr3 := (frozen_kept hcr (grown_of_below hb3) (fun r e => by cases e)).trans hfr
    have HB3' := hid (HB.out.trans (hb3.mono HB.out.size))
    have hko : KeepsOthers W v3 := KeepsOthers.of_grownBy (grown_of_below hb3) (fun j o ej _ => by cases ej)
    clear hTz
    cases hz : q z.1 with
    | false =>
      gi_wp2
      refine ⟨hko, hb3.mono hsz, ⟨fun y hy => ?_, hcf3, hcr3, hfr3, Nat.le_trans hsz hb3.size⟩, HB3'.out⟩
      rcases List.mem_append.1 hy with a | a
      · exact hp y a
      · rw [List.mem_singleton.1 a]; exact hz
    | true =>
      gi_wp2
      exact ⟨hko.trans (KeepsOthers.setCell _ _ _), ⟨rfl, pre, z, rfl, hp, hz, World.cell?_setCell_same' _ _ _ (by rw [hcr3]; rfl)⟩, HB3'.out.setCell (p := ⟨w.heap.size + 1, 0, none⟩) (Nat.le_succ _) _⟩
  case done =>
    rintro D ys W hD hys ⟨⟨hp, _, hcr, hfr, _⟩, hB⟩ hK
    have hf0 : firstB q (restL L x) = 0 := by
      rw [← hys]
      refine firstB_none _ _ (fun y hy => ?_)
      obtain ⟨u, hu, rfl⟩ := List.mem_map.1 hy
      exact hp u hu
    gi_wp2
    have hK' := (KeepsOthers.setCell W ⟨w.heap.size + 1, 0, none⟩ (.int .i64 0)).same D _ hK rfl
    refine ⟨by simp, .inl ⟨_, _, rfl, run_takeDeferred hK', ?_⟩⟩
    have hc5 := cell_kept (World.cell?_setCell_same' W ⟨w.heap.size + 1, 0, none⟩ (.int .i64 0) (by rw [hcr]; rfl)) (grownBy_putObj' _ D (.deferred none)) (fun r e => by cases e; exact ⟨_, hK', rfl⟩)
    refine ⟨.int .i64 0, ?_, by rw [hf0], (hB.setCell (p := ⟨w.heap.size + 1, 0, none⟩) (Nat.le_succ _) _).trans (belowK_b (w := w) (Nat.le_refl _) _ D _ _ (by rw [hsV] at hD; omega) hK' rfl rfl)⟩
    simp [results, Tryz.f58, go_sem, hc5]
  case stop =>
    rintro D c pre W hD hpre ⟨⟨rfl, p0, z, rfl, hp, hz, hcr⟩, hB⟩ hK
    have hf0 : firstB q (restL L x) = z.1 := by
      obtain ⟨t, ht⟩ := hpre
      rw [← ht, List.map_append, List.append_assoc]
      refine firstB_prefix _ _ _ _ (fun y hy => ?_) hz
      obtain ⟨u, hu, rfl⟩ := List.mem_map.1 hy
      exact hp u hu
    gi_wp2
    refine ⟨by simp, .inl ⟨_, _, rfl, run_takeDeferred hK, ?_⟩⟩
    have hc5 := cell_kept hcr (grownBy_putObj' _ D (.deferred none)) (fun r e => by cases e; exact ⟨_, hK, rfl⟩)
    refine ⟨.int .i64 z.1, ?_, by rw [hf0], hB.trans (belowK_b (w := w) (Nat.le_refl _) W D _ _ (by rw [hsV] at hD; omega) hK rfl rfl)⟩
    simp [results, Tryz.f58, go_sem, hc5]

set_option maxRecDepth 100000 in
set_option maxHeartbeats 4000000 in
theorem firstPA_any (bh bs bf bi : Nat) (jv : Value) (x : Int) (f : Int → Int) (L : Int → List Int) (I : Int → Prop) (q : Int → Bool) (w : World) (hbh : bh < w.heap.size) (hbs : bs < w.heap.size)
    (hS : ∀ (y : Int) (V : World), I y → Below w.heap.size w V → Calls Tryz.prog 36 #[.int .i64 y, .pointer (some ⟨bf, 0, none⟩), .pointer (some ⟨bi, 0, none⟩)] V fun e w' => e = .returned (.int .i64 (f y)) ∧ Below V.heap.size V w')
    (hT : ∀ (y : Int) (V : World), I y → Below w.heap.size w V → Calls Tryz.prog 60 #[jv, .int .i64 y] V fun e w' => e = .returned (.bool (q y)) ∧ Below V.heap.size V w')
    (hG : ∀ y, I y → f y = 0 ∨ I (f y)) (hL : ∀ y, I y → L y = restL L (f y)) (hI0 : ∀ y, I y → y ≠ 0)
    (ch : w.cell? ⟨bh, 0, none⟩ = some (.int .i64 x)) (cs : w.cell? ⟨bs, 0, none⟩ = some (.func (.func 36) #[] #[.pointer (some ⟨bf, 0, none⟩), .pointer (some ⟨bi, 0, none⟩)])) (hx : x = 0 ∨ I x) :
    Calls Tryz.prog 58 #[.func (.func 85) #[] #[.pointer (some ⟨bh, 0, none⟩), .pointer (some ⟨bs, 0, none⟩)], .func (.func 60) #[jv] #[]] w fun e w' => e = .returned (.int .i64 (firstB q (restL L x))) ∧ Below w.heap.size w w' := by
  refine (callsIn_wide (n := 6)).1 ?_
  refine callsIn_of_wp_marks Tryz.func58 rfl trivial ?_ rfl
  simp only [Tryz.ntmps58, List.size_toArray, List.length_cons, List.length_nil, Nat.reduceAdd, Nat.reduceSub, Array.replicate_succ, Array.replicate_zero, List.push_toArray, List.append_toArray, List.nil_append, List.cons_append]
  have HT := hid hT
  have eg : ∀ args w, (callFunc 60 args).run Tryz.prog w = .ok (.enter 60 args) w := enters_of Tryz.func60 (by kernel_rfl) rfl
  clear hT
  gi_wp2
  have c0 := new_cell_l w (.func (.func 60) #[jv] #[]) 93
  have c1 := new_cell_l (w.alloc (.cells #[.func (.func 60) #[jv] #[]] 93)) (.int .i64 0) 3
  simp only [World.size_alloc] at c1
  have hB0 : Below w.heap.size w ((w.alloc (.cells #[.func (.func 60) #[jv] #[]] 93)).alloc (.cells #[.int .i64 0] 3)) := ((Below.refl _ w).alloc (Nat.le_refl _) _).alloc (by simp) _
  have hsV : ((w.alloc (.cells #[.func (.func 60) #[jv] #[]] 93)).alloc (.cells #[.int .i64 0] 3)).heap.size = w.heap.size + 1 + 1 := by simp
  refine wpIn_rangeFunc_ownF (α := { z : Int // I z }) rfl (by omega) (gf := 85) (lb := #[.pointer (some ⟨bh, 0, none⟩), .pointer (some ⟨bs, 0, none⟩)]) rfl trivial (enters_of Tryz.func85 (by kernel_rfl) rfl)
    (fromP_stops (6 - 1) bh bs w.heap.size bf bi (by omega) x f L I _ (by rw [hsV]; omega) hbh hbs (fun y V hy hV => hS y V hy (hB0.trans (hV.mono (Nat.le_refl _)))) hG hL hI0 ((hB0.cell (p := ⟨bh, 0, none⟩) hbh).trans ch) ((hB0.cell (p := ⟨bs, 0, none⟩) hbs).trans cs) hx) belowK_t (belowK_b (by rw [hsV]; omega)) (Below.refl _ _) (fun _ => rfl)
    (fun pre W => ((∀ y ∈ pre, q y.1 = false) ∧ W.cell? ⟨w.heap.size, 0, none⟩ = some (.func (.func 60) #[jv] #[]) ∧ W.cell? ⟨w.heap.size + 1, 0, none⟩ = some (.int .i64 0) ∧ W.frozen? ⟨w.heap.size + 1, 0, none⟩ = false ∧ w.heap.size ≤ W.heap.size) ∧ Below w.heap.size w W)
    (fun c pre W => (c = .ret ∧ ∃ (p0 : List { z : Int // I z }) (z : { z : Int // I z }), pre = p0 ++ [z] ∧ (∀ y ∈ p0, q y.1 = false) ∧ q z.1 = true ∧ W.cell? ⟨w.heap.size + 1, 0, none⟩ = some (.int .i64 z.1)) ∧ Below w.heap.size w W)
    (OwnFrom.and (Own.from (fun s A B row hs hg hr => ⟨hs.1, cell_kept hs.2.1 hg hr, cell_kept hs.2.2.1 hg hr, (frozen_kept hs.2.2.1 hg hr).trans hs.2.2.2.1, Nat.le_trans hs.2.2.2.2 hg.size⟩) _) (ownFrom_below (Nat.le_refl _) (by rw [hsV]; omega)))
    (fun c => OwnFrom.and (Own.from (fun s A B row hs hg hr => by
      obtain ⟨h1, p0, z, h2, h3, h4, h5⟩ := hs
      exact ⟨h1, p0, z, h2, h3, h4, cell_kept h5 hg hr⟩) _) (ownFrom_below (Nat.le_refl _) (by rw [hsV]; omega)))
    ⟨⟨by simp, keep_cell_l _ c0.1, c1.1, c1.2, by rw [hsV]; omega⟩, hB0⟩
    (fun z => { tmps := #[.func (.func 85) #[] #[.pointer (some ⟨bh, 0, none⟩), .pointer (some ⟨bs, 0, none⟩)], .func (.func 60) #[jv] #[], undef, .pointer (some ⟨w.heap.size, 0, none⟩), .pointer (some ⟨w.heap.size + 1, 0, none⟩), .int .i64 z.1, .func (.func 85) #[] #[.pointer (some ⟨bh, 0, none⟩), .pointer (some ⟨bs, 0, none⟩)], .int .i64 z.1, undef, undef, undef, undef], defers := [] }) ?assign ?body ?done ?stop
  case assign =>
    intro l z W K hK
    gi_wp2
    exact hK
  case body =>
    rintro l pre z W ⟨⟨hp, hcf, hcr, hfr, hsz⟩, hB⟩ _
    have hTz := HT.out z.1 W z.2 hB
    have HB := hid hB
    clear hB
    gi_wp2
    refine ⟨trivial, (callsIn_wide.2 hTz).mono ?_⟩
    rintro e v3 ⟨rfl, hb3⟩
    have hcf3 := cell_kept hcf (grown_of_below hb3) (fun r e => by cases e)
    have hcr3 := cell_kept hcr (grown_of_below hb3) (fun r e => by cases e)
    have hfr3 := (frozen_kept hcr (grown_of_below hb3) (fun r e => by cases e)).trans hfr
    have HB3' := hid (HB.out.trans (hb3.mono HB.out.size))
    have hko : KeepsOthers W v3 := KeepsOthers.of_grownBy (grown_of_below hb3) (fun j o ej _ => by cases ej)
    clear hTz
    cases hz : q z.1 with
    | false =>
      gi_wp2
      refine ⟨hko, hb3.mono hsz, ⟨fun y hy => ?_, hcf3, hcr3, hfr3, Nat.le_trans hsz hb3.size⟩, HB3'.out⟩
      rcases List.mem_append.1 hy with a | a
      · exact hp y a
      · rw [List.mem_singleton.1 a]; exact hz
    | true =>
      gi_wp2
      exact ⟨hko.trans (KeepsOthers.setCell _ _ _), ⟨rfl, pre, z, rfl, hp, hz, World.cell?_setCell_same' _ _ _ (by rw [hcr3]; rfl)⟩, HB3'.out.setCell (p := ⟨w.heap.size + 1, 0, none⟩) (Nat.le_succ _) _⟩
  case done =>
    rintro D ys W hD hys ⟨⟨hp, _, hcr, hfr, _⟩, hB⟩ hK
    have hf0 : firstB q (restL L x) = 0 := by
      rw [← hys]
      refine firstB_none _ _ (fun y hy => ?_)
      obtain ⟨u, hu, rfl⟩ := List.mem_map.1 hy
      exact hp u hu
    gi_wp2
    have hK' := (KeepsOthers.setCell W ⟨w.heap.size + 1, 0, none⟩ (.int .i64 0)).same D _ hK rfl
    refine ⟨by simp, .inl ⟨_, _, rfl, run_takeDeferred hK', ?_⟩⟩
    have hc5 := cell_kept (World.cell?_setCell_same' W ⟨w.heap.size + 1, 0, none⟩ (.int .i64 0) (by rw [hcr]; rfl)) (grownBy_putObj' _ D (.deferred none)) (fun r e => by cases e; exact ⟨_, hK', rfl⟩)
    refine ⟨.int .i64 0, ?_, by rw [hf0], (hB.setCell (p := ⟨w.heap.size + 1, 0, none⟩) (Nat.le_succ _) _).trans (belowK_b (w := w) (Nat.le_refl _) _ D _ _ (by rw [hsV] at hD; omega) hK' rfl rfl)⟩
    simp [results, Tryz.f58, go_sem, hc5]
  case stop =>
    rintro D c pre W hD hpre ⟨⟨rfl, p0, z, rfl, hp, hz, hcr⟩, hB⟩ hK
    have hf0 : firstB q (restL L x) = z.1 := by
      obtain ⟨t, ht⟩ := hpre
      rw [← ht, List.map_append, List.append_assoc]
      refine firstB_prefix _ _ _ _ (fun y hy => ?_) hz
      obtain ⟨u, hu, rfl⟩ := List.mem_map.1 hy
      exact hp u hu
    gi_wp2
    refine ⟨by simp, .inl ⟨_, _, rfl, run_takeDeferred hK, ?_⟩⟩
    have hc5 := cell_kept hcr (grownBy_putObj' _ D (.deferred none)) (fun r e => by cases e; exact ⟨_, hK, rfl⟩)
    refine ⟨.int .i64 z.1, ?_, by rw [hf0], hB.trans (belowK_b (w := w) (Nat.le_refl _) W D _ _ (by rw [hsV] at hD; omega) hK rfl rfl)⟩
    simp [results, Tryz.f58, go_sem, hc5]
end Go.Proofs.YticenjhhefiboaaGreat

namespace Go.Proofs.YticenjhhefiboaaGreat
open Go.RowKit Go.Lib Go.Shelf

set_option maxRecDepth 100000 in
set_option maxHeartbeats 2000000 in
theorem next1_any (b off cap bf bi : Nat) (root x : Int) (ns : List NodeD) (w : World) (hR : RightF ns) (hF : FAt w b off cap ns) (hr : thereB ns.length root = true) (hx : thereB ns.length x = true)
    (cf : w.cell? ⟨bf, 0, none⟩ = some (.slice (some ⟨b, off, none⟩) ns.length cap)) (ci : w.cell? ⟨bi, 0, none⟩ = some (.int .i64 root)) :
    Calls Tryz.prog 31 #[.int .i64 x, .pointer (some ⟨bf, 0, none⟩), .pointer (some ⟨bi, 0, none⟩)] w fun e w' => e = .returned (.int .i64 (behindN ns root x)) ∧ Below w.heap.size w w' := by
  have hI := ibehind_any b off cap root x ns w hR hF hr hx
  clear hR hF
  go_enter Tryz.func31, Tryz.ntmps31
  go_wp2_with fail
  refine hI.mono ?_
  rintro e v1 ⟨rfl, hb⟩
  clear hI
  go_wp2
  go_ret
  exact ⟨rfl, hb⟩
set_option maxRecDepth 100000 in
set_option maxHeartbeats 2000000 in
theorem prev1_any (b off cap bf bi : Nat) (root x : Int) (ns : List NodeD) (w : World) (hR : RightF ns) (hF : FAt w b off cap ns) (hx : thereB ns.length x = true)
    (cf : w.cell? ⟨bf, 0, none⟩ = some (.slice (some ⟨b, off, none⟩) ns.length cap)) (ci : w.cell? ⟨bi, 0, none⟩ = some (.int .i64 root)) :
    Calls Tryz.prog 36 #[.int .i64 x, .pointer (some ⟨bf, 0, none⟩), .pointer (some ⟨bi, 0, none⟩)] w fun e w' => e = .returned (.int .i64 (aheadN ns root x)) ∧ Below w.heap.size w w' := by
  have hI := iahead_any b off cap root x ns w hR hF hx
  rw [aheadC_eq] at hI
  clear hR hF
  go_enter Tryz.func36, Tryz.ntmps36
  go_wp2_with fail
  refine hI.mono ?_
  rintro e v1 ⟨rfl, hb⟩
  clear hI
  go_wp2
  go_ret
  exact ⟨rfl, hb⟩
end Go.Proofs.YticenjhhefiboaaGreat

namespace Go.Proofs.YticenjhhefiboaaGreat
open Go.RowKit Go.Lib Go.Shelf

theorem five_set {V : World} {B : Nat} {a b c d e : Value} {t : TypeId} (h : V.heap[B]? = some (.cells #[a, b, c, d, e] t)) (a' b' c' d' e' : Value) : (((((V.setCell ⟨B, 0, none⟩ a').setCell ⟨B, 1, none⟩ b').setCell ⟨B, 2, none⟩ c').setCell ⟨B, 3, none⟩ d').setCell ⟨B, 4, none⟩ e').heap[B]? = some (.cells #[a', b', c', d', e'] t) :=
  heap_setCell_same _ B 4 _ _ e' (heap_setCell_same _ B 3 _ _ d' (heap_setCell_same _ B 2 _ _ c' (heap_setCell_same _ B 1 _ _ b' (heap_setCell_same _ B 0 _ _ a' h))))
theorem five_other {V : World} {B k : Nat} (hne : k ≠ B) (a b c d e : Value) : (((((V.setCell ⟨B, 0, none⟩ a).setCell ⟨B, 1, none⟩ b).setCell ⟨B, 2, none⟩ c).setCell ⟨B, 3, none⟩ d).setCell ⟨B, 4, none⟩ e).heap[k]? = V.heap[k]? := by
  rw [Below.heap_setCell _ ⟨B, 4, none⟩ _ k hne, Below.heap_setCell _ ⟨B, 3, none⟩ _ k hne, Below.heap_setCell _ ⟨B, 2, none⟩ _ k hne, Below.heap_setCell _ ⟨B, 1, none⟩ _ k hne, Below.heap_setCell _ ⟨B, 0, none⟩ _ k hne]
theorem own_laterI {W U : World} {base size n : Nat} {e : TypeId} {v : Value} {xs : List Value} (h : W.ownsRow base e size v n xs) (hb : Below W.heap.size W U) : U.ownsRow base e size v n xs := by
  refine ⟨h.1, ?_⟩
  rcases h.2 with h | ⟨g, cap, cur, hv, hg, hh, rest⟩
  · exact .inl h
  · exact .inr ⟨g, cap, cur, hv, hg, (hb.block g (Array.getElem?_eq_some_iff.1 hh).1).trans hh, rest⟩
/-- What lies where an iterator goes on. -/
structure MvAt (w V : World) (f : Value) (root ref : Int) (bef : Bool) (sh : Nat) (vo : Option Addr) (vc : Nat) (rules : List RuleD) : Prop where
  fo : V.heap[w.heap.size]? = some (.cells #[f] 24)
  it : V.heap[w.heap.size + 1]? = some (.cells #[.int .i64 root, .int .i64 ref, .bool bef, .int .u32 (sh : Int), .slice vo rules.length vc] 30)
  res : V.heap[w.heap.size + 1 + 1]? = some (.cells #[.int .i64 0, .int .i64 0, .bool false, .int .u32 0, .slice none 0 0] 30)
  row : V.ownsRow (w.heap.size + 1 + 1 + 1) 86 3 (.slice vo rules.length vc) rules.length (rulesC rules)
  below : Below w.heap.size w V
theorem MvAt.later {w V U : World} {f : Value} {root ref : Int} {bef : Bool} {sh : Nat} {vo : Option Addr} {vc : Nat} {rules : List RuleD} (h : MvAt w V f root ref bef sh vo vc rules) (hb : Below V.heap.size V U) : MvAt w U f root ref bef sh vo vc rules :=
  ⟨(hb.block _ (Array.getElem?_eq_some_iff.1 h.fo).1).trans h.fo, (hb.block _ (Array.getElem?_eq_some_iff.1 h.it).1).trans h.it, (hb.block _ (Array.getElem?_eq_some_iff.1 h.res).1).trans h.res, own_laterI h.row hb, h.below.trans (hb.mono h.below.size)⟩
theorem enterFromI (u v : Value) (w : World) : (callFunc 59 #[u, v]).run Tryz.prog w = .ok (.enter 59 #[u, v]) w := by kernel_rfl
theorem enterFirstI (u v : Value) (w : World) : (callFunc 58 #[u, v]).run Tryz.prog w = .ok (.enter 58 #[u, v]) w := by kernel_rfl
theorem from_boxes (x : Int) (g : Nat) (lb : Array Value) (V : World) :
    Calls Tryz.prog 59 #[.int .i64 x, .func (.func g) #[] lb] V fun e w' => ∃ bh bs, e = .returned (.func (.func 85) #[] #[.pointer (some ⟨bh, 0, none⟩), .pointer (some ⟨bs, 0, none⟩)]) ∧ (bh < w'.heap.size ∧ bs < w'.heap.size) ∧ w'.cell? ⟨bh, 0, none⟩ = some (.int .i64 x) ∧ w'.cell? ⟨bs, 0, none⟩ = some (.func (.func g) #[] lb) ∧ Below V.heap.size V w' := by
  refine (from_any x g lb V).mono ?_
  rintro e w' ⟨rfl, rfl⟩
  have k1 := (new_cell_l (V.alloc (.cells #[.int .i64 x] 3)) (.func (.func g) #[] lb) 61).1
  simp only [World.size_alloc] at k1
  exact ⟨_, _, rfl, ⟨by simp only [World.size_alloc]; omega, by simp only [World.size_alloc]; omega⟩, keep_cell_l _ (new_cell_l V _ _).1, k1, ((Below.refl _ V).alloc (Nat.le_refl _) _).alloc (by simp) _⟩

set_option maxRecDepth 100000 in
set_option maxHeartbeats 4000000 in
theorem movedN_any (b off cap : Nat) (ns : List NodeD) (root ref : Int) (bef before : Bool) (sh : Nat) (ro : Option Addr) (rc : Nat) (rules : List RuleD) (bf bi : Nat) (f : Int → Int) (L : Int → List Int) (I : Int → Prop) (w : World) (hR : RightF ns) (hF : FAt w b off cap ns) (hru : RdR w (.slice ro rules.length rc) rules) (hf : filterE rules = 0) (hs : sh < 4294967296)
    (hS : ∀ (y : Int) (V : World), I y → Below w.heap.size w V → Calls Tryz.prog 31 #[.int .i64 y, .pointer (some ⟨bf, 0, none⟩), .pointer (some ⟨bi, 0, none⟩)] V fun e w' => e = .returned (.int .i64 (f y)) ∧ Below V.heap.size V w')
    (hG : ∀ y, I y → f y = 0 ∨ I (f y)) (hL : ∀ y, I y → L y = restL L (f y)) (hI : ∀ y, I y → thereB ns.length y = true) (hx : I ref) :
    Calls Tryz.prog 30 #[.agg #[.slice (some ⟨b, off, none⟩) ns.length cap], .agg #[.int .i64 root, .int .i64 ref, .bool bef, .int .u32 (sh : Int), .slice ro rules.length rc], .bool before, .func (.func 31) #[] #[.pointer (some ⟨bf, 0, none⟩), .pointer (some ⟨bi, 0, none⟩)]] w fun e w' => ∃ h : Int, h = firstB (fun y => verdictOf ns sh rules y == 1) (restL L (if bef == before then f ref else ref)) ∧ ∃ o c, e = .returned (.tuple #[.agg #[.int .i64 root, .int .i64 (if h == 0 then ref else h), .bool (if h == 0 then bef else before), .int .u32 (sh : Int), .slice o rules.length c], .int .i64 h]) ∧ w'.ownsRow w.heap.size 86 3 (.slice o rules.length c) rules.length (rulesC rules) ∧ Below w.heap.size w w' := by
  have HC : Hid (∀ V : World, Below w.heap.size w V → _) := fun V hV => icopyOf_any root ref bef sh ro rc rules V (hru.later hV) (filterE_ok hf).1
  have hB0 : Below w.heap.size w (((w.alloc (.cells #[.slice (some ⟨b, off, none⟩) ns.length cap] 24)).alloc (.cells #[.int .i64 root, .int .i64 ref, .bool bef, .int .u32 (sh : Int), .slice ro rules.length rc] 30)).alloc (.cells #[.int .i64 0, .int .i64 0, .bool false, .int .u32 0, .slice none 0 0] 30)) := below_threeI w _ _ _
  have t0 : (((w.alloc (.cells #[.slice (some ⟨b, off, none⟩) ns.length cap] 24)).alloc (.cells #[.int .i64 root, .int .i64 ref, .bool bef, .int .u32 (sh : Int), .slice ro rules.length rc] 30)).alloc (.cells #[.int .i64 0, .int .i64 0, .bool false, .int .u32 0, .slice none 0 0] 30)).heap[w.heap.size]? = some (.cells #[.slice (some ⟨b, off, none⟩) ns.length cap] 24) := (Below.heap_alloc _ _ _ (by simp only [World.size_alloc]; omega)).trans ((Below.heap_alloc _ _ _ (by simp)).trans (heap_new w _))
  have t1 := (Below.heap_alloc _ (.cells #[.int .i64 0, .int .i64 0, .bool false, .int .u32 0, .slice none 0 0] 30) _ (by simp only [World.size_alloc]; omega)).trans (heap_new (w.alloc (.cells #[.slice (some ⟨b, off, none⟩) ns.length cap] 24)) (.cells #[.int .i64 root, .int .i64 ref, .bool bef, .int .u32 (sh : Int), .slice ro rules.length rc] 30))
  have t2 := heap_new ((w.alloc (.cells #[.slice (some ⟨b, off, none⟩) ns.length cap] 24)).alloc (.cells #[.int .i64 root, .int .i64 ref, .bool bef, .int .u32 (sh : Int), .slice ro rules.length rc] 30)) (.cells #[.int .i64 0, .int .i64 0, .bool false, .int .u32 0, .slice none 0 0] 30)
  simp only [World.size_alloc] at t1 t2
  obtain ⟨S, hSt⟩ : ∃ S, (if bef == before then f ref else ref) = S := ⟨_, rfl⟩
  rw [hSt]
  have HST := hid hSt
  have HR := hid hR
  have HF := hid hF
  have HS := hid hS
  have HB0 := hid hB0
  have H0 := hid t0
  have H1 := hid t1
  have H2 := hid t2
  clear hSt hR hF hS hru hB0 t0 t1 t2
  go_enter Tryz.func30, Tryz.ntmps30
  go_wp2_with fail
  refine (HC.out _ HB0.out).mono ?_
  rintro e v1 ⟨vo, vc, rfl, hown, hb⟩
  simp only [World.size_alloc] at hown hb
  have g0 := (hb.block w.heap.size (by omega)).trans H0.out
  have g1 := (hb.block (w.heap.size + 1) (by omega)).trans H1.out
  have g2 := (hb.block (w.heap.size + 1 + 1) (by omega)).trans H2.out
  obtain ⟨⟨a0, a1, a2, a3, a4⟩, z0, z1, z2, z3, z4⟩ := box5I g1
  have HM : Hid (MvAt w (((((v1.setCell ⟨w.heap.size + 1, 0, none⟩ (.int .i64 root)).setCell ⟨w.heap.size + 1, 1, none⟩ (.int .i64 ref)).setCell ⟨w.heap.size + 1, 2, none⟩ (.bool bef)).setCell ⟨w.heap.size + 1, 3, none⟩ (.int .u32 (sh : Int))).setCell ⟨w.heap.size + 1, 4, none⟩ (.slice vo rules.length vc)) (.slice (some ⟨b, off, none⟩) ns.length cap) root ref bef sh vo vc rules) := ⟨(five_other (by omega) _ _ _ _ _).trans g0, five_set g1 _ _ _ _ _, (five_other (by omega) _ _ _ _ _).trans g2, ownsRow_setCell_below (ownsRow_setCell_below (ownsRow_setCell_below (ownsRow_setCell_below (ownsRow_setCell_below hown (a := ⟨w.heap.size + 1, 0, none⟩) (by show w.heap.size + 1 < w.heap.size + 1 + 1 + 1; omega) _) (a := ⟨w.heap.size + 1, 1, none⟩) (by show w.heap.size + 1 < w.heap.size + 1 + 1 + 1; omega) _) (a := ⟨w.heap.size + 1, 2, none⟩) (by show w.heap.size + 1 < w.heap.size + 1 + 1 + 1; omega) _) (a := ⟨w.heap.size + 1, 3, none⟩) (by show w.heap.size + 1 < w.heap.size + 1 + 1 + 1; omega) _) (a := ⟨w.heap.size + 1, 4, none⟩) (by show w.heap.size + 1 < w.heap.size + 1 + 1 + 1; omega) _, (((((HB0.out.trans (hb.mono (by omega))).setCell (p := ⟨w.heap.size + 1, 0, none⟩) (Nat.le_succ _) _).setCell (p := ⟨w.heap.size + 1, 1, none⟩) (Nat.le_succ _) _).setCell (p := ⟨w.heap.size + 1, 2, none⟩) (Nat.le_succ _) _).setCell (p := ⟨w.heap.size + 1, 3, none⟩) (Nat.le_succ _) _).setCell (p := ⟨w.heap.size + 1, 4, none⟩) (Nat.le_succ _) _⟩
  clear hown hb g0 g1 g2 HB0 H0 H1 H2 HC
  obtain ⟨⟨q0, q1, q2, q3, q4⟩, y0, y1, y2, y3, y4⟩ := box5I HM.out.it
  have hst := HST.out
  have e5 : (bef == before) = true ∨ (bef == before) = false := by cases (bef == before) <;> simp
  rcases e5 with hbb | hbb
  · rw [hbb, if_pos rfl] at hst
    have hSr := HS.out ref _ hx HM.out.below
    rw [hst] at hSr
    clear hst
    go_wp2_with fail
    refine hSr.mono ?_
    rintro e v2 ⟨rfl, hb2⟩
    have HM1 := hid (HM.out.later hb2)
    clear hSr hb2 q0 q1 q2 q3 q4 y0 y1 y2 y3 y4 a0 a1 a2 a3 a4 z0 z1 z2 z3 z4 HM hbb
    go_upto_region 5 with fail
    have hSI : S = 0 ∨ I S := by
      have hst := HST.out
      split at hst
      · rw [← hst]; exact hG ref hx
      · rw [← hst]; exact .inr hx
    have HSI := hid hSI
    clear hSI HST
    have HFr : Hid (∀ V : World, _) := fun V => from_boxes S 31 #[.pointer (some ⟨bf, 0, none⟩), .pointer (some ⟨bi, 0, none⟩)] V
    have HT : Hid (∀ (V : World) (y : Int), I y → MvAt w V (.slice (some ⟨b, off, none⟩) ns.length cap) root ref bef sh vo vc rules → _) := fun V y hy hM => accepts_any b off cap ns y sh vo vc rules V HR.out (HF.out.later hM.below) (own_rules hM.row) hs hf (hI y hy)
    have HFi : Hid (∀ (V : World) (bh bs : Nat), MvAt w V (.slice (some ⟨b, off, none⟩) ns.length cap) root ref bef sh vo vc rules → (bh < V.heap.size ∧ bs < V.heap.size) → V.cell? ⟨bh, 0, none⟩ = some (.int .i64 S) → V.cell? ⟨bs, 0, none⟩ = some (.func (.func 31) #[] #[.pointer (some ⟨bf, 0, none⟩), .pointer (some ⟨bi, 0, none⟩)]) → _) := fun V bh bs hM hlt ch cs => firstNA_any bh bs bf bi (.agg #[.slice (some ⟨b, off, none⟩) ns.length cap, .int .u32 (sh : Int), .slice vo rules.length vc]) S f L I (fun y => verdictOf ns sh rules y == 1) V hlt.1 hlt.2 (fun y U hy hU => HS.out y U hy (hM.below.trans (hU.mono hM.below.size))) (fun y U hy hU => HT.out U y hy (hM.later hU)) hG hL (fun y hy => there_ne (hI y hy)) ch cs HSI.out
    clear HT
    obtain ⟨H, hH⟩ : ∃ H, firstB (fun y => verdictOf ns sh rules y == 1) (restL L S) = H := ⟨_, rfl⟩
    rw [hH] at HFi
    have HH := hid hH
    clear hH
    go_cut [11] (fun t wx => t = .int .i64 H ∧ MvAt w wx (.slice (some ⟨b, off, none⟩) ns.length cap) root ref bef sh vo vc rules)
    case first =>
      obtain ⟨⟨q0, q1, q2, q3, q4⟩, y0, y1, y2, y3, y4⟩ := box5I HM1.out.it
      obtain ⟨p0, p1⟩ := box_cell_l HM1.out.fo
      go_region_law (first
        | (refine wstep_call _ rfl (.tmp 23) (.tmp 24) 3 61 59 rfl (.int .i64 S) (.func (.func 31) #[] #[.pointer (some ⟨bf, 0, none⟩), .pointer (some ⟨bi, 0, none⟩)]) (by first | rfl | simp [Act.eval, Act.put]) (by first | rfl | simp [Act.eval, Act.put]) (enterFromI _ _ _) _ (HFr.out _) ?_; rintro e v3 ⟨bh, bs, rfl, hlt, ch, cs, hb⟩; refine ⟨_, rfl, ?_⟩; have HM3 := hid ((HM1.out.later (Below.refl _ _).drew).later hb); have HCH := hid (And.intro hlt (And.intro ch cs)); clear hlt ch cs hb; obtain ⟨⟨q0, q1, q2, q3, q4⟩, y0, y1, y2, y3, y4⟩ := box5I HM3.out.it; obtain ⟨p0, p1⟩ := box_cell_l HM3.out.fo)
        | (refine wstep_call _ rfl (.tmp 25) (.tmp 30) 98 93 58 rfl (.func (.func 85) #[] #[.pointer (some ⟨bh, 0, none⟩), .pointer (some ⟨bs, 0, none⟩)]) (.func (.func 60) #[.agg #[.slice (some ⟨b, off, none⟩) ns.length cap, .int .u32 (sh : Int), .slice vo rules.length vc]] #[]) (by first | rfl | simp [Act.eval, Act.put]) (by first | rfl | simp [Act.eval, Act.put]) (enterFirstI _ _ _) _ (HFi.out _ bh bs HM3.out HCH.out.1 HCH.out.2.1 HCH.out.2.2) ?_; rintro e v4 ⟨rfl, hb⟩; refine ⟨_, rfl, ?_⟩; have HM4 := hid (HM3.out.later hb); clear hb))
      all_goals
        go_wp2
        go_meet
        exact ⟨rfl, HM4.out⟩
    case rest =>
      obtain ⟨rfl, hM⟩ := hcut
      clear HFr HFi HM1
      obtain ⟨⟨q0, q1, q2, q3, q4⟩, y0, y1, y2, y3, y4⟩ := box5I hM.it
      obtain ⟨⟨r0, r1, r2, r3, r4⟩, s0, s1, s2, s3, s4⟩ := box5I hM.res
      have HM2 := hid hM
      clear hM
      by_cases h0 : H = 0
      · have n0 : (H != 0) = false := by rw [bne, h0]; rfl
        go_wp2
        exact bodyPost_ret (v := .tuple #[.agg #[.int .i64 root, .int .i64 ref, .bool bef, .int .u32 (sh : Int), .slice vo rules.length vc], .int .i64 H]) (by simp [results, Tryz.results30, go_sem, r0, r1, r2, r3, r4]) rfl ⟨H, HH.out.symm, vo, vc, by rw [show (H == 0) = true from beq_iff_eq.2 h0]; rfl, own_baseI (by omega) (ownsRow_setCell_below (ownsRow_setCell_below (ownsRow_setCell_below (ownsRow_setCell_below (ownsRow_setCell_below HM2.out.row (a := ⟨w.heap.size + 1 + 1, 0, none⟩) (by show w.heap.size + 1 + 1 < w.heap.size + 1 + 1 + 1; omega) _) (a := ⟨w.heap.size + 1 + 1, 1, none⟩) (by show w.heap.size + 1 + 1 < w.heap.size + 1 + 1 + 1; omega) _) (a := ⟨w.heap.size + 1 + 1, 2, none⟩) (by show w.heap.size + 1 + 1 < w.heap.size + 1 + 1 + 1; omega) _) (a := ⟨w.heap.size + 1 + 1, 3, none⟩) (by show w.heap.size + 1 + 1 < w.heap.size + 1 + 1 + 1; omega) _) (a := ⟨w.heap.size + 1 + 1, 4, none⟩) (by show w.heap.size + 1 + 1 < w.heap.size + 1 + 1 + 1; omega) _), (((((HM2.out.below.setCell (p := ⟨w.heap.size + 1 + 1, 0, none⟩) (by show w.heap.size ≤ w.heap.size + 1 + 1; omega) _).setCell (p := ⟨w.heap.size + 1 + 1, 1, none⟩) (by show w.heap.size ≤ w.heap.size + 1 + 1; omega) _).setCell (p := ⟨w.heap.size + 1 + 1, 2, none⟩) (by show w.heap.size ≤ w.heap.size + 1 + 1; omega) _).setCell (p := ⟨w.heap.size + 1 + 1, 3, none⟩) (by show w.heap.size ≤ w.heap.size + 1 + 1; omega) _).setCell (p := ⟨w.heap.size + 1 + 1, 4, none⟩) (by show w.heap.size ≤ w.heap.size + 1 + 1; omega) _)⟩
      · have n0 : (H != 0) = true := by rw [bne, beq_eq_false_iff_ne.2 h0]; rfl
        go_wp2
        exact bodyPost_ret (v := .tuple #[.agg #[.int .i64 root, .int .i64 H, .bool before, .int .u32 (sh : Int), .slice vo rules.length vc], .int .i64 H]) (by simp [results, Tryz.results30, go_sem, r0, r1, r2, r3, r4]) rfl ⟨H, HH.out.symm, vo, vc, by rw [show (H == 0) = false from beq_eq_false_iff_ne.2 h0]; rfl, own_baseI (by omega) (ownsRow_setCell_below (ownsRow_setCell_below (ownsRow_setCell_below (ownsRow_setCell_below (ownsRow_setCell_below (ownsRow_setCell_below (ownsRow_setCell_below HM2.out.row (a := ⟨w.heap.size + 1, 1, none⟩) (by show w.heap.size + 1 < w.heap.size + 1 + 1 + 1; omega) _) (a := ⟨w.heap.size + 1, 2, none⟩) (by show w.heap.size + 1 < w.heap.size + 1 + 1 + 1; omega) _) (a := ⟨w.heap.size + 1 + 1, 0, none⟩) (by show w.heap.size + 1 + 1 < w.heap.size + 1 + 1 + 1; omega) _) (a := ⟨w.heap.size + 1 + 1, 1, none⟩) (by show w.heap.size + 1 + 1 < w.heap.size + 1 + 1 + 1; omega) _) (a := ⟨w.heap.size + 1 + 1, 2, none⟩) (by show w.heap.size + 1 + 1 < w.heap.size + 1 + 1 + 1; omega) _) (a := ⟨w.heap.size + 1 + 1, 3, none⟩) (by show w.heap.size + 1 + 1 < w.heap.size + 1 + 1 + 1; omega) _) (a := ⟨w.heap.size + 1 + 1, 4, none⟩) (by show w.heap.size + 1 + 1 < w.heap.size + 1 + 1 + 1; omega) _), (((((((HM2.out.below.setCell (p := ⟨w.heap.size + 1, 1, none⟩) (by show w.heap.size ≤ w.heap.size + 1; omega) _).setCell (p := ⟨w.heap.size + 1, 2, none⟩) (by show w.heap.size ≤ w.heap.size + 1; omega) _).setCell (p := ⟨w.heap.size + 1 + 1, 0, none⟩) (by show w.heap.size ≤ w.heap.size + 1 + 1; omega) _).setCell (p := ⟨w.heap.size + 1 + 1, 1, none⟩) (by show w.heap.size ≤ w.heap.size + 1 + 1; omega) _).setCell (p := ⟨w.heap.size + 1 + 1, 2, none⟩) (by show w.heap.size ≤ w.heap.size + 1 + 1; omega) _).setCell (p := ⟨w.heap.size + 1 + 1, 3, none⟩) (by show w.heap.size ≤ w.heap.size + 1 + 1; omega) _).setCell (p := ⟨w.heap.size + 1 + 1, 4, none⟩) (by show w.heap.size ≤ w.heap.size + 1 + 1; omega) _)⟩
  · rw [hbb, if_neg Bool.false_ne_true] at hst
    subst hst
    go_upto_region 5 with fail
    have HM1 := HM
    clear q0 q1 q2 q3 q4 y0 y1 y2 y3 y4 a0 a1 a2 a3 a4 z0 z1 z2 z3 z4 HM hbb
    have hSI : ref = 0 ∨ I ref := .inr hx
    have HSI := hid hSI
    clear hSI HST
    have HFr : Hid (∀ V : World, _) := fun V => from_boxes ref 31 #[.pointer (some ⟨bf, 0, none⟩), .pointer (some ⟨bi, 0, none⟩)] V
    have HT : Hid (∀ (V : World) (y : Int), I y → MvAt w V (.slice (some ⟨b, off, none⟩) ns.length cap) root ref bef sh vo vc rules → _) := fun V y hy hM => accepts_any b off cap ns y sh vo vc rules V HR.out (HF.out.later hM.below) (own_rules hM.row) hs hf (hI y hy)
    have HFi : Hid (∀ (V : World) (bh bs : Nat), MvAt w V (.slice (some ⟨b, off, none⟩) ns.length cap) root ref bef sh vo vc rules → (bh < V.heap.size ∧ bs < V.heap.size) → V.cell? ⟨bh, 0, none⟩ = some (.int .i64 ref) → V.cell? ⟨bs, 0, none⟩ = some (.func (.func 31) #[] #[.pointer (some ⟨bf, 0, none⟩), .pointer (some ⟨bi, 0, none⟩)]) → _) := fun V bh bs hM hlt ch cs => firstNA_any bh bs bf bi (.agg #[.slice (some ⟨b, off, none⟩) ns.length cap, .int .u32 (sh : Int), .slice vo rules.length vc]) ref f L I (fun y => verdictOf ns sh rules y == 1) V hlt.1 hlt.2 (fun y U hy hU => HS.out y U hy (hM.below.trans (hU.mono hM.below.size))) (fun y U hy hU => HT.out U y hy (hM.later hU)) hG hL (fun y hy => there_ne (hI y hy)) ch cs HSI.out
    clear HT
    obtain ⟨H, hH⟩ : ∃ H, firstB (fun y => verdictOf ns sh rules y == 1) (restL L ref) = H := ⟨_, rfl⟩
    rw [hH] at HFi
    have HH := hid hH
    clear hH
    go_cut [11] (fun t wx => t = .int .i64 H ∧ MvAt w wx (.slice (some ⟨b, off, none⟩) ns.length cap) root ref bef sh vo vc rules)
    case first =>
      obtain ⟨⟨q0, q1, q2, q3, q4⟩, y0, y1, y2, y3, y4⟩ := box5I HM1.out.it
      obtain ⟨p0, p1⟩ := box_cell_l HM1.out.fo
      go_region_law (first
        | (refine wstep_call _ rfl (.tmp 23) (.tmp 24) 3 61 59 rfl (.int .i64 ref) (.func (.func 31) #[] #[.pointer (some ⟨bf, 0, none⟩), .pointer (some ⟨bi, 0, none⟩)]) (by first | rfl | simp [Act.eval, Act.put]) (by first | rfl | simp [Act.eval, Act.put]) (enterFromI _ _ _) _ (HFr.out _) ?_; rintro e v3 ⟨bh, bs, rfl, hlt, ch, cs, hb⟩; refine ⟨_, rfl, ?_⟩; have HM3 := hid ((HM1.out.later (Below.refl _ _).drew).later hb); have HCH := hid (And.intro hlt (And.intro ch cs)); clear hlt ch cs hb; obtain ⟨⟨q0, q1, q2, q3, q4⟩, y0, y1, y2, y3, y4⟩ := box5I HM3.out.it; obtain ⟨p0, p1⟩ := box_cell_l HM3.out.fo)
        | (refine wstep_call _ rfl (.tmp 25) (.tmp 30) 98 93 58 rfl (.func (.func 85) #[] #[.pointer (some ⟨bh, 0, none⟩), .pointer (some ⟨bs, 0, none⟩)]) (.func (.func 60) #[.agg #[.slice (some ⟨b, off, none⟩) ns.length cap, .int .u32 (sh : Int), .slice vo rules.length vc]] #[]) (by first | rfl | simp [Act.eval, Act.put]) (by first | rfl | simp [Act.eval, Act.put]) (enterFirstI _ _ _) _ (HFi.out _ bh bs HM3.out HCH.out.1 HCH.out.2.1 HCH.out.2.2) ?_; rintro e v4 ⟨rfl, hb⟩; refine ⟨_, rfl, ?_⟩; have HM4 := hid (HM3.out.later hb); clear hb))
      all_goals
        go_wp2
        go_meet
        exact ⟨rfl, HM4.out⟩
    case rest =>
      obtain ⟨rfl, hM⟩ := hcut
      clear HFr HFi HM1
      obtain ⟨⟨q0, q1, q2, q3, q4⟩, y0, y1, y2, y3, y4⟩ := box5I hM.it
      obtain ⟨⟨r0, r1, r2, r3, r4⟩, s0, s1, s2, s3, s4⟩ := box5I hM.res
      have HM2 := hid hM
      clear hM
      by_cases h0 : H = 0
      · have n0 : (H != 0) = false := by rw [bne, h0]; rfl
        go_wp2
        exact bodyPost_ret (v := .tuple #[.agg #[.int .i64 root, .int .i64 ref, .bool bef, .int .u32 (sh : Int), .slice vo rules.length vc], .int .i64 H]) (by simp [results, Tryz.results30, go_sem, r0, r1, r2, r3, r4]) rfl ⟨H, HH.out.symm, vo, vc, by rw [show (H == 0) = true from beq_iff_eq.2 h0]; rfl, own_baseI (by omega) (ownsRow_setCell_below (ownsRow_setCell_below (ownsRow_setCell_below (ownsRow_setCell_below (ownsRow_setCell_below HM2.out.row (a := ⟨w.heap.size + 1 + 1, 0, none⟩) (by show w.heap.size + 1 + 1 < w.heap.size + 1 + 1 + 1; omega) _) (a := ⟨w.heap.size + 1 + 1, 1, none⟩) (by show w.heap.size + 1 + 1 < w.heap.size + 1 + 1 + 1; omega) _) (a := ⟨w.heap.size + 1 + 1, 2, none⟩) (by show w.heap.size + 1 + 1 < w.heap.size + 1 + 1 + 1; omega) _) (a := ⟨w.heap.size + 1 + 1, 3, none⟩) (by show w.heap.size + 1 + 1 < w.heap.size + 1 + 1 + 1; omega) _) (a := ⟨w.heap.size + 1 + 1, 4, none⟩) (by show w.heap.size + 1 + 1 < w.heap.size + 1 + 1 + 1; omega) _), (((((HM2.out.below.setCell (p := ⟨w.heap.size + 1 + 1, 0, none⟩) (by show w.heap.size ≤ w.heap.size + 1 + 1; omega) _).setCell (p := ⟨w.heap.size + 1 + 1, 1, none⟩) (by show w.heap.size ≤ w.heap.size + 1 + 1; omega) _).setCell (p := ⟨w.heap.size + 1 + 1, 2, none⟩) (by show w.heap.size ≤ w.heap.size + 1 + 1; omega) _).setCell (p := ⟨w.heap.size + 1 + 1, 3, none⟩) (by show w.heap.size ≤ w.heap.size + 1 + 1; omega) _).setCell (p := ⟨w.heap.size + 1 + 1, 4, none⟩) (by show w.heap.size ≤ w.heap.size + 1 + 1; omega) _)⟩
      · have n0 : (H != 0) = true := by rw [bne, beq_eq_false_iff_ne.2 h0]; rfl
        go_wp2
        exact bodyPost_ret (v := .tuple #[.agg #[.int .i64 root, .int .i64 H, .bool before, .int .u32 (sh : Int), .slice vo rules.length vc], .int .i64 H]) (by simp [results, Tryz.results30, go_sem, r0, r1, r2, r3, r4]) rfl ⟨H, HH.out.symm, vo, vc, by rw [show (H == 0) = false from beq_eq_false_iff_ne.2 h0]; rfl, own_baseI (by omega) (ownsRow_setCell_below (ownsRow_setCell_below (ownsRow_setCell_below (ownsRow_setCell_below (ownsRow_setCell_below (ownsRow_setCell_below (ownsRow_setCell_below HM2.out.row (a := ⟨w.heap.size + 1, 1, none⟩) (by show w.heap.size + 1 < w.heap.size + 1 + 1 + 1; omega) _) (a := ⟨w.heap.size + 1, 2, none⟩) (by show w.heap.size + 1 < w.heap.size + 1 + 1 + 1; omega) _) (a := ⟨w.heap.size + 1 + 1, 0, none⟩) (by show w.heap.size + 1 + 1 < w.heap.size + 1 + 1 + 1; omega) _) (a := ⟨w.heap.size + 1 + 1, 1, none⟩) (by show w.heap.size + 1 + 1 < w.heap.size + 1 + 1 + 1; omega) _) (a := ⟨w.heap.size + 1 + 1, 2, none⟩) (by show w.heap.size + 1 + 1 < w.heap.size + 1 + 1 + 1; omega) _) (a := ⟨w.heap.size + 1 + 1, 3, none⟩) (by show w.heap.size + 1 + 1 < w.heap.size + 1 + 1 + 1; omega) _) (a := ⟨w.heap.size + 1 + 1, 4, none⟩) (by show w.heap.size + 1 + 1 < w.heap.size + 1 + 1 + 1; omega) _), (((((((HM2.out.below.setCell (p := ⟨w.heap.size + 1, 1, none⟩) (by show w.heap.size ≤ w.heap.size + 1; omega) _).setCell (p := ⟨w.heap.size + 1, 2, none⟩) (by show w.heap.size ≤ w.heap.size + 1; omega) _).setCell (p := ⟨w.heap.size + 1 + 1, 0, none⟩) (by show w.heap.size ≤ w.heap.size + 1 + 1; omega) _).setCell (p := ⟨w.heap.size + 1 + 1, 1, none⟩) (by show w.heap.size ≤ w.heap.size + 1 + 1; omega) _).setCell (p := ⟨w.heap.size + 1 + 1, 2, none⟩) (by show w.heap.size ≤ w.heap.size + 1 + 1; omega) _).setCell (p := ⟨w.heap.size + 1 + 1, 3, none⟩) (by show w.heap.size ≤ w.heap.size + 1 + 1; omega) _).setCell (p := ⟨w.heap.size + 1 + 1, 4, none⟩) (by show w.heap.size ≤ w.heap.size + 1 + 1; omega) _)⟩
end Go.Proofs.YticenjhhefiboaaGreat

namespace Go.Proofs.YticenjhhefiboaaGreat
open Go.RowKit Go.Lib Go.Shelf

/-- What Next tells, 0 for none. -/
def nextT (ns : List NodeD) (root ref : Int) (bef : Bool) (sh : Nat) (rules : List RuleD) : Int := firstB (fun y => verdictOf ns sh rules y == 1) (restL (afterA ns root) (if bef == false then behindN ns root ref else ref))
theorem behind_in {ns : List NodeD} (h : RightF ns) {root : Int} (hr : thereB ns.length root = true) {y : Int} (hy : thereB ns.length y = true ∧ root ∈ pathUp ns (parentD ns) y) : behindN ns root y = 0 ∨ (thereB ns.length (behindN ns root y) = true ∧ root ∈ pathUp ns (parentD ns) (behindN ns root y)) := by
  rcases TourD.onD_good (tourA_ok h hr false) hy.1 with h0 | ⟨a, _, c, _⟩
  · exact .inl h0
  · exact .inr ⟨a, c hy.2⟩
theorem nextMoved (b off cap : Nat) (ns : List NodeD) (root ref : Int) (bef : Bool) (sh : Nat) (ro : Option Addr) (rc : Nat) (rules : List RuleD) (bf bi : Nat) (w : World) (hF : FAt w b off cap ns) (hru : RdR w (.slice ro rules.length rc) rules) (hs : sh < 4294967296) (hc : iterC ns root ref rules = 0) (hbf : bf < w.heap.size) (hbi : bi < w.heap.size) (cf : w.cell? ⟨bf, 0, none⟩ = some (.slice (some ⟨b, off, none⟩) ns.length cap)) (ci : w.cell? ⟨bi, 0, none⟩ = some (.int .i64 root)) :
    Calls Tryz.prog 30 #[.agg #[.slice (some ⟨b, off, none⟩) ns.length cap], .agg #[.int .i64 root, .int .i64 ref, .bool bef, .int .u32 (sh : Int), .slice ro rules.length rc], .bool false, .func (.func 31) #[] #[.pointer (some ⟨bf, 0, none⟩), .pointer (some ⟨bi, 0, none⟩)]] w fun e w' => ∃ o c, e = .returned (.tuple #[.agg #[.int .i64 root, .int .i64 (if nextT ns root ref bef sh rules == 0 then ref else nextT ns root ref bef sh rules), .bool (if nextT ns root ref bef sh rules == 0 then bef else false), .int .u32 (sh : Int), .slice o rules.length c], .int .i64 (nextT ns root ref bef sh rules)]) ∧ w'.ownsRow w.heap.size 86 3 (.slice o rules.length c) rules.length (rulesC rules) ∧ Below w.heap.size w w' := by
  obtain ⟨hR, hr, hf, hx, hin⟩ := iterC_ok hc
  refine (movedN_any b off cap ns root ref bef false sh ro rc rules bf bi (behindN ns root) (afterA ns root) (fun y => thereB ns.length y = true ∧ root ∈ pathUp ns (parentD ns) y) w hR hF hru hf hs (fun y V hy hV => next1_any b off cap bf bi root y ns V hR (hF.later hV) hr hy.1 ((hV.cell (p := ⟨bf, 0, none⟩) hbf).trans cf) ((hV.cell (p := ⟨bi, 0, none⟩) hbi).trans ci)) (fun y hy => behind_in hR hr hy) (fun y hy => ?_) (fun y hy => hy.1) ⟨hx, hin⟩).mono ?_
  · rw [after_step hR hr hy.1 hy.2]
    rfl
  · rintro e w' ⟨h, rfl, o, c, rfl, h1, h2⟩
    exact ⟨o, c, rfl, h1, h2⟩
set_option maxRecDepth 100000 in
set_option maxHeartbeats 4000000 in
theorem inext_any (o : Option Addr) (cap : Nat) (ns : List NodeD) (root ref : Int) (bef : Bool) (sh : Nat) (ro : Option Addr) (rc : Nat) (rules : List RuleD) (w : World) (hF : FRd w o cap ns) (hkl : ∀ (i : Nat) (hi : i < ns.length), ns[i].kids.length ≤ 1099511627776) (hal : ∀ (i : Nat) (hi : i < ns.length), ns[i].attrs.length ≤ 1099511627776) (hru : RdR w (.slice ro rules.length rc) rules) (hrl : rules.length ≤ 1099511627776) (hs : sh < 4294967296) (hc : iterC ns root ref rules = 0) :
    Calls Tryz.prog 13 #[.agg #[.slice o ns.length cap], .agg #[.int .i64 root, .int .i64 ref, .bool bef, .int .u32 (sh : Int), .slice ro rules.length rc]] w fun e w' => ∃ o c, e = .returned (.tuple #[.agg #[.int .i64 root, .int .i64 (if nextT ns root ref bef sh rules == 0 then ref else nextT ns root ref bef sh rules), .bool (if nextT ns root ref bef sh rules == 0 then bef else false), .int .u32 (sh : Int), .slice o rules.length c], .int .i64 (nextT ns root ref bef sh rules), .int .i64 0]) ∧ w'.ownsRow w.heap.size 86 3 (.slice o rules.length c) rules.length (rulesC rules) ∧ Below w.heap.size w w' := by
  have HC : Hid (∀ W : World, Below w.heap.size w W → _) := fun W hW => icheck_any o cap ns root ref bef sh ro rc rules W (hF.later hW) hkl hal (hru.later hW) hrl hs
  rw [hc] at HC
  have hB0 : Below w.heap.size w (((w.alloc (.cells #[.slice o ns.length cap] 24)).alloc (.cells #[.int .i64 root, .int .i64 ref, .bool bef, .int .u32 (sh : Int), .slice ro rules.length rc] 30)).alloc (.cells #[.int .i64 0, .int .i64 0, .bool false, .int .u32 0, .slice none 0 0] 30)) := below_threeI w _ _ _
  have t0 : (((w.alloc (.cells #[.slice o ns.length cap] 24)).alloc (.cells #[.int .i64 root, .int .i64 ref, .bool bef, .int .u32 (sh : Int), .slice ro rules.length rc] 30)).alloc (.cells #[.int .i64 0, .int .i64 0, .bool false, .int .u32 0, .slice none 0 0] 30)).heap[w.heap.size]? = some (.cells #[.slice o ns.length cap] 24) := (Below.heap_alloc _ _ _ (by simp only [World.size_alloc]; omega)).trans ((Below.heap_alloc _ _ _ (by simp)).trans (heap_new w _))
  have t1 := (Below.heap_alloc _ (.cells #[.int .i64 0, .int .i64 0, .bool false, .int .u32 0, .slice none 0 0] 30) _ (by simp only [World.size_alloc]; omega)).trans (heap_new (w.alloc (.cells #[.slice o ns.length cap] 24)) (.cells #[.int .i64 root, .int .i64 ref, .bool bef, .int .u32 (sh : Int), .slice ro rules.length rc] 30))
  have t2 := heap_new ((w.alloc (.cells #[.slice o ns.length cap] 24)).alloc (.cells #[.int .i64 root, .int .i64 ref, .bool bef, .int .u32 (sh : Int), .slice ro rules.length rc] 30)) (.cells #[.int .i64 0, .int .i64 0, .bool false, .int .u32 0, .slice none 0 0] 30)
  simp only [World.size_alloc] at t1 t2
  obtain ⟨b, off, rfl, hFA⟩ := hF.at_ (by obtain ⟨_, _, _, hx, _⟩ := iterC_ok hc; obtain ⟨i, hi, _⟩ := there_idx hx; omega)
  have HMv : Hid (∀ (V : World), Below w.heap.size w V → V.heap[w.heap.size]? = some (.cells #[.slice (some ⟨b, off, none⟩) ns.length cap] 24) → V.heap[w.heap.size + 1]? = some (.cells #[.int .i64 root, .int .i64 ref, .bool bef, .int .u32 (sh : Int), .slice ro rules.length rc] 30) → _) := fun V hV h0 h1 => nextMoved b off cap ns root ref bef sh ro rc rules w.heap.size (w.heap.size + 1) V (hFA.later hV) (hru.later hV) hs hc (Array.getElem?_eq_some_iff.1 h0).1 (Array.getElem?_eq_some_iff.1 h1).1 (box_cell_l h0).1 (box5I h1).1.1
  have HB0 := hid hB0
  have H0 := hid t0
  have H1 := hid t1
  have H2 := hid t2
  clear hB0 t0 t1 t2 hFA hF hkl hal hru hc
  generalize nextT ns root ref bef sh rules = T at *
  generalize (if T == 0 then ref else T) = RF at *
  generalize (if T == 0 then bef else false) = BF at *
  go_enter Tryz.func13, Tryz.ntmps13
  go_wp2_with fail
  refine (HC.out _ HB0.out).mono ?_
  rintro e v1 ⟨rfl, hb⟩
  simp only [World.size_alloc] at hb
  have g0 := (hb.block w.heap.size (by omega)).trans H0.out
  have g1 := (hb.block (w.heap.size + 1) (by omega)).trans H1.out
  have g2 := (hb.block (w.heap.size + 1 + 1) (by omega)).trans H2.out
  have hV := HB0.out.trans (hb.mono (by omega))
  have hM := HMv.out v1 hV g0 g1
  obtain ⟨⟨a0, a1, a2, a3, a4⟩, z0, z1, z2, z3, z4⟩ := box5I g1
  obtain ⟨p0, p1⟩ := box_cell_l g0
  have HG2 := hid g2
  have HV := hid hV
  clear HC HB0 H0 H1 H2 hb HMv g0 g1 g2 hV
  go_wp2_with fail
  refine hM.mono ?_
  rintro e v2 ⟨vo, vc, rfl, hown, hb2⟩
  have g2 := (hb2.block _ (Array.getElem?_eq_some_iff.1 HG2.out).1).trans HG2.out
  have g3 := (Below.heap_alloc v2 (.cells #[.int .i64 root, .int .i64 RF, .bool BF, .int .u32 (sh : Int), .slice vo rules.length vc] 30) _ (Array.getElem?_eq_some_iff.1 g2).1).trans g2
  obtain ⟨⟨r0, r1, r2, r3, r4⟩, s0, s1, s2, s3, s4⟩ := box5I g3
  have hsz := (Array.getElem?_eq_some_iff.1 g2).1
  have hv1 := (Array.getElem?_eq_some_iff.1 HG2.out).1
  have HB2 := hid ((HV.out.trans (hb2.mono HV.out.size)).alloc (show w.heap.size ≤ v2.heap.size by omega) (.cells #[.int .i64 root, .int .i64 RF, .bool BF, .int .u32 (sh : Int), .slice vo rules.length vc] 30))
  have HO := hid (hown.alloc (.cells #[.int .i64 root, .int .i64 RF, .bool BF, .int .u32 (sh : Int), .slice vo rules.length vc] 30))
  clear hM hown hb2 g2 g3 a0 a1 a2 a3 a4 z0 z1 z2 z3 z4 p0 p1 HG2
  have g4 := heap_new v2 (.cells #[.int .i64 root, .int .i64 RF, .bool BF, .int .u32 (sh : Int), .slice vo rules.length vc] 30)
  obtain ⟨⟨n0, n1, n2, n3, n4⟩, m0, m1, m2, m3, m4⟩ := box5I g4
  clear g4
  go_upto_region 5 with fail
  generalize v2.alloc (.cells #[.int .i64 root, .int .i64 RF, .bool BF, .int .u32 (sh : Int), .slice vo rules.length vc] 30) = W at *
  go_wp2
  exact bodyPost_ret (v := .tuple #[.agg #[.int .i64 root, .int .i64 RF, .bool BF, .int .u32 (sh : Int), .slice vo rules.length vc], .int .i64 T, .int .i64 0]) (by simp [results, Tryz.results13, go_sem, r0, r1, r2, r3, r4]) rfl ⟨vo, vc, rfl, own_baseI (by omega) (ownsRow_setCell_below (ownsRow_setCell_below (ownsRow_setCell_below (ownsRow_setCell_below (ownsRow_setCell_below HO.out (a := ⟨w.heap.size + 1 + 1, 0, none⟩) (by show w.heap.size + 1 + 1 < v1.heap.size; omega) _) (a := ⟨w.heap.size + 1 + 1, 1, none⟩) (by show w.heap.size + 1 + 1 < v1.heap.size; omega) _) (a := ⟨w.heap.size + 1 + 1, 2, none⟩) (by show w.heap.size + 1 + 1 < v1.heap.size; omega) _) (a := ⟨w.heap.size + 1 + 1, 3, none⟩) (by show w.heap.size + 1 + 1 < v1.heap.size; omega) _) (a := ⟨w.heap.size + 1 + 1, 4, none⟩) (by show w.heap.size + 1 + 1 < v1.heap.size; omega) _), (((((HB2.out.setCell (p := ⟨w.heap.size + 1 + 1, 0, none⟩) (by show w.heap.size ≤ w.heap.size + 1 + 1; omega) _).setCell (p := ⟨w.heap.size + 1 + 1, 1, none⟩) (by show w.heap.size ≤ w.heap.size + 1 + 1; omega) _).setCell (p := ⟨w.heap.size + 1 + 1, 2, none⟩) (by show w.heap.size ≤ w.heap.size + 1 + 1; omega) _).setCell (p := ⟨w.heap.size + 1 + 1, 3, none⟩) (by show w.heap.size ≤ w.heap.size + 1 + 1; omega) _).setCell (p := ⟨w.heap.size + 1 + 1, 4, none⟩) (by show w.heap.size ≤ w.heap.size + 1 + 1; omega) _)⟩
end Go.Proofs.YticenjhhefiboaaGreat

namespace Go.Proofs.YticenjhhefiboaaGreat
open Go.RowKit Go.Lib Go.Shelf

set_option maxRecDepth 100000 in
set_option maxHeartbeats 4000000 in
theorem movedP_any (b off cap : Nat) (ns : List NodeD) (root ref : Int) (bef before : Bool) (sh : Nat) (ro : Option Addr) (rc : Nat) (rules : List RuleD) (bf bi : Nat) (f : Int → Int) (L : Int → List Int) (I : Int → Prop) (w : World) (hR : RightF ns) (hF : FAt w b off cap ns) (hru : RdR w (.slice ro rules.length rc) rules) (hf : filterE rules = 0) (hs : sh < 4294967296)
    (hS : ∀ (y : Int) (V : World), I y → Below w.heap.size w V → Calls Tryz.prog 36 #[.int .i64 y, .pointer (some ⟨bf, 0, none⟩), .pointer (some ⟨bi, 0, none⟩)] V fun e w' => e = .returned (.int .i64 (f y)) ∧ Below V.heap.size V w')
    (hG : ∀ y, I y → f y = 0 ∨ I (f y)) (hL : ∀ y, I y → L y = restL L (f y)) (hI : ∀ y, I y → thereB ns.length y = true) (hx : I ref) :
    Calls Tryz.prog 30 #[.agg #[.slice (some ⟨b, off, none⟩) ns.length cap], .agg #[.int .i64 root, .int .i64 ref, .bool bef, .int .u32 (sh : Int), .slice ro rules.length rc], .bool before, .func (.func 36) #[] #[.pointer (some ⟨bf, 0, none⟩), .pointer (some ⟨bi, 0, none⟩)]] w fun e w' => ∃ h : Int, h = firstB (fun y => verdictOf ns sh rules y == 1) (restL L (if bef == before then f ref else ref)) ∧ ∃ o c, e = .returned (.tuple #[.agg #[.int .i64 root, .int .i64 (if h == 0 then ref else h), .bool (if h == 0 then bef else before), .int .u32 (sh : Int), .slice o rules.length c], .int .i64 h]) ∧ w'.ownsRow w.heap.size 86 3 (.slice o rules.length c) rules.length (rulesC rules) ∧ Below w.heap.size w w' := by
  have HC : Hid (∀ V : World, Below w.heap.size w V → _) := fun V hV => icopyOf_any root ref bef sh ro rc rules V (hru.later hV) (filterE_ok hf).1
  have hB0 : Below w.heap.size w (((w.alloc (.cells #[.slice (some ⟨b, off, none⟩) ns.length cap] 24)).alloc (.cells #[.int .i64 root, .int .i64 ref, .bool bef, .int .u32 (sh : Int), .slice ro rules.length rc] 30)).alloc (.cells #[.int .i64 0, .int .i64 0, .bool false, .int .u32 0, .slice none 0 0] 30)) := below_threeI w _ _ _
  have t0 : (((w.alloc (.cells #[.slice (some ⟨b, off, none⟩) ns.length cap] 24)).alloc (.cells #[.int .i64 root, .int .i64 ref, .bool bef, .int .u32 (sh : Int), .slice ro rules.length rc] 30)).alloc (.cells #[.int .i64 0, .int .i64 0, .bool false, .int .u32 0, .slice none 0 0] 30)).heap[w.heap.size]? = some (.cells #[.slice (some ⟨b, off, none⟩) ns.length cap] 24) := (Below.heap_alloc _ _ _ (by simp only [World.size_alloc]; omega)).trans ((Below.heap_alloc _ _ _ (by simp)).trans (heap_new w _))
  have t1 := (Below.heap_alloc _ (.cells #[.int .i64 0, .int .i64 0, .bool false, .int .u32 0, .slice none 0 0] 30) _ (by simp only [World.size_alloc]; omega)).trans (heap_new (w.alloc (.cells #[.slice (some ⟨b, off, none⟩) ns.length cap] 24)) (.cells #[.int .i64 root, .int .i64 ref, .bool bef, .int .u32 (sh : Int), .slice ro rules.length rc] 30))
  have t2 := heap_new ((w.alloc (.cells #[.slice (some ⟨b, off, none⟩) ns.length cap] 24)).alloc (.cells #[.int .i64 root, .int .i64 ref, .bool bef, .int .u32 (sh : Int), .slice ro rules.length rc] 30)) (.cells #[.int .i64 0, .int .i64 0, .bool false, .int .u32 0, .slice none 0 0] 30)
  simp only [World.size_alloc] at t1 t2
  obtain ⟨S, hSt⟩ : ∃ S, (if bef == before then f ref else ref) = S := ⟨_, rfl⟩
  rw [hSt]
  have HST := hid hSt
  have HR := hid hR
  have HF := hid hF
  have HS := hid hS
  have HB0 := hid hB0
  have H0 := hid t0
  have H1 := hid t1
  have H2 := hid t2
  clear hSt hR hF hS hru hB0 t0 t1 t2
  go_enter Tryz.func30, Tryz.ntmps30
  go_wp2_with fail
  refine (HC.out _ HB0.out).mono ?_
  rintro e v1 ⟨vo, vc, rfl, hown, hb⟩
  simp only [World.size_alloc] at hown hb
  have g0 := (hb.block w.heap.size (by omega)).trans H0.out
  have g1 := (hb.block (w.heap.size + 1) (by omega)).trans H1.out
  have g2 := (hb.block (w.heap.size + 1 + 1) (by omega)).trans H2.out
  obtain ⟨⟨a0, a1, a2, a3, a4⟩, z0, z1, z2, z3, z4⟩ := box5I g1
  have HM : Hid (MvAt w (((((v1.setCell ⟨w.heap.size + 1, 0, none⟩ (.int .i64 root)).setCell ⟨w.heap.size + 1, 1, none⟩ (.int .i64 ref)).setCell ⟨w.heap.size + 1, 2, none⟩ (.bool bef)).setCell ⟨w.heap.size + 1, 3, none⟩ (.int .u32 (sh : Int))).setCell ⟨w.heap.size + 1, 4, none⟩ (.slice vo rules.length vc)) (.slice (some ⟨b, off, none⟩) ns.length cap) root ref bef sh vo vc rules) := ⟨(five_other (by omega) _ _ _ _ _).trans g0, five_set g1 _ _ _ _ _, (five_other (by omega) _ _ _ _ _).trans g2, ownsRow_setCell_below (ownsRow_setCell_below (ownsRow_setCell_below (ownsRow_setCell_below (ownsRow_setCell_below hown (a := ⟨w.heap.size + 1, 0, none⟩) (by show w.heap.size + 1 < w.heap.size + 1 + 1 + 1; omega) _) (a := ⟨w.heap.size + 1, 1, none⟩) (by show w.heap.size + 1 < w.heap.size + 1 + 1 + 1; omega) _) (a := ⟨w.heap.size + 1, 2, none⟩) (by show w.heap.size + 1 < w.heap.size + 1 + 1 + 1; omega) _) (a := ⟨w.heap.size + 1, 3, none⟩) (by show w.heap.size + 1 < w.heap.size + 1 + 1 + 1; omega) _) (a := ⟨w.heap.size + 1, 4, none⟩) (by show w.heap.size + 1 < w.heap.size + 1 + 1 + 1; omega) _, (((((HB0.out.trans (hb.mono (by omega))).setCell (p := ⟨w.heap.size + 1, 0, none⟩) (Nat.le_succ _) _).setCell (p := ⟨w.heap.size + 1, 1, none⟩) (Nat.le_succ _) _).setCell (p := ⟨w.heap.size + 1, 2, none⟩) (Nat.le_succ _) _).setCell (p := ⟨w.heap.size + 1, 3, none⟩) (Nat.le_succ _) _).setCell (p := ⟨w.heap.size + 1, 4, none⟩) (Nat.le_succ _) _⟩
  clear hown hb g0 g1 g2 HB0 H0 H1 H2 HC
  obtain ⟨⟨q0, q1, q2, q3, q4⟩, y0, y1, y2, y3, y4⟩ := box5I HM.out.it
  have hst := HST.out
  have e5 : (bef == before) = true ∨ (bef == before) = false := by cases (bef == before) <;> simp
  rcases e5 with hbb | hbb
  · rw [hbb, if_pos rfl] at hst
    have hSr := HS.out ref _ hx HM.out.below
    rw [hst] at hSr
    clear hst
    go_wp2_with fail
    refine hSr.mono ?_
    rintro e v2 ⟨rfl, hb2⟩
    have HM1 := hid (HM.out.later hb2)
    clear hSr hb2 q0 q1 q2 q3 q4 y0 y1 y2 y3 y4 a0 a1 a2 a3 a4 z0 z1 z2 z3 z4 HM hbb
    go_upto_region 5 with fail
    have hSI : S = 0 ∨ I S := by
      have hst := HST.out
      split at hst
      · rw [← hst]; exact hG ref hx
      · rw [← hst]; exact .inr hx
    have HSI := hid hSI
    clear hSI HST
    have HFr : Hid (∀ V : World, _) := fun V => from_boxes S 36 #[.pointer (some ⟨bf, 0, none⟩), .pointer (some ⟨bi, 0, none⟩)] V
    have HT : Hid (∀ (V : World) (y : Int), I y → MvAt w V (.slice (some ⟨b, off, none⟩) ns.length cap) root ref bef sh vo vc rules → _) := fun V y hy hM => accepts_any b off cap ns y sh vo vc rules V HR.out (HF.out.later hM.below) (own_rules hM.row) hs hf (hI y hy)
    have HFi : Hid (∀ (V : World) (bh bs : Nat), MvAt w V (.slice (some ⟨b, off, none⟩) ns.length cap) root ref bef sh vo vc rules → (bh < V.heap.size ∧ bs < V.heap.size) → V.cell? ⟨bh, 0, none⟩ = some (.int .i64 S) → V.cell? ⟨bs, 0, none⟩ = some (.func (.func 36) #[] #[.pointer (some ⟨bf, 0, none⟩), .pointer (some ⟨bi, 0, none⟩)]) → _) := fun V bh bs hM hlt ch cs => firstPA_any bh bs bf bi (.agg #[.slice (some ⟨b, off, none⟩) ns.length cap, .int .u32 (sh : Int), .slice vo rules.length vc]) S f L I (fun y => verdictOf ns sh rules y == 1) V hlt.1 hlt.2 (fun y U hy hU => HS.out y U hy (hM.below.trans (hU.mono hM.below.size))) (fun y U hy hU => HT.out U y hy (hM.later hU)) hG hL (fun y hy => there_ne (hI y hy)) ch cs HSI.out
    clear HT
    obtain ⟨H, hH⟩ : ∃ H, firstB (fun y => verdictOf ns sh rules y == 1) (restL L S) = H := ⟨_, rfl⟩
    rw [hH] at HFi
    have HH := hid hH
    clear hH
    go_cut [11] (fun t wx => t = .int .i64 H ∧ MvAt w wx (.slice (some ⟨b, off, none⟩) ns.length cap) root ref bef sh vo vc rules)
    case first =>
      obtain ⟨⟨q0, q1, q2, q3, q4⟩, y0, y1, y2, y3, y4⟩ := box5I HM1.out.it
      obtain ⟨p0, p1⟩ := box_cell_l HM1.out.fo
      go_region_law (first
        | (refine wstep_call _ rfl (.tmp 23) (.tmp 24) 3 61 59 rfl (.int .i64 S) (.func (.func 36) #[] #[.pointer (some ⟨bf, 0, none⟩), .pointer (some ⟨bi, 0, none⟩)]) (by first | rfl | simp [Act.eval, Act.put]) (by first | rfl | simp [Act.eval, Act.put]) (enterFromI _ _ _) _ (HFr.out _) ?_; rintro e v3 ⟨bh, bs, rfl, hlt, ch, cs, hb⟩; refine ⟨_, rfl, ?_⟩; have HM3 := hid ((HM1.out.later (Below.refl _ _).drew).later hb); have HCH := hid (And.intro hlt (And.intro ch cs)); clear hlt ch cs hb; obtain ⟨⟨q0, q1, q2, q3, q4⟩, y0, y1, y2, y3, y4⟩ := box5I HM3.out.it; obtain ⟨p0, p1⟩ := box_cell_l HM3.out.fo)
        | (refine wstep_call _ rfl (.tmp 25) (.tmp 30) 98 93 58 rfl (.func (.func 85) #[] #[.pointer (some ⟨bh, 0, none⟩), .pointer (some ⟨bs, 0, none⟩)]) (.func (.func 60) #[.agg #[.slice (some ⟨b, off, none⟩) ns.length cap, .int .u32 (sh : Int), .slice vo rules.length vc]] #[]) (by first | rfl | simp [Act.eval, Act.put]) (by first | rfl | simp [Act.eval, Act.put]) (enterFirstI _ _ _) _ (HFi.out _ bh bs HM3.out HCH.out.1 HCH.out.2.1 HCH.out.2.2) ?_; rintro e v4 ⟨rfl, hb⟩; refine ⟨_, rfl, ?_⟩; have HM4 := hid (HM3.out.later hb); clear hb))
      all_goals
        go_wp2
        go_meet
        exact ⟨rfl, HM4.out⟩
    case rest =>
      obtain ⟨rfl, hM⟩ := hcut
      clear HFr HFi HM1
      obtain ⟨⟨q0, q1, q2, q3, q4⟩, y0, y1, y2, y3, y4⟩ := box5I hM.it
      obtain ⟨⟨r0, r1, r2, r3, r4⟩, s0, s1, s2, s3, s4⟩ := box5I hM.res
      have HM2 := hid hM
      clear hM
      by_cases h0 : H = 0
      · have n0 : (H != 0) = false := by rw [bne, h0]; rfl
        go_wp2
        exact bodyPost_ret (v := .tuple #[.agg #[.int .i64 root, .int .i64 ref, .bool bef, .int .u32 (sh : Int), .slice vo rules.length vc], .int .i64 H]) (by simp [results, Tryz.results30, go_sem, r0, r1, r2, r3, r4]) rfl ⟨H, HH.out.symm, vo, vc, by rw [show (H == 0) = true from beq_iff_eq.2 h0]; rfl, own_baseI (by omega) (ownsRow_setCell_below (ownsRow_setCell_below (ownsRow_setCell_below (ownsRow_setCell_below (ownsRow_setCell_below HM2.out.row (a := ⟨w.heap.size + 1 + 1, 0, none⟩) (by show w.heap.size + 1 + 1 < w.heap.size + 1 + 1 + 1; omega) _) (a := ⟨w.heap.size + 1 + 1, 1, none⟩) (by show w.heap.size + 1 + 1 < w.heap.size + 1 + 1 + 1; omega) _) (a := ⟨w.heap.size + 1 + 1, 2, none⟩) (by show w.heap.size + 1 + 1 < w.heap.size + 1 + 1 + 1; omega) _) (a := ⟨w.heap.size + 1 + 1, 3, none⟩) (by show w.heap.size + 1 + 1 < w.heap.size + 1 + 1 + 1; omega) _) (a := ⟨w.heap.size + 1 + 1, 4, none⟩) (by show w.heap.size + 1 + 1 < w.heap.size + 1 + 1 + 1; omega) _), (((((HM2.out.below.setCell (p := ⟨w.heap.size + 1 + 1, 0, none⟩) (by show w.heap.size ≤ w.heap.size + 1 + 1; omega) _).setCell (p := ⟨w.heap.size + 1 + 1, 1, none⟩) (by show w.heap.size ≤ w.heap.size + 1 + 1; omega) _).setCell (p := ⟨w.heap.size + 1 + 1, 2, none⟩) (by show w.heap.size ≤ w.heap.size + 1 + 1; omega) _).setCell (p := ⟨w.heap.size + 1 + 1, 3, none⟩) (by show w.heap.size ≤ w.heap.size + 1 + 1; omega) _).setCell (p := ⟨w.heap.size + 1 + 1, 4, none⟩) (by show w.heap.size ≤ w.heap.size + 1 + 1; omega) _)⟩
      · have n0 : (H != 0) = true := by rw [bne, beq_eq_false_iff_ne.2 h0]; rfl
        go_wp2
        exact bodyPost_ret (v := .tuple #[.agg #[.int .i64 root, .int .i64 H, .bool before, .int .u32 (sh : Int), .slice vo rules.length vc], .int .i64 H]) (by simp [results, Tryz.results30, go_sem, r0, r1, r2, r3, r4]) rfl ⟨H, HH.out.symm, vo, vc, by rw [show (H == 0) = false from beq_eq_false_iff_ne.2 h0]; rfl, own_baseI (by omega) (ownsRow_setCell_below (ownsRow_setCell_below (ownsRow_setCell_below (ownsRow_setCell_below (ownsRow_setCell_below (ownsRow_setCell_below (ownsRow_setCell_below HM2.out.row (a := ⟨w.heap.size + 1, 1, none⟩) (by show w.heap.size + 1 < w.heap.size + 1 + 1 + 1; omega) _) (a := ⟨w.heap.size + 1, 2, none⟩) (by show w.heap.size + 1 < w.heap.size + 1 + 1 + 1; omega) _) (a := ⟨w.heap.size + 1 + 1, 0, none⟩) (by show w.heap.size + 1 + 1 < w.heap.size + 1 + 1 + 1; omega) _) (a := ⟨w.heap.size + 1 + 1, 1, none⟩) (by show w.heap.size + 1 + 1 < w.heap.size + 1 + 1 + 1; omega) _) (a := ⟨w.heap.size + 1 + 1, 2, none⟩) (by show w.heap.size + 1 + 1 < w.heap.size + 1 + 1 + 1; omega) _) (a := ⟨w.heap.size + 1 + 1, 3, none⟩) (by show w.heap.size + 1 + 1 < w.heap.size + 1 + 1 + 1; omega) _) (a := ⟨w.heap.size + 1 + 1, 4, none⟩) (by show w.heap.size + 1 + 1 < w.heap.size + 1 + 1 + 1; omega) _), (((((((HM2.out.below.setCell (p := ⟨w.heap.size + 1, 1, none⟩) (by show w.heap.size ≤ w.heap.size + 1; omega) _).setCell (p := ⟨w.heap.size + 1, 2, none⟩) (by show w.heap.size ≤ w.heap.size + 1; omega) _).setCell (p := ⟨w.heap.size + 1 + 1, 0, none⟩) (by show w.heap.size ≤ w.heap.size + 1 + 1; omega) _).setCell (p := ⟨w.heap.size + 1 + 1, 1, none⟩) (by show w.heap.size ≤ w.heap.size + 1 + 1; omega) _).setCell (p := ⟨w.heap.size + 1 + 1, 2, none⟩) (by show w.heap.size ≤ w.heap.size + 1 + 1; omega) _).setCell (p := ⟨w.heap.size + 1 + 1, 3, none⟩) (by show w.heap.size ≤ w.heap.size + 1 + 1; omega) _).setCell (p := ⟨w.heap.size + 1 + 1, 4, none⟩) (by show w.heap.size ≤ w.heap.size + 1 + 1; omega) _)⟩
  · rw [hbb, if_neg Bool.false_ne_true] at hst
    subst hst
    go_upto_region 5 with fail
    have HM1 := HM
    clear q0 q1 q2 q3 q4 y0 y1 y2 y3 y4 a0 a1 a2 a3 a4 z0 z1 z2 z3 z4 HM hbb
    have hSI : ref = 0 ∨ I ref := .inr hx
    have HSI := hid hSI
    clear hSI HST
    have HFr : Hid (∀ V : World, _) := fun V => from_boxes ref 36 #[.pointer (some ⟨bf, 0, none⟩), .pointer (some ⟨bi, 0, none⟩)] V
    have HT : Hid (∀ (V : World) (y : Int), I y → MvAt w V (.slice (some ⟨b, off, none⟩) ns.length cap) root ref bef sh vo vc rules → _) := fun V y hy hM => accepts_any b off cap ns y sh vo vc rules V HR.out (HF.out.later hM.below) (own_rules hM.row) hs hf (hI y hy)
    have HFi : Hid (∀ (V : World) (bh bs : Nat), MvAt w V (.slice (some ⟨b, off, none⟩) ns.length cap) root ref bef sh vo vc rules → (bh < V.heap.size ∧ bs < V.heap.size) → V.cell? ⟨bh, 0, none⟩ = some (.int .i64 ref) → V.cell? ⟨bs, 0, none⟩ = some (.func (.func 36) #[] #[.pointer (some ⟨bf, 0, none⟩), .pointer (some ⟨bi, 0, none⟩)]) → _) := fun V bh bs hM hlt ch cs => firstPA_any bh bs bf bi (.agg #[.slice (some ⟨b, off, none⟩) ns.length cap, .int .u32 (sh : Int), .slice vo rules.length vc]) ref f L I (fun y => verdictOf ns sh rules y == 1) V hlt.1 hlt.2 (fun y U hy hU => HS.out y U hy (hM.below.trans (hU.mono hM.below.size))) (fun y U hy hU => HT.out U y hy (hM.later hU)) hG hL (fun y hy => there_ne (hI y hy)) ch cs HSI.out
    clear HT
    obtain ⟨H, hH⟩ : ∃ H, firstB (fun y => verdictOf ns sh rules y == 1) (restL L ref) = H := ⟨_, rfl⟩
    rw [hH] at HFi
    have HH := hid hH
    clear hH
    go_cut [11] (fun t wx => t = .int .i64 H ∧ MvAt w wx (.slice (some ⟨b, off, none⟩) ns.length cap) root ref bef sh vo vc rules)
    case first =>
      obtain ⟨⟨q0, q1, q2, q3, q4⟩, y0, y1, y2, y3, y4⟩ := box5I HM1.out.it
      obtain ⟨p0, p1⟩ := box_cell_l HM1.out.fo
      go_region_law (first
        | (refine wstep_call _ rfl (.tmp 23) (.tmp 24) 3 61 59 rfl (.int .i64 ref) (.func (.func 36) #[] #[.pointer (some ⟨bf, 0, none⟩), .pointer (some ⟨bi, 0, none⟩)]) (by first | rfl | simp [Act.eval, Act.put]) (by first | rfl | simp [Act.eval, Act.put]) (enterFromI _ _ _) _ (HFr.out _) ?_; rintro e v3 ⟨bh, bs, rfl, hlt, ch, cs, hb⟩; refine ⟨_, rfl, ?_⟩; have HM3 := hid ((HM1.out.later (Below.refl _ _).drew).later hb); have HCH := hid (And.intro hlt (And.intro ch cs)); clear hlt ch cs hb; obtain ⟨⟨q0, q1, q2, q3, q4⟩, y0, y1, y2, y3, y4⟩ := box5I HM3.out.it; obtain ⟨p0, p1⟩ := box_cell_l HM3.out.fo)
        | (refine wstep_call _ rfl (.tmp 25) (.tmp 30) 98 93 58 rfl (.func (.func 85) #[] #[.pointer (some ⟨bh, 0, none⟩), .pointer (some ⟨bs, 0, none⟩)]) (.func (.func 60) #[.agg #[.slice (some ⟨b, off, none⟩) ns.length cap, .int .u32 (sh : Int), .slice vo rules.length vc]] #[]) (by first | rfl | simp [Act.eval, Act.put]) (by first | rfl | simp [Act.eval, Act.put]) (enterFirstI _ _ _) _ (HFi.out _ bh bs HM3.out HCH.out.1 HCH.out.2.1 HCH.out.2.2) ?_; rintro e v4 ⟨rfl, hb⟩; refine ⟨_, rfl, ?_⟩; have HM4 := hid (HM3.out.later hb); clear hb))
      all_goals
        go_wp2
        go_meet
        exact ⟨rfl, HM4.out⟩
    case rest =>
      obtain ⟨rfl, hM⟩ := hcut
      clear HFr HFi HM1
      obtain ⟨⟨q0, q1, q2, q3, q4⟩, y0, y1, y2, y3, y4⟩ := box5I hM.it
      obtain ⟨⟨r0, r1, r2, r3, r4⟩, s0, s1, s2, s3, s4⟩ := box5I hM.res
      have HM2 := hid hM
      clear hM
      by_cases h0 : H = 0
      · have n0 : (H != 0) = false := by rw [bne, h0]; rfl
        go_wp2
        exact bodyPost_ret (v := .tuple #[.agg #[.int .i64 root, .int .i64 ref, .bool bef, .int .u32 (sh : Int), .slice vo rules.length vc], .int .i64 H]) (by simp [results, Tryz.results30, go_sem, r0, r1, r2, r3, r4]) rfl ⟨H, HH.out.symm, vo, vc, by rw [show (H == 0) = true from beq_iff_eq.2 h0]; rfl, own_baseI (by omega) (ownsRow_setCell_below (ownsRow_setCell_below (ownsRow_setCell_below (ownsRow_setCell_below (ownsRow_setCell_below HM2.out.row (a := ⟨w.heap.size + 1 + 1, 0, none⟩) (by show w.heap.size + 1 + 1 < w.heap.size + 1 + 1 + 1; omega) _) (a := ⟨w.heap.size + 1 + 1, 1, none⟩) (by show w.heap.size + 1 + 1 < w.heap.size + 1 + 1 + 1; omega) _) (a := ⟨w.heap.size + 1 + 1, 2, none⟩) (by show w.heap.size + 1 + 1 < w.heap.size + 1 + 1 + 1; omega) _) (a := ⟨w.heap.size + 1 + 1, 3, none⟩) (by show w.heap.size + 1 + 1 < w.heap.size + 1 + 1 + 1; omega) _) (a := ⟨w.heap.size + 1 + 1, 4, none⟩) (by show w.heap.size + 1 + 1 < w.heap.size + 1 + 1 + 1; omega) _), (((((HM2.out.below.setCell (p := ⟨w.heap.size + 1 + 1, 0, none⟩) (by show w.heap.size ≤ w.heap.size + 1 + 1; omega) _).setCell (p := ⟨w.heap.size + 1 + 1, 1, none⟩) (by show w.heap.size ≤ w.heap.size + 1 + 1; omega) _).setCell (p := ⟨w.heap.size + 1 + 1, 2, none⟩) (by show w.heap.size ≤ w.heap.size + 1 + 1; omega) _).setCell (p := ⟨w.heap.size + 1 + 1, 3, none⟩) (by show w.heap.size ≤ w.heap.size + 1 + 1; omega) _).setCell (p := ⟨w.heap.size + 1 + 1, 4, none⟩) (by show w.heap.size ≤ w.heap.size + 1 + 1; omega) _)⟩
      · have n0 : (H != 0) = true := by rw [bne, beq_eq_false_iff_ne.2 h0]; rfl
        go_wp2
        exact bodyPost_ret (v := .tuple #[.agg #[.int .i64 root, .int .i64 H, .bool before, .int .u32 (sh : Int), .slice vo rules.length vc], .int .i64 H]) (by simp [results, Tryz.results30, go_sem, r0, r1, r2, r3, r4]) rfl ⟨H, HH.out.symm, vo, vc, by rw [show (H == 0) = false from beq_eq_false_iff_ne.2 h0]; rfl, own_baseI (by omega) (ownsRow_setCell_below (ownsRow_setCell_below (ownsRow_setCell_below (ownsRow_setCell_below (ownsRow_setCell_below (ownsRow_setCell_below (ownsRow_setCell_below HM2.out.row (a := ⟨w.heap.size + 1, 1, none⟩) (by show w.heap.size + 1 < w.heap.size + 1 + 1 + 1; omega) _) (a := ⟨w.heap.size + 1, 2, none⟩) (by show w.heap.size + 1 < w.heap.size + 1 + 1 + 1; omega) _) (a := ⟨w.heap.size + 1 + 1, 0, none⟩) (by show w.heap.size + 1 + 1 < w.heap.size + 1 + 1 + 1; omega) _) (a := ⟨w.heap.size + 1 + 1, 1, none⟩) (by show w.heap.size + 1 + 1 < w.heap.size + 1 + 1 + 1; omega) _) (a := ⟨w.heap.size + 1 + 1, 2, none⟩) (by show w.heap.size + 1 + 1 < w.heap.size + 1 + 1 + 1; omega) _) (a := ⟨w.heap.size + 1 + 1, 3, none⟩) (by show w.heap.size + 1 + 1 < w.heap.size + 1 + 1 + 1; omega) _) (a := ⟨w.heap.size + 1 + 1, 4, none⟩) (by show w.heap.size + 1 + 1 < w.heap.size + 1 + 1 + 1; omega) _), (((((((HM2.out.below.setCell (p := ⟨w.heap.size + 1, 1, none⟩) (by show w.heap.size ≤ w.heap.size + 1; omega) _).setCell (p := ⟨w.heap.size + 1, 2, none⟩) (by show w.heap.size ≤ w.heap.size + 1; omega) _).setCell (p := ⟨w.heap.size + 1 + 1, 0, none⟩) (by show w.heap.size ≤ w.heap.size + 1 + 1; omega) _).setCell (p := ⟨w.heap.size + 1 + 1, 1, none⟩) (by show w.heap.size ≤ w.heap.size + 1 + 1; omega) _).setCell (p := ⟨w.heap.size + 1 + 1, 2, none⟩) (by show w.heap.size ≤ w.heap.size + 1 + 1; omega) _).setCell (p := ⟨w.heap.size + 1 + 1, 3, none⟩) (by show w.heap.size ≤ w.heap.size + 1 + 1; omega) _).setCell (p := ⟨w.heap.size + 1 + 1, 4, none⟩) (by show w.heap.size ≤ w.heap.size + 1 + 1; omega) _)⟩
end Go.Proofs.YticenjhhefiboaaGreat

namespace Go.Proofs.YticenjhhefiboaaGreat
open Go.RowKit Go.Lib Go.Shelf

/-- What Prev tells, 0 for none. -/
def prevT (ns : List NodeD) (root ref : Int) (bef : Bool) (sh : Nat) (rules : List RuleD) : Int := firstB (fun y => verdictOf ns sh rules y == 1) (restL (aheadA ns root) (if bef == true then aheadN ns root ref else ref))
theorem ahead_in {ns : List NodeD} (h : RightF ns) {root : Int} (hr : thereB ns.length root = true) {y : Int} (hy : thereB ns.length y = true ∧ root ∈ pathUp ns (parentD ns) y) : aheadN ns root y = 0 ∨ (thereB ns.length (aheadN ns root y) = true ∧ root ∈ pathUp ns (parentD ns) (aheadN ns root y)) := by
  rcases TourD.backD_good (tourA_ok h hr true) hy.1 with h0 | ⟨a, _, c, _⟩
  · exact .inl h0
  · exact .inr ⟨a, c hy.2⟩
theorem prevMoved (b off cap : Nat) (ns : List NodeD) (root ref : Int) (bef : Bool) (sh : Nat) (ro : Option Addr) (rc : Nat) (rules : List RuleD) (bf bi : Nat) (w : World) (hF : FAt w b off cap ns) (hru : RdR w (.slice ro rules.length rc) rules) (hs : sh < 4294967296) (hc : iterC ns root ref rules = 0) (hbf : bf < w.heap.size) (hbi : bi < w.heap.size) (cf : w.cell? ⟨bf, 0, none⟩ = some (.slice (some ⟨b, off, none⟩) ns.length cap)) (ci : w.cell? ⟨bi, 0, none⟩ = some (.int .i64 root)) :
    Calls Tryz.prog 30 #[.agg #[.slice (some ⟨b, off, none⟩) ns.length cap], .agg #[.int .i64 root, .int .i64 ref, .bool bef, .int .u32 (sh : Int), .slice ro rules.length rc], .bool true, .func (.func 36) #[] #[.pointer (some ⟨bf, 0, none⟩), .pointer (some ⟨bi, 0, none⟩)]] w fun e w' => ∃ o c, e = .returned (.tuple #[.agg #[.int .i64 root, .int .i64 (if prevT ns root ref bef sh rules == 0 then ref else prevT ns root ref bef sh rules), .bool (if prevT ns root ref bef sh rules == 0 then bef else true), .int .u32 (sh : Int), .slice o rules.length c], .int .i64 (prevT ns root ref bef sh rules)]) ∧ w'.ownsRow w.heap.size 86 3 (.slice o rules.length c) rules.length (rulesC rules) ∧ Below w.heap.size w w' := by
  obtain ⟨hR, hr, hf, hx, hin⟩ := iterC_ok hc
  refine (movedP_any b off cap ns root ref bef true sh ro rc rules bf bi (aheadN ns root) (aheadA ns root) (fun y => thereB ns.length y = true ∧ root ∈ pathUp ns (parentD ns) y) w hR hF hru hf hs (fun y V hy hV => prev1_any b off cap bf bi root y ns V hR (hF.later hV) hy.1 ((hV.cell (p := ⟨bf, 0, none⟩) hbf).trans cf) ((hV.cell (p := ⟨bi, 0, none⟩) hbi).trans ci)) (fun y hy => ahead_in hR hr hy) (fun y hy => ?_) (fun y hy => hy.1) ⟨hx, hin⟩).mono ?_
  · rw [ahead_step hR hr hy.1 hy.2]
    rfl
  · rintro e w' ⟨h, rfl, o, c, rfl, h1, h2⟩
    exact ⟨o, c, rfl, h1, h2⟩
set_option maxRecDepth 100000 in
set_option maxHeartbeats 4000000 in
theorem iprev_any (o : Option Addr) (cap : Nat) (ns : List NodeD) (root ref : Int) (bef : Bool) (sh : Nat) (ro : Option Addr) (rc : Nat) (rules : List RuleD) (w : World) (hF : FRd w o cap ns) (hkl : ∀ (i : Nat) (hi : i < ns.length), ns[i].kids.length ≤ 1099511627776) (hal : ∀ (i : Nat) (hi : i < ns.length), ns[i].attrs.length ≤ 1099511627776) (hru : RdR w (.slice ro rules.length rc) rules) (hrl : rules.length ≤ 1099511627776) (hs : sh < 4294967296) (hc : iterC ns root ref rules = 0) :
    Calls Tryz.prog 15 #[.agg #[.slice o ns.length cap], .agg #[.int .i64 root, .int .i64 ref, .bool bef, .int .u32 (sh : Int), .slice ro rules.length rc]] w fun e w' => ∃ o c, e = .returned (.tuple #[.agg #[.int .i64 root, .int .i64 (if prevT ns root ref bef sh rules == 0 then ref else prevT ns root ref bef sh rules), .bool (if prevT ns root ref bef sh rules == 0 then bef else true), .int .u32 (sh : Int), .slice o rules.length c], .int .i64 (prevT ns root ref bef sh rules), .int .i64 0]) ∧ w'.ownsRow w.heap.size 86 3 (.slice o rules.length c) rules.length (rulesC rules) ∧ Below w.heap.size w w' := by
  have HC : Hid (∀ W : World, Below w.heap.size w W → _) := fun W hW => icheck_any o cap ns root ref bef sh ro rc rules W (hF.later hW) hkl hal (hru.later hW) hrl hs
  rw [hc] at HC
  have hB0 : Below w.heap.size w (((w.alloc (.cells #[.slice o ns.length cap] 24)).alloc (.cells #[.int .i64 root, .int .i64 ref, .bool bef, .int .u32 (sh : Int), .slice ro rules.length rc] 30)).alloc (.cells #[.int .i64 0, .int .i64 0, .bool false, .int .u32 0, .slice none 0 0] 30)) := below_threeI w _ _ _
  have t0 : (((w.alloc (.cells #[.slice o ns.length cap] 24)).alloc (.cells #[.int .i64 root, .int .i64 ref, .bool bef, .int .u32 (sh : Int), .slice ro rules.length rc] 30)).alloc (.cells #[.int .i64 0, .int .i64 0, .bool false, .int .u32 0, .slice none 0 0] 30)).heap[w.heap.size]? = some (.cells #[.slice o ns.length cap] 24) := (Below.heap_alloc _ _ _ (by simp only [World.size_alloc]; omega)).trans ((Below.heap_alloc _ _ _ (by simp)).trans (heap_new w _))
  have t1 := (Below.heap_alloc _ (.cells #[.int .i64 0, .int .i64 0, .bool false, .int .u32 0, .slice none 0 0] 30) _ (by simp only [World.size_alloc]; omega)).trans (heap_new (w.alloc (.cells #[.slice o ns.length cap] 24)) (.cells #[.int .i64 root, .int .i64 ref, .bool bef, .int .u32 (sh : Int), .slice ro rules.length rc] 30))
  have t2 := heap_new ((w.alloc (.cells #[.slice o ns.length cap] 24)).alloc (.cells #[.int .i64 root, .int .i64 ref, .bool bef, .int .u32 (sh : Int), .slice ro rules.length rc] 30)) (.cells #[.int .i64 0, .int .i64 0, .bool false, .int .u32 0, .slice none 0 0] 30)
  simp only [World.size_alloc] at t1 t2
  obtain ⟨b, off, rfl, hFA⟩ := hF.at_ (by obtain ⟨_, _, _, hx, _⟩ := iterC_ok hc; obtain ⟨i, hi, _⟩ := there_idx hx; omega)
  have HMv : Hid (∀ (V : World), Below w.heap.size w V → V.heap[w.heap.size]? = some (.cells #[.slice (some ⟨b, off, none⟩) ns.length cap] 24) → V.heap[w.heap.size + 1]? = some (.cells #[.int .i64 root, .int .i64 ref, .bool bef, .int .u32 (sh : Int), .slice ro rules.length rc] 30) → _) := fun V hV h0 h1 => prevMoved b off cap ns root ref bef sh ro rc rules w.heap.size (w.heap.size + 1) V (hFA.later hV) (hru.later hV) hs hc (Array.getElem?_eq_some_iff.1 h0).1 (Array.getElem?_eq_some_iff.1 h1).1 (box_cell_l h0).1 (box5I h1).1.1
  have HB0 := hid hB0
  have H0 := hid t0
  have H1 := hid t1
  have H2 := hid t2
  clear hB0 t0 t1 t2 hFA hF hkl hal hru hc
  generalize prevT ns root ref bef sh rules = T at *
  generalize (if T == 0 then ref else T) = RF at *
  generalize (if T == 0 then bef else true) = BF at *
  go_enter Tryz.func15, Tryz.ntmps15
  go_wp2_with fail
  refine (HC.out _ HB0.out).mono ?_
  rintro e v1 ⟨rfl, hb⟩
  simp only [World.size_alloc] at hb
  have g0 := (hb.block w.heap.size (by omega)).trans H0.out
  have g1 := (hb.block (w.heap.size + 1) (by omega)).trans H1.out
  have g2 := (hb.block (w.heap.size + 1 + 1) (by omega)).trans H2.out
  have hV := HB0.out.trans (hb.mono (by omega))
  have hM := HMv.out v1 hV g0 g1
  obtain ⟨⟨a0, a1, a2, a3, a4⟩, z0, z1, z2, z3, z4⟩ := box5I g1
  obtain ⟨p0, p1⟩ := box_cell_l g0
  have HG2 := hid g2
  have HV := hid hV
  clear HC HB0 H0 H1 H2 hb HMv g0 g1 g2 hV
  go_wp2_with fail
  refine hM.mono ?_
  rintro e v2 ⟨vo, vc, rfl, hown, hb2⟩
  have g2 := (hb2.block _ (Array.getElem?_eq_some_iff.1 HG2.out).1).trans HG2.out
  have g3 := (Below.heap_alloc v2 (.cells #[.int .i64 root, .int .i64 RF, .bool BF, .int .u32 (sh : Int), .slice vo rules.length vc] 30) _ (Array.getElem?_eq_some_iff.1 g2).1).trans g2
  obtain ⟨⟨r0, r1, r2, r3, r4⟩, s0, s1, s2, s3, s4⟩ := box5I g3
  have hsz := (Array.getElem?_eq_some_iff.1 g2).1
  have hv1 := (Array.getElem?_eq_some_iff.1 HG2.out).1
  have HB2 := hid ((HV.out.trans (hb2.mono HV.out.size)).alloc (show w.heap.size ≤ v2.heap.size by omega) (.cells #[.int .i64 root, .int .i64 RF, .bool BF, .int .u32 (sh : Int), .slice vo rules.length vc] 30))
  have HO := hid (hown.alloc (.cells #[.int .i64 root, .int .i64 RF, .bool BF, .int .u32 (sh : Int), .slice vo rules.length vc] 30))
  clear hM hown hb2 g2 g3 a0 a1 a2 a3 a4 z0 z1 z2 z3 z4 p0 p1 HG2
  have g4 := heap_new v2 (.cells #[.int .i64 root, .int .i64 RF, .bool BF, .int .u32 (sh : Int), .slice vo rules.length vc] 30)
  obtain ⟨⟨n0, n1, n2, n3, n4⟩, m0, m1, m2, m3, m4⟩ := box5I g4
  clear g4
  go_upto_region 5 with fail
  generalize v2.alloc (.cells #[.int .i64 root, .int .i64 RF, .bool BF, .int .u32 (sh : Int), .slice vo rules.length vc] 30) = W at *
  go_wp2
  exact bodyPost_ret (v := .tuple #[.agg #[.int .i64 root, .int .i64 RF, .bool BF, .int .u32 (sh : Int), .slice vo rules.length vc], .int .i64 T, .int .i64 0]) (by simp [results, Tryz.results15, go_sem, r0, r1, r2, r3, r4]) rfl ⟨vo, vc, rfl, own_baseI (by omega) (ownsRow_setCell_below (ownsRow_setCell_below (ownsRow_setCell_below (ownsRow_setCell_below (ownsRow_setCell_below HO.out (a := ⟨w.heap.size + 1 + 1, 0, none⟩) (by show w.heap.size + 1 + 1 < v1.heap.size; omega) _) (a := ⟨w.heap.size + 1 + 1, 1, none⟩) (by show w.heap.size + 1 + 1 < v1.heap.size; omega) _) (a := ⟨w.heap.size + 1 + 1, 2, none⟩) (by show w.heap.size + 1 + 1 < v1.heap.size; omega) _) (a := ⟨w.heap.size + 1 + 1, 3, none⟩) (by show w.heap.size + 1 + 1 < v1.heap.size; omega) _) (a := ⟨w.heap.size + 1 + 1, 4, none⟩) (by show w.heap.size + 1 + 1 < v1.heap.size; omega) _), (((((HB2.out.setCell (p := ⟨w.heap.size + 1 + 1, 0, none⟩) (by show w.heap.size ≤ w.heap.size + 1 + 1; omega) _).setCell (p := ⟨w.heap.size + 1 + 1, 1, none⟩) (by show w.heap.size ≤ w.heap.size + 1 + 1; omega) _).setCell (p := ⟨w.heap.size + 1 + 1, 2, none⟩) (by show w.heap.size ≤ w.heap.size + 1 + 1; omega) _).setCell (p := ⟨w.heap.size + 1 + 1, 3, none⟩) (by show w.heap.size ≤ w.heap.size + 1 + 1; omega) _).setCell (p := ⟨w.heap.size + 1 + 1, 4, none⟩) (by show w.heap.size ≤ w.heap.size + 1 + 1; omega) _)⟩
end Go.Proofs.YticenjhhefiboaaGreat

namespace Go.Proofs.YticenjhhefiboaaGreat
open Go.RowKit Go.Lib Go.Shelf

section
variable {ns : List NodeD} {root ref : Int} {bef : Bool} {sh : Nat} {rules : List RuleD}
theorem iterC_of (hR : RightF ns) (hr : thereB ns.length root = true) (hf : filterE rules = 0) (hx : thereB ns.length ref = true) (hin : root ∈ pathUp ns (parentD ns) ref) : iterC ns root ref rules = 0 := by
  unfold iterC iterE
  rw [(rightD_iff ns).2 hR, if_pos rfl, hr, if_pos rfl, if_pos hf, hx, decide_eq_true hin]
  rfl
end
end Go.Proofs.YticenjhhefiboaaGreat

namespace Go.Proofs.YticenjhhefiboaaGreat
open Go.RowKit Go.Lib Go.Shelf

end Go.Proofs.YticenjhhefiboaaGreat

namespace Go.Proofs.YticenjhhefiboaaGreat
open Go.RowKit Go.Lib Go.Shelf

def blankI : NodeD := ⟨0, ⟨#[]⟩, ⟨#[]⟩, ⟨#[]⟩, ⟨#[]⟩, ⟨#[]⟩, [], [], 0, [], 0, 0, 0, 0, false, false⟩
/-- A document, an element in it, two texts in that. -/
def smallIs : List NodeD := [{ blankI with kind := 9, kids := [2], doc := 1 }, { blankI with kind := 1, loc := ⟨#[97]⟩, parent := 1, kids := [3, 4], doc := 1 }, { blankI with kind := 3, data := [65], parent := 2, doc := 1 }, { blankI with kind := 3, data := [66], parent := 2, doc := 1 }]
theorem oneI_rdI {W : World} {g : Nat} {x : Int} {t : TypeId} (h : W.heap[g]? = some (.cells #[.int .i64 x] t (0, 0))) : RdI W (.slice (some ⟨g, 0, none⟩) 1 1) [x] :=
  ⟨_, 1, rfl, Nat.le_refl _, fun _ => ⟨g, 0, rfl, (Array.getElem?_eq_some_iff.1 h).1, fun j hj => by
    match j, hj with
    | 0, _ => rw [cell_of_heap h]; rfl⟩⟩
theorem twoI_rdI {W : World} {g : Nat} {x y : Int} {t : TypeId} (h : W.heap[g]? = some (.cells #[.int .i64 x, .int .i64 y] t (0, 0))) : RdI W (.slice (some ⟨g, 0, none⟩) 2 2) [x, y] :=
  ⟨_, 2, rfl, Nat.le_refl _, fun _ => ⟨g, 0, rfl, (Array.getElem?_eq_some_iff.1 h).1, fun j hj => by
    match j, hj with
    | 0, _ => rw [cell_of_heap h]; rfl
    | 1, _ => rw [cell_of_heap h]; rfl⟩⟩
theorem oneI_rdN {W : World} {g x : Nat} {t : TypeId} (h : W.heap[g]? = some (.cells #[.int .u16 (x : Int)] t (0, 0))) : RdN W (.slice (some ⟨g, 0, none⟩) 1 1) [x] :=
  ⟨_, 1, rfl, Nat.le_refl _, fun _ => ⟨g, 0, rfl, (Array.getElem?_eq_some_iff.1 h).1, fun j hj => by
    match j, hj with
    | 0, _ => rw [cell_of_heap h]; rfl⟩⟩
theorem smallI_at {W : World} {b g1 g2 g3 g4 : Nat} {t1 t2 t3 t4 t : TypeId} (h1 : W.heap[g1]? = some (.cells #[.int .i64 2] t1 (0, 0))) (h2 : W.heap[g2]? = some (.cells #[.int .i64 3, .int .i64 4] t2 (0, 0))) (h3 : W.heap[g3]? = some (.cells #[.int .u16 65] t3 (0, 0))) (h4 : W.heap[g4]? = some (.cells #[.int .u16 66] t4 (0, 0)))
    (h : W.heap[b]? = some (.cells #[.int .u8 9, .string ⟨#[]⟩, .string ⟨#[]⟩, .string ⟨#[]⟩, .string ⟨#[]⟩, .string ⟨#[]⟩, .slice none 0 0, .slice none 0 0, .int .i64 0, .slice (some ⟨g1, 0, none⟩) 1 1, .int .i64 1, .int .i64 0, .int .i64 0, .int .u8 0, .bool false, .bool false, .int .u8 1, .string ⟨#[]⟩, .string ⟨#[]⟩, .string ⟨#[97]⟩, .string ⟨#[]⟩, .string ⟨#[]⟩, .slice none 0 0, .slice none 0 0, .int .i64 1, .slice (some ⟨g2, 0, none⟩) 2 2, .int .i64 1, .int .i64 0, .int .i64 0, .int .u8 0, .bool false, .bool false, .int .u8 3, .string ⟨#[]⟩, .string ⟨#[]⟩, .string ⟨#[]⟩, .string ⟨#[]⟩, .string ⟨#[]⟩, .slice (some ⟨g3, 0, none⟩) 1 1, .slice none 0 0, .int .i64 2, .slice none 0 0, .int .i64 1, .int .i64 0, .int .i64 0, .int .u8 0, .bool false, .bool false, .int .u8 3, .string ⟨#[]⟩, .string ⟨#[]⟩, .string ⟨#[]⟩, .string ⟨#[]⟩, .string ⟨#[]⟩, .slice (some ⟨g4, 0, none⟩) 1 1, .slice none 0 0, .int .i64 2, .slice none 0 0, .int .i64 1, .int .i64 0, .int .i64 0, .int .u8 0, .bool false, .bool false] t (0, 0))) : FAt W b 0 4 smallIs := by
  refine ⟨(Array.getElem?_eq_some_iff.1 h).1, by decide, by decide, fun i hi => ?_⟩
  match i, hi with
  | 0, _ => exact ⟨⟨.slice none 0 0, .slice none 0 0, .slice (some ⟨g1, 0, none⟩) 1 1⟩, by constructor <;> (rw [cell_of_heap h]; rfl), nil_rdN W, nil_rdA W, oneI_rdI h1⟩
  | 1, _ => exact ⟨⟨.slice none 0 0, .slice none 0 0, .slice (some ⟨g2, 0, none⟩) 2 2⟩, by constructor <;> (rw [cell_of_heap h]; rfl), nil_rdN W, nil_rdA W, twoI_rdI h2⟩
  | 2, _ => exact ⟨⟨.slice (some ⟨g3, 0, none⟩) 1 1, .slice none 0 0, .slice none 0 0⟩, by constructor <;> (rw [cell_of_heap h]; rfl), oneI_rdN h3, nil_rdA W, nil_rdI W⟩
  | 3, _ => exact ⟨⟨.slice (some ⟨g4, 0, none⟩) 1 1, .slice none 0 0, .slice none 0 0⟩, by constructor <;> (rw [cell_of_heap h]; rfl), oneI_rdN h4, nil_rdA W, nil_rdI W⟩
theorem sixI_below (w : World) (a b c d e f : Obj) : Below w.heap.size w ((((((w.alloc a).alloc b).alloc c).alloc d).alloc e).alloc f) :=
  ((((((Below.refl _ w).alloc (Nat.le_refl _) a).alloc (by simp) b).alloc (by simp; omega) c).alloc (by simp; omega) d).alloc (by simp; omega) e).alloc (by simp; omega) f

set_option maxRecDepth 100000 in
set_option maxHeartbeats 4000000 in
theorem smallI_any (w : World) :
    Calls Tryz.prog 28 #[] w fun e w' => ∃ b : Nat, e = .returned (.agg #[.slice (some ⟨b, 0, none⟩) 4 4]) ∧ FAt w' b 0 4 smallIs ∧ Below w.heap.size w w' := by
  go_enter Tryz.func28, Tryz.ntmps28
  go_wp2
  exact bodyPost_ret (v := .agg #[.slice (some ⟨w.heap.size + 1 + 1 + 1 + 1 + 1, 0, none⟩) 4 4]) (by simp [results, Tryz.results28, go_sem]) rfl ⟨_, rfl, smallI_at (six_1 _ _ _ _ _ _ _) (six_2 _ _ _ _ _ _ _) (six_3 _ _ _ _ _ _ _) (six_4 _ _ _ _ _ _ _) (six_5 _ _ _ _ _ _ _), sixI_below _ _ _ _ _ _ _⟩
theorem smallI_right : rightD smallIs = true := by decide +kernel
theorem smallI_checks : iterC smallIs 1 1 [] = 0 ∧ iterC smallIs 1 3 [] = 0 := by decide +kernel
theorem smallI_next : nextT smallIs 1 1 true 4294967295 [] = 1 := by decide +kernel
theorem smallI_rem : remR smallIs 1 3 false 3 = (2, false) := by decide +kernel
end Go.Proofs.YticenjhhefiboaaGreat

namespace Go.Proofs.YticenjhhefiboaaGreat
open Go.RowKit Go.Lib Go.Shelf

theorem at_rdT {w : World} {b off cap : Nat} {ns : List NodeD} (h : FAt w b off cap ns) : FRd w (some ⟨b, off, none⟩) cap ns := ⟨h.len, fun _ => ⟨b, off, rfl, h⟩⟩
theorem smallI_kids : ∀ (i : Nat) (hi : i < smallIs.length), smallIs[i].kids.length ≤ 1099511627776 := fun i hi => of_decide_eq_true (List.all_eq_true.1 (show smallIs.all (fun n => decide (n.kids.length ≤ 1099511627776)) = true by decide +kernel) smallIs[i] (List.getElem_mem hi))
theorem smallI_attrs : ∀ (i : Nat) (hi : i < smallIs.length), smallIs[i].attrs.length ≤ 1099511627776 := fun i hi => of_decide_eq_true (List.all_eq_true.1 (show smallIs.all (fun n => decide (n.attrs.length ≤ 1099511627776)) = true by decide +kernel) smallIs[i] (List.getElem_mem hi))
theorem nil_rdT (W : World) (o : Option Addr) (c : Nat) : RdR W (.slice o ([] : List RuleD).length c) [] := ⟨o, c, rfl, Nat.zero_le _, fun h => absurd h (Nat.lt_irrefl _)⟩

set_option maxRecDepth 100000 in
set_option maxHeartbeats 8000000 in
theorem beginsI_true (w : World) : Calls Tryz.prog 12 #[] w fun e w' => e = .returned (.bool true) ∧ Below w.heap.size w w' := by
  have HR : Hid (∀ (b : Nat) (W : World), FAt W b 0 4 smallIs → Calls Tryz.prog 29 #[.agg #[.slice (some ⟨b, 0, none⟩) 4 4]] W fun e w' => e = .returned (.bool true) ∧ Below W.heap.size W w') := fun b W h => by
    have := refRight_any (some ⟨b, 0, none⟩) 4 smallIs W (at_rdT h) smallI_kids smallI_attrs
    rw [smallI_right] at this
    exact this
  have HN : Hid (∀ (b : Nat) (W : World), FAt W b 0 4 smallIs → Calls Tryz.prog 7 #[.agg #[.slice (some ⟨b, 0, none⟩) 4 4], .int .i64 1, .agg #[.int .u32 4294967295, .slice none 0 0]] W fun e w' => ∃ o c, e = .returned (.tuple #[.agg #[.int .i64 1, .int .i64 1, .bool true, .int .u32 4294967295, .slice o 0 c], .int .i64 0]) ∧ Below W.heap.size W w') := fun b W h =>
    (inew_any (some ⟨b, 0, none⟩) 4 smallIs 1 4294967295 none 0 [] W (at_rdT h) smallI_kids smallI_attrs (nil_rdT W _ _) (by decide) (by decide) smallI_checks.1).mono (fun _ _ ⟨o, c, h1, _, h3⟩ => ⟨o, c, h1, h3⟩)
  have HX : Hid (∀ (b : Nat) (o : Option Addr) (c : Nat) (W : World), FAt W b 0 4 smallIs → Calls Tryz.prog 13 #[.agg #[.slice (some ⟨b, 0, none⟩) 4 4], .agg #[.int .i64 1, .int .i64 1, .bool true, .int .u32 4294967295, .slice o 0 c]] W fun e w' => ∃ o c, e = .returned (.tuple #[.agg #[.int .i64 1, .int .i64 1, .bool false, .int .u32 4294967295, .slice o 0 c], .int .i64 1, .int .i64 0]) ∧ Below W.heap.size W w') := fun b o c W h => by
    have := inext_any (some ⟨b, 0, none⟩) 4 smallIs 1 1 true 4294967295 o c [] W (at_rdT h) smallI_kids smallI_attrs (nil_rdT W _ _) (by decide) (by decide) smallI_checks.1
    rw [smallI_next] at this
    exact this.mono (fun _ _ ⟨o, c, h1, _, h3⟩ => ⟨o, c, h1, h3⟩)
  have HM : Hid (∀ (b : Nat) (o : Option Addr) (c : Nat) (W : World), FAt W b 0 4 smallIs → Calls Tryz.prog 17 #[.agg #[.slice (some ⟨b, 0, none⟩) 4 4], .agg #[.int .i64 1, .int .i64 3, .bool false, .int .u32 4294967295, .slice o 0 c], .int .i64 3] W fun e w' => ∃ o c, e = .returned (.tuple #[.agg #[.int .i64 1, .int .i64 2, .bool false, .int .u32 4294967295, .slice o 0 c], .int .i64 0]) ∧ Below W.heap.size W w') := fun b o c W h => by
    have := irem_any (some ⟨b, 0, none⟩) 4 smallIs 1 3 false 4294967295 o c [] 3 W (at_rdT h) smallI_kids smallI_attrs (nil_rdT W _ _) (by decide) (by decide) smallI_checks.2 (by decide)
    rw [smallI_rem] at this
    exact this.mono (fun _ _ ⟨o, c, h1, _, h3⟩ => ⟨o, c, h1, h3⟩)
  have HS := hid (smallI_any w)
  go_enter Tryz.func12, Tryz.ntmps12
  go_wp2_with fail
  refine HS.out.mono ?_
  rintro e v1 ⟨b, rfl, hF, hB⟩
  have HB1 := hid hB
  have HF1 := hid hF
  have n1 := heap_new v1 (.cells #[.slice (some ⟨b, 0, none⟩) 4 4] 24)
  have b1 : Below v1.heap.size v1 (v1.alloc (.cells #[.slice (some ⟨b, 0, none⟩) 4 4] 24)) := (Below.refl _ v1).alloc (Nat.le_refl _) _
  have c1 := (box_cell_l n1).1
  have HB2 := hid (hB.trans (b1.mono hB.size))
  have HF2 := hid (hF.later b1)
  have N1 := hid n1
  have hv := heap_lt n1
  clear hB hF n1 b1 HS HB1 HF1
  go_upto_region 2 with fail
  generalize v1.alloc (.cells #[.slice (some ⟨b, 0, none⟩) 4 4] 24) = V1 at *
  go_wp2_with fail
  refine (HR.out b V1 HF2.out).mono ?_
  rintro e v2 ⟨rfl, hb⟩
  have N2 := hid (keep_blk hb N1.out)
  have c2 := (box_cell_l N2.out).1
  have HB3 := hid (HB2.out.trans (hb.mono HB2.out.size))
  have HF3 := hid (HF2.out.later hb)
  clear hb c1 N1 HR HB2 HF2
  go_wp2_with fail
  refine (HN.out b v2 HF3.out).mono ?_
  rintro e v3 ⟨o1, c1, rfl, hb⟩
  have b3 : Below v3.heap.size v3 (v3.alloc (.cells #[.int .i64 1, .int .i64 1, .bool true, .int .u32 4294967295, .slice o1 0 c1] 30)) := (Below.refl _ v3).alloc (Nat.le_refl _) _
  have N3 := hid (keep_blk b3 (keep_blk hb N2.out))
  have n3 := heap_new v3 (.cells #[.int .i64 1, .int .i64 1, .bool true, .int .u32 4294967295, .slice o1 0 c1] 30)
  have M3 := hid n3
  have d3 := (box_cell_l N3.out).1
  obtain ⟨⟨i0, i1, i2, i3, i4⟩, _⟩ := box5I n3
  have HB4 := hid ((HB3.out.trans (hb.mono HB3.out.size)).trans (b3.mono (HB3.out.trans (hb.mono HB3.out.size)).size))
  have HF4 := hid ((HF3.out.later hb).later b3)
  clear hb b3 n3 c2 N2 HN HB3 HF3
  go_upto_region 5 with fail
  generalize v3.alloc (.cells #[.int .i64 1, .int .i64 1, .bool true, .int .u32 4294967295, .slice o1 0 c1] 30) = V3 at *
  go_wp2_with fail
  refine (HX.out b o1 c1 V3 HF4.out).mono ?_
  rintro e v4 ⟨o2, c2, rfl, hb⟩
  have b4 : Below v4.heap.size v4 (v4.alloc (.cells #[.int .i64 1, .int .i64 1, .bool false, .int .u32 4294967295, .slice o2 0 c2] 30)) := (Below.refl _ v4).alloc (Nat.le_refl _) _
  have N4 := hid (keep_blk b4 (keep_blk hb N3.out))
  have M4 := hid (keep_blk b4 (keep_blk hb M3.out))
  have n4 := heap_new v4 (.cells #[.int .i64 1, .int .i64 1, .bool false, .int .u32 4294967295, .slice o2 0 c2] 30)
  have L4 := hid n4
  have d4 := (box_cell_l N4.out).1
  obtain ⟨⟨j0, j1, j2, j3, j4⟩, _⟩ := box5I M4.out
  obtain ⟨⟨k0, k1, k2, k3, k4⟩, _⟩ := box5I n4
  have HB5 := hid ((HB4.out.trans (hb.mono HB4.out.size)).trans (b4.mono (HB4.out.trans (hb.mono HB4.out.size)).size))
  have HF5 := hid ((HF4.out.later hb).later b4)
  clear hb b4 n4 d3 i0 i1 i2 i3 i4 N3 M3 HX HB4 HF4
  go_upto_region 6 with fail
  generalize v4.alloc (.cells #[.int .i64 1, .int .i64 1, .bool false, .int .u32 4294967295, .slice o2 0 c2] 30) = V4 at *
  go_wp2_with fail
  refine (HM.out b o1 c1 V4 HF5.out).mono ?_
  rintro e v5 ⟨o3, c3, rfl, hb⟩
  have b5 : Below v5.heap.size v5 (v5.alloc (.cells #[.int .i64 1, .int .i64 2, .bool false, .int .u32 4294967295, .slice o3 0 c3] 30)) := (Below.refl _ v5).alloc (Nat.le_refl _) _
  have M5 := keep_blk b5 (keep_blk hb M4.out)
  have L5 := keep_blk b5 (keep_blk hb L4.out)
  have n5 := heap_new v5 (.cells #[.int .i64 1, .int .i64 2, .bool false, .int .u32 4294967295, .slice o3 0 c3] 30)
  obtain ⟨⟨p0, p1, p2, p3, p4⟩, _⟩ := box5I M5
  obtain ⟨⟨q0, q1, q2, q3, q4⟩, _⟩ := box5I L5
  obtain ⟨⟨r0, r1, r2, r3, r4⟩, _⟩ := box5I n5
  have HB6 := hid ((HB5.out.trans (hb.mono HB5.out.size)).trans (b5.mono (HB5.out.trans (hb.mono HB5.out.size)).size))
  clear hb b5 n5 d4 j0 j1 j2 j3 j4 k0 k1 k2 k3 k4 N4 M4 L4 HM HB5 HF5 M5 L5
  go_upto_region 7 with fail
  generalize v5.alloc (.cells #[.int .i64 1, .int .i64 2, .bool false, .int .u32 4294967295, .slice o3 0 c3] 30) = V5 at *
  go_wp2
  go_ret
  exact ⟨rfl, HB6.out⟩
end Go.Proofs.YticenjhhefiboaaGreat

