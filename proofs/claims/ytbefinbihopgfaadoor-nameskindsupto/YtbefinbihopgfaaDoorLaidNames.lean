/- From what the rows list of the variables to what the walks ask. -/
import Derived.Test.YtbefinbihopgfaaDoorKinds
import Derived.Test.YtbefinbihopgfaaDoorRows
import Derived.Lib.LaidU8T
import GoSem.PinnedTables
import Derived.OpenShut
import Derived.Deep.Strs
import Derived.ProofKit
namespace Go.Proofs.YtbefinbihopgfaaDoor
open Go.RowKit Go.Lib Go.Deep Go.Shelf

theorem cells_span : Tryd.prog.cellsOf 86 = 3 := by kernel_rfl
theorem cells_rune : Tryd.prog.cellsOf 21 = 1 := by kernel_rfl
theorem cells_bool : Tryd.prog.cellsOf 4 = 1 := by kernel_rfl
theorem cells_spans : Tryd.prog.cellsOf 104 = 63 := by kernel_rfl

def spanData : Int × Int × Bool → DataW Unit := fun s => .agg [.lit (.int .i32 s.1), .lit (.int .i32 s.2.1), .lit (.bool s.2.2)]

theorem span_elem {w : World} {base fuel : Nat} {sp : Nat → Bool} {held : Bool} {enc : TypeId × Value → Unit} {cs : List Value} {s : Int × Int × Bool} {p : List MemPlace}
    (h : DataW.trod enc Tryd.prog w base sp held fuel 86 cs = some (spanData s, p)) : cs = [.int .i32 s.1, .int .i32 s.2.1, .bool s.2.2] := by
  obtain ⟨y0, y1, y2, n, hx, hl, h0, h1, h2⟩ := trod_struct3 Tryd.underlying86 h
  rw [cells_span] at hl
  simp only [cells_rune, cells_bool] at h0 h1 h2
  obtain ⟨a, e0, rfl, _⟩ := DataW.trod_int Tryd.underlying21 h0
  obtain ⟨b, e1, rfl, _⟩ := DataW.trod_int Tryd.underlying21 h1
  obtain ⟨c, e2, rfl⟩ := DataW.trod_bool Tryd.underlying4 h2
  obtain ⟨c0, c1, c2, rfl⟩ : ∃ c0 c1 c2, cs = [c0, c1, c2] := by
    match cs, hl with
    | [c0, c1, c2], _ => exact ⟨c0, c1, c2, rfl⟩
  simp at e0 e1 e2
  simp only [spanData, Prod.mk.injEq, DataW.agg.injEq, List.cons.injEq, DataW.lit.injEq, Lit.int.injEq, Lit.bool.injEq, true_and, and_true] at hx
  obtain ⟨⟨r1, r2, r3⟩, _⟩ := hx
  rw [e0, e1, e2, r1, r2, r3]

theorem chunks : ∀ (tab : List (Int × Int × Bool)) (cs : List Value), cs.length = 3 * tab.length →
    (∀ (i : Nat) (h : i < tab.length), (cs.drop (i * 3)).take 3 = [.int .i32 tab[i].1, .int .i32 tab[i].2.1, .bool tab[i].2.2]) → cs = spanCellsOf tab
  | [], cs, hl, _ => by
    have : cs = [] := List.eq_nil_of_length_eq_zero (by simpa using hl)
    rw [this]; rfl
  | s :: tab, cs, hl, h => by
    have h0 := h 0 (by simp)
    simp only [Nat.zero_mul, List.drop_zero, List.getElem_cons_zero] at h0
    have hr := chunks tab (cs.drop 3) (by rw [List.length_drop, hl, List.length_cons]; omega) (fun i hi => by
      have := h (i + 1) (by simpa using hi)
      rw [List.drop_drop]
      simpa [Nat.add_mul, Nat.add_comm] using this)
    unfold spanCellsOf
    rw [← hr]
    have : cs = cs.take 3 ++ cs.drop 3 := (List.take_append_drop 3 cs).symm
    rw [this, h0]
    simp

theorem spans_read {w : World} (h : VarReads Tryd.prog w "canopy/names.spans" (.agg (spanTab.map spanData))) : ∃ tt fz, w.heap[2]? = some (.cells spanCells tt fz) := by
  obtain ⟨g, t, cs, fuel, p, hg, hty, hvar, hd⟩ := h
  obtain rfl := Option.some.inj ((show Tryd.prog.globalNamed "canopy/names.spans" = some 2 by kernel_rfl).symm.trans hg)
  obtain rfl := Option.some.inj ((show (Tryd.prog.globals[2]?).map (·.type) = some 104 by kernel_rfl).symm.trans hty)
  obtain ⟨xs, m, _, hx, hl, hxl, hall⟩ := DataW.trod_array Tryd.underlying104 hd
  rw [cells_spans] at hl
  simp only [cells_span] at hall
  have hxs : xs.map (·.1) = spanTab.map spanData := by
    have := congrArg Prod.fst hx
    simpa using this.symm
  have hcs : cs.toList = spanCellsOf spanTab := by
    refine chunks spanTab cs.toList hl (fun i hi => ?_)
    have hi' : i < 21 := hi
    have h1 := hall i hi'
    obtain ⟨b, hb⟩ : ∃ b, xs[i]? = some b := ⟨xs[i]'(by omega), List.getElem?_eq_getElem (by omega)⟩
    rw [hb] at h1
    have h2 : (xs.map (·.1))[i]? = some b.1 := by simp [hb]
    rw [hxs, List.getElem?_map, List.getElem?_eq_getElem hi] at h2
    simp only [Option.map_some, Option.some.injEq] at h2
    obtain ⟨b1, b2⟩ := b
    subst h2
    exact span_elem h1
  have hce : cs = spanCells := by
    unfold spanCells
    rw [← hcs]
  rw [hce] at hvar
  unfold World.var? at hvar
  rw [hg] at hvar
  simp only [Option.bind_some] at hvar
  split at hvar
  · rename_i cs' t' f' he
    simp only [Option.some.injEq] at hvar
    rw [hvar] at he
    exact ⟨t', f', he⟩
  · cases hvar

theorem xU8 : U8Extra Tryd.prog Tryd.laysValid_ren := ⟨by kernel_rfl, by kernel_rfl, by kernel_rfl, by kernel_rfl, by kernel_rfl, by kernel_rfl, by kernel_rfl⟩
theorem first_eq : Go.Pinned.utf8First = Lib.firstData := by kernel_rfl
theorem accept_eq : (Rows.laid_unicode_utf8_acceptRanges : DataW Unit) = Lib.acceptData := by kernel_rfl
theorem spans_eq : (Rows.laid_canopy_names_spans : DataW Unit) = .agg (spanTab.map spanData) := by kernel_rfl

def laidAll : List (String × DataW Unit) := [("unicode/utf8.acceptRanges", Rows.laid_unicode_utf8_acceptRanges), ("canopy/names.spans", Rows.laid_canopy_names_spans), ("unicode/utf8.first", Rows.laid_unicode_utf8_first)]

theorem laid_of_met {w : World} (h : laidMet Tryd.prog laidAll w) : Laid w :=
  ⟨spans_read (spans_eq ▸ Lib.laidMet.reads h (.tail _ (.head _))),
   utf8Tabs_of_readsT (U8Types.of196 Tryd.laysValid) xU8 (show VarReads Tryd.prog w "unicode/utf8.first" Lib.firstData from first_eq ▸ Lib.laidMet.reads h (.tail _ (.tail _ (.head _)))) (accept_eq ▸ Lib.laidMet.reads h (.head _))⟩
end Go.Proofs.YtbefinbihopgfaaDoor
