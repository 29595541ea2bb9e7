/- listen: kept. -/
import Derived.Test.YtgelclbjbjpacaaLnC
namespace Go.Proofs.Ytgelclbjbjpacaa
open Go.RowKit Go.Lib Go.Shelf

theorem filter_step {α : Type} (q : α → Bool) (l : List α) (j : Nat) (h : j < l.length) : (l.take (j + 1)).filter q = (l.take j).filter q ++ (if q l[j] = true then [l[j]] else []) := by
  rw [List.take_add_one, List.getElem?_eq_getElem h, List.filter_append]
  congr 1
  show [l[j]].filter q = _
  rw [List.filter_cons, List.filter_nil]
theorem set_box {W : World} {g k : Nat} {v : Value} {t : TypeId} {cur : Array Value} (h : W.heap[g]? = some (.cells cur t)) : (W.setCell ⟨g, k, none⟩ v).heap[g]? = some (.cells (cur.setIfInBounds k v) t) := by
  simp [World.setCell, Array.getElem?_modify, h]
theorem box_cells {w : World} {g : Nat} {a b : Value} {t : TypeId} (h : w.heap[g]? = some (.cells #[a, b] t)) : w.cell? ⟨g, 0, none⟩ = some a ∧ w.cell? ⟨g, 1, none⟩ = some b ∧ w.frozen? ⟨g, 0, none⟩ = false ∧ w.frozen? ⟨g, 1, none⟩ = false := by
  refine ⟨(cell_of_heap h 0).trans rfl, (cell_of_heap h 1).trans rfl, ?_, ?_⟩ <;> simp [World.frozen?, h]
/-- How it stands while listeners are kept: the box of what is left, and its row. -/
structure KeptAt (w : World) (B : Nat) (next : Int) (l : List LstD) (o : Option Addr) (c : Nat) (wr : World) : Prop where
  base : w.heap.size ≤ B
  below : Below w.heap.size w wr
  box : wr.heap[B]? = some (.cells #[.slice o l.length c, .int .i64 next] 24)
  row : wr.ownsRow w.heap.size 27 8 (.slice o l.length c) l.length (rowL l)
theorem KeptAt.later {w wr V : World} {B c : Nat} {next : Int} {l : List LstD} {o : Option Addr} (h : KeptAt w B next l o c wr) (hb : Below wr.heap.size wr V) : KeptAt w B next l o c V :=
  ⟨h.base, h.below.trans (hb.mono h.below.size), blkLater hb h.box, own_later h.row hb⟩
/-- One more is put behind them. -/
theorem KeptAt.push {w V : World} {B c : Nat} {next : Int} {l : List LstD} {o : Option Addr} (h : KeptAt w B next l o c V) (x : LstD) (hl : l.length + 1 ≤ 1099511627776) :
    ∃ o2 c2 V2, (Builtin.append_ #[22, 22] 22 #[.slice o l.length c, .slice (some ⟨V.heap.size, 0, none⟩) 1 1]).run Try.prog (V.alloc (lstO x)) = .ok (.slice o2 (l.length + 1) c2) V2 ∧
      V2.heap[B]? = some (.cells #[.slice o l.length c, .int .i64 next] 24) ∧ Below w.heap.size w V2 ∧ KeptAt w B next (l ++ [x]) o2 c2 (V2.setCell ⟨B, 0, none⟩ (.slice o2 (l.length + 1) c2)) ∧
      ∀ (g : Nat) (cur : Array Value), V.heap[g]? = some (.cells cur 24) → g ≠ B → (V2.setCell ⟨B, 0, none⟩ (.slice o2 (l.length + 1) c2)).heap[g]? = some (.cells cur 24) := by
  have hb : Below V.heap.size V (V.alloc (lstO x)) := (Below.refl _ V).alloc (Nat.le_refl _) _
  have h1 := h.later hb
  obtain ⟨v', V2, hr, ho, hg⟩ := run_appendL (V.alloc (lstO x)) w.heap.size (.slice o l.length c) (.slice (some ⟨V.heap.size, 0, none⟩) 1 1) l [x] 22 h1.row h1.below.size (one_rdL (heap_new V (lstO x))) (by simpa using hl)
  obtain ⟨o2, c2, rfl⟩ := own_shape ho
  have hn := own_not h1.row h1.box (by decide)
  have hbx := heap_grow h1.box hg hn
  have hbl : Below w.heap.size w V2 := h1.below.grown hg h1.below.size (fun j hj => (h1.row.lt j hj).1)
  have he : (l ++ [x]).length = l.length + 1 := by simp
  rw [he] at hr ho
  refine ⟨o2, c2, V2, hr, hbx, hbl, ⟨h.base, hbl.setCell (p := ⟨B, 0, none⟩) h.base _, ?_, ?_⟩, fun g cur hgc hne => ?_⟩
  · rw [set_box hbx, he]; rfl
  · rw [he]
    exact own_set ho hbx (by decide) _
  · have hg1 := blkLater hb hgc
    exact (Below.heap_setCell V2 ⟨B, 0, none⟩ _ g hne).trans (heap_grow hg1 hg (own_not h1.row hg1 (by decide)))

set_option maxRecDepth 100000 in
set_option maxHeartbeats 4000000 in
theorem kept_any (v f : Value) (ls : List LstD) (p : LstD → Bool) (next : Int) (w : World) (hr : RdL w v ls) (hl : ls.length ≤ 1099511627775) (hf : Which w f p) :
    Calls Try.prog 32 #[.agg #[v, .int .i64 next], f] w fun e w' => ∃ o c, e = .returned (.agg #[.slice o (ls.filter p).length c, .int .i64 next]) ∧ w'.ownsRow w.heap.size 27 8 (.slice o (ls.filter p).length c) (ls.filter p).length (rowL (ls.filter p)) ∧ Below w.heap.size w w' := by
  obtain ⟨D, hD⟩ : ∃ D, ls.filter p = D := ⟨_, rfl⟩
  rw [hD]
  have HD := hid hD
  clear hD
  obtain ⟨o, cap, rfl, hcap, g⟩ := hr
  obtain ⟨fn, lb, rfl, eg, hp⟩ := hf.is
  have HP := hid hp
  have G := hid g
  clear hp g hf
  have e3 : Below w.heap.size w (((w.alloc (.cells #[.slice o ls.length cap, .int .i64 next] 24)).alloc (.cells #[.slice none 0 0, .int .i64 0] 24)).alloc (.cells #[.slice none 0 0, .int .i64 next] 24)) := (((Below.refl _ w).alloc (Nat.le_refl _) _).alloc (by simp) _).alloc (by simp; omega) _
  have hA := heap_new w (.cells #[.slice o ls.length cap, .int .i64 next] 24)
  have hA2 := blkLater ((Below.refl _ (w.alloc (.cells #[.slice o ls.length cap, .int .i64 next] 24))).alloc (Nat.le_refl _) (.cells #[.slice none 0 0, .int .i64 0] 24)) hA
  have h2n := two_new (w.alloc (.cells #[.slice o ls.length cap, .int .i64 next] 24)) (.cells #[.slice none 0 0, .int .i64 0] 24) (.cells #[.slice none 0 0, .int .i64 next] 24)
  rw [World.size_alloc] at h2n
  have HK0 : Hid (KeptAt w (w.heap.size + 1 + 1) next ((ls.take 0).filter p) none 0 _) := ⟨by omega, e3, h2n.2.2.1, own_nil _ _ _⟩
  have HR0 := hid h2n.2.1
  clear hA hA2 h2n e3
  go_enter Try.func32, Try.ntmps32
  go_wp2
  go_loopw [14] (fun t wr => ∃ (k : Nat) (o2 : Option Addr) (c2 : Nat), k ≤ ls.length ∧ t = .int .i64 k ∧ Hid (KeptAt w (w.heap.size + 1 + 1) next ((ls.take k).filter p) o2 c2 wr) ∧ Hid (wr.heap[w.heap.size + 1]? = some (.cells #[.slice none 0 0, .int .i64 0] 24))) (fun t _ => ls.length - (RowKit.intOf t).toNat)
  case atStart => exact ⟨0, none, 0, Nat.zero_le _, rfl, HK0, HR0⟩
  case round =>
    obtain ⟨k, o2, c2, hk, rfl, hK, hR⟩ := hrel
    clear HK0 HR0
    by_cases hlt : k < ls.length
    · obtain ⟨b, off, rfl, hlt1, ha⟩ := G.out (by omega)
      obtain ⟨x0, x1, x2, x3, x4, x5, x6, x7⟩ := (ha k hlt).later hlt1 hK.out.below
      have q1 : (0 : Int) ≤ (k : Int) := by omega
      have q2 : (k : Int) < (ls.length : Int) := by omega
      have Hfs := hid (filter_step p ls k hlt)
      have hfl : ((ls.take k).filter p).length + 1 ≤ 1099511627776 := by
        have := List.length_filter_le p (ls.take k)
        rw [List.length_take] at this
        omega
      have HPk : Hid (∀ V, Below w.heap.size w V → _) := fun V hV => HP.out ls[k] V hV
      clear ha G HP
      generalize ls[k] = x at *
      have hb1 : Below wr.heap.size wr (wr.alloc (lstO x)) := (Below.refl _ wr).alloc (Nat.le_refl _) _
      have hK1 := hK.out.later hb1
      have hR1 := blkLater hb1 hR.out
      have hX1 := heap_new wr (lstO x)
      obtain ⟨y0, y1, y2, y3, y4, y5, y6, y7⟩ := lst_cells hX1
      have hC := HPk.out _ hK1.below
      have HX1 := hid hX1
      have HK1 := hid hK1
      have HR1 := hid hR1
      clear hK hR hK1 hR1 hX1 HPk hb1
      unfold lstV at hC
      generalize hpx : p x = R at *
      cases R with
      | false =>
        rw [if_neg Bool.false_ne_true, List.append_nil] at Hfs
        clear hfl
        unfold lstO at *
        go_wp2_with (go_at_fn fn; refine hC.mono ?_; rintro e w2 ⟨rfl, hb⟩; have HK2 := hid (HK1.out.later hb); have HR2 := hid (blkLater hb HR1.out); clear hb)
        go_roundw
        case rel => exact ⟨k + 1, o2, c2, by omega, by go_num, by rw [Hfs.out]; exact HK2, HR2⟩
        case measure => simp [RowKit.intOf]; omega
      | true =>
        rw [if_pos rfl] at Hfs
        have HPu : Hid (∀ V : World, KeptAt w (w.heap.size + 1 + 1) next ((ls.take k).filter p) o2 c2 V → _) := fun V hV => hV.push x hfl
        generalize (ls.take k).filter p = D1 at *
        unfold lstO at *
        go_wp2_with (first
          | (go_at_fn fn; refine hC.mono ?_; rintro e w2 ⟨rfl, hb⟩; have HK2 := hid (HK1.out.later hb); have HR2 := hid (blkLater hb HR1.out); obtain ⟨z0, z1, z2, z3, z4, z5, z6, z7⟩ := lst_cells (blkLater hb HX1.out); obtain ⟨s0, s1, s2, s3⟩ := box_cells HK2.out.box; obtain ⟨o3, c3, V2, hap, hbx, hbl, hk3, hot⟩ := HPu.out w2 HK2.out; have HR3 := hid (hot _ _ HR2.out (by omega)); have HAp := hid hap; have HBx := hid hbx; have HBl := hid hbl; have HK3 := hid hk3; clear hb hap hbx hbl hk3 hot HPu)
          | (at_builtin; refine wpList_append_run _ rfl _ _ 22 22 rfl _ _ rfl rfl _ _ HAp.out ?_; obtain ⟨u0, u1, u2, u3⟩ := box_cells HBx.out))
        go_roundw
        case rel => exact ⟨k + 1, o3, c3, by omega, by go_num, by rw [Hfs.out]; exact HK3, HR3⟩
        case measure => simp [RowKit.intOf]; omega
    · have hfk : ls.take k = ls := List.take_of_length_le (by omega)
      rw [hfk, HD.out] at hK
      obtain ⟨s0, s1, s2, s3⟩ := box_cells hK.out.box
      obtain ⟨u0, u1, u2, u3⟩ := box_cells hR.out
      clear G HP hfk
      have HKb := hid hK.out.below
      have HKr := hid hK.out.row
      have HRr := hid hR.out
      clear hK hR
      go_wp2
      have e0 := set_box (k := 0) (v := .slice o2 D.length c2) HRr.out
      have e1 := set_box (k := 1) (v := .int .i64 next) e0
      obtain ⟨r0, r1, r2, r3⟩ := box_cells e1
      exact bodyPost_ret (v := .agg #[.slice o2 D.length c2, .int .i64 next]) (by simp [results, Try.results32, go_sem, r0, r1]) rfl ⟨o2, c2, rfl, own_set (own_set HKr.out HRr.out (by decide) _) e0 (by decide) _, (HKb.out.setCell (p := ⟨w.heap.size + 1, 0, none⟩) (by show _ ≤ w.heap.size + 1; omega) _).setCell (p := ⟨w.heap.size + 1, 1, none⟩) (by show _ ≤ w.heap.size + 1; omega) _⟩
end Go.Proofs.Ytgelclbjbjpacaa
