/- The reference of valid: document, walked kind by kind. -/
/- The reference of valid: rules, walked. -/
/- The reference of valid answers as the program does. -/
import Derived.Test.YtfaeabjgplahgaaGreatCFVbAFVbD
import Derived.Test.YtfaeabjgplahgaaGreatCFR4AFConcat
namespace Go.Proofs.YtfaeabjgplahgaaGreat
open Go.RowKit Go.Lib Go.Shelf

set_option maxRecDepth 100000 in
set_option maxHeartbeats 4000000 in
theorem rdoc_frA (b off cap jp jx : Nat) (c : Int) (rep : Bool) (np n : NodeD) (ns : List NodeD) (w W : World) (hW : Below w.heap.size w W) (HOp : Hid (∀ V : World, Below w.heap.size w V → Calls Tryz.prog 74 #[.agg #[.slice (some ⟨b, off, none⟩) ns.length cap], .int .i64 ((jp : Int) + 1)] V fun e w' => ∃ L : Lists, e = .returned (nodeV np L) ∧ RdN w L.data np.data ∧ RdA w L.attrs np.attrs ∧ RdI w L.kids np.kids ∧ Below V.heap.size V w')) (HOx : Hid (∀ V : World, Below w.heap.size w V → Calls Tryz.prog 74 #[.agg #[.slice (some ⟨b, off, none⟩) ns.length cap], .int .i64 ((jx : Int) + 1)] V fun e w' => ∃ L : Lists, e = .returned (nodeV n L) ∧ RdN w L.data n.data ∧ RdA w L.attrs n.attrs ∧ RdI w L.kids n.kids ∧ Below V.heap.size V w')) (k11 : ((n.kind : Int) == 11) = true)
    (HC : Hid (∀ (v : Value) (V : World), Below w.heap.size w V → RdI w v n.kids → Calls Tryz.prog 109 #[.agg #[.slice (some ⟨b, off, none⟩) ns.length cap], v, .int .u8 1] V fun e w' => e = .returned (.int .i64 0) ∧ Below V.heap.size V w'))
    (HT : Hid (∀ (v : Value) (V : World), Below w.heap.size w V → RdI w v n.kids → Calls Tryz.prog 110 #[.agg #[.slice (some ⟨b, off, none⟩) ns.length cap], v] V fun e w' => e = .returned (.bool false) ∧ Below V.heap.size V w')) :
    Calls Tryz.prog 89 #[.agg #[.slice (some ⟨b, off, none⟩) ns.length cap], .int .i64 ((jp : Int) + 1), .int .i64 ((jx : Int) + 1), .int .i64 c, .bool rep] W fun e w' => e = .returned (.bool true) ∧ Below W.heap.size W w' := by
  have HB0 : Hid (Below (W.heap.size + 1) (W.alloc (.cells #[.slice (some ⟨b, off, none⟩) ns.length cap] 24)) (W.alloc (.cells #[.slice (some ⟨b, off, none⟩) ns.length cap] 24))) := Below.refl _ _
  have HW := hid hW
  have HX : Hid (∀ V : World, Below (W.heap.size + 1) (W.alloc (.cells #[.slice (some ⟨b, off, none⟩) ns.length cap] 24)) V → V.cell? ⟨W.heap.size, 0, none⟩ = some (.slice (some ⟨b, off, none⟩) ns.length cap) ∧ Below w.heap.size w V) := fun V hV => ⟨(hV.cell (p := ⟨W.heap.size, 0, none⟩) (by show W.heap.size < W.heap.size + 1; omega)).trans (by simp), HW.out.trans ((bx_below hV).mono HW.out.size)⟩
  clear hW
  go_enter Tryz.func89, Tryz.ntmps89
  go_wp2_with fail
  refine (HOp.out _ (HX.out _ HB0.out).2).mono ?_
  rintro e v1 ⟨L, rfl, h1, h2, h3, hb⟩
  obtain ⟨od, cd, oa, ca, ok, ck, rfl⟩ := lists_slices h1 h2 h3
  have HB1 := hid (HB0.out.trans (hb.mono (bx_size HB0.out)))
  have cb1 := (HX.out v1 HB1.out).1
  have HRp := hid h3
  clear h1 h2 h3 hb HOp HB0
  unfold nodeV
  have hfl := fld_kids np (.slice od np.data.length cd) (.slice oa np.attrs.length ca) (.slice ok np.kids.length ck)
  go_wp2_with fail
  refine (HOx.out _ (HX.out v1 HB1.out).2).mono ?_
  rintro e v2 ⟨L, rfl, h1, h2, h3, hb⟩
  obtain ⟨od2, cd2, oa2, ca2, ok2, ck2, rfl⟩ := lists_slices h1 h2 h3
  have HB2 := hid (HB1.out.trans (hb.mono (bx_size HB1.out)))
  have HRx := hid h3
  clear h1 h2 h3 hb HOx HB1 hfl cb1
  unfold nodeV
  have HV0 : Hid (Below (v2.heap.size + 1) (v2.alloc (.cells #[.int .u8 (n.kind : Int), .string n.space, .string n.pre, .string n.loc, .string n.pub, .string n.sys, .slice od2 n.data.length cd2, .slice oa2 n.attrs.length ca2, .int .i64 n.parent, .slice ok2 n.kids.length ck2, .int .i64 n.doc, .int .i64 n.host, .int .i64 n.shadow, .int .u8 (n.mode : Int), .bool n.manual, .bool n.html] 49)) (v2.alloc (.cells #[.int .u8 (n.kind : Int), .string n.space, .string n.pre, .string n.loc, .string n.pub, .string n.sys, .slice od2 n.data.length cd2, .slice oa2 n.attrs.length ca2, .int .i64 n.parent, .slice ok2 n.kids.length ck2, .int .i64 n.doc, .int .i64 n.host, .int .i64 n.shadow, .int .u8 (n.mode : Int), .bool n.manual, .bool n.html] 49))) := Below.refl _ _
  have HZ : Hid (∀ V : World, Below (v2.heap.size + 1) (v2.alloc (.cells #[.int .u8 (n.kind : Int), .string n.space, .string n.pre, .string n.loc, .string n.pub, .string n.sys, .slice od2 n.data.length cd2, .slice oa2 n.attrs.length ca2, .int .i64 n.parent, .slice ok2 n.kids.length ck2, .int .i64 n.doc, .int .i64 n.host, .int .i64 n.shadow, .int .u8 (n.mode : Int), .bool n.manual, .bool n.html] 49)) V → (V.cell? ⟨W.heap.size, 0, none⟩ = some (.slice (some ⟨b, off, none⟩) ns.length cap) ∧ V.cell? ⟨v2.heap.size, 9, none⟩ = some (.slice ok2 n.kids.length ck2)) ∧ Below w.heap.size w V ∧ Below W.heap.size W V) := fun V hV => by
    have hh := HB2.out.trans ((bx_below hV).mono (bx_size HB2.out))
    have h9 := (hV.block v2.heap.size (by omega)).trans (vheap_new _ _)
    exact ⟨⟨(HX.out V hh).1, (cell_of_heap h9 9).trans rfl⟩, (HX.out V hh).2, bx_below hh⟩
  obtain ⟨cz, c9⟩ := (HZ.out _ HV0.out).1
  clear HX HB2
  go_wp2_with fail
  refine (HC.out _ _ (HZ.out _ HV0.out).2.1 HRx.out).mono ?_
  rintro e v3 ⟨rfl, hb⟩
  have HV1 := hid (HV0.out.trans (hb.mono (bx_size HV0.out)))
  clear cz c9
  obtain ⟨cz, c9⟩ := (HZ.out v3 HV1.out).1
  clear hb HV0
  go_wp2_with fail
  refine (HT.out _ _ (HZ.out _ HV1.out).2.1 HRx.out).mono ?_
  rintro e v4 ⟨rfl, hb⟩
  have HV2 := hid (HV1.out.trans (hb.mono (bx_size HV1.out)))
  clear cz c9
  obtain ⟨cz, c9⟩ := (HZ.out v4 HV2.out).1
  clear hb HV1
  go_wp2
  go_ret
  exact ⟨rfl, (HZ.out _ HV2.out).2.2⟩
set_option maxRecDepth 100000 in
set_option maxHeartbeats 4000000 in
theorem rdoc_frB (b off cap jp jx : Nat) (c : Int) (rep : Bool) (np n : NodeD) (ns : List NodeD) (w W : World) (hW : Below w.heap.size w W) (HOp : Hid (∀ V : World, Below w.heap.size w V → Calls Tryz.prog 74 #[.agg #[.slice (some ⟨b, off, none⟩) ns.length cap], .int .i64 ((jp : Int) + 1)] V fun e w' => ∃ L : Lists, e = .returned (nodeV np L) ∧ RdN w L.data np.data ∧ RdA w L.attrs np.attrs ∧ RdI w L.kids np.kids ∧ Below V.heap.size V w')) (HOx : Hid (∀ V : World, Below w.heap.size w V → Calls Tryz.prog 74 #[.agg #[.slice (some ⟨b, off, none⟩) ns.length cap], .int .i64 ((jx : Int) + 1)] V fun e w' => ∃ L : Lists, e = .returned (nodeV n L) ∧ RdN w L.data n.data ∧ RdA w L.attrs n.attrs ∧ RdI w L.kids n.kids ∧ Below V.heap.size V w')) (k11 : ((n.kind : Int) == 11) = true)
    (HC : Hid (∀ (v : Value) (V : World), Below w.heap.size w V → RdI w v n.kids → Calls Tryz.prog 109 #[.agg #[.slice (some ⟨b, off, none⟩) ns.length cap], v, .int .u8 1] V fun e w' => e = .returned (.int .i64 0) ∧ Below V.heap.size V w'))
    (HT : Hid (∀ (v : Value) (V : World), Below w.heap.size w V → RdI w v n.kids → Calls Tryz.prog 110 #[.agg #[.slice (some ⟨b, off, none⟩) ns.length cap], v] V fun e w' => e = .returned (.bool true) ∧ Below V.heap.size V w')) :
    Calls Tryz.prog 89 #[.agg #[.slice (some ⟨b, off, none⟩) ns.length cap], .int .i64 ((jp : Int) + 1), .int .i64 ((jx : Int) + 1), .int .i64 c, .bool rep] W fun e w' => e = .returned (.bool false) ∧ Below W.heap.size W w' := by
  have HB0 : Hid (Below (W.heap.size + 1) (W.alloc (.cells #[.slice (some ⟨b, off, none⟩) ns.length cap] 24)) (W.alloc (.cells #[.slice (some ⟨b, off, none⟩) ns.length cap] 24))) := Below.refl _ _
  have HW := hid hW
  have HX : Hid (∀ V : World, Below (W.heap.size + 1) (W.alloc (.cells #[.slice (some ⟨b, off, none⟩) ns.length cap] 24)) V → V.cell? ⟨W.heap.size, 0, none⟩ = some (.slice (some ⟨b, off, none⟩) ns.length cap) ∧ Below w.heap.size w V) := fun V hV => ⟨(hV.cell (p := ⟨W.heap.size, 0, none⟩) (by show W.heap.size < W.heap.size + 1; omega)).trans (by simp), HW.out.trans ((bx_below hV).mono HW.out.size)⟩
  clear hW
  go_enter Tryz.func89, Tryz.ntmps89
  go_wp2_with fail
  refine (HOp.out _ (HX.out _ HB0.out).2).mono ?_
  rintro e v1 ⟨L, rfl, h1, h2, h3, hb⟩
  obtain ⟨od, cd, oa, ca, ok, ck, rfl⟩ := lists_slices h1 h2 h3
  have HB1 := hid (HB0.out.trans (hb.mono (bx_size HB0.out)))
  have cb1 := (HX.out v1 HB1.out).1
  have HRp := hid h3
  clear h1 h2 h3 hb HOp HB0
  unfold nodeV
  have hfl := fld_kids np (.slice od np.data.length cd) (.slice oa np.attrs.length ca) (.slice ok np.kids.length ck)
  go_wp2_with fail
  refine (HOx.out _ (HX.out v1 HB1.out).2).mono ?_
  rintro e v2 ⟨L, rfl, h1, h2, h3, hb⟩
  obtain ⟨od2, cd2, oa2, ca2, ok2, ck2, rfl⟩ := lists_slices h1 h2 h3
  have HB2 := hid (HB1.out.trans (hb.mono (bx_size HB1.out)))
  have HRx := hid h3
  clear h1 h2 h3 hb HOx HB1 hfl cb1
  unfold nodeV
  have HV0 : Hid (Below (v2.heap.size + 1) (v2.alloc (.cells #[.int .u8 (n.kind : Int), .string n.space, .string n.pre, .string n.loc, .string n.pub, .string n.sys, .slice od2 n.data.length cd2, .slice oa2 n.attrs.length ca2, .int .i64 n.parent, .slice ok2 n.kids.length ck2, .int .i64 n.doc, .int .i64 n.host, .int .i64 n.shadow, .int .u8 (n.mode : Int), .bool n.manual, .bool n.html] 49)) (v2.alloc (.cells #[.int .u8 (n.kind : Int), .string n.space, .string n.pre, .string n.loc, .string n.pub, .string n.sys, .slice od2 n.data.length cd2, .slice oa2 n.attrs.length ca2, .int .i64 n.parent, .slice ok2 n.kids.length ck2, .int .i64 n.doc, .int .i64 n.host, .int .i64 n.shadow, .int .u8 (n.mode : Int), .bool n.manual, .bool n.html] 49))) := Below.refl _ _
  have HZ : Hid (∀ V : World, Below (v2.heap.size + 1) (v2.alloc (.cells #[.int .u8 (n.kind : Int), .string n.space, .string n.pre, .string n.loc, .string n.pub, .string n.sys, .slice od2 n.data.length cd2, .slice oa2 n.attrs.length ca2, .int .i64 n.parent, .slice ok2 n.kids.length ck2, .int .i64 n.doc, .int .i64 n.host, .int .i64 n.shadow, .int .u8 (n.mode : Int), .bool n.manual, .bool n.html] 49)) V → (V.cell? ⟨W.heap.size, 0, none⟩ = some (.slice (some ⟨b, off, none⟩) ns.length cap) ∧ V.cell? ⟨v2.heap.size, 9, none⟩ = some (.slice ok2 n.kids.length ck2)) ∧ Below w.heap.size w V ∧ Below W.heap.size W V) := fun V hV => by
    have hh := HB2.out.trans ((bx_below hV).mono (bx_size HB2.out))
    have h9 := (hV.block v2.heap.size (by omega)).trans (vheap_new _ _)
    exact ⟨⟨(HX.out V hh).1, (cell_of_heap h9 9).trans rfl⟩, (HX.out V hh).2, bx_below hh⟩
  obtain ⟨cz, c9⟩ := (HZ.out _ HV0.out).1
  clear HX HB2
  go_wp2_with fail
  refine (HC.out _ _ (HZ.out _ HV0.out).2.1 HRx.out).mono ?_
  rintro e v3 ⟨rfl, hb⟩
  have HV1 := hid (HV0.out.trans (hb.mono (bx_size HV0.out)))
  clear cz c9
  obtain ⟨cz, c9⟩ := (HZ.out v3 HV1.out).1
  clear hb HV0
  go_wp2_with fail
  refine (HT.out _ _ (HZ.out _ HV1.out).2.1 HRx.out).mono ?_
  rintro e v4 ⟨rfl, hb⟩
  have HV2 := hid (HV1.out.trans (hb.mono (bx_size HV1.out)))
  clear cz c9
  obtain ⟨cz, c9⟩ := (HZ.out v4 HV2.out).1
  clear hb HV1
  go_wp2
  go_ret
  exact ⟨rfl, (HZ.out _ HV2.out).2.2⟩
set_option maxRecDepth 100000 in
set_option maxHeartbeats 4000000 in
theorem rdoc_frC (b off cap jp jx : Nat) (c : Int) (rep : Bool) (np n : NodeD) (ns : List NodeD) (w W : World) (hW : Below w.heap.size w W) (HOp : Hid (∀ V : World, Below w.heap.size w V → Calls Tryz.prog 74 #[.agg #[.slice (some ⟨b, off, none⟩) ns.length cap], .int .i64 ((jp : Int) + 1)] V fun e w' => ∃ L : Lists, e = .returned (nodeV np L) ∧ RdN w L.data np.data ∧ RdA w L.attrs np.attrs ∧ RdI w L.kids np.kids ∧ Below V.heap.size V w')) (HOx : Hid (∀ V : World, Below w.heap.size w V → Calls Tryz.prog 74 #[.agg #[.slice (some ⟨b, off, none⟩) ns.length cap], .int .i64 ((jx : Int) + 1)] V fun e w' => ∃ L : Lists, e = .returned (nodeV n L) ∧ RdN w L.data n.data ∧ RdA w L.attrs n.attrs ∧ RdI w L.kids n.kids ∧ Below V.heap.size V w')) (k11 : ((n.kind : Int) == 11) = true)
    (HC : Hid (∀ (v : Value) (V : World), Below w.heap.size w V → RdI w v n.kids → Calls Tryz.prog 109 #[.agg #[.slice (some ⟨b, off, none⟩) ns.length cap], v, .int .u8 1] V fun e w' => e = .returned (.int .i64 1) ∧ Below V.heap.size V w'))
    (HT : Hid (∀ (v : Value) (V : World), Below w.heap.size w V → RdI w v n.kids → Calls Tryz.prog 110 #[.agg #[.slice (some ⟨b, off, none⟩) ns.length cap], v] V fun e w' => e = .returned (.bool true) ∧ Below V.heap.size V w')) :
    Calls Tryz.prog 89 #[.agg #[.slice (some ⟨b, off, none⟩) ns.length cap], .int .i64 ((jp : Int) + 1), .int .i64 ((jx : Int) + 1), .int .i64 c, .bool rep] W fun e w' => e = .returned (.bool false) ∧ Below W.heap.size W w' := by
  have HB0 : Hid (Below (W.heap.size + 1) (W.alloc (.cells #[.slice (some ⟨b, off, none⟩) ns.length cap] 24)) (W.alloc (.cells #[.slice (some ⟨b, off, none⟩) ns.length cap] 24))) := Below.refl _ _
  have HW := hid hW
  have HX : Hid (∀ V : World, Below (W.heap.size + 1) (W.alloc (.cells #[.slice (some ⟨b, off, none⟩) ns.length cap] 24)) V → V.cell? ⟨W.heap.size, 0, none⟩ = some (.slice (some ⟨b, off, none⟩) ns.length cap) ∧ Below w.heap.size w V) := fun V hV => ⟨(hV.cell (p := ⟨W.heap.size, 0, none⟩) (by show W.heap.size < W.heap.size + 1; omega)).trans (by simp), HW.out.trans ((bx_below hV).mono HW.out.size)⟩
  clear hW
  go_enter Tryz.func89, Tryz.ntmps89
  go_wp2_with fail
  refine (HOp.out _ (HX.out _ HB0.out).2).mono ?_
  rintro e v1 ⟨L, rfl, h1, h2, h3, hb⟩
  obtain ⟨od, cd, oa, ca, ok, ck, rfl⟩ := lists_slices h1 h2 h3
  have HB1 := hid (HB0.out.trans (hb.mono (bx_size HB0.out)))
  have cb1 := (HX.out v1 HB1.out).1
  have HRp := hid h3
  clear h1 h2 h3 hb HOp HB0
  unfold nodeV
  have hfl := fld_kids np (.slice od np.data.length cd) (.slice oa np.attrs.length ca) (.slice ok np.kids.length ck)
  go_wp2_with fail
  refine (HOx.out _ (HX.out v1 HB1.out).2).mono ?_
  rintro e v2 ⟨L, rfl, h1, h2, h3, hb⟩
  obtain ⟨od2, cd2, oa2, ca2, ok2, ck2, rfl⟩ := lists_slices h1 h2 h3
  have HB2 := hid (HB1.out.trans (hb.mono (bx_size HB1.out)))
  have HRx := hid h3
  clear h1 h2 h3 hb HOx HB1 hfl cb1
  unfold nodeV
  have HV0 : Hid (Below (v2.heap.size + 1) (v2.alloc (.cells #[.int .u8 (n.kind : Int), .string n.space, .string n.pre, .string n.loc, .string n.pub, .string n.sys, .slice od2 n.data.length cd2, .slice oa2 n.attrs.length ca2, .int .i64 n.parent, .slice ok2 n.kids.length ck2, .int .i64 n.doc, .int .i64 n.host, .int .i64 n.shadow, .int .u8 (n.mode : Int), .bool n.manual, .bool n.html] 49)) (v2.alloc (.cells #[.int .u8 (n.kind : Int), .string n.space, .string n.pre, .string n.loc, .string n.pub, .string n.sys, .slice od2 n.data.length cd2, .slice oa2 n.attrs.length ca2, .int .i64 n.parent, .slice ok2 n.kids.length ck2, .int .i64 n.doc, .int .i64 n.host, .int .i64 n.shadow, .int .u8 (n.mode : Int), .bool n.manual, .bool n.html] 49))) := Below.refl _ _
  have HZ : Hid (∀ V : World, Below (v2.heap.size + 1) (v2.alloc (.cells #[.int .u8 (n.kind : Int), .string n.space, .string n.pre, .string n.loc, .string n.pub, .string n.sys, .slice od2 n.data.length cd2, .slice oa2 n.attrs.length ca2, .int .i64 n.parent, .slice ok2 n.kids.length ck2, .int .i64 n.doc, .int .i64 n.host, .int .i64 n.shadow, .int .u8 (n.mode : Int), .bool n.manual, .bool n.html] 49)) V → (V.cell? ⟨W.heap.size, 0, none⟩ = some (.slice (some ⟨b, off, none⟩) ns.length cap) ∧ V.cell? ⟨v2.heap.size, 9, none⟩ = some (.slice ok2 n.kids.length ck2)) ∧ Below w.heap.size w V ∧ Below W.heap.size W V) := fun V hV => by
    have hh := HB2.out.trans ((bx_below hV).mono (bx_size HB2.out))
    have h9 := (hV.block v2.heap.size (by omega)).trans (vheap_new _ _)
    exact ⟨⟨(HX.out V hh).1, (cell_of_heap h9 9).trans rfl⟩, (HX.out V hh).2, bx_below hh⟩
  obtain ⟨cz, c9⟩ := (HZ.out _ HV0.out).1
  clear HX HB2
  go_wp2_with fail
  refine (HC.out _ _ (HZ.out _ HV0.out).2.1 HRx.out).mono ?_
  rintro e v3 ⟨rfl, hb⟩
  have HV1 := hid (HV0.out.trans (hb.mono (bx_size HV0.out)))
  clear cz c9
  obtain ⟨cz, c9⟩ := (HZ.out v3 HV1.out).1
  clear hb HV0
  go_wp2_with fail
  refine (HT.out _ _ (HZ.out _ HV1.out).2.1 HRx.out).mono ?_
  rintro e v4 ⟨rfl, hb⟩
  have HV2 := hid (HV1.out.trans (hb.mono (bx_size HV1.out)))
  clear cz c9
  obtain ⟨cz, c9⟩ := (HZ.out v4 HV2.out).1
  clear hb HV1
  go_wp2
  go_ret
  exact ⟨rfl, (HZ.out _ HV2.out).2.2⟩
set_option maxRecDepth 100000 in
set_option maxHeartbeats 4000000 in
theorem rdoc_frD (b off cap jp jx : Nat) (c : Int) (rep : Bool) (np n : NodeD) (ns : List NodeD) (w W : World) (hW : Below w.heap.size w W) (HOp : Hid (∀ V : World, Below w.heap.size w V → Calls Tryz.prog 74 #[.agg #[.slice (some ⟨b, off, none⟩) ns.length cap], .int .i64 ((jp : Int) + 1)] V fun e w' => ∃ L : Lists, e = .returned (nodeV np L) ∧ RdN w L.data np.data ∧ RdA w L.attrs np.attrs ∧ RdI w L.kids np.kids ∧ Below V.heap.size V w')) (HOx : Hid (∀ V : World, Below w.heap.size w V → Calls Tryz.prog 74 #[.agg #[.slice (some ⟨b, off, none⟩) ns.length cap], .int .i64 ((jx : Int) + 1)] V fun e w' => ∃ L : Lists, e = .returned (nodeV n L) ∧ RdN w L.data n.data ∧ RdA w L.attrs n.attrs ∧ RdI w L.kids n.kids ∧ Below V.heap.size V w')) (k11 : ((n.kind : Int) == 11) = true) (E : Bool)
    (HC : Hid (∀ (v : Value) (V : World), Below w.heap.size w V → RdI w v n.kids → Calls Tryz.prog 109 #[.agg #[.slice (some ⟨b, off, none⟩) ns.length cap], v, .int .u8 1] V fun e w' => e = .returned (.int .i64 1) ∧ Below V.heap.size V w'))
    (HT : Hid (∀ (v : Value) (V : World), Below w.heap.size w V → RdI w v n.kids → Calls Tryz.prog 110 #[.agg #[.slice (some ⟨b, off, none⟩) ns.length cap], v] V fun e w' => e = .returned (.bool false) ∧ Below V.heap.size V w'))
    (HE : Hid (∀ (v : Value) (V : World), Below w.heap.size w V → RdI w v np.kids → Calls Tryz.prog 111 #[.agg #[.slice (some ⟨b, off, none⟩) ns.length cap], v, .int .i64 c, .bool rep] V fun e w' => e = .returned (.bool E) ∧ Below V.heap.size V w')) :
    Calls Tryz.prog 89 #[.agg #[.slice (some ⟨b, off, none⟩) ns.length cap], .int .i64 ((jp : Int) + 1), .int .i64 ((jx : Int) + 1), .int .i64 c, .bool rep] W fun e w' => e = .returned (.bool E) ∧ Below W.heap.size W w' := by
  have HB0 : Hid (Below (W.heap.size + 1) (W.alloc (.cells #[.slice (some ⟨b, off, none⟩) ns.length cap] 24)) (W.alloc (.cells #[.slice (some ⟨b, off, none⟩) ns.length cap] 24))) := Below.refl _ _
  have HW := hid hW
  have HX : Hid (∀ V : World, Below (W.heap.size + 1) (W.alloc (.cells #[.slice (some ⟨b, off, none⟩) ns.length cap] 24)) V → V.cell? ⟨W.heap.size, 0, none⟩ = some (.slice (some ⟨b, off, none⟩) ns.length cap) ∧ Below w.heap.size w V) := fun V hV => ⟨(hV.cell (p := ⟨W.heap.size, 0, none⟩) (by show W.heap.size < W.heap.size + 1; omega)).trans (by simp), HW.out.trans ((bx_below hV).mono HW.out.size)⟩
  clear hW
  go_enter Tryz.func89, Tryz.ntmps89
  go_wp2_with fail
  refine (HOp.out _ (HX.out _ HB0.out).2).mono ?_
  rintro e v1 ⟨L, rfl, h1, h2, h3, hb⟩
  obtain ⟨od, cd, oa, ca, ok, ck, rfl⟩ := lists_slices h1 h2 h3
  have HB1 := hid (HB0.out.trans (hb.mono (bx_size HB0.out)))
  have cb1 := (HX.out v1 HB1.out).1
  have HRp := hid h3
  clear h1 h2 h3 hb HOp HB0
  unfold nodeV
  have hfl := fld_kids np (.slice od np.data.length cd) (.slice oa np.attrs.length ca) (.slice ok np.kids.length ck)
  go_wp2_with fail
  refine (HOx.out _ (HX.out v1 HB1.out).2).mono ?_
  rintro e v2 ⟨L, rfl, h1, h2, h3, hb⟩
  obtain ⟨od2, cd2, oa2, ca2, ok2, ck2, rfl⟩ := lists_slices h1 h2 h3
  have HB2 := hid (HB1.out.trans (hb.mono (bx_size HB1.out)))
  have HRx := hid h3
  clear h1 h2 h3 hb HOx HB1 hfl cb1
  unfold nodeV
  have HV0 : Hid (Below (v2.heap.size + 1) (v2.alloc (.cells #[.int .u8 (n.kind : Int), .string n.space, .string n.pre, .string n.loc, .string n.pub, .string n.sys, .slice od2 n.data.length cd2, .slice oa2 n.attrs.length ca2, .int .i64 n.parent, .slice ok2 n.kids.length ck2, .int .i64 n.doc, .int .i64 n.host, .int .i64 n.shadow, .int .u8 (n.mode : Int), .bool n.manual, .bool n.html] 49)) (v2.alloc (.cells #[.int .u8 (n.kind : Int), .string n.space, .string n.pre, .string n.loc, .string n.pub, .string n.sys, .slice od2 n.data.length cd2, .slice oa2 n.attrs.length ca2, .int .i64 n.parent, .slice ok2 n.kids.length ck2, .int .i64 n.doc, .int .i64 n.host, .int .i64 n.shadow, .int .u8 (n.mode : Int), .bool n.manual, .bool n.html] 49))) := Below.refl _ _
  have HZ : Hid (∀ V : World, Below (v2.heap.size + 1) (v2.alloc (.cells #[.int .u8 (n.kind : Int), .string n.space, .string n.pre, .string n.loc, .string n.pub, .string n.sys, .slice od2 n.data.length cd2, .slice oa2 n.attrs.length ca2, .int .i64 n.parent, .slice ok2 n.kids.length ck2, .int .i64 n.doc, .int .i64 n.host, .int .i64 n.shadow, .int .u8 (n.mode : Int), .bool n.manual, .bool n.html] 49)) V → (V.cell? ⟨W.heap.size, 0, none⟩ = some (.slice (some ⟨b, off, none⟩) ns.length cap) ∧ V.cell? ⟨v2.heap.size, 9, none⟩ = some (.slice ok2 n.kids.length ck2)) ∧ Below w.heap.size w V ∧ Below W.heap.size W V) := fun V hV => by
    have hh := HB2.out.trans ((bx_below hV).mono (bx_size HB2.out))
    have h9 := (hV.block v2.heap.size (by omega)).trans (vheap_new _ _)
    exact ⟨⟨(HX.out V hh).1, (cell_of_heap h9 9).trans rfl⟩, (HX.out V hh).2, bx_below hh⟩
  obtain ⟨cz, c9⟩ := (HZ.out _ HV0.out).1
  clear HX HB2
  go_wp2_with fail
  refine (HC.out _ _ (HZ.out _ HV0.out).2.1 HRx.out).mono ?_
  rintro e v3 ⟨rfl, hb⟩
  have HV1 := hid (HV0.out.trans (hb.mono (bx_size HV0.out)))
  clear cz c9
  obtain ⟨cz, c9⟩ := (HZ.out v3 HV1.out).1
  clear hb HV0
  go_wp2_with fail
  refine (HT.out _ _ (HZ.out _ HV1.out).2.1 HRx.out).mono ?_
  rintro e v4 ⟨rfl, hb⟩
  have HV2 := hid (HV1.out.trans (hb.mono (bx_size HV1.out)))
  clear cz c9
  obtain ⟨cz, c9⟩ := (HZ.out v4 HV2.out).1
  clear hb HV1
  go_wp2_with fail
  refine (HE.out _ _ (HZ.out _ HV2.out).2.1 HRp.out).mono ?_
  rintro e v5 ⟨rfl, hb⟩
  have HV3 := hid (HV2.out.trans (hb.mono (bx_size HV2.out)))
  clear cz c9
  obtain ⟨cz, c9⟩ := (HZ.out v5 HV3.out).1
  clear hb HV2
  go_wp2
  go_ret
  exact ⟨rfl, (HZ.out _ HV3.out).2.2⟩
set_option maxRecDepth 100000 in
set_option maxHeartbeats 4000000 in
theorem rdoc_frE (b off cap jp jx : Nat) (c : Int) (rep : Bool) (np n : NodeD) (ns : List NodeD) (w W : World) (hW : Below w.heap.size w W) (HOp : Hid (∀ V : World, Below w.heap.size w V → Calls Tryz.prog 74 #[.agg #[.slice (some ⟨b, off, none⟩) ns.length cap], .int .i64 ((jp : Int) + 1)] V fun e w' => ∃ L : Lists, e = .returned (nodeV np L) ∧ RdN w L.data np.data ∧ RdA w L.attrs np.attrs ∧ RdI w L.kids np.kids ∧ Below V.heap.size V w')) (HOx : Hid (∀ V : World, Below w.heap.size w V → Calls Tryz.prog 74 #[.agg #[.slice (some ⟨b, off, none⟩) ns.length cap], .int .i64 ((jx : Int) + 1)] V fun e w' => ∃ L : Lists, e = .returned (nodeV n L) ∧ RdN w L.data n.data ∧ RdA w L.attrs n.attrs ∧ RdI w L.kids n.kids ∧ Below V.heap.size V w')) (k11 : ((n.kind : Int) == 11) = true) (N : Int) (hN : 1 < N)
    (HC : Hid (∀ (v : Value) (V : World), Below w.heap.size w V → RdI w v n.kids → Calls Tryz.prog 109 #[.agg #[.slice (some ⟨b, off, none⟩) ns.length cap], v, .int .u8 1] V fun e w' => e = .returned (.int .i64 N) ∧ Below V.heap.size V w')) :
    Calls Tryz.prog 89 #[.agg #[.slice (some ⟨b, off, none⟩) ns.length cap], .int .i64 ((jp : Int) + 1), .int .i64 ((jx : Int) + 1), .int .i64 c, .bool rep] W fun e w' => e = .returned (.bool false) ∧ Below W.heap.size W w' := by
  have HB0 : Hid (Below (W.heap.size + 1) (W.alloc (.cells #[.slice (some ⟨b, off, none⟩) ns.length cap] 24)) (W.alloc (.cells #[.slice (some ⟨b, off, none⟩) ns.length cap] 24))) := Below.refl _ _
  have HW := hid hW
  have HX : Hid (∀ V : World, Below (W.heap.size + 1) (W.alloc (.cells #[.slice (some ⟨b, off, none⟩) ns.length cap] 24)) V → V.cell? ⟨W.heap.size, 0, none⟩ = some (.slice (some ⟨b, off, none⟩) ns.length cap) ∧ Below w.heap.size w V) := fun V hV => ⟨(hV.cell (p := ⟨W.heap.size, 0, none⟩) (by show W.heap.size < W.heap.size + 1; omega)).trans (by simp), HW.out.trans ((bx_below hV).mono HW.out.size)⟩
  have z0 : (N == 0) = false := beq_eq_false_iff_ne.2 (by omega)
  have z1 : (N == 1) = false := beq_eq_false_iff_ne.2 (by omega)
  clear hW
  go_enter Tryz.func89, Tryz.ntmps89
  go_wp2_with fail
  refine (HOp.out _ (HX.out _ HB0.out).2).mono ?_
  rintro e v1 ⟨L, rfl, h1, h2, h3, hb⟩
  obtain ⟨od, cd, oa, ca, ok, ck, rfl⟩ := lists_slices h1 h2 h3
  have HB1 := hid (HB0.out.trans (hb.mono (bx_size HB0.out)))
  have cb1 := (HX.out v1 HB1.out).1
  have HRp := hid h3
  clear h1 h2 h3 hb HOp HB0
  unfold nodeV
  have hfl := fld_kids np (.slice od np.data.length cd) (.slice oa np.attrs.length ca) (.slice ok np.kids.length ck)
  go_wp2_with fail
  refine (HOx.out _ (HX.out v1 HB1.out).2).mono ?_
  rintro e v2 ⟨L, rfl, h1, h2, h3, hb⟩
  obtain ⟨od2, cd2, oa2, ca2, ok2, ck2, rfl⟩ := lists_slices h1 h2 h3
  have HB2 := hid (HB1.out.trans (hb.mono (bx_size HB1.out)))
  have HRx := hid h3
  clear h1 h2 h3 hb HOx HB1 hfl cb1
  unfold nodeV
  have HV0 : Hid (Below (v2.heap.size + 1) (v2.alloc (.cells #[.int .u8 (n.kind : Int), .string n.space, .string n.pre, .string n.loc, .string n.pub, .string n.sys, .slice od2 n.data.length cd2, .slice oa2 n.attrs.length ca2, .int .i64 n.parent, .slice ok2 n.kids.length ck2, .int .i64 n.doc, .int .i64 n.host, .int .i64 n.shadow, .int .u8 (n.mode : Int), .bool n.manual, .bool n.html] 49)) (v2.alloc (.cells #[.int .u8 (n.kind : Int), .string n.space, .string n.pre, .string n.loc, .string n.pub, .string n.sys, .slice od2 n.data.length cd2, .slice oa2 n.attrs.length ca2, .int .i64 n.parent, .slice ok2 n.kids.length ck2, .int .i64 n.doc, .int .i64 n.host, .int .i64 n.shadow, .int .u8 (n.mode : Int), .bool n.manual, .bool n.html] 49))) := Below.refl _ _
  have HZ : Hid (∀ V : World, Below (v2.heap.size + 1) (v2.alloc (.cells #[.int .u8 (n.kind : Int), .string n.space, .string n.pre, .string n.loc, .string n.pub, .string n.sys, .slice od2 n.data.length cd2, .slice oa2 n.attrs.length ca2, .int .i64 n.parent, .slice ok2 n.kids.length ck2, .int .i64 n.doc, .int .i64 n.host, .int .i64 n.shadow, .int .u8 (n.mode : Int), .bool n.manual, .bool n.html] 49)) V → (V.cell? ⟨W.heap.size, 0, none⟩ = some (.slice (some ⟨b, off, none⟩) ns.length cap) ∧ V.cell? ⟨v2.heap.size, 9, none⟩ = some (.slice ok2 n.kids.length ck2)) ∧ Below w.heap.size w V ∧ Below W.heap.size W V) := fun V hV => by
    have hh := HB2.out.trans ((bx_below hV).mono (bx_size HB2.out))
    have h9 := (hV.block v2.heap.size (by omega)).trans (vheap_new _ _)
    exact ⟨⟨(HX.out V hh).1, (cell_of_heap h9 9).trans rfl⟩, (HX.out V hh).2, bx_below hh⟩
  obtain ⟨cz, c9⟩ := (HZ.out _ HV0.out).1
  clear HX HB2
  go_wp2_with fail
  refine (HC.out _ _ (HZ.out _ HV0.out).2.1 HRx.out).mono ?_
  rintro e v3 ⟨rfl, hb⟩
  have HV1 := hid (HV0.out.trans (hb.mono (bx_size HV0.out)))
  clear cz c9
  obtain ⟨cz, c9⟩ := (HZ.out v3 HV1.out).1
  clear hb HV0
  go_wp2
  go_ret
  exact ⟨rfl, (HZ.out _ HV1.out).2.2⟩
set_option maxRecDepth 100000 in
set_option maxHeartbeats 4000000 in
theorem rdoc_el (b off cap jp jx : Nat) (c : Int) (rep : Bool) (np n : NodeD) (ns : List NodeD) (w W : World) (hW : Below w.heap.size w W) (HOp : Hid (∀ V : World, Below w.heap.size w V → Calls Tryz.prog 74 #[.agg #[.slice (some ⟨b, off, none⟩) ns.length cap], .int .i64 ((jp : Int) + 1)] V fun e w' => ∃ L : Lists, e = .returned (nodeV np L) ∧ RdN w L.data np.data ∧ RdA w L.attrs np.attrs ∧ RdI w L.kids np.kids ∧ Below V.heap.size V w')) (HOx : Hid (∀ V : World, Below w.heap.size w V → Calls Tryz.prog 74 #[.agg #[.slice (some ⟨b, off, none⟩) ns.length cap], .int .i64 ((jx : Int) + 1)] V fun e w' => ∃ L : Lists, e = .returned (nodeV n L) ∧ RdN w L.data n.data ∧ RdA w L.attrs n.attrs ∧ RdI w L.kids n.kids ∧ Below V.heap.size V w')) (k11 : ((n.kind : Int) == 11) = false) (k1 : ((n.kind : Int) == 1) = true) (E : Bool)
    (HE : Hid (∀ (v : Value) (V : World), Below w.heap.size w V → RdI w v np.kids → Calls Tryz.prog 111 #[.agg #[.slice (some ⟨b, off, none⟩) ns.length cap], v, .int .i64 c, .bool rep] V fun e w' => e = .returned (.bool E) ∧ Below V.heap.size V w')) :
    Calls Tryz.prog 89 #[.agg #[.slice (some ⟨b, off, none⟩) ns.length cap], .int .i64 ((jp : Int) + 1), .int .i64 ((jx : Int) + 1), .int .i64 c, .bool rep] W fun e w' => e = .returned (.bool E) ∧ Below W.heap.size W w' := by
  have HB0 : Hid (Below (W.heap.size + 1) (W.alloc (.cells #[.slice (some ⟨b, off, none⟩) ns.length cap] 24)) (W.alloc (.cells #[.slice (some ⟨b, off, none⟩) ns.length cap] 24))) := Below.refl _ _
  have HW := hid hW
  have HX : Hid (∀ V : World, Below (W.heap.size + 1) (W.alloc (.cells #[.slice (some ⟨b, off, none⟩) ns.length cap] 24)) V → V.cell? ⟨W.heap.size, 0, none⟩ = some (.slice (some ⟨b, off, none⟩) ns.length cap) ∧ Below w.heap.size w V) := fun V hV => ⟨(hV.cell (p := ⟨W.heap.size, 0, none⟩) (by show W.heap.size < W.heap.size + 1; omega)).trans (by simp), HW.out.trans ((bx_below hV).mono HW.out.size)⟩
  clear hW
  go_enter Tryz.func89, Tryz.ntmps89
  go_wp2_with fail
  refine (HOp.out _ (HX.out _ HB0.out).2).mono ?_
  rintro e v1 ⟨L, rfl, h1, h2, h3, hb⟩
  obtain ⟨od, cd, oa, ca, ok, ck, rfl⟩ := lists_slices h1 h2 h3
  have HB1 := hid (HB0.out.trans (hb.mono (bx_size HB0.out)))
  have cb1 := (HX.out v1 HB1.out).1
  have HRp := hid h3
  clear h1 h2 h3 hb HOp HB0
  unfold nodeV
  have hfl := fld_kids np (.slice od np.data.length cd) (.slice oa np.attrs.length ca) (.slice ok np.kids.length ck)
  go_wp2_with fail
  refine (HOx.out _ (HX.out v1 HB1.out).2).mono ?_
  rintro e v2 ⟨L, rfl, h1, h2, h3, hb⟩
  obtain ⟨od2, cd2, oa2, ca2, ok2, ck2, rfl⟩ := lists_slices h1 h2 h3
  have HB2 := hid (HB1.out.trans (hb.mono (bx_size HB1.out)))
  have HRx := hid h3
  clear h1 h2 h3 hb HOx HB1 hfl cb1
  unfold nodeV
  have HV0 : Hid (Below (v2.heap.size + 1) (v2.alloc (.cells #[.int .u8 (n.kind : Int), .string n.space, .string n.pre, .string n.loc, .string n.pub, .string n.sys, .slice od2 n.data.length cd2, .slice oa2 n.attrs.length ca2, .int .i64 n.parent, .slice ok2 n.kids.length ck2, .int .i64 n.doc, .int .i64 n.host, .int .i64 n.shadow, .int .u8 (n.mode : Int), .bool n.manual, .bool n.html] 49)) (v2.alloc (.cells #[.int .u8 (n.kind : Int), .string n.space, .string n.pre, .string n.loc, .string n.pub, .string n.sys, .slice od2 n.data.length cd2, .slice oa2 n.attrs.length ca2, .int .i64 n.parent, .slice ok2 n.kids.length ck2, .int .i64 n.doc, .int .i64 n.host, .int .i64 n.shadow, .int .u8 (n.mode : Int), .bool n.manual, .bool n.html] 49))) := Below.refl _ _
  have HZ : Hid (∀ V : World, Below (v2.heap.size + 1) (v2.alloc (.cells #[.int .u8 (n.kind : Int), .string n.space, .string n.pre, .string n.loc, .string n.pub, .string n.sys, .slice od2 n.data.length cd2, .slice oa2 n.attrs.length ca2, .int .i64 n.parent, .slice ok2 n.kids.length ck2, .int .i64 n.doc, .int .i64 n.host, .int .i64 n.shadow, .int .u8 (n.mode : Int), .bool n.manual, .bool n.html] 49)) V → (V.cell? ⟨W.heap.size, 0, none⟩ = some (.slice (some ⟨b, off, none⟩) ns.length cap) ∧ V.cell? ⟨v2.heap.size, 9, none⟩ = some (.slice ok2 n.kids.length ck2)) ∧ Below w.heap.size w V ∧ Below W.heap.size W V) := fun V hV => by
    have hh := HB2.out.trans ((bx_below hV).mono (bx_size HB2.out))
    have h9 := (hV.block v2.heap.size (by omega)).trans (vheap_new _ _)
    exact ⟨⟨(HX.out V hh).1, (cell_of_heap h9 9).trans rfl⟩, (HX.out V hh).2, bx_below hh⟩
  obtain ⟨cz, c9⟩ := (HZ.out _ HV0.out).1
  clear HX HB2
  go_wp2_with fail
  refine (HE.out _ _ (HZ.out _ HV0.out).2.1 HRp.out).mono ?_
  rintro e v3 ⟨rfl, hb⟩
  have HV1 := hid (HV0.out.trans (hb.mono (bx_size HV0.out)))
  clear cz c9
  obtain ⟨cz, c9⟩ := (HZ.out v3 HV1.out).1
  clear hb HV0
  go_wp2
  go_ret
  exact ⟨rfl, (HZ.out _ HV1.out).2.2⟩
set_option maxRecDepth 100000 in
set_option maxHeartbeats 4000000 in
theorem rdoc_dt (b off cap jp jx : Nat) (c : Int) (rep : Bool) (np n : NodeD) (ns : List NodeD) (w W : World) (hW : Below w.heap.size w W) (HOp : Hid (∀ V : World, Below w.heap.size w V → Calls Tryz.prog 74 #[.agg #[.slice (some ⟨b, off, none⟩) ns.length cap], .int .i64 ((jp : Int) + 1)] V fun e w' => ∃ L : Lists, e = .returned (nodeV np L) ∧ RdN w L.data np.data ∧ RdA w L.attrs np.attrs ∧ RdI w L.kids np.kids ∧ Below V.heap.size V w')) (HOx : Hid (∀ V : World, Below w.heap.size w V → Calls Tryz.prog 74 #[.agg #[.slice (some ⟨b, off, none⟩) ns.length cap], .int .i64 ((jx : Int) + 1)] V fun e w' => ∃ L : Lists, e = .returned (nodeV n L) ∧ RdN w L.data n.data ∧ RdA w L.attrs n.attrs ∧ RdI w L.kids n.kids ∧ Below V.heap.size V w')) (k11 : ((n.kind : Int) == 11) = false) (k1 : ((n.kind : Int) == 1) = false) (k10 : ((n.kind : Int) == 10) = true) (D : Bool)
    (HDt : Hid (∀ (v : Value) (V : World), Below w.heap.size w V → RdI w v np.kids → Calls Tryz.prog 112 #[.agg #[.slice (some ⟨b, off, none⟩) ns.length cap], v, .int .i64 c, .bool rep] V fun e w' => e = .returned (.bool D) ∧ Below V.heap.size V w')) :
    Calls Tryz.prog 89 #[.agg #[.slice (some ⟨b, off, none⟩) ns.length cap], .int .i64 ((jp : Int) + 1), .int .i64 ((jx : Int) + 1), .int .i64 c, .bool rep] W fun e w' => e = .returned (.bool D) ∧ Below W.heap.size W w' := by
  have HB0 : Hid (Below (W.heap.size + 1) (W.alloc (.cells #[.slice (some ⟨b, off, none⟩) ns.length cap] 24)) (W.alloc (.cells #[.slice (some ⟨b, off, none⟩) ns.length cap] 24))) := Below.refl _ _
  have HW := hid hW
  have HX : Hid (∀ V : World, Below (W.heap.size + 1) (W.alloc (.cells #[.slice (some ⟨b, off, none⟩) ns.length cap] 24)) V → V.cell? ⟨W.heap.size, 0, none⟩ = some (.slice (some ⟨b, off, none⟩) ns.length cap) ∧ Below w.heap.size w V) := fun V hV => ⟨(hV.cell (p := ⟨W.heap.size, 0, none⟩) (by show W.heap.size < W.heap.size + 1; omega)).trans (by simp), HW.out.trans ((bx_below hV).mono HW.out.size)⟩
  clear hW
  go_enter Tryz.func89, Tryz.ntmps89
  go_wp2_with fail
  refine (HOp.out _ (HX.out _ HB0.out).2).mono ?_
  rintro e v1 ⟨L, rfl, h1, h2, h3, hb⟩
  obtain ⟨od, cd, oa, ca, ok, ck, rfl⟩ := lists_slices h1 h2 h3
  have HB1 := hid (HB0.out.trans (hb.mono (bx_size HB0.out)))
  have cb1 := (HX.out v1 HB1.out).1
  have HRp := hid h3
  clear h1 h2 h3 hb HOp HB0
  unfold nodeV
  have hfl := fld_kids np (.slice od np.data.length cd) (.slice oa np.attrs.length ca) (.slice ok np.kids.length ck)
  go_wp2_with fail
  refine (HOx.out _ (HX.out v1 HB1.out).2).mono ?_
  rintro e v2 ⟨L, rfl, h1, h2, h3, hb⟩
  obtain ⟨od2, cd2, oa2, ca2, ok2, ck2, rfl⟩ := lists_slices h1 h2 h3
  have HB2 := hid (HB1.out.trans (hb.mono (bx_size HB1.out)))
  have HRx := hid h3
  clear h1 h2 h3 hb HOx HB1 hfl cb1
  unfold nodeV
  have HV0 : Hid (Below (v2.heap.size + 1) (v2.alloc (.cells #[.int .u8 (n.kind : Int), .string n.space, .string n.pre, .string n.loc, .string n.pub, .string n.sys, .slice od2 n.data.length cd2, .slice oa2 n.attrs.length ca2, .int .i64 n.parent, .slice ok2 n.kids.length ck2, .int .i64 n.doc, .int .i64 n.host, .int .i64 n.shadow, .int .u8 (n.mode : Int), .bool n.manual, .bool n.html] 49)) (v2.alloc (.cells #[.int .u8 (n.kind : Int), .string n.space, .string n.pre, .string n.loc, .string n.pub, .string n.sys, .slice od2 n.data.length cd2, .slice oa2 n.attrs.length ca2, .int .i64 n.parent, .slice ok2 n.kids.length ck2, .int .i64 n.doc, .int .i64 n.host, .int .i64 n.shadow, .int .u8 (n.mode : Int), .bool n.manual, .bool n.html] 49))) := Below.refl _ _
  have HZ : Hid (∀ V : World, Below (v2.heap.size + 1) (v2.alloc (.cells #[.int .u8 (n.kind : Int), .string n.space, .string n.pre, .string n.loc, .string n.pub, .string n.sys, .slice od2 n.data.length cd2, .slice oa2 n.attrs.length ca2, .int .i64 n.parent, .slice ok2 n.kids.length ck2, .int .i64 n.doc, .int .i64 n.host, .int .i64 n.shadow, .int .u8 (n.mode : Int), .bool n.manual, .bool n.html] 49)) V → (V.cell? ⟨W.heap.size, 0, none⟩ = some (.slice (some ⟨b, off, none⟩) ns.length cap) ∧ V.cell? ⟨v2.heap.size, 9, none⟩ = some (.slice ok2 n.kids.length ck2)) ∧ Below w.heap.size w V ∧ Below W.heap.size W V) := fun V hV => by
    have hh := HB2.out.trans ((bx_below hV).mono (bx_size HB2.out))
    have h9 := (hV.block v2.heap.size (by omega)).trans (vheap_new _ _)
    exact ⟨⟨(HX.out V hh).1, (cell_of_heap h9 9).trans rfl⟩, (HX.out V hh).2, bx_below hh⟩
  obtain ⟨cz, c9⟩ := (HZ.out _ HV0.out).1
  clear HX HB2
  go_wp2_with fail
  refine (HDt.out _ _ (HZ.out _ HV0.out).2.1 HRp.out).mono ?_
  rintro e v3 ⟨rfl, hb⟩
  have HV1 := hid (HV0.out.trans (hb.mono (bx_size HV0.out)))
  clear cz c9
  obtain ⟨cz, c9⟩ := (HZ.out v3 HV1.out).1
  clear hb HV0
  go_wp2
  go_ret
  exact ⟨rfl, (HZ.out _ HV1.out).2.2⟩
set_option maxRecDepth 100000 in
set_option maxHeartbeats 4000000 in
theorem rdoc_ot (b off cap jp jx : Nat) (c : Int) (rep : Bool) (np n : NodeD) (ns : List NodeD) (w W : World) (hW : Below w.heap.size w W) (HOp : Hid (∀ V : World, Below w.heap.size w V → Calls Tryz.prog 74 #[.agg #[.slice (some ⟨b, off, none⟩) ns.length cap], .int .i64 ((jp : Int) + 1)] V fun e w' => ∃ L : Lists, e = .returned (nodeV np L) ∧ RdN w L.data np.data ∧ RdA w L.attrs np.attrs ∧ RdI w L.kids np.kids ∧ Below V.heap.size V w')) (HOx : Hid (∀ V : World, Below w.heap.size w V → Calls Tryz.prog 74 #[.agg #[.slice (some ⟨b, off, none⟩) ns.length cap], .int .i64 ((jx : Int) + 1)] V fun e w' => ∃ L : Lists, e = .returned (nodeV n L) ∧ RdN w L.data n.data ∧ RdA w L.attrs n.attrs ∧ RdI w L.kids n.kids ∧ Below V.heap.size V w')) (k11 : ((n.kind : Int) == 11) = false) (k1 : ((n.kind : Int) == 1) = false) (k10 : ((n.kind : Int) == 10) = false) :
    Calls Tryz.prog 89 #[.agg #[.slice (some ⟨b, off, none⟩) ns.length cap], .int .i64 ((jp : Int) + 1), .int .i64 ((jx : Int) + 1), .int .i64 c, .bool rep] W fun e w' => e = .returned (.bool true) ∧ Below W.heap.size W w' := by
  have HB0 : Hid (Below (W.heap.size + 1) (W.alloc (.cells #[.slice (some ⟨b, off, none⟩) ns.length cap] 24)) (W.alloc (.cells #[.slice (some ⟨b, off, none⟩) ns.length cap] 24))) := Below.refl _ _
  have HW := hid hW
  have HX : Hid (∀ V : World, Below (W.heap.size + 1) (W.alloc (.cells #[.slice (some ⟨b, off, none⟩) ns.length cap] 24)) V → V.cell? ⟨W.heap.size, 0, none⟩ = some (.slice (some ⟨b, off, none⟩) ns.length cap) ∧ Below w.heap.size w V) := fun V hV => ⟨(hV.cell (p := ⟨W.heap.size, 0, none⟩) (by show W.heap.size < W.heap.size + 1; omega)).trans (by simp), HW.out.trans ((bx_below hV).mono HW.out.size)⟩
  clear hW
  go_enter Tryz.func89, Tryz.ntmps89
  go_wp2_with fail
  refine (HOp.out _ (HX.out _ HB0.out).2).mono ?_
  rintro e v1 ⟨L, rfl, h1, h2, h3, hb⟩
  obtain ⟨od, cd, oa, ca, ok, ck, rfl⟩ := lists_slices h1 h2 h3
  have HB1 := hid (HB0.out.trans (hb.mono (bx_size HB0.out)))
  have cb1 := (HX.out v1 HB1.out).1
  have HRp := hid h3
  clear h1 h2 h3 hb HOp HB0
  unfold nodeV
  have hfl := fld_kids np (.slice od np.data.length cd) (.slice oa np.attrs.length ca) (.slice ok np.kids.length ck)
  go_wp2_with fail
  refine (HOx.out _ (HX.out v1 HB1.out).2).mono ?_
  rintro e v2 ⟨L, rfl, h1, h2, h3, hb⟩
  obtain ⟨od2, cd2, oa2, ca2, ok2, ck2, rfl⟩ := lists_slices h1 h2 h3
  have HB2 := hid (HB1.out.trans (hb.mono (bx_size HB1.out)))
  have HRx := hid h3
  clear h1 h2 h3 hb HOx HB1 hfl cb1
  unfold nodeV
  have HV0 : Hid (Below (v2.heap.size + 1) (v2.alloc (.cells #[.int .u8 (n.kind : Int), .string n.space, .string n.pre, .string n.loc, .string n.pub, .string n.sys, .slice od2 n.data.length cd2, .slice oa2 n.attrs.length ca2, .int .i64 n.parent, .slice ok2 n.kids.length ck2, .int .i64 n.doc, .int .i64 n.host, .int .i64 n.shadow, .int .u8 (n.mode : Int), .bool n.manual, .bool n.html] 49)) (v2.alloc (.cells #[.int .u8 (n.kind : Int), .string n.space, .string n.pre, .string n.loc, .string n.pub, .string n.sys, .slice od2 n.data.length cd2, .slice oa2 n.attrs.length ca2, .int .i64 n.parent, .slice ok2 n.kids.length ck2, .int .i64 n.doc, .int .i64 n.host, .int .i64 n.shadow, .int .u8 (n.mode : Int), .bool n.manual, .bool n.html] 49))) := Below.refl _ _
  have HZ : Hid (∀ V : World, Below (v2.heap.size + 1) (v2.alloc (.cells #[.int .u8 (n.kind : Int), .string n.space, .string n.pre, .string n.loc, .string n.pub, .string n.sys, .slice od2 n.data.length cd2, .slice oa2 n.attrs.length ca2, .int .i64 n.parent, .slice ok2 n.kids.length ck2, .int .i64 n.doc, .int .i64 n.host, .int .i64 n.shadow, .int .u8 (n.mode : Int), .bool n.manual, .bool n.html] 49)) V → (V.cell? ⟨W.heap.size, 0, none⟩ = some (.slice (some ⟨b, off, none⟩) ns.length cap) ∧ V.cell? ⟨v2.heap.size, 9, none⟩ = some (.slice ok2 n.kids.length ck2)) ∧ Below w.heap.size w V ∧ Below W.heap.size W V) := fun V hV => by
    have hh := HB2.out.trans ((bx_below hV).mono (bx_size HB2.out))
    have h9 := (hV.block v2.heap.size (by omega)).trans (vheap_new _ _)
    exact ⟨⟨(HX.out V hh).1, (cell_of_heap h9 9).trans rfl⟩, (HX.out V hh).2, bx_below hh⟩
  obtain ⟨cz, c9⟩ := (HZ.out _ HV0.out).1
  clear HX HB2
  go_wp2
  go_ret
  exact ⟨rfl, (HZ.out _ HV0.out).2.2⟩
end Go.Proofs.YtfaeabjgplahgaaGreat

namespace Go.Proofs.YtfaeabjgplahgaaGreat
open Go.RowKit Go.Lib Go.Shelf

set_option maxRecDepth 100000 in
set_option maxHeartbeats 8000000 in
theorem rrules_z (b off cap : Nat) (p x : Int) (rep : Bool) (ns : List NodeD) (w W : World) (hW : Below w.heap.size w W) (KP KX : Nat) (K1 HO B9 B12 B10 T DP DOC : Bool)
    (HKp : Hid (∀ V : World, Below w.heap.size w V → Calls Tryz.prog 53 #[.agg #[.slice (some ⟨b, off, none⟩) ns.length cap], .int .i64 p] V fun e w' => e = .returned (.int .u8 (KP : Int)) ∧ Below V.heap.size V w')) (HKx : Hid (∀ V : World, Below w.heap.size w V → Calls Tryz.prog 53 #[.agg #[.slice (some ⟨b, off, none⟩) ns.length cap], .int .i64 x] V fun e w' => e = .returned (.int .u8 (KX : Int)) ∧ Below V.heap.size V w'))
    (HHk : Hid (∀ V : World, Calls Tryz.prog 86 #[.int .u8 (KP : Int)] V fun e w' => e = .returned (.bool K1) ∧ w' = V))
    (HHo : Hid (∀ V : World, Below w.heap.size w V → Calls Tryz.prog 87 #[.agg #[.slice (some ⟨b, off, none⟩) ns.length cap], .int .i64 x, .int .i64 p] V fun e w' => e = .returned (.bool HO) ∧ Below V.heap.size V w'))
    (HTx : Hid (∀ V : World, Calls Tryz.prog 88 #[.int .u8 (KX : Int)] V fun e w' => e = .returned (.bool T) ∧ w' = V))
    (HDo : Hid (DP = true → ∀ V : World, Below w.heap.size w V → Calls Tryz.prog 89 #[.agg #[.slice (some ⟨b, off, none⟩) ns.length cap], .int .i64 p, .int .i64 x, .int .i64 0, .bool rep] V fun e w' => e = .returned (.bool DOC) ∧ Below V.heap.size V w'))
    (e9 : ((KX : Int) == 9) = B9) (e12 : ((KX : Int) == 12) = B12) (e10 : ((KX : Int) == 10) = B10) (p9 : ((KP : Int) == 9) = DP) :
    Calls Tryz.prog 48 #[.agg #[.slice (some ⟨b, off, none⟩) ns.length cap], .int .i64 p, .int .i64 x, .int .i64 0, .bool rep] W fun e w' => e = .returned (.int .i64 (if !K1 || HO then 10 else if B9 || B12 then 10 else if (T && DP) || (B10 && !DP) then 10 else if DP && !DOC then 10 else 0)) ∧ Below W.heap.size W w' := by
  have HB0 : Hid (Below (W.heap.size + 1) (W.alloc (.cells #[.slice (some ⟨b, off, none⟩) ns.length cap] 24)) (W.alloc (.cells #[.slice (some ⟨b, off, none⟩) ns.length cap] 24))) := Below.refl _ _
  have HW := hid hW
  have HX : Hid (∀ V : World, Below (W.heap.size + 1) (W.alloc (.cells #[.slice (some ⟨b, off, none⟩) ns.length cap] 24)) V → V.cell? ⟨W.heap.size, 0, none⟩ = some (.slice (some ⟨b, off, none⟩) ns.length cap) ∧ Below w.heap.size w V) := fun V hV => ⟨(hV.cell (p := ⟨W.heap.size, 0, none⟩) (by show W.heap.size < W.heap.size + 1; omega)).trans (by simp), HW.out.trans ((bx_below hV).mono HW.out.size)⟩
  clear hW
  go_enter Tryz.func48, Tryz.ntmps48
  go_wp2_with fail
  refine (HKp.out _ (HX.out _ HB0.out).2).mono ?_
  rintro e v1 ⟨rfl, hb⟩
  have HB1 := hid (HB0.out.trans (hb.mono (bx_size HB0.out)))
  have cb := (HX.out v1 HB1.out).1
  clear hb HB0 HKp
  go_wp2_with fail
  refine (HKx.out _ (HX.out _ HB1.out).2).mono ?_
  rintro e v2 ⟨rfl, hb⟩
  have HB2 := hid (HB1.out.trans (hb.mono (bx_size HB1.out)))
  clear hb HB1 HKx cb
  have cb := (HX.out v2 HB2.out).1
  go_wp2_with fail
  refine (HHk.out _).mono ?_
  rintro e v2' ⟨rfl, e2⟩
  have e2 := e2.symm
  subst e2
  clear HHk
  cases K1 with
  | false =>
    clear HHo HTx HDo
    go_wp2
    go_ret
    exact ⟨rfl, bx_below HB2.out⟩
  | true =>
    go_wp2_with fail
    refine (HHo.out _ (HX.out _ HB2.out).2).mono ?_
    rintro e v3 ⟨rfl, hb⟩
    have HB3 := hid (HB2.out.trans (hb.mono (bx_size HB2.out)))
    clear hb HB2 HHo cb
    have cb := (HX.out v3 HB3.out).1
    cases HO with
    | true =>
      clear HTx HDo
      go_wp2
      go_ret
      exact ⟨rfl, bx_below HB3.out⟩
    | false =>
      cases B9 with
      | true =>
        clear HTx HDo
        go_wp2
        go_ret
        exact ⟨rfl, bx_below HB3.out⟩
      | false =>
        cases B12 with
        | true =>
          clear HTx HDo
          go_wp2
          go_ret
          exact ⟨rfl, bx_below HB3.out⟩
        | false =>
          go_wp2_with fail
          refine (HTx.out _).mono ?_
          rintro e vt ⟨rfl, et⟩
          have et := et.symm
          subst et
          clear HTx
          cases DP with
          | true =>
            cases T with
            | true =>
              clear HDo
              go_wp2
              go_ret
              exact ⟨rfl, bx_below HB3.out⟩
            | false =>
              have hD := HDo.out (by first | rfl | trivial) _ (HX.out _ HB3.out).2
              clear HDo
              cases B10
              all_goals
                go_wp2_with fail
                refine hD.mono ?_
                rintro e v9 ⟨rfl, hb⟩
                have HB9 := hid (HB3.out.trans (hb.mono (bx_size HB3.out)))
                clear hb hD
                cases DOC
                all_goals
                  go_wp2
                  go_ret
                  exact ⟨rfl, bx_below HB9.out⟩
          | false =>
            clear HDo
            cases T
            all_goals
              cases B10
              all_goals
                go_wp2
                go_ret
                exact ⟨rfl, bx_below HB3.out⟩
set_option maxRecDepth 100000 in
set_option maxHeartbeats 8000000 in
theorem rrules_k (b off cap : Nat) (p x : Int) (rep : Bool) (ns : List NodeD) (w W : World) (hW : Below w.heap.size w W) (KP KX : Nat) (K1 HO B9 B12 B10 T DP DOC : Bool) (jc : Nat) (nc : NodeD) (Q : Bool) (hQ : (nc.parent != p) = Q) (hc0 : ((jc : Int) + 1 != 0) = true) (HOc : Hid (∀ V : World, Below w.heap.size w V → Calls Tryz.prog 74 #[.agg #[.slice (some ⟨b, off, none⟩) ns.length cap], .int .i64 ((jc : Int) + 1)] V fun e w' => ∃ L : Lists, e = .returned (nodeV nc L) ∧ RdN w L.data nc.data ∧ RdA w L.attrs nc.attrs ∧ RdI w L.kids nc.kids ∧ Below V.heap.size V w'))
    (HKp : Hid (∀ V : World, Below w.heap.size w V → Calls Tryz.prog 53 #[.agg #[.slice (some ⟨b, off, none⟩) ns.length cap], .int .i64 p] V fun e w' => e = .returned (.int .u8 (KP : Int)) ∧ Below V.heap.size V w')) (HKx : Hid (∀ V : World, Below w.heap.size w V → Calls Tryz.prog 53 #[.agg #[.slice (some ⟨b, off, none⟩) ns.length cap], .int .i64 x] V fun e w' => e = .returned (.int .u8 (KX : Int)) ∧ Below V.heap.size V w'))
    (HHk : Hid (∀ V : World, Calls Tryz.prog 86 #[.int .u8 (KP : Int)] V fun e w' => e = .returned (.bool K1) ∧ w' = V))
    (HHo : Hid (∀ V : World, Below w.heap.size w V → Calls Tryz.prog 87 #[.agg #[.slice (some ⟨b, off, none⟩) ns.length cap], .int .i64 x, .int .i64 p] V fun e w' => e = .returned (.bool HO) ∧ Below V.heap.size V w'))
    (HTx : Hid (∀ V : World, Calls Tryz.prog 88 #[.int .u8 (KX : Int)] V fun e w' => e = .returned (.bool T) ∧ w' = V))
    (HDo : Hid (Q = false → DP = true → ∀ V : World, Below w.heap.size w V → Calls Tryz.prog 89 #[.agg #[.slice (some ⟨b, off, none⟩) ns.length cap], .int .i64 p, .int .i64 x, .int .i64 ((jc : Int) + 1), .bool rep] V fun e w' => e = .returned (.bool DOC) ∧ Below V.heap.size V w'))
    (e9 : ((KX : Int) == 9) = B9) (e12 : ((KX : Int) == 12) = B12) (e10 : ((KX : Int) == 10) = B10) (p9 : ((KP : Int) == 9) = DP) :
    Calls Tryz.prog 48 #[.agg #[.slice (some ⟨b, off, none⟩) ns.length cap], .int .i64 p, .int .i64 x, .int .i64 ((jc : Int) + 1), .bool rep] W fun e w' => e = .returned (.int .i64 (if !K1 || HO then 10 else if Q then 11 else if B9 || B12 then 10 else if (T && DP) || (B10 && !DP) then 10 else if DP && !DOC then 10 else 0)) ∧ Below W.heap.size W w' := by
  have HB0 : Hid (Below (W.heap.size + 1) (W.alloc (.cells #[.slice (some ⟨b, off, none⟩) ns.length cap] 24)) (W.alloc (.cells #[.slice (some ⟨b, off, none⟩) ns.length cap] 24))) := Below.refl _ _
  have HW := hid hW
  have HX : Hid (∀ V : World, Below (W.heap.size + 1) (W.alloc (.cells #[.slice (some ⟨b, off, none⟩) ns.length cap] 24)) V → V.cell? ⟨W.heap.size, 0, none⟩ = some (.slice (some ⟨b, off, none⟩) ns.length cap) ∧ Below w.heap.size w V) := fun V hV => ⟨(hV.cell (p := ⟨W.heap.size, 0, none⟩) (by show W.heap.size < W.heap.size + 1; omega)).trans (by simp), HW.out.trans ((bx_below hV).mono HW.out.size)⟩
  clear hW
  go_enter Tryz.func48, Tryz.ntmps48
  go_wp2_with fail
  refine (HKp.out _ (HX.out _ HB0.out).2).mono ?_
  rintro e v1 ⟨rfl, hb⟩
  have HB1 := hid (HB0.out.trans (hb.mono (bx_size HB0.out)))
  have cb := (HX.out v1 HB1.out).1
  clear hb HB0 HKp
  go_wp2_with fail
  refine (HKx.out _ (HX.out _ HB1.out).2).mono ?_
  rintro e v2 ⟨rfl, hb⟩
  have HB2 := hid (HB1.out.trans (hb.mono (bx_size HB1.out)))
  clear hb HB1 HKx cb
  have cb := (HX.out v2 HB2.out).1
  go_wp2_with fail
  refine (HHk.out _).mono ?_
  rintro e v2' ⟨rfl, e2⟩
  have e2 := e2.symm
  subst e2
  clear HHk
  cases K1 with
  | false =>
    clear HHo HTx HDo HOc
    go_wp2
    go_ret
    exact ⟨rfl, bx_below HB2.out⟩
  | true =>
    go_wp2_with fail
    refine (HHo.out _ (HX.out _ HB2.out).2).mono ?_
    rintro e v3 ⟨rfl, hb⟩
    have HB3 := hid (HB2.out.trans (hb.mono (bx_size HB2.out)))
    clear hb HB2 HHo cb
    have cb := (HX.out v3 HB3.out).1
    cases HO with
    | true =>
      clear HTx HDo HOc
      go_wp2
      go_ret
      exact ⟨rfl, bx_below HB3.out⟩
    | false =>
      go_wp2_with fail
      refine (HOc.out _ (HX.out _ HB3.out).2).mono ?_
      rintro e v4 ⟨L, rfl, h1, h2, h3, hb⟩
      obtain ⟨od, cd, oa, ca, ok, ck, rfl⟩ := lists_slices h1 h2 h3
      have HB4 := hid (HB3.out.trans (hb.mono (bx_size HB3.out)))
      clear h1 h2 h3 hb HB3 HOc cb
      have cb := (HX.out v4 HB4.out).1
      unfold nodeV
      have hfl := fld_parent nc (.slice od nc.data.length cd) (.slice oa nc.attrs.length ca) (.slice ok nc.kids.length ck)
      cases Q with
      | true =>
        clear HTx HDo
        go_wp2
        go_ret
        exact ⟨rfl, bx_below HB4.out⟩
      | false =>
        cases B9 with
        | true =>
          clear HTx HDo
          go_wp2
          go_ret
          exact ⟨rfl, bx_below HB4.out⟩
        | false =>
          cases B12 with
          | true =>
            clear HTx HDo
            go_wp2
            go_ret
            exact ⟨rfl, bx_below HB4.out⟩
          | false =>
            go_wp2_with fail
            refine (HTx.out _).mono ?_
            rintro e vt ⟨rfl, et⟩
            have et := et.symm
            subst et
            clear HTx
            cases DP with
            | true =>
              cases T with
              | true =>
                clear HDo
                go_wp2
                go_ret
                exact ⟨rfl, bx_below HB4.out⟩
              | false =>
                have hD := HDo.out (by first | rfl | trivial) (by first | rfl | trivial) _ (HX.out _ HB4.out).2
                clear HDo
                cases B10
                all_goals
                  go_wp2_with fail
                  refine hD.mono ?_
                  rintro e v9 ⟨rfl, hb⟩
                  have HB9 := hid (HB4.out.trans (hb.mono (bx_size HB4.out)))
                  clear hb hD
                  cases DOC
                  all_goals
                    go_wp2
                    go_ret
                    exact ⟨rfl, bx_below HB9.out⟩
            | false =>
              clear HDo
              cases T
              all_goals
                cases B10
                all_goals
                  go_wp2
                  go_ret
                  exact ⟨rfl, bx_below HB4.out⟩
end Go.Proofs.YtfaeabjgplahgaaGreat

namespace Go.Proofs.YtfaeabjgplahgaaGreat
open Go.RowKit Go.Lib Go.Shelf

theorem rdocument_any (b off cap jp jx : Nat) (c : Int) (rep : Bool) (ns : List NodeD) (w W : World) (hR : RightF ns) (hF : FAt w b off cap ns) (hW : Below w.heap.size w W) (hkl : ∀ (i : Nat) (hi : i < ns.length), ns[i].kids.length ≤ 1099511627776) (hjp : jp < ns.length) (hjx : jx < ns.length) (hc : c = 0 ∨ (c ≠ 0 ∧ c ∈ ns[jp].kids)) :
    Calls Tryz.prog 89 #[.agg #[.slice (some ⟨b, off, none⟩) ns.length cap], .int .i64 ((jp : Int) + 1), .int .i64 ((jx : Int) + 1), .int .i64 c, .bool rep] W fun e w' => e = .returned (.bool (documentR ns ((jp : Int) + 1) ((jx : Int) + 1) c rep)) ∧ Below W.heap.size W w' := by
  have HOp : ∀ V : World, Below w.heap.size w V → _ := fun V hV => refOf_at b off cap jp ns w V hF hV hjp
  have HOx : ∀ V : World, Below w.heap.size w V → _ := fun V hV => refOf_at b off cap jx ns w V hF hV hjx
  have tp := kids_there hR jp hjp
  have tx := kids_there hR jx hjx
  have HE : ∀ (v : Value) (V : World), Below w.heap.size w V → RdI w v ns[jp].kids → _ := fun v V hV hv => relement_any (c := c) rep V hF hV hv (hkl jp hjp) tp hc
  have HDt : ∀ (v : Value) (V : World), Below w.heap.size w V → RdI w v ns[jp].kids → _ := fun v V hV hv => rdoctype_any (c := c) rep V hF hV hv (hkl jp hjp) tp hc
  have HC : ∀ (v : Value) (V : World), Below w.heap.size w V → RdI w v ns[jx].kids → _ := fun v V hV hv => rcount_any b off cap 1 v ns[jx].kids ns w V hF hV (hv.later hV) (hkl jx hjx) tx
  have HT : ∀ (v : Value) (V : World), Below w.heap.size w V → RdI w v ns[jx].kids → _ := fun v V hV hv => rtexts_any b off cap v ns[jx].kids ns w V hF hV hv (hkl jx hjx) tx
  unfold documentR
  rw [kidsD_at ns jx hjx, kidsD_at ns jp hjp, kindD_at ns jx hjx]
  have e11 : ((ns[jx].kind : Int) == 11) = (ns[jx].kind == 11) := beq_cast _ 11
  have e1 : ((ns[jx].kind : Int) == 1) = (ns[jx].kind == 1) := beq_cast _ 1
  have e10 : ((ns[jx].kind : Int) == 10) = (ns[jx].kind == 10) := beq_cast _ 10
  cases k11 : (ns[jx].kind == 11) with
  | true =>
    rw [k11] at e11
    rw [if_pos rfl]
    generalize textsR ns ns[jx].kids = T at *
    generalize ns[jx].kids.countP (isK ns 1) = N at *
    rcases (by omega : N = 0 ∨ N = 1 ∨ 1 < N) with rfl | rfl | h
    · cases T with
      | false => exact rdoc_frA b off cap jp jx c rep _ _ ns w W hW HOp HOx e11 HC HT
      | true => exact rdoc_frB b off cap jp jx c rep _ _ ns w W hW HOp HOx e11 HC HT
    · cases T with
      | true => exact rdoc_frC b off cap jp jx c rep _ _ ns w W hW HOp HOx e11 HC HT
      | false => exact rdoc_frD b off cap jp jx c rep _ _ ns w W hW HOp HOx e11 _ HC HT HE
    · rw [beq_eq_false_iff_ne.2 (by omega : N ≠ 0), beq_eq_false_iff_ne.2 (by omega : N ≠ 1), Bool.false_and, Bool.false_and, Bool.or_false]
      exact rdoc_frE b off cap jp jx c rep _ _ ns w W hW HOp HOx e11 (N : Int) (by omega) HC
  | false =>
    rw [k11] at e11
    rw [if_neg Bool.false_ne_true]
    cases k1 : (ns[jx].kind == 1) with
    | true =>
      rw [k1] at e1
      rw [if_pos rfl]
      exact rdoc_el b off cap jp jx c rep _ _ ns w W hW HOp HOx e11 e1 _ HE
    | false =>
      rw [k1] at e1
      rw [if_neg Bool.false_ne_true]
      cases k10 : (ns[jx].kind == 10) with
      | true =>
        rw [k10] at e10
        rw [if_pos rfl]
        exact rdoc_dt b off cap jp jx c rep _ _ ns w W hW HOp HOx e11 e1 e10 _ HDt
      | false =>
        rw [k10] at e10
        rw [if_neg Bool.false_ne_true]
        exact rdoc_ot b off cap jp jx c rep _ _ ns w W hW HOp HOx e11 e1 e10

theorem hasKids_same (k : Nat) : (k == 1 || k == 9 || k == 11 || k == 12) = hasKidsK k := by
  unfold hasKidsK mayBeTopK
  rw [Bool.or_assoc, Bool.or_assoc, Bool.or_assoc]
theorem rrules_any (b off cap : Nat) (x p c : Int) (rep : Bool) (ns : List NodeD) (w W : World) (hR : RightF ns) (hF : FAt w b off cap ns) (hW : Below w.heap.size w W) (hkl : ∀ (i : Nat) (hi : i < ns.length), ns[i].kids.length ≤ 1099511627776) (hx : thereB ns.length x = true) (hp : thereB ns.length p = true) (hc : thereB ns.length c = true ∨ (c = 0 ∧ rep = false)) :
    Calls Tryz.prog 48 #[.agg #[.slice (some ⟨b, off, none⟩) ns.length cap], .int .i64 p, .int .i64 x, .int .i64 c, .bool rep] W fun e w' => e = .returned (.int .i64 (judgeD ns rep x p c)) ∧ Below W.heap.size W w' := by
  rw [rules_same hR rep hp hc]
  have HKp : ∀ V : World, Below w.heap.size w V → _ := fun V hV => rkind_any b off cap p ns w V hF hV hp
  have HKx : ∀ V : World, Below w.heap.size w V → _ := fun V hV => rkind_any b off cap x ns w V hF hV hx
  have HHk : ∀ V : World, _ := fun V => refHasKids_any (kindD ns p) V
  rw [hasKids_same] at HHk
  have HHo : ∀ V : World, Below w.heap.size w V → _ := fun V hV => refHolds_any b off cap x p ns V hR (hF.later hV) hx hp
  have HTx : ∀ V : World, _ := fun V => rText_any (kindD ns x) V
  obtain ⟨jx, hjx, rfl⟩ := there_idx hx
  obtain ⟨jp, hjp, rfl⟩ := there_idx hp
  unfold rulesR
  rcases hc with ht | ⟨rfl, rfl⟩
  · obtain ⟨jc, hjc, rfl⟩ := there_idx ht
    have h0 := bne_zero (there_ne ht)
    rw [h0, Bool.true_and]
    refine rrules_k b off cap _ _ rep ns w W hW _ _ _ _ _ _ _ _ _ _ jc ns[jc] _ (by rw [parentD_at ns jc hjc]) h0 (fun V hV => refOf_at b off cap jc ns w V hF hV hjc) HKp HKx HHk HHo HTx (fun hq _ V hV => ?_) (beq_cast _ 9) (beq_cast _ 12) (beq_cast _ 10) (beq_cast _ 9)
    have hcp : parentD ns ((jc : Int) + 1) = (jp : Int) + 1 := by
      by_cases e : parentD ns ((jc : Int) + 1) = (jp : Int) + 1
      · exact e
      · rw [bne, beq_eq_false_iff_ne.2 e] at hq; cases hq
    have hm := hR.kid ht (by rw [hcp]; exact there_ne hp)
    rw [hcp, kidsD_at ns jp hjp] at hm
    exact rdocument_any b off cap jp jx _ rep ns w V hR hF hV hkl hjp hjx (.inr ⟨there_ne ht, hm⟩)
  · rw [show ((0 : Int) != 0 && parentD ns 0 != ((jp : Int) + 1)) = false from rfl, if_neg Bool.false_ne_true]
    exact rrules_z b off cap _ _ false ns w W hW _ _ _ _ _ _ _ _ _ _ HKp HKx HHk HHo HTx (fun _ V hV => rdocument_any b off cap jp jx 0 false ns w V hR hF hV hkl hjp hjx (.inl rfl)) (beq_cast _ 9) (beq_cast _ 12) (beq_cast _ 10) (beq_cast _ 9)

theorem own_two (w : World) (B : Nat) (x y : Int) (hB : B ≤ w.heap.size) : (w.alloc (.cells #[.int .i64 x, .int .i64 y] 3)).ownsRow B 3 1 (.slice (some ⟨w.heap.size, 0, none⟩) 2 2) 2 [Value.int .i64 x, Value.int .i64 y] :=
  ⟨rfl, .inr ⟨w.heap.size, 2, _, rfl, hB, heap_alloc_new _ _, Nat.le_refl _, by decide, rfl, rfl⟩⟩

set_option maxRecDepth 100000 in
set_option maxHeartbeats 4000000 in
theorem askReplace_walk (o : Option Addr) (cap : Nat) (x p c E R : Int) (ns : List NodeD) (w : World) (hE : (E = 0 ∨ (E != 0) = true))
    (HFa : Hid (∀ (v : Value) (W : World), Below w.heap.size w W → RdI W v [x, p, c] → Calls Tryz.prog 34 #[.agg #[.slice o ns.length cap], v] W fun e w' => e = .returned (.int .i64 E) ∧ Below W.heap.size W w'))
    (HRu : Hid (E = 0 → ∀ W : World, Below w.heap.size w W → Calls Tryz.prog 48 #[.agg #[.slice o ns.length cap], .int .i64 p, .int .i64 x, .int .i64 c, .bool true] W fun e w' => e = .returned (.int .i64 R) ∧ Below W.heap.size W w')) :
    Calls Tryz.prog 16 #[.agg #[.slice o ns.length cap], .int .i64 x, .int .i64 p, .int .i64 c] w fun e w' => e = .returned (.int .i64 (if E = 0 then R else E)) ∧ Below w.heap.size w w' := by
  have hB : Below w.heap.size w ((w.alloc (.cells #[.slice o ns.length cap] 24)).alloc (.cells #[.int .i64 x, .int .i64 p, .int .i64 c] 3)) := ((Below.refl _ w).alloc (Nat.le_refl _) _).alloc (by simp) _
  have hFa := HFa.out (.slice (some ⟨w.heap.size + 1, 0, none⟩) 3 3) _ hB (rd_cells (l := [x, p, c]) (t := 3) (vheap_new2 _ _ _))
  have HBX : Hid (∀ V, Below ((w.alloc (.cells #[.slice o ns.length cap] 24)).alloc (.cells #[.int .i64 x, .int .i64 p, .int .i64 c] 3)).heap.size ((w.alloc (.cells #[.slice o ns.length cap] 24)).alloc (.cells #[.int .i64 x, .int .i64 p, .int .i64 c] 3)) V → V.cell? ⟨w.heap.size, 0, none⟩ = some (.slice o ns.length cap)) := fun V hV => (hV.cell (p := ⟨w.heap.size, 0, none⟩) (by show w.heap.size < _; simp; omega)).trans (by simp)
  have HB := hid hB
  clear HFa hB
  rcases hE with rfl | hE
  · have hRu := HRu.out rfl
    have HR2 := hid hRu
    rw [if_pos rfl]
    clear HRu hRu
    go_enter Tryz.func16, Tryz.ntmps16
    go_wp2_with fail
    refine hFa.mono ?_
    rintro e v1 ⟨rfl, hb⟩
    have HB2 := hid (HB.out.trans (hb.mono HB.out.size))
    have cb := HBX.out v1 hb
    clear hb hFa HB HBX
    go_wp2_with fail
    refine (HR2.out _ HB2.out).mono ?_
    rintro e v2 ⟨rfl, hb⟩
    have HB3 := hid (HB2.out.trans (hb.mono HB2.out.size))
    clear hb HR2 HB2 cb
    go_wp2
    go_ret
    exact ⟨rfl, HB3.out⟩
  · have hne : E ≠ 0 := fun e => by rw [e] at hE; cases hE
    rw [if_neg hne]
    clear HRu hne
    go_enter Tryz.func16, Tryz.ntmps16
    go_wp2_with fail
    refine hFa.mono ?_
    rintro e v1 ⟨rfl, hb⟩
    have HB2 := hid (HB.out.trans (hb.mono HB.out.size))
    clear hb hFa HB HBX
    go_wp2
    go_ret
    exact ⟨rfl, HB2.out⟩
theorem zero_or (E : Int) : E = 0 ∨ (E != 0) = true := by
  by_cases h : E = 0
  · exact .inl h
  · exact .inr (bne_zero h)
theorem AskReplace_any (o : Option Addr) (cap : Nat) (x p c : Int) (ns : List NodeD) (w : World) (hF : FRd w o cap ns) (hkl : ∀ (i : Nat) (hi : i < ns.length), ns[i].kids.length ≤ 1099511627776) (hal : ∀ (i : Nat) (hi : i < ns.length), ns[i].attrs.length ≤ 1099511627776) :
    Calls Tryz.prog 16 #[.agg #[.slice o ns.length cap], .int .i64 x, .int .i64 p, .int .i64 c] w fun e w' => e = .returned (.int .i64 (replaceE ns x p c)) ∧ Below w.heap.size w w' := by
  refine askReplace_walk o cap x p c (toldE ns [x, p, c]) _ ns w (zero_or _) (fun v W hW hv => refFault_any o cap v _ ns W (hF.later hW) hkl hal hv (by simp)) (fun hE W hW => ?_)
  obtain ⟨hR, hth⟩ := toldE_zero hE
  have hx := hth x (by simp)
  obtain ⟨j, hj, _⟩ := there_idx hx
  obtain ⟨b, off, rfl, hFA⟩ := hF.at_ (by omega)
  exact rrules_any b off cap x p c true ns w W hR hFA hW hkl hx (hth p (by simp)) (.inl (hth c (by simp)))

set_option maxRecDepth 100000 in
set_option maxHeartbeats 4000000 in
theorem askInsert_walk (o : Option Addr) (cap : Nat) (x p c E R : Int) (ns : List NodeD) (w : World) (hE : (E = 0 ∨ (E != 0) = true))
    (HFa : Hid (∀ (v : Value) (W : World), Below w.heap.size w W → RdI W v (handlesI x p c) → Calls Tryz.prog 34 #[.agg #[.slice o ns.length cap], v] W fun e w' => e = .returned (.int .i64 E) ∧ Below W.heap.size W w'))
    (HRu : Hid (E = 0 → ∀ W : World, Below w.heap.size w W → Calls Tryz.prog 48 #[.agg #[.slice o ns.length cap], .int .i64 p, .int .i64 x, .int .i64 c, .bool false] W fun e w' => e = .returned (.int .i64 R) ∧ Below W.heap.size W w')) :
    Calls Tryz.prog 13 #[.agg #[.slice o ns.length cap], .int .i64 x, .int .i64 p, .int .i64 c] w fun e w' => e = .returned (.int .i64 (if E = 0 then R else E)) ∧ Below w.heap.size w w' := by
  obtain ⟨i0, hi, hz0, hz1, hz2⟩ := info_parts info_int
  have hown := own_two (w.alloc (.cells #[.slice o ns.length cap] 24)) (w.heap.size + 1) x p (by simp)
  simp only [World.size_alloc] at hown
  have hB : Below (w.heap.size + 1) (w.alloc (.cells #[.slice o ns.length cap] 24)) ((w.alloc (.cells #[.slice o ns.length cap] 24)).alloc (.cells #[.int .i64 x, .int .i64 p] 3)) := (Below.refl _ _).alloc (by simp) _
  have HX : Hid (∀ V : World, Below (w.heap.size + 1) (w.alloc (.cells #[.slice o ns.length cap] 24)) V → V.cell? ⟨w.heap.size, 0, none⟩ = some (.slice o ns.length cap)) := fun V hV => (hV.cell (p := ⟨w.heap.size, 0, none⟩) (by show w.heap.size < w.heap.size + 1; omega)).trans (by simp)
  unfold handlesI at HFa
  by_cases h0 : c = 0
  · subst h0
    rw [show ((0 : Int) == 0) = true from rfl, if_pos rfl] at HFa
    have hFa := HFa.out (.slice (some ⟨w.heap.size + 1, 0, none⟩) 2 2) _ (bx_below hB) (rd_cells (l := [x, p]) (t := 3) (vheap_new2 _ _ _))
    have HB := hid hB
    clear HFa hB hown
    rcases hE with rfl | hE
    · have hRu := HRu.out rfl
      have HR2 := hid hRu
      rw [if_pos rfl]
      clear HRu hRu
      go_enter Tryz.func13, Tryz.ntmps13
      go_wp2_with fail
      refine hFa.mono ?_
      rintro e v1 ⟨rfl, hb⟩
      have HB2 := hid (HB.out.trans (hb.mono (bx_size HB.out)))
      have cb := HX.out v1 HB2.out
      clear hb hFa HB
      go_wp2_with fail
      refine (HR2.out _ (bx_below HB2.out)).mono ?_
      rintro e v2 ⟨rfl, hb⟩
      have HB3 := hid (HB2.out.trans (hb.mono (bx_size HB2.out)))
      clear hb HR2 HB2 cb
      go_wp2
      go_ret
      exact ⟨rfl, bx_below HB3.out⟩
    · have hne : E ≠ 0 := fun e => by rw [e] at hE; cases hE
      rw [if_neg hne]
      clear HRu hne
      go_enter Tryz.func13, Tryz.ntmps13
      go_wp2_with fail
      refine hFa.mono ?_
      rintro e v1 ⟨rfl, hb⟩
      have HB2 := hid (HB.out.trans (hb.mono (bx_size HB.out)))
      clear hb hFa HB
      go_wp2
      go_ret
      exact ⟨rfl, bx_below HB2.out⟩
  · have hcne : (c != 0) = true := bne_zero h0
    rw [beq_eq_false_iff_ne.2 h0, if_neg Bool.false_ne_true] at HFa
    have m3 : w.heap.size + 1 ≤ (((w.alloc (.cells #[.slice o ns.length cap] 24)).alloc (.cells #[.int .i64 x, .int .i64 p] 3)).alloc (.cells #[.int .i64 c] 3)).heap.size := by simp only [World.size_alloc]; omega
    have m1 : 2 + 1 ≤ maxLen := by decide
    have m2 : (2 + 1) * 8 ≤ 140737488355328 := by decide
    have mc := cell_one_new ((w.alloc (.cells #[.slice o ns.length cap] 24)).alloc (.cells #[.int .i64 x, .int .i64 p] 3)) (.int .i64 c) 3
    simp only [World.size_alloc] at mc
    have HB := hid hB
    clear hB h0
    rcases hE with rfl | hE
    · have hRu := HRu.out rfl
      have HR2 := hid hRu
      rw [if_pos rfl]
      clear HRu hRu
      go_enter Tryz.func13, Tryz.ntmps13
      go_wp2_with (at_builtin; refine wpList_append_own _ rfl _ _ 26 rfl (w.heap.size + 1) 3 i0 (.int .i64 0) 1 8 Tryz.underlying26 hi hz0 hz1 hz2 rfl (by decide) _ _ _ rfl (hown.alloc _) ⟨w.heap.size + 1 + 1, 0, none⟩ 1 1 [.int .i64 c] rfl rfl mc (by simp [Value.oneCell']) m1 m2 m3 ?_; intro v' w1 hown' hgrow _; have HB1 := hid ((HB.out.alloc (bx_size HB.out) (.cells #[.int .i64 c] 3)).grown hgrow m3 (fun j hj => (hown.lt j hj).1)); have cb := HX.out w1 HB1.out)
      have hrd := ownsRow_rdI (l := [x, p, c]) (by simpa using hown')
      have hFa := HFa.out v' w1 (bx_below HB1.out) hrd
      obtain ⟨ov, cv, rfl, _, _⟩ := hrd
      clear HFa hown hown' hgrow HB
      go_wp2_with fail
      refine hFa.mono ?_
      rintro e v1 ⟨rfl, hb⟩
      have HB2 := hid (HB1.out.trans (hb.mono (bx_size HB1.out)))
      clear hb hFa HB1 cb
      have cb := HX.out v1 HB2.out
      go_wp2_with fail
      refine (HR2.out _ (bx_below HB2.out)).mono ?_
      rintro e v2 ⟨rfl, hb⟩
      have HB3 := hid (HB2.out.trans (hb.mono (bx_size HB2.out)))
      clear hb HR2 HB2 cb
      go_wp2
      go_ret
      exact ⟨rfl, bx_below HB3.out⟩
    · have hne : E ≠ 0 := fun e => by rw [e] at hE; cases hE
      rw [if_neg hne]
      clear HRu hne
      go_enter Tryz.func13, Tryz.ntmps13
      go_wp2_with (at_builtin; refine wpList_append_own _ rfl _ _ 26 rfl (w.heap.size + 1) 3 i0 (.int .i64 0) 1 8 Tryz.underlying26 hi hz0 hz1 hz2 rfl (by decide) _ _ _ rfl (hown.alloc _) ⟨w.heap.size + 1 + 1, 0, none⟩ 1 1 [.int .i64 c] rfl rfl mc (by simp [Value.oneCell']) m1 m2 m3 ?_; intro v' w1 hown' hgrow _; have HB1 := hid ((HB.out.alloc (bx_size HB.out) (.cells #[.int .i64 c] 3)).grown hgrow m3 (fun j hj => (hown.lt j hj).1)); have cb := HX.out w1 HB1.out)
      have hrd := ownsRow_rdI (l := [x, p, c]) (by simpa using hown')
      have hFa := HFa.out v' w1 (bx_below HB1.out) hrd
      obtain ⟨ov, cv, rfl, _, _⟩ := hrd
      clear HFa hown hown' hgrow HB
      go_wp2_with fail
      refine hFa.mono ?_
      rintro e v1 ⟨rfl, hb⟩
      have HB2 := hid (HB1.out.trans (hb.mono (bx_size HB1.out)))
      clear hb hFa HB1 cb
      go_wp2
      go_ret
      exact ⟨rfl, bx_below HB2.out⟩
theorem AskInsert_any (o : Option Addr) (cap : Nat) (x p c : Int) (ns : List NodeD) (w : World) (hF : FRd w o cap ns) (hkl : ∀ (i : Nat) (hi : i < ns.length), ns[i].kids.length ≤ 1099511627776) (hal : ∀ (i : Nat) (hi : i < ns.length), ns[i].attrs.length ≤ 1099511627776) :
    Calls Tryz.prog 13 #[.agg #[.slice o ns.length cap], .int .i64 x, .int .i64 p, .int .i64 c] w fun e w' => e = .returned (.int .i64 (insertE ns x p c)) ∧ Below w.heap.size w w' := by
  have hl : (handlesI x p c).length ≤ 1099511627776 := by unfold handlesI; split <;> simp
  refine askInsert_walk o cap x p c (toldE ns (handlesI x p c)) _ ns w (zero_or _) (fun v W hW hv => refFault_any o cap v _ ns W (hF.later hW) hkl hal hv hl) (fun hE W hW => ?_)
  obtain ⟨hR, hth⟩ := toldE_zero hE
  have hx := hth x (by unfold handlesI; split <;> simp)
  have hp := hth p (by unfold handlesI; split <;> simp)
  obtain ⟨j, hj, _⟩ := there_idx hx
  obtain ⟨b, off, rfl, hFA⟩ := hF.at_ (by omega)
  refine rrules_any b off cap x p c false ns w W hR hFA hW hkl hx hp ?_
  by_cases h0 : c = 0
  · exact .inr ⟨h0, rfl⟩
  · exact .inl (hth c (by unfold handlesI; rw [beq_eq_false_iff_ne.2 h0, if_neg Bool.false_ne_true]; simp))
set_option maxRecDepth 100000 in
set_option maxHeartbeats 4000000 in
theorem refAdopt_any (o : Option Addr) (cap : Nat) (x : Int) (ns : List NodeD) (w : World) (hF : FRd w o cap ns) (hkl : ∀ (i : Nat) (hi : i < ns.length), ns[i].kids.length ≤ 1099511627776) (hal : ∀ (i : Nat) (hi : i < ns.length), ns[i].attrs.length ≤ 1099511627776) :
    Calls Tryz.prog 18 #[.agg #[.slice o ns.length cap], .int .i64 x] w fun e w' => e = .returned (.int .i64 (adoptE ns x)) ∧ Below w.heap.size w w' := by
  have hB : Below w.heap.size w ((w.alloc (.cells #[.slice o ns.length cap] 24)).alloc (.cells #[.int .i64 x] 3)) := ((Below.refl _ w).alloc (Nat.le_refl _) _).alloc (by simp) _
  have hM := refFault_any o cap (.slice (some ⟨w.heap.size + 1, 0, none⟩) 1 1) [x] ns _ (hF.later hB) hkl hal (rd_cells (l := [x]) (t := 3) (vheap_new2 _ _ _)) (by simp)
  unfold adoptE
  have HB := hid hB
  by_cases hE : toldE ns [x] = 0
  · obtain ⟨hR, hth⟩ := toldE_zero hE
    have hx := hth x (by simp)
    obtain ⟨j, hj, hxj⟩ := there_idx hx
    clear hxj
    obtain ⟨b, off, rfl, hFA⟩ := hF.at_ (by omega)
    have HK : Hid (∀ V : World, Below w.heap.size w V → _) := fun V hV => rkind_any b off cap x ns w V hFA hV hx
    rw [hE] at hM
    rw [if_pos hE]
    have e1 : ((kindD ns x : Int) == 9) = (kindD ns x == 9) := beq_cast _ 9
    have e2 : ((kindD ns x : Int) == 12) = (kindD ns x == 12) := beq_cast _ 12
    clear hB hF hkl hal hE hR hth hx hFA
    generalize kindD ns x = K at *
    generalize (K == 9) = B1 at *
    generalize (K == 12) = B2 at *
    have hbx : ∀ V, Below ((w.alloc (.cells #[.slice (some ⟨b, off, none⟩) ns.length cap] 24)).alloc (.cells #[.int .i64 x] 3)).heap.size ((w.alloc (.cells #[.slice (some ⟨b, off, none⟩) ns.length cap] 24)).alloc (.cells #[.int .i64 x] 3)) V → V.cell? ⟨w.heap.size, 0, none⟩ = some (.slice (some ⟨b, off, none⟩) ns.length cap) := fun V hV => (hV.cell (p := ⟨w.heap.size, 0, none⟩) (by show w.heap.size < _; simp; omega)).trans (by simp)
    have HBX := hid hbx
    clear hbx
    cases B1 <;> cases B2
    all_goals
      go_enter Tryz.func18, Tryz.ntmps18
      go_wp2_with fail
      refine hM.mono ?_
      rintro e v1 ⟨rfl, hb⟩
      have HB2 := hid (HB.out.trans (hb.mono HB.out.size))
      have cb := HBX.out v1 hb
      clear hb hM HB HBX
      go_wp2_with fail
      refine (HK.out _ HB2.out).mono ?_
      rintro e v2 ⟨rfl, hb⟩
      have HB3 := hid (HB2.out.trans (hb.mono HB2.out.size))
      clear hb HK HB2 cb
      go_wp2
      go_ret
      exact ⟨rfl, HB3.out⟩
  · rw [if_neg hE]
    have hne := bne_zero hE
    generalize toldE ns [x] = E at *
    clear hF hkl hal hB hE
    go_enter Tryz.func18, Tryz.ntmps18
    go_wp2_with fail
    refine hM.mono ?_
    rintro e v1 ⟨rfl, hb⟩
    have HB2 := hid (HB.out.trans (hb.mono HB.out.size))
    clear hb hM HB
    go_wp2
    go_ret
    exact ⟨rfl, HB2.out⟩
end Go.Proofs.YtfaeabjgplahgaaGreat
