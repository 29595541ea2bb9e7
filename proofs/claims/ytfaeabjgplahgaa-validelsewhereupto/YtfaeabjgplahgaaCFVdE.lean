/- ValidElsewhere, whole. -/
import Derived.Test.YtfaeabjgplahgaaCFVdR
namespace Go.Proofs.Ytfaeabjgplahgaa
open Go.RowKit Go.Lib Go.Shelf

set_option maxRecDepth 100000 in
set_option maxHeartbeats 16000000 in
theorem else_noP (o : Option Addr) (cap : Nat) (p x : Int) (np nx : NodeD) (ns : List NodeD) (w : World)
    (HBg : Hid (∀ W : World, Calls Try.prog 5 #[] W fun e w' => e = .returned (.bool true) ∧ Below W.heap.size W w'))
    (HNp : Hid (∀ W : World, Below w.heap.size w W → Calls Try.prog 10 #[.agg #[.slice o ns.length cap], .int .i64 p] W fun e w' => ∃ L : Lists, e = .returned (.tuple #[nodeV np L, .bool false]) ∧ RdN w' L.data np.data ∧ RdA w' L.attrs np.attrs ∧ RdI w' L.kids np.kids ∧ Below W.heap.size W w')) (also : Bool)
    (HNx : Hid (∀ W : World, Below w.heap.size w W → Calls Try.prog 10 #[.agg #[.slice o ns.length cap], .int .i64 x] W fun e w' => ∃ L : Lists, e = .returned (.tuple #[nodeV nx L, .bool also]) ∧ RdN w' L.data nx.data ∧ RdA w' L.attrs nx.attrs ∧ RdI w' L.kids nx.kids ∧ Below W.heap.size W w')) :
    Calls Try.prog 4 #[.agg #[.slice o ns.length cap], .int .i64 p, .int .i64 x] w fun e w' => e = .returned (.bool true) ∧ Below w.heap.size w w' := by
  have HX : Hid (∀ V : World, Below (w.heap.size + 1) (w.alloc (.cells #[.slice o ns.length cap] 24)) V → V.cell? ⟨w.heap.size, 0, none⟩ = some (.slice o ns.length cap)) := fun V hV => (hV.cell (p := ⟨w.heap.size, 0, none⟩) (by show w.heap.size < w.heap.size + 1; omega)).trans (by simp)
  go_enter Try.func4, Try.ntmps4
  go_wp2_with fail
  refine (HBg.out _).mono ?_
  rintro e v0 ⟨rfl, hb0⟩
  have HB0 : Hid (Below (w.heap.size + 1) (w.alloc (.cells #[.slice o ns.length cap] 24)) v0) := hid (by simpa using hb0)
  have cb := HX.out v0 HB0.out
  clear hb0 HBg
  go_wp2_with fail
  refine (HNp.out _ (bx_below HB0.out)).mono ?_
  rintro e v1 ⟨L, rfl, h1, h2, h3, hb⟩
  obtain ⟨od1, cd1, oa1, ca1, ok1, ck1, rfl⟩ := lists_slices h1 h2 h3
  have HB1 := hid (HB0.out.trans (hb.mono (bx_size HB0.out)))
  have HKp := hid h3
  have hs1 := bx_size HB1.out
  have hl1 : w.heap.size < v1.heap.size := by omega
  have hl1' : w.heap.size < v1.heap.size + 1 := by omega
  have cb1 := HX.out v1 HB1.out
  have HC1 := hid (HB1.out.alloc (bx_size HB1.out) (.cells #[.int .u8 (np.kind : Int), .string np.space, .string np.pre, .string np.loc, .string np.pub, .string np.sys, .slice od1 np.data.length cd1, .slice oa1 np.attrs.length ca1, .int .i64 np.parent, .slice ok1 np.kids.length ck1, .int .i64 np.doc, .int .i64 np.host, .int .i64 np.shadow, .int .u8 (np.mode : Int), .bool np.manual, .bool np.html] 40))
  have cb1' := HX.out _ HC1.out
  clear h1 h2 h3 hb HNp HB0 cb
  unfold nodeV
  go_wp2_with fail
  refine (HNx.out _ (bx_below HC1.out)).mono ?_
  rintro e v2 ⟨L, rfl, h1, h2, h3, hb⟩
  obtain ⟨od2, cd2, oa2, ca2, ok2, ck2, rfl⟩ := lists_slices h1 h2 h3
  have HD2 : Hid (Below (v1.heap.size + 1) (v1.alloc (.cells #[.int .u8 (np.kind : Int), .string np.space, .string np.pre, .string np.loc, .string np.pub, .string np.sys, .slice od1 np.data.length cd1, .slice oa1 np.attrs.length ca1, .int .i64 np.parent, .slice ok1 np.kids.length ck1, .int .i64 np.doc, .int .i64 np.host, .int .i64 np.shadow, .int .u8 (np.mode : Int), .bool np.manual, .bool np.html] 40)) v2) := hid (by simpa using hb)
  have HB2 := hid (HC1.out.trans (hb.mono (bx_size HC1.out)))
  have hs2 := bx_size HB2.out
  have hl2 : w.heap.size < v2.heap.size := by omega
  have hl2' : w.heap.size < v2.heap.size + 1 := by omega
  have hl3 := bx_size HD2.out
  have hl4 : v1.heap.size < v2.heap.size := by omega
  have cb2 := HX.out v2 HB2.out
  have HC2 := hid (HB2.out.alloc (bx_size HB2.out) (.cells #[.int .u8 (nx.kind : Int), .string nx.space, .string nx.pre, .string nx.loc, .string nx.pub, .string nx.sys, .slice od2 nx.data.length cd2, .slice oa2 nx.attrs.length ca2, .int .i64 nx.parent, .slice ok2 nx.kids.length ck2, .int .i64 nx.doc, .int .i64 nx.host, .int .i64 nx.shadow, .int .u8 (nx.mode : Int), .bool nx.manual, .bool nx.html] 40))
  have cb2' := HX.out _ HC2.out
  clear h1 h2 h3 hb HNx HC1 HB1 cb1 cb1'
  unfold nodeV
  go_wp2
  go_ret
  exact ⟨rfl, bx_below HC2.out⟩
set_option maxRecDepth 100000 in
set_option maxHeartbeats 16000000 in
theorem else_noX (o : Option Addr) (cap : Nat) (p x : Int) (np nx : NodeD) (ns : List NodeD) (w : World)
    (HBg : Hid (∀ W : World, Calls Try.prog 5 #[] W fun e w' => e = .returned (.bool true) ∧ Below W.heap.size W w'))
    (HNp : Hid (∀ W : World, Below w.heap.size w W → Calls Try.prog 10 #[.agg #[.slice o ns.length cap], .int .i64 p] W fun e w' => ∃ L : Lists, e = .returned (.tuple #[nodeV np L, .bool true]) ∧ RdN w' L.data np.data ∧ RdA w' L.attrs np.attrs ∧ RdI w' L.kids np.kids ∧ Below W.heap.size W w'))
    (HNx : Hid (∀ W : World, Below w.heap.size w W → Calls Try.prog 10 #[.agg #[.slice o ns.length cap], .int .i64 x] W fun e w' => ∃ L : Lists, e = .returned (.tuple #[nodeV nx L, .bool false]) ∧ RdN w' L.data nx.data ∧ RdA w' L.attrs nx.attrs ∧ RdI w' L.kids nx.kids ∧ Below W.heap.size W w')) :
    Calls Try.prog 4 #[.agg #[.slice o ns.length cap], .int .i64 p, .int .i64 x] w fun e w' => e = .returned (.bool true) ∧ Below w.heap.size w w' := by
  have HX : Hid (∀ V : World, Below (w.heap.size + 1) (w.alloc (.cells #[.slice o ns.length cap] 24)) V → V.cell? ⟨w.heap.size, 0, none⟩ = some (.slice o ns.length cap)) := fun V hV => (hV.cell (p := ⟨w.heap.size, 0, none⟩) (by show w.heap.size < w.heap.size + 1; omega)).trans (by simp)
  go_enter Try.func4, Try.ntmps4
  go_wp2_with fail
  refine (HBg.out _).mono ?_
  rintro e v0 ⟨rfl, hb0⟩
  have HB0 : Hid (Below (w.heap.size + 1) (w.alloc (.cells #[.slice o ns.length cap] 24)) v0) := hid (by simpa using hb0)
  have cb := HX.out v0 HB0.out
  clear hb0 HBg
  go_wp2_with fail
  refine (HNp.out _ (bx_below HB0.out)).mono ?_
  rintro e v1 ⟨L, rfl, h1, h2, h3, hb⟩
  obtain ⟨od1, cd1, oa1, ca1, ok1, ck1, rfl⟩ := lists_slices h1 h2 h3
  have HB1 := hid (HB0.out.trans (hb.mono (bx_size HB0.out)))
  have HKp := hid h3
  have hs1 := bx_size HB1.out
  have hl1 : w.heap.size < v1.heap.size := by omega
  have hl1' : w.heap.size < v1.heap.size + 1 := by omega
  have cb1 := HX.out v1 HB1.out
  have HC1 := hid (HB1.out.alloc (bx_size HB1.out) (.cells #[.int .u8 (np.kind : Int), .string np.space, .string np.pre, .string np.loc, .string np.pub, .string np.sys, .slice od1 np.data.length cd1, .slice oa1 np.attrs.length ca1, .int .i64 np.parent, .slice ok1 np.kids.length ck1, .int .i64 np.doc, .int .i64 np.host, .int .i64 np.shadow, .int .u8 (np.mode : Int), .bool np.manual, .bool np.html] 40))
  have cb1' := HX.out _ HC1.out
  clear h1 h2 h3 hb HNp HB0 cb
  unfold nodeV
  go_wp2_with fail
  refine (HNx.out _ (bx_below HC1.out)).mono ?_
  rintro e v2 ⟨L, rfl, h1, h2, h3, hb⟩
  obtain ⟨od2, cd2, oa2, ca2, ok2, ck2, rfl⟩ := lists_slices h1 h2 h3
  have HD2 : Hid (Below (v1.heap.size + 1) (v1.alloc (.cells #[.int .u8 (np.kind : Int), .string np.space, .string np.pre, .string np.loc, .string np.pub, .string np.sys, .slice od1 np.data.length cd1, .slice oa1 np.attrs.length ca1, .int .i64 np.parent, .slice ok1 np.kids.length ck1, .int .i64 np.doc, .int .i64 np.host, .int .i64 np.shadow, .int .u8 (np.mode : Int), .bool np.manual, .bool np.html] 40)) v2) := hid (by simpa using hb)
  have HB2 := hid (HC1.out.trans (hb.mono (bx_size HC1.out)))
  have hs2 := bx_size HB2.out
  have hl2 : w.heap.size < v2.heap.size := by omega
  have hl2' : w.heap.size < v2.heap.size + 1 := by omega
  have hl3 := bx_size HD2.out
  have hl4 : v1.heap.size < v2.heap.size := by omega
  have cb2 := HX.out v2 HB2.out
  have HC2 := hid (HB2.out.alloc (bx_size HB2.out) (.cells #[.int .u8 (nx.kind : Int), .string nx.space, .string nx.pre, .string nx.loc, .string nx.pub, .string nx.sys, .slice od2 nx.data.length cd2, .slice oa2 nx.attrs.length ca2, .int .i64 nx.parent, .slice ok2 nx.kids.length ck2, .int .i64 nx.doc, .int .i64 nx.host, .int .i64 nx.shadow, .int .u8 (nx.mode : Int), .bool nx.manual, .bool nx.html] 40))
  have cb2' := HX.out _ HC2.out
  clear h1 h2 h3 hb HNx HC1 HB1 cb1 cb1'
  unfold nodeV
  go_wp2
  go_ret
  exact ⟨rfl, bx_below HC2.out⟩
set_option maxRecDepth 100000 in
set_option maxHeartbeats 16000000 in
theorem else_noR (o : Option Addr) (cap : Nat) (p x : Int) (np nx : NodeD) (ns : List NodeD) (w : World)
    (HBg : Hid (∀ W : World, Calls Try.prog 5 #[] W fun e w' => e = .returned (.bool true) ∧ Below W.heap.size W w'))
    (HNp : Hid (∀ W : World, Below w.heap.size w W → Calls Try.prog 10 #[.agg #[.slice o ns.length cap], .int .i64 p] W fun e w' => ∃ L : Lists, e = .returned (.tuple #[nodeV np L, .bool true]) ∧ RdN w' L.data np.data ∧ RdA w' L.attrs np.attrs ∧ RdI w' L.kids np.kids ∧ Below W.heap.size W w'))
    (HNx : Hid (∀ W : World, Below w.heap.size w W → Calls Try.prog 10 #[.agg #[.slice o ns.length cap], .int .i64 x] W fun e w' => ∃ L : Lists, e = .returned (.tuple #[nodeV nx L, .bool true]) ∧ RdN w' L.data nx.data ∧ RdA w' L.attrs nx.attrs ∧ RdI w' L.kids nx.kids ∧ Below W.heap.size W w'))
    (HRt : Hid (∀ W : World, Below w.heap.size w W → Calls Try.prog 6 #[.agg #[.slice o ns.length cap]] W fun e w' => e = .returned (.bool false) ∧ Below W.heap.size W w')) :
    Calls Try.prog 4 #[.agg #[.slice o ns.length cap], .int .i64 p, .int .i64 x] w fun e w' => e = .returned (.bool true) ∧ Below w.heap.size w w' := by
  have HX : Hid (∀ V : World, Below (w.heap.size + 1) (w.alloc (.cells #[.slice o ns.length cap] 24)) V → V.cell? ⟨w.heap.size, 0, none⟩ = some (.slice o ns.length cap)) := fun V hV => (hV.cell (p := ⟨w.heap.size, 0, none⟩) (by show w.heap.size < w.heap.size + 1; omega)).trans (by simp)
  go_enter Try.func4, Try.ntmps4
  go_wp2_with fail
  refine (HBg.out _).mono ?_
  rintro e v0 ⟨rfl, hb0⟩
  have HB0 : Hid (Below (w.heap.size + 1) (w.alloc (.cells #[.slice o ns.length cap] 24)) v0) := hid (by simpa using hb0)
  have cb := HX.out v0 HB0.out
  clear hb0 HBg
  go_wp2_with fail
  refine (HNp.out _ (bx_below HB0.out)).mono ?_
  rintro e v1 ⟨L, rfl, h1, h2, h3, hb⟩
  obtain ⟨od1, cd1, oa1, ca1, ok1, ck1, rfl⟩ := lists_slices h1 h2 h3
  have HB1 := hid (HB0.out.trans (hb.mono (bx_size HB0.out)))
  have HKp := hid h3
  have hs1 := bx_size HB1.out
  have hl1 : w.heap.size < v1.heap.size := by omega
  have hl1' : w.heap.size < v1.heap.size + 1 := by omega
  have cb1 := HX.out v1 HB1.out
  have HC1 := hid (HB1.out.alloc (bx_size HB1.out) (.cells #[.int .u8 (np.kind : Int), .string np.space, .string np.pre, .string np.loc, .string np.pub, .string np.sys, .slice od1 np.data.length cd1, .slice oa1 np.attrs.length ca1, .int .i64 np.parent, .slice ok1 np.kids.length ck1, .int .i64 np.doc, .int .i64 np.host, .int .i64 np.shadow, .int .u8 (np.mode : Int), .bool np.manual, .bool np.html] 40))
  have cb1' := HX.out _ HC1.out
  clear h1 h2 h3 hb HNp HB0 cb
  unfold nodeV
  go_wp2_with fail
  refine (HNx.out _ (bx_below HC1.out)).mono ?_
  rintro e v2 ⟨L, rfl, h1, h2, h3, hb⟩
  obtain ⟨od2, cd2, oa2, ca2, ok2, ck2, rfl⟩ := lists_slices h1 h2 h3
  have HD2 : Hid (Below (v1.heap.size + 1) (v1.alloc (.cells #[.int .u8 (np.kind : Int), .string np.space, .string np.pre, .string np.loc, .string np.pub, .string np.sys, .slice od1 np.data.length cd1, .slice oa1 np.attrs.length ca1, .int .i64 np.parent, .slice ok1 np.kids.length ck1, .int .i64 np.doc, .int .i64 np.host, .int .i64 np.shadow, .int .u8 (np.mode : Int), .bool np.manual, .bool np.html] 40)) v2) := hid (by simpa using hb)
  have HB2 := hid (HC1.out.trans (hb.mono (bx_size HC1.out)))
  have hs2 := bx_size HB2.out
  have hl2 : w.heap.size < v2.heap.size := by omega
  have hl2' : w.heap.size < v2.heap.size + 1 := by omega
  have hl3 := bx_size HD2.out
  have hl4 : v1.heap.size < v2.heap.size := by omega
  have cb2 := HX.out v2 HB2.out
  have HC2 := hid (HB2.out.alloc (bx_size HB2.out) (.cells #[.int .u8 (nx.kind : Int), .string nx.space, .string nx.pre, .string nx.loc, .string nx.pub, .string nx.sys, .slice od2 nx.data.length cd2, .slice oa2 nx.attrs.length ca2, .int .i64 nx.parent, .slice ok2 nx.kids.length ck2, .int .i64 nx.doc, .int .i64 nx.host, .int .i64 nx.shadow, .int .u8 (nx.mode : Int), .bool nx.manual, .bool nx.html] 40))
  have cb2' := HX.out _ HC2.out
  clear h1 h2 h3 hb HNx HC1 HB1 cb1 cb1'
  unfold nodeV
  go_wp2_with fail
  refine (HRt.out _ (bx_below HC2.out)).mono ?_
  rintro e v3 ⟨rfl, hb⟩
  have HB3 := hid (HC2.out.trans (hb.mono (bx_size HC2.out)))
  clear hb HRt
  go_wp2
  go_ret
  exact ⟨rfl, bx_below HB3.out⟩
set_option maxRecDepth 100000 in
set_option maxHeartbeats 16000000 in
theorem else_main (o : Option Addr) (cap : Nat) (p x : Int) (np nx : NodeD) (ns : List NodeD) (w : World)
    (HBg : Hid (∀ W : World, Calls Try.prog 5 #[] W fun e w' => e = .returned (.bool true) ∧ Below W.heap.size W w'))
    (HNp : Hid (∀ W : World, Below w.heap.size w W → Calls Try.prog 10 #[.agg #[.slice o ns.length cap], .int .i64 p] W fun e w' => ∃ L : Lists, e = .returned (.tuple #[nodeV np L, .bool true]) ∧ RdN w' L.data np.data ∧ RdA w' L.attrs np.attrs ∧ RdI w' L.kids np.kids ∧ Below W.heap.size W w'))
    (HNx : Hid (∀ W : World, Below w.heap.size w W → Calls Try.prog 10 #[.agg #[.slice o ns.length cap], .int .i64 x] W fun e w' => ∃ L : Lists, e = .returned (.tuple #[nodeV nx L, .bool true]) ∧ RdN w' L.data nx.data ∧ RdA w' L.attrs nx.attrs ∧ RdI w' L.kids nx.kids ∧ Below W.heap.size W w'))
    (HRt : Hid (∀ W : World, Below w.heap.size w W → Calls Try.prog 6 #[.agg #[.slice o ns.length cap]] W fun e w' => e = .returned (.bool true) ∧ Below W.heap.size W w'))
    (C b1 b2 b3 b4 b5 b6 : Bool) (e1 : ((np.kind : Int) == 1) = b1) (e2 : ((np.kind : Int) == 11) = b2) (e3 : ((np.kind : Int) == 12) = b3) (e4 : ((nx.kind : Int) == 9) = b4) (e5 : ((nx.kind : Int) == 12) = b5) (e6 : ((nx.kind : Int) == 10) = b6) (hC : Hid (((!b1 && !b2 && !b3) || b4 || b5 || b6) = C)) (l : List Int) (hll : l.length ≤ 1099511627776) (hkl : np.kids.length ≤ 1099511627776)
    (HIn : Hid (∀ W : World, Below w.heap.size w W → Calls Try.prog 9 #[.agg #[.slice o ns.length cap], .int .i64 x] W fun e w' => ∃ v, e = .returned v ∧ RdI w' v l ∧ Below W.heap.size W w'))
    (HI : Hid (C = false → p ∉ l → ∀ y ∈ np.kids, ∀ W : World, Below w.heap.size w W → Calls Try.prog 7 #[.agg #[.slice o ns.length cap], .int .i64 x, .int .i64 p, .int .i64 y] W fun e w' => e = .returned (.int .i64 0) ∧ Below W.heap.size W w'))
    (HR : Hid (C = false → p ∉ l → ∀ y ∈ np.kids, ∀ W : World, Below w.heap.size w W → Calls Try.prog 8 #[.agg #[.slice o ns.length cap], .int .i64 x, .int .i64 p, .int .i64 y] W fun e w' => e = .returned (.int .i64 0) ∧ Below W.heap.size W w'))
    (HI0 : Hid (C = false → p ∉ l → ∀ W : World, Below w.heap.size w W → Calls Try.prog 7 #[.agg #[.slice o ns.length cap], .int .i64 x, .int .i64 p, .int .i64 0] W fun e w' => e = .returned (.int .i64 0) ∧ Below W.heap.size W w')) :
    Calls Try.prog 4 #[.agg #[.slice o ns.length cap], .int .i64 p, .int .i64 x] w fun e w' => e = .returned (.bool true) ∧ Below w.heap.size w w' := by
  have HX : Hid (∀ V : World, Below (w.heap.size + 1) (w.alloc (.cells #[.slice o ns.length cap] 24)) V → V.cell? ⟨w.heap.size, 0, none⟩ = some (.slice o ns.length cap)) := fun V hV => (hV.cell (p := ⟨w.heap.size, 0, none⟩) (by show w.heap.size < w.heap.size + 1; omega)).trans (by simp)
  go_enter Try.func4, Try.ntmps4
  go_wp2_with fail
  refine (HBg.out _).mono ?_
  rintro e v0 ⟨rfl, hb0⟩
  have HB0 : Hid (Below (w.heap.size + 1) (w.alloc (.cells #[.slice o ns.length cap] 24)) v0) := hid (by simpa using hb0)
  have cb := HX.out v0 HB0.out
  clear hb0 HBg
  go_wp2_with fail
  refine (HNp.out _ (bx_below HB0.out)).mono ?_
  rintro e v1 ⟨L, rfl, h1, h2, h3, hb⟩
  obtain ⟨od1, cd1, oa1, ca1, ok1, ck1, rfl⟩ := lists_slices h1 h2 h3
  have HB1 := hid (HB0.out.trans (hb.mono (bx_size HB0.out)))
  have HKp := hid h3
  have hs1 := bx_size HB1.out
  have hl1 : w.heap.size < v1.heap.size := by omega
  have hl1' : w.heap.size < v1.heap.size + 1 := by omega
  have cb1 := HX.out v1 HB1.out
  have HC1 := hid (HB1.out.alloc (bx_size HB1.out) (.cells #[.int .u8 (np.kind : Int), .string np.space, .string np.pre, .string np.loc, .string np.pub, .string np.sys, .slice od1 np.data.length cd1, .slice oa1 np.attrs.length ca1, .int .i64 np.parent, .slice ok1 np.kids.length ck1, .int .i64 np.doc, .int .i64 np.host, .int .i64 np.shadow, .int .u8 (np.mode : Int), .bool np.manual, .bool np.html] 40))
  have cb1' := HX.out _ HC1.out
  clear h1 h2 h3 hb HNp HB0 cb
  unfold nodeV
  go_wp2_with fail
  refine (HNx.out _ (bx_below HC1.out)).mono ?_
  rintro e v2 ⟨L, rfl, h1, h2, h3, hb⟩
  obtain ⟨od2, cd2, oa2, ca2, ok2, ck2, rfl⟩ := lists_slices h1 h2 h3
  have HD2 : Hid (Below (v1.heap.size + 1) (v1.alloc (.cells #[.int .u8 (np.kind : Int), .string np.space, .string np.pre, .string np.loc, .string np.pub, .string np.sys, .slice od1 np.data.length cd1, .slice oa1 np.attrs.length ca1, .int .i64 np.parent, .slice ok1 np.kids.length ck1, .int .i64 np.doc, .int .i64 np.host, .int .i64 np.shadow, .int .u8 (np.mode : Int), .bool np.manual, .bool np.html] 40)) v2) := hid (by simpa using hb)
  have HB2 := hid (HC1.out.trans (hb.mono (bx_size HC1.out)))
  have hs2 := bx_size HB2.out
  have hl2 : w.heap.size < v2.heap.size := by omega
  have hl2' : w.heap.size < v2.heap.size + 1 := by omega
  have hl3 := bx_size HD2.out
  have hl4 : v1.heap.size < v2.heap.size := by omega
  have cb2 := HX.out v2 HB2.out
  have HC2 := hid (HB2.out.alloc (bx_size HB2.out) (.cells #[.int .u8 (nx.kind : Int), .string nx.space, .string nx.pre, .string nx.loc, .string nx.pub, .string nx.sys, .slice od2 nx.data.length cd2, .slice oa2 nx.attrs.length ca2, .int .i64 nx.parent, .slice ok2 nx.kids.length ck2, .int .i64 nx.doc, .int .i64 nx.host, .int .i64 nx.shadow, .int .u8 (nx.mode : Int), .bool nx.manual, .bool nx.html] 40))
  have cb2' := HX.out _ HC2.out
  clear h1 h2 h3 hb HNx HC1 HB1 cb1 cb1'
  unfold nodeV
  go_wp2_with fail
  refine (HRt.out _ (bx_below HC2.out)).mono ?_
  rintro e v3 ⟨rfl, hb⟩
  have HB3 := hid (HC2.out.trans (hb.mono (bx_size HC2.out)))
  have HZ : Hid (∀ V : World, Below (v2.heap.size + 1) (v2.alloc (.cells #[.int .u8 (nx.kind : Int), .string nx.space, .string nx.pre, .string nx.loc, .string nx.pub, .string nx.sys, .slice od2 nx.data.length cd2, .slice oa2 nx.attrs.length ca2, .int .i64 nx.parent, .slice ok2 nx.kids.length ck2, .int .i64 nx.doc, .int .i64 nx.host, .int .i64 nx.shadow, .int .u8 (nx.mode : Int), .bool nx.manual, .bool nx.html] 40)) V → (V.cell? ⟨w.heap.size, 0, none⟩ = some (.slice o ns.length cap) ∧ V.cell? ⟨v1.heap.size, 0, none⟩ = some (.int .u8 (np.kind : Int)) ∧ V.cell? ⟨v1.heap.size, 9, none⟩ = some (.slice ok1 np.kids.length ck1) ∧ V.cell? ⟨v2.heap.size, 0, none⟩ = some (.int .u8 (nx.kind : Int))) ∧ Below w.heap.size w V ∧ RdI V (.slice ok1 np.kids.length ck1) np.kids) := fun V hV => by
    have hh := HB2.out.trans ((bx_below hV).mono (bx_size HB2.out))
    have h9 := (((bx_below hV).block v1.heap.size hl4).trans (HD2.out.block v1.heap.size (by omega))).trans (vheap_new _ _)
    have hx9 := (hV.block v2.heap.size (by omega)).trans (vheap_new _ _)
    exact ⟨⟨HX.out V hh, (cell_of_heap h9 0).trans rfl, (cell_of_heap h9 9).trans rfl, (cell_of_heap hx9 0).trans rfl⟩, bx_below hh, HKp.out.later (((Below.refl _ v1).alloc (Nat.le_refl _) _).trans ((HD2.out.mono (Nat.le_succ _)).trans ((bx_below hV).mono (by omega))))⟩
  have HV3 : Hid (Below (v2.heap.size + 1) (v2.alloc (.cells #[.int .u8 (nx.kind : Int), .string nx.space, .string nx.pre, .string nx.loc, .string nx.pub, .string nx.sys, .slice od2 nx.data.length cd2, .slice oa2 nx.attrs.length ca2, .int .i64 nx.parent, .slice ok2 nx.kids.length ck2, .int .i64 nx.doc, .int .i64 nx.host, .int .i64 nx.shadow, .int .u8 (nx.mode : Int), .bool nx.manual, .bool nx.html] 40)) v3) := hid (by simpa using hb)
  obtain ⟨c0, c1, c2, c3⟩ := (HZ.out v3 HV3.out).1
  clear hb HRt cb2 cb2' hl1 hl1' hl2 hl2' hl3 hl4 hs1 hs2 HX HB2 HD2 HKp HC2 HB3
  go_upto_region 7 with fail
  go_cut [66] (fun t wx => t = .bool C ∧ wx = v3)
  case first => as_aux_lemma =>
    have hC' := hC.out
    clear hC HI HR HI0 HIn HZ HV3
    subst hC'
    have f1 : ((np.kind : Int) != 1) = !b1 := by rw [bne, e1]
    have f2 : ((np.kind : Int) != 11) = !b2 := by rw [bne, e2]
    have f3 : ((np.kind : Int) != 12) = !b3 := by rw [bne, e3]
    cases b1 with
    | true =>
      have g1 : ((np.kind : Int) != 1) = false := f1
      clear e1 f1 e2 f2 e3 f3
      cases b4 with
      | true =>
        go_wp2_with fail
        go_meet
        exact ⟨rfl, rfl⟩
      | false =>
        cases b5 with
        | true =>
          go_wp2_with fail
          go_meet
          exact ⟨rfl, rfl⟩
        | false =>
          cases b6 with
          | true =>
            go_wp2_with fail
            go_meet
            exact ⟨rfl, rfl⟩
          | false =>
            go_wp2_with fail
            go_meet
            exact ⟨rfl, rfl⟩
    | false =>
      have g1 : ((np.kind : Int) != 1) = true := f1
      clear e1 f1
      cases b2 with
      | true =>
        have g2 : ((np.kind : Int) != 11) = false := f2
        clear e2 f2 e3 f3
        cases b4 with
        | true =>
          go_wp2_with fail
          go_meet
          exact ⟨rfl, rfl⟩
        | false =>
          cases b5 with
          | true =>
            go_wp2_with fail
            go_meet
            exact ⟨rfl, rfl⟩
          | false =>
            cases b6 with
            | true =>
              go_wp2_with fail
              go_meet
              exact ⟨rfl, rfl⟩
            | false =>
              go_wp2_with fail
              go_meet
              exact ⟨rfl, rfl⟩
      | false =>
        have g2 : ((np.kind : Int) != 11) = true := f2
        clear e2 f2
        cases b3 with
        | true =>
          have g3 : ((np.kind : Int) != 12) = false := f3
          clear e3 f3
          cases b4 with
          | true =>
            go_wp2_with fail
            go_meet
            exact ⟨rfl, rfl⟩
          | false =>
            cases b5 with
            | true =>
              go_wp2_with fail
              go_meet
              exact ⟨rfl, rfl⟩
            | false =>
              cases b6 with
              | true =>
                go_wp2_with fail
                go_meet
                exact ⟨rfl, rfl⟩
              | false =>
                go_wp2_with fail
                go_meet
                exact ⟨rfl, rfl⟩
        | false =>
          have g3 : ((np.kind : Int) != 12) = true := f3
          clear e3 f3
          go_wp2_with fail
          go_meet
          exact ⟨rfl, rfl⟩
  case rest => as_aux_lemma =>
    obtain ⟨rfl, e3'⟩ := hcut
    have e3' := e3'.symm
    subst e3'
    clear hC e1 e2 e3 e4 e5 e6
    cases C with
    | true =>
      clear HI HR HI0 HIn
      go_wp2
      go_ret
      exact ⟨rfl, (HZ.out _ HV3.out).2.1⟩
    | false =>
      go_wp2_with fail
      refine (HIn.out _ (HZ.out _ HV3.out).2.1).mono ?_
      rintro e v4 ⟨vl, rfl, hl, hb⟩
      have HV4 := hid (HV3.out.trans (hb.mono (bx_size HV3.out)))
      clear hb HIn HV3 c0 c1 c2 c3
      obtain ⟨ol, cl, rfl, hcl, gl⟩ := hl
      have G := hid gl
      clear gl
      go_wp2
      go_loopw [12] (fun i wr => ∃ k : Nat, k ≤ l.length ∧ i = .int .i64 k ∧ wr = v4 ∧ Hid (p ∉ l.take k)) (fun i _ => l.length - (RowKit.intOf i).toNat)
      case atStart => exact ⟨0, Nat.zero_le _, rfl, rfl, fun h => absurd h List.not_mem_nil⟩
      case round =>
        obtain ⟨k, hk, rfl, rfl, hK⟩ := hrel
        by_cases hlt : k < l.length
        · obtain ⟨bl, offl, rfl, hlt1, ha⟩ := G.out (by omega)
          have x1 := ha k hlt
          have Hn : Hid ((l[k] == p) = false → p ∉ l.take (k + 1)) := fun he hm => by
            rw [List.take_succ_eq_append_getElem hlt] at hm
            rcases List.mem_append.1 hm with hm | hm
            · exact hK.out hm
            · rw [List.mem_singleton.1 hm, beq_self_eq_true] at he; cases he
          have q1 : (0 : Int) ≤ (k : Int) := by omega
          have q2 : (k : Int) < (l.length : Int) := by omega
          clear ha G hK HI HR HI0
          generalize l[k] = a at *
          cases he : (a == p) with
          | true =>
            clear Hn
            go_wp2
            go_ret
            exact ⟨rfl, (HZ.out _ HV4.out).2.1⟩
          | false =>
            have Hn' := hid (Hn.out he)
            clear Hn
            go_wp2
            go_roundw
            case rel => exact ⟨k + 1, by omega, by go_num, trivial, Hn'⟩
            case measure => simp [RowKit.intOf]; omega
        · have hnot : p ∉ l := by
            have h := hK.out
            rw [show l.take k = l from List.take_of_length_le (by omega)] at h
            exact h
          have HI' := hid (HI.out (by first | rfl | trivial) hnot)
          have HR' := hid (HR.out (by first | rfl | trivial) hnot)
          have HI0' := hid (HI0.out (by first | rfl | trivial) hnot)
          clear hK G HI HR HI0 hnot
          go_wp2
          go_loopw [13] (fun i wr => ∃ m : Nat, m ≤ np.kids.length ∧ i = .int .i64 m ∧ Hid (Below (v2.heap.size + 1) (v2.alloc (.cells #[.int .u8 (nx.kind : Int), .string nx.space, .string nx.pre, .string nx.loc, .string nx.pub, .string nx.sys, .slice od2 nx.data.length cd2, .slice oa2 nx.attrs.length ca2, .int .i64 nx.parent, .slice ok2 nx.kids.length ck2, .int .i64 nx.doc, .int .i64 nx.host, .int .i64 nx.shadow, .int .u8 (nx.mode : Int), .bool nx.manual, .bool nx.html] 40)) wr)) (fun i _ => np.kids.length - (RowKit.intOf i).toNat)
          case atStart => exact ⟨0, Nat.zero_le _, rfl, HV4⟩
          case round =>
            obtain ⟨m, hm, rfl, hV⟩ := hrel
            clear HV4
            obtain ⟨⟨c0, c1, c2, c3⟩, hBw, hrd⟩ := HZ.out _ hV.out
            by_cases hlt : m < np.kids.length
            · obtain ⟨o9, c9, e9, hc9, g9⟩ := hrd
              simp only [Value.slice.injEq] at e9
              obtain ⟨rfl, -, rfl⟩ := e9
              obtain ⟨bk, offk, rfl, hltk, hak⟩ := g9 (by omega)
              have x1 := hak m hlt
              have HIm := hid (HI'.out np.kids[m] (List.getElem_mem hlt))
              have HRm := hid (HR'.out np.kids[m] (List.getElem_mem hlt))
              have q1 : (0 : Int) ≤ (m : Int) := by omega
              have q2 : (m : Int) < (np.kids.length : Int) := by omega
              have q3 : ((m : Int)).toNat = m := by omega
              have HVd := hid hV.out.drew
              have HS : Hid (∀ V : World, Below wr.heap.size wr V → V.cell? ⟨bk, offk + m, none⟩ = some (.int .i64 np.kids[m])) := fun V hV' => (hV'.cell (p := ⟨bk, offk + m, none⟩) hltk).trans x1
              have HW0 : Hid (Below wr.heap.size wr wr.drew) := (Below.refl _ _).drew
              clear hak g9 HI' HR' HI0' hV hBw
              generalize np.kids[m] = a at *
              go_upto_region 18 with fail
              refine wp_region_held_drew (S := (fun V => V.cell? ⟨w.heap.size, 0, none⟩ = some (.slice o ns.length cap) ∧ V.cell? ⟨v1.heap.size, 9, none⟩ = some (.slice (some ⟨bk, offk, none⟩) np.kids.length ck1) ∧ V.cell? ⟨bk, offk + m, none⟩ = some (.int .i64 a))) (by kernel_rfl) (⟨c0, c2, x1⟩) (fun hHeld => ?_)
              refine wpAnyH_one 0 89 (.agg #[.slice o ns.length cap]) hHeld rfl rfl (by kernel_rfl) (fun _ _ _ _ _ h => h) (by kernel_rfl) (by kernel_rfl) (by rfl) ?_ ?_
              · intro V hSw; (try dsimp only at hSw); (obtain ⟨g0, g1, g2⟩ := hSw; go_simp)
              simp only [Act.put, List.setIfInBounds_toArray, List.set_cons_zero, List.set_cons_succ]
              refine wpAnyH_one 1 90 (.int .i64 x) hHeld rfl rfl (by kernel_rfl) (fun _ _ _ _ _ h => h) (by kernel_rfl) (by kernel_rfl) (by rfl) ?_ ?_
              · intro V hSw; (try dsimp only at hSw); (obtain ⟨g0, g1, g2⟩ := hSw; go_simp)
              simp only [Act.put, List.setIfInBounds_toArray, List.set_cons_zero, List.set_cons_succ]
              refine wpAnyH_one 2 91 (.int .i64 p) hHeld rfl rfl (by kernel_rfl) (fun _ _ _ _ _ h => h) (by kernel_rfl) (by kernel_rfl) (by rfl) ?_ ?_
              · intro V hSw; (try dsimp only at hSw); (obtain ⟨g0, g1, g2⟩ := hSw; go_simp)
              simp only [Act.put, List.setIfInBounds_toArray, List.set_cons_zero, List.set_cons_succ]
              refine wpAnyH_one 3 92 (.pointer (some ⟨v1.heap.size, 9, none⟩)) hHeld rfl rfl (by kernel_rfl) (fun _ _ _ _ _ h => h) (by kernel_rfl) (by kernel_rfl) (by rfl) ?_ ?_
              · intro V hSw; (try dsimp only at hSw); (obtain ⟨g0, g1, g2⟩ := hSw; go_simp)
              simp only [Act.put, List.setIfInBounds_toArray, List.set_cons_zero, List.set_cons_succ]
              refine wpAnyH_one 4 93 (.slice (some ⟨bk, offk, none⟩) np.kids.length ck1) hHeld rfl rfl (by kernel_rfl) (fun _ _ _ _ _ h => h) (by kernel_rfl) (by kernel_rfl) (by rfl) ?_ ?_
              · intro V hSw; (try dsimp only at hSw); (obtain ⟨g0, g1, g2⟩ := hSw; go_simp)
              simp only [Act.put, List.setIfInBounds_toArray, List.set_cons_zero, List.set_cons_succ]
              refine wpAnyH_one 5 94 (.int .i64 (m : Int)) hHeld rfl rfl (by kernel_rfl) (fun _ _ _ _ _ h => h) (by kernel_rfl) (by kernel_rfl) (by rfl) ?_ ?_
              · intro V hSw; (try dsimp only at hSw); (obtain ⟨g0, g1, g2⟩ := hSw; go_simp)
              simp only [Act.put, List.setIfInBounds_toArray, List.set_cons_zero, List.set_cons_succ]
              refine wpAnyH_one 6 95 (.pointer (some ⟨bk, offk + m, none⟩)) hHeld rfl rfl (by kernel_rfl) (fun _ _ _ _ _ h => h) (by kernel_rfl) (by kernel_rfl) (by rfl) ?_ ?_
              · intro V hSw; (try dsimp only at hSw); (obtain ⟨g0, g1, g2⟩ := hSw; go_simp)
              simp only [Act.put, List.setIfInBounds_toArray, List.set_cons_zero, List.set_cons_succ]
              refine wpAnyH_one 7 96 (.int .i64 a) hHeld rfl rfl (by kernel_rfl) (fun _ _ _ _ _ h => h) (by kernel_rfl) (by kernel_rfl) (by rfl) ?_ ?_
              · intro V hSw; (try dsimp only at hSw); (obtain ⟨g0, g1, g2⟩ := hSw; go_simp)
              simp only [Act.put, List.setIfInBounds_toArray, List.set_cons_zero, List.set_cons_succ]
              refine wpAnyH_ready (rs := [8]) (by kernel_rfl) (by simp) ?_
              refine AllReadyH.cons rfl (fun K hK => ?_) AllReadyH.nil
              go_simp
              go_wp2_with (go_at_call 7; refine (HIm.out _ (HZ.out _ HVd.out).2.1).mono ?_; rintro e v5 ⟨rfl, hb⟩; have HV5 := hid (HVd.out.trans (hb.mono (bx_size HVd.out))); have HW5 := hid (HW0.out.trans (hb.mono HW0.out.size)); have HK5 := hid (And.intro (HZ.out _ HV5.out).1.1 (And.intro (HZ.out _ HV5.out).1.2.2.1 (HS.out _ HW5.out))); clear hb HIm)
              refine hK.out _ _ (HK5.out) (fun hHeld => ?_)
              clear hK K
              refine wpAnyH_one 9 98 (.bool false) hHeld rfl rfl (by kernel_rfl) (fun _ _ _ _ _ h => h) (by kernel_rfl) (by kernel_rfl) (by rfl) ?_ ?_
              · intro V hSw; (try dsimp only at hSw); (obtain ⟨g0, g1, g2⟩ := hSw; go_simp)
              simp only [Act.put, List.setIfInBounds_toArray, List.set_cons_zero, List.set_cons_succ]
              refine wpAnyH_one 10 99 (.bool false) hHeld rfl rfl (by kernel_rfl) (fun _ _ _ _ _ h => h) (by kernel_rfl) (by kernel_rfl) (by rfl) ?_ ?_
              · intro V hSw; (try dsimp only at hSw); (obtain ⟨g0, g1, g2⟩ := hSw; go_simp)
              simp only [Act.put, List.setIfInBounds_toArray, List.set_cons_zero, List.set_cons_succ]
              refine wpAnyH_one 11 100 (.agg #[.slice o ns.length cap]) hHeld rfl rfl (by kernel_rfl) (fun _ _ _ _ _ h => h) (by kernel_rfl) (by kernel_rfl) (by rfl) ?_ ?_
              · intro V hSw; (try dsimp only at hSw); (obtain ⟨g0, g1, g2⟩ := hSw; go_simp)
              simp only [Act.put, List.setIfInBounds_toArray, List.set_cons_zero, List.set_cons_succ]
              refine wpAnyH_one 12 101 (.int .i64 x) hHeld rfl rfl (by kernel_rfl) (fun _ _ _ _ _ h => h) (by kernel_rfl) (by kernel_rfl) (by rfl) ?_ ?_
              · intro V hSw; (try dsimp only at hSw); (obtain ⟨g0, g1, g2⟩ := hSw; go_simp)
              simp only [Act.put, List.setIfInBounds_toArray, List.set_cons_zero, List.set_cons_succ]
              refine wpAnyH_one 13 102 (.int .i64 p) hHeld rfl rfl (by kernel_rfl) (fun _ _ _ _ _ h => h) (by kernel_rfl) (by kernel_rfl) (by rfl) ?_ ?_
              · intro V hSw; (try dsimp only at hSw); (obtain ⟨g0, g1, g2⟩ := hSw; go_simp)
              simp only [Act.put, List.setIfInBounds_toArray, List.set_cons_zero, List.set_cons_succ]
              refine wpAnyH_one 14 103 (.pointer (some ⟨v1.heap.size, 9, none⟩)) hHeld rfl rfl (by kernel_rfl) (fun _ _ _ _ _ h => h) (by kernel_rfl) (by kernel_rfl) (by rfl) ?_ ?_
              · intro V hSw; (try dsimp only at hSw); (obtain ⟨g0, g1, g2⟩ := hSw; go_simp)
              simp only [Act.put, List.setIfInBounds_toArray, List.set_cons_zero, List.set_cons_succ]
              refine wpAnyH_one 15 104 (.slice (some ⟨bk, offk, none⟩) np.kids.length ck1) hHeld rfl rfl (by kernel_rfl) (fun _ _ _ _ _ h => h) (by kernel_rfl) (by kernel_rfl) (by rfl) ?_ ?_
              · intro V hSw; (try dsimp only at hSw); (obtain ⟨g0, g1, g2⟩ := hSw; go_simp)
              simp only [Act.put, List.setIfInBounds_toArray, List.set_cons_zero, List.set_cons_succ]
              refine wpAnyH_one 16 105 (.int .i64 (m : Int)) hHeld rfl rfl (by kernel_rfl) (fun _ _ _ _ _ h => h) (by kernel_rfl) (by kernel_rfl) (by rfl) ?_ ?_
              · intro V hSw; (try dsimp only at hSw); (obtain ⟨g0, g1, g2⟩ := hSw; go_simp)
              simp only [Act.put, List.setIfInBounds_toArray, List.set_cons_zero, List.set_cons_succ]
              refine wpAnyH_one 17 106 (.pointer (some ⟨bk, offk + m, none⟩)) hHeld rfl rfl (by kernel_rfl) (fun _ _ _ _ _ h => h) (by kernel_rfl) (by kernel_rfl) (by rfl) ?_ ?_
              · intro V hSw; (try dsimp only at hSw); (obtain ⟨g0, g1, g2⟩ := hSw; go_simp)
              simp only [Act.put, List.setIfInBounds_toArray, List.set_cons_zero, List.set_cons_succ]
              refine wpAnyH_one 18 107 (.int .i64 a) hHeld rfl rfl (by kernel_rfl) (fun _ _ _ _ _ h => h) (by kernel_rfl) (by kernel_rfl) (by rfl) ?_ ?_
              · intro V hSw; (try dsimp only at hSw); (obtain ⟨g0, g1, g2⟩ := hSw; go_simp)
              simp only [Act.put, List.setIfInBounds_toArray, List.set_cons_zero, List.set_cons_succ]
              refine wpAnyH_ready (rs := [19]) (by kernel_rfl) (by simp) ?_
              refine AllReadyH.cons rfl (fun K hK => ?_) AllReadyH.nil
              go_simp
              go_wp2_with (go_at_call 8; refine (HRm.out _ (HZ.out _ HV5.out).2.1).mono ?_; rintro e v6 ⟨rfl, hb⟩; have HV6 := hid (HV5.out.trans (hb.mono (bx_size HV5.out))); have HW6 := hid (HW5.out.trans (hb.mono HW5.out.size)); have HK6 := hid (And.intro (HZ.out _ HV6.out).1.1 (And.intro (HZ.out _ HV6.out).1.2.2.1 (HS.out _ HW6.out))); clear hb HRm)
              refine hK.out _ _ (HK6.out) (fun hHeld => ?_)
              clear hK K
              refine wpAnyH_one 20 109 (.bool false) hHeld rfl rfl (by kernel_rfl) (fun _ _ _ _ _ h => h) (by kernel_rfl) (by kernel_rfl) (by rfl) ?_ ?_
              · intro V hSw; (try dsimp only at hSw); (obtain ⟨g0, g1, g2⟩ := hSw; go_simp)
              simp only [Act.put, List.setIfInBounds_toArray, List.set_cons_zero, List.set_cons_succ]
              refine wpAnyH_one 21 110 (.bool false) hHeld rfl rfl (by kernel_rfl) (fun _ _ _ _ _ h => h) (by kernel_rfl) (by kernel_rfl) (by rfl) ?_ ?_
              · intro V hSw; (try dsimp only at hSw); (obtain ⟨g0, g1, g2⟩ := hSw; go_simp)
              simp only [Act.put, List.setIfInBounds_toArray, List.set_cons_zero, List.set_cons_succ]
              refine wpAnyH_done (by kernel_rfl) ?_ _
              go_wp2
              go_roundw
              case rel => exact ⟨m + 1, by omega, by go_num, HV6⟩
              case measure => simp [RowKit.intOf]; omega
            · have hme : m = np.kids.length := by omega
              subst hme
              clear hrd HI' HR'
              go_wp2_with fail
              refine (HI0'.out _ hBw).mono ?_
              rintro e v9 ⟨rfl, hb⟩
              have HV9 := hid (hV.out.trans (hb.mono (bx_size hV.out)))
              clear hb HI0'
              go_wp2
              go_ret
              exact ⟨rfl, (HZ.out _ HV9.out).2.1⟩
theorem judge_else {ns : List NodeD} (rep : Bool) (x p c : Int) (h1 : kindD ns p = 1 ∨ kindD ns p = 11 ∨ kindD ns p = 12) (h2 : kindD ns x ≠ 9 ∧ kindD ns x ≠ 12 ∧ kindD ns x ≠ 10) (hh : holdsD ns x p = false) (hc : c = 0 ∨ parentD ns c = p) : judgeD ns rep x p c = 0 := by
  unfold judgeD fitsD
  have hq : (c != 0 && parentD ns c != p) = false := by
    rcases hc with rfl | e
    · rfl
    · rw [e, bne_self_eq_false, Bool.and_false]
  rw [hh, hq, beq_eq_false_iff_ne.2 h2.1, beq_eq_false_iff_ne.2 h2.2.1, beq_eq_false_iff_ne.2 h2.2.2]
  rcases h1 with e | e | e <;> rw [e] <;> rfl
theorem else_kinds {a b c d e f : Bool} (h : ((!a && !b && !c) || d || e || f) = false) : (a = true ∨ b = true ∨ c = true) ∧ d = false ∧ e = false ∧ f = false := by
  revert h
  cases a <;> cases b <;> cases c <;> cases d <;> cases e <;> cases f <;> decide
theorem validElsewhere_law (o : Option Addr) (cap : Nat) (p x : Int) (ns : List NodeD) (w : World) (hF : FRd w o cap ns) (hkl : ∀ (i : Nat) (hi : i < ns.length), ns[i].kids.length ≤ 1099511627776) (hal : ∀ (i : Nat) (hi : i < ns.length), ns[i].attrs.length ≤ 1099511627776) :
    Calls Try.prog 4 #[.agg #[.slice o ns.length cap], .int .i64 p, .int .i64 x] w fun e w' => e = .returned (.bool true) ∧ Below w.heap.size w w' := by
  have HNp : ∀ W : World, Below w.heap.size w W → _ := fun W hW => refNode_any o cap p ns W (hF.later hW)
  have HNx : ∀ W : World, Below w.heap.size w W → _ := fun W hW => refNode_any o cap x ns W (hF.later hW)
  have HRt : ∀ W : World, Below w.heap.size w W → _ := fun W hW => refRight_any o cap ns W (hF.later hW) hkl hal
  cases hp : thereB ns.length p with
  | false =>
    rw [hp] at HNp
    exact else_noP o cap p x _ _ ns w (fun W => beginsV_true W) HNp _ HNx
  | true =>
    rw [hp] at HNp
    cases hx : thereB ns.length x with
    | false =>
      rw [hx] at HNx
      exact else_noX o cap p x _ _ ns w (fun W => beginsV_true W) HNp HNx
    | true =>
      rw [hx] at HNx
      cases hr : rightD ns with
      | false =>
        rw [hr] at HRt
        exact else_noR o cap p x _ _ ns w (fun W => beginsV_true W) HNp HNx HRt
      | true =>
        rw [hr] at HRt
        have hR := (rightD_iff ns).1 hr
        obtain ⟨jp, hjp, rfl⟩ := there_idx hp
        obtain ⟨jx, hjx, rfl⟩ := there_idx hx
        obtain ⟨b, off, rfl, hFA⟩ := hF.at_ (by omega)
        have enp : nodeOrNone ns ((jp : Int) + 1) = ns[jp] := by unfold nodeOrNone; rw [nodeOf_at ns jp hjp]; rfl
        have enx : nodeOrNone ns ((jx : Int) + 1) = ns[jx] := by unfold nodeOrNone; rw [nodeOf_at ns jx hjx]; rfl
        rw [enp] at HNp
        rw [enx] at HNx
        have key : ((!(ns[jp].kind == 1) && !(ns[jp].kind == 11) && !(ns[jp].kind == 12)) || ns[jx].kind == 9 || ns[jx].kind == 12 || ns[jx].kind == 10) = false → ((jp : Int) + 1) ∉ deepD ns ((jx : Int) + 1) → ∀ (rep : Bool) (c : Int), (c = 0 ∨ parentD ns c = (jp : Int) + 1) → judgeD ns rep ((jx : Int) + 1) ((jp : Int) + 1) c = 0 := fun hC hn rep c hc => by
          obtain ⟨k1, k2, k3, k4⟩ := else_kinds hC
          refine judge_else rep _ _ c ?_ ?_ ?_ hc
          · rw [kindD_at ns jp hjp]
            simpa using k1
          · rw [kindD_at ns jx hjx]
            exact ⟨beq_eq_false_iff_ne.1 k2, beq_eq_false_iff_ne.1 k3, beq_eq_false_iff_ne.1 k4⟩
          · cases hh : holdsD ns ((jx : Int) + 1) ((jp : Int) + 1) with
            | false => rfl
            | true =>
              unfold holdsD at hh
              rw [List.contains_eq_mem, decide_eq_true_iff] at hh
              exact absurd ((hR.deepHang.below_iff (ns.length + 1) _ _ hx (by omega)).2 ⟨hp, hh⟩) hn
        have kidp : ∀ y ∈ ns[jp].kids, thereB ns.length y = true ∧ parentD ns y = (jp : Int) + 1 := fun y hy => hR.kidsHang.down _ y hp (by rw [kidsD_at ns jp hjp]; exact hy)
        refine else_main _ cap _ _ _ _ ns w (fun W => beginsV_true W) HNp HNx HRt _ _ _ _ _ _ _ (beq_cast _ 1) (beq_cast _ 11) (beq_cast _ 12) (beq_cast _ 9) (beq_cast _ 12) (beq_cast _ 10) rfl (deepD ns ((jx : Int) + 1)) (Nat.le_trans (deep_len hR hx) (by decide)) (hkl jp hjp) (fun W hW => refInside_any b off cap _ ns W hR (hFA.later hW) hkl hx) (fun hC hn y hy W hW => ?_) (fun hC hn y hy W hW => ?_) (fun hC hn W hW => ?_)
        · have h := Insert_any _ cap ((jx : Int) + 1) ((jp : Int) + 1) y ns W (hF.later hW) hkl hal
          have hE : insertE ns ((jx : Int) + 1) ((jp : Int) + 1) y = 0 := by
            unfold insertE
            rw [if_pos (toldE_ok hr (by unfold handlesI; split <;> simp [hx, hp, (kidp y hy).1]))]
            exact key hC hn false y (.inr (kidp y hy).2)
          rw [hE] at h
          exact h
        · have h := Replace_any _ cap ((jx : Int) + 1) ((jp : Int) + 1) y ns W (hF.later hW) hkl hal
          have hE : replaceE ns ((jx : Int) + 1) ((jp : Int) + 1) y = 0 := by
            unfold replaceE
            rw [if_pos (toldE_ok hr (by simp [hx, hp, (kidp y hy).1]))]
            exact key hC hn true y (.inr (kidp y hy).2)
          rw [hE] at h
          exact h
        · have h := Insert_any _ cap ((jx : Int) + 1) ((jp : Int) + 1) 0 ns W (hF.later hW) hkl hal
          have hE : insertE ns ((jx : Int) + 1) ((jp : Int) + 1) 0 = 0 := by
            unfold insertE
            rw [if_pos (toldE_ok hr (by simp [handlesI, hx, hp]))]
            exact key hC hn false 0 (.inl rfl)
          rw [hE] at h
          exact h
end Go.Proofs.Ytfaeabjgplahgaa
