/- loop: the reference: Copy, walked. -/
import Derived.Test.YtaliecmdkloceaaLpQQ
namespace Go.Proofs.Ytaliecmdkloceaa
open Go.RowKit Go.Lib Go.Shelf

theorem step_blk {wr w1 w2 : World} {n0 k : Nat} {ov x : Value} {xs : List Value} (ho : wr.ownsRow n0 26 1 ov k xs)
    (hg1 : (wr.alloc (.cells #[] 3)).grownBy w1 (some wr.heap.size)) (hg2 : (w1.alloc (.cells #[x] 26)).grownBy w2 ov.ownBlock) {g : Nat} {a : Array Value} {T : TypeId} (hg : wr.heap[g]? = some (.cells a T)) (hT : T ≠ 26) : w2.heap[g]? = some (.cells a T) := by
  have hs1 : wr.heap.size < (wr.alloc (.cells #[] 3)).heap.size := by simp
  have hs2 := hg1.size
  have hlt := (Array.getElem?_eq_some_iff.1 hg).1
  rw [hg2.block g (by rw [World.size_alloc]; omega) (fun e => by
    obtain ⟨_, a2, ha2⟩ := own_ty ho e.symm
    exact ty_ne hg ha2 hT rfl), Below.heap_alloc _ _ _ (by omega), hg1.block g (by omega) (fun e => by have := Option.some.inj e; omega), Below.heap_alloc _ _ _ hlt, hg]
theorem row_len {r : LpD} (ht : totD r ≤ 1048576) (k : Nat) : (tabL r k).length ≤ 1048576 := by
  have := len_le_sum r.tks k
  unfold totD tasksD at ht
  unfold tabL
  split <;> omega
/-- How the world stands while a state is copied. -/
structure CpW (V W : World) (N : Nat) (r : LpD) (B c : Nat) (m t : Value) (k : Nat) (ov : Value) (v : Nat → Value) : Prop where
  cp : CpO W N r k ov v t
  bel : Below N V W
  var : W.heap[N]? = some (.cells #[.bool r.cls, .int .i64 r.now, .int .i64 r.giv, m, .slice (some ⟨B, 0, none⟩) 8 c, t] 30)
  res : W.heap[N + 1]? = some zS
  mic : v 8 = m
  sz : N + 2 ≤ W.heap.size
set_option maxRecDepth 100000 in
set_option maxHeartbeats 4000000 in
theorem refCopy_any (V : World) (r : LpD) (B c : Nat) (v : Nat → Value) (tv : Value) (h : RfRd V r B c v tv) (ht : totD r ≤ 1048576) :
    Calls Try.prog 15 #[stR r B c (v 8) tv] V fun e w' => ∃ B' c' v' tv', e = .returned (stR r B' c' (v' 8) tv') ∧ RfO w' V.heap.size r B' c' v' tv' ∧ Below V.heap.size V w' := by
  obtain ⟨⟨o8, c8, e8⟩, ot, ct, et⟩ := h.shape
  have hM : r.mic.length ≤ 1048576 := by unfold totD at ht; omega
  have hK : r.tms.length ≤ 1048576 := by unfold totD at ht; omega
  have hR := row_len ht
  have h8 := h.len
  have t8 : tabL r 8 = r.mic := rfl
  obtain ⟨U1, hU1⟩ : ∃ U1, U1 = (V.alloc (.cells #[.bool r.cls, .int .i64 r.now, .int .i64 r.giv, .slice o8 r.mic.length c8, .slice (some ⟨B, 0, none⟩) 8 c, .slice ot r.tms.length ct] 30)).alloc zS := ⟨_, rfl⟩
  obtain ⟨hb1, hn1, hn2, hs1⟩ := two_new V (.cells #[.bool r.cls, .int .i64 r.now, .int .i64 r.giv, .slice o8 r.mic.length c8, .slice (some ⟨B, 0, none⟩) 8 c, .slice ot r.tms.length ct] 30) zS
  rw [← hU1] at hb1 hn1 hn2 hs1
  -- the microtasks
  have hbA : Below V.heap.size V (U1.alloc (.cells #[] 3)) := hb1.alloc hb1.size _
  have hrA := (h.later hbA).row 8 (by omega)
  rw [e8, t8] at hrA
  obtain ⟨o1, c1, w1, a1, a2, a3, a4⟩ := copyI hrA hM 26 U1.heap.size (heap_new U1 _)
  have hsA : U1.heap.size < (U1.alloc (.cells #[] 3)).heap.size := by simp
  have hbw1 : Below V.heap.size V w1 := hbA.grown a3 hbA.size (fun k hk => by have := Option.some.inj hk; omega)
  have hkA : ∀ k, k < U1.heap.size → w1.heap[k]? = U1.heap[k]? := fun k hk => by
    rw [a3.block k (by omega) (fun e => by have := Option.some.inj e; omega), Below.heap_alloc _ _ _ hk]
  have n1 := (hkA _ (by omega)).trans hn1
  have n2 := (hkA _ (by omega)).trans hn2
  have sw1 := a3.size
  -- stored
  obtain ⟨W2, hW2⟩ : ∃ W2, W2 = w1.setCell ⟨V.heap.size, 3, none⟩ (.slice o1 r.mic.length c1) := ⟨_, rfl⟩
  have m1 : W2.heap[V.heap.size]? = some (.cells #[.bool r.cls, .int .i64 r.now, .int .i64 r.giv, .slice o1 r.mic.length c1, .slice (some ⟨B, 0, none⟩) 8 c, .slice ot r.tms.length ct] 30) := by rw [hW2]; exact set_boxQ n1 _
  have m2 : W2.heap[V.heap.size + 1]? = some zS := by rw [hW2, Below.heap_setCell _ _ _ _ (by show V.heap.size + 1 ≠ V.heap.size; omega)]; exact n2
  have bW2 : Below V.heap.size V W2 := by rw [hW2]; exact hbw1.setCell (p := ⟨V.heap.size, 3, none⟩) (Nat.le_refl _) _
  have sW2 : W2.heap.size = w1.heap.size := by rw [hW2]; exact size_setQ _ _ _
  have q2 : QR W2 3 1 (.slice o1 r.mic.length c1) r.mic.length (rowN r.mic) := a2.kept fun g hg => by
    rw [hW2, Below.heap_setCell _ _ _ _ (by show g ≠ V.heap.size; rcases a4 g hg with e | e <;> omega)]
  -- the timers
  have hbB : Below V.heap.size V (W2.alloc (.cells #[] 92)) := bW2.alloc bW2.size _
  have hrB := (h.later hbB).tms
  rw [et] at hrB
  obtain ⟨o2, c2, w3, b1, b2, b3, b4⟩ := copyT hrB hK 28 W2.heap.size (heap_new W2 _)
  have hsB : W2.heap.size < (W2.alloc (.cells #[] 92)).heap.size := by simp
  have hbw3 : Below V.heap.size V w3 := hbB.grown b3 hbB.size (fun k hk => by have := Option.some.inj hk; omega)
  have hkB : ∀ k, k < W2.heap.size → w3.heap[k]? = W2.heap[k]? := fun k hk => by
    rw [b3.block k (by omega) (fun e => by have := Option.some.inj e; omega), Below.heap_alloc _ _ _ hk]
  have n3 := (hkB _ (by omega)).trans m1
  have n4 := (hkB _ (by omega)).trans m2
  have sw3 := b3.size
  obtain ⟨W4, hW4⟩ : ∃ W4, W4 = w3.setCell ⟨V.heap.size, 5, none⟩ (.slice o2 r.tms.length c2) := ⟨_, rfl⟩
  have m3 : W4.heap[V.heap.size]? = some (.cells #[.bool r.cls, .int .i64 r.now, .int .i64 r.giv, .slice o1 r.mic.length c1, .slice (some ⟨B, 0, none⟩) 8 c, .slice o2 r.tms.length c2] 30) := by rw [hW4]; exact set_boxQ n3 _
  have m4 : W4.heap[V.heap.size + 1]? = some zS := by rw [hW4, Below.heap_setCell _ _ _ _ (by show V.heap.size + 1 ≠ V.heap.size; omega)]; exact n4
  have bW4 : Below V.heap.size V W4 := by rw [hW4]; exact hbw3.setCell (p := ⟨V.heap.size, 5, none⟩) (Nat.le_refl _) _
  have sW4 : W4.heap.size = w3.heap.size := by rw [hW4]; exact size_setQ _ _ _
  have q4 : QR W4 92 3 (.slice o2 r.tms.length c2) r.tms.length (rowA r.tms) := b2.kept fun g hg => by
    rw [hW4, Below.heap_setCell _ _ _ _ (by show g ≠ V.heap.size; rcases b4 g hg with e | e <;> omega)]
  have q5 : QR W4 3 1 (.slice o1 r.mic.length c1) r.mic.length (rowN r.mic) := q2.kept fun g hg => by
    have := q2.lt hg
    rw [hW4, Below.heap_setCell _ _ _ _ (by show g ≠ V.heap.size; rcases a4 g hg with e | e <;> omega), hkB g this]
  have HC : Hid (CpW V W4 V.heap.size r B c (.slice o1 r.mic.length c1) (.slice o2 r.tms.length c2) 0 (.slice none 0 0) (fun _ => .slice o1 r.mic.length c1)) :=
    ⟨⟨World.ownsRow_nil _ _ _ _, fun i hi => by
      have : i = 8 := by omega
      subst this
      exact q5, q4, fun i _ g hg => by rcases a4 g hg with e | e <;> omega, fun g hg => by rcases b4 g hg with e | e <;> omega, fun i j hi hj hij => by omega⟩, bW4, m3, m4, rfl, by omega⟩
  have HA1 := hid a1
  have HB1 := hid b1
  have HV := hid h
  have c3 := (Below.cell ((Below.refl _ U1).alloc (Nat.le_refl _) (.cells #[] 3)) (p := ⟨V.heap.size, 3, none⟩) (by show V.heap.size < U1.heap.size; omega)).trans ((cell_of_heap hn1 3).trans rfl)
  have d3 := (cell_of_heap n1 3).trans rfl
  have f3 := box_fz n1 3
  have c5 := (Below.cell ((Below.refl _ W2).alloc (Nat.le_refl _) (.cells #[] 92)) (p := ⟨V.heap.size, 5, none⟩) (by show V.heap.size < W2.heap.size; omega)).trans ((cell_of_heap m1 5).trans rfl)
  have d5 := (cell_of_heap n3 5).trans rfl
  have f5 := box_fz n3 5
  have c4 := (cell_of_heap m3 4).trans rfl
  have HW2 := hid hW2
  have HW4 := hid hW4
  have HU1 := hid hU1
  unfold stR
  rw [e8, et]
  unfold zS at *
  clear hb1 hn1 hn2 hs1 hbA hrA a1 a2 a3 a4 hsA hbw1 hkA n1 n2 sw1 m1 m2 bW2 sW2 q2 hbB hrB b1 b2 b3 b4 hsB hbw3 hkB n3 n4 sw3 m3 m4 bW4 sW4 q4 q5 hU1 hW2 hW4 e8 et h ht hM hK t8
  go_enter Try.func15, Try.ntmps15
  go_upto_region 1 with fail
  rw [← HU1.out]
  go_upto_region 2 with (at_builtin; refine wpList_append_run _ rfl _ _ 26 26 rfl _ _ rfl rfl _ _ HA1.out ?_)
  rw [← HW2.out]
  go_upto_region 3 with (at_builtin; refine wpList_append_run _ rfl _ _ 28 28 rfl _ _ rfl rfl _ _ HB1.out ?_)
  rw [← HW4.out]
  go_upto_region 5 with fail
  clear c3 d3 f3 c5 d5 f5 c4 HA1 HB1 HW2 HU1 HW4
  go_loopw [3, 19] (fun y u wr => ∃ (k : Nat) (oo : Option Addr) (co : Nat) (w : Nat → Value), k ≤ 8 ∧ y = .slice oo k co ∧ u = .int .i64 k ∧ Hid (CpW V wr V.heap.size r B c (.slice o1 r.mic.length c1) (.slice o2 r.tms.length c2) k (.slice oo k co) w)) (fun _ u _ => 8 - (RowKit.intOf u).toNat)
  case atStart => exact ⟨0, none, 0, _, by omega, rfl, rfl, HC⟩
  case round =>
    obtain ⟨k, oo, co, w, hk, rfl, rfl, hC⟩ := hrel
    clear HC
    by_cases hlt : k < 8
    · have d1 : decide ((k : Int) < 8) = true := decide_eq_true (by omega)
      have q1 : (0 : Int) ≤ (k : Int) := by omega
      have q2 : (k : Int) < 8 := by omega
      have hsz := hC.out.sz
      have hvs : V.heap.size ≤ wr.heap.size := hC.out.bel.size
      have hb := hC.out.bel
      obtain ⟨oq, cq, eq, _⟩ := HV.out.row k (by omega)
      have hcell : wr.cell? ⟨B, k, none⟩ = some (.slice oq (tabL r k).length cq) := by
        rw [← eq]
        exact cellLater hb HV.out.lt (HV.out.cell k hlt)
      have hbC : Below V.heap.size V (wr.alloc (.cells #[] 3)) := hb.alloc hvs _
      have hrC := (HV.out.row k (by omega)).later hbC
      rw [eq] at hrC
      obtain ⟨ox, cx, wa, a1, a2, a3, a4⟩ := copyI hrC (hR k) 26 wr.heap.size (heap_new wr _)
      obtain ⟨i0, hi, hz0, hz1, hz2⟩ := info_parts info_rowR
      have hown : (wa.alloc (.cells #[.slice ox (tabL r k).length cx] 26)).ownsRow V.heap.size 26 1 (.slice oo k co) k ((List.range k).map w) := by
        refine (((hC.out.cp.out).alloc _).kept a3 (.inr (fun e => ?_))).alloc _
        have := (own_ty hC.out.cp.out e).2
        obtain ⟨_, ha⟩ := this
        exact absurd (Array.getElem?_eq_some_iff.1 ha).1 (Nat.lt_irrefl _)
      obtain ⟨ov', wb, r1, r2, r3, _⟩ := run_append_own (P := Try.prog) (w := wa.alloc (.cells #[.slice ox (tabL r k).length cx] 26)) V.heap.size 27 27 26 i0 _ 1 24 Try.underlying27 hi hz0 hz1 hz2 rfl (by decide) (.slice oo k co) k ((List.range k).map w) hown ⟨wa.heap.size, 0, none⟩ 1 1 [.slice ox (tabL r k).length cx] rfl (fun j u hj => by
        have hj0 : j = 0 := by have : j < 1 := (List.getElem?_eq_some_iff.1 hj).1; omega
        subst hj0
        rw [Addr.add_lit, ← Option.some.inj hj]
        exact box1 (heap_new wa _)) (fun u hu => by rw [List.mem_singleton] at hu; rw [hu]; rfl) (by unfold maxLen; omega) (by omega) (by have := hbC.size; have := a3.size; rw [World.size_alloc]; omega)
      obtain ⟨oo', co', rfl⟩ := own_shape r2
      have HC2 : Hid (CpW V wb V.heap.size r B c (.slice o1 r.mic.length c1) (.slice o2 r.tms.length c2) (k + 1) (.slice oo' (k + 1) co') (putV2 w k (.slice ox (tabL r k).length cx))) := by
        have hsA : wr.heap.size < (wr.alloc (.cells #[] 3)).heap.size := by simp
        have hba : Below V.heap.size V wa := hbC.grown a3 hbC.size (fun j hj => by have := Option.some.inj hj; omega)
        refine ⟨hC.out.cp.step hvs hlt a3 a2 a4 r3 r2, (hba.alloc hba.size _).grown r3 (by rw [World.size_alloc]; have := hba.size; omega) (fun j hj => (own_ty hC.out.cp.out hj).1), step_blk hC.out.cp.out a3 r3 hC.out.var (by decide), step_blk hC.out.cp.out a3 r3 hC.out.res (by decide), ?_, ?_⟩
        · unfold putV2
          rw [if_neg (by omega)]
          exact hC.out.mic
        · have := a3.size
          have := r3.size
          rw [World.size_alloc] at this
          omega
      have HA := hid a1
      have HR := hid r1
      clear hb eq hbC hrC a1 a2 a3 a4 hi hz0 hz1 hz2 hown r1 r2 r3 hC hsz hvs
      go_wp2_with (first
        | (at_builtin; refine wpList_append_run _ rfl _ _ 27 27 rfl _ _ rfl rfl _ _ HR.out ?_)
        | (at_builtin; refine wpList_append_run _ rfl _ _ 26 26 rfl _ _ rfl rfl _ _ HA.out ?_))
      go_roundw
      case rel => exact ⟨k + 1, oo', co', _, by omega, rfl, by go_num, HC2⟩
      case measure => simp [RowKit.intOf]; omega
    · have hk8 : k = 8 := by omega
      subst hk8
      obtain ⟨B', c', e', hO⟩ := hC.out.cp.all h8
      injection e' with e1 _ e3
      subst e1 e3
      have hvar := hC.out.var
      have hres := hC.out.res
      have hv8 := hC.out.mic
      have hbel := hC.out.bel
      have v4 := (cell_of_heap hvar 4).trans rfl
      have f4 := box_fz hvar 4
      obtain ⟨W5, hW5⟩ : ∃ W5, W5 = wr.setCell ⟨V.heap.size, 4, none⟩ (.slice (some ⟨B', 0, none⟩) 8 co) := ⟨_, rfl⟩
      have hO5 : RfO W5 V.heap.size r B' co w (.slice o2 r.tms.length c2) := by rw [hW5]; exact hO.set hvar (by decide) (by decide) (by decide) _
      have hvar5 : W5.heap[V.heap.size]? = some (.cells #[.bool r.cls, .int .i64 r.now, .int .i64 r.giv, .slice o1 r.mic.length c1, .slice (some ⟨B', 0, none⟩) 8 co, .slice o2 r.tms.length c2] 30) := by rw [hW5]; exact set_boxQ hvar _
      have hres5 : W5.heap[V.heap.size + 1]? = some zS := by rw [hW5, Below.heap_setCell _ _ _ _ (by show V.heap.size + 1 ≠ V.heap.size; omega)]; exact hres
      have hbel5 : Below V.heap.size V W5 := by rw [hW5]; exact hbel.setCell (p := ⟨V.heap.size, 4, none⟩) (Nat.le_refl _) _
      have HW5 := hid hW5
      unfold zS at hres5
      have g0 := (cell_of_heap hvar5 0).trans rfl
      have g1 := (cell_of_heap hvar5 1).trans rfl
      have g2 := (cell_of_heap hvar5 2).trans rfl
      have g3 := (cell_of_heap hvar5 3).trans rfl
      have g4 := (cell_of_heap hvar5 4).trans rfl
      have g5 := (cell_of_heap hvar5 5).trans rfl
      have s0 := (cell_of_heap hres5 0).trans rfl
      have s1 := (cell_of_heap hres5 1).trans rfl
      have s2 := (cell_of_heap hres5 2).trans rfl
      have s3 := (cell_of_heap hres5 3).trans rfl
      have s4 := (cell_of_heap hres5 4).trans rfl
      have s5 := (cell_of_heap hres5 5).trans rfl
      have z0 := box_fz hres5 0
      have z1 := box_fz hres5 1
      have z2 := box_fz hres5 2
      have z3 := box_fz hres5 3
      have z4 := box_fz hres5 4
      have z5 := box_fz hres5 5
      have hfin := st_world hres5 (.bool r.cls) (.int .i64 r.now) (.int .i64 r.giv) (.slice o1 r.mic.length c1) (.slice (some ⟨B', 0, none⟩) 8 co) (.slice o2 r.tms.length c2)
      have HF : Hid (RfO (stW W5 (V.heap.size + 1) (.bool r.cls) (.int .i64 r.now) (.int .i64 r.giv) (.slice o1 r.mic.length c1) (.slice (some ⟨B', 0, none⟩) 8 co) (.slice o2 r.tms.length c2)) V.heap.size r B' co w (.slice o2 r.tms.length c2)) := st_rf hO5 hres5 _ _ _ _ _ _
      have HG : Hid (Below V.heap.size V (stW W5 (V.heap.size + 1) (.bool r.cls) (.int .i64 r.now) (.int .i64 r.giv) (.slice o1 r.mic.length c1) (.slice (some ⟨B', 0, none⟩) 8 co) (.slice o2 r.tms.length c2))) := st_below hbel5 (Nat.le_succ _) _ _ _ _ _ _
      have k0 := (cell_of_heap hfin 0).trans rfl
      have k1 := (cell_of_heap hfin 1).trans rfl
      have k2 := (cell_of_heap hfin 2).trans rfl
      have k3 := (cell_of_heap hfin 3).trans rfl
      have k4 := (cell_of_heap hfin 4).trans rfl
      have k5 := (cell_of_heap hfin 5).trans rfl
      unfold stW at k0 k1 k2 k3 k4 k5
      have d1 : decide ((8 : Int) < 8) = false := rfl
      have HV8 := hid hv8
      clear hO hO5 hvar hvar5 hres hres5 hbel hbel5 hfin hW5 hC hv8
      go_upto_region 10 with fail
      rw [← HW5.out]
      go_wp2
      refine bodyPost_ret (v := .agg #[.bool r.cls, .int .i64 r.now, .int .i64 r.giv, .slice o1 r.mic.length c1, .slice (some ⟨B', 0, none⟩) 8 co, .slice o2 r.tms.length c2]) (by simp [results, Try.results15, go_sem, k0, k1, k2, k3, k4, k5]) rfl ?_
      exact ⟨B', co, w, _, by rw [HV8.out], HF.out, HG.out⟩
end Go.Proofs.Ytaliecmdkloceaa
