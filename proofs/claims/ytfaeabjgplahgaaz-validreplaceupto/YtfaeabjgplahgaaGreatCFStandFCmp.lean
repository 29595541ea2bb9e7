/- How two nodes stand to one another (standOf). -/
/- What compareDocumentPosition answers (positionOf, Compare). -/
/- The walk of Compare. -/
import Derived.Test.YtfaeabjgplahgaaGreatCFUpFFork
import Derived.Test.YtfaeabjgplahgaaGreatCFWellFCheck
namespace Go.Proofs.YtfaeabjgplahgaaGreat
open Go.RowKit Go.Lib Go.Shelf

theorem pathD_len {ns : List NodeD} (h : RightF ns) {x : Int} (hx : thereB ns.length x = true) : (pathD ns x).length ≤ 4096 := by
  unfold pathD
  rw [List.length_reverse]
  exact Nat.le_trans (pathUp_len ns _ h.parentOK h.ends x (.inr hx)) h.small
theorem two_cells {W : World} {bs : Nat} {a b : Value} {t : TypeId} (h : W.heap[bs]? = some (.cells #[a, b] t (0, 0))) : W.cell? ⟨bs, 0, none⟩ = some a ∧ W.cell? ⟨bs, 1, none⟩ = some b ∧ W.frozen? ⟨bs, 0, none⟩ = false ∧ W.frozen? ⟨bs, 1, none⟩ = false :=
  ⟨by rw [cell_of_heap h]; rfl, by rw [cell_of_heap h]; rfl, frozen_of_heap h 0, frozen_of_heap h 1⟩

theorem three_later {W V : World} {a1 a2 a3 : Addr} {x1 x2 x3 : Value} (h : W.cell? a1 = some x1 ∧ W.cell? a2 = some x2 ∧ W.cell? a3 = some x3) (l : a1.block < W.heap.size ∧ a2.block < W.heap.size ∧ a3.block < W.heap.size) (hb : Below W.heap.size W V) :
    V.cell? a1 = some x1 ∧ V.cell? a2 = some x2 ∧ V.cell? a3 = some x3 := ⟨(hb.cell l.1).trans h.1, (hb.cell l.2.1).trans h.2.1, (hb.cell l.2.2).trans h.2.2⟩
theorem row_ne {W : World} {b k o : Nat} {z : Int} {t : TypeId} (h : W.heap[k]? = some (.cells #[.int .i64 0, .bool false] t (0, 0))) (hz : z ≠ 0) (hc : W.cell? ⟨b, o, none⟩ = some (.int .i64 z)) : b ≠ k := by
  rintro rfl
  rw [cell_of_heap h] at hc
  match o, hc with
  | 0, hc => simp at hc; exact hz hc.symm
  | 1, hc => simp at hc
  | _ + 2, hc => simp at hc
theorem cell_far {W : World} {a : Addr} {v u : Value} {k o : Nat} (h : W.cell? a = some v) (hne : a.block ≠ k) : (W.setCell ⟨k, o, none⟩ u).cell? a = some v := by
  unfold World.cell? at h ⊢
  have e : (W.setCell ⟨k, o, none⟩ u).heap[a.block]? = W.heap[a.block]? := by simp [World.setCell, Array.getElem?_modify, Ne.symm hne]
  rw [e]
  exact h
theorem three_set {W : World} {a1 a2 a3 : Addr} {x1 x2 x3 u1 u2 : Value} {k o1 o2 : Nat} (h : W.cell? a1 = some x1 ∧ W.cell? a2 = some x2 ∧ W.cell? a3 = some x3) (n : a1.block ≠ k ∧ a2.block ≠ k ∧ a3.block ≠ k) :
    ((W.setCell ⟨k, o1, none⟩ u1).setCell ⟨k, o2, none⟩ u2).cell? a1 = some x1 ∧ ((W.setCell ⟨k, o1, none⟩ u1).setCell ⟨k, o2, none⟩ u2).cell? a2 = some x2 ∧ ((W.setCell ⟨k, o1, none⟩ u1).setCell ⟨k, o2, none⟩ u2).cell? a3 = some x3 :=
  ⟨cell_far (cell_far h.1 n.1) n.1, cell_far (cell_far h.2.1 n.2.1) n.2.1, cell_far (cell_far h.2.2 n.2.2) n.2.2⟩
theorem there_ne {n : Nat} {z : Int} (h : thereB n z = true) : z ≠ 0 := by
  rintro rfl
  unfold thereB at h
  simp at h
theorem three_lt {W V : World} {k1 k2 k3 : Nat} (l : k1 < W.heap.size ∧ k2 < W.heap.size ∧ k3 < W.heap.size) (hb : Below W.heap.size W V) : k1 < V.heap.size ∧ k2 < V.heap.size ∧ k3 < V.heap.size :=
  ⟨Nat.lt_of_lt_of_le l.1 hb.size, Nat.lt_of_lt_of_le l.2.1 hb.size, Nat.lt_of_lt_of_le l.2.2 hb.size⟩

set_option maxRecDepth 100000 in
set_option maxHeartbeats 8000000 in
theorem standOf_any (b off cap : Nat) (x y : Int) (ns : List NodeD) (w : World) (hR : RightF ns) (hF : FAt w b off cap ns) (hx : thereB ns.length x = true) (hy : thereB ns.length y = true) (hkl : ∀ (i : Nat) (hi : i < ns.length), ns[i].kids.length ≤ 1099511627776) :
    Calls Tryz.prog 93 #[forestV b off cap ns.length, .int .i64 x, .int .i64 y] w fun e w' => e = .returned (.agg #[.int .i64 (standD ns x y).1, .bool (standD ns x y).2]) ∧ Below w.heap.size w w' := by
  have HPx : Hid (∀ W : World, Below w.heap.size w W → _) := fun W hW => pathOf_any b off cap x ns W hR (hF.later hW) hx
  have HPy : Hid (∀ W : World, Below w.heap.size w W → _) := fun W hW => pathOf_any b off cap y ns W hR (hF.later hW) hy
  have lx := pathD_len hR hx
  have ly := pathD_len hR hy
  have HFk : Hid (∀ (v1 v2 : Value) (W : World), RdI W v1 (pathD ns x) → RdI W v2 (pathD ns y) → _) := fun v1 v2 W h1 h2 => fork_any v1 v2 (pathD ns x) (pathD ns y) W h1 h2 lx ly
  have Htx : Hid (∀ i, i < (pathD ns x).length → thereB ns.length ((pathD ns x).getD i 0) = true) := fun i hi => (pathUp_mem hR hx (mem_pathD (getD_mem _ i hi))).1
  have Hty : Hid (∀ i, i < (pathD ns y).length → thereB ns.length ((pathD ns y).getD i 0) = true) := fun i hi => (pathUp_mem hR hy (mem_pathD (getD_mem _ i hi))).1
  have HIx : Hid (∀ (z : Int) (W : World), Below w.heap.size w W → thereB ns.length z = true → _) := fun z W hW hz => indexOf_any b off cap z ns W hR (hF.later hW) hz hkl
  obtain ⟨S, hS⟩ : ∃ S, standD ns x y = S := ⟨_, rfl⟩
  rw [hS]
  have HS := hid hS
  have Hle := hid (forkN_le (pathD ns x) (pathD ns y))
  clear hS hR hF hkl hx hy
  unfold standD at HS
  unfold forestV at *
  generalize pathD ns x = p at *
  generalize pathD ns y = q at *
  generalize forkN p q = N at *
  obtain ⟨sg, one⟩ := S
  have hB0 : Below w.heap.size w ((w.alloc (.cells #[.slice (some ⟨b, off, none⟩) ns.length cap] 24)).alloc (.cells #[.int .i64 0, .bool false] 94)).drew := (((Below.refl _ w).alloc (Nat.le_refl _) _).alloc (by simp) _).drew
  have hcb : (w.alloc (.cells #[.slice (some ⟨b, off, none⟩) ns.length cap] 24)).cell? ⟨w.heap.size, 0, none⟩ = some (.slice (some ⟨b, off, none⟩) ns.length cap) := by simp
  have Hcb := hid hcb
  clear hcb
  go_enter Tryz.func93, Tryz.ntmps93
  go_upto_region 1 with fail
  go_cut [7, 8] (fun t u wx => RdI wx t p ∧ RdI wx u q ∧ Below (w.heap.size + 1 + 1) ((w.alloc (.cells #[.slice (some ⟨b, off, none⟩) ns.length cap] 24)).alloc (.cells #[.int .i64 0, .bool false] 94)) wx)
  case first =>
    have hsz0 : w.heap.size < ((w.alloc (.cells #[.slice (some ⟨b, off, none⟩) ns.length cap] 24)).alloc (.cells #[.int .i64 0, .bool false] 94)).drew.heap.size := by
      show w.heap.size < ((w.alloc (.cells #[.slice (some ⟨b, off, none⟩) ns.length cap] 24)).alloc (.cells #[.int .i64 0, .bool false] 94)).heap.size
      simp only [World.size_alloc]
      omega
    have hbd : Below (w.heap.size + 1 + 1) ((w.alloc (.cells #[.slice (some ⟨b, off, none⟩) ns.length cap] 24)).alloc (.cells #[.int .i64 0, .bool false] 94)) ((w.alloc (.cells #[.slice (some ⟨b, off, none⟩) ns.length cap] 24)).alloc (.cells #[.int .i64 0, .bool false] 94)).drew := (Below.refl _ _).drew
    have hsd : w.heap.size + 1 + 1 ≤ ((w.alloc (.cells #[.slice (some ⟨b, off, none⟩) ns.length cap] 24)).alloc (.cells #[.int .i64 0, .bool false] 94)).drew.heap.size := by
      show w.heap.size + 1 + 1 ≤ ((w.alloc (.cells #[.slice (some ⟨b, off, none⟩) ns.length cap] 24)).alloc (.cells #[.int .i64 0, .bool false] 94)).heap.size
      simp only [World.size_alloc]
      omega
    have HB0 := hid hB0
    have Hz0 := hid hsz0
    have Hbd := hid hbd
    have Hsd := hid hsd
    clear hB0 hsz0 hbd hsd HFk HIx HS Htx Hty Hle
    go_region_held (fun W => W.cell? ⟨w.heap.size, 0, none⟩ = some (.slice (some ⟨b, off, none⟩) ns.length cap)) (first | exact keep_dr (keep_al Hcb.out) | exact hSw | exact hSv | go_keep) (first
      | (go_at_call_of 122 (Value.int .i64 x); refine (HPx.out _ HB0.out).mono ?_; rintro e vA ⟨a1, rfl, ra1, hb1⟩; have hBv := HB0.out.trans (hb1.mono HB0.out.size); have hSv := (hb1.cell (p := ⟨w.heap.size, 0, none⟩) Hz0.out).trans (keep_dr (keep_al Hcb.out)); have hCv := Hbd.out.trans (hb1.mono Hsd.out); have hZv := Nat.lt_of_lt_of_le Hz0.out hb1.size; have hDv := Nat.le_trans Hsd.out hb1.size; clear HB0)
      | (go_at_call_of 122 (Value.int .i64 y); refine (HPy.out _ HB0.out).mono ?_; rintro e vA ⟨a2, rfl, ra2, hb1⟩; have hBv := HB0.out.trans (hb1.mono HB0.out.size); have hSv := (hb1.cell (p := ⟨w.heap.size, 0, none⟩) Hz0.out).trans (keep_dr (keep_al Hcb.out)); have hCv := Hbd.out.trans (hb1.mono Hsd.out); have hZv := Nat.lt_of_lt_of_le Hz0.out hb1.size; have hDv := Nat.le_trans Hsd.out hb1.size; clear HB0)
      | (go_at_call_of 122 (Value.int .i64 y); refine (HPy.out _ hBv).mono ?_; rintro e vB ⟨a2, rfl, ra2, hb2⟩; have hSw := (hb2.cell (p := ⟨w.heap.size, 0, none⟩) hZv).trans hSv; have hCw := hCv.trans (hb2.mono hDv))
      | (go_at_call_of 122 (Value.int .i64 x); refine (HPx.out _ hBv).mono ?_; rintro e vB ⟨a1, rfl, ra1, hb2⟩; have hSw := (hb2.cell (p := ⟨w.heap.size, 0, none⟩) hZv).trans hSv; have hCw := hCv.trans (hb2.mono hDv)))
    all_goals
      go_wp2_with fail
      go_meet
      first
        | exact ⟨ra1.later hb2, ra2, hCw⟩
        | exact ⟨ra1, ra2.later hb2, hCw⟩
  case rest =>
    obtain ⟨r1, r2, hB1⟩ := hcut
    have HB1 : Hid (Below w.heap.size w wc) := (((Below.refl _ w).alloc (Nat.le_refl _) _).alloc (by simp) _).trans (hB1.mono (by omega))
    have hrs : wc.heap[w.heap.size + 1]? = some (.cells #[.int .i64 0, .bool false] 94 (0, 0)) := by
      refine (hB1.block (w.heap.size + 1) (by omega)).trans ?_
      have := heap_new (w.alloc (.cells #[.slice (some ⟨b, off, none⟩) ns.length cap] 24)) (.cells #[.int .i64 0, .bool false] 94)
      simp only [World.size_alloc] at this
      exact this
    have hfs : wc.cell? ⟨w.heap.size, 0, none⟩ = some (.slice (some ⟨b, off, none⟩) ns.length cap) := (hB1.cell (p := ⟨w.heap.size, 0, none⟩) (by show w.heap.size < _; omega)).trans (keep_al Hcb.out)
    have hs1 : w.heap.size + 1 < wc.heap.size := (Array.getElem?_eq_some_iff.1 hrs).1
    have Hr1 := hid r1
    have Hr2 := hid r2
    have Hrs := hid hrs
    have Hfs := hid hfs
    have hK := HFk.out _ _ wc r1 r2
    obtain ⟨o1, c1, rfl, hc1, g1⟩ := r1
    obtain ⟨o2, c2, rfl, hc2, g2⟩ := r2
    clear hB1 hrs hfs HFk HPx HPy hB0 Hcb
    go_wp2_with fail
    refine hK.mono ?_
    rintro e v1 ⟨rfl, hb1⟩
    have HB2 := hid (HB1.out.trans (hb1.mono HB1.out.size))
    have hrs1 := (hb1.block (w.heap.size + 1) hs1).trans Hrs.out
    have hfs1 := (hb1.cell (p := ⟨w.heap.size, 0, none⟩) (by show w.heap.size < wc.heap.size; omega)).trans Hfs.out
    have Hr1' := hid (Hr1.out.later hb1)
    have Hr2' := hid (Hr2.out.later hb1)
    have hs2 := hb1.size
    obtain ⟨z0, z1, z2, z3⟩ := two_cells hrs1
    have Hrs1 := hid hrs1
    have HS' := hid HS.out
    clear hK hb1 HB1 Hrs Hfs Hr1 Hr2 HS hrs1 g1 g2
    by_cases h0 : N = 0
    · subst h0
      have hSe := HS'.out
      rw [beq_self_eq_true, if_pos rfl] at hSe
      cases hSe
      clear HS'
      go_wp2
      exact bodyPost_ret (v := .agg #[.int .i64 0, .bool false]) (by simp [results, Tryz.results93, go_sem, z0, z1]) rfl ⟨rfl, (HB2.out.setCell (p := ⟨w.heap.size + 1, 0, none⟩) (Nat.le_succ _) _).setCell (p := ⟨w.heap.size + 1, 1, none⟩) (Nat.le_succ _) _⟩
    · have hn0 : ((N : Int) == 0) = false := beq_eq_false_iff_ne.2 (by omega)
      have hSe := HS'.out
      rw [beq_eq_false_iff_ne.2 h0, if_neg Bool.false_ne_true] at hSe
      clear HS'
      by_cases h1 : N = p.length ∨ N = q.length
      · have hor : (N == p.length || N == q.length) = true := by
          rw [Bool.or_eq_true, beq_iff_eq, beq_iff_eq]
          exact h1
        rw [hor, if_pos rfl] at hSe
        obtain ⟨hsg, hone⟩ := Prod.mk.inj hSe
        subst hone
        have hC := cmp_any (p.length : Int) (q.length : Int) v1
        rw [hsg] at hC
        clear hsg hSe
        by_cases h2 : N = p.length
        · have e1 : ((N : Int) == (p.length : Int)) = true := by rw [h2]; exact beq_self_eq_true _
          clear h1 h2 hor
          go_wp2_with fail
          refine hC.mono ?_
          rintro e v2 ⟨rfl, rfl⟩
          clear hC
          go_wp2
          exact bodyPost_ret (v := .agg #[.int .i64 sg, .bool true]) (by simp [results, Tryz.results93, go_sem, z0, z1]) rfl ⟨rfl, (HB2.out.setCell (p := ⟨w.heap.size + 1, 0, none⟩) (Nat.le_succ _) _).setCell (p := ⟨w.heap.size + 1, 1, none⟩) (Nat.le_succ _) _⟩
        · have e1 : ((N : Int) == (p.length : Int)) = false := beq_eq_false_iff_ne.2 (by omega)
          have e2 : ((N : Int) == (q.length : Int)) = true := by rw [h1.resolve_left h2]; exact beq_self_eq_true _
          clear h1 h2 hor
          go_wp2_with fail
          refine hC.mono ?_
          rintro e v2 ⟨rfl, rfl⟩
          clear hC
          go_wp2
          exact bodyPost_ret (v := .agg #[.int .i64 sg, .bool true]) (by simp [results, Tryz.results93, go_sem, z0, z1]) rfl ⟨rfl, (HB2.out.setCell (p := ⟨w.heap.size + 1, 0, none⟩) (Nat.le_succ _) _).setCell (p := ⟨w.heap.size + 1, 1, none⟩) (Nat.le_succ _) _⟩
      · have n1 : N ≠ p.length := fun e => h1 (.inl e)
        have n2 : N ≠ q.length := fun e => h1 (.inr e)
        rw [beq_eq_false_iff_ne.2 n1, beq_eq_false_iff_ne.2 n2, Bool.or_self, if_neg Bool.false_ne_true] at hSe
        have e1 : ((N : Int) == (p.length : Int)) = false := beq_eq_false_iff_ne.2 (by omega)
        have e2 : ((N : Int) == (q.length : Int)) = false := beq_eq_false_iff_ne.2 (by omega)
        have l1 : N < p.length := by have := Hle.out.1; omega
        have l2 : N < q.length := by have := Hle.out.2; omega
        have tp := Htx.out N l1
        have tq := Hty.out N l2
        obtain ⟨o1', c1', ee1, _, g1⟩ := Hr1'.out
        obtain ⟨o2', c2', ee2, _, g2⟩ := Hr2'.out
        cases ee1
        cases ee2
        obtain ⟨b1, off1, rfl, hl1, ha1⟩ := g1 (by omega)
        obtain ⟨b2, off2, rfl, hl2, ha2⟩ := g2 (by omega)
        have cp := ha1 N l1
        have cq := ha2 N l2
        have ep : p[N] = p.getD N 0 := by rw [List.getD_eq_getElem?_getD, List.getElem?_eq_getElem l1]; rfl
        have eq : q[N] = q.getD N 0 := by rw [List.getD_eq_getElem?_getD, List.getElem?_eq_getElem l2]; rfl
        rw [ep] at cp
        rw [eq] at cq
        clear ep eq ha1 ha2 g1 g2 h1 n1 n2 Hle Htx Hty Hr1' Hr2'
        generalize p.getD N 0 = zp at *
        generalize q.getD N 0 = zq at *
        have q1 : (0 : Int) ≤ (N : Int) := by omega
        have q2 : (N : Int) < (p.length : Int) := by omega
        have q3 : (N : Int) < (q.length : Int) := by omega
        have HIp : Hid (∀ W : World, Below w.heap.size w W → _) := fun W hW => HIx.out zp W hW tp
        have HIq : Hid (∀ W : World, Below w.heap.size w W → _) := fun W hW => HIx.out zq W hW tq
        have HC : Hid (∀ W : World, _) := fun W => cmp_any (indexD ns zp) (indexD ns zq) W
        obtain ⟨hsg, hone⟩ := Prod.mk.inj hSe
        subst hone
        rw [hsg] at HC
        clear hsg hSe
        generalize indexD ns zp = ip at *
        generalize indexD ns zq = iq at *
        have H3 : Hid (v1.drew.cell? ⟨w.heap.size, 0, none⟩ = some (.slice (some ⟨b, off, none⟩) ns.length cap) ∧ v1.drew.cell? ⟨b1, off1 + N, none⟩ = some (.int .i64 zp) ∧ v1.drew.cell? ⟨b2, off2 + N, none⟩ = some (.int .i64 zq)) := ⟨hfs1, cp, cq⟩
        have HL : Hid (w.heap.size < v1.drew.heap.size ∧ b1 < v1.drew.heap.size ∧ b2 < v1.drew.heap.size) := ⟨by show w.heap.size < v1.heap.size; omega, hl1, hl2⟩
        have HB0 : Hid (Below w.heap.size w v1.drew) := HB2.out.drew
        have Hrr : Hid (v1.drew.heap[w.heap.size + 1]? = _) := Hrs1.out
        have Hne : Hid (w.heap.size ≠ w.heap.size + 1 ∧ b1 ≠ w.heap.size + 1 ∧ b2 ≠ w.heap.size + 1) := ⟨by omega, row_ne Hrs1.out (there_ne tp) cp, row_ne Hrs1.out (there_ne tq) cq⟩
        have Hsr : Hid (w.heap.size + 1 < v1.drew.heap.size) := by show w.heap.size + 1 < v1.heap.size; omega
        clear tp tq HIx HB2 z0 z1 z2 z3
        go_upto_region 7 with fail
        go_region_held (fun W => W.cell? ⟨w.heap.size, 0, none⟩ = some (.slice (some ⟨b, off, none⟩) ns.length cap) ∧ W.cell? ⟨b1, off1 + N, none⟩ = some (.int .i64 zp) ∧ W.cell? ⟨b2, off2 + N, none⟩ = some (.int .i64 zq)) (first | exact three_set hSw Hne.out | exact hSw | exact hSv | exact H3.out | go_keep) (first
          | (go_at_call_of 71 (Value.int .i64 zp); refine (HIp.out _ HB0.out).mono ?_; rintro e vA ⟨rfl, hb1⟩; have hSv := three_later H3.out HL.out hb1; have hLv := three_lt HL.out hb1; have hBv := HB0.out.trans (hb1.mono HB0.out.size); have hRv := (hb1.block _ Hsr.out).trans Hrr.out; have hZv := Nat.lt_of_lt_of_le Hsr.out hb1.size; clear HB0)
          | (go_at_call_of 71 (Value.int .i64 zq); refine (HIq.out _ HB0.out).mono ?_; rintro e vA ⟨rfl, hb1⟩; have hSv := three_later H3.out HL.out hb1; have hLv := three_lt HL.out hb1; have hBv := HB0.out.trans (hb1.mono HB0.out.size); have hRv := (hb1.block _ Hsr.out).trans Hrr.out; have hZv := Nat.lt_of_lt_of_le Hsr.out hb1.size; clear HB0)
          | (go_at_call_of 71 (Value.int .i64 zq); refine (HIq.out _ hBv).mono ?_; rintro e vB ⟨rfl, hb2⟩; have hSw := three_later hSv hLv hb2; have hBw := hBv.trans (hb2.mono hBv.size); have hRw := (hb2.block _ hZv).trans hRv; obtain ⟨z0, z1, z2, z3⟩ := two_cells hRw; clear hBv)
          | (go_at_call_of 71 (Value.int .i64 zp); refine (HIp.out _ hBv).mono ?_; rintro e vB ⟨rfl, hb2⟩; have hSw := three_later hSv hLv hb2; have hBw := hBv.trans (hb2.mono hBv.size); have hRw := (hb2.block _ hZv).trans hRv; obtain ⟨z0, z1, z2, z3⟩ := two_cells hRw; clear hBv)
          | (go_at_call 124; refine (HC.out _).mono ?_; rintro e vC ⟨rfl, rfl⟩))
        all_goals
          have HBw := hid hBw
          clear hBw hSw hSv hLv hRv hRw hb1 hb2 H3 HL Hrr HC
          go_wp2
          exact bodyPost_ret (v := .agg #[.int .i64 sg, .bool true]) (by simp [results, Tryz.results93, go_sem, z0, z1]) rfl ⟨rfl, (HBw.out.setCell (p := ⟨w.heap.size + 1, 0, none⟩) (Nat.le_succ _) _).setCell (p := ⟨w.heap.size + 1, 1, none⟩) (Nat.le_succ _) _⟩
end Go.Proofs.YtfaeabjgplahgaaGreat

namespace Go.Proofs.YtfaeabjgplahgaaGreat
open Go.RowKit Go.Lib Go.Shelf

set_option maxRecDepth 100000 in
set_option maxHeartbeats 8000000 in
theorem positionOf_any (b off cap : Nat) (x y : Int) (ns : List NodeD) (w : World) (hR : RightF ns) (hF : FAt w b off cap ns) (hx : thereB ns.length x = true) (hy : thereB ns.length y = true) (hkl : ∀ (i : Nat) (hi : i < ns.length), ns[i].kids.length ≤ 1099511627776) :
    Calls Tryz.prog 57 #[forestV b off cap ns.length, .int .i64 x, .int .i64 y] w fun e w' => e = .returned (.int .i64 (positionD ns x y)) ∧ Below w.heap.size w w' := by
  have HS : Hid (∀ W : World, Below w.heap.size w W → _) := fun W hW => standOf_any b off cap x y ns W hR (hF.later hW) hx hy hkl
  have HC1 : Hid (∀ W : World, Below w.heap.size w W → _) := fun W hW => contains_any b off cap y x ns W hR (hF.later hW) hx
  have HC2 : Hid (∀ W : World, Below w.heap.size w W → _) := fun W hW => contains_any b off cap x y ns W hR (hF.later hW) hy
  obtain ⟨P, hP⟩ : ∃ P, positionD ns x y = P := ⟨_, rfl⟩
  rw [hP]
  have HP := hid hP
  unfold positionD at HP
  clear hP hR hF hkl hx hy
  unfold forestV at *
  generalize standD ns x y = S at *
  generalize containsD ns y x = K1 at *
  generalize containsD ns x y = K2 at *
  obtain ⟨sg, one⟩ := S
  simp only at HP HS
  go_enter Tryz.func57, Tryz.ntmps57
  go_wp2_with fail
  refine (HS.out _ ((Below.refl _ w).alloc (Nat.le_refl _) _)).mono ?_
  rintro e v1 ⟨rfl, hb1⟩
  have hB1 := box_go hb1
  have cb := box_forest hb1
  have hsz := hb1.size
  simp only [World.size_alloc] at hsz
  have hbA : Below v1.heap.size v1 (v1.alloc (.cells #[.int .i64 sg, .bool one] 94)) := (Below.refl _ v1).alloc (Nat.le_refl _) _
  have cbA := (hbA.cell (p := ⟨w.heap.size, 0, none⟩) (by show w.heap.size < v1.heap.size; omega)).trans cb
  have HBA := hid (hB1.trans (hbA.mono hB1.size))
  obtain ⟨z0, z1, _, _⟩ := two_cells (heap_new v1 (.cells #[.int .i64 sg, .bool one] 94))
  have hszA : (v1.alloc (.cells #[.int .i64 sg, .bool one] 94)).heap.size = v1.heap.size + 1 := by simp
  clear hbA hb1 hB1 HS cb
  go_upto_region 2 with fail
  generalize v1.alloc (.cells #[.int .i64 sg, .bool one] 94) = W1 at *
  generalize v1.heap.size = g at *
  cases hxy : (x == y) with
  | true =>
    have hP0 : P = 0 := by rw [← HP.out, hxy]; rfl
    subst hP0
    clear HP HC1 HC2
    go_wp2
    go_ret
    exact ⟨rfl, HBA.out⟩
  | false =>
    cases one with
    | false =>
      cases hlt : decide (y < x) with
      | true =>
        have hP0 : P = 35 := by rw [← HP.out, hxy, hlt]; rfl
        subst hP0
        clear HP HC1 HC2
        go_wp2
        go_ret
        exact ⟨rfl, HBA.out⟩
      | false =>
        have hP0 : P = 37 := by rw [← HP.out, hxy, hlt]; rfl
        subst hP0
        clear HP HC1 HC2
        go_wp2
        go_ret
        exact ⟨rfl, HBA.out⟩
    | true =>
      have hC1 := HC1.out W1 HBA.out
      cases K1 with
      | true =>
        have hP0 : P = 10 := by rw [← HP.out, hxy]; rfl
        subst hP0
        clear HP HC1 HC2
        go_wp2_with fail
        refine hC1.mono ?_
        rintro e v2 ⟨rfl, hb2⟩
        have HB2 := hid (HBA.out.trans (hb2.mono HBA.out.size))
        clear hC1 hb2
        go_wp2
        go_ret
        exact ⟨rfl, HB2.out⟩
      | false =>
        go_wp2_with fail
        refine hC1.mono ?_
        rintro e v2 ⟨rfl, hb2⟩
        have HB2 := hid (HBA.out.trans (hb2.mono HBA.out.size))
        have cb2 := (hb2.cell (p := ⟨w.heap.size, 0, none⟩) (by show w.heap.size < W1.heap.size; omega)).trans cbA
        have z02 := (hb2.cell (p := ⟨g, 0, none⟩) (by show g < W1.heap.size; omega)).trans z0
        have hC2 := HC2.out v2 HB2.out
        have hs2 := hb2.size
        clear hC1 hb2 cbA z0 z1 HC1 HC2 HBA
        cases K2 with
        | true =>
          have hP0 : P = 20 := by rw [← HP.out, hxy]; rfl
          subst hP0
          clear HP
          go_wp2_with fail
          refine hC2.mono ?_
          rintro e v3 ⟨rfl, hb3⟩
          have HB3 := hid (HB2.out.trans (hb3.mono HB2.out.size))
          clear hC2 hb3
          go_wp2
          go_ret
          exact ⟨rfl, HB3.out⟩
        | false =>
          cases hsg : decide (0 < sg) with
          | true =>
            have hP0 : P = 2 := by rw [← HP.out, hxy, hsg]; rfl
            subst hP0
            clear HP
            go_wp2_with fail
            refine hC2.mono ?_
            rintro e v3 ⟨rfl, hb3⟩
            have HB3 := hid (HB2.out.trans (hb3.mono HB2.out.size))
            have z03 := (hb3.cell (p := ⟨g, 0, none⟩) (by show g < v2.heap.size; omega)).trans z02
            clear hC2 hb3
            go_wp2
            go_ret
            exact ⟨rfl, HB3.out⟩
          | false =>
            have hP0 : P = 4 := by rw [← HP.out, hxy, hsg]; rfl
            subst hP0
            clear HP
            go_wp2_with fail
            refine hC2.mono ?_
            rintro e v3 ⟨rfl, hb3⟩
            have HB3 := hid (HB2.out.trans (hb3.mono HB2.out.size))
            have z03 := (hb3.cell (p := ⟨g, 0, none⟩) (by show g < v2.heap.size; omega)).trans z02
            clear hC2 hb3
            go_wp2
            go_ret
            exact ⟨rfl, HB3.out⟩

/-- The error of a call of order, by its forest and its handles. -/
def toldE (ns : List NodeD) (hs : List Int) : Int := if rightD ns then (if hs.all (thereB ns.length) then 0 else 2) else 5
theorem toldE_ok {ns : List NodeD} {hs : List Int} (h1 : rightD ns = true) (h2 : hs.all (thereB ns.length) = true) : toldE ns hs = 0 := by unfold toldE; rw [h1, h2]; rfl

set_option maxRecDepth 100000 in
set_option maxHeartbeats 4000000 in
theorem toldCompare_any (o : Option Addr) (cap u1 u2 u3 : Nat) (R : Int) (v : Value) (hs : List Int) (ns : List NodeD) (w : World) (hF : FRd w o cap ns) (hkl : ∀ (i : Nat) (hi : i < ns.length), ns[i].kids.length ≤ 1099511627776) (hal : ∀ (i : Nat) (hi : i < ns.length), ns[i].attrs.length ≤ 1099511627776) (hv : RdI w v hs) (hl : hs.length ≤ 1099511627776)
    (hT : toldE ns hs = 0 → ∀ W : World, Below w.heap.size w W → Calls Tryz.prog 56 #[.pointer (some ⟨u1, 0, none⟩), .pointer (some ⟨u2, 0, none⟩), .pointer (some ⟨u3, 0, none⟩)] W fun e w' => e = .returned (.int .i64 R) ∧ Below W.heap.size W w') :
    Calls Tryz.prog 55 #[.agg #[.slice o ns.length cap], .func (.func 56) #[] #[.pointer (some ⟨u1, 0, none⟩), .pointer (some ⟨u2, 0, none⟩), .pointer (some ⟨u3, 0, none⟩)], v] w fun e w' => e = .returned (.tuple #[.int .i64 (if toldE ns hs = 0 then R else 0), .int .i64 (toldE ns hs)]) ∧ Below w.heap.size w w' := by
  have HC : Hid (∀ W : World, Below w.heap.size w W → _) := fun W hW => Check_any o cap ns W (hF.later hW) hkl hal
  have hle := hF.len
  obtain ⟨o2, c2, rfl, hc2, g2⟩ := hv
  clear hF hkl hal
  generalize checkN ns = CN at *
  cases hr : rightD ns with
  | false =>
    have e0 : toldE ns hs = 5 := by unfold toldE; rw [hr]; rfl
    have e1 : checkE ns = 5 := by unfold checkE; rw [hr]; rfl
    rw [e0, if_neg (by decide)]
    rw [e1] at HC
    clear hT e0 e1 g2
    go_enter Tryz.func55, Tryz.ntmps55
    go_wp2_with fail
    refine (HC.out _ ((Below.refl _ w).alloc (Nat.le_refl _) _)).mono ?_
    rintro e v1 ⟨rfl, hb1⟩
    go_wp2
    go_ret2
    exact ⟨rfl, box_go hb1⟩
  | true =>
    have e1 : checkE ns = 0 := (checkE_right hr).1
    rw [e1] at HC
    obtain ⟨E, hE⟩ : ∃ E, toldE ns hs = E := ⟨_, rfl⟩
    rw [hE] at hT ⊢
    have HE : Hid ((if (hs.drop 0).all (thereB ns.length) then (0 : Int) else 2) = E) := by
      have := hE
      unfold toldE at this
      rw [hr, if_pos rfl] at this
      exact this
    obtain ⟨T, hTe⟩ : ∃ T, (if E = 0 then R else 0) = T := ⟨_, rfl⟩
    rw [hTe]
    have HTe := hid hTe
    have HT := hid hT
    clear hE hT e1 hTe
    go_enter Tryz.func55, Tryz.ntmps55
    go_wp2_with fail
    refine (HC.out _ ((Below.refl _ w).alloc (Nat.le_refl _) _)).mono ?_
    rintro e v1 ⟨rfl, hb1⟩
    have HB1 := hid (box_go hb1)
    have cb := box_forest hb1
    clear hb1 HC
    go_wp2
    go_loopw [24] (fun t wr => ∃ k : Nat, k ≤ hs.length ∧ t = .int .i64 k ∧ wr = v1 ∧ Hid ((if (hs.drop k).all (thereB ns.length) then (0 : Int) else 2) = E)) (fun t _ => hs.length - (RowKit.intOf t).toNat)
    case atStart => exact ⟨0, Nat.zero_le _, rfl, rfl, HE⟩
    case round =>
      obtain ⟨k, k1, rfl, rfl, hK⟩ := hrel
      by_cases hlt : k < hs.length
      · obtain ⟨b, off, rfl, hlt1, ha⟩ := g2 (by omega)
        have x1 := (HB1.out.cell (p := ⟨b, off + k, none⟩) hlt1).trans (ha k hlt)
        have q1 : (0 : Int) ≤ (k : Int) := by omega
        have q2 : (k : Int) < (hs.length : Int) := by omega
        have hk := hK.out
        rw [List.drop_eq_getElem_cons hlt, List.all_cons] at hk
        have Hk := hid hk
        clear hk hK ha g2
        generalize hs[k] = a at *
        by_cases g1 : a < 1
        · have hf : thereB ns.length a = false := by unfold thereB; rw [decide_eq_false (by omega)]; rfl
          have hE2 : E = 2 := by rw [← Hk.out, hf]; rfl
          subst hE2
          have hT0 : T = 0 := by rw [← HTe.out]; rfl
          subst hT0
          have d1 : decide (a < 1) = true := decide_eq_true g1
          clear Hk hf HT
          go_wp2
          go_ret2
          exact ⟨rfl, HB1.out⟩
        · have d1 : decide (a < 1) = false := decide_eq_false g1
          by_cases g3 : (ns.length : Int) < a
          · have hf : thereB ns.length a = false := by unfold thereB; rw [decide_eq_false (p := a ≤ (ns.length : Int)) (by omega), Bool.and_false]
            have hE2 : E = 2 := by rw [← Hk.out, hf]; rfl
            subst hE2
            have hT0 : T = 0 := by rw [← HTe.out]; rfl
            subst hT0
            have d2 : decide ((ns.length : Int) < a) = true := decide_eq_true g3
            clear Hk hf HT
            go_wp2
            go_ret2
            exact ⟨rfl, HB1.out⟩
          · have hf : thereB ns.length a = true := by unfold thereB; rw [decide_eq_true (by omega), decide_eq_true (by omega)]; rfl
            have d2 : decide ((ns.length : Int) < a) = false := decide_eq_false g3
            have Hn : Hid ((if (hs.drop (k + 1)).all (thereB ns.length) then (0 : Int) else 2) = E) := by
              have h := Hk.out
              rw [hf, Bool.true_and] at h
              exact h
            clear Hk hf
            go_wp2
            go_roundw
            case rel => exact ⟨k + 1, by omega, by go_num, trivial, Hn⟩
            case measure => simp [RowKit.intOf]; omega
      · have hE0 : E = 0 := by rw [← hK.out, List.drop_eq_nil_of_le (by omega)]; rfl
        subst hE0
        have hT := HT.out rfl wr HB1.out
        have hT0 : T = R := by rw [← HTe.out]; rfl
        subst hT0
        clear hK g2 HT HTe
        go_wp2_with fail
        refine hT.mono ?_
        rintro e v2 ⟨rfl, hb2⟩
        have HB2 := hid (HB1.out.trans (hb2.mono HB1.out.size))
        clear hT hb2
        go_wp2
        go_ret2
        exact ⟨rfl, HB2.out⟩
end Go.Proofs.YtfaeabjgplahgaaGreat

namespace Go.Proofs.YtfaeabjgplahgaaGreat
open Go.RowKit Go.Lib Go.Shelf

theorem toldE_zero {ns : List NodeD} {hs : List Int} (h : toldE ns hs = 0) : RightF ns ∧ ∀ x ∈ hs, thereB ns.length x = true := by
  unfold toldE at h
  cases hr : rightD ns with
  | false => rw [hr, if_neg Bool.false_ne_true] at h; omega
  | true =>
    rw [hr, if_pos rfl] at h
    cases ha : hs.all (thereB ns.length) with
    | false => rw [ha, if_neg Bool.false_ne_true] at h; omega
    | true => exact ⟨(rightD_iff ns).1 hr, fun x hx => List.all_eq_true.1 ha x hx⟩

set_option maxRecDepth 100000 in
set_option maxHeartbeats 2000000 in
theorem Compare1_any (b off cap u1 u2 u3 : Nat) (x y : Int) (ns : List NodeD) (w : World) (hR : RightF ns) (hF : FAt w b off cap ns) (hx : thereB ns.length x = true) (hy : thereB ns.length y = true) (hkl : ∀ (i : Nat) (hi : i < ns.length), ns[i].kids.length ≤ 1099511627776)
    (c1 : w.cell? ⟨u1, 0, none⟩ = some (.slice (some ⟨b, off, none⟩) ns.length cap)) (c2 : w.cell? ⟨u2, 0, none⟩ = some (.int .i64 x)) (c3 : w.cell? ⟨u3, 0, none⟩ = some (.int .i64 y)) :
    Calls Tryz.prog 56 #[.pointer (some ⟨u1, 0, none⟩), .pointer (some ⟨u2, 0, none⟩), .pointer (some ⟨u3, 0, none⟩)] w fun e w' => e = .returned (.int .i64 (positionD ns x y)) ∧ Below w.heap.size w w' := by
  have hP := positionOf_any b off cap x y ns w hR hF hx hy hkl
  unfold forestV at hP
  generalize positionD ns x y = P at *
  go_enter Tryz.func56, Tryz.ntmps56
  go_wp2_with fail
  refine hP.mono ?_
  rintro e v1 ⟨rfl, hb1⟩
  have HB := hid hb1
  clear hP hb1
  go_wp2
  go_ret
  exact ⟨rfl, HB.out⟩

/-- Two numbers in a new row. -/
theorem two_rdI (W : World) (x y : Int) (t : TypeId) : RdI (W.alloc (.cells #[.int .i64 x, .int .i64 y] t)) (.slice (some ⟨W.heap.size, 0, none⟩) 2 2) [x, y] :=
  ⟨_, 2, rfl, Nat.le_refl _, fun _ => ⟨_, _, rfl, by simp, fun j hj => by
    match j, hj with
    | 0, _ => simp
    | 1, _ => simp⟩⟩

set_option maxRecDepth 100000 in
set_option maxHeartbeats 4000000 in
theorem Compare_any (o : Option Addr) (cap : Nat) (x y : Int) (ns : List NodeD) (w : World) (hF : FRd w o cap ns) (hkl : ∀ (i : Nat) (hi : i < ns.length), ns[i].kids.length ≤ 1099511627776) (hal : ∀ (i : Nat) (hi : i < ns.length), ns[i].attrs.length ≤ 1099511627776) :
    Calls Tryz.prog 21 #[.agg #[.slice o ns.length cap], .int .i64 x, .int .i64 y] w fun e w' => e = .returned (.tuple #[.int .i64 (if toldE ns [x, y] = 0 then positionD ns x y else 0), .int .i64 (toldE ns [x, y])]) ∧ Below w.heap.size w w' := by
  have hB4 : Below w.heap.size w ((((w.alloc (.cells #[.slice o ns.length cap] 24)).alloc (.cells #[.int .i64 x] 3)).alloc (.cells #[.int .i64 y] 3)).alloc (.cells #[.int .i64 x, .int .i64 y] 3)) := ((((Below.refl _ w).alloc (Nat.le_refl _) _).alloc (by simp) _).alloc (by simp; omega) _).alloc (by simp; omega) _
  have k0 := new_cell_l w (.slice o ns.length cap) 24
  have k1 := new_cell_l (w.alloc (.cells #[.slice o ns.length cap] 24)) (.int .i64 x) 3
  have k2 := new_cell_l ((w.alloc (.cells #[.slice o ns.length cap] 24)).alloc (.cells #[.int .i64 x] 3)) (.int .i64 y) 3
  have kr := two_rdI (((w.alloc (.cells #[.slice o ns.length cap] 24)).alloc (.cells #[.int .i64 x] 3)).alloc (.cells #[.int .i64 y] 3)) x y 3
  simp only [World.size_alloc] at k1 k2 kr
  have c0 := keep_cell_l (.cells #[.int .i64 x, .int .i64 y] 3) (keep_cell_l (.cells #[.int .i64 y] 3) (keep_cell_l (.cells #[.int .i64 x] 3) k0.1))
  have c1 := keep_cell_l (.cells #[.int .i64 x, .int .i64 y] 3) (keep_cell_l (.cells #[.int .i64 y] 3) k1.1)
  have c2 := keep_cell_l (.cells #[.int .i64 x, .int .i64 y] 3) k2.1
  have hT := toldCompare_any o cap w.heap.size (w.heap.size + 1) (w.heap.size + 1 + 1) (positionD ns x y) _ [x, y] ns _ (hF.later hB4) hkl hal kr (by simp) (fun hE W hW => by
    obtain ⟨hR, hth⟩ := toldE_zero hE
    have hx := hth x (by simp)
    have hy := hth y (by simp)
    have hpos : 0 < ns.length := by
      obtain ⟨j, hj, _⟩ := there_idx hx
      omega
    obtain ⟨b, off, rfl, hFA⟩ := hF.at_ hpos
    have s0 : w.heap.size < ((((w.alloc (.cells #[.slice (some ⟨b, off, none⟩) ns.length cap] 24)).alloc (.cells #[.int .i64 x] 3)).alloc (.cells #[.int .i64 y] 3)).alloc (.cells #[.int .i64 x, .int .i64 y] 3)).heap.size := by simp only [World.size_alloc]; omega
    exact Compare1_any b off cap _ _ _ x y ns W hR (hFA.later (hB4.trans (hW.mono hB4.size))) hx hy hkl
      ((hW.cell (p := ⟨w.heap.size, 0, none⟩) s0).trans c0)
      ((hW.cell (p := ⟨w.heap.size + 1, 0, none⟩) (by show w.heap.size + 1 < _; simp only [World.size_alloc]; omega)).trans c1)
      ((hW.cell (p := ⟨w.heap.size + 1 + 1, 0, none⟩) (by show w.heap.size + 1 + 1 < _; simp only [World.size_alloc]; omega)).trans c2))
  generalize (if toldE ns [x, y] = 0 then positionD ns x y else 0) = A at *
  generalize toldE ns [x, y] = E at *
  have HB4 := hid hB4
  clear k0 k1 k2 kr c0 c1 c2 hF hkl hal hB4
  go_enter Tryz.func21, Tryz.ntmps21
  go_wp2_with fail
  refine hT.mono ?_
  rintro e v1 ⟨rfl, hb1⟩
  have HB := hid (HB4.out.trans (hb1.mono HB4.out.size))
  clear hT hb1 HB4
  go_wp2
  go_ret2
  exact ⟨rfl, HB.out⟩
end Go.Proofs.YtfaeabjgplahgaaGreat
