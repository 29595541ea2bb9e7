/- abort.saidBy: who says to depend on whom. -/
import Derived.Test.YtlibjjmaicgemaaAbB
namespace Go.Proofs.Ytlibjjmaicgemaa
open Go.RowKit Go.Lib Go.Shelf

def abAt (ls : List SigD) (m : Nat) : Bool := (ls[m]?.map SigD.ab).getD false
def lastIs (l : List Int) (x : Int) : Bool := decide (0 < l.length) && l.getD (l.length - 1) 0 == x
def rowAt (rs : List (List Int)) (m : Nat) : List Int := rs.getD m []
/-- One more who says to depend on h, h being the handles of its sources. -/
def tieD (ls : List SigD) (i : Nat) (a : Bool) : List Int → List (List Int) → Option (List (List Int))
  | [], said => some said
  | h :: r, said =>
    if outD ls.length h = true then none
    else if (abAt ls (h.toNat - 1) && !a) = true then none
    else if lastIs (rowAt said (h.toNat - 1)) ((i : Int) + 1) = true then none
    else tieD ls i a r (said.set (h.toNat - 1) (rowAt said (h.toNat - 1) ++ [(i : Int) + 1]))
def saidFrom (ls : List SigD) : Nat → List SigD → List (List Int) → Option (List (List Int))
  | _, [], said => some said
  | i, s :: r, said => if s.dep = true then (tieD ls i s.ab s.src said).bind (fun said1 => saidFrom ls (i + 1) r said1) else saidFrom ls (i + 1) r said
def saidD (ls : List SigD) : Option (List (List Int)) := saidFrom ls 0 ls (List.replicate ls.length [])
/-- Rows that rise, of numbers from 1 to k. -/
def GoodR (k : Nat) (rs : List (List Int)) : Prop := ∀ row ∈ rs, row.Pairwise (· < ·) ∧ ∀ x ∈ row, 1 ≤ x ∧ x ≤ (k : Int)
theorem GoodR.mono {k m : Nat} {rs : List (List Int)} (h : GoodR k rs) (hk : k ≤ m) : GoodR m rs := fun row hr => ⟨(h row hr).1, fun x hx => ⟨((h row hr).2 x hx).1, by have := ((h row hr).2 x hx).2; omega⟩⟩
theorem rise_short (k : Int) : ∀ (row : List Int) (lo : Int), lo ≤ k → row.Pairwise (· < ·) → (∀ x ∈ row, lo < x ∧ x ≤ k) → (row.length : Int) ≤ k - lo
  | [], lo, h, _, _ => by simp; omega
  | x :: r, lo, h, hp, ha => by
    have hx := ha x (List.mem_cons_self ..)
    obtain ⟨h1, h2⟩ := List.pairwise_cons.1 hp
    have := rise_short k r x hx.2 h2 (fun y hy => ⟨h1 y hy, (ha y (List.mem_cons_of_mem _ hy)).2⟩)
    rw [List.length_cons]
    omega
theorem GoodR.short {k : Nat} {rs : List (List Int)} (h : GoodR k rs) {row : List Int} (hr : row ∈ rs) : row.length ≤ k := by
  have := rise_short k row 0 (by omega) (h row hr).1 (fun x hx => by have := (h row hr).2 x hx; omega)
  omega
theorem lastIs_snoc (l : List Int) (y x : Int) : lastIs (l ++ [y]) x = (y == x) := by
  unfold lastIs
  rw [decide_eq_true (by simp), Bool.true_and, List.length_append, List.length_singleton, Nat.add_sub_cancel, List.getD_eq_getElem?_getD, List.getElem?_append_right (Nat.le_refl _), Nat.sub_self]
  rfl
theorem good_put {i m : Nat} {rs : List (List Int)} (h : GoodR (i + 1) rs) (hm : m < rs.length) (hn : lastIs rs[m] ((i : Int) + 1) = false) : GoodR (i + 1) (rs.set m (rs[m] ++ [(i : Int) + 1])) := by
  intro row hr
  rcases List.mem_or_eq_of_mem_set hr with hr | rfl
  · exact h row hr
  · have hg := h rs[m] (List.getElem_mem hm)
    have hlt : ∀ x ∈ rs[m], x < (i : Int) + 1 := by
      generalize rs[m] = q at *
      rcases List.eq_nil_or_concat q with rfl | ⟨q0, y, rfl⟩
      · intro x hx; cases hx
      · rw [List.concat_eq_append] at hn hg ⊢
        rw [lastIs_snoc, beq_eq_false_iff_ne] at hn
        have hy := (hg.2 y (by simp)).2
        obtain ⟨_, _, h3⟩ := List.pairwise_append.1 hg.1
        intro x hx
        rcases List.mem_append.1 hx with hx | hx
        · have := h3 x hx y (by simp)
          push_cast at hy
          omega
        · have : x = y := by simpa using hx
          subst this
          push_cast at hy
          omega
    refine ⟨List.pairwise_append.2 ⟨hg.1, List.pairwise_singleton _ _, fun a ha b hb => ?_⟩, fun x hx => ?_⟩
    · have : b = (i : Int) + 1 := by simpa using hb
      rw [this]
      exact hlt a ha
    · rcases List.mem_append.1 hx with hx | hx
      · exact hg.2 x hx
      · have : x = (i : Int) + 1 := by simpa using hx
        subst this
        push_cast
        omega
theorem row_at {rs : List (List Int)} {m : Nat} (h : m < rs.length) : rowAt rs m = rs[m] := by
  unfold rowAt
  rw [List.getD_eq_getElem?_getD, List.getElem?_eq_getElem h]
  rfl
theorem ab_at {ls : List SigD} {m : Nat} (h : m < ls.length) : abAt ls m = ls[m].ab := by
  unfold abAt
  rw [List.getElem?_eq_getElem h]
  rfl
theorem out_no {n : Nat} {h : Int} (ho : outD n h = false) : ∃ m : Nat, h = (m : Int) + 1 ∧ m < n := by
  unfold outD at ho
  simp only [Bool.or_eq_false_iff, decide_eq_false_iff_not] at ho
  exact ⟨h.toNat - 1, by omega, by omega⟩
theorem make_lists (n : Nat) (h : n ≤ 1099511627776) (W : World) : (Instr.makeSlice 62 (.int .i64 (n : Int)) (.int .i64 (n : Int))).run Try.prog W = .ok (.slice (some ⟨W.heap.size, 0, none⟩) n n) (W.alloc (.cells (madeCells #[.slice none 0 0] n) 23)) :=
  run_make_row' (P := Try.prog) 62 23 (.slice none 0 0) 24 (by kernel_rfl) (by kernel_rfl) rfl .i64 .i64 n (by omega) (by omega) W
/-- Lists of signals that a machine can have. -/
def SmallS (ls : List SigD) : Prop := ∀ s ∈ ls, s.src.length ≤ 1099511627776 ∧ s.dts.length ≤ 1099511627776

set_option maxRecDepth 100000 in
set_option maxHeartbeats 4000000 in
theorem saidBy_any (v : Value) (ls : List SigD) (w : World) (hv : RdS w v ls) (hl : ls.length ≤ 1024) (hs : SmallS ls) :
    Calls Try.prog 38 #[v] w fun e w' => (saidD ls = none ∧ e = .returned (.tuple #[.slice none 0 0, .bool false]) ∧ Below w.heap.size w w') ∨ (∃ said g cur, saidD ls = some said ∧ said.length = ls.length ∧ GoodR ls.length said ∧ e = .returned (.tuple #[.slice (some ⟨g, 0, none⟩) ls.length ls.length, .bool true]) ∧ SaidAt w' g w.heap.size said cur ∧ Below w.heap.size w w') := by
  obtain ⟨o, c, rfl, hc, g⟩ := hv
  obtain ⟨R, hR⟩ : ∃ R, saidD ls = R := ⟨_, rfl⟩
  rw [hR]
  have HR : Hid (saidFrom ls 0 (ls.drop 0) (List.replicate ls.length []) = R) := hR
  have G := hid g
  have HS := hid hs
  have hmk := make_lists ls.length (by omega)
  have HB0 : Hid (Below w.heap.size w (w.alloc (.cells (madeCells #[.slice none 0 0] ls.length) 23))) := (Below.refl _ w).alloc (Nat.le_refl _) _
  have HSd := hid (said_made w ls.length w.heap.size (Nat.le_refl _))
  have HGd : Hid (GoodR 0 (List.replicate ls.length [])) := fun row hr => by
    rw [List.eq_of_mem_replicate hr]
    exact ⟨List.Pairwise.nil, fun x hx => by cases hx⟩
  clear hR g hs
  go_enter Try.func38, Try.ntmps38
  go_upto_region 2 with fail
  clear hmk
  generalize w.alloc (.cells (madeCells #[.slice none 0 0] ls.length) 23) = W0 at *
  go_wp2
  go_loopw [15] (fun t wr => ∃ (k : Nat) (said : List (List Int)) (cur : Array Value), k ≤ ls.length ∧ t = .int .i64 k ∧ Hid (Below w.heap.size w wr) ∧ Hid (SaidAt wr w.heap.size w.heap.size said cur) ∧ said.length = ls.length ∧ Hid (GoodR k said) ∧ Hid (saidFrom ls k (ls.drop k) said = R)) (fun t _ => ls.length - (RowKit.intOf t).toNat)
  case atStart => exact ⟨0, _, _, Nat.zero_le _, rfl, HB0, HSd, by simp, HGd, HR⟩
  case round =>
    obtain ⟨k, said, cur, hk, rfl, hB, hSd, hlen, hGd, hK⟩ := hrel
    clear HB0 HSd HGd HR
    by_cases hlt : k < ls.length
    · obtain ⟨b, off, rfl, hb0, ha⟩ := G.out (by omega)
      obtain ⟨sv, dv, hx, hsv, hdv⟩ := ha k hlt
      obtain ⟨x0, x1, x2, x3, x4⟩ := hx.later hb0 hB.out
      have hsl := (HS.out ls[k] (List.getElem_mem hlt)).1
      obtain ⟨os, cs, rfl, hcs, gs⟩ := hsv
      obtain ⟨od, cd, rfl, _, _⟩ := hdv
      have hk' := hK.out
      rw [List.drop_eq_getElem_cons hlt, saidFrom] at hk'
      have Hk := hid hk'
      have Ha := hid ha
      have Gs := hid gs
      have q1 : (0 : Int) ≤ (k : Int) := by omega
      have q2 : (k : Int) < (ls.length : Int) := by omega
      clear hK hk' ha gs hx G HS
      generalize ls[k] = x at *
      obtain ⟨xa, xr, xd, xs, xt⟩ := x
      dsimp only at *
      have hba : Below wr.heap.size wr (wr.alloc (.cells #[.bool xa, .int .i64 xr, .bool xd, .slice os xs.length cs, .slice od xt.length cd] 42)) := (Below.refl _ wr).alloc (Nat.le_refl _) _
      have hbx := heap_new wr (.cells #[.bool xa, .int .i64 xr, .bool xd, .slice os xs.length cs, .slice od xt.length cd] 42)
      have HBa := hid (hB.out.trans (hba.mono hB.out.size))
      have HSa := hid (hSd.out.later hba)
      have HBx := hid hbx
      clear hba hbx hB hSd
      cases xd with
      | false =>
        have Hn : Hid (saidFrom ls (k + 1) (ls.drop (k + 1)) said = R) := by
          have h := Hk.out
          rw [if_neg Bool.false_ne_true] at h
          exact h
        clear Hk Ha Gs HBx
        go_wp2
        go_roundw
        case rel => exact ⟨k + 1, said, cur, by omega, by go_num, HBa, HSa, hlen, hGd.out.mono (by omega), Hn⟩
        case measure => simp [RowKit.intOf]; omega
      | true =>
        obtain ⟨T, hT⟩ : ∃ T, tieD ls k xa xs said = T := ⟨_, rfl⟩
        have Hn : Hid (T.bind (fun said1 => saidFrom ls (k + 1) (ls.drop (k + 1)) said1) = R) := by
          have h := Hk.out
          rw [if_pos rfl, hT] at h
          exact h
        have HT : Hid (tieD ls k xa (xs.drop 0) said = T) := hT
        have HGk : Hid (GoodR (k + 1) said) := hGd.out.mono (by omega)
        clear Hk hT hGd
        go_upto_region 6 with fail
        generalize hWa : wr.alloc (.cells #[.bool xa, .int .i64 xr, .bool true, .slice os xs.length cs, .slice od xt.length cd] 42) = Wa at *
        generalize hBb : wr.heap.size = Bb at *
        clear hWa hBb x0 x1 x2 x3 x4
        have hg0 : Bb ≠ w.heap.size := fun e => by
          have h1 := HBx.out
          rw [e, HSa.out.blk] at h1
          have h1 := Option.some.inj h1
          injection h1 with _ h2
          exact absurd h2 (by decide)
        obtain ⟨y0, y1, y2, y3, y4⟩ := sig_cells (x := ⟨xa, xr, true, xs, xt⟩) HBx.out
        dsimp only at y0 y1 y2 y3 y4
        go_wp2
        go_loopw [26] (fun t wq => ∃ (j : Nat) (sd : List (List Int)) (cu : Array Value), j ≤ xs.length ∧ t = .int .i64 j ∧ Hid (Below w.heap.size w wq) ∧ Hid (SaidAt wq w.heap.size w.heap.size sd cu) ∧ sd.length = ls.length ∧ Hid (GoodR (k + 1) sd) ∧ Hid (tieD ls k xa (xs.drop j) sd = T) ∧ Hid (wq.heap[Bb]? = some (.cells #[.bool xa, .int .i64 xr, .bool true, .slice os xs.length cs, .slice od xt.length cd] 42))) (fun t _ => xs.length - (RowKit.intOf t).toNat)
        case atStart => exact ⟨0, said, cur, Nat.zero_le _, rfl, HBa, HSa, hlen, HGk, HT, HBx⟩
        case round =>
          obtain ⟨j, sd, cu, hj, rfl, hB2, hSd2, hlen2, hGd2, hT2, hBx⟩ := hrel
          clear HBa HSa hlen HGk HT HBx y0 y1 y2 y3 y4
          by_cases hjl : j < xs.length
          · obtain ⟨bs, offs, rfl, hbs, has⟩ := Gs.out (by omega)
            have z0 := (hB2.out.cell (p := ⟨bs, offs + j, none⟩) hbs).trans (has j hjl)
            have r1 : (0 : Int) ≤ (j : Int) := by omega
            have r2 : (j : Int) < (xs.length : Int) := by omega
            have ht := hT2.out
            rw [List.drop_eq_getElem_cons hjl, tieD] at ht
            clear has Gs hT2
            generalize xs[j] = h at *
            have HTh : Hid (∀ (V : World) (D : Nat), V.heap[D]? = some (.cells #[.int .i64 h] 3) → Calls Try.prog 23 #[.slice (some ⟨b, off, none⟩) ls.length c, .slice (some ⟨D, 0, none⟩) 1 1] V fun e w' => e = .returned (.bool (!outD ls.length h)) ∧ Below V.heap.size V w') := fun V D hD => by
              have := there_any (some ⟨b, off, none⟩) ls.length c _ [h] V (one_rdI hD) (by simp)
              simpa using this
            have hbq : Below wr.heap.size wr (wr.alloc (.cells #[.int .i64 h] 3)) := (Below.refl _ wr).alloc (Nat.le_refl _) _
            cases ho : outD ls.length h with
            | true =>
              rw [ho] at ht HTh
              rw [if_pos rfl] at ht
              subst ht
              have hRn : none = R := Hn.out
              subst hRn
              have Hq := hid hbq
              clear hbq Hn Ha
              go_wp2_with (go_at_call 23; refine (HTh.out _ _ (heap_new _ _)).mono ?_; rintro e w5 ⟨rfl, hb⟩; have HB5 := hid (hB2.out.trans ((Hq.out.trans (hb.mono Hq.out.size)).mono hB2.out.size)); clear hb)
              go_ret2
              exact ⟨rfl, HB5.out⟩
            | false =>
              obtain ⟨m, rfl, hm⟩ := out_no ho
              have hm2 : m < sd.length := by omega
              rw [ho] at ht HTh
              rw [if_neg Bool.false_ne_true, show ((m : Int) + 1).toNat - 1 = m by omega, ab_at hm, row_at hm2] at ht
              obtain ⟨_, _, ⟨a0, _, _, _, _⟩, _, _⟩ := Ha.out m hm
              have s1 : (0 : Int) ≤ (m : Int) := by omega
              have s2 : (m : Int) < (ls.length : Int) := by omega
              have Ht := hid ht
              have Ha0 := hid a0
              have Hq := hid hbq
              clear ht a0 hbq Ha ho
              generalize ls[m].ab = am at *
              cases hcz : (am && !xa) with
              | true =>
                have hTn : none = T := by
                  have h := Ht.out
                  rw [hcz, if_pos rfl] at h
                  exact h
                subst hTn
                have hRn : none = R := Hn.out
                subst hRn
                have : am = true ∧ xa = false := by cases am <;> cases xa <;> first | exact ⟨rfl, rfl⟩ | exact absurd hcz (by decide)
                obtain ⟨rfl, rfl⟩ := this
                clear Ht Hn hcz
                go_wp2_with (go_at_call 23; refine (HTh.out _ _ (heap_new _ _)).mono ?_; rintro e w5 ⟨rfl, hb⟩; have hbt := Hq.out.trans (hb.mono Hq.out.size); have HB5 := hid (hB2.out.trans (hbt.mono hB2.out.size)); have a0 := (HB5.out.cell (p := ⟨b, off + m * 5, none⟩) hb0).trans Ha0.out; obtain ⟨y0, y1, y2, y3, y4⟩ := sig_cells (x := ⟨false, xr, true, xs, xt⟩) (blkLater hbt hBx.out); dsimp only at y0 y1 y2 y3 y4; clear hb hbt)
                go_ret2
                exact ⟨rfl, HB5.out⟩
              | false =>
                have ht2 := Ht.out
                rw [hcz, if_neg Bool.false_ne_true] at ht2
                have Ht1 := hid ht2
                have hcs2 : (am = false) ∨ (am = true ∧ xa = true) := by cases am <;> cases xa <;> first | exact .inl rfl | exact .inr ⟨rfl, rfl⟩ | exact absurd hcz (by decide)
                clear ht2 Ht hcz
                have hGd5 := hGd2
                clear hGd2
                rcases hcs2 with rfl | ⟨rfl, rfl⟩
                all_goals
                  go_upto_region 11 with (go_at_call 23; refine (HTh.out _ _ (heap_new _ _)).mono ?_; rintro e w5 ⟨rfl, hb⟩; have hbt := Hq.out.trans (hb.mono Hq.out.size); have HB5 := hid (hB2.out.trans (hbt.mono hB2.out.size)); have a0 := (HB5.out.cell (p := ⟨b, off + m * 5, none⟩) hb0).trans Ha0.out; have HS5 := hid (hSd2.out.later hbt); have HBx5 := hid (blkLater hbt hBx.out); obtain ⟨y0, y1, y2, y3, y4⟩ := sig_cells (x := ⟨_, xr, true, xs, xt⟩) HBx5.out; dsimp only at y0 y1 y2 y3 y4; clear hb hbt)
                  clear HTh Hq hB2 hSd2 hBx a0 y0 y1 y2 y3 y4 Ha0 z0
                  obtain ⟨ro, rc, hrc, hrcur, hrrd⟩ := HS5.out.cell m hm2
                  have s3 : (m : Int) < (ls.length : Int) := by omega
                  obtain ⟨ro', rc', he, hrcap, hrg⟩ := hrrd
                  injection he with he1 he2 he3
                  subst he1
                  subst he3
                  clear he2
                  by_cases hz : sd[m].length = 0
                  · have hla : lastIs sd[m] ((k : Int) + 1) = false := by unfold lastIs; rw [hz]; rfl
                    have Ht2 := Ht1.out
                    rw [hla, if_neg Bool.false_ne_true] at Ht2
                    have Ht2 := hid Ht2
                    clear hrg Ht1
                    have hgm := hGd5.out.short (List.getElem_mem hm2)
                    obtain ⟨o2, c2, V2, hap, hcv, hfz, hS6, hB6, hfr⟩ := said_put HS5.out m hm2 ((k : Int) + 1) (by omega) ro rc hrcur
                    have HS6 := hid hS6
                    have HB6 := hid (HB5.out.trans (hB6.mono (Nat.le_refl _)))
                    have HBx6 := hid (hfr Bb _ _ (by decide) hg0 HBx5.out)
                    have HG6 := hid (good_put hGd5.out hm2 hla)
                    obtain ⟨cv, hcv⟩ := hcv
                    generalize hLN : (sd[m] ++ [(k : Int) + 1]).length = LN at *
                    clear hLN
                    rw [hz] at hap hrc
                    have HAp := hid hap
                    have Hz := hid hz
                    clear hz hap hS6 hB6 hfr
                    go_wp2_with (at_builtin; refine wpList_append_run _ rfl _ _ 23 23 rfl _ _ rfl rfl _ _ HAp.out ?_)
                    go_roundw
                    case rel => exact ⟨j + 1, _, _, by omega, by go_num, HB6, HS6, by simp; exact hlen2, HG6, Ht2, HBx6⟩
                    case measure => simp [RowKit.intOf]; omega
                  · obtain ⟨q, hq⟩ : ∃ q, sd[m].length = q + 1 := ⟨sd[m].length - 1, by omega⟩
                    obtain ⟨rb, roff, rfl, hrlt, hra⟩ := hrg (by omega)
                    have c0 := hra q (by omega)
                    have hlq : lastIs sd[m] ((k : Int) + 1) = (sd[m][q]'(by omega) == (k : Int) + 1) := by
                      unfold lastIs
                      rw [decide_eq_true (by omega), Bool.true_and, List.getD_eq_getElem?_getD, List.getElem?_eq_getElem (by omega)]
                      congr 1
                      simp only [hq, Nat.add_sub_cancel, Option.getD_some]
                    generalize sd[m][q]'(by omega) = z at c0 hlq
                    rw [hq] at hrc
                    have q3 : (0 : Int) ≤ (q : Int) := by omega
                    have q4 : (q : Int) < ((q + 1 : Nat) : Int) := by omega
                    have q5 : (q : Int) ≤ 1024 := by have := hGd5.out.short (List.getElem_mem hm2); omega
                    have d1 : decide (((q + 1 : Nat) : Int) > 0) = true := decide_eq_true (by omega)
                    have d2 : decide ((q : Int) + 1 > 0) = true := decide_eq_true (by omega)
                    clear hrg hra hz
                    cases hze : (z == (k : Int) + 1) with
                    | true =>
                      have hTn : none = T := by
                        have h := Ht1.out
                        rw [hlq, hze, if_pos rfl] at h
                        exact h
                      subst hTn
                      have hRn : none = R := Hn.out
                      subst hRn
                      clear Ht1 Hn hq hlq
                      go_wp2
                      go_ret2
                      exact ⟨rfl, HB5.out⟩
                    | false =>
                      have hla : lastIs sd[m] ((k : Int) + 1) = false := hlq.trans hze
                      have Ht2 := Ht1.out
                      rw [hla, if_neg Bool.false_ne_true] at Ht2
                      have Ht2 := hid Ht2
                      clear Ht1 hlq
                      have hgm := hGd5.out.short (List.getElem_mem hm2)
                      obtain ⟨o2, c2, V2, hap, hcv, hfz, hS6, hB6, hfr⟩ := said_put HS5.out m hm2 ((k : Int) + 1) (by omega) (some ⟨rb, roff, none⟩) rc hrcur
                      have HS6 := hid hS6
                      have HB6 := hid (HB5.out.trans (hB6.mono (Nat.le_refl _)))
                      have HBx6 := hid (hfr Bb _ _ (by decide) hg0 HBx5.out)
                      have HG6 := hid (good_put hGd5.out hm2 hla)
                      obtain ⟨cv, hcv⟩ := hcv
                      generalize hLN : (sd[m] ++ [(k : Int) + 1]).length = LN at *
                      clear hLN
                      rw [hq] at hap
                      have HAp := hid hap
                      have Hqq := hid hq
                      clear hq hap hS6 hB6 hfr
                      go_wp2_with (at_builtin; refine wpList_append_run _ rfl _ _ 23 23 rfl _ _ rfl rfl _ _ HAp.out ?_)
                      go_roundw
                      case rel => exact ⟨j + 1, _, _, by omega, by go_num, HB6, HS6, by simp; exact hlen2, HG6, Ht2, HBx6⟩
                      case measure => simp [RowKit.intOf]; omega
          · have hTs : T = some sd := by
              rw [← hT2.out, List.drop_eq_nil_of_le (by omega)]
              rfl
            subst hTs
            have Hn2 : Hid (saidFrom ls (k + 1) (ls.drop (k + 1)) sd = R) := Hn
            clear Hn hT2 Gs Ha
            go_wp2
            go_roundw
            case rel => exact ⟨k + 1, sd, cu, by omega, by go_num, hB2, hSd2, hlen2, hGd2, Hn2⟩
            case measure => simp [RowKit.intOf]; omega
    · have hRk : R = some said := by
        rw [← hK.out, List.drop_eq_nil_of_le (by omega)]
        rfl
      subst hRk
      have hkl : k = ls.length := by omega
      clear hK G HS
      go_wp2
      go_ret2
      exact .inr ⟨said, w.heap.size, cur, rfl, hlen, hkl ▸ hGd.out, rfl, hSd.out, hB.out⟩
end Go.Proofs.Ytlibjjmaicgemaa
