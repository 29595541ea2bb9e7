/- walk: the kid on the way, and the next, either way round. -/
import Derived.Test.YteflknfejjdkfaaFWkP
import Derived.Test.YteflknfejjdkfaaFFork
namespace Go.Proofs.Yteflknfejjdkfaa
open Go.RowKit Go.Lib

theorem RightF.kids_len {ns : List NodeD} (h : RightF ns) (i : Nat) (hi : i < ns.length) : ns[i].kids.length ≤ 4096 := by
  obtain ⟨a, b⟩ := h.kids i hi
  refine Nat.le_trans (pigeon ns.length ns[i].kids b fun x hx => ?_) h.small
  obtain ⟨n, hn, _⟩ := a x hx
  unfold nodeOf at hn
  cases ht : thereB ns.length x with
  | false => rw [ht] at hn; cases hn
  | true =>
    obtain ⟨j, hj, rfl⟩ := there_idx ht
    omega
def revKids (ns : List NodeD) (x : Int) : List Int := (kidsD ns x).reverse
theorem RightF.revHang {ns : List NodeD} (h : RightF ns) : Hangs ns (parentD ns) (revKids ns) where
  ok := h.kidsHang.ok
  ends := h.kidsHang.ends
  down := fun x y hx hy => h.kidsHang.down x y hx (List.mem_reverse.1 hy)
  back := fun y hy h0 => List.mem_reverse.2 (h.kidsHang.back y hy h0)
  once := fun x hx => List.pairwise_reverse.2 ((h.kidsHang.once x hx).imp fun h e => h e.symm)
def sibI (l : List Int) (x d : Int) : Int := if idxI l x 0 + d < 0 ∨ (l.length : Int) ≤ idxI l x 0 + d then 0 else l.getD (idxI l x 0 + d).toNat 0
theorem sibI_at (s1 s2 : List Int) (x : Int) (hx : x ∉ s1) : sibI (s1 ++ x :: s2) x 1 = s2.headD 0 ∧ sibI (s1 ++ x :: s2) x (-1) = s1.reverse.headD 0 := by
  have hi : idxI (s1 ++ x :: s2) x 0 = (s1.length : Int) := by
    rw [idxI_idxW _ x 0 (by simp), List.idxOf_append, if_neg hx, List.idxOf_cons_self]
    simp
  unfold sibI
  rw [hi]
  constructor
  · cases s2 with
    | nil =>
      rw [if_pos (.inr (by simp))]
      rfl
    | cons y t =>
      rw [if_neg (by simp; omega), show ((s1.length : Int) + 1).toNat = s1.length + 1 by omega]
      simp [List.getD]
  · cases hs : s1.reverse with
    | nil =>
      have : s1 = [] := by simpa using hs
      subst this
      rw [if_pos (.inl (by simp))]
      rfl
    | cons y t =>
      have h1 : s1 = t.reverse ++ [y] := by rw [← List.reverse_reverse s1, hs]; simp
      subst h1
      rw [if_neg (by simp; omega), show (((t.reverse ++ [y]).length : Int) + -1).toNat = t.reverse.length by simp; omega]
      simp [List.getD]
theorem sib_dir {ns : List NodeD} (h : RightF ns) {x : Int} (hx : thereB ns.length x = true) :
    (if parentD ns x == 0 then 0 else sibI (kidsD ns (parentD ns x)) x 1) = nextH (parentD ns) (kidsD ns) x ∧ (if parentD ns x == 0 then 0 else sibI (kidsD ns (parentD ns x)) x (-1)) = nextH (parentD ns) (revKids ns) x := by
  by_cases h0 : parentD ns x = 0
  · rw [beq_iff_eq.2 h0, if_pos rfl, if_pos rfl]
    unfold nextH laterH
    rw [beq_iff_eq.2 h0, if_pos rfl, if_pos rfl]
    exact ⟨rfl, rfl⟩
  · rw [beq_eq_false_iff_ne.2 h0, if_neg Bool.false_ne_true, if_neg Bool.false_ne_true]
    have hp := h.kidsHang.up_there hx h0
    have hm := h.kidsHang.back x hx h0
    obtain ⟨s1, s2, hs⟩ := List.append_of_mem hm
    have hn := h.kidsHang.once _ hp
    rw [hs] at hn
    have hx1 : x ∉ s1 := fun hin => (List.nodup_append.1 hn).2.2 x hin x (by simp) rfl
    have l1 := h.kidsHang.later_at hp hs
    have hr : revKids ns (parentD ns x) = s2.reverse ++ x :: s1.reverse := by unfold revKids; rw [hs]; simp
    have l2 := h.revHang.later_at hp hr
    unfold nextH
    rw [l1, l2, hs]
    exact sibI_at s1 s2 x hx1

set_option maxHeartbeats 1000000 in
theorem firstOf_any (v : Value) (l : List Int) (w : World) (hv : RdI w v l) (hl : l.length ≤ 4096) : Calls Try.prog 52 #[v] w fun e w' => e = .returned (.int .i64 (l.headD 0)) ∧ w' = w := by
  obtain ⟨o, c, rfl, hc, g⟩ := hv
  cases l with
  | nil =>
    go_enter Try.func52, Try.ntmps52
    go_wp2
    go_ret
    exact ⟨rfl, rfl⟩
  | cons x t =>
    obtain ⟨b, off, rfl, hlt, ha⟩ := g (by simp)
    have c0 := ha 0 (by simp)
    have e0 : ((((x :: t).length : Nat) : Int) == 0) = false := beq_eq_false_iff_ne.2 (by simp; omega)
    have q2 : (0 : Int) < ((x :: t).length : Nat) := by simp
    clear ha g
    simp only [Nat.add_zero, List.getElem_cons_zero, List.headD_cons] at *
    generalize (x :: t).length = N at *
    go_enter Try.func52, Try.ntmps52
    go_wp2
    go_ret
    exact ⟨rfl, rfl⟩
set_option maxHeartbeats 1000000 in
theorem wlastOf_any (v : Value) (l : List Int) (w : World) (hv : RdI w v l) (hl : l.length ≤ 4096) : Calls Try.prog 53 #[v] w fun e w' => e = .returned (.int .i64 (l.reverse.headD 0)) ∧ w' = w := by
  obtain ⟨o, c, rfl, hc, g⟩ := hv
  cases hr : l.reverse with
  | nil =>
    have h0 : l = [] := by simpa using hr
    subst h0
    go_enter Try.func53, Try.ntmps53
    go_wp2
    go_ret
    exact ⟨rfl, rfl⟩
  | cons y t =>
    have h1 : l = t.reverse ++ [y] := by rw [← List.reverse_reverse l, hr]; simp
    have hlen : l.length = t.length + 1 := by rw [h1]; simp
    obtain ⟨b, off, rfl, hlt, ha⟩ := g (by omega)
    have c0 := ha t.length (by omega)
    have hy : l[t.length]'(by omega) = y := by subst h1; simp
    rw [hy] at c0
    clear ha g hr hy
    rw [hlen]
    rw [hlen] at hl hc
    clear h1 hlen
    generalize t.length = N at *
    have e0 : (((N + 1 : Nat) : Int) == 0) = false := beq_eq_false_iff_ne.2 (by omega)
    have q1 : (0 : Int) ≤ (N : Int) := by omega
    have q2 : (N : Int) < ((N + 1 : Nat) : Int) := by omega
    simp only [List.headD_cons]
    go_enter Try.func53, Try.ntmps53
    go_wp2
    go_ret
    exact ⟨rfl, rfl⟩

set_option maxRecDepth 100000 in
set_option maxHeartbeats 4000000 in
theorem sibling_any (b off cap : Nat) (x d : Int) (ns : List NodeD) (w W : World) (hR : RightF ns) (hF : FAt w b off cap ns) (hW : Below w.heap.size w W) (hx : thereB ns.length x = true) (hd : d = 1 ∨ d = -1) :
    Calls Try.prog 56 #[.agg #[.slice (some ⟨b, off, none⟩) ns.length cap], .int .i64 x, .int .i64 d] W fun e w' => e = .returned (.int .i64 (if parentD ns x == 0 then 0 else sibI (kidsD ns (parentD ns x)) x d)) ∧ Below W.heap.size W w' := by
  obtain ⟨j, hj, rfl⟩ := there_idx hx
  have hF2 := hF.later hW
  have hlt := hF2.lt
  have hle := hF.len
  have hB1 : Below W.heap.size W (W.alloc (.cells #[.slice (some ⟨b, off, none⟩) ns.length cap] 24)) := (Below.refl _ W).alloc (Nat.le_refl _) _
  obtain ⟨L, hc, _, _, _⟩ := hF2.at_ j hj
  have cp := (hc.later hlt hB1).parent
  have q1 : (0 : Int) ≤ (j : Int) := by omega
  have q2 : (j : Int) < (ns.length : Int) := by omega
  rw [parentD_at ns j hj]
  rcases hR.hang j hj with h0 | ⟨p, hp, hpe, hin⟩
  · rw [h0] at cp ⊢
    clear hc hF hF2 hW hR
    go_enter Try.func56, Try.ntmps56
    go_wp2
    go_ret
    exact ⟨rfl, hB1⟩
  · rw [hpe] at cp ⊢
    have hkd : kidsD ns ((p : Int) + 1) = ns[p].kids := by unfold kidsD; rw [nodeOf_at ns p hp]
    rw [hkd]
    have hkl := hR.kids_len p hp
    obtain ⟨L2, hc2, _, _, hk2⟩ := hF2.at_ p hp
    have ck := (hc2.later hlt hB1).kids
    have hk3 := hk2.later hB1
    obtain ⟨m, hm, hg, hi⟩ := idxI_of ns[p].kids ((j : Int) + 1) 0 hin
    rw [Nat.zero_add] at hi
    have p1 : (0 : Int) ≤ (p : Int) := by omega
    have p2 : (p : Int) < (ns.length : Int) := by omega
    have p3 : (((p : Int) + 1) == 0) = false := beq_eq_false_iff_ne.2 (by omega)
    rw [p3, if_neg Bool.false_ne_true]
    have HI := hid (index_any L2.kids ns[p].kids ((j : Int) + 1) (W.alloc (.cells #[.slice (some ⟨b, off, none⟩) ns.length cap] 24)) hk3 (by omega))
    rw [hi] at HI
    unfold sibI
    rw [hi]
    obtain ⟨D, A, K⟩ := L2
    simp only at *
    obtain ⟨ok, ck2, rfl, hcap, g⟩ := hk3
    clear hc hc2 hk2 hF hF2 hW hR hin hg hi hkd hpe
    generalize ns[p].kids = ks at *
    by_cases hout : (m : Int) + d < 0 ∨ (ks.length : Int) ≤ (m : Int) + d
    · rw [if_pos hout]
      clear g
      rcases hout with ho | ho
      · have d1 : decide ((m : Int) + d < 0) = true := decide_eq_true ho
        go_enter Try.func56, Try.ntmps56
        go_wp2_with (go_at_call 75; refine HI.out.mono ?_; rintro e v1 ⟨rfl, e1⟩; have e1 := e1.symm; subst e1)
        go_ret
        exact ⟨rfl, hB1⟩
      · have d1 : decide ((m : Int) + d < 0) = false := decide_eq_false (by omega)
        have d2 : decide ((ks.length : Int) ≤ (m : Int) + d) = true := decide_eq_true ho
        go_enter Try.func56, Try.ntmps56
        go_wp2_with (go_at_call 75; refine HI.out.mono ?_; rintro e v1 ⟨rfl, e1⟩; have e1 := e1.symm; subst e1)
        go_ret
        exact ⟨rfl, hB1⟩
    · rw [if_neg hout]
      obtain ⟨a, ha, hal⟩ : ∃ a : Nat, (m : Int) + d = (a : Int) ∧ a < ks.length := ⟨((m : Int) + d).toNat, by omega, by omega⟩
      obtain ⟨kb, koff, rfl, klt, kc⟩ := g (by omega)
      have ca := kc a hal
      rw [ha, Int.toNat_natCast, List.getD_eq_getElem?_getD, List.getElem?_eq_getElem hal, Option.getD_some]
      have d1 : decide ((m : Int) + d < 0) = false := decide_eq_false (by omega)
      have d2 : decide ((ks.length : Int) ≤ (m : Int) + d) = false := decide_eq_false (by omega)
      have a1 : (0 : Int) ≤ (a : Int) := by omega
      have a2 : (a : Int) < (ks.length : Int) := by omega
      have Ha := hid ha
      generalize ks[a] = y at *
      clear kc g hout
      obtain ⟨z, hz⟩ : ∃ z, (m : Int) + d = z := ⟨_, rfl⟩
      go_enter Try.func56, Try.ntmps56
      go_wp2_with (go_at_call 75; refine HI.out.mono ?_; rintro e v1 ⟨rfl, e1⟩; have e1 := e1.symm; subst e1)
      go_ret
      exact ⟨rfl, hB1⟩
end Go.Proofs.Yteflknfejjdkfaa
