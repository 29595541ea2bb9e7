/- abort.Abort. -/
import Derived.Test.YtlibjjmaicgemaaAbH
import Derived.Test.YtlibjjmaicgemaaAbJ
namespace Go.Proofs.Ytlibjjmaicgemaa
open Go.RowKit Go.Lib Go.Shelf

/-- A signal, aborted. -/
def hitD (re : Int) (x : SigD) : SigD := { x with ab := true, re := re }
/-- Signals behind aborting some, and which are told. -/
def hitAll (re : Int) : List Int → List SigD → List Int → List SigD × List Int
  | [], ls, told => (ls, told)
  | h :: r, ls, told =>
    if ((ls[h.toNat - 1]?.map SigD.ab).getD true) = true then hitAll re r ls told
    else hitAll re r (ls.modify (h.toNat - 1) (hitD re)) (told ++ [h])
def reasonD (re : Int) : Int := if (re == 0) = true then 21 else re
theorem hit_len (re : Int) : ∀ (hs : List Int) (ls : List SigD) (told : List Int), (hitAll re hs ls told).1.length = ls.length
  | [], _, _ => rfl
  | h :: r, ls, told => by
    rw [hitAll]
    split
    · exact hit_len re r ls told
    · rw [hit_len re r]; simp
/-- The first two cells of a signal are set. -/
theorem OwnS.hit {W w0 : World} {base g c : Nat} {l : List SigV} {m : Nat} (h : OwnS W w0 base (.slice (some ⟨g, 0, none⟩) l.length c) l l.length) (hm : m < l.length) (re : Int) :
    OwnS ((W.setCell ⟨g, m * 5, none⟩ (.bool true)).setCell ⟨g, m * 5 + 1, none⟩ (.int .i64 re)) w0 base (.slice (some ⟨g, 0, none⟩) l.length c) (l.set m (hitD re l[m].1, l[m].2)) l.length := by
  obtain ⟨g', c', cur, hv, hbg, hh, hnc, hcc⟩ := own_blk h.row (by omega)
  injection hv with e1 e2 e3
  injection e1 with e1
  injection e1 with e1
  subst e1
  clear e2 e3
  have hh1 := set_boxA (k := m * 5) (v := .bool true) hh
  have keep : ∀ {x : Value} {n : Nat} {ys : List Value}, W.ownsRow base 3 1 x n ys → ((W.setCell ⟨g, m * 5, none⟩ (.bool true)).setCell ⟨g, m * 5 + 1, none⟩ (.int .i64 re)).ownsRow base 3 1 x n ys := fun hx => own_set (own_set hx hh (by decide) _) hh1 (by decide) _
  have hr : rowS (l.set m (hitD re l[m].1, l[m].2)) = ((rowS l).set (m * 5) (.bool true)).set (m * 5 + 1) (.int .i64 re) := by
    have h0 := rowS_put (.bool true) 0 (by decide) ({ l[m].1 with ab := true }, l[m].2) l m hm rfl
    rw [Nat.add_zero] at h0
    rw [h0, rowS_put (.int .i64 re) 1 (by decide) (hitD re l[m].1, l[m].2) (l.set m ({ l[m].1 with ab := true }, l[m].2)) m (by simpa using hm) (by rw [List.getElem_set_self]; rfl), List.set_set]
  have hsd : ∀ (j : Nat) (hj : j < (l.set m (hitD re l[m].1, l[m].2)).length) (hj' : j < l.length), (l.set m (hitD re l[m].1, l[m].2))[j].2 = l[j].2 ∧ (l.set m (hitD re l[m].1, l[m].2))[j].1.src = l[j].1.src ∧ (l.set m (hitD re l[m].1, l[m].2))[j].1.dts = l[j].1.dts := fun j hj hj' => by
    by_cases e : m = j
    · subst e
      rw [List.getElem_set_self]
      exact ⟨rfl, rfl, rfl⟩
    · rw [List.getElem_set_ne e]
      exact ⟨rfl, rfl, rfl⟩
  refine ⟨?_, fun j hj hjk => ?_, fun j hj hjk => ?_, fun j j' hj hj' hjk hjk' b b' hne q hq => ?_⟩
  · rw [hr, List.length_set]
    exact own_put (own_put h.row _) _
  · obtain ⟨e1, e2, e3⟩ := hsd j hj hjk
    rw [e1, e2, e3]
    exact ⟨keep (h.own j hjk hjk).1, keep (h.own j hjk hjk).2⟩
  · rw [List.length_set] at hj
    omega
  · have f : ∀ (j : Nat) (hj : j < (l.set m (hitD re l[m].1, l[m].2)).length) (hj' : j < l.length) (b : Bool), side (l.set m (hitD re l[m].1, l[m].2))[j] b = side l[j] b := fun j hj hj' b => by
      have := (hsd j hj hj').1
      cases b
      · exact congrArg Prod.fst this
      · exact congrArg Prod.snd this
    rw [f j hj hjk] at hq
    rw [f j' hj' hjk']
    exact h.apart j j' hjk hjk' hjk hjk' b b' hne q hq
theorem OwnS.base {W w0 w1 : World} {base base' : Nat} {v : Value} {l : List SigV} (h : OwnS W w0 base v l l.length) (hb : base' ≤ base) : OwnS W w1 base' v l l.length :=
  ⟨own_base hb h.row, fun j hj hk => ⟨own_base hb (h.own j hj hk).1, own_base hb (h.own j hj hk).2⟩, fun j hj hk => by omega, h.apart⟩
theorem map_hit (l : List SigV) (m : Nat) (hm : m < l.length) (re : Int) : (l.set m (hitD re l[m].1, l[m].2)).map (·.1) = (l.map (·.1)).modify m (hitD re) := by
  rw [List.map_set]
  refine List.ext_getElem (by simp) (fun j h1 h2 => ?_)
  rw [List.getElem_modify]
  by_cases e : m = j
  · subst e
    rw [List.getElem_set_self, if_pos rfl, List.getElem_map]
  · rw [List.getElem_set_ne e, if_neg e]
set_option maxRecDepth 100000 in
set_option maxHeartbeats 4000000 in
theorem abortS_err (v : Value) (ls : List SigD) (h re : Int) (w : World) (hv : RdS w v ls) (hl : ls.length ≤ 1099511627776) (hs : SmallS ls) (he : (knownE ls h != 0) = true) :
    Calls Try.prog 16 #[v, .int .i64 h, .int .i64 re] w fun e w' => e = .returned (.tuple #[.slice none 0 0, .slice none 0 0, .int .i64 (knownE ls h)]) ∧ Below w.heap.size w w' := by
  have hC := known_any v ls h w hv hl hs
  obtain ⟨o, c, rfl, _, g⟩ := hv
  clear hs g
  generalize knownE ls h = E at *
  go_enter Try.func16, Try.ntmps16
  go_wp2_with (go_at_call 32; refine hC.mono ?_; rintro e w2 ⟨rfl, hb⟩; have HB := hid hb; clear hb)
  refine bodyPost_ret (v := .tuple #[.slice none 0 0, .slice none 0 0, .int .i64 E]) (by simp [results, Try.results16, go_sem]) rfl ?_
  exact ⟨rfl, HB.out⟩
set_option maxRecDepth 100000 in
set_option maxHeartbeats 4000000 in
theorem abortS_dep (v : Value) (ls : List SigD) (m : Nat) (re : Int) (w : World) (hv : RdS w v ls) (hl : ls.length ≤ 1099511627776) (hs : SmallS ls) (hm : m < ls.length) (he : knownE ls ((m : Int) + 1) = 0) (hd : ls[m].dep = true) :
    Calls Try.prog 16 #[v, .int .i64 ((m : Int) + 1), .int .i64 re] w fun e w' => e = .returned (.tuple #[.slice none 0 0, .slice none 0 0, .int .i64 15]) ∧ Below w.heap.size w w' := by
  have hC := known_any v ls ((m : Int) + 1) w hv hl hs
  rw [he] at hC
  obtain ⟨o, c, rfl, _, g⟩ := hv
  obtain ⟨b, off, rfl, hlt, ha⟩ := g (by omega)
  obtain ⟨sv, dv, hcs, ⟨os, cs, rfl, hz1, hz2⟩, ⟨od, cd, rfl, hz3, hz4⟩⟩ := ha m hm
  have q1 : (0 : Int) ≤ (m : Int) := by omega
  have q2 : (m : Int) < (ls.length : Int) := by omega
  have hwi : IntKind.i64.wrap (m : Int) = (m : Int) := wrapA (by omega) (by omega)
  have HCs := hid hcs
  clear hs he g ha hcs hz1 hz2 hz3 hz4
  generalize ls[m] = x at *
  obtain ⟨xa, xr, xd, xs, xt⟩ := x
  dsimp only at *
  subst hd
  generalize xs.length = ns at *
  generalize xt.length = nt at *
  go_enter Try.func16, Try.ntmps16
  go_wp2_with (go_at_call 32; refine hC.mono ?_; rintro e w2 ⟨rfl, hb⟩; have HB := hid hb; obtain ⟨a0, a1, a2, a3, a4⟩ := HCs.out.later hlt hb; dsimp only at a0 a1 a2 a3 a4; have HBa : Hid (Below w2.heap.size w2 (w2.alloc (.cells #[.bool xa, .int .i64 xr, .bool true, .slice os ns cs, .slice od nt cd] 42))) := (Below.refl _ w2).alloc (Nat.le_refl _) _; clear hb)
  refine bodyPost_ret (v := .tuple #[.slice none 0 0, .slice none 0 0, .int .i64 15]) (by simp [results, Try.results16, go_sem]) rfl ?_
  exact ⟨rfl, HB.out.trans (HBa.out.mono HB.out.size)⟩
set_option maxRecDepth 100000 in
set_option maxHeartbeats 4000000 in
theorem abortS_was (v : Value) (ls : List SigD) (m : Nat) (re : Int) (w : World) (hv : RdS w v ls) (hl : ls.length ≤ 1024) (hs : SmallS ls) (hm : m < ls.length) (he : knownE ls ((m : Int) + 1) = 0) (hd : ls[m].dep = false) (hab : ls[m].ab = true) :
    Calls Try.prog 16 #[v, .int .i64 ((m : Int) + 1), .int .i64 re] w fun e w' => ∃ o c l, e = .returned (.tuple #[.slice o ls.length c, .slice none 0 0, .int .i64 0]) ∧ l.map (·.1) = ls ∧ OwnS w' w' w.heap.size (.slice o ls.length c) l l.length ∧ Below w.heap.size w w' := by
  have hC := known_any v ls ((m : Int) + 1) w hv (by omega) hs
  rw [he] at hC
  have HCp : Hid (∀ V : World, Below w.heap.size w V → _) := fun V hV => copied_any v ls V (hv.later hV) hl hs
  obtain ⟨o, c, rfl, _, g⟩ := hv
  obtain ⟨b, off, rfl, hlt, ha⟩ := g (by omega)
  obtain ⟨sv, dv, hcs, ⟨os, cs, rfl, hz1, hz2⟩, ⟨od, cd, rfl, hz3, hz4⟩⟩ := ha m hm
  have q1 : (0 : Int) ≤ (m : Int) := by omega
  have q2 : (m : Int) < (ls.length : Int) := by omega
  have hwi : IntKind.i64.wrap (m : Int) = (m : Int) := wrapA (by omega) (by omega)
  have HCs := hid hcs
  clear hs he g ha hcs hz1 hz2 hz3 hz4
  generalize ls[m] = x at *
  obtain ⟨xa, xr, xd, xs, xt⟩ := x
  dsimp only at *
  subst hd
  subst hab
  generalize xs.length = ns at *
  generalize xt.length = nt at *
  go_enter Try.func16, Try.ntmps16
  go_wp2_with (first
    | (go_at_call 32; refine hC.mono ?_; rintro e w2 ⟨rfl, hb⟩; obtain ⟨a0, a1, a2, a3, a4⟩ := HCs.out.later hlt hb; dsimp only at a0 a1 a2 a3 a4; have hba : Below w2.heap.size w2 (w2.alloc (.cells #[.bool true, .int .i64 xr, .bool false, .slice os ns cs, .slice od nt cd] 42)) := (Below.refl _ w2).alloc (Nat.le_refl _) _; have HBa := hid (hb.trans (hba.mono hb.size)); clear hb hba)
    | (go_at_call 33; refine (HCp.out _ HBa.out).mono ?_; rintro e w3 ⟨o3, c3, l, rfl, hm3, ho3, hb⟩; have HM := hid hm3; have HO := hid ho3; have HB3 := hid (HBa.out.trans (hb.mono HBa.out.size)); clear hm3 ho3 hb))
  refine bodyPost_ret (v := .tuple #[.slice o3 ls.length c3, .slice none 0 0, .int .i64 0]) (by simp [results, Try.results16, go_sem]) rfl ?_
  exact ⟨o3, c3, l, rfl, HM.out, HO.out.base HBa.out.size, HB3.out⟩
end Go.Proofs.Ytlibjjmaicgemaa
