/- walk: a tour as it lies; its closures, and its small methods. -/
/- walk: the ways. -/
/- walk: along and back. -/
/- walk: back. -/
import Derived.Test.YteflknfejjdkfabGreatCFWkPFWkS
namespace Go.Proofs.YteflknfejjdkfabGreat
open Go.RowKit Go.Lib

def hangD (ns : List NodeD) (rev : Bool) : Int → List Int := if rev then revKids ns else kidsD ns
/-- What a filter says of a node of a forest. -/
def verdictOf (ns : List NodeD) (sh : Nat) (rules : List RuleD) (x : Int) : Nat := match nodeOf ns x with
  | some n => verdictD sh rules n.kind n.loc
  | none => 0
theorem verdictOf_at (ns : List NodeD) (sh : Nat) (rules : List RuleD) (j : Nat) (hj : j < ns.length) : verdictOf ns sh rules ((j : Int) + 1) = verdictD sh rules ns[j].kind ns[j].loc := by unfold verdictOf; rw [nodeOf_at ns j hj]
def tourD (ns : List NodeD) (root : Int) (sh : Nat) (rules : List RuleD) (rev : Bool) : TourD := ⟨ns, root, parentD ns, hangD ns rev, fun x => verdictOf ns sh rules x == 1, fun x => verdictOf ns sh rules x == 2⟩
theorem tourD_ok {ns : List NodeD} (h : RightF ns) {root : Int} (hr : thereB ns.length root = true) (sh : Nat) (rules : List RuleD) (rev : Bool) : (tourD ns root sh rules rev).OK := ⟨by
  cases rev with
  | true => exact h.revHang
  | false => exact h.kidsHang, hr⟩
/-- What tourOf makes, as it lies. -/
structure TourC (w : World) (b off cap : Nat) (ns : List NodeD) (root : Int) (sh : Nat) (ro : Option Addr) (rc : Nat) (rules : List RuleD) (rev : Bool) (bk bf bd : Nat) : Prop where
  right : RightF ns
  forest : FAt w b off cap ns
  there : thereB ns.length root = true
  small : sh < 4294967296
  few : rules.length ≤ 64
  lies : RdR w (.slice ro rules.length rc) rules
  kid : w.cell? ⟨bk, 0, none⟩ = some (.func (.func (if rev then 45 else 44)) #[] #[])
  box : w.cell? ⟨bf, 0, none⟩ = some (.slice (some ⟨b, off, none⟩) ns.length cap)
  dir : w.cell? ⟨bd, 0, none⟩ = some (.int .i64 (if rev then -1 else 1))
  lk : bk < w.heap.size
  lf : bf < w.heap.size
  ld : bd < w.heap.size
theorem TourC.ok {w : World} {b off cap : Nat} {ns : List NodeD} {root : Int} {sh : Nat} {ro : Option Addr} {rc : Nat} {rules : List RuleD} {rev : Bool} {bk bf bd : Nat} (TC : TourC w b off cap ns root sh ro rc rules rev bk bf bd) : (tourD ns root sh rules rev).OK := tourD_ok TC.right TC.there sh rules rev
theorem box6 {W V : World} {t : TypeId} {c0 c1 c2 c3 c4 c5 : Value} (h : Below (W.heap.size + 1) (W.alloc (.cells #[c0, c1, c2, c3, c4, c5] t)) V) : V.cell? ⟨W.heap.size, 0, none⟩ = some c0 ∧ V.cell? ⟨W.heap.size, 1, none⟩ = some c1 ∧ V.cell? ⟨W.heap.size, 2, none⟩ = some c2 ∧ V.cell? ⟨W.heap.size, 3, none⟩ = some c3 ∧ V.cell? ⟨W.heap.size, 4, none⟩ = some c4 ∧ V.cell? ⟨W.heap.size, 5, none⟩ = some c5 :=
  ⟨(h.cell (p := ⟨W.heap.size, 0, none⟩) (by simp)).trans (by simp), (h.cell (p := ⟨W.heap.size, 1, none⟩) (by simp)).trans (by simp), (h.cell (p := ⟨W.heap.size, 2, none⟩) (by simp)).trans (by simp), (h.cell (p := ⟨W.heap.size, 3, none⟩) (by simp)).trans (by simp), (h.cell (p := ⟨W.heap.size, 4, none⟩) (by simp)).trans (by simp), (h.cell (p := ⟨W.heap.size, 5, none⟩) (by simp)).trans (by simp)⟩

set_option maxRecDepth 100000 in
set_option maxHeartbeats 4000000 in
theorem tkid_any {w : World} {b off cap : Nat} {ns : List NodeD} {root : Int} {sh : Nat} {ro : Option Addr} {rc : Nat} {rules : List RuleD} {rev : Bool} {bk bf bd : Nat} (TC : TourC w b off cap ns root sh ro rc rules rev bk bf bd) (x : Int) (hx : thereB ns.length x = true) (W : World) (hW : Below w.heap.size w W) :
    Calls Tryz.prog 46 #[.int .i64 x, .pointer (some ⟨bk, 0, none⟩), .pointer (some ⟨bf, 0, none⟩)] W fun r w' => r = .returned (.int .i64 ((tourD ns root sh rules rev).kid x)) ∧ Below W.heap.size W w' := by
  obtain ⟨j, hj, rfl⟩ := there_idx hx
  have hF2 := TC.forest.later hW
  have hle := hF2.len
  have q1 : (0 : Int) ≤ (j : Int) := by omega
  have q2 : (j : Int) < (ns.length : Int) := by omega
  have hwr : IntKind.i64.wrap (j : Int) = (j : Int) := by simp [IntKind.wrap, IntKind.bits, IntKind.signed]; omega
  have hin : 0 ≤ (j : Int) ∧ (j : Int) < (ns.length : Int) := by omega
  have c1 := (hW.cell (p := ⟨bk, 0, none⟩) TC.lk).trans TC.kid
  have c2 := (hW.cell (p := ⟨bf, 0, none⟩) TC.lf).trans TC.box
  obtain ⟨L, hc, _, _, hk⟩ := hF2.at_ j hj
  have c3 := hc.kids
  have hkd : kidsD ns ((j : Int) + 1) = ns[j].kids := by unfold kidsD; rw [nodeOf_at ns j hj]
  have hkl := TC.right.kids_len j hj
  obtain ⟨D, A, K⟩ := L
  simp only at c3 hk
  have Hk := hid hk
  obtain ⟨ok, ck, rfl, _, _⟩ := hk
  have hlt := hF2.lt
  cases rev with
  | false =>
    have hr : (tourD ns root sh rules false).kid ((j : Int) + 1) = ns[j].kids.headD 0 := by rw [← hkd]; rfl
    rw [hr]
    simp only [Bool.false_eq_true, if_false] at c1
    have eg : ∀ args w, (callFunc 44 args).run Tryz.prog w = .ok (.enter 44 args) w := enters_of Tryz.func44 (by kernel_rfl) rfl
    have HC : Hid (∀ V : World, Below W.heap.size W V → _) := fun V hV => firstOf_any _ _ V (Hk.out.later hV) hkl
    clear hc hF2 TC hkd hW Hk hr
    generalize ns[j].kids = ks at *
    go_enter Tryz.func46, Tryz.ntmps46
    go_upto_region 1 with fail
    go_region_law (first
      | (refine wstep_callV _ rfl (.tmp 5) (.tmp 12) 40 44 rfl (.slice ok ks.length ck) (by simp [Act.eval]) (by simp [Act.eval]) (eg _ _) _ (HC.out _ (Below.refl _ _).drew) ?_; rintro e v1 ⟨rfl, e1⟩; have e1 := e1.symm; subst e1; refine ⟨_, rfl, ?_⟩)
      | (refine wstep_callV _ rfl (.tmp 5) (.tmp 12) 40 44 rfl (.slice ok ks.length ck) (by simp [Act.eval]) (by simp [Act.eval]) (eg _ _) _ (HC.out _ (Below.refl _ _)) ?_; rintro e v1 ⟨rfl, e1⟩; have e1 := e1.symm; subst e1; refine ⟨_, rfl, ?_⟩))
    all_goals
      go_wp2
      go_ret
      exact ⟨rfl, by first | exact (Below.refl _ _).drew | exact Below.refl _ _⟩
  | true =>
    have hr : (tourD ns root sh rules true).kid ((j : Int) + 1) = ns[j].kids.reverse.headD 0 := by rw [← hkd]; rfl
    rw [hr]
    simp only [if_true] at c1
    have eg : ∀ args w, (callFunc 45 args).run Tryz.prog w = .ok (.enter 45 args) w := enters_of Tryz.func45 (by kernel_rfl) rfl
    have HC : Hid (∀ V : World, Below W.heap.size W V → _) := fun V hV => wlastOf_any _ _ V (Hk.out.later hV) hkl
    clear hc hF2 TC hkd hW Hk hr
    generalize ns[j].kids = ks at *
    go_enter Tryz.func46, Tryz.ntmps46
    go_upto_region 1 with fail
    go_region_law (first
      | (refine wstep_callV _ rfl (.tmp 5) (.tmp 12) 40 45 rfl (.slice ok ks.length ck) (by simp [Act.eval]) (by simp [Act.eval]) (eg _ _) _ (HC.out _ (Below.refl _ _).drew) ?_; rintro e v1 ⟨rfl, e1⟩; have e1 := e1.symm; subst e1; refine ⟨_, rfl, ?_⟩)
      | (refine wstep_callV _ rfl (.tmp 5) (.tmp 12) 40 45 rfl (.slice ok ks.length ck) (by simp [Act.eval]) (by simp [Act.eval]) (eg _ _) _ (HC.out _ (Below.refl _ _)) ?_; rintro e v1 ⟨rfl, e1⟩; have e1 := e1.symm; subst e1; refine ⟨_, rfl, ?_⟩))
    all_goals
      go_wp2
      go_ret
      exact ⟨rfl, by first | exact (Below.refl _ _).drew | exact Below.refl _ _⟩
set_option maxRecDepth 100000 in
set_option maxHeartbeats 4000000 in
theorem tnext_any {w : World} {b off cap : Nat} {ns : List NodeD} {root : Int} {sh : Nat} {ro : Option Addr} {rc : Nat} {rules : List RuleD} {rev : Bool} {bk bf bd : Nat} (TC : TourC w b off cap ns root sh ro rc rules rev bk bf bd) (x : Int) (hx : thereB ns.length x = true) (W : World) (hW : Below w.heap.size w W) :
    Calls Tryz.prog 47 #[.int .i64 x, .pointer (some ⟨bf, 0, none⟩), .pointer (some ⟨bd, 0, none⟩)] W fun r w' => r = .returned (.int .i64 ((tourD ns root sh rules rev).next x)) ∧ Below W.heap.size W w' := by
  have c1 := (hW.cell (p := ⟨bd, 0, none⟩) TC.ld).trans TC.dir
  have c2 := (hW.cell (p := ⟨bf, 0, none⟩) TC.lf).trans TC.box
  have hd : (if rev then (-1 : Int) else 1) = 1 ∨ (if rev then (-1 : Int) else 1) = -1 := by cases rev <;> simp
  have hC := sibling_any b off cap x (if rev then -1 else 1) ns w W TC.right TC.forest hW hx hd
  have hr : (if parentD ns x == 0 then 0 else sibI (kidsD ns (parentD ns x)) x (if rev then -1 else 1)) = (tourD ns root sh rules rev).next x := by
    cases rev with
    | false => exact (sib_dir TC.right hx).1
    | true => exact (sib_dir TC.right hx).2
  rw [hr] at hC
  clear hr hd TC hW
  generalize (tourD ns root sh rules rev).next x = R at *
  generalize (if rev then (-1 : Int) else 1) = d at *
  go_enter Tryz.func47, Tryz.ntmps47
  go_wp2_with (go_at_call 48; refine hC.mono ?_; rintro e v1 ⟨rfl, hb1⟩)
  go_ret
  exact ⟨rfl, hb1⟩
theorem enterVerdict (vs vx : Value) (w : World) : (callFunc 88 #[vs, vx]).run Tryz.prog w = .ok (.enter 88 #[vs, vx]) w := by kernel_rfl
set_option maxRecDepth 100000 in
set_option maxHeartbeats 4000000 in
theorem tparent_any {w : World} {b off cap : Nat} {ns : List NodeD} {root : Int} {sh : Nat} {ro : Option Addr} {rc : Nat} {rules : List RuleD} {rev : Bool} {bk bf bd : Nat} (TC : TourC w b off cap ns root sh ro rc rules rev bk bf bd) (x : Int) (hx : thereB ns.length x = true) (W : World) (hW : Below w.heap.size w W) :
    Calls Tryz.prog 55 #[.agg #[.slice (some ⟨b, off, none⟩) ns.length cap, .int .i64 root, .int .u32 (sh : Int), .slice ro rules.length rc, .func (.func 46) #[] #[.pointer (some ⟨bk, 0, none⟩), .pointer (some ⟨bf, 0, none⟩)], .func (.func 47) #[] #[.pointer (some ⟨bf, 0, none⟩), .pointer (some ⟨bd, 0, none⟩)]], .int .i64 x] W fun r w' => r = .returned (.int .i64 ((tourD ns root sh rules rev).up x)) ∧ Below W.heap.size W w' := by
  obtain ⟨j, hj, rfl⟩ := there_idx hx
  have hr : (tourD ns root sh rules rev).up ((j : Int) + 1) = ns[j].parent := parentD_at ns j hj
  rw [hr]
  have hF2 := TC.forest.later hW
  have hle := hF2.len
  have q1 : (0 : Int) ≤ (j : Int) := by omega
  have q2 : (j : Int) < (ns.length : Int) := by omega
  have hwr : IntKind.i64.wrap (j : Int) = (j : Int) := by simp [IntKind.wrap, IntKind.bits, IntKind.signed]; omega
  have hin : 0 ≤ (j : Int) ∧ (j : Int) < (ns.length : Int) := by omega
  have hB1 : Below W.heap.size W (W.alloc (.cells #[.slice (some ⟨b, off, none⟩) ns.length cap, .int .i64 root, .int .u32 (sh : Int), .slice ro rules.length rc, .func (.func 46) #[] #[.pointer (some ⟨bk, 0, none⟩), .pointer (some ⟨bf, 0, none⟩)], .func (.func 47) #[] #[.pointer (some ⟨bf, 0, none⟩), .pointer (some ⟨bd, 0, none⟩)]] 74)) := (Below.refl _ W).alloc (Nat.le_refl _) _
  obtain ⟨L, hc, _, _, _⟩ := hF2.at_ j hj
  have c3 := (hc.later hF2.lt hB1).parent
  clear hc hF2 TC hW hr
  generalize ns[j].parent = p at *
  go_enter Tryz.func55, Tryz.ntmps55
  go_wp2
  go_ret
  exact ⟨rfl, hB1⟩
set_option maxRecDepth 100000 in
set_option maxHeartbeats 4000000 in
theorem tsays_any {w : World} {b off cap : Nat} {ns : List NodeD} {root : Int} {sh : Nat} {ro : Option Addr} {rc : Nat} {rules : List RuleD} {rev : Bool} {bk bf bd : Nat} (TC : TourC w b off cap ns root sh ro rc rules rev bk bf bd) (x : Int) (hx : thereB ns.length x = true) (W : World) (hW : Below w.heap.size w W) :
    Calls Tryz.prog 73 #[.agg #[.slice (some ⟨b, off, none⟩) ns.length cap, .int .i64 root, .int .u32 (sh : Int), .slice ro rules.length rc, .func (.func 46) #[] #[.pointer (some ⟨bk, 0, none⟩), .pointer (some ⟨bf, 0, none⟩)], .func (.func 47) #[] #[.pointer (some ⟨bf, 0, none⟩), .pointer (some ⟨bd, 0, none⟩)]], .int .i64 x] W fun r w' => r = .returned (.int .u8 (verdictOf ns sh rules x : Int)) ∧ Below W.heap.size W w' := by
  obtain ⟨j, hj, rfl⟩ := there_idx hx
  rw [verdictOf_at ns sh rules j hj]
  have hF2 := TC.forest.later hW
  have hle := hF2.len
  have q1 : (0 : Int) ≤ (j : Int) := by omega
  have q2 : (j : Int) < (ns.length : Int) := by omega
  have hwr : IntKind.i64.wrap (j : Int) = (j : Int) := by simp [IntKind.wrap, IntKind.bits, IntKind.signed]; omega
  have hin : 0 ≤ (j : Int) ∧ (j : Int) < (ns.length : Int) := by omega
  have hB1 : Below W.heap.size W (W.alloc (.cells #[.slice (some ⟨b, off, none⟩) ns.length cap, .int .i64 root, .int .u32 (sh : Int), .slice ro rules.length rc, .func (.func 46) #[] #[.pointer (some ⟨bk, 0, none⟩), .pointer (some ⟨bf, 0, none⟩)], .func (.func 47) #[] #[.pointer (some ⟨bf, 0, none⟩), .pointer (some ⟨bd, 0, none⟩)]] 74)) := (Below.refl _ W).alloc (Nat.le_refl _) _
  obtain ⟨L, hc, hd, ha, hk⟩ := hF2.at_ j hj
  obtain ⟨c0, c1, c2, c3, c4, c5, c6, c7, c8, c9, c10, c11, c12, c13, c14, c15⟩ := hc.later hF2.lt hB1
  have hkn : knownK ns[j].kind = true := (well_parts (TC.right.well j hj)).1
  obtain ⟨D, A, K⟩ := L
  obtain ⟨od, cd, e1, _⟩ := hd
  obtain ⟨oa, ca, e2, _⟩ := ha
  obtain ⟨ok, ck, e3, _⟩ := hk
  simp only at e1 e2 e3
  subst e1 e2 e3
  have HV : Hid (∀ V : World, Below W.heap.size W V → _) := fun V hV => verdict_any sh ro rc rules ns[j] od oa ok ns[j].data.length cd ns[j].attrs.length ca ns[j].kids.length ck V hkn TC.small ((TC.lies.later hW).later hV) TC.few
  unfold nodeV at HV
  have HB1 := hid hB1
  clear hc hF2 TC hW hB1 hkn
  generalize verdictD sh rules ns[j].kind ns[j].loc = R at *
  generalize ns[j] = n at *
  go_enter Tryz.func73, Tryz.ntmps73
  go_upto_region 1 with fail
  go_region_law (first
    | (refine wstep_call _ rfl (.tmp 6) (.tmp 13) 28 68 88 rfl (.agg #[.int .u32 (sh : Int), .slice ro rules.length rc]) (.agg #[.int .u8 (n.kind : Int), .string n.space, .string n.pre, .string n.loc, .string n.pub, .string n.sys, .slice od n.data.length cd, .slice oa n.attrs.length ca, .int .i64 n.parent, .slice ok n.kids.length ck, .int .i64 n.doc, .int .i64 n.host, .int .i64 n.shadow, .int .u8 (n.mode : Int), .bool n.manual, .bool n.html]) (by simp [Act.eval]) (by simp [Act.eval]) (enterVerdict _ _ _) _ (HV.out _ HB1.out.drew) ?_; rintro e v1 ⟨rfl, hb1⟩; refine ⟨_, rfl, ?_⟩; have HB2 := hid (HB1.out.drew.trans (hb1.mono HB1.out.drew.size)); clear hb1)
    | (refine wstep_call _ rfl (.tmp 6) (.tmp 13) 28 68 88 rfl (.agg #[.int .u32 (sh : Int), .slice ro rules.length rc]) (.agg #[.int .u8 (n.kind : Int), .string n.space, .string n.pre, .string n.loc, .string n.pub, .string n.sys, .slice od n.data.length cd, .slice oa n.attrs.length ca, .int .i64 n.parent, .slice ok n.kids.length ck, .int .i64 n.doc, .int .i64 n.host, .int .i64 n.shadow, .int .u8 (n.mode : Int), .bool n.manual, .bool n.html]) (by simp [Act.eval]) (by simp [Act.eval]) (enterVerdict _ _ _) _ (HV.out _ HB1.out) ?_; rintro e v1 ⟨rfl, hb1⟩; refine ⟨_, rfl, ?_⟩; have HB2 := hid (HB1.out.trans (hb1.mono HB1.out.size)); clear hb1))
  all_goals
    go_wp2
    go_ret
    exact ⟨rfl, HB2.out⟩
set_option maxRecDepth 100000 in
set_option maxHeartbeats 4000000 in
theorem taccepts_any {w : World} {b off cap : Nat} {ns : List NodeD} {root : Int} {sh : Nat} {ro : Option Addr} {rc : Nat} {rules : List RuleD} {rev : Bool} {bk bf bd : Nat} (TC : TourC w b off cap ns root sh ro rc rules rev bk bf bd) (x : Int) (hx : thereB ns.length x = true) (W : World) (hW : Below w.heap.size w W) :
    Calls Tryz.prog 56 #[.agg #[.slice (some ⟨b, off, none⟩) ns.length cap, .int .i64 root, .int .u32 (sh : Int), .slice ro rules.length rc, .func (.func 46) #[] #[.pointer (some ⟨bk, 0, none⟩), .pointer (some ⟨bf, 0, none⟩)], .func (.func 47) #[] #[.pointer (some ⟨bf, 0, none⟩), .pointer (some ⟨bd, 0, none⟩)]], .int .i64 x] W fun r w' => r = .returned (.bool ((tourD ns root sh rules rev).acc x)) ∧ Below W.heap.size W w' := by
  have eg1 : ∀ args w, (callFunc 46 args).run Tryz.prog w = .ok (.enter 46 args) w := enters_of Tryz.func46 (by kernel_rfl) rfl
  have eg2 : ∀ args w, (callFunc 47 args).run Tryz.prog w = .ok (.enter 47 args) w := enters_of Tryz.func47 (by kernel_rfl) rfl
  have HOK := hid TC.ok
  have hs := hW.size
  have hB0 : Below w.heap.size w (W.alloc (.cells #[.slice (some ⟨b, off, none⟩) ns.length cap, .int .i64 root, .int .u32 (sh : Int), .slice ro rules.length rc, .func (.func 46) #[] #[.pointer (some ⟨bk, 0, none⟩), .pointer (some ⟨bf, 0, none⟩)], .func (.func 47) #[] #[.pointer (some ⟨bf, 0, none⟩), .pointer (some ⟨bd, 0, none⟩)]] 74)) := hW.alloc hW.size _
  have HB1 : Hid (Below W.heap.size W (W.alloc (.cells #[.slice (some ⟨b, off, none⟩) ns.length cap, .int .i64 root, .int .u32 (sh : Int), .slice ro rules.length rc, .func (.func 46) #[] #[.pointer (some ⟨bk, 0, none⟩), .pointer (some ⟨bf, 0, none⟩)], .func (.func 47) #[] #[.pointer (some ⟨bf, 0, none⟩), .pointer (some ⟨bd, 0, none⟩)]] 74))) := (Below.refl _ W).alloc (Nat.le_refl _) _
  have HBx : Hid (∀ V : World, Below (W.heap.size + 1) (W.alloc (.cells #[.slice (some ⟨b, off, none⟩) ns.length cap, .int .i64 root, .int .u32 (sh : Int), .slice ro rules.length rc, .func (.func 46) #[] #[.pointer (some ⟨bk, 0, none⟩), .pointer (some ⟨bf, 0, none⟩)], .func (.func 47) #[] #[.pointer (some ⟨bf, 0, none⟩), .pointer (some ⟨bd, 0, none⟩)]] 74)) V → _) := fun V h => box6 h
  have HU : Hid (∀ V : World, Below (W.heap.size + 1) (W.alloc (.cells #[.slice (some ⟨b, off, none⟩) ns.length cap, .int .i64 root, .int .u32 (sh : Int), .slice ro rules.length rc, .func (.func 46) #[] #[.pointer (some ⟨bk, 0, none⟩), .pointer (some ⟨bf, 0, none⟩)], .func (.func 47) #[] #[.pointer (some ⟨bf, 0, none⟩), .pointer (some ⟨bd, 0, none⟩)]] 74)) V → Below w.heap.size w V) := fun V h => hB0.trans (h.mono (by omega))
  have HE : Hid (∀ V : World, Below (W.heap.size + 1) (W.alloc (.cells #[.slice (some ⟨b, off, none⟩) ns.length cap, .int .i64 root, .int .u32 (sh : Int), .slice ro rules.length rc, .func (.func 46) #[] #[.pointer (some ⟨bk, 0, none⟩), .pointer (some ⟨bf, 0, none⟩)], .func (.func 47) #[] #[.pointer (some ⟨bf, 0, none⟩), .pointer (some ⟨bd, 0, none⟩)]] 74)) V → Below W.heap.size W V) := fun V h => HB1.out.trans (h.mono (by omega))
  have HZ : Hid (∀ V : World, Below (W.heap.size + 1) (W.alloc (.cells #[.slice (some ⟨b, off, none⟩) ns.length cap, .int .i64 root, .int .u32 (sh : Int), .slice ro rules.length rc, .func (.func 46) #[] #[.pointer (some ⟨bk, 0, none⟩), .pointer (some ⟨bf, 0, none⟩)], .func (.func 47) #[] #[.pointer (some ⟨bf, 0, none⟩), .pointer (some ⟨bd, 0, none⟩)]] 74)) V → W.heap.size + 1 ≤ V.heap.size) := fun V h => by have := h.size; simp only [World.size_alloc] at this; exact this
  clear hB0 hs
  have hC := tsays_any TC x hx _ (HU.out _ (Below.refl _ _))
  have e1 : ((verdictOf ns sh rules x : Int) == 1) = (tourD ns root sh rules rev).acc x := beq_cast _ 1
  clear TC hW
  generalize (tourD ns root sh rules rev).acc x = R at *
  generalize verdictOf ns sh rules x = K at *
  go_enter Tryz.func56, Tryz.ntmps56
  go_wp2_with (go_at_call 73; refine hC.mono ?_; rintro e v1 ⟨rfl, hb1⟩; rw [World.size_alloc] at hb1; have HB2 := hid (HE.out _ hb1); clear hb1)
  go_ret
  exact ⟨rfl, HB2.out⟩
set_option maxRecDepth 100000 in
set_option maxHeartbeats 4000000 in
theorem tinto_any {w : World} {b off cap : Nat} {ns : List NodeD} {root : Int} {sh : Nat} {ro : Option Addr} {rc : Nat} {rules : List RuleD} {rev : Bool} {bk bf bd : Nat} (TC : TourC w b off cap ns root sh ro rc rules rev bk bf bd) (x : Int) (hx : thereB ns.length x = true) (W : World) (hW : Below w.heap.size w W) :
    Calls Tryz.prog 57 #[.agg #[.slice (some ⟨b, off, none⟩) ns.length cap, .int .i64 root, .int .u32 (sh : Int), .slice ro rules.length rc, .func (.func 46) #[] #[.pointer (some ⟨bk, 0, none⟩), .pointer (some ⟨bf, 0, none⟩)], .func (.func 47) #[] #[.pointer (some ⟨bf, 0, none⟩), .pointer (some ⟨bd, 0, none⟩)]], .int .i64 x] W fun r w' => r = .returned (.int .i64 ((tourD ns root sh rules rev).into x)) ∧ Below W.heap.size W w' := by
  have eg1 : ∀ args w, (callFunc 46 args).run Tryz.prog w = .ok (.enter 46 args) w := enters_of Tryz.func46 (by kernel_rfl) rfl
  have eg2 : ∀ args w, (callFunc 47 args).run Tryz.prog w = .ok (.enter 47 args) w := enters_of Tryz.func47 (by kernel_rfl) rfl
  have HOK := hid TC.ok
  have hs := hW.size
  have hB0 : Below w.heap.size w (W.alloc (.cells #[.slice (some ⟨b, off, none⟩) ns.length cap, .int .i64 root, .int .u32 (sh : Int), .slice ro rules.length rc, .func (.func 46) #[] #[.pointer (some ⟨bk, 0, none⟩), .pointer (some ⟨bf, 0, none⟩)], .func (.func 47) #[] #[.pointer (some ⟨bf, 0, none⟩), .pointer (some ⟨bd, 0, none⟩)]] 74)) := hW.alloc hW.size _
  have HB1 : Hid (Below W.heap.size W (W.alloc (.cells #[.slice (some ⟨b, off, none⟩) ns.length cap, .int .i64 root, .int .u32 (sh : Int), .slice ro rules.length rc, .func (.func 46) #[] #[.pointer (some ⟨bk, 0, none⟩), .pointer (some ⟨bf, 0, none⟩)], .func (.func 47) #[] #[.pointer (some ⟨bf, 0, none⟩), .pointer (some ⟨bd, 0, none⟩)]] 74))) := (Below.refl _ W).alloc (Nat.le_refl _) _
  have HBx : Hid (∀ V : World, Below (W.heap.size + 1) (W.alloc (.cells #[.slice (some ⟨b, off, none⟩) ns.length cap, .int .i64 root, .int .u32 (sh : Int), .slice ro rules.length rc, .func (.func 46) #[] #[.pointer (some ⟨bk, 0, none⟩), .pointer (some ⟨bf, 0, none⟩)], .func (.func 47) #[] #[.pointer (some ⟨bf, 0, none⟩), .pointer (some ⟨bd, 0, none⟩)]] 74)) V → _) := fun V h => box6 h
  have HU : Hid (∀ V : World, Below (W.heap.size + 1) (W.alloc (.cells #[.slice (some ⟨b, off, none⟩) ns.length cap, .int .i64 root, .int .u32 (sh : Int), .slice ro rules.length rc, .func (.func 46) #[] #[.pointer (some ⟨bk, 0, none⟩), .pointer (some ⟨bf, 0, none⟩)], .func (.func 47) #[] #[.pointer (some ⟨bf, 0, none⟩), .pointer (some ⟨bd, 0, none⟩)]] 74)) V → Below w.heap.size w V) := fun V h => hB0.trans (h.mono (by omega))
  have HE : Hid (∀ V : World, Below (W.heap.size + 1) (W.alloc (.cells #[.slice (some ⟨b, off, none⟩) ns.length cap, .int .i64 root, .int .u32 (sh : Int), .slice ro rules.length rc, .func (.func 46) #[] #[.pointer (some ⟨bk, 0, none⟩), .pointer (some ⟨bf, 0, none⟩)], .func (.func 47) #[] #[.pointer (some ⟨bf, 0, none⟩), .pointer (some ⟨bd, 0, none⟩)]] 74)) V → Below W.heap.size W V) := fun V h => HB1.out.trans (h.mono (by omega))
  have HZ : Hid (∀ V : World, Below (W.heap.size + 1) (W.alloc (.cells #[.slice (some ⟨b, off, none⟩) ns.length cap, .int .i64 root, .int .u32 (sh : Int), .slice ro rules.length rc, .func (.func 46) #[] #[.pointer (some ⟨bk, 0, none⟩), .pointer (some ⟨bf, 0, none⟩)], .func (.func 47) #[] #[.pointer (some ⟨bf, 0, none⟩), .pointer (some ⟨bd, 0, none⟩)]] 74)) V → W.heap.size + 1 ≤ V.heap.size) := fun V h => by have := h.size; simp only [World.size_alloc] at this; exact this
  clear hB0 hs
  have hC := tsays_any TC x hx _ (HU.out _ (Below.refl _ _))
  have HK : Hid (∀ V : World, Below w.heap.size w V → _) := fun V hV => tkid_any TC x hx V hV
  have e1 : ((verdictOf ns sh rules x : Int) == 2) = (tourD ns root sh rules rev).rej x := beq_cast _ 2
  clear TC hW
  unfold TourD.into
  generalize (tourD ns root sh rules rev).rej x = R at *
  generalize (tourD ns root sh rules rev).kid x = kd at *
  generalize verdictOf ns sh rules x = K at *
  cases R with
  | true =>
    rw [if_pos rfl]
    go_enter Tryz.func57, Tryz.ntmps57
    go_wp2_with (go_at_call 73; refine hC.mono ?_; rintro e v1 ⟨rfl, hb1⟩; rw [World.size_alloc] at hb1; have HB2 := hid (HE.out _ hb1); clear hb1)
    go_ret
    exact ⟨rfl, HB2.out⟩
  | false =>
    rw [if_neg Bool.false_ne_true]
    go_enter Tryz.func57, Tryz.ntmps57
    go_wp2_with (first
      | (go_at_call 73; refine hC.mono ?_; rintro e v1 ⟨rfl, hb1⟩; rw [World.size_alloc] at hb1; obtain ⟨d0, d1, d2, d3, d4, d5⟩ := HBx.out _ hb1; have HB2 := hid (HE.out _ hb1); have HK2 := hid (HK.out _ (HU.out _ hb1)); clear hb1)
      | (go_at_fn 46; refine HK2.out.mono ?_; rintro e v2 ⟨rfl, hb2⟩; have HB3 := hid (HB2.out.trans (hb2.mono HB2.out.size)); clear hb2))
    go_ret
    exact ⟨rfl, HB3.out⟩
set_option maxRecDepth 100000 in
set_option maxHeartbeats 4000000 in
theorem tpast_any {w : World} {b off cap : Nat} {ns : List NodeD} {root : Int} {sh : Nat} {ro : Option Addr} {rc : Nat} {rules : List RuleD} {rev : Bool} {bk bf bd : Nat} (TC : TourC w b off cap ns root sh ro rc rules rev bk bf bd) (e : Int) (x : Int) (hx : thereB ns.length x = true) (W : World) (hW : Below w.heap.size w W) :
    Calls Tryz.prog 58 #[.agg #[.slice (some ⟨b, off, none⟩) ns.length cap, .int .i64 root, .int .u32 (sh : Int), .slice ro rules.length rc, .func (.func 46) #[] #[.pointer (some ⟨bk, 0, none⟩), .pointer (some ⟨bf, 0, none⟩)], .func (.func 47) #[] #[.pointer (some ⟨bf, 0, none⟩), .pointer (some ⟨bd, 0, none⟩)]], .int .i64 x, .int .i64 e] W fun r w' => r = .returned (.int .i64 ((tourD ns root sh rules rev).past x e)) ∧ Below W.heap.size W w' := by
  have eg1 : ∀ args w, (callFunc 46 args).run Tryz.prog w = .ok (.enter 46 args) w := enters_of Tryz.func46 (by kernel_rfl) rfl
  have eg2 : ∀ args w, (callFunc 47 args).run Tryz.prog w = .ok (.enter 47 args) w := enters_of Tryz.func47 (by kernel_rfl) rfl
  have HOK := hid TC.ok
  have hs := hW.size
  have hB0 : Below w.heap.size w (W.alloc (.cells #[.slice (some ⟨b, off, none⟩) ns.length cap, .int .i64 root, .int .u32 (sh : Int), .slice ro rules.length rc, .func (.func 46) #[] #[.pointer (some ⟨bk, 0, none⟩), .pointer (some ⟨bf, 0, none⟩)], .func (.func 47) #[] #[.pointer (some ⟨bf, 0, none⟩), .pointer (some ⟨bd, 0, none⟩)]] 74)) := hW.alloc hW.size _
  have HB1 : Hid (Below W.heap.size W (W.alloc (.cells #[.slice (some ⟨b, off, none⟩) ns.length cap, .int .i64 root, .int .u32 (sh : Int), .slice ro rules.length rc, .func (.func 46) #[] #[.pointer (some ⟨bk, 0, none⟩), .pointer (some ⟨bf, 0, none⟩)], .func (.func 47) #[] #[.pointer (some ⟨bf, 0, none⟩), .pointer (some ⟨bd, 0, none⟩)]] 74))) := (Below.refl _ W).alloc (Nat.le_refl _) _
  have HBx : Hid (∀ V : World, Below (W.heap.size + 1) (W.alloc (.cells #[.slice (some ⟨b, off, none⟩) ns.length cap, .int .i64 root, .int .u32 (sh : Int), .slice ro rules.length rc, .func (.func 46) #[] #[.pointer (some ⟨bk, 0, none⟩), .pointer (some ⟨bf, 0, none⟩)], .func (.func 47) #[] #[.pointer (some ⟨bf, 0, none⟩), .pointer (some ⟨bd, 0, none⟩)]] 74)) V → _) := fun V h => box6 h
  have HU : Hid (∀ V : World, Below (W.heap.size + 1) (W.alloc (.cells #[.slice (some ⟨b, off, none⟩) ns.length cap, .int .i64 root, .int .u32 (sh : Int), .slice ro rules.length rc, .func (.func 46) #[] #[.pointer (some ⟨bk, 0, none⟩), .pointer (some ⟨bf, 0, none⟩)], .func (.func 47) #[] #[.pointer (some ⟨bf, 0, none⟩), .pointer (some ⟨bd, 0, none⟩)]] 74)) V → Below w.heap.size w V) := fun V h => hB0.trans (h.mono (by omega))
  have HE : Hid (∀ V : World, Below (W.heap.size + 1) (W.alloc (.cells #[.slice (some ⟨b, off, none⟩) ns.length cap, .int .i64 root, .int .u32 (sh : Int), .slice ro rules.length rc, .func (.func 46) #[] #[.pointer (some ⟨bk, 0, none⟩), .pointer (some ⟨bf, 0, none⟩)], .func (.func 47) #[] #[.pointer (some ⟨bf, 0, none⟩), .pointer (some ⟨bd, 0, none⟩)]] 74)) V → Below W.heap.size W V) := fun V h => HB1.out.trans (h.mono (by omega))
  have HZ : Hid (∀ V : World, Below (W.heap.size + 1) (W.alloc (.cells #[.slice (some ⟨b, off, none⟩) ns.length cap, .int .i64 root, .int .u32 (sh : Int), .slice ro rules.length rc, .func (.func 46) #[] #[.pointer (some ⟨bk, 0, none⟩), .pointer (some ⟨bf, 0, none⟩)], .func (.func 47) #[] #[.pointer (some ⟨bf, 0, none⟩), .pointer (some ⟨bd, 0, none⟩)]] 74)) V → W.heap.size + 1 ≤ V.heap.size) := fun V h => by have := h.size; simp only [World.size_alloc] at this; exact this
  clear hB0 hs
  have HN : Hid (∀ (y : Int) (V : World), thereB ns.length y = true → Below w.heap.size w V → _) := fun y V hy hV => tnext_any TC y hy V hV
  have HP : Hid (∀ (y : Int) (V : World), thereB ns.length y = true → Below w.heap.size w V → _) := fun y V hy hV => tparent_any TC y hy V hV
  obtain ⟨R, hR⟩ : ∃ R, (tourD ns root sh rules rev).past x e = R := ⟨_, rfl⟩
  rw [hR]
  have HR := hid hR
  clear hR
  clear TC hW
  go_enter Tryz.func58, Tryz.ntmps58
  go_wp2
  go_loopw [7] (fun t wr => ∃ y : Int, t = .int .i64 y ∧ Hid (y = 0 ∨ thereB ns.length y = true) ∧ Hid ((tourD ns root sh rules rev).past y e = R) ∧ Hid (Below (W.heap.size + 1) (W.alloc (.cells #[.slice (some ⟨b, off, none⟩) ns.length cap, .int .i64 root, .int .u32 (sh : Int), .slice ro rules.length rc, .func (.func 46) #[] #[.pointer (some ⟨bk, 0, none⟩), .pointer (some ⟨bf, 0, none⟩)], .func (.func 47) #[] #[.pointer (some ⟨bf, 0, none⟩), .pointer (some ⟨bd, 0, none⟩)]] 74)) wr)) (fun t _ => (tourD ns root sh rules rev).len (RowKit.intOf t))
  case atStart => exact ⟨x, rfl, .inr hx, HR, Below.refl _ _⟩
  case round =>
    obtain ⟨y, rfl, hy, hY, hB⟩ := hrel
    clear hx
    by_cases h0 : y = 0
    · subst h0
      have hR0 : R = 0 := by rw [← hY.out]; exact TourD.past_zero e
      subst hR0
      clear hY
      go_wp2
      go_ret
      exact ⟨rfl, HE.out _ hB.out⟩
    · have hyt := hy.out.resolve_left h0
      have n0 : (y != 0) = true := by rw [bne, beq_eq_false_iff_ne.2 h0]; rfl
      obtain ⟨d0, d1, d2, d3, d4, d5⟩ := HBx.out wr hB.out
      have HNy : Hid (∀ V : World, Below w.heap.size w V → _) := fun V hV => HN.out y V hyt hV
      have HPy : Hid (∀ V : World, Below w.heap.size w V → _) := fun V hV => HP.out y V hyt hV
      by_cases hz : (tourD ns root sh rules rev).next y = 0
      · have HU2 := hid (TourD.up_len HOK.out hyt)
        have HU3 : Hid ((tourD ns root sh rules rev).up y = 0 ∨ thereB ns.length ((tourD ns root sh rules rev).up y) = true) := TourD.up_ok HOK.out hyt
        rw [hz] at HNy
        cases c1 : ((tourD ns root sh rules rev).up y == root) with
        | true =>
          have hR0 : R = 0 := by rw [← hY.out]; exact TourD.past_stop e hyt hz (by show ((tourD ns root sh rules rev).up y == root || _) = true; rw [c1]; rfl)
          subst hR0
          clear hY hz HU2 HU3
          generalize (tourD ns root sh rules rev).up y = p at *
          go_wp2_with (first
            | (go_at_call 55; refine (HPy.out _ (HU.out _ HB2.out)).mono ?_; rintro r1 v1 ⟨rfl, hb⟩; have HB3 := hid (HB2.out.trans (hb.mono (HZ.out _ HB2.out))); obtain ⟨i0, i1, i2, i3, i4, i5⟩ := HBx.out _ HB3.out; clear hb)
            | (go_at_fn 47; refine (HNy.out _ (HU.out _ hB.out)).mono ?_; rintro r1 v1 ⟨rfl, hb⟩; have HB2 := hid (hB.out.trans (hb.mono (HZ.out _ hB.out))); obtain ⟨i0, i1, i2, i3, i4, i5⟩ := HBx.out _ HB2.out; clear hb)
          )
          go_ret
          exact ⟨rfl, HE.out _ HB3.out⟩
        | false =>
          cases c2 : ((tourD ns root sh rules rev).up y == e) with
          | true =>
            have hR0 : R = 0 := by rw [← hY.out]; exact TourD.past_stop e hyt hz (by rw [c2, Bool.or_true])
            subst hR0
            clear hY hz HU2 HU3
            generalize (tourD ns root sh rules rev).up y = p at *
            go_wp2_with (first
            | (go_at_call 55; refine (HPy.out _ (HU.out _ HB2.out)).mono ?_; rintro r1 v1 ⟨rfl, hb⟩; have HB3 := hid (HB2.out.trans (hb.mono (HZ.out _ HB2.out))); obtain ⟨i0, i1, i2, i3, i4, i5⟩ := HBx.out _ HB3.out; clear hb)
            | (go_at_fn 47; refine (HNy.out _ (HU.out _ hB.out)).mono ?_; rintro r1 v1 ⟨rfl, hb⟩; have HB2 := hid (hB.out.trans (hb.mono (HZ.out _ hB.out))); obtain ⟨i0, i1, i2, i3, i4, i5⟩ := HBx.out _ HB2.out; clear hb)
            )
            go_ret
            exact ⟨rfl, HE.out _ HB3.out⟩
          | false =>
            have Hn : Hid ((tourD ns root sh rules rev).past ((tourD ns root sh rules rev).up y) e = R) := by
              rw [← hY.out]
              exact (TourD.past_up HOK.out e hyt hz (by show ((tourD ns root sh rules rev).up y == root || _) = false; rw [c1, c2]; rfl)).symm
            have Hm : Hid ((tourD ns root sh rules rev).len ((tourD ns root sh rules rev).up y) < (tourD ns root sh rules rev).len y) := by
              have := HU2.out
              show _ < _
              omega
            clear hY hz HU2
            generalize (tourD ns root sh rules rev).up y = p at *
            go_wp2_with (first
            | (go_at_call 55; refine (HPy.out _ (HU.out _ HB2.out)).mono ?_; rintro r1 v1 ⟨rfl, hb⟩; have HB3 := hid (HB2.out.trans (hb.mono (HZ.out _ HB2.out))); obtain ⟨i0, i1, i2, i3, i4, i5⟩ := HBx.out _ HB3.out; clear hb)
            | (go_at_fn 47; refine (HNy.out _ (HU.out _ hB.out)).mono ?_; rintro r1 v1 ⟨rfl, hb⟩; have HB2 := hid (hB.out.trans (hb.mono (HZ.out _ hB.out))); obtain ⟨i0, i1, i2, i3, i4, i5⟩ := HBx.out _ HB2.out; clear hb)
            )
            go_roundw
            case rel => exact ⟨p, rfl, HU3, Hn, HB3⟩
            case measure => exact Hm.out
      · have hR0 : (tourD ns root sh rules rev).next y = R := by rw [← hY.out]; exact (TourD.past_next e hyt hz).symm
        rw [hR0] at HNy hz
        have n1 : (R != 0) = true := by rw [bne, beq_eq_false_iff_ne.2 hz]; rfl
        clear hY hR0
        go_wp2_with (first
            | (go_at_fn 47; refine (HNy.out _ (HU.out _ hB.out)).mono ?_; rintro r1 v1 ⟨rfl, hb⟩; have HB2 := hid (hB.out.trans (hb.mono (HZ.out _ hB.out))); obtain ⟨i0, i1, i2, i3, i4, i5⟩ := HBx.out _ HB2.out; clear hb)
        )
        go_ret
        exact ⟨rfl, HE.out _ HB2.out⟩
set_option maxRecDepth 100000 in
set_option maxHeartbeats 4000000 in
theorem tover_any {w : World} {b off cap : Nat} {ns : List NodeD} {root : Int} {sh : Nat} {ro : Option Addr} {rc : Nat} {rules : List RuleD} {rev : Bool} {bk bf bd : Nat} (TC : TourC w b off cap ns root sh ro rc rules rev bk bf bd) (x : Int) (hx : thereB ns.length x = true) (W : World) (hW : Below w.heap.size w W) :
    Calls Tryz.prog 61 #[.agg #[.slice (some ⟨b, off, none⟩) ns.length cap, .int .i64 root, .int .u32 (sh : Int), .slice ro rules.length rc, .func (.func 46) #[] #[.pointer (some ⟨bk, 0, none⟩), .pointer (some ⟨bf, 0, none⟩)], .func (.func 47) #[] #[.pointer (some ⟨bf, 0, none⟩), .pointer (some ⟨bd, 0, none⟩)]], .int .i64 x] W fun r w' => r = .returned (.int .i64 ((tourD ns root sh rules rev).over x)) ∧ Below W.heap.size W w' := by
  have eg1 : ∀ args w, (callFunc 46 args).run Tryz.prog w = .ok (.enter 46 args) w := enters_of Tryz.func46 (by kernel_rfl) rfl
  have eg2 : ∀ args w, (callFunc 47 args).run Tryz.prog w = .ok (.enter 47 args) w := enters_of Tryz.func47 (by kernel_rfl) rfl
  have HOK := hid TC.ok
  have hs := hW.size
  have hB0 : Below w.heap.size w (W.alloc (.cells #[.slice (some ⟨b, off, none⟩) ns.length cap, .int .i64 root, .int .u32 (sh : Int), .slice ro rules.length rc, .func (.func 46) #[] #[.pointer (some ⟨bk, 0, none⟩), .pointer (some ⟨bf, 0, none⟩)], .func (.func 47) #[] #[.pointer (some ⟨bf, 0, none⟩), .pointer (some ⟨bd, 0, none⟩)]] 74)) := hW.alloc hW.size _
  have HB1 : Hid (Below W.heap.size W (W.alloc (.cells #[.slice (some ⟨b, off, none⟩) ns.length cap, .int .i64 root, .int .u32 (sh : Int), .slice ro rules.length rc, .func (.func 46) #[] #[.pointer (some ⟨bk, 0, none⟩), .pointer (some ⟨bf, 0, none⟩)], .func (.func 47) #[] #[.pointer (some ⟨bf, 0, none⟩), .pointer (some ⟨bd, 0, none⟩)]] 74))) := (Below.refl _ W).alloc (Nat.le_refl _) _
  have HBx : Hid (∀ V : World, Below (W.heap.size + 1) (W.alloc (.cells #[.slice (some ⟨b, off, none⟩) ns.length cap, .int .i64 root, .int .u32 (sh : Int), .slice ro rules.length rc, .func (.func 46) #[] #[.pointer (some ⟨bk, 0, none⟩), .pointer (some ⟨bf, 0, none⟩)], .func (.func 47) #[] #[.pointer (some ⟨bf, 0, none⟩), .pointer (some ⟨bd, 0, none⟩)]] 74)) V → _) := fun V h => box6 h
  have HU : Hid (∀ V : World, Below (W.heap.size + 1) (W.alloc (.cells #[.slice (some ⟨b, off, none⟩) ns.length cap, .int .i64 root, .int .u32 (sh : Int), .slice ro rules.length rc, .func (.func 46) #[] #[.pointer (some ⟨bk, 0, none⟩), .pointer (some ⟨bf, 0, none⟩)], .func (.func 47) #[] #[.pointer (some ⟨bf, 0, none⟩), .pointer (some ⟨bd, 0, none⟩)]] 74)) V → Below w.heap.size w V) := fun V h => hB0.trans (h.mono (by omega))
  have HE : Hid (∀ V : World, Below (W.heap.size + 1) (W.alloc (.cells #[.slice (some ⟨b, off, none⟩) ns.length cap, .int .i64 root, .int .u32 (sh : Int), .slice ro rules.length rc, .func (.func 46) #[] #[.pointer (some ⟨bk, 0, none⟩), .pointer (some ⟨bf, 0, none⟩)], .func (.func 47) #[] #[.pointer (some ⟨bf, 0, none⟩), .pointer (some ⟨bd, 0, none⟩)]] 74)) V → Below W.heap.size W V) := fun V h => HB1.out.trans (h.mono (by omega))
  have HZ : Hid (∀ V : World, Below (W.heap.size + 1) (W.alloc (.cells #[.slice (some ⟨b, off, none⟩) ns.length cap, .int .i64 root, .int .u32 (sh : Int), .slice ro rules.length rc, .func (.func 46) #[] #[.pointer (some ⟨bk, 0, none⟩), .pointer (some ⟨bf, 0, none⟩)], .func (.func 47) #[] #[.pointer (some ⟨bf, 0, none⟩), .pointer (some ⟨bd, 0, none⟩)]] 74)) V → W.heap.size + 1 ≤ V.heap.size) := fun V h => by have := h.size; simp only [World.size_alloc] at this; exact this
  clear hB0 hs
  have HI : Hid (Below (W.heap.size + 1) (W.alloc (.cells #[.slice (some ⟨b, off, none⟩) ns.length cap, .int .i64 root, .int .u32 (sh : Int), .slice ro rules.length rc, .func (.func 46) #[] #[.pointer (some ⟨bk, 0, none⟩), .pointer (some ⟨bf, 0, none⟩)], .func (.func 47) #[] #[.pointer (some ⟨bf, 0, none⟩), .pointer (some ⟨bd, 0, none⟩)]] 74)) (W.alloc (.cells #[.slice (some ⟨b, off, none⟩) ns.length cap, .int .i64 root, .int .u32 (sh : Int), .slice ro rules.length rc, .func (.func 46) #[] #[.pointer (some ⟨bk, 0, none⟩), .pointer (some ⟨bf, 0, none⟩)], .func (.func 47) #[] #[.pointer (some ⟨bf, 0, none⟩), .pointer (some ⟨bd, 0, none⟩)]] 74))) := Below.refl _ _
  have HP : Hid (∀ V : World, Below w.heap.size w V → _) := fun V hV => tpast_any TC 0 x hx V hV
  clear TC hW
  unfold TourD.over
  show Calls _ _ _ _ fun r w' => r = .returned (.int .i64 (if x == root then 0 else (tourD ns root sh rules rev).past x 0)) ∧ _
  generalize (tourD ns root sh rules rev).past x 0 = R at *
  cases c1 : (x == root) with
  | true =>
    rw [if_pos rfl]
    go_enter Tryz.func61, Tryz.ntmps61
    go_wp2
    go_ret
    exact ⟨rfl, HE.out _ HI.out⟩
  | false =>
    rw [if_neg Bool.false_ne_true]
    go_enter Tryz.func61, Tryz.ntmps61
    go_wp2_with (first
            | (go_at_call 58; refine (HP.out _ (HU.out _ HI.out)).mono ?_; rintro r1 v1 ⟨rfl, hb⟩; have HB2 := hid (HI.out.trans (hb.mono (HZ.out _ HI.out))); obtain ⟨i0, i1, i2, i3, i4, i5⟩ := HBx.out _ HB2.out; clear hb)
    )
    go_ret
    exact ⟨rfl, HE.out _ HB2.out⟩
set_option maxRecDepth 100000 in
set_option maxHeartbeats 4000000 in
theorem taside_any {w : World} {b off cap : Nat} {ns : List NodeD} {root : Int} {sh : Nat} {ro : Option Addr} {rc : Nat} {rules : List RuleD} {rev : Bool} {bk bf bd : Nat} (TC : TourC w b off cap ns root sh ro rc rules rev bk bf bd) (x : Int) (hx : thereB ns.length x = true) (W : World) (hW : Below w.heap.size w W) :
    Calls Tryz.prog 59 #[.agg #[.slice (some ⟨b, off, none⟩) ns.length cap, .int .i64 root, .int .u32 (sh : Int), .slice ro rules.length rc, .func (.func 46) #[] #[.pointer (some ⟨bk, 0, none⟩), .pointer (some ⟨bf, 0, none⟩)], .func (.func 47) #[] #[.pointer (some ⟨bf, 0, none⟩), .pointer (some ⟨bd, 0, none⟩)]], .int .i64 x] W fun r w' => r = .returned (.int .i64 ((tourD ns root sh rules rev).aside x)) ∧ Below W.heap.size W w' := by
  have eg1 : ∀ args w, (callFunc 46 args).run Tryz.prog w = .ok (.enter 46 args) w := enters_of Tryz.func46 (by kernel_rfl) rfl
  have eg2 : ∀ args w, (callFunc 47 args).run Tryz.prog w = .ok (.enter 47 args) w := enters_of Tryz.func47 (by kernel_rfl) rfl
  have HOK := hid TC.ok
  have hs := hW.size
  have hB0 : Below w.heap.size w (W.alloc (.cells #[.slice (some ⟨b, off, none⟩) ns.length cap, .int .i64 root, .int .u32 (sh : Int), .slice ro rules.length rc, .func (.func 46) #[] #[.pointer (some ⟨bk, 0, none⟩), .pointer (some ⟨bf, 0, none⟩)], .func (.func 47) #[] #[.pointer (some ⟨bf, 0, none⟩), .pointer (some ⟨bd, 0, none⟩)]] 74)) := hW.alloc hW.size _
  have HB1 : Hid (Below W.heap.size W (W.alloc (.cells #[.slice (some ⟨b, off, none⟩) ns.length cap, .int .i64 root, .int .u32 (sh : Int), .slice ro rules.length rc, .func (.func 46) #[] #[.pointer (some ⟨bk, 0, none⟩), .pointer (some ⟨bf, 0, none⟩)], .func (.func 47) #[] #[.pointer (some ⟨bf, 0, none⟩), .pointer (some ⟨bd, 0, none⟩)]] 74))) := (Below.refl _ W).alloc (Nat.le_refl _) _
  have HBx : Hid (∀ V : World, Below (W.heap.size + 1) (W.alloc (.cells #[.slice (some ⟨b, off, none⟩) ns.length cap, .int .i64 root, .int .u32 (sh : Int), .slice ro rules.length rc, .func (.func 46) #[] #[.pointer (some ⟨bk, 0, none⟩), .pointer (some ⟨bf, 0, none⟩)], .func (.func 47) #[] #[.pointer (some ⟨bf, 0, none⟩), .pointer (some ⟨bd, 0, none⟩)]] 74)) V → _) := fun V h => box6 h
  have HU : Hid (∀ V : World, Below (W.heap.size + 1) (W.alloc (.cells #[.slice (some ⟨b, off, none⟩) ns.length cap, .int .i64 root, .int .u32 (sh : Int), .slice ro rules.length rc, .func (.func 46) #[] #[.pointer (some ⟨bk, 0, none⟩), .pointer (some ⟨bf, 0, none⟩)], .func (.func 47) #[] #[.pointer (some ⟨bf, 0, none⟩), .pointer (some ⟨bd, 0, none⟩)]] 74)) V → Below w.heap.size w V) := fun V h => hB0.trans (h.mono (by omega))
  have HE : Hid (∀ V : World, Below (W.heap.size + 1) (W.alloc (.cells #[.slice (some ⟨b, off, none⟩) ns.length cap, .int .i64 root, .int .u32 (sh : Int), .slice ro rules.length rc, .func (.func 46) #[] #[.pointer (some ⟨bk, 0, none⟩), .pointer (some ⟨bf, 0, none⟩)], .func (.func 47) #[] #[.pointer (some ⟨bf, 0, none⟩), .pointer (some ⟨bd, 0, none⟩)]] 74)) V → Below W.heap.size W V) := fun V h => HB1.out.trans (h.mono (by omega))
  have HZ : Hid (∀ V : World, Below (W.heap.size + 1) (W.alloc (.cells #[.slice (some ⟨b, off, none⟩) ns.length cap, .int .i64 root, .int .u32 (sh : Int), .slice ro rules.length rc, .func (.func 46) #[] #[.pointer (some ⟨bk, 0, none⟩), .pointer (some ⟨bf, 0, none⟩)], .func (.func 47) #[] #[.pointer (some ⟨bf, 0, none⟩), .pointer (some ⟨bd, 0, none⟩)]] 74)) V → W.heap.size + 1 ≤ V.heap.size) := fun V h => by have := h.size; simp only [World.size_alloc] at this; exact this
  clear hB0 hs
  have HI : Hid (Below (W.heap.size + 1) (W.alloc (.cells #[.slice (some ⟨b, off, none⟩) ns.length cap, .int .i64 root, .int .u32 (sh : Int), .slice ro rules.length rc, .func (.func 46) #[] #[.pointer (some ⟨bk, 0, none⟩), .pointer (some ⟨bf, 0, none⟩)], .func (.func 47) #[] #[.pointer (some ⟨bf, 0, none⟩), .pointer (some ⟨bd, 0, none⟩)]] 74)) (W.alloc (.cells #[.slice (some ⟨b, off, none⟩) ns.length cap, .int .i64 root, .int .u32 (sh : Int), .slice ro rules.length rc, .func (.func 46) #[] #[.pointer (some ⟨bk, 0, none⟩), .pointer (some ⟨bf, 0, none⟩)], .func (.func 47) #[] #[.pointer (some ⟨bf, 0, none⟩), .pointer (some ⟨bd, 0, none⟩)]] 74))) := Below.refl _ _
  have HT : Hid (∀ V : World, Below w.heap.size w V → _) := fun V hV => tinto_any TC x hx V hV
  have HN : Hid (∀ V : World, Below w.heap.size w V → _) := fun V hV => tnext_any TC x hx V hV
  clear TC hW
  unfold TourD.aside
  generalize (tourD ns root sh rules rev).next x = nx at *
  generalize (tourD ns root sh rules rev).into x = kd at *
  cases c1 : (kd == 0) with
  | true =>
    have c2 : (kd != 0) = false := by rw [bne, c1]; rfl
    rw [if_pos rfl]
    go_enter Tryz.func59, Tryz.ntmps59
    go_wp2_with (first
            | (go_at_fn 47; refine (HN.out _ (HU.out _ HB2.out)).mono ?_; rintro r1 v1 ⟨rfl, hb⟩; have HB3 := hid (HB2.out.trans (hb.mono (HZ.out _ HB2.out))); obtain ⟨i0, i1, i2, i3, i4, i5⟩ := HBx.out _ HB3.out; clear hb)
            | (go_at_call 57; refine (HT.out _ (HU.out _ HI.out)).mono ?_; rintro r1 v1 ⟨rfl, hb⟩; have HB2 := hid (HI.out.trans (hb.mono (HZ.out _ HI.out))); obtain ⟨i0, i1, i2, i3, i4, i5⟩ := HBx.out _ HB2.out; clear hb)
    )
    go_ret
    exact ⟨rfl, HE.out _ HB3.out⟩
  | false =>
    have c2 : (kd != 0) = true := by rw [bne, c1]; rfl
    rw [if_neg Bool.false_ne_true]
    go_enter Tryz.func59, Tryz.ntmps59
    go_wp2_with (first
            | (go_at_fn 47; refine (HN.out _ (HU.out _ HB2.out)).mono ?_; rintro r1 v1 ⟨rfl, hb⟩; have HB3 := hid (HB2.out.trans (hb.mono (HZ.out _ HB2.out))); obtain ⟨i0, i1, i2, i3, i4, i5⟩ := HBx.out _ HB3.out; clear hb)
            | (go_at_call 57; refine (HT.out _ (HU.out _ HI.out)).mono ?_; rintro r1 v1 ⟨rfl, hb⟩; have HB2 := hid (HI.out.trans (hb.mono (HZ.out _ HI.out))); obtain ⟨i0, i1, i2, i3, i4, i5⟩ := HBx.out _ HB2.out; clear hb)
    )
    go_ret
    exact ⟨rfl, HE.out _ HB2.out⟩
end Go.Proofs.YteflknfejjdkfabGreat

namespace Go.Proofs.YteflknfejjdkfabGreat
open Go.RowKit Go.Lib

set_option maxRecDepth 100000 in
set_option maxHeartbeats 4000000 in
theorem tup_any {w : World} {b off cap : Nat} {ns : List NodeD} {root : Int} {sh : Nat} {ro : Option Addr} {rc : Nat} {rules : List RuleD} {rev : Bool} {bk bf bd : Nat} (TC : TourC w b off cap ns root sh ro rc rules rev bk bf bd) (x : Int) (hx : thereB ns.length x = true) (W : World) (hW : Below w.heap.size w W) :
    Calls Tryz.prog 39 #[.agg #[.slice (some ⟨b, off, none⟩) ns.length cap, .int .i64 root, .int .u32 (sh : Int), .slice ro rules.length rc, .func (.func 46) #[] #[.pointer (some ⟨bk, 0, none⟩), .pointer (some ⟨bf, 0, none⟩)], .func (.func 47) #[] #[.pointer (some ⟨bf, 0, none⟩), .pointer (some ⟨bd, 0, none⟩)]], .int .i64 x] W fun r w' => r = .returned (.int .i64 ((tourD ns root sh rules rev).upD x)) ∧ Below W.heap.size W w' := by
  have eg1 : ∀ args w, (callFunc 46 args).run Tryz.prog w = .ok (.enter 46 args) w := enters_of Tryz.func46 (by kernel_rfl) rfl
  have eg2 : ∀ args w, (callFunc 47 args).run Tryz.prog w = .ok (.enter 47 args) w := enters_of Tryz.func47 (by kernel_rfl) rfl
  have HOK := hid TC.ok
  have hs := hW.size
  have hB0 : Below w.heap.size w (W.alloc (.cells #[.slice (some ⟨b, off, none⟩) ns.length cap, .int .i64 root, .int .u32 (sh : Int), .slice ro rules.length rc, .func (.func 46) #[] #[.pointer (some ⟨bk, 0, none⟩), .pointer (some ⟨bf, 0, none⟩)], .func (.func 47) #[] #[.pointer (some ⟨bf, 0, none⟩), .pointer (some ⟨bd, 0, none⟩)]] 74)) := hW.alloc hW.size _
  have HB1 : Hid (Below W.heap.size W (W.alloc (.cells #[.slice (some ⟨b, off, none⟩) ns.length cap, .int .i64 root, .int .u32 (sh : Int), .slice ro rules.length rc, .func (.func 46) #[] #[.pointer (some ⟨bk, 0, none⟩), .pointer (some ⟨bf, 0, none⟩)], .func (.func 47) #[] #[.pointer (some ⟨bf, 0, none⟩), .pointer (some ⟨bd, 0, none⟩)]] 74))) := (Below.refl _ W).alloc (Nat.le_refl _) _
  have HBx : Hid (∀ V : World, Below (W.heap.size + 1) (W.alloc (.cells #[.slice (some ⟨b, off, none⟩) ns.length cap, .int .i64 root, .int .u32 (sh : Int), .slice ro rules.length rc, .func (.func 46) #[] #[.pointer (some ⟨bk, 0, none⟩), .pointer (some ⟨bf, 0, none⟩)], .func (.func 47) #[] #[.pointer (some ⟨bf, 0, none⟩), .pointer (some ⟨bd, 0, none⟩)]] 74)) V → _) := fun V h => box6 h
  have HU : Hid (∀ V : World, Below (W.heap.size + 1) (W.alloc (.cells #[.slice (some ⟨b, off, none⟩) ns.length cap, .int .i64 root, .int .u32 (sh : Int), .slice ro rules.length rc, .func (.func 46) #[] #[.pointer (some ⟨bk, 0, none⟩), .pointer (some ⟨bf, 0, none⟩)], .func (.func 47) #[] #[.pointer (some ⟨bf, 0, none⟩), .pointer (some ⟨bd, 0, none⟩)]] 74)) V → Below w.heap.size w V) := fun V h => hB0.trans (h.mono (by omega))
  have HE : Hid (∀ V : World, Below (W.heap.size + 1) (W.alloc (.cells #[.slice (some ⟨b, off, none⟩) ns.length cap, .int .i64 root, .int .u32 (sh : Int), .slice ro rules.length rc, .func (.func 46) #[] #[.pointer (some ⟨bk, 0, none⟩), .pointer (some ⟨bf, 0, none⟩)], .func (.func 47) #[] #[.pointer (some ⟨bf, 0, none⟩), .pointer (some ⟨bd, 0, none⟩)]] 74)) V → Below W.heap.size W V) := fun V h => HB1.out.trans (h.mono (by omega))
  have HZ : Hid (∀ V : World, Below (W.heap.size + 1) (W.alloc (.cells #[.slice (some ⟨b, off, none⟩) ns.length cap, .int .i64 root, .int .u32 (sh : Int), .slice ro rules.length rc, .func (.func 46) #[] #[.pointer (some ⟨bk, 0, none⟩), .pointer (some ⟨bf, 0, none⟩)], .func (.func 47) #[] #[.pointer (some ⟨bf, 0, none⟩), .pointer (some ⟨bd, 0, none⟩)]] 74)) V → W.heap.size + 1 ≤ V.heap.size) := fun V h => by have := h.size; simp only [World.size_alloc] at this; exact this
  clear hB0 hs
  have HP : Hid (∀ (y : Int) (V : World), thereB ns.length y = true → Below w.heap.size w V → _) := fun y V hy hV => tparent_any TC y hy V hV
  have HA : Hid (∀ (y : Int) (V : World), thereB ns.length y = true → Below w.heap.size w V → _) := fun y V hy hV => taccepts_any TC y hy V hV
  obtain ⟨R, hR⟩ : ∃ R, (tourD ns root sh rules rev).upD x = R := ⟨_, rfl⟩
  rw [hR]
  have HR := hid hR
  clear hR
  clear TC hW
  go_enter Tryz.func39, Tryz.ntmps39
  go_wp2
  go_loopw [5] (fun t wr => ∃ y : Int, t = .int .i64 y ∧ Hid (thereB ns.length y = true) ∧ Hid ((tourD ns root sh rules rev).upD y = R) ∧ Hid (Below (W.heap.size + 1) (W.alloc (.cells #[.slice (some ⟨b, off, none⟩) ns.length cap, .int .i64 root, .int .u32 (sh : Int), .slice ro rules.length rc, .func (.func 46) #[] #[.pointer (some ⟨bk, 0, none⟩), .pointer (some ⟨bf, 0, none⟩)], .func (.func 47) #[] #[.pointer (some ⟨bf, 0, none⟩), .pointer (some ⟨bd, 0, none⟩)]] 74)) wr)) (fun t _ => (tourD ns root sh rules rev).len (RowKit.intOf t))
  case atStart => exact ⟨x, rfl, hx, HR, Below.refl _ _⟩
  case round =>
    obtain ⟨y, rfl, hy, hY, hB⟩ := hrel
    clear hx
    obtain ⟨d0, d1, d2, d3, d4, d5⟩ := HBx.out wr hB.out
    have HPy : Hid (∀ V : World, Below w.heap.size w V → _) := fun V hV => HP.out y V hy.out hV
    have HU2 := hid (TourD.up_len HOK.out hy.out)
    cases c1 : (y == root) with
    | true =>
      have n1 : (y != root) = false := by rw [bne, c1]; rfl
      have hR0 : R = 0 := by rw [← hY.out]; exact TourD.up_stop (by show (y == root || _) = true; rw [c1]; rfl)
      subst hR0
      clear hY
      go_wp2
      go_ret
      exact ⟨rfl, HE.out _ hB.out⟩
    | false =>
      have n1 : (y != root) = true := by rw [bne, c1]; rfl
      cases c2 : ((tourD ns root sh rules rev).up y == 0) with
      | true =>
        have hR0 : R = 0 := by rw [← hY.out]; exact TourD.up_stop (by rw [c2, Bool.or_true])
        subst hR0
        have n2 : ((tourD ns root sh rules rev).up y != 0) = false := by rw [bne, c2]; rfl
        clear hY HU2
        generalize (tourD ns root sh rules rev).up y = p at *
        go_wp2_with (first
            | (go_at_call 55; refine (HPy.out _ (HU.out _ hB.out)).mono ?_; rintro r1 v1 ⟨rfl, hb⟩; have HB2 := hid (hB.out.trans (hb.mono (HZ.out _ hB.out))); obtain ⟨i0, i1, i2, i3, i4, i5⟩ := HBx.out _ HB2.out; clear hb)
        )
        go_ret
        exact ⟨rfl, HE.out _ HB2.out⟩
      | false =>
        have hpt : thereB ns.length ((tourD ns root sh rules rev).up y) = true := (TourD.up_ok HOK.out hy.out).resolve_left (beq_eq_false_iff_ne.1 c2)
        have n2 : ((tourD ns root sh rules rev).up y != 0) = true := by rw [bne, c2]; rfl
        have hcc : (y == (tourD ns root sh rules rev).root || (tourD ns root sh rules rev).up y == 0) = false := by show (y == root || _) = false; rw [c1, c2]; rfl
        have HAp : Hid (∀ V : World, Below w.heap.size w V → _) := fun V hV => HA.out _ V hpt hV
        cases ha : (tourD ns root sh rules rev).acc ((tourD ns root sh rules rev).up y) with
        | true =>
          have hR0 : (tourD ns root sh rules rev).up y = R := by rw [← hY.out]; exact (TourD.up_hit hcc ha).symm
          rw [ha] at HAp
          clear hY HU2 hcc
          rw [hR0] at HAp HPy n2 c2
          clear ha hR0
          go_wp2_with (first
            | (go_at_call 56; refine (HAp.out _ (HU.out _ HB3.out)).mono ?_; rintro r1 v1 ⟨rfl, hb⟩; have HB4 := hid (HB3.out.trans (hb.mono (HZ.out _ HB3.out))); obtain ⟨i0, i1, i2, i3, i4, i5⟩ := HBx.out _ HB4.out; clear hb)
            | (go_at_call 55; refine (HPy.out _ (HU.out _ HB2.out)).mono ?_; rintro r1 v1 ⟨rfl, hb⟩; have HB3 := hid (HB2.out.trans (hb.mono (HZ.out _ HB2.out))); obtain ⟨i0, i1, i2, i3, i4, i5⟩ := HBx.out _ HB3.out; clear hb)
            | (go_at_call 55; refine (HPy.out _ (HU.out _ hB.out)).mono ?_; rintro r1 v1 ⟨rfl, hb⟩; have HB2 := hid (hB.out.trans (hb.mono (HZ.out _ hB.out))); obtain ⟨i0, i1, i2, i3, i4, i5⟩ := HBx.out _ HB2.out; clear hb)
          )
          go_ret
          exact ⟨rfl, HE.out _ HB4.out⟩
        | false =>
          have Hn : Hid ((tourD ns root sh rules rev).upD ((tourD ns root sh rules rev).up y) = R) := by rw [← hY.out]; exact (TourD.up_go HOK.out hy.out hcc ha).symm
          have Hm : Hid ((tourD ns root sh rules rev).len ((tourD ns root sh rules rev).up y) < (tourD ns root sh rules rev).len y) := by
            have := HU2.out
            show _ < _
            omega
          have Hpt := hid hpt
          rw [ha] at HAp
          clear hY HU2 hcc ha hpt
          generalize (tourD ns root sh rules rev).up y = p at *
          go_wp2_with (first
            | (go_at_call 56; refine (HAp.out _ (HU.out _ HB3.out)).mono ?_; rintro r1 v1 ⟨rfl, hb⟩; have HB4 := hid (HB3.out.trans (hb.mono (HZ.out _ HB3.out))); obtain ⟨i0, i1, i2, i3, i4, i5⟩ := HBx.out _ HB4.out; clear hb)
            | (go_at_call 55; refine (HPy.out _ (HU.out _ HB2.out)).mono ?_; rintro r1 v1 ⟨rfl, hb⟩; have HB3 := hid (HB2.out.trans (hb.mono (HZ.out _ HB2.out))); obtain ⟨i0, i1, i2, i3, i4, i5⟩ := HBx.out _ HB3.out; clear hb)
            | (go_at_call 55; refine (HPy.out _ (HU.out _ hB.out)).mono ?_; rintro r1 v1 ⟨rfl, hb⟩; have HB2 := hid (hB.out.trans (hb.mono (HZ.out _ hB.out))); obtain ⟨i0, i1, i2, i3, i4, i5⟩ := HBx.out _ HB2.out; clear hb)
          )
          go_roundw
          case rel => exact ⟨p, rfl, Hpt, Hn, HB4⟩
          case measure => exact Hm.out
set_option maxRecDepth 100000 in
set_option maxHeartbeats 4000000 in
theorem tbottom_any {w : World} {b off cap : Nat} {ns : List NodeD} {root : Int} {sh : Nat} {ro : Option Addr} {rc : Nat} {rules : List RuleD} {rev : Bool} {bk bf bd : Nat} (TC : TourC w b off cap ns root sh ro rc rules rev bk bf bd) (x : Int) (hx : thereB ns.length x = true) (W : World) (hW : Below w.heap.size w W) :
    Calls Tryz.prog 60 #[.agg #[.slice (some ⟨b, off, none⟩) ns.length cap, .int .i64 root, .int .u32 (sh : Int), .slice ro rules.length rc, .func (.func 46) #[] #[.pointer (some ⟨bk, 0, none⟩), .pointer (some ⟨bf, 0, none⟩)], .func (.func 47) #[] #[.pointer (some ⟨bf, 0, none⟩), .pointer (some ⟨bd, 0, none⟩)]], .int .i64 x] W fun r w' => r = .returned (.int .i64 ((tourD ns root sh rules rev).bottom x)) ∧ Below W.heap.size W w' := by
  have eg1 : ∀ args w, (callFunc 46 args).run Tryz.prog w = .ok (.enter 46 args) w := enters_of Tryz.func46 (by kernel_rfl) rfl
  have eg2 : ∀ args w, (callFunc 47 args).run Tryz.prog w = .ok (.enter 47 args) w := enters_of Tryz.func47 (by kernel_rfl) rfl
  have HOK := hid TC.ok
  have hs := hW.size
  have hB0 : Below w.heap.size w (W.alloc (.cells #[.slice (some ⟨b, off, none⟩) ns.length cap, .int .i64 root, .int .u32 (sh : Int), .slice ro rules.length rc, .func (.func 46) #[] #[.pointer (some ⟨bk, 0, none⟩), .pointer (some ⟨bf, 0, none⟩)], .func (.func 47) #[] #[.pointer (some ⟨bf, 0, none⟩), .pointer (some ⟨bd, 0, none⟩)]] 74)) := hW.alloc hW.size _
  have HB1 : Hid (Below W.heap.size W (W.alloc (.cells #[.slice (some ⟨b, off, none⟩) ns.length cap, .int .i64 root, .int .u32 (sh : Int), .slice ro rules.length rc, .func (.func 46) #[] #[.pointer (some ⟨bk, 0, none⟩), .pointer (some ⟨bf, 0, none⟩)], .func (.func 47) #[] #[.pointer (some ⟨bf, 0, none⟩), .pointer (some ⟨bd, 0, none⟩)]] 74))) := (Below.refl _ W).alloc (Nat.le_refl _) _
  have HBx : Hid (∀ V : World, Below (W.heap.size + 1) (W.alloc (.cells #[.slice (some ⟨b, off, none⟩) ns.length cap, .int .i64 root, .int .u32 (sh : Int), .slice ro rules.length rc, .func (.func 46) #[] #[.pointer (some ⟨bk, 0, none⟩), .pointer (some ⟨bf, 0, none⟩)], .func (.func 47) #[] #[.pointer (some ⟨bf, 0, none⟩), .pointer (some ⟨bd, 0, none⟩)]] 74)) V → _) := fun V h => box6 h
  have HU : Hid (∀ V : World, Below (W.heap.size + 1) (W.alloc (.cells #[.slice (some ⟨b, off, none⟩) ns.length cap, .int .i64 root, .int .u32 (sh : Int), .slice ro rules.length rc, .func (.func 46) #[] #[.pointer (some ⟨bk, 0, none⟩), .pointer (some ⟨bf, 0, none⟩)], .func (.func 47) #[] #[.pointer (some ⟨bf, 0, none⟩), .pointer (some ⟨bd, 0, none⟩)]] 74)) V → Below w.heap.size w V) := fun V h => hB0.trans (h.mono (by omega))
  have HE : Hid (∀ V : World, Below (W.heap.size + 1) (W.alloc (.cells #[.slice (some ⟨b, off, none⟩) ns.length cap, .int .i64 root, .int .u32 (sh : Int), .slice ro rules.length rc, .func (.func 46) #[] #[.pointer (some ⟨bk, 0, none⟩), .pointer (some ⟨bf, 0, none⟩)], .func (.func 47) #[] #[.pointer (some ⟨bf, 0, none⟩), .pointer (some ⟨bd, 0, none⟩)]] 74)) V → Below W.heap.size W V) := fun V h => HB1.out.trans (h.mono (by omega))
  have HZ : Hid (∀ V : World, Below (W.heap.size + 1) (W.alloc (.cells #[.slice (some ⟨b, off, none⟩) ns.length cap, .int .i64 root, .int .u32 (sh : Int), .slice ro rules.length rc, .func (.func 46) #[] #[.pointer (some ⟨bk, 0, none⟩), .pointer (some ⟨bf, 0, none⟩)], .func (.func 47) #[] #[.pointer (some ⟨bf, 0, none⟩), .pointer (some ⟨bd, 0, none⟩)]] 74)) V → W.heap.size + 1 ≤ V.heap.size) := fun V h => by have := h.size; simp only [World.size_alloc] at this; exact this
  clear hB0 hs
  have HI : Hid (Below (W.heap.size + 1) (W.alloc (.cells #[.slice (some ⟨b, off, none⟩) ns.length cap, .int .i64 root, .int .u32 (sh : Int), .slice ro rules.length rc, .func (.func 46) #[] #[.pointer (some ⟨bk, 0, none⟩), .pointer (some ⟨bf, 0, none⟩)], .func (.func 47) #[] #[.pointer (some ⟨bf, 0, none⟩), .pointer (some ⟨bd, 0, none⟩)]] 74)) (W.alloc (.cells #[.slice (some ⟨b, off, none⟩) ns.length cap, .int .i64 root, .int .u32 (sh : Int), .slice ro rules.length rc, .func (.func 46) #[] #[.pointer (some ⟨bk, 0, none⟩), .pointer (some ⟨bf, 0, none⟩)], .func (.func 47) #[] #[.pointer (some ⟨bf, 0, none⟩), .pointer (some ⟨bd, 0, none⟩)]] 74))) := Below.refl _ _
  have HT : Hid (∀ (y : Int) (V : World), thereB ns.length y = true → Below w.heap.size w V → _) := fun y V hy hV => tinto_any TC y hy V hV
  obtain ⟨R, hR⟩ : ∃ R, (tourD ns root sh rules rev).bottom x = R := ⟨_, rfl⟩
  rw [hR]
  have HR := hid hR
  clear hR
  have HTx : Hid (∀ V : World, Below w.heap.size w V → _) := fun V hV => HT.out x V hx hV
  clear TC hW
  go_enter Tryz.func60, Tryz.ntmps60
  go_wp2_with (first
            | (go_at_call 57; refine (HTx.out _ (HU.out _ HI.out)).mono ?_; rintro r1 v1 ⟨rfl, hb⟩; have HB2 := hid (HI.out.trans (hb.mono (HZ.out _ HI.out))); obtain ⟨i0, i1, i2, i3, i4, i5⟩ := HBx.out _ HB2.out; clear hb)
  )
  go_loopw [5, 6] (fun t s wr => ∃ y k : Int, t = .int .i64 y ∧ s = .int .i64 k ∧ Hid ((tourD ns root sh rules rev).into y = k) ∧ Hid (thereB ns.length y = true) ∧ Hid ((tourD ns root sh rules rev).bottom y = R) ∧ Hid (Below (W.heap.size + 1) (W.alloc (.cells #[.slice (some ⟨b, off, none⟩) ns.length cap, .int .i64 root, .int .u32 (sh : Int), .slice ro rules.length rc, .func (.func 46) #[] #[.pointer (some ⟨bk, 0, none⟩), .pointer (some ⟨bf, 0, none⟩)], .func (.func 47) #[] #[.pointer (some ⟨bf, 0, none⟩), .pointer (some ⟨bd, 0, none⟩)]] 74)) wr)) (fun t _ _ => (tourD ns root sh rules rev).rank (RowKit.intOf t))
  case atStart => exact ⟨x, _, rfl, rfl, rfl, hx, HR, HB2⟩
  case round =>
    obtain ⟨y, k, rfl, rfl, hk, hy, hY, hB⟩ := hrel
    clear hx HTx HR HB2
    obtain ⟨d0, d1, d2, d3, d4, d5⟩ := HBx.out wr hB.out
    cases c1 : (k == 0) with
    | true =>
      have n1 : (k != 0) = false := by rw [bne, c1]; rfl
      have hR0 : R = y := by rw [← hY.out]; exact TourD.bottom_end (hk.out.trans (eq_of_beq c1))
      subst hR0
      clear hY hk
      go_wp2
      go_ret
      exact ⟨rfl, HE.out _ hB.out⟩
    | false =>
      have n1 : (k != 0) = true := by rw [bne, c1]; rfl
      have h0 : (tourD ns root sh rules rev).into y ≠ 0 := by rw [hk.out]; exact beq_eq_false_iff_ne.1 c1
      obtain ⟨_, _, ht, _, hrk⟩ := (TourD.into_ok HOK.out hy.out).resolve_left h0
      have hg := TourD.bottom_go HOK.out hy.out h0
      rw [hk.out] at ht hrk hg
      have Hn : Hid ((tourD ns root sh rules rev).bottom k = R) := by rw [← hY.out]; exact hg.symm
      have Hm : Hid ((tourD ns root sh rules rev).rank k < (tourD ns root sh rules rev).rank y) := by show _ < _; omega
      have Ht : Hid (thereB ns.length k = true) := ht
      have HTk : Hid (∀ V : World, Below w.heap.size w V → _) := fun V hV => HT.out k V Ht.out hV
      clear hY hrk ht hg h0 hk
      go_wp2_with (first
            | (go_at_call 57; refine (HTk.out _ (HU.out _ hB.out)).mono ?_; rintro r1 v1 ⟨rfl, hb⟩; have HB3 := hid (hB.out.trans (hb.mono (HZ.out _ hB.out))); obtain ⟨i0, i1, i2, i3, i4, i5⟩ := HBx.out _ HB3.out; clear hb)
      )
      go_roundw
      case rel => exact ⟨k, _, rfl, rfl, rfl, Ht, Hn, HB3⟩
      case measure => exact Hm.out
set_option maxRecDepth 100000 in
set_option maxHeartbeats 4000000 in
theorem tdown_any {w : World} {b off cap : Nat} {ns : List NodeD} {root : Int} {sh : Nat} {ro : Option Addr} {rc : Nat} {rules : List RuleD} {rev : Bool} {bk bf bd : Nat} (TC : TourC w b off cap ns root sh ro rc rules rev bk bf bd) (x : Int) (hx : thereB ns.length x = true) (W : World) (hW : Below w.heap.size w W) :
    Calls Tryz.prog 40 #[.agg #[.slice (some ⟨b, off, none⟩) ns.length cap, .int .i64 root, .int .u32 (sh : Int), .slice ro rules.length rc, .func (.func 46) #[] #[.pointer (some ⟨bk, 0, none⟩), .pointer (some ⟨bf, 0, none⟩)], .func (.func 47) #[] #[.pointer (some ⟨bf, 0, none⟩), .pointer (some ⟨bd, 0, none⟩)]], .int .i64 x] W fun r w' => r = .returned (.int .i64 ((tourD ns root sh rules rev).downD x)) ∧ Below W.heap.size W w' := by
  have eg1 : ∀ args w, (callFunc 46 args).run Tryz.prog w = .ok (.enter 46 args) w := enters_of Tryz.func46 (by kernel_rfl) rfl
  have eg2 : ∀ args w, (callFunc 47 args).run Tryz.prog w = .ok (.enter 47 args) w := enters_of Tryz.func47 (by kernel_rfl) rfl
  have HOK := hid TC.ok
  have hs := hW.size
  have hB0 : Below w.heap.size w (W.alloc (.cells #[.slice (some ⟨b, off, none⟩) ns.length cap, .int .i64 root, .int .u32 (sh : Int), .slice ro rules.length rc, .func (.func 46) #[] #[.pointer (some ⟨bk, 0, none⟩), .pointer (some ⟨bf, 0, none⟩)], .func (.func 47) #[] #[.pointer (some ⟨bf, 0, none⟩), .pointer (some ⟨bd, 0, none⟩)]] 74)) := hW.alloc hW.size _
  have HB1 : Hid (Below W.heap.size W (W.alloc (.cells #[.slice (some ⟨b, off, none⟩) ns.length cap, .int .i64 root, .int .u32 (sh : Int), .slice ro rules.length rc, .func (.func 46) #[] #[.pointer (some ⟨bk, 0, none⟩), .pointer (some ⟨bf, 0, none⟩)], .func (.func 47) #[] #[.pointer (some ⟨bf, 0, none⟩), .pointer (some ⟨bd, 0, none⟩)]] 74))) := (Below.refl _ W).alloc (Nat.le_refl _) _
  have HBx : Hid (∀ V : World, Below (W.heap.size + 1) (W.alloc (.cells #[.slice (some ⟨b, off, none⟩) ns.length cap, .int .i64 root, .int .u32 (sh : Int), .slice ro rules.length rc, .func (.func 46) #[] #[.pointer (some ⟨bk, 0, none⟩), .pointer (some ⟨bf, 0, none⟩)], .func (.func 47) #[] #[.pointer (some ⟨bf, 0, none⟩), .pointer (some ⟨bd, 0, none⟩)]] 74)) V → _) := fun V h => box6 h
  have HU : Hid (∀ V : World, Below (W.heap.size + 1) (W.alloc (.cells #[.slice (some ⟨b, off, none⟩) ns.length cap, .int .i64 root, .int .u32 (sh : Int), .slice ro rules.length rc, .func (.func 46) #[] #[.pointer (some ⟨bk, 0, none⟩), .pointer (some ⟨bf, 0, none⟩)], .func (.func 47) #[] #[.pointer (some ⟨bf, 0, none⟩), .pointer (some ⟨bd, 0, none⟩)]] 74)) V → Below w.heap.size w V) := fun V h => hB0.trans (h.mono (by omega))
  have HE : Hid (∀ V : World, Below (W.heap.size + 1) (W.alloc (.cells #[.slice (some ⟨b, off, none⟩) ns.length cap, .int .i64 root, .int .u32 (sh : Int), .slice ro rules.length rc, .func (.func 46) #[] #[.pointer (some ⟨bk, 0, none⟩), .pointer (some ⟨bf, 0, none⟩)], .func (.func 47) #[] #[.pointer (some ⟨bf, 0, none⟩), .pointer (some ⟨bd, 0, none⟩)]] 74)) V → Below W.heap.size W V) := fun V h => HB1.out.trans (h.mono (by omega))
  have HZ : Hid (∀ V : World, Below (W.heap.size + 1) (W.alloc (.cells #[.slice (some ⟨b, off, none⟩) ns.length cap, .int .i64 root, .int .u32 (sh : Int), .slice ro rules.length rc, .func (.func 46) #[] #[.pointer (some ⟨bk, 0, none⟩), .pointer (some ⟨bf, 0, none⟩)], .func (.func 47) #[] #[.pointer (some ⟨bf, 0, none⟩), .pointer (some ⟨bd, 0, none⟩)]] 74)) V → W.heap.size + 1 ≤ V.heap.size) := fun V h => by have := h.size; simp only [World.size_alloc] at this; exact this
  clear hB0 hs
  have HI : Hid (Below (W.heap.size + 1) (W.alloc (.cells #[.slice (some ⟨b, off, none⟩) ns.length cap, .int .i64 root, .int .u32 (sh : Int), .slice ro rules.length rc, .func (.func 46) #[] #[.pointer (some ⟨bk, 0, none⟩), .pointer (some ⟨bf, 0, none⟩)], .func (.func 47) #[] #[.pointer (some ⟨bf, 0, none⟩), .pointer (some ⟨bd, 0, none⟩)]] 74)) (W.alloc (.cells #[.slice (some ⟨b, off, none⟩) ns.length cap, .int .i64 root, .int .u32 (sh : Int), .slice ro rules.length rc, .func (.func 46) #[] #[.pointer (some ⟨bk, 0, none⟩), .pointer (some ⟨bf, 0, none⟩)], .func (.func 47) #[] #[.pointer (some ⟨bf, 0, none⟩), .pointer (some ⟨bd, 0, none⟩)]] 74))) := Below.refl _ _
  have HT : Hid (∀ (y : Int) (V : World), thereB ns.length y = true → Below w.heap.size w V → _) := fun y V hy hV => tinto_any TC y hy V hV
  have HA : Hid (∀ (y : Int) (V : World), thereB ns.length y = true → Below w.heap.size w V → _) := fun y V hy hV => taccepts_any TC y hy V hV
  have HP : Hid (∀ (y : Int) (V : World), thereB ns.length y = true → Below w.heap.size w V → _) := fun y V hy hV => tpast_any TC x y hy V hV
  have HKx : Hid (∀ V : World, Below w.heap.size w V → _) := fun V hV => tkid_any TC x hx V hV
  have HK0 : Hid ((tourD ns root sh rules rev).kid x = 0 ∨ thereB ns.length ((tourD ns root sh rules rev).kid x) = true) := (TourD.kid_ok HOK.out hx).imp id (fun h => h.1)
  obtain ⟨R, hR⟩ : ∃ R, (tourD ns root sh rules rev).downR x ((tourD ns root sh rules rev).kid x) = R := ⟨_, rfl⟩
  have hR2 : (tourD ns root sh rules rev).downD x = R := hR
  rw [hR2]
  have HR := hid hR
  clear hR hR2
  clear TC hW
  generalize (tourD ns root sh rules rev).kid x = k0 at *
  go_enter Tryz.func40, Tryz.ntmps40
  go_wp2_with (first
            | (go_at_fn 46; refine (HKx.out _ (HU.out _ HI.out)).mono ?_; rintro r1 v1 ⟨rfl, hb⟩; have HB2 := hid (HI.out.trans (hb.mono (HZ.out _ HI.out))); obtain ⟨i0, i1, i2, i3, i4, i5⟩ := HBx.out _ HB2.out; clear hb)
  )
  go_loopw [5] (fun t wr => ∃ y : Int, t = .int .i64 y ∧ Hid (y = 0 ∨ thereB ns.length y = true) ∧ Hid ((tourD ns root sh rules rev).downR x y = R) ∧ Hid (Below (W.heap.size + 1) (W.alloc (.cells #[.slice (some ⟨b, off, none⟩) ns.length cap, .int .i64 root, .int .u32 (sh : Int), .slice ro rules.length rc, .func (.func 46) #[] #[.pointer (some ⟨bk, 0, none⟩), .pointer (some ⟨bf, 0, none⟩)], .func (.func 47) #[] #[.pointer (some ⟨bf, 0, none⟩), .pointer (some ⟨bd, 0, none⟩)]] 74)) wr)) (fun t _ => (tourD ns root sh rules rev).rank (RowKit.intOf t))
  case atStart => exact ⟨_, rfl, HK0.out, HR, HB2⟩
  case round =>
    obtain ⟨y, rfl, hy, hY, hB⟩ := hrel
    clear HR HKx HB2 HK0
    obtain ⟨d0, d1, d2, d3, d4, d5⟩ := HBx.out wr hB.out
    by_cases h0 : y = 0
    · subst h0
      have hR0 : R = 0 := by rw [← hY.out]; exact TourD.down_end x rfl
      subst hR0
      clear hY
      go_wp2
      go_ret
      exact ⟨rfl, HE.out _ hB.out⟩
    · have hyt : thereB ns.length y = true := hy.out.resolve_left h0
      have n0 : (y != 0) = true := by rw [bne, beq_eq_false_iff_ne.2 h0]; rfl
      have HAy : Hid (∀ V : World, Below w.heap.size w V → _) := fun V hV => HA.out y V hyt hV
      cases ha : (tourD ns root sh rules rev).acc y with
      | true =>
        have hR0 : R = y := by rw [← hY.out]; exact TourD.down_end x (by rw [ha, Bool.or_true])
        subst hR0
        rw [ha] at HAy
        clear hY ha
        go_wp2_with (first
            | (go_at_call 56; refine (HAy.out _ (HU.out _ hB.out)).mono ?_; rintro r1 v1 ⟨rfl, hb⟩; have HB3 := hid (hB.out.trans (hb.mono (HZ.out _ hB.out))); obtain ⟨i0, i1, i2, i3, i4, i5⟩ := HBx.out _ HB3.out; clear hb)
        )
        go_ret
        exact ⟨rfl, HE.out _ HB3.out⟩
      | false =>
        rw [ha] at HAy
        have HTy : Hid (∀ V : World, Below w.heap.size w V → _) := fun V hV => HT.out y V hyt hV
        cases c1 : ((tourD ns root sh rules rev).into y == 0) with
        | true =>
          have h1 := eq_of_beq c1
          rw [h1] at HTy
          have Hn : Hid ((tourD ns root sh rules rev).downR x ((tourD ns root sh rules rev).past y x) = R) := by rw [← hY.out]; exact (TourD.down_past HOK.out x hyt ha h1).symm
          obtain ⟨hok, hlt⟩ := TourD.past_lt HOK.out x hyt
          have Hok : Hid ((tourD ns root sh rules rev).past y x = 0 ∨ thereB ns.length ((tourD ns root sh rules rev).past y x) = true) := hok
          have Hlt : Hid ((tourD ns root sh rules rev).rank ((tourD ns root sh rules rev).past y x) < (tourD ns root sh rules rev).rank y) := hlt
          have HPy : Hid (∀ V : World, Below w.heap.size w V → _) := fun V hV => HP.out y V hyt hV
          clear hY ha hok hlt c1 h1
          generalize (tourD ns root sh rules rev).past y x = q at *
          go_wp2_with (first
            | (go_at_call 58; refine (HPy.out _ (HU.out _ HB4.out)).mono ?_; rintro r1 v1 ⟨rfl, hb⟩; have HB5 := hid (HB4.out.trans (hb.mono (HZ.out _ HB4.out))); obtain ⟨i0, i1, i2, i3, i4, i5⟩ := HBx.out _ HB5.out; clear hb)
            | (go_at_call 57; refine (HTy.out _ (HU.out _ HB3.out)).mono ?_; rintro r1 v1 ⟨rfl, hb⟩; have HB4 := hid (HB3.out.trans (hb.mono (HZ.out _ HB3.out))); obtain ⟨i0, i1, i2, i3, i4, i5⟩ := HBx.out _ HB4.out; clear hb)
            | (go_at_call 56; refine (HAy.out _ (HU.out _ hB.out)).mono ?_; rintro r1 v1 ⟨rfl, hb⟩; have HB3 := hid (hB.out.trans (hb.mono (HZ.out _ hB.out))); obtain ⟨i0, i1, i2, i3, i4, i5⟩ := HBx.out _ HB3.out; clear hb)
          )
          go_roundw
          case rel => exact ⟨q, rfl, Hok, Hn, HB5⟩
          case measure => exact Hlt.out
        | false =>
          have h1 := beq_eq_false_iff_ne.1 c1
          have n1 : ((tourD ns root sh rules rev).into y != 0) = true := by rw [bne, c1]; rfl
          have Hn : Hid ((tourD ns root sh rules rev).downR x ((tourD ns root sh rules rev).into y) = R) := by rw [← hY.out]; exact (TourD.down_into HOK.out x hyt ha h1).symm
          obtain ⟨hkk, hrj, ht, hpp, hrk⟩ := (TourD.into_ok HOK.out hyt).resolve_left h1
          have Hok : Hid ((tourD ns root sh rules rev).into y = 0 ∨ thereB ns.length ((tourD ns root sh rules rev).into y) = true) := .inr ht
          have Hlt : Hid ((tourD ns root sh rules rev).rank ((tourD ns root sh rules rev).into y) < (tourD ns root sh rules rev).rank y) := by show _ < _; omega
          clear hY ha c1 h1 ht hrk hkk hrj hpp
          generalize (tourD ns root sh rules rev).into y = q at *
          go_wp2_with (first
            | (go_at_call 57; refine (HTy.out _ (HU.out _ HB3.out)).mono ?_; rintro r1 v1 ⟨rfl, hb⟩; have HB4 := hid (HB3.out.trans (hb.mono (HZ.out _ HB3.out))); obtain ⟨i0, i1, i2, i3, i4, i5⟩ := HBx.out _ HB4.out; clear hb)
            | (go_at_call 56; refine (HAy.out _ (HU.out _ hB.out)).mono ?_; rintro r1 v1 ⟨rfl, hb⟩; have HB3 := hid (hB.out.trans (hb.mono (HZ.out _ hB.out))); obtain ⟨i0, i1, i2, i3, i4, i5⟩ := HBx.out _ HB3.out; clear hb)
          )
          go_roundw
          case rel => exact ⟨q, rfl, Hok, Hn, HB4⟩
          case measure => exact Hlt.out
set_option maxRecDepth 100000 in
set_option maxHeartbeats 4000000 in
theorem ton_any {w : World} {b off cap : Nat} {ns : List NodeD} {root : Int} {sh : Nat} {ro : Option Addr} {rc : Nat} {rules : List RuleD} {rev : Bool} {bk bf bd : Nat} (TC : TourC w b off cap ns root sh ro rc rules rev bk bf bd) (x : Int) (hx : thereB ns.length x = true) (W : World) (hW : Below w.heap.size w W) :
    Calls Tryz.prog 43 #[.agg #[.slice (some ⟨b, off, none⟩) ns.length cap, .int .i64 root, .int .u32 (sh : Int), .slice ro rules.length rc, .func (.func 46) #[] #[.pointer (some ⟨bk, 0, none⟩), .pointer (some ⟨bf, 0, none⟩)], .func (.func 47) #[] #[.pointer (some ⟨bf, 0, none⟩), .pointer (some ⟨bd, 0, none⟩)]], .int .i64 x] W fun r w' => r = .returned (.int .i64 ((tourD ns root sh rules rev).onD x)) ∧ Below W.heap.size W w' := by
  have eg1 : ∀ args w, (callFunc 46 args).run Tryz.prog w = .ok (.enter 46 args) w := enters_of Tryz.func46 (by kernel_rfl) rfl
  have eg2 : ∀ args w, (callFunc 47 args).run Tryz.prog w = .ok (.enter 47 args) w := enters_of Tryz.func47 (by kernel_rfl) rfl
  have HOK := hid TC.ok
  have hs := hW.size
  have hB0 : Below w.heap.size w (W.alloc (.cells #[.slice (some ⟨b, off, none⟩) ns.length cap, .int .i64 root, .int .u32 (sh : Int), .slice ro rules.length rc, .func (.func 46) #[] #[.pointer (some ⟨bk, 0, none⟩), .pointer (some ⟨bf, 0, none⟩)], .func (.func 47) #[] #[.pointer (some ⟨bf, 0, none⟩), .pointer (some ⟨bd, 0, none⟩)]] 74)) := hW.alloc hW.size _
  have HB1 : Hid (Below W.heap.size W (W.alloc (.cells #[.slice (some ⟨b, off, none⟩) ns.length cap, .int .i64 root, .int .u32 (sh : Int), .slice ro rules.length rc, .func (.func 46) #[] #[.pointer (some ⟨bk, 0, none⟩), .pointer (some ⟨bf, 0, none⟩)], .func (.func 47) #[] #[.pointer (some ⟨bf, 0, none⟩), .pointer (some ⟨bd, 0, none⟩)]] 74))) := (Below.refl _ W).alloc (Nat.le_refl _) _
  have HBx : Hid (∀ V : World, Below (W.heap.size + 1) (W.alloc (.cells #[.slice (some ⟨b, off, none⟩) ns.length cap, .int .i64 root, .int .u32 (sh : Int), .slice ro rules.length rc, .func (.func 46) #[] #[.pointer (some ⟨bk, 0, none⟩), .pointer (some ⟨bf, 0, none⟩)], .func (.func 47) #[] #[.pointer (some ⟨bf, 0, none⟩), .pointer (some ⟨bd, 0, none⟩)]] 74)) V → _) := fun V h => box6 h
  have HU : Hid (∀ V : World, Below (W.heap.size + 1) (W.alloc (.cells #[.slice (some ⟨b, off, none⟩) ns.length cap, .int .i64 root, .int .u32 (sh : Int), .slice ro rules.length rc, .func (.func 46) #[] #[.pointer (some ⟨bk, 0, none⟩), .pointer (some ⟨bf, 0, none⟩)], .func (.func 47) #[] #[.pointer (some ⟨bf, 0, none⟩), .pointer (some ⟨bd, 0, none⟩)]] 74)) V → Below w.heap.size w V) := fun V h => hB0.trans (h.mono (by omega))
  have HE : Hid (∀ V : World, Below (W.heap.size + 1) (W.alloc (.cells #[.slice (some ⟨b, off, none⟩) ns.length cap, .int .i64 root, .int .u32 (sh : Int), .slice ro rules.length rc, .func (.func 46) #[] #[.pointer (some ⟨bk, 0, none⟩), .pointer (some ⟨bf, 0, none⟩)], .func (.func 47) #[] #[.pointer (some ⟨bf, 0, none⟩), .pointer (some ⟨bd, 0, none⟩)]] 74)) V → Below W.heap.size W V) := fun V h => HB1.out.trans (h.mono (by omega))
  have HZ : Hid (∀ V : World, Below (W.heap.size + 1) (W.alloc (.cells #[.slice (some ⟨b, off, none⟩) ns.length cap, .int .i64 root, .int .u32 (sh : Int), .slice ro rules.length rc, .func (.func 46) #[] #[.pointer (some ⟨bk, 0, none⟩), .pointer (some ⟨bf, 0, none⟩)], .func (.func 47) #[] #[.pointer (some ⟨bf, 0, none⟩), .pointer (some ⟨bd, 0, none⟩)]] 74)) V → W.heap.size + 1 ≤ V.heap.size) := fun V h => by have := h.size; simp only [World.size_alloc] at this; exact this
  clear hB0 hs
  have HI : Hid (Below (W.heap.size + 1) (W.alloc (.cells #[.slice (some ⟨b, off, none⟩) ns.length cap, .int .i64 root, .int .u32 (sh : Int), .slice ro rules.length rc, .func (.func 46) #[] #[.pointer (some ⟨bk, 0, none⟩), .pointer (some ⟨bf, 0, none⟩)], .func (.func 47) #[] #[.pointer (some ⟨bf, 0, none⟩), .pointer (some ⟨bd, 0, none⟩)]] 74)) (W.alloc (.cells #[.slice (some ⟨b, off, none⟩) ns.length cap, .int .i64 root, .int .u32 (sh : Int), .slice ro rules.length rc, .func (.func 46) #[] #[.pointer (some ⟨bk, 0, none⟩), .pointer (some ⟨bf, 0, none⟩)], .func (.func 47) #[] #[.pointer (some ⟨bf, 0, none⟩), .pointer (some ⟨bd, 0, none⟩)]] 74))) := Below.refl _ _
  have HT : Hid (∀ (y : Int) (V : World), thereB ns.length y = true → Below w.heap.size w V → _) := fun y V hy hV => tinto_any TC y hy V hV
  have HA : Hid (∀ (y : Int) (V : World), thereB ns.length y = true → Below w.heap.size w V → _) := fun y V hy hV => taccepts_any TC y hy V hV
  have HP : Hid (∀ (y : Int) (V : World), thereB ns.length y = true → Below w.heap.size w V → _) := fun y V hy hV => tover_any TC y hy V hV
  have HKx : Hid (∀ V : World, Below w.heap.size w V → _) := fun V hV => tkid_any TC x hx V hV
  have HOx : Hid (∀ V : World, Below w.heap.size w V → _) := fun V hV => tover_any TC x hx V hV
  have HK0 : Hid ((tourD ns root sh rules rev).kid x = 0 ∨ thereB ns.length ((tourD ns root sh rules rev).kid x) = true) := (TourD.kid_ok HOK.out hx).imp id (fun h => h.1)
  have HO0 : Hid ((tourD ns root sh rules rev).over x = 0 ∨ thereB ns.length ((tourD ns root sh rules rev).over x) = true) := (TourD.over_lt HOK.out hx).1
  obtain ⟨R, hR⟩ : ∃ R, (tourD ns root sh rules rev).onR (if (tourD ns root sh rules rev).kid x == 0 then (tourD ns root sh rules rev).over x else (tourD ns root sh rules rev).kid x) = R := ⟨_, rfl⟩
  have hR2 : (tourD ns root sh rules rev).onD x = R := hR
  rw [hR2]
  clear hR2
  clear TC hW
  generalize (tourD ns root sh rules rev).kid x = k0 at *
  generalize (tourD ns root sh rules rev).over x = o0 at *
  cases c0 : (k0 == 0) with
  | false =>
    rw [c0, if_neg Bool.false_ne_true] at hR
    have HR := hid hR
    clear hR HOx HO0
    go_enter Tryz.func43, Tryz.ntmps43
    go_wp2_with (first
              | (go_at_fn 46; refine (HKx.out _ (HU.out _ HI.out)).mono ?_; rintro r1 v1 ⟨rfl, hb⟩; have HB2 := hid (HI.out.trans (hb.mono (HZ.out _ HI.out))); obtain ⟨i0, i1, i2, i3, i4, i5⟩ := HBx.out _ HB2.out; clear hb)
    )
    go_loopw [5] (fun t wr => ∃ y : Int, t = .int .i64 y ∧ Hid (y = 0 ∨ thereB ns.length y = true) ∧ Hid ((tourD ns root sh rules rev).onR y = R) ∧ Hid (Below (W.heap.size + 1) (W.alloc (.cells #[.slice (some ⟨b, off, none⟩) ns.length cap, .int .i64 root, .int .u32 (sh : Int), .slice ro rules.length rc, .func (.func 46) #[] #[.pointer (some ⟨bk, 0, none⟩), .pointer (some ⟨bf, 0, none⟩)], .func (.func 47) #[] #[.pointer (some ⟨bf, 0, none⟩), .pointer (some ⟨bd, 0, none⟩)]] 74)) wr)) (fun t _ => (tourD ns root sh rules rev).rank (RowKit.intOf t))
    case atStart => exact ⟨_, rfl, HK0.out, HR, HB2⟩
    case round =>
      obtain ⟨y, rfl, hy, hY, hB⟩ := hrel
      clear HR HKx HB2 HK0
      obtain ⟨d0, d1, d2, d3, d4, d5⟩ := HBx.out wr hB.out
      by_cases h0 : y = 0
      · subst h0
        have hR0 : R = 0 := by rw [← hY.out]; exact TourD.on_end rfl
        subst hR0
        clear hY
        go_wp2
        go_ret
        exact ⟨rfl, HE.out _ hB.out⟩
      · have hyt : thereB ns.length y = true := hy.out.resolve_left h0
        have n0 : (y != 0) = true := by rw [bne, beq_eq_false_iff_ne.2 h0]; rfl
        have HAy : Hid (∀ V : World, Below w.heap.size w V → _) := fun V hV => HA.out y V hyt hV
        cases ha : (tourD ns root sh rules rev).acc y with
        | true =>
          have hR0 : R = y := by rw [← hY.out]; exact TourD.on_end (by rw [ha, Bool.or_true])
          subst hR0
          rw [ha] at HAy
          clear hY ha
          go_wp2_with (first
              | (go_at_call 56; refine (HAy.out _ (HU.out _ hB.out)).mono ?_; rintro r1 v1 ⟨rfl, hb⟩; have HB3 := hid (hB.out.trans (hb.mono (HZ.out _ hB.out))); obtain ⟨i0, i1, i2, i3, i4, i5⟩ := HBx.out _ HB3.out; clear hb)
          )
          go_ret
          exact ⟨rfl, HE.out _ HB3.out⟩
        | false =>
          rw [ha] at HAy
          have HTy : Hid (∀ V : World, Below w.heap.size w V → _) := fun V hV => HT.out y V hyt hV
          cases c1 : ((tourD ns root sh rules rev).into y == 0) with
          | true =>
            have h1 := eq_of_beq c1
            rw [h1] at HTy
            have Hn : Hid ((tourD ns root sh rules rev).onR ((tourD ns root sh rules rev).over y) = R) := by rw [← hY.out]; exact (TourD.on_over HOK.out hyt ha h1).symm
            obtain ⟨hok, hlt⟩ := TourD.over_lt HOK.out hyt
            have Hok : Hid ((tourD ns root sh rules rev).over y = 0 ∨ thereB ns.length ((tourD ns root sh rules rev).over y) = true) := hok
            have Hlt : Hid ((tourD ns root sh rules rev).rank ((tourD ns root sh rules rev).over y) < (tourD ns root sh rules rev).rank y) := hlt
            have HPy : Hid (∀ V : World, Below w.heap.size w V → _) := fun V hV => HP.out y V hyt hV
            clear hY ha hok hlt c1 h1
            generalize (tourD ns root sh rules rev).over y = q at *
            go_wp2_with (first
              | (go_at_call 61; refine (HPy.out _ (HU.out _ HB4.out)).mono ?_; rintro r1 v1 ⟨rfl, hb⟩; have HB5 := hid (HB4.out.trans (hb.mono (HZ.out _ HB4.out))); obtain ⟨i0, i1, i2, i3, i4, i5⟩ := HBx.out _ HB5.out; clear hb)
              | (go_at_call 57; refine (HTy.out _ (HU.out _ HB3.out)).mono ?_; rintro r1 v1 ⟨rfl, hb⟩; have HB4 := hid (HB3.out.trans (hb.mono (HZ.out _ HB3.out))); obtain ⟨i0, i1, i2, i3, i4, i5⟩ := HBx.out _ HB4.out; clear hb)
              | (go_at_call 56; refine (HAy.out _ (HU.out _ hB.out)).mono ?_; rintro r1 v1 ⟨rfl, hb⟩; have HB3 := hid (hB.out.trans (hb.mono (HZ.out _ hB.out))); obtain ⟨i0, i1, i2, i3, i4, i5⟩ := HBx.out _ HB3.out; clear hb)
            )
            go_roundw
            case rel => exact ⟨q, rfl, Hok, Hn, HB5⟩
            case measure => exact Hlt.out
          | false =>
            have h1 := beq_eq_false_iff_ne.1 c1
            have n1 : ((tourD ns root sh rules rev).into y != 0) = true := by rw [bne, c1]; rfl
            have Hn : Hid ((tourD ns root sh rules rev).onR ((tourD ns root sh rules rev).into y) = R) := by rw [← hY.out]; exact (TourD.on_into HOK.out hyt ha h1).symm
            obtain ⟨hkk, hrj, ht, hpp, hrk⟩ := (TourD.into_ok HOK.out hyt).resolve_left h1
            have Hok : Hid ((tourD ns root sh rules rev).into y = 0 ∨ thereB ns.length ((tourD ns root sh rules rev).into y) = true) := .inr ht
            have Hlt : Hid ((tourD ns root sh rules rev).rank ((tourD ns root sh rules rev).into y) < (tourD ns root sh rules rev).rank y) := by show _ < _; omega
            clear hY ha c1 h1 ht hrk hkk hrj hpp
            generalize (tourD ns root sh rules rev).into y = q at *
            go_wp2_with (first
              | (go_at_call 57; refine (HTy.out _ (HU.out _ HB3.out)).mono ?_; rintro r1 v1 ⟨rfl, hb⟩; have HB4 := hid (HB3.out.trans (hb.mono (HZ.out _ HB3.out))); obtain ⟨i0, i1, i2, i3, i4, i5⟩ := HBx.out _ HB4.out; clear hb)
              | (go_at_call 56; refine (HAy.out _ (HU.out _ hB.out)).mono ?_; rintro r1 v1 ⟨rfl, hb⟩; have HB3 := hid (hB.out.trans (hb.mono (HZ.out _ hB.out))); obtain ⟨i0, i1, i2, i3, i4, i5⟩ := HBx.out _ HB3.out; clear hb)
            )
            go_roundw
            case rel => exact ⟨q, rfl, Hok, Hn, HB4⟩
            case measure => exact Hlt.out
  | true =>
    rw [c0, if_pos rfl] at hR
    have HR := hid hR
    clear hR HK0
    go_enter Tryz.func43, Tryz.ntmps43
    go_wp2_with (first
              | (go_at_call 61; refine (HOx.out _ (HU.out _ HB2.out)).mono ?_; rintro r1 v1 ⟨rfl, hb⟩; have HB3 := hid (HB2.out.trans (hb.mono (HZ.out _ HB2.out))); obtain ⟨i0, i1, i2, i3, i4, i5⟩ := HBx.out _ HB3.out; clear hb)
              | (go_at_fn 46; refine (HKx.out _ (HU.out _ HI.out)).mono ?_; rintro r1 v1 ⟨rfl, hb⟩; have HB2 := hid (HI.out.trans (hb.mono (HZ.out _ HI.out))); obtain ⟨i0, i1, i2, i3, i4, i5⟩ := HBx.out _ HB2.out; clear hb)
    )
    go_loopw [5] (fun t wr => ∃ y : Int, t = .int .i64 y ∧ Hid (y = 0 ∨ thereB ns.length y = true) ∧ Hid ((tourD ns root sh rules rev).onR y = R) ∧ Hid (Below (W.heap.size + 1) (W.alloc (.cells #[.slice (some ⟨b, off, none⟩) ns.length cap, .int .i64 root, .int .u32 (sh : Int), .slice ro rules.length rc, .func (.func 46) #[] #[.pointer (some ⟨bk, 0, none⟩), .pointer (some ⟨bf, 0, none⟩)], .func (.func 47) #[] #[.pointer (some ⟨bf, 0, none⟩), .pointer (some ⟨bd, 0, none⟩)]] 74)) wr)) (fun t _ => (tourD ns root sh rules rev).rank (RowKit.intOf t))
    case atStart => exact ⟨_, rfl, HO0.out, HR, HB3⟩
    case round =>
      obtain ⟨y, rfl, hy, hY, hB⟩ := hrel
      clear HR HKx HB2 HB3 HO0 HOx
      obtain ⟨d0, d1, d2, d3, d4, d5⟩ := HBx.out wr hB.out
      by_cases h0 : y = 0
      · subst h0
        have hR0 : R = 0 := by rw [← hY.out]; exact TourD.on_end rfl
        subst hR0
        clear hY
        go_wp2
        go_ret
        exact ⟨rfl, HE.out _ hB.out⟩
      · have hyt : thereB ns.length y = true := hy.out.resolve_left h0
        have n0 : (y != 0) = true := by rw [bne, beq_eq_false_iff_ne.2 h0]; rfl
        have HAy : Hid (∀ V : World, Below w.heap.size w V → _) := fun V hV => HA.out y V hyt hV
        cases ha : (tourD ns root sh rules rev).acc y with
        | true =>
          have hR0 : R = y := by rw [← hY.out]; exact TourD.on_end (by rw [ha, Bool.or_true])
          subst hR0
          rw [ha] at HAy
          clear hY ha
          go_wp2_with (first
              | (go_at_call 56; refine (HAy.out _ (HU.out _ hB.out)).mono ?_; rintro r1 v1 ⟨rfl, hb⟩; have HB3 := hid (hB.out.trans (hb.mono (HZ.out _ hB.out))); obtain ⟨i0, i1, i2, i3, i4, i5⟩ := HBx.out _ HB3.out; clear hb)
          )
          go_ret
          exact ⟨rfl, HE.out _ HB3.out⟩
        | false =>
          rw [ha] at HAy
          have HTy : Hid (∀ V : World, Below w.heap.size w V → _) := fun V hV => HT.out y V hyt hV
          cases c1 : ((tourD ns root sh rules rev).into y == 0) with
          | true =>
            have h1 := eq_of_beq c1
            rw [h1] at HTy
            have Hn : Hid ((tourD ns root sh rules rev).onR ((tourD ns root sh rules rev).over y) = R) := by rw [← hY.out]; exact (TourD.on_over HOK.out hyt ha h1).symm
            obtain ⟨hok, hlt⟩ := TourD.over_lt HOK.out hyt
            have Hok : Hid ((tourD ns root sh rules rev).over y = 0 ∨ thereB ns.length ((tourD ns root sh rules rev).over y) = true) := hok
            have Hlt : Hid ((tourD ns root sh rules rev).rank ((tourD ns root sh rules rev).over y) < (tourD ns root sh rules rev).rank y) := hlt
            have HPy : Hid (∀ V : World, Below w.heap.size w V → _) := fun V hV => HP.out y V hyt hV
            clear hY ha hok hlt c1 h1
            generalize (tourD ns root sh rules rev).over y = q at *
            go_wp2_with (first
              | (go_at_call 61; refine (HPy.out _ (HU.out _ HB4.out)).mono ?_; rintro r1 v1 ⟨rfl, hb⟩; have HB5 := hid (HB4.out.trans (hb.mono (HZ.out _ HB4.out))); obtain ⟨i0, i1, i2, i3, i4, i5⟩ := HBx.out _ HB5.out; clear hb)
              | (go_at_call 57; refine (HTy.out _ (HU.out _ HB3.out)).mono ?_; rintro r1 v1 ⟨rfl, hb⟩; have HB4 := hid (HB3.out.trans (hb.mono (HZ.out _ HB3.out))); obtain ⟨i0, i1, i2, i3, i4, i5⟩ := HBx.out _ HB4.out; clear hb)
              | (go_at_call 56; refine (HAy.out _ (HU.out _ hB.out)).mono ?_; rintro r1 v1 ⟨rfl, hb⟩; have HB3 := hid (hB.out.trans (hb.mono (HZ.out _ hB.out))); obtain ⟨i0, i1, i2, i3, i4, i5⟩ := HBx.out _ HB3.out; clear hb)
            )
            go_roundw
            case rel => exact ⟨q, rfl, Hok, Hn, HB5⟩
            case measure => exact Hlt.out
          | false =>
            have h1 := beq_eq_false_iff_ne.1 c1
            have n1 : ((tourD ns root sh rules rev).into y != 0) = true := by rw [bne, c1]; rfl
            have Hn : Hid ((tourD ns root sh rules rev).onR ((tourD ns root sh rules rev).into y) = R) := by rw [← hY.out]; exact (TourD.on_into HOK.out hyt ha h1).symm
            obtain ⟨hkk, hrj, ht, hpp, hrk⟩ := (TourD.into_ok HOK.out hyt).resolve_left h1
            have Hok : Hid ((tourD ns root sh rules rev).into y = 0 ∨ thereB ns.length ((tourD ns root sh rules rev).into y) = true) := .inr ht
            have Hlt : Hid ((tourD ns root sh rules rev).rank ((tourD ns root sh rules rev).into y) < (tourD ns root sh rules rev).rank y) := by show _ < _; omega
            clear hY ha c1 h1 ht hrk hkk hrj hpp
            generalize (tourD ns root sh rules rev).into y = q at *
            go_wp2_with (first
              | (go_at_call 57; refine (HTy.out _ (HU.out _ HB3.out)).mono ?_; rintro r1 v1 ⟨rfl, hb⟩; have HB4 := hid (HB3.out.trans (hb.mono (HZ.out _ HB3.out))); obtain ⟨i0, i1, i2, i3, i4, i5⟩ := HBx.out _ HB4.out; clear hb)
              | (go_at_call 56; refine (HAy.out _ (HU.out _ hB.out)).mono ?_; rintro r1 v1 ⟨rfl, hb⟩; have HB3 := hid (hB.out.trans (hb.mono (HZ.out _ hB.out))); obtain ⟨i0, i1, i2, i3, i4, i5⟩ := HBx.out _ HB3.out; clear hb)
            )
            go_roundw
            case rel => exact ⟨q, rfl, Hok, Hn, HB4⟩
            case measure => exact Hlt.out
end Go.Proofs.YteflknfejjdkfabGreat

namespace Go.Proofs.YteflknfejjdkfabGreat
open Go.RowKit Go.Lib

theorem TourD.up_post {t : TourD} (h : t.OK) {x : Int} (hx : thereB t.ns.length x = true) (hn : t.next x = 0) : t.post (t.up x) < t.post x := by
  have hl := TourD.up_len h hx
  rcases TourD.next_ok h hx with a | a
  · unfold TourD.post
    omega
  · exact absurd hn (there_ne a.1)
theorem TourD.along_lt {t : TourD} (h : t.OK) {x : Int} (hx : thereB t.ns.length x = true) (hn : t.next x = 0) (hc : (t.up x == 0 || t.up x == t.root || t.acc (t.up x)) = false) : t.alongM (t.up x, t.next (t.up x)) < t.alongM (x, 0) :=
  (TourD.along_dec h (x, 0) (t.up x, t.next (t.up x)) ⟨hx, .inl rfl, fun _ => hn⟩ (by unfold TourD.alongS; simp only [beq_self_eq_true, if_true]; rw [hc, if_neg Bool.false_ne_true])).2
theorem TourD.along_lt2 {t : TourD} (h : t.OK) {x s : Int} (hx : thereB t.ns.length x = true) (hs : thereB t.ns.length s = true) (ha : t.acc s = false) : t.alongM (s, t.aside s) < t.alongM (x, s) :=
  (TourD.along_dec h (x, s) (s, t.aside s) ⟨hx, .inr hs, fun e => absurd e (there_ne hs)⟩ (by unfold TourD.alongS; simp only [bfalse (there_ne hs), Bool.false_eq_true, if_false, ha])).2

set_option maxRecDepth 100000 in
set_option maxHeartbeats 4000000 in
theorem talong_any {w : World} {b off cap : Nat} {ns : List NodeD} {root : Int} {sh : Nat} {ro : Option Addr} {rc : Nat} {rules : List RuleD} {rev : Bool} {bk bf bd : Nat} (TC : TourC w b off cap ns root sh ro rc rules rev bk bf bd) (x : Int) (hx : thereB ns.length x = true) (W : World) (hW : Below w.heap.size w W) :
    Calls Tryz.prog 41 #[.agg #[.slice (some ⟨b, off, none⟩) ns.length cap, .int .i64 root, .int .u32 (sh : Int), .slice ro rules.length rc, .func (.func 46) #[] #[.pointer (some ⟨bk, 0, none⟩), .pointer (some ⟨bf, 0, none⟩)], .func (.func 47) #[] #[.pointer (some ⟨bf, 0, none⟩), .pointer (some ⟨bd, 0, none⟩)]], .int .i64 x] W fun r w' => r = .returned (.int .i64 ((tourD ns root sh rules rev).alongD x)) ∧ Below W.heap.size W w' := by
  have eg1 : ∀ args w, (callFunc 46 args).run Tryz.prog w = .ok (.enter 46 args) w := enters_of Tryz.func46 (by kernel_rfl) rfl
  have eg2 : ∀ args w, (callFunc 47 args).run Tryz.prog w = .ok (.enter 47 args) w := enters_of Tryz.func47 (by kernel_rfl) rfl
  have HOK := hid TC.ok
  have hs := hW.size
  have hB0 : Below w.heap.size w (W.alloc (.cells #[.slice (some ⟨b, off, none⟩) ns.length cap, .int .i64 root, .int .u32 (sh : Int), .slice ro rules.length rc, .func (.func 46) #[] #[.pointer (some ⟨bk, 0, none⟩), .pointer (some ⟨bf, 0, none⟩)], .func (.func 47) #[] #[.pointer (some ⟨bf, 0, none⟩), .pointer (some ⟨bd, 0, none⟩)]] 74)) := hW.alloc hW.size _
  have HB1 : Hid (Below W.heap.size W (W.alloc (.cells #[.slice (some ⟨b, off, none⟩) ns.length cap, .int .i64 root, .int .u32 (sh : Int), .slice ro rules.length rc, .func (.func 46) #[] #[.pointer (some ⟨bk, 0, none⟩), .pointer (some ⟨bf, 0, none⟩)], .func (.func 47) #[] #[.pointer (some ⟨bf, 0, none⟩), .pointer (some ⟨bd, 0, none⟩)]] 74))) := (Below.refl _ W).alloc (Nat.le_refl _) _
  have HBx : Hid (∀ V : World, Below (W.heap.size + 1) (W.alloc (.cells #[.slice (some ⟨b, off, none⟩) ns.length cap, .int .i64 root, .int .u32 (sh : Int), .slice ro rules.length rc, .func (.func 46) #[] #[.pointer (some ⟨bk, 0, none⟩), .pointer (some ⟨bf, 0, none⟩)], .func (.func 47) #[] #[.pointer (some ⟨bf, 0, none⟩), .pointer (some ⟨bd, 0, none⟩)]] 74)) V → _) := fun V h => box6 h
  have HU : Hid (∀ V : World, Below (W.heap.size + 1) (W.alloc (.cells #[.slice (some ⟨b, off, none⟩) ns.length cap, .int .i64 root, .int .u32 (sh : Int), .slice ro rules.length rc, .func (.func 46) #[] #[.pointer (some ⟨bk, 0, none⟩), .pointer (some ⟨bf, 0, none⟩)], .func (.func 47) #[] #[.pointer (some ⟨bf, 0, none⟩), .pointer (some ⟨bd, 0, none⟩)]] 74)) V → Below w.heap.size w V) := fun V h => hB0.trans (h.mono (by omega))
  have HE : Hid (∀ V : World, Below (W.heap.size + 1) (W.alloc (.cells #[.slice (some ⟨b, off, none⟩) ns.length cap, .int .i64 root, .int .u32 (sh : Int), .slice ro rules.length rc, .func (.func 46) #[] #[.pointer (some ⟨bk, 0, none⟩), .pointer (some ⟨bf, 0, none⟩)], .func (.func 47) #[] #[.pointer (some ⟨bf, 0, none⟩), .pointer (some ⟨bd, 0, none⟩)]] 74)) V → Below W.heap.size W V) := fun V h => HB1.out.trans (h.mono (by omega))
  have HZ : Hid (∀ V : World, Below (W.heap.size + 1) (W.alloc (.cells #[.slice (some ⟨b, off, none⟩) ns.length cap, .int .i64 root, .int .u32 (sh : Int), .slice ro rules.length rc, .func (.func 46) #[] #[.pointer (some ⟨bk, 0, none⟩), .pointer (some ⟨bf, 0, none⟩)], .func (.func 47) #[] #[.pointer (some ⟨bf, 0, none⟩), .pointer (some ⟨bd, 0, none⟩)]] 74)) V → W.heap.size + 1 ≤ V.heap.size) := fun V h => by have := h.size; simp only [World.size_alloc] at this; exact this
  clear hB0 hs
  have HI : Hid (Below (W.heap.size + 1) (W.alloc (.cells #[.slice (some ⟨b, off, none⟩) ns.length cap, .int .i64 root, .int .u32 (sh : Int), .slice ro rules.length rc, .func (.func 46) #[] #[.pointer (some ⟨bk, 0, none⟩), .pointer (some ⟨bf, 0, none⟩)], .func (.func 47) #[] #[.pointer (some ⟨bf, 0, none⟩), .pointer (some ⟨bd, 0, none⟩)]] 74)) (W.alloc (.cells #[.slice (some ⟨b, off, none⟩) ns.length cap, .int .i64 root, .int .u32 (sh : Int), .slice ro rules.length rc, .func (.func 46) #[] #[.pointer (some ⟨bk, 0, none⟩), .pointer (some ⟨bf, 0, none⟩)], .func (.func 47) #[] #[.pointer (some ⟨bf, 0, none⟩), .pointer (some ⟨bd, 0, none⟩)]] 74))) := Below.refl _ _
  have HN : Hid (∀ (y : Int) (V : World), thereB ns.length y = true → Below w.heap.size w V → _) := fun y V hy hV => tnext_any TC y hy V hV
  have HP : Hid (∀ (y : Int) (V : World), thereB ns.length y = true → Below w.heap.size w V → _) := fun y V hy hV => tparent_any TC y hy V hV
  have HA : Hid (∀ (y : Int) (V : World), thereB ns.length y = true → Below w.heap.size w V → _) := fun y V hy hV => taccepts_any TC y hy V hV
  have HS : Hid (∀ (y : Int) (V : World), thereB ns.length y = true → Below w.heap.size w V → _) := fun y V hy hV => taside_any TC y hy V hV
  clear TC hW
  have hdef : (tourD ns root sh rules rev).alongD x = if x == root then 0 else (tourD ns root sh rules rev).alongR x ((tourD ns root sh rules rev).next x) := rfl
  rw [hdef]
  clear hdef
  cases c0 : (x == root) with
  | true =>
    rw [if_pos rfl]
    go_enter Tryz.func41, Tryz.ntmps41
    go_wp2
    go_ret
    exact ⟨rfl, HE.out _ HI.out⟩
  | false =>
    rw [if_neg Bool.false_ne_true]
    obtain ⟨R, hR⟩ : ∃ R, (tourD ns root sh rules rev).alongR x ((tourD ns root sh rules rev).next x) = R := ⟨_, rfl⟩
    rw [hR]
    have HR := hid hR
    clear hR
    go_enter Tryz.func41, Tryz.ntmps41
    go_wp2
    go_loopw [5] (fun t wr => ∃ y : Int, t = .int .i64 y ∧ Hid (thereB ns.length y = true) ∧ Hid ((tourD ns root sh rules rev).alongR y ((tourD ns root sh rules rev).next y) = R) ∧ Hid (Below (W.heap.size + 1) (W.alloc (.cells #[.slice (some ⟨b, off, none⟩) ns.length cap, .int .i64 root, .int .u32 (sh : Int), .slice ro rules.length rc, .func (.func 46) #[] #[.pointer (some ⟨bk, 0, none⟩), .pointer (some ⟨bf, 0, none⟩)], .func (.func 47) #[] #[.pointer (some ⟨bf, 0, none⟩), .pointer (some ⟨bd, 0, none⟩)]] 74)) wr)) (fun t _ => (tourD ns root sh rules rev).alongM (RowKit.intOf t, (tourD ns root sh rules rev).next (RowKit.intOf t)))
    case atStart => exact ⟨x, rfl, hx, HR, HI⟩
    case round =>
      obtain ⟨y, rfl, hy, hY, hB⟩ := hrel
      clear hx HR HI c0
      obtain ⟨d0, d1, d2, d3, d4, d5⟩ := HBx.out wr hB.out
      have HNy : Hid (∀ V : World, Below w.heap.size w V → _) := fun V hV => HN.out y V hy.out hV
      have HS0 : Hid ((tourD ns root sh rules rev).next y = 0 ∨ thereB ns.length ((tourD ns root sh rules rev).next y) = true) := (TourD.next_ok HOK.out hy.out).imp (fun h => h.1) (fun h => h.1)
      have HE0 : Hid ((tourD ns root sh rules rev).next y = 0 → (tourD ns root sh rules rev).next y = 0) := fun h => h
      obtain ⟨M0, hM0⟩ : ∃ M0, (tourD ns root sh rules rev).alongM (y, (tourD ns root sh rules rev).next y) = M0 := ⟨_, rfl⟩
      have HM0 := hid hM0
      have HMM : Hid ((tourD ns root sh rules rev).alongM (y, (tourD ns root sh rules rev).next y) ≤ M0) := Nat.le_of_eq hM0
      clear hM0
      go_wp2_with (first
            | (go_at_fn 47; refine (HNy.out _ (HU.out _ hB.out)).mono ?_; rintro r1 v1 ⟨rfl, hb⟩; have HB2 := hid (hB.out.trans (hb.mono (HZ.out _ hB.out))); obtain ⟨i0, i1, i2, i3, i4, i5⟩ := HBx.out _ HB2.out; clear hb)
      )
      go_loopw [5, 6] (fun t s wr => ∃ z k : Int, t = .int .i64 z ∧ s = .int .i64 k ∧ Hid (thereB ns.length z = true) ∧ Hid (k = 0 ∨ thereB ns.length k = true) ∧ Hid (k = 0 → (tourD ns root sh rules rev).next z = 0) ∧ Hid ((tourD ns root sh rules rev).alongR z k = R) ∧ Hid ((tourD ns root sh rules rev).alongM (z, k) ≤ M0) ∧ Hid (Below (W.heap.size + 1) (W.alloc (.cells #[.slice (some ⟨b, off, none⟩) ns.length cap, .int .i64 root, .int .u32 (sh : Int), .slice ro rules.length rc, .func (.func 46) #[] #[.pointer (some ⟨bk, 0, none⟩), .pointer (some ⟨bf, 0, none⟩)], .func (.func 47) #[] #[.pointer (some ⟨bf, 0, none⟩), .pointer (some ⟨bd, 0, none⟩)]] 74)) wr)) (fun t s _ => (tourD ns root sh rules rev).alongM (RowKit.intOf t, RowKit.intOf s))
      case atStart => exact ⟨y, _, rfl, rfl, hy, HS0, HE0, hY, HMM, HB2⟩
      case round =>
        obtain ⟨z, k, rfl, rfl, hz, hk, hk0, hZ, hM, hB3⟩ := hrel
        clear hY HS0 HE0 HMM HB2 HNy
        obtain ⟨j0, j1, j2, j3, j4, j5⟩ := HBx.out wr hB3.out
        by_cases k0 : k = 0
        · subst k0
          have hn0 := hk0.out rfl
          have HPz : Hid (∀ V : World, Below w.heap.size w V → _) := fun V hV => HP.out z V hz.out hV
          cases c1 : ((tourD ns root sh rules rev).up z == 0) with
          | true =>
            have hR0 : R = 0 := by rw [← hZ.out]; exact TourD.along_stop (by rw [c1]; rfl)
            subst hR0
            clear hZ hM hk0 hn0
            generalize (tourD ns root sh rules rev).up z = p at *
            go_wp2_with (first
            | (go_at_call 55; refine (HPz.out _ (HU.out _ hB3.out)).mono ?_; rintro r1 v1 ⟨rfl, hb⟩; have HB4 := hid (hB3.out.trans (hb.mono (HZ.out _ hB3.out))); obtain ⟨i0, i1, i2, i3, i4, i5⟩ := HBx.out _ HB4.out; clear hb)
            )
            go_ret
            exact ⟨rfl, HE.out _ HB4.out⟩
          | false =>
            cases c2 : ((tourD ns root sh rules rev).up z == root) with
            | true =>
              have hR0 : R = 0 := by rw [← hZ.out]; exact TourD.along_stop (by show (_ || (tourD ns root sh rules rev).up z == root || _) = true; rw [c2, Bool.or_true, Bool.true_or])
              subst hR0
              clear hZ hM hk0 hn0
              generalize (tourD ns root sh rules rev).up z = p at *
              go_wp2_with (first
            | (go_at_call 55; refine (HPz.out _ (HU.out _ hB3.out)).mono ?_; rintro r1 v1 ⟨rfl, hb⟩; have HB4 := hid (hB3.out.trans (hb.mono (HZ.out _ hB3.out))); obtain ⟨i0, i1, i2, i3, i4, i5⟩ := HBx.out _ HB4.out; clear hb)
              )
              go_ret
              exact ⟨rfl, HE.out _ HB4.out⟩
            | false =>
              have hpt : thereB ns.length ((tourD ns root sh rules rev).up z) = true := (TourD.up_ok HOK.out hz.out).resolve_left (beq_eq_false_iff_ne.1 c1)
              have HAp : Hid (∀ V : World, Below w.heap.size w V → _) := fun V hV => HA.out _ V hpt hV
              cases ha : (tourD ns root sh rules rev).acc ((tourD ns root sh rules rev).up z) with
              | true =>
                have hR0 : R = 0 := by rw [← hZ.out]; exact TourD.along_stop (by rw [ha, Bool.or_true])
                subst hR0
                rw [ha] at HAp
                clear hZ hM hk0 hn0 ha hpt
                generalize (tourD ns root sh rules rev).up z = p at *
                go_wp2_with (first
            | (go_at_call 56; refine (HAp.out _ (HU.out _ HB4.out)).mono ?_; rintro r1 v1 ⟨rfl, hb⟩; have HB5 := hid (HB4.out.trans (hb.mono (HZ.out _ HB4.out))); obtain ⟨i0, i1, i2, i3, i4, i5⟩ := HBx.out _ HB5.out; clear hb)
            | (go_at_call 55; refine (HPz.out _ (HU.out _ hB3.out)).mono ?_; rintro r1 v1 ⟨rfl, hb⟩; have HB4 := hid (hB3.out.trans (hb.mono (HZ.out _ hB3.out))); obtain ⟨i0, i1, i2, i3, i4, i5⟩ := HBx.out _ HB4.out; clear hb)
                )
                go_ret
                exact ⟨rfl, HE.out _ HB5.out⟩
              | false =>
                have hcc : ((tourD ns root sh rules rev).up z == 0 || (tourD ns root sh rules rev).up z == (tourD ns root sh rules rev).root || (tourD ns root sh rules rev).acc ((tourD ns root sh rules rev).up z)) = false := by show ((tourD ns root sh rules rev).up z == 0 || (tourD ns root sh rules rev).up z == root || _) = false; rw [c1, c2, ha]; rfl
                have Hn : Hid ((tourD ns root sh rules rev).alongR ((tourD ns root sh rules rev).up z) ((tourD ns root sh rules rev).next ((tourD ns root sh rules rev).up z)) = R) := by rw [← hZ.out]; exact (TourD.along_up HOK.out hz.out hn0 hcc).symm
                have Hm : Hid ((tourD ns root sh rules rev).alongM ((tourD ns root sh rules rev).up z, (tourD ns root sh rules rev).next ((tourD ns root sh rules rev).up z)) < (tourD ns root sh rules rev).alongM (y, (tourD ns root sh rules rev).next y)) := by
                  have h1 := TourD.along_lt HOK.out hz.out hn0 hcc
                  have h2 := hM.out
                  have h3 := HM0.out
                  show _ < _
                  omega
                have Hpt := hid hpt
                rw [ha] at HAp
                clear hZ hM hk0 hn0 ha hpt hcc
                generalize (tourD ns root sh rules rev).up z = p at *
                go_wp2_with (first
            | (go_at_call 56; refine (HAp.out _ (HU.out _ HB4.out)).mono ?_; rintro r1 v1 ⟨rfl, hb⟩; have HB5 := hid (HB4.out.trans (hb.mono (HZ.out _ HB4.out))); obtain ⟨i0, i1, i2, i3, i4, i5⟩ := HBx.out _ HB5.out; clear hb)
            | (go_at_call 55; refine (HPz.out _ (HU.out _ hB3.out)).mono ?_; rintro r1 v1 ⟨rfl, hb⟩; have HB4 := hid (hB3.out.trans (hb.mono (HZ.out _ hB3.out))); obtain ⟨i0, i1, i2, i3, i4, i5⟩ := HBx.out _ HB4.out; clear hb)
                )
                go_roundw
                case rel => exact ⟨p, rfl, Hpt, Hn, HB5⟩
                case measure => exact Hm.out
        · have hkt : thereB ns.length k = true := hk.out.resolve_left k0
          have n0 : (k != 0) = true := by rw [bne, beq_eq_false_iff_ne.2 k0]; rfl
          have HAk : Hid (∀ V : World, Below w.heap.size w V → _) := fun V hV => HA.out k V hkt hV
          cases ha : (tourD ns root sh rules rev).acc k with
          | true =>
            have hR0 : R = k := by rw [← hZ.out]; exact TourD.along_hit z k0 ha
            subst hR0
            rw [ha] at HAk
            clear hZ hM hk0 ha
            go_wp2_with (first
            | (go_at_call 56; refine (HAk.out _ (HU.out _ hB3.out)).mono ?_; rintro r1 v1 ⟨rfl, hb⟩; have HB4 := hid (hB3.out.trans (hb.mono (HZ.out _ hB3.out))); obtain ⟨i0, i1, i2, i3, i4, i5⟩ := HBx.out _ HB4.out; clear hb)
            )
            go_ret
            exact ⟨rfl, HE.out _ HB4.out⟩
          | false =>
            have Hn : Hid ((tourD ns root sh rules rev).alongR k ((tourD ns root sh rules rev).aside k) = R) := by rw [← hZ.out]; exact (TourD.along_go HOK.out hz.out hkt ha).symm
            have hlt := TourD.along_lt2 HOK.out hz.out hkt ha
            have Hlt : Hid ((tourD ns root sh rules rev).alongM (k, (tourD ns root sh rules rev).aside k) < (tourD ns root sh rules rev).alongM (z, k)) := hlt
            have Hle : Hid ((tourD ns root sh rules rev).alongM (k, (tourD ns root sh rules rev).aside k) ≤ M0) := Nat.le_trans (Nat.le_of_lt hlt) hM.out
            have Hok : Hid ((tourD ns root sh rules rev).aside k = 0 ∨ thereB ns.length ((tourD ns root sh rules rev).aside k) = true) := (TourD.aside_ok HOK.out hkt).imp (fun h => h.1) (fun h => h.1)
            have Ho0 : Hid ((tourD ns root sh rules rev).aside k = 0 → (tourD ns root sh rules rev).next k = 0) := fun h0 => by
              rcases TourD.aside_ok HOK.out hkt with a | a
              · exact a.2
              · exact absurd h0 (there_ne a.1)
            have HSk : Hid (∀ V : World, Below w.heap.size w V → _) := fun V hV => HS.out k V hkt hV
            have Hkt := hid hkt
            rw [ha] at HAk
            clear hZ hM hk0 ha hlt
            generalize (tourD ns root sh rules rev).aside k = q at *
            go_wp2_with (first
            | (go_at_call 59; refine (HSk.out _ (HU.out _ HB4.out)).mono ?_; rintro r1 v1 ⟨rfl, hb⟩; have HB5 := hid (HB4.out.trans (hb.mono (HZ.out _ HB4.out))); obtain ⟨i0, i1, i2, i3, i4, i5⟩ := HBx.out _ HB5.out; clear hb)
            | (go_at_call 56; refine (HAk.out _ (HU.out _ hB3.out)).mono ?_; rintro r1 v1 ⟨rfl, hb⟩; have HB4 := hid (hB3.out.trans (hb.mono (HZ.out _ hB3.out))); obtain ⟨i0, i1, i2, i3, i4, i5⟩ := HBx.out _ HB4.out; clear hb)
            )
            go_roundw
            case rel => exact ⟨k, q, rfl, rfl, Hkt, Hok, Ho0, Hn, Hle, HB5⟩
            case measure => exact Hlt.out
end Go.Proofs.YteflknfejjdkfabGreat

namespace Go.Proofs.YteflknfejjdkfabGreat
open Go.RowKit Go.Lib

set_option maxRecDepth 100000 in
set_option maxHeartbeats 4000000 in
theorem tback_any {w : World} {b off cap : Nat} {ns : List NodeD} {root : Int} {sh : Nat} {ro : Option Addr} {rc : Nat} {rules : List RuleD} {rev : Bool} {bk bf bd : Nat} (TC : TourC w b off cap ns root sh ro rc rules rev bk bf bd) (x : Int) (hx : thereB ns.length x = true) (W : World) (hW : Below w.heap.size w W) :
    Calls Tryz.prog 42 #[.agg #[.slice (some ⟨b, off, none⟩) ns.length cap, .int .i64 root, .int .u32 (sh : Int), .slice ro rules.length rc, .func (.func 46) #[] #[.pointer (some ⟨bk, 0, none⟩), .pointer (some ⟨bf, 0, none⟩)], .func (.func 47) #[] #[.pointer (some ⟨bf, 0, none⟩), .pointer (some ⟨bd, 0, none⟩)]], .int .i64 x] W fun r w' => r = .returned (.int .i64 ((tourD ns root sh rules rev).backD x)) ∧ Below W.heap.size W w' := by
  have eg1 : ∀ args w, (callFunc 46 args).run Tryz.prog w = .ok (.enter 46 args) w := enters_of Tryz.func46 (by kernel_rfl) rfl
  have eg2 : ∀ args w, (callFunc 47 args).run Tryz.prog w = .ok (.enter 47 args) w := enters_of Tryz.func47 (by kernel_rfl) rfl
  have HOK := hid TC.ok
  have hs := hW.size
  have hB0 : Below w.heap.size w (W.alloc (.cells #[.slice (some ⟨b, off, none⟩) ns.length cap, .int .i64 root, .int .u32 (sh : Int), .slice ro rules.length rc, .func (.func 46) #[] #[.pointer (some ⟨bk, 0, none⟩), .pointer (some ⟨bf, 0, none⟩)], .func (.func 47) #[] #[.pointer (some ⟨bf, 0, none⟩), .pointer (some ⟨bd, 0, none⟩)]] 74)) := hW.alloc hW.size _
  have HB1 : Hid (Below W.heap.size W (W.alloc (.cells #[.slice (some ⟨b, off, none⟩) ns.length cap, .int .i64 root, .int .u32 (sh : Int), .slice ro rules.length rc, .func (.func 46) #[] #[.pointer (some ⟨bk, 0, none⟩), .pointer (some ⟨bf, 0, none⟩)], .func (.func 47) #[] #[.pointer (some ⟨bf, 0, none⟩), .pointer (some ⟨bd, 0, none⟩)]] 74))) := (Below.refl _ W).alloc (Nat.le_refl _) _
  have HBx : Hid (∀ V : World, Below (W.heap.size + 1) (W.alloc (.cells #[.slice (some ⟨b, off, none⟩) ns.length cap, .int .i64 root, .int .u32 (sh : Int), .slice ro rules.length rc, .func (.func 46) #[] #[.pointer (some ⟨bk, 0, none⟩), .pointer (some ⟨bf, 0, none⟩)], .func (.func 47) #[] #[.pointer (some ⟨bf, 0, none⟩), .pointer (some ⟨bd, 0, none⟩)]] 74)) V → _) := fun V h => box6 h
  have HU : Hid (∀ V : World, Below (W.heap.size + 1) (W.alloc (.cells #[.slice (some ⟨b, off, none⟩) ns.length cap, .int .i64 root, .int .u32 (sh : Int), .slice ro rules.length rc, .func (.func 46) #[] #[.pointer (some ⟨bk, 0, none⟩), .pointer (some ⟨bf, 0, none⟩)], .func (.func 47) #[] #[.pointer (some ⟨bf, 0, none⟩), .pointer (some ⟨bd, 0, none⟩)]] 74)) V → Below w.heap.size w V) := fun V h => hB0.trans (h.mono (by omega))
  have HE : Hid (∀ V : World, Below (W.heap.size + 1) (W.alloc (.cells #[.slice (some ⟨b, off, none⟩) ns.length cap, .int .i64 root, .int .u32 (sh : Int), .slice ro rules.length rc, .func (.func 46) #[] #[.pointer (some ⟨bk, 0, none⟩), .pointer (some ⟨bf, 0, none⟩)], .func (.func 47) #[] #[.pointer (some ⟨bf, 0, none⟩), .pointer (some ⟨bd, 0, none⟩)]] 74)) V → Below W.heap.size W V) := fun V h => HB1.out.trans (h.mono (by omega))
  have HZ : Hid (∀ V : World, Below (W.heap.size + 1) (W.alloc (.cells #[.slice (some ⟨b, off, none⟩) ns.length cap, .int .i64 root, .int .u32 (sh : Int), .slice ro rules.length rc, .func (.func 46) #[] #[.pointer (some ⟨bk, 0, none⟩), .pointer (some ⟨bf, 0, none⟩)], .func (.func 47) #[] #[.pointer (some ⟨bf, 0, none⟩), .pointer (some ⟨bd, 0, none⟩)]] 74)) V → W.heap.size + 1 ≤ V.heap.size) := fun V h => by have := h.size; simp only [World.size_alloc] at this; exact this
  clear hB0 hs
  have HI : Hid (Below (W.heap.size + 1) (W.alloc (.cells #[.slice (some ⟨b, off, none⟩) ns.length cap, .int .i64 root, .int .u32 (sh : Int), .slice ro rules.length rc, .func (.func 46) #[] #[.pointer (some ⟨bk, 0, none⟩), .pointer (some ⟨bf, 0, none⟩)], .func (.func 47) #[] #[.pointer (some ⟨bf, 0, none⟩), .pointer (some ⟨bd, 0, none⟩)]] 74)) (W.alloc (.cells #[.slice (some ⟨b, off, none⟩) ns.length cap, .int .i64 root, .int .u32 (sh : Int), .slice ro rules.length rc, .func (.func 46) #[] #[.pointer (some ⟨bk, 0, none⟩), .pointer (some ⟨bf, 0, none⟩)], .func (.func 47) #[] #[.pointer (some ⟨bf, 0, none⟩), .pointer (some ⟨bd, 0, none⟩)]] 74))) := Below.refl _ _
  have HN : Hid (∀ (y : Int) (V : World), thereB ns.length y = true → Below w.heap.size w V → _) := fun y V hy hV => tnext_any TC y hy V hV
  have HP : Hid (∀ (y : Int) (V : World), thereB ns.length y = true → Below w.heap.size w V → _) := fun y V hy hV => tparent_any TC y hy V hV
  have HA : Hid (∀ (y : Int) (V : World), thereB ns.length y = true → Below w.heap.size w V → _) := fun y V hy hV => taccepts_any TC y hy V hV
  have HD : Hid (∀ (y : Int) (V : World), thereB ns.length y = true → Below w.heap.size w V → _) := fun y V hy hV => tbottom_any TC y hy V hV
  clear TC hW
  obtain ⟨R, hR⟩ : ∃ R, (if x == root then 0 else (tourD ns root sh rules rev).backR x) = R := ⟨_, rfl⟩
  have hdef : (tourD ns root sh rules rev).backD x = R := hR
  rw [hdef]
  have HR := hid hR
  clear hdef hR
  go_enter Tryz.func42, Tryz.ntmps42
  go_wp2
  go_loopw [5] (fun t wr => ∃ y : Int, t = .int .i64 y ∧ Hid (thereB ns.length y = true) ∧ Hid ((if y == root then 0 else (tourD ns root sh rules rev).backR y) = R) ∧ Hid (Below (W.heap.size + 1) (W.alloc (.cells #[.slice (some ⟨b, off, none⟩) ns.length cap, .int .i64 root, .int .u32 (sh : Int), .slice ro rules.length rc, .func (.func 46) #[] #[.pointer (some ⟨bk, 0, none⟩), .pointer (some ⟨bf, 0, none⟩)], .func (.func 47) #[] #[.pointer (some ⟨bf, 0, none⟩), .pointer (some ⟨bd, 0, none⟩)]] 74)) wr)) (fun t _ => (tourD ns root sh rules rev).post (RowKit.intOf t))
  case atStart => exact ⟨x, rfl, hx, HR, HI⟩
  case round =>
    obtain ⟨y, rfl, hy, hY, hB⟩ := hrel
    clear hx HR HI
    obtain ⟨d0, d1, d2, d3, d4, d5⟩ := HBx.out wr hB.out
    cases c0 : (y == root) with
    | true =>
      have n0 : (y != root) = false := by rw [bne, c0]; rfl
      have hR0 : R = 0 := by rw [← hY.out, c0, if_pos rfl]
      subst hR0
      clear hY
      go_wp2
      go_ret
      exact ⟨rfl, HE.out _ hB.out⟩
    | false =>
      have n0 : (y != root) = true := by rw [bne, c0]; rfl
      have hY2 : Hid ((tourD ns root sh rules rev).backR y = R) := by
        have := hY.out
        rw [c0, if_neg Bool.false_ne_true] at this
        exact this
      clear hY
      have HNy : Hid (∀ V : World, Below w.heap.size w V → _) := fun V hV => HN.out y V hy.out hV
      obtain ⟨M0, hM0⟩ : ∃ M0, (tourD ns root sh rules rev).post y = M0 := ⟨_, rfl⟩
      have HM0 := hid hM0
      have HMM : Hid ((tourD ns root sh rules rev).post y ≤ M0) := Nat.le_of_eq hM0
      clear hM0
      go_wp2_with (first
            | (go_at_fn 47; refine (HNy.out _ (HU.out _ hB.out)).mono ?_; rintro r1 v1 ⟨rfl, hb⟩; have HB2 := hid (hB.out.trans (hb.mono (HZ.out _ hB.out))); obtain ⟨i0, i1, i2, i3, i4, i5⟩ := HBx.out _ HB2.out; clear hb)
      )
      go_loopw [5, 6] (fun t s wr => ∃ z k : Int, t = .int .i64 z ∧ s = .int .i64 k ∧ Hid (thereB ns.length z = true) ∧ Hid ((tourD ns root sh rules rev).next z = k) ∧ Hid ((tourD ns root sh rules rev).backR z = R) ∧ Hid ((tourD ns root sh rules rev).post z ≤ M0) ∧ Hid (Below (W.heap.size + 1) (W.alloc (.cells #[.slice (some ⟨b, off, none⟩) ns.length cap, .int .i64 root, .int .u32 (sh : Int), .slice ro rules.length rc, .func (.func 46) #[] #[.pointer (some ⟨bk, 0, none⟩), .pointer (some ⟨bf, 0, none⟩)], .func (.func 47) #[] #[.pointer (some ⟨bf, 0, none⟩), .pointer (some ⟨bd, 0, none⟩)]] 74)) wr)) (fun t _ _ => (tourD ns root sh rules rev).post (RowKit.intOf t))
      case atStart => exact ⟨y, _, rfl, rfl, hy, rfl, hY2, HMM, HB2⟩
      case round =>
        obtain ⟨z, k, rfl, rfl, hz, hk, hZ, hM, hB3⟩ := hrel
        clear hY2 HMM HB2 HNy c0 n0
        obtain ⟨j0, j1, j2, j3, j4, j5⟩ := HBx.out wr hB3.out
        by_cases k0 : k = 0
        · subst k0
          have HPz : Hid (∀ V : World, Below w.heap.size w V → _) := fun V hV => HP.out z V hz.out hV
          cases c1 : (z == root) with
          | true =>
            have hR0 : R = 0 := by rw [← hZ.out]; exact TourD.back_stop hk.out (by show (z == root || _) = true; rw [c1]; rfl)
            subst hR0
            clear hZ hM hk
            go_wp2
            go_ret
            exact ⟨rfl, HE.out _ hB3.out⟩
          | false =>
            cases c2 : ((tourD ns root sh rules rev).up z == 0) with
            | true =>
              have hR0 : R = 0 := by rw [← hZ.out]; exact TourD.back_stop hk.out (by rw [c2, Bool.or_true])
              subst hR0
              clear hZ hM hk
              generalize (tourD ns root sh rules rev).up z = p at *
              go_wp2_with (first
            | (go_at_call 55; refine (HPz.out _ (HU.out _ hB3.out)).mono ?_; rintro r1 v1 ⟨rfl, hb⟩; have HB4 := hid (hB3.out.trans (hb.mono (HZ.out _ hB3.out))); obtain ⟨i0, i1, i2, i3, i4, i5⟩ := HBx.out _ HB4.out; clear hb)
              )
              go_ret
              exact ⟨rfl, HE.out _ HB4.out⟩
            | false =>
              have hpt : thereB ns.length ((tourD ns root sh rules rev).up z) = true := (TourD.up_ok HOK.out hz.out).resolve_left (beq_eq_false_iff_ne.1 c2)
              have hcc : (z == (tourD ns root sh rules rev).root || (tourD ns root sh rules rev).up z == 0) = false := by show (z == root || _) = false; rw [c1, c2]; rfl
              have HAp : Hid (∀ V : World, Below w.heap.size w V → _) := fun V hV => HA.out _ V hpt hV
              cases ha : (tourD ns root sh rules rev).acc ((tourD ns root sh rules rev).up z) with
              | true =>
                have hR0 : (tourD ns root sh rules rev).up z = R := by rw [← hZ.out]; exact (TourD.back_up hk.out hcc ha).symm
                rw [ha] at HAp
                clear hZ hM hk hpt hcc
                rw [hR0] at HAp HPz c2
                clear ha hR0
                go_wp2_with (first
            | (go_at_call 56; refine (HAp.out _ (HU.out _ HB5.out)).mono ?_; rintro r1 v1 ⟨rfl, hb⟩; have HB6 := hid (HB5.out.trans (hb.mono (HZ.out _ HB5.out))); obtain ⟨i0, i1, i2, i3, i4, i5⟩ := HBx.out _ HB6.out; clear hb)
            | (go_at_call 55; refine (HPz.out _ (HU.out _ HB4.out)).mono ?_; rintro r1 v1 ⟨rfl, hb⟩; have HB5 := hid (HB4.out.trans (hb.mono (HZ.out _ HB4.out))); obtain ⟨i0, i1, i2, i3, i4, i5⟩ := HBx.out _ HB5.out; clear hb)
            | (go_at_call 55; refine (HPz.out _ (HU.out _ hB3.out)).mono ?_; rintro r1 v1 ⟨rfl, hb⟩; have HB4 := hid (hB3.out.trans (hb.mono (HZ.out _ hB3.out))); obtain ⟨i0, i1, i2, i3, i4, i5⟩ := HBx.out _ HB4.out; clear hb)
                )
                go_ret
                exact ⟨rfl, HE.out _ HB6.out⟩
              | false =>
                have Hn : Hid ((if (tourD ns root sh rules rev).up z == root then 0 else (tourD ns root sh rules rev).backR ((tourD ns root sh rules rev).up z)) = R) := by
                  rw [← hZ.out]
                  cases cr : ((tourD ns root sh rules rev).up z == root) with
                  | true => exact (TourD.back_root hk.out hcc ha cr).symm
                  | false => exact (TourD.back_over HOK.out hz.out hk.out hcc ha cr).symm
                have Hm : Hid ((tourD ns root sh rules rev).post ((tourD ns root sh rules rev).up z) < (tourD ns root sh rules rev).post y) := by
                  have h1 := TourD.up_post HOK.out hz.out hk.out
                  have h2 := hM.out
                  have h3 := HM0.out
                  show _ < _
                  omega
                have Hpt := hid hpt
                rw [ha] at HAp
                clear hZ hM hk ha hpt hcc
                generalize (tourD ns root sh rules rev).up z = p at *
                go_wp2_with (first
            | (go_at_call 56; refine (HAp.out _ (HU.out _ HB5.out)).mono ?_; rintro r1 v1 ⟨rfl, hb⟩; have HB6 := hid (HB5.out.trans (hb.mono (HZ.out _ HB5.out))); obtain ⟨i0, i1, i2, i3, i4, i5⟩ := HBx.out _ HB6.out; clear hb)
            | (go_at_call 55; refine (HPz.out _ (HU.out _ HB4.out)).mono ?_; rintro r1 v1 ⟨rfl, hb⟩; have HB5 := hid (HB4.out.trans (hb.mono (HZ.out _ HB4.out))); obtain ⟨i0, i1, i2, i3, i4, i5⟩ := HBx.out _ HB5.out; clear hb)
            | (go_at_call 55; refine (HPz.out _ (HU.out _ hB3.out)).mono ?_; rintro r1 v1 ⟨rfl, hb⟩; have HB4 := hid (hB3.out.trans (hb.mono (HZ.out _ hB3.out))); obtain ⟨i0, i1, i2, i3, i4, i5⟩ := HBx.out _ HB4.out; clear hb)
                )
                go_roundw
                case rel => exact ⟨p, rfl, Hpt, Hn, HB6⟩
                case measure => exact Hm.out
        · have n1 : (k != 0) = true := by rw [bne, beq_eq_false_iff_ne.2 k0]; rfl
          have hnz : (tourD ns root sh rules rev).next z ≠ 0 := by rw [hk.out]; exact k0
          have hkt : thereB ns.length k = true := by
            rcases TourD.next_ok HOK.out hz.out with a | a
            · exact absurd a.1 hnz
            · rw [← hk.out]; exact a.1
          obtain ⟨hbt, hbp⟩ := TourD.back_next HOK.out hz.out hnz
          have hhit := @TourD.back_hit (tourD ns root sh rules rev) z hnz
          have hgo := TourD.back_go HOK.out hz.out hnz
          rw [hk.out] at hbt hbp hhit hgo
          have hbt2 : thereB ns.length ((tourD ns root sh rules rev).bottom k) = true := hbt
          have HDk : Hid (∀ V : World, Below w.heap.size w V → _) := fun V hV => HD.out k V hkt hV
          have HAb : Hid (∀ V : World, Below w.heap.size w V → _) := fun V hV => HA.out _ V hbt2 hV
          cases ha : (tourD ns root sh rules rev).acc ((tourD ns root sh rules rev).bottom k) with
          | true =>
            have hR0 : (tourD ns root sh rules rev).bottom k = R := by rw [← hZ.out]; exact (hhit ha).symm
            rw [ha] at HAb
            rw [hR0] at HAb HDk
            clear hZ hM hk ha hhit hgo hbt hbp hbt2 hnz hR0
            go_wp2_with (first
            | (go_at_call 56; refine (HAb.out _ (HU.out _ HB4.out)).mono ?_; rintro r1 v1 ⟨rfl, hb⟩; have HB5 := hid (HB4.out.trans (hb.mono (HZ.out _ HB4.out))); obtain ⟨i0, i1, i2, i3, i4, i5⟩ := HBx.out _ HB5.out; clear hb)
            | (go_at_call 60; refine (HDk.out _ (HU.out _ hB3.out)).mono ?_; rintro r1 v1 ⟨rfl, hb⟩; have HB4 := hid (hB3.out.trans (hb.mono (HZ.out _ hB3.out))); obtain ⟨i0, i1, i2, i3, i4, i5⟩ := HBx.out _ HB4.out; clear hb)
            )
            go_ret
            exact ⟨rfl, HE.out _ HB5.out⟩
          | false =>
            have Hn : Hid ((tourD ns root sh rules rev).backR ((tourD ns root sh rules rev).bottom k) = R) := by rw [← hZ.out]; exact (hgo ha).symm
            have Hlt : Hid ((tourD ns root sh rules rev).post ((tourD ns root sh rules rev).bottom k) < (tourD ns root sh rules rev).post z) := hbp
            have Hle : Hid ((tourD ns root sh rules rev).post ((tourD ns root sh rules rev).bottom k) ≤ M0) := Nat.le_trans (Nat.le_of_lt hbp) hM.out
            have HNb : Hid (∀ V : World, Below w.heap.size w V → _) := fun V hV => HN.out _ V hbt2 hV
            have Hbt := hid hbt2
            rw [ha] at HAb
            clear hZ hM hk ha hhit hgo hbt hbp hbt2 hnz
            generalize (tourD ns root sh rules rev).bottom k = q at *
            go_wp2_with (first
            | (go_at_fn 47; refine (HNb.out _ (HU.out _ HB5.out)).mono ?_; rintro r1 v1 ⟨rfl, hb⟩; have HB6 := hid (HB5.out.trans (hb.mono (HZ.out _ HB5.out))); obtain ⟨i0, i1, i2, i3, i4, i5⟩ := HBx.out _ HB6.out; clear hb)
            | (go_at_call 56; refine (HAb.out _ (HU.out _ HB4.out)).mono ?_; rintro r1 v1 ⟨rfl, hb⟩; have HB5 := hid (HB4.out.trans (hb.mono (HZ.out _ HB4.out))); obtain ⟨i0, i1, i2, i3, i4, i5⟩ := HBx.out _ HB5.out; clear hb)
            | (go_at_call 60; refine (HDk.out _ (HU.out _ hB3.out)).mono ?_; rintro r1 v1 ⟨rfl, hb⟩; have HB4 := hid (hB3.out.trans (hb.mono (HZ.out _ hB3.out))); obtain ⟨i0, i1, i2, i3, i4, i5⟩ := HBx.out _ HB4.out; clear hb)
            )
            go_roundw
            case rel => exact ⟨q, _, rfl, rfl, Hbt, rfl, Hn, Hle, HB6⟩
            case measure => exact Hlt.out
end Go.Proofs.YteflknfejjdkfabGreat
