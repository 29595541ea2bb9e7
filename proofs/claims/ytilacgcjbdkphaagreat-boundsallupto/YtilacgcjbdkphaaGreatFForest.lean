/- Forests, as they lie; the walks of node, there, above and isOf. -/
import Derived.Test.YtilacgcjbdkphaaGreatFAttr
namespace Go.Proofs.YtilacgcjbdkphaaGreat
open Go.RowKit Go.Lib

/-- A list of numbers that is handed on. -/
def RdI (w : World) (v : Value) (l : List Int) : Prop :=
  ∃ o cap, v = .slice o l.length cap ∧ l.length ≤ cap ∧ (0 < l.length → ∃ b off, o = some ⟨b, off, none⟩ ∧ b < w.heap.size ∧ ∀ (j : Nat) (h : j < l.length), w.cell? ⟨b, off + j, none⟩ = some (.int .i64 l[j]))
theorem RdI.later {w W : World} {v : Value} {l : List Int} (h : RdI w v l) (hb : Below w.heap.size w W) : RdI W v l := by
  obtain ⟨o, cap, rfl, hc, g⟩ := h
  refine ⟨o, cap, rfl, hc, fun hp => ?_⟩
  obtain ⟨b, off, rfl, hlt, ha⟩ := g hp
  exact ⟨b, off, rfl, Nat.lt_of_lt_of_le hlt hb.size, fun j hj => (hb.cell (p := ⟨b, off + j, none⟩) hlt).trans (ha j hj)⟩
/-- Units that are handed on. -/
def RdN (w : World) (v : Value) (l : List Nat) : Prop :=
  ∃ o cap, v = .slice o l.length cap ∧ l.length ≤ cap ∧ (0 < l.length → ∃ b off, o = some ⟨b, off, none⟩ ∧ b < w.heap.size ∧ ∀ (j : Nat) (h : j < l.length), w.cell? ⟨b, off + j, none⟩ = some (.int .u16 (l[j] : Int)))
theorem RdN.later {w W : World} {v : Value} {l : List Nat} (h : RdN w v l) (hb : Below w.heap.size w W) : RdN W v l := by
  obtain ⟨o, cap, rfl, hc, g⟩ := h
  refine ⟨o, cap, rfl, hc, fun hp => ?_⟩
  obtain ⟨b, off, rfl, hlt, ha⟩ := g hp
  exact ⟨b, off, rfl, Nat.lt_of_lt_of_le hlt hb.size, fun j hj => (hb.cell (p := ⟨b, off + j, none⟩) hlt).trans (ha j hj)⟩

/-- The lists of a node. -/
structure Lists where
  data : Value
  attrs : Value
  kids : Value
/-- What lies of a node, cell by cell. -/
structure NodeCells (w : World) (b o : Nat) (n : NodeD) (L : Lists) : Prop where
  kind : w.cell? ⟨b, o, none⟩ = some (.int .u8 (n.kind : Int))
  space : w.cell? ⟨b, o + 1, none⟩ = some (.string n.space)
  pre : w.cell? ⟨b, o + 2, none⟩ = some (.string n.pre)
  loc : w.cell? ⟨b, o + 3, none⟩ = some (.string n.loc)
  pub : w.cell? ⟨b, o + 4, none⟩ = some (.string n.pub)
  sys : w.cell? ⟨b, o + 5, none⟩ = some (.string n.sys)
  data : w.cell? ⟨b, o + 6, none⟩ = some L.data
  attrs : w.cell? ⟨b, o + 7, none⟩ = some L.attrs
  parent : w.cell? ⟨b, o + 8, none⟩ = some (.int .i64 n.parent)
  kids : w.cell? ⟨b, o + 9, none⟩ = some L.kids
  doc : w.cell? ⟨b, o + 10, none⟩ = some (.int .i64 n.doc)
  host : w.cell? ⟨b, o + 11, none⟩ = some (.int .i64 n.host)
  shadow : w.cell? ⟨b, o + 12, none⟩ = some (.int .i64 n.shadow)
  mode : w.cell? ⟨b, o + 13, none⟩ = some (.int .u8 (n.mode : Int))
  manual : w.cell? ⟨b, o + 14, none⟩ = some (.bool n.manual)
  html : w.cell? ⟨b, o + 15, none⟩ = some (.bool n.html)
theorem NodeCells.later {w W : World} {b o : Nat} {n : NodeD} {L : Lists} (h : NodeCells w b o n L) (hlt : b < w.heap.size) (hb : Below w.heap.size w W) : NodeCells W b o n L where
  kind := (hb.cell (p := ⟨b, o, none⟩) hlt).trans h.kind
  space := (hb.cell (p := ⟨b, o + 1, none⟩) hlt).trans h.space
  pre := (hb.cell (p := ⟨b, o + 2, none⟩) hlt).trans h.pre
  loc := (hb.cell (p := ⟨b, o + 3, none⟩) hlt).trans h.loc
  pub := (hb.cell (p := ⟨b, o + 4, none⟩) hlt).trans h.pub
  sys := (hb.cell (p := ⟨b, o + 5, none⟩) hlt).trans h.sys
  data := (hb.cell (p := ⟨b, o + 6, none⟩) hlt).trans h.data
  attrs := (hb.cell (p := ⟨b, o + 7, none⟩) hlt).trans h.attrs
  parent := (hb.cell (p := ⟨b, o + 8, none⟩) hlt).trans h.parent
  kids := (hb.cell (p := ⟨b, o + 9, none⟩) hlt).trans h.kids
  doc := (hb.cell (p := ⟨b, o + 10, none⟩) hlt).trans h.doc
  host := (hb.cell (p := ⟨b, o + 11, none⟩) hlt).trans h.host
  shadow := (hb.cell (p := ⟨b, o + 12, none⟩) hlt).trans h.shadow
  mode := (hb.cell (p := ⟨b, o + 13, none⟩) hlt).trans h.mode
  manual := (hb.cell (p := ⟨b, o + 14, none⟩) hlt).trans h.manual
  html := (hb.cell (p := ⟨b, o + 15, none⟩) hlt).trans h.html
/-- A node lies at an address, with its lists. -/
def NodeAt (w : World) (b o : Nat) (n : NodeD) : Prop := ∃ L : Lists, NodeCells w b o n L ∧ RdN w L.data n.data ∧ RdA w L.attrs n.attrs ∧ RdI w L.kids n.kids
theorem NodeAt.later {w W : World} {b o : Nat} {n : NodeD} (h : NodeAt w b o n) (hlt : b < w.heap.size) (hb : Below w.heap.size w W) : NodeAt W b o n := by
  obtain ⟨L, h1, h2, h3, h4⟩ := h
  exact ⟨L, h1.later hlt hb, h2.later hb, h3.later hb, h4.later hb⟩
/-- A forest that has nodes lies from an address on. -/
structure FAt (w : World) (b off cap : Nat) (ns : List NodeD) : Prop where
  lt : b < w.heap.size
  cap : ns.length ≤ cap
  len : ns.length ≤ 1099511627776
  at_ : ∀ (i : Nat) (h : i < ns.length), NodeAt w b (off + i * 16) ns[i]
theorem FAt.later {w W : World} {b off cap : Nat} {ns : List NodeD} (h : FAt w b off cap ns) (hb : Below w.heap.size w W) : FAt W b off cap ns :=
  ⟨Nat.lt_of_lt_of_le h.lt hb.size, h.cap, h.len, fun i hi => (h.at_ i hi).later h.lt hb⟩
def forestV (b off cap : Nat) (n : Nat) : Value := .agg #[.slice (some ⟨b, off, none⟩) n cap]

set_option maxHeartbeats 1000000 in
theorem node_any (b off cap n i : Nat) (w : World) (hi : i < n) (hn : n ≤ 1099511627776) :
    Calls Tryz.prog 134 #[forestV b off cap n, .int .i64 ((i : Int) + 1)] w fun e w' => e = .returned (.pointer (some ⟨b, off + i * 16, none⟩)) ∧ Below w.heap.size w w' := by
  unfold forestV
  have h1 : (0 : Int) ≤ (i : Int) := by omega
  have h2 : (i : Int) < (n : Int) := by omega
  go_enter Tryz.func134, Tryz.ntmps134
  go_wp2
  go_ret
  exact ⟨rfl, (Below.refl _ w).alloc (Nat.le_refl _) _⟩

/-- Is a handle of a node? -/
def thereB (n : Nat) (h : Int) : Bool := decide (1 ≤ h) && decide (h ≤ (n : Int))
set_option maxRecDepth 100000 in
set_option maxHeartbeats 2000000 in
theorem there_any (o : Option Addr) (cap n : Nat) (v : Value) (l : List Int) (w : World) (hr : RdI w v l) (hl : l.length ≤ 1099511627776) (_hn : n ≤ 1099511627776) :
    Calls Tryz.prog 141 #[.agg #[.slice o n cap], v] w fun e w' => e = .returned (.bool (l.all (thereB n))) ∧ Below w.heap.size w w' := by
  obtain ⟨o2, c2, rfl, hc, g⟩ := hr
  obtain ⟨R, hR⟩ : ∃ R, l.all (thereB n) = R := ⟨_, rfl⟩
  rw [hR]
  have HR : Hid ((l.drop 0).all (thereB n) = R) := hR
  clear hR
  go_enter Tryz.func141, Tryz.ntmps141
  go_wp2
  go_loopw [9] (fun i wr => ∃ k : Nat, k ≤ l.length ∧ i = .int .i64 k ∧ wr = w.alloc (.cells #[.slice o n cap] 24) ∧ Hid ((l.drop k).all (thereB n) = R)) (fun i _ => l.length - (RowKit.intOf i).toNat)
  case atStart => exact ⟨0, Nat.zero_le _, rfl, rfl, HR.out⟩
  case round =>
    obtain ⟨k, hk, rfl, rfl, hr⟩ := hrel
    by_cases hlt : k < l.length
    · obtain ⟨b, off, rfl, hlt2, ha⟩ := g (by omega)
      have hx : (w.alloc (.cells #[.slice o n cap] 24)).cell? ⟨b, off + k, none⟩ = some (.int .i64 l[k]) := ((((Below.refl _ w).alloc (Nat.le_refl _) (.cells #[.slice o n cap] 24))).cell (p := ⟨b, off + k, none⟩) hlt2).trans (ha k hlt)
      have hr' := hr.out
      rw [List.drop_eq_getElem_cons hlt, List.all_cons] at hr'
      clear ha g hr
      generalize l[k] = x at *
      have Hr := hid hr'
      clear hr'
      by_cases g1 : x < 1
      · have hf : thereB n x = false := by unfold thereB; rw [decide_eq_false (by omega)]; rfl
        have hRf : R = false := by rw [← Hr.out, hf]; rfl
        subst hRf
        clear Hr hf
        have d1 : decide (x < 1) = true := decide_eq_true g1
        go_wp2
        go_ret
        exact ⟨rfl, (Below.refl _ w).alloc (Nat.le_refl _) _⟩
      · have d1 : decide (x < 1) = false := decide_eq_false g1
        by_cases g2 : (n : Int) < x
        · have hf : thereB n x = false := by unfold thereB; rw [decide_eq_false (p := x ≤ (n : Int)) (by omega), Bool.and_false]
          have hRf : R = false := by rw [← Hr.out, hf]; rfl
          subst hRf
          clear Hr hf
          have d2 : decide ((n : Int) < x) = true := decide_eq_true g2
          go_wp2
          go_ret
          exact ⟨rfl, (Below.refl _ w).alloc (Nat.le_refl _) _⟩
        · have hf : thereB n x = true := by unfold thereB; rw [decide_eq_true (by omega), decide_eq_true (by omega)]; rfl
          have d2 : decide ((n : Int) < x) = false := decide_eq_false g2
          have Hn : Hid ((l.drop (k + 1)).all (thereB n) = R) := by
            have h := Hr.out
            rw [hf, Bool.true_and] at h
            exact h
          clear Hr hf
          go_wp2
          go_roundw
          case rel => exact ⟨k + 1, by omega, by go_num, trivial, Hn⟩
          case measure => simp [RowKit.intOf]; omega
    · have hRt : R = true := by rw [← hr.out, List.drop_eq_nil_of_le (by omega)]; rfl
      subst hRt
      clear hr g
      go_wp2
      go_ret
      exact ⟨rfl, (Below.refl _ w).alloc (Nat.le_refl _) _⟩

def aboveD (n : NodeD) : Int := if n.kind == 12 then n.host else n.parent
theorem box_cell {w : World} {o : Obj} {v : World} (hb : Below (w.alloc o).heap.size (w.alloc o) v) (j : Nat) : v.cell? ⟨w.heap.size, j, none⟩ = (w.alloc o).cell? ⟨w.heap.size, j, none⟩ := hb.cell (p := ⟨w.heap.size, j, none⟩) (by simp)
theorem box_forest {w : World} {x : Value} {t : TypeId} {v : World} (hb : Below (w.alloc (.cells #[x] t)).heap.size (w.alloc (.cells #[x] t)) v) : v.cell? ⟨w.heap.size, 0, none⟩ = some x := (box_cell hb 0).trans (by simp)
theorem box_go {w v : World} {o : Obj} (hb : Below (w.alloc o).heap.size (w.alloc o) v) : Below w.heap.size w v := ((Below.refl _ w).alloc (Nat.le_refl _) o).trans (hb.mono (by simp))

set_option maxRecDepth 100000 in
set_option maxHeartbeats 2000000 in
theorem above_any (b off cap i : Nat) (ns : List NodeD) (w : World) (h : FAt w b off cap ns) (hi : i < ns.length) :
    Calls Tryz.prog 142 #[forestV b off cap ns.length, .int .i64 ((i : Int) + 1)] w fun e w' => e = .returned (.int .i64 (aboveD ns[i])) ∧ Below w.heap.size w w' := by
  have hN := node_any b off cap ns.length i (w.alloc (.cells #[.slice (some ⟨b, off, none⟩) ns.length cap] 24)) hi h.len
  have HN : Hid (∀ W : World, _) := fun W => node_any b off cap ns.length i W hi h.len
  have HF := hid h
  obtain ⟨L, hc, _⟩ := h.at_ i hi
  have Hc := hid hc
  have hlt := h.lt
  have hle := h.len
  have hec : ((ns[i].kind : Int) == 12) = (ns[i].kind == 12) := beq_cast ns[i].kind 12
  have hab : aboveD ns[i] = if ns[i].kind == 12 then ns[i].host else ns[i].parent := rfl
  rw [hab]
  clear h hc hab
  unfold forestV at *
  generalize ns[i] = x at *
  generalize (x.kind == 12) = K at *
  cases K with
  | true =>
    rw [if_pos rfl]
    go_enter Tryz.func142, Tryz.ntmps142
    go_wp2_with fail
    refine hN.mono ?_
    rintro e v1 ⟨rfl, hb1⟩
    have hc1 := Hc.out.later hlt (box_go hb1)
    have c0 := hc1.kind
    have c1 := hc1.host
    clear hc1
    go_wp2
    go_ret
    exact ⟨rfl, box_go hb1⟩
  | false =>
    rw [if_neg Bool.false_ne_true]
    go_enter Tryz.func142, Tryz.ntmps142
    go_wp2_with fail
    refine hN.mono ?_
    rintro e v1 ⟨rfl, hb1⟩
    have hc1 := Hc.out.later hlt (box_go hb1)
    have c0 := hc1.kind
    have cb := box_forest hb1
    clear hc1
    go_wp2_with fail
    refine (HN.out _).mono ?_
    rintro e v2 ⟨rfl, hb2⟩
    have hb12 := (box_go hb1).trans (hb2.mono (box_go hb1).size)
    have hc2 := Hc.out.later hlt hb12
    have c1 := hc2.parent
    clear hc2
    go_wp2
    go_ret
    exact ⟨rfl, hb12⟩

theorem one_rdI (W : World) (x : Int) (t : TypeId) : RdI (W.alloc (.cells #[.int .i64 x] t)) (.slice (some ⟨W.heap.size, 0, none⟩) 1 1) [x] :=
  ⟨_, 1, rfl, Nat.le_refl _, fun _ => ⟨_, _, rfl, by simp, fun j hj => by
    match j, hj with
    | 0, _ => simp⟩⟩
theorem there_one (o : Option Addr) (cap n : Nat) (x : Int) (W : World) (hn : n ≤ 1099511627776) :
    Calls Tryz.prog 141 #[.agg #[.slice o n cap], .slice (some ⟨W.heap.size, 0, none⟩) 1 1] (W.alloc (.cells #[.int .i64 x] 3)) fun e w' => e = .returned (.bool (thereB n x)) ∧ Below (W.alloc (.cells #[.int .i64 x] 3)).heap.size (W.alloc (.cells #[.int .i64 x] 3)) w' := by
  have h := there_any o cap n _ [x] (W.alloc (.cells #[.int .i64 x] 3)) (one_rdI W x _) (by simp) hn
  simp only [List.all_cons, List.all_nil, Bool.and_true] at h
  exact h
theorem there_idx {n : Nat} {x : Int} (h : thereB n x = true) : ∃ i : Nat, i < n ∧ x = (i : Int) + 1 := by
  unfold thereB at h
  simp only [Bool.and_eq_true, decide_eq_true_eq] at h
  exact ⟨(x - 1).toNat, by omega, by omega⟩
/-- The node of a handle. -/
def nodeOf (ns : List NodeD) (x : Int) : Option NodeD := if thereB ns.length x then ns[(x - 1).toNat]? else none
theorem nodeOf_at (ns : List NodeD) (i : Nat) (h : i < ns.length) : nodeOf ns ((i : Int) + 1) = some ns[i] := by
  unfold nodeOf thereB
  rw [decide_eq_true (by omega), decide_eq_true (by omega)]
  simp [h]
def isOfD (ns : List NodeD) (x : Int) (k : Nat) : Bool := match nodeOf ns x with
  | some n => n.kind == k
  | none => false

set_option maxRecDepth 100000 in
set_option maxHeartbeats 2000000 in
theorem isOf_any (b off cap k : Nat) (x : Int) (ns : List NodeD) (w : World) (h : FAt w b off cap ns) :
    Calls Tryz.prog 149 #[forestV b off cap ns.length, .int .i64 x, .int .u8 (k : Int)] w fun e w' => e = .returned (.bool (isOfD ns x k)) ∧ Below w.heap.size w w' := by
  have hT := there_one (some ⟨b, off, none⟩) cap ns.length x (w.alloc (.cells #[.slice (some ⟨b, off, none⟩) ns.length cap] 24)) h.len
  have HF := hid h
  have hlt := h.lt
  have hle := h.len
  have e0 : (w.alloc (.cells #[.slice (some ⟨b, off, none⟩) ns.length cap] 24)).heap.size = w.heap.size + 1 := by simp
  rw [e0] at hT
  clear e0
  cases ht : thereB ns.length x with
  | false =>
    have hA : isOfD ns x k = false := by unfold isOfD nodeOf; rw [ht]; rfl
    rw [hA]
    rw [ht] at hT
    clear hA h
    unfold forestV
    go_enter Tryz.func149, Tryz.ntmps149
    go_wp2_with (go_at_call 141; refine hT.mono ?_; rintro e v1 ⟨rfl, hb1⟩)
    go_ret
    exact ⟨rfl, box_go (((Below.refl _ _).alloc (Nat.le_refl _) _).trans (hb1.mono (by simp)))⟩
  | true =>
    obtain ⟨i, hi, rfl⟩ := there_idx ht
    have hA : isOfD ns ((i : Int) + 1) k = (ns[i].kind == k) := by unfold isOfD; rw [nodeOf_at ns i hi]
    rw [hA]
    rw [ht] at hT
    have HN : Hid (∀ W : World, _) := fun W => node_any b off cap ns.length i W hi h.len
    obtain ⟨L, hc, _⟩ := h.at_ i hi
    have Hc := hid hc
    have hec : ((ns[i].kind : Int) == (k : Int)) = (ns[i].kind == k) := beq_cast ns[i].kind k
    clear hA h hc ht
    unfold forestV at *
    generalize ns[i] = y at *
    generalize (y.kind == k) = K at *
    go_enter Tryz.func149, Tryz.ntmps149
    go_wp2_with fail
    refine hT.mono ?_
    rintro e v1 ⟨rfl, hb1⟩
    have hb1' : Below (w.alloc (.cells #[.slice (some ⟨b, off, none⟩) ns.length cap] 24)).heap.size (w.alloc (.cells #[.slice (some ⟨b, off, none⟩) ns.length cap] 24)) v1 := ((Below.refl _ _).alloc (Nat.le_refl _) _).trans (hb1.mono (by simp))
    have cb := box_forest hb1'
    have hbw := box_go hb1'
    clear hb1 hb1'
    go_wp2_with fail
    refine (HN.out _).mono ?_
    rintro e v2 ⟨rfl, hb2⟩
    have hb12 := hbw.trans (hb2.mono hbw.size)
    have c0 := (Hc.out.later hlt hb12).kind
    go_wp2
    go_ret
    exact ⟨rfl, hb12⟩
end Go.Proofs.YtilacgcjbdkphaaGreat
