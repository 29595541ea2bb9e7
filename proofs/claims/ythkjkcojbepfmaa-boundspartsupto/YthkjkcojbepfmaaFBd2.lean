/- points: all points of a forest are numbered (Of). -/
import Derived.Test.YthkjkcojbepfmaaFBd1
import Derived.Test.YthkjkcojbepfmaaFCheck
namespace Go.Proofs.Ythkjkcojbepfmaa
open Go.RowKit Go.Lib

/-- How many numbers the trees ahead have. -/
def baseN (ns : List NodeD) : Nat → Nat
  | 0 => 0
  | k + 1 => baseN ns k + (if parentD ns ((k : Int) + 1) = 0 then szD ns ((k : Int) + 1) else 0)
theorem baseN_mono (ns : List NodeD) (k d : Nat) : baseN ns k ≤ baseN ns (k + d) := by
  induction d with
  | zero => exact Nat.le_refl _
  | succ d ih => exact Nat.le_trans ih (by rw [show k + (d + 1) = (k + d) + 1 from rfl, baseN]; omega)
theorem there_of {n k : Nat} (h : k < n) : thereB n ((k : Int) + 1) = true := by
  unfold thereB
  rw [decide_eq_true (by omega), decide_eq_true (by omega)]
  rfl
/-- The trees of some roots are numbered. -/
structure SomeR (ns : List NodeD) (k : Nat) (R F L : List Int) : Prop where
  done : ∀ i : Nat, i < k → parentD ns ((i : Int) + 1) = 0 → LaidN ns ((i : Int) + 1) ((i : Int) + 1) (baseN ns i) R F L
section
variable {ns : List NodeD}
theorem root_of_all (h : RightF ns) {r y : Int} (hr : thereB ns.length r = true) (h0 : parentD ns r = 0) (hy : y ∈ allD ns r) : rootP ns y = r := by
  have hyt := all_there h hr hy
  have e : rootP ns r = r := by
    obtain ⟨a, b, c⟩ := rootP_there h hr
    rw [all_cons h a, List.mem_cons, List.mem_flatMap] at c
    rcases c with c | ⟨k, hk, c⟩
    · exact c.symm
    · exfalso
      have key : ∀ x, thereB ns.length x = true → r ∈ allD ns x → parentD ns x ≠ 0 → False := by
        refine kids_ind h _ fun x hx hi hm hp => ?_
        rw [all_cons h hx, List.mem_cons, List.mem_flatMap] at hm
        rcases hm with rfl | ⟨j, hj, hm⟩
        · exact hp h0
        · have hd := h.kidsHang.down x j hx hj
          exact hi j hj hm (by rw [hd.2]; have := there_natB hx; omega)
      have hd := h.kidsHang.down _ k a hk
      exact key k hd.1 c (by rw [hd.2]; have := there_natB a; omega)
  have h2 : y ∈ allD ns (lastI (pathUp ns (parentD ns) r)) := by
    have : lastI (pathUp ns (parentD ns) r) = r := e
    rw [this]
    exact hy
  have h3 := (in_tree h hr hyt).1 h2
  show lastI (pathUp ns (parentD ns) y) = r
  rw [← h3]
  exact e
theorem SomeR.step (h : RightF ns) {k : Nat} {R F L R' F' L' : List Int} (hk : k < ns.length) (hs : SomeR ns k R F L) (h0 : parentD ns ((k : Int) + 1) = 0) (hl : LaidN ns ((k : Int) + 1) ((k : Int) + 1) (baseN ns k) R' F' L') (kR : KeptN ns (fun y => y ∈ allD ns ((k : Int) + 1)) R R') (kF : KeptN ns (fun y => y ∈ allD ns ((k : Int) + 1)) F F') (kL : KeptN ns (fun y => y ∈ allD ns ((k : Int) + 1)) L L') : SomeR ns (k + 1) R' F' L' := by
  refine ⟨fun i hi hp => ?_⟩
  by_cases e : i = k
  · subst e
    exact hl
  · have hit : thereB ns.length ((i : Int) + 1) = true := there_of (by omega)
    refine (hs.done i (by omega) hp).kept h hit kR kF kL fun y hy hy2 => ?_
    have e1 := root_of_all h hit hp hy
    have e2 := root_of_all h (there_of hk) h0 hy2
    omega
theorem SomeR.skip {k : Nat} {R F L : List Int} (hs : SomeR ns k R F L) (h0 : parentD ns ((k : Int) + 1) ≠ 0) : SomeR ns (k + 1) R F L := by
  refine ⟨fun i hi hp => ?_⟩
  by_cases e : i = k
  · subst e
    exact absurd hp h0
  · exact hs.done i (by omega) hp
/-- All points of a forest are numbered. -/
structure NumL (ns : List NodeD) (R F L : List Int) : Prop where
  num : Num ns fun y => F.getD y.toNat 0
  root : ∀ y, thereB ns.length y = true → R.getD y.toNat 0 = rootP ns y
  last : ∀ y, thereB ns.length y = true → L.getD y.toNat 0 = F.getD y.toNat 0 + szD ns y - 1
  low : ∀ y, thereB ns.length y = true → 0 ≤ F.getD y.toNat 0
  high : ∀ y, thereB ns.length y = true → F.getD y.toNat 0 + szD ns y ≤ 1099511627776
theorem SomeR.finish (h : RightF ns) (hb : ∀ x, thereB ns.length x = true → szD ns x + 1 ≤ 67117056) (hs4 : ns.length ≤ 4096) {R F L : List Int} (hs : SomeR ns ns.length R F L) : NumL ns R F L := by
  have key : ∀ y, thereB ns.length y = true → ∃ i : Nat, i < ns.length ∧ rootP ns y = (i : Int) + 1 ∧ parentD ns ((i : Int) + 1) = 0 ∧ y ∈ allD ns ((i : Int) + 1) := fun y hy => by
    obtain ⟨a, b, c⟩ := rootP_there h hy
    have n1 := there_natB a
    refine ⟨(rootP ns y - 1).toNat, by omega, by omega, ?_, ?_⟩
    · rw [show (((rootP ns y - 1).toNat : Nat) : Int) + 1 = rootP ns y by omega]; exact b
    · rw [show (((rootP ns y - 1).toNat : Nat) : Int) + 1 = rootP ns y by omega]; exact c
  have bm : ∀ k, k ≤ ns.length → baseN ns k ≤ k * 67117056 := by
    intro k
    induction k with
    | zero => intro _; simp [baseN]
    | succ k ih =>
      intro hk
      have i1 := ih (by omega)
      have := hb ((k : Int) + 1) (there_of (by omega))
      have e : (k + 1) * 67117056 = k * 67117056 + 67117056 := by rw [Nat.add_mul, Nat.one_mul]
      rw [e, baseN]
      generalize k * 67117056 = z at i1
      by_cases hp : parentD ns ((k : Int) + 1) = 0
      · rw [if_pos hp]; omega
      · rw [if_neg hp]; omega
  have hN : Num ns fun y => F.getD y.toNat 0 := ⟨fun x hx pre k post hk => by
    obtain ⟨i, hi, _, hp, hm⟩ := key x hx
    exact ((hs.done i hi hp).all x hm).2.2 pre k post hk, fun r s hr hs' pr ps hlt => by
    have n1 := there_natB hr
    have n2 := there_natB hs'
    obtain ⟨i, e1⟩ : ∃ i : Nat, r = (i : Int) + 1 := ⟨(r - 1).toNat, by omega⟩
    obtain ⟨j, e2⟩ : ∃ j : Nat, s = (j : Int) + 1 := ⟨(s - 1).toNat, by omega⟩
    subst e1 e2
    have f1 := (hs.done i (by omega) pr).first
    have f2 := (hs.done j (by omega) ps).first
    have hm := baseN_mono ns (i + 1) (j - (i + 1))
    rw [show i + 1 + (j - (i + 1)) = j by omega, baseN, if_pos pr] at hm
    show F.getD ((i : Int) + 1).toNat 0 + _ ≤ F.getD ((j : Int) + 1).toNat 0
    rw [f1, f2]
    omega⟩
  have lo : ∀ y, thereB ns.length y = true → 0 ≤ F.getD y.toNat 0 ∧ F.getD y.toNat 0 + szD ns y ≤ 1099511627776 := fun y hy => by
    obtain ⟨i, hi, _, hp, hm⟩ := key y hy
    have hin := num_in h hN y _ (there_of hi) hm
    have f1 := (hs.done i hi hp).first
    have := bm i (by omega)
    have := hb ((i : Int) + 1) (there_of hi)
    have h4 : i * 67117056 ≤ 4096 * 67117056 := Nat.mul_le_mul_right _ (by omega)
    rw [f1] at hin
    omega
  exact ⟨hN, fun y hy => by
    obtain ⟨i, hi, e, hp, hm⟩ := key y hy
    rw [e]
    exact ((hs.done i hi hp).all y hm).1, fun y hy => by
    obtain ⟨i, hi, e, hp, hm⟩ := key y hy
    exact ((hs.done i hi hp).all y hm).2.1, fun y hy => (lo y hy).1, fun y hy => (lo y hy).2⟩
end
theorem baseN_le {ns : List NodeD} (h : RightF ns) (k : Nat) (hk : k ≤ ns.length) : baseN ns k ≤ 274911461376 := by
  have key : ∀ k, k ≤ ns.length → baseN ns k ≤ k * 67117056 := by
    intro k
    induction k with
    | zero => intro _; simp [baseN]
    | succ k ih =>
      intro hk
      have i1 := ih (by omega)
      have := h.sz (there_of (n := ns.length) (k := k) (by omega))
      have e : (k + 1) * 67117056 = k * 67117056 + 67117056 := by rw [Nat.add_mul, Nat.one_mul]
      rw [e, baseN]
      generalize k * 67117056 = z at i1
      by_cases hp : parentD ns ((k : Int) + 1) = 0
      · rw [if_pos hp]; omega
      · rw [if_neg hp]; omega
  have h1 := key k hk
  have h2 : k * 67117056 ≤ 4096 * 67117056 := Nat.mul_le_mul_right _ (Nat.le_trans hk h.small)
  omega
/-- The numbers, as they lie. -/
def NumsAt (ns : List NodeD) (W : World) (bR bF bL : Nat) : Prop := ∃ R F L, IntsAt W bR R ∧ IntsAt W bF F ∧ IntsAt W bL L ∧ R.length = ns.length + 1 ∧ F.length = ns.length + 1 ∧ L.length = ns.length + 1 ∧ NumL ns R F L
theorem NumsAt.later {ns : List NodeD} {w W : World} {bR bF bL : Nat} (h : NumsAt ns w bR bF bL) (hb : Below w.heap.size w W) : NumsAt ns W bR bF bL := by
  obtain ⟨R, F, L, a, b, c, d⟩ := h
  exact ⟨R, F, L, a.later hb, b.later hb, c.later hb, d⟩
theorem quad_below (w : World) (a b c d : Obj) : Below w.heap.size w ((((w.alloc a).alloc b).alloc c).alloc d).drew :=
  ((((Below.refl _ w).alloc (Nat.le_refl _) a).alloc (by simp) b).alloc (by simp; omega) c).alloc (by simp; omega) d |>.drew
theorem quad_0 (w : World) (a b c d : Obj) : ((((w.alloc a).alloc b).alloc c).alloc d).drew.heap[w.heap.size]? = some a := by
  show ((((w.alloc a).alloc b).alloc c).alloc d).heap[w.heap.size]? = some a
  rw [Below.heap_alloc _ _ _ (by simp only [World.size_alloc]; omega), Below.heap_alloc _ _ _ (by simp only [World.size_alloc]; omega), Below.heap_alloc _ _ _ (by simp only [World.size_alloc]; omega)]
  exact heap_new w a
theorem quad_1 (w : World) (a b c d : Obj) : ((((w.alloc a).alloc b).alloc c).alloc d).drew.heap[w.heap.size + 1]? = some b := by
  have h := heap_new (w.alloc a) b
  simp only [World.size_alloc] at h
  show ((((w.alloc a).alloc b).alloc c).alloc d).heap[w.heap.size + 1]? = some b
  rw [Below.heap_alloc _ _ _ (by simp only [World.size_alloc]; omega), Below.heap_alloc _ _ _ (by simp only [World.size_alloc]; omega)]
  exact h
theorem quad_2 (w : World) (a b c d : Obj) : ((((w.alloc a).alloc b).alloc c).alloc d).drew.heap[w.heap.size + 1 + 1]? = some c := by
  have h := heap_new ((w.alloc a).alloc b) c
  simp only [World.size_alloc] at h
  show ((((w.alloc a).alloc b).alloc c).alloc d).heap[w.heap.size + 1 + 1]? = some c
  rw [Below.heap_alloc _ _ _ (by simp only [World.size_alloc]; omega)]
  exact h
theorem quad_3 (w : World) (a b c d : Obj) : ((((w.alloc a).alloc b).alloc c).alloc d).drew.heap[w.heap.size + 1 + 1 + 1]? = some d := by
  have h := heap_new (((w.alloc a).alloc b).alloc c) d
  simp only [World.size_alloc] at h
  show ((((w.alloc a).alloc b).alloc c).alloc d).heap[w.heap.size + 1 + 1 + 1]? = some d
  exact h
/-- Numbers lie behind the making of lists. -/
structure Made4 (w : World) (o : Option Addr) (cap n bR bF bL N bs : Nat) (wx : World) : Prop where
  below : Below w.heap.size w wx
  sv : wx.heap[bs]? = some (numsO o cap n bR bF bL N)
  hR : wx.heap[bR]? = some (.cells (madeCells #[.int .i64 0] N) 3)
  hF : wx.heap[bF]? = some (.cells (madeCells #[.int .i64 0] N) 3)
  hL : wx.heap[bL]? = some (.cells (madeCells #[.int .i64 0] N) 3)
  far : w.heap.size ≤ bR ∧ w.heap.size ≤ bF ∧ w.heap.size ≤ bL ∧ w.heap.size ≤ bs ∧ bR ≠ bF ∧ bR ≠ bL ∧ bF ≠ bL ∧ bs ≠ bR ∧ bs ≠ bF ∧ bs ≠ bL
theorem shut0 {w : World} {o : Option Addr} {cap n bR bF bL N : Nat} {b c d : Obj} (h1 : (((((w.alloc (numsO o cap n bR bF bL N)).alloc b).alloc c).alloc d).drew).heap[bR]? = some (.cells (madeCells #[.int .i64 0] N) 3)) (h2 : (((((w.alloc (numsO o cap n bR bF bL N)).alloc b).alloc c).alloc d).drew).heap[bF]? = some (.cells (madeCells #[.int .i64 0] N) 3)) (h3 : (((((w.alloc (numsO o cap n bR bF bL N)).alloc b).alloc c).alloc d).drew).heap[bL]? = some (.cells (madeCells #[.int .i64 0] N) 3))
    (far : w.heap.size ≤ bR ∧ w.heap.size ≤ bF ∧ w.heap.size ≤ bL ∧ w.heap.size ≤ w.heap.size ∧ bR ≠ bF ∧ bR ≠ bL ∧ bF ≠ bL ∧ w.heap.size ≠ bR ∧ w.heap.size ≠ bF ∧ w.heap.size ≠ bL) :
    ∃ x y z u : Nat, Value.pointer (some ⟨w.heap.size, 0, none⟩) = .pointer (some ⟨u, 0, none⟩) ∧ Made4 w o cap n x y z N u (((((w.alloc (numsO o cap n bR bF bL N)).alloc b).alloc c).alloc d).drew) :=
  ⟨bR, bF, bL, _, rfl, quad_below _ _ _ _ _, quad_0 _ _ _ _ _, h1, h2, h3, far⟩
theorem shut1 {w : World} {o : Option Addr} {cap n bR bF bL N : Nat} {a c d : Obj} (h1 : (((((w.alloc a).alloc (numsO o cap n bR bF bL N)).alloc c).alloc d).drew).heap[bR]? = some (.cells (madeCells #[.int .i64 0] N) 3)) (h2 : (((((w.alloc a).alloc (numsO o cap n bR bF bL N)).alloc c).alloc d).drew).heap[bF]? = some (.cells (madeCells #[.int .i64 0] N) 3)) (h3 : (((((w.alloc a).alloc (numsO o cap n bR bF bL N)).alloc c).alloc d).drew).heap[bL]? = some (.cells (madeCells #[.int .i64 0] N) 3))
    (far : w.heap.size ≤ bR ∧ w.heap.size ≤ bF ∧ w.heap.size ≤ bL ∧ w.heap.size ≤ w.heap.size + 1 ∧ bR ≠ bF ∧ bR ≠ bL ∧ bF ≠ bL ∧ w.heap.size + 1 ≠ bR ∧ w.heap.size + 1 ≠ bF ∧ w.heap.size + 1 ≠ bL) :
    ∃ x y z u : Nat, Value.pointer (some ⟨w.heap.size + 1, 0, none⟩) = .pointer (some ⟨u, 0, none⟩) ∧ Made4 w o cap n x y z N u (((((w.alloc a).alloc (numsO o cap n bR bF bL N)).alloc c).alloc d).drew) :=
  ⟨bR, bF, bL, _, rfl, quad_below _ _ _ _ _, quad_1 _ _ _ _ _, h1, h2, h3, far⟩
theorem shut2 {w : World} {o : Option Addr} {cap n bR bF bL N : Nat} {a b d : Obj} (h1 : (((((w.alloc a).alloc b).alloc (numsO o cap n bR bF bL N)).alloc d).drew).heap[bR]? = some (.cells (madeCells #[.int .i64 0] N) 3)) (h2 : (((((w.alloc a).alloc b).alloc (numsO o cap n bR bF bL N)).alloc d).drew).heap[bF]? = some (.cells (madeCells #[.int .i64 0] N) 3)) (h3 : (((((w.alloc a).alloc b).alloc (numsO o cap n bR bF bL N)).alloc d).drew).heap[bL]? = some (.cells (madeCells #[.int .i64 0] N) 3))
    (far : w.heap.size ≤ bR ∧ w.heap.size ≤ bF ∧ w.heap.size ≤ bL ∧ w.heap.size ≤ w.heap.size + 1 + 1 ∧ bR ≠ bF ∧ bR ≠ bL ∧ bF ≠ bL ∧ w.heap.size + 1 + 1 ≠ bR ∧ w.heap.size + 1 + 1 ≠ bF ∧ w.heap.size + 1 + 1 ≠ bL) :
    ∃ x y z u : Nat, Value.pointer (some ⟨w.heap.size + 1 + 1, 0, none⟩) = .pointer (some ⟨u, 0, none⟩) ∧ Made4 w o cap n x y z N u (((((w.alloc a).alloc b).alloc (numsO o cap n bR bF bL N)).alloc d).drew) :=
  ⟨bR, bF, bL, _, rfl, quad_below _ _ _ _ _, quad_2 _ _ _ _ _, h1, h2, h3, far⟩
theorem shut3 {w : World} {o : Option Addr} {cap n bR bF bL N : Nat} {a b c : Obj} (h1 : (((((w.alloc a).alloc b).alloc c).alloc (numsO o cap n bR bF bL N)).drew).heap[bR]? = some (.cells (madeCells #[.int .i64 0] N) 3)) (h2 : (((((w.alloc a).alloc b).alloc c).alloc (numsO o cap n bR bF bL N)).drew).heap[bF]? = some (.cells (madeCells #[.int .i64 0] N) 3)) (h3 : (((((w.alloc a).alloc b).alloc c).alloc (numsO o cap n bR bF bL N)).drew).heap[bL]? = some (.cells (madeCells #[.int .i64 0] N) 3))
    (far : w.heap.size ≤ bR ∧ w.heap.size ≤ bF ∧ w.heap.size ≤ bL ∧ w.heap.size ≤ w.heap.size + 1 + 1 + 1 ∧ bR ≠ bF ∧ bR ≠ bL ∧ bF ≠ bL ∧ w.heap.size + 1 + 1 + 1 ≠ bR ∧ w.heap.size + 1 + 1 + 1 ≠ bF ∧ w.heap.size + 1 + 1 + 1 ≠ bL) :
    ∃ x y z u : Nat, Value.pointer (some ⟨w.heap.size + 1 + 1 + 1, 0, none⟩) = .pointer (some ⟨u, 0, none⟩) ∧ Made4 w o cap n x y z N u (((((w.alloc a).alloc b).alloc c).alloc (numsO o cap n bR bF bL N)).drew) :=
  ⟨bR, bF, bL, _, rfl, quad_below _ _ _ _ _, quad_3 _ _ _ _ _, h1, h2, h3, far⟩
theorem set4_below {w X : World} {B : Nat} (h : Below w.heap.size w X) (hB : w.heap.size ≤ B) (a b c d : Value) : Below w.heap.size w ((((X.setCell ⟨B, 0, none⟩ a).setCell ⟨B, 1, none⟩ b).setCell ⟨B, 2, none⟩ c).setCell ⟨B, 3, none⟩ d) := (((h.setCell hB a).setCell hB b).setCell hB c).setCell hB d
theorem ints_at_made {W : World} {g n : Nat} (h : W.heap[g]? = some (.cells (madeCells #[.int .i64 0] n) 3)) : IntsAt W g (List.replicate n 0) := by
  rw [made_ints] at h
  exact h

set_option maxRecDepth 100000 in
set_option maxHeartbeats 4000000 in
theorem Of_err (o : Option Addr) (cap : Nat) (ns : List NodeD) (w : World) (hF : FRd w o cap ns) (hkl : ∀ (i : Nat) (hi : i < ns.length), ns[i].kids.length ≤ 1099511627776) (hal : ∀ (i : Nat) (hi : i < ns.length), ns[i].attrs.length ≤ 1099511627776) (hr : rightD ns = false) :
    Calls Try.prog 28 #[.agg #[.slice o ns.length cap]] w fun e w' => e = .returned (.tuple #[.agg #[.slice none 0 0, .slice none 0 0, .slice none 0 0, .slice none 0 0], .int .i64 5]) ∧ Below w.heap.size w w' := by
  have hle := hF.len
  obtain ⟨bx, g0, g1, sx⟩ := two_newB w (.cells #[.slice o ns.length cap] 24) (.cells #[.slice none 0 0, .slice none 0 0, .slice none 0 0, .slice none 0 0] 52)
  have hC := Check_any o cap ns ((w.alloc (.cells #[.slice o ns.length cap] 24)).alloc (.cells #[.slice none 0 0, .slice none 0 0, .slice none 0 0, .slice none 0 0] 52)) (hF.later bx) hkl hal
  have hE : checkE ns = 5 := by unfold checkE; rw [hr]; rfl
  rw [hE] at hC
  have Hbx := hid bx
  have HG1 := hid g1
  have Hsx := hid sx
  clear bx g0 g1 sx hE hr hkl hal hF
  go_enter Try.func28, Try.ntmps28
  go_wp2_with fail
  refine hC.mono ?_
  rintro e v1 ⟨rfl, hb1⟩
  have hs1 := hb1.size
  have sx := Hsx.out
  have k1 := (hb1.block (w.heap.size + 1) (by omega)).trans HG1.out
  obtain ⟨r0, r1, r2, r3⟩ := sv_cells k1
  obtain ⟨z0, z1, z2, z3⟩ := sv_free k1
  have HB := hid (Hbx.out.trans (hb1.mono Hbx.out.size))
  clear hb1 hC k1 sx hs1
  go_wp2
  exact bodyPost_ret (v := .tuple #[.agg #[.slice none 0 0, .slice none 0 0, .slice none 0 0, .slice none 0 0], .int .i64 5]) (by simp [results, Try.results28, go_sem, r0, r1, r2, r3]) rfl ⟨rfl, set4_below HB.out (Nat.le_succ _) _ _ _ _⟩

set_option maxRecDepth 100000 in
set_option maxHeartbeats 8000000 in
theorem Of_ok (o : Option Addr) (cap : Nat) (ns : List NodeD) (w : World) (hF : FRd w o cap ns) (hkl : ∀ (i : Nat) (hi : i < ns.length), ns[i].kids.length ≤ 1099511627776) (hal : ∀ (i : Nat) (hi : i < ns.length), ns[i].attrs.length ≤ 1099511627776) (hR : RightF ns) :
    Calls Try.prog 28 #[.agg #[.slice o ns.length cap]] w fun e w' => ∃ bR bF bL, e = .returned (.tuple #[numsV o cap ns.length bR bF bL (ns.length + 1), .int .i64 0]) ∧ Below w.heap.size w w' ∧ NumsAt ns w' bR bF bL := by
  have hle := hF.len
  have hsm := hR.small
  obtain ⟨N, hN⟩ : ∃ N, N = ns.length + 1 := ⟨_, rfl⟩
  have hNe : (ns.length : Int) + 1 = (N : Int) := by omega
  rw [← hN]
  obtain ⟨bx, g0, g1, sx⟩ := two_newB w (.cells #[.slice o ns.length cap] 24) (.cells #[.slice none 0 0, .slice none 0 0, .slice none 0 0, .slice none 0 0] 52)
  have hC := Check_any o cap ns ((w.alloc (.cells #[.slice o ns.length cap] 24)).alloc (.cells #[.slice none 0 0, .slice none 0 0, .slice none 0 0, .slice none 0 0] 52)) (hF.later bx) hkl hal
  obtain ⟨hE, hE2⟩ := checkE_right ((rightD_iff ns).2 hR)
  rw [hE, hE2] at hC
  have Hbx := hid bx
  have HG0 := hid g0
  have HG1 := hid g1
  have Hsx := hid sx
  have HF := hid hF
  have HR := hid hR
  have HN := hid hN
  have hmk := make_ints N (by omega)
  clear bx g0 g1 sx hE hE2 hkl hal hF hR hN
  go_enter Try.func28, Try.ntmps28
  go_wp2_with fail
  refine hC.mono ?_
  rintro e v1 ⟨rfl, hb1⟩
  have hs1 := hb1.size
  have sx := Hsx.out
  have k0 := (hb1.block w.heap.size (by omega)).trans HG0.out
  have k1 := (hb1.block (w.heap.size + 1) (by omega)).trans HG1.out
  have c0 := (box_cell_l k0).1
  have Hbase := hid c0
  have HK0 := hid k0
  have HK1 := hid k1
  have HB := hid (Hbx.out.trans (hb1.mono Hbx.out.size))
  have hsv : w.heap.size + 1 < v1.heap.size := by omega
  clear hb1 hC k0 k1 sx hs1 HG0 HG1
  go_upto_region 5 with fail
  go_cut [7] (fun t wx => ∃ bR bF bL bs : Nat, t = .pointer (some ⟨bs, 0, none⟩) ∧ Made4 v1 o cap ns.length bR bF bL N bs wx)
  case first =>
    --slow
    go_region_held (fun W => W.cell? ⟨w.heap.size, 0, none⟩ = some (.slice o ns.length cap)) (first | exact keep_dr (keep_al (keep_al (keep_al Hbase.out))) | exact keep_dr (keep_al (keep_al (keep_al (keep_al Hbase.out)))) | go_keep) (fail)
    all_goals
      go_wp2_with fail
      go_meet
      first
        | refine shut3 ?_ ?_ ?_ ?_
        | refine shut2 ?_ ?_ ?_ ?_
        | refine shut1 ?_ ?_ ?_ ?_
        | refine shut0 ?_ ?_ ?_ ?_
      all_goals first | exact quad_3 _ _ _ _ _ | exact quad_2 _ _ _ _ _ | exact quad_1 _ _ _ _ _ | exact quad_0 _ _ _ _ _ | omega
    --end slow
  case rest =>
    obtain ⟨bR, bF, bL, bs, rfl, hM⟩ := hcut
    have HM := hid hM
    obtain ⟨f1, f2, f3, f4, f5, f6, f7, f8, f9, f10⟩ := hM.far
    have hBc := hM.below
    have HIR := hid (ints_at_made hM.hR)
    have HIF := hid (ints_at_made hM.hF)
    have HIL := hid (ints_at_made hM.hL)
    have HBc := hid hBc
    have hsc := hBc.size
    have hlt4 : bs < wc.heap.size := (Array.getElem?_eq_some_iff.1 hM.sv).1
    have HIn : Hid (∀ V : World, Wrote [bR, bF, bL] wc V → V.heap[w.heap.size]? = some (.cells #[.slice o ns.length cap] 24) ∧ V.heap[w.heap.size + 1]? = some (.cells #[.slice none 0 0, .slice none 0 0, .slice none 0 0, .slice none 0 0] 52) ∧ V.heap[bs]? = some (numsO o cap ns.length bR bF bL N) ∧ Below v1.heap.size v1 V) := by
      intro V hV
      exact ⟨(hV.block _ (by omega) (by simp; omega)).trans ((hBc.block _ (by omega)).trans HK0.out), (hV.block _ (by omega) (by simp; omega)).trans ((hBc.block _ (by omega)).trans HK1.out), (hV.block _ (by omega) (by simp; omega)).trans hM.sv, hBc.trans (hV.toBelow hBc.size (by intro q hq; simp at hq; omega))⟩
    have Hf := hid (And.intro f1 (And.intro f2 (And.intro f3 (And.intro f5 (And.intro f6 f7)))))
    have Hf2 := hid (And.intro f8 (And.intro f9 f10))
    have c0 := (box_cell_l (HIn.out wc (Wrote.refl _ _)).1).1
    clear hM f1 f2 f3 f4 f5 f6 f7 f8 f9 f10 hBc hmk HK0 HK1 Hbase
    go_wp2
    go_loopw [35, 8] (fun t u wr => ∃ (k : Nat) (R2 F2 L2 : List Int), k ≤ ns.length ∧ t = .int .i64 k ∧ u = .int .i64 (baseN ns k : Int) ∧ Hid (SomeR ns k R2 F2 L2) ∧ Hid (R2.length = N ∧ F2.length = N ∧ L2.length = N) ∧ Hid (IntsAt wr bR R2 ∧ IntsAt wr bF F2 ∧ IntsAt wr bL L2) ∧ Hid (Wrote [bR, bF, bL] wc wr)) (fun t _ _ => ns.length - (RowKit.intOf t).toNat)
    case atStart => exact ⟨0, _, _, _, Nat.zero_le _, rfl, rfl, hid ⟨fun i hi => absurd hi (Nat.not_lt_zero _)⟩, hid ⟨List.length_replicate, List.length_replicate, List.length_replicate⟩, hid ⟨HIR.out, HIF.out, HIL.out⟩, hid (Wrote.refl _ _)⟩
    case round =>
      obtain ⟨k, R2, F2, L2, hk, rfl, rfl, hS, hL, hI, hW⟩ := hrel
      clear HIR HIF HIL c0
      obtain ⟨p0, p1, p2, p3⟩ := HIn.out wr hW.out
      have hbs : (baseN ns k : Int) ≤ 274911461376 := by
        have := baseN_le HR.out k hk
        omega
      have hb0 : (0 : Int) ≤ (baseN ns k : Int) := by omega
      by_cases hlt : k < ns.length
      · obtain ⟨b, off, rfl, hFA⟩ := HF.out.at_ (by omega)
        have hF1 := hFA.later HB.out
        obtain ⟨Ls, hc, hd3, ha3, hk3⟩ := hF1.at_ k hlt
        obtain ⟨D, A, K⟩ := Ls
        simp only at hk3 hd3 ha3
        obtain ⟨oa, caa, rfl, _⟩ := ha3
        obtain ⟨od, cdd, rfl, _⟩ := hd3
        obtain ⟨ok, ckk, rfl, _⟩ := hk3
        obtain ⟨n0, n1, n2, n3, n4, n5, n6, n7, n8, n9, n10, n11, n12, n13, n14, n15⟩ := hc.later hF1.lt p3
        simp only at n6 n7 n9
        have hpD : parentD ns ((k : Int) + 1) = ns[k].parent := parentD_at ns k hlt
        have q1 : (0 : Int) ≤ (k : Int) := by omega
        have q2 : (k : Int) < (ns.length : Int) := by omega
        have dl : decide ((k : Int) < (ns.length : Int)) = true := decide_eq_true q2
        have hbw : Below wr.heap.size wr (wr.alloc (nodeO ns[k] (.slice od ns[k].data.length cdd) (.slice oa ns[k].attrs.length caa) (.slice ok ns[k].kids.length ckk))) := (Below.refl _ wr).alloc (Nat.le_refl _) _
        have hnb := heap_new wr (nodeO ns[k] (.slice od ns[k].data.length cdd) (.slice oa ns[k].attrs.length caa) (.slice ok ns[k].kids.length ckk))
        have hsvb := (hbw.block bs ((Array.getElem?_eq_some_iff.1 p2).1)).trans p2
        obtain ⟨c0, c1, c2, c3⟩ := sv_cells hsvb
        have Hlay := hid (lay_any b off cap bR bF bL N ((k : Int) + 1) ns v1 HR.out hF1 HN.out Hf.out.1 Hf.out.2.1 Hf.out.2.2.1 Hf.out.2.2.2.1 Hf.out.2.2.2.2.1 Hf.out.2.2.2.2.2 (ns.length + 1) ((k : Int) + 1) (baseN ns k) R2 F2 L2 _ (there_of hlt) (by omega) (by omega) (by omega) hL.out.1 hL.out.2.1 hL.out.2.2 (p3.trans (hbw.mono p3.size)) (hI.out.1.later hbw) (hI.out.2.1.later hbw) (hI.out.2.2.later hbw))
        have Hbw := hid hbw
        have d8 := (node_boxB hnb).2.1
        clear hbw hnb hsvb hc hF1 hFA p0 p1 p2 p3
        unfold nodeO at *
        have HpD := hid hpD
        clear hpD
        generalize ns[k] = nd at *
        by_cases hp0 : nd.parent = 0
        · have HpZ : Hid (parentD ns ((k : Int) + 1) = 0) := HpD.out.trans hp0
          have hnx : (baseN ns (k + 1) : Int) = (baseN ns k : Int) + (szD ns ((k : Int) + 1) : Int) := by
            rw [baseN, if_pos HpZ.out]
            omega
          have hsz := HR.out.sz (there_of hlt)
          have Hnx := hid hnx
          have hlay := Hlay.out
          unfold numsV at hlay
          have hwb : Hid (∀ V : World, Wrote [bR, bF, bL] (wr.alloc (.cells #[.int .u8 (nd.kind : Int), .string nd.space, .string nd.pre, .string nd.loc, .string nd.pub, .string nd.sys, (.slice od nd.data.length cdd), (.slice oa nd.attrs.length caa), .int .i64 nd.parent, (.slice ok nd.kids.length ckk), .int .i64 nd.doc, .int .i64 nd.host, .int .i64 nd.shadow, .int .u8 (nd.mode : Int), .bool nd.manual, .bool nd.html] 71)) V → Wrote [bR, bF, bL] wc V) := fun V hV => (hW.out.below Hbw.out).trans hV
          clear Hlay hnx
          generalize hZe : (szD ns ((k : Int) + 1) : Int) = Z at *
          have HZ := hid hZe
          have z0 : 0 ≤ Z ∧ Z ≤ 67117056 := by omega
          obtain ⟨z0, z1⟩ := z0
          clear hZe hsz hsm Hbw
          rw [hp0] at n8 d8 hlay hwb c0 c1 c2 c3
          clear hp0 HpD
          go_wp2_with fail
          refine hlay.mono ?_
          rintro e v2 ⟨rfl, hW2, R3, F3, L3, i1, i2, i3, hLd, k1, k2, k3⟩
          have HW3 := hid (hwb.out v2 hW2)
          have HI3 := hid (And.intro i1 (And.intro i2 i3))
          have HL3 : Hid (R3.length = N ∧ F3.length = N ∧ L3.length = N) := ⟨k1.len.trans hL.out.1, k2.len.trans hL.out.2.1, k3.len.trans hL.out.2.2⟩
          have HS3 : Hid (SomeR ns (k + 1) R3 F3 L3) := SomeR.step HR.out hlt hS.out HpZ.out hLd k1 k2 k3
          clear hW2 i1 i2 i3 hLd k1 k2 k3 hS hL hI hW hlay hwb c0 c1 c2 c3 d8 n0 n1 n2 n3 n4 n5 n6 n7 n8 n9 n10 n11 n12 n13 n14 n15
          go_wp2
          go_roundw
          case rel => exact ⟨k + 1, R3, F3, L3, by omega, by go_num, by have := Hnx.out; have := HZ.out; congr 1; omega, HS3, HL3, HI3, HW3⟩
          case measure => simp [RowKit.intOf]; omega
        · have dp : (nd.parent == 0) = false := beq_eq_false_iff_ne.2 hp0
          have HpZ : Hid (parentD ns ((k : Int) + 1) ≠ 0) := by
            show _ ≠ _
            rw [HpD.out]
            exact hp0
          have Hnx : Hid (baseN ns (k + 1) = baseN ns k) := by
            show _ = _
            rw [baseN, if_neg HpZ.out]
            rfl
          have HW3 := hid (hW.out.below Hbw.out)
          have HI3 := hid (And.intro (hI.out.1.later Hbw.out) (And.intro (hI.out.2.1.later Hbw.out) (hI.out.2.2.later Hbw.out)))
          have HS3 := hid (hS.out.skip HpZ.out)
          clear Hlay hp0 Hbw hS hI hW hsm
          go_wp2
          go_roundw
          case rel => exact ⟨k + 1, R2, F2, L2, by omega, by go_num, by rw [Hnx.out], HS3, hL, HI3, HW3⟩
          case measure => simp [RowKit.intOf]; omega
      · have hkn : k = ns.length := by omega
        subst hkn
        have dl : decide ((ns.length : Int) < (ns.length : Int)) = false := decide_eq_false (by omega)
        obtain ⟨c0, c1, c2, c3⟩ := sv_cells p2
        obtain ⟨r0, r1, r2, r3⟩ := sv_cells p1
        obtain ⟨z0, z1, z2, z3⟩ := sv_free p1
        have hbnd : bs ≠ w.heap.size + 1 := by
          intro e
          have := HM.out.far
          omega
        have hN1 : NumsAt ns wr bR bF bL := ⟨R2, F2, L2, hI.out.1, hI.out.2.1, hI.out.2.2, hL.out.1.trans HN.out, hL.out.2.1.trans HN.out, hL.out.2.2.trans HN.out, SomeR.finish HR.out (fun x hx => HR.out.sz hx) HR.out.small hS.out⟩
        have HN1 := hid hN1
        have HBw := hid (HB.out.trans (p3.mono HB.out.size))
        have hfr := Hf.out
        have HNs : Hid (∀ a b c d : Value, NumsAt ns ((((wr.setCell ⟨w.heap.size + 1, 0, none⟩ a).setCell ⟨w.heap.size + 1, 1, none⟩ b).setCell ⟨w.heap.size + 1, 2, none⟩ c).setCell ⟨w.heap.size + 1, 3, none⟩ d) bR bF bL) := fun a b c d => by
          obtain ⟨R, F, L, i1, i2, i3, l1⟩ := HN1.out
          exact ⟨R, F, L, (((i1.far _ _ (by omega)).far _ _ (by omega)).far _ _ (by omega)).far _ _ (by omega), (((i2.far _ _ (by omega)).far _ _ (by omega)).far _ _ (by omega)).far _ _ (by omega), (((i3.far _ _ (by omega)).far _ _ (by omega)).far _ _ (by omega)).far _ _ (by omega), l1⟩
        clear hN1 hfr p0 p1 p2 p3 hS hL hI hW hsm hle
        go_wp2
        exact bodyPost_ret (v := .tuple #[numsV o cap ns.length bR bF bL N, .int .i64 0]) (by simp [results, Try.results28, go_sem, numsV, r0, r1, r2, r3]) rfl ⟨bR, bF, bL, rfl, set4_below HBw.out (Nat.le_succ _) _ _ _ _, HNs.out _ _ _ _⟩
end Go.Proofs.Ythkjkcojbepfmaa
