/- points: how the points of a node are numbered (lay). -/
import Derived.Test.YthkjkcojbepfmaaFBd0
import Derived.Test.YthkjkcojbepfmaaFSurW
import Derived.Test.YthkjkcojbepfmaaFSkipH
import Derived.Deep.RegionLaw
namespace Go.Proofs.Ythkjkcojbepfmaa
open Go.RowKit Go.Lib

theorem gset (A : List Int) (j : Nat) (v : Int) (hj : j < A.length) (y : Int) (hy : 0 ≤ y) : (A.set j v).getD y.toNat 0 = if y = (j : Int) then v else A.getD y.toNat 0 := by
  rw [List.getD_eq_getElem?_getD, List.getD_eq_getElem?_getD, List.getElem?_set]
  by_cases e : y = (j : Int)
  · rw [if_pos e, if_pos (by omega)]
    simp [hj]
  · rw [if_neg e, if_neg (by omega)]
theorem there_natB {n : Nat} {y : Int} (h : thereB n y = true) : 0 ≤ y ∧ 1 ≤ y ∧ y ≤ (n : Int) := by
  unfold thereB at h
  simp only [Bool.and_eq_true, decide_eq_true_eq] at h
  omega
/-- A node, and what lies within it, is numbered from a number on. -/
structure LaidN (ns : List NodeD) (root x a : Int) (R F L : List Int) : Prop where
  first : F.getD x.toNat 0 = a
  all : ∀ y ∈ allD ns x, R.getD y.toNat 0 = root ∧ L.getD y.toNat 0 = F.getD y.toNat 0 + szD ns y - 1 ∧ ∀ pre k post, kidsD ns y = pre ++ k :: post → F.getD k.toNat 0 = F.getD y.toNat 0 + 1 + kidSum ns pre
/-- Two lists are the same but at some places. -/
structure KeptN (ns : List NodeD) (S : Int → Prop) (A B : List Int) : Prop where
  len : B.length = A.length
  out : ∀ y, thereB ns.length y = true → ¬ S y → B.getD y.toNat 0 = A.getD y.toNat 0
theorem KeptN.refl (ns : List NodeD) (S : Int → Prop) (A : List Int) : KeptN ns S A A := ⟨rfl, fun _ _ _ => rfl⟩
theorem KeptN.trans {ns : List NodeD} {S T U : Int → Prop} {A B C : List Int} (h : KeptN ns S A B) (k : KeptN ns T B C) (hs : ∀ y, S y → U y) (ht : ∀ y, T y → U y) : KeptN ns U A C :=
  ⟨k.len.trans h.len, fun y hy hn => (k.out y hy fun a => hn (ht y a)).trans (h.out y hy fun a => hn (hs y a))⟩
theorem KeptN.set {ns : List NodeD} {S : Int → Prop} {A B : List Int} (h : KeptN ns S A B) (j : Nat) (v : Int) (hj : j < A.length) (hS : S (j : Int)) : KeptN ns S A (B.set j v) := by
  refine ⟨by rw [List.length_set]; exact h.len, fun y hy hn => ?_⟩
  rw [gset B j v (by rw [h.len]; exact hj) y (there_natB hy).1, if_neg (fun e => hn (by rw [e]; exact hS))]
  exact h.out y hy hn
section
variable {ns : List NodeD}
theorem all_there (h : RightF ns) {x y : Int} (hx : thereB ns.length x = true) (hy : y ∈ allD ns x) : thereB ns.length y = true := ((mem_all h hx y).1 hy).1
theorem all_self (h : RightF ns) {x : Int} (hx : thereB ns.length x = true) : x ∈ allD ns x := by rw [all_cons h hx]; exact List.mem_cons_self ..
theorem all_kid (h : RightF ns) {x y k : Int} (hx : thereB ns.length x = true) (hk : k ∈ kidsD ns x) (hy : y ∈ allD ns k) : y ∈ allD ns x := by
  rw [all_cons h hx]
  exact List.mem_cons_of_mem _ (List.mem_flatMap.2 ⟨k, hk, hy⟩)
theorem kid_self (h : RightF ns) {x k : Int} (hx : thereB ns.length x = true) (hk : k ∈ kidsD ns x) : k ∈ allD ns x := all_kid h hx hk (all_self h (h.kidsHang.down x k hx hk).1)
/-- What lies within what lies within. -/
theorem all_trans (h : RightF ns) (y z : Int) (hz : z ∈ allD ns y) : ∀ x, thereB ns.length x = true → y ∈ allD ns x → z ∈ allD ns x := by
  refine kids_ind h _ fun x hx hi hy => ?_
  rw [all_cons h hx, List.mem_cons, List.mem_flatMap] at hy
  rcases hy with rfl | ⟨k, hk, hy⟩
  · exact hz
  · exact all_kid h hx hk (hi k hk hy)
theorem LaidN.kept (h : RightF ns) {root x a : Int} {R F L R' F' L' : List Int} {S : Int → Prop} (hx : thereB ns.length x = true) (hl : LaidN ns root x a R F L) (kR : KeptN ns S R R') (kF : KeptN ns S F F') (kL : KeptN ns S L L') (hS : ∀ y ∈ allD ns x, ¬ S y) : LaidN ns root x a R' F' L' := by
  refine ⟨(kF.out x hx (hS x (all_self h hx))).trans hl.first, fun y hy => ?_⟩
  have hyt := all_there h hx hy
  obtain ⟨a, b, c⟩ := hl.all y hy
  rw [kR.out y hyt (hS y hy), kL.out y hyt (hS y hy), kF.out y hyt (hS y hy)]
  refine ⟨a, b, fun pre k post hk => ?_⟩
  have hkm : k ∈ kidsD ns y := by rw [hk]; simp
  rw [kF.out k (h.kidsHang.down y k hyt hkm).1 (hS k (all_trans h y k (kid_self h hyt hkm) x hx hy))]
  exact c pre k post hk
/-- Kids have nothing in common. -/
theorem kids_apart (h : RightF ns) {x : Int} (hx : thereB ns.length x = true) {pre post : List Int} {k j y : Int} (hk : kidsD ns x = pre ++ k :: post) (hj : j ∈ pre) (h1 : y ∈ allD ns j) (h2 : y ∈ allD ns k) : False := by
  have hn := all_once h hx
  rw [all_cons h hx, hk, List.flatMap_append, List.flatMap_cons] at hn
  obtain ⟨_, hn2⟩ := List.nodup_cons.1 hn
  obtain ⟨_, _, hd⟩ := List.nodup_append.1 hn2
  exact hd y (List.mem_flatMap.2 ⟨j, hj, h1⟩) y (List.mem_append_left _ h2) rfl
theorem kid_apart (h : RightF ns) {x k : Int} (hx : thereB ns.length x = true) (hk : k ∈ kidsD ns x) : x ∉ allD ns k := fun hm => by
  have hn := all_once h hx
  rw [all_cons h hx] at hn
  exact (List.nodup_cons.1 hn).1 (List.mem_flatMap.2 ⟨k, hk, hm⟩)
/-- Some of the kids are numbered. -/
structure SomeN (ns : List NodeD) (root x a : Int) (R0 F0 L0 : List Int) (pre : List Int) (R F L : List Int) : Prop where
  rt : R.getD x.toNat 0 = root
  first : F.getD x.toNat 0 = a
  done : ∀ p k q, pre = p ++ k :: q → LaidN ns root k (a + 1 + kidSum ns p) R F L
  kR : KeptN ns (fun y => y ∈ allD ns x) R0 R
  kF : KeptN ns (fun y => y ∈ allD ns x) F0 F
  kL : KeptN ns (fun y => y ∈ allD ns x) L0 L
theorem SomeN.start (h : RightF ns) (root x a : Int) (R F L : List Int) (hx : thereB ns.length x = true) (hR : ns.length < R.length) (hF : ns.length < F.length) : SomeN ns root x a R F L [] (R.set x.toNat root) (F.set x.toNat a) L := by
  obtain ⟨n0, n1, n2⟩ := there_natB hx
  have hm : ((x.toNat : Nat) : Int) ∈ allD ns x := by rw [show ((x.toNat : Nat) : Int) = x by omega]; exact all_self h hx
  refine ⟨?_, ?_, fun p k q e => ?_, (KeptN.refl ns _ R).set _ _ (by omega) hm, (KeptN.refl ns _ F).set _ _ (by omega) hm, KeptN.refl _ _ _⟩
  · rw [gset R x.toNat root (by omega) x n0, if_pos (by omega)]
  · rw [gset F x.toNat a (by omega) x n0, if_pos (by omega)]
  · simp at e
theorem SomeN.step (h : RightF ns) {root x a : Int} {R0 F0 L0 R F L R' F' L' pre post : List Int} {k : Int} (hx : thereB ns.length x = true) (hs : SomeN ns root x a R0 F0 L0 pre R F L) (hk : kidsD ns x = pre ++ k :: post) (hl : LaidN ns root k (a + 1 + kidSum ns pre) R' F' L') (kR : KeptN ns (fun y => y ∈ allD ns k) R R') (kF : KeptN ns (fun y => y ∈ allD ns k) F F') (kL : KeptN ns (fun y => y ∈ allD ns k) L L') : SomeN ns root x a R0 F0 L0 (pre ++ [k]) R' F' L' := by
  have hkm : k ∈ kidsD ns x := by rw [hk]; simp
  have hin : ∀ y, y ∈ allD ns k → y ∈ allD ns x := fun y hy => all_kid h hx hkm hy
  refine ⟨(kR.out x hx (kid_apart h hx hkm)).trans hs.rt, (kF.out x hx (kid_apart h hx hkm)).trans hs.first, fun p j q e => ?_, hs.kR.trans kR (fun _ a => a) hin, hs.kF.trans kF (fun _ a => a) hin, hs.kL.trans kL (fun _ a => a) hin⟩
  rcases List.eq_nil_or_concat q with rfl | ⟨q', z, rfl⟩
  · obtain ⟨rfl, e2⟩ := List.append_inj' e rfl
    simp only [List.cons.injEq, and_true] at e2
    subst e2
    exact hl
  · have e' : pre ++ [k] = (p ++ j :: q') ++ [z] := by rw [e]; simp
    obtain ⟨rfl, e2⟩ := List.append_inj' e' rfl
    have hj : j ∈ kidsD ns x := by rw [hk]; simp
    have := hs.done p j q' rfl
    exact this.kept h (h.kidsHang.down x j hx hj).1 kR kF kL fun y hy hy2 => kids_apart h hx hk (by simp) hy hy2
theorem SomeN.finish (h : RightF ns) {root x a : Int} {R0 F0 L0 R F L : List Int} (hx : thereB ns.length x = true) (hs : SomeN ns root x a R0 F0 L0 (kidsD ns x) R F L) (hL : ns.length < L.length) (hL0 : L0.length = L.length) {v : Int} (hv : v = a + szD ns x - 1) : LaidN ns root x a R F (L.set x.toNat v) ∧ KeptN ns (fun y => y ∈ allD ns x) R0 R ∧ KeptN ns (fun y => y ∈ allD ns x) F0 F ∧ KeptN ns (fun y => y ∈ allD ns x) L0 (L.set x.toNat v) := by
  obtain ⟨n0, n1, n2⟩ := there_natB hx
  have hm : ((x.toNat : Nat) : Int) ∈ allD ns x := by rw [show ((x.toNat : Nat) : Int) = x by omega]; exact all_self h hx
  refine ⟨⟨hs.first, fun y hy => ?_⟩, hs.kR, hs.kF, hs.kL.set _ _ (by omega) hm⟩
  have hyt := all_there h hx hy
  rw [all_cons h hx, List.mem_cons, List.mem_flatMap] at hy
  rcases hy with rfl | ⟨k, hk, hy⟩
  · rw [gset L y.toNat v (by omega) y n0, if_pos (by omega), hs.first]
    refine ⟨hs.rt, hv, fun pre k post hk => ?_⟩
    exact (hs.done pre k post hk).first
  · obtain ⟨pre, post, hsp⟩ := List.append_of_mem hk
    have hne : y ≠ ((x.toNat : Nat) : Int) := fun e => kid_apart h hx hk (by rw [show x = y by omega]; exact hy)
    rw [gset L x.toNat v (by omega) y (there_natB hyt).1, if_neg hne]
    exact (hs.done pre k post hsp).all y hy
/-- How many points there are at most. -/
theorem sz_sum (h : RightF ns) : ∀ x, thereB ns.length x = true → szD ns x + 1 = ((allD ns x).map fun y => 2 + dataN ns y).sum := by
  refine kids_ind h _ fun x hx hi => ?_
  rw [sz_eq h hx, all_cons h hx, List.map_cons, List.sum_cons]
  have e : ∀ ks : List Int, (∀ k ∈ ks, szD ns k + 1 = ((allD ns k).map fun y => 2 + dataN ns y).sum) → kidSum ns ks = ((ks.flatMap (allD ns)).map fun y => 2 + dataN ns y).sum := by
    intro ks
    induction ks with
    | nil => intro _; rfl
    | cons k ks ih =>
      intro hh
      rw [kidSum_cons, List.flatMap_cons, List.map_append, List.sum_append, ih fun j hj => hh j (List.mem_cons_of_mem _ hj), hh k (List.mem_cons_self ..)]
  rw [e _ hi]
  omega
theorem sum_le_mul (f : Int → Nat) (m : Nat) : ∀ l : List Int, (∀ y ∈ l, f y ≤ m) → (l.map f).sum ≤ l.length * m
  | [], _ => by simp
  | y :: l, h => by
    rw [List.map_cons, List.sum_cons, List.length_cons, Nat.add_mul, Nat.one_mul]
    have := sum_le_mul f m l fun z hz => h z (List.mem_cons_of_mem _ hz)
    have := h y (List.mem_cons_self ..)
    omega
theorem sz_bound (h : RightF ns) (hd : ∀ x, thereB ns.length x = true → dataN ns x ≤ 16384) (hs : ∀ x, thereB ns.length x = true → (allD ns x).length ≤ 4096) {x : Int} (hx : thereB ns.length x = true) : szD ns x + 1 ≤ 67117056 := by
  rw [sz_sum h x hx]
  have h1 := sum_le_mul (fun y => 2 + dataN ns y) 16386 (allD ns x) fun y hy => by have := hd y (all_there h hx hy); omega
  have h2 := hs x hx
  have : (allD ns x).length * 16386 ≤ 4096 * 16386 := Nat.mul_le_mul_right _ h2
  omega
end
theorem well_dataB {n : NodeD} (h : wellMadeD n = true) : n.data.length ≤ 16384 := by
  unfold wellMadeD at h
  simp only [Bool.and_eq_true, decide_eq_true_eq] at h
  exact h.1.2
theorem RightF.sz {ns : List NodeD} (h : RightF ns) {x : Int} (hx : thereB ns.length x = true) : szD ns x + 1 ≤ 67117056 :=
  sz_bound h (fun y hy => by
    obtain ⟨j, hj, rfl⟩ := there_idx hy
    have e : dataN ns ((j : Int) + 1) = ns[j].data.length := by unfold dataN; rw [nodeOf_at ns j hj]
    rw [e]
    exact well_dataB (h.well j hj)) (fun y hy => Nat.le_trans (h.kidsHang.below_len (ns.length + 1) y hy (by omega)) h.small) hx
theorem RightF.kids_lenB {ns : List NodeD} (h : RightF ns) (i : Nat) (hi : i < ns.length) : ns[i].kids.length ≤ 4096 := by
  obtain ⟨a, b⟩ := h.kids i hi
  refine Nat.le_trans (pigeon ns.length ns[i].kids b fun x hx => ?_) h.small
  obtain ⟨n, hn, _⟩ := a x hx
  obtain ⟨j, hj, e, _⟩ := nodeOf_idx hn
  omega
theorem wrap_smallB {z : Int} (h0 : 0 ≤ z) (h1 : z ≤ 2199023255552) : IntKind.i64.wrap z = z := by
  simp only [IntKind.wrap, IntKind.bits, IntKind.signed]
  simp
  omega
/-- Two boxes. -/
theorem two_newB (w : World) (a b : Obj) : Below w.heap.size w ((w.alloc a).alloc b) ∧ ((w.alloc a).alloc b).heap[w.heap.size]? = some a ∧ ((w.alloc a).alloc b).heap[w.heap.size + 1]? = some b ∧ ((w.alloc a).alloc b).heap.size = w.heap.size + 1 + 1 := by
  refine ⟨((Below.refl _ w).alloc (Nat.le_refl _) _).alloc (by simp) _, (Below.heap_alloc _ _ _ (by simp)).trans (heap_new w a), ?_, by simp⟩
  have := heap_new (w.alloc a) b
  simp only [World.size_alloc] at this
  exact this
theorem node_boxB {V : World} {B : Nat} {a0 a1 a2 a3 a4 a5 a6 a7 a8 a9 a10 a11 a12 a13 a14 a15 : Value} {t : TypeId} (h : V.heap[B]? = some (.cells #[a0, a1, a2, a3, a4, a5, a6, a7, a8, a9, a10, a11, a12, a13, a14, a15] t (0, 0))) : V.cell? ⟨B, 6, none⟩ = some a6 ∧ V.cell? ⟨B, 8, none⟩ = some a8 ∧ V.cell? ⟨B, 9, none⟩ = some a9 := by
  refine ⟨?_, ?_, ?_⟩ <;> (rw [cell_of_heap h]; rfl)
/-- Numbers, as they are handed on. -/
def numsV (o : Option Addr) (cap n bR bF bL N : Nat) : Value := .agg #[.slice o n cap, .slice (some ⟨bR, 0, none⟩) N N, .slice (some ⟨bF, 0, none⟩) N N, .slice (some ⟨bL, 0, none⟩) N N]
def numsO (o : Option Addr) (cap n bR bF bL N : Nat) : Obj := .cells #[.slice o n cap, .slice (some ⟨bR, 0, none⟩) N N, .slice (some ⟨bF, 0, none⟩) N N, .slice (some ⟨bL, 0, none⟩) N N] 52
def nodeO (n : NodeD) (D A K : Value) : Obj := .cells #[.int .u8 (n.kind : Int), .string n.space, .string n.pre, .string n.loc, .string n.pub, .string n.sys, D, A, .int .i64 n.parent, K, .int .i64 n.doc, .int .i64 n.host, .int .i64 n.shadow, .int .u8 (n.mode : Int), .bool n.manual, .bool n.html] 71

set_option maxRecDepth 100000 in
set_option maxHeartbeats 8000000 in
theorem lay_any (b off cap bR bF bL N : Nat) (root : Int) (ns : List NodeD) (w : World) (hR : RightF ns) (hF : FAt w b off cap ns) (hN : N = ns.length + 1) (hbR : w.heap.size ≤ bR) (hbF : w.heap.size ≤ bF) (hbL : w.heap.size ≤ bL) (hRF : bR ≠ bF) (hRL : bR ≠ bL) (hFL : bF ≠ bL) :
    ∀ (f : Nat) (x a : Int) (R F L : List Int) (W : World), thereB ns.length x = true → ns.length < f + (pathUp ns (parentD ns) x).length → 0 ≤ a → a ≤ 1099511627776 - 100000000 * (f : Int) → R.length = N → F.length = N → L.length = N → Below w.heap.size w W → IntsAt W bR R → IntsAt W bF F → IntsAt W bL L →
      Calls Try.prog 41 #[numsV (some ⟨b, off, none⟩) cap ns.length bR bF bL N, .int .i64 x, .int .i64 root, .int .i64 a] W fun e W' => e = .returned (.int .i64 (a + szD ns x - 1)) ∧ Wrote [bR, bF, bL] W W' ∧ ∃ R' F' L', IntsAt W' bR R' ∧ IntsAt W' bF F' ∧ IntsAt W' bL L' ∧ LaidN ns root x a R' F' L' ∧ KeptN ns (fun y => y ∈ allD ns x) R R' ∧ KeptN ns (fun y => y ∈ allD ns x) F F' ∧ KeptN ns (fun y => y ∈ allD ns x) L L' := by
  intro f
  induction f with
  | zero =>
    intro x a R F L W hx hf
    have := pathUp_len ns (parentD ns) hR.parentOK hR.ends x (.inr hx)
    omega
  | succ f ih =>
    intro x a R F L W hx hf ha0 ha1 hRl hFl hLl hB hIR hIF hIL
    have hle := hF.len
    obtain ⟨j, hj, rfl⟩ := there_idx hx
    have hsz := hR.sz hx
    have hkd : kidsD ns ((j : Int) + 1) = ns[j].kids := by unfold kidsD; rw [nodeOf_at ns j hj]
    have hdn : dataN ns ((j : Int) + 1) = ns[j].data.length := by unfold dataN; rw [nodeOf_at ns j hj]
    have hse := sz_eq hR hx
    rw [hdn] at hse
    have HS0 := hid (SomeN.start hR root ((j : Int) + 1) a R F L hx (by omega) (by omega))
    have et : ((j : Int) + 1).toNat = j + 1 := by omega
    rw [et] at HS0
    have HIH : Hid (∀ (y c : Int) (R2 F2 L2 : List Int) (V : World), y ∈ ns[j].kids → 0 ≤ c → c ≤ 1099511627776 - 100000000 * (f : Int) → R2.length = N → F2.length = N → L2.length = N → Below w.heap.size w V → IntsAt V bR R2 → IntsAt V bF F2 → IntsAt V bL L2 → _) := fun y c R2 F2 L2 V hy => by
      obtain ⟨n, hn, hp⟩ := (hR.kids j hj).1 y hy
      obtain ⟨i, hi2, e, e2⟩ := nodeOf_idx hn
      have hyt : thereB ns.length y = true := by rw [e]; exact thereB_idx _ _ hi2
      have hpy : parentD ns y = (j : Int) + 1 := by rw [e, parentD_at ns i hi2, ← hp, ← e2]
      refine ih y c R2 F2 L2 V hyt ?_
      rw [pathUp_head hR hyt, hpy, List.length_cons]
      omega
    have Ha0 := hid ha0
    have HR := hid hR
    have Hx := hid hx
    have Hkd := hid hkd
    have hkl := hR.kids_lenB j hj
    obtain ⟨Ls, hc, hd3, ha3, hk3⟩ := hF.at_ j hj
    have hcW := hc.later hF.lt hB
    obtain ⟨D, A, K⟩ := Ls
    simp only at hk3 hd3 ha3
    obtain ⟨oa, caa, rfl, _⟩ := ha3
    obtain ⟨od, cdd, rfl, hdcap, _⟩ := hd3
    obtain ⟨ok, ckk, rfl, hkcap, g⟩ := hk3
    obtain ⟨bx, g0, g1, sx⟩ := two_newB W (numsO (some ⟨b, off, none⟩) cap ns.length bR bF bL N) (nodeO ns[j] (.slice od ns[j].data.length cdd) (.slice oa ns[j].attrs.length caa) (.slice ok ns[j].kids.length ckk))
    have hWb0 : Below W.heap.size W (W.alloc (numsO (some ⟨b, off, none⟩) cap ns.length bR bF bL N)) := (Below.refl _ W).alloc (Nat.le_refl _) _
    have hc1 := hc.later hF.lt (hB.trans (hWb0.mono hB.size))
    obtain ⟨n0, n1, n2, n3, n4, n5, n6, n7, n8, n9, n10, n11, n12, n13, n14, n15⟩ := hc1
    have q1 : (0 : Int) ≤ (j : Int) := by omega
    have q2 : (j : Int) < (ns.length : Int) := by omega
    unfold numsV
    unfold numsO at *
    unfold nodeO at *
    simp only at n6 n7 n9
    have Hse := hid hse
    have Hsz := hid hsz
    have Ha1 := hid ha1
    have Hln := hid (And.intro hRl (And.intro hFl hLl))
    have HIR := hid hIR
    have HIF := hid hIF
    have HIL := hid hIL
    have HB := hid hB
    have HG := hid g
    have HG0 := hid g0
    have HG1 := hid g1
    have Hsx := hid sx
    have Hbx := hid bx
    have Hbs := hid (And.intro hbR (And.intro hbF hbL))
    have Hne := hid (And.intro hRF (And.intro hRL hFL))
    have HNN := hid hN
    clear ih hR hF hf hc hcW hkd hx hdn hse hsz ha1 hRl hFl hLl hIR hIF hIL hB g g0 g1 sx bx hbR hbF hbL hRF hRL hFL hN hWb0 et ha0
    generalize ns[j] = nd at *
    go_enter Try.func41, Try.ntmps41
    go_upto_region 2 with fail
    generalize hW0 : ((W.alloc (.cells #[.slice (some ⟨b, off, none⟩) ns.length cap, .slice (some ⟨bR, 0, none⟩) N N, .slice (some ⟨bF, 0, none⟩) N N, .slice (some ⟨bL, 0, none⟩) N N] 52)).alloc (.cells #[.int .u8 (nd.kind : Int), .string nd.space, .string nd.pre, .string nd.loc, .string nd.pub, .string nd.sys, (.slice od nd.data.length cdd), (.slice oa nd.attrs.length caa), .int .i64 nd.parent, (.slice ok nd.kids.length ckk), .int .i64 nd.doc, .int .i64 nd.host, .int .i64 nd.shadow, .int .u8 (nd.mode : Int), .bool nd.manual, .bool nd.html] 71)) = W0 at *
    clear hW0 n0 n1 n2 n3 n4 n5 n6 n7 n8 n9 n10 n11 n12 n13 n14 n15
    obtain ⟨c0, c1, c2, c3⟩ := sv_cells HG0.out
    have hIR0 := HIR.out.later Hbx.out
    have hIF0 := HIF.out.later Hbx.out
    have cR := hIR0.cell (j + 1) (by have := Hln.out; have := HNN.out; omega)
    have cF := hIF0.cell (j + 1) (by have := Hln.out; have := HNN.out; omega)
    have fR := hIR0.frozen (j + 1)
    have fF := hIF0.frozen (j + 1)
    have q3 : (0 : Int) ≤ (j : Int) + 1 := by omega
    have q4 : (j : Int) + 1 < (N : Int) := by have := HNN.out; omega
    have q5 : ((j : Int) + 1).toNat = j + 1 := by omega
    have e1 := Hne.out.1
    have e2 : bF ≠ bR := fun e => e1 e.symm
    have hbw : W.heap.size ≠ bR ∧ W.heap.size ≠ bF := by have := HIR.out.lt; have := HIF.out.lt; omega
    obtain ⟨e3, e4⟩ := hbw
    clear hIR0 hIF0
    go_cut [19] (fun _ wx => wx = ((W0.setCell ⟨bR, j + 1, none⟩ (.int .i64 root)).setCell ⟨bF, j + 1, none⟩ (.int .i64 a)).drew)
    case first =>
      go_region_law (fail)
      all_goals
        go_wp2_with fail
        go_meet
        rfl
    case rest =>
      have HW1 : Hid (Wrote [bR, bF, bL] W0 wc) := by
        show Wrote _ _ _
        rw [hcut]
        exact (((Wrote.refl [bR, bF, bL] W0).put (by simp) (j + 1) (.int .i64 root)).put (by simp) (j + 1) (.int .i64 a)).below (Below.refl _ _).drew
      have HIR1 : Hid (IntsAt wc bR (R.set (j + 1) root)) := by
        show IntsAt _ _ _
        rw [hcut]
        exact (((HIR.out.later Hbx.out).put (j + 1) root).far (j + 1) _ e2).later (Below.refl _ _).drew
      have HIF1 : Hid (IntsAt wc bF (F.set (j + 1) a)) := by
        show IntsAt _ _ _
        rw [hcut]
        exact (((HIF.out.later Hbx.out).far (j + 1) _ e1).put (j + 1) a).later (Below.refl _ _).drew
      have HIL1 : Hid (IntsAt wc bL L) := by
        show IntsAt _ _ _
        rw [hcut]
        exact (((HIL.out.later Hbx.out).far (j + 1) _ Hne.out.2.1).far (j + 1) _ Hne.out.2.2).later (Below.refl _ _).drew
      have HIn : Hid (∀ V : World, Wrote [bR, bF, bL] W0 V → V.heap[W.heap.size]? = W0.heap[W.heap.size]? ∧ V.heap[W.heap.size + 1]? = W0.heap[W.heap.size + 1]?) := by
        intro V hV
        have l1 := HIR.out.lt
        have l2 := HIF.out.lt
        have l3 := HIL.out.lt
        have s := Hsx.out
        exact ⟨hV.block _ (by omega) (by simp; omega), hV.block _ (by omega) (by simp; omega)⟩
      clear hcut c0 c1 c2 c3 cR cF fR fF e3 e4
      have p0 := HIn.out wc HW1.out
      obtain ⟨c0, c1, c2, c3⟩ := sv_cells (p0.1.trans HG0.out)
      obtain ⟨d6, d8, d9⟩ := node_boxB (p0.2.trans HG1.out)
      clear p0
      have hkb : ∀ k, a + (kidSum ns (nd.kids.take k) : Int) ≤ 1099511627776 - 100000000 * (f : Int) - 1 := fun k => by
        have h1 : kidSum ns (nd.kids.take k) + kidSum ns (nd.kids.drop k) = kidSum ns nd.kids := by rw [← kidSum_append, List.take_append_drop]
        have h2 := Hse.out
        have h3 := Hsz.out
        have h4 := Ha1.out
        rw [Hkd.out] at h2
        omega
      have Hkb := hid hkb
      clear hkb
      have HS1 : Hid (SomeN ns root ((j : Int) + 1) a R F L (nd.kids.take 0) (R.set (j + 1) root) (F.set (j + 1) a) L) := HS0
      have Hl1 : Hid ((R.set (j + 1) root).length = N ∧ (F.set (j + 1) a).length = N ∧ L.length = N) := by
        have := Hln.out
        exact ⟨by rw [List.length_set]; exact this.1, by rw [List.length_set]; exact this.2.1, this.2.2⟩
      go_wp2
      go_loopw [32, 3] (fun t u wr => ∃ (k : Nat) (R2 F2 L2 : List Int), k ≤ nd.kids.length ∧ t = .int .i64 k ∧ u = .int .i64 (a + (kidSum ns (nd.kids.take k) : Int)) ∧ Hid (SomeN ns root ((j : Int) + 1) a R F L (nd.kids.take k) R2 F2 L2) ∧ Hid (R2.length = N ∧ F2.length = N ∧ L2.length = N) ∧ Hid (IntsAt wr bR R2 ∧ IntsAt wr bF F2 ∧ IntsAt wr bL L2) ∧ Hid (Wrote [bR, bF, bL] W0 wr)) (fun t _ _ => nd.kids.length - (RowKit.intOf t).toNat)
      case atStart => exact ⟨0, _, _, _, Nat.zero_le _, rfl, by rw [List.take_zero]; show _ = Value.int .i64 (a + ((0 : Nat) : Int)); simp, HS1, Hl1, hid ⟨HIR1.out, HIF1.out, HIL1.out⟩, HW1⟩
      case round =>
        obtain ⟨k, R2, F2, L2, hk, rfl, rfl, hS, hL, hI, hW⟩ := hrel
        clear HS0 HS1 HIR1 HIF1 HIL1 HW1 Hl1 c0 c1 c2 c3 d6 d8 d9
        have p0 := HIn.out wr hW.out
        obtain ⟨c0, c1, c2, c3⟩ := sv_cells (p0.1.trans HG0.out)
        obtain ⟨d6, d8, d9⟩ := node_boxB (p0.2.trans HG1.out)
        clear p0
        have hBr : Below w.heap.size w wr := by
          have h1 := HB.out.trans (Hbx.out.mono HB.out.size)
          have h2 := Hbs.out
          exact h1.trans (hW.out.toBelow h1.size (by intro q hq; simp at hq; omega))
        have HBr := hid hBr
        clear hBr
        have b1 := Hkb.out k
        have b2 := Hkb.out (k + 1)
        have b0 := Ha0.out
        by_cases hlt : k < nd.kids.length
        · obtain ⟨bk, offk, rfl, hltk, hak⟩ := HG.out (by omega)
          have x1 := (HBr.out.cell (p := ⟨bk, offk + k, none⟩) hltk).trans (hak k hlt)
          have htk : nd.kids.take (k + 1) = nd.kids.take k ++ [nd.kids[k]] := by rw [List.take_add_one, List.getElem?_eq_getElem hlt]; rfl
          have hdr : nd.kids = nd.kids.take k ++ nd.kids[k] :: nd.kids.drop (k + 1) := by rw [← List.drop_eq_getElem_cons hlt, List.take_append_drop]
          have hks : (kidSum ns (nd.kids.take (k + 1)) : Int) = (kidSum ns (nd.kids.take k) : Int) + (szD ns nd.kids[k] : Int) + 1 := by
            rw [htk, kidSum_append, kidSum_cons]
            have : kidSum ns [] = 0 := rfl
            omega
          have hCall := HIH.out nd.kids[k] (a + (kidSum ns (nd.kids.take k) : Int) + 1) R2 F2 L2 wr (List.getElem_mem hlt) (by omega) (by omega) hL.out.1 hL.out.2.1 hL.out.2.2 HBr.out hI.out.1 hI.out.2.1 hI.out.2.2
          have Htk := hid htk
          have Hdr := hid hdr
          have Hks := hid hks
          clear htk hdr hks
          generalize nd.kids[k] = y at *
          generalize hkS : (kidSum ns (nd.kids.take k) : Int) = S at *
          have HkS := hid hkS
          clear hkS hak HIH
          have p1 : (0 : Int) ≤ (k : Int) := by omega
          have p2 : (k : Int) < (nd.kids.length : Int) := by omega
          have dl : decide ((k : Int) < (nd.kids.length : Int)) = true := decide_eq_true p2
          have s0 : 0 ≤ S := by have := HkS.out; omega
          unfold numsV at hCall
          have hz : a + S + (szD ns y : Int) + 1 ≤ 1099511627776 := by have := Hks.out; omega
          clear b2
          go_wp2_with fail
          refine hCall.mono ?_
          rintro e v2 ⟨rfl, hW2, R3, F3, L3, i1, i2, i3, hLd, k1, k2, k3⟩
          have HW3 : Hid (Wrote [bR, bF, bL] W0 v2) := hW.out.trans hW2
          have HI3 := hid (And.intro i1 (And.intro i2 i3))
          have HL3 : Hid (R3.length = N ∧ F3.length = N ∧ L3.length = N) := ⟨k1.len.trans hL.out.1, k2.len.trans hL.out.2.1, k3.len.trans hL.out.2.2⟩
          have HS3 : Hid (SomeN ns root ((j : Int) + 1) a R F L (nd.kids.take (k + 1)) R3 F3 L3) := by
            have e0 := HkS.out
            have e1 : a + S + 1 = a + 1 + (kidSum ns (nd.kids.take k) : Int) := by omega
            rw [e1] at hLd
            have := SomeN.step (k := y) (post := nd.kids.drop (k + 1)) HR.out Hx.out hS.out (Hkd.out.trans Hdr.out) hLd k1 k2 k3
            show SomeN ns root ((j : Int) + 1) a R F L (nd.kids.take (k + 1)) R3 F3 L3
            rw [Htk.out]
            exact this
          clear hW2 i1 i2 i3 hLd k1 k2 k3 hS hL hI hW hCall c0 c1 c2 c3 d6 d8 d9 x1
          go_wp2
          go_roundw
          case rel => exact ⟨k + 1, R3, F3, L3, by omega, by go_num, by have := Hks.out; congr 1; omega, HS3, HL3, HI3, HW3⟩
          case measure => simp [RowKit.intOf]; omega
        · have hkn : k = nd.kids.length := by omega
          have dl : decide ((k : Int) < (nd.kids.length : Int)) = false := decide_eq_false (by omega)
          have htk : nd.kids.take k = nd.kids := by rw [hkn, List.take_length]
          have hS2 := hS.out
          have hx := Hx.out
          rw [htk] at hS2
          rw [← Hkd.out] at hS2
          have hfin := SomeN.finish HR.out hx hS2 (by have := hL.out; have := HNN.out; omega) (by have := hL.out; have := Hln.out; omega) rfl
          rw [q5] at hfin
          have hv : a + (kidSum ns (nd.kids.take k) : Int) + (nd.data.length : Int) = a + (szD ns ((j : Int) + 1) : Int) - 1 := by
            have h2 := Hse.out
            rw [Hkd.out] at h2
            rw [htk]
            omega
          have hvb : a + (szD ns ((j : Int) + 1) : Int) - 1 ≤ 1099511627776 ∧ 0 ≤ a + (kidSum ns (nd.kids.take k) : Int) ∧ (nd.data.length : Int) ≤ 67117056 := by
            have h1 := Ha1.out
            have h2 := Hsz.out
            have h3 := Hse.out
            omega
          have cL := hI.out.2.2.cell (j + 1) (by have := hL.out; have := HNN.out; omega)
          have fL := hI.out.2.2.frozen (j + 1)
          have hsome : (wr.cell? ⟨bL, j + 1, none⟩).isSome = true := by rw [cL]; rfl
          have cL2 := World.cell?_setCell_same' wr ⟨bL, j + 1, none⟩ (.int .i64 (a + (szD ns ((j : Int) + 1) : Int) - 1)) hsome
          have l3 := hI.out.2.2.lt
          have g3 := (HIL.out.lt)
          have c3' := (Below.heap_setCell wr ⟨bL, j + 1, none⟩ (.int .i64 (a + (szD ns ((j : Int) + 1) : Int) - 1)) W.heap.size (by show W.heap.size ≠ bL; omega))
          have HP : Hid (Wrote [bR, bF, bL] W (wr.setCell ⟨bL, j + 1, none⟩ (.int .i64 (a + (szD ns ((j : Int) + 1) : Int) - 1))) ∧ ∃ R' F' L', IntsAt (wr.setCell ⟨bL, j + 1, none⟩ (.int .i64 (a + (szD ns ((j : Int) + 1) : Int) - 1))) bR R' ∧ IntsAt (wr.setCell ⟨bL, j + 1, none⟩ (.int .i64 (a + (szD ns ((j : Int) + 1) : Int) - 1))) bF F' ∧ IntsAt (wr.setCell ⟨bL, j + 1, none⟩ (.int .i64 (a + (szD ns ((j : Int) + 1) : Int) - 1))) bL L' ∧ LaidN ns root ((j : Int) + 1) a R' F' L' ∧ KeptN ns (fun y => y ∈ allD ns ((j : Int) + 1)) R R' ∧ KeptN ns (fun y => y ∈ allD ns ((j : Int) + 1)) F F' ∧ KeptN ns (fun y => y ∈ allD ns ((j : Int) + 1)) L L') := ⟨by
            have hw := hW.out.put (g := bL) (by simp) (j + 1) (.int .i64 (a + (szD ns ((j : Int) + 1) : Int) - 1))
            have hb := Hbx.out
            exact ⟨hw.os.trans hb.os, hw.tape.trans hb.tape, hw.output.trans hb.output, Nat.le_trans hb.size hw.size, fun q hq hn => (hw.block q (Nat.lt_of_lt_of_le hq hb.size) hn).trans (hb.block q hq)⟩, R2, F2, _, hI.out.1.far (j + 1) _ (fun e => Hne.out.2.1 e.symm), hI.out.2.1.far (j + 1) _ (fun e => Hne.out.2.2 e.symm), hI.out.2.2.put (j + 1) _, hfin⟩
          have HWr := hW
          clear hfin hS2 hS hL hI hW htk hkn l3 g3 hsome b1 b2 HIH
          have c9 := (sv_cells (c3'.trans ((HIn.out wr HWr.out).1.trans HG0.out))).2.2.2
          generalize (kidSum ns (nd.kids.take k) : Int) = S at *
          generalize hE2 : (szD ns ((j : Int) + 1) : Int) = Z at *
          have HZ := hid hE2
          clear hE2
          have f1 : IntKind.i64.wrap (a + S + (nd.data.length : Int)) = a + Z - 1 := by
            rw [wrap_smallB (by omega) (by omega)]
            exact hv
          clear hv c3' hkl b0 hvb
          go_wp2
          go_ret
          exact ⟨by rw [HZ.out]; rfl, HP.out⟩
end Go.Proofs.Ythkjkcojbepfmaa
