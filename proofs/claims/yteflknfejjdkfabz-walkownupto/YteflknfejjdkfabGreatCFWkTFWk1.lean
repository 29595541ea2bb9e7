/- What a step answers; what all steps reach: plain. -/
/- The reference of walk: all steps, one behind the other (All). -/
/- walk: what is reached, ranged over; All. -/
/- walk: All. -/
/- walk: New. -/
/- Whether two lists of numbers are one (canopyref03.Ints). -/
/- The statements of walk: the calls that are made of the tree. -/
import Derived.Test.YteflknfejjdkfabGreatCFWkRFWmD
import Derived.Test.YteflknfejjdkfabGreatCFWkGFWkN
import Derived.Test.YteflknfejjdkfabGreatCFUpFList
import Derived.Test.YteflknfejjdkfabGreatFRefN
namespace Go.Proofs.YteflknfejjdkfabGreat
open Go.RowKit Go.Lib

def wayM (ns : List NodeD) (root : Int) (sh : Nat) (rules : List RuleD) (way : Nat) (x : Int) : Nat :=
  if way = 1 then (tourD ns root sh rules (wayRev way)).len x else if way = 6 then (tourD ns root sh rules (wayRev way)).post x else (tourD ns root sh rules (wayRev way)).rank x
theorem stepD_good {ns : List NodeD} (h : RightF ns) {root : Int} (hr : thereB ns.length root = true) (sh : Nat) (rules : List RuleD) {way : Nat} (hw : isWay way = true) {x : Int} (hx : thereB ns.length x = true) :
    stepD ns root sh rules way x = 0 ∨ (thereB ns.length (stepD ns root sh rules way x) = true ∧ verdictOf ns sh rules (stepD ns root sh rules way x) = 1 ∧ (root ∈ pathUp ns (parentD ns) x → root ∈ pathUp ns (parentD ns) (stepD ns root sh rules way x)) ∧ wayM ns root sh rules way (stepD ns root sh rules way x) < wayM ns root sh rules way x) := by
  have hk : ∀ (rev : Bool) (m : Int → Prop) (r : Int), (tourD ns root sh rules rev).good ((tourD ns root sh rules rev).inn x) m r → r = 0 ∨ (thereB ns.length r = true ∧ verdictOf ns sh rules r = 1 ∧ (root ∈ pathUp ns (parentD ns) x → root ∈ pathUp ns (parentD ns) r) ∧ m r) := fun rev m r hg => by
    rcases hg with h0 | ⟨a, b, c, d⟩
    · exact .inl h0
    · exact .inr ⟨a, eq_of_beq b, c, d⟩
  have hok := fun rev => tourD_ok h hr sh rules rev
  rcases isWay_cases hw with rfl | rfl | rfl | rfl | rfl | rfl | rfl
  · exact hk _ _ _ (TourD.upD_good (hok _) hx)
  · exact hk _ _ _ (TourD.downD_good (hok _) hx)
  · exact hk _ _ _ (TourD.downD_good (hok _) hx)
  · exact hk _ _ _ (TourD.alongD_good (hok _) hx)
  · exact hk _ _ _ (TourD.alongD_good (hok _) hx)
  · exact hk _ _ _ (TourD.backD_good (hok _) hx)
  · exact hk _ _ _ (TourD.onD_good (hok _) hx)
def reachD (ns : List NodeD) (root : Int) (sh : Nat) (rules : List RuleD) (way : Nat) (x : Int) : List Int := reachN (stepD ns root sh rules way) (wayM ns root sh rules way x) x
theorem reachD_eq {ns : List NodeD} (h : RightF ns) {root : Int} (hr : thereB ns.length root = true) (sh : Nat) (rules : List RuleD) {way : Nat} (hw : isWay way = true) {x : Int} (hx : thereB ns.length x = true) :
    reachD ns root sh rules way x = if stepD ns root sh rules way x == 0 then [] else stepD ns root sh rules way x :: reachD ns root sh rules way (stepD ns root sh rules way x) := by
  have hd : ∀ y, thereB ns.length y = true → stepD ns root sh rules way y ≠ 0 → thereB ns.length (stepD ns root sh rules way y) = true ∧ wayM ns root sh rules way (stepD ns root sh rules way y) < wayM ns root sh rules way y := fun y hy h0 => by
    obtain ⟨a, _, _, b⟩ := (stepD_good h hr sh rules hw hy).resolve_left h0
    exact ⟨a, b⟩
  show reachN _ _ x = _
  rw [reachN_stable _ (wayM ns root sh rules way) (fun y => thereB ns.length y = true) hd _ (wayM ns root sh rules way x + 1) x hx (Nat.le_refl _) (Nat.le_succ _), reachN]
  by_cases h0 : stepD ns root sh rules way x = 0
  · rw [btrue h0, if_pos rfl, if_pos rfl]
  · rw [bfalse h0, if_neg Bool.false_ne_true, if_neg Bool.false_ne_true]
    obtain ⟨a, b⟩ := hd x hx h0
    rw [reachN_stable _ (wayM ns root sh rules way) (fun y => thereB ns.length y = true) hd _ (wayM ns root sh rules way (stepD ns root sh rules way x)) _ a (Nat.le_of_lt b) (Nat.le_refl _)]
    rfl
theorem sum_le {α : Type} (f : α → Nat) (B : Nat) : ∀ l : List α, (∀ y ∈ l, f y ≤ B) → (l.map f).sum ≤ l.length * B
  | [], _ => Nat.zero_le _
  | x :: t, h => by
    have h1 := h x (by simp)
    have h2 := sum_le f B t (fun y hy => h y (by simp [hy]))
    rw [List.map_cons, List.sum_cons, List.length_cons, Nat.add_mul, Nat.one_mul]
    omega
theorem Hangs.bound {ns : List NodeD} {up : Int → Int} {hang : Int → List Int} (h : Hangs ns up hang) (hs : ns.length ≤ 4096) {x : Int} (hx : thereB ns.length x = true) : sizeH ns hang x ≤ 4096 ∧ afterH ns up hang x ≤ 68719476736 ∧ lenH ns up x ≤ 4096 := by
  have hsz : ∀ y, thereB ns.length y = true → sizeH ns hang y ≤ 4096 := fun y hy => Nat.le_trans (h.below_len (ns.length + 1) y hy (by omega)) hs
  have hla : ∀ y, thereB ns.length y = true → (laterH up hang y).length ≤ 4096 ∧ ∀ z ∈ laterH up hang y, thereB ns.length z = true := fun y hy => by
    unfold laterH
    split
    · exact ⟨Nat.zero_le _, fun z hz => by cases hz⟩
    · rename_i h0
      have hp := h.up_there hy (fun e => h0 (beq_iff_eq.2 e))
      refine ⟨?_, fun z hz => (h.down _ z hp (List.mem_of_mem_drop hz)).1⟩
      have hl := pigeon ns.length (hang (up y)) (h.once _ hp) (fun z hz => by
        obtain ⟨j, hj, rfl⟩ := there_idx (h.down _ z hp hz).1
        omega)
      rw [List.length_drop]
      omega
  have hpl := h.len hx
  refine ⟨hsz x hx, ?_, Nat.le_trans hpl hs⟩
  have h1 := sum_le (fun y => ((laterH up hang y).map (sizeH ns hang)).sum) 16777216 (pathUp ns up x) (fun y hy => by
    have hyt := (h.mem hx hy).1
    have h2 := sum_le (sizeH ns hang) 4096 (laterH up hang y) (fun z hz => hsz z ((hla y hyt).2 z hz))
    have h3 := (hla y hyt).1
    show ((laterH up hang y).map (sizeH ns hang)).sum ≤ _
    have h4 := Nat.mul_le_mul_right 4096 h3
    omega)
  unfold afterH
  have h5 := Nat.mul_le_mul_right 16777216 (Nat.le_trans hpl hs)
  omega
theorem wayM_le {ns : List NodeD} (h : RightF ns) {root : Int} (hr : thereB ns.length root = true) (sh : Nat) (rules : List RuleD) (way : Nat) {x : Int} (hx : thereB ns.length x = true) : wayM ns root sh rules way x ≤ 68719480832 := by
  have hb := (tourD_ok h hr sh rules (wayRev way)).hangs.bound h.small hx
  have hrk := (tourD_ok h hr sh rules (wayRev way)).hangs.rank_eq hx
  unfold wayM TourD.len TourD.post TourD.rank TourD.after TourD.len
  split
  · have := hb.2.2
    show lenH _ _ _ ≤ _
    omega
  · split
    · have h1 := hb.2.1
      have h2 := hb.2.2
      omega
    · rw [hrk]
      have h1 := hb.1
      have h2 := hb.2.1
      omega
theorem reachD_len {ns : List NodeD} (h : RightF ns) {root : Int} (hr : thereB ns.length root = true) (sh : Nat) (rules : List RuleD) (way : Nat) {x : Int} (hx : thereB ns.length x = true) : (reachD ns root sh rules way x).length ≤ 68719480832 := Nat.le_trans (reachN_len _ _ _) (wayM_le h hr sh rules way hx)
end Go.Proofs.YteflknfejjdkfabGreat

namespace Go.Proofs.YteflknfejjdkfabGreat
open Go.RowKit Go.Lib Go.Shelf

section
variable {ns : List NodeD}
theorem reachD_dec (h : RightF ns) {root : Int} (hr : thereB ns.length root = true) (sh : Nat) (rules : List RuleD) {way : Nat} (hw : isWay way = true) : ∀ (n : Nat) (x : Int), wayM ns root sh rules way x ≤ n → thereB ns.length x = true → (∀ y ∈ reachD ns root sh rules way x, thereB ns.length y = true ∧ wayM ns root sh rules way y < wayM ns root sh rules way x) ∧ (reachD ns root sh rules way x).Nodup := by
  intro n
  induction n with
  | zero =>
    intro x hn hx
    rw [reachD_eq h hr sh rules hw hx]
    by_cases h0 : stepD ns root sh rules way x = 0
    · rw [btrue h0, if_pos rfl]
      exact ⟨fun y hy => absurd hy (by simp), List.nodup_nil⟩
    · have := ((stepD_good h hr sh rules hw hx).resolve_left h0).2.2.2
      omega
  | succ n ih =>
    intro x hn hx
    rw [reachD_eq h hr sh rules hw hx]
    by_cases h0 : stepD ns root sh rules way x = 0
    · rw [btrue h0, if_pos rfl]
      exact ⟨fun y hy => absurd hy (by simp), List.nodup_nil⟩
    · obtain ⟨a, _, _, d⟩ := (stepD_good h hr sh rules hw hx).resolve_left h0
      rw [bfalse h0, if_neg Bool.false_ne_true]
      obtain ⟨i1, i2⟩ := ih (stepD ns root sh rules way x) (by omega) a
      refine ⟨fun y hy => ?_, List.nodup_cons.2 ⟨fun hm => ?_, i2⟩⟩
      · rcases List.mem_cons.1 hy with rfl | hy
        · exact ⟨a, d⟩
        · exact ⟨(i1 y hy).1, Nat.lt_trans (i1 y hy).2 d⟩
      · exact absurd (i1 _ hm).2 (Nat.lt_irrefl _)
theorem reachD_few (h : RightF ns) {root : Int} (hr : thereB ns.length root = true) (sh : Nat) (rules : List RuleD) {way : Nat} (hw : isWay way = true) {x : Int} (hx : thereB ns.length x = true) : (reachD ns root sh rules way x).length ≤ ns.length := by
  obtain ⟨a, b⟩ := reachD_dec h hr sh rules hw _ x (Nat.le_refl _) hx
  refine pigeon ns.length _ b (fun y hy => ?_)
  obtain ⟨j, hj, rfl⟩ := there_idx (a y hy).1
  omega
end
theorem own_grown {W w1 : World} {base size n : Nat} {e : TypeId} {v o : Value} {xs : List Value} (h : W.ownsRow base e size v n xs) (hg : W.grownBy w1 o.ownBlock) (hne : ∀ g, o.ownBlock = some g → g < base) : w1.ownsRow base e size v n xs := by
  obtain ⟨h1, h2⟩ := h
  refine ⟨h1, ?_⟩
  rcases h2 with h2 | ⟨g, cap, cur, hv, hg', hh, r⟩
  · exact .inl h2
  · exact .inr ⟨g, cap, cur, hv, hg', (hg.block g (Array.getElem?_eq_some_iff.1 hh).1 (by intro e; have := hne g e.symm; omega)).trans hh, r⟩
theorem heap_grown {W w1 : World} {o : Value} {k : Nat} {x : Obj} (h : W.heap[k]? = some x) (hg : W.grownBy w1 o.ownBlock) (hne : ∀ g, o.ownBlock = some g → k ≠ g) : w1.heap[k]? = some x :=
  (hg.block k (Array.getElem?_eq_some_iff.1 h).1 (by intro e; exact hne k e.symm rfl)).trans h
/-- How long a slice is. -/
def lenV : Value → Nat
  | .slice _ n _ => n
  | _ => 0

set_option maxRecDepth 100000 in
set_option maxHeartbeats 8000000 in
theorem ref13All_err (o : Option Addr) (cap : Nat) (ns : List NodeD) (root cur : Int) (sh : Nat) (ro : Option Addr) (rc : Nat) (rules : List RuleD) (way : Nat) (w : World) (hF : FRd w o cap ns) (hkl : ∀ (i : Nat) (hi : i < ns.length), ns[i].kids.length ≤ 1099511627776) (hal : ∀ (i : Nat) (hi : i < ns.length), ns[i].attrs.length ≤ 1099511627776) (hru : RdR w (.slice ro rules.length rc) rules) (hrl : rules.length ≤ 1099511627776) (hE : stepE ns root cur rules way ≠ 0) :
    Calls Tryz.prog 22 #[.agg #[.slice o ns.length cap], .agg #[.int .i64 root, .int .i64 cur, .int .u32 (sh : Int), .slice ro rules.length rc], .int .u8 (way : Int)] w fun e w' => e = .returned (.tuple #[.slice none 0 0, .int .i64 (stepE ns root cur rules way)]) ∧ Below w.heap.size w w' := by
  have hA0 := AtF.first w (.slice o ns.length cap) (.int .i64 root) (.int .i64 cur) (.int .u32 (sh : Int)) (.slice ro rules.length rc)
  have HS := hid (ref13Step_err o cap ns root cur sh ro rc rules way _ (hF.later hA0.below) hkl hal (hru.later hA0.below) hrl hE)
  have n0 : (stepE ns root cur rules way != 0) = true := bne_t hE
  clear hF hkl hal hru hE
  generalize stepE ns root cur rules way = E at *
  go_enter Tryz.func22, Tryz.ntmps22
  go_wp2
  go_loopw [8] (fun t wr => t = .slice none 0 0 ∧ wr = (w.alloc (.cells #[.slice o ns.length cap] 24)).alloc (.cells #[.int .i64 root, .int .i64 cur, .int .u32 (sh : Int), .slice ro rules.length rc] 30)) (fun _ _ => 0)
  case atStart => exact ⟨rfl, rfl⟩
  case round =>
    obtain ⟨rfl, rfl⟩ := hrel
    go_wp2_with fail
    refine HS.out.mono ?_
    rintro e v1 ⟨rfl, hb⟩
    have hA1 := (hA0.step hb).step ((Below.refl _ _).alloc (Nat.le_refl _) (.cells #[.int .i64 0, .int .i64 0, .int .u32 0, .slice none 0 0] 30))
    clear hb HS
    go_wp2
    exact bodyPost_ret (v := .tuple #[.slice none 0 0, .int .i64 E]) (by simp [results, Tryz.results22, go_sem]) rfl ⟨rfl, hA1.below⟩

set_option maxRecDepth 100000 in
set_option maxHeartbeats 8000000 in
theorem ref13All_ok (b off cap : Nat) (ns : List NodeD) (root cur : Int) (sh : Nat) (ro : Option Addr) (rc : Nat) (rules : List RuleD) (way : Nat) (w : World) (hFA : FAt w b off cap ns) (hkl : ∀ (i : Nat) (hi : i < ns.length), ns[i].kids.length ≤ 1099511627776) (hal : ∀ (i : Nat) (hi : i < ns.length), ns[i].attrs.length ≤ 1099511627776) (hru : RdR w (.slice ro rules.length rc) rules) (hrl : rules.length ≤ 1099511627776) (hs : sh < 4294967296) (hE : stepE ns root cur rules way = 0) :
    Calls Tryz.prog 22 #[.agg #[.slice (some ⟨b, off, none⟩) ns.length cap], .agg #[.int .i64 root, .int .i64 cur, .int .u32 (sh : Int), .slice ro rules.length rc], .int .u8 (way : Int)] w fun e w' => ∃ v, e = .returned (.tuple #[v, .int .i64 0]) ∧ RdI w' v (reachD ns root sh rules way cur) ∧ Below w.heap.size w w' := by
  have hE0 : wrongE ns [root, cur] rules = 0 ∧ isWay way = true := by
    unfold stepE at hE
    split at hE
    · rename_i h
      refine ⟨h, ?_⟩
      cases hw : isWay way with
      | true => rfl
      | false => rw [hw] at hE; exact absurd hE (by decide)
    · rename_i h; exact absurd hE h
  obtain ⟨hR, hth, hfe⟩ := wrongE_ok hE0.1
  have hrt := hth root (by simp)
  have hct := hth cur (by simp)
  have hsmall := hR.small
  have HST : Hid (∀ x : Int, thereB ns.length x = true → stepE ns root x rules way = 0) := fun x hx => by
    have hm : missE ns [root, x] = 0 := by
      unfold missE
      rw [(rightD_iff ns).2 hR, if_pos rfl, show [root, x].all (thereB ns.length) = true by simp [hrt, hx], if_pos rfl]
    unfold stepE wrongE
    rw [if_pos hm, if_pos hfe, hE0.2, if_pos rfl]
  have HS : Hid (∀ (x : Int) (vo : Option Addr) (vc : Nat) (V : World), thereB ns.length x = true → Below w.heap.size w V → RdR V (.slice vo rules.length vc) rules → _) := fun x vo vc V hx hV hr => ref13Step_ok b off cap ns root x sh vo vc rules way V (hFA.later hV) hkl hal hr hrl hs (HST.out x hx)
  have HEQ : Hid (∀ x : Int, thereB ns.length x = true → _) := fun x hx => reachD_eq hR hrt sh rules hE0.2 hx
  have HG : Hid (∀ x : Int, thereB ns.length x = true → stepD ns root sh rules way x ≠ 0 → thereB ns.length (stepD ns root sh rules way x) = true) := fun x hx h0 => ((stepD_good hR hrt sh rules hE0.2 hx).resolve_left h0).1
  have hL := reachD_few hR hrt sh rules hE0.2 hct
  obtain ⟨L, hLL⟩ : ∃ L, reachD ns root sh rules way cur = L := ⟨_, rfl⟩
  rw [hLL] at hL ⊢
  have HLL : Hid ([] ++ reachD ns root sh rules way cur = L) := hLL
  have HCT := hid hct
  have hA0 := AtF.first w (.slice (some ⟨b, off, none⟩) ns.length cap) (.int .i64 root) (.int .i64 cur) (.int .u32 (sh : Int)) (.slice ro rules.length rc)
  have HRU := hid (hru.later hA0.below)
  have HF0 : Hid (Below (w.heap.size + 1) (w.alloc (.cells #[.slice (some ⟨b, off, none⟩) ns.length cap] 24)) ((w.alloc (.cells #[.slice (some ⟨b, off, none⟩) ns.length cap] 24)).alloc (.cells #[.int .i64 root, .int .i64 cur, .int .u32 (sh : Int), .slice ro rules.length rc] 30))) := (Below.refl _ _).alloc (by simp) _
  have HK0 : Hid (((w.alloc (.cells #[.slice (some ⟨b, off, none⟩) ns.length cap] 24)).alloc (.cells #[.int .i64 root, .int .i64 cur, .int .u32 (sh : Int), .slice ro rules.length rc] 30)).heap[w.heap.size + 1]? = some (.cells #[.int .i64 root, .int .i64 cur, .int .u32 (sh : Int), .slice ro rules.length rc] 30)) := by
    have := vheapW (w.alloc (.cells #[.slice (some ⟨b, off, none⟩) ns.length cap] 24)) (.cells #[.int .i64 root, .int .i64 cur, .int .u32 (sh : Int), .slice ro rules.length rc] 30)
    simp only [World.size_alloc] at this
    exact this
  have HBW : Hid (∀ V : World, Below (w.heap.size + 1) (w.alloc (.cells #[.slice (some ⟨b, off, none⟩) ns.length cap] 24)) V → w.heap.size + 1 ≤ V.heap.size ∧ Below w.heap.size w V ∧ V.cell? ⟨w.heap.size, 0, none⟩ = some (.slice (some ⟨b, off, none⟩) ns.length cap)) := fun V hV => ⟨by have := hV.size; simp only [World.size_alloc] at this; exact this, ((Below.refl _ w).alloc (Nat.le_refl _) _).trans (hV.mono (by omega)), (hV.cell (p := ⟨w.heap.size, 0, none⟩) (by show w.heap.size < w.heap.size + 1; omega)).trans (by simp)⟩
  obtain ⟨i0, hi, hz0, hz1, hz2⟩ := info_parts info_int
  clear hFA hkl hal hru hE hE0 hR hth hfe hrt hct HST hLL hA0
  go_enter Tryz.func22, Tryz.ntmps22
  go_wp2
  go_loopw [8] (fun t wr => ∃ (x : Int) (vo : Option Addr) (vc : Nat) (done : List Int), thereB ns.length x = true ∧ Hid (Below (w.heap.size + 1) (w.alloc (.cells #[.slice (some ⟨b, off, none⟩) ns.length cap] 24)) wr) ∧ Hid (wr.heap[w.heap.size + 1]? = some (.cells #[.int .i64 root, .int .i64 x, .int .u32 (sh : Int), .slice vo rules.length vc] 30)) ∧ Hid (RdR wr (.slice vo rules.length vc) rules) ∧ Hid (wr.ownsRow (w.heap.size + 2) 3 1 t done.length (done.map (Value.int .i64))) ∧ Hid (done ++ reachD ns root sh rules way x = L)) (fun t _ => L.length - lenV t)
  case atStart => exact ⟨cur, ro, rc, [], HCT.out, HF0, HK0, HRU, World.ownsRow_nil _ _ _ _, HLL⟩
  case round =>
    obtain ⟨x, vo, vc, done, hx, HF1, HK1, HR1, HO1, hr⟩ := hrel
    clear HF0 HK0 HRU HLL HCT
    obtain ⟨z1, HBw, q0⟩ := HBW.out wr HF1.out
    obtain ⟨q1, q2, q3, q4⟩ := cells4 HK1.out
    have hS := HS.out x vo vc wr hx HBw HR1.out
    have heq := HEQ.out x hx
    have hgo := HG.out x hx
    obtain ⟨oo, oc, hoo⟩ := own_shape HO1.out
    subst hoo
    clear HS HEQ HG hx
    generalize stepD ns root sh rules way x = D at *
    have HEq := hid heq
    have HGo := hid hgo
    have HBx := hid HBw
    clear heq hgo HBw
    by_cases hD : D = 0
    · have hd : L = done := by
        have h1 := hr.out
        rw [HEq.out, btrue hD, if_pos rfl, List.append_nil] at h1
        exact h1.symm
      subst hd
      subst hD
      rw [if_pos rfl] at hS
      clear HEq HGo hr
      go_wp2_with fail
      refine hS.mono ?_
      rintro e v1 ⟨vo', vc', rfl, _, hb⟩
      have HB1 := hid ((HBx.out.trans (hb.mono HBx.out.size)).alloc (HBx.out.trans (hb.mono HBx.out.size)).size (.cells #[.int .i64 root, .int .i64 x, .int .u32 (sh : Int), .slice vo' rules.length vc'] 30))
      have HO2 := hid ((ownsRow_later HO1.out hb).alloc (.cells #[.int .i64 root, .int .i64 x, .int .u32 (sh : Int), .slice vo' rules.length vc'] 30))
      clear hS hb q0 q1 q2 q3 q4
      go_wp2
      exact bodyPost_ret (v := .tuple #[.slice oo _ oc, .int .i64 0]) (by simp [results, Tryz.results22, go_sem]) rfl ⟨_, rfl, ownsRow_rdI HO2.out, HB1.out⟩
    · have hd := hr.out
      rw [HEq.out, bfalse hD, if_neg Bool.false_ne_true] at hd
      have hdt := HGo.out hD
      have hdl : done.length < L.length := by
        have := congrArg List.length hd
        rw [List.length_append, List.length_cons] at this
        omega
      have Hn : Hid ((done ++ [D]) ++ reachD ns root sh rules way D = L) := by
        show _ = _
        rw [← hd]
        simp
      have g0 : (D == 0) = false := beq_eq_false_iff_ne.2 hD
      have g1 : decide ((ns.length : Int) < (done.length : Int)) = false := decide_eq_false (by omega)
      rw [if_neg hD] at hS
      clear HEq HGo hr hd hD
      go_wp2_with fail
      refine hS.mono ?_
      rintro e v1 ⟨vo', vc', rfl, hown, hb⟩
      have HX1 := hid (HF1.out.trans (hb.mono z1))
      have HK2 := hid ((hb.block _ (Array.getElem?_eq_some_iff.1 HK1.out).1).trans HK1.out)
      have HO2 := hid (ownsRow_later HO1.out hb)
      have hlt1 := (Array.getElem?_eq_some_iff.1 HK2.out).1
      have HZ := hid hb.size
      have HOR := hid hown
      have hbk : ∀ g, (Value.slice oo done.length oc).ownBlock = some g → w.heap.size + 2 ≤ g ∧ g < wr.heap.size := fun g hg => HO1.out.lt g hg
      have HBK := hid hbk
      have hkb := vheapW v1 (.cells #[.int .i64 root, .int .i64 D, .int .u32 (sh : Int), .slice vo' rules.length vc'] 30)
      have HKB := hid ((Below.heap_alloc (v1.alloc (.cells #[.int .i64 root, .int .i64 D, .int .u32 (sh : Int), .slice vo' rules.length vc'] 30)) (.cells #[.int .i64 D] 3) _ (by simp)).trans hkb)
      have HKW := hid ((Below.heap_alloc (v1.alloc (.cells #[.int .i64 root, .int .i64 D, .int .u32 (sh : Int), .slice vo' rules.length vc'] 30)) (.cells #[.int .i64 D] 3) _ (by simp only [World.size_alloc]; omega)).trans ((Below.heap_alloc v1 (.cells #[.int .i64 root, .int .i64 D, .int .u32 (sh : Int), .slice vo' rules.length vc'] 30) _ hlt1).trans HK2.out))
      have hq0 := (HBW.out v1 HX1.out).2.2
      have HXA := hid ((HX1.out.alloc (by omega) (.cells #[.int .i64 root, .int .i64 D, .int .u32 (sh : Int), .slice vo' rules.length vc'] 30)).alloc (by simp only [World.size_alloc]; omega) (.cells #[.int .i64 D] 3))
      have hownA := (HO2.out.alloc (.cells #[.int .i64 root, .int .i64 D, .int .u32 (sh : Int), .slice vo' rules.length vc'] 30)).alloc (.cells #[.int .i64 D] 3)
      have HORA := hid ((HOR.out.alloc (.cells #[.int .i64 root, .int .i64 D, .int .u32 (sh : Int), .slice vo' rules.length vc'] 30)).alloc (.cells #[.int .i64 D] 3))
      have m1 : done.length + 1 ≤ maxLen := Nat.le_trans (show done.length + 1 ≤ 4096 by omega) (by decide)
      have m2 : (done.length + 1) * 8 ≤ 140737488355328 := by omega
      have m3 : w.heap.size + 2 ≤ ((v1.alloc (.cells #[.int .i64 root, .int .i64 D, .int .u32 (sh : Int), .slice vo' rules.length vc'] 30)).alloc (.cells #[.int .i64 D] 3)).heap.size := by simp only [World.size_alloc]; omega
      have hq0' : (v1.alloc (.cells #[.int .i64 root, .int .i64 D, .int .u32 (sh : Int), .slice vo' rules.length vc'] 30)).cell? ⟨w.heap.size, 0, none⟩ = some (.slice (some ⟨b, off, none⟩) ns.length cap) := (World.cell?_alloc_some _ _ _ (by rw [hq0]; rfl)).trans hq0
      have hc2 := cell_one_new (v1.alloc (.cells #[.int .i64 root, .int .i64 D, .int .u32 (sh : Int), .slice vo' rules.length vc'] 30)) (.int .i64 D) 3
      simp only [World.size_alloc] at hc2
      clear hS hb q0 q1 q2 q3 q4 hown hkb hbk
      go_wp2_with (at_builtin; refine wpList_append_own _ rfl _ _ 40 rfl (w.heap.size + 2) 3 i0 (.int .i64 0) 1 8 Tryz.underlying40 hi hz0 hz1 hz2 rfl (by decide) _ _ _ rfl hownA ⟨v1.heap.size + 1, 0, none⟩ 1 1 [.int .i64 D] rfl rfl hc2 (by simp [Value.oneCell']) m1 m2 m3 ?_; intro v' w1 hown' hgrow _; have HKB3 := hid (heap_grown HKB.out hgrow (fun g hg e => by have := HBK.out g hg; have := HZ.out; omega)); have HKW3 := hid (heap_grown HKW.out hgrow (fun g hg e => by have := HBK.out g hg; omega)); obtain ⟨a0, a1, a2, a3⟩ := cells4 HKB3.out; obtain ⟨c0, c1, c2, c3⟩ := cells4 HKW3.out; obtain ⟨f0, f1, f2, f3⟩ := free4 HKW3.out)
      have HX3 := hid (HXA.out.grown hgrow (by simp only [World.size_alloc]; omega) (fun g hg => by have := HBK.out g hg; omega))
      have HX4 := hid (below_fourS (a := .int .i64 root) (b := .int .i64 D) (c := .int .u32 (sh : Int)) (d := .slice vo' rules.length vc') HX3.out (Nat.le_refl (w.heap.size + 1)))
      have HR4 := hid (own_rules (own_four (a := .int .i64 root) (b := .int .i64 D) (c := .int .u32 (sh : Int)) (d := .slice vo' rules.length vc') (B := w.heap.size + 1) (own_grown HORA.out hgrow (fun g hg => (HBK.out g hg).2)) (by have := (Array.getElem?_eq_some_iff.1 HK1.out).1; omega)))
      have HO4 : Hid (_) := own_four (a := .int .i64 root) (b := .int .i64 D) (c := .int .u32 (sh : Int)) (d := .slice vo' rules.length vc') (B := w.heap.size + 1) hown' (by omega)
      have HK4 := hid (four_set HKW3.out (.int .i64 root) (.int .i64 D) (.int .u32 (sh : Int)) (.slice vo' rules.length vc'))
      have hdl2 := HO4.out
      obtain ⟨o5, c5, h5⟩ := own_shape hown'
      subst h5
      clear a0 a1 a2 a3 c0 c1 c2 c3 f0 f1 f2 f3
      go_roundw
      case rel => exact ⟨D, vo', vc', done ++ [D], hdt, HX4, HK4, HR4, hid (by rw [show (done ++ [D]).length = done.length + 1 by simp, show (done ++ [D]).map (Value.int .i64) = done.map (Value.int .i64) ++ [Value.int .i64 D] by simp]; exact hdl2), Hn⟩
      case measure =>
        show L.length - (done.length + 1) < L.length - done.length
        omega
end Go.Proofs.YteflknfejjdkfabGreat

namespace Go.Proofs.YteflknfejjdkfabGreat
open Go.RowKit Go.Lib Go.Shelf
attribute [local go_sem] Oper.semAt_some

def restL (L : Int → List Int) (y : Int) : List Int := if y == 0 then [] else y :: L y
theorem restL_zero (L : Int → List Int) : restL L 0 = [] := rfl
theorem restL_some (L : Int → List Int) {y : Int} (h : y ≠ 0) : restL L y = y :: L y := by unfold restL; rw [bfalse h, if_neg Bool.false_ne_true]

set_option maxRecDepth 100000 in
set_option maxHeartbeats 4000000 in
theorem reach1_in (n l bs bc n₀ bo bt N : Nat) (hn : 1 ≤ n) (x : Int) (f : Int → Int) (L : Int → List Int) (J Jx : List Int → World → Prop) (W : World) (hn₀ : n₀ ≤ W.heap.size) (hbs : bs < W.heap.size)
    (hS : ∀ (y : Int) (V : World), thereB N y = true → Below n₀ W V → Calls Tryz.prog 27 #[.int .i64 y, .pointer (some ⟨bo, 0, none⟩), .pointer (some ⟨bt, 0, none⟩)] V fun e w' => e = .returned (.int .i64 (f y)) ∧ Below V.heap.size V w')
    (hG : ∀ y, thereB N y = true → f y = 0 ∨ thereB N (f y) = true) (hL : ∀ y, thereB N y = true → L y = restL L (f y))
    (cs : W.cell? ⟨bs, 0, none⟩ = some (.func (.func 27) #[] #[.pointer (some ⟨bo, 0, none⟩), .pointer (some ⟨bt, 0, none⟩)])) (cc : W.cell? ⟨bc, 0, none⟩ = some (.int .i64 x)) (hx : thereB N x = true)
    (hJ : AbidesFrom W.heap.size J)
    (hY : ∀ pre z W1, J pre W1 → pre.length < (L x).length → YieldAt Fence.wide (n - 1) Tryz.prog l #[.int .i64 z] W1 fun e W' =>
      (e = .returned (.bool true) ∧ J (pre ++ [z]) W' ∧ (Below n₀ W1 W' ∧ W'.cell? ⟨bs, 0, none⟩ = W1.cell? ⟨bs, 0, none⟩)) ∨ (e = .returned (.bool false) ∧ Jx (pre ++ [z]) W'))
    (h0 : J [] W) :
    CallsIn Fence.wide n Tryz.prog 29 #[.func (.yield l) #[] #[], .pointer (some ⟨bs, 0, none⟩), .pointer (some ⟨bc, 0, none⟩)] W fun e W' => (∃ v, e = .returned v) ∧
      ((∃ ys, ys = L x ∧ J ys W') ∨ (∃ pre, pre <+: L x ∧ Jx pre W')) := by
  refine callsIn_of_wp Tryz.func29 rfl trivial ?_ rfl
  simp only [Tryz.ntmps29, List.size_toArray, List.length_cons, List.length_nil, Nat.reduceAdd, Nat.reduceSub, Array.replicate_succ, Array.replicate_zero, List.push_toArray, List.append_toArray, List.nil_append, List.cons_append]
  have HS := hid hS
  have HG := hid hG
  have HL := hid hL
  have HJ := hid hJ
  have hS0 := hS x W hx (Below.refl _ _)
  have eg : ∀ args w, (callFunc 27 args).run Tryz.prog w = .ok (.enter 27 args) w := enters_of Tryz.func27 (by kernel_rfl) rfl
  clear hS hG hL hJ
  obtain ⟨xs, hxs⟩ : ∃ xs, L x = xs := ⟨_, rfl⟩
  rw [hxs]
  rw [hxs] at hY
  have Hxs : Hid (restL L (f x) = xs) := by rw [← hxs]; exact (HL.out x hx).symm
  have Hg0 := hid (HG.out x hx)
  clear hxs
  gi_wp2
  refine ⟨trivial, (callsIn_wide.2 hS0).mono ?_⟩
  rintro e W2 ⟨rfl, hb2⟩
  have HJ0 := hid (HJ.out _ _ _ none h0 (grown_of_below hb2) (fun r e => by cases e))
  have HB2 := hid (hb2.mono hn₀)
  have HZ2 := hid hb2.size
  have HC2 := hid ((hb2.cell (p := ⟨bs, 0, none⟩) hbs).trans cs)
  clear hb2 hS0 h0
  generalize f x = y0 at *
  gi_wp2
  gi_loopw [4] (fun t wr => ∃ (pre : List Int) (y : Int), t = .int .i64 y ∧ Hid (xs = pre ++ restL L y) ∧ Hid (y = 0 ∨ thereB N y = true) ∧ Hid (Below n₀ W wr) ∧ Hid (W.heap.size ≤ wr.heap.size) ∧ Hid (wr.cell? ⟨bs, 0, none⟩ = some (.func (.func 27) #[] #[.pointer (some ⟨bo, 0, none⟩), .pointer (some ⟨bt, 0, none⟩)])) ∧ Hid (J pre wr)) (fun t _ => (restL L (RowKit.intOf t)).length)
  case atStart => exact ⟨[], y0, rfl, Hxs.out.symm, Hg0, HB2, HZ2, HC2, HJ0⟩
  case round =>
    obtain ⟨pre, y, rfl, hp, hy0, hB, hZ, hC, hJs⟩ := hrel
    clear cc hx HJ0 HB2 Hg0 Hxs HZ2 HC2 cs
    by_cases hz : y = 0
    · subst hz
      have Hpre : Hid (xs = pre) := by
        have := hp.out
        rw [restL_zero, List.append_nil] at this
        exact this
      clear hp
      gi_wp2
      refine ⟨fun _ h => (by cases h), ?_⟩
      gi_wp2
      go_end0
      exact ⟨⟨_, rfl⟩, .inl ⟨pre, Hpre.out.symm, hJs.out⟩⟩
    · have hyt := hy0.out.resolve_left hz
      have Hcons : Hid (restL L y = y :: restL L (f y)) := by
        show restL L y = _
        rw [restL_some L hz, HL.out y hyt]
      obtain ⟨fn, tmps, assign, body, hyy, hRd⟩ := hY pre y wr hJs.out (by rw [hp.out, Hcons.out]; simp)
      have hnz : (y != 0) = true := by
        rw [bne, beq_eq_false_iff_ne.2 hz]
        rfl
      gi_wp2
      refine hRd.mono ?_
      rintro e W3 (⟨rfl, hJ3, hk3, hc3⟩ | ⟨rfl, hJx3⟩)
      · have hB3 := hB.out.trans hk3
        have c1 := hc3.trans hC.out
        have Hz3 := hid (Nat.le_trans hZ.out hk3.size)
        have Hc3 := hid c1
        clear hc3
        have hP := HS.out y W3 hyt hB3
        have HB3 := hid hB3
        clear hB3
        gi_wp2
        refine ⟨trivial, (callsIn_wide.2 hP).mono ?_⟩
        rintro e W4 ⟨rfl, hb4⟩
        have HJ4 := hid (HJ.out _ _ _ none hJ3 (grown_of_below hb4) (fun r e => by cases e))
        have HB4 := hid (HB3.out.trans (hb4.mono (Nat.le_trans hn₀ HB3.out.size)))
        have Hz4 := hid (Nat.le_trans Hz3.out hb4.size)
        have Hc4 := hid ((hb4.cell (p := ⟨bs, 0, none⟩) (Nat.lt_of_lt_of_le hbs Hz3.out)).trans Hc3.out)
        have Hth := hid (HG.out y hyt)
        have Hp2 : Hid (xs = (pre ++ [y]) ++ restL L (f y)) := by
          show xs = _
          rw [hp.out, Hcons.out, List.append_assoc]
          rfl
        have Hme : Hid ((restL L (f y)).length < (restL L y).length) := by
          show _ < _
          rw [Hcons.out]
          exact Nat.lt_succ_self _
        clear hP hb4 hJ3 hk3 c1 hyy hRd hp Hcons
        gi_wp2
        go_roundw
        case rel => exact ⟨pre ++ [y], _, rfl, Hp2, Hth, HB4, Hz4, Hc4, HJ4⟩
        case measure => exact Hme.out
      · gi_wp2
        go_end0
        exact ⟨⟨_, rfl⟩, .inr ⟨pre ++ [y], ⟨restL L (f y), by rw [hp.out, Hcons.out]; simp⟩, hJx3⟩⟩
/-- What reached hands back, ranged over. -/
theorem reach_stops (n bs bc n₀ bo bt N : Nat) (hn : 1 ≤ n) (x : Int) (f : Int → Int) (L : Int → List Int) (w : World) (hn₀ : n₀ ≤ w.heap.size) (hbs : bs < w.heap.size) (hbc : bc < w.heap.size)
    (hS : ∀ (y : Int) (V : World), thereB N y = true → Below n₀ w V → Calls Tryz.prog 27 #[.int .i64 y, .pointer (some ⟨bo, 0, none⟩), .pointer (some ⟨bt, 0, none⟩)] V fun e w' => e = .returned (.int .i64 (f y)) ∧ Below V.heap.size V w')
    (hG : ∀ y, thereB N y = true → f y = 0 ∨ thereB N (f y) = true) (hL : ∀ y, thereB N y = true → L y = restL L (f y))
    (cs : w.cell? ⟨bs, 0, none⟩ = some (.func (.func 27) #[] #[.pointer (some ⟨bo, 0, none⟩), .pointer (some ⟨bt, 0, none⟩)])) (cc : w.cell? ⟨bc, 0, none⟩ = some (.int .i64 x)) (hx : thereB N x = true) :
    SeqStopsK Fence.wide n Tryz.prog 29 #[.pointer (some ⟨bs, 0, none⟩), .pointer (some ⟨bc, 0, none⟩)] (fun z : Int => #[Value.int .i64 z]) (fun A B => Below n₀ A B ∧ B.cell? ⟨bs, 0, none⟩ = A.cell? ⟨bs, 0, none⟩) (fun ys => ys = L x) (fun pre => pre <+: L x) (L x).length w := fun l J Jx W hW hJ _ hY h0 =>
  reach1_in n l bs bc n₀ bo bt N hn x f L J Jx W (Nat.le_trans hn₀ hW.size) (Nat.lt_of_lt_of_le hbs hW.size) (fun y V hy hV => hS y V hy ((hW.mono hn₀).trans hV)) hG hL
    ((hW.cell (p := ⟨bs, 0, none⟩) hbs).trans cs) ((hW.cell (p := ⟨bc, 0, none⟩) hbc).trans cc) hx hJ hY h0
theorem boxed_own {β : Type} (B : Nat) (t : TypeId) (v : Value) : Own (fun (_ : β) W => Boxed W B t v) := by
  rintro s X Y row hv hg hrow
  refine Boxed.kept hv hg (fun e' => ?_)
  obtain ⟨o, ho, hc⟩ := hrow B e'.symm
  rw [show X.heap[B]? = _ from hv] at ho; cases ho; cases hc
end Go.Proofs.YteflknfejjdkfabGreat

namespace Go.Proofs.YteflknfejjdkfabGreat
open Go.RowKit Go.Lib Go.Shelf
attribute [local go_sem] Oper.semAt_some

theorem two_heap {w V : World} {o1 o2 : Obj} (hb : Below ((w.alloc o1).alloc o2).heap.size ((w.alloc o1).alloc o2) V) : V.heap[w.heap.size]? = some o1 ∧ V.heap[w.heap.size + 1]? = some o2 := by
  have h1 := vheapW w o1
  have h2 := vheapW (w.alloc o1) o2
  simp only [World.size_alloc] at h2
  have e0 := Below.heap_alloc (w.alloc o1) o2 w.heap.size (by simp)
  exact ⟨(hb.block w.heap.size (by simp only [World.size_alloc]; omega)).trans (e0.trans h1), (hb.block (w.heap.size + 1) (by simp only [World.size_alloc]; omega)).trans h2⟩
theorem boxed_besideW {W w1 : World} {n₀ B B' : Nat} {t' e : TypeId} {size : Nat} {v v' u : Value} {k : Nat} {xs : List Value} {tmp : Obj} (hu : Boxed W B' t' u) (hte : t' ≠ e) (hne : B' ≠ B) (hrow : W.ownsRow n₀ e size v k xs) (hgrow : (W.alloc tmp).grownBy w1 v.ownBlock) : Boxed (w1.setCell ⟨B, 0, none⟩ v') B' t' u :=
  ((hu.alloc tmp).kept hgrow (hu.not_row hte hrow)).other hne v'
theorem put_cell (W : World) (l : Nat) (o' : Obj) (B : Nat) (h : B ≠ l) : (W.putObj l o').cell? ⟨B, 0, none⟩ = W.cell? ⟨B, 0, none⟩ := by
  unfold World.cell?
  rw [show (W.putObj l o').heap[B]? = W.heap[B]? from by simp [World.putObj, Ne.symm h]]
set_option maxHeartbeats 1000000 in
theorem reached_any (x : Int) (bo bt : Nat) (w : World) :
    Calls Tryz.prog 15 #[.int .i64 x, .func (.func 27) #[] #[.pointer (some ⟨bo, 0, none⟩), .pointer (some ⟨bt, 0, none⟩)]] w fun e w' => e = .returned (.func (.func 29) #[] #[.pointer (some ⟨w.heap.size + 1, 0, none⟩), .pointer (some ⟨w.heap.size, 0, none⟩)]) ∧ w' = (w.alloc (.cells #[.int .i64 x] 3)).alloc (.cells #[.func (.func 27) #[] #[.pointer (some ⟨bo, 0, none⟩), .pointer (some ⟨bt, 0, none⟩)]] 49) := by
  go_enter Tryz.func15, Tryz.ntmps15
  go_wp2
  go_ret
  exact ⟨rfl, rfl⟩

set_option maxRecDepth 100000 in
set_option maxHeartbeats 4000000 in
theorem All_err (o : Option Addr) (cap : Nat) (ns : List NodeD) (root cur : Int) (sh : Nat) (ro : Option Addr) (rc : Nat) (rules : List RuleD) (way : Nat) (w : World) (hF : FRd w o cap ns) (hkl : ∀ (i : Nat) (hi : i < ns.length), ns[i].kids.length ≤ 1099511627776) (hal : ∀ (i : Nat) (hi : i < ns.length), ns[i].attrs.length ≤ 1099511627776) (hru : RdR w (.slice ro rules.length rc) rules) (hrl : rules.length ≤ 1099511627776) (h256 : way < 256) (hE : stepE ns root cur rules way ≠ 0) :
    Calls Tryz.prog 6 #[.agg #[.slice o ns.length cap], .agg #[.int .i64 root, .int .i64 cur, .int .u32 (sh : Int), .slice ro rules.length rc], .int .u8 (way : Int)] w fun e w' => e = .returned (.tuple #[.slice none 0 0, .int .i64 (stepE ns root cur rules way)]) ∧ Below w.heap.size w w' := by
  have hB0 : Below w.heap.size w ((w.alloc (.cells #[.slice o ns.length cap] 24)).alloc (.cells #[.int .i64 root, .int .i64 cur, .int .u32 (sh : Int), .slice ro rules.length rc] 30)) := ((Below.refl _ w).alloc (Nat.le_refl _) _).alloc (by simp) _
  have HW := hid (stepOf_err o cap ns root cur sh ro rc rules way ((w.alloc (.cells #[.slice o ns.length cap] 24)).alloc (.cells #[.int .i64 root, .int .i64 cur, .int .u32 (sh : Int), .slice ro rules.length rc] 30)) (hF.later hB0) hkl hal (hru.later hB0) hrl h256 hE)
  have n0 : (stepE ns root cur rules way != 0) = true := by rw [bne, beq_eq_false_iff_ne.2 hE]; rfl
  have HB0 := hid hB0
  clear hF hkl hal hru hB0 hE
  generalize stepE ns root cur rules way = E at *
  refine (callsIn_wide (n := 5)).1 ?_
  refine callsIn_of_wp_marks Tryz.func6 rfl trivial ?_ rfl
  simp only [Tryz.ntmps6, List.size_toArray, List.length_cons, List.length_nil, Nat.reduceAdd, Nat.reduceSub, Array.replicate_succ, Array.replicate_zero, List.push_toArray, List.append_toArray, List.nil_append, List.cons_append]
  gi_wp2
  refine ⟨trivial, (callsIn_wide.2 HW.out).mono ?_⟩
  rintro r1 v1 ⟨rfl, hb⟩
  have HB1 := hid (HB0.out.trans (hb.mono HB0.out.size))
  clear hb
  gi_wp2
  exact ⟨.tuple #[.slice none 0 0, .int .i64 E], by simp [results, Tryz.results6, go_sem], rfl, HB1.out⟩

set_option maxRecDepth 100000 in
set_option maxHeartbeats 8000000 in
theorem All_ok (b off : Nat) (cap : Nat) (ns : List NodeD) (root cur : Int) (sh : Nat) (ro : Option Addr) (rc : Nat) (rules : List RuleD) (way : Nat) (w : World) (hFA : FAt w b off cap ns) (hkl : ∀ (i : Nat) (hi : i < ns.length), ns[i].kids.length ≤ 1099511627776) (hal : ∀ (i : Nat) (hi : i < ns.length), ns[i].attrs.length ≤ 1099511627776) (hru : RdR w (.slice ro rules.length rc) rules) (hrl : rules.length ≤ 1099511627776) (hs : sh < 4294967296) (hE : stepE ns root cur rules way = 0) :
    Calls Tryz.prog 6 #[.agg #[.slice (some ⟨b, off, none⟩) ns.length cap], .agg #[.int .i64 root, .int .i64 cur, .int .u32 (sh : Int), .slice ro rules.length rc], .int .u8 (way : Int)] w fun e w' => ∃ v, e = .returned (.tuple #[v, .int .i64 0]) ∧ w'.ownsRow w.heap.size 3 1 v (reachD ns root sh rules way cur).length ((reachD ns root sh rules way cur).map (Value.int .i64)) ∧ Below w.heap.size w w' := by
  obtain ⟨i0, hi, hz0, hz1, hz2⟩ := info_parts info_int
  have hB0 : Below w.heap.size w ((w.alloc (.cells #[.slice (some ⟨b, off, none⟩) ns.length cap] 24)).alloc (.cells #[.int .i64 root, .int .i64 cur, .int .u32 (sh : Int), .slice ro rules.length rc] 30)) := ((Below.refl _ w).alloc (Nat.le_refl _) _).alloc (by simp) _
  have hE0 : wrongE ns [root, cur] rules = 0 := by
    unfold stepE at hE
    split at hE
    · assumption
    · rename_i h; exact absurd hE h
  have hway : isWay way = true := by
    unfold stepE at hE
    rw [if_pos hE0] at hE
    cases hw : isWay way with
    | true => rfl
    | false => rw [hw] at hE; cases hE
  obtain ⟨hR, hth, hfE⟩ := wrongE_ok hE0
  have hcur := hth cur (by simp)
  have hroot := hth root (by simp)
  have hlen := reachD_len hR hroot sh rules way hcur
  have HW := hid (stepOf_way b off cap ns root cur sh ro rc rules way ((w.alloc (.cells #[.slice (some ⟨b, off, none⟩) ns.length cap] 24)).alloc (.cells #[.int .i64 root, .int .i64 cur, .int .u32 (sh : Int), .slice ro rules.length rc] 30)) (hFA.later hB0) hkl hal (hru.later hB0) hrl hs hE0 hway)
  have HB0 := hid hB0
  clear hB0 hE
  refine (callsIn_wide (n := 5)).1 ?_
  refine callsIn_of_wp_marks Tryz.func6 rfl trivial ?_ rfl
  simp only [Tryz.ntmps6, List.size_toArray, List.length_cons, List.length_nil, Nat.reduceAdd, Nat.reduceSub, Array.replicate_succ, Array.replicate_zero, List.push_toArray, List.append_toArray, List.nil_append, List.cons_append]
  gi_wp2
  refine ⟨trivial, (callsIn_wide.2 HW.out).mono ?_⟩
  rintro r1 v1 ⟨bk, bf, bd, bo, bt, rfl, hSC, hbs, hb⟩
  have HB1 := hid (HB0.out.trans (hb.mono HB0.out.size))
  obtain ⟨k0, k1⟩ := two_heap hb
  obtain ⟨c0, c1, c2, c3⟩ := cells4 k1
  have c1' := keep_cell_l (.cells #[.slice none 0 0] 40) c1
  have HR := hid (reached_any cur bo bt (v1.alloc (.cells #[.slice none 0 0] 40)))
  clear hb k0 k1
  gi_wp2
  refine ⟨trivial, (callsIn_wide.2 HR.out).mono ?_⟩
  rintro r2 v2 ⟨rfl, rfl⟩
  gi_wp2
  have bO : Boxed (((v1.alloc (.cells #[.slice none 0 0] 40)).alloc (.cells #[.int .i64 cur] 3)).alloc (.cells #[.func (.func 27) #[] #[.pointer (some ⟨bo, 0, none⟩), .pointer (some ⟨bt, 0, none⟩)]] 49)) v1.heap.size 40 (.slice none 0 0) := ((Boxed.new v1 40 (.slice none 0 0)).alloc _).alloc _
  have bC : Boxed (((v1.alloc (.cells #[.slice none 0 0] 40)).alloc (.cells #[.int .i64 cur] 3)).alloc (.cells #[.func (.func 27) #[] #[.pointer (some ⟨bo, 0, none⟩), .pointer (some ⟨bt, 0, none⟩)]] 49)) (v1.heap.size + 1) 3 (.int .i64 cur) := by
    have := Boxed.new (v1.alloc (.cells #[.slice none 0 0] 40)) 3 (.int .i64 cur)
    rw [World.size_alloc] at this
    exact this.alloc _
  have bS : Boxed (((v1.alloc (.cells #[.slice none 0 0] 40)).alloc (.cells #[.int .i64 cur] 3)).alloc (.cells #[.func (.func 27) #[] #[.pointer (some ⟨bo, 0, none⟩), .pointer (some ⟨bt, 0, none⟩)]] 49)) (v1.heap.size + 1 + 1) 49 (.func (.func 27) #[] #[.pointer (some ⟨bo, 0, none⟩), .pointer (some ⟨bt, 0, none⟩)]) := by
    have := Boxed.new ((v1.alloc (.cells #[.slice none 0 0] 40)).alloc (.cells #[.int .i64 cur] 3)) 49 (.func (.func 27) #[] #[.pointer (some ⟨bo, 0, none⟩), .pointer (some ⟨bt, 0, none⟩)])
    simp only [World.size_alloc] at this
    exact this
  have hB5 : Below v1.heap.size v1 (((v1.alloc (.cells #[.slice none 0 0] 40)).alloc (.cells #[.int .i64 cur] 3)).alloc (.cells #[.func (.func 27) #[] #[.pointer (some ⟨bo, 0, none⟩), .pointer (some ⟨bt, 0, none⟩)]] 49)) := (((Below.refl _ v1).alloc (Nat.le_refl _) _).alloc (by simp) _).alloc (by simp; omega) _
  have hzw : w.heap.size ≤ v1.heap.size := HB1.out.size
  have hG : ∀ y, thereB ns.length y = true → stepD ns root sh rules way y = 0 ∨ thereB ns.length (stepD ns root sh rules way y) = true := fun y hy => (stepD_good hR hroot sh rules hway hy).imp id (fun h => h.1)
  have hL : ∀ y, thereB ns.length y = true → reachD ns root sh rules way y = restL (reachD ns root sh rules way) (stepD ns root sh rules way y) := fun y hy => reachD_eq hR hroot sh rules hway hy
  have hS : ∀ (y : Int) (V : World), thereB ns.length y = true → Below v1.heap.size (((v1.alloc (.cells #[.slice none 0 0] 40)).alloc (.cells #[.int .i64 cur] 3)).alloc (.cells #[.func (.func 27) #[] #[.pointer (some ⟨bo, 0, none⟩), .pointer (some ⟨bt, 0, none⟩)]] 49)) V → _ := fun y V hy hV => step1_any hSC y hy V (hB5.trans hV)
  refine wpIn_rangeFunc_ownG rfl (by omega) (gf := 29) (lb := #[.pointer (some ⟨v1.heap.size + 1 + 1, 0, none⟩), .pointer (some ⟨v1.heap.size + 1, 0, none⟩)]) rfl trivial (enters_of Tryz.func29 (by kernel_rfl) rfl)
    (reach_stops (5 - 1) (v1.heap.size + 1 + 1) (v1.heap.size + 1) v1.heap.size bo bt ns.length (by omega) cur (stepD ns root sh rules way) (reachD ns root sh rules way) _ (by simp only [World.size_alloc]; omega) (by simp only [World.size_alloc]; omega) (by simp only [World.size_alloc]; omega) hS hG hL bS.cell bC.cell hcur)
    (fun h k => ⟨h.1.trans k.1, k.2.trans h.2⟩)
    (fun W l o o' hl hW hc hw => ⟨belowK_b (w := (((v1.alloc (.cells #[.slice none 0 0] 40)).alloc (.cells #[.int .i64 cur] 3)).alloc (.cells #[.func (.func 27) #[] #[.pointer (some ⟨bo, 0, none⟩), .pointer (some ⟨bt, 0, none⟩)]] 49))) (by simp only [World.size_alloc]; omega) W l o o' hl hW hc hw, put_cell W l o' (v1.heap.size + 1 + 1) (by simp only [World.size_alloc] at hl; omega)⟩) (Below.refl _ _) (fun _ => rfl)
    (fun pre W => ((∃ v, Boxed W v1.heap.size 40 v ∧ W.ownsRow v1.heap.size 3 1 v pre.length (pre.map (Value.int .i64)) ∧ (v = .slice none 0 0 ↔ pre = [])) ∧ Boxed W (v1.heap.size + 1 + 1) 49 (.func (.func 27) #[] #[.pointer (some ⟨bo, 0, none⟩), .pointer (some ⟨bt, 0, none⟩)])) ∧ Below v1.heap.size v1 W)
    (fun _ _ _ => False)
    (OwnFrom.and (OwnFrom.and (Own.from (holdsRow_own v1.heap.size v1.heap.size 40 3 1 (fun pre => pre.length) (fun pre => pre.map (Value.int .i64)) (fun pre v => v = .slice none 0 0 ↔ pre = [])) _) (Own.from (boxed_own _ _ _) _)) (ownFrom_below (Nat.le_refl _) (by simp only [World.size_alloc]; omega)))
    (fun _ _ _ _ _ hs _ _ => hs)
    ⟨⟨⟨_, bO, World.ownsRow_nil _ _ _ _, by simp⟩, bS⟩, hB5⟩
    (fun z => { tmps := #[.agg #[.slice (some ⟨b, off, none⟩) ns.length cap], .agg #[.int .i64 root, .int .i64 cur, .int .u32 (sh : Int), .slice ro rules.length rc], .int .u8 (way : Int), .pointer (some ⟨w.heap.size, 0, none⟩), .pointer (some ⟨w.heap.size + 1, 0, none⟩), undef, .slice none 0 0, .int .i64 0, .func (.func 27) #[] #[.pointer (some ⟨bo, 0, none⟩), .pointer (some ⟨bt, 0, none⟩)], .int .i64 0, .pointer (some ⟨v1.heap.size, 0, none⟩), .int .i64 z, .tuple #[.func (.func 27) #[] #[.pointer (some ⟨bo, 0, none⟩), .pointer (some ⟨bt, 0, none⟩)], .int .i64 0], .agg #[.slice (some ⟨b, off, none⟩) ns.length cap], .agg #[.int .i64 root, .int .i64 cur, .int .u32 (sh : Int), .slice ro rules.length rc], .int .u8 (way : Int), .tuple #[.func (.func 27) #[] #[.pointer (some ⟨bo, 0, none⟩), .pointer (some ⟨bt, 0, none⟩)], .int .i64 0], .func (.func 27) #[] #[.pointer (some ⟨bo, 0, none⟩), .pointer (some ⟨bt, 0, none⟩)], .int .i64 0, .int .i64 0, .bool false, undef, .pointer (some ⟨w.heap.size + 1, 1, none⟩), .int .i64 cur, .func (.func 27) #[] #[.pointer (some ⟨bo, 0, none⟩), .pointer (some ⟨bt, 0, none⟩)], .func (.func 29) #[] #[.pointer (some ⟨v1.heap.size + 1 + 1, 0, none⟩), .pointer (some ⟨v1.heap.size + 1, 0, none⟩)], .int .i64 z, undef, undef, undef, undef, undef], defers := [] }) ?assign ?body ?done ?stop
  case assign =>
    intro l z W K hK
    gi_wp2
    exact hK
  case body =>
    rintro l pre z W ⟨⟨⟨v, hv, hrow, hnil⟩, hvs⟩, hB⟩ hlt
    have hc := hv.cell
    have m1 : pre.length + 1 ≤ maxLen := by simp only [maxLen]; omega
    have m2 : (pre.length + 1) * 8 ≤ 140737488355328 := by omega
    have m3 : v1.heap.size ≤ (W.alloc (.cells #[.int .i64 z] 3)).heap.size := by have := hB.size; simp; omega
    gi_wp2_with (gi_at_builtin; refine wpListIn_append_own _ rfl _ _ 40 rfl v1.heap.size 3 i0 (.int .i64 0) 1 8 Tryz.underlying40 hi hz0 hz1 hz2 rfl (by decide) _ _ _ rfl (hrow.alloc _) ⟨W.heap.size, 0, none⟩ 1 1 [.int .i64 z] rfl rfl (cell_one_new _ _ _) (by simp [Value.oneCell']) m1 m2 m3 ?_; intro v' w1 hown' hgrow _; obtain ⟨g', cap', rfl⟩ := ownsRow_succ hown'; obtain ⟨hv1, hv2, hr2, hk2, hb2⟩ := hv.appended (by decide) hrow hB.size (Nat.le_refl _) hown' hgrow; have hvs2 := boxed_besideW hvs (B := v1.heap.size) (v' := .slice (some ⟨g', 0, none⟩) (pre.length + 1) cap') (by decide) (by omega) hrow hgrow; have hc1 := hv1.cell; have hf1 := hv1.frozen)
    exact ⟨hk2.from _, ⟨hb2, hvs2.cell.trans hvs.cell.symm⟩, ⟨⟨_, hv2, by simpa using hr2, by simp⟩, hvs2⟩, hB.trans hb2⟩
  case done =>
    rintro D ys W hD rfl ⟨⟨⟨v, hv, hrow, hnil⟩, hvs⟩, hB⟩ hK
    have hc := hv.cell
    gi_wp2
    refine ⟨by simp, .inl ⟨_, _, rfl, run_takeDeferred hK, ?_⟩⟩
    have hBw : Below w.heap.size w W := HB1.out.trans (hB.mono hzw)
    exact ⟨.tuple #[v, .int .i64 0], by simp [results, Tryz.results6, go_sem], v, rfl, own_base hzw (ownsRow_putObj hrow _ hK rfl), hBw.trans (belowK_b (w := w) (Nat.le_refl _) W D _ _ (by simp only [World.size_alloc] at hD; omega) hK rfl rfl)⟩
  case stop =>
    rintro D c pre W _ _ h _
    exact h.elim
end Go.Proofs.YteflknfejjdkfabGreat

namespace Go.Proofs.YteflknfejjdkfabGreat
open Go.RowKit Go.Lib Go.Maps

theorem new_heap {w V : World} {o1 o2 o3 o4 : Obj} (hb : Below ((((w.alloc o1).alloc o2).alloc o3).alloc o4).heap.size ((((w.alloc o1).alloc o2).alloc o3).alloc o4) V) : V.heap[w.heap.size + 1]? = some o2 ∧ V.heap[w.heap.size + 1 + 1]? = some o3 := by
  have h2 := vheapW (w.alloc o1) o2
  have h3 := vheapW ((w.alloc o1).alloc o2) o3
  simp only [World.size_alloc] at h2 h3
  have e1 := Below.heap_alloc (((w.alloc o1).alloc o2).alloc o3) o4 (w.heap.size + 1) (by simp only [World.size_alloc]; omega)
  have e2 := Below.heap_alloc ((w.alloc o1).alloc o2) o3 (w.heap.size + 1) (by simp only [World.size_alloc]; omega)
  have e3 := Below.heap_alloc (((w.alloc o1).alloc o2).alloc o3) o4 (w.heap.size + 1 + 1) (by simp only [World.size_alloc]; omega)
  exact ⟨(hb.block (w.heap.size + 1) (by simp only [World.size_alloc]; omega)).trans (e1.trans (e2.trans h2)), (hb.block (w.heap.size + 1 + 1) (by simp only [World.size_alloc]; omega)).trans (e3.trans h3)⟩
theorem cells2 {V : World} {B : Nat} {a b : Value} {t : TypeId} (h : V.heap[B]? = some (.cells #[a, b] t)) : V.cell? ⟨B, 0, none⟩ = some a ∧ V.cell? ⟨B, 1, none⟩ = some b := by
  have hk : ∀ j : Nat, V.cell? ⟨B, j, none⟩ = #[a, b][j]? := fun j => by
    unfold World.cell?
    simp only [h]
    exact if_neg (by decide)
  exact ⟨(hk 0).trans rfl, (hk 1).trans rfl⟩
set_option maxRecDepth 100000 in
set_option maxHeartbeats 4000000 in
theorem New_err (o : Option Addr) (cap : Nat) (ns : List NodeD) (root : Int) (sh : Nat) (ro : Option Addr) (rc : Nat) (rules : List RuleD) (w : World) (hF : FRd w o cap ns) (hkl : ∀ (i : Nat) (hi : i < ns.length), ns[i].kids.length ≤ 1099511627776) (hal : ∀ (i : Nat) (hi : i < ns.length), ns[i].attrs.length ≤ 1099511627776) (hru : RdR w (.slice ro rules.length rc) rules) (hrl : rules.length ≤ 1099511627776) (hE : wrongE ns [root] rules ≠ 0) :
    Calls Tryz.prog 10 #[.agg #[.slice o ns.length cap], .int .i64 root, .agg #[.int .u32 (sh : Int), .slice ro rules.length rc]] w fun e w' => e = .returned (.tuple #[.agg #[.int .i64 0, .int .i64 0, .int .u32 0, .slice none 0 0], .int .i64 (wrongE ns [root] rules)]) ∧ Below w.heap.size w w' := by
  have hB0 : Below w.heap.size w ((((w.alloc (.cells #[.slice o ns.length cap] 24)).alloc (.cells #[.int .u32 (sh : Int), .slice ro rules.length rc] 28)).alloc (.cells #[.int .i64 0, .int .i64 0, .int .u32 0, .slice none 0 0] 30)).alloc (.cells #[.int .i64 root] 3)) := ((((Below.refl _ w).alloc (Nat.le_refl _) _).alloc (by simp) _).alloc (by simp; omega) _).alloc (by simp; omega) _
  have kr := one_rdI (((w.alloc (.cells #[.slice o ns.length cap] 24)).alloc (.cells #[.int .u32 (sh : Int), .slice ro rules.length rc] 28)).alloc (.cells #[.int .i64 0, .int .i64 0, .int .u32 0, .slice none 0 0] 30)) root 3
  simp only [World.size_alloc] at kr
  have HW := hid (wrong_any o cap sh ro rc rules _ [root] ns ((((w.alloc (.cells #[.slice o ns.length cap] 24)).alloc (.cells #[.int .u32 (sh : Int), .slice ro rules.length rc] 28)).alloc (.cells #[.int .i64 0, .int .i64 0, .int .u32 0, .slice none 0 0] 30)).alloc (.cells #[.int .i64 root] 3)) (hF.later hB0) hkl hal kr (by simp) (hru.later hB0) hrl)
  have n0 : (wrongE ns [root] rules != 0) = true := by rw [bne, beq_eq_false_iff_ne.2 hE]; rfl
  have HB0 := hid hB0
  clear hF hkl hal hru kr hB0 hE
  generalize wrongE ns [root] rules = E at *
  go_enter Tryz.func10, Tryz.ntmps10
  go_wp2_with (go_at_call 23; refine HW.out.mono ?_; rintro r1 v1 ⟨rfl, hb⟩; have HB1 := hid (HB0.out.trans (hb.mono HB0.out.size)); obtain ⟨k1, k2⟩ := new_heap hb; obtain ⟨i0, i1, i2, i3⟩ := cells4 k2; obtain ⟨f0, f1, f2, f3⟩ := free4 k2; have HK2 := hid k2; clear hb k1 k2)
  have hn := four_set HK2.out (.int .i64 0) (.int .i64 0) (.int .u32 0) (.slice none 0 0)
  obtain ⟨j0, j1, j2, j3⟩ := cells4 hn
  exact bodyPost_ret (v := .tuple #[.agg #[.int .i64 0, .int .i64 0, .int .u32 0, .slice none 0 0], .int .i64 E]) (by simp [results, Tryz.results10, go_sem, j0, j1, j2, j3]) rfl ⟨rfl, below_four HB1.out (by omega)⟩

set_option maxRecDepth 100000 in
set_option maxHeartbeats 4000000 in
theorem New_ok (o : Option Addr) (cap : Nat) (ns : List NodeD) (root : Int) (sh : Nat) (ro : Option Addr) (rc : Nat) (rules : List RuleD) (w : World) (hF : FRd w o cap ns) (hkl : ∀ (i : Nat) (hi : i < ns.length), ns[i].kids.length ≤ 1099511627776) (hal : ∀ (i : Nat) (hi : i < ns.length), ns[i].attrs.length ≤ 1099511627776) (hru : RdR w (.slice ro rules.length rc) rules) (hrl : rules.length ≤ 1099511627776) (hE : wrongE ns [root] rules = 0) :
    Calls Tryz.prog 10 #[.agg #[.slice o ns.length cap], .int .i64 root, .agg #[.int .u32 (sh : Int), .slice ro rules.length rc]] w fun e w' => ∃ vo vc, e = .returned (.tuple #[.agg #[.int .i64 root, .int .i64 root, .int .u32 (sh : Int), .slice vo rules.length vc], .int .i64 0]) ∧ w'.ownsRow w.heap.size 39 3 (.slice vo rules.length vc) rules.length (rulesC rules) ∧ Below w.heap.size w w' := by
  have hB0 : Below w.heap.size w ((((w.alloc (.cells #[.slice o ns.length cap] 24)).alloc (.cells #[.int .u32 (sh : Int), .slice ro rules.length rc] 28)).alloc (.cells #[.int .i64 0, .int .i64 0, .int .u32 0, .slice none 0 0] 30)).alloc (.cells #[.int .i64 root] 3)) := ((((Below.refl _ w).alloc (Nat.le_refl _) _).alloc (by simp) _).alloc (by simp; omega) _).alloc (by simp; omega) _
  have kr := one_rdI (((w.alloc (.cells #[.slice o ns.length cap] 24)).alloc (.cells #[.int .u32 (sh : Int), .slice ro rules.length rc] 28)).alloc (.cells #[.int .i64 0, .int .i64 0, .int .u32 0, .slice none 0 0] 30)) root 3
  simp only [World.size_alloc] at kr
  have HW := hid (wrong_any o cap sh ro rc rules _ [root] ns ((((w.alloc (.cells #[.slice o ns.length cap] 24)).alloc (.cells #[.int .u32 (sh : Int), .slice ro rules.length rc] 28)).alloc (.cells #[.int .i64 0, .int .i64 0, .int .u32 0, .slice none 0 0] 30)).alloc (.cells #[.int .i64 root] 3)) (hF.later hB0) hkl hal kr (by simp) (hru.later hB0) hrl)
  rw [hE] at HW
  obtain ⟨_, _, hfE⟩ := wrongE_ok hE
  have HC : Hid (∀ V : World, Below w.heap.size w V → _) := fun V hV => wcopyOf_any sh ro rc rules V (hru.later hV) (filterE_ok hfE).1
  have HB0 := hid hB0
  clear hF hkl hal hru kr hB0 hE hfE
  go_enter Tryz.func10, Tryz.ntmps10
  go_wp2_with (first
    | (go_at_call 23; refine HW.out.mono ?_; rintro r1 v1 ⟨rfl, hb⟩; have HB1 := hid (HB0.out.trans (hb.mono HB0.out.size)); have HX := hid hb; obtain ⟨k1, k2⟩ := new_heap hb; obtain ⟨i0, i1⟩ := cells2 k1; clear hb k1 k2)
    | (go_at_call 14; refine (HC.out _ HB1.out).mono ?_; rintro r2 v2 ⟨vo, vc, rfl, hown, hb⟩; have HO := hid hown; have HB2 := hid (HB1.out.trans (hb.mono HB1.out.size)); obtain ⟨k1, k2⟩ := new_heap (HX.out.trans (hb.mono HX.out.size)); obtain ⟨m0, m1, m2, m3⟩ := cells4 k2; obtain ⟨f0, f1, f2, f3⟩ := free4 k2; have HK2 := hid k2; clear hb hown k1 k2))
  have hn := four_set HK2.out (.int .i64 root) (.int .i64 root) (.int .u32 (sh : Int)) (.slice vo rules.length vc)
  obtain ⟨j0, j1, j2, j3⟩ := cells4 hn
  have hz := HX.out.size
  simp only [World.size_alloc] at hz
  exact bodyPost_ret (v := .tuple #[.agg #[.int .i64 root, .int .i64 root, .int .u32 (sh : Int), .slice vo rules.length vc], .int .i64 0]) (by simp [results, Tryz.results10, go_sem, j0, j1, j2, j3]) rfl ⟨vo, vc, rfl, own_base (by omega) (own_four HO.out (by omega)), below_four HB2.out (by omega)⟩
end Go.Proofs.YteflknfejjdkfabGreat

namespace Go.Proofs.YteflknfejjdkfabGreat
open Go.RowKit Go.Lib Go.Shelf

theorem beq_drop3 (p q : List Int) (k : Nat) (h1 : k < p.length) (h2 : k < q.length) : (p.drop k == q.drop k) = (p[k] == q[k] && (p.drop (k + 1) == q.drop (k + 1))) := by
  rw [List.drop_eq_getElem_cons h1, List.drop_eq_getElem_cons h2]
  rfl
theorem beq_len3 {p q : List Int} (h : p.length ≠ q.length) : (p == q) = false := beq_eq_false_iff_ne.2 (fun e => h (congrArg List.length e))

set_option maxRecDepth 100000 in
set_option maxHeartbeats 4000000 in
theorem ints3_any (v1 v2 : Value) (p q : List Int) (w : World) (hp : RdI w v1 p) (hq : RdI w v2 q) (lp : p.length ≤ 1099511627776) :
    Calls Tryz.prog 12 #[v1, v2] w fun e w' => e = .returned (.bool (p == q)) ∧ Below w.heap.size w w' := by
  obtain ⟨o1, c1, rfl, hc1, g1⟩ := hp
  obtain ⟨o2, c2, rfl, hc2, g2⟩ := hq
  by_cases hl : p.length = q.length
  · obtain ⟨R, hR⟩ : ∃ R, (p == q) = R := ⟨_, rfl⟩
    rw [hR]
    have HR : Hid ((p.drop 0 == q.drop 0) = R) := hR
    have e1 : ((p.length : Int) != (q.length : Int)) = false := by rw [hl]; simp
    clear hR
    go_enter Tryz.func12, Tryz.ntmps12
    go_wp2
    go_loopw [13] (fun t wr => ∃ k m : Nat, k ≤ p.length ∧ t = .int .i64 k ∧ wr = w.drewN m ∧ Hid ((p.drop k == q.drop k) = R)) (fun t _ => p.length - (RowKit.intOf t).toNat)
    case atStart => exact ⟨0, 0, Nat.zero_le _, rfl, rfl, HR⟩
    case round =>
      obtain ⟨k, m, k1, rfl, rfl, hK⟩ := hrel
      clear HR
      by_cases l1 : k < p.length
      · have l2 : k < q.length := by omega
        obtain ⟨b1, off1, rfl, hlt1, ha1⟩ := g1 (by omega)
        obtain ⟨b2, off2, rfl, hlt2, ha2⟩ := g2 (by omega)
        have x1 := ha1 k l1
        have x2 := ha2 k l2
        have Hf := hid (beq_drop3 p q k l1 l2)
        have q1 : (0 : Int) ≤ (k : Int) := by omega
        have q2 : (k : Int) < (p.length : Int) := by omega
        have q3 : (k : Int) < (q.length : Int) := by omega
        clear ha1 ha2 g1 g2
        generalize p[k] = a at *
        generalize q[k] = a2 at *
        cases he : (a == a2) with
        | true =>
          have Hn : Hid ((p.drop (k + 1) == q.drop (k + 1)) = R) := by
            show _ = _
            rw [← hK.out, Hf.out, he, Bool.true_and]
          have hne : (a != a2) = false := by rw [bne, he]; rfl
          clear Hf hK e1 hl
          go_upto_region 6 with fail
          go_quiet (fail)
          go_wp2
          go_roundw
          case rel => exact ⟨k + 1, m + nq, by omega, by go_num, by simp, Hn⟩
          case measure => simp [RowKit.intOf]; omega
        | false =>
          have hRf : R = false := by rw [← hK.out, Hf.out, he, Bool.false_and]
          have hne : (a != a2) = true := by rw [bne, he]; rfl
          subst hRf
          clear Hf hK e1 hl
          go_upto_region 6 with fail
          go_quiet (fail)
          go_wp2
          go_ret
          exact ⟨rfl, (drewN_below _ _ _).trans (drewN_below _ _ _)⟩
      · have hRt : R = true := by
          rw [← hK.out, List.drop_eq_nil_of_le (by omega), List.drop_eq_nil_of_le (by omega)]
          rfl
        subst hRt
        have hkp : k = p.length := by omega
        subst hkp
        have hd : decide (p.length < q.length) = false := decide_eq_false (by omega)
        clear hK g1 g2 e1 hl l1 k1
        go_wp2
        go_ret
        exact ⟨rfl, drewN_below _ _ _⟩
  · rw [beq_len3 hl]
    have e1 : ((p.length : Int) != (q.length : Int)) = true := by rw [bne, beq_eq_false_iff_ne.2 (by omega)]; rfl
    clear g1 g2
    go_enter Tryz.func12, Tryz.ntmps12
    go_wp2
    go_ret
    exact ⟨rfl, Below.refl _ _⟩
end Go.Proofs.YteflknfejjdkfabGreat

namespace Go.Proofs.YteflknfejjdkfabGreat
open Go.RowKit Go.Lib Go.Shelf

def treeD : List NodeD := [{ noNode with kind := 9, kids := [2], doc := 1 }, { noNode with kind := 1, loc := ⟨#[97]⟩, parent := 1, kids := [3, 4], doc := 1 }, { noNode with kind := 1, loc := ⟨#[98]⟩, parent := 2, doc := 1 }, { noNode with kind := 1, loc := ⟨#[99]⟩, parent := 2, doc := 1 }]
def showAll : Nat := 4294967295
def ruleB : RuleD := ⟨0, ⟨#[98]⟩, 2⟩
theorem tree_right : rightD treeD = true := by decide +kernel
theorem tree_answers : wrongE treeD [2] [] = 0 ∧ stepE treeD 2 2 [] 2 = 0 ∧ stepE treeD 2 2 [] 7 = 0 ∧ stepE treeD 2 2 [ruleB] 2 = 0 ∧ stepD treeD 2 showAll [] 2 2 = 3 ∧ reachD treeD 2 showAll [] 7 2 = [3, 4] ∧ stepD treeD 2 showAll [ruleB] 2 2 = 4 := by decide +kernel
theorem rdR_nil (W : World) (o : Option Addr) (c : Nat) : RdR W (.slice o ([] : List RuleD).length c) [] := ⟨o, c, rfl, Nat.zero_le _, fun h => absurd h (Nat.lt_irrefl _)⟩
theorem tree_kids : ∀ (i : Nat) (hi : i < treeD.length), treeD[i].kids.length ≤ 1099511627776 := by decide +kernel
theorem tree_attrs : ∀ (i : Nat) (hi : i < treeD.length), treeD[i].attrs.length ≤ 1099511627776 := by decide +kernel
theorem at_rdW {w : World} {b off cap : Nat} {ns : List NodeD} (h : FAt w b off cap ns) : FRd w (some ⟨b, off, none⟩) cap ns := ⟨h.len, fun _ => ⟨b, off, rfl, h⟩⟩
theorem enterTree (w : World) : (callFunc 11 #[]).run Tryz.prog w = .ok (.enter 11 #[]) w := by kernel_rfl
theorem enterStepF (a b c : Value) (w : World) : (callFunc 5 #[a, b, c]).run Tryz.prog w = .ok (.enter 5 #[a, b, c]) w := by kernel_rfl
theorem enterAllF (a b c : Value) (w : World) : (callFunc 6 #[a, b, c]).run Tryz.prog w = .ok (.enter 6 #[a, b, c]) w := by kernel_rfl
/-- The calls that are made, in any world. -/
theorem lNew (g cap : Nat) (V : World) (h : FAt V g 0 cap treeD) : Calls Tryz.prog 10 #[.agg #[.slice (some ⟨g, 0, none⟩) 4 cap], .int .i64 2, .agg #[.int .u32 4294967295, .slice none 0 0]] V fun e w' => ∃ vo vc, e = .returned (.tuple #[.agg #[.int .i64 2, .int .i64 2, .int .u32 4294967295, .slice vo 0 vc], .int .i64 0]) ∧ Below V.heap.size V w' := by
  refine (New_ok (some ⟨g, 0, none⟩) cap treeD 2 showAll none 0 [] V (at_rdW h) tree_kids tree_attrs (rdR_nil V none 0) (by decide) tree_answers.1).mono ?_
  rintro e w' ⟨vo, vc, rfl, _, hb⟩
  exact ⟨vo, vc, rfl, hb⟩
theorem lStep (g cap : Nat) (vo : Option Addr) (vc : Nat) (V : World) (h : FAt V g 0 cap treeD) : Calls Tryz.prog 5 #[.agg #[.slice (some ⟨g, 0, none⟩) 4 cap], .agg #[.int .i64 2, .int .i64 2, .int .u32 4294967295, .slice vo 0 vc], .int .u8 2] V fun e w' => ∃ vo vc, e = .returned (.tuple #[.agg #[.int .i64 2, .int .i64 3, .int .u32 4294967295, .slice vo 0 vc], .int .i64 3, .int .i64 0]) ∧ Below V.heap.size V w' := by
  refine (Step_ok g 0 cap treeD 2 2 showAll vo vc [] 2 V h tree_kids tree_attrs (rdR_nil V vo vc) (by decide) (by decide) tree_answers.2.1).mono ?_
  rintro e w' ⟨vo, vc, rfl, _, hb⟩
  rw [tree_answers.2.2.2.2.1]
  exact ⟨vo, vc, rfl, hb⟩
theorem lAll (g cap : Nat) (vo : Option Addr) (vc : Nat) (V : World) (h : FAt V g 0 cap treeD) : Calls Tryz.prog 6 #[.agg #[.slice (some ⟨g, 0, none⟩) 4 cap], .agg #[.int .i64 2, .int .i64 2, .int .u32 4294967295, .slice vo 0 vc], .int .u8 7] V fun e w' => ∃ v, e = .returned (.tuple #[v, .int .i64 0]) ∧ w'.ownsRow V.heap.size 3 1 v [3, 4].length ([3, 4].map (Value.int .i64)) ∧ Below V.heap.size V w' := by
  refine (All_ok g 0 cap treeD 2 2 showAll vo vc [] 7 V h tree_kids tree_attrs (rdR_nil V vo vc) (by decide) (by decide) tree_answers.2.2.1).mono ?_
  rintro e w' ⟨v, rfl, ho, hb⟩
  rw [tree_answers.2.2.2.2.2.1] at ho
  exact ⟨v, rfl, ho, hb⟩
theorem lStep2 (g cap rb : Nat) (V : World) (h : FAt V g 0 cap treeD) (hr : RuleAt V rb 0 ruleB) (hlt : rb < V.heap.size) : Calls Tryz.prog 5 #[.agg #[.slice (some ⟨g, 0, none⟩) 4 cap], .agg #[.int .i64 2, .int .i64 2, .int .u32 4294967295, .slice (some ⟨rb, 0, none⟩) 1 1], .int .u8 2] V fun e w' => ∃ vo vc, e = .returned (.tuple #[.agg #[.int .i64 2, .int .i64 4, .int .u32 4294967295, .slice vo 1 vc], .int .i64 4, .int .i64 0]) ∧ Below V.heap.size V w' := by
  refine (Step_ok g 0 cap treeD 2 2 showAll (some ⟨rb, 0, none⟩) 1 [ruleB] 2 V h tree_kids tree_attrs ⟨_, 1, rfl, Nat.le_refl _, fun _ => ⟨rb, 0, rfl, hlt, fun j hj => by
    have : j = 0 := by simp at hj; omega
    subst this
    exact hr⟩⟩ (by decide) (by decide) tree_answers.2.2.2.1).mono ?_
  rintro e w' ⟨vo, vc, rfl, _, hb⟩
  rw [tree_answers.2.2.2.2.2.2]
  exact ⟨vo, vc, rfl, hb⟩
end Go.Proofs.YteflknfejjdkfabGreat
