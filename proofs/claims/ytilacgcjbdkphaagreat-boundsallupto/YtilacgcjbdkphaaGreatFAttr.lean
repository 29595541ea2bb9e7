/- Lists of attributes, as they lie; the walks of what forest asks of them. -/
import Derived.Test.YtilacgcjbdkphaaGreatFStr
namespace Go.Proofs.YtilacgcjbdkphaaGreat
open Go.RowKit Go.Lib

def attrV (x : AttrD) : Value := .agg #[.string x.space, .string x.pre, .string x.loc, .string x.val]
/-- An attribute lies at an address. -/
def AttrAt (w : World) (b o : Nat) (x : AttrD) : Prop := w.cell? ⟨b, o, none⟩ = some (.string x.space) ∧ w.cell? ⟨b, o + 1, none⟩ = some (.string x.pre) ∧ w.cell? ⟨b, o + 2, none⟩ = some (.string x.loc) ∧ w.cell? ⟨b, o + 3, none⟩ = some (.string x.val)
theorem AttrAt.later {w W : World} {b o : Nat} {x : AttrD} {B : Nat} (h : AttrAt w b o x) (hb : b < B) (hw : Below B w W) : AttrAt W b o x :=
  ⟨(hw.cell (p := ⟨b, o, none⟩) hb).trans h.1, (hw.cell (p := ⟨b, o + 1, none⟩) hb).trans h.2.1, (hw.cell (p := ⟨b, o + 2, none⟩) hb).trans h.2.2.1, (hw.cell (p := ⟨b, o + 3, none⟩) hb).trans h.2.2.2⟩
/-- Attributes lie one behind the other. -/
def AttrsAt (w : World) (b o : Nat) (l : List AttrD) : Prop := ∀ (j : Nat) (h : j < l.length), AttrAt w b (o + j * 4) l[j]
theorem AttrsAt.later {w W : World} {b o : Nat} {l : List AttrD} {B : Nat} (h : AttrsAt w b o l) (hb : b < B) (hw : Below B w W) : AttrsAt W b o l := fun j hj => (h j hj).later hb hw

/-- Where the first one stands that is asked for; -1: nowhere. -/
def idxOf (l : List AttrD) (p : AttrD → Bool) : Int := match l.findIdx? p with
  | some k => (k : Int)
  | none => -1
theorem idxOf_nil (p : AttrD → Bool) : idxOf [] p = -1 := rfl
theorem idxOf_yes (x : AttrD) (t : List AttrD) (p : AttrD → Bool) (h : p x = true) : idxOf (x :: t) p = 0 := by
  unfold idxOf
  rw [List.findIdx?_cons, if_pos h]
  rfl
theorem idxOf_no (x : AttrD) (t : List AttrD) (p : AttrD → Bool) (h : p x = false) : idxOf (x :: t) p = if idxOf t p < 0 then -1 else idxOf t p + 1 := by
  unfold idxOf
  rw [List.findIdx?_cons, if_neg (by rw [h]; exact Bool.false_ne_true)]
  cases t.findIdx? p with
  | none => rfl
  | some k => simp; omega
theorem idxOf_from (l : List AttrD) (p : AttrD → Bool) : ∀ (k : Nat), k ≤ l.length → (∀ (j : Nat) (h : j < l.length), j < k → p l[j] = false) → idxOf l p = if idxOf (l.drop k) p < 0 then -1 else idxOf (l.drop k) p + k
  | 0, _, _ => by
    rw [List.drop_zero]
    by_cases h : idxOf l p < 0
    · rw [if_pos h]
      unfold idxOf at h ⊢
      cases he : l.findIdx? p with
      | none => rfl
      | some j => rw [he] at h; simp at h; omega
    · rw [if_neg h]; omega
  | k + 1, hk, h => by
    rw [idxOf_from l p k (by omega) (fun j hj hjk => h j hj (by omega)), List.drop_eq_getElem_cons (by omega : k < l.length), idxOf_no _ _ p (h k (by omega) (by omega))]
    generalize idxOf (l.drop (k + 1)) p = i
    by_cases hi : i < 0
    · rw [if_pos hi, if_pos (by omega), if_pos hi]
    · rw [if_neg hi, if_neg (by omega), if_neg hi]; omega

set_option maxRecDepth 100000 in
set_option maxHeartbeats 2000000 in
theorem indexFuncA_any (b o cap fn : Nat) (lb : Array Value) (l : List AttrD) (p : AttrD → Bool) (w : World) (hbw : b < w.heap.size) (hlen : l.length ≤ 1099511627776) (hcells : AttrsAt w b o l)
    (eg : ∀ args w, (callFunc fn args).run Tryz.prog w = .ok (.enter fn args) w)
    (hp : ∀ x W, Below w.heap.size w W → Calls Tryz.prog fn (#[attrV x] ++ lb) W fun e w' => e = .returned (.bool (p x)) ∧ Below W.heap.size W w') :
    Calls Tryz.prog 163 #[.slice (some ⟨b, o, none⟩) l.length cap, .func (.func fn) #[] lb] w fun e w' => e = .returned (.int .i64 (idxOf l p)) ∧ Below w.heap.size w w' := by
  have HC := hid hcells
  have HP := hid hp
  have HI : Hid (∀ k : Nat, k ≤ l.length → (∀ (j : Nat) (h : j < l.length), j < k → p l[j] = false) → _) := idxOf_from l p
  clear hcells hp
  generalize hR : idxOf l p = R at HI
  clear hR
  go_enter Tryz.func163, Tryz.ntmps163
  go_wp2
  go_loopw [8] (fun i wr => ∃ k : Nat, k ≤ l.length ∧ i = .int .i64 k ∧ Below w.heap.size w wr ∧ Hid (∀ (j : Nat) (h : j < l.length), j < k → p l[j] = false)) (fun i _ => l.length - (RowKit.intOf i).toNat)
  case atStart => exact ⟨0, Nat.zero_le _, rfl, Below.refl _ _, fun j h hj => by omega⟩
  case round =>
    obtain ⟨k, hk, rfl, hb, hn⟩ := hrel
    by_cases hlt : k < l.length
    · obtain ⟨c0, c1, c2, c3⟩ := (HC.out k hlt).later hbw hb
      have hC := HP.out l[k] wr hb
      have hI := HI.out k hk hn.out
      rw [List.drop_eq_getElem_cons hlt] at hI
      have hnx : p l[k] = false → ∀ (j : Nat) (h : j < l.length), j < k + 1 → p l[j] = false := fun he j hj hjk => by
        by_cases hjk' : j < k
        · exact hn.out j hj hjk'
        · have : j = k := by omega
          subst this
          exact he
      have Hnx := hid hnx
      clear hnx
      unfold attrV at hC
      generalize l[k] = x at *
      cases hpx : p x with
      | true =>
        rw [idxOf_yes x _ p hpx, if_neg (by omega)] at hI
        have Hi := hid hI
        rw [hpx] at hC
        clear hI Hnx HI hpx
        go_wp2_with (go_at_fn fn; refine hC.mono ?_; rintro e w2 ⟨rfl, hb2⟩)
        go_ret
        exact ⟨by rw [Hi.out]; simp, hb.trans (hb2.mono hb.size)⟩
      | false =>
        have Hn := hid (Hnx.out hpx)
        rw [hpx] at hC
        clear hI Hnx hpx
        go_wp2_with (go_at_fn fn; refine hC.mono ?_; rintro e w2 ⟨rfl, hb2⟩)
        go_roundw
        case rel => exact ⟨k + 1, by omega, by go_num, hb.trans (hb2.mono hb.size), Hn⟩
        case measure => simp [RowKit.intOf]; omega
    · have hI := HI.out k hk hn.out
      rw [List.drop_eq_nil_of_le (by omega), idxOf_nil, if_pos (by omega)] at hI
      subst hI
      clear HI hn
      go_wp2
      go_ret
      exact ⟨rfl, hb⟩

set_option maxRecDepth 100000 in
set_option maxHeartbeats 2000000 in
theorem attrC_any (x : AttrD) (sp lo : ByteArray) (g : Nat) (w : World) (hg : g < w.heap.size) (h0 : w.cell? ⟨g, 0, none⟩ = some (.string sp)) (h2 : w.cell? ⟨g, 2, none⟩ = some (.string lo)) :
    Calls Tryz.prog 164 #[attrV x, .pointer (some ⟨g, 0, none⟩)] w fun e w' => e = .returned (.bool (x.space.data.toList == sp.data.toList && x.loc.data.toList == lo.data.toList)) ∧ Below w.heap.size w w' := by
  have e1 : (x.space.toList == sp.toList) = (x.space.data.toList == sp.data.toList) := by rw [Lib.toList_data, Lib.toList_data]
  have e2 : (x.loc.toList == lo.toList) = (x.loc.data.toList == lo.data.toList) := by rw [Lib.toList_data, Lib.toList_data]
  have hgn : ¬ g = w.heap.size := by omega
  unfold attrV
  generalize (x.space.data.toList == sp.data.toList) = b1 at *
  generalize (x.loc.data.toList == lo.data.toList) = b2 at *
  generalize x.space = y0 at *
  generalize x.pre = y1 at *
  generalize x.loc = y2 at *
  generalize x.val = y3 at *
  cases b1 <;> cases b2
  all_goals
    go_enter Tryz.func164, Tryz.ntmps164
    go_wp2
    go_ret
    exact ⟨rfl, (Below.refl _ w).alloc (Nat.le_refl _) _⟩
theorem indexFuncA_none (o : Option Addr) (cap fn : Nat) (lb : Array Value) (w : World) :
    Calls Tryz.prog 163 #[.slice o 0 cap, .func (.func fn) #[] lb] w fun e w' => e = .returned (.int .i64 (-1)) ∧ w' = w := by
  go_enter Tryz.func163, Tryz.ntmps163
  go_wp2
  go_loopw [8] (fun i wr => i = .int .i64 0 ∧ w = wr) (fun _ _ => 0)
  case atStart => exact ⟨rfl, rfl⟩
  case round =>
    obtain ⟨rfl, rfl⟩ := hrel
    go_wp2
    go_ret
    exact ⟨rfl, rfl⟩

/-- A list of attributes that is handed on. -/
def RdA (w : World) (v : Value) (l : List AttrD) : Prop :=
  ∃ o cap, v = .slice o l.length cap ∧ l.length ≤ cap ∧ (0 < l.length → ∃ b off, o = some ⟨b, off, none⟩ ∧ b < w.heap.size ∧ AttrsAt w b off l)
theorem RdA.later {w W : World} {v : Value} {l : List AttrD} (h : RdA w v l) (hb : Below w.heap.size w W) : RdA W v l := by
  obtain ⟨o, cap, rfl, hc, g⟩ := h
  refine ⟨o, cap, rfl, hc, fun hp => ?_⟩
  obtain ⟨b, off, rfl, hlt, ha⟩ := g hp
  exact ⟨b, off, rfl, Nat.lt_of_lt_of_le hlt hb.size, ha.later hlt hb⟩

def attrIdx (l : List AttrD) (sp lo : ByteArray) : Int := idxOf l fun a => a.space.data.toList == sp.data.toList && a.loc.data.toList == lo.data.toList

set_option maxRecDepth 100000 in
set_option maxHeartbeats 2000000 in
theorem attrAt_any (v : Value) (l : List AttrD) (sp pre lo : ByteArray) (w : World) (hr : RdA w v l) (hlen : l.length ≤ 1099511627776) :
    Calls Tryz.prog 159 #[v, .agg #[.string sp, .string pre, .string lo]] w fun e w' => e = .returned (.int .i64 (attrIdx l sp lo)) ∧ Below w.heap.size w w' := by
  obtain ⟨o, cap, rfl, hc, g⟩ := hr
  have hb0 : Below w.heap.size w (w.alloc (.cells #[.string sp, .string pre, .string lo] 60)) := (Below.refl _ w).alloc (Nat.le_refl _) _
  by_cases hp : 0 < l.length
  · obtain ⟨b, off, rfl, hlt, ha⟩ := g hp
    have hI := indexFuncA_any b off cap 164 #[.pointer (some ⟨w.heap.size, 0, none⟩)] l (fun a => a.space.data.toList == sp.data.toList && a.loc.data.toList == lo.data.toList) (w.alloc (.cells #[.string sp, .string pre, .string lo] 60)) (by simp; omega) hlen (ha.later hlt hb0)
      (enters_of Tryz.func164 (by kernel_rfl) rfl)
      (fun x W hW => attrC_any x sp lo w.heap.size W (by have := hW.size; simp at this; omega) ((hW.cell (p := ⟨w.heap.size, 0, none⟩) (by simp)).trans (by simp)) ((hW.cell (p := ⟨w.heap.size, 2, none⟩) (by simp)).trans (by simp)))
    rw [show idxOf l (fun a => a.space.data.toList == sp.data.toList && a.loc.data.toList == lo.data.toList) = attrIdx l sp lo from rfl] at hI
    generalize attrIdx l sp lo = R at *
    clear g ha
    go_enter Tryz.func159, Tryz.ntmps159
    go_wp2_with fail
    refine hI.mono ?_
    rintro e w2 ⟨rfl, hb2⟩
    go_wp2
    go_ret
    exact ⟨rfl, hb0.trans (hb2.mono (by simp))⟩
  · have : l = [] := List.eq_nil_of_length_eq_zero (by omega)
    subst this
    have hI := indexFuncA_none o cap 164 #[.pointer (some ⟨w.heap.size, 0, none⟩)] (w.alloc (.cells #[.string sp, .string pre, .string lo] 60))
    rw [show attrIdx [] sp lo = -1 from rfl]
    clear g
    go_enter Tryz.func159, Tryz.ntmps159
    go_wp2_with fail
    refine hI.mono ?_
    rintro e w2 ⟨rfl, rfl⟩
    go_wp2
    go_ret
    exact ⟨rfl, hb0⟩
theorem chain_alloc {B : Nat} {w0 v1 v2 : World} {o : Obj} (h : Below B w0 v1) (hB : B ≤ v1.heap.size) (h2 : Below (v1.alloc o).heap.size (v1.alloc o) v2) : Below B w0 v2 :=
  (h.alloc hB o).trans (h2.mono (by simp; omega))
theorem chain_drew {B : Nat} {w0 v : World} (h : Below B w0 v) : Below B w0 v.drew := h.drew
end Go.Proofs.YtilacgcjbdkphaaGreat
