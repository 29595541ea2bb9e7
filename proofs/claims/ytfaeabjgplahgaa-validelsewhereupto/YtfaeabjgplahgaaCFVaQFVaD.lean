/- Which nodes may be put where (valid): the plain words. -/
/- valid: kinds, and lists of nodes of which something holds. -/
/- valid: how kids are parted; what a gap takes of elements and doctypes. -/
/- valid: what a gap takes of elements and of doctypes. -/
/- valid: the map of rules. -/
import Derived.Test.YtfaeabjgplahgaaFOrd2
import Derived.Test.YtfaeabjgplahgaaFKids
import Derived.Deep.QuietTactic
import Derived.BigQuiet
import Derived.Test.YtfaeabjgplahgaaCFUpFFork
import Derived.Maps.OwnSet
import Derived.Maps.Own
namespace Go.Proofs.Ytfaeabjgplahgaa
open Go.RowKit Go.Lib

def kindD (ns : List NodeD) (x : Int) : Nat := match nodeOf ns x with
  | some n => n.kind
  | none => 0
theorem kindD_at (ns : List NodeD) (j : Nat) (hj : j < ns.length) : kindD ns ((j : Int) + 1) = ns[j].kind := by unfold kindD; rw [nodeOf_at ns j hj]
def isTextK (k : Nat) : Bool := k == 3 || k == 4
def isK (ns : List NodeD) (k : Nat) (x : Int) : Bool := kindD ns x == k
def isT (ns : List NodeD) (x : Int) : Bool := isTextK (kindD ns x)
/-- The program's rules. -/
def takesElD (ns : List NodeD) (ah be : List Int) : Bool := !(ah.any (isK ns 1)) && !(be.any (isK ns 1)) && !(be.any (isK ns 10))
def takesDtD (ns : List NodeD) (ah be : List Int) : Bool := !(ah.any (isK ns 10)) && !(be.any (isK ns 10)) && !(ah.any (isK ns 1))
def takesFrD (ns : List NodeD) (ks ah be : List Int) : Bool :=
  if ks.any (isK ns 1) then !(ks.any (isT ns)) && !((ks.drop (ks.findIdx (isK ns 1) + 1)).any (isK ns 1)) && takesElD ns ah be else !(ks.any (isT ns))
def takesD (ns : List NodeD) (x : Int) (ah be : List Int) : Bool :=
  if kindD ns x == 11 then takesFrD ns (kidsD ns x) ah be else if kindD ns x == 1 then takesElD ns ah be else if kindD ns x == 10 then takesDtD ns ah be else true
def cutD (rep : Bool) (ks : List Int) (c : Int) : List Int × List Int :=
  if rep then (ks.take (ks.idxOf c), ks.drop (ks.idxOf c + 1)) else if c == 0 then (ks, []) else (ks.take (ks.idxOf c), ks.drop (ks.idxOf c))
def fitsD (p k : Nat) : Bool := if k == 9 || k == 12 then false else if k == 10 then p == 9 else !(p == 9) || !isTextK k
/-- The reference's. -/
def othersD (rep : Bool) (ks : List Int) (c : Int) : List Int := if rep then ks.filter (fun y => !(y == c)) else ks
def aheadR (ks : List Int) (c : Int) : List Int := if c == 0 then ks else ks.take (ks.idxOf c)
def behindR (ks : List Int) (c : Int) : List Int := if c == 0 then [] else ks.drop (ks.idxOf c + 1)
def elementR (ns : List NodeD) (ks : List Int) (c : Int) (rep : Bool) : Bool :=
  if decide (0 < (othersD rep ks c).countP (isK ns 1)) || decide (0 < (behindR ks c).countP (isK ns 10)) then false else rep || c == 0 || !(kindD ns c == 10)
def doctypeR (ns : List NodeD) (ks : List Int) (c : Int) (rep : Bool) : Bool := ((othersD rep ks c).countP (isK ns 10) == 0) && ((aheadR ks c).countP (isK ns 1) == 0)
def textsR (ns : List NodeD) (l : List Int) : Bool := decide (0 < l.countP (isK ns 3) + l.countP (isK ns 4))
def documentR (ns : List NodeD) (p x c : Int) (rep : Bool) : Bool :=
  if kindD ns x == 11 then ((kidsD ns x).countP (isK ns 1) == 0 && !textsR ns (kidsD ns x)) || ((kidsD ns x).countP (isK ns 1) == 1 && !textsR ns (kidsD ns x) && elementR ns (kidsD ns p) c rep)
  else if kindD ns x == 1 then elementR ns (kidsD ns p) c rep else if kindD ns x == 10 then doctypeR ns (kidsD ns p) c rep else true
/-- Where the first one of a list is of which something holds; -1: nowhere. -/
def firstI (p : Int → Bool) : List Int → Nat → Int
  | [], _ => -1
  | x :: t, k => if p x then (k : Int) else firstI p t (k + 1)
theorem firstI_none (p : Int → Bool) : ∀ (l : List Int) (k : Nat), l.any p = false → firstI p l k = -1
  | [], _, _ => rfl
  | x :: t, k, h => by
    rw [List.any_cons, Bool.or_eq_false_iff] at h
    rw [firstI, h.1, if_neg Bool.false_ne_true]
    exact firstI_none p t (k + 1) h.2
theorem firstI_find (p : Int → Bool) : ∀ (l : List Int) (k : Nat), l.any p = true → firstI p l k = ((k + l.findIdx p : Nat) : Int)
  | [], _, h => by cases h
  | x :: t, k, h => by
    rw [firstI, List.findIdx_cons]
    cases hx : p x with
    | true => rw [if_pos rfl]; rfl
    | false =>
      rw [if_neg Bool.false_ne_true]
      rw [List.any_cons, hx, Bool.false_or] at h
      rw [firstI_find p t (k + 1) h]
      show ((k + 1 + t.findIdx p : Nat) : Int) = ((k + (t.findIdx p + 1) : Nat) : Int)
      congr 1
      omega
theorem firstI_any (p : Int → Bool) (l : List Int) (k : Nat) : decide (0 ≤ firstI p l k) = l.any p := by
  cases h : l.any p with
  | true => rw [firstI_find p l k h]; exact decide_eq_true (by omega)
  | false => rw [firstI_none p l k h]; rfl
end Go.Proofs.Ytfaeabjgplahgaa

namespace Go.Proofs.Ytfaeabjgplahgaa
open Go.RowKit Go.Lib Go.Shelf

set_option maxHeartbeats 1000000 in
theorem vkindOf_at (b off cap i : Nat) (ns : List NodeD) (w W : World) (hF : FAt w b off cap ns) (hW : Below w.heap.size w W) (hi : i < ns.length) :
    Calls Try.prog 18 #[.agg #[.slice (some ⟨b, off, none⟩) ns.length cap], .int .i64 ((i : Int) + 1)] W fun e w' => e = .returned (.int .u8 (ns[i].kind : Int)) ∧ Below W.heap.size W w' := by
  have hF2 := hF.later hW
  obtain ⟨L, hc, _, _, _⟩ := hF2.at_ i hi
  have ck := hc.kind
  have hlt := hF2.lt
  have hl := hF.len
  have h1 : (0 : Int) ≤ (i : Int) := by omega
  have h2 : (i : Int) < (ns.length : Int) := by omega
  have ck2 : (W.alloc (.cells #[.slice (some ⟨b, off, none⟩) ns.length cap] 24)).cell? ⟨b, off + i * 16, none⟩ = some (.int .u8 (ns[i].kind : Int)) := (((Below.refl _ W).alloc (Nat.le_refl _) _).cell (p := ⟨b, off + i * 16, none⟩) hlt).trans ck
  clear hc hF hF2 hW ck
  generalize ns[i].kind = K at *
  go_enter Try.func18, Try.ntmps18
  go_wp2
  go_ret
  exact ⟨rfl, (Below.refl _ W).alloc (Nat.le_refl _) _⟩
theorem vkindOf_any (b off cap : Nat) (x : Int) (ns : List NodeD) (w W : World) (hF : FAt w b off cap ns) (hW : Below w.heap.size w W) (hx : thereB ns.length x = true) :
    Calls Try.prog 18 #[.agg #[.slice (some ⟨b, off, none⟩) ns.length cap], .int .i64 x] W fun e w' => e = .returned (.int .u8 (kindD ns x : Int)) ∧ Below W.heap.size W w' := by
  obtain ⟨j, hj, rfl⟩ := there_idx hx
  rw [kindD_at ns j hj]
  exact vkindOf_at b off cap j ns w W hF hW hj
set_option maxHeartbeats 1000000 in
theorem visText_any (k : Nat) (w : World) : Calls Try.prog 40 #[.int .u8 (k : Int)] w fun e w' => e = .returned (.bool (isTextK k)) ∧ w' = w := by
  have e1 : ((k : Int) == 3) = (k == 3) := beq_cast k 3
  have e2 : ((k : Int) == 4) = (k == 4) := beq_cast k 4
  unfold isTextK
  generalize (k == 3) = b1 at *
  generalize (k == 4) = b2 at *
  cases b1 <;> cases b2
  all_goals
    go_enter Try.func40, Try.ntmps40
    go_wp2
    go_ret
    exact ⟨rfl, rfl⟩
set_option maxHeartbeats 1000000 in
theorem vmayHaveKids_any (k : Nat) (w : World) : Calls Try.prog 22 #[.int .u8 (k : Int)] w fun e w' => e = .returned (.bool (hasKidsK k)) ∧ w' = w := by
  have e1 : ((k : Int) == 9) = (k == 9) := beq_cast k 9
  have e2 : ((k : Int) == 11) = (k == 11) := beq_cast k 11
  have e3 : ((k : Int) == 12) = (k == 12) := beq_cast k 12
  have e4 : ((k : Int) == 1) = (k == 1) := beq_cast k 1
  unfold hasKidsK mayBeTopK
  generalize (k == 9) = b1 at *
  generalize (k == 11) = b2 at *
  generalize (k == 12) = b3 at *
  generalize (k == 1) = b4 at *
  cases b1 <;> cases b2 <;> cases b3 <;> cases b4
  all_goals
    go_enter Try.func22, Try.ntmps22
    go_wp2
    go_ret
    exact ⟨rfl, rfl⟩

/-- A place among kids, as a value. -/
def gapV (b off cap n : Nat) (va vb : Value) : Value := .agg #[.slice (some ⟨b, off, none⟩) n cap, va, vb]

set_option maxHeartbeats 2000000 in
theorem gapEl_any (b off cap : Nat) (o1 o2 : Option Addr) (n1 n2 c1 c2 : Nat) (x : Int) (ns : List NodeD) (w W : World) (hF : FAt w b off cap ns) (hW : Below w.heap.size w W) (hx : thereB ns.length x = true) :
    Calls Try.prog 63 #[gapV b off cap ns.length (.slice o1 n1 c1) (.slice o2 n2 c2), .int .i64 x] W fun e w' => e = .returned (.bool (isK ns 1 x)) ∧ Below W.heap.size W w' := by
  unfold gapV isK
  have HK : Hid (∀ V : World, Below w.heap.size w V → _) := fun V hV => vkindOf_any b off cap x ns w V hF hV hx
  have hB1 : Below w.heap.size w (W.alloc (.cells #[.slice (some ⟨b, off, none⟩) ns.length cap, .slice o1 n1 c1, .slice o2 n2 c2] 62)) := hW.alloc hW.size _
  have hB2 : Below W.heap.size W (W.alloc (.cells #[.slice (some ⟨b, off, none⟩) ns.length cap, .slice o1 n1 c1, .slice o2 n2 c2] 62)) := (Below.refl _ W).alloc (Nat.le_refl _) _
  have hC := HK.out _ hB1
  have e1 : ((kindD ns x : Int) == 1) = (kindD ns x == 1) := beq_cast _ 1
  clear HK hB1 hF hW
  generalize kindD ns x = K at *
  generalize (K == 1) = R at *
  go_enter Try.func63, Try.ntmps63
  go_wp2_with fail
  refine hC.mono ?_
  rintro e v1 ⟨rfl, hb⟩
  have HB := hid (hB2.trans (hb.mono hB2.size))
  clear hb hB2 hC
  go_wp2
  go_ret
  exact ⟨rfl, HB.out⟩
set_option maxHeartbeats 2000000 in
theorem gapDt_any (b off cap : Nat) (o1 o2 : Option Addr) (n1 n2 c1 c2 : Nat) (x : Int) (ns : List NodeD) (w W : World) (hF : FAt w b off cap ns) (hW : Below w.heap.size w W) (hx : thereB ns.length x = true) :
    Calls Try.prog 66 #[gapV b off cap ns.length (.slice o1 n1 c1) (.slice o2 n2 c2), .int .i64 x] W fun e w' => e = .returned (.bool (isK ns 10 x)) ∧ Below W.heap.size W w' := by
  unfold gapV isK
  have HK : Hid (∀ V : World, Below w.heap.size w V → _) := fun V hV => vkindOf_any b off cap x ns w V hF hV hx
  have hB1 : Below w.heap.size w (W.alloc (.cells #[.slice (some ⟨b, off, none⟩) ns.length cap, .slice o1 n1 c1, .slice o2 n2 c2] 62)) := hW.alloc hW.size _
  have hB2 : Below W.heap.size W (W.alloc (.cells #[.slice (some ⟨b, off, none⟩) ns.length cap, .slice o1 n1 c1, .slice o2 n2 c2] 62)) := (Below.refl _ W).alloc (Nat.le_refl _) _
  have hC := HK.out _ hB1
  have e1 : ((kindD ns x : Int) == 10) = (kindD ns x == 10) := beq_cast _ 10
  clear HK hB1 hF hW
  generalize kindD ns x = K at *
  generalize (K == 10) = R at *
  go_enter Try.func66, Try.ntmps66
  go_wp2_with fail
  refine hC.mono ?_
  rintro e v1 ⟨rfl, hb⟩
  have HB := hid (hB2.trans (hb.mono hB2.size))
  clear hb hB2 hC
  go_wp2
  go_ret
  exact ⟨rfl, HB.out⟩
set_option maxHeartbeats 2000000 in
theorem gapTx_any (b off cap : Nat) (o1 o2 : Option Addr) (n1 n2 c1 c2 : Nat) (x : Int) (ns : List NodeD) (w W : World) (hF : FAt w b off cap ns) (hW : Below w.heap.size w W) (hx : thereB ns.length x = true) :
    Calls Try.prog 65 #[gapV b off cap ns.length (.slice o1 n1 c1) (.slice o2 n2 c2), .int .i64 x] W fun e w' => e = .returned (.bool (isT ns x)) ∧ Below W.heap.size W w' := by
  unfold gapV isT
  have HK : Hid (∀ V : World, Below w.heap.size w V → _) := fun V hV => vkindOf_any b off cap x ns w V hF hV hx
  have hB1 : Below w.heap.size w (W.alloc (.cells #[.slice (some ⟨b, off, none⟩) ns.length cap, .slice o1 n1 c1, .slice o2 n2 c2] 62)) := hW.alloc hW.size _
  have hB2 : Below W.heap.size W (W.alloc (.cells #[.slice (some ⟨b, off, none⟩) ns.length cap, .slice o1 n1 c1, .slice o2 n2 c2] 62)) := (Below.refl _ W).alloc (Nat.le_refl _) _
  have hC := HK.out _ hB1
  have HT : Hid (∀ V : World, _) := fun V => visText_any (kindD ns x) V
  clear HK hB1 hF hW
  generalize kindD ns x = K at *
  generalize isTextK K = R at *
  go_enter Try.func65, Try.ntmps65
  go_wp2_with fail
  refine hC.mono ?_
  rintro e v1 ⟨rfl, hb⟩
  have HB := hid (hB2.trans (hb.mono hB2.size))
  clear hb hB2 hC
  go_wp2_with fail
  refine (HT.out _).mono ?_
  rintro e v2 ⟨rfl, e2⟩
  have e2 := e2.symm
  subst e2
  clear HT
  go_wp2
  go_ret
  exact ⟨rfl, HB.out⟩

set_option maxRecDepth 100000 in
set_option maxHeartbeats 2000000 in
theorem indexFuncI_any (v gv : Value) (fn : Nat) (l : List Int) (p : Int → Bool) (w : World) (hv : RdI w v l) (hl : l.length ≤ 1099511627776)
    (eg : ∀ args w, (callFunc fn args).run Try.prog w = .ok (.enter fn args) w)
    (hp : ∀ x ∈ l, ∀ W : World, Below w.heap.size w W → Calls Try.prog fn #[gv, .int .i64 x] W fun e w' => e = .returned (.bool (p x)) ∧ Below W.heap.size W w') :
    Calls Try.prog 62 #[v, .func (.func fn) #[gv] #[]] w fun e w' => e = .returned (.int .i64 (firstI p l 0)) ∧ Below w.heap.size w w' := by
  obtain ⟨o, c, rfl, hc, g⟩ := hv
  obtain ⟨N, hN⟩ : ∃ N, firstI p l 0 = N := ⟨_, rfl⟩
  rw [hN]
  have HN : Hid (firstI p (l.drop 0) 0 = N) := hN
  have HP := hid hp
  have G := hid g
  clear hN hp g
  go_enter Try.func62, Try.ntmps62
  go_wp2
  go_loopw [8] (fun t wr => ∃ k : Nat, k ≤ l.length ∧ t = .int .i64 k ∧ Hid (Below w.heap.size w wr) ∧ Hid (firstI p (l.drop k) k = N)) (fun t _ => l.length - (RowKit.intOf t).toNat)
  case atStart => exact ⟨0, Nat.zero_le _, rfl, Below.refl _ _, HN⟩
  case round =>
    obtain ⟨k, k1, rfl, hB, hK⟩ := hrel
    by_cases hlt : k < l.length
    · obtain ⟨b, off, rfl, hlt1, ha⟩ := G.out (by omega)
      have x1 := (hB.out.cell (p := ⟨b, off + k, none⟩) hlt1).trans (ha k hlt)
      have q1 : (0 : Int) ≤ (k : Int) := by omega
      have q2 : (k : Int) < (l.length : Int) := by omega
      have hk := hK.out
      rw [List.drop_eq_getElem_cons hlt, firstI] at hk
      have Hk := hid hk
      have hC := HP.out l[k] (List.getElem_mem hlt) wr hB.out
      clear hk hK ha G HP
      generalize l[k] = a at *
      generalize p a = R at *
      cases R with
      | true =>
        have hNk : N = (k : Int) := by rw [← Hk.out]; rfl
        subst hNk
        clear Hk
        go_wp2_with (go_at_fn fn; refine hC.mono ?_; rintro e w2 ⟨rfl, hb⟩; have HB2 := hid (hB.out.trans (hb.mono hB.out.size)); clear hb)
        go_ret
        exact ⟨rfl, HB2.out⟩
      | false =>
        have Hn : Hid (firstI p (l.drop (k + 1)) (k + 1) = N) := by
          have h := Hk.out
          rw [if_neg Bool.false_ne_true] at h
          exact h
        clear Hk
        go_wp2_with (go_at_fn fn; refine hC.mono ?_; rintro e w2 ⟨rfl, hb⟩; have HB2 := hid (hB.out.trans (hb.mono hB.out.size)); clear hb)
        go_roundw
        case rel => exact ⟨k + 1, by omega, by go_num, HB2, Hn⟩
        case measure => simp [RowKit.intOf]; omega
    · have hNk : N = -1 := by
        rw [← hK.out, List.drop_eq_nil_of_le (by omega)]
        rfl
      subst hNk
      clear hK G HP
      go_wp2
      go_ret
      exact ⟨rfl, hB.out⟩

set_option maxHeartbeats 2000000 in
theorem containsFuncI_any (v gv : Value) (fn : Nat) (l : List Int) (p : Int → Bool) (w : World) (hv : RdI w v l) (hl : l.length ≤ 1099511627776)
    (eg : ∀ args w, (callFunc fn args).run Try.prog w = .ok (.enter fn args) w)
    (hp : ∀ x ∈ l, ∀ W : World, Below w.heap.size w W → Calls Try.prog fn #[gv, .int .i64 x] W fun e w' => e = .returned (.bool (p x)) ∧ Below W.heap.size W w') :
    Calls Try.prog 78 #[v, .func (.func fn) #[gv] #[]] w fun e w' => e = .returned (.bool (l.any p)) ∧ Below w.heap.size w w' := by
  have hI := indexFuncI_any v gv fn l p w hv hl eg hp
  rw [← firstI_any p l 0]
  generalize firstI p l 0 = N at *
  clear hp eg hv
  go_enter Try.func78, Try.ntmps78
  go_wp2_with fail
  refine hI.mono ?_
  rintro e w2 ⟨rfl, hb⟩
  have HB := hid hb
  clear hb hI
  go_wp2
  go_ret
  exact ⟨rfl, HB.out⟩

/-- Lists that lie in a row from the head of a block on. -/
def LstsAt (w : World) (g : Nat) (L : List (Value × List Int)) : Prop := ∀ (j : Nat) (h : j < L.length), w.cell? ⟨g, j, none⟩ = some L[j].1 ∧ RdI w L[j].1 L[j].2

set_option maxRecDepth 100000 in
set_option maxHeartbeats 2000000 in
theorem lack_any (g cap : Nat) (gv : Value) (fn : Nat) (L : List (Value × List Int)) (p : Int → Bool) (w : World) (hg : g < w.heap.size) (hL : LstsAt w g L) (hn : L.length ≤ 100) (hl : ∀ q ∈ L, q.2.length ≤ 1099511627776)
    (eg : ∀ args w, (callFunc fn args).run Try.prog w = .ok (.enter fn args) w)
    (hp : ∀ q ∈ L, ∀ x ∈ q.2, ∀ W : World, Below w.heap.size w W → Calls Try.prog fn #[gv, .int .i64 x] W fun e w' => e = .returned (.bool (p x)) ∧ Below W.heap.size W w') :
    Calls Try.prog 64 #[.func (.func fn) #[gv] #[], .slice (some ⟨g, 0, none⟩) L.length cap] w fun e w' => e = .returned (.bool (!(L.any fun q => q.2.any p))) ∧ Below w.heap.size w w' := by
  obtain ⟨R, hR⟩ : ∃ R, (!(L.any fun q => q.2.any p)) = R := ⟨_, rfl⟩
  rw [hR]
  have HR : Hid ((!((L.drop 0).any fun q => q.2.any p)) = R) := hR
  have HL := hid hL
  have HP : Hid (∀ q ∈ L, ∀ W : World, Below w.heap.size w W → RdI w q.1 q.2 → Calls Try.prog 78 #[q.1, .func (.func fn) #[gv] #[]] W fun e w' => e = .returned (.bool (q.2.any p)) ∧ Below W.heap.size W w') :=
    fun q hq W hW hv => containsFuncI_any q.1 gv fn q.2 p W (hv.later hW) (hl q hq) eg (fun x hx V hV => hp q hq x hx V (hW.trans (hV.mono hW.size)))
  clear hR hL hp hl eg
  go_enter Try.func64, Try.ntmps64
  go_wp2
  go_loopw [9] (fun t wr => ∃ k : Nat, k ≤ L.length ∧ t = .int .i64 k ∧ Hid (Below w.heap.size w wr) ∧ Hid ((!((L.drop k).any fun q => q.2.any p)) = R)) (fun t _ => L.length - (RowKit.intOf t).toNat)
  case atStart => exact ⟨0, Nat.zero_le _, rfl, Below.refl _ _, HR⟩
  case round =>
    obtain ⟨k, k1, rfl, hB, hK⟩ := hrel
    by_cases hlt : k < L.length
    · obtain ⟨x0, hv⟩ := HL.out k hlt
      have x1 := (hB.out.cell (p := ⟨g, k, none⟩) hg).trans x0
      have q1 : (0 : Int) ≤ (k : Int) := by omega
      have q2 : (k : Int) < (L.length : Int) := by omega
      have hk := hK.out
      rw [List.drop_eq_getElem_cons hlt, List.any_cons] at hk
      have Hk := hid hk
      have hC := HP.out L[k] (List.getElem_mem hlt) wr hB.out hv
      clear hk hK HL HP hv x0
      generalize L[k] = q at *
      obtain ⟨qv, ql⟩ := q
      generalize hS : ql.any p = S at *
      clear hS
      cases S with
      | true =>
        have hRf : R = false := by rw [← Hk.out]; rfl
        subst hRf
        clear Hk
        go_wp2_with fail
        refine hC.mono ?_
        rintro e w2 ⟨rfl, hb⟩
        have HB2 := hid (hB.out.trans (hb.mono hB.out.size))
        clear hb hC
        go_wp2
        go_ret
        exact ⟨rfl, HB2.out⟩
      | false =>
        have Hn : Hid ((!((L.drop (k + 1)).any fun q => q.2.any p)) = R) := by
          have h := Hk.out
          rw [Bool.false_or] at h
          exact h
        clear Hk
        go_wp2_with fail
        refine hC.mono ?_
        rintro e w2 ⟨rfl, hb⟩
        have HB2 := hid (hB.out.trans (hb.mono hB.out.size))
        clear hb hC
        go_wp2
        go_roundw
        case rel => exact ⟨k + 1, by omega, by go_num, HB2, Hn⟩
        case measure => simp [RowKit.intOf]; omega
    · have hRt : R = true := by
        rw [← hK.out, List.drop_eq_nil_of_le (by omega)]
        rfl
      subst hRt
      clear hK HL HP
      go_wp2
      go_ret
      exact ⟨rfl, hB.out⟩
end Go.Proofs.Ytfaeabjgplahgaa

namespace Go.Proofs.Ytfaeabjgplahgaa
open Go.RowKit Go.Lib Go.Shelf

theorem vwrap {z : Int} (h1 : 0 ≤ z) (h2 : z ≤ 4398046511104) : IntKind.i64.wrap z = z := by
  simp [IntKind.wrap, IntKind.signed, IntKind.bits]
  omega
theorem rdI_take {W : World} {b off c : Nat} {l : List Int} (h : RdI W (.slice (some ⟨b, off, none⟩) l.length c) l) (k : Nat) (hk : k ≤ l.length) : RdI W (.slice (some ⟨b, off, none⟩) k c) (l.take k) := by
  obtain ⟨o', c', e', hc, g⟩ := h
  simp only [Value.slice.injEq] at e'
  obtain ⟨rfl, _, rfl⟩ := e'
  have hl : (l.take k).length = k := by rw [List.length_take]; omega
  refine ⟨_, c, by rw [hl], by rw [hl]; omega, fun hp => ?_⟩
  rw [hl] at hp
  obtain ⟨b', off', e2, hlt, ha⟩ := g (by omega)
  cases e2
  refine ⟨b, off, rfl, hlt, fun j hj => ?_⟩
  have hj2 : j < l.length := by rw [hl] at hj; omega
  rw [ha j hj2]
  simp
theorem rdI_drop {W : World} {b off c : Nat} {l : List Int} (h : RdI W (.slice (some ⟨b, off, none⟩) l.length c) l) (k : Nat) (hk : k ≤ l.length) : RdI W (.slice (some ⟨b, off + k, none⟩) (l.length - k) (c - k)) (l.drop k) := by
  obtain ⟨o', c', e', hc, g⟩ := h
  simp only [Value.slice.injEq] at e'
  obtain ⟨rfl, _, rfl⟩ := e'
  refine ⟨_, c - k, by rw [List.length_drop], by rw [List.length_drop]; omega, fun hp => ?_⟩
  rw [List.length_drop] at hp
  obtain ⟨b', off', e2, hlt, ha⟩ := g (by omega)
  cases e2
  refine ⟨b, off + k, rfl, hlt, fun j hj => ?_⟩
  have hj2 : k + j < l.length := by rw [List.length_drop] at hj; omega
  rw [Nat.add_assoc, ha (k + j) hj2]
  simp
theorem rdI_nil (W : World) (o : Option Addr) (c : Nat) : RdI W (.slice o 0 c) [] := ⟨o, c, rfl, Nat.zero_le _, fun h => absurd h (Nat.lt_irrefl _)⟩
theorem idxI_mem : ∀ (l : List Int) (x : Int) (k : Nat), x ∈ l → idxI l x k = ((k + l.idxOf x : Nat) : Int)
  | [], _, _, h => by cases h
  | a :: t, x, k, h => by
    rw [idxI, List.idxOf_cons]
    cases e : (a == x) with
    | true => rw [if_pos rfl]; rfl
    | false =>
      rw [if_neg Bool.false_ne_true]
      have hx : x ∈ t := by
        rcases List.mem_cons.1 h with h | h
        · rw [h, beq_self_eq_true] at e; cases e
        · exact h
      rw [idxI_mem t x (k + 1) hx]
      show ((k + 1 + t.idxOf x : Nat) : Int) = ((k + (t.idxOf x + 1) : Nat) : Int)
      congr 1
      omega

set_option maxRecDepth 100000 in
set_option maxHeartbeats 4000000 in
theorem aheadOf_any (v : Value) (ks : List Int) (c : Int) (w : World) (hv : RdI w v ks) (hl : ks.length ≤ 1099511627776) (hc : c = 0 ∨ (c ≠ 0 ∧ c ∈ ks)) :
    Calls Try.prog 15 #[v, .int .i64 c] w fun e w' => ∃ v1 v2, e = .returned (.tuple #[v1, v2]) ∧ RdI w v1 (cutD false ks c).1 ∧ RdI w v2 (cutD false ks c).2 ∧ Below w.heap.size w w' := by
  unfold cutD
  rw [if_neg Bool.false_ne_true]
  rcases hc with rfl | ⟨h0, hm⟩
  · rw [show ((0 : Int) == 0) = true from rfl, if_pos rfl]
    have HV := hid hv
    clear hv
    go_enter Try.func15, Try.ntmps15
    go_wp2
    go_ret2
    exact ⟨_, _, rfl, HV.out, rdI_nil _ _ _, Below.refl _ _⟩
  · have e0 : (c == 0) = false := beq_eq_false_iff_ne.2 h0
    rw [e0, if_neg Bool.false_ne_true]
    have hI := index_any v ks c w hv hl
    rw [idxI_mem ks c 0 hm, Nat.zero_add] at hI
    have hlt := List.idxOf_lt_length_of_mem hm
    obtain ⟨o, cp, rfl, hcp, g⟩ := id hv
    obtain ⟨b, off, rfl, _, _⟩ := g (by omega)
    have HT := hid (rdI_take hv (ks.idxOf c) (by omega))
    have HD := hid (rdI_drop hv (ks.idxOf c) (by omega))
    generalize ks.idxOf c = i at *
    have q1 : (0 : Int) ≤ (i : Int) := by omega
    have q2 : (i : Int) ≤ (ks.length : Int) := by omega
    have q3 : (i : Int) ≤ (cp : Int) := by omega
    have q4 : (ks.length : Int) ≤ (cp : Int) := by omega
    have q5 : ¬ cp = i := by omega
    have q6 : ((i : Int)).toNat = i := by omega
    clear g hv hm
    go_enter Try.func15, Try.ntmps15
    go_wp2_with fail
    refine hI.mono ?_
    rintro e v1 ⟨rfl, e1⟩
    have e1 := e1.symm
    subst e1
    clear hI
    go_upto_region 4 with fail
    go_quiet (fail)
    go_wp2
    go_ret2
    exact ⟨_, _, rfl, HT.out, HD.out, drewN_below _ _ _⟩
set_option maxRecDepth 100000 in
set_option maxHeartbeats 4000000 in
theorem insteadOf_any (v : Value) (ks : List Int) (c : Int) (w : World) (hv : RdI w v ks) (hl : ks.length ≤ 1099511627776) (hm : c ∈ ks) :
    Calls Try.prog 16 #[v, .int .i64 c] w fun e w' => ∃ v1 v2, e = .returned (.tuple #[v1, v2]) ∧ RdI w v1 (cutD true ks c).1 ∧ RdI w v2 (cutD true ks c).2 ∧ Below w.heap.size w w' := by
  unfold cutD
  rw [if_pos rfl]
  have hI := index_any v ks c w hv hl
  rw [idxI_mem ks c 0 hm, Nat.zero_add] at hI
  have hlt := List.idxOf_lt_length_of_mem hm
  obtain ⟨o, cp, rfl, hcp, g⟩ := id hv
  obtain ⟨b, off, rfl, _, _⟩ := g (by omega)
  have HT := hid (rdI_take hv (ks.idxOf c) (by omega))
  have HD := hid (rdI_drop hv (ks.idxOf c + 1) (by omega))
  generalize ks.idxOf c = i at *
  have q1 : (0 : Int) ≤ (i : Int) := by omega
  have q2 : (i : Int) ≤ (ks.length : Int) := by omega
  have q3 : (i : Int) ≤ (cp : Int) := by omega
  have q4 : (ks.length : Int) ≤ (cp : Int) := by omega
  have q6 : ((i : Int)).toNat = i := by omega
  have q7 : (0 : Int) ≤ (i : Int) + 1 := by omega
  have q8 : (i : Int) + 1 ≤ (ks.length : Int) := by omega
  have q9 : (i : Int) + 1 ≤ (cp : Int) := by omega
  have q10 : ((i : Int) + 1).toNat = i + 1 := by omega
  have q11 : IntKind.i64.wrap ((i : Int) + 1) = (i : Int) + 1 := vwrap (by omega) (by omega)
  clear g hv hm
  by_cases hcap : cp = i + 1
  · subst hcap
    have hnil : ks.drop (i + 1) = [] := List.drop_eq_nil_of_le (by omega)
    rw [hnil]
    clear HD hnil
    go_enter Try.func16, Try.ntmps16
    go_wp2_with fail
    refine hI.mono ?_
    rintro e v1 ⟨rfl, e1⟩
    have e1 := e1.symm
    subst e1
    clear hI
    have hln : ks.length - (i + 1) = 0 := by omega
    go_upto_region 2 with fail
    go_quiet (fail)
    go_wp2
    go_ret2
    exact ⟨_, _, rfl, HT.out, rdI_nil _ _ _, drewN_below _ _ _⟩
  · go_enter Try.func16, Try.ntmps16
    go_wp2_with fail
    refine hI.mono ?_
    rintro e v1 ⟨rfl, e1⟩
    have e1 := e1.symm
    subst e1
    clear hI
    go_upto_region 2 with fail
    go_quiet (fail)
    go_wp2
    go_ret2
    exact ⟨_, _, rfl, HT.out, HD.out, drewN_below _ _ _⟩

theorem lsts_two {W : World} {g : Nat} {a b : Value} {p q : List Int} {t : TypeId} (h : W.heap[g]? = some (.cells #[a, b] t)) (h1 : RdI W a p) (h2 : RdI W b q) : LstsAt W g [(a, p), (b, q)] := by
  intro j hj
  have hj : j < 2 := hj
  rcases (by omega : j = 0 ∨ j = 1) with rfl | rfl
  · exact ⟨(cell_of_heap h 0).trans rfl, h1⟩
  · exact ⟨(cell_of_heap h 1).trans rfl, h2⟩
theorem lsts_one {W : World} {g : Nat} {a : Value} {p : List Int} {t : TypeId} (h : W.heap[g]? = some (.cells #[a] t)) (h1 : RdI W a p) : LstsAt W g [(a, p)] := by
  intro j hj
  have hj : j < 1 := hj
  obtain rfl : j = 0 := by omega
  exact ⟨(cell_of_heap h 0).trans rfl, h1⟩
end Go.Proofs.Ytfaeabjgplahgaa

namespace Go.Proofs.Ytfaeabjgplahgaa
open Go.RowKit Go.Lib Go.Shelf

theorem vheap_new (w : World) (o : Obj) : (w.alloc o).heap[w.heap.size]? = some o := by
  show (w.heap.push o)[w.heap.size]? = _
  simp
theorem vheap_new2 (w : World) (a o : Obj) : ((w.alloc a).alloc o).heap[w.heap.size + 1]? = some o := by
  have h := vheap_new (w.alloc a) o
  rwa [World.size_alloc] at h
set_option maxRecDepth 100000 in
set_option maxHeartbeats 4000000 in
theorem takesEl_any (b off cap : Nat) (o1 o2 : Option Addr) (c1 c2 : Nat) (x : Int) (ah be : List Int) (ns : List NodeD) (w W : World) (hF : FAt w b off cap ns) (hW : Below w.heap.size w W) (h1 : RdI w (.slice o1 ah.length c1) ah) (h2 : RdI w (.slice o2 be.length c2) be) (t1 : ∀ y ∈ ah, thereB ns.length y = true) (t2 : ∀ y ∈ be, thereB ns.length y = true) (l1 : ah.length ≤ 1099511627776) (l2 : be.length ≤ 1099511627776) :
    Calls Try.prog 49 #[gapV b off cap ns.length (.slice o1 ah.length c1) (.slice o2 be.length c2), .int .i64 x] W fun e w' => e = .returned (.bool (takesElD ns ah be)) ∧ Below W.heap.size W w' := by
  have HP1 : Hid (∀ y, thereB ns.length y = true → ∀ V : World, Below w.heap.size w V → _) := fun y hy V hV => gapEl_any b off cap o1 o2 ah.length be.length c1 c2 y ns w V hF hV hy
  have HP2 : Hid (∀ y, thereB ns.length y = true → ∀ V : World, Below w.heap.size w V → _) := fun y hy V hV => gapDt_any b off cap o1 o2 ah.length be.length c1 c2 y ns w V hF hV hy
  have hBB : Below w.heap.size w ((W.alloc (.cells #[.slice (some ⟨b, off, none⟩) ns.length cap, .slice o1 ah.length c1, .slice o2 be.length c2] 62)).alloc (.cells #[.slice o1 ah.length c1, .slice o2 be.length c2] 29)) := (hW.alloc hW.size _).alloc (by simp; exact Nat.le_succ_of_le hW.size) _
  have hBW : Below W.heap.size W ((W.alloc (.cells #[.slice (some ⟨b, off, none⟩) ns.length cap, .slice o1 ah.length c1, .slice o2 be.length c2] 62)).alloc (.cells #[.slice o1 ah.length c1, .slice o2 be.length c2] 29)) := ((Below.refl _ W).alloc (Nat.le_refl _) _).alloc (by simp) _
  have hL1 := lack_any (W.heap.size + 1) 2 (gapV b off cap ns.length (.slice o1 ah.length c1) (.slice o2 be.length c2)) 63 [(.slice o1 ah.length c1, ah), (.slice o2 be.length c2, be)] (isK ns 1) _ (by simp) (lsts_two (t := 29) (vheap_new2 _ _ _) (h1.later hBB) (h2.later hBB)) (by simp) (fun q hq => by simp at hq; rcases hq with rfl | rfl <;> assumption)
    (enters_of Try.func63 (by kernel_rfl) rfl) (fun q hq y hy V hV => HP1.out y (by simp at hq; rcases hq with rfl | rfl; exact t1 y hy; exact t2 y hy) V (hBB.trans (hV.mono hBB.size)))
  have HL2 : Hid (∀ V : World, Below w.heap.size w V → _) := fun V hV => lack_any V.heap.size 1 (gapV b off cap ns.length (.slice o1 ah.length c1) (.slice o2 be.length c2)) 66 [(.slice o2 be.length c2, be)] (isK ns 10) (V.alloc (.cells #[.slice o2 be.length c2] 29)) (by simp) (lsts_one (t := 29) (vheap_new _ _) (h2.later (hV.alloc hV.size _))) (by simp) (fun q hq => by simp at hq; rcases hq with rfl; assumption)
    (enters_of Try.func66 (by kernel_rfl) rfl) (fun q hq y hy U hU => HP2.out y (by simp at hq; rcases hq with rfl; exact t2 y hy) U ((hV.alloc hV.size _).trans (hU.mono (hV.alloc hV.size _).size)))
  have hR : takesElD ns ah be = ((!([((Value.slice o1 ah.length c1), ah), (Value.slice o2 be.length c2, be)].any fun q => q.2.any (isK ns 1))) && (!([((Value.slice o2 be.length c2), be)].any fun q => q.2.any (isK ns 10)))) := by
    unfold takesElD
    simp only [List.any_cons, List.any_nil, Bool.or_false, Bool.not_or]
  rw [hR]
  clear hR
  generalize (!([((Value.slice o1 ah.length c1), ah), (Value.slice o2 be.length c2, be)].any fun q => q.2.any (isK ns 1))) = R1 at *
  generalize (!([((Value.slice o2 be.length c2), be)].any fun q => q.2.any (isK ns 10))) = R2 at *
  have HBB := hid hBB
  have HBW := hid hBW
  clear hBB hBW HP1 HP2 hF h1 h2
  unfold gapV at *
  simp only [List.length_cons, List.length_nil, Nat.zero_add, Nat.reduceAdd] at hL1 HL2
  cases R1 with
  | false =>
    clear HL2
    go_enter Try.func49, Try.ntmps49
    go_wp2_with fail
    refine hL1.mono ?_
    rintro e v1 ⟨rfl, hb⟩
    have HB := hid (HBW.out.trans (hb.mono HBW.out.size))
    clear hb hL1
    go_wp2
    go_ret
    exact ⟨rfl, HB.out⟩
  | true =>
    go_enter Try.func49, Try.ntmps49
    go_wp2_with fail
    refine hL1.mono ?_
    rintro e v1 ⟨rfl, hb⟩
    have hsz := HBW.out.size
    have k0 := hb.cell (p := ⟨W.heap.size, 0, none⟩) (by show W.heap.size < _; simp; omega)
    have k1 := hb.cell (p := ⟨W.heap.size, 1, none⟩) (by show W.heap.size < _; simp; omega)
    have k2 := hb.cell (p := ⟨W.heap.size, 2, none⟩) (by show W.heap.size < _; simp; omega)
    have d0 : v1.cell? ⟨W.heap.size, 0, none⟩ = some (.slice (some ⟨b, off, none⟩) ns.length cap) := k0.trans (by simp)
    have d1 : v1.cell? ⟨W.heap.size, 1, none⟩ = some (.slice o1 ah.length c1) := k1.trans (by simp)
    have d2 : v1.cell? ⟨W.heap.size, 2, none⟩ = some (.slice o2 be.length c2) := k2.trans (by simp)
    have HB := hid (HBW.out.trans (hb.mono HBW.out.size))
    have hBv : Below w.heap.size w v1 := HBB.out.trans (hb.mono HBB.out.size)
    have hL2 := HL2.out v1 hBv
    have HV := hid HB.out.size
    clear hb hL1 HL2 k0 k1 k2 hsz hBv
    go_wp2_with fail
    refine hL2.mono ?_
    rintro e v2 ⟨rfl, hb⟩
    have HB2 := hid ((HB.out.alloc HV.out _).trans (hb.mono (HB.out.alloc HV.out _).size))
    clear hb hL2
    go_wp2
    go_ret
    exact ⟨rfl, HB2.out⟩
set_option maxRecDepth 100000 in
set_option maxHeartbeats 4000000 in
theorem takesDt_any (b off cap : Nat) (o1 o2 : Option Addr) (c1 c2 : Nat) (x : Int) (ah be : List Int) (ns : List NodeD) (w W : World) (hF : FAt w b off cap ns) (hW : Below w.heap.size w W) (h1 : RdI w (.slice o1 ah.length c1) ah) (h2 : RdI w (.slice o2 be.length c2) be) (t1 : ∀ y ∈ ah, thereB ns.length y = true) (t2 : ∀ y ∈ be, thereB ns.length y = true) (l1 : ah.length ≤ 1099511627776) (l2 : be.length ≤ 1099511627776) :
    Calls Try.prog 50 #[gapV b off cap ns.length (.slice o1 ah.length c1) (.slice o2 be.length c2), .int .i64 x] W fun e w' => e = .returned (.bool (takesDtD ns ah be)) ∧ Below W.heap.size W w' := by
  have HP1 : Hid (∀ y, thereB ns.length y = true → ∀ V : World, Below w.heap.size w V → _) := fun y hy V hV => gapDt_any b off cap o1 o2 ah.length be.length c1 c2 y ns w V hF hV hy
  have HP2 : Hid (∀ y, thereB ns.length y = true → ∀ V : World, Below w.heap.size w V → _) := fun y hy V hV => gapEl_any b off cap o1 o2 ah.length be.length c1 c2 y ns w V hF hV hy
  have hBB : Below w.heap.size w ((W.alloc (.cells #[.slice (some ⟨b, off, none⟩) ns.length cap, .slice o1 ah.length c1, .slice o2 be.length c2] 62)).alloc (.cells #[.slice o1 ah.length c1, .slice o2 be.length c2] 29)) := (hW.alloc hW.size _).alloc (by simp; exact Nat.le_succ_of_le hW.size) _
  have hBW : Below W.heap.size W ((W.alloc (.cells #[.slice (some ⟨b, off, none⟩) ns.length cap, .slice o1 ah.length c1, .slice o2 be.length c2] 62)).alloc (.cells #[.slice o1 ah.length c1, .slice o2 be.length c2] 29)) := ((Below.refl _ W).alloc (Nat.le_refl _) _).alloc (by simp) _
  have hL1 := lack_any (W.heap.size + 1) 2 (gapV b off cap ns.length (.slice o1 ah.length c1) (.slice o2 be.length c2)) 66 [(.slice o1 ah.length c1, ah), (.slice o2 be.length c2, be)] (isK ns 10) _ (by simp) (lsts_two (t := 29) (vheap_new2 _ _ _) (h1.later hBB) (h2.later hBB)) (by simp) (fun q hq => by simp at hq; rcases hq with rfl | rfl <;> assumption)
    (enters_of Try.func66 (by kernel_rfl) rfl) (fun q hq y hy V hV => HP1.out y (by simp at hq; rcases hq with rfl | rfl; exact t1 y hy; exact t2 y hy) V (hBB.trans (hV.mono hBB.size)))
  have HL2 : Hid (∀ V : World, Below w.heap.size w V → _) := fun V hV => lack_any V.heap.size 1 (gapV b off cap ns.length (.slice o1 ah.length c1) (.slice o2 be.length c2)) 63 [(.slice o1 ah.length c1, ah)] (isK ns 1) (V.alloc (.cells #[.slice o1 ah.length c1] 29)) (by simp) (lsts_one (t := 29) (vheap_new _ _) (h1.later (hV.alloc hV.size _))) (by simp) (fun q hq => by simp at hq; rcases hq with rfl; assumption)
    (enters_of Try.func63 (by kernel_rfl) rfl) (fun q hq y hy U hU => HP2.out y (by simp at hq; rcases hq with rfl; exact t1 y hy) U ((hV.alloc hV.size _).trans (hU.mono (hV.alloc hV.size _).size)))
  have hR : takesDtD ns ah be = ((!([((Value.slice o1 ah.length c1), ah), (Value.slice o2 be.length c2, be)].any fun q => q.2.any (isK ns 10))) && (!([((Value.slice o1 ah.length c1), ah)].any fun q => q.2.any (isK ns 1)))) := by
    unfold takesDtD
    simp only [List.any_cons, List.any_nil, Bool.or_false, Bool.not_or]
  rw [hR]
  clear hR
  generalize (!([((Value.slice o1 ah.length c1), ah), (Value.slice o2 be.length c2, be)].any fun q => q.2.any (isK ns 10))) = R1 at *
  generalize (!([((Value.slice o1 ah.length c1), ah)].any fun q => q.2.any (isK ns 1))) = R2 at *
  have HBB := hid hBB
  have HBW := hid hBW
  clear hBB hBW HP1 HP2 hF h1 h2
  unfold gapV at *
  simp only [List.length_cons, List.length_nil, Nat.zero_add, Nat.reduceAdd] at hL1 HL2
  cases R1 with
  | false =>
    clear HL2
    go_enter Try.func50, Try.ntmps50
    go_wp2_with fail
    refine hL1.mono ?_
    rintro e v1 ⟨rfl, hb⟩
    have HB := hid (HBW.out.trans (hb.mono HBW.out.size))
    clear hb hL1
    go_wp2
    go_ret
    exact ⟨rfl, HB.out⟩
  | true =>
    go_enter Try.func50, Try.ntmps50
    go_wp2_with fail
    refine hL1.mono ?_
    rintro e v1 ⟨rfl, hb⟩
    have hsz := HBW.out.size
    have k0 := hb.cell (p := ⟨W.heap.size, 0, none⟩) (by show W.heap.size < _; simp; omega)
    have k1 := hb.cell (p := ⟨W.heap.size, 1, none⟩) (by show W.heap.size < _; simp; omega)
    have k2 := hb.cell (p := ⟨W.heap.size, 2, none⟩) (by show W.heap.size < _; simp; omega)
    have d0 : v1.cell? ⟨W.heap.size, 0, none⟩ = some (.slice (some ⟨b, off, none⟩) ns.length cap) := k0.trans (by simp)
    have d1 : v1.cell? ⟨W.heap.size, 1, none⟩ = some (.slice o1 ah.length c1) := k1.trans (by simp)
    have d2 : v1.cell? ⟨W.heap.size, 2, none⟩ = some (.slice o2 be.length c2) := k2.trans (by simp)
    have HB := hid (HBW.out.trans (hb.mono HBW.out.size))
    have hBv : Below w.heap.size w v1 := HBB.out.trans (hb.mono HBB.out.size)
    have hL2 := HL2.out v1 hBv
    have HV := hid HB.out.size
    clear hb hL1 HL2 k0 k1 k2 hsz hBv
    go_wp2_with fail
    refine hL2.mono ?_
    rintro e v2 ⟨rfl, hb⟩
    have HB2 := hid ((HB.out.alloc HV.out _).trans (hb.mono (HB.out.alloc HV.out _).size))
    clear hb hL2
    go_wp2
    go_ret
    exact ⟨rfl, HB2.out⟩
end Go.Proofs.Ytfaeabjgplahgaa

namespace Go.Proofs.Ytfaeabjgplahgaa
open Go.RowKit Go.Lib Go.Shelf Go.Maps

/-- An element of a map, as it is. -/
def valR (v : Value) : Option (DataW Value × List MemPlace) := some (.held v, [])
theorem kindLaw : Keyed Try.prog 32 := int_keyed (q := .u8) (by kernel_rfl)
theorem kindKey {n : Nat} (h : n < 256) : keyOf Try.prog 32 (.int .u8 (n : Int)) = some (.int .u8 (n : Int)) := keyOf_int_mk (q := .u8) (by kernel_rfl) (by simp [Lit.wf, IntKind.min, IntKind.max, IntKind.signed, IntKind.bits]; omega)
theorem rulesT : Try.prog.underlying 71 = some (.map 32 63) := by kernel_rfl
theorem ruleZero (w : World) : (zeroValue 63).run Try.prog w = .ok .nilFunc w := by kernel_rfl
def ruleMap (gv : Value) : DataW Value := (((DataW.map []).put (.int .u8 11) (.held (.func (.func 48) #[gv] #[]))).put (.int .u8 1) (.held (.func (.func 49) #[gv] #[]))).put (.int .u8 10) (.held (.func (.func 50) #[gv] #[]))

set_option maxRecDepth 100000 in
set_option maxHeartbeats 4000000 in
theorem rules_any (b off cap n : Nat) (o1 o2 : Option Addr) (n1 n2 c1 c2 : Nat) (W : World) :
    Calls Try.prog 41 #[gapV b off cap n (.slice o1 n1 c1) (.slice o2 n2 c2)] W fun e w' => ∃ B, e = .returned (.map (some B)) ∧ W.heap.size ≤ B ∧ w'.ownsMap Try.prog 32 valR B 3 (ruleMap (gapV b off cap n (.slice o1 n1 c1) (.slice o2 n2 c2))) ∧ Below W.heap.size W w' := by
  unfold ruleMap gapV
  obtain ⟨gv, hgv⟩ : ∃ gv : Value, gv = .agg #[.slice (some ⟨b, off, none⟩) n cap, .slice o1 n1 c1, .slice o2 n2 c2] := ⟨_, rfl⟩
  have h0 := World.ownsMap_made (W.alloc (.cells #[.slice (some ⟨b, off, none⟩) n cap, .slice o1 n1 c1, .slice o2 n2 c2] 62)) Try.prog 32 valR
  rw [World.size_alloc] at h0
  obtain ⟨w3, r3, m3, g3⟩ := h0.update kindLaw rulesT (by decide) (key := .int .u8 11) (val := .func (.func 48) #[gv] #[]) (kindKey (n := 11) (by decide)) rfl
  obtain ⟨w4, r4, m4, g4⟩ := m3.update kindLaw rulesT (by decide) (key := .int .u8 1) (val := .func (.func 49) #[gv] #[]) (kindKey (n := 1) (by decide)) rfl
  obtain ⟨w5, r5, m5, g5⟩ := m4.update kindLaw rulesT (by decide) (key := .int .u8 10) (val := .func (.func 50) #[gv] #[]) (kindKey (n := 10) (by decide)) rfl
  have hB2 : Below W.heap.size W ((W.alloc (.cells #[.slice (some ⟨b, off, none⟩) n cap, .slice o1 n1 c1, .slice o2 n2 c2] 62)).alloc (.map #[] 0)) := ((Below.refl _ W).alloc (Nat.le_refl _) _).alloc (by simp) _
  have hB3 := hB2.grown g3 hB2.size (fun k hk => by simp at hk; omega)
  have hB4 := hB3.grown g4 hB3.size (fun k hk => by simp at hk; omega)
  have hB5 := hB4.grown g5 hB4.size (fun k hk => by simp at hk; omega)
  have k2 : ((W.alloc (.cells #[.slice (some ⟨b, off, none⟩) n cap, .slice o1 n1 c1, .slice o2 n2 c2] 62)).alloc (.map #[] 0)).heap[W.heap.size]? = some (.cells #[.slice (some ⟨b, off, none⟩) n cap, .slice o1 n1 c1, .slice o2 n2 c2] 62) :=
    (Below.heap_alloc _ _ _ (by simp)).trans (vheap_new _ _)
  have k3 := (g3.block W.heap.size (by simp; omega) (by simp)).trans k2
  have s3 : W.heap.size < w3.heap.size := (Array.getElem?_eq_some_iff.1 k3).1
  have k4 := (g4.block W.heap.size s3 (by simp)).trans k3
  have p0 : w3.cell? ⟨W.heap.size, 0, none⟩ = some (.slice (some ⟨b, off, none⟩) n cap) := (cell_of_heap k3 0).trans rfl
  have p1 : w3.cell? ⟨W.heap.size, 1, none⟩ = some (.slice o1 n1 c1) := (cell_of_heap k3 1).trans rfl
  have p2 : w3.cell? ⟨W.heap.size, 2, none⟩ = some (.slice o2 n2 c2) := (cell_of_heap k3 2).trans rfl
  have q0 : w4.cell? ⟨W.heap.size, 0, none⟩ = some (.slice (some ⟨b, off, none⟩) n cap) := (cell_of_heap k4 0).trans rfl
  have q1 : w4.cell? ⟨W.heap.size, 1, none⟩ = some (.slice o1 n1 c1) := (cell_of_heap k4 1).trans rfl
  have q2 : w4.cell? ⟨W.heap.size, 2, none⟩ = some (.slice o2 n2 c2) := (cell_of_heap k4 2).trans rfl
  have HM := hid m5
  have HB := hid hB5
  subst hgv
  have hmm := @run_makeMap Try.prog
  clear h0 m3 m4 m5 g3 g4 g5 hB2 hB3 hB4 hB5 k2 k3 k4 s3
  go_enter Try.func41, Try.ntmps41
  go_wp2
  go_ret
  exact ⟨_, rfl, by omega, HM.out, HB.out⟩
end Go.Proofs.Ytfaeabjgplahgaa
