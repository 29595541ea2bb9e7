/- walk: why a filter, or a node, can't be asked (wrong). -/
/- iterate: a node alone is right, and a filter says of it what it says of the node: plain. -/
/- iterate: a forest that has a node of a kind and a name (alone): the walk. -/
/- walk: what a filter says of a node that is asked for (Accept), where the reference of walk is not at hand. -/
/- iterate: which nodes a filter accepts (judge.accepts). -/
/- iterate: why an iterator is wrong (there, wrong). -/
/- iterate: why an iterator is not right (Check). -/
/- iterate: an iterator as it must be when a node is about to be removed (Removing). -/
/- iterate: a new iterator (New). -/
import Derived.Test.YticenjhhefiboaaGreatFFWkPFWkI
import Derived.Test.YticenjhhefiboaaGreatFFWellFCheck
import Derived.Test.YticenjhhefiboaaGreatFFIt0FSkipH
import Derived.Deep.RegionLaw
import Derived.Test.YticenjhhefiboaaGreatFFItOFItP
namespace Go.Proofs.YticenjhhefiboaaGreat
open Go.RowKit Go.Lib

/-- The first rule of which something holds. -/
def firstR (p : RuleD → Bool) : List RuleD → Nat → Int
  | [], _ => -1
  | x :: t, k => if p x then (k : Int) else firstR p t (k + 1)
theorem firstR_any (p : RuleD → Bool) : ∀ (l : List RuleD) (k : Nat), decide (0 ≤ firstR p l k) = l.any p
  | [], _ => rfl
  | x :: t, k => by
    rw [firstR, List.any_cons]
    cases p x with
    | true => rw [if_pos rfl, Bool.true_or]; exact decide_eq_true (by omega)
    | false => rw [if_neg Bool.false_ne_true, Bool.false_or]; exact firstR_any p t (k + 1)

set_option maxRecDepth 100000 in
set_option maxHeartbeats 2000000 in
theorem indexFuncR_any (ro : Option Addr) (rc fn : Nat) (l : List RuleD) (p : RuleD → Bool) (w : World) (hv : RdR w (.slice ro l.length rc) l) (hl : l.length ≤ 1099511627776)
    (eg : ∀ args w, (callFunc fn args).run Tryz.prog w = .ok (.enter fn args) w)
    (hp : ∀ x, ∀ W : World, Below w.heap.size w W → Calls Tryz.prog fn #[ruleV x] W fun e w' => e = .returned (.bool (p x)) ∧ Below W.heap.size W w') :
    Calls Tryz.prog 89 #[.slice ro l.length rc, .func (.func fn) #[] #[]] w fun e w' => e = .returned (.int .i64 (firstR p l 0)) ∧ Below w.heap.size w w' := by
  obtain ⟨o', c', he, hc, g⟩ := hv
  obtain ⟨rfl, rfl⟩ : o' = ro ∧ c' = rc := by
    simp only [Value.slice.injEq] at he
    exact ⟨he.1.symm, he.2.2.symm⟩
  obtain ⟨N, hN⟩ : ∃ N, firstR p l 0 = N := ⟨_, rfl⟩
  rw [hN]
  have HN : Hid (firstR p (l.drop 0) 0 = N) := hN
  have HP := hid hp
  have G := hid g
  clear hN hp g he
  unfold ruleV at HP
  go_enter Tryz.func89, Tryz.ntmps89
  go_wp2
  go_loopw [8] (fun t wr => ∃ k : Nat, k ≤ l.length ∧ t = .int .i64 k ∧ Hid (Below w.heap.size w wr) ∧ Hid (firstR p (l.drop k) k = N)) (fun t _ => l.length - (RowKit.intOf t).toNat)
  case atStart => exact ⟨0, Nat.zero_le _, rfl, Below.refl _ _, HN⟩
  case round =>
    obtain ⟨k, k1, rfl, hB, hK⟩ := hrel
    by_cases hlt : k < l.length
    · obtain ⟨b, off, rfl, hlt1, ha⟩ := G.out (by omega)
      obtain ⟨r0, r1, r2⟩ := (ha k hlt).later hlt1 hB.out
      have q1 : (0 : Int) ≤ (k : Int) := by omega
      have q2 : (k : Int) < (l.length : Int) := by omega
      have hk := hK.out
      rw [List.drop_eq_getElem_cons hlt, firstR] at hk
      have Hk := hid hk
      have hC := HP.out l[k] wr hB.out
      clear hk hK ha G HP
      generalize l[k] = a at *
      generalize p a = R at *
      cases R with
      | true =>
        have hNk : N = (k : Int) := by rw [← Hk.out]; rfl
        subst hNk
        clear Hk
        go_wp2_with (go_at_fn fn; refine hC.mono ?_; rintro e w2 ⟨rfl, hb⟩; have HB2 := hid (hB.out.trans (hb.mono hB.out.size)); clear hb)
        go_ret
        exact ⟨rfl, HB2.out⟩
      | false =>
        have Hn : Hid (firstR p (l.drop (k + 1)) (k + 1) = N) := by
          have h := Hk.out
          rw [if_neg Bool.false_ne_true] at h
          exact h
        clear Hk
        go_wp2_with (go_at_fn fn; refine hC.mono ?_; rintro e w2 ⟨rfl, hb⟩; have HB2 := hid (hB.out.trans (hb.mono hB.out.size)); clear hb)
        go_roundw
        case rel => exact ⟨k + 1, by omega, by go_num, HB2, Hn⟩
        case measure => simp [RowKit.intOf]; omega
    · have hNk : N = -1 := by
        rw [← hK.out, List.drop_eq_nil_of_le (by omega)]
        rfl
      subst hNk
      clear hK G HP
      go_wp2
      go_ret
      exact ⟨rfl, hB.out⟩

set_option maxHeartbeats 2000000 in
theorem containsFuncR_any (ro : Option Addr) (rc fn : Nat) (l : List RuleD) (p : RuleD → Bool) (w : World) (hv : RdR w (.slice ro l.length rc) l) (hl : l.length ≤ 1099511627776)
    (eg : ∀ args w, (callFunc fn args).run Tryz.prog w = .ok (.enter fn args) w)
    (hp : ∀ x, ∀ W : World, Below w.heap.size w W → Calls Tryz.prog fn #[ruleV x] W fun e w' => e = .returned (.bool (p x)) ∧ Below W.heap.size W w') :
    Calls Tryz.prog 68 #[.slice ro l.length rc, .func (.func fn) #[] #[]] w fun e w' => e = .returned (.bool (l.any p)) ∧ Below w.heap.size w w' := by
  have hI := indexFuncR_any ro rc fn l p w hv hl eg hp
  rw [← firstR_any p l 0]
  generalize firstR p l 0 = N at *
  clear hp eg hv
  go_enter Tryz.func68, Tryz.ntmps68
  go_wp2_with fail
  refine hI.mono ?_
  rintro e w2 ⟨rfl, hb⟩
  have HB := hid hb
  clear hb hI
  go_wp2
  go_ret
  exact ⟨rfl, HB.out⟩

/-- Why a filter, or a node, can't be asked. -/
def missE (ns : List NodeD) (hs : List Int) : Int := if rightD ns then (if hs.all (thereB ns.length) then 0 else 2) else 5
def wrongE (ns : List NodeD) (hs : List Int) (rules : List RuleD) : Int := if missE ns hs = 0 then filterE rules else missE ns hs
theorem wrongE_ok {ns : List NodeD} {hs : List Int} {rules : List RuleD} (h : wrongE ns hs rules = 0) : RightF ns ∧ (∀ x ∈ hs, thereB ns.length x = true) ∧ filterE rules = 0 := by
  unfold wrongE at h
  split at h
  · rename_i hm
    unfold missE at hm
    cases hr : rightD ns with
    | false => rw [hr] at hm; cases hm
    | true =>
      rw [hr, if_pos rfl] at hm
      cases ha : hs.all (thereB ns.length) with
      | false => rw [ha] at hm; cases hm
      | true => exact ⟨(rightD_iff ns).1 hr, fun x hx => List.all_eq_true.1 ha x hx, h⟩
  · rename_i hm
    exact absurd h hm
theorem wrong_box {w V : World} {a c d : Value} {t u : TypeId} (hb : Below ((w.alloc (.cells #[a] t)).alloc (.cells #[c, d] u)).heap.size ((w.alloc (.cells #[a] t)).alloc (.cells #[c, d] u)) V) : V.cell? ⟨w.heap.size, 0, none⟩ = some a ∧ V.cell? ⟨w.heap.size + 1, 0, none⟩ = some c ∧ V.cell? ⟨w.heap.size + 1, 1, none⟩ = some d := by
  have hn : V.heap[w.heap.size + 1]? = some (.cells #[c, d] u) := by
    have := vheapW (w.alloc (.cells #[a] t)) (.cells #[c, d] u)
    rw [World.size_alloc] at this
    exact (hb.block (w.heap.size + 1) (by simp)).trans this
  have hk : ∀ j : Nat, V.cell? ⟨w.heap.size + 1, j, none⟩ = #[c, d][j]? := fun j => by
    unfold World.cell?
    simp only [hn]
    exact if_neg (by decide)
  exact ⟨(hb.cell (p := ⟨w.heap.size, 0, none⟩) (by simp; omega)).trans (by simp), (hk 0).trans rfl, (hk 1).trans rfl⟩

set_option maxRecDepth 100000 in
set_option maxHeartbeats 4000000 in
theorem wrong_any (o : Option Addr) (cap sh : Nat) (ro : Option Addr) (rc : Nat) (rules : List RuleD) (v : Value) (hs : List Int) (ns : List NodeD) (w : World) (hF : FRd w o cap ns) (hkl : ∀ (i : Nat) (hi : i < ns.length), ns[i].kids.length ≤ 1099511627776) (hal : ∀ (i : Nat) (hi : i < ns.length), ns[i].attrs.length ≤ 1099511627776) (hv : RdI w v hs) (hl : hs.length ≤ 1099511627776) (hr : RdR w (.slice ro rules.length rc) rules) (hrl : rules.length ≤ 1099511627776) :
    Calls Tryz.prog 46 #[.agg #[.slice o ns.length cap], .agg #[.int .u32 (sh : Int), .slice ro rules.length rc], v] w fun e w' => e = .returned (.int .i64 (wrongE ns hs rules)) ∧ Below w.heap.size w w' := by
  have HC : Hid (∀ W : World, Below w.heap.size w W → _) := fun W hW => Check_any o cap ns W (hF.later hW) hkl hal
  have HF : Hid (∀ W : World, Below w.heap.size w W → _) := fun W hW => containsFuncR_any ro rc 69 rules mute W (hr.later hW) hrl (enters_of Tryz.func69 (by kernel_rfl) rfl) (fun x V _ => saysNothing_any x V)
  have hle := hF.len
  obtain ⟨o2, c2, rfl, hc2, g2⟩ := hv
  have hB0 : Below w.heap.size w ((w.alloc (.cells #[.slice o ns.length cap] 24)).alloc (.cells #[.int .u32 (sh : Int), .slice ro rules.length rc] 28)) := ((Below.refl _ w).alloc (Nat.le_refl _) _).alloc (by simp) _
  have HB0 := hid hB0
  clear hF hkl hal hr hB0
  generalize checkN ns = CN at *
  cases hr : rightD ns with
  | false =>
    have e0 : wrongE ns hs rules = 5 := by unfold wrongE missE; rw [hr]; rfl
    have e1 : checkE ns = 5 := by unfold checkE; rw [hr]; rfl
    rw [e0]
    rw [e1] at HC
    clear e0 e1 g2
    go_enter Tryz.func46, Tryz.ntmps46
    go_wp2_with fail
    refine (HC.out _ HB0.out).mono ?_
    rintro e v1 ⟨rfl, hb1⟩
    have HB := hid (HB0.out.trans (hb1.mono HB0.out.size))
    clear hb1 HC
    go_wp2
    go_ret
    exact ⟨rfl, HB.out⟩
  | true =>
    have e1 : checkE ns = 0 := (checkE_right hr).1
    rw [e1] at HC
    obtain ⟨E, hE⟩ : ∃ E, wrongE ns hs rules = E := ⟨_, rfl⟩
    rw [hE]
    have HE : Hid ((if (hs.drop 0).all (thereB ns.length) then filterE rules else 2) = E) := by
      have := hE
      unfold wrongE missE at this
      rw [hr, if_pos rfl] at this
      show (if hs.all (thereB ns.length) then filterE rules else 2) = E
      rw [← this]
      cases hs.all (thereB ns.length) <;> rfl
    clear hE e1
    go_enter Tryz.func46, Tryz.ntmps46
    go_wp2_with fail
    refine (HC.out _ HB0.out).mono ?_
    rintro e v1 ⟨rfl, hb1⟩
    have HB1 := hid (HB0.out.trans (hb1.mono HB0.out.size))
    obtain ⟨cb, cs, cr⟩ := wrong_box hb1
    clear hb1 HC
    go_wp2
    go_loopw [21] (fun t wr => ∃ k : Nat, k ≤ hs.length ∧ t = .int .i64 k ∧ wr = v1 ∧ Hid ((if (hs.drop k).all (thereB ns.length) then filterE rules else 2) = E)) (fun t _ => hs.length - (RowKit.intOf t).toNat)
    case atStart => exact ⟨0, Nat.zero_le _, rfl, rfl, HE⟩
    case round =>
      obtain ⟨k, k1, rfl, rfl, hK⟩ := hrel
      by_cases hlt : k < hs.length
      · obtain ⟨b, off, rfl, hlt1, ha⟩ := g2 (by omega)
        have x1 := (HB1.out.cell (p := ⟨b, off + k, none⟩) hlt1).trans (ha k hlt)
        have q1 : (0 : Int) ≤ (k : Int) := by omega
        have q2 : (k : Int) < (hs.length : Int) := by omega
        have hk := hK.out
        rw [List.drop_eq_getElem_cons hlt, List.all_cons] at hk
        have Hk := hid hk
        clear hk hK ha g2
        generalize hs[k] = a at *
        by_cases g1 : a < 1
        · have hf : thereB ns.length a = false := by unfold thereB; rw [decide_eq_false (by omega)]; rfl
          have hE2 : E = 2 := by rw [← Hk.out, hf]; rfl
          subst hE2
          have d1 : decide (a < 1) = true := decide_eq_true g1
          clear Hk hf
          go_wp2
          go_ret
          exact ⟨rfl, HB1.out⟩
        · have d1 : decide (a < 1) = false := decide_eq_false g1
          by_cases g3 : (ns.length : Int) < a
          · have hf : thereB ns.length a = false := by unfold thereB; rw [decide_eq_false (p := a ≤ (ns.length : Int)) (by omega), Bool.and_false]
            have hE2 : E = 2 := by rw [← Hk.out, hf]; rfl
            subst hE2
            have d2 : decide ((ns.length : Int) < a) = true := decide_eq_true g3
            clear Hk hf
            go_wp2
            go_ret
            exact ⟨rfl, HB1.out⟩
          · have hf : thereB ns.length a = true := by unfold thereB; rw [decide_eq_true (by omega), decide_eq_true (by omega)]; rfl
            have d2 : decide ((ns.length : Int) < a) = false := decide_eq_false g3
            have Hn : Hid ((if (hs.drop (k + 1)).all (thereB ns.length) then filterE rules else 2) = E) := by
              have h := Hk.out
              rw [hf, Bool.true_and] at h
              exact h
            clear Hk hf
            go_wp2
            go_roundw
            case rel => exact ⟨k + 1, by omega, by go_num, trivial, Hn⟩
            case measure => simp [RowKit.intOf]; omega
      · have hE0 : filterE rules = E := by
          rw [← hK.out, List.drop_eq_nil_of_le (by omega)]
          rfl
        clear hK g2
        have hF1 := HF.out wr HB1.out
        unfold filterE at hE0
        by_cases h64 : 64 < rules.length
        · have d3 : decide ((64 : Int) < (rules.length : Int)) = true := decide_eq_true (by omega)
          rw [if_pos h64] at hE0
          subst hE0
          go_wp2
          go_ret
          exact ⟨rfl, HB1.out⟩
        · have d3 : decide ((64 : Int) < (rules.length : Int)) = false := decide_eq_false (by omega)
          rw [if_neg h64] at hE0
          cases hm : rules.any mute with
          | true =>
            rw [hm] at hF1
            rw [hm, if_pos rfl] at hE0
            subst hE0
            go_wp2_with (go_at_call 68; refine hF1.mono ?_; rintro e v2 ⟨rfl, hb2⟩; have HB2 := hid (HB1.out.trans (hb2.mono HB1.out.size)); clear hb2)
            go_ret
            exact ⟨rfl, HB2.out⟩
          | false =>
            rw [hm] at hF1
            rw [hm, if_neg Bool.false_ne_true] at hE0
            subst hE0
            go_wp2_with (go_at_call 68; refine hF1.mono ?_; rintro e v2 ⟨rfl, hb2⟩; have HB2 := hid (HB1.out.trans (hb2.mono HB1.out.size)); clear hb2)
            go_ret
            exact ⟨rfl, HB2.out⟩
end Go.Proofs.YticenjhhefiboaaGreat

namespace Go.Proofs.YticenjhhefiboaaGreat
open Go.RowKit Go.Lib Go.Shelf

theorem none_bytes {s : ByteArray} (h : noneS s = true) : s = ⟨#[]⟩ := by
  unfold noneS at h
  have h := eq_of_beq h
  cases s with
  | mk d =>
    have : d = #[] := Array.toList_eq_nil_iff.1 h
    rw [this]
theorem right_doc : RightF [docI false] := (rightD_iff _).1 (by kernel_rfl)
theorem right_shad : RightF [docI false, hostI, shadI] := (rightD_iff _).1 (by kernel_rfl)
theorem bare_well {n : NodeD} (h : wellMadeD n = true) (h2 : n.kind ≠ 12) : wellMadeD (bareI n) = true := by
  obtain ⟨a, b, c, _, _⟩ := well_parts h
  have hb : bareD (bareI n) = true := by
    unfold bareD at b ⊢
    simp only [Bool.and_eq_true] at b
    obtain ⟨⟨⟨⟨⟨⟨⟨b1, _⟩, _⟩, _⟩, b5⟩, _⟩, _⟩, _⟩ := b
    have b1' : (!(!(n.kind == 1) && !((noneS n.space && noneS n.pre) && true && true))) = true := by
      cases hk : (n.kind == 1) with
      | true => rfl
      | false =>
        rw [hk] at b1
        cases hs : (noneS n.space && noneS n.pre) with
        | true => rfl
        | false => rw [hs] at b1; cases b1
    have e0 : noneS (⟨#[]⟩ : ByteArray) = true := by kernel_rfl
    show ((!(!(n.kind == 1) && !((noneS n.space && noneS n.pre) && true && true))) && (!(!(n.kind == 10) && !(noneS (⟨#[]⟩ : ByteArray) && noneS (⟨#[]⟩ : ByteArray)))) && (!(!(n.kind == 12) && false)) && (!(!(n.kind == 9) && false)) && (!(!hasLocalK n.kind && !noneS n.loc)) && (!(!hasDataK n.kind && false)) && (!(!hasKidsK n.kind && false)) && (!(!mayHangK n.kind && false))) = true
    rw [b1', b5, e0]
    simp
  have hm : rightModeD (bareI n) = true := by
    show (!(n.kind == 12) || _ || _) = true
    rw [beq_eq_false_iff_ne.2 h2]
    rfl
  unfold wellMadeD
  show (knownK n.kind && bareD (bareI n) && rightNameD n && rightAttrsD [] && _ && _ && rightModeD (bareI n)) = true
  rw [a, hb, c, hm]
  kernel_rfl
theorem right_bare {n : NodeD} (h : wellMadeD n = true) (h1 : n.kind ≠ 9) (h2 : n.kind ≠ 12) : RightF [docI false, bareI n] where
  small := by show 2 ≤ 4096; omega
  well := fun i hi => match i, hi with
    | 0, _ => by show wellMadeD (docI false) = true; kernel_rfl
    | 1, _ => bare_well h h2
  ends := fun i hi => match i, hi with
    | 0, _ => .up (n := docI false) rfl (.out rfl)
    | 1, _ => by
      refine .up (n := bareI n) rfl ?_
      have : aboveD (bareI n) = 0 := by unfold aboveD; split <;> rfl
      rw [this]
      exact .out rfl
  kids := fun i hi => match i, hi with
    | 0, _ => ⟨fun x hx => absurd hx (by show x ∉ ([] : List Int); simp), List.nodup_nil⟩
    | 1, _ => ⟨fun x hx => absurd hx (by show x ∉ ([] : List Int); simp), List.nodup_nil⟩
  hang := fun i hi => match i, hi with
    | 0, _ => .inl rfl
    | 1, _ => .inl rfl
  doc := fun i hi => match i, hi with
    | 0, _ => rfl
    | 1, _ => by
      have : aboveD (bareI n) = 0 := by unfold aboveD; split <;> rfl
      show rightDocD [docI false, bareI n] 1 (bareI n) = true
      unfold rightDocD
      rw [show ((bareI n).kind == 9) = false from beq_eq_false_iff_ne.2 h1, if_neg Bool.false_ne_true, this]
      rfl
  shadow := fun i hi => match i, hi with
    | 0, _ => rfl
    | 1, _ => by
      show rightShadowD [docI false, bareI n] 1 (bareI n) = true
      unfold rightShadowD
      rw [show ((bareI n).kind == 12) = false from beq_eq_false_iff_ne.2 h2, if_neg Bool.false_ne_true]
      rfl
  kinds := fun i hi => match i, hi with
    | 0, _ => rfl
    | 1, _ => by
      show rightKidsD [docI false, bareI n] (bareI n) = true
      unfold rightKidsD
      split <;> rfl
theorem well_loc {n : NodeD} (h : wellMadeD n = true) (hk : hasLocalK n.kind = false) : n.loc = ⟨#[]⟩ := by
  obtain ⟨_, b, _⟩ := well_parts h
  unfold bareD at b
  simp only [Bool.and_eq_true] at b
  obtain ⟨⟨⟨⟨_, b5⟩, _⟩, _⟩, _⟩ := b
  rw [hk] at b5
  refine none_bytes ?_
  cases hn : noneS n.loc with
  | true => rfl
  | false => rw [hn] at b5; cases b5
theorem alone_right {n : NodeD} (h : wellMadeD n = true) : RightF (aloneD n) := by
  unfold aloneD
  by_cases h1 : n.kind = 9
  · rw [beq_iff_eq.2 h1, if_pos rfl]; exact right_doc
  · rw [beq_eq_false_iff_ne.2 h1, if_neg Bool.false_ne_true]
    by_cases h2 : n.kind = 12
    · rw [beq_iff_eq.2 h2, if_pos rfl]; exact right_shad
    · rw [beq_eq_false_iff_ne.2 h2, if_neg Bool.false_ne_true]; exact right_bare h h1 h2
theorem alone_len (n : NodeD) : 0 < (aloneD n).length ∧ (aloneD n).length ≤ 3 := by
  unfold aloneD
  split
  · exact ⟨by simp, by simp⟩
  · split <;> exact ⟨by simp, by simp⟩
theorem alone_lists (n : NodeD) : ∀ m ∈ aloneD n, m.data = [] ∧ m.attrs = [] ∧ m.kids = [] := by
  unfold aloneD
  split
  · intro m hm; simp only [List.mem_cons, List.not_mem_nil, or_false] at hm; rw [hm]; exact ⟨rfl, rfl, rfl⟩
  · split
    · intro m hm; simp only [List.mem_cons, List.not_mem_nil, or_false] at hm; rcases hm with rfl | rfl | rfl <;> exact ⟨rfl, rfl, rfl⟩
    · intro m hm; simp only [List.mem_cons, List.not_mem_nil, or_false] at hm; rcases hm with rfl | rfl <;> exact ⟨rfl, rfl, rfl⟩
theorem alone_says {n : NodeD} (h : wellMadeD n = true) (sh : Nat) (rules : List RuleD) : verdictOf (aloneD n) sh rules ((aloneD n).length : Int) = verdictD sh rules n.kind n.loc := by
  unfold aloneD
  by_cases h1 : n.kind = 9
  · rw [beq_iff_eq.2 h1, if_pos rfl, well_loc h (by rw [h1]; rfl), h1]; rfl
  · rw [beq_eq_false_iff_ne.2 h1, if_neg Bool.false_ne_true]
    by_cases h2 : n.kind = 12
    · rw [beq_iff_eq.2 h2, if_pos rfl, well_loc h (by rw [h2]; rfl), h2]; rfl
    · rw [beq_eq_false_iff_ne.2 h2, if_neg Bool.false_ne_true]; rfl
theorem alone_wrong {n : NodeD} (h : wellMadeD n = true) {rules : List RuleD} (hf : filterE rules = 0) : wrongE (aloneD n) [((aloneD n).length : Int)] rules = 0 := by
  have hl := (alone_len n).1
  have hm : missE (aloneD n) [((aloneD n).length : Int)] = 0 := by
    unfold missE
    rw [(rightD_iff _).2 (alone_right h), if_pos rfl]
    have ht : thereB (aloneD n).length ((aloneD n).length : Int) = true := by
      unfold thereB
      rw [decide_eq_true (by omega), decide_eq_true (by omega)]
      rfl
    simp [ht]
  unfold wrongE
  rw [if_pos hm]
  exact hf
end Go.Proofs.YticenjhhefiboaaGreat

namespace Go.Proofs.YticenjhhefiboaaGreat
open Go.RowKit Go.Lib Go.Shelf

theorem box16I {w : World} {B : Nat} {a0 a1 a2 a3 a4 a5 a6 a7 a8 a9 a10 a11 a12 a13 a14 a15 : Value} {t : TypeId} (h : w.heap[B]? = some (.cells #[a0, a1, a2, a3, a4, a5, a6, a7, a8, a9, a10, a11, a12, a13, a14, a15] t)) :
    w.cell? ⟨B, 0, none⟩ = some a0 ∧ w.cell? ⟨B, 1, none⟩ = some a1 ∧ w.cell? ⟨B, 2, none⟩ = some a2 ∧ w.cell? ⟨B, 3, none⟩ = some a3 := by
  refine ⟨?_, ?_, ?_, ?_⟩ <;> (unfold World.cell?; simp only [h]; rw [if_neg (by decide)]; rfl)
/-- What is handed back. -/
theorem alone_end {w X : World} {base B : Nat} {o : Option Addr} {c : Nat} {l : List NodeD} {r : Value} (hO : X.ownsRow base 83 16 (.slice o l.length c) l.length (rowI l)) (hR : X.heap[B]? = some (.cells #[r] 24)) (hB : B < base) (hw : w.heap.size ≤ B) (hX : Below w.heap.size w X) (h0 : 0 < l.length) (hs : l.length ≤ 1099511627776) (hL : ∀ n ∈ l, n.data = [] ∧ n.attrs = [] ∧ n.kids = []) :
    ∃ bb, o = some ⟨bb, 0, none⟩ ∧ ((X.setCell ⟨B, 0, none⟩ (.slice o l.length c)).cell? ⟨B, 0, none⟩ = some (.slice o l.length c) ∧ FAt (X.setCell ⟨B, 0, none⟩ (.slice o l.length c)) bb 0 c l ∧ Below w.heap.size w (X.setCell ⟨B, 0, none⟩ (.slice o l.length c))) ∧ ((X.setCell ⟨B, 0, none⟩ (.slice o l.length c)).drew.cell? ⟨B, 0, none⟩ = some (.slice o l.length c) ∧ FAt (X.setCell ⟨B, 0, none⟩ (.slice o l.length c)).drew bb 0 c l ∧ Below w.heap.size w (X.setCell ⟨B, 0, none⟩ (.slice o l.length c)).drew) := by
  have hO2 := ownsRow_setCell_below hO (a := ⟨B, 0, none⟩) hB (.slice o l.length c)
  obtain ⟨bb, c2, e, _, hF⟩ := rowI_forest hO2 h0 hs hL
  injection e with e1 e2 e3
  subst e1 e3
  have hX2 := hX.setCell (p := ⟨B, 0, none⟩) hw (.slice (some ⟨bb, 0, none⟩) l.length c)
  have hc := World.cell?_setCell_same' X ⟨B, 0, none⟩ (.slice (some ⟨bb, 0, none⟩) l.length c) (by rw [(box_cell_l hR).1]; rfl)
  exact ⟨bb, rfl, ⟨hc, hF, hX2⟩, hc, hF.later (Below.refl _ _).drew, hX2.drew⟩
set_option maxRecDepth 100000 in
set_option maxHeartbeats 4000000 in
theorem alone_any (n : NodeD) (D A K : Value) (w : World) :
    Calls Tryz.prog 86 #[.agg (nodeCsI n ⟨D, A, K⟩).toArray] w fun e w' => ∃ b cap, e = .returned (.tuple #[.agg #[.slice (some ⟨b, 0, none⟩) (aloneD n).length cap], .int .i64 ((aloneD n).length : Int)]) ∧ FAt w' b 0 cap (aloneD n) ∧ Below w.heap.size w w' := by
  obtain ⟨NS, hNS⟩ : ∃ NS, aloneD n = NS := ⟨_, rfl⟩
  rw [hNS]
  have HNS := hid hNS
  unfold nodeCsI
  clear hNS
  have hB0 : Below w.heap.size w ((w.alloc (.cells #[.int .u8 (n.kind : Int), .string n.space, .string n.pre, .string n.loc, .string n.pub, .string n.sys, D, A, .int .i64 n.parent, K, .int .i64 n.doc, .int .i64 n.host, .int .i64 n.shadow, .int .u8 (n.mode : Int), .bool n.manual, .bool n.html] 83)).alloc (.cells #[.slice none 0 0] 24)) := ((Below.refl _ w).alloc (Nat.le_refl _) _).alloc (by simp) _
  have h0 : ((w.alloc (.cells #[.int .u8 (n.kind : Int), .string n.space, .string n.pre, .string n.loc, .string n.pub, .string n.sys, D, A, .int .i64 n.parent, K, .int .i64 n.doc, .int .i64 n.host, .int .i64 n.shadow, .int .u8 (n.mode : Int), .bool n.manual, .bool n.html] 83)).alloc (.cells #[.slice none 0 0] 24)).heap[w.heap.size]? = some (.cells #[.int .u8 (n.kind : Int), .string n.space, .string n.pre, .string n.loc, .string n.pub, .string n.sys, D, A, .int .i64 n.parent, K, .int .i64 n.doc, .int .i64 n.host, .int .i64 n.shadow, .int .u8 (n.mode : Int), .bool n.manual, .bool n.html] 83) := (Below.heap_alloc _ _ _ (by simp)).trans (heap_new w _)
  have h1 := heap_new (w.alloc (.cells #[.int .u8 (n.kind : Int), .string n.space, .string n.pre, .string n.loc, .string n.pub, .string n.sys, D, A, .int .i64 n.parent, K, .int .i64 n.doc, .int .i64 n.host, .int .i64 n.shadow, .int .u8 (n.mode : Int), .bool n.manual, .bool n.html] 83)) (.cells #[.slice none 0 0] 24)
  have hN := forestNew_any false ((w.alloc (.cells #[.int .u8 (n.kind : Int), .string n.space, .string n.pre, .string n.loc, .string n.pub, .string n.sys, D, A, .int .i64 n.parent, K, .int .i64 n.doc, .int .i64 n.host, .int .i64 n.shadow, .int .u8 (n.mode : Int), .bool n.manual, .bool n.html] 83)).alloc (.cells #[.slice none 0 0] 24))
  simp only [World.size_alloc] at h1 hN
  have H0 := hid h0
  have H1 := hid h1
  have HB0 := hid hB0
  clear h0 h1 hB0
  go_enter Tryz.func86, Tryz.ntmps86
  go_wp2_with fail
  refine hN.mono ?_
  rintro e v1 ⟨b, rfl, hO, hB⟩
  have hsz : w.heap.size + 1 + 1 ≤ v1.heap.size := by have := hB.size; simpa using this
  have hblt : w.heap.size + 1 + 1 ≤ b ∧ b < v1.heap.size := hO.lt b rfl
  have k0 := (hB.block w.heap.size (by omega)).trans H0.out
  have k1 := (hB.block (w.heap.size + 1) (by omega)).trans H1.out
  have HBB := hid (HB0.out.trans (hB.mono (by omega)))
  clear hN hB H0 H1 HB0
  have kf := heap_new v1 (.cells #[.slice (some ⟨b, 0, none⟩) 1 1] 24)
  have g0 := (Below.heap_alloc v1 (.cells #[.slice (some ⟨b, 0, none⟩) 1 1] 24) _ (show w.heap.size < v1.heap.size by omega)).trans k0
  have g1 := (Below.heap_alloc v1 (.cells #[.slice (some ⟨b, 0, none⟩) 1 1] 24) _ (show w.heap.size + 1 < v1.heap.size by omega)).trans k1
  obtain ⟨q0, q1, q2, q3⟩ := box16I g0
  obtain ⟨r1, r2⟩ := box_cell_l g1
  have hO2 := hO.alloc (.cells #[.slice (some ⟨b, 0, none⟩) 1 1] 24)
  have HBF := hid (HBB.out.alloc (show w.heap.size ≤ v1.heap.size by omega) (.cells #[.slice (some ⟨b, 0, none⟩) 1 1] 24))
  have HG1 := hid g1
  have HKF := hid kf
  have HO := hid hO2
  clear k0 k1 g0 g1 kf hO hO2 HBB
  have hNS := HNS.out
  clear HNS
  by_cases n1 : n.kind = 9
  · have ha : aloneD n = [docI false] := by unfold aloneD; rw [n1]; rfl
    rw [ha] at hNS
    subst hNS
    rw [n1] at q0 ⊢
    obtain ⟨f0, f1⟩ := box_cell_l HKF.out
    obtain ⟨bb, eb, ⟨z1, z2, z3⟩, y1, y2, y3⟩ := alone_end (l := [docI false]) HO.out HG1.out (by omega) (by omega) HBF.out (by simp) (by simp) (by intro m hm; rw [List.mem_singleton.1 hm]; exact ⟨rfl, rfl, rfl⟩)
    have eb2 : bb = b := by injection eb with e; injection e with e; exact e.symm
    subst eb2
    have Z := hid (And.intro z1 (And.intro z2 z3))
    have Y := hid (And.intro y1 (And.intro y2 y3))
    clear z1 z2 z3 y1 y2 y3 eb
    go_wp2
    go_region_law (fail)
    all_goals go_wp2
    all_goals first
      | exact bodyPost_ret (v := .tuple #[.agg #[.slice (some ⟨bb, 0, none⟩) 1 1], .int .i64 1]) (by have z1 := Z.out.1; simp only [List.length_cons, List.length_nil, Nat.zero_add] at z1; simp [results, Tryz.results86, go_sem, Act.put, z1]) rfl ⟨_, _, rfl, Z.out.2.1, Z.out.2.2⟩
      | exact bodyPost_ret (v := .tuple #[.agg #[.slice (some ⟨bb, 0, none⟩) 1 1], .int .i64 1]) (by have z1 := Y.out.1; simp only [List.length_cons, List.length_nil, Nat.zero_add] at z1; simp [results, Tryz.results86, go_sem, Act.put, z1]) rfl ⟨_, _, rfl, Y.out.2.1, Y.out.2.2⟩
  · by_cases n2 : n.kind = 12
    · have ha : aloneD n = [docI false, hostI, shadI] := by unfold aloneD; rw [n2]; rfl
      rw [ha] at hNS
      subst hNS
      rw [n2] at q0 ⊢
      obtain ⟨o, c, w1, a1, a2, a3⟩ := rowI_append _ _ b [hostI, shadI] HO.out (by simp) (by rw [World.size_alloc]; omega)
      have kf1 := heap_growI ((Below.heap_alloc _ (.cells (rowI [hostI, shadI]).toArray 83) _ (by rw [World.size_alloc]; omega)).trans HKF.out) a3 (by intro e; injection e with e; omega)
      have kr1 := heap_growI ((Below.heap_alloc _ (.cells (rowI [hostI, shadI]).toArray 83) _ (by rw [World.size_alloc]; omega)).trans HG1.out) a3 (by intro e; injection e with e; omega)
      have hb1 := (HBF.out.alloc (by rw [World.size_alloc]; omega) (.cells (rowI [hostI, shadI]).toArray 83)).grown a3 (by simp only [World.size_alloc]; omega) (fun g hg => by injection hg with hg; omega)
      have e3 : 1 + [hostI, shadI].length = 3 := rfl
      rw [e3] at a1 a2
      have o4 := own_set_apart a2 kf1 (by decide) (.slice o 3 c)
      have b4 := hb1.setCell (p := ⟨v1.heap.size, 0, none⟩) (by show w.heap.size ≤ v1.heap.size; omega) (.slice o 3 c)
      have r4 := (Below.heap_setCell w1 ⟨v1.heap.size, 0, none⟩ (.slice o 3 c) (w.heap.size + 1) (by show w.heap.size + 1 ≠ v1.heap.size; omega)).trans kr1
      obtain ⟨g0, g1⟩ := box_cell_l kf1
      have f4 := World.cell?_setCell_same' w1 ⟨v1.heap.size, 0, none⟩ (.slice o 3 c) (by rw [g0]; rfl)
      obtain ⟨p0, p1⟩ := box_cell_l r4
      obtain ⟨bb, eb, ⟨z1, z2, z3⟩, y1, y2, y3⟩ := alone_end (l := docI false :: [hostI, shadI]) (c := c) (o := o) o4 r4 (by omega) (by omega) b4 (by simp) (by simp) (by intro m hm; simp only [List.mem_cons, List.not_mem_nil, or_false] at hm; rcases hm with rfl | rfl | rfl <;> exact ⟨rfl, rfl, rfl⟩)
      subst eb
      have Z := hid (And.intro z1 (And.intro z2 z3))
      have Y := hid (And.intro y1 (And.intro y2 y3))
      obtain ⟨f0, f1⟩ := box_cell_l HKF.out
      clear z1 z2 z3 y1 y2 y3 o4 b4 r4 a2 a3 kf1 kr1 hb1 e3 HO HG1 HKF HBF
      simp only [rowI, nodeCsI, nilL, hostI, shadI, World.size_alloc, List.flatMap_cons, List.flatMap_nil, List.cons_append, List.nil_append, List.append_nil, List.length_cons, List.length_nil, Nat.zero_add, Nat.reduceAdd] at a1
      go_wp2_with (at_builtin; refine wpList_append_run _ rfl _ _ 22 22 rfl _ _ rfl rfl _ _ a1 ?_; clear a1)
      go_region_law (fail)
      all_goals go_wp2
      all_goals first
        | exact bodyPost_ret (v := .tuple #[.agg #[.slice (some ⟨bb, 0, none⟩) 3 c], .int .i64 3]) (by have z1 := Z.out.1; simp only [List.length_cons, List.length_nil, Nat.zero_add, Nat.reduceAdd] at z1; simp [results, Tryz.results86, go_sem, Act.put, z1]) rfl ⟨_, _, rfl, Z.out.2.1, Z.out.2.2⟩
        | exact bodyPost_ret (v := .tuple #[.agg #[.slice (some ⟨bb, 0, none⟩) 3 c], .int .i64 3]) (by have z1 := Y.out.1; simp only [List.length_cons, List.length_nil, Nat.zero_add, Nat.reduceAdd] at z1; simp [results, Tryz.results86, go_sem, Act.put, z1]) rfl ⟨_, _, rfl, Y.out.2.1, Y.out.2.2⟩
    · have ha : aloneD n = [docI false, bareI n] := by unfold aloneD; rw [beq_eq_false_iff_ne.2 n1, beq_eq_false_iff_ne.2 n2]; rfl
      rw [ha] at hNS
      subst hNS
      have m1 : ((n.kind : Int) == 9) = false := beq_eq_false_iff_ne.2 (by omega)
      have m2 : ((n.kind : Int) == 12) = false := beq_eq_false_iff_ne.2 (by omega)
      obtain ⟨o, c, w1, a1, a2, a3⟩ := rowI_append _ _ b [bareI n] HO.out (by simp) (by rw [World.size_alloc]; omega)
      have kf1 := heap_growI ((Below.heap_alloc _ (.cells (rowI [bareI n]).toArray 83) _ (by rw [World.size_alloc]; omega)).trans HKF.out) a3 (by intro e; injection e with e; omega)
      have kr1 := heap_growI ((Below.heap_alloc _ (.cells (rowI [bareI n]).toArray 83) _ (by rw [World.size_alloc]; omega)).trans HG1.out) a3 (by intro e; injection e with e; omega)
      have hb1 := (HBF.out.alloc (by rw [World.size_alloc]; omega) (.cells (rowI [bareI n]).toArray 83)).grown a3 (by simp only [World.size_alloc]; omega) (fun g hg => by injection hg with hg; omega)
      have e3 : 1 + [bareI n].length = 2 := rfl
      rw [e3] at a1 a2
      have o4 := own_set_apart a2 kf1 (by decide) (.slice o 2 c)
      have b4 := hb1.setCell (p := ⟨v1.heap.size, 0, none⟩) (by show w.heap.size ≤ v1.heap.size; omega) (.slice o 2 c)
      have r4 := (Below.heap_setCell w1 ⟨v1.heap.size, 0, none⟩ (.slice o 2 c) (w.heap.size + 1) (by show w.heap.size + 1 ≠ v1.heap.size; omega)).trans kr1
      obtain ⟨g0, g1⟩ := box_cell_l kf1
      have f4 := World.cell?_setCell_same' w1 ⟨v1.heap.size, 0, none⟩ (.slice o 2 c) (by rw [g0]; rfl)
      obtain ⟨p0, p1⟩ := box_cell_l r4
      obtain ⟨bb, eb, ⟨z1, z2, z3⟩, y1, y2, y3⟩ := alone_end (l := docI false :: [bareI n]) (c := c) (o := o) o4 r4 (by omega) (by omega) b4 (by simp) (by simp) (by intro m hm; simp only [List.mem_cons, List.not_mem_nil, or_false] at hm; rcases hm with rfl | rfl <;> exact ⟨rfl, rfl, rfl⟩)
      subst eb
      have Z := hid (And.intro z1 (And.intro z2 z3))
      have Y := hid (And.intro y1 (And.intro y2 y3))
      obtain ⟨f0, f1⟩ := box_cell_l HKF.out
      clear z1 z2 z3 y1 y2 y3 o4 b4 r4 a2 a3 kf1 kr1 hb1 e3 HO HG1 HKF HBF
      simp only [rowI, nodeCsI, nilL, bareI, World.size_alloc, List.flatMap_cons, List.flatMap_nil, List.append_nil, List.length_cons, List.length_nil, Nat.zero_add] at a1
      go_wp2_with (at_builtin; refine wpList_append_run _ rfl _ _ 22 22 rfl _ _ rfl rfl _ _ a1 ?_; clear a1)
      go_region_law (fail)
      all_goals go_wp2
      all_goals first
        | exact bodyPost_ret (v := .tuple #[.agg #[.slice (some ⟨bb, 0, none⟩) 2 c], .int .i64 2]) (by have z1 := Z.out.1; simp only [List.length_cons, List.length_nil, Nat.zero_add, Nat.reduceAdd] at z1; simp [results, Tryz.results86, go_sem, Act.put, z1]) rfl ⟨_, _, rfl, Z.out.2.1, Z.out.2.2⟩
        | exact bodyPost_ret (v := .tuple #[.agg #[.slice (some ⟨bb, 0, none⟩) 2 c], .int .i64 2]) (by have z1 := Y.out.1; simp only [List.length_cons, List.length_nil, Nat.zero_add, Nat.reduceAdd] at z1; simp [results, Tryz.results86, go_sem, Act.put, z1]) rfl ⟨_, _, rfl, Y.out.2.1, Y.out.2.2⟩
end Go.Proofs.YticenjhhefiboaaGreat

namespace Go.Proofs.YticenjhhefiboaaGreat
open Go.RowKit Go.Lib Go.Shelf

theorem boxesFTI {w V : World} {f c d : Value} {t u : TypeId} (hb : Below (w.heap.size + 2) ((w.alloc (.cells #[f] t)).alloc (.cells #[c, d] u)) V) :
    V.cell? ⟨w.heap.size, 0, none⟩ = some f ∧ V.cell? ⟨w.heap.size + 1, 0, none⟩ = some c ∧ V.cell? ⟨w.heap.size + 1, 1, none⟩ = some d := by
  have hn : V.heap[w.heap.size + 1]? = some (.cells #[c, d] u) := by
    have := vheapW (w.alloc (.cells #[f] t)) (.cells #[c, d] u)
    rw [World.size_alloc] at this
    exact (hb.block (w.heap.size + 1) (by omega)).trans this
  have hk : ∀ j : Nat, V.cell? ⟨w.heap.size + 1, j, none⟩ = #[c, d][j]? := fun j => by
    unfold World.cell?
    simp only [hn]
    exact if_neg (by decide)
  exact ⟨(hb.cell (p := ⟨w.heap.size, 0, none⟩) (by show w.heap.size < w.heap.size + 2; omega)).trans (by simp), (hk 0).trans rfl, (hk 1).trans rfl⟩

variable {w : World} {o : Option Addr} {cap n k : Nat} {sh x : Int} {ro : Option Addr} {rc : Nat}
theorem below_threeI (w : World) (o1 o2 o3 : Obj) : Below w.heap.size w (((w.alloc o1).alloc o2).alloc o3) := (((Below.refl _ w).alloc (Nat.le_refl _) _).alloc (by simp) _).alloc (by simp; omega) _

set_option maxRecDepth 100000 in
set_option maxHeartbeats 4000000 in
theorem Accept_errI (o : Option Addr) (cap : Nat) (ns : List NodeD) (x : Int) (sh : Nat) (ro : Option Addr) (rc : Nat) (rules : List RuleD) (w : World) (hF : FRd w o cap ns) (hkl : ∀ (i : Nat) (hi : i < ns.length), ns[i].kids.length ≤ 1099511627776) (hal : ∀ (i : Nat) (hi : i < ns.length), ns[i].attrs.length ≤ 1099511627776) (hru : RdR w (.slice ro rules.length rc) rules) (hrl : rules.length ≤ 1099511627776) (hE : wrongE ns [x] rules ≠ 0) :
    Calls Tryz.prog 20 #[.agg #[.slice o ns.length cap], .agg #[.int .u32 (sh : Int), .slice ro rules.length rc], .int .i64 x] w fun e w' => e = .returned (.tuple #[.int .u8 0, .int .i64 (wrongE ns [x] rules)]) ∧ Below w.heap.size w w' := by
  have HB0 := hid (below_threeI w (.cells #[.slice o ns.length cap] 24) (.cells #[.int .u32 (sh : Int), .slice ro rules.length rc] 28) (.cells #[.int .i64 x] 3))
  have kr := one_rdI ((w.alloc (.cells #[.slice o ns.length cap] 24)).alloc (.cells #[.int .u32 (sh : Int), .slice ro rules.length rc] 28)) x 3
  simp only [World.size_alloc] at kr
  have HW := hid (wrong_any o cap sh ro rc rules _ [x] ns _ (hF.later HB0.out) hkl hal kr (by simp) (hru.later HB0.out) hrl)
  have n0 : (wrongE ns [x] rules != 0) = true := by rw [bne, beq_eq_false_iff_ne.2 hE]; rfl
  clear hF hkl hal hru kr hE
  generalize wrongE ns [x] rules = E at *
  go_enter Tryz.func20, Tryz.ntmps20
  go_wp2_with fail
  refine HW.out.mono ?_
  rintro e v1 ⟨rfl, hb⟩
  have HB1 := hid (HB0.out.trans (hb.mono HB0.out.size))
  clear hb HW
  go_wp2
  go_ret2
  exact ⟨rfl, HB1.out⟩

theorem boxes3TI {w V : World} {f c d : Value} {t u : TypeId} {o3 : Obj} (hb : Below (w.heap.size + 1 + 1 + 1) (((w.alloc (.cells #[f] t)).alloc (.cells #[c, d] u)).alloc o3) V) :
    V.cell? ⟨w.heap.size, 0, none⟩ = some f ∧ V.cell? ⟨w.heap.size + 1, 0, none⟩ = some c ∧ V.cell? ⟨w.heap.size + 1, 1, none⟩ = some d :=
  boxesFTI (((Below.refl (w.heap.size + 2) _).alloc (by simp) o3).trans (hb.mono (by omega)))
set_option maxRecDepth 100000 in
set_option maxHeartbeats 4000000 in
theorem Accept_okI (b off cap : Nat) (ns : List NodeD) (x : Int) (sh : Nat) (ro : Option Addr) (rc : Nat) (rules : List RuleD) (w : World) (hF : FAt w b off cap ns) (hkl : ∀ (i : Nat) (hi : i < ns.length), ns[i].kids.length ≤ 1099511627776) (hal : ∀ (i : Nat) (hi : i < ns.length), ns[i].attrs.length ≤ 1099511627776) (hru : RdR w (.slice ro rules.length rc) rules) (hs : sh < 4294967296) (hE : wrongE ns [x] rules = 0) :
    Calls Tryz.prog 20 #[.agg #[.slice (some ⟨b, off, none⟩) ns.length cap], .agg #[.int .u32 (sh : Int), .slice ro rules.length rc], .int .i64 x] w fun e w' => e = .returned (.tuple #[.int .u8 (verdictOf ns sh rules x : Int), .int .i64 0]) ∧ Below w.heap.size w w' := by
  obtain ⟨hR, hth, hfe⟩ := wrongE_ok hE
  have hx := hth x (by simp)
  have hfew := (filterE_ok hfe).1
  have HB0 := hid (below_threeI w (.cells #[.slice (some ⟨b, off, none⟩) ns.length cap] 24) (.cells #[.int .u32 (sh : Int), .slice ro rules.length rc] 28) (.cells #[.int .i64 x] 3))
  have kr := one_rdI ((w.alloc (.cells #[.slice (some ⟨b, off, none⟩) ns.length cap] 24)).alloc (.cells #[.int .u32 (sh : Int), .slice ro rules.length rc] 28)) x 3
  simp only [World.size_alloc] at kr
  have HW := hid (wrong_any (some ⟨b, off, none⟩) cap sh ro rc rules _ [x] ns _ ((⟨hF.len, fun _ => ⟨b, off, rfl, hF⟩⟩ : FRd w (some ⟨b, off, none⟩) cap ns).later HB0.out) hkl hal kr (by simp) (hru.later HB0.out) (by omega))
  rw [hE] at HW
  obtain ⟨j, hj, rfl⟩ := there_idx hx
  rw [verdictOf_at ns sh rules j hj]
  have hle := hF.len
  have q1 : (0 : Int) ≤ (j : Int) := by omega
  have q2 : (j : Int) < (ns.length : Int) := by omega
  have hwr : IntKind.i64.wrap (j : Int) = (j : Int) := by simp [IntKind.wrap, IntKind.bits, IntKind.signed]; omega
  have hin : 0 ≤ (j : Int) ∧ (j : Int) < (ns.length : Int) := by omega
  have hwr2 : (j : Int) + 1 - 1 = (j : Int) := by omega
  obtain ⟨L, hc, hd, ha, hk⟩ := hF.at_ j hj
  have HC := hid hc
  have hlt := hF.lt
  have hkn : knownK ns[j].kind = true := (well_parts (hR.well j hj)).1
  obtain ⟨D, A, K⟩ := L
  obtain ⟨od, cd, e1, _⟩ := hd
  obtain ⟨oa, ca, e2, _⟩ := ha
  obtain ⟨ok, ck, e3, _⟩ := hk
  simp only at e1 e2 e3
  subst e1 e2 e3
  have HV : Hid (∀ V : World, Below w.heap.size w V → _) := fun V hV => verdict_any sh ro rc rules ns[j] od oa ok ns[j].data.length cd ns[j].attrs.length ca ns[j].kids.length ck V hkn hs (hru.later hV) hfew
  unfold nodeV at HV
  clear hc hF hkl hal hru kr hE hR hth hfe hx hkn hfew
  generalize verdictD sh rules ns[j].kind ns[j].loc = R at *
  generalize ns[j] = n at *
  go_enter Tryz.func20, Tryz.ntmps20
  go_upto_region 4 with (go_at_call 46; refine HW.out.mono ?_; rintro e v1 ⟨rfl, hb⟩; have HB1 := hid (HB0.out.trans (hb.mono HB0.out.size)); have HX := hid hb; clear hb)
  have hX := HX.out
  simp only [World.size_alloc] at hX
  obtain ⟨c0, c1, c2, c3, c4, c5, c6, c7, c8, c9, c10, c11, c12, c13, c14, c15⟩ := HC.out.later hlt HB1.out
  obtain ⟨q0, r0, r1⟩ := boxes3TI hX
  simp only at c6 c7 c9
  clear hX HX HW HB0 HC
  go_region_law (first
    | (refine wstep_call _ rfl (.tmp 17) (.tmp 23) 28 83 47 rfl (.agg #[.int .u32 (sh : Int), .slice ro rules.length rc]) (.agg #[.int .u8 (n.kind : Int), .string n.space, .string n.pre, .string n.loc, .string n.pub, .string n.sys, .slice od n.data.length cd, .slice oa n.attrs.length ca, .int .i64 n.parent, .slice ok n.kids.length ck, .int .i64 n.doc, .int .i64 n.host, .int .i64 n.shadow, .int .u8 (n.mode : Int), .bool n.manual, .bool n.html]) (by simp [Act.eval]) (by simp [Act.eval]) (enterVerdict _ _ _) _ (HV.out _ HB1.out.drew) ?_; rintro e v2 ⟨rfl, hb1⟩; refine ⟨_, rfl, ?_⟩; have HB2 := hid (Below.trans HB1.out.drew (hb1.mono (Below.size HB1.out.drew))); clear hb1)
    | (refine wstep_call _ rfl (.tmp 17) (.tmp 23) 28 83 47 rfl (.agg #[.int .u32 (sh : Int), .slice ro rules.length rc]) (.agg #[.int .u8 (n.kind : Int), .string n.space, .string n.pre, .string n.loc, .string n.pub, .string n.sys, .slice od n.data.length cd, .slice oa n.attrs.length ca, .int .i64 n.parent, .slice ok n.kids.length ck, .int .i64 n.doc, .int .i64 n.host, .int .i64 n.shadow, .int .u8 (n.mode : Int), .bool n.manual, .bool n.html]) (by simp [Act.eval]) (by simp [Act.eval]) (enterVerdict _ _ _) _ (HV.out _ HB1.out) ?_; rintro e v2 ⟨rfl, hb1⟩; refine ⟨_, rfl, ?_⟩; have HB2 := hid (Below.trans HB1.out (hb1.mono (Below.size HB1.out))); clear hb1))
  all_goals
    go_wp2
    go_ret2
    exact ⟨rfl, HB2.out⟩
end Go.Proofs.YticenjhhefiboaaGreat

namespace Go.Proofs.YticenjhhefiboaaGreat
open Go.RowKit Go.Lib Go.Shelf

set_option maxRecDepth 100000 in
set_option maxHeartbeats 4000000 in
theorem accepts_any (b off cap : Nat) (ns : List NodeD) (x : Int) (sh : Nat) (ro : Option Addr) (rc : Nat) (rules : List RuleD) (w : World) (hR : RightF ns) (hF : FAt w b off cap ns) (hru : RdR w (.slice ro rules.length rc) rules) (hs : sh < 4294967296) (hf : filterE rules = 0) (hx : thereB ns.length x = true) :
    Calls Tryz.prog 60 #[.agg #[.slice (some ⟨b, off, none⟩) ns.length cap, .int .u32 (sh : Int), .slice ro rules.length rc], .int .i64 x] w fun e w' => e = .returned (.bool (verdictOf ns sh rules x == 1)) ∧ Below w.heap.size w w' := by
  obtain ⟨j, hj, rfl⟩ := there_idx hx
  rw [verdictOf_at ns sh rules j hj]
  have hle := hF.len
  have q1 : (0 : Int) ≤ (j : Int) := by omega
  have q2 : (j : Int) < (ns.length : Int) := by omega
  have hw := hR.well j hj
  have hB1 : Below w.heap.size w (w.alloc (.cells #[.slice (some ⟨b, off, none⟩) ns.length cap, .int .u32 (sh : Int), .slice ro rules.length rc] 101)) := (Below.refl _ w).alloc (Nat.le_refl _) _
  obtain ⟨L, hc, u1, u2, u3⟩ := hF.at_ j hj
  obtain ⟨c0, c1, c2, c3, c4, c5, c6, c7, c8, c9, c10, c11, c12, c13, c14, c15⟩ := hc.later hF.lt hB1
  obtain ⟨D, A, K⟩ := L
  obtain ⟨od, cd, e1, _⟩ := u1
  obtain ⟨oa, ca, e2, _⟩ := u2
  obtain ⟨ok, ck, e3, _⟩ := u3
  simp only at e1 e2 e3 c6 c7 c9
  subst e1 e2 e3
  have hA := alone_any ns[j] (.slice od ns[j].data.length cd) (.slice oa ns[j].attrs.length ca) (.slice ok ns[j].kids.length ck) (w.alloc (.cells #[.slice (some ⟨b, off, none⟩) ns.length cap, .int .u32 (sh : Int), .slice ro rules.length rc] 101))
  unfold nodeCsI at hA
  have HT := hid (alone_says hw sh rules)
  have HWr := hid (alone_wrong hw hf)
  have HB1 := hid hB1
  have HRu := hid hru
  clear hc hF hR hw hB1 hru
  generalize ns[j] = n at *
  generalize verdictD sh rules n.kind n.loc = R at *
  go_enter Tryz.func60, Tryz.ntmps60
  go_wp2_with fail
  refine hA.mono ?_
  rintro e v1 ⟨bb, cc, rfl, hF1, hb1⟩
  have cell := fun (k : Nat) => hb1.cell (p := ⟨w.heap.size, k, none⟩) (by simp)
  have k0 := (cell 0).trans (show _ = some (.slice (some ⟨b, off, none⟩) ns.length cap) by simp)
  have k1 := (cell 1).trans (show _ = some (.int .u32 (sh : Int)) by simp)
  have k2 := (cell 2).trans (show _ = some (.slice ro rules.length rc) by simp)
  have HB2 := hid (HB1.out.trans (hb1.mono HB1.out.size))
  have hAc := fun (V : World) (hV : Below v1.heap.size v1 V) => Accept_okI bb 0 cc (aloneD n) ((aloneD n).length : Int) sh ro rc rules V (hF1.later hV) (fun i hi => by rw [(alone_lists n _ (List.getElem_mem hi)).2.2]; simp) (fun i hi => by rw [(alone_lists n _ (List.getElem_mem hi)).2.1]; simp) (HRu.out.later (HB2.out.trans (hV.mono HB2.out.size))) hs HWr.out
  have hA1 := hAc (v1.alloc (.cells #[.slice (some ⟨bb, 0, none⟩) (aloneD n).length cc] 24)) ((Below.refl _ v1).alloc (Nat.le_refl _) _)
  rw [HT.out] at hA1
  have HB3 := hid (HB2.out.alloc HB2.out.size (.cells #[.slice (some ⟨bb, 0, none⟩) (aloneD n).length cc] 24))
  have k1' := keep_cell_l (.cells #[.slice (some ⟨bb, 0, none⟩) (aloneD n).length cc] 24) k1
  have k2' := keep_cell_l (.cells #[.slice (some ⟨bb, 0, none⟩) (aloneD n).length cc] 24) k2
  clear hAc k0 k1 k2 HT HWr hF1
  generalize (aloneD n).length = N at *
  clear hA hb1 cell c0 c1 c2 c3 c4 c5 c6 c7 c8 c9 c10 c11 c12 c13 c14 c15
  go_wp2_with fail
  refine hA1.mono ?_
  rintro e v3 ⟨rfl, hb3⟩
  have HB4 := hid (HB3.out.trans (hb3.mono HB3.out.size))
  clear hA1 hb3 k1' k2'
  have hR1 : ((R : Int) == 1) = (R == 1) := by
    by_cases h : R = 1
    · rw [h]; rfl
    · rw [beq_eq_false_iff_ne.2 h]
      exact beq_eq_false_iff_ne.2 (by omega)
  go_wp2
  go_ret
  exact ⟨rfl, HB4.out⟩
end Go.Proofs.YticenjhhefiboaaGreat

namespace Go.Proofs.YticenjhhefiboaaGreat
open Go.RowKit Go.Lib Go.Shelf

set_option maxRecDepth 100000 in
set_option maxHeartbeats 2000000 in
theorem ithere_any (o : Option Addr) (cap n : Nat) (x : Int) (w : World) (_hn : n ≤ 1099511627776) :
    Calls Tryz.prog 38 #[.agg #[.slice o n cap], .int .i64 x] w fun e w' => e = .returned (.bool (thereB n x)) ∧ Below w.heap.size w w' := by
  unfold thereB
  by_cases h1 : 1 ≤ x
  · have d1 : decide (1 ≤ x) = true := decide_eq_true h1
    rw [d1]
    clear h1
    go_enter Tryz.func38, Tryz.ntmps38
    go_wp2
    go_ret
    exact ⟨rfl, (Below.refl _ w).alloc (Nat.le_refl _) _⟩
  · have d1 : decide (1 ≤ x) = false := decide_eq_false h1
    rw [d1]
    clear h1
    go_enter Tryz.func38, Tryz.ntmps38
    go_wp2
    go_ret
    exact ⟨rfl, (Below.refl _ w).alloc (Nat.le_refl _) _⟩
theorem enterNewI (v : Value) (w : World) : (callFunc 54 #[v]).run Tryz.prog w = .ok (.enter 54 #[v]) w := by kernel_rfl
theorem enterAcceptI (u v x : Value) (w : World) : (callFunc 20 #[u, v, x]).run Tryz.prog w = .ok (.enter 20 #[u, v, x]) w := by kernel_rfl
/-- A filter is asked of a document alone. -/
theorem askDoc (bb : Nat) (sh : Nat) (ro : Option Addr) (rc : Nat) (rules : List RuleD) (V : World) (base : Nat) (hO : V.ownsRow base 83 16 (.slice (some ⟨bb, 0, none⟩) 1 1) 1 (nodeCsI (docI false) nilL)) (hru : RdR V (.slice ro rules.length rc) rules) (hrl : rules.length ≤ 1099511627776) (hs : sh < 4294967296) :
    Calls Tryz.prog 20 #[.agg #[.slice (some ⟨bb, 0, none⟩) 1 1], .agg #[.int .u32 (sh : Int), .slice ro rules.length rc], .int .i64 1] V fun e w' => ∃ k : Nat, e = .returned (.tuple #[.int .u8 (k : Int), .int .i64 (filterE rules)]) ∧ Below V.heap.size V w' := by
  obtain ⟨b2, c2, e, _, hF⟩ := rowI_forest (l := [docI false]) hO (by simp) (by simp) (by intro m hm; rw [List.mem_singleton.1 hm]; exact ⟨rfl, rfl, rfl⟩)
  injection e with e1 _ e3
  injection e1 with e1
  injection e1 with e1
  subst e1 e3
  have hm : missE [docI false] [1] = 0 := by
    unfold missE
    rw [(rightD_iff _).2 right_doc, if_pos rfl]
    rfl
  have hE : wrongE [docI false] [1] rules = filterE rules := by
    unfold wrongE
    rw [if_pos hm]
  have hk : ∀ (i : Nat) (hi : i < [docI false].length), ([docI false] : List NodeD)[i].kids.length ≤ 1099511627776 := fun i hi => match i, hi with
    | 0, _ => by show 0 ≤ 1099511627776; omega
  have ha : ∀ (i : Nat) (hi : i < [docI false].length), ([docI false] : List NodeD)[i].attrs.length ≤ 1099511627776 := fun i hi => match i, hi with
    | 0, _ => by show 0 ≤ 1099511627776; omega
  by_cases h0 : filterE rules = 0
  · refine (Accept_okI bb 0 1 [docI false] 1 sh ro rc rules V hF hk ha hru hs (hE.trans h0)).mono ?_
    rintro e w' ⟨rfl, hb⟩
    exact ⟨_, by rw [h0], hb⟩
  · refine (Accept_errI (some ⟨bb, 0, none⟩) 1 [docI false] 1 sh ro rc rules V ⟨hF.len, fun _ => ⟨bb, 0, rfl, hF⟩⟩ hk ha hru hrl (by rw [hE]; exact h0)).mono ?_
    rintro e w' ⟨rfl, hb⟩
    exact ⟨0, by rw [hE]; rfl, hb⟩
/-- Why an iterator is wrong in a right forest. -/
def iterE (ns : List NodeD) (root ref : Int) (rules : List RuleD) : Int :=
  if thereB ns.length root then (if filterE rules = 0 then (if thereB ns.length ref && decide (root ∈ pathUp ns (parentD ns) ref) then 0 else 2) else filterE rules) else 2
theorem boxes_size {w V : World} {o1 o2 : Obj} (hb : Below (w.heap.size + 1 + 1) ((w.alloc o1).alloc o2) V) : w.heap.size + 1 + 1 ≤ V.heap.size := by
  have := hb.size
  simp only [World.size_alloc] at this
  exact this
theorem boxesFI {w V : World} {f a0 a1 a2 a3 a4 : Value} {t u : TypeId} (hb : Below (w.heap.size + 1 + 1) ((w.alloc (.cells #[f] t)).alloc (.cells #[a0, a1, a2, a3, a4] u)) V) :
    V.cell? ⟨w.heap.size, 0, none⟩ = some f ∧ V.cell? ⟨w.heap.size + 1, 0, none⟩ = some a0 ∧ V.cell? ⟨w.heap.size + 1, 1, none⟩ = some a1 ∧ V.cell? ⟨w.heap.size + 1, 2, none⟩ = some a2 ∧ V.cell? ⟨w.heap.size + 1, 3, none⟩ = some a3 ∧ V.cell? ⟨w.heap.size + 1, 4, none⟩ = some a4 := by
  have h1 : V.heap[w.heap.size + 1]? = some (.cells #[a0, a1, a2, a3, a4] u) := (hb.block _ (by omega)).trans (by have := heap_new (w.alloc (.cells #[f] t)) (.cells #[a0, a1, a2, a3, a4] u); simp only [World.size_alloc] at this; exact this)
  obtain ⟨⟨r0, r1, r2, r3, r4⟩, _⟩ := box5I h1
  exact ⟨(hb.cell (p := ⟨w.heap.size, 0, none⟩) (by show w.heap.size < w.heap.size + 1 + 1; omega)).trans (by simp), r0, r1, r2, r3, r4⟩
set_option maxRecDepth 100000 in
set_option maxHeartbeats 4000000 in
theorem iwrong_any (o : Option Addr) (cap : Nat) (ns : List NodeD) (root ref : Int) (bef : Bool) (sh : Nat) (ro : Option Addr) (rc : Nat) (rules : List RuleD) (w : World) (hR : RightF ns) (hF : FRd w o cap ns) (hru : RdR w (.slice ro rules.length rc) rules) (hrl : rules.length ≤ 1099511627776) (hs : sh < 4294967296) :
    Calls Tryz.prog 25 #[.agg #[.slice o ns.length cap], .agg #[.int .i64 root, .int .i64 ref, .bool bef, .int .u32 (sh : Int), .slice ro rules.length rc]] w fun e w' => e = .returned (.int .i64 (iterE ns root ref rules)) ∧ Below w.heap.size w w' := by
  have HT := hid (fun (x : Int) (V : World) => ithere_any o cap ns.length x V hF.len)
  obtain ⟨R, hRR⟩ : ∃ R, iterE ns root ref rules = R := ⟨_, rfl⟩
  rw [hRR]
  have HRR := hid hRR
  have hB0 : Below w.heap.size w ((w.alloc (.cells #[.slice o ns.length cap] 24)).alloc (.cells #[.int .i64 root, .int .i64 ref, .bool bef, .int .u32 (sh : Int), .slice ro rules.length rc] 30)) := ((Below.refl _ w).alloc (Nat.le_refl _) _).alloc (by simp) _
  have HF := hid hF
  have HR := hid hR
  have HU := hid hru
  have HB0 := hid hB0
  clear hRR hF hR hru hB0
  have hT1 := HT.out root ((w.alloc (.cells #[.slice o ns.length cap] 24)).alloc (.cells #[.int .i64 root, .int .i64 ref, .bool bef, .int .u32 (sh : Int), .slice ro rules.length rc] 30))
  go_enter Tryz.func25, Tryz.ntmps25
  go_wp2_with fail
  refine hT1.mono ?_
  rintro e v1 ⟨rfl, hb1⟩
  simp only [World.size_alloc] at hb1
  obtain ⟨c0, c1, c2, c3, c4, c5⟩ := boxesFI hb1
  have HX1 := hid hb1
  clear hT1 hb1
  cases ht : thereB ns.length root with
  | false =>
    have hv := HRR.out
    unfold iterE at hv
    rw [ht, if_neg Bool.false_ne_true] at hv
    subst hv
    go_wp2
    go_ret
    exact ⟨rfl, HB0.out.trans (HX1.out.mono (by omega))⟩
  | true =>
    have HN : Hid (∀ V : World, _) := fun V => forestNew_any false V
    have HA : Hid (∀ (bb : Nat) (V : World) (base : Nat), V.ownsRow base 83 16 (.slice (some ⟨bb, 0, none⟩) 1 1) 1 (nodeCsI (docI false) nilL) → Below w.heap.size w V → _) := fun bb V base hO hV => askDoc bb sh ro rc rules V base hO (HU.out.later hV) hrl hs
    go_upto_region 3 with fail
    go_cut [6] (fun t wx => t = .int .i64 (filterE rules) ∧ Below (w.heap.size + 1 + 1) ((w.alloc (.cells #[.slice o ns.length cap] 24)).alloc (.cells #[.int .i64 root, .int .i64 ref, .bool bef, .int .u32 (sh : Int), .slice ro rules.length rc] 30)) wx)
    case first =>
      have HXw := hid (HB0.out.trans (HX1.out.mono (by omega)))
      have hszd : w.heap.size + 1 + 1 ≤ v1.drew.heap.size := boxes_size HX1.out.drew
      clear HXw
      go_region_law (first
        | (refine wstep_call1 _ rfl (.const (.bool false)) 4 54 rfl (.bool false) (by simp [Act.eval]) (enterNewI _ _) _ (HN.out _) ?_; rintro e v2 ⟨bb, rfl, hO, hb⟩; refine ⟨_, rfl, ?_⟩; have HO := hid hO; have HX2 := hid (HX1.out.drew.trans (hb.mono hszd)); have hsz2 := boxes_size HX2.out; obtain ⟨c0, c1, c2, c3, c4, c5⟩ := boxesFI HX2.out; clear hO hb)
        | (refine wstep_call3 _ rfl (.tmp 13) (.tmp 15) (.const (.int .i64 1)) 24 28 3 20 rfl (.agg #[.slice (some ⟨bb, 0, none⟩) 1 1]) (.agg #[.int .u32 (sh : Int), .slice ro rules.length rc]) (.int .i64 1) (by simp [Act.eval]) (by simp [Act.eval]) (by simp [Act.eval]) (enterAcceptI _ _ _ _) _ (HA.out bb _ _ HO.out (HB0.out.trans (HX2.out.mono (by omega)))) ?_; rintro e v3 ⟨k, rfl, hb⟩; refine ⟨_, rfl, ?_⟩; have HX3 := hid (HX2.out.trans (hb.mono hsz2)); clear hb))
      all_goals
        go_wp2
        go_meet
        exact ⟨rfl, HX3.out⟩
    case rest =>
      obtain ⟨rfl, hXx⟩ := hcut
      clear HN HA c0 c1 c2 c3 c4 c5 HX1
      have hszx := boxes_size hXx
      obtain ⟨c0, c1, c2, c3, c4, c5⟩ := boxesFI hXx
      have HBx := hid (HB0.out.trans (hXx.mono (by omega)))
      have hv := HRR.out
      unfold iterE at hv
      rw [ht, if_pos rfl] at hv
      by_cases hf : filterE rules = 0
      · rw [if_pos hf] at hv
        rw [hf]
        have HXx := hid hXx
        clear hXx hf
        go_wp2_with fail
        refine (HT.out ref _).mono ?_
        rintro e v4 ⟨rfl, hb4⟩
        have hX4 := HXx.out.trans (hb4.mono hszx)
        clear c0 c1 c2 c3 c4 c5 hb4
        have hsz4 := boxes_size hX4
        obtain ⟨c0, c1, c2, c3, c4, c5⟩ := boxesFI hX4
        have HB4 := hid (HB0.out.trans (hX4.mono (by omega)))
        have HX4 := hid hX4
        clear hX4
        cases ht2 : thereB ns.length ref with
        | false =>
          rw [ht2, Bool.false_and, if_neg Bool.false_ne_true] at hv
          subst hv
          go_wp2
          go_ret
          exact ⟨rfl, HB4.out⟩
        | true =>
          rw [ht2, Bool.true_and] at hv
          obtain ⟨b, off, rfl, hFA⟩ := (HF.out.later HB4.out).at_ (by obtain ⟨i, hi, _⟩ := there_idx ht2; omega)
          have hC := icontains_any b off cap root ref ns v4 HR.out hFA (there_ne ht) ht2
          clear hFA
          generalize decide (root ∈ pathUp ns (parentD ns) ref) = IN at *
          go_wp2_with fail
          refine hC.mono ?_
          rintro e v5 ⟨rfl, hb5⟩
          have HB5 := hid (HB4.out.trans (hb5.mono HB4.out.size))
          clear hC hb5
          cases IN with
          | false =>
            rw [if_neg Bool.false_ne_true] at hv
            subst hv
            go_wp2
            go_ret
            exact ⟨rfl, HB5.out⟩
          | true =>
            rw [if_pos rfl] at hv
            subst hv
            go_wp2
            go_ret
            exact ⟨rfl, HB5.out⟩
      · rw [if_neg hf] at hv
        have n0 : (filterE rules != 0) = true := by rw [bne, beq_eq_false_iff_ne.2 hf]; rfl
        rw [hv] at n0 ⊢
        clear hf hXx hv HRR
        go_wp2
        go_ret
        exact ⟨rfl, HBx.out⟩
end Go.Proofs.YticenjhhefiboaaGreat

namespace Go.Proofs.YticenjhhefiboaaGreat
open Go.RowKit Go.Lib Go.Shelf

/-- Why an iterator is not right in a forest. -/
def iterC (ns : List NodeD) (root ref : Int) (rules : List RuleD) : Int := if rightD ns then iterE ns root ref rules else 5
theorem iterC_ok {ns : List NodeD} {root ref : Int} {rules : List RuleD} (h : iterC ns root ref rules = 0) : RightF ns ∧ thereB ns.length root = true ∧ filterE rules = 0 ∧ thereB ns.length ref = true ∧ root ∈ pathUp ns (parentD ns) ref := by
  unfold iterC at h
  cases hr : rightD ns with
  | false => rw [hr] at h; cases h
  | true =>
    rw [hr, if_pos rfl] at h
    unfold iterE at h
    cases ht : thereB ns.length root with
    | false => rw [ht] at h; cases h
    | true =>
      rw [ht, if_pos rfl] at h
      by_cases hf : filterE rules = 0
      · rw [if_pos hf] at h
        cases h2 : (thereB ns.length ref && decide (root ∈ pathUp ns (parentD ns) ref)) with
        | false => rw [h2] at h; cases h
        | true =>
          rw [Bool.and_eq_true] at h2
          exact ⟨(rightD_iff ns).1 hr, rfl, hf, h2.1, of_decide_eq_true h2.2⟩
      · rw [if_neg hf] at h
        exact absurd h hf
set_option maxRecDepth 100000 in
set_option maxHeartbeats 4000000 in
theorem icheck_any (o : Option Addr) (cap : Nat) (ns : List NodeD) (root ref : Int) (bef : Bool) (sh : Nat) (ro : Option Addr) (rc : Nat) (rules : List RuleD) (w : World) (hF : FRd w o cap ns) (hkl : ∀ (i : Nat) (hi : i < ns.length), ns[i].kids.length ≤ 1099511627776) (hal : ∀ (i : Nat) (hi : i < ns.length), ns[i].attrs.length ≤ 1099511627776) (hru : RdR w (.slice ro rules.length rc) rules) (hrl : rules.length ≤ 1099511627776) (hs : sh < 4294967296) :
    Calls Tryz.prog 10 #[.agg #[.slice o ns.length cap], .agg #[.int .i64 root, .int .i64 ref, .bool bef, .int .u32 (sh : Int), .slice ro rules.length rc]] w fun e w' => e = .returned (.int .i64 (iterC ns root ref rules)) ∧ Below w.heap.size w w' := by
  have HC : Hid (∀ W : World, Below w.heap.size w W → _) := fun W hW => Check_any o cap ns W (hF.later hW) hkl hal
  have hB0 : Below w.heap.size w ((w.alloc (.cells #[.slice o ns.length cap] 24)).alloc (.cells #[.int .i64 root, .int .i64 ref, .bool bef, .int .u32 (sh : Int), .slice ro rules.length rc] 30)) := ((Below.refl _ w).alloc (Nat.le_refl _) _).alloc (by simp) _
  have HB0 := hid hB0
  have HF := hid hF
  have HU := hid hru
  unfold iterC
  clear hF hkl hal hru hB0
  generalize checkN ns = CN at *
  cases hr : rightD ns with
  | false =>
    rw [if_neg Bool.false_ne_true]
    have e1 : checkE ns = 5 := by unfold checkE; rw [hr]; rfl
    rw [e1] at HC
    clear e1
    go_enter Tryz.func10, Tryz.ntmps10
    go_wp2_with fail
    refine (HC.out _ HB0.out).mono ?_
    rintro e v1 ⟨rfl, hb1⟩
    have HB := hid (HB0.out.trans (hb1.mono HB0.out.size))
    clear hb1 HC
    go_wp2
    go_ret
    exact ⟨rfl, HB.out⟩
  | true =>
    rw [if_pos rfl]
    have e1 : checkE ns = 0 := (checkE_right hr).1
    rw [e1] at HC
    have HR := hid ((rightD_iff ns).1 hr)
    have HW : Hid (∀ W : World, Below w.heap.size w W → _) := fun W hW => iwrong_any o cap ns root ref bef sh ro rc rules W HR.out (HF.out.later hW) (HU.out.later hW) hrl hs
    clear e1 hr
    generalize iterE ns root ref rules = E at *
    go_enter Tryz.func10, Tryz.ntmps10
    go_wp2_with fail
    refine (HC.out _ HB0.out).mono ?_
    rintro e v1 ⟨rfl, hb1⟩
    simp only [World.size_alloc] at hb1
    obtain ⟨c0, c1, c2, c3, c4, c5⟩ := boxesFI hb1
    have HB := hid (HB0.out.trans (hb1.mono (by omega)))
    clear hb1 HC
    go_wp2_with fail
    refine (HW.out _ HB.out).mono ?_
    rintro e v2 ⟨rfl, hb2⟩
    have HB2 := hid (HB.out.trans (hb2.mono HB.out.size))
    clear hb2 HW
    go_wp2
    go_ret
    exact ⟨rfl, HB2.out⟩
end Go.Proofs.YticenjhhefiboaaGreat

namespace Go.Proofs.YticenjhhefiboaaGreat
open Go.RowKit Go.Lib Go.Shelf

theorem own_laterQ {W V : World} {base : Nat} {e : TypeId} {size : Nat} {v : Value} {n : Nat} {xs : List Value} (h : W.ownsRow base e size v n xs) (hb : Below W.heap.size W V) : V.ownsRow base e size v n xs := by
  refine ⟨h.1, ?_⟩
  rcases h.2 with h | ⟨g, cap, cur, hv, hg, hc, rest⟩
  · exact .inl h
  · exact .inr ⟨g, cap, cur, hv, hg, (hb.block g (Array.getElem?_eq_some_iff.1 hc).1).trans hc, rest⟩
/-- Where an iterator comes to stand. -/
def remR (ns : List NodeD) (root ref : Int) (bef : Bool) (node : Int) : Int × Bool := followR (withinL ns node) (endedL ns node) (nextR ns node) (aheadC ns 0 node) root ref bef
set_option maxRecDepth 100000 in
set_option maxHeartbeats 8000000 in
theorem irem_any (o : Option Addr) (cap : Nat) (ns : List NodeD) (root ref : Int) (bef : Bool) (sh : Nat) (ro : Option Addr) (rc : Nat) (rules : List RuleD) (node : Int) (w : World) (hF : FRd w o cap ns) (hkl : ∀ (i : Nat) (hi : i < ns.length), ns[i].kids.length ≤ 1099511627776) (hal : ∀ (i : Nat) (hi : i < ns.length), ns[i].attrs.length ≤ 1099511627776) (hru : RdR w (.slice ro rules.length rc) rules) (hrl : rules.length ≤ 1099511627776) (hs : sh < 4294967296) (hc : iterC ns root ref rules = 0) (ht : thereB ns.length node = true) :
    Calls Tryz.prog 17 #[.agg #[.slice o ns.length cap], .agg #[.int .i64 root, .int .i64 ref, .bool bef, .int .u32 (sh : Int), .slice ro rules.length rc], .int .i64 node] w fun e w' => ∃ o c, e = .returned (.tuple #[.agg #[.int .i64 root, .int .i64 (remR ns root ref bef node).1, .bool (remR ns root ref bef node).2, .int .u32 (sh : Int), .slice o rules.length c], .int .i64 0]) ∧ w'.ownsRow w.heap.size 86 3 (.slice o rules.length c) rules.length (rulesC rules) ∧ Below w.heap.size w w' := by
  obtain ⟨hR, hrt, hf, hrf, hin⟩ := iterC_ok hc
  obtain ⟨b, off, rfl, hFA⟩ := hF.at_ (by obtain ⟨i, hi, _⟩ := there_idx hrf; omega)
  have HC : Hid (∀ W : World, Below w.heap.size w W → _) := fun W hW => icheck_any (some ⟨b, off, none⟩) cap ns root ref bef sh ro rc rules W (hF.later hW) hkl hal (hru.later hW) hrl hs
  rw [hc] at HC
  have HT : Hid (∀ W : World, _) := fun W => ithere_any (some ⟨b, off, none⟩) cap ns.length node W hF.len
  rw [ht] at HT
  obtain ⟨N, hN⟩ : ∃ N, N = ns.length + 1 := ⟨_, rfl⟩
  have HR0 : Hid (∀ V : World, Below w.heap.size w V → _) := fun V hV => removalOf_any b off cap N node ns V hR (hFA.later hV) hN ht
  have hr64 := (filterE_ok hf).1
  have HCp0 : Hid (∀ V : World, Below w.heap.size w V → _) := fun V hV => icopyOf_any root ref bef sh ro rc rules V (hru.later hV) hr64
  obtain ⟨bx, g0, g1, g2, sx⟩ := three_new w (.cells #[.slice (some ⟨b, off, none⟩) ns.length cap] 24) (.cells #[.int .i64 root, .int .i64 ref, .bool bef, .int .u32 (sh : Int), .slice ro rules.length rc] 30) (.cells #[.int .i64 0, .int .i64 0, .bool false, .int .u32 0, .slice none 0 0] 30)
  have HB00 := hid bx
  have H0 := hid g0
  have H1 := hid g1
  have H2 := hid g2
  have Hsx := hid sx
  have HNN := hid hN
  have Hrt := hid hrt
  have Hrf := hid hrf
  have Hl1 : Hid ((withinL ns node).length = N) := by show _ = _; unfold withinL; rw [markL_len, List.length_replicate]; exact hN.symm
  have Hl2 : Hid ((endedL ns node).length = N) := by show _ = _; unfold endedL; rw [markL_len, List.length_replicate]; exact hN.symm
  clear bx g0 g1 g2 sx hF hkl hal hru hc ht hN hrt hrf hR hf hin hFA hr64
  go_enter Tryz.func17, Tryz.ntmps17
  go_wp2_with fail
  refine (HC.out _ HB00.out).mono ?_
  rintro e v1 ⟨rfl, hb⟩
  have HG0 := hid (keep_blk hb H0.out)
  have HG1 := hid (keep_blk hb H1.out)
  have HG2 := hid (keep_blk hb H2.out)
  have c0 := (box_cell_l HG0.out).1
  have HV := hid (HB00.out.trans (hb.mono (by have := Hsx.out; omega)))
  clear HC HB00 H2 H1 H0 hb Hsx
  go_wp2_with fail
  refine (HT.out v1).mono ?_
  rintro e v2 ⟨rfl, hb⟩
  have C0 := hid (keep_blk hb HG0.out)
  have C1 := hid (keep_blk hb HG1.out)
  have C2 := hid (keep_blk hb HG2.out)
  have HV2 := hid (HV.out.trans (hb.mono HV.out.size))
  clear HT HV hb HG2 HG1 HG0 c0
  have HR : Hid (∀ V : World, Below v2.heap.size v2 V → _) := fun V hV => HR0.out V (HV2.out.trans (hV.mono HV2.out.size))
  have HCp : Hid (∀ V : World, Below v2.heap.size v2 V → _) := fun V hV => HCp0.out V (HV2.out.trans (hV.mono HV2.out.size))
  have Hlv := hid (heap_lt C2.out)
  clear HR0 HCp0
  go_upto_region 6 with fail
  refine wp_region_held_drew (S := fun W => Below w.heap.size w W ∧ W.heap[w.heap.size]? = some (.cells #[.slice (some ⟨b, off, none⟩) ns.length cap] 24) ∧ W.heap[w.heap.size + 1]? = some (.cells #[.int .i64 root, .int .i64 ref, .bool bef, .int .u32 (sh : Int), .slice ro rules.length rc] 30)) (by kernel_rfl) ⟨HV2.out.trans ((below_drew v2).mono HV2.out.size), keep_blk (below_drew v2) C0.out, keep_blk (below_drew v2) C1.out⟩ (fun hHeld => ?_)
  have HB0 := hid (below_drew v2)
  generalize v2.drew = V0 at *
  refine wpAnyH_one 0 21 (.agg #[.slice (some ⟨b, off, none⟩) ns.length cap]) hHeld rfl rfl (by kernel_rfl) (fun _ _ _ _ _ h => h) (by kernel_rfl) (by kernel_rfl) (by rfl) ?_ ?_
  · intro V hSw; (try dsimp only at hSw); have cf := (box_cell_l hSw.2.1).1; go_simp
  simp only [Act.put, List.setIfInBounds_toArray, List.set_cons_zero, List.set_cons_succ]
  refine wpAnyH_one 1 22 (.int .i64 node) hHeld rfl rfl (by kernel_rfl) (fun _ _ _ _ _ h => h) (by kernel_rfl) (by kernel_rfl) (by rfl) ?_ ?_
  · intro V hSw; (try dsimp only at hSw); go_simp
  simp only [Act.put, List.setIfInBounds_toArray, List.set_cons_zero, List.set_cons_succ]
  refine wpAnyH_one 3 24 (.agg #[.int .i64 root, .int .i64 ref, .bool bef, .int .u32 (sh : Int), .slice ro rules.length rc]) hHeld rfl rfl (by kernel_rfl) (fun _ _ _ _ _ h => h) (by kernel_rfl) (by kernel_rfl) (by rfl) ?_ ?_
  · intro V hSw; (try dsimp only at hSw); have ci := box5I hSw.2.2; obtain ⟨⟨i0, i1, i2, i3, i4⟩, _⟩ := ci; go_simp
  simp only [Act.put, List.setIfInBounds_toArray, List.set_cons_zero, List.set_cons_succ]
  refine wpAnyH_ready (rs := [2]) (by kernel_rfl) (by simp) ?_
  refine AllReadyH.cons rfl (fun K hK => ?_) AllReadyH.nil
  go_simp
  go_wp2_with (go_at_call 39; refine (HR.out V0 HB0.out).mono ?_; rintro e V1 ⟨bw, be, rfl, hw, he, hb⟩; have HB1 := hid (HB0.out.trans (hb.mono HB0.out.size)); have HE := hid he; have HW := hid hw)
  refine hK.out _ _ ⟨HV2.out.trans (HB1.out.mono HV2.out.size), keep_blk HB1.out C0.out, keep_blk HB1.out C1.out⟩ (fun hHeld => ?_)
  clear hK K hw he hb
  refine wpAnyH_ready (rs := [4]) (by kernel_rfl) (by simp) ?_
  refine AllReadyH.cons rfl (fun K hK => ?_) AllReadyH.nil
  go_simp
  go_wp2_with (go_at_call 21; refine (HCp.out V1 HB1.out).mono ?_; rintro e V2 ⟨co, cc, rfl, hown, hb⟩; have HB2 := hid (HB1.out.trans (hb.mono HB1.out.size)); have HO := hid hown)
  refine hK.out _ _ ⟨HV2.out.trans (HB2.out.mono HV2.out.size), keep_blk HB2.out C0.out, keep_blk HB2.out C1.out⟩ (fun hHeld => ?_)
  have HW2 := hid (HW.out.later hb)
  have HE2 := hid (HE.out.later hb)
  have HO2 := hid (own_baseI HB1.out.size HO.out)
  clear hK K hown hb HW HE HO
  have hFo := follow_any bw be N ns.length (nextR ns node) (aheadC ns 0 node) root ref bef sh co rules.length cc (withinL ns node) (endedL ns node) V2 HW2.out HE2.out Hl1.out Hl2.out HNN.out Hrt.out Hrf.out
  have HX : Hid (remR ns root ref bef node = followR (withinL ns node) (endedL ns node) (nextR ns node) (aheadC ns 0 node) root ref bef) := rfl
  rw [← HX.out] at hFo
  refine wpAnyH_ready (rs := [5]) (by kernel_rfl) (by simp) ?_
  refine AllReadyH.cons rfl (fun K hK => ?_) AllReadyH.nil
  go_simp
  go_wp2_with (go_at_call 40; refine hFo.mono ?_; rintro e V3 ⟨rfl, hb⟩; have HB3 := hid (HB2.out.trans (hb.mono HB2.out.size)); have HO3 := hid (own_laterQ HO2.out hb))
  refine hK.out _ _ ⟨HV2.out.trans (HB3.out.mono HV2.out.size), keep_blk HB3.out C0.out, keep_blk HB3.out C1.out⟩ (fun hHeld => ?_)
  clear hK K hb hFo HX HO2 HW2 HE2
  obtain ⟨⟨r0, r1, r2, r3, r4⟩, s0, s1, s2, s3, s4⟩ := box5I (keep_blk HB3.out C2.out)
  refine wpAnyH_ready (rs := [6]) (by kernel_rfl) (by simp) ?_
  refine AllReadyH.cons rfl (fun K hK => ?_) AllReadyH.nil
  go_simp
  have HBF := hid (HV2.out.trans (HB3.out.mono HV2.out.size))
  have hlv := Hlv.out
  have z0 := HBF.out.size
  have HN2 := hid ((((((HBF.out.setCell (p := ⟨w.heap.size + 1 + 1, 0, none⟩) (by show w.heap.size ≤ w.heap.size + 1 + 1; omega) (.int .i64 root)).setCell (p := ⟨w.heap.size + 1 + 1, 1, none⟩) (by show w.heap.size ≤ w.heap.size + 1 + 1; omega) (.int .i64 (remR ns root ref bef node).1)).setCell (p := ⟨w.heap.size + 1 + 1, 2, none⟩) (by show w.heap.size ≤ w.heap.size + 1 + 1; omega) (.bool (remR ns root ref bef node).2)).setCell (p := ⟨w.heap.size + 1 + 1, 3, none⟩) (by show w.heap.size ≤ w.heap.size + 1 + 1; omega) (.int .u32 (sh : Int))).setCell (p := ⟨w.heap.size + 1 + 1, 4, none⟩) (by show w.heap.size ≤ w.heap.size + 1 + 1; omega) (.slice co rules.length cc)))
  refine hK.out _ _ ⟨HN2.out, (blk_far (j := 4) (blk_far (j := 3) (blk_far (j := 2) (blk_far (j := 1) (blk_far (j := 0) (keep_blk HB3.out C0.out) _ (by omega)) _ (by omega)) _ (by omega)) _ (by omega)) _ (by omega)), (blk_far (j := 4) (blk_far (j := 3) (blk_far (j := 2) (blk_far (j := 1) (blk_far (j := 0) (keep_blk HB3.out C1.out) _ (by omega)) _ (by omega)) _ (by omega)) _ (by omega)) _ (by omega))⟩ (fun hHeld => ?_)
  clear hK K
  refine wpAnyH_one 7 7 (.int .i64 0) hHeld rfl rfl (by kernel_rfl) (fun _ _ _ _ _ h => h) (by kernel_rfl) (by kernel_rfl) (by rfl) ?_ ?_
  · intro V hSw; (try dsimp only at hSw); go_simp
  simp only [Act.put, List.setIfInBounds_toArray, List.set_cons_zero, List.set_cons_succ]
  refine wpAnyH_done (by kernel_rfl) ?_ _
  go_wp2_with fail
  exact bodyPost_ret (v := .tuple #[.agg #[.int .i64 root, .int .i64 (remR ns root ref bef node).1, .bool (remR ns root ref bef node).2, .int .u32 (sh : Int), .slice co rules.length cc], .int .i64 0]) (by simp [results, Tryz.results17, go_sem, r0, r1, r2, r3, r4]) rfl ⟨co, cc, rfl, own_baseI (by have := HV2.out.size; omega) (ownsRow_setCell_below (ownsRow_setCell_below (ownsRow_setCell_below (ownsRow_setCell_below (ownsRow_setCell_below HO3.out (a := ⟨w.heap.size + 1 + 1, 0, none⟩) (by show w.heap.size + 1 + 1 < v2.heap.size; omega) _) (a := ⟨w.heap.size + 1 + 1, 1, none⟩) (by show w.heap.size + 1 + 1 < v2.heap.size; omega) _) (a := ⟨w.heap.size + 1 + 1, 2, none⟩) (by show w.heap.size + 1 + 1 < v2.heap.size; omega) _) (a := ⟨w.heap.size + 1 + 1, 3, none⟩) (by show w.heap.size + 1 + 1 < v2.heap.size; omega) _) (a := ⟨w.heap.size + 1 + 1, 4, none⟩) (by show w.heap.size + 1 + 1 < v2.heap.size; omega) _), HN2.out⟩
end Go.Proofs.YticenjhhefiboaaGreat

namespace Go.Proofs.YticenjhhefiboaaGreat
open Go.RowKit Go.Lib Go.Shelf

theorem box2I {w : World} {B : Nat} {a0 a1 : Value} {t : TypeId} (h : w.heap[B]? = some (.cells #[a0, a1] t)) : w.cell? ⟨B, 0, none⟩ = some a0 ∧ w.cell? ⟨B, 1, none⟩ = some a1 := by
  have hk : ∀ j : Nat, w.cell? ⟨B, j, none⟩ = #[a0, a1][j]? := fun j => by
    unfold World.cell?
    simp only [h]
    exact if_neg (by decide)
  exact ⟨(hk 0).trans rfl, (hk 1).trans rfl⟩
set_option maxRecDepth 100000 in
set_option maxHeartbeats 8000000 in
theorem inewE_any (o : Option Addr) (cap : Nat) (ns : List NodeD) (root : Int) (sh : Nat) (ro : Option Addr) (rc : Nat) (rules : List RuleD) (w : World) (hF : FRd w o cap ns) (hkl : ∀ (i : Nat) (hi : i < ns.length), ns[i].kids.length ≤ 1099511627776) (hal : ∀ (i : Nat) (hi : i < ns.length), ns[i].attrs.length ≤ 1099511627776) (hru : RdR w (.slice ro rules.length rc) rules) (hrl : rules.length ≤ 1099511627776) (hs : sh < 4294967296) (hc : iterC ns root root rules ≠ 0) :
    Calls Tryz.prog 7 #[.agg #[.slice o ns.length cap], .int .i64 root, .agg #[.int .u32 (sh : Int), .slice ro rules.length rc]] w fun e w' => e = .returned (.tuple #[.agg #[.int .i64 0, .int .i64 0, .bool false, .int .u32 0, .slice none 0 0], .int .i64 (iterC ns root root rules)]) ∧ Below w.heap.size w w' := by
  have HC : Hid (∀ W : World, Below w.heap.size w W → _) := fun W hW => icheck_any o cap ns root root true sh ro rc rules W (hF.later hW) hkl hal (hru.later hW) hrl hs
  have n0 : (iterC ns root root rules != 0) = true := by rw [bne, beq_eq_false_iff_ne.2 hc]; rfl
  obtain ⟨bx, g0, g1, g2, sx⟩ := three_new w (.cells #[.slice o ns.length cap] 24) (.cells #[.int .u32 (sh : Int), .slice ro rules.length rc] 28) (.cells #[.int .i64 0, .int .i64 0, .bool false, .int .u32 0, .slice none 0 0] 30)
  have HB0 := hid bx
  have H2 := hid g2
  have Hsx := hid sx
  have c0 := (box_cell_l g0).1
  obtain ⟨f0, f1⟩ := box2I g1
  clear bx g0 g1 g2 sx hF hkl hal hru hc
  generalize iterC ns root root rules = E at *
  go_enter Tryz.func7, Tryz.ntmps7
  go_upto_region 1 with fail
  generalize (((w.alloc (.cells #[.slice o ns.length cap] 24)).alloc (.cells #[.int .u32 (sh : Int), .slice ro rules.length rc] 28)).alloc (.cells #[.int .i64 0, .int .i64 0, .bool false, .int .u32 0, .slice none 0 0] 30)) = W0 at *
  have hn := heap_new W0 (.cells #[.int .i64 root, .int .i64 root, .bool true, .int .u32 (sh : Int), .slice ro rules.length rc] 30)
  obtain ⟨⟨a0, a1, a2, a3, a4⟩, z0, z1, z2, z3, z4⟩ := box5I hn
  have hb0 : Below W0.heap.size W0 (W0.alloc (.cells #[.int .i64 root, .int .i64 root, .bool true, .int .u32 (sh : Int), .slice ro rules.length rc] 30)) := (Below.refl _ W0).alloc (Nat.le_refl _) _
  have c0' := (hb0.cell (p := ⟨w.heap.size, 0, none⟩) (by have := Hsx.out; show w.heap.size < _; omega)).trans c0
  have HN := hid hn
  have HB1 := hid (HB0.out.trans (hb0.mono HB0.out.size))
  have H21 := hid (keep_blk hb0 H2.out)
  have HZ := hid (show W0.heap.size < (W0.alloc (.cells #[.int .i64 root, .int .i64 root, .bool true, .int .u32 (sh : Int), .slice ro rules.length rc] 30)).heap.size by simp)
  clear hn hb0
  go_upto_region 2 with fail
  generalize W0.alloc (.cells #[.int .i64 root, .int .i64 root, .bool true, .int .u32 (sh : Int), .slice ro rules.length rc] 30) = W1 at *
  clear c0 f0 f1
  go_wp2_with fail
  refine (HC.out _ HB1.out).mono ?_
  rintro e v1 ⟨rfl, hb⟩
  have g2 := keep_blk hb H21.out
  obtain ⟨⟨r0, r1, r2, r3, r4⟩, s0, s1, s2, s3, s4⟩ := box5I g2
  have HV := hid (HB1.out.trans (hb.mono HB1.out.size))
  clear HC HB0 H2 hb g2 Hsx HN H21 HZ HB1 a0 a1 a2 a3 a4 z0 z1 z2 z3 z4 c0'
  go_wp2
  exact bodyPost_ret (v := .tuple #[.agg #[.int .i64 0, .int .i64 0, .bool false, .int .u32 0, .slice none 0 0], .int .i64 E]) (by simp [results, Tryz.results7, go_sem, r0, r1, r2, r3, r4]) rfl ⟨rfl, (((((HV.out.setCell (p := ⟨w.heap.size + 1 + 1, 0, none⟩) (by show w.heap.size ≤ w.heap.size + 1 + 1; omega) _).setCell (p := ⟨w.heap.size + 1 + 1, 1, none⟩) (by show w.heap.size ≤ w.heap.size + 1 + 1; omega) _).setCell (p := ⟨w.heap.size + 1 + 1, 2, none⟩) (by show w.heap.size ≤ w.heap.size + 1 + 1; omega) _).setCell (p := ⟨w.heap.size + 1 + 1, 3, none⟩) (by show w.heap.size ≤ w.heap.size + 1 + 1; omega) _).setCell (p := ⟨w.heap.size + 1 + 1, 4, none⟩) (by show w.heap.size ≤ w.heap.size + 1 + 1; omega) _)⟩
set_option maxRecDepth 100000 in
set_option maxHeartbeats 8000000 in
theorem inew_any (o : Option Addr) (cap : Nat) (ns : List NodeD) (root : Int) (sh : Nat) (ro : Option Addr) (rc : Nat) (rules : List RuleD) (w : World) (hF : FRd w o cap ns) (hkl : ∀ (i : Nat) (hi : i < ns.length), ns[i].kids.length ≤ 1099511627776) (hal : ∀ (i : Nat) (hi : i < ns.length), ns[i].attrs.length ≤ 1099511627776) (hru : RdR w (.slice ro rules.length rc) rules) (hrl : rules.length ≤ 1099511627776) (hs : sh < 4294967296) (hc : iterC ns root root rules = 0) :
    Calls Tryz.prog 7 #[.agg #[.slice o ns.length cap], .int .i64 root, .agg #[.int .u32 (sh : Int), .slice ro rules.length rc]] w fun e w' => ∃ o c, e = .returned (.tuple #[.agg #[.int .i64 root, .int .i64 root, .bool true, .int .u32 (sh : Int), .slice o rules.length c], .int .i64 0]) ∧ w'.ownsRow w.heap.size 86 3 (.slice o rules.length c) rules.length (rulesC rules) ∧ Below w.heap.size w w' := by
  have HC : Hid (∀ W : World, Below w.heap.size w W → _) := fun W hW => icheck_any o cap ns root root true sh ro rc rules W (hF.later hW) hkl hal (hru.later hW) hrl hs
  rw [hc] at HC
  obtain ⟨_, _, hf, _, _⟩ := iterC_ok hc
  have hr64 := (filterE_ok hf).1
  have HCp : Hid (∀ V : World, Below w.heap.size w V → _) := fun V hV => icopyOf_any root root true sh ro rc rules V (hru.later hV) hr64
  obtain ⟨bx, g0, g1, g2, sx⟩ := three_new w (.cells #[.slice o ns.length cap] 24) (.cells #[.int .u32 (sh : Int), .slice ro rules.length rc] 28) (.cells #[.int .i64 0, .int .i64 0, .bool false, .int .u32 0, .slice none 0 0] 30)
  have HB0 := hid bx
  have H2 := hid g2
  have Hsx := hid sx
  have c0 := (box_cell_l g0).1
  obtain ⟨f0, f1⟩ := box2I g1
  clear bx g0 g1 g2 sx hF hkl hal hru hc hf hr64
  go_enter Tryz.func7, Tryz.ntmps7
  go_upto_region 1 with fail
  generalize (((w.alloc (.cells #[.slice o ns.length cap] 24)).alloc (.cells #[.int .u32 (sh : Int), .slice ro rules.length rc] 28)).alloc (.cells #[.int .i64 0, .int .i64 0, .bool false, .int .u32 0, .slice none 0 0] 30)) = W0 at *
  have hn := heap_new W0 (.cells #[.int .i64 root, .int .i64 root, .bool true, .int .u32 (sh : Int), .slice ro rules.length rc] 30)
  obtain ⟨⟨a0, a1, a2, a3, a4⟩, z0, z1, z2, z3, z4⟩ := box5I hn
  have hb0 : Below W0.heap.size W0 (W0.alloc (.cells #[.int .i64 root, .int .i64 root, .bool true, .int .u32 (sh : Int), .slice ro rules.length rc] 30)) := (Below.refl _ W0).alloc (Nat.le_refl _) _
  have c0' := (hb0.cell (p := ⟨w.heap.size, 0, none⟩) (by have := Hsx.out; show w.heap.size < _; omega)).trans c0
  have HN := hid hn
  have HB1 := hid (HB0.out.trans (hb0.mono HB0.out.size))
  have H21 := hid (keep_blk hb0 H2.out)
  have HZ := hid (show W0.heap.size < (W0.alloc (.cells #[.int .i64 root, .int .i64 root, .bool true, .int .u32 (sh : Int), .slice ro rules.length rc] 30)).heap.size by simp)
  clear hn hb0
  go_upto_region 2 with fail
  generalize W0.alloc (.cells #[.int .i64 root, .int .i64 root, .bool true, .int .u32 (sh : Int), .slice ro rules.length rc] 30) = W1 at *
  clear c0 f0 f1
  go_wp2_with fail
  refine (HC.out _ HB1.out).mono ?_
  rintro e v1 ⟨rfl, hb⟩
  have H22 := hid (keep_blk hb H21.out)
  obtain ⟨⟨b0, b1, b2, b3, b4⟩, y0, y1, y2, y3, y4⟩ := box5I (keep_blk hb HN.out)
  have HV := hid (HB1.out.trans (hb.mono HB1.out.size))
  clear HC HB0 H2 hb HN H21 HB1 a0 a1 a2 a3 a4 z0 z1 z2 z3 z4 c0'
  go_wp2_with fail
  refine (HCp.out _ HV.out).mono ?_
  rintro e v2 ⟨vo, vc, rfl, hown, hb2⟩
  have g2 := keep_blk hb2 H22.out
  obtain ⟨⟨r0, r1, r2, r3, r4⟩, s0, s1, s2, s3, s4⟩ := box5I g2
  have HV2 := hid (HV.out.trans (hb2.mono HV.out.size))
  have HO := hid hown
  have hl2 := heap_lt H22.out
  have hl1 := HV.out.size
  clear HCp hown hb2 g2 H22 b0 b1 b2 b3 b4 y0 y1 y2 y3 y4 Hsx HZ
  go_wp2
  exact bodyPost_ret (v := .tuple #[.agg #[.int .i64 root, .int .i64 root, .bool true, .int .u32 (sh : Int), .slice vo rules.length vc], .int .i64 0]) (by simp [results, Tryz.results7, go_sem, r0, r1, r2, r3, r4]) rfl ⟨vo, vc, rfl, own_baseI hl1 (ownsRow_setCell_below (ownsRow_setCell_below (ownsRow_setCell_below (ownsRow_setCell_below (ownsRow_setCell_below HO.out (a := ⟨w.heap.size + 1 + 1, 0, none⟩) (by show w.heap.size + 1 + 1 < v1.heap.size; omega) _) (a := ⟨w.heap.size + 1 + 1, 1, none⟩) (by show w.heap.size + 1 + 1 < v1.heap.size; omega) _) (a := ⟨w.heap.size + 1 + 1, 2, none⟩) (by show w.heap.size + 1 + 1 < v1.heap.size; omega) _) (a := ⟨w.heap.size + 1 + 1, 3, none⟩) (by show w.heap.size + 1 + 1 < v1.heap.size; omega) _) (a := ⟨w.heap.size + 1 + 1, 4, none⟩) (by show w.heap.size + 1 + 1 < v1.heap.size; omega) _), (((((HV2.out.setCell (p := ⟨w.heap.size + 1 + 1, 0, none⟩) (by show w.heap.size ≤ w.heap.size + 1 + 1; omega) _).setCell (p := ⟨w.heap.size + 1 + 1, 1, none⟩) (by show w.heap.size ≤ w.heap.size + 1 + 1; omega) _).setCell (p := ⟨w.heap.size + 1 + 1, 2, none⟩) (by show w.heap.size ≤ w.heap.size + 1 + 1; omega) _).setCell (p := ⟨w.heap.size + 1 + 1, 3, none⟩) (by show w.heap.size ≤ w.heap.size + 1 + 1; omega) _).setCell (p := ⟨w.heap.size + 1 + 1, 4, none⟩) (by show w.heap.size ≤ w.heap.size + 1 + 1; omega) _)⟩
end Go.Proofs.YticenjhhefiboaaGreat

