/- The document's own Split, Qualified, Validate and Extract. -/
import Derived.Test.YtipkdbhdpmkjcabDoorRefRest
import Derived.Test.YtipkdbhdpmkjcabDoorExt3
import Derived.Deep.QuietTactic
import Derived.BigQuiet
namespace Go.Proofs.YtipkdbhdpmkjcabDoor
open Go.RowKit Go.Lib

set_option maxHeartbeats 1000000 in
theorem rsplit_any (s : ByteArray) (w : World) (hs : s.size ≤ 17592186044416) :
    Calls Tryd.prog 24 #[.string s] w fun e w' => e = .returned (.tuple #[.string (splitS s).1, .string (splitS s).2]) ∧ Below w.heap.size w w' := by
  have hC := fun W => rcolon_any s W (by omega)
  have hQ := fun W => rqname_any s W hs
  rcases colon_at s with hi | ⟨k, hk, hi⟩
  · have e1 : splitS s = (⟨#[]⟩, s) := if_pos hi
    rw [e1]
    rw [hi] at hC
    clear hi e1 hQ
    go_enter Tryd.func24, Tryd.ntmps24
    go_wp2_with fail
    refine (hC _).mono ?_
    rintro e w1 ⟨rfl, rfl⟩
    go_wp2_with fail
    go_ret2
    exact ⟨rfl, Below.refl _ _⟩
  · have e1 : splitS s = if ncB (s.data.toList.take k) && ncB (s.data.toList.drop (k + 1)) then (s.extract 0 k, s.extract (k + 1) s.size) else (⟨#[]⟩, s) := by
      unfold splitS
      rw [if_neg (by rw [hi]; omega), hi]
      rfl
    rw [e1]
    rw [qnameB_at _ k hi] at hQ
    rw [hi] at hC
    generalize (ncB (s.data.toList.take k) && ncB (s.data.toList.drop (k + 1))) = b at hQ ⊢
    clear hi e1
    cases b with
    | false =>
      go_enter Tryd.func24, Tryd.ntmps24
      go_wp2_with fail
      refine (hC _).mono ?_
      rintro e w1 ⟨rfl, rfl⟩
      go_wp2_with fail
      refine (hQ _).mono ?_
      rintro e w2 ⟨rfl, hb2⟩
      go_wp2_with fail
      go_ret2
      exact ⟨rfl, hb2⟩
    | true =>
      go_enter Tryd.func24, Tryd.ntmps24
      go_wp2_with fail
      refine (hC _).mono ?_
      rintro e w1 ⟨rfl, rfl⟩
      go_wp2_with fail
      refine (hQ _).mono ?_
      rintro e w2 ⟨rfl, hb2⟩
      go_wp2_with fail
      go_quiet (fail)
      go_wp2
      go_ret2
      exact ⟨rfl, hb2.trans ((below_drewN w2 _).mono hb2.size)⟩

set_option maxHeartbeats 400000 in
theorem rqualified_any (a p l : ByteArray) (w : World) (hp : p.size ≤ 281474976710656) (hl : l.size ≤ 281474976710656) :
    Calls Tryd.prog 26 #[nameV a p l] w fun e w' => e = .returned (.string (qualS p l)) ∧ Below w.heap.size w w' := by
  unfold qualS
  cases he : p.toList.isEmpty with
  | true =>
    go_enter Tryd.func26, Tryd.ntmps26
    go_wp2
    go_ret
    exact ⟨rfl, (Below.refl _ w).alloc (Nat.le_refl _) _⟩
  | false =>
    go_enter Tryd.func26, Tryd.ntmps26
    go_wp2
    go_ret
    exact ⟨rfl, (Below.refl _ w).alloc (Nat.le_refl _) _⟩

set_option maxHeartbeats 400000 in
theorem rvalidate_any (s : ByteArray) (w : World) :
    Calls Tryd.prog 28 #[.string s] w fun e w' => e = .returned (.int .i64 (validateE s)) ∧ Below w.heap.size w w' := by
  unfold validateE
  by_cases hl : 1024 < s.size
  · rw [if_pos hl]
    have hz : (1024 : Int) < (s.size : Int) := by omega
    go_enter Tryd.func28, Tryd.ntmps28
    go_wp2_with fail
    go_ret
    exact ⟨rfl, Below.refl _ _⟩
  · rw [if_neg hl]
    have hz : ¬ (1024 : Int) < (s.size : Int) := by omega
    have hQ := rqname_any s w (by omega)
    generalize qnameB s.data.toList = b at hQ ⊢
    cases b
    all_goals
      go_enter Tryd.func28, Tryd.ntmps28
      go_wp2_with fail
      refine hQ.mono ?_
      rintro e w1 ⟨rfl, hb1⟩
      go_wp2
      go_ret
      exact ⟨rfl, hb1⟩

set_option maxHeartbeats 1000000 in
theorem rextract_bad (sp q : ByteArray) (w : World) (hl : ¬ 1024 < sp.size) (hv : validateE q ≠ 0) :
    Calls Tryd.prog 30 #[.string sp, .string q] w fun e w' => e = .returned (.tuple #[nameV noBytes noBytes noBytes, .int .i64 (validateE q)]) ∧ Below w.heap.size w w' := by
  have hz : ¬ (1024 : Int) < (sp.size : Int) := by omega
  have hV := fun W => rvalidate_any q W
  generalize validateE q = v at hV hv ⊢
  have hvb : (v != 0) = true := by simpa using hv
  clear hv
  go_enter Tryd.func30, Tryd.ntmps30
  go_wp2_with fail
  refine (hV _).mono ?_
  rintro e w1 ⟨rfl, hb1⟩
  obtain ⟨hlt, hbb, c0, c1, c2, f0, f1, f2⟩ := kept3 (by simpa using hb1)
  clear hV hb1
  go_wp2
  exact bodyPost_ret (v := .tuple #[nameV noBytes noBytes noBytes, .int .i64 v]) (by simp [results, Tryd.results30, go_sem, noBytes, c0, c1, c2]) rfl ⟨rfl, ((hbb.setCell (Nat.le_refl _) _).setCell (Nat.le_refl _) _).setCell (Nat.le_refl _) _⟩

set_option maxHeartbeats 1000000 in
theorem rextract_long (sp q : ByteArray) (w : World) (hl : 1024 < sp.size) :
    Calls Tryd.prog 30 #[.string sp, .string q] w fun e w' => e = .returned (.tuple #[nameV noBytes noBytes noBytes, .int .i64 4]) ∧ Below w.heap.size w w' := by
  have hz : (1024 : Int) < (sp.size : Int) := by omega
  go_enter Tryd.func30, Tryd.ntmps30
  go_wp2_with fail
  exact bodyPost_ret (v := .tuple #[nameV noBytes noBytes noBytes, .int .i64 4]) (by simp [results, Tryd.results30, go_sem, noBytes]) rfl ⟨rfl, (Below.refl _ w).alloc (Nat.le_refl _) _⟩

set_option maxRecDepth 100000 in
set_option maxHeartbeats 8000000 in
theorem rextract_clash (sp q : ByteArray) (w : World) (hq : q.size ≤ 1024) (hl : ¬ 1024 < sp.size) (hv : validateE q = 0) (x1 x2 : ByteArray) (hx : splitS q = (x1, x2)) (hc : clashB sp.toList x1.toList q.toList = true) :
    Calls Tryd.prog 30 #[.string sp, .string q] w fun e w' => e = .returned (.tuple #[nameV noBytes noBytes noBytes, .int .i64 13]) ∧ Below w.heap.size w w' := by
  have hz : ¬ (1024 : Int) < (sp.size : Int) := by omega
  have hV := fun W => rvalidate_any q W
  have hS := fun W => rsplit_any q W (by omega)
  rw [hv] at hV
  rw [hx] at hS
  simp only [clashB, xmlSpace, xmlnsSpace] at hc
  have HC : Hid (_ = true) := hc
  have HS : Hid (∀ W : World, _) := hS
  have HV : Hid (∀ W : World, _) := hV
  clear hc hx hv hS hV
  cases h1 : x1.toList.isEmpty <;> cases h2 : sp.toList.isEmpty
  all_goals
    go_enter Tryd.func30, Tryd.ntmps30
    go_wp2_with fail
    refine (HV.out _).mono ?_
    rintro e w1 ⟨rfl, hb1⟩
    go_wp2_with fail
    refine (HS.out w1).mono ?_
    rintro e w2 ⟨rfl, hb2⟩
    have hb3 := hb1.trans (hb2.mono hb1.size)
    obtain ⟨hlt, hbb, c0, c1, c2, f0, f1, f2⟩ := kept3 (by simpa using hb3)
    clear hb1 hb2 hb3
    go_wp2
  all_goals first
    | (exfalso; have hh := HC.out; clear HC HS HV c0 c1 c2 f0 f1 f2 hbb hlt; simp_all; done)
    | (refine bodyPost_ret (v := .tuple #[nameV noBytes noBytes noBytes, .int .i64 13]) ?_ rfl ⟨rfl, ((hbb.setCell (Nat.le_refl _) _).setCell (Nat.le_refl _) _).setCell (Nat.le_refl _) _⟩; simp [results, Tryd.results30, go_sem, noBytes, c0, c1, c2]; done)

set_option maxRecDepth 100000 in
set_option maxHeartbeats 8000000 in
theorem rextract_fine (sp q : ByteArray) (w : World) (hq : q.size ≤ 1024) (hl : ¬ 1024 < sp.size) (hv : validateE q = 0) (x1 x2 : ByteArray) (hx : splitS q = (x1, x2)) (hc : clashB sp.toList x1.toList q.toList = false) :
    Calls Tryd.prog 30 #[.string sp, .string q] w fun e w' => e = .returned (.tuple #[nameV sp x1 x2, .int .i64 0]) ∧ Below w.heap.size w w' := by
  have hz : ¬ (1024 : Int) < (sp.size : Int) := by omega
  have hV := fun W => rvalidate_any q W
  have hS := fun W => rsplit_any q W (by omega)
  rw [hv] at hV
  rw [hx] at hS
  simp only [clashB, xmlSpace, xmlnsSpace] at hc
  have HC : Hid (_ = false) := hc
  have HS : Hid (∀ W : World, _) := hS
  have HV : Hid (∀ W : World, _) := hV
  clear hc hx hv hS hV
  cases h1 : x1.toList.isEmpty <;> cases h2 : sp.toList.isEmpty
  all_goals
    go_enter Tryd.func30, Tryd.ntmps30
    go_wp2_with fail
    refine (HV.out _).mono ?_
    rintro e w1 ⟨rfl, hb1⟩
    go_wp2_with fail
    refine (HS.out w1).mono ?_
    rintro e w2 ⟨rfl, hb2⟩
    have hb3 := hb1.trans (hb2.mono hb1.size)
    obtain ⟨hlt, hbb, c0, c1, c2, f0, f1, f2⟩ := kept3 (by simpa using hb3)
    clear hb1 hb2 hb3
    go_wp2
  all_goals first
    | (exfalso; have hh := HC.out; clear HC HS HV c0 c1 c2 f0 f1 f2 hbb hlt; simp_all; done)
    | (refine bodyPost_ret (v := .tuple #[nameV sp x1 x2, .int .i64 0]) ?_ rfl ⟨rfl, ((hbb.setCell (Nat.le_refl _) _).setCell (Nat.le_refl _) _).setCell (Nat.le_refl _) _⟩; simp [results, Tryd.results30, go_sem, c0, c1, c2]; done)

theorem rextract_any (sp q : ByteArray) (w : World) :
    Calls Tryd.prog 30 #[.string sp, .string q] w fun e w' => e = .returned (.tuple #[nameV (extractN sp q).1 (extractN sp q).2.1 (extractN sp q).2.2, .int .i64 (extractE sp q)]) ∧ Below w.heap.size w w' := by
  unfold extractN
  by_cases hl : 1024 < sp.size
  · have e1 : extractE sp q = 4 := if_pos hl
    rw [e1, if_neg (by omega)]
    exact rextract_long sp q w hl
  · by_cases hv : validateE q = 0
    · cases hc : clashB sp.toList (splitS q).1.toList q.toList with
      | true =>
        have e1 : extractE sp q = 13 := by unfold extractE; rw [if_neg hl, if_neg (by simpa using hv), if_pos hc]
        rw [e1, if_neg (by omega)]
        exact rextract_clash sp q w (valid_short q hv) hl hv _ _ rfl hc
      | false =>
        have e1 : extractE sp q = 0 := by unfold extractE; rw [if_neg hl, if_neg (by simpa using hv), if_neg (by rw [hc]; decide)]
        rw [e1, if_pos rfl]
        exact rextract_fine sp q w (valid_short q hv) hl hv _ _ rfl hc
    · have e1 : extractE sp q = validateE q := by unfold extractE; rw [if_neg hl, if_pos hv]
      rw [e1, if_neg hv]
      exact rextract_bad sp q w hl hv
end Go.Proofs.YtipkdbhdpmkjcabDoor
