/- Aborting keeps signals right; what is told. -/
import Derived.Test.YtlibjjmaicgemaaAbV
namespace Go.Proofs.Ytlibjjmaicgemaa
open Go.RowKit Go.Lib Go.Shelf

theorem nodup_short (l : List Int) (n : Nat) (hn : l.Nodup) (hb : ∀ x ∈ l, 1 ≤ x ∧ x ≤ (n : Int)) : l.length ≤ n := by
  have hp := sort_perm l
  have h1 : (sortI l).Pairwise (· < ·) := by
    have h2 := sort_pair l
    have h3 : (sortI l).Nodup := hp.nodup_iff.2 hn
    exact (h2.and h3).imp (fun ⟨a, b⟩ => by omega)
  have := rise_short n (sortI l) 0 (by omega) h1 (fun x hx => by have := hb x (hp.mem_iff.1 hx); omega)
  rw [sort_len] at this
  omega
theorem odd_parts {x : SigD} (h : oddD x = false) : (x.ab = true ↔ x.re ≠ 0) ∧ (x.dep = true → x.dts = []) ∧ (x.dep = false → x.src = []) := by
  unfold oddD at h
  simp only [Bool.or_eq_false_iff] at h
  obtain ⟨⟨h1, h2⟩, h3⟩ := h
  refine ⟨?_, fun hd => ?_, fun hd => ?_⟩
  · cases hx : x.ab <;> cases hr : (x.re != 0) <;> rw [hx, hr] at h1 <;> simp_all
  · rw [hd, Bool.true_and, decide_eq_false_iff_not] at h2
    exact List.eq_nil_of_length_eq_zero (by omega)
  · rw [hd, Bool.not_false, Bool.true_and, decide_eq_false_iff_not] at h3
    exact List.eq_nil_of_length_eq_zero (by omega)
theorem rows_mem {ls : List SigD} {n j : Nat} {y : Int} (hn : n ≤ ls.length) : y ∈ rowsUp ls n j ↔ ∃ (k : Nat) (hk : k < ls.length), k < n ∧ y = (k : Int) + 1 ∧ ls[k].dep = true ∧ (j : Int) + 1 ∈ ls[k].src := by
  unfold rowsUp
  rw [List.mem_map]
  constructor
  · rintro ⟨k, hk, rfl⟩
    obtain ⟨h1, h2⟩ := List.mem_filter.1 hk
    have hkn := List.mem_range.1 h1
    have hkl : k < ls.length := by omega
    unfold saysD at h2
    rw [List.getElem?_eq_getElem hkl] at h2
    have h2 : (ls[k].dep && ls[k].src.contains ((j : Int) + 1)) = true := h2
    rw [Bool.and_eq_true] at h2
    exact ⟨k, hkl, hkn, rfl, h2.1, by simpa using h2.2⟩
  · rintro ⟨k, hkl, hkn, rfl, h1, h2⟩
    refine ⟨k, List.mem_filter.2 ⟨List.mem_range.2 hkn, ?_⟩, rfl⟩
    unfold saysD
    rw [List.getElem?_eq_getElem hkl]
    show (ls[k].dep && ls[k].src.contains ((j : Int) + 1)) = true
    rw [Bool.and_eq_true]
    exact ⟨h1, by simpa using h2⟩
theorem right_ok {ls : List SigD} (hr : rightD ls = true) (hl : ls.length ≤ 1024) : RightOk ls := by
  have h := (right_iff ls).1 hr
  have hin : ∀ (j : Nat) (hj : j < ls.length), ∀ s ∈ ls[j].dts, 1 ≤ s ∧ s ≤ (ls.length : Int) := fun j hj s hs => rows_le ls _ j s ((h j hj).2.2.mem_iff.1 hs)
  refine ⟨fun j hj => ⟨?_, ?_⟩, fun j hj hd s hs => (((h j hj).1 hd).2 s hs).1, fun j hj s hs => ?_⟩
  · cases hd : ls[j].dep with
    | false => rw [(odd_parts (h j hj).2.1).2.2 hd]; simp
    | true =>
      obtain ⟨c1, c2⟩ := (h j hj).1 hd
      have := nodup_short ls[j].src ls.length c1 (fun x hx => by
        obtain ⟨p, rfl, hp⟩ := out_no (c2 x hx).1
        omega)
      omega
  · rw [(h j hj).2.2.length_eq]
    have := nodup_short (rowsUp ls ls.length j) ls.length ((rows_pair ls _ j).imp (fun hx => by omega)) (fun x hx => rows_le ls _ j x hx)
    omega
  · have := hin j hj s hs
    unfold outD
    rw [decide_eq_false (by omega), decide_eq_false (by omega)]
    rfl
theorem abH_at {ls : List SigD} {p : Nat} (hp : p < ls.length) : abH ls ((p : Int) + 1) = ls[p].ab := by
  unfold abH
  rw [show ((p : Int) + 1).toNat - 1 = p by omega, ab_at hp]
theorem hit_spec (re : Int) : ∀ (hs : List Int) (ls : List SigD) (told : List Int), hs.Nodup → (∀ h ∈ hs, outD ls.length h = false) →
    (hitAll re hs ls told).2 = told ++ hs.filter (fun h => !abH ls h) ∧ ∀ (j : Nat) (hj : j < ls.length) (hj' : j < (hitAll re hs ls told).1.length), (hitAll re hs ls told).1[j] = if (j : Int) + 1 ∈ hs ∧ ls[j].ab = false then hitD re ls[j] else ls[j]
  | [], ls, told, _, _ => ⟨by simp [hitAll], fun j hj hj' => by simp [hitAll]⟩
  | h :: r, ls, told, hn, hin => by
    obtain ⟨p, rfl, hp⟩ := out_no (hin h (List.mem_cons_self ..))
    obtain ⟨hnr, hn'⟩ := List.nodup_cons.1 hn
    have hin' : ∀ h ∈ r, outD ls.length h = false := fun h hh => hin h (List.mem_cons_of_mem _ hh)
    have hg : (ls[((p : Int) + 1).toNat - 1]?.map SigD.ab).getD true = ls[p].ab := by
      rw [show ((p : Int) + 1).toNat - 1 = p by omega, List.getElem?_eq_getElem hp]
      rfl
    cases hab : ls[p].ab with
    | true =>
      have he : hitAll re (((p : Int) + 1) :: r) ls told = hitAll re r ls told := by
        rw [hitAll, hg, hab, if_pos rfl]
      rw [he]
      obtain ⟨h1, h2⟩ := hit_spec re r ls told hn' hin'
      refine ⟨?_, fun j hj hj' => ?_⟩
      · rw [h1, List.filter_cons_of_neg (by rw [abH_at hp, hab]; decide)]
      · rw [h2 j hj hj']
        by_cases e : j = p
        · subst e
          rw [if_neg (fun x => hnr x.1), if_neg (fun x => by rw [hab] at x; cases x.2)]
        · have : ((j : Int) + 1 ∈ ((p : Int) + 1) :: r) ↔ (j : Int) + 1 ∈ r := by
            rw [List.mem_cons]
            exact ⟨fun x => x.elim (fun y => by omega) id, .inr⟩
          by_cases hx : (j : Int) + 1 ∈ r ∧ ls[j].ab = false
          · rw [if_pos hx, if_pos ⟨this.2 hx.1, hx.2⟩]
          · rw [if_neg hx, if_neg (fun y => hx ⟨this.1 y.1, y.2⟩)]
    | false =>
      have he : hitAll re (((p : Int) + 1) :: r) ls told = hitAll re r (ls.modify p (hitD re)) (told ++ [(p : Int) + 1]) := by
        rw [hitAll, hg, hab, if_neg Bool.false_ne_true, show ((p : Int) + 1).toNat - 1 = p by omega]
      have hlm : (ls.modify p (hitD re)).length = ls.length := by simp
      obtain ⟨h1, h2⟩ := hit_spec re r (ls.modify p (hitD re)) (told ++ [(p : Int) + 1]) hn' (fun h hh => by rw [hlm]; exact hin' h hh)
      rw [he]
      have hget : ∀ (j : Nat) (hj : j < ls.length) (hj' : j < (ls.modify p (hitD re)).length), (ls.modify p (hitD re))[j] = if p = j then hitD re ls[j] else ls[j] := fun j hj hj' => by rw [List.getElem_modify]
      refine ⟨?_, fun j hj hj' => ?_⟩
      · rw [h1, List.filter_cons_of_pos (by rw [abH_at hp, hab]; rfl), List.append_assoc]
        congr 1
        rw [List.singleton_append]
        congr 1
        refine List.filter_congr (fun h hh => ?_)
        obtain ⟨q, rfl, hq⟩ := out_no (hin' h hh)
        have hqp : p ≠ q := fun e => hnr (by rw [e]; exact hh)
        rw [abH_at hq, abH_at (by omega), hget q hq (by omega), if_neg hqp]
      · rw [h2 j (by omega) hj']
        rw [hget j hj (by omega)]
        by_cases e : p = j
        · subst e
          rw [if_pos rfl, if_neg (fun x => hnr x.1), if_pos ⟨List.mem_cons_self .., hab⟩]
        · rw [if_neg e]
          have : ((j : Int) + 1 ∈ ((p : Int) + 1) :: r) ↔ (j : Int) + 1 ∈ r := by
            rw [List.mem_cons]
            exact ⟨fun x => x.elim (fun y => by omega) id, .inr⟩
          by_cases hx : (j : Int) + 1 ∈ r ∧ ls[j].ab = false
          · rw [if_pos hx, if_pos ⟨this.2 hx.1, hx.2⟩]
          · rw [if_neg hx, if_neg (fun y => hx ⟨this.1 y.1, y.2⟩)]
/-- The handles that an Abort comes to: each once. -/
theorem hits_nodup {ls : List SigD} (hr : rightD ls = true) {m : Nat} (hm : m < ls.length) (hd : ls[m].dep = false) : (((m : Int) + 1) :: ls[m].dts).Nodup := by
  have h := (right_iff ls).1 hr
  refine List.nodup_cons.2 ⟨fun hx => ?_, (h m hm).2.2.nodup_iff.2 ((rows_pair ls _ m).imp (fun hy => by omega))⟩
  obtain ⟨k, hk, _, e, h1, _⟩ := (rows_mem (Nat.le_refl _)).1 ((h m hm).2.2.mem_iff.1 hx)
  have : k = m := by omega
  subst this
  rw [hd] at h1
  cases h1
theorem right_hit {ls : List SigD} (hr : rightD ls = true) (hl : ls.length ≤ 1024) {m : Nat} (hm : m < ls.length) (hd : ls[m].dep = false) (re : Int) (hre : re ≠ 0) : rightD (hitAll re (((m : Int) + 1) :: ls[m].dts) ls []).1 = true := by
  have h := (right_iff ls).1 hr
  have hok := right_ok hr hl
  have hin : ∀ x ∈ ((m : Int) + 1) :: ls[m].dts, outD ls.length x = false := fun x hx => by
    rcases List.mem_cons.1 hx with rfl | hx
    · unfold outD
      rw [decide_eq_false (by omega), decide_eq_false (by omega)]
      rfl
    · exact hok.dts m hm x hx
  obtain ⟨_, hg⟩ := hit_spec re _ ls [] (hits_nodup hr hm hd) hin
  have hlen := hit_len re (((m : Int) + 1) :: ls[m].dts) ls []
  generalize (hitAll re (((m : Int) + 1) :: ls[m].dts) ls []).1 = R at *
  have hsd : ∀ (j : Nat) (hj : j < ls.length) (hj' : j < R.length), R[j].dep = ls[j].dep ∧ R[j].src = ls[j].src ∧ R[j].dts = ls[j].dts := fun j hj hj' => by
    rw [hg j hj hj']
    split <;> exact ⟨rfl, rfl, rfl⟩
  have hrows : ∀ j, rowsUp R R.length j = rowsUp ls ls.length j := fun j => by
    unfold rowsUp
    rw [hlen]
    congr 1
    refine List.filter_congr (fun k hk => ?_)
    have hk' := List.mem_range.1 hk
    unfold saysD
    rw [List.getElem?_eq_getElem hk', List.getElem?_eq_getElem (by omega)]
    obtain ⟨e1, e2, _⟩ := hsd k hk' (by omega)
    show (R[k].dep && R[k].src.contains _) = (ls[k].dep && ls[k].src.contains _)
    rw [e1, e2]
  have hkeep : ∀ (j : Nat) (hj : j < ls.length) (hj' : j < R.length), ls[j].ab = true → R[j].ab = true := fun j hj hj' ha => by
    rw [hg j hj hj', if_neg (fun x => by rw [ha] at x; cases x.2)]
    exact ha
  refine (right_iff R).2 (fun k hk => ?_)
  have hk' : k < ls.length := by omega
  obtain ⟨c, o, pm⟩ := h k hk'
  obtain ⟨e1, e2, e3⟩ := hsd k hk' hk
  refine ⟨fun hdk => ?_, ?_, ?_⟩
  · rw [e1] at hdk
    obtain ⟨c1, c2⟩ := c hdk
    rw [e2]
    refine ⟨c1, fun s hs => ?_⟩
    obtain ⟨d1, d2⟩ := c2 s hs
    refine ⟨by rw [hlen]; exact d1, fun hab => ?_⟩
    obtain ⟨p, rfl, hp⟩ := out_no d1
    rw [abH_at (by omega)] at hab
    cases hpa : ls[p].ab with
    | true => exact hkeep k hk' hk (d2 (by rw [abH_at hp]; exact hpa))
    | false =>
      have hmem : (p : Int) + 1 ∈ ((m : Int) + 1) :: ls[m].dts := by
        rw [hg p hp (by omega)] at hab
        by_cases hx : (p : Int) + 1 ∈ ((m : Int) + 1) :: ls[m].dts ∧ ls[p].ab = false
        · exact hx.1
        · rw [if_neg hx, hpa] at hab
          cases hab
      have hkr : (k : Int) + 1 ∈ rowsUp ls ls.length p := (rows_mem (Nat.le_refl _)).2 ⟨k, hk', hk', rfl, hdk, hs⟩
      have hkd : (k : Int) + 1 ∈ ls[p].dts := (h p hp).2.2.mem_iff.2 hkr
      have hpm : p = m := by
        rcases List.mem_cons.1 hmem with e | hx
        · omega
        · obtain ⟨i, hi, _, e, hdi, _⟩ := (rows_mem (Nat.le_refl _)).1 ((h m hm).2.2.mem_iff.1 hx)
          have : i = p := by omega
          subst this
          rw [(odd_parts (h i hp).2.1).2.1 hdi] at hkd
          cases hkd
      subst hpm
      cases hka : ls[k].ab with
      | true => exact hkeep k hk' hk hka
      | false =>
        rw [hg k hk' hk, if_pos ⟨List.mem_cons_of_mem _ hkd, hka⟩]
        rfl
  · rw [hg k hk' hk]
    split
    · have := odd_parts o
      unfold oddD hitD
      unfold oddD at o
      simp only [Bool.or_eq_false_iff] at o ⊢
      refine ⟨⟨?_, o.1.2⟩, o.2⟩
      have : (re != 0) = true := by simpa using hre
      rw [this]
      rfl
    · exact o
  · rw [e3, hrows]
    exact pm
theorem reason_ne (re : Int) : reasonD re ≠ 0 := by
  unfold reasonD
  split
  · decide
  · rename_i h
    intro e
    rw [e] at h
    exact h rfl
end Go.Proofs.Ytlibjjmaicgemaa
