/- The walk of Check. -/
import Derived.Test.YthkjkcojbepfmaaFSurW
import Derived.Test.YthkjkcojbepfmaaFOrd
import Derived.Test.YthkjkcojbepfmaaFNode
namespace Go.Proofs.Ythkjkcojbepfmaa
open Go.RowKit Go.Lib

theorem firstWrong_at (ns : List NodeD) : ∀ (t : List NodeD) (i k : Nat) (hk : k < t.length), (∀ (j : Nat) (hj : j < t.length), j < k → nodeRight ns (i + j) t[j] = true) → nodeRight ns (i + k) t[k] = false → firstWrong ns i t = i + k + 1
  | [], _, _, hk, _, _ => by simp at hk
  | n :: t, i, 0, _, _, h => by
    have h' : nodeRight ns i n = false := h
    unfold firstWrong
    rw [h']
    rfl
  | n :: t, i, k + 1, hk, ha, h => by
    have h0 : nodeRight ns i n = true := ha 0 (by simp) (by omega)
    unfold firstWrong
    rw [h0, if_pos rfl, firstWrong_at ns t (i + 1) k (by simpa using hk) (fun j hj hjk => by
      have := ha (j + 1) (by simpa using hj) (by omega)
      rw [show i + (j + 1) = i + 1 + j by omega] at this
      exact this) (by
      rw [show i + (k + 1) = i + 1 + k by omega] at h
      exact h)]
    omega
/-- What Check answers: its error, and the node. -/
def checkE (ns : List NodeD) : Int := if rightD ns then 0 else 5
def checkN (ns : List NodeD) : Int := if 4096 < ns.length then 0 else (firstWrong ns 0 ns : Int)
theorem checkE_right {ns : List NodeD} (h : rightD ns = true) : checkE ns = 0 ∧ checkN ns = 0 := by
  unfold checkE checkN
  rw [h, if_pos rfl]
  refine ⟨rfl, ?_⟩
  unfold rightD checkD at h
  split at h
  · simp at h
  · rename_i h4
    rw [if_neg h4]
    have := beq_iff_eq.1 h
    omega
theorem muddled_kids {ns : List NodeD} {i : Nat} (hi : i < ns.length) (h : (lookAll ns ns.length).2.getD i true = false) : ∀ x ∈ ns[i].kids, thereB ns.length x = true := fun x hx => by
  obtain ⟨n, hn, _⟩ := ((muddled_iff ns i hi).1 h).1 x hx
  obtain ⟨j, hj, e, _⟩ := nodeOf_idx hn
  rw [e]
  exact thereB_idx _ _ hj

set_option maxRecDepth 100000 in
set_option maxHeartbeats 8000000 in
theorem Check_any (o : Option Addr) (cap : Nat) (ns : List NodeD) (w : World) (hF : FRd w o cap ns) (hkl : ∀ (i : Nat) (hi : i < ns.length), ns[i].kids.length ≤ 1099511627776) (hal : ∀ (i : Nat) (hi : i < ns.length), ns[i].attrs.length ≤ 1099511627776) :
    Calls Try.prog 40 #[.agg #[.slice o ns.length cap]] w fun e w' => e = .returned (.tuple #[.int .i64 (checkE ns), .int .i64 (checkN ns)]) ∧ Below w.heap.size w w' := by
  have hle := hF.len
  by_cases hbig : 4096 < ns.length
  · have e1 : checkE ns = 5 := by unfold checkE rightD checkD; rw [if_pos hbig]; rfl
    have e2 : checkN ns = 0 := by unfold checkN; rw [if_pos hbig]
    rw [e1, e2]
    have d1 : decide ((4096 : Int) < (ns.length : Int)) = true := decide_eq_true (by omega)
    clear e1 e2 hF hkl hal
    go_enter Try.func40, Try.ntmps40
    go_wp2
    go_ret2
    exact ⟨rfl, (Below.refl _ w).alloc (Nat.le_refl _) _⟩
  · have d1 : decide ((4096 : Int) < (ns.length : Int)) = false := decide_eq_false (by omega)
    have HS : Hid (∀ W : World, Below w.heap.size w W → _) := fun W hW => surveyOf_any o cap ns W (hF.later hW) hkl
    have HF := hid hF
    have Hkl := hid hkl
    have Hal := hid hal
    have HE1 : Hid (checkE ns = if rightD ns then 0 else 5) := rfl
    have HE2 : Hid (checkN ns = (firstWrong ns 0 ns : Int)) := by unfold checkN; exact if_neg hbig
    have HE3 : Hid (rightD ns = (firstWrong ns 0 ns == 0)) := by
      show rightD ns = _
      unfold rightD checkD
      rw [if_neg hbig]
    generalize checkE ns = CE at *
    generalize checkN ns = CN at *
    clear hF hkl hal
    go_enter Try.func40, Try.ntmps40
    go_wp2_with fail
    refine (HS.out _ ((Below.refl _ w).alloc (Nat.le_refl _) _)).mono ?_
    rintro e v1 ⟨bl, bm, be, rfl, hb1, hL, hM, hE⟩
    have hb1w := box_go hb1
    have cb := box_forest hb1
    unfold surveyO
    have hbA : Below v1.heap.size v1 (v1.alloc (.cells #[.slice o ns.length cap, .slice (some ⟨bl, 0, none⟩) ns.length ns.length, .slice (some ⟨bm, 0, none⟩) ns.length ns.length, .slice (some ⟨be, 0, none⟩) ns.length ns.length] 109)) := (Below.refl _ v1).alloc (Nat.le_refl _) _
    have hsz := hb1.size
    simp only [World.size_alloc] at hsz
    have cbA := (hbA.cell (p := ⟨w.heap.size, 0, none⟩) (by show w.heap.size < v1.heap.size; omega)).trans cb
    have HLA := hid (hL.later hbA)
    have HMA := hid (hM.later hbA)
    have HEA := hid (hE.later hbA)
    have HBA := hid (hb1w.trans (hbA.mono hb1w.size))
    have hsvA : (v1.alloc (.cells #[.slice o ns.length cap, .slice (some ⟨bl, 0, none⟩) ns.length ns.length, .slice (some ⟨bm, 0, none⟩) ns.length ns.length, .slice (some ⟨be, 0, none⟩) ns.length ns.length] 109)).heap[v1.heap.size]? = _ := heap_new v1 _
    have HsvA := hid hsvA
    have hsz2 : (v1.alloc (.cells #[.slice o ns.length cap, .slice (some ⟨bl, 0, none⟩) ns.length ns.length, .slice (some ⟨bm, 0, none⟩) ns.length ns.length, .slice (some ⟨be, 0, none⟩) ns.length ns.length] 109)).heap.size = v1.heap.size + 1 := by simp
    clear hbA hL hM hE hb1w hb1 HS hsvA
    go_wp2
    generalize v1.alloc (.cells #[.slice o ns.length cap, .slice (some ⟨bl, 0, none⟩) ns.length ns.length, .slice (some ⟨bm, 0, none⟩) ns.length ns.length, .slice (some ⟨be, 0, none⟩) ns.length ns.length] 109) = W1 at *
    generalize v1.heap.size = g at *
    go_loopw [15] (fun q wr => ∃ k : Nat, k ≤ ns.length ∧ q = .int .i64 k ∧ Below W1.heap.size W1 wr ∧ (∀ (j : Nat) (hj : j < ns.length), j < k → nodeRight ns j ns[j] = true)) (fun q _ => ns.length - (RowKit.intOf q).toNat)
    case atStart => exact ⟨0, Nat.zero_le _, rfl, Below.refl _ _, fun _ _ h => absurd h (Nat.not_lt_zero _)⟩
    case round =>
      obtain ⟨k, hk, rfl, hB, hA⟩ := hrel
      have HA := hid hA
      have HB := hid hB
      have hsvw : wr.heap[g]? = _ := (hB.block g (by omega)).trans HsvA.out
      have HBw : Hid (Below w.heap.size w wr) := HBA.out.trans (hB.mono HBA.out.size)
      obtain ⟨c0, c1, c2, c3⟩ := sv_cells hsvw
      clear hA hsvw cbA cb
      by_cases hlt : k < ns.length
      · obtain ⟨b, off, rfl, hFA⟩ := HF.out.at_ (by omega)
        have l1 := lookAll_len ns ns.length (Nat.le_refl _)
        have l2 := climbAll_len ns ns.length
        have hR := right_any b off cap bl bm be k ns _ _ _ wr (hFA.later HBw.out) hlt (Hal.out k hlt) (Hkl.out k hlt) (HLA.out.later hB) (HMA.out.later hB) (HEA.out.later hB) l1.1 l1.2 l2.2 (fun h => muddled_kids hlt h)
        have e0 : rightB (wellMadeD ns[k]) ((climbAll ns ns.length).2.getD k true) ((lookAll ns ns.length).2.getD k true) (ns[k].parent == 0 || (lookAll ns ns.length).1.getD k false) (rightDocD ns k ns[k]) (rightShadowD ns k ns[k]) (rightKidsD ns ns[k]) = nodeRight ns k ns[k] := rfl
        rw [e0] at hR
        unfold surveyV at hR
        obtain ⟨R, hRe⟩ : ∃ R, nodeRight ns k ns[k] = R := ⟨_, rfl⟩
        rw [hRe] at hR
        have HRe := hid hRe
        clear hFA l1 l2 e0 hRe hB
        cases R with
        | true =>
          go_wp2_with fail
          refine hR.mono ?_
          rintro e v2 ⟨rfl, hb2⟩
          have HB2 := hid (HB.out.trans (hb2.mono HB.out.size))
          clear hR hb2 c0 c1 c2 c3
          go_wp2
          go_roundw
          case rel =>
            refine ⟨k + 1, by omega, by go_num, HB2.out, fun j hj hjk => ?_⟩
            by_cases e : j = k
            · subst e; exact HRe.out
            · exact HA.out j hj (by omega)
          case measure => simp [RowKit.intOf]; omega
        | false =>
          have hfw : firstWrong ns 0 ns = k + 1 := by
            have := firstWrong_at ns ns 0 k hlt (fun j hj hjk => by rw [Nat.zero_add]; exact HA.out j hj hjk) (by rw [Nat.zero_add]; exact HRe.out)
            omega
          have hCE : CE = 5 := by rw [HE1.out, HE3.out, hfw]; rfl
          have hCN : CN = (k : Int) + 1 := by rw [HE2.out, hfw]; rfl
          subst hCE hCN
          go_wp2_with fail
          refine hR.mono ?_
          rintro e v2 ⟨rfl, hb2⟩
          have HB2 := hid (HBw.out.trans (hb2.mono HBw.out.size))
          clear hR hb2 c0 c1 c2 c3 hfw
          go_wp2
          go_ret2
          exact ⟨rfl, HB2.out⟩
      · have hkn : k = ns.length := by omega
        subst hkn
        have hfw : firstWrong ns 0 ns = 0 := (firstWrong_zero ns ns 0).2 fun j hj => by rw [Nat.zero_add]; exact HA.out j hj hj
        have hCE : CE = 0 := by rw [HE1.out, HE3.out, hfw]; rfl
        have hCN : CN = 0 := by rw [HE2.out, hfw]; rfl
        subst hCE hCN
        clear hfw hB
        go_wp2
        go_ret2
        exact ⟨rfl, HBw.out⟩
end Go.Proofs.Ythkjkcojbepfmaa
