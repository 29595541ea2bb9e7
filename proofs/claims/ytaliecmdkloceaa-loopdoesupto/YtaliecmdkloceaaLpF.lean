/- loop: a timer is inserted into a new row; Insert whole. -/
import Derived.Test.YtaliecmdkloceaaLpE
namespace Go.Proofs.Ytaliecmdkloceaa
open Go.RowKit Go.Lib Go.Shelf

set_option maxRecDepth 1000000 in
set_option maxHeartbeats 4000000 in
theorem insertGrow_any (g off c n i vb : Nat) (l : List AlD) (x : AlD) (V : World) (hq : QR V 99 3 (.slice (some ⟨g, off, none⟩) n c) n (rowA l)) (hl : l.length = n) (hi : i < n) (hroom : c < n + 1) (hn : n ≤ 1048576) (hx : V.heap[vb]? = some (.cells #[.int .i64 x.due, .int .i64 x.num, .int .i64 x.id] 99)) :
    Calls Try.prog 51 #[.slice (some ⟨g, off, none⟩) n c, .int .i64 i, .slice (some ⟨vb, 0, none⟩) 1 1] V fun e w' => InsTo V (.slice (some ⟨g, off, none⟩) n c) l i x e w' := by
  obtain ⟨i0, hi0, hz0, hz1, hz2⟩ := info_parts info_alQ
  rcases hq.2 with ⟨h, _⟩ | ⟨g', off', cap, N, f, hv, hr, hnc, hcm, hfit, hf⟩
  · cases h
  injection hv with e1 e2 e3
  injection e1 with e1
  injection e1 with e1 e4 e5
  subst e1 e4 e3
  clear e2 e5
  have hsz : (Try.prog.info? 99).map (·.size) = some 3 := by rw [hi0]; simp [hz1]
  have hn3 : n * 3 ≤ c * 3 := Nat.mul_le_mul_right _ hnc
  have hgl : g < V.heap.size := hr.lt
  have hvl : vb < V.heap.size := (Array.getElem?_eq_some_iff.1 hx).1
  obtain ⟨news, hnews⟩ : ∃ news, rowA (l.drop i) = news := ⟨_, rfl⟩
  have hlen : news.length = (n - i) * 3 := by rw [← hnews, rowA_len, List.length_drop, hl]
  have hget : ∀ t u, news[t]? = some u → f (off + (i * 3 + t)) = u := fun t u hu => by
    rw [← hnews, rowA_drop, List.getElem?_drop] at hu
    exact hf _ u hu
  have h1n : ∀ u ∈ news, u.oneCell' = true := by
    intro u hu
    rw [← hnews] at hu
    exact rowA_one _ u hu
  have htk : (rowA (l.take i)).length = i * 3 := by rw [rowA_len, List.length_take, hl]; omega
  have hold : (Builtin.firstCells i0.size i (.slice (some ⟨g, off, none⟩) i c)).run Try.prog V.drew = .ok (rowA (l.take i)).toArray V.drew := by
    rw [hz1]
    exact run_firstCells_some V.drew 3 i ⟨g, off, none⟩ i c (rowA (l.take i)) htk (fun j u hj => by
      have ht : j < (rowA (l.take i)).length := (List.getElem?_eq_some_iff.1 hj).1
      rw [Addr.add_lit]
      show V.cell? _ = _
      rw [rowA_take, List.getElem?_take, if_pos (by omega)] at hj
      rw [hr.cell (by omega), hf j u hj])
  obtain ⟨G, hG⟩ : ∃ G, G = grownCap V (n + 1) c 99 := ⟨_, rfl⟩
  obtain ⟨ROW, hROW⟩ : ∃ ROW : Array Value, ROW = (rowA (l.take i)).toArray ++ Builtin.zeroCells (Value.agg #[.int .i64 0, .int .i64 0, .int .i64 0]).cells (n + 1 - i) ++ Builtin.zeroCells (Value.agg #[.int .i64 0, .int .i64 0, .int .i64 0]).cells (G - (n + 1)) := ⟨_, rfl⟩
  have hGn : n + 1 ≤ G := by rw [hG]; exact grownCap_ge V _ _ _
  have hGm : G ≤ maxLen := by rw [hG]; exact grownCap_le_maxLen V (n + 1) c 99 (by unfold maxLen; omega)
  have hrz : ∀ ty, (Builtin.append_ #[54, 3] ty #[.slice (some ⟨g, off, none⟩) i c, .int .i64 ((n : Int) + 1 - (i : Int))]).run Try.prog V =
      .ok (.slice (some ⟨V.heap.size, 0, none⟩) (n + 1) G) (V.drew.alloc (.cells ROW 99)) := fun ty => by
    have h := Lib.run_append_grow_zeros (P := Try.prog) V 54 3 ty 99 i0 _ .i64 .i64 Try.underlying54 Try.underlying3 hi0 hz0 (some ⟨g, off, none⟩) i c (rowA (l.take i)) hold (n + 1 - i) (by omega) (by omega) (by omega) (by omega) (by rw [hz2]; omega) (by rw [hz2, show i + (n + 1 - i) = n + 1 by omega]; exact growslice_fits hroom (by omega))
    rw [show i + (n + 1 - i) = n + 1 by omega, ← hG, ← hROW] at h
    rw [show (n : Int) + 1 - (i : Int) = ((n + 1 - i : Nat) : Int) by omega]
    exact h
  have hRs : ROW.size = G * 3 := by
    have hzc : (Value.agg #[.int .i64 0, .int .i64 0, .int .i64 0]).cells.size = 3 := rfl
    rw [hROW, Array.size_append, Array.size_append, size_zeroCells, size_zeroCells, hzc, List.size_toArray, htk]
    omega
  obtain ⟨W1, hW1⟩ : ∃ W1, W1 = V.drew.alloc (.cells ROW 99) := ⟨_, rfl⟩
  rw [← hW1] at hrz
  have hr1 : W1.rowIs V.heap.size 99 ROW.size (fun j => ROW[j]?.getD default) := by
    rw [hW1]
    exact World.rowIs_alloc V.drew ROW _ _ (fun j hj => by show _ = some (ROW[j]?.getD default); rw [Array.getElem?_eq_getElem hj]; rfl)
  have hxW : W1.heap[vb]? = some (.cells #[.int .i64 x.due, .int .i64 x.num, .int .i64 x.id] 99) := by rw [hW1]; exact (Below.heap_alloc V.drew _ vb hvl).trans hx
  have hmin1 : Nat.min 1 (n + 1 - i) = 1 := by simp only [Nat.min_def]; split <;> omega
  have hmin2 : Nat.min (n - i) (n - i) = n - i := by simp only [Nat.min_def]; split <;> omega
  have hcpA : ∀ (W : World), (∀ a, W.cell? a = W1.cell? a) → (∀ a, W.frozen? a = W1.frozen? a) → ∀ ty dc, (Builtin.copy_ #[54, 54] ty #[.slice (some ⟨V.heap.size, i * 3, none⟩) (n + 1 - i) dc, .slice (some ⟨vb, 0, none⟩) 1 1]).run Try.prog W = .ok (goInt (Nat.min 1 (n + 1 - i))) (W.setCells V.heap.size (i * 3) (alC x)) := fun W hWc hWf ty dc =>
    run_copyQ W _ _ ty 99 3 V.heap.size (i * 3) (n + 1 - i) dc ⟨vb, 0, none⟩ 1 1 (alC x) Try.underlying54 hsz (by rw [hmin1]; rfl)
      (fun j u hj => by rw [Addr.add_lit, hWc]; exact al_cells x W1 vb hxW j u hj)
      (fun j hj => by have : j < 3 := hj; rw [hWc, hr1.cell (by omega)]; rfl) (fun j hj => by rw [hWf]; exact hr1.frozen _) (alC_one x)
  have hr2 : (W1.setCells V.heap.size (i * 3) (alC x)).rowIs V.heap.size 99 ROW.size _ := rowIs_setCells (alC x) (i * 3) W1 _ hr1
  have hOb : ∀ (j : Nat), j < c * 3 → (W1.setCells V.heap.size (i * 3) (alC x)).cell? ⟨g, off + j, none⟩ = some (f (off + j)) := fun j hj => by
    rw [World.cell?_setCells_out _ _ _ _ _ (fun h _ => absurd h (by show g ≠ _; omega)), hW1]
    exact (World.cell?_of_block (w := V) (w' := V.drew.alloc (.cells ROW 99)) (a := ⟨g, off + j, none⟩) (Below.heap_alloc V.drew _ g hgl)).trans (hr.cell (by omega))
  have hcpB : ∀ (W : World), (∀ a, W.cell? a = (W1.setCells V.heap.size (i * 3) (alC x)).cell? a) → (∀ a, W.frozen? a = (W1.setCells V.heap.size (i * 3) (alC x)).frozen? a) → ∀ ty dc sc, (Builtin.copy_ #[54, 54] ty #[.slice (some ⟨V.heap.size, (i + 1) * 3, none⟩) (n - i) dc, .slice (some ⟨g, off + i * 3, none⟩) (n - i) sc]).run Try.prog W = .ok (goInt (Nat.min (n - i) (n - i))) (W.setCells V.heap.size ((i + 1) * 3) news) := fun W hWc hWf ty dc sc =>
    run_copyQ W _ _ ty 99 3 V.heap.size ((i + 1) * 3) (n - i) dc ⟨g, off + i * 3, none⟩ (n - i) sc news Try.underlying54 hsz (by rw [hmin2, hlen])
      (fun j u hj => by
        have ht : j < news.length := (List.getElem?_eq_some_iff.1 hj).1
        rw [Addr.add_lit, hWc, Nat.add_assoc, hOb _ (by omega), hget j u hj])
      (fun j hj => by rw [hWc, hr2.cell (by omega)]; rfl) (fun j hj => by rw [hWf]; exact hr2.frozen _) h1n
  have HI : Hid (InsTo V (.slice (some ⟨g, off, none⟩) n c) l i x (.returned (.slice (some ⟨V.heap.size, 0, none⟩) (n + 1) G)) ((((V.alloc (.cells ROW 99)).drew.setCells V.heap.size (i * 3) (alC x)).drew).setCells V.heap.size ((i + 1) * 3) news)) := by
    have hA : (((V.alloc (.cells ROW 99)).drew.setCells V.heap.size (i * 3) (alC x)).drew).rowIs V.heap.size 99 ROW.size _ :=
      rowIs_setCells (alC x) (i * 3) ((V.alloc (.cells ROW 99)).drew) _ (World.rowIs_alloc V ROW _ (fun j => ROW[j]?.getD default) (fun j hj => by show _ = some (ROW[j]?.getD default); rw [Array.getElem?_eq_getElem hj]; rfl))
    refine ⟨some ⟨V.heap.size, 0, none⟩, G, by rw [hl], ?_, ?_, fun g' hg' => .inr (Nat.le_of_eq (Option.some.inj hg'))⟩
    · rw [hl]
      refine ⟨by rw [rowA_len, List.length_append, List.length_take, List.length_cons, List.length_drop, hl]; congr 1; omega, .inr ⟨_, 0, G, ROW.size, _, rfl, rowIs_setCells news ((i + 1) * 3) _ _ hA, hGn, hGm, by omega, fun t u hu => ?_⟩⟩
      have hal : (alC x).length = 3 := rfl
      rw [rowA_append, rowA_cons, hnews] at hu
      rw [Nat.zero_add]
      by_cases h : t < i * 3
      · rw [if_neg (by omega), if_neg (by omega)]
        rw [List.getElem?_append_left (by omega)] at hu
        rw [hROW, Array.append_assoc, Array.getElem?_append_left (by rw [List.size_toArray]; omega), List.getElem?_toArray, hu]
        rfl
      · rw [List.getElem?_append_right (by omega), htk] at hu
        by_cases h2 : t < i * 3 + 3
        · rw [List.getElem?_append_left (by omega)] at hu
          rw [if_neg (by omega), if_pos (by omega), hu]
          rfl
        · rw [List.getElem?_append_right (by omega), hal] at hu
          have hlt2 : t - i * 3 - 3 < news.length := (List.getElem?_eq_some_iff.1 hu).1
          rw [if_pos (by omega), show t - (i + 1) * 3 = t - i * 3 - 3 by omega, hu]
          rfl
    · have b1 := grown_setCells V.heap.size (alC x) (i * 3) ((V.alloc (.cells ROW 99)).drew)
      have b2 := grown_setCells V.heap.size news ((i + 1) * 3) (((V.alloc (.cells ROW 99)).drew.setCells V.heap.size (i * 3) (alC x)).drew)
      have hs0 : V.heap.size ≤ ((V.alloc (.cells ROW 99)).drew).heap.size := by show _ ≤ (V.heap.push _).size; rw [Array.size_push]; omega
      refine ⟨b2.os.trans b1.os, b2.tape.trans b1.tape, b2.output.trans b1.output, Nat.le_trans hs0 (Nat.le_trans b1.size b2.size), fun k hk _ => ?_⟩
      exact (b2.block k (Nat.lt_of_lt_of_le hk (Nat.le_trans hs0 b1.size)) (by intro h; have := Option.some.inj h; omega)).trans ((b1.block k (Nat.lt_of_lt_of_le hk hs0) (by intro h; have := Option.some.inj h; omega)).trans (Below.heap_alloc V _ k hk))
  subst hW1
  have hE1 : ∀ a, ((V.alloc (.cells ROW 99)).drew).cell? a = (V.drew.alloc (.cells ROW 99)).cell? a := fun a => rfl
  have hE2 : ∀ a, ((V.alloc (.cells ROW 99)).drew).frozen? a = (V.drew.alloc (.cells ROW 99)).frozen? a := fun a => rfl
  have hF1 : ∀ a, (((V.alloc (.cells ROW 99)).drew.setCells V.heap.size (i * 3) (alC x)).drew).cell? a = ((V.drew.alloc (.cells ROW 99)).setCells V.heap.size (i * 3) (alC x)).cell? a := fun a => rfl
  have hF2 : ∀ a, (((V.alloc (.cells ROW 99)).drew.setCells V.heap.size (i * 3) (alC x)).drew).frozen? a = ((V.drew.alloc (.cells ROW 99)).setCells V.heap.size (i * 3) (alC x)).frozen? a := fun a => rfl
  have hz1' : ¬ ((i : Int) = (n : Int)) := by omega
  have hz3 : (c : Int) < (n : Int) + 1 := by omega
  have hw1 : IntKind.i64.wrap ((i : Int) + 1) = (i : Int) + 1 := by rw [IntKind.wrap_i64]; omega
  have hb1 : (0 : Int) ≤ (i : Int) + 1 := by omega
  have hin : i ≤ n := by omega
  have htn : ((i : Int) + 1).toNat = i + 1 := by omega
  have hb3 : (i : Int) ≤ (n : Int) := by omega
  have hb5 : (i : Int) + 1 ≤ (n : Int) + 1 := by omega
  have hGi : ¬ (G = i) := by omega
  have hGim : ¬ (G = i + 1) := by omega
  have hci : ¬ (c = i) := by omega
  have hG63 : G ≤ 9223372036854775807 := hGm
  clear hr1 hr2 hxW hOb hold hROW hG hRs hr hf hfit hget hnews hlen hq hz0 hz1 hz2 hn3 hcm hl hx hsz hi0 h1n htk hmin1 hmin2 hGm
  have mixed : True := trivial
  go_enter Try.func51, Try.ntmps51
  go_wp2_with (first
    | (at_builtin; refine wpList_append_run _ rfl _ _ _ _ rfl _ _ rfl rfl _ _ (hrz _) ?_)
    | (at_builtin; refine wpList_copy_runI _ rfl _ _ 54 54 rfl _ _ rfl rfl (hcpA _ hE1 hE2 _ _) ?_))
  go_region_law (refine step_copy_runI rfl _ _ 54 54 rfl (.slice (some ⟨V.heap.size, (i + 1) * 3, none⟩) (n - i) (G - (i + 1))) (.slice (some ⟨g, off + i * 3, none⟩) (n - i) (c - i)) (by simp [Act.eval, Act.put]) (by simp [Act.eval, Act.put]) (hcpB _ hF1 hF2 3 (G - (i + 1)) (c - i)) ?_)
  go_wp2
  go_ret
  exact HI.out
/-- Insert, whole. -/
theorem insertA_any (v : Value) (l : List AlD) (i vb : Nat) (x : AlD) (V : World) (hq : QR V 99 3 v l.length (rowA l)) (hi : i ≤ l.length) (hn : l.length ≤ 1048576) (hx : V.heap[vb]? = some (.cells #[.int .i64 x.due, .int .i64 x.num, .int .i64 x.id] 99)) (hne : v.ownBlock ≠ some vb) :
    Calls Try.prog 51 #[v, .int .i64 i, .slice (some ⟨vb, 0, none⟩) 1 1] V fun e w' => InsTo V v l i x e w' := by
  by_cases h : i = l.length
  · subst h
    exact insertEnd_any v l _ vb x V hq rfl hn hx
  · rcases hq.2 with ⟨h0, h1⟩ | ⟨g, off, cap, N, f, rfl, hr, hnc, _⟩
    · omega
    · by_cases hroom : l.length + 1 ≤ cap
      · exact insertShift_any g off cap _ i vb l x V hq rfl (by omega) hroom hn hx (fun e => hne (by rw [e]; rfl))
      · exact insertGrow_any g off cap _ i vb l x V hq rfl (by omega) (by omega) hn hx
end Go.Proofs.Ytaliecmdkloceaa
