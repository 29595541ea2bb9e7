/- The walk of surveyOf. -/
import Derived.Test.YtilacgcjbdkphaaGreatFSur
import Derived.Deep.DeepCutAuto
import Derived.Deep.CutRange
namespace Go.Proofs.YtilacgcjbdkphaaGreat
open Go.RowKit Go.Lib

/-- A forest that is handed on, with nodes or without. -/
structure FRd (w : World) (o : Option Addr) (cap : Nat) (ns : List NodeD) : Prop where
  len : ns.length ≤ 1099511627776
  at_ : 0 < ns.length → ∃ b off, o = some ⟨b, off, none⟩ ∧ FAt w b off cap ns
theorem FRd.later {w W : World} {o : Option Addr} {cap : Nat} {ns : List NodeD} (h : FRd w o cap ns) (hb : Below w.heap.size w W) : FRd W o cap ns :=
  ⟨h.len, fun hp => by
    obtain ⟨b, off, e, hF⟩ := h.at_ hp
    exact ⟨b, off, e, hF.later hb⟩⟩
def surveyO (o : Option Addr) (cap n bl bm be : Nat) : Value := .agg #[.slice o n cap, .slice (some ⟨bl, 0, none⟩) n n, .slice (some ⟨bm, 0, none⟩) n n, .slice (some ⟨be, 0, none⟩) n n]
theorem made_bools (n : Nat) : madeCells #[.bool false] n = ((List.replicate n false).map Value.bool).toArray := by
  unfold madeCells
  apply Array.ext
  · simp
  · intro i h1 h2
    simp [Nat.mod_one]
theorem made_ints (n : Nat) : madeCells #[.int .i64 0] n = ((List.replicate n (0 : Int)).map (Value.int .i64)).toArray := by
  unfold madeCells
  apply Array.ext
  · simp
  · intro i h1 h2
    simp [Nat.mod_one]

theorem Wrote.trans {S : List Nat} {a b c : World} (h : Wrote S a b) (k : Wrote S b c) : Wrote S a c :=
  ⟨k.os.trans h.os, k.tape.trans h.tape, k.output.trans h.output, Nat.le_trans h.size k.size, fun i hi hn => (k.block i (Nat.lt_of_lt_of_le hi h.size) hn).trans (h.block i hi hn)⟩
theorem heap_new (w : World) (o : Obj) : (w.alloc o).heap[w.heap.size]? = some o := by
  show (w.heap.push o)[w.heap.size]? = some o
  exact Array.getElem?_push_size
theorem six_below (w : World) (a b c d e f : Obj) : Below w.heap.size w ((((((w.alloc a).alloc b).alloc c).alloc d).alloc e).alloc f).drew :=
  ((((((((Below.refl _ w).alloc (Nat.le_refl _) a).alloc (by simp) b).alloc (by simp; omega) c).alloc (by simp; omega) d).alloc (by simp; omega) e).alloc (by simp; omega) f)).drew
theorem six_1 (w : World) (a b c d e f : Obj) : ((((((w.alloc a).alloc b).alloc c).alloc d).alloc e).alloc f).drew.heap[w.heap.size + 1]? = some b := by
  have h := heap_new (w.alloc a) b
  simp only [World.size_alloc] at h
  show ((((((w.alloc a).alloc b).alloc c).alloc d).alloc e).alloc f).heap[w.heap.size + 1]? = some b
  rw [Below.heap_alloc _ _ _ (by simp only [World.size_alloc]; omega), Below.heap_alloc _ _ _ (by simp only [World.size_alloc]; omega), Below.heap_alloc _ _ _ (by simp only [World.size_alloc]; omega), Below.heap_alloc _ _ _ (by simp only [World.size_alloc]; omega)]
  exact h
theorem six_2 (w : World) (a b c d e f : Obj) : ((((((w.alloc a).alloc b).alloc c).alloc d).alloc e).alloc f).drew.heap[w.heap.size + 1 + 1]? = some c := by
  have h := heap_new ((w.alloc a).alloc b) c
  simp only [World.size_alloc] at h
  show ((((((w.alloc a).alloc b).alloc c).alloc d).alloc e).alloc f).heap[w.heap.size + 1 + 1]? = some c
  rw [Below.heap_alloc _ _ _ (by simp only [World.size_alloc]; omega), Below.heap_alloc _ _ _ (by simp only [World.size_alloc]; omega), Below.heap_alloc _ _ _ (by simp only [World.size_alloc]; omega)]
  exact h
theorem six_3 (w : World) (a b c d e f : Obj) : ((((((w.alloc a).alloc b).alloc c).alloc d).alloc e).alloc f).drew.heap[w.heap.size + 1 + 1 + 1]? = some d := by
  have h := heap_new (((w.alloc a).alloc b).alloc c) d
  simp only [World.size_alloc] at h
  show ((((((w.alloc a).alloc b).alloc c).alloc d).alloc e).alloc f).heap[w.heap.size + 1 + 1 + 1]? = some d
  rw [Below.heap_alloc _ _ _ (by simp only [World.size_alloc]; omega), Below.heap_alloc _ _ _ (by simp only [World.size_alloc]; omega)]
  exact h
theorem six_4 (w : World) (a b c d e f : Obj) : ((((((w.alloc a).alloc b).alloc c).alloc d).alloc e).alloc f).drew.heap[w.heap.size + 1 + 1 + 1 + 1]? = some e := by
  have h := heap_new ((((w.alloc a).alloc b).alloc c).alloc d) e
  simp only [World.size_alloc] at h
  show ((((((w.alloc a).alloc b).alloc c).alloc d).alloc e).alloc f).heap[w.heap.size + 1 + 1 + 1 + 1]? = some e
  rw [Below.heap_alloc _ _ _ (by simp only [World.size_alloc]; omega)]
  exact h
theorem six_5 (w : World) (a b c d e f : Obj) : ((((((w.alloc a).alloc b).alloc c).alloc d).alloc e).alloc f).drew.heap[w.heap.size + 1 + 1 + 1 + 1 + 1]? = some f := by
  have h := heap_new (((((w.alloc a).alloc b).alloc c).alloc d).alloc e) f
  simp only [World.size_alloc] at h
  show ((((((w.alloc a).alloc b).alloc c).alloc d).alloc e).alloc f).heap[w.heap.size + 1 + 1 + 1 + 1 + 1]? = some f
  exact h
/-- A survey lies behind the first region. -/
structure Surveyed (w : World) (o : Option Addr) (cap n bl bm be bs : Nat) (wx : World) : Prop where
  below : Below w.heap.size w wx
  sv : wx.heap[bs]? = some (.cells #[.slice o n cap, .slice (some ⟨bl, 0, none⟩) n n, .slice (some ⟨bm, 0, none⟩) n n, .slice (some ⟨be, 0, none⟩) n n] 152 (0, 0))
  rs : wx.heap[w.heap.size + 1]? = some (.cells #[.slice none 0 0, .slice none 0 0, .slice none 0 0, .slice none 0 0] 152 (0, 0))
  hl : wx.heap[bl]? = some (.cells (madeCells #[.bool false] n) 4 (0, 0))
  hm : wx.heap[bm]? = some (.cells (madeCells #[.bool false] n) 4 (0, 0))
  he : wx.heap[be]? = some (.cells (madeCells #[.bool false] n) 4 (0, 0))
  far : w.heap.size + 1 < bl ∧ w.heap.size + 1 < bm ∧ w.heap.size + 1 < be ∧ w.heap.size + 1 < bs ∧ bl ≠ bm ∧ bl ≠ be ∧ bm ≠ be ∧ bs ≠ bl ∧ bs ≠ bm ∧ bs ≠ be
theorem bools_made {W : World} {g n : Nat} (h : W.heap[g]? = some (.cells (madeCells #[.bool false] n) 4 (0, 0))) : BoolsAt W g (List.replicate n false) := by
  rw [made_bools] at h
  exact h
theorem close2 {w : World} {o : Option Addr} {cap n bl bm be : Nat} {a d e f : Obj} (hl : ((((((w.alloc a).alloc (.cells #[.slice none 0 0, .slice none 0 0, .slice none 0 0, .slice none 0 0] 152)).alloc (.cells #[.slice o n cap, .slice (some ⟨bl, 0, none⟩) n n, .slice (some ⟨bm, 0, none⟩) n n, .slice (some ⟨be, 0, none⟩) n n] 152)).alloc d).alloc e).alloc f).drew.heap[bl]? = some (.cells (madeCells #[.bool false] n) 4 (0, 0))) (hm : ((((((w.alloc a).alloc (.cells #[.slice none 0 0, .slice none 0 0, .slice none 0 0, .slice none 0 0] 152)).alloc (.cells #[.slice o n cap, .slice (some ⟨bl, 0, none⟩) n n, .slice (some ⟨bm, 0, none⟩) n n, .slice (some ⟨be, 0, none⟩) n n] 152)).alloc d).alloc e).alloc f).drew.heap[bm]? = some (.cells (madeCells #[.bool false] n) 4 (0, 0))) (he : ((((((w.alloc a).alloc (.cells #[.slice none 0 0, .slice none 0 0, .slice none 0 0, .slice none 0 0] 152)).alloc (.cells #[.slice o n cap, .slice (some ⟨bl, 0, none⟩) n n, .slice (some ⟨bm, 0, none⟩) n n, .slice (some ⟨be, 0, none⟩) n n] 152)).alloc d).alloc e).alloc f).drew.heap[be]? = some (.cells (madeCells #[.bool false] n) 4 (0, 0)))
    (far : w.heap.size + 1 < bl ∧ w.heap.size + 1 < bm ∧ w.heap.size + 1 < be ∧ w.heap.size + 1 < w.heap.size + 1 + 1 ∧ bl ≠ bm ∧ bl ≠ be ∧ bm ≠ be ∧ w.heap.size + 1 + 1 ≠ bl ∧ w.heap.size + 1 + 1 ≠ bm ∧ w.heap.size + 1 + 1 ≠ be) :
    ∃ x y z u : Nat, Value.pointer (some ⟨w.heap.size + 1 + 1, 0, none⟩) = .pointer (some ⟨u, 0, none⟩) ∧ Surveyed w o cap n x y z u (((((((w.alloc a).alloc (.cells #[.slice none 0 0, .slice none 0 0, .slice none 0 0, .slice none 0 0] 152)).alloc (.cells #[.slice o n cap, .slice (some ⟨bl, 0, none⟩) n n, .slice (some ⟨bm, 0, none⟩) n n, .slice (some ⟨be, 0, none⟩) n n] 152)).alloc d).alloc e).alloc f).drew) :=
  ⟨bl, bm, be, _, rfl, six_below _ _ _ _ _ _ _, six_2 _ _ _ _ _ _ _, six_1 _ _ _ _ _ _ _, hl, hm, he, far⟩
theorem close3 {w : World} {o : Option Addr} {cap n bl bm be : Nat} {a c e f : Obj} (hl : ((((((w.alloc a).alloc (.cells #[.slice none 0 0, .slice none 0 0, .slice none 0 0, .slice none 0 0] 152)).alloc c).alloc (.cells #[.slice o n cap, .slice (some ⟨bl, 0, none⟩) n n, .slice (some ⟨bm, 0, none⟩) n n, .slice (some ⟨be, 0, none⟩) n n] 152)).alloc e).alloc f).drew.heap[bl]? = some (.cells (madeCells #[.bool false] n) 4 (0, 0))) (hm : ((((((w.alloc a).alloc (.cells #[.slice none 0 0, .slice none 0 0, .slice none 0 0, .slice none 0 0] 152)).alloc c).alloc (.cells #[.slice o n cap, .slice (some ⟨bl, 0, none⟩) n n, .slice (some ⟨bm, 0, none⟩) n n, .slice (some ⟨be, 0, none⟩) n n] 152)).alloc e).alloc f).drew.heap[bm]? = some (.cells (madeCells #[.bool false] n) 4 (0, 0))) (he : ((((((w.alloc a).alloc (.cells #[.slice none 0 0, .slice none 0 0, .slice none 0 0, .slice none 0 0] 152)).alloc c).alloc (.cells #[.slice o n cap, .slice (some ⟨bl, 0, none⟩) n n, .slice (some ⟨bm, 0, none⟩) n n, .slice (some ⟨be, 0, none⟩) n n] 152)).alloc e).alloc f).drew.heap[be]? = some (.cells (madeCells #[.bool false] n) 4 (0, 0)))
    (far : w.heap.size + 1 < bl ∧ w.heap.size + 1 < bm ∧ w.heap.size + 1 < be ∧ w.heap.size + 1 < w.heap.size + 1 + 1 + 1 ∧ bl ≠ bm ∧ bl ≠ be ∧ bm ≠ be ∧ w.heap.size + 1 + 1 + 1 ≠ bl ∧ w.heap.size + 1 + 1 + 1 ≠ bm ∧ w.heap.size + 1 + 1 + 1 ≠ be) :
    ∃ x y z u : Nat, Value.pointer (some ⟨w.heap.size + 1 + 1 + 1, 0, none⟩) = .pointer (some ⟨u, 0, none⟩) ∧ Surveyed w o cap n x y z u (((((((w.alloc a).alloc (.cells #[.slice none 0 0, .slice none 0 0, .slice none 0 0, .slice none 0 0] 152)).alloc c).alloc (.cells #[.slice o n cap, .slice (some ⟨bl, 0, none⟩) n n, .slice (some ⟨bm, 0, none⟩) n n, .slice (some ⟨be, 0, none⟩) n n] 152)).alloc e).alloc f).drew) :=
  ⟨bl, bm, be, _, rfl, six_below _ _ _ _ _ _ _, six_3 _ _ _ _ _ _ _, six_1 _ _ _ _ _ _ _, hl, hm, he, far⟩
theorem close4 {w : World} {o : Option Addr} {cap n bl bm be : Nat} {a c d f : Obj} (hl : ((((((w.alloc a).alloc (.cells #[.slice none 0 0, .slice none 0 0, .slice none 0 0, .slice none 0 0] 152)).alloc c).alloc d).alloc (.cells #[.slice o n cap, .slice (some ⟨bl, 0, none⟩) n n, .slice (some ⟨bm, 0, none⟩) n n, .slice (some ⟨be, 0, none⟩) n n] 152)).alloc f).drew.heap[bl]? = some (.cells (madeCells #[.bool false] n) 4 (0, 0))) (hm : ((((((w.alloc a).alloc (.cells #[.slice none 0 0, .slice none 0 0, .slice none 0 0, .slice none 0 0] 152)).alloc c).alloc d).alloc (.cells #[.slice o n cap, .slice (some ⟨bl, 0, none⟩) n n, .slice (some ⟨bm, 0, none⟩) n n, .slice (some ⟨be, 0, none⟩) n n] 152)).alloc f).drew.heap[bm]? = some (.cells (madeCells #[.bool false] n) 4 (0, 0))) (he : ((((((w.alloc a).alloc (.cells #[.slice none 0 0, .slice none 0 0, .slice none 0 0, .slice none 0 0] 152)).alloc c).alloc d).alloc (.cells #[.slice o n cap, .slice (some ⟨bl, 0, none⟩) n n, .slice (some ⟨bm, 0, none⟩) n n, .slice (some ⟨be, 0, none⟩) n n] 152)).alloc f).drew.heap[be]? = some (.cells (madeCells #[.bool false] n) 4 (0, 0)))
    (far : w.heap.size + 1 < bl ∧ w.heap.size + 1 < bm ∧ w.heap.size + 1 < be ∧ w.heap.size + 1 < w.heap.size + 1 + 1 + 1 + 1 ∧ bl ≠ bm ∧ bl ≠ be ∧ bm ≠ be ∧ w.heap.size + 1 + 1 + 1 + 1 ≠ bl ∧ w.heap.size + 1 + 1 + 1 + 1 ≠ bm ∧ w.heap.size + 1 + 1 + 1 + 1 ≠ be) :
    ∃ x y z u : Nat, Value.pointer (some ⟨w.heap.size + 1 + 1 + 1 + 1, 0, none⟩) = .pointer (some ⟨u, 0, none⟩) ∧ Surveyed w o cap n x y z u (((((((w.alloc a).alloc (.cells #[.slice none 0 0, .slice none 0 0, .slice none 0 0, .slice none 0 0] 152)).alloc c).alloc d).alloc (.cells #[.slice o n cap, .slice (some ⟨bl, 0, none⟩) n n, .slice (some ⟨bm, 0, none⟩) n n, .slice (some ⟨be, 0, none⟩) n n] 152)).alloc f).drew) :=
  ⟨bl, bm, be, _, rfl, six_below _ _ _ _ _ _ _, six_4 _ _ _ _ _ _ _, six_1 _ _ _ _ _ _ _, hl, hm, he, far⟩
theorem close5 {w : World} {o : Option Addr} {cap n bl bm be : Nat} {a c d e : Obj} (hl : ((((((w.alloc a).alloc (.cells #[.slice none 0 0, .slice none 0 0, .slice none 0 0, .slice none 0 0] 152)).alloc c).alloc d).alloc e).alloc (.cells #[.slice o n cap, .slice (some ⟨bl, 0, none⟩) n n, .slice (some ⟨bm, 0, none⟩) n n, .slice (some ⟨be, 0, none⟩) n n] 152)).drew.heap[bl]? = some (.cells (madeCells #[.bool false] n) 4 (0, 0))) (hm : ((((((w.alloc a).alloc (.cells #[.slice none 0 0, .slice none 0 0, .slice none 0 0, .slice none 0 0] 152)).alloc c).alloc d).alloc e).alloc (.cells #[.slice o n cap, .slice (some ⟨bl, 0, none⟩) n n, .slice (some ⟨bm, 0, none⟩) n n, .slice (some ⟨be, 0, none⟩) n n] 152)).drew.heap[bm]? = some (.cells (madeCells #[.bool false] n) 4 (0, 0))) (he : ((((((w.alloc a).alloc (.cells #[.slice none 0 0, .slice none 0 0, .slice none 0 0, .slice none 0 0] 152)).alloc c).alloc d).alloc e).alloc (.cells #[.slice o n cap, .slice (some ⟨bl, 0, none⟩) n n, .slice (some ⟨bm, 0, none⟩) n n, .slice (some ⟨be, 0, none⟩) n n] 152)).drew.heap[be]? = some (.cells (madeCells #[.bool false] n) 4 (0, 0)))
    (far : w.heap.size + 1 < bl ∧ w.heap.size + 1 < bm ∧ w.heap.size + 1 < be ∧ w.heap.size + 1 < w.heap.size + 1 + 1 + 1 + 1 + 1 ∧ bl ≠ bm ∧ bl ≠ be ∧ bm ≠ be ∧ w.heap.size + 1 + 1 + 1 + 1 + 1 ≠ bl ∧ w.heap.size + 1 + 1 + 1 + 1 + 1 ≠ bm ∧ w.heap.size + 1 + 1 + 1 + 1 + 1 ≠ be) :
    ∃ x y z u : Nat, Value.pointer (some ⟨w.heap.size + 1 + 1 + 1 + 1 + 1, 0, none⟩) = .pointer (some ⟨u, 0, none⟩) ∧ Surveyed w o cap n x y z u (((((((w.alloc a).alloc (.cells #[.slice none 0 0, .slice none 0 0, .slice none 0 0, .slice none 0 0] 152)).alloc c).alloc d).alloc e).alloc (.cells #[.slice o n cap, .slice (some ⟨bl, 0, none⟩) n n, .slice (some ⟨bm, 0, none⟩) n n, .slice (some ⟨be, 0, none⟩) n n] 152)).drew) :=
  ⟨bl, bm, be, _, rfl, six_below _ _ _ _ _ _ _, six_5 _ _ _ _ _ _ _, six_1 _ _ _ _ _ _ _, hl, hm, he, far⟩
theorem ints_made (W : World) (n : Nat) : IntsAt (W.alloc (.cells (madeCells #[.int .i64 0] n) 3)) W.heap.size (List.replicate n 0) := by
  rw [made_ints]
  exact heap_new W _
theorem sv_cells {W : World} {bs : Nat} {a b c d : Value} {t : TypeId} (h : W.heap[bs]? = some (.cells #[a, b, c, d] t (0, 0))) : W.cell? ⟨bs, 0, none⟩ = some a ∧ W.cell? ⟨bs, 1, none⟩ = some b ∧ W.cell? ⟨bs, 2, none⟩ = some c ∧ W.cell? ⟨bs, 3, none⟩ = some d := by
  refine ⟨?_, ?_, ?_, ?_⟩ <;> (rw [cell_of_heap h]; rfl)
theorem sv_free {W : World} {bs : Nat} {a b c d : Value} {t : TypeId} (h : W.heap[bs]? = some (.cells #[a, b, c, d] t (0, 0))) : W.frozen? ⟨bs, 0, none⟩ = false ∧ W.frozen? ⟨bs, 1, none⟩ = false ∧ W.frozen? ⟨bs, 2, none⟩ = false ∧ W.frozen? ⟨bs, 3, none⟩ = false :=
  ⟨frozen_of_heap h 0, frozen_of_heap h 1, frozen_of_heap h 2, frozen_of_heap h 3⟩

set_option maxRecDepth 100000 in
set_option maxHeartbeats 8000000 in
theorem surveyOf_any (o : Option Addr) (cap : Nat) (ns : List NodeD) (w : World) (hF : FRd w o cap ns) (hkl : ∀ (i : Nat) (hi : i < ns.length), ns[i].kids.length ≤ 1099511627776) :
    Calls Tryz.prog 121 #[.agg #[.slice o ns.length cap]] w fun e w' => ∃ bl bm be : Nat, e = .returned (surveyO o cap ns.length bl bm be) ∧ Below w.heap.size w w' ∧ BoolsAt w' bl (lookAll ns ns.length).1 ∧ BoolsAt w' bm (lookAll ns ns.length).2 ∧ BoolsAt w' be (climbAll ns ns.length).2 := by
  have hle := hF.len
  have hmk := make_bools ns.length hle
  have Hmk2 := hid (make_ints ns.length hle)
  have Hbase : Hid ((w.alloc (.cells #[.slice o ns.length cap] 24)).cell? ⟨w.heap.size, 0, none⟩ = some (.slice o ns.length cap)) := by
    have : (w.alloc (.cells #[.slice o ns.length cap] 24)).cell? ⟨w.heap.size, 0, none⟩ = some (.slice o ns.length cap) := by simp
    exact this
  have HF := hid hF
  have Hkl := hid hkl
  clear hF hkl
  go_enter Tryz.func121, Tryz.ntmps121
  go_upto_region 2 with fail
  go_cut [4] (fun t wx => ∃ bl bm be bs : Nat, t = .pointer (some ⟨bs, 0, none⟩) ∧ Surveyed w o cap ns.length bl bm be bs wx)
  case first =>
    go_region_held (fun W => W.cell? ⟨w.heap.size, 0, none⟩ = some (.slice o ns.length cap)) (first | exact keep_dr (keep_al (keep_al (keep_al (keep_al Hbase.out)))) | exact keep_dr (keep_al (keep_al (keep_al (keep_al (keep_al Hbase.out))))) | go_keep) (fail)
    all_goals
      go_wp2_with fail
      go_meet
      first
        | refine close5 ?_ ?_ ?_ ?_
        | refine close4 ?_ ?_ ?_ ?_
        | refine close3 ?_ ?_ ?_ ?_
        | refine close2 ?_ ?_ ?_ ?_
      all_goals first | exact six_5 _ _ _ _ _ _ _ | exact six_4 _ _ _ _ _ _ _ | exact six_3 _ _ _ _ _ _ _ | exact six_2 _ _ _ _ _ _ _ | omega
  case rest =>
    obtain ⟨bl, bm, be, bs, rfl, hS⟩ := hcut
    obtain ⟨hbl, hsv, hrs, hl0, hm0, he0, f1, f2, f3, f4, d1, d2, d3, d4, d5, d6⟩ := hS
    have HbB := hid hbl
    have Hsv := hid hsv
    have Hrs := hid hrs
    have Hl0 := hid (bools_made hl0)
    have Hm0 := hid (bools_made hm0)
    have He0 := hid (bools_made he0)
    clear hbl hsv hrs hl0 hm0 he0 hmk Hbase
    have hz : lookAll ns 0 = (List.replicate ns.length false, List.replicate ns.length false) := rfl
    have s1 := Hl0.out.lt
    have s2 := Hm0.out.lt
    have s3 := He0.out.lt
    have s4 : bs < wc.heap.size := (Array.getElem?_eq_some_iff.1 Hsv.out).1
    go_wp2
    go_loopw [20] (fun q wr => ∃ k : Nat, k ≤ ns.length ∧ q = .int .i64 k ∧ Wrote [bl, bm] wc wr ∧ BoolsAt wr bl (lookAll ns k).1 ∧ BoolsAt wr bm (lookAll ns k).2) (fun q _ => ns.length - (RowKit.intOf q).toNat)
    case atStart => exact ⟨0, Nat.zero_le _, rfl, Wrote.refl _ _, Hl0.out, Hm0.out⟩
    case round =>
      obtain ⟨k, hk, rfl, hW, hL, hM⟩ := hrel
      have hWs := hW.size
      have hsvw : wr.heap[bs]? = _ := (hW.block bs s4 (by simp; omega)).trans Hsv.out
      have s5 : bs < wr.heap.size := by omega
      by_cases hlt : k < ns.length
      · obtain ⟨b, off, rfl, hFA⟩ := HF.out.at_ (by omega)
        have hBw : Below w.heap.size w wr := HbB.out.trans (hW.toBelow HbB.out.size (by intro x hx; simp at hx; omega))
        have hle2 := lookAll_len ns k hk
        have hsc := lookAll_succ ns k hlt
        have hLK := lookAtKids_any b off cap bl bm be k ns (lookAll ns k).1 (lookAll ns k).2 w wr hFA hBw hlt (Hkl.out k hlt) hL hM hle2.1 hle2.2 (by omega) (by omega) d1
        have HE : Hid (lookAll ns (k + 1) = lookTo ns k ns[k].kids ((lookAll ns k).1, (lookAll ns k).2) ns[k].kids.length) := hsc
        obtain ⟨c0, c1, c2, c3⟩ := sv_cells hsvw
        unfold surveyV at hLK
        generalize lookTo ns k ns[k].kids ((lookAll ns k).1, (lookAll ns k).2) ns[k].kids.length = r at *
        have HW := hid hW
        clear hsc hle2 hBw hFA hL hM hW hsvw hz Hl0 Hm0
        go_wp2_with fail
        refine hLK.mono ?_
        rintro e v2 ⟨rfl, hW2, hL2, hM2⟩
        have HW2 : Hid (Wrote [bl, bm] wc v2) := HW.out.trans hW2
        have HL2 := hid hL2
        have HM2 := hid hM2
        clear hW2 hL2 hM2 hLK c0 c1 c2 c3
        go_wp2
        go_roundw
        case rel => exact ⟨k + 1, by omega, by go_num, HW2.out, by rw [HE.out]; exact HL2.out, by rw [HE.out]; exact HM2.out⟩
        case measure => simp [RowKit.intOf]; omega
      · have hkn : k = ns.length := by omega
        subst hkn
        have HW := hid hW
        have HL := hid hL
        have HM := hid hM
        have HsvW := hid hsvw
        have hrsw : wr.heap[w.heap.size + 1]? = _ := (hW.block (w.heap.size + 1) (by omega) (by simp; omega)).trans Hrs.out
        have HrsW := hid hrsw
        have HeW : Hid (BoolsAt wr be (List.replicate ns.length false)) := (hW.block be s3 (by simp; omega)).trans He0.out
        have HbW : Hid (Below w.heap.size w wr) := HbB.out.trans (hW.toBelow HbB.out.size (by intro x hx; simp at hx; omega))
        have hmk2 := Hmk2.out wr
        clear hW hL hM hsvw hrsw hz Hl0 Hm0 Hsv Hrs He0 HbB
        go_wp2
        have HsI := hid (ints_made wr ns.length)
        have hbA : Below wr.heap.size wr (wr.alloc (.cells (madeCells #[.int .i64 0] ns.length) 3)) := (Below.refl _ wr).alloc (Nat.le_refl _) _
        have HeA := hid (HeW.out.later hbA)
        have HlA := hid (HL.out.later hbA)
        have HmA := hid (HM.out.later hbA)
        have hsvA : (wr.alloc (.cells (madeCells #[.int .i64 0] ns.length) 3)).heap[bs]? = _ := (hbA.block bs s5).trans HsvW.out
        have hrsA : (wr.alloc (.cells (madeCells #[.int .i64 0] ns.length) 3)).heap[w.heap.size + 1]? = _ := (hbA.block (w.heap.size + 1) (by omega)).trans HrsW.out
        have HsvA := hid hsvA
        have HrsA := hid hrsA
        have hB0 : Below w.heap.size w (wr.alloc (.cells (madeCells #[.int .i64 0] ns.length) 3)) := HbW.out.trans (hbA.mono HbW.out.size)
        have HB0 := hid hB0
        have s6 : (wr.alloc (.cells (madeCells #[.int .i64 0] ns.length) 3)).heap.size = wr.heap.size + 1 := by simp
        have hg0 : bl < wr.heap.size ∧ bm < wr.heap.size ∧ be < wr.heap.size := ⟨by omega, by omega, by omega⟩
        clear hbA hsvA hrsA hB0 hmk2 Hmk2 HeW HL HM HsvW HrsW HbW HW hWs
        generalize wr.alloc (.cells (madeCells #[.int .i64 0] ns.length) 3) = W5 at *
        generalize wr.heap.size = g at *
        obtain ⟨g1, g2, g3⟩ := hg0
        go_loopw [31] (fun q wy => ∃ k : Nat, k ≤ ns.length ∧ q = .int .i64 k ∧ Wrote [be, g] W5 wy ∧ IntsAt wy g (climbAll ns k).1 ∧ BoolsAt wy be (climbAll ns k).2) (fun q _ => ns.length - (RowKit.intOf q).toNat)
        case atStart => exact ⟨0, Nat.zero_le _, rfl, Wrote.refl _ _, HsI.out, HeA.out⟩
        case round =>
          obtain ⟨k, hk, rfl, hW, hS, hE⟩ := hrel
          have hWs := hW.size
          have hsvw : wr.heap[bs]? = _ := (hW.block bs (by omega) (by simp; omega)).trans HsvA.out
          clear HsI HeA
          by_cases hlt : k < ns.length
          · obtain ⟨b, off, rfl, hFA⟩ := HF.out.at_ (by omega)
            have hBw : Below w.heap.size w wr := HB0.out.trans (hW.toBelow HB0.out.size (by intro x hx; simp at hx; omega))
            have hle2 := climbAll_len ns k
            have hCL := climb_any b off cap bl bm be g k ns (climbAll ns k).2 (climbAll ns k).1 w wr hFA hBw hlt hE hS hle2.2 hle2.1 (by omega) (by omega) (by omega) (climbAll_fresh ns k)
            have HE2 : Hid (climbAll ns (k + 1) = climbD ns ((k : Int) + 1) (climbAll ns k).1 (climbAll ns k).2) := by rw [climbAll]; exact rfl
            obtain ⟨c0, c1, c2, c3⟩ := sv_cells hsvw
            unfold surveyV at hCL
            generalize climbD ns ((k : Int) + 1) (climbAll ns k).1 (climbAll ns k).2 = r at *
            have HW := hid hW
            clear hle2 hBw hFA hS hE hW hsvw
            go_wp2_with fail
            refine hCL.mono ?_
            rintro e v2 ⟨rfl, hW2, hS2, hE2⟩
            have HW2 : Hid (Wrote [be, g] W5 v2) := HW.out.trans hW2
            have HS2 := hid hS2
            have HEE2 := hid hE2
            clear hW2 hS2 hE2 hCL c0 c1 c2 c3
            go_wp2
            go_roundw
            case rel => exact ⟨k + 1, by omega, by go_num, HW2.out, by rw [HE2.out]; exact HS2.out, by rw [HE2.out]; exact HEE2.out⟩
            case measure => simp [RowKit.intOf]; omega
          · have hkn : k = ns.length := by omega
            subst hkn
            obtain ⟨c0, c1, c2, c3⟩ := sv_cells hsvw
            have hrsw : wr.heap[w.heap.size + 1]? = _ := (hW.block (w.heap.size + 1) (by omega) (by simp; omega)).trans HrsA.out
            obtain ⟨r0, r1, r2, r3⟩ := sv_cells hrsw
            obtain ⟨z0, z1, z2, z3⟩ := sv_free hrsw
            have HlZ : Hid (BoolsAt wr bl (lookAll ns ns.length).1) := (hW.block bl (by omega) (by simp; omega)).trans HlA.out
            have HmZ : Hid (BoolsAt wr bm (lookAll ns ns.length).2) := (hW.block bm (by omega) (by simp; omega)).trans HmA.out
            have HeZ := hid hE
            have HB : Hid (Below w.heap.size w wr) := HB0.out.trans (hW.toBelow HB0.out.size (by intro x hx; simp at hx; omega))
            have hn4 : ¬ bs = w.heap.size + 1 := by omega
            clear hW hS hE hsvw hrsw
            go_wp2
            exact bodyPost_ret (v := surveyO o cap ns.length bl bm be) (by simp [results, Tryz.results121, go_sem, surveyO, r0, r1, r2, r3]) rfl ⟨bl, bm, be, rfl, (((HB.out.setCell (Nat.le_succ _) _).setCell (Nat.le_succ _) _).setCell (Nat.le_succ _) _).setCell (Nat.le_succ _) _, (((HlZ.out.far _ _ (by omega)).far _ _ (by omega)).far _ _ (by omega)).far _ _ (by omega), (((HmZ.out.far _ _ (by omega)).far _ _ (by omega)).far _ _ (by omega)).far _ _ (by omega), (((HeZ.out.far _ _ (by omega)).far _ _ (by omega)).far _ _ (by omega)).far _ _ (by omega)⟩
end Go.Proofs.YtilacgcjbdkphaaGreat
