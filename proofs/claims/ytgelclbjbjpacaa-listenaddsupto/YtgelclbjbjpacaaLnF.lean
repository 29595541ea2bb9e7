/- listen: the map of marks, cell by cell. -/
import Derived.Test.YtgelclbjbjpacaaLnB
import Derived.WideKeyEntry
import Derived.Maps.Keyed
import Derived.DeepKeys4
import Derived.Carry
import Derived.Lib.Strings
namespace Go.Proofs.Ytgelclbjbjpacaa
open Go.RowKit Go.Lib Go.Shelf Go.Maps Go.MapKept Go.ChangeMaps

theorem Try.lnLaidOut : laidOutB Try.prog = true := by kernel_rfl
theorem markRow : (60 : TypeId) < Try.prog.types.size := of_decide_eq_true (by kernel_rfl)
theorem markWide : (match Try.prog.underlying 60 with | some (.array _ _) | some (.struct _) => true | _ => false) = true := by kernel_rfl
theorem markLaw : Keyed Try.prog 60 := Keyed.of_law (deep_law_laid Try.lnLaidOut (m := 3) (by omega) markRow (by kernel_rfl) markWide)
theorem seenT : Try.prog.underlying 65 = some (.map 60 3) := by kernel_rfl
theorem seenZero (w : World) : (zeroValue 3).run Try.prog w = .ok (.int .i64 0) w := by kernel_rfl
/-- A listener's numbers are numbers of the machine, its type a text of it. -/
structure WfL (x : LstD) : Prop where
  node : (Lit.int .i64 x.node).wf = true
  cb : (Lit.int .i64 x.cb).wf = true
  kind : x.kind.size ≤ maxLen
theorem markKeyType : Try.prog.keyType 60 = true := by kernel_rfl
theorem markKey {x : LstD} (h : WfL x) : ∃ l, keyOf Try.prog 60 (markV x) = some l := by
  have hs := Try.underlying60
  have hc : Try.prog.cellsOf 60 = 4 := by kernel_rfl
  have c1 : Try.prog.cellsOf 3 = 1 := by kernel_rfl
  have c2 : Try.prog.cellsOf 9 = 1 := by kernel_rfl
  have c3 : Try.prog.cellsOf 4 = 1 := by kernel_rfl
  unfold keyOf markV
  rw [hs]
  simp only [markKeyType, Bool.true_and]
  have hf : Value.formed Try.prog 60 (.agg #[.int .i64 x.node, .string x.kind, .int .i64 x.cb, .bool x.cap]) = true := by
    simp [Value.formed, hs, hc]
  rw [if_pos hf]
  have n0 := h.node
  have n1 := h.cb
  have n2 := h.kind
  obtain ⟨K, hK⟩ : ∃ K, Try.prog.types.size = K + 1 := ⟨Try.prog.types.size - 1, (Nat.succ_pred_eq_of_pos (Nat.lt_of_le_of_lt (Nat.zero_le _) markRow)).symm⟩
  rw [hK]
  simp [Program.keyLits, hs, hc, c1, c2, c3, Value.cells, Try.underlying3, Try.underlying9, Try.underlying4, n0, n1, n2]
theorem bytes_toList {a b : ByteArray} : a.toList = b.toList ↔ a = b := by
  constructor
  · intro h
    rw [Lib.toList_data, Lib.toList_data] at h
    obtain ⟨⟨a⟩⟩ := a
    obtain ⟨⟨b⟩⟩ := b
    simp only at h
    rw [h]
  · intro h; rw [h]
theorem markV_iff (x y : LstD) : markV x = markV y ↔ markEq x y = true := by
  unfold markV markEq
  simp only [Value.agg.injEq, Bool.and_eq_true, beq_iff_eq, bytes_toList]
  constructor
  · intro h
    have h := congrArg Array.toList h
    simp at h
    exact h
  · rintro ⟨h1, h2, h3, h4⟩
    rw [h1, h2, h3, h4]
/-- The entries of a map of marks, into which listeners were put one behind the other. -/
def seenE : List LstD → Nat → List MapEntry
  | [], _ => []
  | x :: r, k => ⟨markV x, .int .i64 x.id, k⟩ :: seenE r (k + 1)
theorem seenE_snoc (x : LstD) : ∀ (l : List LstD) (k : Nat), seenE (l ++ [x]) k = seenE l k ++ [⟨markV x, .int .i64 x.id, k + l.length⟩]
  | [], k => rfl
  | y :: r, k => by
    rw [List.cons_append, seenE, seenE_snoc x r (k + 1), seenE, List.cons_append, List.length_cons, show k + 1 + r.length = k + (r.length + 1) by omega]
theorem seenE_mem : ∀ (l : List LstD) (k : Nat) (e : MapEntry), e ∈ seenE l k → ∃ y ∈ l, e.key = markV y ∧ e.val = .int .i64 y.id ∧ e.born < k + l.length
  | [], _, _, h => by cases h
  | x :: r, k, e, h => by
    rcases List.mem_cons.1 h with rfl | h
    · exact ⟨x, List.mem_cons_self .., rfl, rfl, by simp⟩
    · obtain ⟨y, hy, h1, h2, h3⟩ := seenE_mem r (k + 1) e h
      exact ⟨y, List.mem_cons_of_mem _ hy, h1, h2, by rw [List.length_cons]; omega⟩
theorem seenE_has : ∀ (l : List LstD) (k : Nat) (y : LstD), y ∈ l → ∃ e ∈ seenE l k, e.key = markV y
  | [], _, _, h => by cases h
  | x :: r, k, y, h => by
    rcases List.mem_cons.1 h with rfl | h
    · exact ⟨_, List.mem_cons_self .., rfl⟩
    · obtain ⟨e, he, h1⟩ := seenE_has r (k + 1) y h
      exact ⟨e, List.mem_cons_of_mem _ he, h1⟩
/-- Block B is the map of marks of these listeners. -/
def SeenAt (w : World) (B : Nat) (l : List LstD) : Prop := w.heap[B]? = some (.map (seenE l 0).toArray l.length)
section
variable {w : World} {B : Nat} {l : List LstD} {x : LstD}
theorem seen_find (hl : ∀ y ∈ l, WfL y) (hx : WfL x) :
    ((Instr.findKey 60 (markV x) (seenE l 0)).run Try.prog w = .ok none w ∧ l.any (markEq x) = false) ∨
    (∃ (j : Nat) (y : LstD), (Instr.findKey 60 (markV x) (seenE l 0)).run Try.prog w = .ok (some (j, .int .i64 y.id)) w ∧ y ∈ l ∧ l.any (markEq x) = true) := by
  obtain ⟨kx, hkx⟩ := markKey hx
  rcases markLaw.find w hkx (seenE l 0) (fun e he => by
    obtain ⟨y, hy, h1, _⟩ := seenE_mem l 0 e he
    rw [h1]
    exact markKey (hl y hy)) with ⟨h1, h2⟩ | ⟨j, e, h1, h2, h3⟩
  · refine .inl ⟨h1, ?_⟩
    rw [List.any_eq_false]
    intro y hy hm
    obtain ⟨e, he, hk⟩ := seenE_has l 0 y hy
    exact h2 e he (by rw [hk]; exact ((markV_iff x y).2 hm).symm)
  · obtain ⟨y, hy, k1, k2, _⟩ := seenE_mem l 0 e (List.mem_of_getElem? h2)
    refine .inr ⟨j, y, by rw [h1, k2], hy, ?_⟩
    rw [List.any_eq_true]
    exact ⟨y, hy, (markV_iff x y).1 (by rw [← h3, k1])⟩
theorem seen_look_no (hm : SeenAt w B l) (hl : ∀ y ∈ l, WfL y) (hx : WfL x) (hn : l.any (markEq x) = false) :
    (Instr.lookup 65 (.map (some B)) (markV x) false).run Try.prog w = .ok (.int .i64 0) w := by
  obtain ⟨kx, hkx⟩ := markKey hx
  rcases seen_find (w := w) hl hx with ⟨h1, _⟩ | ⟨_, _, _, _, h⟩
  · simp [Instr.lookup, run_underlying seenT, MapKept.run_getObj_map hm, markLaw.check w _ hkx, h1, Result.andThen]
  · rw [hn] at h; cases h
theorem seen_look_yes (hm : SeenAt w B l) (hl : ∀ y ∈ l, WfL y) (hx : WfL x) (hn : l.any (markEq x) = true) :
    ∃ y ∈ l, (Instr.lookup 65 (.map (some B)) (markV x) false).run Try.prog w = .ok (.int .i64 y.id) w := by
  obtain ⟨kx, hkx⟩ := markKey hx
  rcases seen_find (w := w) hl hx with ⟨_, h⟩ | ⟨j, y, h1, hy, _⟩
  · rw [hn] at h; cases h
  · exact ⟨y, hy, by simp [Instr.lookup, run_underlying seenT, MapKept.run_getObj_map hm, markLaw.check w _ hkx, h1, Result.andThen]⟩
/-- The entry is made .. -/
def seenN (l : List LstD) (x : LstD) : Array MapEntry := (seenE l 0).toArray.push ⟨markV x, .int .i64 0, l.length⟩
theorem seen_entry (hm : SeenAt w B l) (hl : ∀ y ∈ l, WfL y) (hx : WfL x) (hn : l.any (markEq x) = false) :
    (Instr.mapEntry 65 (.map (some B)) (markV x)).run Try.prog w = .ok (.tuple #[.int .i64 0, .int .i64 (l.length : Int)]) (setBlock w B (.map (seenN l x) (l.length + 1))) := by
  obtain ⟨kx, hkx⟩ := markKey hx
  rcases seen_find (w := w) hl hx with ⟨h1, _⟩ | ⟨_, _, _, _, h⟩
  · simp [Instr.mapEntry, run_underlying seenT, MapKept.run_getObj_map hm, markLaw.check w _ hkx, h1, MapKept.run_setObj_map _ hm, Result.andThen, setBlock, seenN, goInt]
  · rw [hn] at h; cases h
/-- .. and filled. -/
theorem seen_store {w2 : World} (h : w2.heap[B]? = some (.map (seenN l x) (l.length + 1))) :
    (Instr.entryStore 65 (.map (some B)) (.int .i64 (l.length : Int)) (.int .i64 x.id)).run Try.prog w2 = .ok () (setBlock w2 B (.map (seenE (l ++ [x]) 0).toArray (l ++ [x]).length)) := by
  have hi : (seenN l x).findIdx? (fun e => ((e.born : Nat) : Int) == ((l.length : Nat) : Int)) = some l.length := by
    rw [WideElems.findIdx_arr]
    unfold seenN
    rw [Array.toList_push, List.findIdx?_append]
    have hno : (seenE l 0).findIdx? (fun e => ((e.born : Nat) : Int) == ((l.length : Nat) : Int)) = none := by
      rw [List.findIdx?_eq_none_iff]
      intro e he
      obtain ⟨_, _, _, _, hb⟩ := seenE_mem l 0 e he
      simp only [beq_eq_false_iff_ne, ne_eq, Int.natCast_inj]
      omega
    have hlen : ∀ (l : List LstD) (k : Nat), (seenE l k).length = l.length := fun l => by
      induction l with
      | nil => intro k; rfl
      | cons y r ih => intro k; rw [seenE, List.length_cons, ih, List.length_cons]
    simp [hno, hlen]
  have hmod : (seenN l x).modify l.length (fun e => { e with val := .int .i64 x.id }) = (seenE (l ++ [x]) 0).toArray := by
    have hlen : ∀ (l : List LstD) (k : Nat), (seenE l k).length = l.length := fun l => by
      induction l with
      | nil => intro k; rfl
      | cons y r ih => intro k; rw [seenE, List.length_cons, ih, List.length_cons]
    apply Array.ext'
    unfold seenN
    rw [Array.toList_modify, Array.toList_push]
    have := WideElems.modify_last (fun e : MapEntry => { e with val := .int .i64 x.id }) ⟨markV x, .int .i64 0, l.length⟩ (seenE l 0)
    rw [hlen] at this
    simp only [this]
    rw [seenE_snoc]
    simp
  simp [Instr.entryStore, MapKept.run_getObj_map h, asInt, asIntOf, hi, hmod, MapKept.run_setObj_map _ h, Result.andThen, setBlock]
end
end Go.Proofs.Ytgelclbjbjpacaa
