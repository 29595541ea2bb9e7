/- What lies in a node (listOf for kids; All). -/
import Derived.Test.YthkjkcojbepfmaaFList
import Derived.Laws.EntriesVeiled
namespace Go.Proofs.Ythkjkcojbepfmaa
open Go.RowKit Go.Lib Go.Shelf

/-- A node and what lies in it, in tree order. -/
def allD (ns : List NodeD) (x : Int) : List Int := belowF (kidsD ns) (ns.length + 1) x

set_option maxRecDepth 100000 in
set_option maxHeartbeats 4000000 in
theorem listK_any (b off cap : Nat) (x : Int) (ns : List NodeD) (w : World) (hR : RightF ns) (hF : FAt w b off cap ns) (hx : thereB ns.length x = true) (hkl : ∀ (i : Nat) (hi : i < ns.length), ns[i].kids.length ≤ 1099511627776) (hlen : (allD ns x).length ≤ 1099511627776) :
    Calls Try.prog 49 #[forestV b off cap ns.length, .int .i64 x, .func (.func 50) #[] #[]] w fun e w' => ∃ v, e = .returned v ∧ w'.ownsRow w.heap.size 3 1 v (allD ns x).length ((allD ns x).map (Value.int .i64)) ∧ Below w.heap.size w w' := by
  have HV : Hid (∀ W : World, VisitAt W b off cap ns.length 50 (w.heap.size + 1 + 1) (w.heap.size + 1) w.heap.size (w.heap.size + 1 + 1 + 1) → ListBox W w.heap.size (w.heap.size + 1 + 1) [] → Below w.heap.size w W → _) := fun W h1 h2 h3 => visitK_any b off cap ns w hR hF hkl (w.heap.size + 1 + 1) (w.heap.size + 1) w.heap.size (w.heap.size + 1 + 1 + 1) (by omega) (by omega) (by omega) (by omega) (ns.length + 1) x [] W hx (by omega) (by rw [List.length_nil, Nat.zero_add]; exact hlen) h1 h2 h3
  clear hF hR hkl hx
  unfold forestV allD at *
  generalize belowF (kidsD ns) (ns.length + 1) x = T at *
  have b0 := Boxed.new w 24 (.slice (some ⟨b, off, none⟩) ns.length cap)
  have b1 := Boxed.new (w.alloc (.cells #[.slice (some ⟨b, off, none⟩) ns.length cap] 24)) 101 (.func (.func 50) #[] #[])
  have b2 := Boxed.new ((w.alloc (.cells #[.slice (some ⟨b, off, none⟩) ns.length cap] 24)).alloc (.cells #[.func (.func 50) #[] #[]] 101)) 50 (.slice none 0 0)
  have b3 := Boxed.new (((w.alloc (.cells #[.slice (some ⟨b, off, none⟩) ns.length cap] 24)).alloc (.cells #[.func (.func 50) #[] #[]] 101)).alloc (.cells #[.slice none 0 0] 50)) 115 (.func (.func 59) #[] #[.pointer (some ⟨w.heap.size + 1 + 1, 0, none⟩), .pointer (some ⟨w.heap.size + 1, 0, none⟩), .pointer (some ⟨w.heap.size, 0, none⟩), .pointer (some ⟨w.heap.size + 1 + 1 + 1, 0, none⟩)])
  simp only [World.size_alloc] at b1 b2 b3
  have HA : Hid (VisitAt (((((w.alloc (.cells #[.slice (some ⟨b, off, none⟩) ns.length cap] 24)).alloc (.cells #[.func (.func 50) #[] #[]] 101)).alloc (.cells #[.slice none 0 0] 50)).alloc (.cells #[.func (.func 59) #[] #[.pointer (some ⟨w.heap.size + 1 + 1, 0, none⟩), .pointer (some ⟨w.heap.size + 1, 0, none⟩), .pointer (some ⟨w.heap.size, 0, none⟩), .pointer (some ⟨w.heap.size + 1 + 1 + 1, 0, none⟩)]] 115))) b off cap ns.length 50 (w.heap.size + 1 + 1) (w.heap.size + 1) w.heap.size (w.heap.size + 1 + 1 + 1)) :=
    ⟨(b1.alloc _).alloc _, ((b0.alloc _).alloc _).alloc _, b3⟩
  have HL : Hid (ListBox (((((w.alloc (.cells #[.slice (some ⟨b, off, none⟩) ns.length cap] 24)).alloc (.cells #[.func (.func 50) #[] #[]] 101)).alloc (.cells #[.slice none 0 0] 50)).alloc (.cells #[.func (.func 59) #[] #[.pointer (some ⟨w.heap.size + 1 + 1, 0, none⟩), .pointer (some ⟨w.heap.size + 1, 0, none⟩), .pointer (some ⟨w.heap.size, 0, none⟩), .pointer (some ⟨w.heap.size + 1 + 1 + 1, 0, none⟩)]] 115))) w.heap.size (w.heap.size + 1 + 1) []) :=
    ⟨_, b2.alloc _, World.ownsRow_nil _ _ _ _⟩
  have HB : Hid (Below w.heap.size w (((((w.alloc (.cells #[.slice (some ⟨b, off, none⟩) ns.length cap] 24)).alloc (.cells #[.func (.func 50) #[] #[]] 101)).alloc (.cells #[.slice none 0 0] 50)).alloc (.cells #[.func (.func 59) #[] #[.pointer (some ⟨w.heap.size + 1 + 1, 0, none⟩), .pointer (some ⟨w.heap.size + 1, 0, none⟩), .pointer (some ⟨w.heap.size, 0, none⟩), .pointer (some ⟨w.heap.size + 1 + 1 + 1, 0, none⟩)]] 115)))) :=
    (((((Below.refl _ w).alloc (Nat.le_refl _) _).alloc (by simp) _).alloc (by simp; omega) _).alloc (by simp; omega) _)
  have hV := HV.out _ HA.out HL.out HB.out
  clear HV HA HL HB b0 b1 b2 b3
  go_enter Try.func49, Try.ntmps49
  go_wp2_with fail
  refine hV.mono ?_
  clear hV
  rintro e v1 ⟨⟨u, rfl⟩, hA, ⟨v, hv, hrow⟩, hB⟩
  have c1 := hv.cell
  have HR := hid hrow
  have HB := hid hB
  clear hA hv hrow hB
  go_wp2
  exact bodyPost_ret (v := v) (by simp [results, Try.results49, go_sem]) rfl ⟨v, rfl, HR.out, HB.out⟩
end Go.Proofs.Ythkjkcojbepfmaa
