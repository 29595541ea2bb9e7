/- Where the arguments hold at most 1048576 values and letters the law NamesParts answers true: Split, Qualified and Validate answer what the document says. -/
import Derived.Test.YtipkdbhdpmkjcabDoorPartsW
import Derived.Test.YtipkdbhdpmkjcabDoorLaidNames
import Derived.Test.YtipkdbhdpmkjcabDoorRows
import Derived.Test.YtipkdbhdpmkjcabDoorTie
import Derived.Test.YtipkdbhdpmkjcabDoorCards
import Derived.Test.YtipkdbhdpmkjcabDoorOpenName
import Derived.ProofKit
import Derived.SizedLaws
import Derived.Lay
import Derived.LaidOnce
import Derived.SevenTiedAt
import Derived.OpenShut
import Derived.JoinedCond
import Derived.Deep.DeepHandedRow
namespace Go.Proofs.YtipkdbhdpmkjcabDoor
open Go.RowKit Go.Lib Go.ChangeShapes Go.WideShapes Go.ChangeAt
open Go.ChangeMaps (open_string shut_string)

theorem Tryd.ownNamesPartsU : ownKnob Tryd.prog.godebug = none := by kernel_rfl

theorem namesParts_reads (os : Os) {H : Type} (enc : TypeId × Value → H) : ∃ places, DataW.whole enc Tryd.prog ((World.laidAll Tryd.prog os Rows.namesPartsUptoRow.laid).forCall (fun _ _ => 0) ⟨#[], #[.string ⟨#[]⟩, .agg #[.string ⟨#[]⟩, .string ⟨#[]⟩, .string ⟨#[]⟩]], []⟩).memory Tryd.f5.params.toList Rows.namesPartsSpec.vars false #[(.string ⟨#[]⟩ : Value), (.agg #[.string ⟨#[]⟩, .string ⟨#[]⟩, .string ⟨#[]⟩] : Value)].toList 8 = some ([.lit (.string []), .agg [.lit (.string []), .lit (.string []), .lit (.string [])]], [], places) :=
  ⟨[], by kernel_rfl⟩

set_option maxRecDepth 100000 in
theorem namesParts_lifted (os : Os) (started : os.Started) (H : Type) (enc : TypeId × Value → H) (F : Stop.Interp) :
    ReturnsInHanded {} Tryd.checked os 5 .any ((Rows.OpenSpec.upto Rows.namesPartsSpec).preRow enc Tryd.prog Tryd.f5 Rows.namesPartsUptoRow.domain false Rows.namesPartsUptoRow.laid) (((Rows.OpenSpec.upto Rows.namesPartsSpec).at F).post enc Tryd.prog Tryd.f5 false true false false) := by
  obtain ⟨places, hx⟩ := namesParts_reads os enc
  have hok : Input.okWideB Tryd.checked.prog ((World.laidAll Tryd.prog os Rows.namesPartsUptoRow.laid).forCall (fun _ _ => 0) ⟨#[], #[.string ⟨#[]⟩, .agg #[.string ⟨#[]⟩, .string ⟨#[]⟩, .string ⟨#[]⟩]], []⟩) 5 ⟨#[], #[.string ⟨#[]⟩, .agg #[.string ⟨#[]⟩, .string ⟨#[]⟩, .string ⟨#[]⟩]], []⟩ = true := by kernel_rfl
  refine returnsInHanded_of_row (C := Tryd.checked) (s := Rows.OpenSpec.upto Rows.namesPartsSpec) Tryd.ownNamesPartsU started (by kernel_rfl) Tryd.func5
    ⟨World.laidAll Tryd.prog os Rows.namesPartsUptoRow.laid, fun _ _ => 0, ⟨#[], #[.string ⟨#[]⟩, .agg #[.string ⟨#[]⟩, .string ⟨#[]⟩, .string ⟨#[]⟩]], []⟩, World.laidAll_os _ _ _, World.shaped_of_ZipB (by kernel_rfl) (by kernel_rfl), (Input.okWide_of_okWideB (base := 0) hok).1, (Input.okWide_of_okWideB hok).2,
      OpenSpec.preRow_of_cond 8 hx (by kernel_rfl) (fun k hk => by cases hk; kernel_rfl) (by kernel_rfl) (laidMet_laidAll _ (by kernel_rfl) (by kernel_rfl)), by simp [Assume.holds]⟩ ?_
  intro W base args ds gs before hval0 hW _ hcond _ hL _ _
  have hk := hcond _ rfl
  have hval : ∀ (j : Nat) t v, Tryd.f5.params[j]? = some t → args[j]? = some v → Value.okWide Tryd.prog W .any base t v := hval0
  have hW' := hW
  obtain ⟨p, q, hA0, hV, rfl, _, _⟩ := hW
  have hA : DataW.TrodAll enc Tryd.prog W 0 (fun _ => true) true Tryd.f5.params.toList args.toList ds p := hA0
  rw [Tryd.params5] at hA hval
  obtain ⟨v0, v1, d0, d1, p0, p1, rfl, rfl, rfl, h0, h1⟩ := trodAll_two hA
  obtain ⟨rfl, rfl⟩ := trodVars_none hV
  obtain ⟨x0, rfl, rfl, rfl, wx0⟩ := open_string Tryd.underlying9 (hval 0 9 v0 rfl rfl) h0
  obtain ⟨a1, p1b, l1, wa1, wp1, wl1, rfl, rfl, rfl⟩ := open_name (hval 1 26 v1 rfl rfl) h1
  simp only [List.append_nil] at hW' hk
  have z0 : x0.size ≤ 17592186044416 := by have h := of_decide_eq_true hk; simp [Rows.uptoBulkAll, Rows.uptoBulk] at h; rw [Lib.size_eq]; simp; omega
  have za1 : a1.size ≤ 140737488351232 := by have h := of_decide_eq_true hk; simp [Rows.uptoBulkAll, Rows.uptoBulk] at h; rw [Lib.size_eq]; simp; omega
  have zp1 : p1b.size ≤ 140737488351232 := by have h := of_decide_eq_true hk; simp [Rows.uptoBulkAll, Rows.uptoBulk] at h; rw [Lib.size_eq]; simp; omega
  have zl1 : l1.size ≤ 140737488351232 := by have h := of_decide_eq_true hk; simp [Rows.uptoBulkAll, Rows.uptoBulk] at h; rw [Lib.size_eq]; simp; omega
  rw [MakeChecks.laidMetH_plain _ _ _ (by kernel_rfl)] at hL
  refine (partsLaw x0 a1 p1b l1 W z0 za1 zp1 zl1 (laid_of_met hL)).mono fun e W' ⟨he, hb⟩ => ?_
  subst he
  exact ⟨_, rfl, _, _, _, [], [], [], hW', trodAll_mk1 (shut_bool Tryd.underlying4 _), trodAll_mk2 (shut_string Tryd.underlying9 wx0) (shut_name wa1 wp1 wl1), rfl, hb.frame _, fun h => by cases h⟩

theorem namesParts_row : Rows.NamesPartsUptoSaid :=
  OpenClaim.holds_of_cond 5 Tryd.f5 rfl rfl rfl rfl rfl rfl rfl ⟨rfl, rfl, rfl, rfl, rfl⟩ rfl rfl rfl rfl rfl (by kernel_rfl) Tryd.func5 (by kernel_rfl)
    (of_decide_eq_true (by kernel_rfl)) (by unfold Func.isWrapper; first | (rw [if_pos (by decide +kernel)]; kernel_rfl) | (rw [if_neg (by decide +kernel)]; exact ⟨rfl, rfl⟩))
    (fun os started H enc _ F => by rw [OpenClaim.pre_eq_preRow]; exact namesParts_lifted os started H enc F)

theorem namesParts_card : Rows.NamesPartsUptoCardSaid :=
  Claim7.holds_tied_plain_at .later [] [.data, .data, .pinned] true (true, "6e904cf7df35218642bd6c0598ab57cdb639fef860118eb9b85981b625c362d9") false namesParts_row (fun _ h => by cases h) (by kernel_rfl) (fun _ h => by cases h) namesPartsUpto_row_tie rfl ⟨rfl, rfl⟩ (by kernel_rfl) rfl
    (fun f fn hf hfn => by
      obtain rfl : f = 5 := Option.some.inj ((show Tryd.prog.funcNamed "canopy/canopylaw02.NamesParts" = some 5 by kernel_rfl).symm.trans hf) |>.symm
      obtain rfl : fn = Tryd.f5 := (Option.some.inj (Tryd.func5.symm.trans hfn)).symm
      exact ⟨by kernel_rfl, fun j t ht => by
        rw [Tryd.params5] at ht
        have hm : t ∈ [9, 26] := by simpa using Array.mem_of_getElem? ht
        have hall : ([9, 26].all fun u => !Tryd.prog.wantsStandIn u) = true := by kernel_rfl
        exact (show Tryd.prog.wantsStandIn t = false by simpa using List.all_eq_true.1 hall t (by simpa using hm))⟩)
    (by kernel_rfl)
end Go.Proofs.YtipkdbhdpmkjcabDoor
