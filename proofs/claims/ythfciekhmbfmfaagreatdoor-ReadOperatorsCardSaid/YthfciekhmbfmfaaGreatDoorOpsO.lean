/- The row of ReadOperators: for every two numbers the call's result is true, and each argument reads behind the call as it read before; the three listed tables being laid as the program's text lays them. -/
import Derived.Test.YthfciekhmbfmfaaGreatDoorRow2
import Derived.Test.YthfciekhmbfmfaaGreatDoorOpsL
import Derived.Test.YthfciekhmbfmfaaGreatDoorRows
namespace Go.Proofs.YthfciekhmbfmfaaGreatDoor
open Go.ChangeShapes Go.WideShapes Go.ChangeAt Go.RowKit Go

set_option maxRecDepth 100000 in
theorem readOperators_lifted (os : Os) (started : os.Started) (H : Type) (enc : TypeId × Value → H) :
    ReturnsInHanded {} Tryz.checked os 16 .any (fun w args => (Rows.readOperatorsSpec.pre enc Tryz.prog Tryz.f16 [] false w args ∧ laidMetH Tryz.prog laid3 w) ∧ sizedMet enc Tryz.prog Tryz.f16 (OpenSpec.ofChange Rows.readOperatorsSpec) false w args)
      (Rows.readOperatorsSpec.post enc Tryz.prog Tryz.f16 false true false false) := by
  refine handed_shaped (C := Tryz.checked) (X := fun w _ => laidMetH Tryz.prog laid3 w) (fun _ _ _ hh h => h.of_heap hh) own started (by kernel_rfl) Tryz.func16
    (ChangeSpec.witness_shaped (enc := enc) (C := Tryz.checked) (os := os) (X := fun w _ => laidMetH Tryz.prog laid3 w) false (World.doorLaid Tryz.prog 400 os) #[.int .i64 0, .int .i64 0] 8 rfl (World.shaped_of_RefB (by kernel_rfl) (by kernel_rfl)) (by kernel_rfl) (by kernel_rfl) (by kernel_rfl) (door_met os _)) ?_
  intro W base args ds gs before hval0 hW _ hL hsh
  have hval : ∀ (j : Nat) t v, Tryz.f16.params[j]? = some t → args[j]? = some v → Value.okWide Tryz.prog W .any base t v := hval0
  have hW' := hW
  obtain ⟨p, q, hA0, hV, rfl, hfz, hnd⟩ := hW
  have hA : DataW.TrodAll enc Tryz.prog W 0 (fun _ => true) true Tryz.f16.params.toList args.toList ds p := hA0
  have hAk := hA
  rw [Tryz.params16] at hA hval
  obtain ⟨v0, v1, d0, d1, p0, p1, rfl, rfl, rfl, h0, h1⟩ := trodAll_two hA
  obtain ⟨rfl, rfl⟩ := trodVars_none hV
  obtain ⟨x0, rfl, rfl, rfl, wx0⟩ := open_int Tryz.underlying3 (hval 0 3 v0 rfl rfl) h0
  obtain ⟨x1, rfl, rfl, rfl, wx1⟩ := open_int Tryz.underlying3 (hval 1 3 v1 rfl rfl) h1
  clear hA0 hval0
  obtain ⟨⟨mm, hmx⟩, hml⟩ := max_of hsh
  have hC : WrC W mm := ⟨hmx, hml, tab_of hL⟩
  simp only [List.append_nil] at hW' hAk
  refine (readOperators_any x0 x1 W mm hC).mono fun e W' ⟨he, hB⟩ => ?_
  subst he
  have hts : ∀ t, t ∈ Tryz.f16.params.toList → Tryz.prog.readableRec t = true ∧ t < Tryz.prog.types.size := by
    rw [Tryz.params16]
    intro t ht
    have h := List.all_eq_true.1 (show (#[3, 3].toList.all fun t => Tryz.prog.readableRec t && decide (t < Tryz.prog.types.size)) = true by kernel_rfl) t ht
    rw [Bool.and_eq_true, decide_eq_true_eq] at h
    exact h
  exact ⟨_, rfl, post_true rfl rfl ⟨rfl, rfl, rfl⟩ hts hW' hAk hB⟩

set_option maxHeartbeats 4000000 in
theorem readOperators_row : Rows.ReadOperatorsSaid :=
  OpenClaim.holds_of_wide 16 Tryz.f16 rfl rfl rfl rfl rfl rfl rfl ⟨rfl, rfl, rfl, rfl, rfl⟩ rfl rfl rfl rfl rfl (by as_aux_lemma => kernel_rfl) Tryz.func16 (by as_aux_lemma => kernel_rfl)
    (of_decide_eq_true (by as_aux_lemma => kernel_rfl)) (by unfold Func.isWrapper; first | (rw [if_pos (by decide +kernel)]; kernel_rfl) | (rw [if_neg (by decide +kernel)]; exact ⟨rfl, rfl⟩))
    (fun os started H enc _ => readOperators_lifted os started H enc)
end Go.Proofs.YthfciekhmbfmfaaGreatDoor
