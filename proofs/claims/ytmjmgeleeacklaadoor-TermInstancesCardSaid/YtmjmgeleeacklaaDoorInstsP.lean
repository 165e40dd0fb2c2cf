/- TermInstances holds: for every term, list of terms and term that can be read as data the call's result is true, and each argument reads behind the call as it read before; the three listed tables being laid as the program's text lays them. -/
import Derived.Test.YtmjmgeleeacklaaDoorRow
import Derived.Test.YtmjmgeleeacklaaDoorInsts
import Derived.Test.YtmjmgeleeacklaaDoorTie
import Derived.Test.YtmjmgeleeacklaaDoorCards
import Derived.SevenTiedAt
namespace Go.Proofs.YtmjmgeleeacklaaDoor
open Go.ChangeShapes Go.WideShapes Go.ChangeAt Go.RowKit Go

set_option maxRecDepth 100000 in
theorem termInstances_lifted (os : Os) (started : os.Started) (H : Type) (enc : TypeId × Value → H) :
    ReturnsInHanded {} Tryd.checked os 13 .any (fun w args => (Rows.termInstancesSpec.pre enc Tryd.prog Tryd.f13 [] false w args ∧ laidMetH Tryd.prog laid3 w) ∧ sizedMet enc Tryd.prog Tryd.f13 (OpenSpec.ofChange Rows.termInstancesSpec) false w args)
      (Rows.termInstancesSpec.post enc Tryd.prog Tryd.f13 false true false false) := by
  refine returnsInHanded_of_change_and (C := Tryd.checked) (X := fun w _ => laidMetH Tryd.prog laid3 w) (fun _ _ _ hh h => h.of_heap hh) own started (by kernel_rfl) Tryd.func13
    (ChangeSpec.witness_shaped (enc := enc) (C := Tryd.checked) (os := os) (X := fun w _ => laidMetH Tryd.prog laid3 w) false (World.doorLaid Tryd.prog 400 os) #[.agg #[.int .i64 0, .int .i64 0, .string ⟨#[]⟩, .slice none 0 0], .slice none 0 0, .agg #[.int .i64 0, .int .i64 0, .string ⟨#[]⟩, .slice none 0 0]] 8 rfl (World.shaped_of_RefB (by kernel_rfl) (by kernel_rfl)) (by kernel_rfl) (by kernel_rfl) (by kernel_rfl) (door_met os _)) ?_
  intro W base args ds gs before hval0 hW _ _ hL _
  have hval : ∀ (j : Nat) t v, Tryd.f13.params[j]? = some t → args[j]? = some v → Value.okWide Tryd.prog W .any base t v := hval0
  have hW' := hW
  obtain ⟨p, q, hA0, hV, rfl, hfz, hnd⟩ := hW
  have hA : DataW.TrodAll enc Tryd.prog W 0 (fun _ => true) true Tryd.f13.params.toList args.toList ds p := hA0
  have hAk := hA
  rw [Tryd.params13] at hA hval
  obtain ⟨v0, v1, v2, d0, d1, d2, p0, p1, p2, rfl, rfl, rfl, h0, h1, h2⟩ := trodAll_three hA
  obtain ⟨rfl, rfl⟩ := trodVars_none hV
  obtain ⟨T0, hT0⟩ := open_term (hval 0 25 v0 rfl rfl) h0
  obtain ⟨l1, a1, c1, rfl, hc1, hm1, hl1⟩ := open_terms (hval 1 22 v1 rfl rfl) h1
  obtain ⟨T2, hT2⟩ := open_term (hval 2 25 v2 rfl rfl) h2
  clear hA0 hval0
  simp only [List.append_nil] at hW'
  refine (termInstances_any T0 T2 l1 v0 v2 a1 c1 W hT0 hT2 hc1 hm1 hl1 (tab_of hL)).mono fun e W' ⟨he, hB⟩ => ?_
  subst he
  have hts : ∀ t, t ∈ Tryd.f13.params.toList → Tryd.prog.readableRec t = true ∧ t < Tryd.prog.types.size := by
    rw [Tryd.params13]
    intro t ht
    have h := List.all_eq_true.1 (show (#[25, 22, 25].toList.all fun t => Tryd.prog.readableRec t && decide (t < Tryd.prog.types.size)) = true by kernel_rfl) t ht
    rw [Bool.and_eq_true, decide_eq_true_eq] at h
    exact h
  exact ⟨_, rfl, post_true rfl rfl ⟨rfl, rfl, rfl⟩ hts hW' hAk hB⟩

theorem termInstances_row : Rows.TermInstancesSaid :=
  OpenClaim.holds_of_wide 13 Tryd.f13 rfl rfl rfl rfl rfl rfl rfl ⟨rfl, rfl, rfl, rfl, rfl⟩ rfl rfl rfl rfl rfl (by kernel_rfl) Tryd.func13 (by kernel_rfl)
    (of_decide_eq_true (by kernel_rfl)) (by unfold Func.isWrapper; first | (rw [if_pos (by decide +kernel)]; kernel_rfl) | (rw [if_neg (by decide +kernel)]; exact ⟨rfl, rfl⟩))
    (fun os started H enc _ => termInstances_lifted os started H enc)

/-- The card. -/
theorem termInstances_card_holds : Rows.TermInstancesCardSaid :=
  Claim7.holds_tied_plain_at .later [] [.data, .data, .data] true _ false
    termInstances_row (fun _ h => by cases h) (by kernel_rfl) (fun _ h => by cases h) termInstances_row_tie rfl ⟨rfl, rfl⟩ (by kernel_rfl) rfl
    (fun f fn hf hfn => by
      obtain rfl : f = 13 := Option.some.inj ((show Tryd.prog.funcNamed "riparian/riparianlaw01.TermInstances" = some 13 by kernel_rfl).symm.trans hf) |>.symm
      obtain rfl : fn = Tryd.f13 := (Option.some.inj (Tryd.func13.symm.trans hfn)).symm
      exact ⟨by kernel_rfl, fun j t ht => by
        rw [Tryd.params13] at ht
        have hm : t ∈ [25, 22, 25] := by simpa using Array.mem_of_getElem? ht
        have hall : ([25, 22, 25].all fun u => !Tryd.prog.wantsStandIn u) = true := by kernel_rfl
        exact (show Tryd.prog.wantsStandIn t = false by simpa using List.all_eq_true.1 hall t hm)⟩)
    (by kernel_rfl)
end Go.Proofs.YtmjmgeleeacklaaDoor
