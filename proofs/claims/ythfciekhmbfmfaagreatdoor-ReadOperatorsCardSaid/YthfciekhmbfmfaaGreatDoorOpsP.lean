/- ReadOperators holds: for every two numbers the call's result is true, and each argument reads behind the call as it read before; the three listed tables being laid as the program's text lays them. -/
import Derived.Test.YthfciekhmbfmfaaGreatDoorOpsO
import Derived.Test.YthfciekhmbfmfaaGreatDoorTie
import Derived.Test.YthfciekhmbfmfaaGreatDoorCards
import Derived.SevenTiedAt
namespace Go.Proofs.YthfciekhmbfmfaaGreatDoor
open Go.ChangeShapes Go.WideShapes Go.ChangeAt Go.RowKit Go

/-- The card. -/
theorem readOperators_card_holds : Rows.ReadOperatorsCardSaid :=
  Claim7.holds_tied_plain_at .later [] [.data, .data, .data] true _ true
    readOperators_row (fun _ h => by cases h) (by kernel_rfl) (fun _ h => by cases h) readOperators_row_tie rfl ⟨rfl, rfl⟩ (by kernel_rfl) rfl
    (fun f fn hf hfn => by
      obtain rfl : f = 16 := Option.some.inj ((show Tryz.prog.funcNamed "riparian/riparianlaw02.ReadOperators" = some 16 by kernel_rfl).symm.trans hf) |>.symm
      obtain rfl : fn = Tryz.f16 := (Option.some.inj (Tryz.func16.symm.trans hfn)).symm
      exact ⟨by kernel_rfl, fun j t ht => by
        rw [Tryz.params16] at ht
        have hm : t ∈ [3, 3] := by simpa using Array.mem_of_getElem? ht
        have hall : ([3, 3].all fun u => !Tryz.prog.wantsStandIn u) = true := by kernel_rfl
        exact (show Tryz.prog.wantsStandIn t = false by simpa using List.all_eq_true.1 hall t hm)⟩)
    (by kernel_rfl)
end Go.Proofs.YthfciekhmbfmfaaGreatDoor
