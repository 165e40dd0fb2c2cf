/- An argument that is a slice of numbers. -/
import Derived.Test.YtdigiaigbcfccaaDoorRow
import Derived.Test.YtdigiaigbcfccaaDoorWithR
import Derived.ChangeSlices
namespace Go.Proofs.YtdigiaigbcfccaaDoor
open Go.ChangeShapes Go.WideShapes Go.ChangeAt Go.RowKit Go

section
variable {H : Type} {enc : TypeId × Value → H} {W : World} {held : Bool}
set_option maxRecDepth 100000 in
theorem open_path {v : Value} {d : DataW H} {ps : List MemPlace} {base : Nat} (hv : Value.okWide Tryd.prog W .any base 35 v) (h : DataW.Trod enc Tryd.prog W 0 (fun _ => true) held 35 v d ps) :
    ∃ (p : List Int) (a : Option Addr) (c : Nat), v = .slice a p.length c ∧ RdC W.heap.size W p a c := by
  obtain ⟨a, len, cap, rfl⟩ := okWide_slice Tryd.underlying35 hv
  obtain ⟨fuel, hf⟩ := h
  rcases open_ints Tryd.underlying35 Tryd.underlying3 cellsInt (show DataW.trod enc Tryd.prog W 0 (fun _ => true) held fuel 35 [.slice a len cap] = some (d, ps) by simpa [Value.cells] using hf) with ⟨e, _⟩ | ⟨a', len', cap', zs, e, _, hl, hm, hz, _, hc, _⟩
  · simp at e
    obtain ⟨rfl, rfl, rfl⟩ := e
    exact ⟨[], none, 0, rfl, Nat.le_refl _, by decide, fun h => by simp at h⟩
  · simp at e
    obtain ⟨rfl, rfl, rfl⟩ := e
    simp only [if_true] at hz
    have hlen : (zs.take len).length = len := by simp; omega
    refine ⟨zs.take len, some a', cap, by rw [hlen], by rw [hlen]; exact hl, hm, fun h0 => ?_⟩
    rw [hlen] at h0
    obtain ⟨b, off, sp⟩ := a'
    have h1 := hc 0 (by omega)
    have hs : sp = none := cell_spot (a := ⟨b, off, sp⟩) (by simpa [Addr.add] using h1)
    subst hs
    refine ⟨b, off, rfl, by simpa [Addr.add] using World.block_lt_of_cell? _ _ h1, fun j hj => ?_⟩
    rw [hlen] at hj
    have h2 := hc j (by omega)
    rw [Addr.add_lit] at h2
    rw [h2, List.getD, List.getD, List.getElem?_take_of_lt hj]
end
end Go.Proofs.YtdigiaigbcfccaaDoor
