/- A place with one more step: joined; and samePaths. -/
import Derived.Test.YtdigiaigbcfccaaDoorNodeR
import Derived.Test.YtdigiaigbcfccaaDoorRefVars
import Derived.Test.YtdigiaigbcfccaaDoorTwo
namespace Go.Proofs.YtdigiaigbcfccaaDoor
open Go.RowKit Go

theorem samePaths_any (xs ys : List (List Int)) (v u : Value) (w : World) (hx : RdNN w.heap.size w xs v) (hy : RdNN w.heap.size w ys u) :
    Calls Tryd.prog 31 #[v, u] w fun e w' => e = .returned (.bool (decide (xs = ys))) ∧ Below w.heap.size w w' := by
  have hc := equalNN_any xs ys v u w hx hy
  have HC := Lib.hid hc
  clear hc
  go_enter Tryd.func31, Tryd.ntmps31
  go_wp2_with fail
  refine HC.out.mono ?_
  rintro e w' ⟨rfl, hB⟩
  go_wp2_with fail
  go_ret
  exact ⟨rfl, hB⟩

set_option maxRecDepth 100000 in
set_option maxHeartbeats 2000000 in
theorem joined_any (p : List Int) (i : Int) (u : Value) (w : World) (hp : RdN w.heap.size w p u) (hl : p.length ≤ 1000000) :
    Calls Tryd.prog 125 #[u, .int .i64 i] w fun e w' => ∃ v, e = .returned v ∧ Nums w.heap.size w' v (p ++ [i]) ∧ Below w.heap.size w w' := by
  obtain ⟨pa, pc, rfl, hpl, hpc⟩ := hp
  obtain ⟨i0, hi, hz0, hz1, hz2⟩ := info_parts infoInt
  have hone : ∀ y, y ∈ ([.int .i64 i] : List Value) → y.oneCell' = true := fun y hy => by simp at hy; subst hy; rfl
  by_cases h0 : 0 < p.length
  · obtain ⟨b, off, rfl, hb, hcs⟩ := hpc h0
    have hnews : ∀ j y, (ints p)[j]? = some y → w.cell? ((⟨b, off, none⟩ : Addr).add j) = some y := fun j y hy => by
      rw [Addr.add_lit]
      have hj : j < p.length := by
        have := (List.getElem?_eq_some_iff.1 hy).1
        simpa [ints] using this
      rw [hcs j hj]
      simpa [ints, List.getD, hj] using hy
    have hln : (ints p).length = p.length * 1 := by simp [ints]
    have h63 : 0 + p.length ≤ maxLen := by unfold maxLen; omega
    have hby : (0 + p.length) * 8 ≤ 140737488355328 := by omega
    go_enter Tryd.func125, Tryd.ntmps125
    go_wp2_with (at_builtin; refine wpList_append_where rfl _ _ 35 rfl w.heap.size 3 i0 (.int .i64 0) 1 8 Tryd.underlying35 hi hz0 hz1 hz2 rfl (by decide) _ _ _ rfl (World.ownsRow_nil _ _ _ _) ⟨b, off, none⟩ p.length pc (ints p) rfl hln hnews (ints_one p) h63 hby (Nat.le_refl _) ?_)
    intro v1 w1 hown hgrow hwh
    have hB1 : Below w.heap.size w w1 := grown_below' hgrow (Nat.le_refl _) (fun g hg => by cases hg)
    clear hnews
    have hs1 := hB1.size
    have hnb : ∀ g, v1.ownBlock = some g → w.heap.size ≤ g := fun g hg => (hown.lt g hg).1
    go_wp2_with (at_builtin; refine wpList_append_where rfl _ _ 35 rfl w.heap.size 3 i0 (.int .i64 0) 1 8 Tryd.underlying35 hi hz0 hz1 hz2 rfl (by decide) _ _ _ rfl (World.ownsRow.alloc hown _) ⟨w1.heap.size, 0, none⟩ 1 1 [.int .i64 i] rfl rfl (cell_one_new _ _ _) hone (by unfold maxLen; omega) (by omega) (by simp; omega) ?_)
    intro v2 w2 hown2 hgrow2 hwh2
    go_wp2_with fail
    go_ret
    refine ⟨v2, rfl, ?_, ?_⟩
    · rw [Nums, List.length_append, List.length_singleton]
      simpa [ints] using hown2
    · exact (hB1.alloc hB1.size _).trans (grown_below' hgrow2 (by simp; omega) hnb)
  · obtain rfl : p = [] := List.length_eq_zero_iff.1 (by omega)
    have hown : w.ownsRow w.heap.size 3 1 (.slice none 0 0) 0 [] := World.ownsRow_nil _ _ _ _
    have hsrc : Src Tryd.prog i0.size 35 (.slice pa 0 pc) 0 [] w := by
      rcases pa with _ | ad
      · exact Src.ofNil _ Tryd.underlying35 pc
      · exact Src.ofSlice _ Tryd.underlying35 ad 0 pc [] (by simp) (fun j u h => by simp at h) (fun u hu => by cases hu)
    go_enter Tryd.func125, Tryd.ntmps125
    go_wp2_with (at_builtin; first | refine wpList_append_none rfl _ _ 35 rfl 3 i0 Tryd.underlying35 hi _ 0 0 (Nat.le_refl _) rfl _ rfl hsrc ?_ | refine wpList_append_where rfl _ _ 35 rfl w.heap.size 3 i0 (.int .i64 0) 1 8 Tryd.underlying35 hi hz0 hz1 hz2 rfl (by decide) _ _ _ rfl (World.ownsRow.alloc hown _) ⟨w.heap.size, 0, none⟩ 1 1 [.int .i64 i] rfl rfl (cell_one_new _ _ _) hone (by unfold maxLen; omega) (by omega) (by simp) ?_)
    intro v2 w2 hown2 hgrow2 hwh2
    go_wp2_with fail
    go_ret
    refine ⟨v2, rfl, ?_, ?_⟩
    · simpa [Nums, ints] using hown2
    · exact ((Below.refl _ _).alloc (Nat.le_refl _) _).trans (grown_below' hgrow2 (by simp) (fun g hg => by cases hg))
end Go.Proofs.YtdigiaigbcfccaaDoor
