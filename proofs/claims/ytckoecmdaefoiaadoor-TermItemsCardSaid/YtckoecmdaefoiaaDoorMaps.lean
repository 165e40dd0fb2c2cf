import Derived.Maps.Ext
import Derived.Maps.Own
import Derived.Maps.Views
import Derived.Test.YtckoecmdaefoiaaDoorPaths
namespace Go.Proofs.YtckoecmdaefoiaaDoor
open Go.RowKit Go Go.Maps

theorem zeroB (w : World) : (zeroValue 4).run Tryd.prog w = .ok (.bool false) w := by kernel_rfl
theorem zeroI (w : World) : (zeroValue 3).run Tryd.prog w = .ok (.int .i64 0) w := by kernel_rfl
theorem keyI : Keyed Tryd.prog 3 := int_keyed Tryd.underlying3
theorem wfI {x : Int} (h : okI x) : (Lit.int .i64 x).wf = true := by
  obtain ⟨h1, h2⟩ := h
  simp only [Lit.wf, Bool.and_eq_true, decide_eq_true_eq]
  exact ⟨h1, h2⟩
set_option maxRecDepth 100000 in
theorem plainElem_bool_inv {v : Value} {z : DataW Unit × List MemPlace} (h : plainElem Tryd.prog 4 v = some z) : ∃ c, v = .bool c ∧ z = (.lit (.bool c), []) := by
  unfold plainElem at h
  rw [Tryd.underlying4] at h
  cases v <;> simp at h
  subst h
  exact ⟨_, rfl, rfl⟩

/-- Block b is a map that says true of the numbers of S alone. -/
def Seen (W : World) (b n : Nat) (S : List Int) : Prop := ∃ D : DataW Unit, W.ownsMap Tryd.prog 3 (plainElem Tryd.prog 4) b n D ∧ ∀ x, okI x → D.atKey (.int .i64 x) (.lit (.bool false)) = .lit (.bool (decide (x ∈ S)))
theorem Seen.made (w : World) : Seen (w.alloc (.map #[] 0)) w.heap.size 0 [] := ⟨_, World.ownsMap_made w _ _ _, fun x _ => by simp [DataW.atKey]⟩
theorem Seen.lt {W : World} {b n : Nat} {S : List Int} (h : Seen W b n S) : b < W.heap.size := by obtain ⟨D, h, _⟩ := h; exact h.lt
theorem Seen.kept {W W' : World} {b n : Nat} {S : List Int} {row : Option Nat} (h : Seen W b n S) (hg : W.grownBy W' row) (hne : some b ≠ row) : Seen W' b n S := by
  obtain ⟨D, h, hf⟩ := h; exact ⟨D, h.kept hg hne, hf⟩
theorem Seen.look {W : World} {b n : Nat} {S : List Int} (h : Seen W b n S) {x : Int} (hx : okI x) : (Instr.lookup 81 (.map (some b)) (.int .i64 x) false).run Tryd.prog W = .ok (.bool (decide (x ∈ S))) W := by
  obtain ⟨D, h, hf⟩ := h
  obtain ⟨v, ps, hr, hv⟩ := h.lookup keyI Tryd.underlying81 (zeroB W) (plainElem_bool Tryd.underlying4 false) (keyOf_int_mk Tryd.underlying3 (wfI hx))
  obtain ⟨c, rfl, hc⟩ := plainElem_bool_inv hv
  rw [hf x hx] at hc
  cases hc
  exact hr
theorem Seen.put {W : World} {b n : Nat} {S : List Int} (h : Seen W b n S) (hn : n < maxLen) {x : Int} (hx : okI x) : ∃ w', (Instr.mapUpdate 81 (.map (some b)) (.int .i64 x) (.bool true)).run Tryd.prog W = .ok () w' ∧ Seen w' b (n + 1) (S ++ [x]) ∧ W.grownBy w' (some b) := by
  obtain ⟨D, h, hf⟩ := h
  obtain ⟨w', hr, h2, hg⟩ := h.update keyI Tryd.underlying81 hn (keyOf_int_mk Tryd.underlying3 (wfI hx)) (plainElem_bool Tryd.underlying4 true)
  refine ⟨w', hr, ⟨_, h2, fun y hy => ?_⟩, hg⟩
  have hD : IsMap D := by obtain ⟨es, clock, _, _, _, e⟩ := h; exact ⟨_, e⟩
  by_cases e : y = x
  · subst e
    rw [atKey_put_same hD (by simp [WideAt.IsKeyLit])]
    simp
  · rw [atKey_put_other (fun h => by cases h; exact e rfl), hf y hy]
    simp [e]
end Go.Proofs.YtckoecmdaefoiaaDoor
