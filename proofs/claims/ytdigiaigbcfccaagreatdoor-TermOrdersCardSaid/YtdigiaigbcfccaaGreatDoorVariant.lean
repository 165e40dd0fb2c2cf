import Derived.Test.YtdigiaigbcfccaaGreatDoorInst
import Derived.Test.YtdigiaigbcfccaaGreatDoorSaneM
namespace Go.Proofs.YtdigiaigbcfccaaGreatDoor
open Go.RowKit Go

attribute [local go_sem] monoUpon Yld.says

theorem tog1 (T : Tr) : togB [T] = isB T := by
  rw [togB]
  simp only [List.all_cons, List.all_nil, Bool.and_true, sizeL, Nat.add_zero]
  cases h : isB T with
  | false => rfl
  | true => have := (isB_size h).1; simp [this]
theorem norm1 (T : Tr) : normT [T] = [nrm T] := rfl

/-- What Normal leaves of one tree. -/
def Norm1 (T : Tr) (w : World) (e : Ending) (w' : World) : Prop := Below w.heap.size w w' ∧ ((isB T = true ∧ ∃ v u, e = .returned (.tuple #[v, u, .int .i64 0]) ∧ IsS w'.heap.size w' [nrm T] v) ∨ (isB T = false ∧ e = .returned (.tuple #[.slice none 0 0, .slice none 0 0, .int .i64 3])))
theorem normal1 (T : Tr) (v0 v1 v2 v3 : Value) (w : World) (h : IsT w.heap.size w T (.agg #[v0, v1, v2, v3])) (hd : T.deep ≤ 999999999) :
    Calls Tryz.prog 28 #[.slice (some ⟨w.heap.size, 0, none⟩) 1 1] (w.alloc (.cells #[v0, v1, v2, v3] 24)) (Norm1 T w) := by
  obtain ⟨a, c, he, h1, h2, h3⟩ := isS1 h
  cases he
  have hn := Normal_any [T] _ 1 _ (by unfold maxLen; simp) h3 (by intro t ht; simp at ht; subst ht; exact hd)
  refine Calls.mono hn ?_
  rintro e w' ⟨B, hh⟩
  rw [tog1, norm1] at hh
  refine ⟨up1 B, ?_⟩
  cases hT : isB T with
  | true =>
    rw [hT] at hh
    obtain ⟨x, y, rfl, hx, _⟩ := hh
    exact .inl ⟨rfl, x, y, rfl, hx.toS (fun b h => h.2)⟩
  | false =>
    rw [hT] at hh
    exact .inr ⟨rfl, hh⟩

end Go.Proofs.YtdigiaigbcfccaaGreatDoor
