/- A slice of numbers, appended to a nil slice; within a fence. -/
import Derived.Test.YtdigiaigbcfccaaDoorPlc
import Derived.Test.YtdigiaigbcfccaaDoorJoined
namespace Go.Proofs.YtdigiaigbcfccaaDoor
open Go.RowKit Go

section
variable {F : Fence} {n : Nat}
theorem wpListIn_append_path (w : World) {ops : Array Oper} {rest : List Oper} {o : Oper} {a : Act} {Q : Exit → Act → World → Prop} (hgd : o.guard = none) (s x : Operand)
    (ho : o.op = .call { callee := .builtin .append, args := #[s, x], argTypes := #[35, 35] })
    (hs : a.eval s = .slice none 0 0) (p : List Int) (u : Value) (hx : a.eval x = u) (hp : RdN w.heap.size w p u) (hl : p.length ≤ 1000000)
    (h : ∀ v' w', w'.ownsRow w.heap.size 3 1 v' p.length (ints p) → Below w.heap.size w w' → wpListIn F n Tryd.prog ops Q rest (a.put o.dst v') w') : wpListIn F n Tryd.prog ops Q (o :: rest) a w := by
  obtain ⟨pa, pc, rfl, hpl, hpc⟩ := hp
  obtain ⟨i0, hi, hz0, hz1, hz2⟩ := info_parts infoInt
  by_cases h0 : 0 < p.length
  · obtain ⟨b, off, rfl, hb, hcs⟩ := hpc h0
    have hnews : ∀ j y, (ints p)[j]? = some y → w.cell? ((⟨b, off, none⟩ : Addr).add j) = some y := fun j y hy => by
      rw [Addr.add_lit]
      have hj : j < p.length := by
        have := (List.getElem?_eq_some_iff.1 hy).1
        simpa [ints] using this
      rw [hcs j hj]
      simpa [ints, List.getD, hj] using hy
    refine wpListIn_append_where w hgd s x 35 ho w.heap.size 3 i0 (.int .i64 0) 1 8 Tryd.underlying35 hi hz0 hz1 hz2 rfl (by decide) (.slice none 0 0) 0 [] hs (World.ownsRow_nil _ _ _ _) ⟨b, off, none⟩ p.length pc (ints p) hx (by simp [ints]) hnews (ints_one p) (by unfold maxLen; omega) (by omega) (Nat.le_refl _) ?_
    intro v' w' hown hg _
    rw [Nat.zero_add, List.nil_append] at hown
    exact h v' w' hown (grown_below' hg (Nat.le_refl _) (fun g hg => by cases hg))
  · obtain rfl : p = [] := List.length_eq_zero_iff.1 (by omega)
    have hsrc : Src Tryd.prog i0.size 35 (.slice pa 0 pc) 0 [] w := by
      rcases pa with _ | ad
      · exact Src.ofNil _ Tryd.underlying35 pc
      · exact Src.ofSlice _ Tryd.underlying35 ad 0 pc [] (by simp) (fun j u h => by simp at h) (fun u hu => by cases hu)
    refine wpListIn_plain hgd fun K hK => ?_
    have hr := run_append_nothing w 35 35 o.type 3 i0 Tryd.underlying35 hi none 0 0 (Nat.le_refl _) _ hsrc
    unfold Oper.wpIn
    refine ⟨by simp [Oper.about, ho, resolve, Target.leads, Sem.run_pure], ?_⟩
    rw [Oper.semAt_plain F _ _ (by rw [ho]; intro c hc'; cases hc')]
    simp only [List.length_nil] at hx
    simp [execOp, ho, resolve, invoke, builtin, hs, hx, hr, Result.andThen]
    exact hK _ _ (h _ _ (World.ownsRow_nil _ _ _ _) (Below.refl _ _))
end
theorem NumsL.base {p : Nat → Prop} {lo lo' : Nat} (hl : lo' ≤ lo) {W : World} : ∀ {us : List Value} {xs : List (List Int)}, NumsL p lo W us xs → NumsL p lo' W us xs
  | [], [], _ => trivial
  | _ :: _, _ :: _, h => ⟨⟨h.1.1.base hl, h.1.2⟩, NumsL.base hl h.2⟩
theorem NumsL.app {p : Nat → Prop} {lo : Nat} {W : World} : ∀ {us vs : List Value} {xs ys : List (List Int)}, NumsL p lo W us xs → NumsL p lo W vs ys → NumsL p lo W (us ++ vs) (xs ++ ys)
  | [], _, [], _, _, h => h
  | _ :: _, _, _ :: _, _, h, k => ⟨h.1, NumsL.app h.2 k⟩
end Go.Proofs.YtdigiaigbcfccaaDoor
