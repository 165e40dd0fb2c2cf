/- A list of trees behind two others, by append. -/
import Derived.Test.YtdigiaigbcfccaaGreatDoorRowG
import Derived.Test.YtdigiaigbcfccaaGreatDoorSane
import Derived.Deep.Upon
namespace Go.Proofs.YtdigiaigbcfccaaGreatDoor
open Go.RowKit Go

/-- The cells of a list of trees, one by one. -/
theorem IsL.news {n₀ : Nat} {W : World} : ∀ (l : List Tr) (b off : Nat), IsL n₀ W l (some ⟨b, off, none⟩) → ∃ news : List Value, news.length = l.length * 4 ∧ (∀ j u, news[j]? = some u → W.cell? ⟨b, off + j, none⟩ = some u) ∧ (∀ u, u ∈ news → u.oneCell' = true) ∧
      ∀ i (hi : i < l.length), ∃ v0 v1 v2 v3, news[i * 4]? = some v0 ∧ news[i * 4 + 1]? = some v1 ∧ news[i * 4 + 2]? = some v2 ∧ news[i * 4 + 3]? = some v3 ∧ IsT n₀ W l[i] (.agg #[v0, v1, v2, v3])
  | [], _, _, _ => ⟨[], rfl, fun j u h => (by simp at h), fun u h => (by cases h), fun i hi => (by simp at hi)⟩
  | t :: ts, b, off, h => by
    unfold IsL at h
    obtain ⟨b', off', v0, v1, v2, v3, e, _, c0, c1, c2, c3, ht, hl⟩ := h
    cases e
    obtain ⟨news, h1, h2, h3, h4⟩ := IsL.news ts b (off + 4) hl
    obtain ⟨k, n, s, a, m, c, e⟩ := (IsT.toP _ _ ht).form
    simp only [Value.agg.injEq, Array.mk.injEq, List.cons.injEq, and_true] at e
    obtain ⟨rfl, rfl, rfl, rfl⟩ := e
    refine ⟨.int .i64 k :: .int .i64 n :: .string s :: .slice a m c :: news, by simp [h1]; omega, fun j u hj => ?_, fun u hu => ?_, fun i hi => ?_⟩
    · match j, hj with
      | 0, hj => simp at hj; subst hj; exact c0
      | 1, hj => simp at hj; subst hj; exact c1
      | 2, hj => simp at hj; subst hj; exact c2
      | 3, hj => simp at hj; subst hj; exact c3
      | j + 4, hj =>
        have := h2 j u (by simpa using hj)
        rwa [show off + 4 + j = off + (j + 4) by omega] at this
    · simp only [List.mem_cons] at hu
      rcases hu with rfl | rfl | rfl | rfl | hu
      · rfl
      · rfl
      · rfl
      · rfl
      · exact h3 u hu
    · cases i with
      | zero => exact ⟨_, _, _, _, rfl, rfl, rfl, rfl, ht⟩
      | succ i =>
        obtain ⟨w0, w1, w2, w3, e0, e1, e2, e3, ht'⟩ := h4 i (by simpa using hi)
        refine ⟨w0, w1, w2, w3, ?_, ?_, ?_, ?_, ht'⟩
        · rw [show (i + 1) * 4 = i * 4 + 4 by omega]; simpa using e0
        · rw [show (i + 1) * 4 + 1 = i * 4 + 1 + 4 by omega]; simpa using e1
        · rw [show (i + 1) * 4 + 2 = i * 4 + 2 + 4 by omega]; simpa using e2
        · rw [show (i + 1) * 4 + 3 = i * 4 + 3 + 4 by omega]; simpa using e3
theorem own_new {W : World} {lo : Nat} (xs : List Value) (k : Nat) (hx : xs.length = k * 4) (hk : k ≤ maxLen) (h : lo ≤ W.heap.size) : (W.alloc (.cells xs.toArray 24)).ownsRow lo 24 4 (.slice (some ⟨W.heap.size, 0, none⟩) k k) k xs :=
  ⟨hx, .inr ⟨W.heap.size, k, xs.toArray, rfl, h, World.alloc_heap_new W _, Nat.le_refl _, hk, by simpa using hx, by rw [List.take_of_length_le (by simp; omega)]⟩⟩
theorem row_isL {W : World} {lo : Nat} {v : Value} {l : List Tr} {xs : List Value} (hown : W.ownsRow lo 24 4 v l.length xs) (hne : 0 < l.length)
    (h : ∀ i (hi : i < l.length), ∃ v0 v1 v2 v3, xs[i * 4]? = some v0 ∧ xs[i * 4 + 1]? = some v1 ∧ xs[i * 4 + 2]? = some v2 ∧ xs[i * 4 + 3]? = some v3 ∧ IsT W.heap.size W l[i] (.agg #[v0, v1, v2, v3])) :
    ∃ g cap, v = .slice (some ⟨g, 0, none⟩) l.length cap ∧ l.length ≤ cap ∧ cap ≤ maxLen ∧ IsL W.heap.size W l (some ⟨g, 0, none⟩) := by
  have hh := hown
  rcases hown.2 with ⟨rfl, h0⟩ | ⟨g, cap, cur, rfl, hb, hg, h1, h2, h3, h4⟩
  · omega
  · refine ⟨g, cap, rfl, h1, h2, IsL.of_get (Array.getElem?_eq_some_iff.1 hg).1 fun i hi => ?_⟩
    obtain ⟨v0, v1, v2, v3, c0, c1, c2, c3, ht⟩ := h i hi
    have hc : ∀ j u, xs[j]? = some u → W.cell? ⟨g, 0 + j, none⟩ = some u := fun j u hu => by
      have := World.ownsRow.cells hh (g := g) rfl j u hu
      rw [Addr.add_lit] at this
      exact this
    exact ⟨v0, v1, v2, v3, hc _ _ c0, by have := hc _ _ c1; rwa [← Nat.add_assoc] at this, by have := hc _ _ c2; rwa [← Nat.add_assoc] at this, by have := hc _ _ c3; rwa [← Nat.add_assoc] at this, ht⟩
/-- Two trees, and a list behind them, in a row of their own: they read as a list. -/
theorem row_two {W V : World} {lo : Nat} {v : Value} {R X : Tr} {l : List Tr} {r0 r1 r2 r3 x0 x1 x2 x3 : Value} {news : List Value} (hown : V.ownsRow lo 24 4 v (2 + l.length) ([r0, r1, r2, r3, x0, x1, x2, x3] ++ news)) (hB : Below W.heap.size W V)
    (hR : IsT W.heap.size W R (.agg #[r0, r1, r2, r3])) (hX : IsT W.heap.size W X (.agg #[x0, x1, x2, x3]))
    (h : ∀ i (hi : i < l.length), ∃ v0 v1 v2 v3, news[i * 4]? = some v0 ∧ news[i * 4 + 1]? = some v1 ∧ news[i * 4 + 2]? = some v2 ∧ news[i * 4 + 3]? = some v3 ∧ IsT W.heap.size W l[i] (.agg #[v0, v1, v2, v3])) :
    ∃ g cap, v = .slice (some ⟨g, 0, none⟩) (R :: X :: l).length cap ∧ (R :: X :: l).length ≤ cap ∧ cap ≤ maxLen ∧ IsL V.heap.size V (R :: X :: l) (some ⟨g, 0, none⟩) := by
  refine row_isL (lo := lo) (l := R :: X :: l) (xs := [r0, r1, r2, r3, x0, x1, x2, x3] ++ news) (by rw [show (R :: X :: l).length = 2 + l.length by simp only [List.length_cons]; omega]; exact hown) (by simp) fun i hi => ?_
  match i, hi with
  | 0, _ => exact ⟨r0, r1, r2, r3, rfl, rfl, rfl, rfl, hR.up hB hB.size⟩
  | 1, _ => exact ⟨x0, x1, x2, x3, rfl, rfl, rfl, rfl, hX.up hB hB.size⟩
  | i + 2, hi =>
    obtain ⟨w0, w1, w2, w3, e0, e1, e2, e3, ht'⟩ := h i (by simpa using hi)
    refine ⟨w0, w1, w2, w3, ?_, ?_, ?_, ?_, ht'.up hB hB.size⟩
    · rw [show (i + 2) * 4 = i * 4 + 8 by omega]; simpa using e0
    · rw [show (i + 2) * 4 + 1 = i * 4 + 1 + 8 by omega]; simpa using e1
    · rw [show (i + 2) * 4 + 2 = i * 4 + 2 + 8 by omega]; simpa using e2
    · rw [show (i + 2) * 4 + 3 = i * 4 + 3 + 8 by omega]; simpa using e3
section

variable {P : Program} {w : World}
/-- Nothing is appended: value and world are as they were. -/
theorem wpList_append_none {ops : Array Oper} {rest : List Oper} {o : Oper} {a : Act} {Q : Exit → Act → World → Prop} (hgd : o.guard = none) (s x : Operand) (t : TypeId)
    (ho : o.op = .call { callee := .builtin .append, args := #[s, x], argTypes := #[t, t] })
    (e : TypeId) (i : TypeInfo) (ht : P.underlying t = some (.slice e)) (hi : P.info? e = some i) (base : Option Addr) (len cap : Nat) (hle : len ≤ cap) (hs : a.eval s = .slice base len cap)
    (v : Value) (hx : a.eval x = v) (hsrc : Src P i.size t v 0 [] w) (h : wpList P ops Q rest (a.put o.dst (.slice base len cap)) w) : wpList P ops Q (o :: rest) a w :=
  wpList_plain hgd fun K hK => by
    have hr := run_append_nothing w t t o.type e i ht hi base len cap hle v hsrc
    unfold Oper.wp execOp
    simp only [ho, resolve, invoke, builtin, Sem.run_bind, Sem.run_pure, Result.andThen_ok, List.map_toArray, List.map_cons, List.map_nil, hs, hx, hr]
    exact hK _ _ h
end

end Go.Proofs.YtdigiaigbcfccaaGreatDoor
