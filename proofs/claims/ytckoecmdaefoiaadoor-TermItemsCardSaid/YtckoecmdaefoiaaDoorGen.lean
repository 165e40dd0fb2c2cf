import Derived.Test.YtckoecmdaefoiaaDoorVarOf
import Derived.Test.YtckoecmdaefoiaaDoorPhase
import Derived.Test.YtckoecmdaefoiaaDoorMatch2
namespace Go.Proofs.YtckoecmdaefoiaaDoor
open Go.RowKit Go

mutual
/-- The least general tree of two, and the texts that have been met. -/
def genT : Tr → Tr → List (List UInt8) → Tr × List (List UInt8)
  | .node k n s l, u, ks =>
    if k = 1 ∨ topT (.node k n s l) u = false then (.node 1 (numK ks (textT (.node k n s l) ++ textT u)) emp [], addK ks (textT (.node k n s l) ++ textT u))
    else (.node k n s (genL l u.subs ks).1, (genL l u.subs ks).2)
def genL : List Tr → List Tr → List (List UInt8) → List Tr × List (List UInt8)
  | [], _, ks => ([], ks)
  | _ :: _, [], ks => ([], ks)
  | a :: u, b :: v, ks => ((genT a b ks).1 :: (genL u v (genT a b ks).2).1, (genL u v (genT a b ks).2).2)
end
theorem genL_take : ∀ (l l' : List Tr) (ks : List (List UInt8)) (j : Nat) (h : j < l.length) (h' : j < l'.length), genL (l.take (j + 1)) (l'.take (j + 1)) ks =
    ((genL (l.take j) (l'.take j) ks).1 ++ [(genT l[j] l'[j] (genL (l.take j) (l'.take j) ks).2).1], (genT l[j] l'[j] (genL (l.take j) (l'.take j) ks).2).2)
  | a :: u, b :: v, ks, 0, _, _ => by simp [genL]
  | a :: u, b :: v, ks, j + 1, h, h' => by
    have := genL_take u v (genT a b ks).2 j (by simpa using h) (by simpa using h')
    simp only [List.take_succ_cons, genL, List.getElem_cons_succ, this, List.cons_append]
theorem genL_length : ∀ (l l' : List Tr) (ks : List (List UInt8)), l.length = l'.length → (genL l l' ks).1.length = l.length
  | [], _, _, _ => rfl
  | _ :: _, [], _, h => by simp at h
  | a :: u, b :: v, ks, h => by simp [genL, genL_length u v _ (by simpa using h)]
theorem addK_length (ks : List (List UInt8)) (key : List UInt8) : (addK ks key).length ≤ ks.length + 1 := by unfold addK; split <;> simp
mutual
theorem genT_keys : ∀ (t u : Tr) (ks : List (List UInt8)), (genT t u ks).2.length ≤ ks.length + t.size
  | .node k n s l, u, ks => by
    rw [genT]
    split
    · have := addK_length ks (textT (.node k n s l) ++ textT u); simp only [Tr.size]; omega
    · have := genL_keys l u.subs ks; simp only [Tr.size]; omega
theorem genL_keys : ∀ (l l' : List Tr) (ks : List (List UInt8)), (genL l l' ks).2.length ≤ ks.length + sizeL l
  | [], _, ks => by simp [genL, sizeL]
  | _ :: _, [], ks => by simp [genL]
  | a :: u, b :: v, ks => by
    have h1 := genT_keys a b ks
    have h2 := genL_keys u v (genT a b ks).2
    simp only [genL, sizeL]
    omega
end
theorem numK_ok {ks : List (List UInt8)} (h : ks.length ≤ 1000000000) (key : List UInt8) : okI (numK ks key) := by
  unfold numK okI
  split
  · rename_i hm
    have := List.idxOf_lt_length_of_mem hm
    omega
  · omega
theorem text_sub {k n : Int} {s : ByteArray} {l : List Tr} {j : Nat} (h : j < l.length) : (textT l[j]).length ≤ (textT (.node k n s l)).length := by
  have h1 := textL_take_le h
  simp only [textT, List.length_append]
  omega
theorem top_subs {k n k' n' : Int} {s s' : ByteArray} {l l' : List Tr} (h : topT (.node k n s l) (.node k' n' s' l') = true) : l.length = l'.length := by
  have h2 : k = k' ∧ n = n' ∧ s = s' ∧ l.length = l'.length := by simpa [topT, topB] using h
  exact h2.2.2.2

theorem Dict.cell {W W' : World} {b : Nat} {ks : List (List UInt8)} {p : Addr} {v : Value} (h : Dict W b ks) (hg : W.grownBy W' (some b)) (hc : W.cell? p = some v) : W'.cell? p = some v := by
  have hne : p.block ≠ b := fun e => by
    obtain ⟨D, ⟨es, clock, hm, _⟩, _⟩ := h
    rw [World.cell?, e, hm] at hc
    cases hc
  exact hg.cell hc (by simpa using hne)
mutual
/-- Trees stay where a map alone is turned. -/
theorem IsT.map_turned {n₀ n₁ : Nat} {W W' : World} {b : Nat} {ks : List (List UInt8)} (h : Dict W b ks) (hg : W.grownBy W' (some b)) (hn : n₀ ≤ n₁) : ∀ (T : Tr) (v : Value), IsT n₀ W T v → IsT n₁ W' T v
  | .node _ _ _ l, _, h1 => by
    unfold IsT at h1 ⊢
    obtain ⟨a, c, e, h2, h3, h4, h5, h6, h7⟩ := h1
    exact ⟨a, c, e, h2, h3, h4, h5, h6, IsL.map_turned h hg hn l a h7⟩
theorem IsL.map_turned {n₀ n₁ : Nat} {W W' : World} {b : Nat} {ks : List (List UInt8)} (h : Dict W b ks) (hg : W.grownBy W' (some b)) (hn : n₀ ≤ n₁) : ∀ (l : List Tr) (a : Option Addr), IsL n₀ W l a → IsL n₁ W' l a
  | [], _, _ => by unfold IsL; trivial
  | t :: ts, _, h1 => by
    unfold IsL at h1 ⊢
    obtain ⟨b', off, v0, v1, v2, v3, e, hb, c0, c1, c2, c3, ht, hl⟩ := h1
    exact ⟨b', off, v0, v1, v2, v3, e, by omega, h.cell hg c0, h.cell hg c1, h.cell hg c2, h.cell hg c3, IsT.map_turned h hg hn t _ ht, IsL.map_turned h hg hn ts _ hl⟩
end

/-- What the method general leaves. -/
def GenPost (T U : Tr) (ks : List (List UInt8)) (bm : Nat) (w : World) (e : Ending) (w' : World) : Prop :=
  ∃ v', e = .returned v' ∧ IsP (New w.heap.size w') w' (genT T U ks).1 v' ∧ Dict w' bm (genT T U ks).2 ∧ w.grownBy w' (some bm)
end Go.Proofs.YtckoecmdaefoiaaDoor
