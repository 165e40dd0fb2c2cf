/- A row of its own, with trees that lie elsewhere. -/
import Derived.Laws.OwnMore
import Derived.Test.YtlaeaoecmnaneaaDoorRowG
import Derived.Test.YtlaeaoecmnaneaaDoorMatchG
namespace Go.Proofs.YtlaeaoecmnaneaaDoor
open Go.RowKit Go

def FndX (n₀ : Nat) (W : World) (xs : List Value) (fs : List Tr) : Prop := ∀ i (hi : i < fs.length), ∃ (k n : Int) (s : ByteArray) (l : List Tr) (a : Option Addr) (c : Nat), fs[i] = .node k n s l ∧
  xs[i * 4]? = some (.int .i64 k) ∧ xs[i * 4 + 1]? = some (.int .i64 n) ∧ xs[i * 4 + 2]? = some (.string s) ∧ xs[i * 4 + 3]? = some (.slice a l.length c) ∧ IsT n₀ W fs[i] (.agg #[.int .i64 k, .int .i64 n, .string s, .slice a l.length c])
/-- v is a slice of its own, in a block from n₀ on; its elements are these trees, which lie below n₀. -/
def RowF (n₀ : Nat) (W : World) (v : Value) (fs : List Tr) : Prop := ∃ xs, W.ownsRow n₀ 25 4 v fs.length xs ∧ FndX n₀ W xs fs
theorem FndX.keep {n₀ : Nat} {A B : World} {xs : List Value} {fs : List Tr} (h : FndX n₀ A xs fs) (hb : Below n₀ A B) : FndX n₀ B xs fs := fun i hi => by
  obtain ⟨k, n, s, l, a, c, e, c0, c1, c2, c3, ht⟩ := h i hi
  exact ⟨k, n, s, l, a, c, e, c0, c1, c2, c3, ht.below hb⟩
theorem FndX.set {n₀ : Nat} {W : World} {xs : List Value} {fs : List Tr} {j : Nat} {k n : Int} {s : ByteArray} {l : List Tr} {a : Option Addr} {c : Nat} (hx : xs.length = fs.length * 4) (h : FndX n₀ W xs fs) (hj : j < fs.length) (ht : IsT n₀ W (.node k n s l) (.agg #[.int .i64 k, .int .i64 n, .string s, .slice a l.length c])) :
    FndX n₀ W ((((xs.set (j * 4) (.int .i64 k)).set (j * 4 + 1) (.int .i64 n)).set (j * 4 + 2) (.string s)).set (j * 4 + 3) (.slice a l.length c)) (fs.set j (.node k n s l)) := by
  intro i hi
  simp only [List.length_set] at hi
  by_cases e : i = j
  · subst e
    refine ⟨k, n, s, l, a, c, by simp, ?_, ?_, ?_, ?_, by simpa using ht⟩
    · rw [List.getElem?_set_ne (by omega), List.getElem?_set_ne (by omega), List.getElem?_set_ne (by omega), List.getElem?_set_self (by omega)]
    · rw [List.getElem?_set_ne (by omega), List.getElem?_set_ne (by omega), List.getElem?_set_self (by simp; omega)]
    · rw [List.getElem?_set_ne (by omega), List.getElem?_set_self (by simp; omega)]
    · rw [List.getElem?_set_self (by simp; omega)]
  · obtain ⟨k', n', s', l', a', c', e', c0, c1, c2, c3, ht'⟩ := h i hi
    have eg : (fs.set j (.node k n s l))[i]'(by simpa using hi) = fs[i] := by rw [List.getElem_set_ne (Ne.symm e)]
    refine ⟨k', n', s', l', a', c', by rw [eg]; exact e', ?_, ?_, ?_, ?_, by rw [eg]; exact ht'⟩
    · rw [List.getElem?_set_ne (by omega), List.getElem?_set_ne (by omega), List.getElem?_set_ne (by omega), List.getElem?_set_ne (by omega), c0]
    · rw [List.getElem?_set_ne (by omega), List.getElem?_set_ne (by omega), List.getElem?_set_ne (by omega), List.getElem?_set_ne (by omega), c1]
    · rw [List.getElem?_set_ne (by omega), List.getElem?_set_ne (by omega), List.getElem?_set_ne (by omega), List.getElem?_set_ne (by omega), c2]
    · rw [List.getElem?_set_ne (by omega), List.getElem?_set_ne (by omega), List.getElem?_set_ne (by omega), List.getElem?_set_ne (by omega), c3]
theorem RowF.nil (n₀ : Nat) (W : World) : RowF n₀ W (.slice none 0 0) [] := ⟨[], World.ownsRow_nil _ _ _ _, fun i hi => by simp at hi⟩
theorem RowF.kept {n₀ : Nat} {W W' : World} {v : Value} {fs : List Tr} {row : Option Nat} (h : RowF n₀ W v fs) (hg : W.grownBy W' row) (hne : v.ownBlock = none ∨ v.ownBlock ≠ row) (hB : Below n₀ W W') : RowF n₀ W' v fs := by
  obtain ⟨xs, h1, h2⟩ := h
  exact ⟨xs, h1.kept hg hne, h2.keep hB⟩
theorem RowF.keep {n₀ : Nat} {W W' : World} {v : Value} {fs : List Tr} (h : RowF n₀ W v fs) (hn : n₀ ≤ W.heap.size) (hB : Below W.heap.size W W') : RowF n₀ W' v fs :=
  h.kept (grown_b none hB) (by rcases v.ownBlock with _ | _ <;> simp) (hB.mono hn)
theorem RowF.lt {n₀ : Nat} {W : World} {v : Value} {fs : List Tr} (h : RowF n₀ W v fs) : ∀ g, v.ownBlock = some g → n₀ ≤ g ∧ g < W.heap.size := by
  obtain ⟨xs, h1, _⟩ := h
  exact h1.lt
theorem RowF.form {n₀ : Nat} {W : World} {v : Value} {fs : List Tr} (h : RowF n₀ W v fs) : ∃ a c, v = .slice a fs.length c := by
  obtain ⟨xs, ⟨_, h | ⟨g, cap, cur, h, _⟩⟩, _⟩ := h
  · exact ⟨none, 0, by rw [h.1, h.2]⟩
  · exact ⟨_, _, h⟩
theorem zero_cells : ([.int .i64 0, .int .i64 0, .string ⟨#[]⟩, .slice none 0 0] : List Value).length = 4 := rfl
theorem FndX.snoc {n₀ : Nat} {W : World} {xs : List Value} {fs : List Tr} (hx : xs.length = fs.length * 4) (h : FndX n₀ W xs fs) : FndX n₀ W (xs ++ [.int .i64 0, .int .i64 0, .string ⟨#[]⟩, .slice none 0 0]) (fs ++ [zeroTr]) := by
  intro i hi
  simp only [List.length_append, List.length_singleton] at hi
  by_cases e : i < fs.length
  · obtain ⟨k', n', s', l', a', c', e', c0, c1, c2, c3, ht'⟩ := h i e
    have eg : (fs ++ [zeroTr])[i]'(by simpa using hi) = fs[i] := List.getElem_append_left e
    refine ⟨k', n', s', l', a', c', by rw [eg]; exact e', ?_, ?_, ?_, ?_, by rw [eg]; exact ht'⟩
    · rw [List.getElem?_append_left (by omega), c0]
    · rw [List.getElem?_append_left (by omega), c1]
    · rw [List.getElem?_append_left (by omega), c2]
    · rw [List.getElem?_append_left (by omega), c3]
  · obtain rfl : i = fs.length := by omega
    have eg : (fs ++ [zeroTr])[fs.length]'(by simp) = zeroTr := by simp
    refine ⟨0, 0, emp, [], none, 0, by rw [eg]; rfl, ?_, ?_, ?_, ?_, ?_⟩
    · rw [List.getElem?_append_right (by omega), hx]; simp
    · rw [List.getElem?_append_right (by omega), hx, show fs.length * 4 + 1 - fs.length * 4 = 1 by omega]; rfl
    · rw [List.getElem?_append_right (by omega), hx, show fs.length * 4 + 2 - fs.length * 4 = 2 by omega]; rfl
    · rw [List.getElem?_append_right (by omega), hx, show fs.length * 4 + 3 - fs.length * 4 = 3 by omega]; rfl
    · rw [eg]
      exact IsP.toT (p := fun _ => False) (fun _ h => h.elim) _ _ (zero_isP _ _)
/-- One element is written over. -/
theorem RowF.put {n₀ : Nat} {W : World} {g len cap : Nat} {fs : List Tr} {j : Nat} {k n : Int} {s : ByteArray} {l : List Tr} {a : Option Addr} {c : Nat} (h : RowF n₀ W (.slice (some ⟨g, 0, none⟩) len cap) fs) (hlen : len = fs.length) (hj : j < fs.length) (ht : IsT n₀ W (.node k n s l) (.agg #[.int .i64 k, .int .i64 n, .string s, .slice a l.length c])) :
    RowF n₀ ((((W.setCell ⟨g, j * 4, none⟩ (.int .i64 k)).setCell ⟨g, j * 4 + 1, none⟩ (.int .i64 n)).setCell ⟨g, j * 4 + 2, none⟩ (.string s)).setCell ⟨g, j * 4 + 3, none⟩ (.slice a l.length c)) (.slice (some ⟨g, 0, none⟩) len cap) (fs.set j (.node k n s l))
      ∧ W.grownBy ((((W.setCell ⟨g, j * 4, none⟩ (.int .i64 k)).setCell ⟨g, j * 4 + 1, none⟩ (.int .i64 n)).setCell ⟨g, j * 4 + 2, none⟩ (.string s)).setCell ⟨g, j * 4 + 3, none⟩ (.slice a l.length c)) (some g) := by
  subst hlen
  obtain ⟨xs, h1, h2⟩ := h
  have hg0 := (h1.lt g rfl).1
  obtain ⟨o1, g1⟩ := h1.stored (j * 4) (.int .i64 k)
  obtain ⟨o2, g2⟩ := o1.stored (j * 4 + 1) (.int .i64 n)
  obtain ⟨o3, g3⟩ := o2.stored (j * 4 + 2) (.string s)
  obtain ⟨o4, g4⟩ := o3.stored (j * 4 + 3) (.slice a l.length c)
  have hgr := grown_trans (grown_trans (grown_trans g1 g2) g3) g4
  refine ⟨⟨_, by rw [List.length_set]; exact o4, ((FndX.set h1.1 h2 hj ht).keep ?_)⟩, hgr⟩
  exact ⟨hgr.os, hgr.tape, hgr.output, hgr.size, fun b hb => by
    rw [Below.heap_setCell _ _ _ _ (by simp; omega), Below.heap_setCell _ _ _ _ (by simp; omega), Below.heap_setCell _ _ _ _ (by simp; omega), Below.heap_setCell _ _ _ _ (by simp; omega)]⟩
/-- The cells of one element. -/
theorem RowF.at {n₀ : Nat} {W : World} {g len cap : Nat} {fs : List Tr} {j : Nat} (h : RowF n₀ W (.slice (some ⟨g, 0, none⟩) len cap) fs) (hlen : len = fs.length) (hj : j < fs.length) : ∃ (k n : Int) (s : ByteArray) (l : List Tr) (a : Option Addr) (c : Nat), fs[j] = .node k n s l ∧
    W.cell? ⟨g, j * 4, none⟩ = some (.int .i64 k) ∧ W.cell? ⟨g, j * 4 + 1, none⟩ = some (.int .i64 n) ∧ W.cell? ⟨g, j * 4 + 2, none⟩ = some (.string s) ∧ W.cell? ⟨g, j * 4 + 3, none⟩ = some (.slice a l.length c) ∧ IsT n₀ W fs[j] (.agg #[.int .i64 k, .int .i64 n, .string s, .slice a l.length c]) ∧ l.length ≤ maxLen := by
  subst hlen
  obtain ⟨xs, h1, h2⟩ := h
  obtain ⟨k, n, s, l, a, c, e, c0, c1, c2, c3, ht⟩ := h2 j hj
  have ht' := ht
  rw [e] at ht'
  obtain ⟨a', c', e', _, _, _, h4, h5, _⟩ := ht'.open
  refine ⟨k, n, s, l, a, c, e, ?_, ?_, ?_, ?_, ht, Nat.le_trans h4 h5⟩
  · rw [h1.cellAt _ (by omega), c0]
  · rw [h1.cellAt _ (by omega), c1]
  · rw [h1.cellAt _ (by omega), c2]
  · rw [h1.cellAt _ (by omega), c3]
theorem RowF.frozen {n₀ : Nat} {W : World} {g len cap : Nat} {fs : List Tr} (h : RowF n₀ W (.slice (some ⟨g, 0, none⟩) len cap) fs) (hlen : len = fs.length) (j : Nat) : W.frozen? ⟨g, j, none⟩ = false := by
  subst hlen
  obtain ⟨xs, h1, _⟩ := h
  exact h1.frozenAt j
/-- The row as a list of trees. -/
theorem RowF.isS {n₀ : Nat} {W : World} {v : Value} {fs : List Tr} (h : RowF n₀ W v fs) (hn : n₀ ≤ W.heap.size) : IsS W.heap.size W fs v := by
  obtain ⟨a, c, rfl⟩ := h.form
  obtain ⟨xs, h1, h2⟩ := h
  rcases h1.2 with ⟨e, h0⟩ | ⟨g, cap, cur, e, hb, hg, hnc, hcm, _⟩
  · obtain rfl := List.length_eq_zero_iff.1 h0
    cases e
    exact ⟨none, 0, rfl, Nat.le_refl _, by decide, IsL.nil⟩
  · cases e
    have hlt := (h1.lt g rfl).2
    refine ⟨_, _, rfl, hnc, hcm, IsL.of_get hlt fun i hi => ?_⟩
    simp only [Nat.zero_add]
    obtain ⟨k, n, s, l, a, c, e, c0, c1, c2, c3, ht⟩ := h2 i hi
    refine ⟨_, _, _, _, ?_, ?_, ?_, ?_, ht.mono hn⟩
    · rw [h1.cellAt _ (by omega), c0]
    · rw [h1.cellAt _ (by omega), c1]
    · rw [h1.cellAt _ (by omega), c2]
    · rw [h1.cellAt _ (by omega), c3]
end Go.Proofs.YtlaeaoecmnaneaaDoor
