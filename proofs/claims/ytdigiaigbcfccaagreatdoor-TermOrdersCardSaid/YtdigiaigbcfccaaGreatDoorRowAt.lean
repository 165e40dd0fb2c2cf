/- A list that is appended to, term by term, in a row of its own. -/
import Derived.Test.YtdigiaigbcfccaaGreatDoorGen
namespace Go.Proofs.YtdigiaigbcfccaaGreatDoor
open Go.RowKit Go

/-- The blocks in which the elements of a row may lie: those below n₀, those from lo on; not the row itself. -/
def OB (n₀ lo : Nat) (v : Value) (W : World) (b : Nat) : Prop := (b < n₀ ∨ lo ≤ b) ∧ b < W.heap.size ∧ some b ≠ v.ownBlock
/-- The same, the row too. -/
def OA (n₀ lo : Nat) (W : World) (b : Nat) : Prop := (b < n₀ ∨ lo ≤ b) ∧ b < W.heap.size
structure RowAt (n₀ lo : Nat) (w : World) (l : List Tr) (ov : Value) (xs : List Value) (wr : World) : Prop where
  own : wr.ownsRow lo 24 4 ov l.length xs
  len : xs.length = l.length * 4
  laid : LaidR (OB n₀ lo ov wr) wr xs l
  below : Below w.heap.size w wr
  hn : n₀ ≤ lo
  hw : w.heap.size ≤ lo
  hlo : lo ≤ wr.heap.size
theorem RowAt.nil {n₀ lo : Nat} {w wr : World} (hB : Below w.heap.size w wr) (hn : n₀ ≤ lo) (hw : w.heap.size ≤ lo) (hlo : lo ≤ wr.heap.size) : RowAt n₀ lo w [] (.slice none 0 0) [] wr :=
  ⟨World.ownsRow_nil _ _ _ _, rfl, LaidR.nil, hB, hn, hw, hlo⟩
theorem RowAt.up {n₀ lo : Nat} {w wr W : World} {l : List Tr} {ov : Value} {xs : List Value} (h : RowAt n₀ lo w l ov xs wr) (B : Below wr.heap.size wr W) : RowAt n₀ lo w l ov xs W :=
  ⟨h.own.kept (grown_b none B) (by rcases ov.ownBlock with _ | _ <;> simp), h.len, h.laid.map (fun b hb => ⟨⟨hb.1, Nat.lt_of_lt_of_le hb.2.1 B.size, hb.2.2⟩, B.block b hb.2.1⟩), h.below.trans (B.mono h.below.size), h.hn, h.hw, Nat.le_trans h.hlo B.size⟩
theorem RowAt.block {n₀ lo : Nat} {w wr : World} {l : List Tr} {ov : Value} {xs : List Value} (h : RowAt n₀ lo w l ov xs wr) {j : Nat} (hj : ov.ownBlock = some j) : lo ≤ j ∧ j < wr.heap.size := h.own.lt j hj
/-- A term is appended. -/
theorem RowAt.push {n₀ lo : Nat} {w W w3 : World} {l : List Tr} {ov v2 : Value} {xs : List Value} {t : Tr} {a0 a1 a2 a3 : Value} (h : RowAt n₀ lo w l ov xs W) (ht : IsP (OB n₀ lo ov W) W t (.agg #[a0, a1, a2, a3]))
    (hown : w3.ownsRow lo 24 4 v2 (l.length + 1) (xs ++ [a0, a1, a2, a3])) (hgrow : (W.alloc (.cells #[a0, a1, a2, a3] 24)).grownBy w3 ov.ownBlock)
    (hwh : ∀ b, v2.ownBlock = some b → ov.ownBlock = some b ∨ W.heap.size ≤ b) : RowAt n₀ lo w (l ++ [t]) v2 (xs ++ [a0, a1, a2, a3]) w3 := by
  have hs := hgrow.size
  simp only [World.size_alloc] at hs
  have hm : ∀ b, OB n₀ lo ov W b → OB n₀ lo v2 w3 b ∧ w3.heap[b]? = W.heap[b]? := fun b ⟨h1, h2, h3⟩ => by
    refine ⟨⟨h1, by omega, fun e => ?_⟩, (hgrow.block b (by simp; omega) h3).trans (Below.heap_alloc W _ b h2)⟩
    rcases hwh b e.symm with h | h
    · exact h3 h.symm
    · omega
  have hb := h.hw
  have hl := h.hlo
  refine ⟨by rw [len_snoc]; exact hown, by have := h.len; simp only [List.length_append, List.length_cons, List.length_nil]; omega, LaidR.snoc (LaidR.map h.laid hm) h.len (IsP.map hm _ _ ht), ?_, h.hn, hb, by omega⟩
  exact (h.below.alloc h.below.size _).trans (grown_below' hgrow (by simp; omega) (fun g hg => by have := (h.block hg).1; omega))
/-- The row reads as the list. -/
theorem RowAt.done {n₀ lo : Nat} {w wr : World} {l : List Tr} {ov : Value} {xs : List Value} (h : RowAt n₀ lo w l ov xs wr) : ∃ a c, ov = .slice a l.length c ∧ l.length ≤ c ∧ c ≤ maxLen ∧ IsPL (OA n₀ lo wr) wr l a := by
  have hown := h.own
  have hh := hown
  rcases hown.2 with ⟨rfl, h0⟩ | ⟨g, cap, cur, rfl, hb, hg, h1, h2, h3, h4⟩
  · obtain rfl : l = [] := List.length_eq_zero_iff.1 h0
    exact ⟨none, 0, rfl, Nat.le_refl _, by unfold maxLen; omega, IsPL.nil⟩
  · refine ⟨_, cap, rfl, h1, h2, IsPL.of_get ⟨.inr hb, (Array.getElem?_eq_some_iff.1 hg).1⟩ fun i hi => ?_⟩
    obtain ⟨v0, v1, v2, v3, c0, c1, c2, c3, ht⟩ := h.laid i hi
    have hc : ∀ j u, xs[j]? = some u → wr.cell? ⟨g, 0 + j, none⟩ = some u := fun j u hu => by
      have := World.ownsRow.cells hh (g := g) rfl j u hu
      rw [Addr.add_lit] at this
      exact this
    exact ⟨v0, v1, v2, v3, hc _ _ c0, by have := hc _ _ c1; rwa [← Nat.add_assoc] at this, by have := hc _ _ c2; rwa [← Nat.add_assoc] at this, by have := hc _ _ c3; rwa [← Nat.add_assoc] at this, IsP.map (fun b hb => ⟨⟨hb.1, hb.2.1⟩, rfl⟩) _ _ ht⟩
/-- What is new since the row was last written. -/
theorem OB.new {n₀ lo : Nat} {w wr W : World} {l : List Tr} {ov : Value} {xs : List Value} (h : RowAt n₀ lo w l ov xs wr) {T : Tr} {v : Value} {k : Nat} (hk : wr.heap.size ≤ k) (hP : IsP (New k W) W T v) : IsP (OB n₀ lo ov W) W T v :=
  IsP.map (fun b hb => ⟨⟨.inr (by have := h.hlo; have := hb.1; omega), hb.2, fun e => by have := (h.block e.symm).2; have := hb.1; omega⟩, rfl⟩) _ _ hP
theorem OA.lt {n₀ lo : Nat} {W : World} {l : List Tr} {a : Option Addr} (h : IsPL (OA n₀ lo W) W l a) : IsL W.heap.size W l a := IsPL.toL (fun _ hb => hb.2) _ _ h
theorem one_cells (k n : Int) (s : ByteArray) (a : Option Addr) (m c : Nat) : ∀ u ∈ [Value.int .i64 k, .int .i64 n, .string s, .slice a m c], u.oneCell' = true := fun u hu => by
  simp only [List.mem_cons, List.not_mem_nil, or_false] at hu
  rcases hu with rfl | rfl | rfl | rfl <;> rfl
theorem IsNewT.steadyR (lo : Nat) (T : Tr) : (Yld.any (IsNewT lo T)).stable := fun _ _ _ he h => ⟨Nat.le_trans h.1 (Below.size he), New.below h.2 he (Nat.le_refl _)⟩
end Go.Proofs.YtdigiaigbcfccaaGreatDoor
