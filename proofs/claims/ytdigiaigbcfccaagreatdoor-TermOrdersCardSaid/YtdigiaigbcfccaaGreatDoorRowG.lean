/- A list that is appended to in a row of its own, while one other block may be written; what the second readings of Shift and Subst make. -/
import Derived.Test.YtdigiaigbcfccaaGreatDoorRowAt
import Derived.Test.YtdigiaigbcfccaaGreatDoorNorm
namespace Go.Proofs.YtdigiaigbcfccaaGreatDoor
open Go.RowKit Go

/-- row: the block that may be written beside. -/
structure RowG (row : Option Nat) (n₀ lo : Nat) (w : World) (l : List Tr) (ov : Value) (xs : List Value) (wr : World) : Prop where
  own : wr.ownsRow lo 24 4 ov l.length xs
  len : xs.length = l.length * 4
  laid : LaidR (OB n₀ lo ov wr) wr xs l
  grown : w.grownBy wr row
  hn : n₀ ≤ w.heap.size
  hrow : ∀ p, row = some p → n₀ ≤ p ∧ p < w.heap.size
  hw : w.heap.size ≤ lo
  hlo : lo ≤ wr.heap.size
theorem RowG.nil {row : Option Nat} {n₀ lo : Nat} {w wr : World} (hg : w.grownBy wr row) (hn : n₀ ≤ w.heap.size) (hr : ∀ p, row = some p → n₀ ≤ p ∧ p < w.heap.size) (hw : w.heap.size ≤ lo) (hlo : lo ≤ wr.heap.size) : RowG row n₀ lo w [] (.slice none 0 0) [] wr :=
  ⟨World.ownsRow_nil _ _ _ _, rfl, LaidR.nil, hg, hn, hr, hw, hlo⟩
theorem RowG.block {row : Option Nat} {n₀ lo : Nat} {w wr : World} {l : List Tr} {ov : Value} {xs : List Value} (h : RowG row n₀ lo w l ov xs wr) {j : Nat} (hj : ov.ownBlock = some j) : lo ≤ j ∧ j < wr.heap.size := h.own.lt j hj
theorem grown_step {a b c : World} {row : Option Nat} (h : a.grownBy b row) (k : b.grownBy c row) : a.grownBy c row :=
  ⟨k.os.trans h.os, k.tape.trans h.tape, k.output.trans h.output, Nat.le_trans h.size k.size, fun i hi hr => (k.block i (Nat.lt_of_lt_of_le hi h.size) hr).trans (h.block i hi hr)⟩
/-- Blocks are added, and what may be written is. -/
theorem RowG.up {row : Option Nat} {n₀ lo : Nat} {w wr W : World} {l : List Tr} {ov : Value} {xs : List Value} (h : RowG row n₀ lo w l ov xs wr) (B : wr.grownBy W row) : RowG row n₀ lo w l ov xs W := by
  have hne : ∀ p, row = some p → some p ≠ ov.ownBlock := fun p hp e => by
    have h1 := (h.hrow p hp).2
    have h2 := h.hw
    have h3 := (h.block e.symm).1
    omega
  have hor : ov.ownBlock = none ∨ ov.ownBlock ≠ row := by
    rcases hb : ov.ownBlock with _ | j
    · exact .inl rfl
    · exact .inr fun e => hne j e.symm (by rw [hb])
  refine ⟨h.own.kept B hor, h.len, h.laid.map (fun b hb => ⟨⟨hb.1, Nat.lt_of_lt_of_le hb.2.1 B.size, hb.2.2⟩, B.block b hb.2.1 fun e => ?_⟩), grown_step h.grown B, h.hn, h.hrow, h.hw, Nat.le_trans h.hlo B.size⟩
  have h1 := h.hrow b e.symm
  have h2 := h.hw
  rcases hb.1 with h | h <;> omega
theorem RowG.keep {row : Option Nat} {n₀ lo : Nat} {w wr W : World} {l : List Tr} {ov : Value} {xs : List Value} (h : RowG row n₀ lo w l ov xs wr) (B : Below wr.heap.size wr W) : RowG row n₀ lo w l ov xs W := h.up (grown_b row B)
/-- A store into a block that is neither old nor the row's. -/
theorem RowG.set {row : Option Nat} {n₀ lo : Nat} {w wr : World} {l : List Tr} {ov : Value} {xs : List Value} (h : RowG row n₀ lo w l ov xs wr) {b : Nat} (h1 : w.heap.size ≤ b) (h2 : b < lo) (i : Nat) (v : Value) : RowG row n₀ lo w l ov xs (wr.setCell ⟨b, i, none⟩ v) := by
  have hg : wr.grownBy (wr.setCell ⟨b, i, none⟩ v) (some b) := grown_set b i wr v
  have hor : ov.ownBlock = none ∨ ov.ownBlock ≠ some b := by
    rcases hb : ov.ownBlock with _ | j
    · exact .inl rfl
    · exact .inr fun e => by cases e; have := (h.block hb).1; omega
  have hn := h.hn
  refine ⟨h.own.kept hg hor, h.len, h.laid.map (fun c hc => ⟨⟨hc.1, by simpa using hc.2.1, hc.2.2⟩, hg.block c hc.2.1 fun e => ?_⟩), ⟨hg.os.trans h.grown.os, hg.tape.trans h.grown.tape, hg.output.trans h.grown.output, Nat.le_trans h.grown.size hg.size, fun k hk hr => (hg.block k (Nat.lt_of_lt_of_le hk h.grown.size) (fun e => by cases e; omega)).trans (h.grown.block k hk hr)⟩, h.hn, h.hrow, h.hw, by simpa using h.hlo⟩
  cases e
  rcases hc.1 with h | h <;> omega
/-- A term is appended. -/
theorem RowG.push {row : Option Nat} {n₀ lo : Nat} {w W w3 : World} {l : List Tr} {ov v2 : Value} {xs : List Value} {t : Tr} {a0 a1 a2 a3 : Value} (h : RowG row n₀ lo w l ov xs W) (ht : IsP (OB n₀ lo ov W) W t (.agg #[a0, a1, a2, a3]))
    (hown : w3.ownsRow lo 24 4 v2 (l.length + 1) (xs ++ [a0, a1, a2, a3])) (hgrow : (W.alloc (.cells #[a0, a1, a2, a3] 24)).grownBy w3 ov.ownBlock)
    (hwh : ∀ b, v2.ownBlock = some b → ov.ownBlock = some b ∨ W.heap.size ≤ b) : RowG row n₀ lo w (l ++ [t]) v2 (xs ++ [a0, a1, a2, a3]) w3 := by
  have hs := hgrow.size
  simp only [World.size_alloc] at hs
  have hm : ∀ b, OB n₀ lo ov W b → OB n₀ lo v2 w3 b ∧ w3.heap[b]? = W.heap[b]? := fun b ⟨h1, h2, h3⟩ => by
    refine ⟨⟨h1, by omega, fun e => ?_⟩, (hgrow.block b (by simp; omega) h3).trans (Below.heap_alloc W _ b h2)⟩
    rcases hwh b e.symm with h | h
    · exact h3 h.symm
    · omega
  have hb := h.hw
  have hl := h.hlo
  have hsz := h.grown.size
  refine ⟨by rw [len_snoc]; exact hown, by have := h.len; simp only [List.length_append, List.length_cons, List.length_nil]; omega, LaidR.snoc (LaidR.map h.laid hm) h.len (IsP.map hm _ _ ht), ⟨hgrow.os.trans h.grown.os, hgrow.tape.trans h.grown.tape, hgrow.output.trans h.grown.output, by omega, fun k hk hr => ?_⟩, h.hn, h.hrow, hb, by omega⟩
  refine (hgrow.block k (by simp; omega) (fun e => ?_)).trans ((Below.heap_alloc W _ k (by omega)).trans (h.grown.block k hk hr))
  have := (h.block e.symm).1
  omega
/-- The row reads as the list. -/
theorem RowG.done {row : Option Nat} {n₀ lo : Nat} {w wr : World} {l : List Tr} {ov : Value} {xs : List Value} (h : RowG row n₀ lo w l ov xs wr) : ∃ a c, ov = .slice a l.length c ∧ l.length ≤ c ∧ c ≤ maxLen ∧ IsPL (OA n₀ lo wr) wr l a := by
  have hown := h.own
  have hh := hown
  rcases hown.2 with ⟨rfl, h0⟩ | ⟨g, cap, cur, rfl, hb, hg, h1, h2, h3, h4⟩
  · obtain rfl : l = [] := List.length_eq_zero_iff.1 h0
    exact ⟨none, 0, rfl, Nat.le_refl _, by unfold maxLen; omega, IsPL.nil⟩
  · refine ⟨_, cap, rfl, h1, h2, IsPL.of_get ⟨.inr hb, (Array.getElem?_eq_some_iff.1 hg).1⟩ fun i hi => ?_⟩
    obtain ⟨v0, v1, v2, v3, c0, c1, c2, c3, ht⟩ := h.laid i hi
    have hc : ∀ j u, xs[j]? = some u → wr.cell? ⟨g, 0 + j, none⟩ = some u := fun j u hu => by
      have := World.ownsRow.cells hh (g := g) rfl j u hu
      rw [Addr.add_lit] at this
      exact this
    exact ⟨v0, v1, v2, v3, hc _ _ c0, by have := hc _ _ c1; rwa [← Nat.add_assoc] at this, by have := hc _ _ c2; rwa [← Nat.add_assoc] at this, by have := hc _ _ c3; rwa [← Nat.add_assoc] at this, IsP.map (fun b hb => ⟨⟨hb.1, hb.2.1⟩, rfl⟩) _ _ ht⟩
/-- What lies in old blocks, and in blocks that are new since the row was last written, lies in no row. -/
theorem OB.from {row : Option Nat} {n₀ lo : Nat} {w wr W : World} {l : List Tr} {ov : Value} {xs : List Value} (h : RowG row n₀ lo w l ov xs wr) {T : Tr} {v : Value} {k : Nat} (hk : wr.heap.size ≤ k) (hP : IsP (OA n₀ k W) W T v) : IsP (OB n₀ lo ov W) W T v :=
  IsP.map (fun b hb => ⟨⟨hb.1.imp id (fun g => by have := h.hlo; omega), hb.2, fun e => by
    have h1 := (h.block e.symm)
    have h2 := h.hn
    have h3 := h.hw
    rcases hb.1 with g | g <;> omega⟩, rfl⟩) _ _ hP

mutual
/-- What the second reading of Shift asks. -/
def shRT (n : Int) : Tr → Bool
  | .node k x _ l => (!decide (k = 1) || (decide (n ≤ 100000) && decide (-100000 ≤ n) && decide (0 ≤ x + n) && decide (x + n < 100000))) && shRL n l
def shRL (n : Int) : List Tr → Bool
  | [] => true
  | t :: ts => shRT n t && shRL n ts
end
theorem shRL_append (n : Int) (u v : List Tr) : shRL n (u ++ v) = (shRL n u && shRL n v) := by
  induction u with
  | nil => simp [shRL]
  | cons t ts ih => simp only [List.cons_append, shRL, ih, Bool.and_assoc]
theorem shRL_take {n : Int} {l : List Tr} {j : Nat} (h : j < l.length) : shRL n (l.take (j + 1)) = (shRL n (l.take j) && shRT n l[j]) := by
  rw [List.take_succ_eq_append_getElem h, shRL_append]; simp [shRL]
theorem shRL_false {n : Int} : ∀ {l : List Tr} {t : Tr}, t ∈ l → shRT n t = false → shRL n l = false
  | x :: l, t, ht, hf => by
    rw [shRL]
    rcases List.mem_cons.1 ht with rfl | h
    · rw [hf]; rfl
    · rw [shRL_false h hf, Bool.and_false]
mutual
theorem shR_pre (n : Int) : ∀ (T : Tr) (d : Int), T.good = true → shRT n T = (preT d T).all fun x => !decide (x.2.kind = 1) || (decide (-x.2.num ≤ n) && decide (n < 100000 - x.2.num))
  | .node k x s l, d, h => by
    have h' := h
    simp only [Tr.good, Bool.and_eq_true] at h
    rw [shRT, preT, List.all_cons, shR_preL n l (d + 1) h.2]
    congr 1
    by_cases hk : k = 1
    · subst hk
      have hv := good_var h'
      rw [Bool.eq_iff_iff]
      simp [Tr.kind, Tr.num]
      refine ⟨fun h => ⟨decide_eq_true (by omega), decide_eq_true (by omega)⟩, fun h => ?_⟩
      have h1 := of_decide_eq_true h.1
      have h2 := of_decide_eq_true h.2
      omega
    · simp [Tr.kind, hk]
theorem shR_preL (n : Int) : ∀ (l : List Tr) (d : Int), goodL l = true → shRL n l = (preL d l).all fun x => !decide (x.2.kind = 1) || (decide (-x.2.num ≤ n) && decide (n < 100000 - x.2.num))
  | [], _, _ => rfl
  | t :: ts, d, h => by
    simp only [goodL, Bool.and_eq_true] at h
    rw [shRL, preL, List.all_append, shR_pre n t d h.1, shR_preL n ts d h.2]
end
theorem shR_ok {n : Int} {T : Tr} (h : T.good = true) : shRT n T = shOk n T := shR_pre n T 1 h
end Go.Proofs.YtdigiaigbcfccaaGreatDoor
