/- Trees in blocks of which something is known: what is new lies in new blocks. -/
import Derived.Test.YtckoecmdaefoiaaDoorRSame
import Derived.Laws.OwnMore
namespace Go.Proofs.YtckoecmdaefoiaaDoor
open Go.RowKit Go

mutual
/-- The value v is the tree, in blocks for which p holds. -/
def IsP (p : Nat → Prop) (W : World) : Tr → Value → Prop
  | .node k n s l, v => ∃ (a : Option Addr) (c : Nat), v = .agg #[.int .i64 k, .int .i64 n, .string s, .slice a l.length c] ∧ okI k ∧ okI n ∧ s.size ≤ maxLen ∧ l.length ≤ c ∧ c ≤ maxLen ∧ IsPL p W l a
def IsPL (p : Nat → Prop) (W : World) : List Tr → Option Addr → Prop
  | [], _ => True
  | t :: ts, a => ∃ (b off : Nat) (v0 v1 v2 v3 : Value), a = some ⟨b, off, none⟩ ∧ p b ∧ W.cell? ⟨b, off, none⟩ = some v0 ∧ W.cell? ⟨b, off + 1, none⟩ = some v1 ∧ W.cell? ⟨b, off + 2, none⟩ = some v2 ∧
      W.cell? ⟨b, off + 3, none⟩ = some v3 ∧ IsP p W t (.agg #[v0, v1, v2, v3]) ∧ IsPL p W ts (some ⟨b, off + 4, none⟩)
end
def IsPS (p : Nat → Prop) (W : World) (l : List Tr) (v : Value) : Prop :=
  ∃ (a : Option Addr) (c : Nat), v = .slice a l.length c ∧ l.length ≤ c ∧ c ≤ maxLen ∧ IsPL p W l a

mutual
theorem IsP.map {p q : Nat → Prop} {A B : World} (h : ∀ b, p b → q b ∧ B.heap[b]? = A.heap[b]?) : ∀ (T : Tr) (v : Value), IsP p A T v → IsP q B T v
  | .node _ _ _ l, _, h1 => by
    unfold IsP at h1 ⊢
    obtain ⟨a, c, e, h2, h3, h4, h5, h6, h7⟩ := h1
    exact ⟨a, c, e, h2, h3, h4, h5, h6, IsPL.map h l a h7⟩
theorem IsPL.map {p q : Nat → Prop} {A B : World} (h : ∀ b, p b → q b ∧ B.heap[b]? = A.heap[b]?) : ∀ (l : List Tr) (a : Option Addr), IsPL p A l a → IsPL q B l a
  | [], _, _ => by unfold IsPL; trivial
  | t :: ts, _, h1 => by
    unfold IsPL at h1 ⊢
    obtain ⟨b, off, v0, v1, v2, v3, e, hb, c0, c1, c2, c3, ht, hl⟩ := h1
    have hh := (h b hb).2
    exact ⟨b, off, v0, v1, v2, v3, e, (h b hb).1, (World.cell?_of_block (a := ⟨b, off, none⟩) hh).trans c0, (World.cell?_of_block (a := ⟨b, off + 1, none⟩) hh).trans c1, (World.cell?_of_block (a := ⟨b, off + 2, none⟩) hh).trans c2,
      (World.cell?_of_block (a := ⟨b, off + 3, none⟩) hh).trans c3, IsP.map h t _ ht, IsPL.map h ts _ hl⟩
end
mutual
theorem IsP.toT {p : Nat → Prop} {n₀ : Nat} {A : World} (h : ∀ b, p b → b < n₀) : ∀ (T : Tr) (v : Value), IsP p A T v → IsT n₀ A T v
  | .node _ _ _ l, _, h1 => by
    unfold IsP at h1
    unfold IsT
    obtain ⟨a, c, e, h2, h3, h4, h5, h6, h7⟩ := h1
    exact ⟨a, c, e, h2, h3, h4, h5, h6, IsPL.toL h l a h7⟩
theorem IsPL.toL {p : Nat → Prop} {n₀ : Nat} {A : World} (h : ∀ b, p b → b < n₀) : ∀ (l : List Tr) (a : Option Addr), IsPL p A l a → IsL n₀ A l a
  | [], _, _ => by unfold IsL; trivial
  | t :: ts, _, h1 => by
    unfold IsPL at h1
    unfold IsL
    obtain ⟨b, off, v0, v1, v2, v3, e, hb, c0, c1, c2, c3, ht, hl⟩ := h1
    exact ⟨b, off, v0, v1, v2, v3, e, h b hb, c0, c1, c2, c3, IsP.toT h t _ ht, IsPL.toL h ts _ hl⟩
end
mutual
theorem IsT.toP {n₀ : Nat} {A : World} : ∀ (T : Tr) (v : Value), IsT n₀ A T v → IsP (· < n₀) A T v
  | .node _ _ _ l, _, h1 => by
    unfold IsT at h1
    unfold IsP
    obtain ⟨a, c, e, h2, h3, h4, h5, h6, h7⟩ := h1
    exact ⟨a, c, e, h2, h3, h4, h5, h6, IsL.toP l a h7⟩
theorem IsL.toP {n₀ : Nat} {A : World} : ∀ (l : List Tr) (a : Option Addr), IsL n₀ A l a → IsPL (· < n₀) A l a
  | [], _, _ => by unfold IsPL; trivial
  | t :: ts, _, h1 => by
    unfold IsL at h1
    unfold IsPL
    obtain ⟨b, off, v0, v1, v2, v3, e, hb, c0, c1, c2, c3, ht, hl⟩ := h1
    exact ⟨b, off, v0, v1, v2, v3, e, hb, c0, c1, c2, c3, IsT.toP t _ ht, IsL.toP ts _ hl⟩
end
theorem IsP.open {p : Nat → Prop} {W : World} {k n : Int} {s : ByteArray} {l : List Tr} {v : Value} (h : IsP p W (.node k n s l) v) :
    ∃ (a : Option Addr) (c : Nat), v = .agg #[.int .i64 k, .int .i64 n, .string s, .slice a l.length c] ∧ okI k ∧ okI n ∧ s.size ≤ maxLen ∧ l.length ≤ c ∧ c ≤ maxLen ∧ IsPL p W l a := by
  unfold IsP at h; exact h
theorem IsP.mk {p : Nat → Prop} {W : World} {k n : Int} {s : ByteArray} {l : List Tr} {a : Option Addr} {c : Nat} (h1 : okI k) (h2 : okI n) (h3 : s.size ≤ maxLen) (h4 : l.length ≤ c) (h5 : c ≤ maxLen) (h6 : IsPL p W l a) :
    IsP p W (.node k n s l) (.agg #[.int .i64 k, .int .i64 n, .string s, .slice a l.length c]) := by
  unfold IsP; exact ⟨a, c, rfl, h1, h2, h3, h4, h5, h6⟩
theorem IsPL.nil {p : Nat → Prop} {W : World} {a : Option Addr} : IsPL p W [] a := by unfold IsPL; trivial
theorem IsPL.of_get {p : Nat → Prop} {W : World} : ∀ {l : List Tr} {b off : Nat}, p b → (∀ i (hi : i < l.length), ∃ v0 v1 v2 v3, W.cell? ⟨b, off + i * 4, none⟩ = some v0 ∧ W.cell? ⟨b, off + i * 4 + 1, none⟩ = some v1 ∧
    W.cell? ⟨b, off + i * 4 + 2, none⟩ = some v2 ∧ W.cell? ⟨b, off + i * 4 + 3, none⟩ = some v3 ∧ IsP p W l[i] (.agg #[v0, v1, v2, v3])) → IsPL p W l (some ⟨b, off, none⟩)
  | [], _, _, _, _ => IsPL.nil
  | t :: ts, b, off, hb, h => by
    unfold IsPL
    obtain ⟨v0, v1, v2, v3, c0, c1, c2, c3, ht⟩ := h 0 (by simp)
    refine ⟨b, off, v0, v1, v2, v3, rfl, hb, by simpa using c0, by simpa using c1, by simpa using c2, by simpa using c3, by simpa using ht, IsPL.of_get hb fun i hi => ?_⟩
    obtain ⟨u0, u1, u2, u3, d0, d1, d2, d3, hu⟩ := h (i + 1) (by simpa using hi)
    have e0 : off + (i + 1) * 4 = off + 4 + i * 4 := by omega
    rw [e0] at d0 d1 d2 d3
    exact ⟨u0, u1, u2, u3, d0, d1, d2, d3, by simpa using hu⟩

/-- The blocks that are new since a number. -/
def New (lo : Nat) (W : World) (b : Nat) : Prop := lo ≤ b ∧ b < W.heap.size
theorem New.toT {lo : Nat} {W : World} {T : Tr} {v : Value} (h : IsP (New lo W) W T v) : IsT W.heap.size W T v := IsP.toT (fun _ h => h.2) T v h
theorem New.below {lo lo' : Nat} {A B : World} {T : Tr} {v : Value} (h : IsP (New lo A) A T v) (hB : Below A.heap.size A B) (hl : lo' ≤ lo) : IsP (New lo' B) B T v :=
  IsP.map (fun b hb => ⟨⟨Nat.le_trans hl hb.1, Nat.lt_of_lt_of_le hb.2 hB.size⟩, hB.block b hb.2⟩) T v h

/-- The cells of a row of trees, as far as they have been laid. -/
def Laid (W : World) (lo : Nat) (cs : Array Value) (l : List Tr) : Prop := ∀ i (hi : i < l.length), ∃ v0 v1 v2 v3, cs[i * 4]? = some v0 ∧ cs[i * 4 + 1]? = some v1 ∧ cs[i * 4 + 2]? = some v2 ∧ cs[i * 4 + 3]? = some v3 ∧ IsP (New lo W) W l[i] (.agg #[v0, v1, v2, v3])
theorem Laid.keep {A B : World} {lo : Nat} {cs : Array Value} {l : List Tr} (h : Laid A lo cs l) (hs : A.heap.size ≤ B.heap.size) (hb : ∀ b, lo ≤ b → b < A.heap.size → B.heap[b]? = A.heap[b]?) : Laid B lo cs l := fun i hi => by
  obtain ⟨v0, v1, v2, v3, c0, c1, c2, c3, ht⟩ := h i hi
  exact ⟨v0, v1, v2, v3, c0, c1, c2, c3, IsP.map (fun b hb' => ⟨⟨hb'.1, Nat.lt_of_lt_of_le hb'.2 hs⟩, hb b hb'.1 hb'.2⟩) _ _ ht⟩
theorem Laid.snoc {W : World} {lo : Nat} {cs : Array Value} {l : List Tr} {t : Tr} {a0 a1 a2 a3 : Value} (h : Laid W lo cs l) (hsz : l.length * 4 + 4 ≤ cs.size) (ht : IsP (New lo W) W t (.agg #[a0, a1, a2, a3])) :
    Laid W lo ((((cs.setIfInBounds (l.length * 4) a0).setIfInBounds (l.length * 4 + 1) a1).setIfInBounds (l.length * 4 + 2) a2).setIfInBounds (l.length * 4 + 3) a3) (l ++ [t]) := fun i hi => by
  simp only [List.length_append, List.length_cons, List.length_nil] at hi
  by_cases hlt : i < l.length
  · obtain ⟨v0, v1, v2, v3, c0, c1, c2, c3, hT⟩ := h i hlt
    refine ⟨v0, v1, v2, v3, ?_, ?_, ?_, ?_, by rw [List.getElem_append_left hlt]; exact hT⟩
    · rw [Array.getElem?_setIfInBounds_ne (by omega), Array.getElem?_setIfInBounds_ne (by omega), Array.getElem?_setIfInBounds_ne (by omega), Array.getElem?_setIfInBounds_ne (by omega), c0]
    · rw [Array.getElem?_setIfInBounds_ne (by omega), Array.getElem?_setIfInBounds_ne (by omega), Array.getElem?_setIfInBounds_ne (by omega), Array.getElem?_setIfInBounds_ne (by omega), c1]
    · rw [Array.getElem?_setIfInBounds_ne (by omega), Array.getElem?_setIfInBounds_ne (by omega), Array.getElem?_setIfInBounds_ne (by omega), Array.getElem?_setIfInBounds_ne (by omega), c2]
    · rw [Array.getElem?_setIfInBounds_ne (by omega), Array.getElem?_setIfInBounds_ne (by omega), Array.getElem?_setIfInBounds_ne (by omega), Array.getElem?_setIfInBounds_ne (by omega), c3]
  · have e : i = l.length := by omega
    subst e
    refine ⟨a0, a1, a2, a3, ?_, ?_, ?_, ?_, by rw [List.getElem_append_right (Nat.le_refl _)]; simpa using ht⟩
    · rw [Array.getElem?_setIfInBounds_ne (by omega), Array.getElem?_setIfInBounds_ne (by omega), Array.getElem?_setIfInBounds_ne (by omega), Array.getElem?_setIfInBounds_self_of_lt (by omega)]
    · rw [Array.getElem?_setIfInBounds_ne (by omega), Array.getElem?_setIfInBounds_ne (by omega), Array.getElem?_setIfInBounds_self_of_lt (by simp; omega)]
    · rw [Array.getElem?_setIfInBounds_ne (by omega), Array.getElem?_setIfInBounds_self_of_lt (by simp; omega)]
    · rw [Array.getElem?_setIfInBounds_self_of_lt (by simp; omega)]
theorem Laid.done {W : World} {B : Nat} {cs : Array Value} {l : List Tr} (h : Laid W (B + 1) cs l) (hB : Box W B cs 25) : IsPL (New B W) W l (some ⟨B, 0, none⟩) :=
  IsPL.of_get ⟨Nat.le_refl _, hB.lt⟩ fun i hi => by
    obtain ⟨v0, v1, v2, v3, c0, c1, c2, c3, ht⟩ := h i hi
    refine ⟨v0, v1, v2, v3, ?_, ?_, ?_, ?_, IsP.map (fun b hb => ⟨⟨by have := hb.1; omega, hb.2⟩, rfl⟩) _ _ ht⟩
    · rw [hB.cell, Nat.zero_add]; exact c0
    · rw [hB.cell, Nat.zero_add]; exact c1
    · rw [hB.cell, Nat.zero_add]; exact c2
    · rw [hB.cell, Nat.zero_add]; exact c3
end Go.Proofs.YtckoecmdaefoiaaDoor
