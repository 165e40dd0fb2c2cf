/- The order of trees is total. -/
import Derived.Test.YtdigiaigbcfccaaGreatDoorOrd
namespace Go.Proofs.YtdigiaigbcfccaaGreatDoor
open Go.RowKit Go

theorem lex_trans {p q r p' q' r' : Int} (h : p ≤ 0 → q ≤ 0 → r ≤ 0) (h1 : p = 0 → r = q) (h2 : q = 0 → r = p) (h3 : r = 0 → q = -p) (h' : p = 0 → q = 0 → p' ≤ 0 → q' ≤ 0 → r' ≤ 0) :
    (if p = 0 then p' else p) ≤ 0 → (if q = 0 then q' else q) ≤ 0 → (if r = 0 then r' else r) ≤ 0 := by
  by_cases e1 : p = 0
  · have := h1 e1; subst e1; subst this
    rw [if_pos rfl]
    by_cases e2 : r = 0
    · rw [if_pos e2, if_pos e2]; exact h' rfl e2
    · rw [if_neg e2, if_neg e2]; exact fun _ q => q
  · rw [if_neg e1]
    by_cases e2 : q = 0
    · have := h2 e2; subst this
      rw [if_neg e1]; exact fun q _ => q
    · rw [if_neg e2]
      intro q1 q2
      have q3 := h q1 q2
      split
      · rename_i e3; have := h3 e3; omega
      · exact q3
/-- -1, 0 or 1; turned round; 0 of equals alone; it goes on. -/
def Rng (x : Int) : Prop := x = -1 ∨ x = 0 ∨ x = 1
theorem Rng.lex {p q : Int} (h : Rng p) (k : Rng q) : Rng (if p = 0 then q else p) := by unfold Rng at *; split <;> omega
theorem lex_anti {p q p' q' : Int} (h : p' = -p) (k : q' = -q) : (if p' = 0 then q' else p') = -(if p = 0 then q else p) := by
  by_cases e : p = 0
  · rw [if_pos (by omega), if_pos e]; exact k
  · rw [if_neg (by omega), if_neg e]; exact h
theorem lex_zero {p q : Int} {A B : Prop} (h : p = 0 ↔ A) (k : q = 0 ↔ B) : (if p = 0 then q else p) = 0 ↔ A ∧ B := by
  by_cases e : p = 0
  · rw [if_pos e, k]; exact ⟨fun q => ⟨h.1 e, q⟩, fun q => q.2⟩
  · rw [if_neg e]; exact ⟨fun q => absurd q e, fun q => absurd (h.2 q.1) e⟩
theorem ci_rng (a b : Int) : Rng (Lib.compareInt a b) := by unfold Lib.compareInt Rng; (repeat' split) <;> omega
theorem ci_anti (a b : Int) : Lib.compareInt b a = - Lib.compareInt a b := by unfold Lib.compareInt; repeat' split <;> omega
theorem ci_zero (a b : Int) : Lib.compareInt a b = 0 ↔ a = b := by unfold Lib.compareInt; split <;> (try split) <;> constructor <;> intro h <;> omega
theorem ci_trans (a b d : Int) : Lib.compareInt a b ≤ 0 → Lib.compareInt b d ≤ 0 → Lib.compareInt a d ≤ 0 := by unfold Lib.compareInt; repeat' split <;> omega
theorem cb_rng : ∀ a b : List UInt8, Rng (Lib.compareBytes a b)
  | [], [] => .inr (.inl rfl)
  | [], _ :: _ => .inl rfl
  | _ :: _, [] => .inr (.inr rfl)
  | a :: u, b :: v => by
    have := cb_rng u v
    rw [Lib.compareBytes]
    unfold Rng at *
    repeat' split
    all_goals first | omega | exact this
theorem cb_anti : ∀ a b : List UInt8, Lib.compareBytes b a = - Lib.compareBytes a b
  | [], [] => rfl
  | [], _ :: _ => rfl
  | _ :: _, [] => rfl
  | a :: u, b :: v => by
    have := cb_anti u v
    simp only [Lib.compareBytes, UInt8.lt_iff_toNat_lt]
    repeat' split
    all_goals omega
theorem cb_zero : ∀ a b : List UInt8, Lib.compareBytes a b = 0 ↔ a = b
  | [], [] => by simp [Lib.compareBytes]
  | [], _ :: _ => by simp [Lib.compareBytes]
  | _ :: _, [] => by simp [Lib.compareBytes]
  | a :: u, b :: v => by
    have := cb_zero u v
    simp only [Lib.compareBytes, UInt8.lt_iff_toNat_lt, List.cons.injEq, ← UInt8.toNat_inj]
    split
    · constructor <;> intro h <;> omega
    · split
      · constructor <;> intro h <;> omega
      · rw [this]
        constructor
        · exact fun h => ⟨by omega, h⟩
        · exact fun h => h.2
theorem cb_trans : ∀ a b d : List UInt8, Lib.compareBytes a b ≤ 0 → Lib.compareBytes b d ≤ 0 → Lib.compareBytes a d ≤ 0
  | [], _, [] => by simp [Lib.compareBytes]
  | [], _, _ :: _ => by simp [Lib.compareBytes]
  | _ :: _, [], _ => by simp [Lib.compareBytes]
  | _ :: _, _ :: _, [] => by simp [Lib.compareBytes]
  | a :: u, b :: v, d :: y => by
    have := cb_trans u v y
    simp only [Lib.compareBytes, UInt8.lt_iff_toNat_lt]
    repeat' split
    all_goals omega
theorem str_eq {s s' : ByteArray} : s.data.toList = s'.data.toList ↔ s = s' := by
  constructor
  · intro h
    cases s; cases s'
    simpa using h
  · intro h; rw [h]
theorem topO_eq (k n : Int) (s : ByteArray) (len : Nat) (k' n' : Int) (s' : ByteArray) (len' : Nat) : topO k n s len k' n' s' len' =
    if Lib.compareInt k k' = 0 then (if Lib.compareInt len len' = 0 then (if Lib.compareInt n n' = 0 then Lib.compareBytes s.data.toList s'.data.toList else Lib.compareInt n n') else Lib.compareInt len len') else Lib.compareInt k k' := by
  simp only [topO, orL]
  congr 1
  congr 1
  congr 1
  split <;> simp_all
theorem topO_rng (k n : Int) (s : ByteArray) (len : Nat) (k' n' : Int) (s' : ByteArray) (len' : Nat) : Rng (topO k n s len k' n' s' len') := by
  rw [topO_eq]; exact (ci_rng _ _).lex ((ci_rng _ _).lex ((ci_rng _ _).lex (cb_rng _ _)))
theorem topO_anti (k n : Int) (s : ByteArray) (len : Nat) (k' n' : Int) (s' : ByteArray) (len' : Nat) : topO k' n' s' len' k n s len = - topO k n s len k' n' s' len' := by
  rw [topO_eq, topO_eq]; exact lex_anti (ci_anti _ _) (lex_anti (ci_anti _ _) (lex_anti (ci_anti _ _) (cb_anti _ _)))
theorem topO_zero (k n : Int) (s : ByteArray) (len : Nat) (k' n' : Int) (s' : ByteArray) (len' : Nat) : topO k n s len k' n' s' len' = 0 ↔ k = k' ∧ len = len' ∧ n = n' ∧ s = s' := by
  rw [topO_eq, lex_zero (ci_zero _ _) (lex_zero (ci_zero _ _) (lex_zero (ci_zero _ _) (cb_zero _ _))), str_eq]
  simp only [Int.natCast_inj]
theorem topO_trans (k n : Int) (s : ByteArray) (len : Nat) (k' n' : Int) (s' : ByteArray) (len' : Nat) (k2 n2 : Int) (s2 : ByteArray) (len2 : Nat) : topO k n s len k' n' s' len' ≤ 0 → topO k' n' s' len' k2 n2 s2 len2 ≤ 0 → topO k n s len k2 n2 s2 len2 ≤ 0 := by
  have H : ∀ a b d : Int, (Lib.compareInt a b = 0 → Lib.compareInt a d = Lib.compareInt b d) ∧ (Lib.compareInt b d = 0 → Lib.compareInt a d = Lib.compareInt a b) ∧ (Lib.compareInt a d = 0 → Lib.compareInt b d = - Lib.compareInt a b) := fun a b d =>
    ⟨fun h => by rw [(ci_zero _ _).1 h], fun h => by rw [(ci_zero _ _).1 h], fun h => by rw [← (ci_zero _ _).1 h]; exact ci_anti _ _⟩
  rw [topO_eq, topO_eq, topO_eq]
  refine lex_trans (ci_trans _ _ _) (H _ _ _).1 (H _ _ _).2.1 (H _ _ _).2.2 fun _ _ => ?_
  refine lex_trans (ci_trans _ _ _) (H _ _ _).1 (H _ _ _).2.1 (H _ _ _).2.2 fun _ _ => ?_
  exact lex_trans (ci_trans _ _ _) (H _ _ _).1 (H _ _ _).2.1 (H _ _ _).2.2 fun _ _ => cb_trans _ _ _
mutual
theorem ordT_rng : ∀ a b : Tr, Rng (ordT a b)
  | .node _ _ _ l, .node _ _ _ l' => by unfold ordT; exact (topO_rng _ _ _ _ _ _ _ _).lex (ordL_rng l l')
theorem ordL_rng : ∀ a b : List Tr, Rng (ordL a b)
  | [], [] => by unfold ordL; exact .inr (.inl rfl)
  | [], _ :: _ => by unfold ordL; exact .inl rfl
  | _ :: _, [] => by unfold ordL; exact .inr (.inr rfl)
  | t :: ts, u :: us => by unfold ordL; exact (ordT_rng t u).lex (ordL_rng ts us)
end
mutual
theorem ordT_anti : ∀ a b : Tr, ordT b a = - ordT a b
  | .node _ _ _ l, .node _ _ _ l' => by rw [ordT, ordT]; exact lex_anti (topO_anti _ _ _ _ _ _ _ _) (ordL_anti l l')
theorem ordL_anti : ∀ a b : List Tr, ordL b a = - ordL a b
  | [], [] => by simp [ordL]
  | [], _ :: _ => by simp [ordL]
  | _ :: _, [] => by simp [ordL]
  | t :: ts, u :: us => by rw [ordL, ordL]; exact lex_anti (ordT_anti t u) (ordL_anti ts us)
end
mutual
theorem ordT_zero : ∀ a b : Tr, ordT a b = 0 ↔ a = b
  | .node _ _ _ l, .node _ _ _ l' => by
    rw [ordT, lex_zero (topO_zero _ _ _ _ _ _ _ _) (ordL_zero l l')]
    simp only [Tr.node.injEq]
    constructor
    · rintro ⟨⟨h1, _, h2, h3⟩, h4⟩; exact ⟨h1, h2, h3, h4⟩
    · rintro ⟨h1, h2, h3, h4⟩; exact ⟨⟨h1, by rw [h4], h2, h3⟩, h4⟩
theorem ordL_zero : ∀ a b : List Tr, ordL a b = 0 ↔ a = b
  | [], [] => by simp [ordL]
  | [], _ :: _ => by simp [ordL]
  | _ :: _, [] => by simp [ordL]
  | t :: ts, u :: us => by rw [ordL, lex_zero (ordT_zero t u) (ordL_zero ts us)]; simp
end
theorem ordT_three (a b d : Tr) : (ordT a b = 0 → ordT a d = ordT b d) ∧ (ordT b d = 0 → ordT a d = ordT a b) ∧ (ordT a d = 0 → ordT b d = - ordT a b) :=
  ⟨fun h => by rw [(ordT_zero _ _).1 h], fun h => by rw [(ordT_zero _ _).1 h], fun h => by rw [← (ordT_zero _ _).1 h]; exact ordT_anti _ _⟩
mutual
theorem ordT_trans : ∀ a b d : Tr, ordT a b ≤ 0 → ordT b d ≤ 0 → ordT a d ≤ 0
  | .node k n s l, .node k' n' s' l', .node k2 n2 s2 l2 => by
    rw [ordT, ordT, ordT]
    refine lex_trans (topO_trans _ _ _ _ _ _ _ _ _ _ _ _) (fun h => ?_) (fun h => ?_) (fun h => ?_) fun _ _ => ordL_trans l l' l2
    · obtain ⟨h1, h2, h3, h4⟩ := (topO_zero _ _ _ _ _ _ _ _).1 h; rw [h1, h2, h3, h4]
    · obtain ⟨h1, h2, h3, h4⟩ := (topO_zero _ _ _ _ _ _ _ _).1 h; rw [h1, h2, h3, h4]
    · obtain ⟨h1, h2, h3, h4⟩ := (topO_zero _ _ _ _ _ _ _ _).1 h; rw [← h1, ← h2, ← h3, ← h4]; exact topO_anti _ _ _ _ _ _ _ _
theorem ordL_trans : ∀ a b d : List Tr, ordL a b ≤ 0 → ordL b d ≤ 0 → ordL a d ≤ 0
  | [], _, [] => by simp [ordL]
  | [], _, _ :: _ => by simp [ordL]
  | _ :: _, [], _ => by simp [ordL]
  | _ :: _, _ :: _, [] => by intro _ h; simp [ordL] at h
  | t :: ts, u :: us, v :: vs => by
    rw [ordL, ordL, ordL]
    exact lex_trans (ordT_trans t u v) (ordT_three t u v).1 (ordT_three t u v).2.1 (ordT_three t u v).2.2 fun _ _ => ordL_trans ts us vs
end
end Go.Proofs.YtdigiaigbcfccaaGreatDoor
