/- What stands at the beginning of a text: blanks and comments, quotes. -/
import Derived.Test.YthfciekhmbfmfaaGreatDoorChars
import Derived.Lib.CutLaws
import Derived.Lib.IndexMore
namespace Go.Proofs.YthfciekhmbfmfaaGreatDoor
open Go.RowKit Go

def blB (c : UInt8) : Bool := blankB c.toNat
def naB (c : UInt8) : Bool := namedB c.toNat
def syB (c : UInt8) : Bool := symbolB c.toNat
def diB (c : UInt8) : Bool := digB c.toNat
/-- The next line feed, and what is behind it. -/
def dropLine : List UInt8 → List UInt8
  | [] => []
  | c :: r => if c = 10 then c :: r else dropLine r
/-- What is behind the end of a comment. -/
def dropStar : List UInt8 → Option (List UInt8)
  | [] => none
  | c :: r => if c = 42 ∧ r.head? = some 47 then some r.tail else dropStar r
theorem dropLine_le (l : List UInt8) : (dropLine l).length ≤ l.length := by
  induction l with
  | nil => exact Nat.le_refl _
  | cons c r ih =>
    rw [dropLine]
    split
    · exact Nat.le_refl _
    · exact Nat.le_succ_of_le ih
theorem dropStar_lt : ∀ (l k : List UInt8), dropStar l = some k → k.length + 2 ≤ l.length
  | [], k, h => by cases h
  | c :: r, k, h => by
    rw [dropStar] at h
    split at h
    · rename_i h2
      cases h
      obtain ⟨_, h3⟩ := h2
      cases r with
      | nil => cases h3
      | cons d r => simp
    · have := dropStar_lt r k h
      simp only [List.length_cons]
      omega
/-- Blanks and comments are passed over: what is behind them, and whether all comments end. -/
def skipN : Nat → List UInt8 → List UInt8 × Bool
  | 0, l => (l, true)
  | _ + 1, [] => ([], true)
  | n + 1, c :: r =>
    if blB c then skipN n r
    else if c = 37 then skipN n (dropLine r)
    else if c = 47 ∧ r.head? = some 42 then
      match dropStar r.tail with
      | none => (c :: r, false)
      | some k => skipN n k
    else (c :: r, true)
def skipL (l : List UInt8) : List UInt8 × Bool := skipN l.length l
theorem skipN_eq : ∀ (n m : Nat) (l : List UInt8), l.length ≤ n → l.length ≤ m → skipN n l = skipN m l := by
  intro n
  induction n with
  | zero =>
    intro m l h _
    obtain rfl : l = [] := List.length_eq_zero_iff.1 (by omega)
    cases m <;> rfl
  | succ n ih =>
    intro m l h h2
    cases l with
    | nil => cases m <;> rfl
    | cons c r =>
      cases m with
      | zero => simp at h2
      | succ m =>
        simp only [List.length_cons] at h h2
        have hl := dropLine_le r
        rw [skipN, skipN, ih m r (by omega) (by omega), ih m (dropLine r) (by omega) (by omega)]
        cases hs : dropStar r.tail with
        | none => rfl
        | some k =>
          have h3 := dropStar_lt _ _ hs
          have h4 : r.tail.length ≤ r.length := by simp
          have h5 := ih m k (by omega) (by omega)
          simp only [h5]
theorem skipL_nil : skipL [] = ([], true) := rfl
theorem skipL_cons (c : UInt8) (r : List UInt8) : skipL (c :: r) = if blB c then skipL r else if c = 37 then skipL (dropLine r) else if c = 47 ∧ r.head? = some 42 then (match dropStar r.tail with | none => (c :: r, false) | some k => skipL k) else (c :: r, true) := by
  have hl := dropLine_le r
  rw [skipL, List.length_cons, skipN, skipN_eq r.length (dropLine r).length (dropLine r) hl (Nat.le_refl _)]
  cases hs : dropStar r.tail with
  | none => rfl
  | some k =>
    have h3 := dropStar_lt _ _ hs
    have h4 : r.tail.length ≤ r.length := by simp
    have h5 := skipN_eq r.length k.length k (by omega) (Nat.le_refl _)
    simp only [h5]
    rfl
/-- What is behind blanks and comments begins with none. -/
theorem skipL_le : ∀ (n : Nat) (l : List UInt8), l.length ≤ n → (skipL l).1.length ≤ l.length := by
  intro n
  induction n with
  | zero =>
    intro l h
    obtain rfl : l = [] := List.length_eq_zero_iff.1 (by omega)
    exact Nat.le_refl _
  | succ n ih =>
    intro l h
    cases l with
    | nil => exact Nat.le_refl _
    | cons c r =>
      simp only [List.length_cons] at h
      have hl := dropLine_le r
      rw [skipL_cons]
      split
      · have := ih r (by omega); simp only [List.length_cons]; omega
      · split
        · have := ih (dropLine r) (by omega); simp only [List.length_cons]; omega
        · split
          · cases hs : dropStar r.tail with
            | none => exact Nat.le_refl _
            | some k =>
              have h3 := dropStar_lt _ _ hs
              have h4 : r.tail.length ≤ r.length := by simp
              have := ih k (by omega)
              simp only [List.length_cons]; omega
          · exact Nat.le_refl _
/-- The value of a digit to the base 16; -1: it is none. -/
def hexV (c : UInt8) : Int := if digB c.toNat then (c.toNat : Int) - 48 else if inB 97 102 c.toNat then (c.toNat : Int) - 87 else -1
/-- The byte for which the beginning of a text in quotes stands, and how long this is; 0: there is none. -/
def unqF (q : UInt8) : List UInt8 → UInt8 × Nat
  | [] => (0, 0)
  | c :: r =>
    if shownB c.toNat = false then (0, 0)
    else if c ≠ 92 then (c, 1)
    else match r with
      | [] => (0, 0)
      | d :: r2 =>
        if d = q ∨ d = 92 then (d, 2)
        else if q = 39 then (0, 0)
        else if d = 110 then (10, 2)
        else if d ≠ 120 then (0, 0)
        else match r2 with
          | x :: y :: _ => if hexV x < 0 ∨ hexV y < 0 then (0, 0) else (UInt8.ofNat (16 * (hexV x).toNat + (hexV y).toNat), 4)
          | _ => (0, 0)
/-- What stands in quotes, and what is behind it. -/
def quotN (q : UInt8) : Nat → List UInt8 → Option (List UInt8 × List UInt8)
  | 0, _ => none
  | _ + 1, [] => none
  | n + 1, c :: r =>
    if c = q then some ([], r)
    else if (unqF q (c :: r)).2 = 0 then none
    else (quotN q n ((c :: r).drop (unqF q (c :: r)).2)).map fun x => ((unqF q (c :: r)).1 :: x.1, x.2)
def quotL (q : UInt8) (l : List UInt8) : Option (List UInt8 × List UInt8) := quotN q l.length l
theorem quotN_eq (q : UInt8) : ∀ (n m : Nat) (l : List UInt8), l.length ≤ n → l.length ≤ m → quotN q n l = quotN q m l := by
  intro n
  induction n with
  | zero =>
    intro m l h _
    obtain rfl : l = [] := List.length_eq_zero_iff.1 (by omega)
    cases m <;> rfl
  | succ n ih =>
    intro m l h h2
    cases l with
    | nil => cases m <;> rfl
    | cons c r =>
      cases m with
      | zero => simp at h2
      | succ m =>
        simp only [List.length_cons] at h h2
        rw [quotN, quotN]
        split
        · rfl
        · split
          · rfl
          · rename_i h3
            rw [ih m _ (by simp only [List.length_drop, List.length_cons]; omega) (by simp only [List.length_drop, List.length_cons]; omega)]
theorem quotL_nil (q : UInt8) : quotL q [] = none := rfl
theorem quotL_end (q : UInt8) (r : List UInt8) : quotL q (q :: r) = some ([], r) := by
  rw [quotL, List.length_cons, quotN, if_pos rfl]
theorem quotL_none {q c : UInt8} {r : List UInt8} (h : c ≠ q) (h2 : (unqF q (c :: r)).2 = 0) : quotL q (c :: r) = none := by
  rw [quotL, List.length_cons, quotN, if_neg h, if_pos h2]
theorem quotL_step {q c : UInt8} {r : List UInt8} (h : c ≠ q) (h2 : (unqF q (c :: r)).2 ≠ 0) : quotL q (c :: r) = (quotL q ((c :: r).drop (unqF q (c :: r)).2)).map fun x => ((unqF q (c :: r)).1 :: x.1, x.2) := by
  rw [quotL, List.length_cons, quotN, if_neg h, if_neg h2, quotL, quotN_eq q r.length _ _ _ (Nat.le_refl _)]
  simp only [List.length_drop, List.length_cons]
  omega
end Go.Proofs.YthfciekhmbfmfaaGreatDoor

/- The lexemes of a text. -/
namespace Go.Proofs.YthfciekhmbfmfaaGreatDoor
open Go.RowKit Go

/-- The bytes of a class that stand one behind the other. -/
def runL (f : UInt8 → Bool) (l : List UInt8) : List UInt8 := l.takeWhile f
/-- The number of digits; none, if it is too great, or one is no digit. -/
def numN (n : Nat) : List UInt8 → Option Nat
  | [] => some n
  | c :: r => if diB c = true ∧ 10 * n + (c.toNat - 48) ≤ 2147483647 then numN (10 * n + (c.toNat - 48)) r else none
/-- Kinds of lexemes, as the document numbers them. -/
inductive TK | name | var | int | quoted | str | sign | fin
  deriving DecidableEq
/-- What a lexeme says. -/
structure Tok where
  k : TK
  s : List UInt8
  n : Nat
  deriving DecidableEq
/-- How a text ends behind a point. -/
def endB : List UInt8 → Bool
  | [] => true
  | d :: _ => blB d || d == 37
/-- The lexeme that begins with a byte, and how long it is. -/
def tokF : List UInt8 → Option (Tok × Nat)
  | [] => none
  | c :: r =>
    if smallB c.toNat then
      if (runL naB (c :: r)).length ≤ 32 then some (⟨.name, runL naB (c :: r), 0⟩, (runL naB (c :: r)).length) else none
    else if cap_B c.toNat then
      if (runL naB (c :: r)).length ≤ 32 then some (⟨.var, runL naB (c :: r), 0⟩, (runL naB (c :: r)).length) else none
    else if diB c then
      match numN 0 (runL naB (c :: r)) with
      | some n => some (⟨.int, [], n⟩, (runL naB (c :: r)).length)
      | none => none
    else if syB c then
      if (runL syB (c :: r)).length ≤ 32 then
        if runL syB (c :: r) = [46] ∧ endB r = true then some (⟨.fin, [46], 0⟩, 1)
        else some (⟨.name, runL syB (c :: r), 0⟩, (runL syB (c :: r)).length)
      else none
    else if signB c.toNat then some (⟨.sign, [c], 0⟩, 1)
    else if c = 39 then
      match quotL c r with
      | some (s, k) => if 1 ≤ s.length ∧ s.length ≤ 32 then some (⟨.quoted, s, 0⟩, (c :: r).length - k.length) else none
      | none => none
    else if c = 34 then
      match quotL c r with
      | some (s, k) => if s.length ≤ 255 then some (⟨.str, s, 0⟩, (c :: r).length - k.length) else none
      | none => none
    else none
/-- A lexeme, and where it stands. -/
structure Lx where
  t : Tok
  a : Nat
  e : Nat
  deriving DecidableEq
/-- The lexemes of what is left of a text of so many bytes; the byte at which something is wrong. -/
def lexN (tot : Nat) : Nat → List UInt8 → Except Nat (List Lx)
  | 0, _ => .ok []
  | n + 1, l =>
    match skipL l with
    | (k, false) => .error (tot - k.length)
    | ([], true) => .ok []
    | (c :: r, true) =>
      match tokF (c :: r) with
      | none => .error (tot - (c :: r).length)
      | some (t, m) =>
        match lexN tot n ((c :: r).drop m) with
        | .error e => .error e
        | .ok xs => .ok (⟨t, tot - (c :: r).length, tot - (c :: r).length + m⟩ :: xs)
def lexL (l : List UInt8) : Except Nat (List Lx) := lexN l.length (l.length + 1) l
end Go.Proofs.YthfciekhmbfmfaaGreatDoor

/- strings.Cut at a line feed, and at the end of a comment. -/
namespace Go.Proofs.YthfciekhmbfmfaaGreatDoor
open Go.RowKit Go

theorem cut_len (l sep : List UInt8) : (Lib.cut l sep).1.length = if 0 ≤ Lib.index l sep then (Lib.index l sep).toNat else l.length := by
  unfold Lib.cut
  have h := Lib.index_le l sep
  split
  · simp only [List.length_take]; omega
  · rfl
theorem cut_is (l sep : List UInt8) : (Lib.cut l sep).2.2 = decide (0 ≤ Lib.index l sep) := by
  unfold Lib.cut
  split <;> simp_all
theorem drop_line : ∀ l : List UInt8, l.drop (Lib.cut l [10]).1.length = dropLine l
  | [] => rfl
  | c :: r => by
    have ih := drop_line r
    have hg := Lib.index_ge r [10]
    rw [cut_len] at ih ⊢
    rw [dropLine, Lib.index]
    by_cases h : c = 10
    · subst h
      rw [if_pos (by simp : ([10] : List UInt8).isPrefixOf (10 :: r) = true)]
      simp
    · have hp : ([10] : List UInt8).isPrefixOf (c :: r) = false := by simp [List.isPrefixOf, Ne.symm h]
      rw [hp, if_neg h]
      by_cases h2 : Lib.index r [10] = -1
      · simp only [h2] at ih ⊢
        simpa using ih
      · have h3 : (Lib.index r [10] == -1) = false := by simpa using h2
        rw [h3]
        have h4 : 0 ≤ Lib.index r [10] := by omega
        have h5 : 0 ≤ Lib.index r [10] + 1 := by omega
        rw [if_pos h4] at ih
        simp only [Bool.false_eq_true, if_false, if_pos h5]
        rw [show (Lib.index r [10] + 1).toNat = (Lib.index r [10]).toNat + 1 by omega, List.drop_succ_cons]
        exact ih
theorem drop_star : ∀ l : List UInt8, dropStar l = if 0 ≤ Lib.index l [42, 47] then some (l.drop ((Lib.cut l [42, 47]).1.length + 2)) else none
  | [] => rfl
  | c :: r => by
    have ih := drop_star r
    have hg := Lib.index_ge r [42, 47]
    rw [cut_len] at ih ⊢
    rw [dropStar, Lib.index]
    by_cases h : c = 42 ∧ r.head? = some 47
    · obtain ⟨rfl, h2⟩ := h
      cases r with
      | nil => cases h2
      | cons d r =>
        cases h2
        rw [if_pos (by simp), if_pos (by simp : ([42, 47] : List UInt8).isPrefixOf (42 :: 47 :: r) = true)]
        simp
    · have hp : ([42, 47] : List UInt8).isPrefixOf (c :: r) = false := by
        rw [Bool.eq_false_iff]
        intro q
        apply h
        cases r with
        | nil => simp [List.isPrefixOf] at q
        | cons d r =>
          simp only [List.isPrefixOf, Bool.and_eq_true, beq_iff_eq, and_true] at q
          exact ⟨q.1.symm, by rw [List.head?_cons, ← q.2]⟩
      rw [hp, if_neg h]
      by_cases h2 : Lib.index r [42, 47] = -1
      · simp only [h2] at ih ⊢
        simpa using ih
      · have h3 : (Lib.index r [42, 47] == -1) = false := by simpa using h2
        rw [h3]
        have h4 : 0 ≤ Lib.index r [42, 47] := by omega
        have h5 : 0 ≤ Lib.index r [42, 47] + 1 := by omega
        rw [if_pos h4, if_pos h4] at ih
        simp only [Bool.false_eq_true, if_false, if_pos h5]
        rw [show (Lib.index r [42, 47] + 1).toNat + 2 = (Lib.index r [42, 47]).toNat + 2 + 1 by omega, List.drop_succ_cons]
        exact ih
end Go.Proofs.YthfciekhmbfmfaaGreatDoor
