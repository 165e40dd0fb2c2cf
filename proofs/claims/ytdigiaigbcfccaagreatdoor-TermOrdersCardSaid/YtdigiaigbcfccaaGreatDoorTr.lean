/- The trees that stand for values of api.Term, and how they lie in memory. No program is named here. -/
import Derived.WalkKit
import Derived.ChangeArms
import Derived.Laws.AppendOwn
import Derived.Test.YtdigiaigbcfccaaGreatDoorProg
import Derived.Deep.QuietTactic
import Derived.BigQuiet
import Derived.WalkSpells
import Derived.Lib.Hide
import Derived.LoopTactic
import Derived.Outline
import Derived.Handy
namespace Go.Proofs.YtdigiaigbcfccaaGreatDoor
open Go.RowKit

/-- A tree: Kind, N, S and the elements of L. -/
inductive Tr where
  | node (k n : Int) (s : ByteArray) (l : List Tr)

instance : Inhabited Tr := ⟨.node 0 0 ByteArray.empty []⟩

namespace Tr

theorem ind {P : Tr → Prop} (h : ∀ k n s l, (∀ t, t ∈ l → P t) → P (.node k n s l)) : ∀ T, P T
  | .node k n s l => h k n s l (go l)
where
  go : ∀ l : List Tr, ∀ t, t ∈ l → P t
  | [], t, ht => absurd ht (by simp)
  | x :: xs, t, ht => by
    rcases List.mem_cons.1 ht with e | e
    · rw [e]; exact ind h x
    · exact go xs t e

def kind : Tr → Int | .node k _ _ _ => k
def num : Tr → Int | .node _ n _ _ => n
def str : Tr → ByteArray | .node _ _ s _ => s
def subs : Tr → List Tr | .node _ _ _ l => l

end Tr

def okI (n : Int) : Prop := -9223372036854775808 ≤ n ∧ n ≤ 9223372036854775807

mutual
/-- The value v is the tree, in blocks below n₀. -/
def IsT (n₀ : Nat) (W : World) : Tr → Value → Prop
  | .node k n s l, v => ∃ (a : Option Addr) (c : Nat), v = .agg #[.int .i64 k, .int .i64 n, .string s, .slice a l.length c] ∧ okI k ∧ okI n ∧ s.size ≤ maxLen ∧ l.length ≤ c ∧ c ≤ maxLen ∧ IsL n₀ W l a
/-- From the address on lie the trees of the list, four cells each. -/
def IsL (n₀ : Nat) (W : World) : List Tr → Option Addr → Prop
  | [], _ => True
  | t :: ts, a => ∃ (b off : Nat) (v0 v1 v2 v3 : Value), a = some ⟨b, off, none⟩ ∧ b < n₀ ∧ W.cell? ⟨b, off, none⟩ = some v0 ∧ W.cell? ⟨b, off + 1, none⟩ = some v1 ∧ W.cell? ⟨b, off + 2, none⟩ = some v2 ∧
      W.cell? ⟨b, off + 3, none⟩ = some v3 ∧ IsT n₀ W t (.agg #[v0, v1, v2, v3]) ∧ IsL n₀ W ts (some ⟨b, off + 4, none⟩)
end

/-- A slice of trees. -/
def IsS (n₀ : Nat) (W : World) (l : List Tr) (v : Value) : Prop :=
  ∃ (a : Option Addr) (c : Nat), v = .slice a l.length c ∧ l.length ≤ c ∧ c ≤ maxLen ∧ IsL n₀ W l a

mutual
theorem IsT.keep {n₀ n₁ : Nat} {A B : World} (h : Below n₀ A B) (hn : n₀ ≤ n₁) : ∀ (T : Tr) (v : Value), IsT n₀ A T v → IsT n₁ B T v
  | .node _ _ _ l, _, h1 => by
    unfold IsT at h1 ⊢
    obtain ⟨a, c, e, h2, h3, h4, h5, h6, h7⟩ := h1
    exact ⟨a, c, e, h2, h3, h4, h5, h6, IsL.keep h hn l a h7⟩
theorem IsL.keep {n₀ n₁ : Nat} {A B : World} (h : Below n₀ A B) (hn : n₀ ≤ n₁) : ∀ (l : List Tr) (a : Option Addr), IsL n₀ A l a → IsL n₁ B l a
  | [], _, _ => by unfold IsL; trivial
  | t :: ts, _, h1 => by
    unfold IsL at h1 ⊢
    obtain ⟨b, off, v0, v1, v2, v3, e, hb, c0, c1, c2, c3, ht, hl⟩ := h1
    exact ⟨b, off, v0, v1, v2, v3, e, by omega, (h.cell (p := ⟨b, off, none⟩) hb).trans c0, (h.cell (p := ⟨b, off + 1, none⟩) hb).trans c1, (h.cell (p := ⟨b, off + 2, none⟩) hb).trans c2,
      (h.cell (p := ⟨b, off + 3, none⟩) hb).trans c3, IsT.keep h hn t _ ht, IsL.keep h hn ts _ hl⟩
end

theorem IsT.below {n₀ : Nat} {A B : World} {T : Tr} {v : Value} (h1 : IsT n₀ A T v) (h : Below n₀ A B) : IsT n₀ B T v := IsT.keep h (Nat.le_refl _) T v h1
theorem IsT.mono {n₀ n₁ : Nat} {A : World} {T : Tr} {v : Value} (h1 : IsT n₀ A T v) (h : n₀ ≤ n₁) : IsT n₁ A T v := IsT.keep (Below.refl _ _) h T v h1
theorem IsL.below {n₀ : Nat} {A B : World} {l : List Tr} {a : Option Addr} (h1 : IsL n₀ A l a) (h : Below n₀ A B) : IsL n₀ B l a := IsL.keep h (Nat.le_refl _) l a h1
theorem IsL.mono {n₀ n₁ : Nat} {A : World} {l : List Tr} {a : Option Addr} (h1 : IsL n₀ A l a) (h : n₀ ≤ n₁) : IsL n₁ A l a := IsL.keep (Below.refl _ _) h l a h1
theorem IsS.below {n₀ : Nat} {A B : World} {l : List Tr} {v : Value} (h1 : IsS n₀ A l v) (h : Below n₀ A B) : IsS n₀ B l v := by
  obtain ⟨a, c, e, h2, h3, h4⟩ := h1; exact ⟨a, c, e, h2, h3, h4.below h⟩
theorem IsS.mono {n₀ n₁ : Nat} {A : World} {l : List Tr} {v : Value} (h1 : IsS n₀ A l v) (h : n₀ ≤ n₁) : IsS n₁ A l v := by
  obtain ⟨a, c, e, h2, h3, h4⟩ := h1; exact ⟨a, c, e, h2, h3, h4.mono h⟩

theorem IsT.up {n₀ : Nat} {A B : World} {T : Tr} {v : Value} (h1 : IsT n₀ A T v) (h : Below n₀ A B) (hn : n₀ ≤ B.heap.size) : IsT B.heap.size B T v := IsT.keep h hn T v h1
theorem IsL.up {n₀ : Nat} {A B : World} {l : List Tr} {a : Option Addr} (h1 : IsL n₀ A l a) (h : Below n₀ A B) (hn : n₀ ≤ B.heap.size) : IsL B.heap.size B l a := IsL.keep h hn l a h1
theorem IsS.up {n₀ : Nat} {A B : World} {l : List Tr} {v : Value} (h1 : IsS n₀ A l v) (h : Below n₀ A B) (hn : n₀ ≤ B.heap.size) : IsS B.heap.size B l v := by
  obtain ⟨a, c, e, h2, h3, h4⟩ := h1; exact ⟨a, c, e, h2, h3, h4.up h hn⟩
theorem bcell {W w1 : World} (hb : Below W.heap.size W w1) : (∀ b o, b < W.heap.size → w1.cell? ⟨b, o, none⟩ = W.cell? ⟨b, o, none⟩) ∧ (∀ b o, b < W.heap.size → w1.frozen? ⟨b, o, none⟩ = W.frozen? ⟨b, o, none⟩) :=
  ⟨fun b o h => hb.cell (p := ⟨b, o, none⟩) h, fun b o h => hb.frozen (p := ⟨b, o, none⟩) h⟩
theorem below_a1 {n : Nat} {w : World} (h : n ≤ w.heap.size) (o : Obj) : Below n w (w.alloc o) := (Below.refl _ _).alloc h _
theorem below_a2 {n : Nat} {w : World} (h : n ≤ w.heap.size) (o o' : Obj) : Below n w ((w.alloc o).alloc o') := (below_a1 h o).alloc (by simp; omega) _
theorem below_a3 {n : Nat} {w : World} (h : n ≤ w.heap.size) (o o' o'' : Obj) : Below n w (((w.alloc o).alloc o').alloc o'') := (below_a2 h o o').alloc (by simp; omega) _
theorem below_a4 {n : Nat} {w : World} (h : n ≤ w.heap.size) (o o' o'' o3 : Obj) : Below n w ((((w.alloc o).alloc o').alloc o'').alloc o3) := (below_a3 h o o' o'').alloc (by simp; omega) _
theorem size_a1 {n : Nat} {w : World} (h : n ≤ w.heap.size) (o : Obj) : n ≤ (w.alloc o).heap.size := by simp; omega
theorem size_a2 {n : Nat} {w : World} (h : n ≤ w.heap.size) (o o' : Obj) : n ≤ ((w.alloc o).alloc o').heap.size := by simp; omega

/-- A node opened. -/
theorem IsT.open {n₀ : Nat} {W : World} {k n : Int} {s : ByteArray} {l : List Tr} {v : Value} (h : IsT n₀ W (.node k n s l) v) :
    ∃ (a : Option Addr) (c : Nat), v = .agg #[.int .i64 k, .int .i64 n, .string s, .slice a l.length c] ∧ okI k ∧ okI n ∧ s.size ≤ maxLen ∧ l.length ≤ c ∧ c ≤ maxLen ∧ IsL n₀ W l a := by
  unfold IsT at h; exact h
theorem IsT.mk {n₀ : Nat} {W : World} {k n : Int} {s : ByteArray} {l : List Tr} {a : Option Addr} {c : Nat} (h1 : okI k) (h2 : okI n) (h3 : s.size ≤ maxLen) (h4 : l.length ≤ c) (h5 : c ≤ maxLen) (h6 : IsL n₀ W l a) :
    IsT n₀ W (.node k n s l) (.agg #[.int .i64 k, .int .i64 n, .string s, .slice a l.length c]) := by
  unfold IsT; exact ⟨a, c, rfl, h1, h2, h3, h4, h5, h6⟩

theorem IsL.nil {n₀ : Nat} {W : World} {a : Option Addr} : IsL n₀ W [] a := by unfold IsL; trivial

theorem IsL.cons {n₀ : Nat} {W : World} {t : Tr} {ts : List Tr} {b off : Nat} {v0 v1 v2 v3 : Value} (hb : b < n₀) (c0 : W.cell? ⟨b, off, none⟩ = some v0) (c1 : W.cell? ⟨b, off + 1, none⟩ = some v1) (c2 : W.cell? ⟨b, off + 2, none⟩ = some v2)
    (c3 : W.cell? ⟨b, off + 3, none⟩ = some v3) (ht : IsT n₀ W t (.agg #[v0, v1, v2, v3])) (hl : IsL n₀ W ts (some ⟨b, off + 4, none⟩)) : IsL n₀ W (t :: ts) (some ⟨b, off, none⟩) := by
  unfold IsL
  exact ⟨b, off, v0, v1, v2, v3, rfl, hb, c0, c1, c2, c3, ht, hl⟩

/-- A list that is not empty has an address. -/
theorem IsL.addr {n₀ : Nat} {W : World} {l : List Tr} {a : Option Addr} (h : IsL n₀ W l a) (hl : 0 < l.length) : ∃ b off, a = some ⟨b, off, none⟩ ∧ b < n₀ := by
  cases l with
  | nil => simp at hl
  | cons t ts =>
    unfold IsL at h
    obtain ⟨b, off, v0, v1, v2, v3, e, hb, _⟩ := h
    exact ⟨b, off, e, hb⟩

/-- The i-th element. -/
theorem IsL.get {n₀ : Nat} {W : World} : ∀ {l : List Tr} {b off : Nat}, IsL n₀ W l (some ⟨b, off, none⟩) → ∀ i (hi : i < l.length), ∃ v0 v1 v2 v3, W.cell? ⟨b, off + i * 4, none⟩ = some v0 ∧ W.cell? ⟨b, off + i * 4 + 1, none⟩ = some v1 ∧
    W.cell? ⟨b, off + i * 4 + 2, none⟩ = some v2 ∧ W.cell? ⟨b, off + i * 4 + 3, none⟩ = some v3 ∧ IsT n₀ W l[i] (.agg #[v0, v1, v2, v3])
  | [], _, _, _, i, hi => by simp at hi
  | t :: ts, b, off, h, i, hi => by
    unfold IsL at h
    obtain ⟨b', off', v0, v1, v2, v3, e, hb, c0, c1, c2, c3, ht, hl⟩ := h
    simp only [Option.some.injEq, Addr.mk.injEq, and_true] at e
    obtain ⟨rfl, rfl⟩ := e
    cases i with
    | zero => exact ⟨v0, v1, v2, v3, by simpa using c0, by simpa using c1, by simpa using c2, by simpa using c3, ht⟩
    | succ j =>
      have hj : j < ts.length := by simpa using hi
      obtain ⟨u0, u1, u2, u3, d0, d1, d2, d3, hu⟩ := IsL.get hl j hj
      have e0 : off + (j + 1) * 4 = off + 4 + j * 4 := by omega
      exact ⟨u0, u1, u2, u3, by rw [e0]; exact d0, by rw [e0]; exact d1, by rw [e0]; exact d2, by rw [e0]; exact d3, hu⟩

/-- The i-th element, its node opened. -/
theorem IsL.node {n₀ : Nat} {W : World} {l : List Tr} {b off : Nat} (h : IsL n₀ W l (some ⟨b, off, none⟩)) (i : Nat) (hi : i < l.length) : ∃ (k n : Int) (s : ByteArray) (ts : List Tr) (a : Option Addr) (c : Nat), l[i] = .node k n s ts ∧
    W.cell? ⟨b, off + i * 4, none⟩ = some (.int .i64 k) ∧ W.cell? ⟨b, off + i * 4 + 1, none⟩ = some (.int .i64 n) ∧ W.cell? ⟨b, off + i * 4 + 2, none⟩ = some (.string s) ∧ W.cell? ⟨b, off + i * 4 + 3, none⟩ = some (.slice a ts.length c) ∧
    IsT n₀ W l[i] (.agg #[.int .i64 k, .int .i64 n, .string s, .slice a ts.length c]) := by
  obtain ⟨v0, v1, v2, v3, c0, c1, c2, c3, ht⟩ := h.get i hi
  cases hT : l[i] with
  | node k n s ts =>
    rw [hT] at ht
    have ht' := ht
    obtain ⟨a, c, e, _⟩ := ht'.open
    simp only [Value.agg.injEq, Array.mk.injEq, List.cons.injEq, and_true] at e
    obtain ⟨rfl, rfl, rfl, rfl⟩ := e
    exact ⟨k, n, s, ts, a, c, rfl, c0, c1, c2, c3, ht⟩

/-- The same, the cells read in a later world. -/
theorem IsL.node' {n₀ : Nat} {W W' : World} {l : List Tr} {b off : Nat} (h : IsL n₀ W l (some ⟨b, off, none⟩)) (hb : b < n₀) (hB : Below n₀ W W') (i : Nat) (hi : i < l.length) : ∃ (k n : Int) (s : ByteArray) (ts : List Tr) (a : Option Addr) (c : Nat), l[i] = .node k n s ts ∧
    W'.cell? ⟨b, off + i * 4, none⟩ = some (.int .i64 k) ∧ W'.cell? ⟨b, off + i * 4 + 1, none⟩ = some (.int .i64 n) ∧ W'.cell? ⟨b, off + i * 4 + 2, none⟩ = some (.string s) ∧ W'.cell? ⟨b, off + i * 4 + 3, none⟩ = some (.slice a ts.length c) ∧
    IsT n₀ W l[i] (.agg #[.int .i64 k, .int .i64 n, .string s, .slice a ts.length c]) := by
  obtain ⟨k, n, s, ts, a, c, e, c0, c1, c2, c3, ht⟩ := h.node i hi
  exact ⟨k, n, s, ts, a, c, e, (hB.cell (p := ⟨b, off + i * 4, none⟩) hb).trans c0, (hB.cell (p := ⟨b, off + i * 4 + 1, none⟩) hb).trans c1, (hB.cell (p := ⟨b, off + i * 4 + 2, none⟩) hb).trans c2, (hB.cell (p := ⟨b, off + i * 4 + 3, none⟩) hb).trans c3, ht⟩

/-- A list put together from its elements. -/
theorem IsL.of_get {n₀ : Nat} {W : World} : ∀ {l : List Tr} {b off : Nat}, b < n₀ → (∀ i (hi : i < l.length), ∃ v0 v1 v2 v3, W.cell? ⟨b, off + i * 4, none⟩ = some v0 ∧ W.cell? ⟨b, off + i * 4 + 1, none⟩ = some v1 ∧
    W.cell? ⟨b, off + i * 4 + 2, none⟩ = some v2 ∧ W.cell? ⟨b, off + i * 4 + 3, none⟩ = some v3 ∧ IsT n₀ W l[i] (.agg #[v0, v1, v2, v3])) → IsL n₀ W l (some ⟨b, off, none⟩)
  | [], _, _, _, _ => IsL.nil
  | t :: ts, b, off, hb, h => by
    unfold IsL
    obtain ⟨v0, v1, v2, v3, c0, c1, c2, c3, ht⟩ := h 0 (by simp)
    refine ⟨b, off, v0, v1, v2, v3, rfl, hb, by simpa using c0, by simpa using c1, by simpa using c2, by simpa using c3, by simpa using ht, IsL.of_get hb fun i hi => ?_⟩
    obtain ⟨u0, u1, u2, u3, d0, d1, d2, d3, hu⟩ := h (i + 1) (by simpa using hi)
    have e0 : off + (i + 1) * 4 = off + 4 + i * 4 := by omega
    rw [e0] at d0 d1 d2 d3
    exact ⟨u0, u1, u2, u3, d0, d1, d2, d3, by simpa using hu⟩

/-- What lies behind the first i elements. -/
theorem IsL.drop {n₀ : Nat} {W : World} {l : List Tr} {b off : Nat} (h : IsL n₀ W l (some ⟨b, off, none⟩)) (hb : b < n₀) (i : Nat) : IsL n₀ W (l.drop i) (some ⟨b, off + i * 4, none⟩) :=
  IsL.of_get hb fun j hj => by
    have hj' : i + j < l.length := by simp at hj; omega
    obtain ⟨v0, v1, v2, v3, c0, c1, c2, c3, ht⟩ := h.get (i + j) hj'
    have e0 : off + (i + j) * 4 = off + i * 4 + j * 4 := by omega
    rw [e0] at c0 c1 c2 c3
    exact ⟨v0, v1, v2, v3, c0, c1, c2, c3, by simpa using ht⟩

end Go.Proofs.YtdigiaigbcfccaaGreatDoor

namespace Go.Proofs.YtdigiaigbcfccaaGreatDoor
open Go.RowKit Go

def topB (k n : Int) (s : ByteArray) (l : Nat) (k' n' : Int) (s' : ByteArray) (l' : Nat) : Bool := decide (k = k' ∧ n = n' ∧ s = s' ∧ l = l')

theorem below_box2 (w : World) (o o' : Obj) : Below w.heap.size w ((w.alloc o).alloc o') := ((Below.refl _ _).alloc (Nat.le_refl _) _).alloc (by simp) _
theorem below_box1 (w : World) (o : Obj) : Below w.heap.size w (w.alloc o) := (Below.refl _ _).alloc (Nat.le_refl _) _

theorem retB {b b' : Bool} (h : b' = b) : Ending.returned (.bool b) = .returned (.bool b') := by rw [h]
theorem retI {k : IntKind} {a b : Int} (h : b = a) : Ending.returned (.int k a) = .returned (.int k b) := by rw [h]
theorem bytes_toList (a : ByteArray) : a.toList = a.data.toList := ByteArray.toList_eq a
theorem bytes_ne {a b : ByteArray} (h : ¬ a = b) : (a.toList == b.toList) = false := by
  rw [beq_eq_false_iff_ne]
  intro e
  rw [bytes_toList, bytes_toList] at e
  exact h (ByteArray.ext (Array.ext' e))

set_option maxHeartbeats 400000 in
theorem sameTop_any (k n : Int) (s : ByteArray) (len : Nat) (k' n' : Int) (s' : ByteArray) (len' : Nat) (a a' : Option Addr) (c c' : Nat) (w : World) :
    Calls Tryz.prog 82 #[.agg #[.int .i64 k, .int .i64 n, .string s, .slice a len c], .agg #[.int .i64 k', .int .i64 n', .string s', .slice a' len' c']] w
      fun e w' => e = .returned (.bool (topB k n s len k' n' s' len')) ∧ Below w.heap.size w w' := by
  by_cases h1 : k = k'
  · by_cases h2 : n = n'
    · by_cases h3 : s = s'
      · by_cases h4 : len = len'
        · subst h1 h2 h3 h4
          have ht : topB k n s len k n s len = true := by simp [topB]
          rw [ht]
          clear ht
          go_enter Tryz.func82, Tryz.ntmps82
          go_wp2_with fail
          go_ret
          exact ⟨rfl, below_box2 _ _ _⟩
        · have h4' : ((len : Int) == (len' : Int)) = false := by simpa using fun e : (len : Int) = len' => h4 (by omega)
          subst h1 h2 h3
          have ht : topB k n s len k n s len' = false := by simp [topB, h4]
          rw [ht]
          clear ht h4
          go_enter Tryz.func82, Tryz.ntmps82
          go_wp2_with fail
          go_ret
          exact ⟨rfl, below_box2 _ _ _⟩
      · have h3' : (s.toList == s'.toList) = false := bytes_ne h3
        subst h1 h2
        have ht : topB k n s len k n s' len' = false := by simp [topB, h3]
        rw [ht]
        clear ht h3
        go_enter Tryz.func82, Tryz.ntmps82
        go_wp2_with fail
        go_ret
        exact ⟨rfl, below_box2 _ _ _⟩
    · have h2' : (n == n') = false := by simpa using h2
      subst h1
      have ht : topB k n s len k n' s' len' = false := by simp [topB, h2]
      rw [ht]
      clear ht h2
      go_enter Tryz.func82, Tryz.ntmps82
      go_wp2_with fail
      go_ret
      exact ⟨rfl, below_box2 _ _ _⟩
  · have h1' : (k == k') = false := by simpa using h1
    have ht : topB k n s len k' n' s' len' = false := by simp [topB, h1]
    rw [ht]
    clear ht h1
    go_enter Tryz.func82, Tryz.ntmps82
    go_wp2_with fail
    go_ret
    exact ⟨rfl, below_box2 _ _ _⟩

/-- sameTop at two nodes. -/
def topT : Tr → Tr → Bool
  | .node k n s l, .node k' n' s' l' => topB k n s l.length k' n' s' l'.length

end Go.Proofs.YtdigiaigbcfccaaGreatDoor
