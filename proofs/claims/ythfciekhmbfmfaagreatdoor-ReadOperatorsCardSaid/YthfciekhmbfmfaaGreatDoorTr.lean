/- The trees that stand for values of api.Term, and how they lie in memory. No program is named here. -/
import Derived.WalkKit
import Derived.ChangeArms
import Derived.Laws.AppendOwn
import Derived.Test.YthfciekhmbfmfaaGreatDoorProg
import Derived.Deep.QuietTactic
import Derived.BigQuiet
import Derived.WalkSpells
import Derived.Lib.Hide
import Derived.LoopTactic
import Derived.Outline
import Derived.Handy
import Derived.Test.YthfciekhmbfmfaaGreatDoorMono
namespace Go.Proofs.YthfciekhmbfmfaaGreatDoor
open Go.RowKit

/-- A tree: Kind, N, S and the elements of L. -/
inductive Tr where
  | node (k n : Int) (s : ByteArray) (l : List Tr)

instance : Inhabited Tr := ⟨.node 0 0 ByteArray.empty []⟩

namespace Tr

theorem ind {P : Tr → Prop} (h : ∀ k n s l, (∀ t, t ∈ l → P t) → P (.node k n s l)) : ∀ T, P T
  | .node k n s l => h k n s l (go l)
where
  go : ∀ l : List Tr, ∀ t, t ∈ l → P t
  | [], t, ht => absurd ht (by simp)
  | x :: xs, t, ht => by
    rcases List.mem_cons.1 ht with e | e
    · rw [e]; exact ind h x
    · exact go xs t e

def kind : Tr → Int | .node k _ _ _ => k
def num : Tr → Int | .node _ n _ _ => n
def str : Tr → ByteArray | .node _ _ s _ => s
def subs : Tr → List Tr | .node _ _ _ l => l

end Tr

def okI (n : Int) : Prop := -9223372036854775808 ≤ n ∧ n ≤ 9223372036854775807

mutual
/-- The value v is the tree, in blocks below n₀. -/
def IsT (n₀ : Nat) (W : World) : Tr → Value → Prop
  | .node k n s l, v => ∃ (a : Option Addr) (c : Nat), v = .agg #[.int .i64 k, .int .i64 n, .string s, .slice a l.length c] ∧ okI k ∧ okI n ∧ s.size ≤ maxLen ∧ l.length ≤ c ∧ c ≤ maxLen ∧ IsL n₀ W l a
/-- From the address on lie the trees of the list, four cells each. -/
def IsL (n₀ : Nat) (W : World) : List Tr → Option Addr → Prop
  | [], _ => True
  | t :: ts, a => ∃ (b off : Nat) (v0 v1 v2 v3 : Value), a = some ⟨b, off, none⟩ ∧ b < n₀ ∧ W.cell? ⟨b, off, none⟩ = some v0 ∧ W.cell? ⟨b, off + 1, none⟩ = some v1 ∧ W.cell? ⟨b, off + 2, none⟩ = some v2 ∧
      W.cell? ⟨b, off + 3, none⟩ = some v3 ∧ IsT n₀ W t (.agg #[v0, v1, v2, v3]) ∧ IsL n₀ W ts (some ⟨b, off + 4, none⟩)
end

/-- A slice of trees. -/
def IsS (n₀ : Nat) (W : World) (l : List Tr) (v : Value) : Prop :=
  ∃ (a : Option Addr) (c : Nat), v = .slice a l.length c ∧ l.length ≤ c ∧ c ≤ maxLen ∧ IsL n₀ W l a

mutual
theorem IsT.keep {n₀ n₁ : Nat} {A B : World} (h : Below n₀ A B) (hn : n₀ ≤ n₁) : ∀ (T : Tr) (v : Value), IsT n₀ A T v → IsT n₁ B T v
  | .node _ _ _ l, _, h1 => by
    unfold IsT at h1 ⊢
    obtain ⟨a, c, e, h2, h3, h4, h5, h6, h7⟩ := h1
    exact ⟨a, c, e, h2, h3, h4, h5, h6, IsL.keep h hn l a h7⟩
theorem IsL.keep {n₀ n₁ : Nat} {A B : World} (h : Below n₀ A B) (hn : n₀ ≤ n₁) : ∀ (l : List Tr) (a : Option Addr), IsL n₀ A l a → IsL n₁ B l a
  | [], _, _ => by unfold IsL; trivial
  | t :: ts, _, h1 => by
    unfold IsL at h1 ⊢
    obtain ⟨b, off, v0, v1, v2, v3, e, hb, c0, c1, c2, c3, ht, hl⟩ := h1
    exact ⟨b, off, v0, v1, v2, v3, e, by omega, (h.cell (p := ⟨b, off, none⟩) hb).trans c0, (h.cell (p := ⟨b, off + 1, none⟩) hb).trans c1, (h.cell (p := ⟨b, off + 2, none⟩) hb).trans c2,
      (h.cell (p := ⟨b, off + 3, none⟩) hb).trans c3, IsT.keep h hn t _ ht, IsL.keep h hn ts _ hl⟩
end

theorem IsT.below {n₀ : Nat} {A B : World} {T : Tr} {v : Value} (h1 : IsT n₀ A T v) (h : Below n₀ A B) : IsT n₀ B T v := IsT.keep h (Nat.le_refl _) T v h1
theorem IsT.mono {n₀ n₁ : Nat} {A : World} {T : Tr} {v : Value} (h1 : IsT n₀ A T v) (h : n₀ ≤ n₁) : IsT n₁ A T v := IsT.keep (Below.refl _ _) h T v h1
theorem IsL.below {n₀ : Nat} {A B : World} {l : List Tr} {a : Option Addr} (h1 : IsL n₀ A l a) (h : Below n₀ A B) : IsL n₀ B l a := IsL.keep h (Nat.le_refl _) l a h1
theorem IsL.mono {n₀ n₁ : Nat} {A : World} {l : List Tr} {a : Option Addr} (h1 : IsL n₀ A l a) (h : n₀ ≤ n₁) : IsL n₁ A l a := IsL.keep (Below.refl _ _) h l a h1
theorem IsS.below {n₀ : Nat} {A B : World} {l : List Tr} {v : Value} (h1 : IsS n₀ A l v) (h : Below n₀ A B) : IsS n₀ B l v := by
  obtain ⟨a, c, e, h2, h3, h4⟩ := h1; exact ⟨a, c, e, h2, h3, h4.below h⟩
theorem IsS.mono {n₀ n₁ : Nat} {A : World} {l : List Tr} {v : Value} (h1 : IsS n₀ A l v) (h : n₀ ≤ n₁) : IsS n₁ A l v := by
  obtain ⟨a, c, e, h2, h3, h4⟩ := h1; exact ⟨a, c, e, h2, h3, h4.mono h⟩

theorem IsT.up {n₀ : Nat} {A B : World} {T : Tr} {v : Value} (h1 : IsT n₀ A T v) (h : Below n₀ A B) (hn : n₀ ≤ B.heap.size) : IsT B.heap.size B T v := IsT.keep h hn T v h1
theorem IsL.up {n₀ : Nat} {A B : World} {l : List Tr} {a : Option Addr} (h1 : IsL n₀ A l a) (h : Below n₀ A B) (hn : n₀ ≤ B.heap.size) : IsL B.heap.size B l a := IsL.keep h hn l a h1
theorem IsS.up {n₀ : Nat} {A B : World} {l : List Tr} {v : Value} (h1 : IsS n₀ A l v) (h : Below n₀ A B) (hn : n₀ ≤ B.heap.size) : IsS B.heap.size B l v := by
  obtain ⟨a, c, e, h2, h3, h4⟩ := h1; exact ⟨a, c, e, h2, h3, h4.up h hn⟩
theorem bcell {W w1 : World} (hb : Below W.heap.size W w1) : (∀ b o, b < W.heap.size → w1.cell? ⟨b, o, none⟩ = W.cell? ⟨b, o, none⟩) ∧ (∀ b o, b < W.heap.size → w1.frozen? ⟨b, o, none⟩ = W.frozen? ⟨b, o, none⟩) :=
  ⟨fun b o h => hb.cell (p := ⟨b, o, none⟩) h, fun b o h => hb.frozen (p := ⟨b, o, none⟩) h⟩
theorem below_a1 {n : Nat} {w : World} (h : n ≤ w.heap.size) (o : Obj) : Below n w (w.alloc o) := (Below.refl _ _).alloc h _
theorem below_a2 {n : Nat} {w : World} (h : n ≤ w.heap.size) (o o' : Obj) : Below n w ((w.alloc o).alloc o') := (below_a1 h o).alloc (by simp; omega) _
theorem below_a3 {n : Nat} {w : World} (h : n ≤ w.heap.size) (o o' o'' : Obj) : Below n w (((w.alloc o).alloc o').alloc o'') := (below_a2 h o o').alloc (by simp; omega) _
theorem below_a4 {n : Nat} {w : World} (h : n ≤ w.heap.size) (o o' o'' o3 : Obj) : Below n w ((((w.alloc o).alloc o').alloc o'').alloc o3) := (below_a3 h o o' o'').alloc (by simp; omega) _
theorem size_a1 {n : Nat} {w : World} (h : n ≤ w.heap.size) (o : Obj) : n ≤ (w.alloc o).heap.size := by simp; omega
theorem size_a2 {n : Nat} {w : World} (h : n ≤ w.heap.size) (o o' : Obj) : n ≤ ((w.alloc o).alloc o').heap.size := by simp; omega

/-- A node opened. -/
theorem IsT.open {n₀ : Nat} {W : World} {k n : Int} {s : ByteArray} {l : List Tr} {v : Value} (h : IsT n₀ W (.node k n s l) v) :
    ∃ (a : Option Addr) (c : Nat), v = .agg #[.int .i64 k, .int .i64 n, .string s, .slice a l.length c] ∧ okI k ∧ okI n ∧ s.size ≤ maxLen ∧ l.length ≤ c ∧ c ≤ maxLen ∧ IsL n₀ W l a := by
  unfold IsT at h; exact h
theorem IsT.mk {n₀ : Nat} {W : World} {k n : Int} {s : ByteArray} {l : List Tr} {a : Option Addr} {c : Nat} (h1 : okI k) (h2 : okI n) (h3 : s.size ≤ maxLen) (h4 : l.length ≤ c) (h5 : c ≤ maxLen) (h6 : IsL n₀ W l a) :
    IsT n₀ W (.node k n s l) (.agg #[.int .i64 k, .int .i64 n, .string s, .slice a l.length c]) := by
  unfold IsT; exact ⟨a, c, rfl, h1, h2, h3, h4, h5, h6⟩

theorem IsL.nil {n₀ : Nat} {W : World} {a : Option Addr} : IsL n₀ W [] a := by unfold IsL; trivial

theorem IsL.cons {n₀ : Nat} {W : World} {t : Tr} {ts : List Tr} {b off : Nat} {v0 v1 v2 v3 : Value} (hb : b < n₀) (c0 : W.cell? ⟨b, off, none⟩ = some v0) (c1 : W.cell? ⟨b, off + 1, none⟩ = some v1) (c2 : W.cell? ⟨b, off + 2, none⟩ = some v2)
    (c3 : W.cell? ⟨b, off + 3, none⟩ = some v3) (ht : IsT n₀ W t (.agg #[v0, v1, v2, v3])) (hl : IsL n₀ W ts (some ⟨b, off + 4, none⟩)) : IsL n₀ W (t :: ts) (some ⟨b, off, none⟩) := by
  unfold IsL
  exact ⟨b, off, v0, v1, v2, v3, rfl, hb, c0, c1, c2, c3, ht, hl⟩

/-- A list that is not empty has an address. -/
theorem IsL.addr {n₀ : Nat} {W : World} {l : List Tr} {a : Option Addr} (h : IsL n₀ W l a) (hl : 0 < l.length) : ∃ b off, a = some ⟨b, off, none⟩ ∧ b < n₀ := by
  cases l with
  | nil => simp at hl
  | cons t ts =>
    unfold IsL at h
    obtain ⟨b, off, v0, v1, v2, v3, e, hb, _⟩ := h
    exact ⟨b, off, e, hb⟩

/-- The i-th element. -/
theorem IsL.get {n₀ : Nat} {W : World} : ∀ {l : List Tr} {b off : Nat}, IsL n₀ W l (some ⟨b, off, none⟩) → ∀ i (hi : i < l.length), ∃ v0 v1 v2 v3, W.cell? ⟨b, off + i * 4, none⟩ = some v0 ∧ W.cell? ⟨b, off + i * 4 + 1, none⟩ = some v1 ∧
    W.cell? ⟨b, off + i * 4 + 2, none⟩ = some v2 ∧ W.cell? ⟨b, off + i * 4 + 3, none⟩ = some v3 ∧ IsT n₀ W l[i] (.agg #[v0, v1, v2, v3])
  | [], _, _, _, i, hi => by simp at hi
  | t :: ts, b, off, h, i, hi => by
    unfold IsL at h
    obtain ⟨b', off', v0, v1, v2, v3, e, hb, c0, c1, c2, c3, ht, hl⟩ := h
    simp only [Option.some.injEq, Addr.mk.injEq, and_true] at e
    obtain ⟨rfl, rfl⟩ := e
    cases i with
    | zero => exact ⟨v0, v1, v2, v3, by simpa using c0, by simpa using c1, by simpa using c2, by simpa using c3, ht⟩
    | succ j =>
      have hj : j < ts.length := by simpa using hi
      obtain ⟨u0, u1, u2, u3, d0, d1, d2, d3, hu⟩ := IsL.get hl j hj
      have e0 : off + (j + 1) * 4 = off + 4 + j * 4 := by omega
      exact ⟨u0, u1, u2, u3, by rw [e0]; exact d0, by rw [e0]; exact d1, by rw [e0]; exact d2, by rw [e0]; exact d3, hu⟩

/-- The i-th element, its node opened. -/
theorem IsL.node {n₀ : Nat} {W : World} {l : List Tr} {b off : Nat} (h : IsL n₀ W l (some ⟨b, off, none⟩)) (i : Nat) (hi : i < l.length) : ∃ (k n : Int) (s : ByteArray) (ts : List Tr) (a : Option Addr) (c : Nat), l[i] = .node k n s ts ∧
    W.cell? ⟨b, off + i * 4, none⟩ = some (.int .i64 k) ∧ W.cell? ⟨b, off + i * 4 + 1, none⟩ = some (.int .i64 n) ∧ W.cell? ⟨b, off + i * 4 + 2, none⟩ = some (.string s) ∧ W.cell? ⟨b, off + i * 4 + 3, none⟩ = some (.slice a ts.length c) ∧
    IsT n₀ W l[i] (.agg #[.int .i64 k, .int .i64 n, .string s, .slice a ts.length c]) := by
  obtain ⟨v0, v1, v2, v3, c0, c1, c2, c3, ht⟩ := h.get i hi
  cases hT : l[i] with
  | node k n s ts =>
    rw [hT] at ht
    have ht' := ht
    obtain ⟨a, c, e, _⟩ := ht'.open
    simp only [Value.agg.injEq, Array.mk.injEq, List.cons.injEq, and_true] at e
    obtain ⟨rfl, rfl, rfl, rfl⟩ := e
    exact ⟨k, n, s, ts, a, c, rfl, c0, c1, c2, c3, ht⟩

/-- The same, the cells read in a later world. -/
theorem IsL.node' {n₀ : Nat} {W W' : World} {l : List Tr} {b off : Nat} (h : IsL n₀ W l (some ⟨b, off, none⟩)) (hb : b < n₀) (hB : Below n₀ W W') (i : Nat) (hi : i < l.length) : ∃ (k n : Int) (s : ByteArray) (ts : List Tr) (a : Option Addr) (c : Nat), l[i] = .node k n s ts ∧
    W'.cell? ⟨b, off + i * 4, none⟩ = some (.int .i64 k) ∧ W'.cell? ⟨b, off + i * 4 + 1, none⟩ = some (.int .i64 n) ∧ W'.cell? ⟨b, off + i * 4 + 2, none⟩ = some (.string s) ∧ W'.cell? ⟨b, off + i * 4 + 3, none⟩ = some (.slice a ts.length c) ∧
    IsT n₀ W l[i] (.agg #[.int .i64 k, .int .i64 n, .string s, .slice a ts.length c]) := by
  obtain ⟨k, n, s, ts, a, c, e, c0, c1, c2, c3, ht⟩ := h.node i hi
  exact ⟨k, n, s, ts, a, c, e, (hB.cell (p := ⟨b, off + i * 4, none⟩) hb).trans c0, (hB.cell (p := ⟨b, off + i * 4 + 1, none⟩) hb).trans c1, (hB.cell (p := ⟨b, off + i * 4 + 2, none⟩) hb).trans c2, (hB.cell (p := ⟨b, off + i * 4 + 3, none⟩) hb).trans c3, ht⟩

/-- A list put together from its elements. -/
theorem IsL.of_get {n₀ : Nat} {W : World} : ∀ {l : List Tr} {b off : Nat}, b < n₀ → (∀ i (hi : i < l.length), ∃ v0 v1 v2 v3, W.cell? ⟨b, off + i * 4, none⟩ = some v0 ∧ W.cell? ⟨b, off + i * 4 + 1, none⟩ = some v1 ∧
    W.cell? ⟨b, off + i * 4 + 2, none⟩ = some v2 ∧ W.cell? ⟨b, off + i * 4 + 3, none⟩ = some v3 ∧ IsT n₀ W l[i] (.agg #[v0, v1, v2, v3])) → IsL n₀ W l (some ⟨b, off, none⟩)
  | [], _, _, _, _ => IsL.nil
  | t :: ts, b, off, hb, h => by
    unfold IsL
    obtain ⟨v0, v1, v2, v3, c0, c1, c2, c3, ht⟩ := h 0 (by simp)
    refine ⟨b, off, v0, v1, v2, v3, rfl, hb, by simpa using c0, by simpa using c1, by simpa using c2, by simpa using c3, by simpa using ht, IsL.of_get hb fun i hi => ?_⟩
    obtain ⟨u0, u1, u2, u3, d0, d1, d2, d3, hu⟩ := h (i + 1) (by simpa using hi)
    have e0 : off + (i + 1) * 4 = off + 4 + i * 4 := by omega
    rw [e0] at d0 d1 d2 d3
    exact ⟨u0, u1, u2, u3, d0, d1, d2, d3, by simpa using hu⟩

/-- What lies behind the first i elements. -/
theorem IsL.drop {n₀ : Nat} {W : World} {l : List Tr} {b off : Nat} (h : IsL n₀ W l (some ⟨b, off, none⟩)) (hb : b < n₀) (i : Nat) : IsL n₀ W (l.drop i) (some ⟨b, off + i * 4, none⟩) :=
  IsL.of_get hb fun j hj => by
    have hj' : i + j < l.length := by simp at hj; omega
    obtain ⟨v0, v1, v2, v3, c0, c1, c2, c3, ht⟩ := h.get (i + j) hj'
    have e0 : off + (i + j) * 4 = off + i * 4 + j * 4 := by omega
    rw [e0] at c0 c1 c2 c3
    exact ⟨v0, v1, v2, v3, c0, c1, c2, c3, by simpa using ht⟩

end Go.Proofs.YthfciekhmbfmfaaGreatDoor

namespace Go.Proofs.YthfciekhmbfmfaaGreatDoor
open Go.RowKit Go

def topB (k n : Int) (s : ByteArray) (l : Nat) (k' n' : Int) (s' : ByteArray) (l' : Nat) : Bool := decide (k = k' ∧ n = n' ∧ s = s' ∧ l = l')

theorem below_box2 (w : World) (o o' : Obj) : Below w.heap.size w ((w.alloc o).alloc o') := ((Below.refl _ _).alloc (Nat.le_refl _) _).alloc (by simp) _
theorem below_box1 (w : World) (o : Obj) : Below w.heap.size w (w.alloc o) := (Below.refl _ _).alloc (Nat.le_refl _) _

theorem retB {b b' : Bool} (h : b' = b) : Ending.returned (.bool b) = .returned (.bool b') := by rw [h]
theorem retI {k : IntKind} {a b : Int} (h : b = a) : Ending.returned (.int k a) = .returned (.int k b) := by rw [h]
theorem bytes_toList (a : ByteArray) : a.toList = a.data.toList := ByteArray.toList_eq a
theorem bytes_ne {a b : ByteArray} (h : ¬ a = b) : (a.toList == b.toList) = false := by
  rw [beq_eq_false_iff_ne]
  intro e
  rw [bytes_toList, bytes_toList] at e
  exact h (ByteArray.ext (Array.ext' e))

/-- sameTop at two nodes. -/
def topT : Tr → Tr → Bool
  | .node k n s l, .node k' n' s' l' => topB k n s l.length k' n' s' l'.length

end Go.Proofs.YthfciekhmbfmfaaGreatDoor

namespace Go.Proofs.YthfciekhmbfmfaaGreatDoor
open Go.RowKit Go
open Classical

noncomputable def eqT (T U : Tr) : Bool := decide (T = U)
noncomputable def eqLT (l l' : List Tr) : Bool := decide (l = l')

end Go.Proofs.YthfciekhmbfmfaaGreatDoor

namespace Go.Proofs.YthfciekhmbfmfaaGreatDoor
open Go.RowKit Go
open Classical
attribute [local go_sem] monoUpon Yld.says

set_option maxRecDepth 100000 in
set_option maxHeartbeats 400000 in
theorem refSameAll_any (l l' : List Tr) (a a' : Option Addr) (c c' : Nat) (w : World) (hm : l.length ≤ maxLen) (hm' : l'.length ≤ maxLen)
    (hl : IsL w.heap.size w l a) (hl' : IsL w.heap.size w l' a')
    (hS : ∀ t, t ∈ l → ∀ (u : Tr) (v v' : Value) (W : World), IsT W.heap.size W t v → IsT W.heap.size W u v' →
      Calls Tryz.prog 25 #[v, v'] W fun e w' => e = .returned (.bool (eqT t u)) ∧ Below W.heap.size W w') :
    Calls Tryz.prog 27 #[.slice a l.length c, .slice a' l'.length c'] w
      fun e w' => e = .returned (.bool (eqLT l l')) ∧ Below w.heap.size w w' := by
  unfold maxLen at hm hm'
  by_cases hlen : l.length = l'.length
  · by_cases h0 : 0 < l.length
    · obtain ⟨b, off, rfl, hb⟩ := hl.addr h0
      obtain ⟨b', off', rfl, hb'⟩ := hl'.addr (by omega)
      have hle : (((l.length : Nat) : Int) != (l'.length : Nat)) = false := by simp [hlen]
      have H := Lib.hid hlen
      have HS := Lib.hid hS
      clear hlen hS
      go_enter Tryz.func27, Tryz.ntmps27
      go_wp2_with fail
      go_loopw [5] (fun i wr => ∃ k : Nat, k ≤ l.length ∧ i = .int .i64 k ∧ l.take k = l'.take k ∧ Below w.heap.size w wr) (fun i _ => l.length - (intOf i).toNat)
      case atStart => exact ⟨0, Nat.zero_le _, rfl, rfl, Below.refl _ _⟩
      case round =>
        obtain ⟨k, hk, rfl, htk, hB⟩ := hrel
        have Htk := Lib.hid htk
        clear htk
        by_cases hlt : k < l.length
        · have hlt' : k < l'.length := by have := H.out; omega
          obtain ⟨tk, tn, ts, tl, ta, tc, te, c0, c1, c2, c3, ht⟩ := (hl.below hB).node k hlt
          obtain ⟨uk, un, us, ul, ua, uc, ue, d0, d1, d2, d3, hu⟩ := (hl'.below hB).node k hlt'
          have Te := Lib.hid te
          have Ue := Lib.hid ue
          clear te ue
          have hbw : b < wr.heap.size := by have := hB.size; omega
          have hbw' : b' < wr.heap.size := by have := hB.size; omega
          by_cases heq : l[k] = l'[k]
          · have Heq : Hid (eqT l[k] l'[k] = true) := by simp [Hid, eqT, heq]
            have htk' : Hid (l.take (k + 1) = l'.take (k + 1)) := by
              unfold Hid
              rw [List.take_succ_eq_append_getElem hlt, List.take_succ_eq_append_getElem hlt', Htk.out, heq]
            clear heq Htk
            go_wp2_with fail
            apply wp_region_mono [.det _, .det _, .det _, .det _, .det _, .det _, .det _, .det _, .det _, .det _] (by kernel_rfl) (by kernel_rfl)
            rotate_left
            · iterate 8 (
                refine wpM_step (fun K hK => ?_)
                go_simp
                apply And.intro
                · intro w' hC _
                  have q1 := hC.old.1
                  have hbs := hC.old.2.2
                  clear hC
                  go_simp
                  exact ⟨Ext.refl _, rfl⟩
                refine nextM_det (hK _ _ ?_)
                clear hK K)
              refine wpM_step (fun K hK => ?_)
              go_simp
              apply And.intro
              · intro w' hC _
                go_simp
                refine ⟨Ext.refl _, (HS.out _ (List.getElem_mem hlt) _ _ _ _ (ht.up (Below.mono hC hB.size) (Nat.le_trans hB.size hC.old.2.2)) (hu.up (Below.mono hC hB.size) (Nat.le_trans hB.size hC.old.2.2))).mono ?_⟩
                rintro e w1 ⟨rfl, hB1⟩
                exact ⟨congrArg (fun b => Ending.returned (Value.bool b)) Heq.out, hB1⟩
              refine nextM_det (hK _ _ ?_)
              clear hK K
              refine wpM_step (fun K hK => ?_)
              go_simp
              apply And.intro
              · intro w' hC _
                go_simp
                exact ⟨Ext.refl _, rfl⟩
              refine nextM_det (hK _ _ ?_)
              clear hK K
              refine wpM_nil ?_
              intro w1 hC1 _
              have hB2 := hB.trans (Below.mono hC1 hB.size)
              clear hC1
              go_wp2_with fail
              go_roundw
              case rel => exact ⟨k + 1, hlt, by go_num, htk'.out, hB2⟩
              case measure => simp [intOf]; omega
            · intro y hy
              simp only [List.mem_cons, List.not_mem_nil, or_false] at hy
              rcases hy with rfl | rfl | rfl | rfl | rfl | rfl | rfl | rfl | rfl | rfl <;> trivial
          · have Heq : Hid (eqT l[k] l'[k] = false) := by simp [Hid, eqT, heq]
            have hne : Hid (eqLT l l' = false) := by
              simp only [Hid, eqLT, decide_eq_false_iff_not]
              intro e
              subst e
              exact heq rfl
            clear heq Htk
            go_wp2_with fail
            apply wp_region_mono [.det _, .det _, .det _, .det _, .det _, .det _, .det _, .det _, .det _, .det _] (by kernel_rfl) (by kernel_rfl)
            rotate_left
            · iterate 8 (
                refine wpM_step (fun K hK => ?_)
                go_simp
                apply And.intro
                · intro w' hC _
                  have q1 := hC.old.1
                  have hbs := hC.old.2.2
                  clear hC
                  go_simp
                  exact ⟨Ext.refl _, rfl⟩
                refine nextM_det (hK _ _ ?_)
                clear hK K)
              refine wpM_step (fun K hK => ?_)
              go_simp
              apply And.intro
              · intro w' hC _
                go_simp
                refine ⟨Ext.refl _, (HS.out _ (List.getElem_mem hlt) _ _ _ _ (ht.up (Below.mono hC hB.size) (Nat.le_trans hB.size hC.old.2.2)) (hu.up (Below.mono hC hB.size) (Nat.le_trans hB.size hC.old.2.2))).mono ?_⟩
                rintro e w1 ⟨rfl, hB1⟩
                exact ⟨congrArg (fun b => Ending.returned (Value.bool b)) Heq.out, hB1⟩
              refine nextM_det (hK _ _ ?_)
              clear hK K
              refine wpM_step (fun K hK => ?_)
              go_simp
              apply And.intro
              · intro w' hC _
                go_simp
                exact ⟨Ext.refl _, rfl⟩
              refine nextM_det (hK _ _ ?_)
              clear hK K
              refine wpM_nil ?_
              intro w1 hC1 _
              have hB2 := hB.trans (Below.mono hC1 hB.size)
              clear hC1
              go_wp2_with fail
              go_ret
              exact ⟨retB hne.out, hB2⟩
            · intro y hy
              simp only [List.mem_cons, List.not_mem_nil, or_false] at hy
              rcases hy with rfl | rfl | rfl | rfl | rfl | rfl | rfl | rfl | rfl | rfl <;> trivial
        · have hlt' : ¬ k < l'.length := by have := H.out; omega
          go_wp2_with fail
          go_ret
          refine ⟨?_, hB⟩
          have e : l = l' := by
            have := Htk.out
            rwa [List.take_of_length_le (by omega), List.take_of_length_le (by omega)] at this
          simp [eqLT, e]
    · have e1 : l = [] := List.length_eq_zero_iff.1 (by omega)
      have e2 : l' = [] := List.length_eq_zero_iff.1 (by omega)
      subst e1 e2
      have hne : Hid (eqLT [] [] = true) := by simp [Hid, eqLT]
      clear hS hlen h0
      simp only [List.length_nil]
      go_enter Tryz.func27, Tryz.ntmps27
      go_wp2_with fail
      refine wp_loop_rounds 1 ?_
      rw [rounds_succ]
      go_wp2_with fail
      go_ret
      exact ⟨retB hne.out, Below.refl _ _⟩
  · have hle : (((l.length : Nat) : Int) != (l'.length : Nat)) = true := by simp; omega
    have hne : Hid (eqLT l l' = false) := by
      simp only [Hid, eqLT, decide_eq_false_iff_not]
      intro e
      subst e
      exact hlen rfl
    clear hS hlen
    go_enter Tryz.func27, Tryz.ntmps27
    go_wp2_with fail
    go_ret
    exact ⟨retB hne.out, Below.refl _ _⟩
end Go.Proofs.YthfciekhmbfmfaaGreatDoor
