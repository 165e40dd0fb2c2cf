import Derived.Test.YtckoecmdaefoiaaDoorTr
import Derived.Test.YtckoecmdaefoiaaDoorProg
import Derived.Deep.QuietTactic
import Derived.BigQuiet
import Derived.WalkSpells
import Derived.Lib.Hide
import Derived.LoopTactic
import Derived.Outline
import Derived.Handy
namespace Go.Proofs.YtckoecmdaefoiaaDoor
open Go.RowKit Go

def topB (k n : Int) (s : ByteArray) (l : Nat) (k' n' : Int) (s' : ByteArray) (l' : Nat) : Bool := decide (k = k' ∧ n = n' ∧ s = s' ∧ l = l')

theorem below_box2 (w : World) (o o' : Obj) : Below w.heap.size w ((w.alloc o).alloc o') := ((Below.refl _ _).alloc (Nat.le_refl _) _).alloc (by simp) _
theorem below_box1 (w : World) (o : Obj) : Below w.heap.size w (w.alloc o) := (Below.refl _ _).alloc (Nat.le_refl _) _

theorem retB {b b' : Bool} (h : b' = b) : Ending.returned (.bool b) = .returned (.bool b') := by rw [h]
theorem retI {k : IntKind} {a b : Int} (h : b = a) : Ending.returned (.int k a) = .returned (.int k b) := by rw [h]
theorem bytes_toList (a : ByteArray) : a.toList = a.data.toList := ByteArray.toList_eq a
theorem bytes_ne {a b : ByteArray} (h : ¬ a = b) : (a.toList == b.toList) = false := by
  rw [beq_eq_false_iff_ne]
  intro e
  rw [bytes_toList, bytes_toList] at e
  exact h (ByteArray.ext (Array.ext' e))

set_option maxHeartbeats 400000 in
theorem sameTop_any (k n : Int) (s : ByteArray) (len : Nat) (k' n' : Int) (s' : ByteArray) (len' : Nat) (a a' : Option Addr) (c c' : Nat) (w : World) :
    Calls Tryd.prog 81 #[.agg #[.int .i64 k, .int .i64 n, .string s, .slice a len c], .agg #[.int .i64 k', .int .i64 n', .string s', .slice a' len' c']] w
      fun e w' => e = .returned (.bool (topB k n s len k' n' s' len')) ∧ Below w.heap.size w w' := by
  by_cases h1 : k = k'
  · by_cases h2 : n = n'
    · by_cases h3 : s = s'
      · by_cases h4 : len = len'
        · subst h1 h2 h3 h4
          have ht : topB k n s len k n s len = true := by simp [topB]
          rw [ht]
          clear ht
          go_enter Tryd.func81, Tryd.ntmps81
          go_wp2_with fail
          go_ret
          exact ⟨rfl, below_box2 _ _ _⟩
        · have h4' : ((len : Int) == (len' : Int)) = false := by simpa using fun e : (len : Int) = len' => h4 (by omega)
          subst h1 h2 h3
          have ht : topB k n s len k n s len' = false := by simp [topB, h4]
          rw [ht]
          clear ht h4
          go_enter Tryd.func81, Tryd.ntmps81
          go_wp2_with fail
          go_ret
          exact ⟨rfl, below_box2 _ _ _⟩
      · have h3' : (s.toList == s'.toList) = false := bytes_ne h3
        subst h1 h2
        have ht : topB k n s len k n s' len' = false := by simp [topB, h3]
        rw [ht]
        clear ht h3
        go_enter Tryd.func81, Tryd.ntmps81
        go_wp2_with fail
        go_ret
        exact ⟨rfl, below_box2 _ _ _⟩
    · have h2' : (n == n') = false := by simpa using h2
      subst h1
      have ht : topB k n s len k n' s' len' = false := by simp [topB, h2]
      rw [ht]
      clear ht h2
      go_enter Tryd.func81, Tryd.ntmps81
      go_wp2_with fail
      go_ret
      exact ⟨rfl, below_box2 _ _ _⟩
  · have h1' : (k == k') = false := by simpa using h1
    have ht : topB k n s len k' n' s' len' = false := by simp [topB, h1]
    rw [ht]
    clear ht h1
    go_enter Tryd.func81, Tryd.ntmps81
    go_wp2_with fail
    go_ret
    exact ⟨rfl, below_box2 _ _ _⟩

/-- sameTop at two nodes. -/
def topT : Tr → Tr → Bool
  | .node k n s l, .node k' n' s' l' => topB k n s l.length k' n' s' l'.length

end Go.Proofs.YtckoecmdaefoiaaDoor
