import Derived.Test.YtckoecmdaefoiaaDoorRSame
namespace Go.Proofs.YtckoecmdaefoiaaDoor
open Go.RowKit Go

def emp : ByteArray := ⟨#[]⟩
def tV (n : Int) : Tr := .node 1 n emp []
def tA (s : ByteArray) : Tr := .node 3 0 s []
def tF (s : ByteArray) (l : List Tr) : Tr := .node 5 0 s l

theorem lawV_any (n : Int) (hn : okI n) (w : World) : Calls Tryd.prog 65 #[.int .i64 n] w fun e w' => ∃ v, e = .returned v ∧ IsT w'.heap.size w' (tV n) v ∧ Below w.heap.size w w' := by
  have hI : ∀ W, IsT W.heap.size W (tV n) (.agg #[.int .i64 1, .int .i64 n, .string ⟨#[]⟩, .slice none 0 0]) := fun W => IsT.mk (l := []) (by unfold okI; omega) hn (by decide) (Nat.le_refl _) (by decide) IsL.nil
  have HI := Lib.hid hI
  clear hI
  go_enter Tryd.func65, Tryd.ntmps65
  go_wp2_with fail
  exact bodyPost_ret (v := .agg #[.int .i64 1, .int .i64 n, .string ⟨#[]⟩, .slice none 0 0]) (by simp [results, Tryd.results65, go_sem]) rfl ⟨_, rfl, HI.out _, below_a1 (Nat.le_refl _) _⟩

theorem lawA_any (s : ByteArray) (hs : s.size ≤ maxLen) (w : World) : Calls Tryd.prog 75 #[.string s] w fun e w' => ∃ v, e = .returned v ∧ IsT w'.heap.size w' (tA s) v ∧ Below w.heap.size w w' := by
  have hI : ∀ W, IsT W.heap.size W (tA s) (.agg #[.int .i64 3, .int .i64 0, .string s, .slice none 0 0]) := fun W => IsT.mk (l := []) (by unfold okI; omega) (by unfold okI; omega) hs (Nat.le_refl _) (by decide) IsL.nil
  have HI := Lib.hid hI
  clear hI
  go_enter Tryd.func75, Tryd.ntmps75
  go_wp2_with fail
  exact bodyPost_ret (v := .agg #[.int .i64 3, .int .i64 0, .string s, .slice none 0 0]) (by simp [results, Tryd.results75, go_sem]) rfl ⟨_, rfl, HI.out _, below_a1 (Nat.le_refl _) _⟩

theorem lawF_any (s : ByteArray) (hs : s.size ≤ maxLen) (l : List Tr) (v : Value) (w : World) (hl : IsS w.heap.size w l v) : Calls Tryd.prog 74 #[.string s, v] w fun e w' => ∃ v, e = .returned v ∧ IsT w'.heap.size w' (tF s l) v ∧ Below w.heap.size w w' := by
  obtain ⟨a, c, rfl, h1, h2, h3⟩ := hl
  have hI : ∀ W, Below w.heap.size w W → IsT W.heap.size W (tF s l) (.agg #[.int .i64 5, .int .i64 0, .string s, .slice a l.length c]) := fun W hB => IsT.mk (by unfold okI; omega) (by unfold okI; omega) hs h1 h2 (h3.up hB hB.size)
  have HI := Lib.hid hI
  clear hI h3
  go_enter Tryd.func74, Tryd.ntmps74
  go_wp2_with fail
  exact bodyPost_ret (v := .agg #[.int .i64 5, .int .i64 0, .string s, .slice a l.length c]) (by simp [results, Tryd.results74, go_sem]) rfl ⟨_, rfl, HI.out _ (below_a1 (Nat.le_refl _) _), below_a1 (Nat.le_refl _) _⟩
end Go.Proofs.YtckoecmdaefoiaaDoor
