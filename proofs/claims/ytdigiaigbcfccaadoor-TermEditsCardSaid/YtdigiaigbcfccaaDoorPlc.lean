/- The places of a tree, by its form. -/
import Derived.Test.YtdigiaigbcfccaaDoorPaths
import Derived.Test.YtdigiaigbcfccaaDoorNodeR
namespace Go.Proofs.YtdigiaigbcfccaaDoor
open Go.RowKit Go

mutual
/-- The places within a tree that lies at p, with the nodes. -/
def plcT (p : List Int) : Tr → List (List Int × Tr)
  | .node k n s l => (p, .node k n s l) :: plcL p 0 l
def plcL (p : List Int) (i : Nat) : List Tr → List (List Int × Tr)
  | [] => []
  | t :: ts => plcT (p ++ [(i : Int)]) t ++ plcL p (i + 1) ts
end
theorem nextP_first {d : Nat} {p : List Int} (hd : 1 ≤ d) (hl : p.length = d - 1) : nextP p (d + 1) = p ++ [0] := by
  rw [nextP, if_pos (by omega)]
theorem nextP_more {d i : Nat} {p ns : List Int} (hl : p.length = d - 1) (hd : 1 ≤ d) (h : p ++ [(i : Int)] <+: ns) : nextP ns (d + 1) = p ++ [((i + 1 : Nat) : Int)] := by
  obtain ⟨r, rfl⟩ := h
  rw [nextP, if_neg (by simp; omega), if_pos (by omega)]
  have h1 : d + 1 - 2 = p.length := by omega
  rw [h1, List.append_assoc, List.take_left', List.getD]
  · simp
  · rfl
mutual
theorem scan_plc : ∀ (T : Tr) (d : Nat) (ns p : List Int), 1 ≤ d → nextP ns d = p → p.length = d - 1 → scanP ns (preT (d : Int) T) = plcT p T ∧ p <+: lastP ns (preT (d : Int) T)
  | .node k n s l, d, ns, p, hd, hn, hl => by
    obtain ⟨h1, h2⟩ := scan_plcL l d p 0 p hd hl (.inl ⟨rfl, rfl⟩)
    rw [preT, plcT, scanP, lastP, List.foldl_cons, Int.toNat_natCast, hn]
    exact ⟨by rw [h1], h2⟩
theorem scan_plcL : ∀ (l : List Tr) (d : Nat) (p : List Int) (i : Nat) (ns : List Int), 1 ≤ d → p.length = d - 1 → (i = 0 ∧ ns = p ∨ 0 < i ∧ p ++ [((i - 1 : Nat) : Int)] <+: ns) → scanP ns (preL ((d : Int) + 1) l) = plcL p i l ∧ p <+: lastP ns (preL ((d : Int) + 1) l)
  | [], d, p, i, ns, hd, hl, h => by
    refine ⟨by rw [preL, scanP, plcL], ?_⟩
    rw [preL, lastP, List.foldl_nil]
    rcases h with ⟨_, rfl⟩ | ⟨_, h⟩
    · exact List.prefix_refl _
    · exact (List.prefix_append _ _).trans h
  | t :: ts, d, p, i, ns, hd, hl, h => by
    have hn : nextP ns (d + 1) = p ++ [(i : Int)] := by
      rcases h with ⟨rfl, rfl⟩ | ⟨h0, h⟩
      · exact nextP_first hd hl
      · have := nextP_more hl hd h
        rwa [show i - 1 + 1 = i by omega] at this
    obtain ⟨h1, h2⟩ := scan_plc t (d + 1) ns (p ++ [(i : Int)]) (by omega) hn (by simp; omega)
    rw [show ((d + 1 : Nat) : Int) = (d : Int) + 1 by omega] at h1 h2
    obtain ⟨h3, h4⟩ := scan_plcL ts d p (i + 1) (lastP ns (preT ((d : Int) + 1) t)) hd hl (.inr ⟨by omega, by simpa using h2⟩)
    rw [preL, scanP_append, plcL, h1, h3]
    refine ⟨rfl, ?_⟩
    have e : lastP ns (preT ((d : Int) + 1) t ++ preL ((d : Int) + 1) ts) = lastP (lastP ns (preT ((d : Int) + 1) t)) (preL ((d : Int) + 1) ts) := by simp only [lastP, List.foldl_append]
    rw [e]
    exact h4
end
/-- The places, found by steps, are the places by the tree's form. -/
theorem paths_plc (T : Tr) : scanP [] (preT 1 T) = plcT [] T := (scan_plc T 1 [] [] (Nat.le_refl _) rfl rfl).1
theorem pathsT_plc (T : Tr) : pathsT T = (plcT [] T).map Prod.fst := by rw [pathsT, paths_plc]
mutual
/-- At each place lies its node. -/
theorem plc_node : ∀ (T : Tr) (p : List Int) (x : List Int × Tr), x ∈ plcT p T → ∃ r, x.1 = p ++ r ∧ nodT r T = some x.2
  | .node k n s l, p, x, h => by
    rw [plcT] at h
    rcases List.mem_cons.1 h with rfl | h
    · exact ⟨[], by simp, rfl⟩
    · obtain ⟨j, r, hj, h1, h2⟩ := plc_nodeL l p 0 x h
      refine ⟨((0 + j : Nat) : Int) :: r, h1, ?_⟩
      rw [nodT, kidT_some (t := .node k n s l) (by omega) (by simpa [kidsT] using hj)]
      simpa [kidsT] using h2
theorem plc_nodeL : ∀ (l : List Tr) (p : List Int) (i : Nat) (x : List Int × Tr), x ∈ plcL p i l → ∃ (j : Nat) (r : List Int) (hj : j < l.length), x.1 = p ++ ((i + j : Nat) : Int) :: r ∧ nodT r l[j] = some x.2
  | [], _, _, x, h => by simp [plcL] at h
  | t :: ts, p, i, x, h => by
    rw [plcL] at h
    rcases List.mem_append.1 h with h | h
    · obtain ⟨r, h1, h2⟩ := plc_node t _ x h
      exact ⟨0, r, by simp, by rw [h1]; simp, h2⟩
    · obtain ⟨j, r, hj, h1, h2⟩ := plc_nodeL ts p (i + 1) x h
      exact ⟨j + 1, r, by simpa using hj, by rw [h1, show i + 1 + j = i + (j + 1) by omega], by simpa using h2⟩
end
end Go.Proofs.YtdigiaigbcfccaaDoor
