/- A box of a tree of Kind 0 is no part of a term. -/
import Derived.Test.YthfciekhmbfmfaaGreatDoorSan2
namespace Go.Proofs.YthfciekhmbfmfaaGreatDoor
open Go.RowKit Go Go.Maps

def zeroBx (W : World) (B : Nat) : Prop := Box W B #[.int .i64 0, .int .i64 0, .string ⟨#[]⟩, .slice none 0 0] 31
theorem fine_kind {n : Int} {s : ByteArray} {l : List Tr} (h : (Tr.node 0 n s l).fine = true) : False := by
  have h1 := (fine_node h).1
  unfold nodeB at h1
  simp at h1
mutual
theorem IsP.notBx {p : Nat → Prop} {W : World} {B : Nat} (hB : zeroBx W B) : ∀ (T : Tr) (v : Value), T.fine = true → IsP p W T v → IsP (fun b => p b ∧ b ≠ B) W T v
  | .node k n s l, v, hg, h => by
    simp only [Tr.fine, Bool.and_eq_true] at hg
    obtain ⟨a, c, rfl, h1, h2, h3, h4, h5, h6⟩ := h.open
    exact IsP.mk h1 h2 h3 h4 h5 (IsPL.notBx hB l a hg.2 h6)
theorem IsPL.notBx {p : Nat → Prop} {W : World} {B : Nat} (hB : zeroBx W B) : ∀ (l : List Tr) (a : Option Addr), fineL l = true → IsPL p W l a → IsPL (fun b => p b ∧ b ≠ B) W l a
  | [], _, _, _ => IsPL.nil
  | t :: ts, a, hg, h => by
    simp only [fineL, Bool.and_eq_true] at hg
    unfold IsPL at h ⊢
    obtain ⟨b, off, v0, v1, v2, v3, rfl, hb, c0, c1, c2, c3, ht, hl⟩ := h
    refine ⟨b, off, v0, v1, v2, v3, rfl, ⟨hb, fun e => ?_⟩, c0, c1, c2, c3, IsP.notBx hB t _ hg.1 ht, IsPL.notBx hB ts _ hg.2 hl⟩
    subst e
    have h0 := (hB.cell off).symm.trans c0
    have h3 := (hB.cell (off + 3)).symm.trans c3
    have hoff : off = 0 := by
      rcases Nat.eq_zero_or_pos off with h | h
      · exact h
      · rw [Array.getElem?_eq_none (by simp; omega)] at h3; cases h3
    subst hoff
    simp at h0
    subst h0
    cases t with
    | node k n s l =>
    obtain ⟨a, c, e, _⟩ := ht.open
    simp only [Value.agg.injEq, Array.mk.injEq, List.cons.injEq, Value.int.injEq, true_and] at e
    have hk := e.1.symm
    subst hk
    exact fine_kind hg.1
end
def IsZer (lo : Nat) (u : Value) (W : World) : Prop := ∃ B, u = .pointer (some ⟨B, 0, none⟩) ∧ lo ≤ B ∧ zeroBx W B
theorem IsZer.stable (lo : Nat) : (Yld.any (IsZer lo)).stable := fun _ _ _ he ⟨B, h1, h2, h3⟩ => ⟨B, h1, h2, Box.keep he h3⟩
theorem IsZer.made (W : World) : IsZer W.heap.size (.pointer (some ⟨W.heap.size, 0, none⟩)) (W.alloc (.cells #[.int .i64 0, .int .i64 0, .string ⟨#[]⟩, .slice none 0 0] 31)) := ⟨_, rfl, Nat.le_refl _, Box.at rfl⟩
theorem IsZer.lower {lo lo' : Nat} {u : Value} {W : World} (h : IsZer lo u W) (hl : lo' ≤ lo) : IsZer lo' u W := by
  obtain ⟨B, h1, h2, h3⟩ := h
  exact ⟨B, h1, Nat.le_trans hl h2, h3⟩
/-- A term is stored in a box that was made beside it. -/
theorem TrBox.stored {T : Tr} {B : Nat} {W0 W : World} (hz : zeroBx W B) (hf : T.fine = true) (hE : Ext W0 W) (hB : W0.heap.size ≤ B) {k n : Int} {s : ByteArray} {a : Option Addr} {m c : Nat} (ht : IsTr T (.agg #[.int .i64 k, .int .i64 n, .string s, .slice a m c]) W) :
    TrBox T B ((((W.setCell ⟨B, 0, none⟩ (.int .i64 k)).setCell ⟨B, 1, none⟩ (.int .i64 n)).setCell ⟨B, 2, none⟩ (.string s)).setCell ⟨B, 3, none⟩ (.slice a m c)) ∧ Ext W0 ((((W.setCell ⟨B, 0, none⟩ (.int .i64 k)).setCell ⟨B, 1, none⟩ (.int .i64 n)).setCell ⟨B, 2, none⟩ (.string s)).setCell ⟨B, 3, none⟩ (.slice a m c)) := by
  have hbF := (((show Box W B _ _ from hz).set 0 (.int .i64 k)).set 1 (.int .i64 n)).set 2 (.string s) |>.set 3 (.slice a m c)
  have hP := IsP.notBx hz T _ hf (IsT.toP _ _ ht)
  have hs : ((((W.setCell ⟨B, 0, none⟩ (.int .i64 k)).setCell ⟨B, 1, none⟩ (.int .i64 n)).setCell ⟨B, 2, none⟩ (.string s)).setCell ⟨B, 3, none⟩ (.slice a m c)).heap.size = W.heap.size := by simp
  refine ⟨⟨k, n, s, a, m, c, hbF, ?_⟩, ?_⟩
  · refine IsP.toT (p := fun b => b < W.heap.size ∧ b ≠ B) (fun b h => by rw [hs]; exact h.1) T _ (IsP.map (fun b h => ⟨h, ?_⟩) T _ hP)
    rw [Below.heap_setCell _ _ _ _ h.2, Below.heap_setCell _ _ _ _ h.2, Below.heap_setCell _ _ _ _ h.2, Below.heap_setCell _ _ _ _ h.2]
  · exact (((Below.setCell (show Below W0.heap.size W0 W from hE) (p := ⟨B, 0, none⟩) hB (.int .i64 k)).setCell (p := ⟨B, 1, none⟩) hB (.int .i64 n)).setCell (p := ⟨B, 2, none⟩) hB (.string s)).setCell (p := ⟨B, 3, none⟩) hB (.slice a m c)
end Go.Proofs.YthfciekhmbfmfaaGreatDoor
