/- The node at a place: the second reading of Node. -/
import Derived.RegionTactic
import Derived.ChangeAlike
import Derived.Deep.QuietTactic
import Derived.BigQuiet
import Derived.Test.YtdigiaigbcfccaaDoorSbs
import Derived.Test.YtdigiaigbcfccaaDoorEqL
namespace Go.Proofs.YtdigiaigbcfccaaDoor
open Go.RowKit Go

def kidsT : Tr → List Tr
  | .node _ _ _ l => l
/-- The child of a tree at an index. -/
def kidT (t : Tr) (i : Int) : Option Tr := if 0 ≤ i then (kidsT t)[i.toNat]? else none
/-- The node at a place. -/
def nodT : List Int → Tr → Option Tr
  | [], t => some t
  | i :: p, t => (kidT t i).bind (nodT p)
theorem kidT_some {t : Tr} {i : Int} (h0 : 0 ≤ i) (h1 : i.toNat < (kidsT t).length) : kidT t i = some (kidsT t)[i.toNat] := by
  rw [kidT, if_pos h0, List.getElem?_eq_getElem h1]
theorem kidT_neg {t : Tr} {i : Int} (h0 : i < 0) : kidT t i = none := by rw [kidT, if_neg (by omega)]
theorem kidT_over {t : Tr} {i : Int} (h1 : ((kidsT t).length : Int) ≤ i) : kidT t i = none := by
  rw [kidT]
  split
  · exact List.getElem?_eq_none (by omega)
  · rfl
theorem nodT_step {p : List Int} {j : Nat} (hj : j < p.length) (t : Tr) : nodT (p.drop j) t = (kidT t (p.getD j 0)).bind (nodT (p.drop (j + 1))) := by
  rw [List.drop_eq_getElem_cons hj, nodT, List.getD, List.getElem?_eq_getElem hj, Option.getD_some]
/-- What Node hands back. -/
def NdPost (n₀ : Nat) (p : List Int) (T : Tr) (w : World) (e : Ending) (w' : World) : Prop := ∃ k n s a m c, e = .returned (.tuple #[.agg #[.int .i64 k, .int .i64 n, .string s, .slice a m c], .bool (nodT p T).isSome]) ∧ IsT n₀ w' ((nodT p T).getD zeroTr) (.agg #[.int .i64 k, .int .i64 n, .string s, .slice a m c]) ∧ Below w.heap.size w w'
theorem NdPost.no {n₀ : Nat} {p : List Int} {T : Tr} {w w' : World} (h : nodT p T = none) (hB : Below w.heap.size w w') : NdPost n₀ p T w (.returned (.tuple #[.agg #[.int .i64 0, .int .i64 0, .string ⟨#[]⟩, .slice none 0 0], .bool false])) w' :=
  ⟨0, 0, _, none, 0, 0, by rw [h]; rfl, by rw [h]; exact IsP.toT (p := fun _ => False) (fun _ h => h.elim) _ _ (zero_isP _ _), hB⟩
theorem NdPost.yes {n₀ : Nat} {p : List Int} {T X : Tr} {w w' : World} {k n : Int} {s : ByteArray} {a : Option Addr} {m c : Nat} (h : nodT p T = some X) (ht : IsT n₀ w' X (.agg #[.int .i64 k, .int .i64 n, .string s, .slice a m c])) (hB : Below w.heap.size w w') : NdPost n₀ p T w (.returned (.tuple #[.agg #[.int .i64 k, .int .i64 n, .string s, .slice a m c], .bool true])) w' :=
  ⟨k, n, s, a, m, c, by rw [h]; rfl, by rw [h]; exact ht, hB⟩
structure NdAt (n₀ : Nat) (p : List Int) (T : Tr) (w : World) (j : Nat) (k n : Int) (s : ByteArray) (ts : List Tr) (a : Option Addr) (c : Nat) (wr : World) : Prop where
  eq : nodT p T = nodT (p.drop j) (.node k n s ts)
  box : Box wr w.heap.size #[.int .i64 k, .int .i64 n, .string s, .slice a ts.length c] 25
  out : Box wr (w.heap.size + 1) #[.int .i64 0, .int .i64 0, .string ⟨#[]⟩, .slice none 0 0] 25
  tree : IsT n₀ w (.node k n s ts) (.agg #[.int .i64 k, .int .i64 n, .string s, .slice a ts.length c])
  below : Below w.heap.size w wr
theorem NdAt.up {n₀ : Nat} {p : List Int} {T : Tr} {w wr W : World} {j : Nat} {k n : Int} {s : ByteArray} {ts : List Tr} {a : Option Addr} {c : Nat} (h : NdAt n₀ p T w j k n s ts a c wr) (B : Below wr.heap.size wr W) : NdAt n₀ p T w j k n s ts a c W :=
  ⟨h.eq, h.box.keep B, h.out.keep B, h.tree, h.below.trans (B.mono h.below.size)⟩
theorem drewN_below (W : World) (n : Nat) : Below W.heap.size W (W.drewN n) := ⟨rfl, rfl, rfl, Nat.le_refl _, fun _ _ => rfl⟩

set_option maxRecDepth 100000 in
set_option maxHeartbeats 4000000 in
theorem refNodeAt_any (n₀ : Nat) (T : Tr) (p : List Int) (v u : Value) (w : World) (hn₀ : n₀ ≤ w.heap.size) (hT : IsT n₀ w T v) (hp : RdN w.heap.size w p u) :
    Calls Tryd.prog 88 #[v, u] w (NdPost n₀ p T w) := by
  cases hTc : T with
  | node k n s ts =>
  subst hTc
  have hT' := hT
  obtain ⟨a', c', rfl, _⟩ := hT'.open
  clear hT'
  obtain ⟨pa, pc, rfl, hpl, hpc⟩ := hp
  have hlm : p.length ≤ 9223372036854775807 := by unfold maxLen at hpl; omega
  have hb0 : Box ((w.alloc (.cells #[.int .i64 k, .int .i64 n, .string s, .slice a' ts.length c'] 25)).alloc (.cells #[.int .i64 0, .int .i64 0, .string ⟨#[]⟩, .slice none 0 0] 25)) w.heap.size #[.int .i64 k, .int .i64 n, .string s, .slice a' ts.length c'] 25 := (Box.at rfl).alloc _
  have hb1 : Box ((w.alloc (.cells #[.int .i64 k, .int .i64 n, .string s, .slice a' ts.length c'] 25)).alloc (.cells #[.int .i64 0, .int .i64 0, .string ⟨#[]⟩, .slice none 0 0] 25)) (w.heap.size + 1) #[.int .i64 0, .int .i64 0, .string ⟨#[]⟩, .slice none 0 0] 25 := Box.at (by simp)
  have hB0 := below_a2 (Nat.le_refl w.heap.size) (.cells #[.int .i64 k, .int .i64 n, .string s, .slice a' ts.length c'] 25) (.cells #[.int .i64 0, .int .i64 0, .string ⟨#[]⟩, .slice none 0 0] 25)
  have hI0 : NdAt n₀ p (.node k n s ts) w 0 k n s ts a' c' ((w.alloc (.cells #[.int .i64 k, .int .i64 n, .string s, .slice a' ts.length c'] 25)).alloc (.cells #[.int .i64 0, .int .i64 0, .string ⟨#[]⟩, .slice none 0 0] 25)) := ⟨rfl, hb0, hb1, hT, hB0⟩
  have HI0 := Lib.hid hI0
  have HP := Lib.hid hpc
  clear hI0 hb0 hb1 hB0 hT hpc
  go_enter Tryd.func88, Tryd.ntmps88
  go_wp2_with fail
  go_loopw [6] (fun iv wr => ∃ (j : Nat) (k1 n1 : Int) (s1 : ByteArray) (l1 : List Tr) (a1 : Option Addr) (c1 : Nat), j ≤ p.length ∧ iv = .int .i64 j ∧ NdAt n₀ p (.node k n s ts) w j k1 n1 s1 l1 a1 c1 wr) (fun iv _ => p.length - (intOf iv).toNat)
  case atStart => exact ⟨0, _, _, _, _, _, _, Nat.zero_le _, by go_num, HI0.out⟩
  case round =>
    obtain ⟨j, k1, n1, s1, l1, a1, c1, hj, rfl, hA⟩ := hrel
    have HA := Lib.hid hA
    have q0 := hA.box.cell 0
    have q1 := hA.box.cell 1
    have q2 := hA.box.cell 2
    have q3 := hA.box.cell 3
    have u0 := hA.out.cell 0
    have u1 := hA.out.cell 1
    have u2 := hA.out.cell 2
    have u3 := hA.out.cell 3
    have hlt0 := hA.box.lt
    have hlt1 := hA.out.lt
    simp only [List.getElem?_toArray, List.getElem?_cons_succ, List.getElem?_cons_zero] at q0 q1 q2 q3 u0 u1 u2 u3
    obtain ⟨a3, c3, he, _, _, _, h4, h5, hL⟩ := hA.tree.open
    cases he
    have hm : l1.length ≤ maxLen := Nat.le_trans h4 h5
    have hm' : l1.length ≤ 9223372036854775807 := by unfold maxLen at hm; omega
    have HL := Lib.hid hL
    clear hA hL
    by_cases hlt : j < p.length
    · obtain ⟨b, off, rfl, hbl, hcells⟩ := HP.out (by omega)
      have hx := (Below.cell HA.out.below (p := ⟨b, off + j, none⟩) hbl).trans (hcells j hlt)
      have hst := nodT_step hlt (.node k1 n1 s1 l1)
      generalize p.getD j 0 = x at *
      have hbw : b < wr.heap.size := by omega
      have HST := Lib.hid (And.intro hst hcells)
      clear hst hcells
      by_cases hx0 : x < 0
      · have hk := kidT_neg (t := .node k1 n1 s1 l1) hx0
        have hnone : nodT p (.node k n s ts) = none := by rw [HA.out.eq, HST.out.1, hk]; rfl
        have HNN := Lib.hid hnone
        clear hnone
        go_wp2_with fail
        go_quiet (fail)
        have hN := HA.out.up (drewN_below wr nq)
        generalize wr.drewN nq = W2 at *
        have HN := Lib.hid hN
        clear hN q0 q1 q2 q3 u0 u1 u2 u3
        have u0 := HN.out.out.cell 0
        have u1 := HN.out.out.cell 1
        have u2 := HN.out.out.cell 2
        have u3 := HN.out.out.cell 3
        have g0 := HN.out.out.frozen 0
        have g1 := HN.out.out.frozen 1
        have g2 := HN.out.out.frozen 2
        have g3 := HN.out.out.frozen 3
        have l2 := HN.out.out.lt
        simp only [List.getElem?_toArray, List.getElem?_cons_succ, List.getElem?_cons_zero] at u0 u1 u2 u3
        have z := HN.out.out.four (.int .i64 0) (.int .i64 0) (.string ⟨#[]⟩) (.slice none 0 0)
        have zB := below_four HN.out.below (by omega) (.int .i64 0) (.int .i64 0) (.string ⟨#[]⟩) (.slice none 0 0) (B := w.heap.size + 1)
        have y0 := z.cell 0
        have y1 := z.cell 1
        have y2 := z.cell 2
        have y3 := z.cell 3
        go_wp2_with fail
        clear z u0 u1 u2 u3 g0 g1 g2 g3
        generalize (((W2.setCell ⟨w.heap.size + 1, 0, none⟩ (.int .i64 0)).setCell ⟨w.heap.size + 1, 1, none⟩ (.int .i64 0)).setCell ⟨w.heap.size + 1, 2, none⟩ (.string ⟨#[]⟩)).setCell ⟨w.heap.size + 1, 3, none⟩ (.slice none 0 0) = FW at *
        simp at y0 y1 y2 y3
        exact bodyPost_ret (v := .tuple #[.agg #[.int .i64 0, .int .i64 0, .string ⟨#[]⟩, .slice none 0 0], .bool false]) (by simp [results, Tryd.results88, go_sem, y0, y1, y2, y3]) rfl (NdPost.no HNN.out zB)
      · have hx1 : decide (x < 0) = false := by simpa using hx0
        by_cases hx2 : (l1.length : Int) ≤ x
        · have hk := kidT_over (t := .node k1 n1 s1 l1) hx2
          have hx3 : decide (x ≥ (l1.length : Int)) = true := by simpa using hx2
          have hnone : nodT p (.node k n s ts) = none := by rw [HA.out.eq, HST.out.1, hk]; rfl
          have HNN := Lib.hid hnone
          clear hnone
          go_wp2_with fail
          go_quiet (fail)
          have hN := HA.out.up (drewN_below wr nq)
          generalize wr.drewN nq = W2 at *
          have HN := Lib.hid hN
          clear hN q0 q1 q2 q3 u0 u1 u2 u3
          have u0 := HN.out.out.cell 0
          have u1 := HN.out.out.cell 1
          have u2 := HN.out.out.cell 2
          have u3 := HN.out.out.cell 3
          have g0 := HN.out.out.frozen 0
          have g1 := HN.out.out.frozen 1
          have g2 := HN.out.out.frozen 2
          have g3 := HN.out.out.frozen 3
          have l2 := HN.out.out.lt
          simp only [List.getElem?_toArray, List.getElem?_cons_succ, List.getElem?_cons_zero] at u0 u1 u2 u3
          have z := HN.out.out.four (.int .i64 0) (.int .i64 0) (.string ⟨#[]⟩) (.slice none 0 0)
          have zB := below_four HN.out.below (by omega) (.int .i64 0) (.int .i64 0) (.string ⟨#[]⟩) (.slice none 0 0) (B := w.heap.size + 1)
          have y0 := z.cell 0
          have y1 := z.cell 1
          have y2 := z.cell 2
          have y3 := z.cell 3
          go_wp2_with fail
          clear z u0 u1 u2 u3 g0 g1 g2 g3
          generalize (((W2.setCell ⟨w.heap.size + 1, 0, none⟩ (.int .i64 0)).setCell ⟨w.heap.size + 1, 1, none⟩ (.int .i64 0)).setCell ⟨w.heap.size + 1, 2, none⟩ (.string ⟨#[]⟩)).setCell ⟨w.heap.size + 1, 3, none⟩ (.slice none 0 0) = FW at *
          simp at y0 y1 y2 y3
          exact bodyPost_ret (v := .tuple #[.agg #[.int .i64 0, .int .i64 0, .string ⟨#[]⟩, .slice none 0 0], .bool false]) (by simp [results, Tryd.results88, go_sem, y0, y1, y2, y3]) rfl (NdPost.no HNN.out zB)
        · have hx3 : decide (x ≥ (l1.length : Int)) = false := by simpa using hx2
          go_wp2_with fail
          go_quiet (fail)
          obtain ⟨q, rfl⟩ : ∃ q : Nat, x = (q : Int) := ⟨x.toNat, by omega⟩
          have hq : q < l1.length := by omega
          have hN := HA.out.up (drewN_below wr nq)
          have hx' := (Below.cell hN.below (p := ⟨b, off + j, none⟩) hbl).trans (HST.out.2 j hlt)
          have hxg := (Below.cell HA.out.below (p := ⟨b, off + j, none⟩) hbl).trans (HST.out.2 j hlt)
          rw [← hxg, hx] at hx'
          obtain ⟨b2, off2, rfl, hb2⟩ := HL.out.addr (by omega)
          obtain ⟨tk, tn, tss, tl, ta, tc, te, d0, d1, d2, d3, ht⟩ := HL.out.node' hb2 (hN.below.mono hn₀) q hq
          have hk := kidT_some (t := .node k1 n1 s1 l1) (i := (q : Int)) (by omega) (by simpa [kidsT] using hq)
          generalize wr.drewN nq = W2 at *
          have hsz := hN.below.size
          have HN := Lib.hid hN
          have HT := Lib.hid (And.intro te (And.intro ht hk))
          clear hN te ht hk q0 q1 q2 q3 u0 u1 u2 u3 hx hxg
          have q0 := HN.out.box.cell 0
          have q1 := HN.out.box.cell 1
          have q2 := HN.out.box.cell 2
          have q3 := HN.out.box.cell 3
          have g0 := HN.out.box.frozen 0
          have g1 := HN.out.box.frozen 1
          have g2 := HN.out.box.frozen 2
          have g3 := HN.out.box.frozen 3
          have l2 := HN.out.box.lt
          simp only [List.getElem?_toArray, List.getElem?_cons_succ, List.getElem?_cons_zero] at q0 q1 q2 q3
          go_wp2_with fail
          go_region
          have hI : NdAt n₀ p (.node k n s ts) w (j + 1) tk tn tss tl ta tc (((((W2.setCell ⟨w.heap.size, 0, none⟩ (.int .i64 tk)).setCell ⟨w.heap.size, 1, none⟩ (.int .i64 tn)).setCell ⟨w.heap.size, 2, none⟩ (.string tss)).setCell ⟨w.heap.size, 3, none⟩ (.slice ta tl.length tc)).drew) := by
            refine ⟨?_, HN.out.box.four _ _ _ _, (((HN.out.out.other (by omega) 0 _).other (by omega) 1 _).other (by omega) 2 _).other (by omega) 3 _, ?_, (below_four HN.out.below (Nat.le_refl _) _ _ _ _).drew⟩
            · rw [HA.out.eq, HST.out.1, HT.out.2.2, ← HT.out.1]; rfl
            · rw [← HT.out.1]; exact HT.out.2.1
          have HI := Lib.hid hI
          clear hI q0 q1 q2 q3 g0 g1 g2 g3 d0 d1 d2 d3 hx'
          go_wp2_with fail
          exact ⟨⟨j + 1, _, _, _, _, _, _, by omega, by go_num, HI.out⟩, by simp [intOf]; omega⟩
    · obtain rfl : j = p.length := by omega
      have hn : nodT p (.node k n s ts) = some (.node k1 n1 s1 l1) := by rw [HA.out.eq, List.drop_length]; rfl
      have HNN := Lib.hid hn
      have HN := HA
      clear hn u0 u1 u2 u3
      have u0 := HN.out.out.cell 0
      have u1 := HN.out.out.cell 1
      have u2 := HN.out.out.cell 2
      have u3 := HN.out.out.cell 3
      have g0 := HN.out.out.frozen 0
      have g1 := HN.out.out.frozen 1
      have g2 := HN.out.out.frozen 2
      have g3 := HN.out.out.frozen 3
      have l2 := HN.out.out.lt
      simp only [List.getElem?_toArray, List.getElem?_cons_succ, List.getElem?_cons_zero] at u0 u1 u2 u3
      have z := HN.out.out.four (.int .i64 k1) (.int .i64 n1) (.string s1) (.slice a1 l1.length c1)
      have zB := below_four HN.out.below (by omega) (.int .i64 k1) (.int .i64 n1) (.string s1) (.slice a1 l1.length c1) (B := w.heap.size + 1)
      have y0 := z.cell 0
      have y1 := z.cell 1
      have y2 := z.cell 2
      have y3 := z.cell 3
      go_wp2_with fail
      clear z u0 u1 u2 u3 g0 g1 g2 g3
      generalize (((wr.setCell ⟨w.heap.size + 1, 0, none⟩ (.int .i64 k1)).setCell ⟨w.heap.size + 1, 1, none⟩ (.int .i64 n1)).setCell ⟨w.heap.size + 1, 2, none⟩ (.string s1)).setCell ⟨w.heap.size + 1, 3, none⟩ (.slice a1 l1.length c1) = FW at *
      simp at y0 y1 y2 y3
      exact bodyPost_ret (v := .tuple #[.agg #[.int .i64 k1, .int .i64 n1, .string s1, .slice a1 l1.length c1], .bool true]) (by simp [results, Tryd.results88, go_sem, y0, y1, y2, y3]) rfl (NdPost.yes HNN.out (HA.out.tree.below (zB.mono hn₀)) zB)

end Go.Proofs.YtdigiaigbcfccaaDoor
