/- The second reading of Shift. -/
import Derived.Test.YtckoecmdaefoiaaDoorRowG
import Derived.Test.YtckoecmdaefoiaaDoorSbs
namespace Go.Proofs.YtckoecmdaefoiaaDoor
open Go.RowKit Go

def ShPost (n : Int) (T : Tr) (w : World) (e : Ending) (w' : World) : Prop := ∃ k x s a m c, e = .returned (.tuple #[.agg #[.int .i64 k, .int .i64 x, .string s, .slice a m c], .bool (shRT n T)]) ∧ (shRT n T = true → IsP (New w.heap.size w') w' (renT (shF n) T) (.agg #[.int .i64 k, .int .i64 x, .string s, .slice a m c])) ∧ Below w.heap.size w w'
structure ShAt (w : World) (n k x : Int) (s : ByteArray) (l : List Tr) (a : Option Addr) (c j : Nat) (ov : Value) (xs : List Value) (wr : World) : Prop where
  b0 : Box wr w.heap.size #[.int .i64 k, .int .i64 x, .string s, .slice a l.length c] 25
  b1 : Box wr (w.heap.size + 1) #[.int .i64 0, .int .i64 0, .string ⟨#[]⟩, .slice none 0 0] 25
  b2 : Box wr (w.heap.size + 1 + 1) #[.int .i64 k, .int .i64 x, .string s, ov] 25
  row : RowG none 0 (w.heap.size + 3) w ((l.take j).map (renT (shF n))) ov xs wr
  ok : shRL n (l.take j) = true
theorem ShAt.keep {w wr W : World} {n k x : Int} {s : ByteArray} {l : List Tr} {a : Option Addr} {c j : Nat} {ov : Value} {xs : List Value} (h : ShAt w n k x s l a c j ov xs wr) (B : Below wr.heap.size wr W) : ShAt w n k x s l a c j ov xs W :=
  ⟨Box.keep B h.b0, Box.keep B h.b1, Box.keep B h.b2, h.row.keep B, h.ok⟩
theorem none_below {w W : World} (h : w.grownBy W none) : Below w.heap.size w W := grown_below' h (Nat.le_refl _) (fun g e => by cases e)
theorem ShPost.bad {n : Int} {T : Tr} {w w' : World} {k x : Int} {s : ByteArray} {a : Option Addr} {m c : Nat} (h : shRT n T = false) (hB : Below w.heap.size w w') : ShPost n T w (.returned (.tuple #[.agg #[.int .i64 k, .int .i64 x, .string s, .slice a m c], .bool false])) w' :=
  ⟨k, x, s, a, m, c, by rw [h], fun h' => (by rw [h] at h'; cases h'), hB⟩
theorem ShPost.good {n : Int} {T : Tr} {w w' : World} {k x : Int} {s : ByteArray} {a : Option Addr} {m c : Nat} (h : shRT n T = true) (hP : IsP (New w.heap.size w') w' (renT (shF n) T) (.agg #[.int .i64 k, .int .i64 x, .string s, .slice a m c])) (hB : Below w.heap.size w w') : ShPost n T w (.returned (.tuple #[.agg #[.int .i64 k, .int .i64 x, .string s, .slice a m c], .bool true])) w' :=
  ⟨k, x, s, a, m, c, by rw [h], fun _ => hP, hB⟩

set_option maxRecDepth 100000 in
set_option maxHeartbeats 4000000 in
theorem shifted_any (n : Int) (hn : okI n) (T : Tr) : ∀ (v : Value) (w : World), IsT w.heap.size w T v → T.good = true → T.size ≤ 1000000 →
    Calls Tryd.prog 98 #[v, .int .i64 n] w (ShPost n T w) := by
  induction T using Tr.ind with
  | h k x s l ih =>
  intro v w hT hg hsz
  obtain ⟨a, c, rfl, h1, h2, h3, h4, h5, hl⟩ := hT.open
  obtain ⟨hn1, hn2⟩ := hn
  have hlm : l.length ≤ 9223372036854775807 := by unfold maxLen at h5; omega
  by_cases hk : k = 1
  · subst hk
    obtain ⟨rfl, rfl, hx0, hx1⟩ := good_var hg
    simp only [List.length_nil]
    by_cases hok : n ≤ 100000 ∧ -100000 ≤ n ∧ 0 ≤ x + n ∧ x + n < 100000
    · obtain ⟨o1, o2, o3, o4⟩ := hok
      have HR : Hid (shRT n (.node 1 x emp []) = true ∧ shF n x = x + n) := ⟨by simp [shRT, shRL, o1, o2, o3, o4], shF_eq (by omega) (by omega) hx0 hx1⟩
      clear ih hT hg hl h1 h3
      go_enter Tryd.func98, Tryd.ntmps98
      go_wp2_with fail
      refine wp_loop_rounds 1 ?_
      rw [rounds_succ]
      go_wp2_with fail
      exact bodyPost_ret (v := .tuple #[.agg #[.int .i64 1, .int .i64 (x + n), .string emp, .slice none 0 0], .bool true]) (by simp [results, Tryd.results98, go_sem]) rfl (ShPost.good HR.out.1 (by rw [renT, if_pos rfl, HR.out.2, renL]; exact IsP.mk (l := []) (by unfold okI; omega) (by unfold okI; omega) (by decide) (Nat.le_refl _) (by decide) IsPL.nil) (below_a3 (Nat.le_refl _) _ _ _))
    · have HR : Hid (shRT n (.node 1 x emp []) = false) := by
        simp only [Hid, shRT, shRL, decide_true, Bool.not_true, Bool.false_or, Bool.and_true]
        rw [Bool.eq_false_iff]
        intro h
        simp only [Bool.and_eq_true, decide_eq_true_eq] at h
        exact hok ⟨h.1.1.1, h.1.1.2, h.1.2, h.2⟩
      clear ih hT hg hl h1 h3
      have hc : 100000 < n ∨ (n ≤ 100000 ∧ n < -100000) ∨ (n ≤ 100000 ∧ -100000 ≤ n ∧ x + n < 0) ∨ (n ≤ 100000 ∧ -100000 ≤ n ∧ 0 ≤ x + n ∧ 100000 ≤ x + n) := by omega
      clear hok
      rcases hc with hc | ⟨hc, hd⟩ | ⟨hc, hd, he⟩ | ⟨hc, hd, he, hf⟩
      all_goals
        go_enter Tryd.func98, Tryd.ntmps98
        go_wp2_with fail
        exact bodyPost_ret (v := .tuple #[.agg #[.int .i64 1, .int .i64 x, .string emp, .slice a 0 c], .bool false]) (by simp [results, Tryd.results98, go_sem]) rfl (ShPost.bad HR.out (below_a3 (Nat.le_refl _) _ _ _))
  · have hk' : (k == 1) = false := by simpa using hk
    have HS : Hid (shRT n (.node k x s l) = shRL n l) := by rw [Hid, shRT]; simp [hk]
    have HRN : Hid (renT (shF n) (.node k x s l) = .node k x s (l.map (renT (shF n)))) := by rw [Hid, renT, renL_map]; simp [hk]
    have hgl : goodL l = true := by simp only [Tr.good, Bool.and_eq_true] at hg; exact hg.2
    have HGL := Lib.hid hgl
    have HI := Lib.hid ih
    have HL := Lib.hid hl
    have HOK := Lib.hid (And.intro h1 (And.intro h2 h3))
    simp only [Tr.size] at hsz
    have hln := length_le_sizeL l
    clear hgl ih hl hT hg h1 h3 hk
    go_enter Tryd.func98, Tryd.ntmps98
    go_wp2_with fail
    have hS0 : ShAt w n k x s l a c 0 (.slice none 0 0) [] (((w.alloc (.cells #[.int .i64 k, .int .i64 x, .string s, .slice a l.length c] 25)).alloc (.cells #[.int .i64 0, .int .i64 0, .string ⟨#[]⟩, .slice none 0 0] 25)).alloc (.cells #[.int .i64 k, .int .i64 x, .string s, .slice none 0 0] 25)) :=
      ⟨((Box.at rfl).alloc _).alloc _, (Box.at (by simp)).alloc _, Box.at (by simp), RowG.nil (grown_b none (below_a3 (Nat.le_refl _) _ _ _)) (Nat.zero_le _) (fun p e => by cases e) (by omega) (by simp), rfl⟩
    obtain ⟨i0, hi, hz0, hz1, hz2⟩ := info_parts infoTerm
    go_loopw [7] (fun i wr => ∃ (j : Nat) (ov : Value) (xs : List Value), j ≤ l.length ∧ i = .int .i64 j ∧ ShAt w n k x s l a c j ov xs wr) (fun i _ => l.length - (intOf i).toNat)
    case atStart => exact ⟨0, _, _, Nat.zero_le _, rfl, hS0⟩
    case round =>
      clear hS0
      obtain ⟨j, ov, xs, hj, rfl, hS⟩ := hrel
      have HA := Lib.hid hS
      have hBr := none_below hS.row.grown
      have c3 := hS.b0.cell 3
      have lb0 := hS.b0.lt
      simp only [List.getElem?_toArray, List.getElem?_cons_succ, List.getElem?_cons_zero] at c3
      clear hS
      by_cases hlt : j < l.length
      · obtain ⟨b, off, rfl, hbb⟩ := HL.out.addr (by omega)
        obtain ⟨tk, tn, ts, tl, ta, tc, te, d0, d1, d2, d3, ht⟩ := HL.out.node' hbb hBr j hlt
        have hbw : b < wr.heap.size := by have := hBr.size; omega
        have hcall := HI.out l[j] (List.getElem_mem hlt) _ wr (ht.up hBr hBr.size) (goodL_mem HGL.out (List.getElem_mem hlt)) (by have := size_mem (List.getElem_mem hlt); omega)
        have HC := Lib.hid hcall
        clear te ht hcall hBr
        go_wp2_with fail
        refine HC.out.mono ?_
        rintro e W1 ⟨yk, yx, ys, ya, ym, yc, rfl, hP, B⟩
        have hA1 := HA.out.keep B
        have hsz1 := B.size
        clear HC B d0 d1 d2 d3 c3
        have hA2 := hA1.keep (below_a1 (Nat.le_refl W1.heap.size) (.cells #[.int .i64 yk, .int .i64 yx, .string ys, .slice ya ym yc] 25))
        have y0 : Box (W1.alloc (.cells #[.int .i64 yk, .int .i64 yx, .string ys, .slice ya ym yc] 25)) W1.heap.size #[.int .i64 yk, .int .i64 yx, .string ys, .slice ya ym yc] 25 := Box.at rfl
        cases hr : shRT n l[j] with
        | false =>
          have HF : Hid (shRT n (.node k x s l) = false) := by rw [Hid, HS.out]; exact shRL_false (List.getElem_mem hlt) hr
          clear hr hP y0
          have q0 := hA2.b0.cell 0
          have q1 := hA2.b0.cell 1
          have q2 := hA2.b0.cell 2
          have q3 := hA2.b0.cell 3
          have u0 := hA2.b1.cell 0
          have u1 := hA2.b1.cell 1
          have u2 := hA2.b1.cell 2
          have u3 := hA2.b1.cell 3
          have g0 := hA2.b1.frozen 0
          have g1 := hA2.b1.frozen 1
          have g2 := hA2.b1.frozen 2
          have g3 := hA2.b1.frozen 3
          have l0 := hA2.b0.lt
          have l1 := hA2.b1.lt
          simp only [List.getElem?_toArray, List.getElem?_cons_succ, List.getElem?_cons_zero] at q0 q1 q2 q3 u0 u1 u2 u3
          have HA2 := Lib.hid hA2
          clear hA1 hA2
          go_wp2_with fail
          have z := HA2.out.b1.four (.int .i64 k) (.int .i64 x) (.string s) (.slice (some ⟨b, off, none⟩) l.length c)
          have zB := below_four (none_below HA2.out.row.grown) (B := w.heap.size + 1) (by omega) (.int .i64 k) (.int .i64 x) (.string s) (.slice (some ⟨b, off, none⟩) l.length c)
          have y0 := z.cell 0
          have y1 := z.cell 1
          have y2 := z.cell 2
          have y3 := z.cell 3
          clear z q0 q1 q2 q3 u0 u1 u2 u3 g0 g1 g2 g3
          generalize (((((W1.alloc (.cells #[.int .i64 yk, .int .i64 yx, .string ys, .slice ya ym yc] 25)).setCell ⟨w.heap.size + 1, 0, none⟩ (.int .i64 k)).setCell ⟨w.heap.size + 1, 1, none⟩ (.int .i64 x)).setCell ⟨w.heap.size + 1, 2, none⟩ (.string s)).setCell ⟨w.heap.size + 1, 3, none⟩ (.slice (some ⟨b, off, none⟩) l.length c)) = FW at *
          simp at y0 y1 y2 y3
          exact bodyPost_ret (v := .tuple #[.agg #[.int .i64 k, .int .i64 x, .string s, .slice (some ⟨b, off, none⟩) l.length c], .bool false]) (by simp [results, Tryd.results98, go_sem, y0, y1, y2, y3]) rfl (ShPost.bad HF.out zB)
        | true =>
          have hPo : IsP (OB 0 (w.heap.size + 3) ov (W1.alloc (.cells #[.int .i64 yk, .int .i64 yx, .string ys, .slice ya ym yc] 25))) (W1.alloc (.cells #[.int .i64 yk, .int .i64 yx, .string ys, .slice ya ym yc] 25)) (renT (shF n) l[j]) (.agg #[.int .i64 yk, .int .i64 yx, .string ys, .slice ya ym yc]) := OB.from HA.out.row (Nat.le_refl _) (IsP.map (fun b hb => ⟨⟨.inr hb.1, hb.2⟩, rfl⟩) _ _ (New.below (hP hr) (below_a1 (Nat.le_refl _) _) (Nat.le_refl _)))
          have hok : shRL n (l.take (j + 1)) = true := by rw [shRL_take hlt, HA.out.ok, hr]; rfl
          have p0 := y0.cell 0
          have p1 := y0.cell 1
          have p2 := y0.cell 2
          have p3 := y0.cell 3
          have c3 := hA2.b2.cell 3
          have l2 := hA2.b2.lt
          simp only [List.getElem?_toArray, List.getElem?_cons_succ, List.getElem?_cons_zero] at p0 p1 p2 p3 c3
          have hlen : ((l.take j).map (renT (shF n))).length = j := by simp; omega
          have hown := hA2.row.own
          rw [hlen] at hown
          have hlo := hA2.row.hlo
          have HX := Lib.hid (And.intro hA2 (And.intro hPo (And.intro hok hlen)))
          clear hA1 hA2 hPo hok hlen hr hP y0
          go_wp2_with (at_builtin; refine wpList_append_where rfl _ _ 22 rfl (w.heap.size + 3) 25 i0 _ 4 56 Tryd.underlying22 hi hz0 hz1 hz2 rfl (by decide) _ _ _ rfl (World.ownsRow.alloc hown _) ⟨W1.heap.size + 1, 0, none⟩ 1 1 [.int .i64 yk, .int .i64 yx, .string ys, .slice ya ym yc] rfl rfl (cells_of_box (Box.at (by simp))) (one_cells _ _ _ _ _ _) (by unfold maxLen; omega) (by omega) (by simp; simp at hlo; omega) ?_)
          intro v2 w3 hown3 hgrow hwh
          obtain ⟨hA2, hPo, hok, hlen⟩ := HX.out
          have hRn := hA2.row.push hPo (by rw [hlen]; exact hown3) hgrow (fun b h => (hwh b h).imp id (fun h => by first | omega | (simp; omega) | (simp at h ⊢; omega)))
          rw [← List.map_singleton, ← List.map_append, ← List.take_succ_eq_append_getElem hlt] at hRn
          obtain ⟨g2, cap2, hv2⟩ := ownsRow_succ hown3
          have hne : ∀ B, B < w.heap.size + 3 → some B ≠ ov.ownBlock := fun B hB e => by have := (hA2.row.block e.symm).1; omega
          have n0 : Box w3 w.heap.size #[.int .i64 k, .int .i64 x, .string s, .slice (some ⟨b, off, none⟩) l.length c] 25 := (hgrow.block _ (hA2.b0.alloc _).lt (hne _ (by omega))).trans (hA2.b0.alloc _)
          have n1 : Box w3 (w.heap.size + 1) #[.int .i64 0, .int .i64 0, .string ⟨#[]⟩, .slice none 0 0] 25 := (hgrow.block _ (hA2.b1.alloc _).lt (hne _ (by omega))).trans (hA2.b1.alloc _)
          have n2 : Box w3 (w.heap.size + 1 + 1) #[.int .i64 k, .int .i64 x, .string s, ov] 25 := (hgrow.block _ (hA2.b2.alloc _).lt (hne _ (by omega))).trans (hA2.b2.alloc _)
          have hAn : ShAt w n k x s l (some ⟨b, off, none⟩) c (j + 1) v2 _ (w3.setCell ⟨w.heap.size + 1 + 1, 3, none⟩ v2) := ⟨n0.other (by omega) 3 _, n1.other (by omega) 3 _, by simpa using n2.set 3 v2, hRn.set (by omega) (by omega) 3 v2, hok⟩
          have HN := Lib.hid hAn
          have f3 := n2.frozen 3
          have e3 := n2.cell 3
          have ln2 := n2.lt
          simp only [List.getElem?_toArray, List.getElem?_cons_succ, List.getElem?_cons_zero] at e3
          clear hAn hRn hown3 hgrow hwh hown hA2 hPo hok hlen hne n0 n1 n2 p0 p1 p2 p3 c3
          subst hv2
          go_wp2_with fail
          go_roundw
          case rel => exact ⟨j + 1, _, _, hlt, by go_num, HN.out⟩
          case measure => simp [intOf]; omega
      · have hjl : j = l.length := by omega
        have hA := HA.out
        have et : l.take j = l := List.take_of_length_le (by omega)
        have hrow := hA.row
        have hok := hA.ok
        rw [et] at hrow hok
        obtain ⟨oa, oc, hov, ho1, ho2, ho3⟩ := hrow.done
        rw [List.length_map] at hov ho1
        subst hov
        have q0 := hA.b2.cell 0
        have q1 := hA.b2.cell 1
        have q2 := hA.b2.cell 2
        have q3 := hA.b2.cell 3
        have u0 := hA.b1.cell 0
        have u1 := hA.b1.cell 1
        have u2 := hA.b1.cell 2
        have u3 := hA.b1.cell 3
        have g0 := hA.b1.frozen 0
        have g1 := hA.b1.frozen 1
        have g2 := hA.b1.frozen 2
        have g3 := hA.b1.frozen 3
        have l0 := hA.b2.lt
        have l1 := hA.b1.lt
        simp only [List.getElem?_toArray, List.getElem?_cons_succ, List.getElem?_cons_zero] at q0 q1 q2 q3 u0 u1 u2 u3
        have HX := Lib.hid (And.intro hok (And.intro ho1 (And.intro ho2 ho3)))
        clear hA hrow hok ho1 ho2 ho3 et hBr
        go_wp2_with fail
        have z := HA.out.b1.four (.int .i64 k) (.int .i64 x) (.string s) (.slice oa l.length oc)
        have zB := below_four (none_below HA.out.row.grown) (B := w.heap.size + 1) (by omega) (.int .i64 k) (.int .i64 x) (.string s) (.slice oa l.length oc)
        have y0 := z.cell 0
        have y1 := z.cell 1
        have y2 := z.cell 2
        have y3 := z.cell 3
        have zP := IsPL.map (q := New w.heap.size ((((wr.setCell ⟨w.heap.size + 1, 0, none⟩ (.int .i64 k)).setCell ⟨w.heap.size + 1, 1, none⟩ (.int .i64 x)).setCell ⟨w.heap.size + 1, 2, none⟩ (.string s)).setCell ⟨w.heap.size + 1, 3, none⟩ (.slice oa l.length oc))) (B := ((((wr.setCell ⟨w.heap.size + 1, 0, none⟩ (.int .i64 k)).setCell ⟨w.heap.size + 1, 1, none⟩ (.int .i64 x)).setCell ⟨w.heap.size + 1, 2, none⟩ (.string s)).setCell ⟨w.heap.size + 1, 3, none⟩ (.slice oa l.length oc))) (fun b hb => ⟨⟨by rcases hb.1 with h | h <;> omega, by simpa using hb.2⟩, heap_four (by rcases hb.1 with h | h <;> omega) _ _ _ _⟩) _ _ HX.out.2.2.2
        clear z q0 q1 q2 q3 u0 u1 u2 u3 g0 g1 g2 g3
        generalize ((((wr.setCell ⟨w.heap.size + 1, 0, none⟩ (.int .i64 k)).setCell ⟨w.heap.size + 1, 1, none⟩ (.int .i64 x)).setCell ⟨w.heap.size + 1, 2, none⟩ (.string s)).setCell ⟨w.heap.size + 1, 3, none⟩ (.slice oa l.length oc)) = FW at *
        simp at y0 y1 y2 y3
        exact bodyPost_ret (v := .tuple #[.agg #[.int .i64 k, .int .i64 x, .string s, .slice oa l.length oc], .bool true]) (by simp [results, Tryd.results98, go_sem, y0, y1, y2, y3]) rfl (ShPost.good (by rw [HS.out]; exact HX.out.1) (by rw [HRN.out, show l.length = (l.map (renT (shF n))).length by simp]; exact IsP.mk HOK.out.1 HOK.out.2.1 HOK.out.2.2 (by simpa using HX.out.2.1) HX.out.2.2.1 zP) zB)
end Go.Proofs.YtckoecmdaefoiaaDoor
