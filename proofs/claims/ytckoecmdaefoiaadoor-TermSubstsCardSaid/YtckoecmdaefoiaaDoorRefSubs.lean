/- The second readings of Shift and Subst. -/
import Derived.Test.YtckoecmdaefoiaaDoorRefShift
import Derived.Test.YtckoecmdaefoiaaDoorRefApply
namespace Go.Proofs.YtckoecmdaefoiaaDoor
open Go.RowKit Go

/-- A tree and an error are handed back. -/
def TrPost (X : Tr) (x : Int) (w : World) (e : Ending) (w' : World) : Prop := ∃ k n s a m c, e = .returned (.tuple #[.agg #[.int .i64 k, .int .i64 n, .string s, .slice a m c], .int .i64 x]) ∧ IsT w'.heap.size w' X (.agg #[.int .i64 k, .int .i64 n, .string s, .slice a m c]) ∧ Below w.heap.size w w'
theorem TrPost.mk {X : Tr} {x : Int} {w w' : World} {k n : Int} {s : ByteArray} {a : Option Addr} {m c : Nat} {X' : Tr} {x' : Int} (hX : X = X') (hx : x = x') (h : IsT w'.heap.size w' X' (.agg #[.int .i64 k, .int .i64 n, .string s, .slice a m c])) (hB : Below w.heap.size w w') : TrPost X x w (.returned (.tuple #[.agg #[.int .i64 k, .int .i64 n, .string s, .slice a m c], .int .i64 x'])) w' := by
  subst hX hx
  exact ⟨k, n, s, a, m, c, rfl, h, hB⟩
theorem zero_isT (n₀ : Nat) (W : World) : IsT n₀ W zeroTr (.agg #[.int .i64 0, .int .i64 0, .string ⟨#[]⟩, .slice none 0 0]) := IsP.toT (p := fun _ => False) (fun _ h => h.elim) _ _ (zero_isP _ _)

set_option maxRecDepth 100000 in
set_option maxHeartbeats 4000000 in
theorem refShift_any (X : Tr) (n : Int) (hn : okI n) (v : Value) (w : World) (hT : IsT w.heap.size w X v) (hsz : X.size ≤ 1000000000) (hdp : X.deep ≤ 1000000000) :
    Calls Tryd.prog 41 #[v, .int .i64 n] w (TrPost (shV n X) (shE n X) w) := by
  obtain ⟨k, x, s, a, m, c, rfl⟩ := (IsT.toP _ _ hT).form
  have b0 : Box ((w.alloc (.cells #[.int .i64 k, .int .i64 x, .string s, .slice a m c] 25)).alloc (.cells #[.int .i64 0, .int .i64 0, .string ⟨#[]⟩, .slice none 0 0] 25)) w.heap.size #[.int .i64 k, .int .i64 x, .string s, .slice a m c] 25 := (Box.at rfl).alloc _
  have b1 : Box ((w.alloc (.cells #[.int .i64 k, .int .i64 x, .string s, .slice a m c] 25)).alloc (.cells #[.int .i64 0, .int .i64 0, .string ⟨#[]⟩, .slice none 0 0] 25)) (w.heap.size + 1) #[.int .i64 0, .int .i64 0, .string ⟨#[]⟩, .slice none 0 0] 25 := Box.at (by simp)
  have hb := below_a2 (Nat.le_refl w.heap.size) (.cells #[.int .i64 k, .int .i64 x, .string s, .slice a m c] 25) (.cells #[.int .i64 0, .int .i64 0, .string ⟨#[]⟩, .slice none 0 0] 25)
  have hT0 := Lib.hid (hT.up hb hb.size)
  clear hT
  go_enter Tryd.func41, Tryd.ntmps41
  go_wp2_with fail
  refine (refCheck_any X _ _ hT0.out hsz hdp).mono ?_
  rintro e W1 ⟨rfl, B⟩
  replace b0 := Box.keep B b0
  replace b1 := Box.keep B b1
  have hB1 := hb.trans (B.mono hb.size)
  have hT1 := Lib.hid (hT0.out.up B B.size)
  have BC := Lib.hid B
  clear B hb hT0
  have q0 := b0.cell 0
  have q1 := b0.cell 1
  have q2 := b0.cell 2
  have q3 := b0.cell 3
  have u0 := b1.cell 0
  have u1 := b1.cell 1
  have u2 := b1.cell 2
  have u3 := b1.cell 3
  have g0 := b1.frozen 0
  have g1 := b1.frozen 1
  have g2 := b1.frozen 2
  have g3 := b1.frozen 3
  have l0 := b0.lt
  have l1 := b1.lt
  simp only [List.getElem?_toArray, List.getElem?_cons_succ, List.getElem?_cons_zero] at q0 q1 q2 q3 u0 u1 u2 u3
  cases hx : isB X with
  | false =>
    rw [show errI false = 3 from rfl]
    have hE : Hid (shE n X = 3 ∧ shV n X = zeroTr) := by rw [Hid, shE, shV, hx]; exact ⟨rfl, rfl⟩
    clear hx
    go_wp2_with fail
    have z := b1.four (.int .i64 0) (.int .i64 0) (.string ⟨#[]⟩) (.slice none 0 0)
    have zB := below_four hB1 (B := w.heap.size + 1) (by omega) (.int .i64 0) (.int .i64 0) (.string ⟨#[]⟩) (.slice none 0 0)
    clear q0 q1 q2 q3 u0 u1 u2 u3 g0 g1 g2 g3
    have w0 := z.cell 0
    have w1 := z.cell 1
    have w2 := z.cell 2
    have w3 := z.cell 3
    clear z
    generalize ((((W1.setCell ⟨w.heap.size + 1, 0, none⟩ (.int .i64 0)).setCell ⟨w.heap.size + 1, 1, none⟩ (.int .i64 0)).setCell ⟨w.heap.size + 1, 2, none⟩ (.string ⟨#[]⟩)).setCell ⟨w.heap.size + 1, 3, none⟩ (.slice none 0 0)) = FW at *
    simp at w0 w1 w2 w3
    exact bodyPost_ret (v := .tuple #[.agg #[.int .i64 0, .int .i64 0, .string ⟨#[]⟩, .slice none 0 0], .int .i64 3]) (by simp [results, Tryd.results41, go_sem, w0, w1, w2, w3]) rfl (TrPost.mk hE.out.2 hE.out.1 (zero_isT _ _) zB)
  | true =>
    rw [show errI true = 0 from rfl]
    have hg := (isB_is hx).1
    have hrs := shR_ok (n := n) hg
    have HX := Lib.hid (And.intro hx hrs)
    have hs := shifted_any n hn X _ W1 hT1.out hg (by have := (isB_size hx).1; omega)
    have HS := Lib.hid hs
    clear hx hg hrs hs
    go_wp2_with fail
    refine HS.out.mono ?_
    rintro e W2 ⟨yk, yx, ys, ya, ym, yc, rfl, hP, B⟩
    rw [HX.out.2] at hP ⊢
    have hBY := B.trans (below_a1 B.size (.cells #[.int .i64 yk, .int .i64 yx, .string ys, .slice ya ym yc] 25))
    have b2 := Box.keep hBY b1
    have hB2 := hB1.trans (hBY.mono hB1.size)
    have y0 : Box (W2.alloc (.cells #[.int .i64 yk, .int .i64 yx, .string ys, .slice ya ym yc] 25)) W2.heap.size #[.int .i64 yk, .int .i64 yx, .string ys, .slice ya ym yc] 25 := Box.at rfl
    clear q0 q1 q2 q3 u0 u1 u2 u3 g0 g1 g2 g3
    have p0 := y0.cell 0
    have p1 := y0.cell 1
    have p2 := y0.cell 2
    have p3 := y0.cell 3
    have u0 := b2.cell 0
    have u1 := b2.cell 1
    have u2 := b2.cell 2
    have u3 := b2.cell 3
    have g0 := b2.frozen 0
    have g1 := b2.frozen 1
    have g2 := b2.frozen 2
    have g3 := b2.frozen 3
    have l2 := b2.lt
    simp only [List.getElem?_toArray, List.getElem?_cons_succ, List.getElem?_cons_zero] at p0 p1 p2 p3 u0 u1 u2 u3
    cases hr : shOk n X with
    | false =>
      have hE : Hid (shE n X = 1 ∧ shV n X = zeroTr) := by rw [Hid, shE, shV, HX.out.1, hr]; exact ⟨rfl, rfl⟩
      clear hr hP
      go_wp2_with fail
      have z := b2.four (.int .i64 0) (.int .i64 0) (.string ⟨#[]⟩) (.slice none 0 0)
      have zB := below_four hB2 (B := w.heap.size + 1) (by omega) (.int .i64 0) (.int .i64 0) (.string ⟨#[]⟩) (.slice none 0 0)
      clear u0 u1 u2 u3 g0 g1 g2 g3 p0 p1 p2 p3 y0
      have w0 := z.cell 0
      have w1 := z.cell 1
      have w2 := z.cell 2
      have w3 := z.cell 3
      clear z
      generalize (((((W2.alloc (.cells #[.int .i64 yk, .int .i64 yx, .string ys, .slice ya ym yc] 25)).setCell ⟨w.heap.size + 1, 0, none⟩ (.int .i64 0)).setCell ⟨w.heap.size + 1, 1, none⟩ (.int .i64 0)).setCell ⟨w.heap.size + 1, 2, none⟩ (.string ⟨#[]⟩)).setCell ⟨w.heap.size + 1, 3, none⟩ (.slice none 0 0)) = FW at *
      simp at w0 w1 w2 w3
      exact bodyPost_ret (v := .tuple #[.agg #[.int .i64 0, .int .i64 0, .string ⟨#[]⟩, .slice none 0 0], .int .i64 1]) (by simp [results, Tryd.results41, go_sem, w0, w1, w2, w3]) rfl (TrPost.mk hE.out.2 hE.out.1 (zero_isT _ _) zB)
    | true =>
      have hE : Hid (shE n X = 0 ∧ shV n X = renT (shF n) X) := by rw [Hid, shE, shV, HX.out.1, hr]; exact ⟨rfl, rfl⟩
      have hP2 := hP hr
      have hs2 := BC.out.size
      have hs3 := l1
      clear hr hP
      go_wp2_with fail
      have z := b2.four (.int .i64 yk) (.int .i64 yx) (.string ys) (.slice ya ym yc)
      have zB := below_four hB2 (B := w.heap.size + 1) (by omega) (.int .i64 yk) (.int .i64 yx) (.string ys) (.slice ya ym yc)
      have zT := IsP.map (q := fun b => b < (((((W2.alloc (.cells #[.int .i64 yk, .int .i64 yx, .string ys, .slice ya ym yc] 25)).setCell ⟨w.heap.size + 1, 0, none⟩ (.int .i64 yk)).setCell ⟨w.heap.size + 1, 1, none⟩ (.int .i64 yx)).setCell ⟨w.heap.size + 1, 2, none⟩ (.string ys)).setCell ⟨w.heap.size + 1, 3, none⟩ (.slice ya ym yc)).heap.size) (B := (((((W2.alloc (.cells #[.int .i64 yk, .int .i64 yx, .string ys, .slice ya ym yc] 25)).setCell ⟨w.heap.size + 1, 0, none⟩ (.int .i64 yk)).setCell ⟨w.heap.size + 1, 1, none⟩ (.int .i64 yx)).setCell ⟨w.heap.size + 1, 2, none⟩ (.string ys)).setCell ⟨w.heap.size + 1, 3, none⟩ (.slice ya ym yc))) (fun b hb => ⟨by have := hb.2; simp; omega, (heap_four (by have := hb.1; omega) _ _ _ _).trans (Below.heap_alloc W2 _ b hb.2)⟩) _ _ hP2
      clear u0 u1 u2 u3 g0 g1 g2 g3 p0 p1 p2 p3 y0
      have w0 := z.cell 0
      have w1 := z.cell 1
      have w2 := z.cell 2
      have w3 := z.cell 3
      clear z
      generalize (((((W2.alloc (.cells #[.int .i64 yk, .int .i64 yx, .string ys, .slice ya ym yc] 25)).setCell ⟨w.heap.size + 1, 0, none⟩ (.int .i64 yk)).setCell ⟨w.heap.size + 1, 1, none⟩ (.int .i64 yx)).setCell ⟨w.heap.size + 1, 2, none⟩ (.string ys)).setCell ⟨w.heap.size + 1, 3, none⟩ (.slice ya ym yc)) = FW at *
      simp at w0 w1 w2 w3
      exact bodyPost_ret (v := .tuple #[.agg #[.int .i64 yk, .int .i64 yx, .string ys, .slice ya ym yc], .int .i64 0]) (by simp [results, Tryd.results41, go_sem, w0, w1, w2, w3]) rfl (TrPost.mk hE.out.2 hE.out.1 (IsP.toT (fun _ h => h) _ _ zT) zB)
/-- A tree apart from what was there, or of what was there, and an error. -/
def SbPost (n₀ : Nat) (X : Tr) (x : Int) (w : World) (e : Ending) (w' : World) : Prop := ∃ k n s a m c, e = .returned (.tuple #[.agg #[.int .i64 k, .int .i64 n, .string s, .slice a m c], .int .i64 x]) ∧ IsP (OA n₀ w.heap.size w') w' X (.agg #[.int .i64 k, .int .i64 n, .string s, .slice a m c]) ∧ Below w.heap.size w w'
theorem SbPost.mk {n₀ : Nat} {X : Tr} {x : Int} {w w' : World} {k n : Int} {s : ByteArray} {a : Option Addr} {m c : Nat} {X' : Tr} {x' : Int} (hX : X = X') (hx : x = x') (h : IsP (OA n₀ w.heap.size w') w' X' (.agg #[.int .i64 k, .int .i64 n, .string s, .slice a m c])) (hB : Below w.heap.size w w') : SbPost n₀ X x w (.returned (.tuple #[.agg #[.int .i64 k, .int .i64 n, .string s, .slice a m c], .int .i64 x'])) w' := by
  subst hX hx
  exact ⟨k, n, s, a, m, c, rfl, h, hB⟩

set_option maxRecDepth 100000 in
set_option maxHeartbeats 4000000 in
theorem refSubst_any (l : List Tr) (n₀ : Nat) (X : Tr) (v : Value) (al : Option Addr) (cl : Nat) (w : World) (hTn : IsT n₀ w X v) (hn : n₀ ≤ w.heap.size) (hl : IsL n₀ w l al) (hm : l.length ≤ 1000000) (hsz : X.size ≤ 1000000000) (hdp : X.deep ≤ 1000000000) (hsl : ∀ t, t ∈ l → t.size ≤ 1000000000 ∧ t.deep ≤ 1000000000) :
    Calls Tryd.prog 39 #[v, .slice al l.length cl] w (SbPost n₀ (substV X l) (substE X l) w) := by
  have hT := hTn.mono hn
  obtain ⟨k, x, s, a, m, c, rfl⟩ := (IsT.toP _ _ hT).form
  have b0 : Box ((w.alloc (.cells #[.int .i64 k, .int .i64 x, .string s, .slice a m c] 25)).alloc (.cells #[.int .i64 0, .int .i64 0, .string ⟨#[]⟩, .slice none 0 0] 25)) w.heap.size #[.int .i64 k, .int .i64 x, .string s, .slice a m c] 25 := (Box.at rfl).alloc _
  have b1 : Box ((w.alloc (.cells #[.int .i64 k, .int .i64 x, .string s, .slice a m c] 25)).alloc (.cells #[.int .i64 0, .int .i64 0, .string ⟨#[]⟩, .slice none 0 0] 25)) (w.heap.size + 1) #[.int .i64 0, .int .i64 0, .string ⟨#[]⟩, .slice none 0 0] 25 := Box.at (by simp)
  have hb := below_a2 (Nat.le_refl w.heap.size) (.cells #[.int .i64 k, .int .i64 x, .string s, .slice a m c] 25) (.cells #[.int .i64 0, .int .i64 0, .string ⟨#[]⟩, .slice none 0 0] 25)
  have hT0 := Lib.hid (hT.up hb hb.size)
  have HTN := Lib.hid hTn
  have HL := Lib.hid hl
  have HSL := Lib.hid hsl
  clear hTn hl hsl
  clear hT
  go_enter Tryd.func39, Tryd.ntmps39
  go_wp2_with fail
  refine (refCheck_any X _ _ hT0.out hsz hdp).mono ?_
  rintro e W1 ⟨rfl, B⟩
  replace b0 := Box.keep B b0
  replace b1 := Box.keep B b1
  have hB1 := hb.trans (B.mono hb.size)
  have hT1 := Lib.hid (hT0.out.up B B.size)
  have BC := Lib.hid B
  clear B hb hT0
  have q0 := b0.cell 0
  have q1 := b0.cell 1
  have q2 := b0.cell 2
  have q3 := b0.cell 3
  have u0 := b1.cell 0
  have u1 := b1.cell 1
  have u2 := b1.cell 2
  have u3 := b1.cell 3
  have g0 := b1.frozen 0
  have g1 := b1.frozen 1
  have g2 := b1.frozen 2
  have g3 := b1.frozen 3
  have l0 := b0.lt
  have l1 := b1.lt
  simp only [List.getElem?_toArray, List.getElem?_cons_succ, List.getElem?_cons_zero] at q0 q1 q2 q3 u0 u1 u2 u3
  have hw1 := hB1.size
  cases hx : isB X with
  | false =>
    rw [show errI false = 3 from rfl]
    have hE : Hid (substE X l = 3 ∧ substV X l = zeroTr) := by rw [Hid, substE, substV, hx]; exact ⟨rfl, rfl⟩
    clear hx
    go_wp2_with fail
    have z := b1.four (.int .i64 0) (.int .i64 0) (.string ⟨#[]⟩) (.slice none 0 0)
    have zB := below_four hB1 (B := w.heap.size + 1) (by omega) (.int .i64 0) (.int .i64 0) (.string ⟨#[]⟩) (.slice none 0 0)
    clear q0 q1 q2 q3 u0 u1 u2 u3 g0 g1 g2 g3
    have w0 := z.cell 0
    have w1 := z.cell 1
    have w2 := z.cell 2
    have w3 := z.cell 3
    clear z
    generalize ((((W1.setCell ⟨w.heap.size + 1, 0, none⟩ (.int .i64 0)).setCell ⟨w.heap.size + 1, 1, none⟩ (.int .i64 0)).setCell ⟨w.heap.size + 1, 2, none⟩ (.string ⟨#[]⟩)).setCell ⟨w.heap.size + 1, 3, none⟩ (.slice none 0 0)) = FW at *
    simp at w0 w1 w2 w3
    exact bodyPost_ret (v := .tuple #[.agg #[.int .i64 0, .int .i64 0, .string ⟨#[]⟩, .slice none 0 0], .int .i64 3]) (by simp [results, Tryd.results39, go_sem, w0, w1, w2, w3]) rfl (SbPost.mk hE.out.2 hE.out.1 (zero_isP _ _) zB)
  | true =>
    rw [show errI true = 0 from rfl]
    have HX := Lib.hid hx
    clear hx
    go_wp2_with fail
    refine (refIsSubst_any l al cl _ hm ((HL.out.below (hB1.mono hn)).mono (by omega)) HSL.out).mono ?_
    rintro e W2 ⟨rfl, B⟩
    clear q0 q1 q2 q3 u0 u1 u2 u3 g0 g1 g2 g3
    replace b0 := Box.keep B b0
    replace b1 := Box.keep B b1
    have hB2 := hB1.trans (B.mono hB1.size)
    have hw2 := hB2.size
    clear B
    have q0 := b0.cell 0
    have q1 := b0.cell 1
    have q2 := b0.cell 2
    have q3 := b0.cell 3
    have u0 := b1.cell 0
    have u1 := b1.cell 1
    have u2 := b1.cell 2
    have u3 := b1.cell 3
    have g0 := b1.frozen 0
    have g1 := b1.frozen 1
    have g2 := b1.frozen 2
    have g3 := b1.frozen 3
    have l0 := b0.lt
    have l1 := b1.lt
    simp only [List.getElem?_toArray, List.getElem?_cons_succ, List.getElem?_cons_zero] at q0 q1 q2 q3 u0 u1 u2 u3
    cases hs : subOkB l with
    | false =>
      have hE : Hid (substE X l = 1 ∧ substV X l = zeroTr) := by rw [Hid, substE, substV, HX.out, hs]; exact ⟨rfl, rfl⟩
      clear hs
      go_wp2_with fail
      have z := b1.four (.int .i64 0) (.int .i64 0) (.string ⟨#[]⟩) (.slice none 0 0)
      have zB := below_four hB2 (B := w.heap.size + 1) (by omega) (.int .i64 0) (.int .i64 0) (.string ⟨#[]⟩) (.slice none 0 0)
      clear q0 q1 q2 q3 u0 u1 u2 u3 g0 g1 g2 g3
      have w0 := z.cell 0
      have w1 := z.cell 1
      have w2 := z.cell 2
      have w3 := z.cell 3
      clear z
      generalize ((((W2.setCell ⟨w.heap.size + 1, 0, none⟩ (.int .i64 0)).setCell ⟨w.heap.size + 1, 1, none⟩ (.int .i64 0)).setCell ⟨w.heap.size + 1, 2, none⟩ (.string ⟨#[]⟩)).setCell ⟨w.heap.size + 1, 3, none⟩ (.slice none 0 0)) = FW at *
      simp at w0 w1 w2 w3
      exact bodyPost_ret (v := .tuple #[.agg #[.int .i64 0, .int .i64 0, .string ⟨#[]⟩, .slice none 0 0], .int .i64 1]) (by simp [results, Tryd.results39, go_sem, w0, w1, w2, w3]) rfl (SbPost.mk hE.out.2 hE.out.1 (zero_isP _ _) zB)
    | true =>
      have HS := Lib.hid hs
      clear hs
      go_wp2_with fail
      clear q0 q1 q2 q3 u0 u1 u2 u3 g0 g1 g2 g3
      have bL : Box (W2.alloc (.cells #[.int .i64 4000] 3)) W2.heap.size #[.int .i64 4000] 3 := Box.at rfl
      have hBL : Below W2.heap.size W2 (W2.alloc (.cells #[.int .i64 4000] 3)) := below_a1 (Nat.le_refl W2.heap.size) (.cells #[.int .i64 4000] 3)
      have hsL : (W2.alloc (.cells #[.int .i64 4000] 3)).heap.size = W2.heap.size + 1 := by simp
      generalize (W2.alloc (.cells #[.int .i64 4000] 3)) = WL at *
      have b1L := Box.keep hBL b1
      have hB3 := hB2.trans (hBL.mono hB2.size)
      have lw := b1.lt
      have hg := (isB_is HX.out).1
      have hap := apR_ok HS.out X 4000 600 hg (by omega)
      have hcall := refApply_any l HS.out n₀ W2.heap.size (by omega) al cl X _ 4000 600 WL hg (HTN.out.below (hB3.mono hn)) (by omega) (HL.out.below (hB3.mono hn)) bL (by omega) (by omega) (by omega) (by omega) (by have := (isB_size HX.out).1; omega)
      obtain ⟨rz, hrz⟩ : ∃ rz, apR l X 4000 600 = rz := ⟨_, rfl⟩
      rw [hrz] at hcall hap
      obtain ⟨r, z⟩ := rz
      have hfit : Hid (r = fitsB (subT l X)) := by
        rw [Hid, Bool.eq_iff_iff]
        refine hap.1.trans ?_
        simp only [fitsB, Bool.and_eq_true, decide_eq_true_eq]
        omega
      clear hap hrz hg bL b0 b1
      refine hcall.mono ?_
      rintro e W3 ⟨yk, yx, ys, ya, ym, yc, rfl, -, hgr, hP⟩
      clear hcall
      have b3 := (b1L.grown hgr (by omega)).alloc (.cells #[.int .i64 yk, .int .i64 yx, .string ys, .slice ya ym yc] 25)
      have hsz3 := hgr.size
      have hB4 := hB3.trans (grown_below' hgr (by omega) (fun g e => by cases e; omega) : Below w.heap.size WL W3)
      have hB5 := hB4.trans (below_a1 hB4.size (.cells #[.int .i64 yk, .int .i64 yx, .string ys, .slice ya ym yc] 25))
      have y0 : Box (W3.alloc (.cells #[.int .i64 yk, .int .i64 yx, .string ys, .slice ya ym yc] 25)) W3.heap.size #[.int .i64 yk, .int .i64 yx, .string ys, .slice ya ym yc] 25 := Box.at rfl
      have p0 := y0.cell 0
      have p1 := y0.cell 1
      have p2 := y0.cell 2
      have p3 := y0.cell 3
      have u0 := b3.cell 0
      have u1 := b3.cell 1
      have u2 := b3.cell 2
      have u3 := b3.cell 3
      have g0 := b3.frozen 0
      have g1 := b3.frozen 1
      have g2 := b3.frozen 2
      have g3 := b3.frozen 3
      have l3 := b3.lt
      simp only [List.getElem?_toArray, List.getElem?_cons_succ, List.getElem?_cons_zero] at p0 p1 p2 p3 u0 u1 u2 u3
      clear hgr b1L hBL
      cases r with
      | false =>
        have hE : Hid (substE X l = 2 ∧ substV X l = zeroTr) := by rw [Hid, substE, substV, HX.out, HS.out, ← hfit.out]; exact ⟨rfl, rfl⟩
        clear hP
        go_wp2_with fail
        have z := b3.four (.int .i64 0) (.int .i64 0) (.string ⟨#[]⟩) (.slice none 0 0)
        have zB := below_four hB5 (B := w.heap.size + 1) (by omega) (.int .i64 0) (.int .i64 0) (.string ⟨#[]⟩) (.slice none 0 0)
        clear u0 u1 u2 u3 g0 g1 g2 g3 p0 p1 p2 p3 y0
        have w0 := z.cell 0
        have w1 := z.cell 1
        have w2 := z.cell 2
        have w3 := z.cell 3
        clear z
        generalize (((((W3.alloc (.cells #[.int .i64 yk, .int .i64 yx, .string ys, .slice ya ym yc] 25)).setCell ⟨w.heap.size + 1, 0, none⟩ (.int .i64 0)).setCell ⟨w.heap.size + 1, 1, none⟩ (.int .i64 0)).setCell ⟨w.heap.size + 1, 2, none⟩ (.string ⟨#[]⟩)).setCell ⟨w.heap.size + 1, 3, none⟩ (.slice none 0 0)) = FW at *
        simp at w0 w1 w2 w3
        exact bodyPost_ret (v := .tuple #[.agg #[.int .i64 0, .int .i64 0, .string ⟨#[]⟩, .slice none 0 0], .int .i64 2]) (by simp [results, Tryd.results39, go_sem, w0, w1, w2, w3]) rfl (SbPost.mk hE.out.2 hE.out.1 (zero_isP _ _) zB)
      | true =>
        have hE : Hid (substE X l = 0 ∧ substV X l = subT l X) := by rw [Hid, substE, substV, HX.out, HS.out, ← hfit.out]; exact ⟨rfl, rfl⟩
        have hP2 := hP rfl
        clear hP
        go_wp2_with fail
        have z := b3.four (.int .i64 yk) (.int .i64 yx) (.string ys) (.slice ya ym yc)
        have zB := below_four hB5 (B := w.heap.size + 1) (by omega) (.int .i64 yk) (.int .i64 yx) (.string ys) (.slice ya ym yc)
        have zT := IsP.map (q := OA n₀ w.heap.size (((((W3.alloc (.cells #[.int .i64 yk, .int .i64 yx, .string ys, .slice ya ym yc] 25)).setCell ⟨w.heap.size + 1, 0, none⟩ (.int .i64 yk)).setCell ⟨w.heap.size + 1, 1, none⟩ (.int .i64 yx)).setCell ⟨w.heap.size + 1, 2, none⟩ (.string ys)).setCell ⟨w.heap.size + 1, 3, none⟩ (.slice ya ym yc))) (B := (((((W3.alloc (.cells #[.int .i64 yk, .int .i64 yx, .string ys, .slice ya ym yc] 25)).setCell ⟨w.heap.size + 1, 0, none⟩ (.int .i64 yk)).setCell ⟨w.heap.size + 1, 1, none⟩ (.int .i64 yx)).setCell ⟨w.heap.size + 1, 2, none⟩ (.string ys)).setCell ⟨w.heap.size + 1, 3, none⟩ (.slice ya ym yc))) (fun b hb => ⟨⟨hb.1.imp id (fun h => by omega), by have := hb.2; simp; omega⟩, (heap_four (by rcases hb.1 with h | h <;> omega) _ _ _ _).trans (Below.heap_alloc W3 _ b hb.2)⟩) _ _ hP2
        clear u0 u1 u2 u3 g0 g1 g2 g3 p0 p1 p2 p3 y0
        have w0 := z.cell 0
        have w1 := z.cell 1
        have w2 := z.cell 2
        have w3 := z.cell 3
        clear z
        generalize (((((W3.alloc (.cells #[.int .i64 yk, .int .i64 yx, .string ys, .slice ya ym yc] 25)).setCell ⟨w.heap.size + 1, 0, none⟩ (.int .i64 yk)).setCell ⟨w.heap.size + 1, 1, none⟩ (.int .i64 yx)).setCell ⟨w.heap.size + 1, 2, none⟩ (.string ys)).setCell ⟨w.heap.size + 1, 3, none⟩ (.slice ya ym yc)) = FW at *
        simp at w0 w1 w2 w3
        exact bodyPost_ret (v := .tuple #[.agg #[.int .i64 yk, .int .i64 yx, .string ys, .slice ya ym yc], .int .i64 0]) (by simp [results, Tryd.results39, go_sem, w0, w1, w2, w3]) rfl (SbPost.mk hE.out.2 hE.out.1 zT zB)
end Go.Proofs.YtckoecmdaefoiaaDoor
