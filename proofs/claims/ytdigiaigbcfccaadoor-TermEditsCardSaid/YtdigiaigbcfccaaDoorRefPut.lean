/- The second reading of Put. -/
import Derived.Test.YtdigiaigbcfccaaDoorWithR
namespace Go.Proofs.YtdigiaigbcfccaaDoor
open Go.RowKit Go

def putV (p : List Int) (T X : Tr) : Tr := if isB T && isB X then (if (nodT p T).isSome then (if isB (withT p T X) then withT p T X else zeroTr) else zeroTr) else zeroTr
def putE (p : List Int) (T X : Tr) : Int := if isB T && isB X then (if (nodT p T).isSome then (if isB (withT p T X) then 0 else 2) else 10) else 3
theorem put_no {p : List Int} {T X : Tr} (h : (isB T && isB X) = false) : putV p T X = zeroTr ∧ putE p T X = 3 := by rw [putV, putE, h]; exact ⟨rfl, rfl⟩
theorem put_none {p : List Int} {T X : Tr} (h : (isB T && isB X) = true) (hn : nodT p T = none) : putV p T X = zeroTr ∧ putE p T X = 10 := by rw [putV, putE, h, hn]; exact ⟨rfl, rfl⟩
theorem put_big {p : List Int} {T X : Tr} (h : (isB T && isB X) = true) (hn : (nodT p T).isSome = true) (hb : isB (withT p T X) = false) : putV p T X = zeroTr ∧ putE p T X = 2 := by rw [putV, putE, h, hn, hb]; exact ⟨rfl, rfl⟩
theorem put_ok {p : List Int} {T X : Tr} (h : (isB T && isB X) = true) (hn : (nodT p T).isSome = true) (hb : isB (withT p T X) = true) : putV p T X = withT p T X ∧ putE p T X = 0 := by rw [putV, putE, h, hn, hb]; exact ⟨rfl, rfl⟩
theorem sizeL_set : ∀ (l : List Tr) (q : Nat) (Y : Tr) (N : Nat), (∀ t, l[q]? = some t → Y.size ≤ t.size + N) → sizeL (l.set q Y) ≤ sizeL l + N
  | [], _, _, _, _ => by simp
  | t :: l, 0, Y, N, h => by have := h t rfl; simp only [List.set_cons_zero, sizeL]; omega
  | t :: l, q + 1, Y, N, h => by have := sizeL_set l q Y N (fun t ht => h t (by simpa using ht)); simp only [List.set_cons_succ, sizeL]; omega
theorem deepL_set : ∀ (l : List Tr) (q : Nat) (Y : Tr) (N : Nat), (∀ t, l[q]? = some t → Y.deep ≤ t.deep + N) → deepL (l.set q Y) ≤ deepL l + N
  | [], _, _, _, _ => by simp
  | t :: l, 0, Y, N, h => by have := h t rfl; simp only [List.set_cons_zero, deepL]; omega
  | t :: l, q + 1, Y, N, h => by have := deepL_set l q Y N (fun t ht => h t (by simpa using ht)); simp only [List.set_cons_succ, deepL]; omega
theorem withT_small (X : Tr) : ∀ (p : List Int) (T : Tr), (withT p T X).size ≤ T.size + X.size ∧ (withT p T X).deep ≤ T.deep + X.deep
  | [], T => by simp only [withT]; omega
  | i :: p, .node k n s l => by
    have h : ∀ t, l[i.toNat]? = some t → l.getD i.toNat zeroTr = t := fun t ht => by rw [List.getD, ht]; rfl
    simp only [withT, Tr.size, Tr.deep]
    have h1 := sizeL_set l i.toNat (withT p (l.getD i.toNat zeroTr) X) X.size (fun t ht => by rw [h t ht]; exact (withT_small X p t).1)
    have h2 := deepL_set l i.toNat (withT p (l.getD i.toNat zeroTr) X) X.deep (fun t ht => by rw [h t ht]; exact (withT_small X p t).2)
    omega
theorem RdC.up {n₀ n₁ : Nat} {A B : World} {ns : List Int} {a : Option Addr} {c : Nat} (h : RdC n₀ A ns a c) (hb : Below n₀ A B) (hn : n₀ ≤ n₁) : RdC n₁ B ns a c := h.keep hb hn
/-- A tree and an error are handed back; the tree lies below n₀, or in what is new. -/
def TpPost (n₀ : Nat) (X : Tr) (x : Int) (w : World) (e : Ending) (w' : World) : Prop := ∃ k n s a m c, e = .returned (.tuple #[.agg #[.int .i64 k, .int .i64 n, .string s, .slice a m c], .int .i64 x]) ∧ IsP (OA n₀ w.heap.size w') w' X (.agg #[.int .i64 k, .int .i64 n, .string s, .slice a m c]) ∧ Below w.heap.size w w'
theorem TpPost.mk {n₀ : Nat} {X : Tr} {x : Int} {w w' : World} {k n : Int} {s : ByteArray} {a : Option Addr} {m c : Nat} {X' : Tr} {x' : Int} (hX : X = X') (hx : x = x') (h : IsP (OA n₀ w.heap.size w') w' X' (.agg #[.int .i64 k, .int .i64 n, .string s, .slice a m c])) (hB : Below w.heap.size w w') : TpPost n₀ X x w (.returned (.tuple #[.agg #[.int .i64 k, .int .i64 n, .string s, .slice a m c], .int .i64 x'])) w' := by
  subst hX hx
  exact ⟨k, n, s, a, m, c, rfl, h, hB⟩
def BelowP (a b : World) : Prop := Below a.heap.size a b
theorem BelowP.thenP {a b c : World} (h : BelowP a b) (B : Below b.heap.size b c) : BelowP a c := Below.trans h (B.mono (Below.size h))
set_option maxRecDepth 100000 in
set_option maxHeartbeats 4000000 in
theorem refPut_any (n₀ : Nat) (X Y : Tr) (p : List Int) (v u : Value) (a : Option Addr) (c : Nat) (w : World) (hn₀ : n₀ ≤ w.heap.size) (hx : IsT n₀ w X v) (hy : IsT n₀ w Y u) (hp : RdC n₀ w p a c) (hsx : X.size ≤ 1000000) (hdx : X.deep ≤ 1000000) (hsy : Y.size ≤ 1000000) (hdy : Y.deep ≤ 1000000) :
    Calls Tryd.prog 33 #[v, .slice a p.length c, u] w (TpPost n₀ (putV p X Y) (putE p X Y) w) := by
  have hsx2 : X.size ≤ 1000000000 := by omega
  have hdx2 : X.deep ≤ 1000000000 := by omega
  have hsy2 : Y.size ≤ 1000000000 := by omega
  have hdy2 : Y.deep ≤ 1000000000 := by omega
  obtain ⟨kx, nx, sx, ax, mx, cx, rfl⟩ := (IsT.toP _ _ hx).form
  obtain ⟨ky, ny, sy, ay, my, cy, rfl⟩ := (IsT.toP _ _ hy).form
  have bbx : Box (((w.alloc (.cells #[.int .i64 kx, .int .i64 nx, .string sx, .slice ax mx cx] 25)).alloc (.cells #[.int .i64 ky, .int .i64 ny, .string sy, .slice ay my cy] 25)).alloc (.cells #[.int .i64 0, .int .i64 0, .string ⟨#[]⟩, .slice none 0 0] 25)) w.heap.size #[.int .i64 kx, .int .i64 nx, .string sx, .slice ax mx cx] 25 := ((Box.at rfl).alloc _).alloc _
  have bby : Box (((w.alloc (.cells #[.int .i64 kx, .int .i64 nx, .string sx, .slice ax mx cx] 25)).alloc (.cells #[.int .i64 ky, .int .i64 ny, .string sy, .slice ay my cy] 25)).alloc (.cells #[.int .i64 0, .int .i64 0, .string ⟨#[]⟩, .slice none 0 0] 25)) (w.heap.size + 1) #[.int .i64 ky, .int .i64 ny, .string sy, .slice ay my cy] 25 := (Box.at (by simp)).alloc _
  have bbz : Box (((w.alloc (.cells #[.int .i64 kx, .int .i64 nx, .string sx, .slice ax mx cx] 25)).alloc (.cells #[.int .i64 ky, .int .i64 ny, .string sy, .slice ay my cy] 25)).alloc (.cells #[.int .i64 0, .int .i64 0, .string ⟨#[]⟩, .slice none 0 0] 25)) (w.heap.size + 1 + 1) #[.int .i64 0, .int .i64 0, .string ⟨#[]⟩, .slice none 0 0] 25 := Box.at (by simp)
  have hb := below_a3 (Nat.le_refl w.heap.size) (.cells #[.int .i64 kx, .int .i64 nx, .string sx, .slice ax mx cx] 25) (.cells #[.int .i64 ky, .int .i64 ny, .string sy, .slice ay my cy] 25) (.cells #[.int .i64 0, .int .i64 0, .string ⟨#[]⟩, .slice none 0 0] 25)
  have H0 := Lib.hid (And.intro hx (And.intro hy hp))
  replace hx := hx.mono hn₀
  replace hy := hy.mono hn₀
  replace hp : RdC w.heap.size w p a c := hp.keep (Below.refl _ _) hn₀
  replace hx := hx.up hb hb.size
  replace hy := hy.up hb hb.size
  replace hp := hp.up hb hb.size
  go_enter Tryd.func33, Tryd.ntmps33
  go_wp2_with fail
  have qx0 := bbx.cell 0
  have qx1 := bbx.cell 1
  have qx2 := bbx.cell 2
  have qx3 := bbx.cell 3
  have lx := bbx.lt
  simp only [List.getElem?_toArray, List.getElem?_cons_succ, List.getElem?_cons_zero] at qx0 qx1 qx2 qx3
  go_wp2_with fail
  clear qx0 qx1 qx2 qx3 lx
  refine (refCheck_any X _ _ hx hsx2 hdx2).mono ?_
  rintro e W1 ⟨rfl, B⟩
  replace bbx := Box.keep B bbx
  replace bby := Box.keep B bby
  replace bbz := Box.keep B bbz
  replace hx := hx.up B B.size
  replace hy := hy.up B B.size
  replace hp := hp.up B B.size
  replace hb := hb.trans (B.mono hb.size)
  clear B
  cases hr : isB X with
  | false =>
    have hf : (isB X && isB Y) = false := by rw [hr]; rfl
    clear hr
    rw [show errI false = 3 from rfl]
    have HV : Hid (putV p X Y = zeroTr ∧ putE p X Y = 3) := put_no hf
    clear hf
    have u0 := bbz.cell 0
    have u1 := bbz.cell 1
    have u2 := bbz.cell 2
    have u3 := bbz.cell 3
    have g0 := bbz.frozen 0
    have g1 := bbz.frozen 1
    have g2 := bbz.frozen 2
    have g3 := bbz.frozen 3
    have lz := bbz.lt
    simp only [List.getElem?_toArray, List.getElem?_cons_succ, List.getElem?_cons_zero] at u0 u1 u2 u3
    have z := bbz.four (.int .i64 0) (.int .i64 0) (.string ⟨#[]⟩) (.slice none 0 0)
    have zB := below_four hb (B := w.heap.size + 1 + 1) (by omega) (.int .i64 0) (.int .i64 0) (.string ⟨#[]⟩) (.slice none 0 0)
    have zT : IsP (OA n₀ w.heap.size ((((W1.setCell ⟨w.heap.size + 1 + 1, 0, none⟩ (.int .i64 0)).setCell ⟨w.heap.size + 1 + 1, 1, none⟩ (.int .i64 0)).setCell ⟨w.heap.size + 1 + 1, 2, none⟩ (.string ⟨#[]⟩)).setCell ⟨w.heap.size + 1 + 1, 3, none⟩ (.slice none 0 0))) ((((W1.setCell ⟨w.heap.size + 1 + 1, 0, none⟩ (.int .i64 0)).setCell ⟨w.heap.size + 1 + 1, 1, none⟩ (.int .i64 0)).setCell ⟨w.heap.size + 1 + 1, 2, none⟩ (.string ⟨#[]⟩)).setCell ⟨w.heap.size + 1 + 1, 3, none⟩ (.slice none 0 0)) zeroTr (.agg #[.int .i64 0, .int .i64 0, .string ⟨#[]⟩, .slice none 0 0]) := zero_isP _ _
    have HZ := Lib.hid (And.intro zB zT)
    have y0 := z.cell 0
    have y1 := z.cell 1
    have y2 := z.cell 2
    have y3 := z.cell 3
    clear z zB zT
    go_wp2_with fail
    clear u0 u1 u2 u3 g0 g1 g2 g3
    generalize ((((W1.setCell ⟨w.heap.size + 1 + 1, 0, none⟩ (.int .i64 0)).setCell ⟨w.heap.size + 1 + 1, 1, none⟩ (.int .i64 0)).setCell ⟨w.heap.size + 1 + 1, 2, none⟩ (.string ⟨#[]⟩)).setCell ⟨w.heap.size + 1 + 1, 3, none⟩ (.slice none 0 0)) = FW at *
    simp at y0 y1 y2 y3
    exact bodyPost_ret (v := .tuple #[.agg #[.int .i64 0, .int .i64 0, .string ⟨#[]⟩, .slice none 0 0], .int .i64 3]) (by simp [results, Tryd.results33, go_sem, y0, y1, y2, y3]) rfl (TpPost.mk HV.out.1 HV.out.2 HZ.out.2 HZ.out.1)
  | true =>
    rw [show errI true = 0 from rfl]
    have HRX := Lib.hid hr
    clear hr
    have qy0 := bby.cell 0
    have qy1 := bby.cell 1
    have qy2 := bby.cell 2
    have qy3 := bby.cell 3
    have ly := bby.lt
    simp only [List.getElem?_toArray, List.getElem?_cons_succ, List.getElem?_cons_zero] at qy0 qy1 qy2 qy3
    go_wp2_with fail
    clear qy0 qy1 qy2 qy3 ly
    refine (refCheck_any Y _ _ hy hsy2 hdy2).mono ?_
    rintro e W2 ⟨rfl, B⟩
    replace bbx := Box.keep B bbx
    replace bby := Box.keep B bby
    replace bbz := Box.keep B bbz
    replace hx := hx.up B B.size
    replace hy := hy.up B B.size
    replace hp := hp.up B B.size
    replace hb := hb.trans (B.mono hb.size)
    clear B
    cases hr : isB Y with
    | false =>
      have hf : (isB X && isB Y) = false := by rw [HRX.out, hr]; rfl
      clear hr
      rw [show errI false = 3 from rfl]
      have HV : Hid (putV p X Y = zeroTr ∧ putE p X Y = 3) := put_no hf
      clear hf
      have u0 := bbz.cell 0
      have u1 := bbz.cell 1
      have u2 := bbz.cell 2
      have u3 := bbz.cell 3
      have g0 := bbz.frozen 0
      have g1 := bbz.frozen 1
      have g2 := bbz.frozen 2
      have g3 := bbz.frozen 3
      have lz := bbz.lt
      simp only [List.getElem?_toArray, List.getElem?_cons_succ, List.getElem?_cons_zero] at u0 u1 u2 u3
      have z := bbz.four (.int .i64 0) (.int .i64 0) (.string ⟨#[]⟩) (.slice none 0 0)
      have zB := below_four hb (B := w.heap.size + 1 + 1) (by omega) (.int .i64 0) (.int .i64 0) (.string ⟨#[]⟩) (.slice none 0 0)
      have zT : IsP (OA n₀ w.heap.size ((((W2.setCell ⟨w.heap.size + 1 + 1, 0, none⟩ (.int .i64 0)).setCell ⟨w.heap.size + 1 + 1, 1, none⟩ (.int .i64 0)).setCell ⟨w.heap.size + 1 + 1, 2, none⟩ (.string ⟨#[]⟩)).setCell ⟨w.heap.size + 1 + 1, 3, none⟩ (.slice none 0 0))) ((((W2.setCell ⟨w.heap.size + 1 + 1, 0, none⟩ (.int .i64 0)).setCell ⟨w.heap.size + 1 + 1, 1, none⟩ (.int .i64 0)).setCell ⟨w.heap.size + 1 + 1, 2, none⟩ (.string ⟨#[]⟩)).setCell ⟨w.heap.size + 1 + 1, 3, none⟩ (.slice none 0 0)) zeroTr (.agg #[.int .i64 0, .int .i64 0, .string ⟨#[]⟩, .slice none 0 0]) := zero_isP _ _
      have HZ := Lib.hid (And.intro zB zT)
      have y0 := z.cell 0
      have y1 := z.cell 1
      have y2 := z.cell 2
      have y3 := z.cell 3
      clear z zB zT
      go_wp2_with fail
      clear u0 u1 u2 u3 g0 g1 g2 g3
      generalize ((((W2.setCell ⟨w.heap.size + 1 + 1, 0, none⟩ (.int .i64 0)).setCell ⟨w.heap.size + 1 + 1, 1, none⟩ (.int .i64 0)).setCell ⟨w.heap.size + 1 + 1, 2, none⟩ (.string ⟨#[]⟩)).setCell ⟨w.heap.size + 1 + 1, 3, none⟩ (.slice none 0 0)) = FW at *
      simp at y0 y1 y2 y3
      exact bodyPost_ret (v := .tuple #[.agg #[.int .i64 0, .int .i64 0, .string ⟨#[]⟩, .slice none 0 0], .int .i64 3]) (by simp [results, Tryd.results33, go_sem, y0, y1, y2, y3]) rfl (TpPost.mk HV.out.1 HV.out.2 HZ.out.2 HZ.out.1)
    | true =>
      rw [show errI true = 0 from rfl]
      have HXY : Hid ((isB X && isB Y) = true) := by rw [Hid, HRX.out, hr]; rfl
      clear hr HRX
      have qx0 := bbx.cell 0
      have qx1 := bbx.cell 1
      have qx2 := bbx.cell 2
      have qx3 := bbx.cell 3
      have lx := bbx.lt
      simp only [List.getElem?_toArray, List.getElem?_cons_succ, List.getElem?_cons_zero] at qx0 qx1 qx2 qx3
      go_wp2_with fail
      clear qx0 qx1 qx2 qx3 lx
      have hnd := refNodeAt_any n₀ X p _ _ _ (Nat.le_trans hn₀ hb.size) (H0.out.1.below (hb.mono hn₀)) hp.rd
      have HND := Lib.hid hnd
      clear hnd
      refine (HND.out).mono ?_
      rintro e W3 ⟨yk, yn, ys, ya, ym, yc, rfl, -, B⟩
      replace bbx := Box.keep B bbx
      replace bby := Box.keep B bby
      replace bbz := Box.keep B bbz
      replace hx := hx.up B B.size
      replace hy := hy.up B B.size
      replace hp := hp.up B B.size
      replace hb := hb.trans (B.mono hb.size)
      clear B
      clear HND
      cases hn : (nodT p X).isSome with
      | false =>
        have HV : Hid (putV p X Y = zeroTr ∧ putE p X Y = 10) := put_none HXY.out (by simpa using hn)
        clear hn
        have u0 := bbz.cell 0
        have u1 := bbz.cell 1
        have u2 := bbz.cell 2
        have u3 := bbz.cell 3
        have g0 := bbz.frozen 0
        have g1 := bbz.frozen 1
        have g2 := bbz.frozen 2
        have g3 := bbz.frozen 3
        have lz := bbz.lt
        simp only [List.getElem?_toArray, List.getElem?_cons_succ, List.getElem?_cons_zero] at u0 u1 u2 u3
        have z := (bbz.four (.int .i64 0) (.int .i64 0) (.string ⟨#[]⟩) (.slice none 0 0)).alloc (.cells #[.int .i64 yk, .int .i64 yn, .string ys, .slice ya ym yc] 25)
        have zb1 := below_four hb (B := w.heap.size + 1 + 1) (by omega) (.int .i64 0) (.int .i64 0) (.string ⟨#[]⟩) (.slice none 0 0)
        have zB := zb1.alloc zb1.size (.cells #[.int .i64 yk, .int .i64 yn, .string ys, .slice ya ym yc] 25)
        have zb2 := below_four (Below.refl w.heap.size W3) (B := w.heap.size + 1 + 1) (by omega) (.int .i64 0) (.int .i64 0) (.string ⟨#[]⟩) (.slice none 0 0)
        have zb3 := zb2.alloc (Nat.le_trans hb.size zb2.size) (.cells #[.int .i64 yk, .int .i64 yn, .string ys, .slice ya ym yc] 25)
        have zT : IsP (OA n₀ w.heap.size (((((W3.setCell ⟨w.heap.size + 1 + 1, 0, none⟩ (.int .i64 0)).setCell ⟨w.heap.size + 1 + 1, 1, none⟩ (.int .i64 0)).setCell ⟨w.heap.size + 1 + 1, 2, none⟩ (.string ⟨#[]⟩)).setCell ⟨w.heap.size + 1 + 1, 3, none⟩ (.slice none 0 0)).alloc (.cells #[.int .i64 yk, .int .i64 yn, .string ys, .slice ya ym yc] 25))) (((((W3.setCell ⟨w.heap.size + 1 + 1, 0, none⟩ (.int .i64 0)).setCell ⟨w.heap.size + 1 + 1, 1, none⟩ (.int .i64 0)).setCell ⟨w.heap.size + 1 + 1, 2, none⟩ (.string ⟨#[]⟩)).setCell ⟨w.heap.size + 1 + 1, 3, none⟩ (.slice none 0 0)).alloc (.cells #[.int .i64 yk, .int .i64 yn, .string ys, .slice ya ym yc] 25)) zeroTr (.agg #[.int .i64 0, .int .i64 0, .string ⟨#[]⟩, .slice none 0 0]) := zero_isP _ _
        have HZ := Lib.hid (And.intro zB zT)
        have y0 := z.cell 0
        have y1 := z.cell 1
        have y2 := z.cell 2
        have y3 := z.cell 3
        clear z zB zT zb1 zb2 zb3
        go_wp2_with fail
        clear u0 u1 u2 u3 g0 g1 g2 g3
        generalize (((((W3.setCell ⟨w.heap.size + 1 + 1, 0, none⟩ (.int .i64 0)).setCell ⟨w.heap.size + 1 + 1, 1, none⟩ (.int .i64 0)).setCell ⟨w.heap.size + 1 + 1, 2, none⟩ (.string ⟨#[]⟩)).setCell ⟨w.heap.size + 1 + 1, 3, none⟩ (.slice none 0 0)).alloc (.cells #[.int .i64 yk, .int .i64 yn, .string ys, .slice ya ym yc] 25)) = FW at *
        simp at y0 y1 y2 y3
        exact bodyPost_ret (v := .tuple #[.agg #[.int .i64 0, .int .i64 0, .string ⟨#[]⟩, .slice none 0 0], .int .i64 10]) (by simp [results, Tryd.results33, go_sem, y0, y1, y2, y3]) rfl (TpPost.mk HV.out.1 HV.out.2 HZ.out.2 HZ.out.1)
      | true =>
        have HN := Lib.hid hn
        clear hn
        have qx0 := bbx.cell 0
        have qx1 := bbx.cell 1
        have qx2 := bbx.cell 2
        have qx3 := bbx.cell 3
        have qy0 := bby.cell 0
        have qy1 := bby.cell 1
        have qy2 := bby.cell 2
        have qy3 := bby.cell 3
        have lx := bbx.lt
        have ly := bby.lt
        simp only [List.getElem?_toArray, List.getElem?_cons_succ, List.getElem?_cons_zero] at qx0 qx1 qx2 qx3 qy0 qy1 qy2 qy3
        go_wp2_with fail
        clear qx0 qx1 qx2 qx3 qy0 qy1 qy2 qy3 lx ly
        have bbn : Box (W3.alloc (.cells #[.int .i64 yk, .int .i64 yn, .string ys, .slice ya ym yc] 25)) W3.heap.size #[.int .i64 yk, .int .i64 yn, .string ys, .slice ya ym yc] 25 := Box.at rfl
        have B := below_a1 (Nat.le_refl W3.heap.size) (.cells #[.int .i64 yk, .int .i64 yn, .string ys, .slice ya ym yc] 25)
        replace bbx := Box.keep B bbx
        replace bby := Box.keep B bby
        replace bbz := Box.keep B bbz
        replace hx := hx.up B B.size
        replace hy := hy.up B B.size
        replace hp := hp.up B B.size
        replace hb := hb.trans (B.mono hb.size)
        clear B
        generalize (W3.alloc (.cells #[.int .i64 yk, .int .i64 yn, .string ys, .slice ya ym yc] 25)) = V4 at *
        clear bbn
        have hwt := refWith_any n₀ Y p.length p X _ _ a c V4 rfl (Nat.le_trans hn₀ hb.size) (H0.out.1.below (hb.mono hn₀)) (H0.out.2.1.below (hb.mono hn₀)) (H0.out.2.2.keep (hb.mono hn₀) (Nat.le_refl _)) HN.out (by omega)
        have HWT := Lib.hid hwt
        clear hwt
        have hlz2 := bbz.lt
        refine (HWT.out).mono ?_
        rintro e W5 ⟨qk, qn, qs, qa, qm, qc, rfl, hq, B⟩
        replace bbx := Box.keep B bbx
        replace bby := Box.keep B bby
        replace bbz := Box.keep B bbz
        replace hx := hx.up B B.size
        replace hy := hy.up B B.size
        replace hp := hp.up B B.size
        replace hb := hb.trans (B.mono hb.size)
        clear B
        clear HWT
        have HQ := Lib.hid hq
        have ht := IsP.toT (fun _ h => h.2) _ _ hq
        clear hq
        have HB3 : Hid (BelowP W5 W5) := Below.refl _ _
        go_wp2_with fail
        have bbt : Box (W5.alloc (.cells #[.int .i64 qk, .int .i64 qn, .string qs, .slice qa qm qc] 25)) W5.heap.size #[.int .i64 qk, .int .i64 qn, .string qs, .slice qa qm qc] 25 := Box.at rfl
        have B := below_a1 (Nat.le_refl W5.heap.size) (.cells #[.int .i64 qk, .int .i64 qn, .string qs, .slice qa qm qc] 25)
        replace bbx := Box.keep B bbx
        replace bby := Box.keep B bby
        replace bbz := Box.keep B bbz
        replace hx := hx.up B B.size
        replace hy := hy.up B B.size
        replace hp := hp.up B B.size
        replace ht := ht.up B B.size
        replace HB3 := Lib.hid (HB3.out.thenP B)
        replace hb := hb.trans (B.mono hb.size)
        clear B
        generalize (W5.alloc (.cells #[.int .i64 qk, .int .i64 qn, .string qs, .slice qa qm qc] 25)) = V6 at *
        have hws := withT_small Y p X
        have qt0 := bbt.cell 0
        have qt1 := bbt.cell 1
        have qt2 := bbt.cell 2
        have qt3 := bbt.cell 3
        have lt := bbt.lt
        simp only [List.getElem?_toArray, List.getElem?_cons_succ, List.getElem?_cons_zero] at qt0 qt1 qt2 qt3
        go_wp2_with fail
        clear qt0 qt1 qt2 qt3 lt
        refine (refCheck_any (withT p X Y) _ _ ht (by omega) (by omega)).mono ?_
        rintro e W7 ⟨rfl, B⟩
        replace bbx := Box.keep B bbx
        replace bby := Box.keep B bby
        replace bbz := Box.keep B bbz
        replace bbt := Box.keep B bbt
        replace hx := hx.up B B.size
        replace hy := hy.up B B.size
        replace hp := hp.up B B.size
        replace ht := ht.up B B.size
        replace HB3 := Lib.hid (HB3.out.thenP B)
        replace hb := hb.trans (B.mono hb.size)
        clear B
        clear hws
        cases hr : isB (withT p X Y) with
        | false =>
          have HV : Hid (putV p X Y = zeroTr ∧ putE p X Y = 2) := put_big HXY.out HN.out hr
          clear hr
          rw [show errI false = 3 from rfl]
          have u0 := bbz.cell 0
          have u1 := bbz.cell 1
          have u2 := bbz.cell 2
          have u3 := bbz.cell 3
          have g0 := bbz.frozen 0
          have g1 := bbz.frozen 1
          have g2 := bbz.frozen 2
          have g3 := bbz.frozen 3
          have lz := bbz.lt
          simp only [List.getElem?_toArray, List.getElem?_cons_succ, List.getElem?_cons_zero] at u0 u1 u2 u3
          have z := bbz.four (.int .i64 0) (.int .i64 0) (.string ⟨#[]⟩) (.slice none 0 0)
          have zB := below_four hb (B := w.heap.size + 1 + 1) (by omega) (.int .i64 0) (.int .i64 0) (.string ⟨#[]⟩) (.slice none 0 0)
          have zT : IsP (OA n₀ w.heap.size ((((W7.setCell ⟨w.heap.size + 1 + 1, 0, none⟩ (.int .i64 0)).setCell ⟨w.heap.size + 1 + 1, 1, none⟩ (.int .i64 0)).setCell ⟨w.heap.size + 1 + 1, 2, none⟩ (.string ⟨#[]⟩)).setCell ⟨w.heap.size + 1 + 1, 3, none⟩ (.slice none 0 0))) ((((W7.setCell ⟨w.heap.size + 1 + 1, 0, none⟩ (.int .i64 0)).setCell ⟨w.heap.size + 1 + 1, 1, none⟩ (.int .i64 0)).setCell ⟨w.heap.size + 1 + 1, 2, none⟩ (.string ⟨#[]⟩)).setCell ⟨w.heap.size + 1 + 1, 3, none⟩ (.slice none 0 0)) zeroTr (.agg #[.int .i64 0, .int .i64 0, .string ⟨#[]⟩, .slice none 0 0]) := zero_isP _ _
          have HZ := Lib.hid (And.intro zB zT)
          have y0 := z.cell 0
          have y1 := z.cell 1
          have y2 := z.cell 2
          have y3 := z.cell 3
          clear z zB zT
          go_wp2_with fail
          clear u0 u1 u2 u3 g0 g1 g2 g3
          generalize ((((W7.setCell ⟨w.heap.size + 1 + 1, 0, none⟩ (.int .i64 0)).setCell ⟨w.heap.size + 1 + 1, 1, none⟩ (.int .i64 0)).setCell ⟨w.heap.size + 1 + 1, 2, none⟩ (.string ⟨#[]⟩)).setCell ⟨w.heap.size + 1 + 1, 3, none⟩ (.slice none 0 0)) = FW at *
          simp at y0 y1 y2 y3
          exact bodyPost_ret (v := .tuple #[.agg #[.int .i64 0, .int .i64 0, .string ⟨#[]⟩, .slice none 0 0], .int .i64 2]) (by simp [results, Tryd.results33, go_sem, y0, y1, y2, y3]) rfl (TpPost.mk HV.out.1 HV.out.2 HZ.out.2 HZ.out.1)
        | true =>
          have HV : Hid (putV p X Y = withT p X Y ∧ putE p X Y = 0) := put_ok HXY.out HN.out hr
          clear hr
          rw [show errI true = 0 from rfl]
          have t0 := bbt.cell 0
          have t1 := bbt.cell 1
          have t2 := bbt.cell 2
          have t3 := bbt.cell 3
          have lt := bbt.lt
          simp only [List.getElem?_toArray, List.getElem?_cons_succ, List.getElem?_cons_zero] at t0 t1 t2 t3
          have u0 := bbz.cell 0
          have u1 := bbz.cell 1
          have u2 := bbz.cell 2
          have u3 := bbz.cell 3
          have g0 := bbz.frozen 0
          have g1 := bbz.frozen 1
          have g2 := bbz.frozen 2
          have g3 := bbz.frozen 3
          have lz := bbz.lt
          simp only [List.getElem?_toArray, List.getElem?_cons_succ, List.getElem?_cons_zero] at u0 u1 u2 u3
          have z := bbz.four (.int .i64 qk) (.int .i64 qn) (.string qs) (.slice qa qm qc)
          have zB := below_four hb (B := w.heap.size + 1 + 1) (by omega) (.int .i64 qk) (.int .i64 qn) (.string qs) (.slice qa qm qc)
          have zT : IsP (OA n₀ w.heap.size ((((W7.setCell ⟨w.heap.size + 1 + 1, 0, none⟩ (.int .i64 qk)).setCell ⟨w.heap.size + 1 + 1, 1, none⟩ (.int .i64 qn)).setCell ⟨w.heap.size + 1 + 1, 2, none⟩ (.string qs)).setCell ⟨w.heap.size + 1 + 1, 3, none⟩ (.slice qa qm qc))) ((((W7.setCell ⟨w.heap.size + 1 + 1, 0, none⟩ (.int .i64 qk)).setCell ⟨w.heap.size + 1 + 1, 1, none⟩ (.int .i64 qn)).setCell ⟨w.heap.size + 1 + 1, 2, none⟩ (.string qs)).setCell ⟨w.heap.size + 1 + 1, 3, none⟩ (.slice qa qm qc)) (withT p X Y) (.agg #[.int .i64 qk, .int .i64 qn, .string qs, .slice qa qm qc]) := IsP.map (q := OA n₀ w.heap.size ((((W7.setCell ⟨w.heap.size + 1 + 1, 0, none⟩ (.int .i64 qk)).setCell ⟨w.heap.size + 1 + 1, 1, none⟩ (.int .i64 qn)).setCell ⟨w.heap.size + 1 + 1, 2, none⟩ (.string qs)).setCell ⟨w.heap.size + 1 + 1, 3, none⟩ (.slice qa qm qc))) (B := ((((W7.setCell ⟨w.heap.size + 1 + 1, 0, none⟩ (.int .i64 qk)).setCell ⟨w.heap.size + 1 + 1, 1, none⟩ (.int .i64 qn)).setCell ⟨w.heap.size + 1 + 1, 2, none⟩ (.string qs)).setCell ⟨w.heap.size + 1 + 1, 3, none⟩ (.slice qa qm qc))) (fun b hq => ⟨⟨hq.1.imp id (fun h => by omega), by have := hq.2; have := Below.size HB3.out; simp; omega⟩, (heap_four (by rcases hq.1 with h | h <;> omega) _ _ _ _).trans (Below.block HB3.out b hq.2)⟩) _ _ HQ.out
          have HZ := Lib.hid (And.intro zB zT)
          have y0 := z.cell 0
          have y1 := z.cell 1
          have y2 := z.cell 2
          have y3 := z.cell 3
          clear z zB zT
          go_wp2_with fail
          clear u0 u1 u2 u3 g0 g1 g2 g3
          generalize ((((W7.setCell ⟨w.heap.size + 1 + 1, 0, none⟩ (.int .i64 qk)).setCell ⟨w.heap.size + 1 + 1, 1, none⟩ (.int .i64 qn)).setCell ⟨w.heap.size + 1 + 1, 2, none⟩ (.string qs)).setCell ⟨w.heap.size + 1 + 1, 3, none⟩ (.slice qa qm qc)) = FW at *
          simp at y0 y1 y2 y3
          exact bodyPost_ret (v := .tuple #[.agg #[.int .i64 qk, .int .i64 qn, .string qs, .slice qa qm qc], .int .i64 0]) (by simp [results, Tryd.results33, go_sem, y0, y1, y2, y3]) rfl (TpPost.mk HV.out.1 HV.out.2 HZ.out.2 HZ.out.1)
end Go.Proofs.YtdigiaigbcfccaaDoor
