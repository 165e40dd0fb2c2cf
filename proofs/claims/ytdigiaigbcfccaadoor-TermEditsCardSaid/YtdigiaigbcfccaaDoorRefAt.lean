/- The second reading of At. -/
import Derived.Test.YtdigiaigbcfccaaDoorNodeR
namespace Go.Proofs.YtdigiaigbcfccaaDoor
open Go.RowKit Go

/-- A tree and an error are handed back. -/
def TaPost (X : Tr) (x : Int) (w : World) (e : Ending) (w' : World) : Prop := ∃ k n s a m c, e = .returned (.tuple #[.agg #[.int .i64 k, .int .i64 n, .string s, .slice a m c], .int .i64 x]) ∧ IsT w'.heap.size w' X (.agg #[.int .i64 k, .int .i64 n, .string s, .slice a m c]) ∧ Below w.heap.size w w'
theorem TaPost.mk {X : Tr} {x : Int} {w w' : World} {k n : Int} {s : ByteArray} {a : Option Addr} {m c : Nat} {X' : Tr} {x' : Int} (hX : X = X') (hx : x = x') (h : IsT w'.heap.size w' X' (.agg #[.int .i64 k, .int .i64 n, .string s, .slice a m c])) (hB : Below w.heap.size w w') : TaPost X x w (.returned (.tuple #[.agg #[.int .i64 k, .int .i64 n, .string s, .slice a m c], .int .i64 x'])) w' := by
  subst hX hx
  exact ⟨k, n, s, a, m, c, rfl, h, hB⟩
theorem zeroTa (n₀ : Nat) (W : World) : IsT n₀ W zeroTr (.agg #[.int .i64 0, .int .i64 0, .string ⟨#[]⟩, .slice none 0 0]) := IsP.toT (p := fun _ => False) (fun _ h => h.elim) _ _ (zero_isP _ _)

/-- What At hands back. -/
def atV (p : List Int) (T : Tr) : Tr := if isB T then (nodT p T).getD zeroTr else zeroTr
def atE (p : List Int) (T : Tr) : Int := if isB T then (if (nodT p T).isSome then 0 else 10) else 3
theorem atV_no {p : List Int} {T : Tr} (h : isB T = false) : atV p T = zeroTr ∧ atE p T = 3 := by rw [atV, atE, h]; exact ⟨rfl, rfl⟩
theorem atV_none {p : List Int} {T : Tr} (h : isB T = true) (hn : nodT p T = none) : atV p T = zeroTr ∧ atE p T = 10 := by rw [atV, atE, h, hn]; exact ⟨rfl, rfl⟩
theorem atV_some {p : List Int} {T X : Tr} (h : isB T = true) (hn : nodT p T = some X) : atV p T = X ∧ atE p T = 0 := by rw [atV, atE, h, hn]; exact ⟨rfl, rfl⟩
set_option maxRecDepth 100000 in
set_option maxHeartbeats 4000000 in
theorem refAt_any (X : Tr) (p : List Int) (v u : Value) (w : World) (hx : IsT w.heap.size w X v) (hp : RdN w.heap.size w p u) (hsx : X.size ≤ 1000000) (hdx : X.deep ≤ 1000000) :
    Calls Tryd.prog 30 #[v, u] w (TaPost (atV p X) (atE p X) w) := by
  have hs2 : X.size ≤ 1000000000 := by omega
  have hd2 : X.deep ≤ 1000000000 := by omega
  obtain ⟨k, n, s, a, m, c, rfl⟩ := (IsT.toP _ _ hx).form
  have bbx : Box ((w.alloc (.cells #[.int .i64 k, .int .i64 n, .string s, .slice a m c] 25)).alloc (.cells #[.int .i64 0, .int .i64 0, .string ⟨#[]⟩, .slice none 0 0] 25)) w.heap.size #[.int .i64 k, .int .i64 n, .string s, .slice a m c] 25 := (Box.at rfl).alloc _
  have bbz : Box ((w.alloc (.cells #[.int .i64 k, .int .i64 n, .string s, .slice a m c] 25)).alloc (.cells #[.int .i64 0, .int .i64 0, .string ⟨#[]⟩, .slice none 0 0] 25)) (w.heap.size + 1) #[.int .i64 0, .int .i64 0, .string ⟨#[]⟩, .slice none 0 0] 25 := Box.at (by simp)
  have hb := below_a2 (Nat.le_refl w.heap.size) (.cells #[.int .i64 k, .int .i64 n, .string s, .slice a m c] 25) (.cells #[.int .i64 0, .int .i64 0, .string ⟨#[]⟩, .slice none 0 0] 25)
  have HX0 := Lib.hid hx
  replace hx := hx.up hb hb.size
  replace hp := hp.up hb hb.size
  go_enter Tryd.func30, Tryd.ntmps30
  go_wp2_with fail
  have qx0 := bbx.cell 0
  have qx1 := bbx.cell 1
  have qx2 := bbx.cell 2
  have qx3 := bbx.cell 3
  have lx := bbx.lt
  simp only [List.getElem?_toArray, List.getElem?_cons_succ, List.getElem?_cons_zero] at qx0 qx1 qx2 qx3
  go_wp2_with fail
  clear qx0 qx1 qx2 qx3 lx
  refine (refCheck_any X _ _ hx hs2 hd2).mono ?_
  rintro e W1 ⟨rfl, B⟩
  replace bbx := Box.keep B bbx
  replace bbz := Box.keep B bbz
  replace hx := hx.up B B.size
  replace hp := hp.up B B.size
  replace hb := hb.trans (B.mono hb.size)
  clear B
  cases hr : isB X with
  | false =>
    have HV : Hid (atV p X = zeroTr ∧ atE p X = 3) := atV_no hr
    clear hr
    rw [show errI false = 3 from rfl]
    have u0 := bbz.cell 0
    have u1 := bbz.cell 1
    have u2 := bbz.cell 2
    have u3 := bbz.cell 3
    have g0 := bbz.frozen 0
    have g1 := bbz.frozen 1
    have g2 := bbz.frozen 2
    have g3 := bbz.frozen 3
    have lz := bbz.lt
    simp only [List.getElem?_toArray, List.getElem?_cons_succ, List.getElem?_cons_zero] at u0 u1 u2 u3
    have z := bbz.four (.int .i64 0) (.int .i64 0) (.string ⟨#[]⟩) (.slice none 0 0)
    have zB := below_four hb (B := w.heap.size + 1) (by omega) (.int .i64 0) (.int .i64 0) (.string ⟨#[]⟩) (.slice none 0 0)
    have zT : IsT ((((W1.setCell ⟨w.heap.size + 1, 0, none⟩ (.int .i64 0)).setCell ⟨w.heap.size + 1, 1, none⟩ (.int .i64 0)).setCell ⟨w.heap.size + 1, 2, none⟩ (.string ⟨#[]⟩)).setCell ⟨w.heap.size + 1, 3, none⟩ (.slice none 0 0)).heap.size ((((W1.setCell ⟨w.heap.size + 1, 0, none⟩ (.int .i64 0)).setCell ⟨w.heap.size + 1, 1, none⟩ (.int .i64 0)).setCell ⟨w.heap.size + 1, 2, none⟩ (.string ⟨#[]⟩)).setCell ⟨w.heap.size + 1, 3, none⟩ (.slice none 0 0)) zeroTr (.agg #[.int .i64 0, .int .i64 0, .string ⟨#[]⟩, .slice none 0 0]) := zeroTa _ _
    have HZ := Lib.hid (And.intro zB zT)
    have y0 := z.cell 0
    have y1 := z.cell 1
    have y2 := z.cell 2
    have y3 := z.cell 3
    clear z zB zT
    go_wp2_with fail
    clear u0 u1 u2 u3 g0 g1 g2 g3
    generalize ((((W1.setCell ⟨w.heap.size + 1, 0, none⟩ (.int .i64 0)).setCell ⟨w.heap.size + 1, 1, none⟩ (.int .i64 0)).setCell ⟨w.heap.size + 1, 2, none⟩ (.string ⟨#[]⟩)).setCell ⟨w.heap.size + 1, 3, none⟩ (.slice none 0 0)) = FW at *
    simp at y0 y1 y2 y3
    exact bodyPost_ret (v := .tuple #[.agg #[.int .i64 0, .int .i64 0, .string ⟨#[]⟩, .slice none 0 0], .int .i64 3]) (by simp [results, Tryd.results30, go_sem, y0, y1, y2, y3]) rfl (TaPost.mk HV.out.1 HV.out.2 HZ.out.2 HZ.out.1)
  | true =>
    rw [show errI true = 0 from rfl]
    have HRX := Lib.hid hr
    clear hr
    have qx0 := bbx.cell 0
    have qx1 := bbx.cell 1
    have qx2 := bbx.cell 2
    have qx3 := bbx.cell 3
    have lx := bbx.lt
    simp only [List.getElem?_toArray, List.getElem?_cons_succ, List.getElem?_cons_zero] at qx0 qx1 qx2 qx3
    go_wp2_with fail
    clear qx0 qx1 qx2 qx3 lx
    have hnd := refNodeAt_any w.heap.size X p _ _ _ hb.size (HX0.out.below hb) hp
    have HND := Lib.hid hnd
    clear hnd
    refine (HND.out).mono ?_
    rintro e W2 ⟨yk, yn, ys, ya, ym, yc, rfl, hy, B⟩
    replace bbx := Box.keep B bbx
    replace bbz := Box.keep B bbz
    replace hx := hx.up B B.size
    replace hp := hp.up B B.size
    replace hb := hb.trans (B.mono hb.size)
    clear B
    clear HND
    cases hn : nodT p X with
    | none =>
      have HV : Hid (atV p X = zeroTr ∧ atE p X = 10) := atV_none HRX.out hn
      rw [show (Option.isSome (none : Option Tr)) = false from rfl]
      clear hy hn
      have u0 := bbz.cell 0
      have u1 := bbz.cell 1
      have u2 := bbz.cell 2
      have u3 := bbz.cell 3
      have g0 := bbz.frozen 0
      have g1 := bbz.frozen 1
      have g2 := bbz.frozen 2
      have g3 := bbz.frozen 3
      have lz := bbz.lt
      simp only [List.getElem?_toArray, List.getElem?_cons_succ, List.getElem?_cons_zero] at u0 u1 u2 u3
      have z := (bbz.four (.int .i64 0) (.int .i64 0) (.string ⟨#[]⟩) (.slice none 0 0)).alloc (.cells #[.int .i64 yk, .int .i64 yn, .string ys, .slice ya ym yc] 25)
      have zb1 := below_four hb (B := w.heap.size + 1) (by omega) (.int .i64 0) (.int .i64 0) (.string ⟨#[]⟩) (.slice none 0 0)
      have zB := zb1.alloc zb1.size (.cells #[.int .i64 yk, .int .i64 yn, .string ys, .slice ya ym yc] 25)
      have zb2 := below_four (Below.refl w.heap.size W2) (B := w.heap.size + 1) (by omega) (.int .i64 0) (.int .i64 0) (.string ⟨#[]⟩) (.slice none 0 0)
      have zb3 := zb2.alloc (Nat.le_trans hb.size zb2.size) (.cells #[.int .i64 yk, .int .i64 yn, .string ys, .slice ya ym yc] 25)
      have zT : IsT (((((W2.setCell ⟨w.heap.size + 1, 0, none⟩ (.int .i64 0)).setCell ⟨w.heap.size + 1, 1, none⟩ (.int .i64 0)).setCell ⟨w.heap.size + 1, 2, none⟩ (.string ⟨#[]⟩)).setCell ⟨w.heap.size + 1, 3, none⟩ (.slice none 0 0)).alloc (.cells #[.int .i64 yk, .int .i64 yn, .string ys, .slice ya ym yc] 25)).heap.size (((((W2.setCell ⟨w.heap.size + 1, 0, none⟩ (.int .i64 0)).setCell ⟨w.heap.size + 1, 1, none⟩ (.int .i64 0)).setCell ⟨w.heap.size + 1, 2, none⟩ (.string ⟨#[]⟩)).setCell ⟨w.heap.size + 1, 3, none⟩ (.slice none 0 0)).alloc (.cells #[.int .i64 yk, .int .i64 yn, .string ys, .slice ya ym yc] 25)) zeroTr (.agg #[.int .i64 0, .int .i64 0, .string ⟨#[]⟩, .slice none 0 0]) := zeroTa _ _
      have HZ := Lib.hid (And.intro zB zT)
      have y0 := z.cell 0
      have y1 := z.cell 1
      have y2 := z.cell 2
      have y3 := z.cell 3
      clear z zB zT zb1 zb2 zb3
      go_wp2_with fail
      clear u0 u1 u2 u3 g0 g1 g2 g3
      generalize (((((W2.setCell ⟨w.heap.size + 1, 0, none⟩ (.int .i64 0)).setCell ⟨w.heap.size + 1, 1, none⟩ (.int .i64 0)).setCell ⟨w.heap.size + 1, 2, none⟩ (.string ⟨#[]⟩)).setCell ⟨w.heap.size + 1, 3, none⟩ (.slice none 0 0)).alloc (.cells #[.int .i64 yk, .int .i64 yn, .string ys, .slice ya ym yc] 25)) = FW at *
      simp at y0 y1 y2 y3
      exact bodyPost_ret (v := .tuple #[.agg #[.int .i64 0, .int .i64 0, .string ⟨#[]⟩, .slice none 0 0], .int .i64 10]) (by simp [results, Tryd.results30, go_sem, y0, y1, y2, y3]) rfl (TaPost.mk HV.out.1 HV.out.2 HZ.out.2 HZ.out.1)
    | some Y =>
      have HV : Hid (atV p X = Y ∧ atE p X = 0) := atV_some HRX.out hn
      rw [show (Option.isSome (some Y)) = true from rfl]
      try rw [hn] at hy
      rw [Option.getD_some] at hy
      clear hn
      have u0 := bbz.cell 0
      have u1 := bbz.cell 1
      have u2 := bbz.cell 2
      have u3 := bbz.cell 3
      have g0 := bbz.frozen 0
      have g1 := bbz.frozen 1
      have g2 := bbz.frozen 2
      have g3 := bbz.frozen 3
      have lz := bbz.lt
      simp only [List.getElem?_toArray, List.getElem?_cons_succ, List.getElem?_cons_zero] at u0 u1 u2 u3
      have z := (bbz.four (.int .i64 yk) (.int .i64 yn) (.string ys) (.slice ya ym yc)).alloc (.cells #[.int .i64 yk, .int .i64 yn, .string ys, .slice ya ym yc] 25)
      have zb1 := below_four hb (B := w.heap.size + 1) (by omega) (.int .i64 yk) (.int .i64 yn) (.string ys) (.slice ya ym yc)
      have zB := zb1.alloc zb1.size (.cells #[.int .i64 yk, .int .i64 yn, .string ys, .slice ya ym yc] 25)
      have zb2 := below_four (Below.refl w.heap.size W2) (B := w.heap.size + 1) (by omega) (.int .i64 yk) (.int .i64 yn) (.string ys) (.slice ya ym yc)
      have zb3 := zb2.alloc (Nat.le_trans hb.size zb2.size) (.cells #[.int .i64 yk, .int .i64 yn, .string ys, .slice ya ym yc] 25)
      have zT : IsT (((((W2.setCell ⟨w.heap.size + 1, 0, none⟩ (.int .i64 yk)).setCell ⟨w.heap.size + 1, 1, none⟩ (.int .i64 yn)).setCell ⟨w.heap.size + 1, 2, none⟩ (.string ys)).setCell ⟨w.heap.size + 1, 3, none⟩ (.slice ya ym yc)).alloc (.cells #[.int .i64 yk, .int .i64 yn, .string ys, .slice ya ym yc] 25)).heap.size (((((W2.setCell ⟨w.heap.size + 1, 0, none⟩ (.int .i64 yk)).setCell ⟨w.heap.size + 1, 1, none⟩ (.int .i64 yn)).setCell ⟨w.heap.size + 1, 2, none⟩ (.string ys)).setCell ⟨w.heap.size + 1, 3, none⟩ (.slice ya ym yc)).alloc (.cells #[.int .i64 yk, .int .i64 yn, .string ys, .slice ya ym yc] 25)) Y (.agg #[.int .i64 yk, .int .i64 yn, .string ys, .slice ya ym yc]) := (hy.below zb3).mono zB.size
      have HZ := Lib.hid (And.intro zB zT)
      have y0 := z.cell 0
      have y1 := z.cell 1
      have y2 := z.cell 2
      have y3 := z.cell 3
      clear z zB zT zb1 zb2 zb3
      go_wp2_with fail
      clear u0 u1 u2 u3 g0 g1 g2 g3
      generalize (((((W2.setCell ⟨w.heap.size + 1, 0, none⟩ (.int .i64 yk)).setCell ⟨w.heap.size + 1, 1, none⟩ (.int .i64 yn)).setCell ⟨w.heap.size + 1, 2, none⟩ (.string ys)).setCell ⟨w.heap.size + 1, 3, none⟩ (.slice ya ym yc)).alloc (.cells #[.int .i64 yk, .int .i64 yn, .string ys, .slice ya ym yc] 25)) = FW at *
      simp at y0 y1 y2 y3
      exact bodyPost_ret (v := .tuple #[.agg #[.int .i64 yk, .int .i64 yn, .string ys, .slice ya ym yc], .int .i64 0]) (by simp [results, Tryd.results30, go_sem, y0, y1, y2, y3]) rfl (TaPost.mk HV.out.1 HV.out.2 HZ.out.2 HZ.out.1)
end Go.Proofs.YtdigiaigbcfccaaDoor
