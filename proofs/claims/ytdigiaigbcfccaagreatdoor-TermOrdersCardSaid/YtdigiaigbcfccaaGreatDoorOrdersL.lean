/- The law of orders: a second reading of Compare, Vars, Times, Ground and Symbols. -/
import Derived.Test.YtdigiaigbcfccaaGreatDoorRefVarl
import Derived.Test.YtdigiaigbcfccaaGreatDoorTwo
namespace Go.Proofs.YtdigiaigbcfccaaGreatDoor
open Go.RowKit Go

theorem ord_cmp (X Y : Tr) (v u : Value) (w : World) (hv : IsT w.heap.size w X v) (hu : IsT w.heap.size w Y u) (hdT : X.deep ≤ 999999999) (hdU : Y.deep ≤ 999999999) :
    Calls Tryz.prog 6 #[v, u] w fun e w' => e = .returned (.tuple #[.int .i64 (ordV X Y), .int .i64 (ordE X Y)]) ∧ Below w.heap.size w w' := compare_any X Y v u w hv hu hdT hdU

set_option maxRecDepth 100000 in
set_option maxHeartbeats 8000000 in
theorem termOrders_any (X Y : Tr) (l : List Tr) (y : Int) (vx vy : Value) (a : Option Addr) (c : Nat) (w : World) (hx : IsT w.heap.size w X vx) (hy : IsT w.heap.size w Y vy) (hl : IsL w.heap.size w l a) (h4 : l.length ≤ c) (h5 : c ≤ maxLen) (hre : c * 56 ≤ 140737488351232) (htab : Lib.TabBelow Tryz.prog w.heap.size w "internal/strconv.uint64pow10" .u64 Lib.pow10Tab) :
    Calls Tryz.prog 3 #[vx, vy, .slice a l.length c, .int .i64 y] w fun e w' => e = .returned (.bool true) ∧ Below w.heap.size w w' := by
  have hlm : l.length ≤ 9223372036854775807 := by unfold maxLen at h5; omega
  obtain ⟨kx, nx, sx, ax, mx, cx, rfl⟩ := (IsT.toP _ _ hx).form
  obtain ⟨ky, ny, sy, ay, my, cy, rfl⟩ := (IsT.toP _ _ hy).form
  have bbx : Box ((w.alloc (.cells #[.int .i64 kx, .int .i64 nx, .string sx, .slice ax mx cx] 24)).alloc (.cells #[.int .i64 ky, .int .i64 ny, .string sy, .slice ay my cy] 24)) w.heap.size #[.int .i64 kx, .int .i64 nx, .string sx, .slice ax mx cx] 24 := (Box.at rfl).alloc _
  have bby : Box ((w.alloc (.cells #[.int .i64 kx, .int .i64 nx, .string sx, .slice ax mx cx] 24)).alloc (.cells #[.int .i64 ky, .int .i64 ny, .string sy, .slice ay my cy] 24)) (w.heap.size + 1) #[.int .i64 ky, .int .i64 ny, .string sy, .slice ay my cy] 24 := Box.at (by simp)
  have hb := below_a2 (Nat.le_refl w.heap.size) (.cells #[.int .i64 kx, .int .i64 nx, .string sx, .slice ax mx cx] 24) (.cells #[.int .i64 ky, .int .i64 ny, .string sy, .slice ay my cy] 24)
  replace hx := hx.up hb hb.size
  replace hy := hy.up hb hb.size
  replace hl := hl.up hb hb.size
  go_enter Tryz.func3, Tryz.ntmps3
  go_wp2_with fail
  refine (sane_any _ (fun w'' h => htab w'' (hb.trans (h.mono hb.size)))).mono ?_
  rintro e W1 ⟨rfl, B⟩
  replace bbx := Box.keep B bbx
  replace bby := Box.keep B bby
  replace hx := hx.up B B.size
  replace hy := hy.up B B.size
  replace hl := hl.up B B.size
  replace hb := hb.trans (B.mono hb.size)
  clear B
  clear htab
  obtain ⟨i0, hi, hz0, hz1, hz2⟩ := info_parts infoTerm
  by_cases h0 : 0 < l.length
  · obtain ⟨b, off, rfl, hbl⟩ := hl.addr h0
    obtain ⟨news, hn1, hn2, hn3, hn4⟩ := IsL.news l b off hl
    have hown := own_new (W := W1) (lo := W1.heap.size) [.int .i64 kx, .int .i64 nx, .string sx, .slice ax mx cx, .int .i64 ky, .int .i64 ny, .string sy, .slice ay my cy] 2 rfl (by unfold maxLen; omega) (Nat.le_refl _)
    have qx0 := bbx.cell 0
    have qx1 := bbx.cell 1
    have qx2 := bbx.cell 2
    have qx3 := bbx.cell 3
    have qy0 := bby.cell 0
    have qy1 := bby.cell 1
    have qy2 := bby.cell 2
    have qy3 := bby.cell 3
    have lx := bbx.lt
    have ly := bby.lt
    simp only [List.getElem?_toArray, List.getElem?_cons_succ, List.getElem?_cons_zero] at qx0 qx1 qx2 qx3 qy0 qy1 qy2 qy3
    have hn5 : ∀ j u, news[j]? = some u → (W1.alloc (.cells #[.int .i64 kx, .int .i64 nx, .string sx, .slice ax mx cx, .int .i64 ky, .int .i64 ny, .string sy, .slice ay my cy] 24)).cell? ((⟨b, off, none⟩ : Addr).add j) = some u := fun j u h => by
      rw [Addr.add_lit]
      exact ((below_a1 (Nat.le_refl W1.heap.size) _).cell (p := ⟨b, off + j, none⟩) hbl).trans (hn2 j u h)
    have hn6 : 2 + l.length ≤ maxLen := by unfold maxLen at h5 ⊢; omega
    have hn7 : (2 + l.length) * 56 ≤ 140737488355328 := by omega
    have hn8 : W1.heap.size ≤ (W1.alloc (.cells #[.int .i64 kx, .int .i64 nx, .string sx, .slice ax mx cx, .int .i64 ky, .int .i64 ny, .string sy, .slice ay my cy] 24)).heap.size := by simp
    go_wp2_with (at_builtin; refine wpList_append_where rfl _ _ 22 rfl W1.heap.size 24 i0 _ 4 56 Tryz.underlying22 hi hz0 hz1 hz2 rfl (by decide) _ _ _ rfl hown ⟨b, off, none⟩ l.length c news rfl hn1 hn5 hn3 hn6 hn7 hn8 ?_)
    intro v2 V2 hown2 hgrow hwh
    have B : Below W1.heap.size W1 V2 := (below_a1 (Nat.le_refl _) _).trans (grown_below' hgrow (by simp) (fun g hg => by cases hg; exact Nat.le_refl _))
    obtain ⟨g, cap, rfl, e1, e2, hL2⟩ := row_two hown2 B hx hy hn4
    replace bbx := Box.keep B bbx
    replace bby := Box.keep B bby
    replace hx := hx.up B B.size
    replace hy := hy.up B B.size
    replace hl := hl.up B B.size
    replace hb := hb.trans (B.mono hb.size)
    clear B
    clear hown hown2 hgrow hwh hn1 hn2 hn3 hn4 hn5 hn6 hn7 hn8 qx0 qx1 qx2 qx3 qy0 qy1 qy2 qy3 lx ly
    have HL2 := Lib.hid hL2
    clear hL2
    go_wp2_with fail
    refine (small_any (X :: Y :: l) _ cap _ (Nat.le_trans e1 e2) HL2.out).mono ?_
    rintro e W2 ⟨rfl, B⟩
    replace bbx := Box.keep B bbx
    replace bby := Box.keep B bby
    replace hx := hx.up B B.size
    replace hy := hy.up B B.size
    replace hl := hl.up B B.size
    replace hb := hb.trans (B.mono hb.size)
    clear B
    clear HL2 e1 e2
    cases hq : smallB (X :: Y :: l) with
    | false =>
      clear hq
      go_wp2_with fail
      go_ret
      exact ⟨rfl, hb⟩
    | true =>
      have HZ : Hid (X.size ≤ 1500 ∧ X.deep ≤ 700 ∧ Y.size ≤ 1500 ∧ Y.deep ≤ 700 ∧ sizeL l ≤ 1500 ∧ ∀ t, t ∈ l → t.size ≤ 1500 ∧ t.deep ≤ 700) := by
        have h1 := small_mem hq (t := X) (by simp)
        have h2 := small_mem hq (t := Y) (by simp)
        have h3 := (small_size hq).1
        simp only [sizeL] at h3
        exact ⟨h1.1, h1.2, h2.1, h2.2, by omega, fun t ht => small_mem hq (List.mem_cons_of_mem _ (List.mem_cons_of_mem _ ht))⟩
      clear hq
      obtain ⟨cp, qcp⟩ : ∃ z, ordV X Y = z := ⟨_, rfl⟩
      replace qcp := Lib.hid qcp
      obtain ⟨ce, qce⟩ : ∃ z, ordE X Y = z := ⟨_, rfl⟩
      replace qce := Lib.hid qce
      obtain ⟨ns, qns⟩ : ∃ z, vrsV l = z := ⟨_, rfl⟩
      replace qns := Lib.hid qns
      obtain ⟨le, qle⟩ : ∃ z, errI (togB l) = z := ⟨_, rfl⟩
      replace qle := Lib.hid qle
      obtain ⟨tm, qtm⟩ : ∃ z, timV y X = z := ⟨_, rfl⟩
      replace qtm := Lib.hid qtm
      obtain ⟨xe, qxe⟩ : ∃ z, errI (isB X) = z := ⟨_, rfl⟩
      replace qxe := Lib.hid qxe
      obtain ⟨gb, qgb⟩ : ∃ z, (isB X && grdB X) = z := ⟨_, rfl⟩
      replace qgb := Lib.hid qgb
      obtain ⟨S, qS⟩ : ∃ z, symV' X = z := ⟨_, rfl⟩
      replace qS := Lib.hid qS
      have HS : Hid (S.length ≤ 1000000) := by have := symV'_len HZ.out.1; rw [qS.out] at this; exact this
      have qx0 := bbx.cell 0
      have qx1 := bbx.cell 1
      have qx2 := bbx.cell 2
      have qx3 := bbx.cell 3
      have qy0 := bby.cell 0
      have qy1 := bby.cell 1
      have qy2 := bby.cell 2
      have qy3 := bby.cell 3
      have lx := bbx.lt
      have ly := bby.lt
      simp only [List.getElem?_toArray, List.getElem?_cons_succ, List.getElem?_cons_zero] at qx0 qx1 qx2 qx3 qy0 qy1 qy2 qy3
      go_wp2_with fail
      clear qx0 qx1 qx2 qx3 qy0 qy1 qy2 qy3 lx ly
      refine ((ord_cmp X Y _ _ _ hx hy (Nat.le_trans HZ.out.2.1 (by decide)) (Nat.le_trans HZ.out.2.2.2.1 (by decide))).mono (fun _ _ h => CpQ.of h qcp.out qce.out)).mono ?_
      rintro e W3 ⟨rfl, B⟩
      replace bbx := Box.keep B bbx
      replace bby := Box.keep B bby
      replace hx := hx.up B B.size
      replace hy := hy.up B B.size
      replace hl := hl.up B B.size
      replace hb := hb.trans (B.mono hb.size)
      clear B
      have qx0 := bbx.cell 0
      have qx1 := bbx.cell 1
      have qx2 := bbx.cell 2
      have qx3 := bbx.cell 3
      have qy0 := bby.cell 0
      have qy1 := bby.cell 1
      have qy2 := bby.cell 2
      have qy3 := bby.cell 3
      have lx := bbx.lt
      have ly := bby.lt
      simp only [List.getElem?_toArray, List.getElem?_cons_succ, List.getElem?_cons_zero] at qx0 qx1 qx2 qx3 qy0 qy1 qy2 qy3
      go_wp2_with fail
      clear qx0 qx1 qx2 qx3 qy0 qy1 qy2 qy3 lx ly
      refine ((refCompare_any X Y _ _ _ hx hy (Nat.le_trans HZ.out.1 (by decide)) (Nat.le_trans HZ.out.2.1 (by decide)) (Nat.le_trans HZ.out.2.2.1 (by decide)) (Nat.le_trans HZ.out.2.2.2.1 (by decide))).mono (fun _ _ h => CpQ.of h qcp.out qce.out)).mono ?_
      rintro e W4 ⟨rfl, B⟩
      replace bbx := Box.keep B bbx
      replace bby := Box.keep B bby
      replace hx := hx.up B B.size
      replace hy := hy.up B B.size
      replace hl := hl.up B B.size
      replace hb := hb.trans (B.mono hb.size)
      clear B
      go_wp2_with fail
      refine ((Vars_any l _ c _ (Nat.le_trans h4 h5) hl (fun t h => by have := HZ.out.2.2.2.2.2 t h; omega)).mono (fun _ _ h => VsQ.of h qns.out qle.out)).mono ?_
      rintro e W5 ⟨un, rfl, hun, B⟩
      replace bbx := Box.keep B bbx
      replace bby := Box.keep B bby
      replace hx := hx.up B B.size
      replace hy := hy.up B B.size
      replace hl := hl.up B B.size
      replace hb := hb.trans (B.mono hb.size)
      clear B
      go_wp2_with fail
      refine ((refVarsV_any l _ c _ hl (Nat.le_trans HZ.out.2.2.2.2.1 (by decide)) (fun t h => by have := HZ.out.2.2.2.2.2 t h; omega)).mono (fun _ _ h => VsQ.of h qns.out qle.out)).mono ?_
      rintro e W6 ⟨uo, rfl, huo, B⟩
      replace bbx := Box.keep B bbx
      replace bby := Box.keep B bby
      replace hx := hx.up B B.size
      replace hy := hy.up B B.size
      replace hl := hl.up B B.size
      replace hun := hun.up B B.size
      replace hb := hb.trans (B.mono hb.size)
      clear B
      have qx0 := bbx.cell 0
      have qx1 := bbx.cell 1
      have qx2 := bbx.cell 2
      have qx3 := bbx.cell 3
      have lx := bbx.lt
      simp only [List.getElem?_toArray, List.getElem?_cons_succ, List.getElem?_cons_zero] at qx0 qx1 qx2 qx3
      go_wp2_with fail
      clear qx0 qx1 qx2 qx3 lx
      refine ((times_any X y _ _ hx (Nat.le_trans HZ.out.2.1 (by decide))).mono (fun _ _ h => CpQ.tms h qtm.out qxe.out)).mono ?_
      rintro e W7 ⟨rfl, B⟩
      replace bbx := Box.keep B bbx
      replace bby := Box.keep B bby
      replace hx := hx.up B B.size
      replace hy := hy.up B B.size
      replace hl := hl.up B B.size
      replace hun := hun.up B B.size
      replace huo := huo.up B B.size
      replace hb := hb.trans (B.mono hb.size)
      clear B
      have qx0 := bbx.cell 0
      have qx1 := bbx.cell 1
      have qx2 := bbx.cell 2
      have qx3 := bbx.cell 3
      have lx := bbx.lt
      simp only [List.getElem?_toArray, List.getElem?_cons_succ, List.getElem?_cons_zero] at qx0 qx1 qx2 qx3
      go_wp2_with fail
      clear qx0 qx1 qx2 qx3 lx
      refine ((refTimes_any X y _ _ hx (Nat.le_trans HZ.out.1 (by decide)) (Nat.le_trans HZ.out.2.1 (by decide))).mono (fun _ _ h => CpQ.tms h qtm.out qxe.out)).mono ?_
      rintro e W8 ⟨rfl, B⟩
      replace bbx := Box.keep B bbx
      replace bby := Box.keep B bby
      replace hx := hx.up B B.size
      replace hy := hy.up B B.size
      replace hl := hl.up B B.size
      replace hun := hun.up B B.size
      replace huo := huo.up B B.size
      replace hb := hb.trans (B.mono hb.size)
      clear B
      go_wp2_with fail
      refine (sane_eqN ns _ _ _ hun huo).mono ?_
      rintro e W9 ⟨rfl, B⟩
      replace bbx := Box.keep B bbx
      replace bby := Box.keep B bby
      replace hx := hx.up B B.size
      replace hy := hy.up B B.size
      replace hl := hl.up B B.size
      replace hun := hun.up B B.size
      replace huo := huo.up B B.size
      replace hb := hb.trans (B.mono hb.size)
      clear B
      clear hun huo
      have qx0 := bbx.cell 0
      have qx1 := bbx.cell 1
      have qx2 := bbx.cell 2
      have qx3 := bbx.cell 3
      have lx := bbx.lt
      simp only [List.getElem?_toArray, List.getElem?_cons_succ, List.getElem?_cons_zero] at qx0 qx1 qx2 qx3
      go_wp2_with fail
      clear qx0 qx1 qx2 qx3 lx
      refine ((ground_any X _ _ hx (Nat.le_trans HZ.out.2.1 (by decide))).mono (fun _ _ h => BoQ.of h qgb.out qxe.out)).mono ?_
      rintro e W10 ⟨rfl, B⟩
      replace bbx := Box.keep B bbx
      replace bby := Box.keep B bby
      replace hx := hx.up B B.size
      replace hy := hy.up B B.size
      replace hl := hl.up B B.size
      replace hb := hb.trans (B.mono hb.size)
      clear B
      have qx0 := bbx.cell 0
      have qx1 := bbx.cell 1
      have qx2 := bbx.cell 2
      have qx3 := bbx.cell 3
      have lx := bbx.lt
      simp only [List.getElem?_toArray, List.getElem?_cons_succ, List.getElem?_cons_zero] at qx0 qx1 qx2 qx3
      go_wp2_with fail
      clear qx0 qx1 qx2 qx3 lx
      refine ((refGround_any X _ _ hx (Nat.le_trans HZ.out.1 (by decide)) (Nat.le_trans HZ.out.2.1 (by decide))).mono (fun _ _ h => BoQ.of h qgb.out qxe.out)).mono ?_
      rintro e W11 ⟨rfl, B⟩
      replace bbx := Box.keep B bbx
      replace bby := Box.keep B bby
      replace hx := hx.up B B.size
      replace hy := hy.up B B.size
      replace hl := hl.up B B.size
      replace hb := hb.trans (B.mono hb.size)
      clear B
      have qx0 := bbx.cell 0
      have qx1 := bbx.cell 1
      have qx2 := bbx.cell 2
      have qx3 := bbx.cell 3
      have lx := bbx.lt
      simp only [List.getElem?_toArray, List.getElem?_cons_succ, List.getElem?_cons_zero] at qx0 qx1 qx2 qx3
      go_wp2_with fail
      clear qx0 qx1 qx2 qx3 lx
      refine ((Symbols_any X _ _ hx (Nat.le_trans HZ.out.2.1 (by decide))).mono (fun _ _ h => SyQ.of h qS.out qxe.out)).mono ?_
      rintro e W12 ⟨us, rfl, hus, B⟩
      replace bbx := Box.keep B bbx
      replace bby := Box.keep B bby
      replace hx := hx.up B B.size
      replace hy := hy.up B B.size
      replace hl := hl.up B B.size
      replace hb := hb.trans (B.mono hb.size)
      clear B
      have qx0 := bbx.cell 0
      have qx1 := bbx.cell 1
      have qx2 := bbx.cell 2
      have qx3 := bbx.cell 3
      have lx := bbx.lt
      simp only [List.getElem?_toArray, List.getElem?_cons_succ, List.getElem?_cons_zero] at qx0 qx1 qx2 qx3
      go_wp2_with fail
      clear qx0 qx1 qx2 qx3 lx
      refine ((refSymbols_any X _ _ hx (Nat.le_trans HZ.out.1 (by decide)) (Nat.le_trans HZ.out.2.1 (by decide))).mono (fun _ _ h => SyQ.ref h qS.out qxe.out)).mono ?_
      rintro e W13 ⟨ut, rfl, hut, B⟩
      replace bbx := Box.keep B bbx
      replace bby := Box.keep B bby
      replace hx := hx.up B B.size
      replace hy := hy.up B B.size
      replace hl := hl.up B B.size
      replace hus := hus.up B B.size
      replace hb := hb.trans (B.mono hb.size)
      clear B
      go_wp2_with fail
      refine (equalY_any S _ _ _ hus hut HS.out).mono ?_
      rintro e W14 ⟨rfl, B⟩
      replace bbx := Box.keep B bbx
      replace bby := Box.keep B bby
      replace hx := hx.up B B.size
      replace hy := hy.up B B.size
      replace hl := hl.up B B.size
      replace hus := hus.up B B.size
      replace hut := hut.up B B.size
      replace hb := hb.trans (B.mono hb.size)
      clear B
      go_wp2_with fail
      go_ret
      exact ⟨rfl, hb⟩
  · replace h0 : l.length = 0 := by omega
    have hsrc : Src Tryz.prog i0.size 22 (.slice a l.length c) 0 [] (W1.alloc (.cells #[.int .i64 kx, .int .i64 nx, .string sx, .slice ax mx cx, .int .i64 ky, .int .i64 ny, .string sy, .slice ay my cy] 24)) := by
      rw [h0]
      rcases a with _ | ad
      · exact Src.ofNil _ Tryz.underlying22 c
      · exact Src.ofSlice _ Tryz.underlying22 ad 0 c [] (by simp) (fun j u h => by simp at h) (fun u hu => by cases hu)
    have hown := own_new (W := W1) (lo := W1.heap.size) [.int .i64 kx, .int .i64 nx, .string sx, .slice ax mx cx, .int .i64 ky, .int .i64 ny, .string sy, .slice ay my cy] 2 rfl (by unfold maxLen; omega) (Nat.le_refl _)
    have B := below_a1 (Nat.le_refl W1.heap.size) (.cells #[.int .i64 kx, .int .i64 nx, .string sx, .slice ax mx cx, .int .i64 ky, .int .i64 ny, .string sy, .slice ay my cy] 24)
    obtain ⟨g, cap, hv, e1, e2, hL2⟩ := row_two (l := l) (news := []) (by rw [h0]; exact hown) B hx hy (fun i hi => by omega)
    simp only [Value.slice.injEq, Option.some.injEq, Addr.mk.injEq] at hv
    obtain ⟨⟨rfl, -, -⟩, -, rfl⟩ := hv
    have qx0 := bbx.cell 0
    have qx1 := bbx.cell 1
    have qx2 := bbx.cell 2
    have qx3 := bbx.cell 3
    have qy0 := bby.cell 0
    have qy1 := bby.cell 1
    have qy2 := bby.cell 2
    have qy3 := bby.cell 3
    have lx := bbx.lt
    have ly := bby.lt
    simp only [List.getElem?_toArray, List.getElem?_cons_succ, List.getElem?_cons_zero] at qx0 qx1 qx2 qx3 qy0 qy1 qy2 qy3
    have HL2 := Lib.hid (And.intro h0 (And.intro hL2 B))
    clear h0 hown hL2 B e1 e2
    go_wp2_with (at_builtin; refine wpList_append_none rfl _ _ 22 rfl 24 i0 Tryz.underlying22 hi _ 2 2 (Nat.le_refl _) rfl _ rfl hsrc ?_)
    go_wp2_with fail
    clear hsrc qx0 qx1 qx2 qx3 qy0 qy1 qy2 qy3 lx ly
    obtain ⟨h0, hL2, B⟩ := HL2.out
    have hq2 := small_any (X :: Y :: l) _ 2 _ (by simp [h0]; unfold maxLen; omega) hL2
    rw [show (X :: Y :: l).length = 2 by simp [h0]] at hq2
    clear hL2 HL2 h0
    replace bbx := Box.keep B bbx
    replace bby := Box.keep B bby
    replace hx := hx.up B B.size
    replace hy := hy.up B B.size
    replace hl := hl.up B B.size
    replace hb := hb.trans (B.mono hb.size)
    clear B
    have HQ2 := Lib.hid hq2
    clear hq2
    refine HQ2.out.mono ?_
    clear HQ2
    generalize (W1.alloc (.cells #[.int .i64 kx, .int .i64 nx, .string sx, .slice ax mx cx, .int .i64 ky, .int .i64 ny, .string sy, .slice ay my cy] 24)) = V2 at *
    rintro e W2 ⟨rfl, B⟩
    replace bbx := Box.keep B bbx
    replace bby := Box.keep B bby
    replace hx := hx.up B B.size
    replace hy := hy.up B B.size
    replace hl := hl.up B B.size
    replace hb := hb.trans (B.mono hb.size)
    clear B
    cases hq : smallB (X :: Y :: l) with
    | false =>
      clear hq
      go_wp2_with fail
      go_ret
      exact ⟨rfl, hb⟩
    | true =>
      have HZ : Hid (X.size ≤ 1500 ∧ X.deep ≤ 700 ∧ Y.size ≤ 1500 ∧ Y.deep ≤ 700 ∧ sizeL l ≤ 1500 ∧ ∀ t, t ∈ l → t.size ≤ 1500 ∧ t.deep ≤ 700) := by
        have h1 := small_mem hq (t := X) (by simp)
        have h2 := small_mem hq (t := Y) (by simp)
        have h3 := (small_size hq).1
        simp only [sizeL] at h3
        exact ⟨h1.1, h1.2, h2.1, h2.2, by omega, fun t ht => small_mem hq (List.mem_cons_of_mem _ (List.mem_cons_of_mem _ ht))⟩
      clear hq
      obtain ⟨cp, qcp⟩ : ∃ z, ordV X Y = z := ⟨_, rfl⟩
      replace qcp := Lib.hid qcp
      obtain ⟨ce, qce⟩ : ∃ z, ordE X Y = z := ⟨_, rfl⟩
      replace qce := Lib.hid qce
      obtain ⟨ns, qns⟩ : ∃ z, vrsV l = z := ⟨_, rfl⟩
      replace qns := Lib.hid qns
      obtain ⟨le, qle⟩ : ∃ z, errI (togB l) = z := ⟨_, rfl⟩
      replace qle := Lib.hid qle
      obtain ⟨tm, qtm⟩ : ∃ z, timV y X = z := ⟨_, rfl⟩
      replace qtm := Lib.hid qtm
      obtain ⟨xe, qxe⟩ : ∃ z, errI (isB X) = z := ⟨_, rfl⟩
      replace qxe := Lib.hid qxe
      obtain ⟨gb, qgb⟩ : ∃ z, (isB X && grdB X) = z := ⟨_, rfl⟩
      replace qgb := Lib.hid qgb
      obtain ⟨S, qS⟩ : ∃ z, symV' X = z := ⟨_, rfl⟩
      replace qS := Lib.hid qS
      have HS : Hid (S.length ≤ 1000000) := by have := symV'_len HZ.out.1; rw [qS.out] at this; exact this
      have qx0 := bbx.cell 0
      have qx1 := bbx.cell 1
      have qx2 := bbx.cell 2
      have qx3 := bbx.cell 3
      have qy0 := bby.cell 0
      have qy1 := bby.cell 1
      have qy2 := bby.cell 2
      have qy3 := bby.cell 3
      have lx := bbx.lt
      have ly := bby.lt
      simp only [List.getElem?_toArray, List.getElem?_cons_succ, List.getElem?_cons_zero] at qx0 qx1 qx2 qx3 qy0 qy1 qy2 qy3
      go_wp2_with fail
      clear qx0 qx1 qx2 qx3 qy0 qy1 qy2 qy3 lx ly
      refine ((ord_cmp X Y _ _ _ hx hy (Nat.le_trans HZ.out.2.1 (by decide)) (Nat.le_trans HZ.out.2.2.2.1 (by decide))).mono (fun _ _ h => CpQ.of h qcp.out qce.out)).mono ?_
      rintro e W3 ⟨rfl, B⟩
      replace bbx := Box.keep B bbx
      replace bby := Box.keep B bby
      replace hx := hx.up B B.size
      replace hy := hy.up B B.size
      replace hl := hl.up B B.size
      replace hb := hb.trans (B.mono hb.size)
      clear B
      have qx0 := bbx.cell 0
      have qx1 := bbx.cell 1
      have qx2 := bbx.cell 2
      have qx3 := bbx.cell 3
      have qy0 := bby.cell 0
      have qy1 := bby.cell 1
      have qy2 := bby.cell 2
      have qy3 := bby.cell 3
      have lx := bbx.lt
      have ly := bby.lt
      simp only [List.getElem?_toArray, List.getElem?_cons_succ, List.getElem?_cons_zero] at qx0 qx1 qx2 qx3 qy0 qy1 qy2 qy3
      go_wp2_with fail
      clear qx0 qx1 qx2 qx3 qy0 qy1 qy2 qy3 lx ly
      refine ((refCompare_any X Y _ _ _ hx hy (Nat.le_trans HZ.out.1 (by decide)) (Nat.le_trans HZ.out.2.1 (by decide)) (Nat.le_trans HZ.out.2.2.1 (by decide)) (Nat.le_trans HZ.out.2.2.2.1 (by decide))).mono (fun _ _ h => CpQ.of h qcp.out qce.out)).mono ?_
      rintro e W4 ⟨rfl, B⟩
      replace bbx := Box.keep B bbx
      replace bby := Box.keep B bby
      replace hx := hx.up B B.size
      replace hy := hy.up B B.size
      replace hl := hl.up B B.size
      replace hb := hb.trans (B.mono hb.size)
      clear B
      go_wp2_with fail
      refine ((Vars_any l _ c _ (Nat.le_trans h4 h5) hl (fun t h => by have := HZ.out.2.2.2.2.2 t h; omega)).mono (fun _ _ h => VsQ.of h qns.out qle.out)).mono ?_
      rintro e W5 ⟨un, rfl, hun, B⟩
      replace bbx := Box.keep B bbx
      replace bby := Box.keep B bby
      replace hx := hx.up B B.size
      replace hy := hy.up B B.size
      replace hl := hl.up B B.size
      replace hb := hb.trans (B.mono hb.size)
      clear B
      go_wp2_with fail
      refine ((refVarsV_any l _ c _ hl (Nat.le_trans HZ.out.2.2.2.2.1 (by decide)) (fun t h => by have := HZ.out.2.2.2.2.2 t h; omega)).mono (fun _ _ h => VsQ.of h qns.out qle.out)).mono ?_
      rintro e W6 ⟨uo, rfl, huo, B⟩
      replace bbx := Box.keep B bbx
      replace bby := Box.keep B bby
      replace hx := hx.up B B.size
      replace hy := hy.up B B.size
      replace hl := hl.up B B.size
      replace hun := hun.up B B.size
      replace hb := hb.trans (B.mono hb.size)
      clear B
      have qx0 := bbx.cell 0
      have qx1 := bbx.cell 1
      have qx2 := bbx.cell 2
      have qx3 := bbx.cell 3
      have lx := bbx.lt
      simp only [List.getElem?_toArray, List.getElem?_cons_succ, List.getElem?_cons_zero] at qx0 qx1 qx2 qx3
      go_wp2_with fail
      clear qx0 qx1 qx2 qx3 lx
      refine ((times_any X y _ _ hx (Nat.le_trans HZ.out.2.1 (by decide))).mono (fun _ _ h => CpQ.tms h qtm.out qxe.out)).mono ?_
      rintro e W7 ⟨rfl, B⟩
      replace bbx := Box.keep B bbx
      replace bby := Box.keep B bby
      replace hx := hx.up B B.size
      replace hy := hy.up B B.size
      replace hl := hl.up B B.size
      replace hun := hun.up B B.size
      replace huo := huo.up B B.size
      replace hb := hb.trans (B.mono hb.size)
      clear B
      have qx0 := bbx.cell 0
      have qx1 := bbx.cell 1
      have qx2 := bbx.cell 2
      have qx3 := bbx.cell 3
      have lx := bbx.lt
      simp only [List.getElem?_toArray, List.getElem?_cons_succ, List.getElem?_cons_zero] at qx0 qx1 qx2 qx3
      go_wp2_with fail
      clear qx0 qx1 qx2 qx3 lx
      refine ((refTimes_any X y _ _ hx (Nat.le_trans HZ.out.1 (by decide)) (Nat.le_trans HZ.out.2.1 (by decide))).mono (fun _ _ h => CpQ.tms h qtm.out qxe.out)).mono ?_
      rintro e W8 ⟨rfl, B⟩
      replace bbx := Box.keep B bbx
      replace bby := Box.keep B bby
      replace hx := hx.up B B.size
      replace hy := hy.up B B.size
      replace hl := hl.up B B.size
      replace hun := hun.up B B.size
      replace huo := huo.up B B.size
      replace hb := hb.trans (B.mono hb.size)
      clear B
      go_wp2_with fail
      refine (sane_eqN ns _ _ _ hun huo).mono ?_
      rintro e W9 ⟨rfl, B⟩
      replace bbx := Box.keep B bbx
      replace bby := Box.keep B bby
      replace hx := hx.up B B.size
      replace hy := hy.up B B.size
      replace hl := hl.up B B.size
      replace hun := hun.up B B.size
      replace huo := huo.up B B.size
      replace hb := hb.trans (B.mono hb.size)
      clear B
      clear hun huo
      have qx0 := bbx.cell 0
      have qx1 := bbx.cell 1
      have qx2 := bbx.cell 2
      have qx3 := bbx.cell 3
      have lx := bbx.lt
      simp only [List.getElem?_toArray, List.getElem?_cons_succ, List.getElem?_cons_zero] at qx0 qx1 qx2 qx3
      go_wp2_with fail
      clear qx0 qx1 qx2 qx3 lx
      refine ((ground_any X _ _ hx (Nat.le_trans HZ.out.2.1 (by decide))).mono (fun _ _ h => BoQ.of h qgb.out qxe.out)).mono ?_
      rintro e W10 ⟨rfl, B⟩
      replace bbx := Box.keep B bbx
      replace bby := Box.keep B bby
      replace hx := hx.up B B.size
      replace hy := hy.up B B.size
      replace hl := hl.up B B.size
      replace hb := hb.trans (B.mono hb.size)
      clear B
      have qx0 := bbx.cell 0
      have qx1 := bbx.cell 1
      have qx2 := bbx.cell 2
      have qx3 := bbx.cell 3
      have lx := bbx.lt
      simp only [List.getElem?_toArray, List.getElem?_cons_succ, List.getElem?_cons_zero] at qx0 qx1 qx2 qx3
      go_wp2_with fail
      clear qx0 qx1 qx2 qx3 lx
      refine ((refGround_any X _ _ hx (Nat.le_trans HZ.out.1 (by decide)) (Nat.le_trans HZ.out.2.1 (by decide))).mono (fun _ _ h => BoQ.of h qgb.out qxe.out)).mono ?_
      rintro e W11 ⟨rfl, B⟩
      replace bbx := Box.keep B bbx
      replace bby := Box.keep B bby
      replace hx := hx.up B B.size
      replace hy := hy.up B B.size
      replace hl := hl.up B B.size
      replace hb := hb.trans (B.mono hb.size)
      clear B
      have qx0 := bbx.cell 0
      have qx1 := bbx.cell 1
      have qx2 := bbx.cell 2
      have qx3 := bbx.cell 3
      have lx := bbx.lt
      simp only [List.getElem?_toArray, List.getElem?_cons_succ, List.getElem?_cons_zero] at qx0 qx1 qx2 qx3
      go_wp2_with fail
      clear qx0 qx1 qx2 qx3 lx
      refine ((Symbols_any X _ _ hx (Nat.le_trans HZ.out.2.1 (by decide))).mono (fun _ _ h => SyQ.of h qS.out qxe.out)).mono ?_
      rintro e W12 ⟨us, rfl, hus, B⟩
      replace bbx := Box.keep B bbx
      replace bby := Box.keep B bby
      replace hx := hx.up B B.size
      replace hy := hy.up B B.size
      replace hl := hl.up B B.size
      replace hb := hb.trans (B.mono hb.size)
      clear B
      have qx0 := bbx.cell 0
      have qx1 := bbx.cell 1
      have qx2 := bbx.cell 2
      have qx3 := bbx.cell 3
      have lx := bbx.lt
      simp only [List.getElem?_toArray, List.getElem?_cons_succ, List.getElem?_cons_zero] at qx0 qx1 qx2 qx3
      go_wp2_with fail
      clear qx0 qx1 qx2 qx3 lx
      refine ((refSymbols_any X _ _ hx (Nat.le_trans HZ.out.1 (by decide)) (Nat.le_trans HZ.out.2.1 (by decide))).mono (fun _ _ h => SyQ.ref h qS.out qxe.out)).mono ?_
      rintro e W13 ⟨ut, rfl, hut, B⟩
      replace bbx := Box.keep B bbx
      replace bby := Box.keep B bby
      replace hx := hx.up B B.size
      replace hy := hy.up B B.size
      replace hl := hl.up B B.size
      replace hus := hus.up B B.size
      replace hb := hb.trans (B.mono hb.size)
      clear B
      go_wp2_with fail
      refine (equalY_any S _ _ _ hus hut HS.out).mono ?_
      rintro e W14 ⟨rfl, B⟩
      replace bbx := Box.keep B bbx
      replace bby := Box.keep B bby
      replace hx := hx.up B B.size
      replace hy := hy.up B B.size
      replace hl := hl.up B B.size
      replace hus := hus.up B B.size
      replace hut := hut.up B B.size
      replace hb := hb.trans (B.mono hb.size)
      clear B
      go_wp2_with fail
      go_ret
      exact ⟨rfl, hb⟩
end Go.Proofs.YtdigiaigbcfccaaGreatDoor
