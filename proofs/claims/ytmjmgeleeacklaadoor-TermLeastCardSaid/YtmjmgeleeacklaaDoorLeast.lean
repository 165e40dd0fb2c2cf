import Derived.Test.YtmjmgeleeacklaaDoorVariant
import Derived.Test.YtmjmgeleeacklaaDoorSane
namespace Go.Proofs.YtmjmgeleeacklaaDoor
open Go.RowKit Go

theorem isS4 {W : World} {T U V X : Tr} {v0 v1 v2 v3 u0 u1 u2 u3 w0 w1 w2 w3 x0 x1 x2 x3 : Value} (h : IsT W.heap.size W T (.agg #[v0, v1, v2, v3])) (k : IsT W.heap.size W U (.agg #[u0, u1, u2, u3])) (m : IsT W.heap.size W V (.agg #[w0, w1, w2, w3])) (n : IsT W.heap.size W X (.agg #[x0, x1, x2, x3])) :
    IsS (W.alloc (.cells #[v0, v1, v2, v3, u0, u1, u2, u3, w0, w1, w2, w3, x0, x1, x2, x3] 25)).heap.size (W.alloc (.cells #[v0, v1, v2, v3, u0, u1, u2, u3, w0, w1, w2, w3, x0, x1, x2, x3] 25)) [T, U, V, X] (.slice (some ⟨W.heap.size, 0, none⟩) 4 4) := by
  have hb : Box (W.alloc (.cells #[v0, v1, v2, v3, u0, u1, u2, u3, w0, w1, w2, w3, x0, x1, x2, x3] 25)) W.heap.size #[v0, v1, v2, v3, u0, u1, u2, u3, w0, w1, w2, w3, x0, x1, x2, x3] 25 := Box.at rfl
  exact ⟨_, 4, rfl, by simp, by decide, IsL.cons (by simp) (hb.cell 0) (hb.cell 1) (hb.cell 2) (hb.cell 3) (h.up (below_a1 (Nat.le_refl _) _) (size_a1 (Nat.le_refl _) _)) (IsL.cons (by simp) (hb.cell 4) (hb.cell 5) (hb.cell 6) (hb.cell 7) (k.up (below_a1 (Nat.le_refl _) _) (size_a1 (Nat.le_refl _) _)) (IsL.cons (by simp) (hb.cell 8) (hb.cell 9) (hb.cell 10) (hb.cell 11) (m.up (below_a1 (Nat.le_refl _) _) (size_a1 (Nat.le_refl _) _)) (IsL.cons (by simp) (hb.cell 12) (hb.cell 13) (hb.cell 14) (hb.cell 15) (n.up (below_a1 (Nat.le_refl _) _) (size_a1 (Nat.le_refl _) _)) IsL.nil)))⟩
theorem general_ok {T U : Tr} (hT : isB T = true) (hU : isB U = true) (v u : Value) (w : World) (h : IsT w.heap.size w T v) (k : IsT w.heap.size w U u) (htab : Lib.TabBelow Tryd.prog w.heap.size w "internal/strconv.uint64pow10" .u64 Lib.pow10Tab) :
    Calls Tryd.prog 51 #[v, u] w fun e w' => ∃ k n s a m c, e = .returned (.tuple #[.agg #[.int .i64 k, .int .i64 n, .string s, .slice a m c], .int .i64 0]) ∧ IsT w'.heap.size w' (genR T U) (.agg #[.int .i64 k, .int .i64 n, .string s, .slice a m c]) ∧ Below w.heap.size w w' := by
  refine (General_any T U v u w h k (by have := (isB_size hT).2; omega) (by have := (isB_size hU).2; omega) htab).mono ?_
  rintro e w' ⟨hB, x, rfl, hP⟩
  rw [hT, hU]
  have hx := New.toT hP
  obtain ⟨k, n, s, a, m, c, rfl⟩ := hP.form
  exact ⟨k, n, s, a, m, c, rfl, hx, hB⟩
theorem instance_ok {T U : Tr} (hT : isB T = true) (hU : isB U = true) (v u : Value) (w : World) (h : IsT w.heap.size w T v) (k : IsT w.heap.size w U u) (b : Bool) (hb : instB T U = b) : Calls Tryd.prog 58 #[v, u] w fun e w' => e = .returned (.bool b) ∧ Below w.heap.size w w' := by
  subst hb
  exact instance_any T U v u w h k (by have := (isB_size hT).2; omega) (by have := (isB_size hU).2; omega)
theorem variant_ok {T U : Tr} (hT : isB T = true) (hU : isB U = true) (v u : Value) (w : World) (h : IsT w.heap.size w T v) (k : IsT w.heap.size w U u) (b : Bool) (hb : varR T U = b) : Calls Tryd.prog 59 #[v, u] w fun e w' => e = .returned (.bool b) ∧ Below w.heap.size w w' := by
  subst hb
  exact variant_any T U v u w h k (by have := (isB_size hT).2; omega) (by have := (isB_size hU).2; omega)

set_option maxRecDepth 100000 in
set_option maxHeartbeats 8000000 in
theorem termLeast_any (X Y Z H : Tr) (vx vy vz vh : Value) (w : World) (hx : IsT w.heap.size w X vx) (hy : IsT w.heap.size w Y vy) (hz : IsT w.heap.size w Z vz) (hh : IsT w.heap.size w H vh) (htab : Lib.TabBelow Tryd.prog w.heap.size w "internal/strconv.uint64pow10" .u64 Lib.pow10Tab) :
    Calls Tryd.prog 8 #[vx, vy, vz, vh] w fun e w' => e = .returned (.bool true) ∧ Below w.heap.size w w' := by
  obtain ⟨kx, nx, sx, ax, mx, cx, rfl⟩ := (IsT.toP _ _ hx).form
  obtain ⟨ky, ny, sy, ay, my, cy, rfl⟩ := (IsT.toP _ _ hy).form
  obtain ⟨kz, nz, sz, az, mz, cz, rfl⟩ := (IsT.toP _ _ hz).form
  obtain ⟨kh, nh, sh, ah, mh, ch, rfl⟩ := (IsT.toP _ _ hh).form
  have bbx : Box ((((w.alloc (.cells #[.int .i64 kx, .int .i64 nx, .string sx, .slice ax mx cx] 25)).alloc (.cells #[.int .i64 ky, .int .i64 ny, .string sy, .slice ay my cy] 25)).alloc (.cells #[.int .i64 kz, .int .i64 nz, .string sz, .slice az mz cz] 25)).alloc (.cells #[.int .i64 kh, .int .i64 nh, .string sh, .slice ah mh ch] 25)) w.heap.size #[.int .i64 kx, .int .i64 nx, .string sx, .slice ax mx cx] 25 := (((Box.at rfl).alloc _).alloc _).alloc _
  have bby : Box ((((w.alloc (.cells #[.int .i64 kx, .int .i64 nx, .string sx, .slice ax mx cx] 25)).alloc (.cells #[.int .i64 ky, .int .i64 ny, .string sy, .slice ay my cy] 25)).alloc (.cells #[.int .i64 kz, .int .i64 nz, .string sz, .slice az mz cz] 25)).alloc (.cells #[.int .i64 kh, .int .i64 nh, .string sh, .slice ah mh ch] 25)) (w.heap.size + 1) #[.int .i64 ky, .int .i64 ny, .string sy, .slice ay my cy] 25 := ((Box.at (by simp)).alloc _).alloc _
  have bbz : Box ((((w.alloc (.cells #[.int .i64 kx, .int .i64 nx, .string sx, .slice ax mx cx] 25)).alloc (.cells #[.int .i64 ky, .int .i64 ny, .string sy, .slice ay my cy] 25)).alloc (.cells #[.int .i64 kz, .int .i64 nz, .string sz, .slice az mz cz] 25)).alloc (.cells #[.int .i64 kh, .int .i64 nh, .string sh, .slice ah mh ch] 25)) (w.heap.size + 1 + 1) #[.int .i64 kz, .int .i64 nz, .string sz, .slice az mz cz] 25 := (Box.at (by simp)).alloc _
  have bbh : Box ((((w.alloc (.cells #[.int .i64 kx, .int .i64 nx, .string sx, .slice ax mx cx] 25)).alloc (.cells #[.int .i64 ky, .int .i64 ny, .string sy, .slice ay my cy] 25)).alloc (.cells #[.int .i64 kz, .int .i64 nz, .string sz, .slice az mz cz] 25)).alloc (.cells #[.int .i64 kh, .int .i64 nh, .string sh, .slice ah mh ch] 25)) (w.heap.size + 1 + 1 + 1) #[.int .i64 kh, .int .i64 nh, .string sh, .slice ah mh ch] 25 := Box.at (by simp)
  have hb := below_a4 (Nat.le_refl w.heap.size) (.cells #[.int .i64 kx, .int .i64 nx, .string sx, .slice ax mx cx] 25) (.cells #[.int .i64 ky, .int .i64 ny, .string sy, .slice ay my cy] 25) (.cells #[.int .i64 kz, .int .i64 nz, .string sz, .slice az mz cz] 25) (.cells #[.int .i64 kh, .int .i64 nh, .string sh, .slice ah mh ch] 25)
  replace hx := hx.up hb hb.size
  replace hy := hy.up hb hb.size
  replace hz := hz.up hb hb.size
  replace hh := hh.up hb hb.size
  go_enter Tryd.func8, Tryd.ntmps8
  go_wp2_with fail
  refine (sane_any _ (fun w'' h => htab w'' (hb.trans (h.mono hb.size)))).mono ?_
  rintro e W1 ⟨rfl, B⟩
  replace bbx := Box.keep B bbx
  replace bby := Box.keep B bby
  replace bbz := Box.keep B bbz
  replace bbh := Box.keep B bbh
  replace hx := hx.up B B.size
  replace hy := hy.up B B.size
  replace hz := hz.up B B.size
  replace hh := hh.up B B.size
  replace hb := hb.trans (B.mono hb.size)
  clear B
  have qx0 := bbx.cell 0
  have qx1 := bbx.cell 1
  have qx2 := bbx.cell 2
  have qx3 := bbx.cell 3
  have qy0 := bby.cell 0
  have qy1 := bby.cell 1
  have qy2 := bby.cell 2
  have qy3 := bby.cell 3
  have qz0 := bbz.cell 0
  have qz1 := bbz.cell 1
  have qz2 := bbz.cell 2
  have qz3 := bbz.cell 3
  have qh0 := bbh.cell 0
  have qh1 := bbh.cell 1
  have qh2 := bbh.cell 2
  have qh3 := bbh.cell 3
  have lx := bbx.lt
  have ly := bby.lt
  have lz := bbz.lt
  have lh := bbh.lt
  simp only [List.getElem?_toArray, List.getElem?_cons_succ, List.getElem?_cons_zero] at qx0 qx1 qx2 qx3 qy0 qy1 qy2 qy3 qz0 qz1 qz2 qz3 qh0 qh1 qh2 qh3
  go_wp2_with fail
  clear qx0 qx1 qx2 qx3 qy0 qy1 qy2 qy3 qz0 qz1 qz2 qz3 qh0 qh1 qh2 qh3 lx ly lz lh
  obtain ⟨sa0, sc0, he0, hs1, hs2, hs3⟩ := isS4 hx hy hz hh
  cases he0
  refine (right_any [X, Y, Z, H] _ 4 _ (by unfold maxLen; simp) hs3).mono ?_
  rintro e W2 ⟨rfl, B⟩
  replace B := up1 B
  replace bbx := Box.keep B bbx
  replace bby := Box.keep B bby
  replace bbz := Box.keep B bbz
  replace bbh := Box.keep B bbh
  replace hx := hx.up B B.size
  replace hy := hy.up B B.size
  replace hz := hz.up B B.size
  replace hh := hh.up B B.size
  replace hb := hb.trans (B.mono hb.size)
  clear B
  clear hs1 hs2 hs3
  cases hr : rightB [X, Y, Z, H] with
  | false =>
    clear hr
    go_wp2_with fail
    go_ret
    exact ⟨rfl, hb⟩
  | true =>
    have iX := (rightB_mem hr (t := X) (by simp)).1
    have iY := (rightB_mem hr (t := Y) (by simp)).1
    have iZ := (rightB_mem hr (t := Z) (by simp)).1
    have iH := (rightB_mem hr (t := H) (by simp)).1
    have HI := Lib.hid (And.intro iX (And.intro iY (And.intro iZ (And.intro iH (And.intro (gen_isB iX iY) (And.intro (gen_isB iX iX) (And.intro (gen_isB iY iX) (And.intro (gen_isB (gen_isB iX iY) iZ) (And.intro (gen_isB iY iZ) (gen_isB iX (gen_isB iY iZ)))))))))))
    have F1 : Hid (instB (genR X Y) X = true ∧ instB (genR X Y) Y = true) := ⟨(instB_iff (gen_isB iX iY) iX).2 (gen_left iX iY).1, (instB_iff (gen_isB iX iY) iY).2 (gen_left iX iY).2⟩
    have F2 : Hid (instB H X = true → instB H Y = true → instB H (genR X Y) = true) := fun h1 h2 => (instB_iff iH (gen_isB iX iY)).2 (gen_least iX iY ((instB_iff iH iX).1 h1) ((instB_iff iH iY).1 h2))
    have F3 : Hid (varR (genR X X) X = true ∧ varR (genR Y X) (genR X Y) = true ∧ varR (genR (genR X Y) Z) (genR X (genR Y Z)) = true) := ⟨gen_self iX, gen_comm iX iY, gen_assoc iX iY iZ⟩
    clear hr iX iY iZ iH
    have qx0 := bbx.cell 0
    have qx1 := bbx.cell 1
    have qx2 := bbx.cell 2
    have qx3 := bbx.cell 3
    have qy0 := bby.cell 0
    have qy1 := bby.cell 1
    have qy2 := bby.cell 2
    have qy3 := bby.cell 3
    have lx := bbx.lt
    have ly := bby.lt
    simp only [List.getElem?_toArray, List.getElem?_cons_succ, List.getElem?_cons_zero] at qx0 qx1 qx2 qx3 qy0 qy1 qy2 qy3
    go_wp2_with fail
    clear qx0 qx1 qx2 qx3 qy0 qy1 qy2 qy3 lx ly
    refine (general_ok HI.out.1 HI.out.2.1 _ _ _ hx hy (fun w'' h => htab w'' (hb.trans (h.mono hb.size)))).mono ?_
    rintro e W3 ⟨kg, ng, sg, ag, mg, cg, rfl, hg, B⟩
    replace bbx := Box.keep B bbx
    replace bby := Box.keep B bby
    replace bbz := Box.keep B bbz
    replace bbh := Box.keep B bbh
    replace hx := hx.up B B.size
    replace hy := hy.up B B.size
    replace hz := hz.up B B.size
    replace hh := hh.up B B.size
    replace hb := hb.trans (B.mono hb.size)
    clear B
    have qx0 := bbx.cell 0
    have qx1 := bbx.cell 1
    have qx2 := bbx.cell 2
    have qx3 := bbx.cell 3
    have qy0 := bby.cell 0
    have qy1 := bby.cell 1
    have qy2 := bby.cell 2
    have qy3 := bby.cell 3
    have lx := bbx.lt
    have ly := bby.lt
    simp only [List.getElem?_toArray, List.getElem?_cons_succ, List.getElem?_cons_zero] at qx0 qx1 qx2 qx3 qy0 qy1 qy2 qy3
    go_wp2_with fail
    clear qx0 qx1 qx2 qx3 qy0 qy1 qy2 qy3 lx ly
    have bbg : Box (W3.alloc (.cells #[.int .i64 kg, .int .i64 ng, .string sg, .slice ag mg cg] 25)) W3.heap.size #[.int .i64 kg, .int .i64 ng, .string sg, .slice ag mg cg] 25 := Box.at rfl
    have B := below_a1 (Nat.le_refl W3.heap.size) (.cells #[.int .i64 kg, .int .i64 ng, .string sg, .slice ag mg cg] 25)
    replace bbx := Box.keep B bbx
    replace bby := Box.keep B bby
    replace bbz := Box.keep B bbz
    replace bbh := Box.keep B bbh
    replace hx := hx.up B B.size
    replace hy := hy.up B B.size
    replace hz := hz.up B B.size
    replace hh := hh.up B B.size
    replace hg := hg.up B B.size
    replace hb := hb.trans (B.mono hb.size)
    clear B
    generalize (W3.alloc (.cells #[.int .i64 kg, .int .i64 ng, .string sg, .slice ag mg cg] 25)) = V4 at *
    refine (instance_ok HI.out.2.2.2.2.1 HI.out.1 _ _ _ hg hx true F1.out.1).mono ?_
    rintro e W5 ⟨rfl, B⟩
    replace bbx := Box.keep B bbx
    replace bby := Box.keep B bby
    replace bbz := Box.keep B bbz
    replace bbh := Box.keep B bbh
    replace bbg := Box.keep B bbg
    replace hx := hx.up B B.size
    replace hy := hy.up B B.size
    replace hz := hz.up B B.size
    replace hh := hh.up B B.size
    replace hg := hg.up B B.size
    replace hb := hb.trans (B.mono hb.size)
    clear B
    have qg0 := bbg.cell 0
    have qg1 := bbg.cell 1
    have qg2 := bbg.cell 2
    have qg3 := bbg.cell 3
    have qx0 := bbx.cell 0
    have qx1 := bbx.cell 1
    have qx2 := bbx.cell 2
    have qx3 := bbx.cell 3
    have qy0 := bby.cell 0
    have qy1 := bby.cell 1
    have qy2 := bby.cell 2
    have qy3 := bby.cell 3
    have lg := bbg.lt
    have lx := bbx.lt
    have ly := bby.lt
    simp only [List.getElem?_toArray, List.getElem?_cons_succ, List.getElem?_cons_zero] at qg0 qg1 qg2 qg3 qx0 qx1 qx2 qx3 qy0 qy1 qy2 qy3
    go_wp2_with fail
    clear qg0 qg1 qg2 qg3 qx0 qx1 qx2 qx3 qy0 qy1 qy2 qy3 lg lx ly
    refine (instance_ok HI.out.2.2.2.2.1 HI.out.2.1 _ _ _ hg hy true F1.out.2).mono ?_
    rintro e W6 ⟨rfl, B⟩
    replace bbx := Box.keep B bbx
    replace bby := Box.keep B bby
    replace bbz := Box.keep B bbz
    replace bbh := Box.keep B bbh
    replace bbg := Box.keep B bbg
    replace hx := hx.up B B.size
    replace hy := hy.up B B.size
    replace hz := hz.up B B.size
    replace hh := hh.up B B.size
    replace hg := hg.up B B.size
    replace hb := hb.trans (B.mono hb.size)
    clear B
    have qh0 := bbh.cell 0
    have qh1 := bbh.cell 1
    have qh2 := bbh.cell 2
    have qh3 := bbh.cell 3
    have qx0 := bbx.cell 0
    have qx1 := bbx.cell 1
    have qx2 := bbx.cell 2
    have qx3 := bbx.cell 3
    have lh := bbh.lt
    have lx := bbx.lt
    simp only [List.getElem?_toArray, List.getElem?_cons_succ, List.getElem?_cons_zero] at qh0 qh1 qh2 qh3 qx0 qx1 qx2 qx3
    go_wp2_with fail
    clear qh0 qh1 qh2 qh3 qx0 qx1 qx2 qx3 lh lx
    obtain ⟨r1, hr1⟩ : ∃ r1, instB H X = r1 := ⟨_, rfl⟩
    obtain ⟨r2, hr2⟩ : ∃ r2, instB H Y = r2 := ⟨_, rfl⟩
    obtain ⟨r3, hr3⟩ : ∃ r3, instB H (genR X Y) = r3 := ⟨_, rfl⟩
    rw [hr1, hr2, hr3] at F2
    have HR := Lib.hid (And.intro hr1 (And.intro hr2 hr3))
    clear hr1 hr2 hr3
    refine (instance_ok HI.out.2.2.2.1 HI.out.1 _ _ _ hh hx r1 HR.out.1).mono ?_
    rintro e W7 ⟨rfl, B⟩
    replace bbx := Box.keep B bbx
    replace bby := Box.keep B bby
    replace bbz := Box.keep B bbz
    replace bbh := Box.keep B bbh
    replace bbg := Box.keep B bbg
    replace hx := hx.up B B.size
    replace hy := hy.up B B.size
    replace hz := hz.up B B.size
    replace hh := hh.up B B.size
    replace hg := hg.up B B.size
    replace hb := hb.trans (B.mono hb.size)
    clear B
    cases r1 with
    | false =>
      clear bbh hh
      have qx0 := bbx.cell 0
      have qx1 := bbx.cell 1
      have qx2 := bbx.cell 2
      have qx3 := bbx.cell 3
      have lx := bbx.lt
      simp only [List.getElem?_toArray, List.getElem?_cons_succ, List.getElem?_cons_zero] at qx0 qx1 qx2 qx3
      go_wp2_with fail
      clear qx0 qx1 qx2 qx3 lx
      refine (general_ok HI.out.1 HI.out.1 _ _ _ hx hx (fun w'' h => htab w'' (hb.trans (h.mono hb.size)))).mono ?_
      rintro e W8 ⟨kq, nq, sq, aq, mq, cq, rfl, hq, B⟩
      replace bbx := Box.keep B bbx
      replace bby := Box.keep B bby
      replace bbz := Box.keep B bbz
      replace bbg := Box.keep B bbg
      replace hx := hx.up B B.size
      replace hy := hy.up B B.size
      replace hz := hz.up B B.size
      replace hg := hg.up B B.size
      replace hb := hb.trans (B.mono hb.size)
      clear B
      have qx0 := bbx.cell 0
      have qx1 := bbx.cell 1
      have qx2 := bbx.cell 2
      have qx3 := bbx.cell 3
      have qy0 := bby.cell 0
      have qy1 := bby.cell 1
      have qy2 := bby.cell 2
      have qy3 := bby.cell 3
      have lx := bbx.lt
      have ly := bby.lt
      simp only [List.getElem?_toArray, List.getElem?_cons_succ, List.getElem?_cons_zero] at qx0 qx1 qx2 qx3 qy0 qy1 qy2 qy3
      go_wp2_with fail
      clear qx0 qx1 qx2 qx3 qy0 qy1 qy2 qy3 lx ly
      have bbq : Box (W8.alloc (.cells #[.int .i64 kq, .int .i64 nq, .string sq, .slice aq mq cq] 25)) W8.heap.size #[.int .i64 kq, .int .i64 nq, .string sq, .slice aq mq cq] 25 := Box.at rfl
      have B := below_a1 (Nat.le_refl W8.heap.size) (.cells #[.int .i64 kq, .int .i64 nq, .string sq, .slice aq mq cq] 25)
      replace bbx := Box.keep B bbx
      replace bby := Box.keep B bby
      replace bbz := Box.keep B bbz
      replace bbg := Box.keep B bbg
      replace hx := hx.up B B.size
      replace hy := hy.up B B.size
      replace hz := hz.up B B.size
      replace hg := hg.up B B.size
      replace hq := hq.up B B.size
      replace hb := hb.trans (B.mono hb.size)
      clear B
      generalize (W8.alloc (.cells #[.int .i64 kq, .int .i64 nq, .string sq, .slice aq mq cq] 25)) = V9 at *
      refine (general_ok HI.out.2.1 HI.out.1 _ _ _ hy hx (fun w'' h => htab w'' (hb.trans (h.mono hb.size)))).mono ?_
      rintro e W10 ⟨kr, nr, sr, ar, mr, cr, rfl, hr, B⟩
      replace bbx := Box.keep B bbx
      replace bby := Box.keep B bby
      replace bbz := Box.keep B bbz
      replace bbg := Box.keep B bbg
      replace bbq := Box.keep B bbq
      replace hx := hx.up B B.size
      replace hy := hy.up B B.size
      replace hz := hz.up B B.size
      replace hg := hg.up B B.size
      replace hq := hq.up B B.size
      replace hb := hb.trans (B.mono hb.size)
      clear B
      have qq0 := bbq.cell 0
      have qq1 := bbq.cell 1
      have qq2 := bbq.cell 2
      have qq3 := bbq.cell 3
      have qx0 := bbx.cell 0
      have qx1 := bbx.cell 1
      have qx2 := bbx.cell 2
      have qx3 := bbx.cell 3
      have lq := bbq.lt
      have lx := bbx.lt
      simp only [List.getElem?_toArray, List.getElem?_cons_succ, List.getElem?_cons_zero] at qq0 qq1 qq2 qq3 qx0 qx1 qx2 qx3
      go_wp2_with fail
      clear qq0 qq1 qq2 qq3 qx0 qx1 qx2 qx3 lq lx
      have bbr : Box (W10.alloc (.cells #[.int .i64 kr, .int .i64 nr, .string sr, .slice ar mr cr] 25)) W10.heap.size #[.int .i64 kr, .int .i64 nr, .string sr, .slice ar mr cr] 25 := Box.at rfl
      have B := below_a1 (Nat.le_refl W10.heap.size) (.cells #[.int .i64 kr, .int .i64 nr, .string sr, .slice ar mr cr] 25)
      replace bbx := Box.keep B bbx
      replace bby := Box.keep B bby
      replace bbz := Box.keep B bbz
      replace bbg := Box.keep B bbg
      replace bbq := Box.keep B bbq
      replace hx := hx.up B B.size
      replace hy := hy.up B B.size
      replace hz := hz.up B B.size
      replace hg := hg.up B B.size
      replace hq := hq.up B B.size
      replace hr := hr.up B B.size
      replace hb := hb.trans (B.mono hb.size)
      clear B
      generalize (W10.alloc (.cells #[.int .i64 kr, .int .i64 nr, .string sr, .slice ar mr cr] 25)) = V11 at *
      refine (variant_ok HI.out.2.2.2.2.2.1 HI.out.1 _ _ _ hq hx true F3.out.1).mono ?_
      rintro e W12 ⟨rfl, B⟩
      replace bbx := Box.keep B bbx
      replace bby := Box.keep B bby
      replace bbz := Box.keep B bbz
      replace bbg := Box.keep B bbg
      replace bbq := Box.keep B bbq
      replace bbr := Box.keep B bbr
      replace hx := hx.up B B.size
      replace hy := hy.up B B.size
      replace hz := hz.up B B.size
      replace hg := hg.up B B.size
      replace hq := hq.up B B.size
      replace hr := hr.up B B.size
      replace hb := hb.trans (B.mono hb.size)
      clear B
      clear bbq hq
      have qr0 := bbr.cell 0
      have qr1 := bbr.cell 1
      have qr2 := bbr.cell 2
      have qr3 := bbr.cell 3
      have qg0 := bbg.cell 0
      have qg1 := bbg.cell 1
      have qg2 := bbg.cell 2
      have qg3 := bbg.cell 3
      have lr := bbr.lt
      have lg := bbg.lt
      simp only [List.getElem?_toArray, List.getElem?_cons_succ, List.getElem?_cons_zero] at qr0 qr1 qr2 qr3 qg0 qg1 qg2 qg3
      go_wp2_with fail
      clear qr0 qr1 qr2 qr3 qg0 qg1 qg2 qg3 lr lg
      refine (variant_ok HI.out.2.2.2.2.2.2.1 HI.out.2.2.2.2.1 _ _ _ hr hg true F3.out.2.1).mono ?_
      rintro e W13 ⟨rfl, B⟩
      replace bbx := Box.keep B bbx
      replace bby := Box.keep B bby
      replace bbz := Box.keep B bbz
      replace bbg := Box.keep B bbg
      replace bbr := Box.keep B bbr
      replace hx := hx.up B B.size
      replace hy := hy.up B B.size
      replace hz := hz.up B B.size
      replace hg := hg.up B B.size
      replace hr := hr.up B B.size
      replace hb := hb.trans (B.mono hb.size)
      clear B
      clear bbr hr
      have qg0 := bbg.cell 0
      have qg1 := bbg.cell 1
      have qg2 := bbg.cell 2
      have qg3 := bbg.cell 3
      have qz0 := bbz.cell 0
      have qz1 := bbz.cell 1
      have qz2 := bbz.cell 2
      have qz3 := bbz.cell 3
      have lg := bbg.lt
      have lz := bbz.lt
      simp only [List.getElem?_toArray, List.getElem?_cons_succ, List.getElem?_cons_zero] at qg0 qg1 qg2 qg3 qz0 qz1 qz2 qz3
      go_wp2_with fail
      clear qg0 qg1 qg2 qg3 qz0 qz1 qz2 qz3 lg lz
      refine (general_ok HI.out.2.2.2.2.1 HI.out.2.2.1 _ _ _ hg hz (fun w'' h => htab w'' (hb.trans (h.mono hb.size)))).mono ?_
      rintro e W14 ⟨ko, no, so, ao, mo, co, rfl, ho, B⟩
      replace bbx := Box.keep B bbx
      replace bby := Box.keep B bby
      replace bbz := Box.keep B bbz
      replace bbg := Box.keep B bbg
      replace hx := hx.up B B.size
      replace hy := hy.up B B.size
      replace hz := hz.up B B.size
      replace hg := hg.up B B.size
      replace hb := hb.trans (B.mono hb.size)
      clear B
      have qy0 := bby.cell 0
      have qy1 := bby.cell 1
      have qy2 := bby.cell 2
      have qy3 := bby.cell 3
      have qz0 := bbz.cell 0
      have qz1 := bbz.cell 1
      have qz2 := bbz.cell 2
      have qz3 := bbz.cell 3
      have ly := bby.lt
      have lz := bbz.lt
      simp only [List.getElem?_toArray, List.getElem?_cons_succ, List.getElem?_cons_zero] at qy0 qy1 qy2 qy3 qz0 qz1 qz2 qz3
      go_wp2_with fail
      clear qy0 qy1 qy2 qy3 qz0 qz1 qz2 qz3 ly lz
      have bbo : Box (W14.alloc (.cells #[.int .i64 ko, .int .i64 no, .string so, .slice ao mo co] 25)) W14.heap.size #[.int .i64 ko, .int .i64 no, .string so, .slice ao mo co] 25 := Box.at rfl
      have B := below_a1 (Nat.le_refl W14.heap.size) (.cells #[.int .i64 ko, .int .i64 no, .string so, .slice ao mo co] 25)
      replace bbx := Box.keep B bbx
      replace bby := Box.keep B bby
      replace bbz := Box.keep B bbz
      replace bbg := Box.keep B bbg
      replace hx := hx.up B B.size
      replace hy := hy.up B B.size
      replace hz := hz.up B B.size
      replace hg := hg.up B B.size
      replace ho := ho.up B B.size
      replace hb := hb.trans (B.mono hb.size)
      clear B
      generalize (W14.alloc (.cells #[.int .i64 ko, .int .i64 no, .string so, .slice ao mo co] 25)) = V15 at *
      refine (general_ok HI.out.2.1 HI.out.2.2.1 _ _ _ hy hz (fun w'' h => htab w'' (hb.trans (h.mono hb.size)))).mono ?_
      rintro e W16 ⟨ku, nu, su, au, mu, cu, rfl, hu, B⟩
      replace bbx := Box.keep B bbx
      replace bby := Box.keep B bby
      replace bbz := Box.keep B bbz
      replace bbg := Box.keep B bbg
      replace bbo := Box.keep B bbo
      replace hx := hx.up B B.size
      replace hy := hy.up B B.size
      replace hz := hz.up B B.size
      replace hg := hg.up B B.size
      replace ho := ho.up B B.size
      replace hb := hb.trans (B.mono hb.size)
      clear B
      clear bby hy bbz hz bbg hg
      have qx0 := bbx.cell 0
      have qx1 := bbx.cell 1
      have qx2 := bbx.cell 2
      have qx3 := bbx.cell 3
      have lx := bbx.lt
      simp only [List.getElem?_toArray, List.getElem?_cons_succ, List.getElem?_cons_zero] at qx0 qx1 qx2 qx3
      go_wp2_with fail
      clear qx0 qx1 qx2 qx3 lx
      have bbu : Box (W16.alloc (.cells #[.int .i64 ku, .int .i64 nu, .string su, .slice au mu cu] 25)) W16.heap.size #[.int .i64 ku, .int .i64 nu, .string su, .slice au mu cu] 25 := Box.at rfl
      have B := below_a1 (Nat.le_refl W16.heap.size) (.cells #[.int .i64 ku, .int .i64 nu, .string su, .slice au mu cu] 25)
      replace bbx := Box.keep B bbx
      replace bbo := Box.keep B bbo
      replace hx := hx.up B B.size
      replace ho := ho.up B B.size
      replace hu := hu.up B B.size
      replace hb := hb.trans (B.mono hb.size)
      clear B
      generalize (W16.alloc (.cells #[.int .i64 ku, .int .i64 nu, .string su, .slice au mu cu] 25)) = V17 at *
      refine (general_ok HI.out.1 HI.out.2.2.2.2.2.2.2.2.1 _ _ _ hx hu (fun w'' h => htab w'' (hb.trans (h.mono hb.size)))).mono ?_
      rintro e W18 ⟨kv, nv, sv, av, mv, cv, rfl, hv, B⟩
      replace bbx := Box.keep B bbx
      replace bbo := Box.keep B bbo
      replace bbu := Box.keep B bbu
      replace hx := hx.up B B.size
      replace ho := ho.up B B.size
      replace hu := hu.up B B.size
      replace hb := hb.trans (B.mono hb.size)
      clear B
      clear bbx hx bbu hu
      have qo0 := bbo.cell 0
      have qo1 := bbo.cell 1
      have qo2 := bbo.cell 2
      have qo3 := bbo.cell 3
      have lo := bbo.lt
      simp only [List.getElem?_toArray, List.getElem?_cons_succ, List.getElem?_cons_zero] at qo0 qo1 qo2 qo3
      go_wp2_with fail
      clear qo0 qo1 qo2 qo3 lo
      have bbv : Box (W18.alloc (.cells #[.int .i64 kv, .int .i64 nv, .string sv, .slice av mv cv] 25)) W18.heap.size #[.int .i64 kv, .int .i64 nv, .string sv, .slice av mv cv] 25 := Box.at rfl
      have B := below_a1 (Nat.le_refl W18.heap.size) (.cells #[.int .i64 kv, .int .i64 nv, .string sv, .slice av mv cv] 25)
      replace bbo := Box.keep B bbo
      replace ho := ho.up B B.size
      replace hv := hv.up B B.size
      replace hb := hb.trans (B.mono hb.size)
      clear B
      generalize (W18.alloc (.cells #[.int .i64 kv, .int .i64 nv, .string sv, .slice av mv cv] 25)) = V19 at *
      refine (variant_ok HI.out.2.2.2.2.2.2.2.1 HI.out.2.2.2.2.2.2.2.2.2 _ _ _ ho hv true F3.out.2.2).mono ?_
      rintro e W20 ⟨rfl, B⟩
      replace bbo := Box.keep B bbo
      replace bbv := Box.keep B bbv
      replace ho := ho.up B B.size
      replace hv := hv.up B B.size
      replace hb := hb.trans (B.mono hb.size)
      clear B
      clear bbo bbv ho hv
      go_wp2_with fail
      go_ret
      exact ⟨rfl, hb⟩
    | true =>
      have qh0 := bbh.cell 0
      have qh1 := bbh.cell 1
      have qh2 := bbh.cell 2
      have qh3 := bbh.cell 3
      have qy0 := bby.cell 0
      have qy1 := bby.cell 1
      have qy2 := bby.cell 2
      have qy3 := bby.cell 3
      have lh := bbh.lt
      have ly := bby.lt
      simp only [List.getElem?_toArray, List.getElem?_cons_succ, List.getElem?_cons_zero] at qh0 qh1 qh2 qh3 qy0 qy1 qy2 qy3
      go_wp2_with fail
      clear qh0 qh1 qh2 qh3 qy0 qy1 qy2 qy3 lh ly
      refine (instance_ok HI.out.2.2.2.1 HI.out.2.1 _ _ _ hh hy r2 HR.out.2.1).mono ?_
      rintro e W8 ⟨rfl, B⟩
      replace bbx := Box.keep B bbx
      replace bby := Box.keep B bby
      replace bbz := Box.keep B bbz
      replace bbh := Box.keep B bbh
      replace bbg := Box.keep B bbg
      replace hx := hx.up B B.size
      replace hy := hy.up B B.size
      replace hz := hz.up B B.size
      replace hh := hh.up B B.size
      replace hg := hg.up B B.size
      replace hb := hb.trans (B.mono hb.size)
      clear B
      cases r2 with
      | false =>
        clear bbh hh
        have qx0 := bbx.cell 0
        have qx1 := bbx.cell 1
        have qx2 := bbx.cell 2
        have qx3 := bbx.cell 3
        have lx := bbx.lt
        simp only [List.getElem?_toArray, List.getElem?_cons_succ, List.getElem?_cons_zero] at qx0 qx1 qx2 qx3
        go_wp2_with fail
        clear qx0 qx1 qx2 qx3 lx
        refine (general_ok HI.out.1 HI.out.1 _ _ _ hx hx (fun w'' h => htab w'' (hb.trans (h.mono hb.size)))).mono ?_
        rintro e W9 ⟨kq, nq, sq, aq, mq, cq, rfl, hq, B⟩
        replace bbx := Box.keep B bbx
        replace bby := Box.keep B bby
        replace bbz := Box.keep B bbz
        replace bbg := Box.keep B bbg
        replace hx := hx.up B B.size
        replace hy := hy.up B B.size
        replace hz := hz.up B B.size
        replace hg := hg.up B B.size
        replace hb := hb.trans (B.mono hb.size)
        clear B
        have qx0 := bbx.cell 0
        have qx1 := bbx.cell 1
        have qx2 := bbx.cell 2
        have qx3 := bbx.cell 3
        have qy0 := bby.cell 0
        have qy1 := bby.cell 1
        have qy2 := bby.cell 2
        have qy3 := bby.cell 3
        have lx := bbx.lt
        have ly := bby.lt
        simp only [List.getElem?_toArray, List.getElem?_cons_succ, List.getElem?_cons_zero] at qx0 qx1 qx2 qx3 qy0 qy1 qy2 qy3
        go_wp2_with fail
        clear qx0 qx1 qx2 qx3 qy0 qy1 qy2 qy3 lx ly
        have bbq : Box (W9.alloc (.cells #[.int .i64 kq, .int .i64 nq, .string sq, .slice aq mq cq] 25)) W9.heap.size #[.int .i64 kq, .int .i64 nq, .string sq, .slice aq mq cq] 25 := Box.at rfl
        have B := below_a1 (Nat.le_refl W9.heap.size) (.cells #[.int .i64 kq, .int .i64 nq, .string sq, .slice aq mq cq] 25)
        replace bbx := Box.keep B bbx
        replace bby := Box.keep B bby
        replace bbz := Box.keep B bbz
        replace bbg := Box.keep B bbg
        replace hx := hx.up B B.size
        replace hy := hy.up B B.size
        replace hz := hz.up B B.size
        replace hg := hg.up B B.size
        replace hq := hq.up B B.size
        replace hb := hb.trans (B.mono hb.size)
        clear B
        generalize (W9.alloc (.cells #[.int .i64 kq, .int .i64 nq, .string sq, .slice aq mq cq] 25)) = V10 at *
        refine (general_ok HI.out.2.1 HI.out.1 _ _ _ hy hx (fun w'' h => htab w'' (hb.trans (h.mono hb.size)))).mono ?_
        rintro e W11 ⟨kr, nr, sr, ar, mr, cr, rfl, hr, B⟩
        replace bbx := Box.keep B bbx
        replace bby := Box.keep B bby
        replace bbz := Box.keep B bbz
        replace bbg := Box.keep B bbg
        replace bbq := Box.keep B bbq
        replace hx := hx.up B B.size
        replace hy := hy.up B B.size
        replace hz := hz.up B B.size
        replace hg := hg.up B B.size
        replace hq := hq.up B B.size
        replace hb := hb.trans (B.mono hb.size)
        clear B
        have qq0 := bbq.cell 0
        have qq1 := bbq.cell 1
        have qq2 := bbq.cell 2
        have qq3 := bbq.cell 3
        have qx0 := bbx.cell 0
        have qx1 := bbx.cell 1
        have qx2 := bbx.cell 2
        have qx3 := bbx.cell 3
        have lq := bbq.lt
        have lx := bbx.lt
        simp only [List.getElem?_toArray, List.getElem?_cons_succ, List.getElem?_cons_zero] at qq0 qq1 qq2 qq3 qx0 qx1 qx2 qx3
        go_wp2_with fail
        clear qq0 qq1 qq2 qq3 qx0 qx1 qx2 qx3 lq lx
        have bbr : Box (W11.alloc (.cells #[.int .i64 kr, .int .i64 nr, .string sr, .slice ar mr cr] 25)) W11.heap.size #[.int .i64 kr, .int .i64 nr, .string sr, .slice ar mr cr] 25 := Box.at rfl
        have B := below_a1 (Nat.le_refl W11.heap.size) (.cells #[.int .i64 kr, .int .i64 nr, .string sr, .slice ar mr cr] 25)
        replace bbx := Box.keep B bbx
        replace bby := Box.keep B bby
        replace bbz := Box.keep B bbz
        replace bbg := Box.keep B bbg
        replace bbq := Box.keep B bbq
        replace hx := hx.up B B.size
        replace hy := hy.up B B.size
        replace hz := hz.up B B.size
        replace hg := hg.up B B.size
        replace hq := hq.up B B.size
        replace hr := hr.up B B.size
        replace hb := hb.trans (B.mono hb.size)
        clear B
        generalize (W11.alloc (.cells #[.int .i64 kr, .int .i64 nr, .string sr, .slice ar mr cr] 25)) = V12 at *
        refine (variant_ok HI.out.2.2.2.2.2.1 HI.out.1 _ _ _ hq hx true F3.out.1).mono ?_
        rintro e W13 ⟨rfl, B⟩
        replace bbx := Box.keep B bbx
        replace bby := Box.keep B bby
        replace bbz := Box.keep B bbz
        replace bbg := Box.keep B bbg
        replace bbq := Box.keep B bbq
        replace bbr := Box.keep B bbr
        replace hx := hx.up B B.size
        replace hy := hy.up B B.size
        replace hz := hz.up B B.size
        replace hg := hg.up B B.size
        replace hq := hq.up B B.size
        replace hr := hr.up B B.size
        replace hb := hb.trans (B.mono hb.size)
        clear B
        clear bbq hq
        have qr0 := bbr.cell 0
        have qr1 := bbr.cell 1
        have qr2 := bbr.cell 2
        have qr3 := bbr.cell 3
        have qg0 := bbg.cell 0
        have qg1 := bbg.cell 1
        have qg2 := bbg.cell 2
        have qg3 := bbg.cell 3
        have lr := bbr.lt
        have lg := bbg.lt
        simp only [List.getElem?_toArray, List.getElem?_cons_succ, List.getElem?_cons_zero] at qr0 qr1 qr2 qr3 qg0 qg1 qg2 qg3
        go_wp2_with fail
        clear qr0 qr1 qr2 qr3 qg0 qg1 qg2 qg3 lr lg
        refine (variant_ok HI.out.2.2.2.2.2.2.1 HI.out.2.2.2.2.1 _ _ _ hr hg true F3.out.2.1).mono ?_
        rintro e W14 ⟨rfl, B⟩
        replace bbx := Box.keep B bbx
        replace bby := Box.keep B bby
        replace bbz := Box.keep B bbz
        replace bbg := Box.keep B bbg
        replace bbr := Box.keep B bbr
        replace hx := hx.up B B.size
        replace hy := hy.up B B.size
        replace hz := hz.up B B.size
        replace hg := hg.up B B.size
        replace hr := hr.up B B.size
        replace hb := hb.trans (B.mono hb.size)
        clear B
        clear bbr hr
        have qg0 := bbg.cell 0
        have qg1 := bbg.cell 1
        have qg2 := bbg.cell 2
        have qg3 := bbg.cell 3
        have qz0 := bbz.cell 0
        have qz1 := bbz.cell 1
        have qz2 := bbz.cell 2
        have qz3 := bbz.cell 3
        have lg := bbg.lt
        have lz := bbz.lt
        simp only [List.getElem?_toArray, List.getElem?_cons_succ, List.getElem?_cons_zero] at qg0 qg1 qg2 qg3 qz0 qz1 qz2 qz3
        go_wp2_with fail
        clear qg0 qg1 qg2 qg3 qz0 qz1 qz2 qz3 lg lz
        refine (general_ok HI.out.2.2.2.2.1 HI.out.2.2.1 _ _ _ hg hz (fun w'' h => htab w'' (hb.trans (h.mono hb.size)))).mono ?_
        rintro e W15 ⟨ko, no, so, ao, mo, co, rfl, ho, B⟩
        replace bbx := Box.keep B bbx
        replace bby := Box.keep B bby
        replace bbz := Box.keep B bbz
        replace bbg := Box.keep B bbg
        replace hx := hx.up B B.size
        replace hy := hy.up B B.size
        replace hz := hz.up B B.size
        replace hg := hg.up B B.size
        replace hb := hb.trans (B.mono hb.size)
        clear B
        have qy0 := bby.cell 0
        have qy1 := bby.cell 1
        have qy2 := bby.cell 2
        have qy3 := bby.cell 3
        have qz0 := bbz.cell 0
        have qz1 := bbz.cell 1
        have qz2 := bbz.cell 2
        have qz3 := bbz.cell 3
        have ly := bby.lt
        have lz := bbz.lt
        simp only [List.getElem?_toArray, List.getElem?_cons_succ, List.getElem?_cons_zero] at qy0 qy1 qy2 qy3 qz0 qz1 qz2 qz3
        go_wp2_with fail
        clear qy0 qy1 qy2 qy3 qz0 qz1 qz2 qz3 ly lz
        have bbo : Box (W15.alloc (.cells #[.int .i64 ko, .int .i64 no, .string so, .slice ao mo co] 25)) W15.heap.size #[.int .i64 ko, .int .i64 no, .string so, .slice ao mo co] 25 := Box.at rfl
        have B := below_a1 (Nat.le_refl W15.heap.size) (.cells #[.int .i64 ko, .int .i64 no, .string so, .slice ao mo co] 25)
        replace bbx := Box.keep B bbx
        replace bby := Box.keep B bby
        replace bbz := Box.keep B bbz
        replace bbg := Box.keep B bbg
        replace hx := hx.up B B.size
        replace hy := hy.up B B.size
        replace hz := hz.up B B.size
        replace hg := hg.up B B.size
        replace ho := ho.up B B.size
        replace hb := hb.trans (B.mono hb.size)
        clear B
        generalize (W15.alloc (.cells #[.int .i64 ko, .int .i64 no, .string so, .slice ao mo co] 25)) = V16 at *
        refine (general_ok HI.out.2.1 HI.out.2.2.1 _ _ _ hy hz (fun w'' h => htab w'' (hb.trans (h.mono hb.size)))).mono ?_
        rintro e W17 ⟨ku, nu, su, au, mu, cu, rfl, hu, B⟩
        replace bbx := Box.keep B bbx
        replace bby := Box.keep B bby
        replace bbz := Box.keep B bbz
        replace bbg := Box.keep B bbg
        replace bbo := Box.keep B bbo
        replace hx := hx.up B B.size
        replace hy := hy.up B B.size
        replace hz := hz.up B B.size
        replace hg := hg.up B B.size
        replace ho := ho.up B B.size
        replace hb := hb.trans (B.mono hb.size)
        clear B
        clear bby hy bbz hz bbg hg
        have qx0 := bbx.cell 0
        have qx1 := bbx.cell 1
        have qx2 := bbx.cell 2
        have qx3 := bbx.cell 3
        have lx := bbx.lt
        simp only [List.getElem?_toArray, List.getElem?_cons_succ, List.getElem?_cons_zero] at qx0 qx1 qx2 qx3
        go_wp2_with fail
        clear qx0 qx1 qx2 qx3 lx
        have bbu : Box (W17.alloc (.cells #[.int .i64 ku, .int .i64 nu, .string su, .slice au mu cu] 25)) W17.heap.size #[.int .i64 ku, .int .i64 nu, .string su, .slice au mu cu] 25 := Box.at rfl
        have B := below_a1 (Nat.le_refl W17.heap.size) (.cells #[.int .i64 ku, .int .i64 nu, .string su, .slice au mu cu] 25)
        replace bbx := Box.keep B bbx
        replace bbo := Box.keep B bbo
        replace hx := hx.up B B.size
        replace ho := ho.up B B.size
        replace hu := hu.up B B.size
        replace hb := hb.trans (B.mono hb.size)
        clear B
        generalize (W17.alloc (.cells #[.int .i64 ku, .int .i64 nu, .string su, .slice au mu cu] 25)) = V18 at *
        refine (general_ok HI.out.1 HI.out.2.2.2.2.2.2.2.2.1 _ _ _ hx hu (fun w'' h => htab w'' (hb.trans (h.mono hb.size)))).mono ?_
        rintro e W19 ⟨kv, nv, sv, av, mv, cv, rfl, hv, B⟩
        replace bbx := Box.keep B bbx
        replace bbo := Box.keep B bbo
        replace bbu := Box.keep B bbu
        replace hx := hx.up B B.size
        replace ho := ho.up B B.size
        replace hu := hu.up B B.size
        replace hb := hb.trans (B.mono hb.size)
        clear B
        clear bbx hx bbu hu
        have qo0 := bbo.cell 0
        have qo1 := bbo.cell 1
        have qo2 := bbo.cell 2
        have qo3 := bbo.cell 3
        have lo := bbo.lt
        simp only [List.getElem?_toArray, List.getElem?_cons_succ, List.getElem?_cons_zero] at qo0 qo1 qo2 qo3
        go_wp2_with fail
        clear qo0 qo1 qo2 qo3 lo
        have bbv : Box (W19.alloc (.cells #[.int .i64 kv, .int .i64 nv, .string sv, .slice av mv cv] 25)) W19.heap.size #[.int .i64 kv, .int .i64 nv, .string sv, .slice av mv cv] 25 := Box.at rfl
        have B := below_a1 (Nat.le_refl W19.heap.size) (.cells #[.int .i64 kv, .int .i64 nv, .string sv, .slice av mv cv] 25)
        replace bbo := Box.keep B bbo
        replace ho := ho.up B B.size
        replace hv := hv.up B B.size
        replace hb := hb.trans (B.mono hb.size)
        clear B
        generalize (W19.alloc (.cells #[.int .i64 kv, .int .i64 nv, .string sv, .slice av mv cv] 25)) = V20 at *
        refine (variant_ok HI.out.2.2.2.2.2.2.2.1 HI.out.2.2.2.2.2.2.2.2.2 _ _ _ ho hv true F3.out.2.2).mono ?_
        rintro e W21 ⟨rfl, B⟩
        replace bbo := Box.keep B bbo
        replace bbv := Box.keep B bbv
        replace ho := ho.up B B.size
        replace hv := hv.up B B.size
        replace hb := hb.trans (B.mono hb.size)
        clear B
        clear bbo bbv ho hv
        go_wp2_with fail
        go_ret
        exact ⟨rfl, hb⟩
      | true =>
        have qh0 := bbh.cell 0
        have qh1 := bbh.cell 1
        have qh2 := bbh.cell 2
        have qh3 := bbh.cell 3
        have qg0 := bbg.cell 0
        have qg1 := bbg.cell 1
        have qg2 := bbg.cell 2
        have qg3 := bbg.cell 3
        have lh := bbh.lt
        have lg := bbg.lt
        simp only [List.getElem?_toArray, List.getElem?_cons_succ, List.getElem?_cons_zero] at qh0 qh1 qh2 qh3 qg0 qg1 qg2 qg3
        go_wp2_with fail
        clear qh0 qh1 qh2 qh3 qg0 qg1 qg2 qg3 lh lg
        obtain rfl : r3 = true := by have := F2.out; simp at this; exact this
        refine (instance_ok HI.out.2.2.2.1 HI.out.2.2.2.2.1 _ _ _ hh hg true HR.out.2.2).mono ?_
        rintro e W9 ⟨rfl, B⟩
        replace bbx := Box.keep B bbx
        replace bby := Box.keep B bby
        replace bbz := Box.keep B bbz
        replace bbh := Box.keep B bbh
        replace bbg := Box.keep B bbg
        replace hx := hx.up B B.size
        replace hy := hy.up B B.size
        replace hz := hz.up B B.size
        replace hh := hh.up B B.size
        replace hg := hg.up B B.size
        replace hb := hb.trans (B.mono hb.size)
        clear B
        clear bbh hh
        have qx0 := bbx.cell 0
        have qx1 := bbx.cell 1
        have qx2 := bbx.cell 2
        have qx3 := bbx.cell 3
        have lx := bbx.lt
        simp only [List.getElem?_toArray, List.getElem?_cons_succ, List.getElem?_cons_zero] at qx0 qx1 qx2 qx3
        go_wp2_with fail
        clear qx0 qx1 qx2 qx3 lx
        refine (general_ok HI.out.1 HI.out.1 _ _ _ hx hx (fun w'' h => htab w'' (hb.trans (h.mono hb.size)))).mono ?_
        rintro e W10 ⟨kq, nq, sq, aq, mq, cq, rfl, hq, B⟩
        replace bbx := Box.keep B bbx
        replace bby := Box.keep B bby
        replace bbz := Box.keep B bbz
        replace bbg := Box.keep B bbg
        replace hx := hx.up B B.size
        replace hy := hy.up B B.size
        replace hz := hz.up B B.size
        replace hg := hg.up B B.size
        replace hb := hb.trans (B.mono hb.size)
        clear B
        have qx0 := bbx.cell 0
        have qx1 := bbx.cell 1
        have qx2 := bbx.cell 2
        have qx3 := bbx.cell 3
        have qy0 := bby.cell 0
        have qy1 := bby.cell 1
        have qy2 := bby.cell 2
        have qy3 := bby.cell 3
        have lx := bbx.lt
        have ly := bby.lt
        simp only [List.getElem?_toArray, List.getElem?_cons_succ, List.getElem?_cons_zero] at qx0 qx1 qx2 qx3 qy0 qy1 qy2 qy3
        go_wp2_with fail
        clear qx0 qx1 qx2 qx3 qy0 qy1 qy2 qy3 lx ly
        have bbq : Box (W10.alloc (.cells #[.int .i64 kq, .int .i64 nq, .string sq, .slice aq mq cq] 25)) W10.heap.size #[.int .i64 kq, .int .i64 nq, .string sq, .slice aq mq cq] 25 := Box.at rfl
        have B := below_a1 (Nat.le_refl W10.heap.size) (.cells #[.int .i64 kq, .int .i64 nq, .string sq, .slice aq mq cq] 25)
        replace bbx := Box.keep B bbx
        replace bby := Box.keep B bby
        replace bbz := Box.keep B bbz
        replace bbg := Box.keep B bbg
        replace hx := hx.up B B.size
        replace hy := hy.up B B.size
        replace hz := hz.up B B.size
        replace hg := hg.up B B.size
        replace hq := hq.up B B.size
        replace hb := hb.trans (B.mono hb.size)
        clear B
        generalize (W10.alloc (.cells #[.int .i64 kq, .int .i64 nq, .string sq, .slice aq mq cq] 25)) = V11 at *
        refine (general_ok HI.out.2.1 HI.out.1 _ _ _ hy hx (fun w'' h => htab w'' (hb.trans (h.mono hb.size)))).mono ?_
        rintro e W12 ⟨kr, nr, sr, ar, mr, cr, rfl, hr, B⟩
        replace bbx := Box.keep B bbx
        replace bby := Box.keep B bby
        replace bbz := Box.keep B bbz
        replace bbg := Box.keep B bbg
        replace bbq := Box.keep B bbq
        replace hx := hx.up B B.size
        replace hy := hy.up B B.size
        replace hz := hz.up B B.size
        replace hg := hg.up B B.size
        replace hq := hq.up B B.size
        replace hb := hb.trans (B.mono hb.size)
        clear B
        have qq0 := bbq.cell 0
        have qq1 := bbq.cell 1
        have qq2 := bbq.cell 2
        have qq3 := bbq.cell 3
        have qx0 := bbx.cell 0
        have qx1 := bbx.cell 1
        have qx2 := bbx.cell 2
        have qx3 := bbx.cell 3
        have lq := bbq.lt
        have lx := bbx.lt
        simp only [List.getElem?_toArray, List.getElem?_cons_succ, List.getElem?_cons_zero] at qq0 qq1 qq2 qq3 qx0 qx1 qx2 qx3
        go_wp2_with fail
        clear qq0 qq1 qq2 qq3 qx0 qx1 qx2 qx3 lq lx
        have bbr : Box (W12.alloc (.cells #[.int .i64 kr, .int .i64 nr, .string sr, .slice ar mr cr] 25)) W12.heap.size #[.int .i64 kr, .int .i64 nr, .string sr, .slice ar mr cr] 25 := Box.at rfl
        have B := below_a1 (Nat.le_refl W12.heap.size) (.cells #[.int .i64 kr, .int .i64 nr, .string sr, .slice ar mr cr] 25)
        replace bbx := Box.keep B bbx
        replace bby := Box.keep B bby
        replace bbz := Box.keep B bbz
        replace bbg := Box.keep B bbg
        replace bbq := Box.keep B bbq
        replace hx := hx.up B B.size
        replace hy := hy.up B B.size
        replace hz := hz.up B B.size
        replace hg := hg.up B B.size
        replace hq := hq.up B B.size
        replace hr := hr.up B B.size
        replace hb := hb.trans (B.mono hb.size)
        clear B
        generalize (W12.alloc (.cells #[.int .i64 kr, .int .i64 nr, .string sr, .slice ar mr cr] 25)) = V13 at *
        refine (variant_ok HI.out.2.2.2.2.2.1 HI.out.1 _ _ _ hq hx true F3.out.1).mono ?_
        rintro e W14 ⟨rfl, B⟩
        replace bbx := Box.keep B bbx
        replace bby := Box.keep B bby
        replace bbz := Box.keep B bbz
        replace bbg := Box.keep B bbg
        replace bbq := Box.keep B bbq
        replace bbr := Box.keep B bbr
        replace hx := hx.up B B.size
        replace hy := hy.up B B.size
        replace hz := hz.up B B.size
        replace hg := hg.up B B.size
        replace hq := hq.up B B.size
        replace hr := hr.up B B.size
        replace hb := hb.trans (B.mono hb.size)
        clear B
        clear bbq hq
        have qr0 := bbr.cell 0
        have qr1 := bbr.cell 1
        have qr2 := bbr.cell 2
        have qr3 := bbr.cell 3
        have qg0 := bbg.cell 0
        have qg1 := bbg.cell 1
        have qg2 := bbg.cell 2
        have qg3 := bbg.cell 3
        have lr := bbr.lt
        have lg := bbg.lt
        simp only [List.getElem?_toArray, List.getElem?_cons_succ, List.getElem?_cons_zero] at qr0 qr1 qr2 qr3 qg0 qg1 qg2 qg3
        go_wp2_with fail
        clear qr0 qr1 qr2 qr3 qg0 qg1 qg2 qg3 lr lg
        refine (variant_ok HI.out.2.2.2.2.2.2.1 HI.out.2.2.2.2.1 _ _ _ hr hg true F3.out.2.1).mono ?_
        rintro e W15 ⟨rfl, B⟩
        replace bbx := Box.keep B bbx
        replace bby := Box.keep B bby
        replace bbz := Box.keep B bbz
        replace bbg := Box.keep B bbg
        replace bbr := Box.keep B bbr
        replace hx := hx.up B B.size
        replace hy := hy.up B B.size
        replace hz := hz.up B B.size
        replace hg := hg.up B B.size
        replace hr := hr.up B B.size
        replace hb := hb.trans (B.mono hb.size)
        clear B
        clear bbr hr
        have qg0 := bbg.cell 0
        have qg1 := bbg.cell 1
        have qg2 := bbg.cell 2
        have qg3 := bbg.cell 3
        have qz0 := bbz.cell 0
        have qz1 := bbz.cell 1
        have qz2 := bbz.cell 2
        have qz3 := bbz.cell 3
        have lg := bbg.lt
        have lz := bbz.lt
        simp only [List.getElem?_toArray, List.getElem?_cons_succ, List.getElem?_cons_zero] at qg0 qg1 qg2 qg3 qz0 qz1 qz2 qz3
        go_wp2_with fail
        clear qg0 qg1 qg2 qg3 qz0 qz1 qz2 qz3 lg lz
        refine (general_ok HI.out.2.2.2.2.1 HI.out.2.2.1 _ _ _ hg hz (fun w'' h => htab w'' (hb.trans (h.mono hb.size)))).mono ?_
        rintro e W16 ⟨ko, no, so, ao, mo, co, rfl, ho, B⟩
        replace bbx := Box.keep B bbx
        replace bby := Box.keep B bby
        replace bbz := Box.keep B bbz
        replace bbg := Box.keep B bbg
        replace hx := hx.up B B.size
        replace hy := hy.up B B.size
        replace hz := hz.up B B.size
        replace hg := hg.up B B.size
        replace hb := hb.trans (B.mono hb.size)
        clear B
        have qy0 := bby.cell 0
        have qy1 := bby.cell 1
        have qy2 := bby.cell 2
        have qy3 := bby.cell 3
        have qz0 := bbz.cell 0
        have qz1 := bbz.cell 1
        have qz2 := bbz.cell 2
        have qz3 := bbz.cell 3
        have ly := bby.lt
        have lz := bbz.lt
        simp only [List.getElem?_toArray, List.getElem?_cons_succ, List.getElem?_cons_zero] at qy0 qy1 qy2 qy3 qz0 qz1 qz2 qz3
        go_wp2_with fail
        clear qy0 qy1 qy2 qy3 qz0 qz1 qz2 qz3 ly lz
        have bbo : Box (W16.alloc (.cells #[.int .i64 ko, .int .i64 no, .string so, .slice ao mo co] 25)) W16.heap.size #[.int .i64 ko, .int .i64 no, .string so, .slice ao mo co] 25 := Box.at rfl
        have B := below_a1 (Nat.le_refl W16.heap.size) (.cells #[.int .i64 ko, .int .i64 no, .string so, .slice ao mo co] 25)
        replace bbx := Box.keep B bbx
        replace bby := Box.keep B bby
        replace bbz := Box.keep B bbz
        replace bbg := Box.keep B bbg
        replace hx := hx.up B B.size
        replace hy := hy.up B B.size
        replace hz := hz.up B B.size
        replace hg := hg.up B B.size
        replace ho := ho.up B B.size
        replace hb := hb.trans (B.mono hb.size)
        clear B
        generalize (W16.alloc (.cells #[.int .i64 ko, .int .i64 no, .string so, .slice ao mo co] 25)) = V17 at *
        refine (general_ok HI.out.2.1 HI.out.2.2.1 _ _ _ hy hz (fun w'' h => htab w'' (hb.trans (h.mono hb.size)))).mono ?_
        rintro e W18 ⟨ku, nu, su, au, mu, cu, rfl, hu, B⟩
        replace bbx := Box.keep B bbx
        replace bby := Box.keep B bby
        replace bbz := Box.keep B bbz
        replace bbg := Box.keep B bbg
        replace bbo := Box.keep B bbo
        replace hx := hx.up B B.size
        replace hy := hy.up B B.size
        replace hz := hz.up B B.size
        replace hg := hg.up B B.size
        replace ho := ho.up B B.size
        replace hb := hb.trans (B.mono hb.size)
        clear B
        clear bby hy bbz hz bbg hg
        have qx0 := bbx.cell 0
        have qx1 := bbx.cell 1
        have qx2 := bbx.cell 2
        have qx3 := bbx.cell 3
        have lx := bbx.lt
        simp only [List.getElem?_toArray, List.getElem?_cons_succ, List.getElem?_cons_zero] at qx0 qx1 qx2 qx3
        go_wp2_with fail
        clear qx0 qx1 qx2 qx3 lx
        have bbu : Box (W18.alloc (.cells #[.int .i64 ku, .int .i64 nu, .string su, .slice au mu cu] 25)) W18.heap.size #[.int .i64 ku, .int .i64 nu, .string su, .slice au mu cu] 25 := Box.at rfl
        have B := below_a1 (Nat.le_refl W18.heap.size) (.cells #[.int .i64 ku, .int .i64 nu, .string su, .slice au mu cu] 25)
        replace bbx := Box.keep B bbx
        replace bbo := Box.keep B bbo
        replace hx := hx.up B B.size
        replace ho := ho.up B B.size
        replace hu := hu.up B B.size
        replace hb := hb.trans (B.mono hb.size)
        clear B
        generalize (W18.alloc (.cells #[.int .i64 ku, .int .i64 nu, .string su, .slice au mu cu] 25)) = V19 at *
        refine (general_ok HI.out.1 HI.out.2.2.2.2.2.2.2.2.1 _ _ _ hx hu (fun w'' h => htab w'' (hb.trans (h.mono hb.size)))).mono ?_
        rintro e W20 ⟨kv, nv, sv, av, mv, cv, rfl, hv, B⟩
        replace bbx := Box.keep B bbx
        replace bbo := Box.keep B bbo
        replace bbu := Box.keep B bbu
        replace hx := hx.up B B.size
        replace ho := ho.up B B.size
        replace hu := hu.up B B.size
        replace hb := hb.trans (B.mono hb.size)
        clear B
        clear bbx hx bbu hu
        have qo0 := bbo.cell 0
        have qo1 := bbo.cell 1
        have qo2 := bbo.cell 2
        have qo3 := bbo.cell 3
        have lo := bbo.lt
        simp only [List.getElem?_toArray, List.getElem?_cons_succ, List.getElem?_cons_zero] at qo0 qo1 qo2 qo3
        go_wp2_with fail
        clear qo0 qo1 qo2 qo3 lo
        have bbv : Box (W20.alloc (.cells #[.int .i64 kv, .int .i64 nv, .string sv, .slice av mv cv] 25)) W20.heap.size #[.int .i64 kv, .int .i64 nv, .string sv, .slice av mv cv] 25 := Box.at rfl
        have B := below_a1 (Nat.le_refl W20.heap.size) (.cells #[.int .i64 kv, .int .i64 nv, .string sv, .slice av mv cv] 25)
        replace bbo := Box.keep B bbo
        replace ho := ho.up B B.size
        replace hv := hv.up B B.size
        replace hb := hb.trans (B.mono hb.size)
        clear B
        generalize (W20.alloc (.cells #[.int .i64 kv, .int .i64 nv, .string sv, .slice av mv cv] 25)) = V21 at *
        refine (variant_ok HI.out.2.2.2.2.2.2.2.1 HI.out.2.2.2.2.2.2.2.2.2 _ _ _ ho hv true F3.out.2.2).mono ?_
        rintro e W22 ⟨rfl, B⟩
        replace bbo := Box.keep B bbo
        replace bbv := Box.keep B bbv
        replace ho := ho.up B B.size
        replace hv := hv.up B B.size
        replace hb := hb.trans (B.mono hb.size)
        clear B
        clear bbo bbv ho hv
        go_wp2_with fail
        go_ret
        exact ⟨rfl, hb⟩
end Go.Proofs.YtmjmgeleeacklaaDoor
