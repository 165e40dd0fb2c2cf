import Derived.Test.YtmjmgeleeacklaaDoorOrdm
import Derived.Test.YtmjmgeleeacklaaDoorSane
namespace Go.Proofs.YtmjmgeleeacklaaDoor
open Go.RowKit Go

theorem cmp_ok {T U : Tr} (hT : isB T = true) (hU : isB U = true) (v u : Value) (w : World) (h : IsT w.heap.size w T v) (k : IsT w.heap.size w U u) (x : Int) (hx : ordT T U = x) :
    Calls Tryd.prog 60 #[v, u] w fun e w' => e = .returned (.tuple #[.int .i64 x, .int .i64 0]) ∧ Below w.heap.size w w' := by
  subst hx
  have := compare_any T U v u w h k (by have := (isB_size hT).2; omega) (by have := (isB_size hU).2; omega)
  rw [hT, hU] at this
  exact this
theorem same_ok (T U : Tr) (v u : Value) (w : World) (h : IsT w.heap.size w T v) (k : IsT w.heap.size w U u) (b : Bool) (hb : eqT T U = b) :
    Calls Tryd.prog 24 #[v, u] w fun e w' => e = .returned (.bool b) ∧ Below w.heap.size w w' := by
  subst hb
  exact same_any T U v u w h k

set_option maxRecDepth 100000 in
set_option maxHeartbeats 4000000 in
theorem termTotal_any (T U V : Tr) (x y z : Value) (w : World) (hx : IsT w.heap.size w T x) (hy : IsT w.heap.size w U y) (hz : IsT w.heap.size w V z) (htab : Lib.TabBelow Tryd.prog w.heap.size w "internal/strconv.uint64pow10" .u64 Lib.pow10Tab) :
    Calls Tryd.prog 9 #[x, y, z] w fun e w' => e = .returned (.bool true) ∧ Below w.heap.size w w' := by
  obtain ⟨k, n, s, a, m, c, rfl⟩ := (IsT.toP _ _ hx).form
  obtain ⟨k', n', s', a', m', c', rfl⟩ := (IsT.toP _ _ hy).form
  obtain ⟨k2, n2, s2, a2, m2, c2, rfl⟩ := (IsT.toP _ _ hz).form
  have b0 : Box (((w.alloc (.cells #[.int .i64 k, .int .i64 n, .string s, .slice a m c] 25)).alloc (.cells #[.int .i64 k', .int .i64 n', .string s', .slice a' m' c'] 25)).alloc (.cells #[.int .i64 k2, .int .i64 n2, .string s2, .slice a2 m2 c2] 25)) w.heap.size #[.int .i64 k, .int .i64 n, .string s, .slice a m c] 25 := ((Box.at rfl).alloc _).alloc _
  have b1 : Box (((w.alloc (.cells #[.int .i64 k, .int .i64 n, .string s, .slice a m c] 25)).alloc (.cells #[.int .i64 k', .int .i64 n', .string s', .slice a' m' c'] 25)).alloc (.cells #[.int .i64 k2, .int .i64 n2, .string s2, .slice a2 m2 c2] 25)) (w.heap.size + 1) #[.int .i64 k', .int .i64 n', .string s', .slice a' m' c'] 25 := (Box.at (by simp)).alloc _
  have b2 : Box (((w.alloc (.cells #[.int .i64 k, .int .i64 n, .string s, .slice a m c] 25)).alloc (.cells #[.int .i64 k', .int .i64 n', .string s', .slice a' m' c'] 25)).alloc (.cells #[.int .i64 k2, .int .i64 n2, .string s2, .slice a2 m2 c2] 25)) (w.heap.size + 1 + 1) #[.int .i64 k2, .int .i64 n2, .string s2, .slice a2 m2 c2] 25 := Box.at (by simp)
  have hb := below_a3 (Nat.le_refl w.heap.size) (.cells #[.int .i64 k, .int .i64 n, .string s, .slice a m c] 25) (.cells #[.int .i64 k', .int .i64 n', .string s', .slice a' m' c'] 25) (.cells #[.int .i64 k2, .int .i64 n2, .string s2, .slice a2 m2 c2] 25)
  go_enter Tryd.func9, Tryd.ntmps9
  go_wp2_with fail
  refine (sane_any _ (fun w'' h => htab w'' (hb.trans (h.mono hb.size)))).mono ?_
  rintro e W1 ⟨rfl, B⟩
  replace b0 := Box.keep B b0
  replace b1 := Box.keep B b1
  replace b2 := Box.keep B b2
  replace hb := hb.trans (B.mono hb.size)
  replace hx := hx.up hb hb.size
  replace hy := hy.up hb hb.size
  replace hz := hz.up hb hb.size
  clear B htab
  have t0 := b0.cell 0
  have t1 := b0.cell 1
  have t2 := b0.cell 2
  have t3 := b0.cell 3
  have u0 := b1.cell 0
  have u1 := b1.cell 1
  have u2 := b1.cell 2
  have u3 := b1.cell 3
  have v0 := b2.cell 0
  have v1 := b2.cell 1
  have v2 := b2.cell 2
  have v3 := b2.cell 3
  simp only [List.getElem?_toArray, List.getElem?_cons_succ, List.getElem?_cons_zero] at t0 t1 t2 t3 u0 u1 u2 u3 v0 v1 v2 v3
  go_wp2_with fail
  obtain ⟨sa0, sc0, he0, hs1, hs2, hs3⟩ := isS3 hx hy hz
  cases he0
  refine (right_any [T, U, V] _ 3 _ (by unfold maxLen; simp) hs3).mono ?_
  rintro e W2 ⟨rfl, B⟩
  replace B := up1 B
  replace b0 := Box.keep B b0
  replace b1 := Box.keep B b1
  replace b2 := Box.keep B b2
  replace hb := hb.trans (B.mono hb.size)
  replace hx := hx.up B B.size
  replace hy := hy.up B B.size
  replace hz := hz.up B B.size
  clear B hs1 hs2 hs3 t0 t1 t2 t3 u0 u1 u2 u3 v0 v1 v2 v3
  have t0 := b0.cell 0
  have t1 := b0.cell 1
  have t2 := b0.cell 2
  have t3 := b0.cell 3
  have u0 := b1.cell 0
  have u1 := b1.cell 1
  have u2 := b1.cell 2
  have u3 := b1.cell 3
  simp only [List.getElem?_toArray, List.getElem?_cons_succ, List.getElem?_cons_zero] at t0 t1 t2 t3 u0 u1 u2 u3
  cases hr : rightB [T, U, V] with
  | false =>
    clear hr
    go_wp2_with fail
    go_ret
    exact ⟨rfl, hb⟩
  | true =>
    have hT := (rightB_mem hr (t := T) (by simp)).1
    have hU := (rightB_mem hr (t := U) (by simp)).1
    have hV := (rightB_mem hr (t := V) (by simp)).1
    have r1 := ordT_rng T U
    have r2 := ordT_rng U V
    have r3 := ordT_rng T V
    have n1 := ordT_anti T U
    have n2' := ordT_anti U V
    have n3 := ordT_anti T V
    have q1 := ordT_trans T U V
    have q2 := ordT_trans V U T
    have z1 := ordT_zero T U
    rw [n1, n2', n3] at q2
    obtain ⟨p, hp⟩ : ∃ p, ordT T U = p := ⟨_, rfl⟩
    obtain ⟨q, hq⟩ : ∃ q, ordT U V = q := ⟨_, rfl⟩
    obtain ⟨r, hr'⟩ : ∃ r, ordT T V = r := ⟨_, rfl⟩
    rw [hp] at r1 n1 q1 q2 z1
    rw [hq] at r2 q1 q2
    rw [hr'] at r3 q1 q2
    have HZ : Hid (eqT T U = decide (p = 0)) := by rw [Hid, Bool.eq_iff_iff]; simp [eqT, z1]
    have HP := Lib.hid (And.intro (And.intro hT (And.intro hU hV)) (And.intro hp (And.intro hq (And.intro hr' n1))))
    have HR := Lib.hid (And.intro (And.intro r1 (And.intro r2 r3)) (And.intro q1 q2))
    clear hr r1 r2 r3 n1 n2' n3 q1 q2 z1 hp hq hr' hT hU hV
    go_wp2_with fail
    refine (cmp_ok HP.out.1.1 HP.out.1.2.1 _ _ _ hx hy p HP.out.2.1).mono ?_
    rintro e W3 ⟨rfl, B⟩
    replace b0 := Box.keep B b0
    replace b1 := Box.keep B b1
    replace b2 := Box.keep B b2
    replace hb := hb.trans (B.mono hb.size)
    replace hx := hx.up B B.size
    replace hy := hy.up B B.size
    replace hz := hz.up B B.size
    clear B t0 t1 t2 t3 u0 u1 u2 u3
    have t0 := b0.cell 0
    have t1 := b0.cell 1
    have t2 := b0.cell 2
    have t3 := b0.cell 3
    have u0 := b1.cell 0
    have u1 := b1.cell 1
    have u2 := b1.cell 2
    have u3 := b1.cell 3
    simp only [List.getElem?_toArray, List.getElem?_cons_succ, List.getElem?_cons_zero] at t0 t1 t2 t3 u0 u1 u2 u3
    go_wp2_with fail
    refine (cmp_ok HP.out.1.2.1 HP.out.1.1 _ _ _ hy hx (-p) HP.out.2.2.2.2).mono ?_
    rintro e W4 ⟨rfl, B⟩
    replace b0 := Box.keep B b0
    replace b1 := Box.keep B b1
    replace b2 := Box.keep B b2
    replace hb := hb.trans (B.mono hb.size)
    replace hx := hx.up B B.size
    replace hy := hy.up B B.size
    replace hz := hz.up B B.size
    clear B t0 t1 t2 t3 u0 u1 u2 u3
    have u0 := b1.cell 0
    have u1 := b1.cell 1
    have u2 := b1.cell 2
    have u3 := b1.cell 3
    have v0 := b2.cell 0
    have v1 := b2.cell 1
    have v2 := b2.cell 2
    have v3 := b2.cell 3
    simp only [List.getElem?_toArray, List.getElem?_cons_succ, List.getElem?_cons_zero] at u0 u1 u2 u3 v0 v1 v2 v3
    go_wp2_with fail
    refine (cmp_ok HP.out.1.2.1 HP.out.1.2.2 _ _ _ hy hz q HP.out.2.2.1).mono ?_
    rintro e W5 ⟨rfl, B⟩
    replace b0 := Box.keep B b0
    replace b1 := Box.keep B b1
    replace b2 := Box.keep B b2
    replace hb := hb.trans (B.mono hb.size)
    replace hx := hx.up B B.size
    replace hy := hy.up B B.size
    replace hz := hz.up B B.size
    clear B u0 u1 u2 u3 v0 v1 v2 v3
    have t0 := b0.cell 0
    have t1 := b0.cell 1
    have t2 := b0.cell 2
    have t3 := b0.cell 3
    have v0 := b2.cell 0
    have v1 := b2.cell 1
    have v2 := b2.cell 2
    have v3 := b2.cell 3
    simp only [List.getElem?_toArray, List.getElem?_cons_succ, List.getElem?_cons_zero] at t0 t1 t2 t3 v0 v1 v2 v3
    go_wp2_with fail
    refine (cmp_ok HP.out.1.1 HP.out.1.2.2 _ _ _ hx hz r HP.out.2.2.2.1).mono ?_
    rintro e W6 ⟨rfl, B⟩
    replace b0 := Box.keep B b0
    replace b1 := Box.keep B b1
    replace hb := hb.trans (B.mono hb.size)
    replace hx := hx.up B B.size
    replace hy := hy.up B B.size
    clear B t0 t1 t2 t3 v0 v1 v2 v3 hz b2
    have t0 := b0.cell 0
    have t1 := b0.cell 1
    have t2 := b0.cell 2
    have t3 := b0.cell 3
    have u0 := b1.cell 0
    have u1 := b1.cell 1
    have u2 := b1.cell 2
    have u3 := b1.cell 3
    simp only [List.getElem?_toArray, List.getElem?_cons_succ, List.getElem?_cons_zero] at t0 t1 t2 t3 u0 u1 u2 u3
    obtain ⟨⟨r1, r2, r3⟩, q1, q2⟩ := HR.out
    have HX := Lib.hid (And.intro hx (And.intro hy hb))
    clear HP HR b0 b1 hx hy hb
    rcases r1 with rfl | rfl | rfl <;> rcases r2 with rfl | rfl | rfl <;> rcases r3 with rfl | rfl | rfl
    all_goals first
      | (exfalso; omega)
      | (clear q1 q2
         go_wp2_with fail
         refine (same_ok T U _ _ _ HX.out.1 HX.out.2.1 _ HZ.out).mono ?_
         rintro e W7 ⟨rfl, B⟩
         have HB := Lib.hid (HX.out.2.2.trans (B.mono HX.out.2.2.size))
         clear B
         go_wp2_with fail
         go_ret
         exact ⟨rfl, HB.out⟩)
end Go.Proofs.YtmjmgeleeacklaaDoor
