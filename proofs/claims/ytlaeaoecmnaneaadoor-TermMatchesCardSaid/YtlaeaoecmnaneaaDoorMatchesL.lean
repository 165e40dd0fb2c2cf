/- The law of normal terms and matching: a second reading of Normal, Variant and Match. -/
import Derived.Test.YtlaeaoecmnaneaaDoorRefTop
import Derived.Test.YtlaeaoecmnaneaaDoorTwo
namespace Go.Proofs.YtlaeaoecmnaneaaDoor
open Go.RowKit Go

def NoQ (L : List Tr) (ns : List Int) (x : Int) (w : World) (e : Ending) (w' : World) : Prop := ∃ a c u, e = .returned (.tuple #[.slice a L.length c, u, .int .i64 x]) ∧ IsS w'.heap.size w' L (.slice a L.length c) ∧ RdN w'.heap.size w' ns u ∧ Below w.heap.size w w'
theorem NoQ.of {l : List Tr} {w : World} {e : Ending} {w' : World} {L : List Tr} {ns : List Int} {x : Int} (h : NoPost l w e w') (hL : (if togB l then normT l else []) = L) (hn : (if togB l then varsL [] l else []) = ns) (hx : errI (togB l) = x) : NoQ L ns x w e w' := by
  subst hL hn hx
  exact h
def MtQ (L : List Tr) (b : Bool) (x : Int) (w : World) (e : Ending) (w' : World) : Prop := Below w.heap.size w w' ∧ ∃ a c, e = .returned (.tuple #[.slice a L.length c, .bool b, .int .i64 x]) ∧ IsS w'.heap.size w' L (.slice a L.length c)
theorem MtQ.of {p t : Tr} {w : World} {e : Ending} {w' : World} {L : List Tr} {b : Bool} {x : Int} (h : MtPost p t w e w') (hL : (matchR p t).getD [] = L) (hb : (matchR p t).isSome = b) (hx : errI (isB p && isB t) = x) : MtQ L b x w e w' := by
  subst hL hb hx
  exact h
def VaQ (b : Bool) (x : Int) (w : World) (e : Ending) (w' : World) : Prop := e = .returned (.tuple #[.bool b, .int .i64 x]) ∧ Below w.heap.size w w'
theorem VaQ.of {X Y : Tr} {w : World} {e : Ending} {w' : World} {b : Bool} {x : Int} (h : e = .returned (.tuple #[.bool (varR X Y), .int .i64 (errI (isB X && isB Y))]) ∧ Below w.heap.size w w') (hb : varR X Y = b) (hx : errI (isB X && isB Y) = x) : VaQ b x w e w' := by
  subst hb hx
  exact h

set_option maxRecDepth 100000 in
set_option maxHeartbeats 8000000 in
theorem termMatches_any (X Y : Tr) (l : List Tr) (vx vy : Value) (a : Option Addr) (c : Nat) (w : World) (hx : IsT w.heap.size w X vx) (hy : IsT w.heap.size w Y vy) (hl : IsL w.heap.size w l a) (h4 : l.length ≤ c) (h5 : c ≤ maxLen) (hre : c * 56 ≤ 140737488351232) (htab : Lib.TabBelow Tryd.prog w.heap.size w "internal/strconv.uint64pow10" .u64 Lib.pow10Tab) :
    Calls Tryd.prog 6 #[vx, vy, .slice a l.length c] w fun e w' => e = .returned (.bool true) ∧ Below w.heap.size w w' := by
  have hlm : l.length ≤ 9223372036854775807 := by unfold maxLen at h5; omega
  obtain ⟨kx, nx, sx, ax, mx, cx, rfl⟩ := (IsT.toP _ _ hx).form
  obtain ⟨ky, ny, sy, ay, my, cy, rfl⟩ := (IsT.toP _ _ hy).form
  have bbx : Box ((w.alloc (.cells #[.int .i64 kx, .int .i64 nx, .string sx, .slice ax mx cx] 25)).alloc (.cells #[.int .i64 ky, .int .i64 ny, .string sy, .slice ay my cy] 25)) w.heap.size #[.int .i64 kx, .int .i64 nx, .string sx, .slice ax mx cx] 25 := (Box.at rfl).alloc _
  have bby : Box ((w.alloc (.cells #[.int .i64 kx, .int .i64 nx, .string sx, .slice ax mx cx] 25)).alloc (.cells #[.int .i64 ky, .int .i64 ny, .string sy, .slice ay my cy] 25)) (w.heap.size + 1) #[.int .i64 ky, .int .i64 ny, .string sy, .slice ay my cy] 25 := Box.at (by simp)
  have hb := below_a2 (Nat.le_refl w.heap.size) (.cells #[.int .i64 kx, .int .i64 nx, .string sx, .slice ax mx cx] 25) (.cells #[.int .i64 ky, .int .i64 ny, .string sy, .slice ay my cy] 25)
  replace hx := hx.up hb hb.size
  replace hy := hy.up hb hb.size
  replace hl := hl.up hb hb.size
  go_enter Tryd.func6, Tryd.ntmps6
  go_wp2_with fail
  refine (sane_any _ (fun w'' h => htab w'' (hb.trans (h.mono hb.size)))).mono ?_
  rintro e W1 ⟨rfl, B⟩
  replace bbx := Box.keep B bbx
  replace bby := Box.keep B bby
  replace hx := hx.up B B.size
  replace hy := hy.up B B.size
  replace hl := hl.up B B.size
  replace hb := hb.trans (B.mono hb.size)
  clear B
  clear htab
  obtain ⟨i0, hi, hz0, hz1, hz2⟩ := info_parts infoTerm
  by_cases h0 : 0 < l.length
  · obtain ⟨b, off, rfl, hbl⟩ := hl.addr h0
    obtain ⟨news, hn1, hn2, hn3, hn4⟩ := IsL.news l b off hl
    have hown := own_new (W := W1) (lo := W1.heap.size) [.int .i64 kx, .int .i64 nx, .string sx, .slice ax mx cx, .int .i64 ky, .int .i64 ny, .string sy, .slice ay my cy] 2 rfl (by unfold maxLen; omega) (Nat.le_refl _)
    have qx0 := bbx.cell 0
    have qx1 := bbx.cell 1
    have qx2 := bbx.cell 2
    have qx3 := bbx.cell 3
    have qy0 := bby.cell 0
    have qy1 := bby.cell 1
    have qy2 := bby.cell 2
    have qy3 := bby.cell 3
    have lx := bbx.lt
    have ly := bby.lt
    simp only [List.getElem?_toArray, List.getElem?_cons_succ, List.getElem?_cons_zero] at qx0 qx1 qx2 qx3 qy0 qy1 qy2 qy3
    have hn5 : ∀ j u, news[j]? = some u → (W1.alloc (.cells #[.int .i64 kx, .int .i64 nx, .string sx, .slice ax mx cx, .int .i64 ky, .int .i64 ny, .string sy, .slice ay my cy] 25)).cell? ((⟨b, off, none⟩ : Addr).add j) = some u := fun j u h => by
      rw [Addr.add_lit]
      exact ((below_a1 (Nat.le_refl W1.heap.size) _).cell (p := ⟨b, off + j, none⟩) hbl).trans (hn2 j u h)
    have hn6 : 2 + l.length ≤ maxLen := by unfold maxLen at h5 ⊢; omega
    have hn7 : (2 + l.length) * 56 ≤ 140737488355328 := by omega
    have hn8 : W1.heap.size ≤ (W1.alloc (.cells #[.int .i64 kx, .int .i64 nx, .string sx, .slice ax mx cx, .int .i64 ky, .int .i64 ny, .string sy, .slice ay my cy] 25)).heap.size := by simp
    go_wp2_with (at_builtin; refine wpList_append_where rfl _ _ 22 rfl W1.heap.size 25 i0 _ 4 56 Tryd.underlying22 hi hz0 hz1 hz2 rfl (by decide) _ _ _ rfl hown ⟨b, off, none⟩ l.length c news rfl hn1 hn5 hn3 hn6 hn7 hn8 ?_)
    intro v2 V2 hown2 hgrow hwh
    have B : Below W1.heap.size W1 V2 := (below_a1 (Nat.le_refl _) _).trans (grown_below' hgrow (by simp) (fun g hg => by cases hg; exact Nat.le_refl _))
    obtain ⟨g, cap, rfl, e1, e2, hL2⟩ := row_two hown2 B hx hy hn4
    replace bbx := Box.keep B bbx
    replace bby := Box.keep B bby
    replace hx := hx.up B B.size
    replace hy := hy.up B B.size
    replace hl := hl.up B B.size
    replace hb := hb.trans (B.mono hb.size)
    clear B
    clear hown hown2 hgrow hwh hn1 hn2 hn3 hn4 hn5 hn6 hn7 hn8 qx0 qx1 qx2 qx3 qy0 qy1 qy2 qy3 lx ly
    have HL2 := Lib.hid hL2
    clear hL2
    go_wp2_with fail
    refine (small_any (X :: Y :: l) _ cap _ (Nat.le_trans e1 e2) HL2.out).mono ?_
    rintro e W2 ⟨rfl, B⟩
    replace bbx := Box.keep B bbx
    replace bby := Box.keep B bby
    replace hx := hx.up B B.size
    replace hy := hy.up B B.size
    replace hl := hl.up B B.size
    replace hb := hb.trans (B.mono hb.size)
    clear B
    clear HL2 e1 e2
    cases hq : smallB (X :: Y :: l) with
    | false =>
      clear hq
      go_wp2_with fail
      go_ret
      exact ⟨rfl, hb⟩
    | true =>
      have HZ : Hid (X.size ≤ 1500 ∧ X.deep ≤ 700 ∧ Y.size ≤ 1500 ∧ Y.deep ≤ 700 ∧ sizeL l ≤ 1500 ∧ ∀ t, t ∈ l → t.size ≤ 1500 ∧ t.deep ≤ 700) := by
        have h1 := small_mem hq (t := X) (by simp)
        have h2 := small_mem hq (t := Y) (by simp)
        have h3 := (small_size hq).1
        simp only [sizeL] at h3
        exact ⟨h1.1, h1.2, h2.1, h2.2, by omega, fun t ht => small_mem hq (List.mem_cons_of_mem _ (List.mem_cons_of_mem _ ht))⟩
      clear hq
      obtain ⟨L, qL⟩ : ∃ z, (if togB l then normT l else []) = z := ⟨_, rfl⟩
      replace qL := Lib.hid qL
      obtain ⟨ns, qns⟩ : ∃ z, (if togB l then varsL [] l else []) = z := ⟨_, rfl⟩
      replace qns := Lib.hid qns
      obtain ⟨xe, qxe⟩ : ∃ z, errI (togB l) = z := ⟨_, rfl⟩
      replace qxe := Lib.hid qxe
      obtain ⟨bv, qbv⟩ : ∃ z, varR X Y = z := ⟨_, rfl⟩
      replace qbv := Lib.hid qbv
      obtain ⟨xv, qxv⟩ : ∃ z, errI (isB X && isB Y) = z := ⟨_, rfl⟩
      replace qxv := Lib.hid qxv
      obtain ⟨M, qM⟩ : ∃ z, (matchR X Y).getD [] = z := ⟨_, rfl⟩
      replace qM := Lib.hid qM
      obtain ⟨bm, qbm⟩ : ∃ z, (matchR X Y).isSome = z := ⟨_, rfl⟩
      replace qbm := Lib.hid qbm
      go_wp2_with fail
      refine ((normal_no l _ c _ (Nat.le_trans h4 h5) hl (fun t h => by have := HZ.out.2.2.2.2.2 t h; omega)).mono (fun _ _ h => NoQ.of h qL.out qns.out qxe.out)).mono ?_
      rintro e W3 ⟨an, cn, un, rfl, hn, hun, B⟩
      replace bbx := Box.keep B bbx
      replace bby := Box.keep B bby
      replace hx := hx.up B B.size
      replace hy := hy.up B B.size
      replace hl := hl.up B B.size
      replace hb := hb.trans (B.mono hb.size)
      clear B
      go_wp2_with fail
      refine ((refNormal_any l _ c _ hl (Nat.le_trans HZ.out.2.2.2.2.1 (by decide)) (fun t h => by have := HZ.out.2.2.2.2.2 t h; omega)).mono (fun _ _ h => NoQ.of h qL.out qns.out qxe.out)).mono ?_
      rintro e W4 ⟨ao, co, uo, rfl, ho, huo, B⟩
      replace bbx := Box.keep B bbx
      replace bby := Box.keep B bby
      replace hx := hx.up B B.size
      replace hy := hy.up B B.size
      replace hl := hl.up B B.size
      replace hn := hn.up B B.size
      replace hun := hun.up B B.size
      replace hb := hb.trans (B.mono hb.size)
      clear B
      clear qL qns qxe
      have qx0 := bbx.cell 0
      have qx1 := bbx.cell 1
      have qx2 := bbx.cell 2
      have qx3 := bbx.cell 3
      have qy0 := bby.cell 0
      have qy1 := bby.cell 1
      have qy2 := bby.cell 2
      have qy3 := bby.cell 3
      have lx := bbx.lt
      have ly := bby.lt
      simp only [List.getElem?_toArray, List.getElem?_cons_succ, List.getElem?_cons_zero] at qx0 qx1 qx2 qx3 qy0 qy1 qy2 qy3
      go_wp2_with fail
      clear qx0 qx1 qx2 qx3 qy0 qy1 qy2 qy3 lx ly
      refine ((Variant_any X Y _ _ _ hx hy (Nat.le_trans HZ.out.2.1 (by decide)) (Nat.le_trans HZ.out.2.2.2.1 (by decide))).mono (fun _ _ h => VaQ.of h qbv.out qxv.out)).mono ?_
      rintro e W5 ⟨rfl, B⟩
      replace bbx := Box.keep B bbx
      replace bby := Box.keep B bby
      replace hx := hx.up B B.size
      replace hy := hy.up B B.size
      replace hl := hl.up B B.size
      replace hn := hn.up B B.size
      replace hun := hun.up B B.size
      replace ho := ho.up B B.size
      replace huo := huo.up B B.size
      replace hb := hb.trans (B.mono hb.size)
      clear B
      have qx0 := bbx.cell 0
      have qx1 := bbx.cell 1
      have qx2 := bbx.cell 2
      have qx3 := bbx.cell 3
      have qy0 := bby.cell 0
      have qy1 := bby.cell 1
      have qy2 := bby.cell 2
      have qy3 := bby.cell 3
      have lx := bbx.lt
      have ly := bby.lt
      simp only [List.getElem?_toArray, List.getElem?_cons_succ, List.getElem?_cons_zero] at qx0 qx1 qx2 qx3 qy0 qy1 qy2 qy3
      go_wp2_with fail
      clear qx0 qx1 qx2 qx3 qy0 qy1 qy2 qy3 lx ly
      refine ((refVariant_any X Y _ _ _ hx hy (Nat.le_trans HZ.out.1 (by decide)) (Nat.le_trans HZ.out.2.1 (by decide)) (Nat.le_trans HZ.out.2.2.1 (by decide)) (Nat.le_trans HZ.out.2.2.2.1 (by decide))).mono (fun _ _ h => VaQ.of h qbv.out qxv.out)).mono ?_
      rintro e W6 ⟨rfl, B⟩
      replace bbx := Box.keep B bbx
      replace bby := Box.keep B bby
      replace hx := hx.up B B.size
      replace hy := hy.up B B.size
      replace hl := hl.up B B.size
      replace hn := hn.up B B.size
      replace hun := hun.up B B.size
      replace ho := ho.up B B.size
      replace huo := huo.up B B.size
      replace hb := hb.trans (B.mono hb.size)
      clear B
      go_wp2_with fail
      refine (sane_all L _ _ _ hn ho).mono ?_
      rintro e W7 ⟨rfl, B⟩
      replace bbx := Box.keep B bbx
      replace bby := Box.keep B bby
      replace hx := hx.up B B.size
      replace hy := hy.up B B.size
      replace hl := hl.up B B.size
      replace hn := hn.up B B.size
      replace hun := hun.up B B.size
      replace ho := ho.up B B.size
      replace huo := huo.up B B.size
      replace hb := hb.trans (B.mono hb.size)
      clear B
      go_wp2_with fail
      refine (sane_eqN ns _ _ _ hun huo).mono ?_
      rintro e W8 ⟨rfl, B⟩
      replace bbx := Box.keep B bbx
      replace bby := Box.keep B bby
      replace hx := hx.up B B.size
      replace hy := hy.up B B.size
      replace hl := hl.up B B.size
      replace hn := hn.up B B.size
      replace hun := hun.up B B.size
      replace ho := ho.up B B.size
      replace huo := huo.up B B.size
      replace hb := hb.trans (B.mono hb.size)
      clear B
      clear hn hun ho huo
      have qx0 := bbx.cell 0
      have qx1 := bbx.cell 1
      have qx2 := bbx.cell 2
      have qx3 := bbx.cell 3
      have qy0 := bby.cell 0
      have qy1 := bby.cell 1
      have qy2 := bby.cell 2
      have qy3 := bby.cell 3
      have lx := bbx.lt
      have ly := bby.lt
      simp only [List.getElem?_toArray, List.getElem?_cons_succ, List.getElem?_cons_zero] at qx0 qx1 qx2 qx3 qy0 qy1 qy2 qy3
      go_wp2_with fail
      clear qx0 qx1 qx2 qx3 qy0 qy1 qy2 qy3 lx ly
      refine ((match_mt X Y _ _ _ hx hy (Nat.le_trans HZ.out.2.1 (by decide)) (Nat.le_trans HZ.out.2.2.2.1 (by decide))).mono (fun _ _ h => MtQ.of h qM.out qbm.out qxv.out)).mono ?_
      rintro e W9 ⟨B, am, cm, rfl, hm⟩
      replace bbx := Box.keep B bbx
      replace bby := Box.keep B bby
      replace hx := hx.up B B.size
      replace hy := hy.up B B.size
      replace hl := hl.up B B.size
      replace hb := hb.trans (B.mono hb.size)
      clear B
      have qx0 := bbx.cell 0
      have qx1 := bbx.cell 1
      have qx2 := bbx.cell 2
      have qx3 := bbx.cell 3
      have qy0 := bby.cell 0
      have qy1 := bby.cell 1
      have qy2 := bby.cell 2
      have qy3 := bby.cell 3
      have lx := bbx.lt
      have ly := bby.lt
      simp only [List.getElem?_toArray, List.getElem?_cons_succ, List.getElem?_cons_zero] at qx0 qx1 qx2 qx3 qy0 qy1 qy2 qy3
      go_wp2_with fail
      clear qx0 qx1 qx2 qx3 qy0 qy1 qy2 qy3 lx ly
      refine ((refMatch_any X Y _ _ _ hx hy (Nat.le_trans HZ.out.1 (by decide)) (Nat.le_trans HZ.out.2.1 (by decide)) (Nat.le_trans HZ.out.2.2.1 (by decide)) (Nat.le_trans HZ.out.2.2.2.1 (by decide))).mono (fun _ _ h => MtQ.of h qM.out qbm.out qxv.out)).mono ?_
      rintro e W10 ⟨B, aw, cw, rfl, hw⟩
      replace bbx := Box.keep B bbx
      replace bby := Box.keep B bby
      replace hx := hx.up B B.size
      replace hy := hy.up B B.size
      replace hl := hl.up B B.size
      replace hm := hm.up B B.size
      replace hb := hb.trans (B.mono hb.size)
      clear B
      go_wp2_with fail
      refine (sane_all M _ _ _ hm hw).mono ?_
      rintro e W11 ⟨rfl, B⟩
      replace bbx := Box.keep B bbx
      replace bby := Box.keep B bby
      replace hx := hx.up B B.size
      replace hy := hy.up B B.size
      replace hl := hl.up B B.size
      replace hm := hm.up B B.size
      replace hw := hw.up B B.size
      replace hb := hb.trans (B.mono hb.size)
      clear B
      go_wp2_with fail
      go_ret
      exact ⟨rfl, hb⟩
  · replace h0 : l.length = 0 := by omega
    have hsrc : Src Tryd.prog i0.size 22 (.slice a l.length c) 0 [] (W1.alloc (.cells #[.int .i64 kx, .int .i64 nx, .string sx, .slice ax mx cx, .int .i64 ky, .int .i64 ny, .string sy, .slice ay my cy] 25)) := by
      rw [h0]
      rcases a with _ | ad
      · exact Src.ofNil _ Tryd.underlying22 c
      · exact Src.ofSlice _ Tryd.underlying22 ad 0 c [] (by simp) (fun j u h => by simp at h) (fun u hu => by cases hu)
    have hown := own_new (W := W1) (lo := W1.heap.size) [.int .i64 kx, .int .i64 nx, .string sx, .slice ax mx cx, .int .i64 ky, .int .i64 ny, .string sy, .slice ay my cy] 2 rfl (by unfold maxLen; omega) (Nat.le_refl _)
    have B := below_a1 (Nat.le_refl W1.heap.size) (.cells #[.int .i64 kx, .int .i64 nx, .string sx, .slice ax mx cx, .int .i64 ky, .int .i64 ny, .string sy, .slice ay my cy] 25)
    obtain ⟨g, cap, hv, e1, e2, hL2⟩ := row_two (l := l) (news := []) (by rw [h0]; exact hown) B hx hy (fun i hi => by omega)
    simp only [Value.slice.injEq, Option.some.injEq, Addr.mk.injEq] at hv
    obtain ⟨⟨rfl, -, -⟩, -, rfl⟩ := hv
    have qx0 := bbx.cell 0
    have qx1 := bbx.cell 1
    have qx2 := bbx.cell 2
    have qx3 := bbx.cell 3
    have qy0 := bby.cell 0
    have qy1 := bby.cell 1
    have qy2 := bby.cell 2
    have qy3 := bby.cell 3
    have lx := bbx.lt
    have ly := bby.lt
    simp only [List.getElem?_toArray, List.getElem?_cons_succ, List.getElem?_cons_zero] at qx0 qx1 qx2 qx3 qy0 qy1 qy2 qy3
    have HL2 := Lib.hid (And.intro h0 (And.intro hL2 B))
    clear h0 hown hL2 B e1 e2
    go_wp2_with (at_builtin; refine wpList_append_none rfl _ _ 22 rfl 25 i0 Tryd.underlying22 hi _ 2 2 (Nat.le_refl _) rfl _ rfl hsrc ?_)
    go_wp2_with fail
    clear hsrc qx0 qx1 qx2 qx3 qy0 qy1 qy2 qy3 lx ly
    obtain ⟨h0, hL2, B⟩ := HL2.out
    have hq2 := small_any (X :: Y :: l) _ 2 _ (by simp [h0]; unfold maxLen; omega) hL2
    rw [show (X :: Y :: l).length = 2 by simp [h0]] at hq2
    clear hL2 HL2 h0
    replace bbx := Box.keep B bbx
    replace bby := Box.keep B bby
    replace hx := hx.up B B.size
    replace hy := hy.up B B.size
    replace hl := hl.up B B.size
    replace hb := hb.trans (B.mono hb.size)
    clear B
    have HQ2 := Lib.hid hq2
    clear hq2
    refine HQ2.out.mono ?_
    clear HQ2
    generalize (W1.alloc (.cells #[.int .i64 kx, .int .i64 nx, .string sx, .slice ax mx cx, .int .i64 ky, .int .i64 ny, .string sy, .slice ay my cy] 25)) = V2 at *
    rintro e W2 ⟨rfl, B⟩
    replace bbx := Box.keep B bbx
    replace bby := Box.keep B bby
    replace hx := hx.up B B.size
    replace hy := hy.up B B.size
    replace hl := hl.up B B.size
    replace hb := hb.trans (B.mono hb.size)
    clear B
    cases hq : smallB (X :: Y :: l) with
    | false =>
      clear hq
      go_wp2_with fail
      go_ret
      exact ⟨rfl, hb⟩
    | true =>
      have HZ : Hid (X.size ≤ 1500 ∧ X.deep ≤ 700 ∧ Y.size ≤ 1500 ∧ Y.deep ≤ 700 ∧ sizeL l ≤ 1500 ∧ ∀ t, t ∈ l → t.size ≤ 1500 ∧ t.deep ≤ 700) := by
        have h1 := small_mem hq (t := X) (by simp)
        have h2 := small_mem hq (t := Y) (by simp)
        have h3 := (small_size hq).1
        simp only [sizeL] at h3
        exact ⟨h1.1, h1.2, h2.1, h2.2, by omega, fun t ht => small_mem hq (List.mem_cons_of_mem _ (List.mem_cons_of_mem _ ht))⟩
      clear hq
      obtain ⟨L, qL⟩ : ∃ z, (if togB l then normT l else []) = z := ⟨_, rfl⟩
      replace qL := Lib.hid qL
      obtain ⟨ns, qns⟩ : ∃ z, (if togB l then varsL [] l else []) = z := ⟨_, rfl⟩
      replace qns := Lib.hid qns
      obtain ⟨xe, qxe⟩ : ∃ z, errI (togB l) = z := ⟨_, rfl⟩
      replace qxe := Lib.hid qxe
      obtain ⟨bv, qbv⟩ : ∃ z, varR X Y = z := ⟨_, rfl⟩
      replace qbv := Lib.hid qbv
      obtain ⟨xv, qxv⟩ : ∃ z, errI (isB X && isB Y) = z := ⟨_, rfl⟩
      replace qxv := Lib.hid qxv
      obtain ⟨M, qM⟩ : ∃ z, (matchR X Y).getD [] = z := ⟨_, rfl⟩
      replace qM := Lib.hid qM
      obtain ⟨bm, qbm⟩ : ∃ z, (matchR X Y).isSome = z := ⟨_, rfl⟩
      replace qbm := Lib.hid qbm
      go_wp2_with fail
      refine ((normal_no l _ c _ (Nat.le_trans h4 h5) hl (fun t h => by have := HZ.out.2.2.2.2.2 t h; omega)).mono (fun _ _ h => NoQ.of h qL.out qns.out qxe.out)).mono ?_
      rintro e W3 ⟨an, cn, un, rfl, hn, hun, B⟩
      replace bbx := Box.keep B bbx
      replace bby := Box.keep B bby
      replace hx := hx.up B B.size
      replace hy := hy.up B B.size
      replace hl := hl.up B B.size
      replace hb := hb.trans (B.mono hb.size)
      clear B
      go_wp2_with fail
      refine ((refNormal_any l _ c _ hl (Nat.le_trans HZ.out.2.2.2.2.1 (by decide)) (fun t h => by have := HZ.out.2.2.2.2.2 t h; omega)).mono (fun _ _ h => NoQ.of h qL.out qns.out qxe.out)).mono ?_
      rintro e W4 ⟨ao, co, uo, rfl, ho, huo, B⟩
      replace bbx := Box.keep B bbx
      replace bby := Box.keep B bby
      replace hx := hx.up B B.size
      replace hy := hy.up B B.size
      replace hl := hl.up B B.size
      replace hn := hn.up B B.size
      replace hun := hun.up B B.size
      replace hb := hb.trans (B.mono hb.size)
      clear B
      clear qL qns qxe
      have qx0 := bbx.cell 0
      have qx1 := bbx.cell 1
      have qx2 := bbx.cell 2
      have qx3 := bbx.cell 3
      have qy0 := bby.cell 0
      have qy1 := bby.cell 1
      have qy2 := bby.cell 2
      have qy3 := bby.cell 3
      have lx := bbx.lt
      have ly := bby.lt
      simp only [List.getElem?_toArray, List.getElem?_cons_succ, List.getElem?_cons_zero] at qx0 qx1 qx2 qx3 qy0 qy1 qy2 qy3
      go_wp2_with fail
      clear qx0 qx1 qx2 qx3 qy0 qy1 qy2 qy3 lx ly
      refine ((Variant_any X Y _ _ _ hx hy (Nat.le_trans HZ.out.2.1 (by decide)) (Nat.le_trans HZ.out.2.2.2.1 (by decide))).mono (fun _ _ h => VaQ.of h qbv.out qxv.out)).mono ?_
      rintro e W5 ⟨rfl, B⟩
      replace bbx := Box.keep B bbx
      replace bby := Box.keep B bby
      replace hx := hx.up B B.size
      replace hy := hy.up B B.size
      replace hl := hl.up B B.size
      replace hn := hn.up B B.size
      replace hun := hun.up B B.size
      replace ho := ho.up B B.size
      replace huo := huo.up B B.size
      replace hb := hb.trans (B.mono hb.size)
      clear B
      have qx0 := bbx.cell 0
      have qx1 := bbx.cell 1
      have qx2 := bbx.cell 2
      have qx3 := bbx.cell 3
      have qy0 := bby.cell 0
      have qy1 := bby.cell 1
      have qy2 := bby.cell 2
      have qy3 := bby.cell 3
      have lx := bbx.lt
      have ly := bby.lt
      simp only [List.getElem?_toArray, List.getElem?_cons_succ, List.getElem?_cons_zero] at qx0 qx1 qx2 qx3 qy0 qy1 qy2 qy3
      go_wp2_with fail
      clear qx0 qx1 qx2 qx3 qy0 qy1 qy2 qy3 lx ly
      refine ((refVariant_any X Y _ _ _ hx hy (Nat.le_trans HZ.out.1 (by decide)) (Nat.le_trans HZ.out.2.1 (by decide)) (Nat.le_trans HZ.out.2.2.1 (by decide)) (Nat.le_trans HZ.out.2.2.2.1 (by decide))).mono (fun _ _ h => VaQ.of h qbv.out qxv.out)).mono ?_
      rintro e W6 ⟨rfl, B⟩
      replace bbx := Box.keep B bbx
      replace bby := Box.keep B bby
      replace hx := hx.up B B.size
      replace hy := hy.up B B.size
      replace hl := hl.up B B.size
      replace hn := hn.up B B.size
      replace hun := hun.up B B.size
      replace ho := ho.up B B.size
      replace huo := huo.up B B.size
      replace hb := hb.trans (B.mono hb.size)
      clear B
      go_wp2_with fail
      refine (sane_all L _ _ _ hn ho).mono ?_
      rintro e W7 ⟨rfl, B⟩
      replace bbx := Box.keep B bbx
      replace bby := Box.keep B bby
      replace hx := hx.up B B.size
      replace hy := hy.up B B.size
      replace hl := hl.up B B.size
      replace hn := hn.up B B.size
      replace hun := hun.up B B.size
      replace ho := ho.up B B.size
      replace huo := huo.up B B.size
      replace hb := hb.trans (B.mono hb.size)
      clear B
      go_wp2_with fail
      refine (sane_eqN ns _ _ _ hun huo).mono ?_
      rintro e W8 ⟨rfl, B⟩
      replace bbx := Box.keep B bbx
      replace bby := Box.keep B bby
      replace hx := hx.up B B.size
      replace hy := hy.up B B.size
      replace hl := hl.up B B.size
      replace hn := hn.up B B.size
      replace hun := hun.up B B.size
      replace ho := ho.up B B.size
      replace huo := huo.up B B.size
      replace hb := hb.trans (B.mono hb.size)
      clear B
      clear hn hun ho huo
      have qx0 := bbx.cell 0
      have qx1 := bbx.cell 1
      have qx2 := bbx.cell 2
      have qx3 := bbx.cell 3
      have qy0 := bby.cell 0
      have qy1 := bby.cell 1
      have qy2 := bby.cell 2
      have qy3 := bby.cell 3
      have lx := bbx.lt
      have ly := bby.lt
      simp only [List.getElem?_toArray, List.getElem?_cons_succ, List.getElem?_cons_zero] at qx0 qx1 qx2 qx3 qy0 qy1 qy2 qy3
      go_wp2_with fail
      clear qx0 qx1 qx2 qx3 qy0 qy1 qy2 qy3 lx ly
      refine ((match_mt X Y _ _ _ hx hy (Nat.le_trans HZ.out.2.1 (by decide)) (Nat.le_trans HZ.out.2.2.2.1 (by decide))).mono (fun _ _ h => MtQ.of h qM.out qbm.out qxv.out)).mono ?_
      rintro e W9 ⟨B, am, cm, rfl, hm⟩
      replace bbx := Box.keep B bbx
      replace bby := Box.keep B bby
      replace hx := hx.up B B.size
      replace hy := hy.up B B.size
      replace hl := hl.up B B.size
      replace hb := hb.trans (B.mono hb.size)
      clear B
      have qx0 := bbx.cell 0
      have qx1 := bbx.cell 1
      have qx2 := bbx.cell 2
      have qx3 := bbx.cell 3
      have qy0 := bby.cell 0
      have qy1 := bby.cell 1
      have qy2 := bby.cell 2
      have qy3 := bby.cell 3
      have lx := bbx.lt
      have ly := bby.lt
      simp only [List.getElem?_toArray, List.getElem?_cons_succ, List.getElem?_cons_zero] at qx0 qx1 qx2 qx3 qy0 qy1 qy2 qy3
      go_wp2_with fail
      clear qx0 qx1 qx2 qx3 qy0 qy1 qy2 qy3 lx ly
      refine ((refMatch_any X Y _ _ _ hx hy (Nat.le_trans HZ.out.1 (by decide)) (Nat.le_trans HZ.out.2.1 (by decide)) (Nat.le_trans HZ.out.2.2.1 (by decide)) (Nat.le_trans HZ.out.2.2.2.1 (by decide))).mono (fun _ _ h => MtQ.of h qM.out qbm.out qxv.out)).mono ?_
      rintro e W10 ⟨B, aw, cw, rfl, hw⟩
      replace bbx := Box.keep B bbx
      replace bby := Box.keep B bby
      replace hx := hx.up B B.size
      replace hy := hy.up B B.size
      replace hl := hl.up B B.size
      replace hm := hm.up B B.size
      replace hb := hb.trans (B.mono hb.size)
      clear B
      go_wp2_with fail
      refine (sane_all M _ _ _ hm hw).mono ?_
      rintro e W11 ⟨rfl, B⟩
      replace bbx := Box.keep B bbx
      replace bby := Box.keep B bby
      replace hx := hx.up B B.size
      replace hy := hy.up B B.size
      replace hl := hl.up B B.size
      replace hm := hm.up B B.size
      replace hw := hw.up B B.size
      replace hb := hb.trans (B.mono hb.size)
      clear B
      go_wp2_with fail
      go_ret
      exact ⟨rfl, hb⟩
end Go.Proofs.YtlaeaoecmnaneaaDoor
