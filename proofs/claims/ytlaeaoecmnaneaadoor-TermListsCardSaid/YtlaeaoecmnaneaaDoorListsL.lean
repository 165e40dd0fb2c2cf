/- The law of General, List and Items: a second reading of each. -/
import Derived.Test.YtlaeaoecmnaneaaDoorRefList
import Derived.Test.YtlaeaoecmnaneaaDoorTwo
import Derived.Test.YtlaeaoecmnaneaaDoorGeneral
namespace Go.Proofs.YtlaeaoecmnaneaaDoor
open Go.RowKit Go

/-- A tree and a number are handed back. -/
def TnQ (X : Tr) (x : Int) (w : World) (e : Ending) (w' : World) : Prop := ∃ k n s a m c, e = .returned (.tuple #[.agg #[.int .i64 k, .int .i64 n, .string s, .slice a m c], .int .i64 x]) ∧ IsT w'.heap.size w' X (.agg #[.int .i64 k, .int .i64 n, .string s, .slice a m c]) ∧ Below w.heap.size w w'
theorem TnQ.gen {X Y : Tr} {w : World} {e : Ending} {w' : World} {G : Tr} {x : Int} (h : GeneralPost X Y w e w') (hG : genR X Y = G) (hx : errI (isB X && isB Y) = x) : TnQ G x w e w' := by
  subst hG hx
  obtain ⟨hB, v, rfl, hP⟩ := h
  have ht := New.toT hP
  obtain ⟨k, n, s, a, m, c, rfl⟩ := hP.form
  exact ⟨k, n, s, a, m, c, rfl, ht, hB⟩
theorem TnQ.te {Z : Tr} {z : Int} {w : World} {e : Ending} {w' : World} {G : Tr} {x : Int} (h : TePost Z z w e w') (hG : Z = G) (hx : z = x) : TnQ G x w e w' := by
  subst hG hx
  exact h
theorem TnQ.tl {Z : Tr} {z : Int} {w : World} {e : Ending} {w' : World} {G : Tr} {x : Int} (h : TlPost Z z w e w') (hG : Z = G) (hx : z = x) : TnQ G x w e w' := by
  subst hG hx
  exact h
/-- What Items makes of a tree. -/
def Dec (Y : Tr) (L : List Tr) (R : Tr) : Prop := (isB Y = true → Y = listT L R ∧ R.cell = false) ∧ (isB Y = false → L = [] ∧ R = zeroTr)
theorem Dec.one {Y : Tr} {L L' : List Tr} {R R' : Tr} (h : Dec Y L R) (h' : Dec Y L' R') : L' = L ∧ R' = R := by
  cases hb : isB Y with
  | true => exact listT_inj L' L (h'.1 hb).2 (h.1 hb).2 ((h'.1 hb).1.symm.trans (h.1 hb).1)
  | false => exact ⟨(h'.2 hb).1.trans (h.2 hb).1.symm, (h'.2 hb).2.trans (h.2 hb).2.symm⟩
def ItQ (L : List Tr) (R : Tr) (x : Int) (w : World) (e : Ending) (w' : World) : Prop := ∃ a c k n s b m d, e = .returned (.tuple #[.slice a L.length c, .agg #[.int .i64 k, .int .i64 n, .string s, .slice b m d], .int .i64 x]) ∧ IsS w'.heap.size w' L (.slice a L.length c) ∧ IsT w'.heap.size w' R (.agg #[.int .i64 k, .int .i64 n, .string s, .slice b m d]) ∧ Below w.heap.size w w'
def ItD (Y : Tr) (x : Int) (w : World) (e : Ending) (w' : World) : Prop := ∃ L R, Hid (Dec Y L R) ∧ ItQ L R x w e w'
theorem ItQ.zero {w w' : World} (hB : Below w.heap.size w w') : ItQ [] zeroTr 3 w (.returned (.tuple #[.slice none 0 0, .agg #[.int .i64 0, .int .i64 0, .string ⟨#[]⟩, .slice none 0 0], .int .i64 3])) w' :=
  ⟨none, 0, 0, 0, _, none, 0, 0, rfl, ⟨none, 0, rfl, Nat.le_refl _, by decide, IsL.nil⟩, zeroTl _ _, hB⟩
theorem ItD.of {Y : Tr} {w : World} {e : Ending} {w' : World} {x : Int} (h : ItemsPost Y w e w') (hx : errI (isB Y) = x) : ItD Y x w e w' := by
  subst hx
  obtain ⟨hB, h0, h1⟩ := h
  cases hb : isB Y with
  | false =>
    rw [h0 hb]
    exact ⟨[], zeroTr, ⟨fun h => (by rw [hb] at h; cases h), fun _ => ⟨rfl, rfl⟩⟩, ItQ.zero hB⟩
  | true =>
    obtain ⟨l, r, a, c, v, h2, h3, rfl, h4, h5, h6, h7⟩ := h1 hb
    have ht := New.toT h7
    obtain ⟨k, n, s, b, m, d, rfl⟩ := h7.form
    exact ⟨l, r, ⟨fun _ => ⟨h2, h3⟩, fun h => (by rw [hb] at h; cases h)⟩, a, c, k, n, s, b, m, d, rfl, ⟨a, c, rfl, h4, h5, IsPL.toL (fun _ h => h.2) _ _ h6⟩, ht, hB⟩
theorem ItQ.of {Y : Tr} {w : World} {e : Ending} {w' : World} {x : Int} {L : List Tr} {R : Tr} (h : RiPost Y w e w') (hx : errI (isB Y) = x) (hd : Dec Y L R) : ItQ L R x w e w' := by
  subst hx
  obtain ⟨hB, h0, h1⟩ := h
  cases hb : isB Y with
  | false =>
    rw [h0 hb]
    obtain ⟨rfl, rfl⟩ := hd.2 hb
    exact ItQ.zero hB
  | true =>
    obtain ⟨l, r, a, c, v, h2, h3, rfl, h6, h7⟩ := h1 hb
    obtain ⟨rfl, rfl⟩ := hd.one ⟨fun _ => ⟨h2, h3⟩, fun h => (by rw [hb] at h; cases h)⟩
    obtain ⟨k, n, s, b, m, d, rfl⟩ := (IsT.toP _ _ h7).form
    exact ⟨a, c, k, n, s, b, m, d, rfl, h6, h7, hB⟩
theorem samed (Z : Tr) (v u : Value) (w : World) (h : IsT w.heap.size w Z v) (k : IsT w.heap.size w Z u) : Calls Tryd.prog 25 #[v, u] w fun e w' => e = .returned (.bool true) ∧ Below w.heap.size w w' := by
  have := refSame_any Z Z v u w h k
  rw [show eqT Z Z = true by simp [eqT]] at this
  exact this

set_option maxRecDepth 100000 in
set_option maxHeartbeats 8000000 in
theorem termLists_any (X Y : Tr) (l : List Tr) (vx vy : Value) (a : Option Addr) (c : Nat) (w : World) (hx : IsT w.heap.size w X vx) (hy : IsT w.heap.size w Y vy) (hl : IsL w.heap.size w l a) (h4 : l.length ≤ c) (h5 : c ≤ maxLen) (hre : c * 56 ≤ 140737488351232) (htab : Lib.TabBelow Tryd.prog w.heap.size w "internal/strconv.uint64pow10" .u64 Lib.pow10Tab) :
    Calls Tryd.prog 7 #[vx, vy, .slice a l.length c] w fun e w' => e = .returned (.bool true) ∧ Below w.heap.size w w' := by
  have hlm : l.length ≤ 9223372036854775807 := by unfold maxLen at h5; omega
  obtain ⟨kx, nx, sx, ax, mx, cx, rfl⟩ := (IsT.toP _ _ hx).form
  obtain ⟨ky, ny, sy, ay, my, cy, rfl⟩ := (IsT.toP _ _ hy).form
  have bbx : Box ((w.alloc (.cells #[.int .i64 kx, .int .i64 nx, .string sx, .slice ax mx cx] 25)).alloc (.cells #[.int .i64 ky, .int .i64 ny, .string sy, .slice ay my cy] 25)) w.heap.size #[.int .i64 kx, .int .i64 nx, .string sx, .slice ax mx cx] 25 := (Box.at rfl).alloc _
  have bby : Box ((w.alloc (.cells #[.int .i64 kx, .int .i64 nx, .string sx, .slice ax mx cx] 25)).alloc (.cells #[.int .i64 ky, .int .i64 ny, .string sy, .slice ay my cy] 25)) (w.heap.size + 1) #[.int .i64 ky, .int .i64 ny, .string sy, .slice ay my cy] 25 := Box.at (by simp)
  have hb := below_a2 (Nat.le_refl w.heap.size) (.cells #[.int .i64 kx, .int .i64 nx, .string sx, .slice ax mx cx] 25) (.cells #[.int .i64 ky, .int .i64 ny, .string sy, .slice ay my cy] 25)
  replace hx := hx.up hb hb.size
  replace hy := hy.up hb hb.size
  replace hl := hl.up hb hb.size
  go_enter Tryd.func7, Tryd.ntmps7
  go_wp2_with fail
  refine (sane_any _ (fun w'' h => htab w'' (hb.trans (h.mono hb.size)))).mono ?_
  rintro e W1 ⟨rfl, B⟩
  replace bbx := Box.keep B bbx
  replace bby := Box.keep B bby
  replace hx := hx.up B B.size
  replace hy := hy.up B B.size
  replace hl := hl.up B B.size
  replace hb := hb.trans (B.mono hb.size)
  clear B
  obtain ⟨i0, hi, hz0, hz1, hz2⟩ := info_parts infoTerm
  by_cases h0 : 0 < l.length
  · obtain ⟨b, off, rfl, hbl⟩ := hl.addr h0
    obtain ⟨news, hn1, hn2, hn3, hn4⟩ := IsL.news l b off hl
    have hown := own_new (W := W1) (lo := W1.heap.size) [.int .i64 kx, .int .i64 nx, .string sx, .slice ax mx cx, .int .i64 ky, .int .i64 ny, .string sy, .slice ay my cy] 2 rfl (by unfold maxLen; omega) (Nat.le_refl _)
    have qx0 := bbx.cell 0
    have qx1 := bbx.cell 1
    have qx2 := bbx.cell 2
    have qx3 := bbx.cell 3
    have qy0 := bby.cell 0
    have qy1 := bby.cell 1
    have qy2 := bby.cell 2
    have qy3 := bby.cell 3
    have lx := bbx.lt
    have ly := bby.lt
    simp only [List.getElem?_toArray, List.getElem?_cons_succ, List.getElem?_cons_zero] at qx0 qx1 qx2 qx3 qy0 qy1 qy2 qy3
    have hn5 : ∀ j u, news[j]? = some u → (W1.alloc (.cells #[.int .i64 kx, .int .i64 nx, .string sx, .slice ax mx cx, .int .i64 ky, .int .i64 ny, .string sy, .slice ay my cy] 25)).cell? ((⟨b, off, none⟩ : Addr).add j) = some u := fun j u h => by
      rw [Addr.add_lit]
      exact ((below_a1 (Nat.le_refl W1.heap.size) _).cell (p := ⟨b, off + j, none⟩) hbl).trans (hn2 j u h)
    have hn6 : 2 + l.length ≤ maxLen := by unfold maxLen at h5 ⊢; omega
    have hn7 : (2 + l.length) * 56 ≤ 140737488355328 := by omega
    have hn8 : W1.heap.size ≤ (W1.alloc (.cells #[.int .i64 kx, .int .i64 nx, .string sx, .slice ax mx cx, .int .i64 ky, .int .i64 ny, .string sy, .slice ay my cy] 25)).heap.size := by simp
    go_wp2_with (at_builtin; refine wpList_append_where rfl _ _ 22 rfl W1.heap.size 25 i0 _ 4 56 Tryd.underlying22 hi hz0 hz1 hz2 rfl (by decide) _ _ _ rfl hown ⟨b, off, none⟩ l.length c news rfl hn1 hn5 hn3 hn6 hn7 hn8 ?_)
    intro v2 V2 hown2 hgrow hwh
    have B : Below W1.heap.size W1 V2 := (below_a1 (Nat.le_refl _) _).trans (grown_below' hgrow (by simp) (fun g hg => by cases hg; exact Nat.le_refl _))
    obtain ⟨g, cap, rfl, e1, e2, hL2⟩ := row_two hown2 B hx hy hn4
    replace bbx := Box.keep B bbx
    replace bby := Box.keep B bby
    replace hx := hx.up B B.size
    replace hy := hy.up B B.size
    replace hl := hl.up B B.size
    replace hb := hb.trans (B.mono hb.size)
    clear B
    clear hown hown2 hgrow hwh hn1 hn2 hn3 hn4 hn5 hn6 hn7 hn8 qx0 qx1 qx2 qx3 qy0 qy1 qy2 qy3 lx ly
    have HL2 := Lib.hid hL2
    clear hL2
    go_wp2_with fail
    refine (small_any (X :: Y :: l) _ cap _ (Nat.le_trans e1 e2) HL2.out).mono ?_
    rintro e W2 ⟨rfl, B⟩
    replace bbx := Box.keep B bbx
    replace bby := Box.keep B bby
    replace hx := hx.up B B.size
    replace hy := hy.up B B.size
    replace hl := hl.up B B.size
    replace hb := hb.trans (B.mono hb.size)
    clear B
    clear HL2 e1 e2
    cases hq : smallB (X :: Y :: l) with
    | false =>
      clear hq
      go_wp2_with fail
      go_ret
      exact ⟨rfl, hb⟩
    | true =>
      have HZ : Hid (X.size ≤ 1500 ∧ X.deep ≤ 700 ∧ Y.size ≤ 1500 ∧ Y.deep ≤ 700 ∧ sizeL l ≤ 1500 ∧ ∀ t, t ∈ l → t.size ≤ 1500 ∧ t.deep ≤ 700) := by
        have h1 := small_mem hq (t := X) (by simp)
        have h2 := small_mem hq (t := Y) (by simp)
        have h3 := (small_size hq).1
        simp only [sizeL] at h3
        exact ⟨h1.1, h1.2, h2.1, h2.2, by omega, fun t ht => small_mem hq (List.mem_cons_of_mem _ (List.mem_cons_of_mem _ ht))⟩
      clear hq
      obtain ⟨G, qG⟩ : ∃ z, genR X Y = z := ⟨_, rfl⟩
      replace qG := Lib.hid qG
      obtain ⟨xg, qxg⟩ : ∃ z, errI (isB X && isB Y) = z := ⟨_, rfl⟩
      replace qxg := Lib.hid qxg
      obtain ⟨V, qV⟩ : ∃ z, lstV l X = z := ⟨_, rfl⟩
      replace qV := Lib.hid qV
      obtain ⟨xv, qxv⟩ : ∃ z, lstE l X = z := ⟨_, rfl⟩
      replace qxv := Lib.hid qxv
      obtain ⟨xi, qxi⟩ : ∃ z, errI (isB Y) = z := ⟨_, rfl⟩
      replace qxi := Lib.hid qxi
      have qx0 := bbx.cell 0
      have qx1 := bbx.cell 1
      have qx2 := bbx.cell 2
      have qx3 := bbx.cell 3
      have qy0 := bby.cell 0
      have qy1 := bby.cell 1
      have qy2 := bby.cell 2
      have qy3 := bby.cell 3
      have lx := bbx.lt
      have ly := bby.lt
      simp only [List.getElem?_toArray, List.getElem?_cons_succ, List.getElem?_cons_zero] at qx0 qx1 qx2 qx3 qy0 qy1 qy2 qy3
      go_wp2_with fail
      clear qx0 qx1 qx2 qx3 qy0 qy1 qy2 qy3 lx ly
      refine ((General_any X Y _ _ _ hx hy (Nat.le_trans HZ.out.2.1 (by decide)) (Nat.le_trans HZ.out.2.2.2.1 (by decide)) (fun w'' h => htab w'' (hb.trans (h.mono hb.size)))).mono (fun _ _ h => TnQ.gen h qG.out qxg.out)).mono ?_
      rintro e W3 ⟨kg, ng, sg, ag, mg, cg, rfl, hg, B⟩
      replace bbx := Box.keep B bbx
      replace bby := Box.keep B bby
      replace hx := hx.up B B.size
      replace hy := hy.up B B.size
      replace hl := hl.up B B.size
      replace hb := hb.trans (B.mono hb.size)
      clear B
      clear htab
      have qx0 := bbx.cell 0
      have qx1 := bbx.cell 1
      have qx2 := bbx.cell 2
      have qx3 := bbx.cell 3
      have qy0 := bby.cell 0
      have qy1 := bby.cell 1
      have qy2 := bby.cell 2
      have qy3 := bby.cell 3
      have lx := bbx.lt
      have ly := bby.lt
      simp only [List.getElem?_toArray, List.getElem?_cons_succ, List.getElem?_cons_zero] at qx0 qx1 qx2 qx3 qy0 qy1 qy2 qy3
      go_wp2_with fail
      clear qx0 qx1 qx2 qx3 qy0 qy1 qy2 qy3 lx ly
      have bbg : Box (W3.alloc (.cells #[.int .i64 kg, .int .i64 ng, .string sg, .slice ag mg cg] 25)) W3.heap.size #[.int .i64 kg, .int .i64 ng, .string sg, .slice ag mg cg] 25 := Box.at rfl
      have B := below_a1 (Nat.le_refl W3.heap.size) (.cells #[.int .i64 kg, .int .i64 ng, .string sg, .slice ag mg cg] 25)
      replace bbx := Box.keep B bbx
      replace bby := Box.keep B bby
      replace hx := hx.up B B.size
      replace hy := hy.up B B.size
      replace hl := hl.up B B.size
      replace hg := hg.up B B.size
      replace hb := hb.trans (B.mono hb.size)
      clear B
      generalize (W3.alloc (.cells #[.int .i64 kg, .int .i64 ng, .string sg, .slice ag mg cg] 25)) = V4 at *
      refine ((refGeneral_any X Y _ _ _ hx hy (Nat.le_trans HZ.out.1 (by decide)) (Nat.le_trans HZ.out.2.1 (by decide)) (Nat.le_trans HZ.out.2.2.1 (by decide)) (Nat.le_trans HZ.out.2.2.2.1 (by decide))).mono (fun _ _ h => TnQ.te h qG.out qxg.out)).mono ?_
      rintro e W5 ⟨ku, nu, su, au, mu, cu, rfl, hu, B⟩
      replace bbx := Box.keep B bbx
      replace bby := Box.keep B bby
      replace bbg := Box.keep B bbg
      replace hx := hx.up B B.size
      replace hy := hy.up B B.size
      replace hl := hl.up B B.size
      replace hg := hg.up B B.size
      replace hb := hb.trans (B.mono hb.size)
      clear B
      clear qG qxg
      have qx0 := bbx.cell 0
      have qx1 := bbx.cell 1
      have qx2 := bbx.cell 2
      have qx3 := bbx.cell 3
      have lx := bbx.lt
      simp only [List.getElem?_toArray, List.getElem?_cons_succ, List.getElem?_cons_zero] at qx0 qx1 qx2 qx3
      go_wp2_with fail
      clear qx0 qx1 qx2 qx3 lx
      have bbu : Box (W5.alloc (.cells #[.int .i64 ku, .int .i64 nu, .string su, .slice au mu cu] 25)) W5.heap.size #[.int .i64 ku, .int .i64 nu, .string su, .slice au mu cu] 25 := Box.at rfl
      have B := below_a1 (Nat.le_refl W5.heap.size) (.cells #[.int .i64 ku, .int .i64 nu, .string su, .slice au mu cu] 25)
      replace bbx := Box.keep B bbx
      replace bby := Box.keep B bby
      replace bbg := Box.keep B bbg
      replace hx := hx.up B B.size
      replace hy := hy.up B B.size
      replace hl := hl.up B B.size
      replace hg := hg.up B B.size
      replace hu := hu.up B B.size
      replace hb := hb.trans (B.mono hb.size)
      clear B
      generalize (W5.alloc (.cells #[.int .i64 ku, .int .i64 nu, .string su, .slice au mu cu] 25)) = V6 at *
      refine ((List_any l X _ c _ _ hl (Nat.le_trans h4 h5) (fun t h => by have := HZ.out.2.2.2.2.2 t h; omega) hx (Nat.le_trans HZ.out.2.1 (by decide))).mono (fun _ _ h => TnQ.tl h qV.out qxv.out)).mono ?_
      rintro e W7 ⟨kp, np, sp, ap, mp, cp, rfl, hp, B⟩
      replace bbx := Box.keep B bbx
      replace bby := Box.keep B bby
      replace bbg := Box.keep B bbg
      replace bbu := Box.keep B bbu
      replace hx := hx.up B B.size
      replace hy := hy.up B B.size
      replace hl := hl.up B B.size
      replace hg := hg.up B B.size
      replace hu := hu.up B B.size
      replace hb := hb.trans (B.mono hb.size)
      clear B
      have qx0 := bbx.cell 0
      have qx1 := bbx.cell 1
      have qx2 := bbx.cell 2
      have qx3 := bbx.cell 3
      have lx := bbx.lt
      simp only [List.getElem?_toArray, List.getElem?_cons_succ, List.getElem?_cons_zero] at qx0 qx1 qx2 qx3
      go_wp2_with fail
      clear qx0 qx1 qx2 qx3 lx
      have bbp : Box (W7.alloc (.cells #[.int .i64 kp, .int .i64 np, .string sp, .slice ap mp cp] 25)) W7.heap.size #[.int .i64 kp, .int .i64 np, .string sp, .slice ap mp cp] 25 := Box.at rfl
      have B := below_a1 (Nat.le_refl W7.heap.size) (.cells #[.int .i64 kp, .int .i64 np, .string sp, .slice ap mp cp] 25)
      replace bbx := Box.keep B bbx
      replace bby := Box.keep B bby
      replace bbg := Box.keep B bbg
      replace bbu := Box.keep B bbu
      replace hx := hx.up B B.size
      replace hy := hy.up B B.size
      replace hl := hl.up B B.size
      replace hg := hg.up B B.size
      replace hu := hu.up B B.size
      replace hp := hp.up B B.size
      replace hb := hb.trans (B.mono hb.size)
      clear B
      generalize (W7.alloc (.cells #[.int .i64 kp, .int .i64 np, .string sp, .slice ap mp cp] 25)) = V8 at *
      refine ((refList_any l X _ c _ _ hl hx (Nat.le_trans HZ.out.2.2.2.2.1 (by decide)) (fun t h => by have := HZ.out.2.2.2.2.2 t h; omega) (Nat.le_trans HZ.out.1 (by decide)) (Nat.le_trans HZ.out.2.1 (by decide))).mono (fun _ _ h => TnQ.tl h qV.out qxv.out)).mono ?_
      rintro e W9 ⟨kv, nv, sv, av, mv, cv, rfl, hv, B⟩
      replace bbx := Box.keep B bbx
      replace bby := Box.keep B bby
      replace bbg := Box.keep B bbg
      replace bbu := Box.keep B bbu
      replace bbp := Box.keep B bbp
      replace hx := hx.up B B.size
      replace hy := hy.up B B.size
      replace hl := hl.up B B.size
      replace hg := hg.up B B.size
      replace hu := hu.up B B.size
      replace hp := hp.up B B.size
      replace hb := hb.trans (B.mono hb.size)
      clear B
      clear qV qxv
      clear bbx hx hl
      have qg0 := bbg.cell 0
      have qg1 := bbg.cell 1
      have qg2 := bbg.cell 2
      have qg3 := bbg.cell 3
      have qu0 := bbu.cell 0
      have qu1 := bbu.cell 1
      have qu2 := bbu.cell 2
      have qu3 := bbu.cell 3
      have lg := bbg.lt
      have lu := bbu.lt
      simp only [List.getElem?_toArray, List.getElem?_cons_succ, List.getElem?_cons_zero] at qg0 qg1 qg2 qg3 qu0 qu1 qu2 qu3
      go_wp2_with fail
      clear qg0 qg1 qg2 qg3 qu0 qu1 qu2 qu3 lg lu
      have bbv : Box (W9.alloc (.cells #[.int .i64 kv, .int .i64 nv, .string sv, .slice av mv cv] 25)) W9.heap.size #[.int .i64 kv, .int .i64 nv, .string sv, .slice av mv cv] 25 := Box.at rfl
      have B := below_a1 (Nat.le_refl W9.heap.size) (.cells #[.int .i64 kv, .int .i64 nv, .string sv, .slice av mv cv] 25)
      replace bby := Box.keep B bby
      replace bbg := Box.keep B bbg
      replace bbu := Box.keep B bbu
      replace bbp := Box.keep B bbp
      replace hy := hy.up B B.size
      replace hg := hg.up B B.size
      replace hu := hu.up B B.size
      replace hp := hp.up B B.size
      replace hv := hv.up B B.size
      replace hb := hb.trans (B.mono hb.size)
      clear B
      generalize (W9.alloc (.cells #[.int .i64 kv, .int .i64 nv, .string sv, .slice av mv cv] 25)) = V10 at *
      refine (samed G _ _ _ hg hu).mono ?_
      rintro e W11 ⟨rfl, B⟩
      replace bby := Box.keep B bby
      replace bbg := Box.keep B bbg
      replace bbu := Box.keep B bbu
      replace bbp := Box.keep B bbp
      replace bbv := Box.keep B bbv
      replace hy := hy.up B B.size
      replace hg := hg.up B B.size
      replace hu := hu.up B B.size
      replace hp := hp.up B B.size
      replace hv := hv.up B B.size
      replace hb := hb.trans (B.mono hb.size)
      clear B
      clear bbg hg bbu hu
      have qp0 := bbp.cell 0
      have qp1 := bbp.cell 1
      have qp2 := bbp.cell 2
      have qp3 := bbp.cell 3
      have qv0 := bbv.cell 0
      have qv1 := bbv.cell 1
      have qv2 := bbv.cell 2
      have qv3 := bbv.cell 3
      have lp := bbp.lt
      have lv := bbv.lt
      simp only [List.getElem?_toArray, List.getElem?_cons_succ, List.getElem?_cons_zero] at qp0 qp1 qp2 qp3 qv0 qv1 qv2 qv3
      go_wp2_with fail
      clear qp0 qp1 qp2 qp3 qv0 qv1 qv2 qv3 lp lv
      refine (samed V _ _ _ hp hv).mono ?_
      rintro e W12 ⟨rfl, B⟩
      replace bby := Box.keep B bby
      replace bbp := Box.keep B bbp
      replace bbv := Box.keep B bbv
      replace hy := hy.up B B.size
      replace hp := hp.up B B.size
      replace hv := hv.up B B.size
      replace hb := hb.trans (B.mono hb.size)
      clear B
      clear bbp hp bbv hv
      have qy0 := bby.cell 0
      have qy1 := bby.cell 1
      have qy2 := bby.cell 2
      have qy3 := bby.cell 3
      have ly := bby.lt
      simp only [List.getElem?_toArray, List.getElem?_cons_succ, List.getElem?_cons_zero] at qy0 qy1 qy2 qy3
      go_wp2_with fail
      clear qy0 qy1 qy2 qy3 ly
      refine ((Items_any Y _ _ hy (Nat.le_trans HZ.out.2.2.2.1 (by decide))).mono (fun _ _ h => ItD.of h qxi.out)).mono ?_
      rintro e W13 ⟨L, R, HD, an, cn, kr, nr, sr, ar, mr, cr, rfl, hn, hr, B⟩
      replace bby := Box.keep B bby
      replace hy := hy.up B B.size
      replace hb := hb.trans (B.mono hb.size)
      clear B
      have qy0 := bby.cell 0
      have qy1 := bby.cell 1
      have qy2 := bby.cell 2
      have qy3 := bby.cell 3
      have ly := bby.lt
      simp only [List.getElem?_toArray, List.getElem?_cons_succ, List.getElem?_cons_zero] at qy0 qy1 qy2 qy3
      go_wp2_with fail
      clear qy0 qy1 qy2 qy3 ly
      have bbr : Box (W13.alloc (.cells #[.int .i64 kr, .int .i64 nr, .string sr, .slice ar mr cr] 25)) W13.heap.size #[.int .i64 kr, .int .i64 nr, .string sr, .slice ar mr cr] 25 := Box.at rfl
      have B := below_a1 (Nat.le_refl W13.heap.size) (.cells #[.int .i64 kr, .int .i64 nr, .string sr, .slice ar mr cr] 25)
      replace bby := Box.keep B bby
      replace hy := hy.up B B.size
      replace hn := hn.up B B.size
      replace hr := hr.up B B.size
      replace hb := hb.trans (B.mono hb.size)
      clear B
      generalize (W13.alloc (.cells #[.int .i64 kr, .int .i64 nr, .string sr, .slice ar mr cr] 25)) = V14 at *
      refine ((refItems_any Y _ _ hy (Nat.le_trans HZ.out.2.2.1 (by decide)) (Nat.le_trans HZ.out.2.2.2.1 (by decide))).mono (fun _ _ h => ItQ.of h qxi.out HD.out)).mono ?_
      rintro e W15 ⟨ao, co, kt, nt, st, au, mt, ct, rfl, ho, ht, B⟩
      replace bby := Box.keep B bby
      replace bbr := Box.keep B bbr
      replace hy := hy.up B B.size
      replace hn := hn.up B B.size
      replace hr := hr.up B B.size
      replace hb := hb.trans (B.mono hb.size)
      clear B
      clear bby hy
      clear qxi HD HZ
      go_wp2_with fail
      have bbt : Box (W15.alloc (.cells #[.int .i64 kt, .int .i64 nt, .string st, .slice au mt ct] 25)) W15.heap.size #[.int .i64 kt, .int .i64 nt, .string st, .slice au mt ct] 25 := Box.at rfl
      have B := below_a1 (Nat.le_refl W15.heap.size) (.cells #[.int .i64 kt, .int .i64 nt, .string st, .slice au mt ct] 25)
      replace bbr := Box.keep B bbr
      replace hn := hn.up B B.size
      replace hr := hr.up B B.size
      replace ho := ho.up B B.size
      replace ht := ht.up B B.size
      replace hb := hb.trans (B.mono hb.size)
      clear B
      generalize (W15.alloc (.cells #[.int .i64 kt, .int .i64 nt, .string st, .slice au mt ct] 25)) = V16 at *
      refine (sane_all L _ _ _ hn ho).mono ?_
      rintro e W17 ⟨rfl, B⟩
      replace bbr := Box.keep B bbr
      replace bbt := Box.keep B bbt
      replace hn := hn.up B B.size
      replace hr := hr.up B B.size
      replace ho := ho.up B B.size
      replace ht := ht.up B B.size
      replace hb := hb.trans (B.mono hb.size)
      clear B
      clear hn ho
      have qr0 := bbr.cell 0
      have qr1 := bbr.cell 1
      have qr2 := bbr.cell 2
      have qr3 := bbr.cell 3
      have qt0 := bbt.cell 0
      have qt1 := bbt.cell 1
      have qt2 := bbt.cell 2
      have qt3 := bbt.cell 3
      have lr := bbr.lt
      have lt := bbt.lt
      simp only [List.getElem?_toArray, List.getElem?_cons_succ, List.getElem?_cons_zero] at qr0 qr1 qr2 qr3 qt0 qt1 qt2 qt3
      go_wp2_with fail
      clear qr0 qr1 qr2 qr3 qt0 qt1 qt2 qt3 lr lt
      refine (samed R _ _ _ hr ht).mono ?_
      rintro e W18 ⟨rfl, B⟩
      replace bbr := Box.keep B bbr
      replace bbt := Box.keep B bbt
      replace hr := hr.up B B.size
      replace ht := ht.up B B.size
      replace hb := hb.trans (B.mono hb.size)
      clear B
      go_wp2_with fail
      go_ret
      exact ⟨rfl, hb⟩
  · replace h0 : l.length = 0 := by omega
    have hsrc : Src Tryd.prog i0.size 22 (.slice a l.length c) 0 [] (W1.alloc (.cells #[.int .i64 kx, .int .i64 nx, .string sx, .slice ax mx cx, .int .i64 ky, .int .i64 ny, .string sy, .slice ay my cy] 25)) := by
      rw [h0]
      rcases a with _ | ad
      · exact Src.ofNil _ Tryd.underlying22 c
      · exact Src.ofSlice _ Tryd.underlying22 ad 0 c [] (by simp) (fun j u h => by simp at h) (fun u hu => by cases hu)
    have hown := own_new (W := W1) (lo := W1.heap.size) [.int .i64 kx, .int .i64 nx, .string sx, .slice ax mx cx, .int .i64 ky, .int .i64 ny, .string sy, .slice ay my cy] 2 rfl (by unfold maxLen; omega) (Nat.le_refl _)
    have B := below_a1 (Nat.le_refl W1.heap.size) (.cells #[.int .i64 kx, .int .i64 nx, .string sx, .slice ax mx cx, .int .i64 ky, .int .i64 ny, .string sy, .slice ay my cy] 25)
    obtain ⟨g, cap, hv, e1, e2, hL2⟩ := row_two (l := l) (news := []) (by rw [h0]; exact hown) B hx hy (fun i hi => by omega)
    simp only [Value.slice.injEq, Option.some.injEq, Addr.mk.injEq] at hv
    obtain ⟨⟨rfl, -, -⟩, -, rfl⟩ := hv
    have qx0 := bbx.cell 0
    have qx1 := bbx.cell 1
    have qx2 := bbx.cell 2
    have qx3 := bbx.cell 3
    have qy0 := bby.cell 0
    have qy1 := bby.cell 1
    have qy2 := bby.cell 2
    have qy3 := bby.cell 3
    have lx := bbx.lt
    have ly := bby.lt
    simp only [List.getElem?_toArray, List.getElem?_cons_succ, List.getElem?_cons_zero] at qx0 qx1 qx2 qx3 qy0 qy1 qy2 qy3
    have HL2 := Lib.hid (And.intro h0 (And.intro hL2 B))
    clear h0 hown hL2 B e1 e2
    go_wp2_with (at_builtin; refine wpList_append_none rfl _ _ 22 rfl 25 i0 Tryd.underlying22 hi _ 2 2 (Nat.le_refl _) rfl _ rfl hsrc ?_)
    go_wp2_with fail
    clear hsrc qx0 qx1 qx2 qx3 qy0 qy1 qy2 qy3 lx ly
    obtain ⟨h0, hL2, B⟩ := HL2.out
    have hq2 := small_any (X :: Y :: l) _ 2 _ (by simp [h0]; unfold maxLen; omega) hL2
    rw [show (X :: Y :: l).length = 2 by simp [h0]] at hq2
    clear hL2 HL2 h0
    replace bbx := Box.keep B bbx
    replace bby := Box.keep B bby
    replace hx := hx.up B B.size
    replace hy := hy.up B B.size
    replace hl := hl.up B B.size
    replace hb := hb.trans (B.mono hb.size)
    clear B
    have HQ2 := Lib.hid hq2
    clear hq2
    refine HQ2.out.mono ?_
    clear HQ2
    generalize (W1.alloc (.cells #[.int .i64 kx, .int .i64 nx, .string sx, .slice ax mx cx, .int .i64 ky, .int .i64 ny, .string sy, .slice ay my cy] 25)) = V2 at *
    rintro e W2 ⟨rfl, B⟩
    replace bbx := Box.keep B bbx
    replace bby := Box.keep B bby
    replace hx := hx.up B B.size
    replace hy := hy.up B B.size
    replace hl := hl.up B B.size
    replace hb := hb.trans (B.mono hb.size)
    clear B
    cases hq : smallB (X :: Y :: l) with
    | false =>
      clear hq
      go_wp2_with fail
      go_ret
      exact ⟨rfl, hb⟩
    | true =>
      have HZ : Hid (X.size ≤ 1500 ∧ X.deep ≤ 700 ∧ Y.size ≤ 1500 ∧ Y.deep ≤ 700 ∧ sizeL l ≤ 1500 ∧ ∀ t, t ∈ l → t.size ≤ 1500 ∧ t.deep ≤ 700) := by
        have h1 := small_mem hq (t := X) (by simp)
        have h2 := small_mem hq (t := Y) (by simp)
        have h3 := (small_size hq).1
        simp only [sizeL] at h3
        exact ⟨h1.1, h1.2, h2.1, h2.2, by omega, fun t ht => small_mem hq (List.mem_cons_of_mem _ (List.mem_cons_of_mem _ ht))⟩
      clear hq
      obtain ⟨G, qG⟩ : ∃ z, genR X Y = z := ⟨_, rfl⟩
      replace qG := Lib.hid qG
      obtain ⟨xg, qxg⟩ : ∃ z, errI (isB X && isB Y) = z := ⟨_, rfl⟩
      replace qxg := Lib.hid qxg
      obtain ⟨V, qV⟩ : ∃ z, lstV l X = z := ⟨_, rfl⟩
      replace qV := Lib.hid qV
      obtain ⟨xv, qxv⟩ : ∃ z, lstE l X = z := ⟨_, rfl⟩
      replace qxv := Lib.hid qxv
      obtain ⟨xi, qxi⟩ : ∃ z, errI (isB Y) = z := ⟨_, rfl⟩
      replace qxi := Lib.hid qxi
      have qx0 := bbx.cell 0
      have qx1 := bbx.cell 1
      have qx2 := bbx.cell 2
      have qx3 := bbx.cell 3
      have qy0 := bby.cell 0
      have qy1 := bby.cell 1
      have qy2 := bby.cell 2
      have qy3 := bby.cell 3
      have lx := bbx.lt
      have ly := bby.lt
      simp only [List.getElem?_toArray, List.getElem?_cons_succ, List.getElem?_cons_zero] at qx0 qx1 qx2 qx3 qy0 qy1 qy2 qy3
      go_wp2_with fail
      clear qx0 qx1 qx2 qx3 qy0 qy1 qy2 qy3 lx ly
      refine ((General_any X Y _ _ _ hx hy (Nat.le_trans HZ.out.2.1 (by decide)) (Nat.le_trans HZ.out.2.2.2.1 (by decide)) (fun w'' h => htab w'' (hb.trans (h.mono hb.size)))).mono (fun _ _ h => TnQ.gen h qG.out qxg.out)).mono ?_
      rintro e W3 ⟨kg, ng, sg, ag, mg, cg, rfl, hg, B⟩
      replace bbx := Box.keep B bbx
      replace bby := Box.keep B bby
      replace hx := hx.up B B.size
      replace hy := hy.up B B.size
      replace hl := hl.up B B.size
      replace hb := hb.trans (B.mono hb.size)
      clear B
      clear htab
      have qx0 := bbx.cell 0
      have qx1 := bbx.cell 1
      have qx2 := bbx.cell 2
      have qx3 := bbx.cell 3
      have qy0 := bby.cell 0
      have qy1 := bby.cell 1
      have qy2 := bby.cell 2
      have qy3 := bby.cell 3
      have lx := bbx.lt
      have ly := bby.lt
      simp only [List.getElem?_toArray, List.getElem?_cons_succ, List.getElem?_cons_zero] at qx0 qx1 qx2 qx3 qy0 qy1 qy2 qy3
      go_wp2_with fail
      clear qx0 qx1 qx2 qx3 qy0 qy1 qy2 qy3 lx ly
      have bbg : Box (W3.alloc (.cells #[.int .i64 kg, .int .i64 ng, .string sg, .slice ag mg cg] 25)) W3.heap.size #[.int .i64 kg, .int .i64 ng, .string sg, .slice ag mg cg] 25 := Box.at rfl
      have B := below_a1 (Nat.le_refl W3.heap.size) (.cells #[.int .i64 kg, .int .i64 ng, .string sg, .slice ag mg cg] 25)
      replace bbx := Box.keep B bbx
      replace bby := Box.keep B bby
      replace hx := hx.up B B.size
      replace hy := hy.up B B.size
      replace hl := hl.up B B.size
      replace hg := hg.up B B.size
      replace hb := hb.trans (B.mono hb.size)
      clear B
      generalize (W3.alloc (.cells #[.int .i64 kg, .int .i64 ng, .string sg, .slice ag mg cg] 25)) = V4 at *
      refine ((refGeneral_any X Y _ _ _ hx hy (Nat.le_trans HZ.out.1 (by decide)) (Nat.le_trans HZ.out.2.1 (by decide)) (Nat.le_trans HZ.out.2.2.1 (by decide)) (Nat.le_trans HZ.out.2.2.2.1 (by decide))).mono (fun _ _ h => TnQ.te h qG.out qxg.out)).mono ?_
      rintro e W5 ⟨ku, nu, su, au, mu, cu, rfl, hu, B⟩
      replace bbx := Box.keep B bbx
      replace bby := Box.keep B bby
      replace bbg := Box.keep B bbg
      replace hx := hx.up B B.size
      replace hy := hy.up B B.size
      replace hl := hl.up B B.size
      replace hg := hg.up B B.size
      replace hb := hb.trans (B.mono hb.size)
      clear B
      clear qG qxg
      have qx0 := bbx.cell 0
      have qx1 := bbx.cell 1
      have qx2 := bbx.cell 2
      have qx3 := bbx.cell 3
      have lx := bbx.lt
      simp only [List.getElem?_toArray, List.getElem?_cons_succ, List.getElem?_cons_zero] at qx0 qx1 qx2 qx3
      go_wp2_with fail
      clear qx0 qx1 qx2 qx3 lx
      have bbu : Box (W5.alloc (.cells #[.int .i64 ku, .int .i64 nu, .string su, .slice au mu cu] 25)) W5.heap.size #[.int .i64 ku, .int .i64 nu, .string su, .slice au mu cu] 25 := Box.at rfl
      have B := below_a1 (Nat.le_refl W5.heap.size) (.cells #[.int .i64 ku, .int .i64 nu, .string su, .slice au mu cu] 25)
      replace bbx := Box.keep B bbx
      replace bby := Box.keep B bby
      replace bbg := Box.keep B bbg
      replace hx := hx.up B B.size
      replace hy := hy.up B B.size
      replace hl := hl.up B B.size
      replace hg := hg.up B B.size
      replace hu := hu.up B B.size
      replace hb := hb.trans (B.mono hb.size)
      clear B
      generalize (W5.alloc (.cells #[.int .i64 ku, .int .i64 nu, .string su, .slice au mu cu] 25)) = V6 at *
      refine ((List_any l X _ c _ _ hl (Nat.le_trans h4 h5) (fun t h => by have := HZ.out.2.2.2.2.2 t h; omega) hx (Nat.le_trans HZ.out.2.1 (by decide))).mono (fun _ _ h => TnQ.tl h qV.out qxv.out)).mono ?_
      rintro e W7 ⟨kp, np, sp, ap, mp, cp, rfl, hp, B⟩
      replace bbx := Box.keep B bbx
      replace bby := Box.keep B bby
      replace bbg := Box.keep B bbg
      replace bbu := Box.keep B bbu
      replace hx := hx.up B B.size
      replace hy := hy.up B B.size
      replace hl := hl.up B B.size
      replace hg := hg.up B B.size
      replace hu := hu.up B B.size
      replace hb := hb.trans (B.mono hb.size)
      clear B
      have qx0 := bbx.cell 0
      have qx1 := bbx.cell 1
      have qx2 := bbx.cell 2
      have qx3 := bbx.cell 3
      have lx := bbx.lt
      simp only [List.getElem?_toArray, List.getElem?_cons_succ, List.getElem?_cons_zero] at qx0 qx1 qx2 qx3
      go_wp2_with fail
      clear qx0 qx1 qx2 qx3 lx
      have bbp : Box (W7.alloc (.cells #[.int .i64 kp, .int .i64 np, .string sp, .slice ap mp cp] 25)) W7.heap.size #[.int .i64 kp, .int .i64 np, .string sp, .slice ap mp cp] 25 := Box.at rfl
      have B := below_a1 (Nat.le_refl W7.heap.size) (.cells #[.int .i64 kp, .int .i64 np, .string sp, .slice ap mp cp] 25)
      replace bbx := Box.keep B bbx
      replace bby := Box.keep B bby
      replace bbg := Box.keep B bbg
      replace bbu := Box.keep B bbu
      replace hx := hx.up B B.size
      replace hy := hy.up B B.size
      replace hl := hl.up B B.size
      replace hg := hg.up B B.size
      replace hu := hu.up B B.size
      replace hp := hp.up B B.size
      replace hb := hb.trans (B.mono hb.size)
      clear B
      generalize (W7.alloc (.cells #[.int .i64 kp, .int .i64 np, .string sp, .slice ap mp cp] 25)) = V8 at *
      refine ((refList_any l X _ c _ _ hl hx (Nat.le_trans HZ.out.2.2.2.2.1 (by decide)) (fun t h => by have := HZ.out.2.2.2.2.2 t h; omega) (Nat.le_trans HZ.out.1 (by decide)) (Nat.le_trans HZ.out.2.1 (by decide))).mono (fun _ _ h => TnQ.tl h qV.out qxv.out)).mono ?_
      rintro e W9 ⟨kv, nv, sv, av, mv, cv, rfl, hv, B⟩
      replace bbx := Box.keep B bbx
      replace bby := Box.keep B bby
      replace bbg := Box.keep B bbg
      replace bbu := Box.keep B bbu
      replace bbp := Box.keep B bbp
      replace hx := hx.up B B.size
      replace hy := hy.up B B.size
      replace hl := hl.up B B.size
      replace hg := hg.up B B.size
      replace hu := hu.up B B.size
      replace hp := hp.up B B.size
      replace hb := hb.trans (B.mono hb.size)
      clear B
      clear qV qxv
      clear bbx hx hl
      have qg0 := bbg.cell 0
      have qg1 := bbg.cell 1
      have qg2 := bbg.cell 2
      have qg3 := bbg.cell 3
      have qu0 := bbu.cell 0
      have qu1 := bbu.cell 1
      have qu2 := bbu.cell 2
      have qu3 := bbu.cell 3
      have lg := bbg.lt
      have lu := bbu.lt
      simp only [List.getElem?_toArray, List.getElem?_cons_succ, List.getElem?_cons_zero] at qg0 qg1 qg2 qg3 qu0 qu1 qu2 qu3
      go_wp2_with fail
      clear qg0 qg1 qg2 qg3 qu0 qu1 qu2 qu3 lg lu
      have bbv : Box (W9.alloc (.cells #[.int .i64 kv, .int .i64 nv, .string sv, .slice av mv cv] 25)) W9.heap.size #[.int .i64 kv, .int .i64 nv, .string sv, .slice av mv cv] 25 := Box.at rfl
      have B := below_a1 (Nat.le_refl W9.heap.size) (.cells #[.int .i64 kv, .int .i64 nv, .string sv, .slice av mv cv] 25)
      replace bby := Box.keep B bby
      replace bbg := Box.keep B bbg
      replace bbu := Box.keep B bbu
      replace bbp := Box.keep B bbp
      replace hy := hy.up B B.size
      replace hg := hg.up B B.size
      replace hu := hu.up B B.size
      replace hp := hp.up B B.size
      replace hv := hv.up B B.size
      replace hb := hb.trans (B.mono hb.size)
      clear B
      generalize (W9.alloc (.cells #[.int .i64 kv, .int .i64 nv, .string sv, .slice av mv cv] 25)) = V10 at *
      refine (samed G _ _ _ hg hu).mono ?_
      rintro e W11 ⟨rfl, B⟩
      replace bby := Box.keep B bby
      replace bbg := Box.keep B bbg
      replace bbu := Box.keep B bbu
      replace bbp := Box.keep B bbp
      replace bbv := Box.keep B bbv
      replace hy := hy.up B B.size
      replace hg := hg.up B B.size
      replace hu := hu.up B B.size
      replace hp := hp.up B B.size
      replace hv := hv.up B B.size
      replace hb := hb.trans (B.mono hb.size)
      clear B
      clear bbg hg bbu hu
      have qp0 := bbp.cell 0
      have qp1 := bbp.cell 1
      have qp2 := bbp.cell 2
      have qp3 := bbp.cell 3
      have qv0 := bbv.cell 0
      have qv1 := bbv.cell 1
      have qv2 := bbv.cell 2
      have qv3 := bbv.cell 3
      have lp := bbp.lt
      have lv := bbv.lt
      simp only [List.getElem?_toArray, List.getElem?_cons_succ, List.getElem?_cons_zero] at qp0 qp1 qp2 qp3 qv0 qv1 qv2 qv3
      go_wp2_with fail
      clear qp0 qp1 qp2 qp3 qv0 qv1 qv2 qv3 lp lv
      refine (samed V _ _ _ hp hv).mono ?_
      rintro e W12 ⟨rfl, B⟩
      replace bby := Box.keep B bby
      replace bbp := Box.keep B bbp
      replace bbv := Box.keep B bbv
      replace hy := hy.up B B.size
      replace hp := hp.up B B.size
      replace hv := hv.up B B.size
      replace hb := hb.trans (B.mono hb.size)
      clear B
      clear bbp hp bbv hv
      have qy0 := bby.cell 0
      have qy1 := bby.cell 1
      have qy2 := bby.cell 2
      have qy3 := bby.cell 3
      have ly := bby.lt
      simp only [List.getElem?_toArray, List.getElem?_cons_succ, List.getElem?_cons_zero] at qy0 qy1 qy2 qy3
      go_wp2_with fail
      clear qy0 qy1 qy2 qy3 ly
      refine ((Items_any Y _ _ hy (Nat.le_trans HZ.out.2.2.2.1 (by decide))).mono (fun _ _ h => ItD.of h qxi.out)).mono ?_
      rintro e W13 ⟨L, R, HD, an, cn, kr, nr, sr, ar, mr, cr, rfl, hn, hr, B⟩
      replace bby := Box.keep B bby
      replace hy := hy.up B B.size
      replace hb := hb.trans (B.mono hb.size)
      clear B
      have qy0 := bby.cell 0
      have qy1 := bby.cell 1
      have qy2 := bby.cell 2
      have qy3 := bby.cell 3
      have ly := bby.lt
      simp only [List.getElem?_toArray, List.getElem?_cons_succ, List.getElem?_cons_zero] at qy0 qy1 qy2 qy3
      go_wp2_with fail
      clear qy0 qy1 qy2 qy3 ly
      have bbr : Box (W13.alloc (.cells #[.int .i64 kr, .int .i64 nr, .string sr, .slice ar mr cr] 25)) W13.heap.size #[.int .i64 kr, .int .i64 nr, .string sr, .slice ar mr cr] 25 := Box.at rfl
      have B := below_a1 (Nat.le_refl W13.heap.size) (.cells #[.int .i64 kr, .int .i64 nr, .string sr, .slice ar mr cr] 25)
      replace bby := Box.keep B bby
      replace hy := hy.up B B.size
      replace hn := hn.up B B.size
      replace hr := hr.up B B.size
      replace hb := hb.trans (B.mono hb.size)
      clear B
      generalize (W13.alloc (.cells #[.int .i64 kr, .int .i64 nr, .string sr, .slice ar mr cr] 25)) = V14 at *
      refine ((refItems_any Y _ _ hy (Nat.le_trans HZ.out.2.2.1 (by decide)) (Nat.le_trans HZ.out.2.2.2.1 (by decide))).mono (fun _ _ h => ItQ.of h qxi.out HD.out)).mono ?_
      rintro e W15 ⟨ao, co, kt, nt, st, au, mt, ct, rfl, ho, ht, B⟩
      replace bby := Box.keep B bby
      replace bbr := Box.keep B bbr
      replace hy := hy.up B B.size
      replace hn := hn.up B B.size
      replace hr := hr.up B B.size
      replace hb := hb.trans (B.mono hb.size)
      clear B
      clear bby hy
      clear qxi HD HZ
      go_wp2_with fail
      have bbt : Box (W15.alloc (.cells #[.int .i64 kt, .int .i64 nt, .string st, .slice au mt ct] 25)) W15.heap.size #[.int .i64 kt, .int .i64 nt, .string st, .slice au mt ct] 25 := Box.at rfl
      have B := below_a1 (Nat.le_refl W15.heap.size) (.cells #[.int .i64 kt, .int .i64 nt, .string st, .slice au mt ct] 25)
      replace bbr := Box.keep B bbr
      replace hn := hn.up B B.size
      replace hr := hr.up B B.size
      replace ho := ho.up B B.size
      replace ht := ht.up B B.size
      replace hb := hb.trans (B.mono hb.size)
      clear B
      generalize (W15.alloc (.cells #[.int .i64 kt, .int .i64 nt, .string st, .slice au mt ct] 25)) = V16 at *
      refine (sane_all L _ _ _ hn ho).mono ?_
      rintro e W17 ⟨rfl, B⟩
      replace bbr := Box.keep B bbr
      replace bbt := Box.keep B bbt
      replace hn := hn.up B B.size
      replace hr := hr.up B B.size
      replace ho := ho.up B B.size
      replace ht := ht.up B B.size
      replace hb := hb.trans (B.mono hb.size)
      clear B
      clear hn ho
      have qr0 := bbr.cell 0
      have qr1 := bbr.cell 1
      have qr2 := bbr.cell 2
      have qr3 := bbr.cell 3
      have qt0 := bbt.cell 0
      have qt1 := bbt.cell 1
      have qt2 := bbt.cell 2
      have qt3 := bbt.cell 3
      have lr := bbr.lt
      have lt := bbt.lt
      simp only [List.getElem?_toArray, List.getElem?_cons_succ, List.getElem?_cons_zero] at qr0 qr1 qr2 qr3 qt0 qt1 qt2 qt3
      go_wp2_with fail
      clear qr0 qr1 qr2 qr3 qt0 qt1 qt2 qt3 lr lt
      refine (samed R _ _ _ hr ht).mono ?_
      rintro e W18 ⟨rfl, B⟩
      replace bbr := Box.keep B bbr
      replace bbt := Box.keep B bbt
      replace hr := hr.up B B.size
      replace ht := ht.up B B.size
      replace hb := hb.trans (B.mono hb.size)
      clear B
      go_wp2_with fail
      go_ret
      exact ⟨rfl, hb⟩
end Go.Proofs.YtlaeaoecmnaneaaDoor
