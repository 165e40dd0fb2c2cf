/- The law of places, and of what is put there. -/
import Derived.Test.YtdigiaigbcfccaaDoorEditM
import Derived.Test.YtdigiaigbcfccaaDoorTwo
import Derived.Test.YtdigiaigbcfccaaDoorSane
namespace Go.Proofs.YtdigiaigbcfccaaDoor
open Go.RowKit Go

theorem nodT_deep : ∀ (p : List Int) {T Y : Tr}, nodT p T = some Y → Y.deep ≤ T.deep
  | [], _, _, h => by cases h; exact Nat.le_refl _
  | i :: p, T, Y, h => by
    rw [nodT] at h
    cases hk : kidT T i with
    | none => rw [hk] at h; cases h
    | some X =>
      rw [hk] at h
      have h1 := nodT_deep p (T := X) h
      have h2 := deep_mem (kidT_mem hk)
      cases T with
      | node k n s l => simp only [kidsT] at h2; simp only [Tr.deep]; omega
theorem nodT_good : ∀ (p : List Int) {T Y : Tr}, nodT p T = some Y → T.good = true → Y.good = true
  | [], _, _, h, hg => by cases h; exact hg
  | i :: p, T, Y, h, hg => by
    rw [nodT] at h
    cases hk : kidT T i with
    | none => rw [hk] at h; cases h
    | some X =>
      rw [hk] at h
      refine nodT_good p (T := X) h ?_
      have h2 := kidT_mem hk
      cases T with
      | node k n s l =>
        simp only [kidsT] at h2
        simp only [Tr.good, Bool.and_eq_true] at hg
        have := hg.2
        rw [goodL_all] at this
        exact List.all_eq_true.1 this _ h2
theorem nodT_isB {p : List Int} {T Y : Tr} (h : nodT p T = some Y) (hT : isB T = true) : isB Y = true := by
  rw [isB_good] at hT ⊢
  simp only [Bool.and_eq_true, decide_eq_true_eq] at hT ⊢
  have := nodT_size p h
  have := nodT_deep p h
  exact ⟨⟨by omega, by omega⟩, nodT_good p h hT.2⟩
theorem pathsT_length (T : Tr) : (pathsT T).length = T.size := by rw [pathsT_plc, List.length_map, plcT_length]
theorem pathsT_node {T : Tr} {j : Nat} (hj : j < (pathsT T).length) : ∃ N, nodT (pathsT T)[j] T = some N := by
  have h : (plcT [] T).length = (pathsT T).length := by rw [pathsT_plc, List.length_map]
  obtain ⟨r, h1, h2⟩ := plc_node T [] ((plcT [] T)[j]'(by omega)) (List.getElem_mem _)
  rw [List.nil_append] at h1
  refine ⟨((plcT [] T)[j]'(by omega)).2, ?_⟩
  have e : (pathsT T)[j] = r := by
    rw [← h1]
    simp only [pathsT_plc, List.getElem_map]
  rw [e]
  exact h2
theorem pathsT_less {T : Tr} {i j : Nat} (hj : j < (pathsT T).length) (hij : i < j) : cmpN (pathsT T)[i] (pathsT T)[j] = -1 := by
  have h : (plcT [] T).length = (pathsT T).length := by rw [pathsT_plc, List.length_map]
  have := List.pairwise_iff_getElem.1 (plc_sorted T []) i j (by omega) (by omega) hij
  simpa [pathsT_plc] using this
/-- The places of a term, and no error. -/
def PxQ (L : List (List Int)) (N : Nat) (w : World) (e : Ending) (w' : World) : Prop := ∃ b off c, e = .returned (.tuple #[.slice (some ⟨b, off, none⟩) N c, .int .i64 0]) ∧ b < w'.heap.size ∧ (∀ j (hj : j < L.length), ∃ u, w'.cell? ⟨b, off + j, none⟩ = some u ∧ RdN w'.heap.size w' L[j] u) ∧ Below w.heap.size w w'
theorem PxQ.of {X : Tr} {w : World} {e : Ending} {w' : World} (h : PathsPost X w e w') (hb : isB X = true) : PxQ (pathsT X) X.size w e w' := by
  obtain ⟨hB, h⟩ := h
  rw [hb] at h
  obtain ⟨v, rfl, hv⟩ := h
  obtain ⟨a, c, rfl, _, h2⟩ := hv.rd
  obtain ⟨b, off, rfl, h3, h4⟩ := h2 (by rw [pathsT_length]; exact one_le_size X)
  exact ⟨b, off, c, by rw [pathsT_length], h3, h4, hB⟩
theorem TaPost.at {p : List Int} {X N : Tr} {w : World} {e : Ending} {w' : World} (h : TaPost (atV p X) (atE p X) w e w') (hb : isB X = true) (hn : nodT p X = some N) : TaPost N 0 w e w' := by
  obtain ⟨h1, h2⟩ := atV_some hb hn
  rw [h1, h2] at h
  exact h
theorem TqPost.ta {p : List Int} {X Y : Tr} {w : World} {e : Ending} {w' : World} {O : Tr} (h : TqPost (putV p X Y) (putE p X Y) w e w') (hb : (isB X && isB Y) = true) (hn : (nodT p X).isSome = true) (ho : withT p X Y = O) (hw : isB O = true) : TaPost O 0 w e w' := by
  subst ho
  obtain ⟨h1, h2⟩ := put_ok hb hn hw
  rw [h1, h2] at h
  obtain ⟨k, n, s, a, m, c, e, h3, h4⟩ := h
  exact ⟨k, n, s, a, m, c, e, New.toT h3, h4⟩
theorem TqPost.big {p : List Int} {X Y : Tr} {w : World} {e : Ending} {w' : World} {O : Tr} (h : TqPost (putV p X Y) (putE p X Y) w e w') (hb : (isB X && isB Y) = true) (hn : (nodT p X).isSome = true) (ho : withT p X Y = O) (hw : isB O = false) : TaPost zeroTr 2 w e w' := by
  subst ho
  obtain ⟨h1, h2⟩ := put_big hb hn hw
  rw [h1, h2] at h
  obtain ⟨k, n, s, a, m, c, e, h3, h4⟩ := h
  exact ⟨k, n, s, a, m, c, e, New.toT h3, h4⟩
theorem samedE (Z : Tr) (v u : Value) (w : World) (h : IsT w.heap.size w Z v) (k : IsT w.heap.size w Z u) : Calls Tryd.prog 25 #[v, u] w fun e w' => e = .returned (.bool true) ∧ Below w.heap.size w w' := by
  have := refSame_any Z Z v u w h k
  rw [show eqT Z Z = true by simp [eqT]] at this
  exact this
theorem cmpLess {xs ys : List Int} {v u : Value} {w : World} (hx : RdN w.heap.size w xs v) (hy : RdN w.heap.size w ys u) (h : cmpN xs ys = -1) : Calls Tryd.prog 61 #[v, u] w fun e w' => e = .returned (.int .i64 (-1)) ∧ Below w.heap.size w w' := by
  have := cmpSl_any xs ys v u w hx hy
  rw [h] at this
  exact this
/-- Between the rounds of the law's loop. -/
structure EdAt (w0 : World) (Bx Bo : Nat) (xs os : Array Value) (wr : World) : Prop where
  bx : Box wr Bx xs 25
  bo : Box wr Bo os 25
  below : Below w0.heap.size w0 wr
theorem EdAt.up {w0 : World} {Bx Bo : Nat} {xs os : Array Value} {A B : World} (h : EdAt w0 Bx Bo xs os A) (hB : Below A.heap.size A B) : EdAt w0 Bx Bo xs os B := ⟨h.bx.keep hB, h.bo.keep hB, h.below.trans (hB.mono h.below.size)⟩

set_option maxRecDepth 100000 in
set_option maxHeartbeats 8000000 in
theorem termEdits_any (X Y : Tr) (n : Int) (hn : okI n) (vx vy : Value) (w : World) (hx : IsT w.heap.size w X vx) (hy : IsT w.heap.size w Y vy) (htab : Lib.TabBelow Tryd.prog w.heap.size w "internal/strconv.uint64pow10" .u64 Lib.pow10Tab) :
    Calls Tryd.prog 10 #[vx, vy, .int .i64 n] w fun e w' => e = .returned (.bool true) ∧ Below w.heap.size w w' := by
  obtain ⟨kx, nx, sx, ax, mx, cx, rfl⟩ := (IsT.toP _ _ hx).form
  obtain ⟨ky, ny, sy, ay, my, cy, rfl⟩ := (IsT.toP _ _ hy).form
  have bbx : Box ((w.alloc (.cells #[.int .i64 kx, .int .i64 nx, .string sx, .slice ax mx cx] 25)).alloc (.cells #[.int .i64 ky, .int .i64 ny, .string sy, .slice ay my cy] 25)) w.heap.size #[.int .i64 kx, .int .i64 nx, .string sx, .slice ax mx cx] 25 := (Box.at rfl).alloc _
  have bby : Box ((w.alloc (.cells #[.int .i64 kx, .int .i64 nx, .string sx, .slice ax mx cx] 25)).alloc (.cells #[.int .i64 ky, .int .i64 ny, .string sy, .slice ay my cy] 25)) (w.heap.size + 1) #[.int .i64 ky, .int .i64 ny, .string sy, .slice ay my cy] 25 := Box.at (by simp)
  have hb := below_a2 (Nat.le_refl w.heap.size) (.cells #[.int .i64 kx, .int .i64 nx, .string sx, .slice ax mx cx] 25) (.cells #[.int .i64 ky, .int .i64 ny, .string sy, .slice ay my cy] 25)
  have H0 := Lib.hid (And.intro hx hy)
  replace hx := hx.up hb hb.size
  replace hy := hy.up hb hb.size
  go_enter Tryd.func10, Tryd.ntmps10
  go_wp2_with fail
  refine (sane_any _ (fun w'' h => htab w'' (hb.trans (h.mono hb.size)))).mono ?_
  rintro e W1 ⟨rfl, B⟩
  replace bbx := Box.keep B bbx
  replace bby := Box.keep B bby
  replace hx := hx.up B B.size
  replace hy := hy.up B B.size
  replace hb := hb.trans (B.mono hb.size)
  clear B
  clear htab
  have hlw : w.heap.size + 1 < W1.heap.size := bby.lt
  have qx0 := bbx.cell 0
  have qx1 := bbx.cell 1
  have qx2 := bbx.cell 2
  have qx3 := bbx.cell 3
  have lx := bbx.lt
  simp only [List.getElem?_toArray, List.getElem?_cons_succ, List.getElem?_cons_zero] at qx0 qx1 qx2 qx3
  go_wp2_with fail
  clear qx0 qx1 qx2 qx3 lx
  have bbl : Box (W1.alloc (.cells #[.int .i64 300] 3)) W1.heap.size #[.int .i64 300] 3 := Box.at rfl
  have B := below_a1 (Nat.le_refl W1.heap.size) (.cells #[.int .i64 300] 3)
  replace bbx := Box.keep B bbx
  replace bby := Box.keep B bby
  replace hx := hx.up B B.size
  replace hy := hy.up B B.size
  replace hb := hb.trans (B.mono hb.size)
  clear B
  generalize (W1.alloc (.cells #[.int .i64 300] 3)) = V2 at *
  have hcn := count_any w.heap.size W1.heap.size (by omega) X _ 300 1 _ (H0.out.1.below hb) hb.size bbl (by omega) (by omega) (by omega) (by omega)
  have HCN := Lib.hid hcn
  clear hcn
  refine HCN.out.mono ?_
  rintro e W3 ⟨rfl, -, hg⟩
  replace bbx : Box W3 w.heap.size #[.int .i64 kx, .int .i64 nx, .string sx, .slice ax mx cx] 25 := (hg.block _ bbx.lt (by simp; omega)).trans bbx
  replace bby : Box W3 (w.heap.size + 1) #[.int .i64 ky, .int .i64 ny, .string sy, .slice ay my cy] 25 := (hg.block _ bby.lt (by simp; omega)).trans bby
  replace hb := hb.trans (grown_below hg hb.size (by omega))
  replace hx := (H0.out.1.below hb).mono hb.size
  replace hy := (H0.out.2.below hb).mono hb.size
  clear HCN hg bbl
  cases hq : (cntT X 300 1).1 with
  | false =>
    clear hq
    go_wp2_with fail
    go_ret
    exact ⟨rfl, hb⟩
  | true =>
    clear hq
    have qx0 := bbx.cell 0
    have qx1 := bbx.cell 1
    have qx2 := bbx.cell 2
    have qx3 := bbx.cell 3
    have qy0 := bby.cell 0
    have qy1 := bby.cell 1
    have qy2 := bby.cell 2
    have qy3 := bby.cell 3
    have lx := bbx.lt
    have ly := bby.lt
    simp only [List.getElem?_toArray, List.getElem?_cons_succ, List.getElem?_cons_zero] at qx0 qx1 qx2 qx3 qy0 qy1 qy2 qy3
    go_wp2_with fail
    clear qx0 qx1 qx2 qx3 qy0 qy1 qy2 qy3 lx ly
    have bbs : Box (W3.alloc (.cells #[.int .i64 kx, .int .i64 nx, .string sx, .slice ax mx cx, .int .i64 ky, .int .i64 ny, .string sy, .slice ay my cy] 25)) W3.heap.size #[.int .i64 kx, .int .i64 nx, .string sx, .slice ax mx cx, .int .i64 ky, .int .i64 ny, .string sy, .slice ay my cy] 25 := Box.at rfl
    have B := below_a1 (Nat.le_refl W3.heap.size) (.cells #[.int .i64 kx, .int .i64 nx, .string sx, .slice ax mx cx, .int .i64 ky, .int .i64 ny, .string sy, .slice ay my cy] 25)
    replace bbx := Box.keep B bbx
    replace bby := Box.keep B bby
    replace hx := hx.up B B.size
    replace hy := hy.up B B.size
    replace hb := hb.trans (B.mono hb.size)
    clear B
    generalize (W3.alloc (.cells #[.int .i64 kx, .int .i64 nx, .string sx, .slice ax mx cx, .int .i64 ky, .int .i64 ny, .string sy, .slice ay my cy] 25)) = V4 at *
    have hsm := right_any [X, Y] _ 2 _ (by simp; unfold maxLen; omega) (IsL.cons bbs.lt (bbs.cell 0) (bbs.cell 1) (bbs.cell 2) (bbs.cell 3) hx (IsL.cons bbs.lt (bbs.cell 4) (bbs.cell 5) (bbs.cell 6) (bbs.cell 7) hy IsL.nil))
    have HSM := Lib.hid hsm
    clear hsm
    clear bbs
    refine (HSM.out).mono ?_
    rintro e W5 ⟨rfl, B⟩
    replace bbx := Box.keep B bbx
    replace bby := Box.keep B bby
    replace hx := hx.up B B.size
    replace hy := hy.up B B.size
    replace hb := hb.trans (B.mono hb.size)
    clear B
    clear HSM
    cases hr : rightB [X, Y] with
    | false =>
      clear hr
      go_wp2_with fail
      go_ret
      exact ⟨rfl, hb⟩
    | true =>
      have h1 := rightB_mem hr (t := X) (by simp)
      have h2 := rightB_mem hr (t := Y) (by simp)
      clear hr
      have hxy : (isB X && isB Y) = true := by rw [h1.1, h2.1]; rfl
      have HS := Lib.hid (And.intro h1 (And.intro h2 hxy))
      have hs1 := one_le_size X
      have hsx := h1.2.1
      clear h1 h2 hxy
      have qx0 := bbx.cell 0
      have qx1 := bbx.cell 1
      have qx2 := bbx.cell 2
      have qx3 := bbx.cell 3
      have lx := bbx.lt
      simp only [List.getElem?_toArray, List.getElem?_cons_succ, List.getElem?_cons_zero] at qx0 qx1 qx2 qx3
      go_wp2_with fail
      clear qx0 qx1 qx2 qx3 lx
      refine ((Paths_any X _ _ hx (by have := HS.out.1.2.2; omega)).mono (fun _ _ h => PxQ.of h HS.out.1.1)).mono ?_
      rintro e W6 ⟨bl, ol, cl, rfl, hbl, hcs, B⟩
      replace bbx := Box.keep B bbx
      replace bby := Box.keep B bby
      replace hx := hx.up B B.size
      replace hy := hy.up B B.size
      replace hb := hb.trans (B.mono hb.size)
      clear B
      have HCS := Lib.hid (And.intro hbl hcs)
      clear hbl hcs
      have HBL : Hid (BelowP W6 W6) := Below.refl _ _
      have qx0 := bbx.cell 0
      have qx1 := bbx.cell 1
      have qx2 := bbx.cell 2
      have qx3 := bbx.cell 3
      have lx := bbx.lt
      simp only [List.getElem?_toArray, List.getElem?_cons_succ, List.getElem?_cons_zero] at qx0 qx1 qx2 qx3
      go_wp2_with fail
      clear qx0 qx1 qx2 qx3 lx
      refine (size_any X _ _ hx (by omega) (by have := HS.out.1.2.2; omega)).mono ?_
      rintro e W7 ⟨rfl, B⟩
      replace bbx := Box.keep B bbx
      replace bby := Box.keep B bby
      replace hx := hx.up B B.size
      replace hy := hy.up B B.size
      replace HBL := Lib.hid (HBL.out.thenP B)
      replace hb := hb.trans (B.mono hb.size)
      clear B
      have hn1 : ¬ ((X.size : Nat) : Int) < 1 := by omega
      by_cases hw0 : n < 0
      · go_wp2_with fail
        go_ret
        exact ⟨rfl, hb⟩
      · by_cases hw1 : n ≥ (X.size : Int)
        · go_wp2_with fail
          go_ret
          exact ⟨rfl, hb⟩
        · obtain ⟨q, rfl⟩ : ∃ q : Nat, n = (q : Int) := ⟨n.toNat, by omega⟩
          have hq : q < (pathsT X).length := by rw [pathsT_length]; omega
          have hqx : (q : Int) < (X.size : Int) := by omega
          obtain ⟨pu, hpc, hpr⟩ := HCS.out.2 q hq
          obtain ⟨N, hN⟩ := pathsT_node hq
          generalize hP : (pathsT X)[q] = P at *
          have hpw := (Below.cell HBL.out (p := ⟨bl, ol + q, none⟩) HCS.out.1).trans hpc
          have hlb : bl < W7.heap.size := Nat.lt_of_lt_of_le HCS.out.1 (Below.size HBL.out)
          have hp := RdN.up hpr HBL.out (Below.size HBL.out)
          obtain ⟨pa, pc, rfl, -⟩ := id hpr
          have HN := Lib.hid (And.intro hN hP)
          clear hpr hpc hN hP
          have qx0 := bbx.cell 0
          have qx1 := bbx.cell 1
          have qx2 := bbx.cell 2
          have qx3 := bbx.cell 3
          have lx := bbx.lt
          simp only [List.getElem?_toArray, List.getElem?_cons_succ, List.getElem?_cons_zero] at qx0 qx1 qx2 qx3
          go_wp2_with fail
          clear qx0 qx1 qx2 qx3 lx
          refine ((At_any X P _ _ _ hx hp (by have := HS.out.1.2; omega) (by have := HS.out.1.2; omega)).mono (fun _ _ h => TaPost.at h HS.out.1.1 HN.out.1)).mono ?_
          rintro e W8 ⟨kg, ng, sg, ag, mg, cg, rfl, hg, B⟩
          replace bbx := Box.keep B bbx
          replace bby := Box.keep B bby
          replace hx := hx.up B B.size
          replace hy := hy.up B B.size
          replace hp := hp.up B B.size
          replace HBL := Lib.hid (HBL.out.thenP B)
          replace hb := hb.trans (B.mono hb.size)
          clear B
          clear hpw
          have qx0 := bbx.cell 0
          have qx1 := bbx.cell 1
          have qx2 := bbx.cell 2
          have qx3 := bbx.cell 3
          have lx := bbx.lt
          simp only [List.getElem?_toArray, List.getElem?_cons_succ, List.getElem?_cons_zero] at qx0 qx1 qx2 qx3
          go_wp2_with fail
          clear qx0 qx1 qx2 qx3 lx
          have bbg : Box (W8.alloc (.cells #[.int .i64 kg, .int .i64 ng, .string sg, .slice ag mg cg] 25)) W8.heap.size #[.int .i64 kg, .int .i64 ng, .string sg, .slice ag mg cg] 25 := Box.at rfl
          have B := below_a1 (Nat.le_refl W8.heap.size) (.cells #[.int .i64 kg, .int .i64 ng, .string sg, .slice ag mg cg] 25)
          replace bbx := Box.keep B bbx
          replace bby := Box.keep B bby
          replace hx := hx.up B B.size
          replace hy := hy.up B B.size
          replace hp := hp.up B B.size
          replace hg := hg.up B B.size
          replace HBL := Lib.hid (HBL.out.thenP B)
          replace hb := hb.trans (B.mono hb.size)
          clear B
          generalize (W8.alloc (.cells #[.int .i64 kg, .int .i64 ng, .string sg, .slice ag mg cg] 25)) = V9 at *
          have hsn := nodT_size P HN.out.1
          have hdn := nodT_deep P HN.out.1
          refine ((Put_any X N P _ _ _ _ hx hg hp (by have := HS.out.1.2; omega) (by have := HS.out.1.2; omega) (by omega) (by have := HS.out.1.2; omega)).mono (fun _ _ h => TqPost.ta h (by rw [HS.out.1.1, nodT_isB HN.out.1 HS.out.1.1]; rfl) (by rw [HN.out.1]; rfl) (withT_self P X N HN.out.1) HS.out.1.1)).mono ?_
          rintro e W10 ⟨km, nm, sm, am, mm, cm, rfl, hm, B⟩
          replace bbx := Box.keep B bbx
          replace bby := Box.keep B bby
          replace bbg := Box.keep B bbg
          replace hx := hx.up B B.size
          replace hy := hy.up B B.size
          replace hp := hp.up B B.size
          replace hg := hg.up B B.size
          replace HBL := Lib.hid (HBL.out.thenP B)
          replace hb := hb.trans (B.mono hb.size)
          clear B
          clear hsn hdn
          clear bbg hg
          have qx0 := bbx.cell 0
          have qx1 := bbx.cell 1
          have qx2 := bbx.cell 2
          have qx3 := bbx.cell 3
          have lx := bbx.lt
          simp only [List.getElem?_toArray, List.getElem?_cons_succ, List.getElem?_cons_zero] at qx0 qx1 qx2 qx3
          go_wp2_with fail
          clear qx0 qx1 qx2 qx3 lx
          have bbm : Box (W10.alloc (.cells #[.int .i64 km, .int .i64 nm, .string sm, .slice am mm cm] 25)) W10.heap.size #[.int .i64 km, .int .i64 nm, .string sm, .slice am mm cm] 25 := Box.at rfl
          have B := below_a1 (Nat.le_refl W10.heap.size) (.cells #[.int .i64 km, .int .i64 nm, .string sm, .slice am mm cm] 25)
          replace bbx := Box.keep B bbx
          replace bby := Box.keep B bby
          replace hx := hx.up B B.size
          replace hy := hy.up B B.size
          replace hp := hp.up B B.size
          replace hm := hm.up B B.size
          replace HBL := Lib.hid (HBL.out.thenP B)
          replace hb := hb.trans (B.mono hb.size)
          clear B
          generalize (W10.alloc (.cells #[.int .i64 km, .int .i64 nm, .string sm, .slice am mm cm] 25)) = V11 at *
          refine (samedE X _ _ _ hm hx).mono ?_
          rintro e W12 ⟨rfl, B⟩
          replace bbx := Box.keep B bbx
          replace bby := Box.keep B bby
          replace bbm := Box.keep B bbm
          replace hx := hx.up B B.size
          replace hy := hy.up B B.size
          replace hp := hp.up B B.size
          replace hm := hm.up B B.size
          replace HBL := Lib.hid (HBL.out.thenP B)
          replace hb := hb.trans (B.mono hb.size)
          clear B
          clear bbm hm
          obtain ⟨O, hO⟩ : ∃ z, withT P X Y = z := ⟨_, rfl⟩
          have hos := withT_small Y P X
          rw [hO] at hos
          have HO := Lib.hid (And.intro hO hos)
          clear hO hos
          have qx0 := bbx.cell 0
          have qx1 := bbx.cell 1
          have qx2 := bbx.cell 2
          have qx3 := bbx.cell 3
          have qy0 := bby.cell 0
          have qy1 := bby.cell 1
          have qy2 := bby.cell 2
          have qy3 := bby.cell 3
          have lx := bbx.lt
          have ly := bby.lt
          simp only [List.getElem?_toArray, List.getElem?_cons_succ, List.getElem?_cons_zero] at qx0 qx1 qx2 qx3 qy0 qy1 qy2 qy3
          go_wp2_with fail
          clear qx0 qx1 qx2 qx3 qy0 qy1 qy2 qy3 lx ly
          cases hr : isB O with
          | false =>
            have HR := Lib.hid hr
            clear hr
            refine ((Put_any X Y P _ _ _ _ hx hy hp (by have := HS.out.1.2; omega) (by have := HS.out.1.2; omega) (by have := HS.out.2.1.2; omega) (by have := HS.out.2.1.2; omega)).mono (fun _ _ h => TqPost.big h HS.out.2.2 (by rw [HN.out.1]; rfl) HO.out.1 HR.out)).mono ?_
            rintro e W13 ⟨kz, nz, sz, az, mz, cz, rfl, hz, B⟩
            replace bbx := Box.keep B bbx
            replace bby := Box.keep B bby
            replace hx := hx.up B B.size
            replace hy := hy.up B B.size
            replace hp := hp.up B B.size
            replace HBL := Lib.hid (HBL.out.thenP B)
            replace hb := hb.trans (B.mono hb.size)
            clear B
            have hbz := hb.trans (below_a1 hb.size (.cells #[.int .i64 kz, .int .i64 nz, .string sz, .slice az mz cz] 25))
            go_wp2_with fail
            go_ret
            exact ⟨rfl, hbz⟩
          | true =>
            have HR := Lib.hid hr
            clear hr
            refine ((Put_any X Y P _ _ _ _ hx hy hp (by have := HS.out.1.2; omega) (by have := HS.out.1.2; omega) (by have := HS.out.2.1.2; omega) (by have := HS.out.2.1.2; omega)).mono (fun _ _ h => TqPost.ta h HS.out.2.2 (by rw [HN.out.1]; rfl) HO.out.1 HR.out)).mono ?_
            rintro e W13 ⟨ko, no, so, ao, mo, co, rfl, ho, B⟩
            replace bbx := Box.keep B bbx
            replace bby := Box.keep B bby
            replace hx := hx.up B B.size
            replace hy := hy.up B B.size
            replace hp := hp.up B B.size
            replace HBL := Lib.hid (HBL.out.thenP B)
            replace hb := hb.trans (B.mono hb.size)
            clear B
            go_wp2_with fail
            have bbo : Box (W13.alloc (.cells #[.int .i64 ko, .int .i64 no, .string so, .slice ao mo co] 25)) W13.heap.size #[.int .i64 ko, .int .i64 no, .string so, .slice ao mo co] 25 := Box.at rfl
            have B := below_a1 (Nat.le_refl W13.heap.size) (.cells #[.int .i64 ko, .int .i64 no, .string so, .slice ao mo co] 25)
            replace bbx := Box.keep B bbx
            replace bby := Box.keep B bby
            replace hx := hx.up B B.size
            replace hy := hy.up B B.size
            replace hp := hp.up B B.size
            replace ho := ho.up B B.size
            replace HBL := Lib.hid (HBL.out.thenP B)
            replace hb := hb.trans (B.mono hb.size)
            clear B
            generalize (W13.alloc (.cells #[.int .i64 ko, .int .i64 no, .string so, .slice ao mo co] 25)) = V14 at *
            have hno : nodT P O = some Y := by rw [← HO.out.1]; exact nodT_with Y P X (by rw [HN.out.1]; rfl)
            have HNO := Lib.hid hno
            clear hno
            refine ((At_any O P _ _ _ ho hp (by have := HO.out.2; have := HS.out.1.2; have := HS.out.2.1.2; omega) (by have := HO.out.2; have := HS.out.1.2; have := HS.out.2.1.2; omega)).mono (fun _ _ h => TaPost.at h HR.out HNO.out)).mono ?_
            rintro e W15 ⟨kr, nr, sr, ar, mr, cr, rfl, hr, B⟩
            replace bbx := Box.keep B bbx
            replace bby := Box.keep B bby
            replace bbo := Box.keep B bbo
            replace hx := hx.up B B.size
            replace hy := hy.up B B.size
            replace hp := hp.up B B.size
            replace ho := ho.up B B.size
            replace HBL := Lib.hid (HBL.out.thenP B)
            replace hb := hb.trans (B.mono hb.size)
            clear B
            have qy0 := bby.cell 0
            have qy1 := bby.cell 1
            have qy2 := bby.cell 2
            have qy3 := bby.cell 3
            have ly := bby.lt
            simp only [List.getElem?_toArray, List.getElem?_cons_succ, List.getElem?_cons_zero] at qy0 qy1 qy2 qy3
            go_wp2_with fail
            clear qy0 qy1 qy2 qy3 ly
            have bbr : Box (W15.alloc (.cells #[.int .i64 kr, .int .i64 nr, .string sr, .slice ar mr cr] 25)) W15.heap.size #[.int .i64 kr, .int .i64 nr, .string sr, .slice ar mr cr] 25 := Box.at rfl
            have B := below_a1 (Nat.le_refl W15.heap.size) (.cells #[.int .i64 kr, .int .i64 nr, .string sr, .slice ar mr cr] 25)
            replace bbx := Box.keep B bbx
            replace bby := Box.keep B bby
            replace bbo := Box.keep B bbo
            replace hx := hx.up B B.size
            replace hy := hy.up B B.size
            replace hp := hp.up B B.size
            replace ho := ho.up B B.size
            replace hr := hr.up B B.size
            replace HBL := Lib.hid (HBL.out.thenP B)
            replace hb := hb.trans (B.mono hb.size)
            clear B
            generalize (W15.alloc (.cells #[.int .i64 kr, .int .i64 nr, .string sr, .slice ar mr cr] 25)) = V16 at *
            refine (samedE Y _ _ _ hr hy).mono ?_
            rintro e W17 ⟨rfl, B⟩
            replace bbx := Box.keep B bbx
            replace bby := Box.keep B bby
            replace bbo := Box.keep B bbo
            replace bbr := Box.keep B bbr
            replace hx := hx.up B B.size
            replace hy := hy.up B B.size
            replace hp := hp.up B B.size
            replace ho := ho.up B B.size
            replace hr := hr.up B B.size
            replace HBL := Lib.hid (HBL.out.thenP B)
            replace hb := hb.trans (B.mono hb.size)
            clear B
            clear bbr hr
            have hI0 : EdAt W17 w.heap.size W13.heap.size #[.int .i64 kx, .int .i64 nx, .string sx, .slice ax mx cx] #[.int .i64 ko, .int .i64 no, .string so, .slice ao mo co] W17 := ⟨bbx, bbo, Below.refl _ _⟩
            have HW := Lib.hid (And.intro ho (And.intro hp (And.intro hb hI0)))
            have hbs := hb.size
            clear bbx bby bbo hx hy ho hp hb hI0
            go_wp2_with fail
            go_loopw [131] (fun iv wr => ∃ j : Nat, j ≤ X.size ∧ iv = .int .i64 j ∧ EdAt W17 w.heap.size W13.heap.size #[.int .i64 kx, .int .i64 nx, .string sx, .slice ax mx cx] #[.int .i64 ko, .int .i64 no, .string so, .slice ao mo co] wr) (fun iv _ => X.size - (intOf iv).toNat)
            case atStart => exact ⟨0, Nat.zero_le _, by go_num, HW.out.2.2.2⟩
            case round =>
              obtain ⟨j, hj, rfl, hA⟩ := hrel
              have hb := HW.out.2.2.1.trans (hA.below.mono hbs)
              by_cases hlt : j < X.size
              · have hjp : j < (pathsT X).length := by rw [pathsT_length]; exact hlt
                have hjx : (j : Int) < (X.size : Int) := by omega
                obtain ⟨cu, hcc, hcr⟩ := HCS.out.2 j hjp
                obtain ⟨Nj, hNj⟩ := pathsT_node hjp
                have hwl : Below W6.heap.size W6 wr := HBL.out.thenP hA.below
                have hwls := hwl.size
                have hcw := (hwl.cell (p := ⟨bl, ol + j, none⟩) HCS.out.1).trans hcc
                have hlbl : bl < wr.heap.size := Nat.lt_of_lt_of_le HCS.out.1 hwls
                have bbx := hA.bx
                have bbo := hA.bo
                have HBE : Hid (BelowP W17 wr) := hA.below
                have hx := (H0.out.1.below hb).mono hb.size
                have ho := HW.out.1.up hA.below hA.below.size
                have hp := HW.out.2.1.up hA.below hA.below.size
                have hc := hcr.up hwl hwls
                obtain ⟨ca, cc, rfl, -⟩ := id hcr
                have hPe := HN.out.2
                by_cases h0 : 0 < j
                · obtain ⟨i, rfl⟩ : ∃ i, j = i + 1 := ⟨j - 1, by omega⟩
                  obtain ⟨du, hdc, hdr⟩ := HCS.out.2 i (by omega)
                  have hdw := (hwl.cell (p := ⟨bl, ol + i, none⟩) HCS.out.1).trans hdc
                  have hd := hdr.up hwl hwls
                  obtain ⟨da, dc, rfl, -⟩ := id hdr
                  have hix : (i : Int) < (X.size : Int) := by omega
                  have hi1 : ((i + 1 : Nat) : Int) - 1 = (i : Int) := by omega
                  have hi0 : ((i + 1 : Nat) : Int) > 0 := by omega
                  have hless := pathsT_less (i := i) hjp (by omega)
                  have HJ := Lib.hid (And.intro hNj hless)
                  clear hcc hcr hdc hdr hwl hA hNj hPe hless
                  go_wp2_with fail
                  refine (cmpLess hd hc HJ.out.2).mono ?_
                  rintro e W101 ⟨rfl, B⟩
                  replace bbx := Box.keep B bbx
                  replace bbo := Box.keep B bbo
                  replace hx := hx.up B B.size
                  replace ho := ho.up B B.size
                  replace hp := hp.up B B.size
                  replace hc := hc.up B B.size
                  replace hd := hd.up B B.size
                  replace HBE := Lib.hid (HBE.out.thenP B)
                  replace hb := hb.trans (B.mono hb.size)
                  clear B
                  clear hd
                  clear hdw hcw
                  go_wp2_with fail
                  refine (apart_any P (pathsT X)[i + 1] _ _ _ hp hc).mono ?_
                  rintro e W102 ⟨rfl, B⟩
                  replace bbx := Box.keep B bbx
                  replace bbo := Box.keep B bbo
                  replace hx := hx.up B B.size
                  replace ho := ho.up B B.size
                  replace hp := hp.up B B.size
                  replace hc := hc.up B B.size
                  replace HBE := Lib.hid (HBE.out.thenP B)
                  replace hb := hb.trans (B.mono hb.size)
                  clear B
                  cases hap : apN P (pathsT X)[i + 1] with
                  | false =>
                    clear hap
                    have hfin : EdAt W17 w.heap.size W13.heap.size #[.int .i64 kx, .int .i64 nx, .string sx, .slice ax mx cx] #[.int .i64 ko, .int .i64 no, .string so, .slice ao mo co] W102 := ⟨bbx, bbo, HBE.out⟩
                    have HF := Lib.hid hfin
                    clear bbx bbo hx ho hp hc hfin HBE hb
                    go_wp2_with fail
                    exact ⟨⟨i + 1 + 1, hlt, by go_num, HF.out⟩, by simp [intOf]; omega⟩
                  | true =>
                    have hno : nodT (pathsT X)[i + 1] O = some Nj := by rw [← HO.out.1, nodT_apart Y P (pathsT X)[i + 1] X hap (by rw [HN.out.1]; rfl)]; exact HJ.out.1
                    have HNO := Lib.hid hno
                    clear hno hap
                    have qx0 := bbx.cell 0
                    have qx1 := bbx.cell 1
                    have qx2 := bbx.cell 2
                    have qx3 := bbx.cell 3
                    have lx := bbx.lt
                    simp only [List.getElem?_toArray, List.getElem?_cons_succ, List.getElem?_cons_zero] at qx0 qx1 qx2 qx3
                    go_wp2_with fail
                    clear qx0 qx1 qx2 qx3 lx
                    refine ((At_any X (pathsT X)[i + 1] _ _ _ hx hc (by have := HS.out.1.2; omega) (by have := HS.out.1.2; omega)).mono (fun _ _ h => TaPost.at h HS.out.1.1 HJ.out.1)).mono ?_
                    rintro e W103 ⟨ku, nu, su, au, mu, cu, rfl, hu, B⟩
                    replace bbx := Box.keep B bbx
                    replace bbo := Box.keep B bbo
                    replace hx := hx.up B B.size
                    replace ho := ho.up B B.size
                    replace hp := hp.up B B.size
                    replace hc := hc.up B B.size
                    replace HBE := Lib.hid (HBE.out.thenP B)
                    replace hb := hb.trans (B.mono hb.size)
                    clear B
                    have qo0 := bbo.cell 0
                    have qo1 := bbo.cell 1
                    have qo2 := bbo.cell 2
                    have qo3 := bbo.cell 3
                    have lo := bbo.lt
                    simp only [List.getElem?_toArray, List.getElem?_cons_succ, List.getElem?_cons_zero] at qo0 qo1 qo2 qo3
                    go_wp2_with fail
                    clear qo0 qo1 qo2 qo3 lo
                    have bbu : Box (W103.alloc (.cells #[.int .i64 ku, .int .i64 nu, .string su, .slice au mu cu] 25)) W103.heap.size #[.int .i64 ku, .int .i64 nu, .string su, .slice au mu cu] 25 := Box.at rfl
                    have B := below_a1 (Nat.le_refl W103.heap.size) (.cells #[.int .i64 ku, .int .i64 nu, .string su, .slice au mu cu] 25)
                    replace bbx := Box.keep B bbx
                    replace bbo := Box.keep B bbo
                    replace hx := hx.up B B.size
                    replace ho := ho.up B B.size
                    replace hp := hp.up B B.size
                    replace hc := hc.up B B.size
                    replace hu := hu.up B B.size
                    replace HBE := Lib.hid (HBE.out.thenP B)
                    replace hb := hb.trans (B.mono hb.size)
                    clear B
                    generalize (W103.alloc (.cells #[.int .i64 ku, .int .i64 nu, .string su, .slice au mu cu] 25)) = V104 at *
                    refine ((At_any O (pathsT X)[i + 1] _ _ _ ho hc (by have := HO.out.2; have := HS.out.1.2; have := HS.out.2.1.2; omega) (by have := HO.out.2; have := HS.out.1.2; have := HS.out.2.1.2; omega)).mono (fun _ _ h => TaPost.at h HR.out HNO.out)).mono ?_
                    rintro e W105 ⟨kv, nv, sv, av, mv, cv, rfl, hv, B⟩
                    replace bbx := Box.keep B bbx
                    replace bbo := Box.keep B bbo
                    replace bbu := Box.keep B bbu
                    replace hx := hx.up B B.size
                    replace ho := ho.up B B.size
                    replace hp := hp.up B B.size
                    replace hc := hc.up B B.size
                    replace hu := hu.up B B.size
                    replace HBE := Lib.hid (HBE.out.thenP B)
                    replace hb := hb.trans (B.mono hb.size)
                    clear B
                    have qu0 := bbu.cell 0
                    have qu1 := bbu.cell 1
                    have qu2 := bbu.cell 2
                    have qu3 := bbu.cell 3
                    have lu := bbu.lt
                    simp only [List.getElem?_toArray, List.getElem?_cons_succ, List.getElem?_cons_zero] at qu0 qu1 qu2 qu3
                    go_wp2_with fail
                    clear qu0 qu1 qu2 qu3 lu
                    have bbv : Box (W105.alloc (.cells #[.int .i64 kv, .int .i64 nv, .string sv, .slice av mv cv] 25)) W105.heap.size #[.int .i64 kv, .int .i64 nv, .string sv, .slice av mv cv] 25 := Box.at rfl
                    have B := below_a1 (Nat.le_refl W105.heap.size) (.cells #[.int .i64 kv, .int .i64 nv, .string sv, .slice av mv cv] 25)
                    replace bbx := Box.keep B bbx
                    replace bbo := Box.keep B bbo
                    replace bbu := Box.keep B bbu
                    replace hx := hx.up B B.size
                    replace ho := ho.up B B.size
                    replace hp := hp.up B B.size
                    replace hc := hc.up B B.size
                    replace hu := hu.up B B.size
                    replace hv := hv.up B B.size
                    replace HBE := Lib.hid (HBE.out.thenP B)
                    replace hb := hb.trans (B.mono hb.size)
                    clear B
                    generalize (W105.alloc (.cells #[.int .i64 kv, .int .i64 nv, .string sv, .slice av mv cv] 25)) = V106 at *
                    refine (samedE Nj _ _ _ hu hv).mono ?_
                    rintro e W107 ⟨rfl, B⟩
                    replace bbx := Box.keep B bbx
                    replace bbo := Box.keep B bbo
                    replace bbu := Box.keep B bbu
                    replace bbv := Box.keep B bbv
                    replace hx := hx.up B B.size
                    replace ho := ho.up B B.size
                    replace hp := hp.up B B.size
                    replace hc := hc.up B B.size
                    replace hu := hu.up B B.size
                    replace hv := hv.up B B.size
                    replace HBE := Lib.hid (HBE.out.thenP B)
                    replace hb := hb.trans (B.mono hb.size)
                    clear B
                    clear bbu hu bbv hv
                    clear HNO
                    have hfin : EdAt W17 w.heap.size W13.heap.size #[.int .i64 kx, .int .i64 nx, .string sx, .slice ax mx cx] #[.int .i64 ko, .int .i64 no, .string so, .slice ao mo co] W107 := ⟨bbx, bbo, HBE.out⟩
                    have HF := Lib.hid hfin
                    clear bbx bbo hx ho hp hc hfin HBE hb
                    go_wp2_with fail
                    exact ⟨⟨i + 1 + 1, hlt, by go_num, HF.out⟩, by simp [intOf]; omega⟩
                · obtain rfl : j = 0 := by omega
                  rw [Nat.add_zero] at hcw
                  have hdum : True := trivial
                  have HJ := Lib.hid (And.intro hNj hdum)
                  clear hcc hcr hwl hA hNj hPe hdum
                  go_wp2_with fail
                  refine (apart_any P (pathsT X)[0] _ _ _ hp hc).mono ?_
                  rintro e W101 ⟨rfl, B⟩
                  replace bbx := Box.keep B bbx
                  replace bbo := Box.keep B bbo
                  replace hx := hx.up B B.size
                  replace ho := ho.up B B.size
                  replace hp := hp.up B B.size
                  replace hc := hc.up B B.size
                  replace HBE := Lib.hid (HBE.out.thenP B)
                  replace hb := hb.trans (B.mono hb.size)
                  clear B
                  clear hcw
                  cases hap : apN P (pathsT X)[0] with
                  | false =>
                    clear hap
                    have hfin : EdAt W17 w.heap.size W13.heap.size #[.int .i64 kx, .int .i64 nx, .string sx, .slice ax mx cx] #[.int .i64 ko, .int .i64 no, .string so, .slice ao mo co] W101 := ⟨bbx, bbo, HBE.out⟩
                    have HF := Lib.hid hfin
                    clear bbx bbo hx ho hp hc hfin HBE hb
                    go_wp2_with fail
                    exact ⟨⟨0 + 1, hlt, by go_num, HF.out⟩, by simp [intOf]; omega⟩
                  | true =>
                    have hno : nodT (pathsT X)[0] O = some Nj := by rw [← HO.out.1, nodT_apart Y P (pathsT X)[0] X hap (by rw [HN.out.1]; rfl)]; exact HJ.out.1
                    have HNO := Lib.hid hno
                    clear hno hap
                    have qx0 := bbx.cell 0
                    have qx1 := bbx.cell 1
                    have qx2 := bbx.cell 2
                    have qx3 := bbx.cell 3
                    have lx := bbx.lt
                    simp only [List.getElem?_toArray, List.getElem?_cons_succ, List.getElem?_cons_zero] at qx0 qx1 qx2 qx3
                    go_wp2_with fail
                    clear qx0 qx1 qx2 qx3 lx
                    refine ((At_any X (pathsT X)[0] _ _ _ hx hc (by have := HS.out.1.2; omega) (by have := HS.out.1.2; omega)).mono (fun _ _ h => TaPost.at h HS.out.1.1 HJ.out.1)).mono ?_
                    rintro e W102 ⟨ku, nu, su, au, mu, cu, rfl, hu, B⟩
                    replace bbx := Box.keep B bbx
                    replace bbo := Box.keep B bbo
                    replace hx := hx.up B B.size
                    replace ho := ho.up B B.size
                    replace hp := hp.up B B.size
                    replace hc := hc.up B B.size
                    replace HBE := Lib.hid (HBE.out.thenP B)
                    replace hb := hb.trans (B.mono hb.size)
                    clear B
                    have qo0 := bbo.cell 0
                    have qo1 := bbo.cell 1
                    have qo2 := bbo.cell 2
                    have qo3 := bbo.cell 3
                    have lo := bbo.lt
                    simp only [List.getElem?_toArray, List.getElem?_cons_succ, List.getElem?_cons_zero] at qo0 qo1 qo2 qo3
                    go_wp2_with fail
                    clear qo0 qo1 qo2 qo3 lo
                    have bbu : Box (W102.alloc (.cells #[.int .i64 ku, .int .i64 nu, .string su, .slice au mu cu] 25)) W102.heap.size #[.int .i64 ku, .int .i64 nu, .string su, .slice au mu cu] 25 := Box.at rfl
                    have B := below_a1 (Nat.le_refl W102.heap.size) (.cells #[.int .i64 ku, .int .i64 nu, .string su, .slice au mu cu] 25)
                    replace bbx := Box.keep B bbx
                    replace bbo := Box.keep B bbo
                    replace hx := hx.up B B.size
                    replace ho := ho.up B B.size
                    replace hp := hp.up B B.size
                    replace hc := hc.up B B.size
                    replace hu := hu.up B B.size
                    replace HBE := Lib.hid (HBE.out.thenP B)
                    replace hb := hb.trans (B.mono hb.size)
                    clear B
                    generalize (W102.alloc (.cells #[.int .i64 ku, .int .i64 nu, .string su, .slice au mu cu] 25)) = V103 at *
                    refine ((At_any O (pathsT X)[0] _ _ _ ho hc (by have := HO.out.2; have := HS.out.1.2; have := HS.out.2.1.2; omega) (by have := HO.out.2; have := HS.out.1.2; have := HS.out.2.1.2; omega)).mono (fun _ _ h => TaPost.at h HR.out HNO.out)).mono ?_
                    rintro e W104 ⟨kv, nv, sv, av, mv, cv, rfl, hv, B⟩
                    replace bbx := Box.keep B bbx
                    replace bbo := Box.keep B bbo
                    replace bbu := Box.keep B bbu
                    replace hx := hx.up B B.size
                    replace ho := ho.up B B.size
                    replace hp := hp.up B B.size
                    replace hc := hc.up B B.size
                    replace hu := hu.up B B.size
                    replace HBE := Lib.hid (HBE.out.thenP B)
                    replace hb := hb.trans (B.mono hb.size)
                    clear B
                    have qu0 := bbu.cell 0
                    have qu1 := bbu.cell 1
                    have qu2 := bbu.cell 2
                    have qu3 := bbu.cell 3
                    have lu := bbu.lt
                    simp only [List.getElem?_toArray, List.getElem?_cons_succ, List.getElem?_cons_zero] at qu0 qu1 qu2 qu3
                    go_wp2_with fail
                    clear qu0 qu1 qu2 qu3 lu
                    have bbv : Box (W104.alloc (.cells #[.int .i64 kv, .int .i64 nv, .string sv, .slice av mv cv] 25)) W104.heap.size #[.int .i64 kv, .int .i64 nv, .string sv, .slice av mv cv] 25 := Box.at rfl
                    have B := below_a1 (Nat.le_refl W104.heap.size) (.cells #[.int .i64 kv, .int .i64 nv, .string sv, .slice av mv cv] 25)
                    replace bbx := Box.keep B bbx
                    replace bbo := Box.keep B bbo
                    replace bbu := Box.keep B bbu
                    replace hx := hx.up B B.size
                    replace ho := ho.up B B.size
                    replace hp := hp.up B B.size
                    replace hc := hc.up B B.size
                    replace hu := hu.up B B.size
                    replace hv := hv.up B B.size
                    replace HBE := Lib.hid (HBE.out.thenP B)
                    replace hb := hb.trans (B.mono hb.size)
                    clear B
                    generalize (W104.alloc (.cells #[.int .i64 kv, .int .i64 nv, .string sv, .slice av mv cv] 25)) = V105 at *
                    refine (samedE Nj _ _ _ hu hv).mono ?_
                    rintro e W106 ⟨rfl, B⟩
                    replace bbx := Box.keep B bbx
                    replace bbo := Box.keep B bbo
                    replace bbu := Box.keep B bbu
                    replace bbv := Box.keep B bbv
                    replace hx := hx.up B B.size
                    replace ho := ho.up B B.size
                    replace hp := hp.up B B.size
                    replace hc := hc.up B B.size
                    replace hu := hu.up B B.size
                    replace hv := hv.up B B.size
                    replace HBE := Lib.hid (HBE.out.thenP B)
                    replace hb := hb.trans (B.mono hb.size)
                    clear B
                    clear bbu hu bbv hv
                    clear HNO
                    have hfin : EdAt W17 w.heap.size W13.heap.size #[.int .i64 kx, .int .i64 nx, .string sx, .slice ax mx cx] #[.int .i64 ko, .int .i64 no, .string so, .slice ao mo co] W106 := ⟨bbx, bbo, HBE.out⟩
                    have HF := Lib.hid hfin
                    clear bbx bbo hx ho hp hc hfin HBE hb
                    go_wp2_with fail
                    exact ⟨⟨0 + 1, hlt, by go_num, HF.out⟩, by simp [intOf]; omega⟩
              · obtain rfl : j = X.size := by omega
                clear hA
                go_wp2_with fail
                go_ret
                exact ⟨rfl, hb⟩
end Go.Proofs.YtdigiaigbcfccaaDoor
