/- The law of Paths, At, Put and Inside: a second reading of each. -/
import Derived.Test.YtdigiaigbcfccaaDoorRefIn
import Derived.Test.YtdigiaigbcfccaaDoorApart
import Derived.Test.YtdigiaigbcfccaaDoorJoined
import Derived.Test.YtdigiaigbcfccaaDoorTwo
import Derived.Test.YtdigiaigbcfccaaDoorSane
namespace Go.Proofs.YtdigiaigbcfccaaDoor
open Go.RowKit Go

def pthL (X : Tr) : List (List Int) := if isB X then pathsT X else []
/-- A list of places and a number are handed back. -/
def PnQ (L : List (List Int)) (x : Int) (w : World) (e : Ending) (w' : World) : Prop := ∃ a m c, e = .returned (.tuple #[.slice a m c, .int .i64 x]) ∧ RdNN w'.heap.size w' L (.slice a m c) ∧ Below w.heap.size w w'
theorem PnQ.of {X : Tr} {w : World} {e : Ending} {w' : World} {L : List (List Int)} {x : Int} (h : PathsPost X w e w') (hL : pthL X = L) (hx : errI (isB X) = x) : PnQ L x w e w' := by
  subst hL hx
  obtain ⟨hB, h⟩ := h
  cases hb : isB X with
  | false =>
    rw [hb] at h
    subst h
    exact ⟨none, 0, 0, rfl, by rw [pthL, hb]; exact ⟨none, 0, rfl, Nat.zero_le _, fun h => by simp at h⟩, hB⟩
  | true =>
    rw [hb] at h
    obtain ⟨v, rfl, hv⟩ := h
    have hr := hv.rd
    obtain ⟨a, c, rfl, _⟩ := id hr
    exact ⟨a, _, c, rfl, by rw [pthL, hb]; exact hr, hB⟩
theorem TaPost.as {Z : Tr} {z : Int} {w : World} {e : Ending} {w' : World} {G : Tr} {x : Int} (h : TaPost Z z w e w') (hG : Z = G) (hx : z = x) : TaPost G x w e w' := by
  subst hG hx
  exact h
/-- A tree that lies below n₀, or from lo on. -/
def FarT (n₀ lo : Nat) (W : World) (X : Tr) (v : Value) : Prop := IsP (OA n₀ lo W) W X v
theorem FarT.keep {n₀ lo : Nat} {A B : World} {X : Tr} {v : Value} (h : FarT n₀ lo A X v) (hB : Below A.heap.size A B) : FarT n₀ lo B X v :=
  IsP.map (fun b hb => ⟨⟨hb.1, Nat.lt_of_lt_of_le hb.2 hB.size⟩, hB.block b hb.2⟩) _ _ h
theorem FarT.four {n₀ lo B : Nat} {A : World} {X : Tr} {v : Value} (h : FarT n₀ lo A X v) (h1 : n₀ ≤ B) (h2 : B < lo) (a0 a1 a2 a3 : Value) : FarT n₀ lo ((((A.setCell ⟨B, 0, none⟩ a0).setCell ⟨B, 1, none⟩ a1).setCell ⟨B, 2, none⟩ a2).setCell ⟨B, 3, none⟩ a3) X v :=
  IsP.map (fun b hb => ⟨⟨hb.1, by simpa using hb.2⟩, heap_four (by rcases hb.1 with h | h <;> omega) _ _ _ _⟩) _ _ h
theorem FarT.toT {n₀ lo : Nat} {A : World} {X : Tr} {v : Value} (h : FarT n₀ lo A X v) : IsT A.heap.size A X v := IsP.toT (fun _ h => h.2) _ _ h
/-- A tree and a number; the tree lies far. -/
def TfQ (n₀ : Nat) (X : Tr) (x : Int) (w : World) (e : Ending) (w' : World) : Prop := ∃ k n s a m c, e = .returned (.tuple #[.agg #[.int .i64 k, .int .i64 n, .string s, .slice a m c], .int .i64 x]) ∧ FarT n₀ w.heap.size w' X (.agg #[.int .i64 k, .int .i64 n, .string s, .slice a m c]) ∧ Below w.heap.size w w'
theorem TfQ.tp {n₀ : Nat} {Z : Tr} {z : Int} {w : World} {e : Ending} {w' : World} {G : Tr} {x : Int} (h : TpPost n₀ Z z w e w') (hG : Z = G) (hx : z = x) : TfQ n₀ G x w e w' := by
  subst hG hx
  exact h
theorem TfQ.tq {n₀ : Nat} {Z : Tr} {z : Int} {w : World} {e : Ending} {w' : World} {G : Tr} {x : Int} (h : TqPost Z z w e w') (hG : Z = G) (hx : z = x) : TfQ n₀ G x w e w' := by
  subst hG hx
  obtain ⟨k, n, s, a, m, c, e, h1, h2⟩ := h
  exact ⟨k, n, s, a, m, c, e, IsP.map (fun b hb => ⟨⟨.inr hb.1, hb.2⟩, rfl⟩) _ _ h1, h2⟩
noncomputable def insL (X Y : Tr) : List Int := if isB X && isB Y then (insF X Y).getD [] else []
noncomputable def insB (X Y : Tr) : Bool := if isB X && isB Y then (insF X Y).isSome else false
/-- A place, whether there is one, and a number are handed back. -/
def IqQ (L : List Int) (b : Bool) (x : Int) (w : World) (e : Ending) (w' : World) : Prop := ∃ a m c, e = .returned (.tuple #[.slice a m c, .bool b, .int .i64 x]) ∧ RdN w'.heap.size w' L (.slice a m c) ∧ Below w.heap.size w w'
theorem IqQ.of {X Y : Tr} {w : World} {e : Ending} {w' : World} {L : List Int} {b : Bool} {x : Int} (h : InPost X Y w e w') (hL : insL X Y = L) (hb : insB X Y = b) (hx : errI (isB X && isB Y) = x) : IqQ L b x w e w' := by
  subst hL hb hx
  obtain ⟨hB, h⟩ := h
  have hnil : ∀ W : World, RdN W.heap.size W [] (.slice none 0 0) := fun W => ⟨none, 0, rfl, by decide, fun h => by simp at h⟩
  cases hq : (isB X && isB Y) with
  | false =>
    rw [hq] at h
    subst h
    exact ⟨none, 0, 0, by rw [insB, hq]; rfl, by rw [insL, hq]; exact hnil _, hB⟩
  | true =>
    rw [hq] at h
    cases hf : insF X Y with
    | none =>
      rw [hf] at h
      dsimp only at h
      subst h
      exact ⟨none, 0, 0, by rw [insB, hq, hf]; rfl, by rw [insL, hq, hf]; exact hnil _, hB⟩
    | some p =>
      rw [hf] at h
      obtain ⟨v, rfl, hv⟩ := h
      obtain ⟨a, c, rfl, _⟩ := id hv
      exact ⟨a, _, c, by rw [insB, hq, hf]; rfl, by rw [insL, hq, hf]; exact hv, hB⟩
theorem samed' (Z : Tr) (v u : Value) (w : World) (h : IsT w.heap.size w Z v) (k : IsT w.heap.size w Z u) : Calls Tryd.prog 25 #[v, u] w fun e w' => e = .returned (.bool true) ∧ Below w.heap.size w w' := by
  have := refSame_any Z Z v u w h k
  rw [show eqT Z Z = true by simp [eqT]] at this
  exact this
theorem sameP (L : List (List Int)) (v u : Value) (w : World) (h : RdNN w.heap.size w L v) (k : RdNN w.heap.size w L u) : Calls Tryd.prog 31 #[v, u] w fun e w' => e = .returned (.bool true) ∧ Below w.heap.size w w' := by
  have := samePaths_any L L v u w h k
  rwa [decide_eq_true (rfl : L = L)] at this
theorem sameN (L : List Int) (v u : Value) (w : World) (h : RdN w.heap.size w L v) (k : RdN w.heap.size w L u) : Calls Tryd.prog 36 #[v, u] w fun e w' => e = .returned (.bool true) ∧ Below w.heap.size w w' := by
  have := equalN_any L L v u w h k
  rwa [decide_eq_true (rfl : L = L)] at this

set_option maxRecDepth 100000 in
set_option maxHeartbeats 8000000 in
theorem termPlaces_any (X Y : Tr) (p : List Int) (vx vy : Value) (a : Option Addr) (c : Nat) (w : World) (hx : IsT w.heap.size w X vx) (hy : IsT w.heap.size w Y vy) (hp : RdC w.heap.size w p a c) (htab : Lib.TabBelow Tryd.prog w.heap.size w "internal/strconv.uint64pow10" .u64 Lib.pow10Tab) :
    Calls Tryd.prog 4 #[vx, vy, .slice a p.length c] w fun e w' => e = .returned (.bool true) ∧ Below w.heap.size w w' := by
  have hplm : p.length ≤ 9223372036854775807 := by have h1 := hp.1; have h2 := hp.2.1; unfold maxLen at h2; omega
  obtain ⟨kx, nx, sx, ax, mx, cx, rfl⟩ := (IsT.toP _ _ hx).form
  obtain ⟨ky, ny, sy, ay, my, cy, rfl⟩ := (IsT.toP _ _ hy).form
  have bbx : Box ((w.alloc (.cells #[.int .i64 kx, .int .i64 nx, .string sx, .slice ax mx cx] 25)).alloc (.cells #[.int .i64 ky, .int .i64 ny, .string sy, .slice ay my cy] 25)) w.heap.size #[.int .i64 kx, .int .i64 nx, .string sx, .slice ax mx cx] 25 := (Box.at rfl).alloc _
  have bby : Box ((w.alloc (.cells #[.int .i64 kx, .int .i64 nx, .string sx, .slice ax mx cx] 25)).alloc (.cells #[.int .i64 ky, .int .i64 ny, .string sy, .slice ay my cy] 25)) (w.heap.size + 1) #[.int .i64 ky, .int .i64 ny, .string sy, .slice ay my cy] 25 := Box.at (by simp)
  have hb := below_a2 (Nat.le_refl w.heap.size) (.cells #[.int .i64 kx, .int .i64 nx, .string sx, .slice ax mx cx] 25) (.cells #[.int .i64 ky, .int .i64 ny, .string sy, .slice ay my cy] 25)
  have H0 := Lib.hid (And.intro hx (And.intro hy hp))
  replace hx := hx.up hb hb.size
  replace hy := hy.up hb hb.size
  replace hp := hp.up hb hb.size
  go_enter Tryd.func4, Tryd.ntmps4
  go_wp2_with fail
  refine (sane_any _ (fun w'' h => htab w'' (hb.trans (h.mono hb.size)))).mono ?_
  rintro e W1 ⟨rfl, B⟩
  replace bbx := Box.keep B bbx
  replace bby := Box.keep B bby
  replace hx := hx.up B B.size
  replace hy := hy.up B B.size
  replace hp := hp.up B B.size
  replace hb := hb.trans (B.mono hb.size)
  clear B
  clear htab
  have qx0 := bbx.cell 0
  have qx1 := bbx.cell 1
  have qx2 := bbx.cell 2
  have qx3 := bbx.cell 3
  have qy0 := bby.cell 0
  have qy1 := bby.cell 1
  have qy2 := bby.cell 2
  have qy3 := bby.cell 3
  have lx := bbx.lt
  have ly := bby.lt
  simp only [List.getElem?_toArray, List.getElem?_cons_succ, List.getElem?_cons_zero] at qx0 qx1 qx2 qx3 qy0 qy1 qy2 qy3
  go_wp2_with fail
  clear qx0 qx1 qx2 qx3 qy0 qy1 qy2 qy3 lx ly
  have bbs : Box (W1.alloc (.cells #[.int .i64 kx, .int .i64 nx, .string sx, .slice ax mx cx, .int .i64 ky, .int .i64 ny, .string sy, .slice ay my cy] 25)) W1.heap.size #[.int .i64 kx, .int .i64 nx, .string sx, .slice ax mx cx, .int .i64 ky, .int .i64 ny, .string sy, .slice ay my cy] 25 := Box.at rfl
  have B := below_a1 (Nat.le_refl W1.heap.size) (.cells #[.int .i64 kx, .int .i64 nx, .string sx, .slice ax mx cx, .int .i64 ky, .int .i64 ny, .string sy, .slice ay my cy] 25)
  replace bbx := Box.keep B bbx
  replace bby := Box.keep B bby
  replace hx := hx.up B B.size
  replace hy := hy.up B B.size
  replace hp := hp.up B B.size
  replace hb := hb.trans (B.mono hb.size)
  clear B
  generalize (W1.alloc (.cells #[.int .i64 kx, .int .i64 nx, .string sx, .slice ax mx cx, .int .i64 ky, .int .i64 ny, .string sy, .slice ay my cy] 25)) = V2 at *
  have hsm := small_any [X, Y] _ 2 _ (by simp; unfold maxLen; omega) (IsL.cons bbs.lt (bbs.cell 0) (bbs.cell 1) (bbs.cell 2) (bbs.cell 3) hx (IsL.cons bbs.lt (bbs.cell 4) (bbs.cell 5) (bbs.cell 6) (bbs.cell 7) hy IsL.nil))
  have HSM := Lib.hid hsm
  clear hsm
  clear bbs
  refine (HSM.out).mono ?_
  rintro e W3 ⟨rfl, B⟩
  replace bbx := Box.keep B bbx
  replace bby := Box.keep B bby
  replace hx := hx.up B B.size
  replace hy := hy.up B B.size
  replace hp := hp.up B B.size
  replace hb := hb.trans (B.mono hb.size)
  clear B
  clear HSM
  cases hq : smallB [X, Y] with
  | false =>
    clear hq
    go_wp2_with fail
    go_ret
    exact ⟨rfl, hb⟩
  | true =>
    have hss : X.size ≤ 1500 ∧ X.deep ≤ 700 ∧ Y.size ≤ 1500 ∧ Y.deep ≤ 700 := by
      have h1 := small_mem hq (t := X) (by simp)
      have h2 := small_mem hq (t := Y) (by simp)
      exact ⟨h1.1, h1.2, h2.1, h2.2⟩
    clear hq
    by_cases hpl : 1000 < p.length
    · have hpl2 : ((p.length : Nat) : Int) > 1000 := by omega
      go_wp2_with fail
      go_ret
      exact ⟨rfl, hb⟩
    · have hpl2 : ¬ ((p.length : Nat) : Int) > 1000 := by omega
      have HZ := Lib.hid hss
      clear hss hpl
      obtain ⟨L, qL⟩ : ∃ z, pthL X = z := ⟨_, rfl⟩
      replace qL := Lib.hid qL
      obtain ⟨xl, qxl⟩ : ∃ z, errI (isB X) = z := ⟨_, rfl⟩
      replace qxl := Lib.hid qxl
      obtain ⟨G, qG⟩ : ∃ z, atV p X = z := ⟨_, rfl⟩
      replace qG := Lib.hid qG
      obtain ⟨xg, qxg⟩ : ∃ z, atE p X = z := ⟨_, rfl⟩
      replace qxg := Lib.hid qxg
      obtain ⟨V, qV⟩ : ∃ z, putV p X Y = z := ⟨_, rfl⟩
      replace qV := Lib.hid qV
      obtain ⟨xv, qxv⟩ : ∃ z, putE p X Y = z := ⟨_, rfl⟩
      replace qxv := Lib.hid qxv
      obtain ⟨J, qJ⟩ : ∃ z, insL X Y = z := ⟨_, rfl⟩
      replace qJ := Lib.hid qJ
      obtain ⟨jb, qjb⟩ : ∃ z, insB X Y = z := ⟨_, rfl⟩
      replace qjb := Lib.hid qjb
      obtain ⟨xj, qxj⟩ : ∃ z, errI (isB X && isB Y) = z := ⟨_, rfl⟩
      replace qxj := Lib.hid qxj
      have qx0 := bbx.cell 0
      have qx1 := bbx.cell 1
      have qx2 := bbx.cell 2
      have qx3 := bbx.cell 3
      have lx := bbx.lt
      simp only [List.getElem?_toArray, List.getElem?_cons_succ, List.getElem?_cons_zero] at qx0 qx1 qx2 qx3
      go_wp2_with fail
      clear qx0 qx1 qx2 qx3 lx
      refine ((Paths_any X _ _ hx (Nat.le_trans HZ.out.2.1 (by decide))).mono (fun _ _ h => PnQ.of h qL.out qxl.out)).mono ?_
      rintro e W4 ⟨al, ml, cl, rfl, hl, B⟩
      replace bbx := Box.keep B bbx
      replace bby := Box.keep B bby
      replace hx := hx.up B B.size
      replace hy := hy.up B B.size
      replace hp := hp.up B B.size
      replace hb := hb.trans (B.mono hb.size)
      clear B
      have qx0 := bbx.cell 0
      have qx1 := bbx.cell 1
      have qx2 := bbx.cell 2
      have qx3 := bbx.cell 3
      have lx := bbx.lt
      simp only [List.getElem?_toArray, List.getElem?_cons_succ, List.getElem?_cons_zero] at qx0 qx1 qx2 qx3
      go_wp2_with fail
      clear qx0 qx1 qx2 qx3 lx
      refine ((refPaths_any X _ _ hx (Nat.le_trans HZ.out.1 (by decide)) (Nat.le_trans HZ.out.2.1 (by decide))).mono (fun _ _ h => PnQ.of h qL.out qxl.out)).mono ?_
      rintro e W5 ⟨ao, mo, co, rfl, ho, B⟩
      replace bbx := Box.keep B bbx
      replace bby := Box.keep B bby
      replace hx := hx.up B B.size
      replace hy := hy.up B B.size
      replace hp := hp.up B B.size
      replace hl := hl.up B B.size
      replace hb := hb.trans (B.mono hb.size)
      clear B
      clear qL qxl
      have qx0 := bbx.cell 0
      have qx1 := bbx.cell 1
      have qx2 := bbx.cell 2
      have qx3 := bbx.cell 3
      have lx := bbx.lt
      simp only [List.getElem?_toArray, List.getElem?_cons_succ, List.getElem?_cons_zero] at qx0 qx1 qx2 qx3
      go_wp2_with fail
      clear qx0 qx1 qx2 qx3 lx
      refine ((At_any X p _ _ _ hx hp.rd (Nat.le_trans HZ.out.1 (by decide)) (Nat.le_trans HZ.out.2.1 (by decide))).mono (fun _ _ h => TaPost.as h qG.out qxg.out)).mono ?_
      rintro e W6 ⟨kg, ng, sg, ag, mg, cg, rfl, hg, B⟩
      replace bbx := Box.keep B bbx
      replace bby := Box.keep B bby
      replace hx := hx.up B B.size
      replace hy := hy.up B B.size
      replace hp := hp.up B B.size
      replace hl := hl.up B B.size
      replace ho := ho.up B B.size
      replace hb := hb.trans (B.mono hb.size)
      clear B
      have hgx : w.heap.size + 1 < W6.heap.size := bby.lt
      have qx0 := bbx.cell 0
      have qx1 := bbx.cell 1
      have qx2 := bbx.cell 2
      have qx3 := bbx.cell 3
      have lx := bbx.lt
      simp only [List.getElem?_toArray, List.getElem?_cons_succ, List.getElem?_cons_zero] at qx0 qx1 qx2 qx3
      go_wp2_with fail
      clear qx0 qx1 qx2 qx3 lx
      have bbg : Box (W6.alloc (.cells #[.int .i64 kg, .int .i64 ng, .string sg, .slice ag mg cg] 25)) W6.heap.size #[.int .i64 kg, .int .i64 ng, .string sg, .slice ag mg cg] 25 := Box.at rfl
      have B := below_a1 (Nat.le_refl W6.heap.size) (.cells #[.int .i64 kg, .int .i64 ng, .string sg, .slice ag mg cg] 25)
      replace bbx := Box.keep B bbx
      replace bby := Box.keep B bby
      replace hx := hx.up B B.size
      replace hy := hy.up B B.size
      replace hp := hp.up B B.size
      replace hl := hl.up B B.size
      replace ho := ho.up B B.size
      replace hg := hg.up B B.size
      replace hb := hb.trans (B.mono hb.size)
      clear B
      generalize (W6.alloc (.cells #[.int .i64 kg, .int .i64 ng, .string sg, .slice ag mg cg] 25)) = V7 at *
      refine ((refAt_any X p _ _ _ hx hp.rd (Nat.le_trans HZ.out.1 (by decide)) (Nat.le_trans HZ.out.2.1 (by decide))).mono (fun _ _ h => TaPost.as h qG.out qxg.out)).mono ?_
      rintro e W8 ⟨ku, nu, su, au, mu, cu, rfl, hu, B⟩
      replace bbx := Box.keep B bbx
      replace bby := Box.keep B bby
      replace bbg := Box.keep B bbg
      replace hx := hx.up B B.size
      replace hy := hy.up B B.size
      replace hp := hp.up B B.size
      replace hl := hl.up B B.size
      replace ho := ho.up B B.size
      replace hg := hg.up B B.size
      replace hb := hb.trans (B.mono hb.size)
      clear B
      clear qG qxg
      have hgu : W6.heap.size < W8.heap.size := bbg.lt
      go_wp2_with fail
      have bbu : Box (W8.alloc (.cells #[.int .i64 ku, .int .i64 nu, .string su, .slice au mu cu] 25)) W8.heap.size #[.int .i64 ku, .int .i64 nu, .string su, .slice au mu cu] 25 := Box.at rfl
      have B := below_a1 (Nat.le_refl W8.heap.size) (.cells #[.int .i64 ku, .int .i64 nu, .string su, .slice au mu cu] 25)
      replace bbx := Box.keep B bbx
      replace bby := Box.keep B bby
      replace bbg := Box.keep B bbg
      replace hx := hx.up B B.size
      replace hy := hy.up B B.size
      replace hp := hp.up B B.size
      replace hl := hl.up B B.size
      replace ho := ho.up B B.size
      replace hg := hg.up B B.size
      replace hu := hu.up B B.size
      replace hb := hb.trans (B.mono hb.size)
      clear B
      generalize (W8.alloc (.cells #[.int .i64 ku, .int .i64 nu, .string su, .slice au mu cu] 25)) = V9 at *
      refine (sameP L _ _ _ hl ho).mono ?_
      rintro e W10 ⟨rfl, B⟩
      replace bbx := Box.keep B bbx
      replace bby := Box.keep B bby
      replace bbg := Box.keep B bbg
      replace bbu := Box.keep B bbu
      replace hx := hx.up B B.size
      replace hy := hy.up B B.size
      replace hp := hp.up B B.size
      replace hl := hl.up B B.size
      replace ho := ho.up B B.size
      replace hg := hg.up B B.size
      replace hu := hu.up B B.size
      replace hb := hb.trans (B.mono hb.size)
      clear B
      clear hl ho
      have qg0 := bbg.cell 0
      have qg1 := bbg.cell 1
      have qg2 := bbg.cell 2
      have qg3 := bbg.cell 3
      have qu0 := bbu.cell 0
      have qu1 := bbu.cell 1
      have qu2 := bbu.cell 2
      have qu3 := bbu.cell 3
      have lg := bbg.lt
      have lu := bbu.lt
      simp only [List.getElem?_toArray, List.getElem?_cons_succ, List.getElem?_cons_zero] at qg0 qg1 qg2 qg3 qu0 qu1 qu2 qu3
      go_wp2_with fail
      clear qg0 qg1 qg2 qg3 qu0 qu1 qu2 qu3 lg lu
      refine (samed' G _ _ _ hg hu).mono ?_
      rintro e W11 ⟨rfl, B⟩
      replace bbx := Box.keep B bbx
      replace bby := Box.keep B bby
      replace bbg := Box.keep B bbg
      replace bbu := Box.keep B bbu
      replace hx := hx.up B B.size
      replace hy := hy.up B B.size
      replace hp := hp.up B B.size
      replace hg := hg.up B B.size
      replace hu := hu.up B B.size
      replace hb := hb.trans (B.mono hb.size)
      clear B
      clear hg hu
      have hgl : W6.heap.size < W11.heap.size := bbg.lt
      have hul : W8.heap.size < W11.heap.size := bbu.lt
      have qx0 := bbx.cell 0
      have qx1 := bbx.cell 1
      have qx2 := bbx.cell 2
      have qx3 := bbx.cell 3
      have qy0 := bby.cell 0
      have qy1 := bby.cell 1
      have qy2 := bby.cell 2
      have qy3 := bby.cell 3
      have lx := bbx.lt
      have ly := bby.lt
      simp only [List.getElem?_toArray, List.getElem?_cons_succ, List.getElem?_cons_zero] at qx0 qx1 qx2 qx3 qy0 qy1 qy2 qy3
      go_wp2_with fail
      clear qx0 qx1 qx2 qx3 qy0 qy1 qy2 qy3 lx ly
      refine ((Put_any X Y p _ _ _ _ hx hy hp.rd (Nat.le_trans HZ.out.1 (by decide)) (Nat.le_trans HZ.out.2.1 (by decide)) (Nat.le_trans HZ.out.2.2.1 (by decide)) (Nat.le_trans HZ.out.2.2.2 (by decide))).mono (fun _ _ h => TfQ.tq (n₀ := w.heap.size) h qV.out qxv.out)).mono ?_
      rintro e W12 ⟨kv, nv, sv, av, mv, cv, rfl, hv, B⟩
      replace bbx := Box.keep B bbx
      replace bby := Box.keep B bby
      replace bbg := Box.keep B bbg
      replace bbu := Box.keep B bbu
      replace hx := hx.up B B.size
      replace hy := hy.up B B.size
      replace hp := hp.up B B.size
      replace hb := hb.trans (B.mono hb.size)
      clear B
      have zz := bbg.four (.int .i64 kv) (.int .i64 nv) (.string sv) (.slice av mv cv)
      have zx : Box ((((W12.setCell ⟨W6.heap.size, 0, none⟩ (.int .i64 kv)).setCell ⟨W6.heap.size, 1, none⟩ (.int .i64 nv)).setCell ⟨W6.heap.size, 2, none⟩ (.string sv)).setCell ⟨W6.heap.size, 3, none⟩ (.slice av mv cv)) (w.heap.size) #[.int .i64 kx, .int .i64 nx, .string sx, .slice ax mx cx] 25 := (heap_four (by omega) (.int .i64 kv) (.int .i64 nv) (.string sv) (.slice av mv cv)).trans bbx
      have zy : Box ((((W12.setCell ⟨W6.heap.size, 0, none⟩ (.int .i64 kv)).setCell ⟨W6.heap.size, 1, none⟩ (.int .i64 nv)).setCell ⟨W6.heap.size, 2, none⟩ (.string sv)).setCell ⟨W6.heap.size, 3, none⟩ (.slice av mv cv)) (w.heap.size + 1) #[.int .i64 ky, .int .i64 ny, .string sy, .slice ay my cy] 25 := (heap_four (by omega) (.int .i64 kv) (.int .i64 nv) (.string sv) (.slice av mv cv)).trans bby
      have zu : Box ((((W12.setCell ⟨W6.heap.size, 0, none⟩ (.int .i64 kv)).setCell ⟨W6.heap.size, 1, none⟩ (.int .i64 nv)).setCell ⟨W6.heap.size, 2, none⟩ (.string sv)).setCell ⟨W6.heap.size, 3, none⟩ (.slice av mv cv)) (W8.heap.size) #[.int .i64 ku, .int .i64 nu, .string su, .slice au mu cu] 25 := (heap_four (by omega) (.int .i64 kv) (.int .i64 nv) (.string sv) (.slice av mv cv)).trans bbu
      have zb := below_four hb (B := W6.heap.size) (by omega) (.int .i64 kv) (.int .i64 nv) (.string sv) (.slice av mv cv)
      have zn := hv.four (B := W6.heap.size) (by omega) (by omega) (.int .i64 kv) (.int .i64 nv) (.string sv) (.slice av mv cv)
      have u0 := bbg.cell 0
      have u1 := bbg.cell 1
      have u2 := bbg.cell 2
      have u3 := bbg.cell 3
      have g0 := bbg.frozen 0
      have g1 := bbg.frozen 1
      have g2 := bbg.frozen 2
      have g3 := bbg.frozen 3
      have lu := bbg.lt
      simp only [List.getElem?_toArray, List.getElem?_cons_succ, List.getElem?_cons_zero] at u0 u1 u2 u3
      have qx0 := zx.cell 0
      have qx1 := zx.cell 1
      have qx2 := zx.cell 2
      have qx3 := zx.cell 3
      have qy0 := zy.cell 0
      have qy1 := zy.cell 1
      have qy2 := zy.cell 2
      have qy3 := zy.cell 3
      simp only [List.getElem?_toArray, List.getElem?_cons_succ, List.getElem?_cons_zero] at qx0 qx1 qx2 qx3 qy0 qy1 qy2 qy3
      have lx := zx.lt
      have ly := zy.lt
      have HR := Lib.hid (And.intro zz (And.intro zx (And.intro zy (And.intro zu (And.intro zb zn)))))
      clear zz zx zy zu zb zn hb hv bbx bby bbg bbu hx hy hp
      go_wp2_with fail
      clear u0 u1 u2 u3 g0 g1 g2 g3 lu qx0 qx1 qx2 qx3 qy0 qy1 qy2 qy3 lx ly
      obtain ⟨zz, zx, zy, zu, zb, zn⟩ := HR.out
      clear HR
      have HNv := Lib.hid zn
      clear zn
      generalize ((((W12.setCell ⟨W6.heap.size, 0, none⟩ (.int .i64 kv)).setCell ⟨W6.heap.size, 1, none⟩ (.int .i64 nv)).setCell ⟨W6.heap.size, 2, none⟩ (.string sv)).setCell ⟨W6.heap.size, 3, none⟩ (.slice av mv cv)) = V13 at *
      have bbg : Box V13 (W6.heap.size) #[.int .i64 kv, .int .i64 nv, .string sv, .slice av mv cv] 25 := by simpa using zz
      clear zz
      have bbx := zx
      clear zx
      have bby := zy
      clear zy
      have bbu := zu
      clear zu
      have hb := zb
      clear zb
      have hx := (H0.out.1.below hb).mono hb.size
      have hy := (H0.out.2.1.below hb).mono hb.size
      have hul2 : W8.heap.size < V13.heap.size := bbu.lt
      refine ((refPut_any w.heap.size X Y p _ _ a c _ hb.size (H0.out.1.below hb) (H0.out.2.1.below hb) (H0.out.2.2.keep hb (Nat.le_refl _)) (Nat.le_trans HZ.out.1 (by decide)) (Nat.le_trans HZ.out.2.1 (by decide)) (Nat.le_trans HZ.out.2.2.1 (by decide)) (Nat.le_trans HZ.out.2.2.2 (by decide))).mono (fun _ _ h => TfQ.tp h qV.out qxv.out)).mono ?_
      rintro e W14 ⟨kr, nr, sr, ar, mr, cr, rfl, hr, B⟩
      replace bbx := Box.keep B bbx
      replace bby := Box.keep B bby
      replace bbg := Box.keep B bbg
      replace bbu := Box.keep B bbu
      replace hx := hx.up B B.size
      replace hy := hy.up B B.size
      replace HNv := Lib.hid (HNv.out.keep B)
      replace hb := hb.trans (B.mono hb.size)
      clear B
      clear qV qxv
      have zz := bbu.four (.int .i64 kr) (.int .i64 nr) (.string sr) (.slice ar mr cr)
      have zx : Box ((((W14.setCell ⟨W8.heap.size, 0, none⟩ (.int .i64 kr)).setCell ⟨W8.heap.size, 1, none⟩ (.int .i64 nr)).setCell ⟨W8.heap.size, 2, none⟩ (.string sr)).setCell ⟨W8.heap.size, 3, none⟩ (.slice ar mr cr)) (w.heap.size) #[.int .i64 kx, .int .i64 nx, .string sx, .slice ax mx cx] 25 := (heap_four (by omega) (.int .i64 kr) (.int .i64 nr) (.string sr) (.slice ar mr cr)).trans bbx
      have zy : Box ((((W14.setCell ⟨W8.heap.size, 0, none⟩ (.int .i64 kr)).setCell ⟨W8.heap.size, 1, none⟩ (.int .i64 nr)).setCell ⟨W8.heap.size, 2, none⟩ (.string sr)).setCell ⟨W8.heap.size, 3, none⟩ (.slice ar mr cr)) (w.heap.size + 1) #[.int .i64 ky, .int .i64 ny, .string sy, .slice ay my cy] 25 := (heap_four (by omega) (.int .i64 kr) (.int .i64 nr) (.string sr) (.slice ar mr cr)).trans bby
      have zg : Box ((((W14.setCell ⟨W8.heap.size, 0, none⟩ (.int .i64 kr)).setCell ⟨W8.heap.size, 1, none⟩ (.int .i64 nr)).setCell ⟨W8.heap.size, 2, none⟩ (.string sr)).setCell ⟨W8.heap.size, 3, none⟩ (.slice ar mr cr)) (W6.heap.size) #[.int .i64 kv, .int .i64 nv, .string sv, .slice av mv cv] 25 := (heap_four (by omega) (.int .i64 kr) (.int .i64 nr) (.string sr) (.slice ar mr cr)).trans bbg
      have zb := below_four hb (B := W8.heap.size) (by omega) (.int .i64 kr) (.int .i64 nr) (.string sr) (.slice ar mr cr)
      have zn := hr.four (B := W8.heap.size) (by omega) (by omega) (.int .i64 kr) (.int .i64 nr) (.string sr) (.slice ar mr cr)
      have zHNv := HNv.out.four (B := W8.heap.size) (by omega) (by omega) (.int .i64 kr) (.int .i64 nr) (.string sr) (.slice ar mr cr)
      have u0 := bbu.cell 0
      have u1 := bbu.cell 1
      have u2 := bbu.cell 2
      have u3 := bbu.cell 3
      have g0 := bbu.frozen 0
      have g1 := bbu.frozen 1
      have g2 := bbu.frozen 2
      have g3 := bbu.frozen 3
      have lu := bbu.lt
      simp only [List.getElem?_toArray, List.getElem?_cons_succ, List.getElem?_cons_zero] at u0 u1 u2 u3
      have qx0 := zx.cell 0
      have qx1 := zx.cell 1
      have qx2 := zx.cell 2
      have qx3 := zx.cell 3
      have qy0 := zy.cell 0
      have qy1 := zy.cell 1
      have qy2 := zy.cell 2
      have qy3 := zy.cell 3
      simp only [List.getElem?_toArray, List.getElem?_cons_succ, List.getElem?_cons_zero] at qx0 qx1 qx2 qx3 qy0 qy1 qy2 qy3
      have lx := zx.lt
      have ly := zy.lt
      have HR := Lib.hid (And.intro zz (And.intro zx (And.intro zy (And.intro zg (And.intro zb (And.intro zn zHNv))))))
      clear zz zx zy zg zb zn zHNv hb hr bbx bby bbg bbu hx hy
      go_wp2_with fail
      clear u0 u1 u2 u3 g0 g1 g2 g3 lu qx0 qx1 qx2 qx3 qy0 qy1 qy2 qy3 lx ly
      obtain ⟨zz, zx, zy, zg, zb, zn, zHNv⟩ := HR.out
      clear HR
      replace HNv := Lib.hid zHNv
      clear zHNv
      have HNr := Lib.hid zn
      clear zn
      generalize ((((W14.setCell ⟨W8.heap.size, 0, none⟩ (.int .i64 kr)).setCell ⟨W8.heap.size, 1, none⟩ (.int .i64 nr)).setCell ⟨W8.heap.size, 2, none⟩ (.string sr)).setCell ⟨W8.heap.size, 3, none⟩ (.slice ar mr cr)) = V15 at *
      have bbu : Box V15 (W8.heap.size) #[.int .i64 kr, .int .i64 nr, .string sr, .slice ar mr cr] 25 := by simpa using zz
      clear zz
      have bbx := zx
      clear zx
      have bby := zy
      clear zy
      have bbg := zg
      clear zg
      have hb := zb
      clear zb
      have hx := (H0.out.1.below hb).mono hb.size
      have hy := (H0.out.2.1.below hb).mono hb.size
      refine ((Inside_any X Y _ _ _ hx hy (Nat.le_trans HZ.out.2.1 (by decide)) (Nat.le_trans HZ.out.2.2.2 (by decide))).mono (fun _ _ h => IqQ.of h qJ.out qjb.out qxj.out)).mono ?_
      rintro e W16 ⟨aj, mj, cj, rfl, hj, B⟩
      replace bbx := Box.keep B bbx
      replace bby := Box.keep B bby
      replace bbg := Box.keep B bbg
      replace bbu := Box.keep B bbu
      replace hx := hx.up B B.size
      replace hy := hy.up B B.size
      replace HNv := Lib.hid (HNv.out.keep B)
      replace HNr := Lib.hid (HNr.out.keep B)
      replace hb := hb.trans (B.mono hb.size)
      clear B
      have qx0 := bbx.cell 0
      have qx1 := bbx.cell 1
      have qx2 := bbx.cell 2
      have qx3 := bbx.cell 3
      have qy0 := bby.cell 0
      have qy1 := bby.cell 1
      have qy2 := bby.cell 2
      have qy3 := bby.cell 3
      have lx := bbx.lt
      have ly := bby.lt
      simp only [List.getElem?_toArray, List.getElem?_cons_succ, List.getElem?_cons_zero] at qx0 qx1 qx2 qx3 qy0 qy1 qy2 qy3
      go_wp2_with fail
      clear qx0 qx1 qx2 qx3 qy0 qy1 qy2 qy3 lx ly
      refine ((refInside_any X Y _ _ _ hx hy (Nat.le_trans HZ.out.1 (by decide)) (Nat.le_trans HZ.out.2.1 (by decide)) (Nat.le_trans HZ.out.2.2.1 (by decide)) (Nat.le_trans HZ.out.2.2.2 (by decide))).mono (fun _ _ h => IqQ.of h qJ.out qjb.out qxj.out)).mono ?_
      rintro e W17 ⟨ai, mi, ci, rfl, hi, B⟩
      replace bbx := Box.keep B bbx
      replace bby := Box.keep B bby
      replace bbg := Box.keep B bbg
      replace bbu := Box.keep B bbu
      replace hx := hx.up B B.size
      replace hy := hy.up B B.size
      replace hj := hj.up B B.size
      replace HNv := Lib.hid (HNv.out.keep B)
      replace HNr := Lib.hid (HNr.out.keep B)
      replace hb := hb.trans (B.mono hb.size)
      clear B
      clear qJ qjb qxj
      have qg0 := bbg.cell 0
      have qg1 := bbg.cell 1
      have qg2 := bbg.cell 2
      have qg3 := bbg.cell 3
      have qu0 := bbu.cell 0
      have qu1 := bbu.cell 1
      have qu2 := bbu.cell 2
      have qu3 := bbu.cell 3
      have lg := bbg.lt
      have lu := bbu.lt
      simp only [List.getElem?_toArray, List.getElem?_cons_succ, List.getElem?_cons_zero] at qg0 qg1 qg2 qg3 qu0 qu1 qu2 qu3
      go_wp2_with fail
      clear qg0 qg1 qg2 qg3 qu0 qu1 qu2 qu3 lg lu
      refine (samed' V _ _ _ HNv.out.toT HNr.out.toT).mono ?_
      rintro e W18 ⟨rfl, B⟩
      replace bbx := Box.keep B bbx
      replace bby := Box.keep B bby
      replace bbg := Box.keep B bbg
      replace bbu := Box.keep B bbu
      replace hx := hx.up B B.size
      replace hy := hy.up B B.size
      replace hj := hj.up B B.size
      replace hi := hi.up B B.size
      replace HNv := Lib.hid (HNv.out.keep B)
      replace HNr := Lib.hid (HNr.out.keep B)
      replace hb := hb.trans (B.mono hb.size)
      clear B
      go_wp2_with fail
      refine (sameN J _ _ _ hj hi).mono ?_
      rintro e W19 ⟨rfl, B⟩
      replace bbx := Box.keep B bbx
      replace bby := Box.keep B bby
      replace bbg := Box.keep B bbg
      replace bbu := Box.keep B bbu
      replace hx := hx.up B B.size
      replace hy := hy.up B B.size
      replace hj := hj.up B B.size
      replace hi := hi.up B B.size
      replace HNv := Lib.hid (HNv.out.keep B)
      replace HNr := Lib.hid (HNr.out.keep B)
      replace hb := hb.trans (B.mono hb.size)
      clear B
      go_wp2_with fail
      go_ret
      exact ⟨rfl, hb⟩
end Go.Proofs.YtdigiaigbcfccaaDoor
