/- The second reading of Inside. -/
import Derived.Deep.RegionWith
import Derived.Test.YtdigiaigbcfccaaDoorRefPaths
import Derived.Test.YtdigiaigbcfccaaDoorRefPut
namespace Go.Proofs.YtdigiaigbcfccaaDoor
open Go.RowKit Go

/-- The first place at which a tree stands within another one. -/
noncomputable def insF (X Y : Tr) : Option (List Int) := ((plcT [] X).find? (fun x => eqT Y x.2)).map Prod.fst
theorem find_at {α : Type} {q : α → Bool} : ∀ {l : List α} {j : Nat} (hj : j < l.length), (∀ i (hi : i < l.length), i < j → q l[i] = false) → q l[j] = true → l.find? q = some l[j]
  | [], _, hj, _, _ => by simp at hj
  | x :: l, 0, _, _, h2 => by simp only [List.getElem_cons_zero] at h2; rw [List.find?_cons_of_pos h2]; rfl
  | x :: l, j + 1, hj, h1, h2 => by
    have h0 := h1 0 (by simp) (by omega)
    simp only [List.getElem_cons_zero] at h0
    rw [List.find?_cons_of_neg (by simp [h0])]
    exact find_at (by simpa using hj) (fun i hi hij => h1 (i + 1) (by simpa using hi) (by omega)) (by simpa using h2)
theorem find_no {α : Type} {q : α → Bool} {l : List α} (h : ∀ i (hi : i < l.length), q l[i] = false) : l.find? q = none := by
  rw [List.find?_eq_none]
  intro x hx
  obtain ⟨i, hi, rfl⟩ := List.mem_iff_getElem.1 hx
  simp [h i hi]
/-- What Inside hands back. -/
def InPost (X Y : Tr) (w : World) (e : Ending) (w' : World) : Prop := Below w.heap.size w w' ∧ match isB X && isB Y with
  | false => e = .returned (.tuple #[.slice none 0 0, .bool false, .int .i64 3])
  | true => match insF X Y with
    | none => e = .returned (.tuple #[.slice none 0 0, .bool false, .int .i64 0])
    | some p => ∃ v, e = .returned (.tuple #[v, .bool true, .int .i64 0]) ∧ RdN w'.heap.size w' p v
theorem InPost.no {X Y : Tr} {w w' : World} (h : (isB X && isB Y) = false) (hB : Below w.heap.size w w') : InPost X Y w (.returned (.tuple #[.slice none 0 0, .bool false, .int .i64 3])) w' := ⟨hB, by rw [h]⟩
theorem InPost.none {X Y : Tr} {w w' : World} (h : (isB X && isB Y) = true) (hn : insF X Y = none) (hB : Below w.heap.size w w') : InPost X Y w (.returned (.tuple #[.slice none 0 0, .bool false, .int .i64 0])) w' := ⟨hB, by rw [h, hn]⟩
theorem InPost.some {X Y : Tr} {w w' : World} {p : List Int} {v : Value} (h : (isB X && isB Y) = true) (hn : insF X Y = some p) (hv : RdN w'.heap.size w' p v) (hB : Below w.heap.size w w') : InPost X Y w (.returned (.tuple #[v, .bool true, .int .i64 0])) w' := ⟨hB, by rw [h, hn]; exact ⟨v, rfl, hv⟩⟩
theorem below_drw {n : Nat} {A : World} (B : World) (h : Below n A B) : Below n A B.drew := ⟨h.os, h.tape, h.output, h.size, fun k hk => h.block k hk⟩
theorem box_new {W W' : World} {cs : Array Value} {t : TypeId} (hB : Below (W.alloc (.cells cs t)).drew.heap.size (W.alloc (.cells cs t)).drew W') : Box W' W.heap.size cs t := Box.keep hB (show Box (W.alloc (.cells cs t)).drew W.heap.size cs t from Box.at (W := W) rfl)
/-- Between two rounds of Inside. -/
structure RiAt (X Y : Tr) (w w0 : World) (xs ys : Array Value) (j : Nat) (wr : World) : Prop where
  bx : Box wr w.heap.size xs 25
  by' : Box wr (w.heap.size + 1) ys 25
  below : Below w0.heap.size w0 wr
  none : ∀ i (hi : i < (plcT [] X).length), i < j → eqT Y (plcT [] X)[i].2 = false

set_option maxRecDepth 100000 in
set_option maxHeartbeats 4000000 in
theorem refInside_any (X Y : Tr) (v u : Value) (w : World) (hx : IsT w.heap.size w X v) (hy : IsT w.heap.size w Y u) (hsx : X.size ≤ 1000000) (hdx : X.deep ≤ 1000000) (hsy : Y.size ≤ 1000000) (hdy : Y.deep ≤ 1000000) :
    Calls Tryd.prog 35 #[v, u] w (InPost X Y w) := by
  have hsx2 : X.size ≤ 1000000000 := by omega
  have hdx2 : X.deep ≤ 1000000000 := by omega
  have hsy2 : Y.size ≤ 1000000000 := by omega
  have hdy2 : Y.deep ≤ 1000000000 := by omega
  obtain ⟨kx, nx, sx, ax, mx, cx, rfl⟩ := (IsT.toP _ _ hx).form
  obtain ⟨ky, ny, sy, ay, my, cy, rfl⟩ := (IsT.toP _ _ hy).form
  have bbx : Box ((w.alloc (.cells #[.int .i64 kx, .int .i64 nx, .string sx, .slice ax mx cx] 25)).alloc (.cells #[.int .i64 ky, .int .i64 ny, .string sy, .slice ay my cy] 25)) w.heap.size #[.int .i64 kx, .int .i64 nx, .string sx, .slice ax mx cx] 25 := (Box.at rfl).alloc _
  have bby : Box ((w.alloc (.cells #[.int .i64 kx, .int .i64 nx, .string sx, .slice ax mx cx] 25)).alloc (.cells #[.int .i64 ky, .int .i64 ny, .string sy, .slice ay my cy] 25)) (w.heap.size + 1) #[.int .i64 ky, .int .i64 ny, .string sy, .slice ay my cy] 25 := Box.at (by simp)
  have hb := below_a2 (Nat.le_refl w.heap.size) (.cells #[.int .i64 kx, .int .i64 nx, .string sx, .slice ax mx cx] 25) (.cells #[.int .i64 ky, .int .i64 ny, .string sy, .slice ay my cy] 25)
  replace hx := hx.up hb hb.size
  replace hy := hy.up hb hb.size
  go_enter Tryd.func35, Tryd.ntmps35
  have qx0 := bbx.cell 0
  have qx1 := bbx.cell 1
  have qx2 := bbx.cell 2
  have qx3 := bbx.cell 3
  have lx := bbx.lt
  simp only [List.getElem?_toArray, List.getElem?_cons_succ, List.getElem?_cons_zero] at qx0 qx1 qx2 qx3
  go_wp2_with fail
  clear qx0 qx1 qx2 qx3 lx
  refine (refCheck_any X _ _ hx hsx2 hdx2).mono ?_
  rintro e W1 ⟨rfl, B⟩
  replace bbx := Box.keep B bbx
  replace bby := Box.keep B bby
  replace hx := hx.up B B.size
  replace hy := hy.up B B.size
  replace hb := hb.trans (B.mono hb.size)
  clear B
  cases hr : isB X with
  | false =>
    have HV : Hid ((isB X && isB Y) = false) := by rw [Hid, hr]; rfl
    clear hr
    rw [show errI false = 3 from rfl]
    go_wp2_with fail
    exact bodyPost_ret (v := .tuple #[.slice none 0 0, .bool false, .int .i64 3]) (by simp [results, Tryd.results35, go_sem]) rfl (InPost.no HV.out hb)
  | true =>
    have HRX := Lib.hid hr
    clear hr
    rw [show errI true = 0 from rfl]
    have qy0 := bby.cell 0
    have qy1 := bby.cell 1
    have qy2 := bby.cell 2
    have qy3 := bby.cell 3
    have ly := bby.lt
    simp only [List.getElem?_toArray, List.getElem?_cons_succ, List.getElem?_cons_zero] at qy0 qy1 qy2 qy3
    go_wp2_with fail
    clear qy0 qy1 qy2 qy3 ly
    refine (refCheck_any Y _ _ hy hsy2 hdy2).mono ?_
    rintro e W2 ⟨rfl, B⟩
    replace bbx := Box.keep B bbx
    replace bby := Box.keep B bby
    replace hx := hx.up B B.size
    replace hy := hy.up B B.size
    replace hb := hb.trans (B.mono hb.size)
    clear B
    cases hr : isB Y with
    | false =>
      have HV : Hid ((isB X && isB Y) = false) := by rw [Hid, HRX.out, hr]; rfl
      clear hr
      rw [show errI false = 3 from rfl]
      go_wp2_with fail
      exact bodyPost_ret (v := .tuple #[.slice none 0 0, .bool false, .int .i64 3]) (by simp [results, Tryd.results35, go_sem]) rfl (InPost.no HV.out hb)
    | true =>
      have HV : Hid ((isB X && isB Y) = true) := by rw [Hid, HRX.out, hr]; rfl
      clear hr HRX
      rw [show errI true = 0 from rfl]
      have hpl := refPlaces_any X [] _ (.slice none 0 0) W2 hx ⟨none, 0, rfl, by decide, fun h => by simp at h⟩ (by simpa using hsx)
      have HPL := Lib.hid hpl
      have qx0 := bbx.cell 0
      have qx1 := bbx.cell 1
      have qx2 := bbx.cell 2
      have qx3 := bbx.cell 3
      have lx := bbx.lt
      simp only [List.getElem?_toArray, List.getElem?_cons_succ, List.getElem?_cons_zero] at qx0 qx1 qx2 qx3
      clear hpl
      go_wp2_with fail
      clear qx0 qx1 qx2 qx3 lx
      refine HPL.out.mono ?_
      rintro e W3 ⟨o, rfl, hN, B⟩
      replace bbx := Box.keep B bbx
      replace bby := Box.keep B bby
      replace hx := hx.up B B.size
      replace hy := hy.up B B.size
      replace hb := hb.trans (B.mono hb.size)
      clear B HPL
      have hrd := hN.rd
      obtain ⟨oa, oc, rfl, hom, hoc⟩ := hrd
      have hlen : (pfs (plcT [] X)).length = (plcT [] X).length := by rw [pfs, List.length_map]
      replace hoc : 0 < (plcT [] X).length → ∃ b off, oa = some ⟨b, off, none⟩ ∧ b < W3.heap.size ∧ ∀ i (hi : i < (plcT [] X).length), ∃ u, W3.cell? ⟨b, off + i, none⟩ = some u ∧ RdN W3.heap.size W3 (plcT [] X)[i].1 u := fun h0 => by
        obtain ⟨b, off, h1, h2, h3⟩ := hoc (by rw [hlen]; exact h0)
        refine ⟨b, off, h1, h2, fun i hi => ?_⟩
        obtain ⟨u, h4, h5⟩ := h3 i (by rw [hlen]; exact hi)
        exact ⟨u, h4, by simpa [pfs] using h5⟩
      rw [hlen] at hom ⊢
      have hls := plcT_length X []
      have HO := Lib.hid (And.intro hoc (And.intro hx hy))
      have hom2 : (plcT [] X).length ≤ 9223372036854775807 := by unfold maxLen at hom; omega
      have hI0 : RiAt X Y w W3 #[.int .i64 kx, .int .i64 nx, .string sx, .slice ax mx cx] #[.int .i64 ky, .int .i64 ny, .string sy, .slice ay my cy] 0 W3 := ⟨bbx, bby, Below.refl _ _, fun i _ h => absurd h (Nat.not_lt_zero _)⟩
      have HI0 := Lib.hid hI0
      have HB := Lib.hid hb
      have hws := hb.size
      clear hN hoc hx hy hI0 bbx bby hlen hb
      go_wp2_with fail
      go_loopw [8] (fun iv wr => ∃ j : Nat, j ≤ (plcT [] X).length ∧ iv = .int .i64 j ∧ RiAt X Y w W3 #[.int .i64 kx, .int .i64 nx, .string sx, .slice ax mx cx] #[.int .i64 ky, .int .i64 ny, .string sy, .slice ay my cy] j wr) (fun iv _ => (plcT [] X).length - (intOf iv).toNat)
      case atStart => exact ⟨0, Nat.zero_le _, by go_num, HI0.out⟩
      case round =>
        obtain ⟨j, hj, rfl, hA⟩ := hrel
        have HA := Lib.hid hA
        clear hA
        by_cases hlt : j < (plcT [] X).length
        · obtain ⟨g, go', rfl, hg, hcs⟩ := HO.out.1 (by omega)
          obtain ⟨pu, hpc, hpr⟩ := hcs j hlt
          obtain ⟨r, hr1, hnd⟩ := plc_node X [] (plcT [] X)[j] (List.getElem_mem hlt)
          rw [List.nil_append] at hr1
          rw [← hr1] at hnd
          have hbl := HA.out.below
          have hsw := hbl.size
          have hrow := (hbl.cell (p := ⟨g, go' + j, none⟩) hg).trans hpc
          have hgw : g < wr.heap.size := by omega
          have hcall : ∀ W', Below wr.heap.size wr W' → Calls Tryd.prog 88 #[.agg #[.int .i64 kx, .int .i64 nx, .string sx, .slice ax mx cx], pu] W' (NdPost W3.heap.size (plcT [] X)[j].1 X W') := fun W' hW' =>
            refNodeAt_any W3.heap.size X _ _ pu W' (Nat.le_trans hsw hW'.size) (HO.out.2.1.below (hbl.trans (hW'.mono hsw))) (hpr.up (hbl.trans (hW'.mono hsw)) (Nat.le_trans hsw hW'.size))
          have HC := Lib.hid hcall
          have HND := Lib.hid hnd
          have HPR := Lib.hid hpr
          have bx := HA.out.bx
          have qx0 := bx.cell 0
          have qx1 := bx.cell 1
          have qx2 := bx.cell 2
          have qx3 := bx.cell 3
          have lx := bx.lt
          simp only [List.getElem?_toArray, List.getElem?_cons_succ, List.getElem?_cons_zero] at qx0 qx1 qx2 qx3
          clear hcs hpc hr1 hnd hpr hcall bx hbl
          go_wp2_with fail
          go_region_with (go_at_call 88; refine (HC.out _ ?_).mono ?_; (first | exact below_drw _ (Below.refl _ _) | exact below_drw _ (below_a1 (Nat.le_refl _) _) | exact Below.refl _ _ | exact below_a1 (Nat.le_refl _) _); rintro e W4 ⟨yk, yn, ys, ya, ym, yc, rfl, hY, hB4⟩; try (have z := box_new (W := wr) (cs := #[.int .i64 0, .int .i64 0, .string ⟨#[]⟩, .slice none 0 0]) (t := 25) hB4; have z0 := z.cell 0; have z1 := z.cell 1; have z2 := z.cell 2; have z3 := z.cell 3; have g0 := z.frozen 0; have g1 := z.frozen 1; have g2 := z.frozen 2; have g3 := z.frozen 3; have lz := z.lt; simp only [List.getElem?_toArray, List.getElem?_cons_succ, List.getElem?_cons_zero] at z0 z1 z2 z3))
          all_goals first
            | (have zz := z.four (.int .i64 yk) (.int .i64 yn) (.string ys) (.slice ya ym yc)
               have hU : Below wr.heap.size wr ((((W4.setCell ⟨wr.heap.size, 0, none⟩ (.int .i64 yk)).setCell ⟨wr.heap.size, 1, none⟩ (.int .i64 yn)).setCell ⟨wr.heap.size, 2, none⟩ (.string ys)).setCell ⟨wr.heap.size, 3, none⟩ (.slice ya ym yc)) := below_four ((below_drw _ (below_a1 (Nat.le_refl _) _)).trans (hB4.mono (by simp))) (Nat.le_refl _) (.int .i64 yk) (.int .i64 yn) (.string ys) (.slice ya ym yc)
               have hYU : IsT ((((W4.setCell ⟨wr.heap.size, 0, none⟩ (.int .i64 yk)).setCell ⟨wr.heap.size, 1, none⟩ (.int .i64 yn)).setCell ⟨wr.heap.size, 2, none⟩ (.string ys)).setCell ⟨wr.heap.size, 3, none⟩ (.slice ya ym yc)).heap.size ((((W4.setCell ⟨wr.heap.size, 0, none⟩ (.int .i64 yk)).setCell ⟨wr.heap.size, 1, none⟩ (.int .i64 yn)).setCell ⟨wr.heap.size, 2, none⟩ (.string ys)).setCell ⟨wr.heap.size, 3, none⟩ (.slice ya ym yc)) (plcT [] X)[j].2 (.agg #[.int .i64 yk, .int .i64 yn, .string ys, .slice ya ym yc]) := by
                 rw [HND.out] at hY
                 exact (hY.below (below_four (Below.refl _ _) hsw (.int .i64 yk) (.int .i64 yn) (.string ys) (.slice ya ym yc))).mono (by have := hB4.size; simp at this ⊢; omega)
               clear z z0 z1 z2 z3 g0 g1 g2 g3 lz hB4 hY HC HND
               generalize ((((W4.setCell ⟨wr.heap.size, 0, none⟩ (.int .i64 yk)).setCell ⟨wr.heap.size, 1, none⟩ (.int .i64 yn)).setCell ⟨wr.heap.size, 2, none⟩ (.string ys)).setCell ⟨wr.heap.size, 3, none⟩ (.slice ya ym yc)) = U at *
               have hsU := hU.size
               have hbl := HA.out.below.trans (hU.mono HA.out.below.size)
               have hyU := HO.out.2.2.up hbl (by omega)
               have by' := HA.out.by'.keep hU
               have bx' := HA.out.bx.keep hU
               have hpU := HPR.out.up hbl (by omega)
               have hrU := (hU.cell (p := ⟨g, go' + j, none⟩) hgw).trans hrow
               have HU := Lib.hid (And.intro bx' (And.intro by' (And.intro hbl (And.intro hpU hrU))))
               have qy0 := by'.cell 0
               have qy1 := by'.cell 1
               have qy2 := by'.cell 2
               have qy3 := by'.cell 3
               have ly := by'.lt
               have qz0 := zz.cell 0
               have qz1 := zz.cell 1
               have qz2 := zz.cell 2
               have qz3 := zz.cell 3
               have lzz := zz.lt
               simp only [List.getElem?_toArray, List.getElem?_cons_succ, List.getElem?_cons_zero] at qy0 qy1 qy2 qy3 qz0 qz1 qz2 qz3
               have hsm := refSame_any Y (plcT [] X)[j].2 _ _ U hyU hYU
               have HSM := Lib.hid hsm
               clear hsm hyU hYU by' bx' zz hpU hrU hbl hU hrow
               go_wp2_with fail
               clear qy0 qy1 qy2 qy3 qz0 qz1 qz2 qz3 ly lzz
               refine HSM.out.mono ?_
               rintro e W5 ⟨rfl, hB5⟩
               have hs5 := hB5.size
               obtain ⟨bx', by', hbl, hpU, hrU⟩ := HU.out
               have hbl5 := hbl.trans (hB5.mono hbl.size)
               have hR5 : RiAt X Y w W3 #[.int .i64 kx, .int .i64 nx, .string sx, .slice ax mx cx] #[.int .i64 ky, .int .i64 ny, .string sy, .slice ay my cy] j W5 := ⟨bx'.keep hB5, by'.keep hB5, hbl5, HA.out.none⟩
               have hr5 := (hB5.cell (p := ⟨g, go' + j, none⟩) (by omega : g < U.heap.size)).trans hrU
               have HP5 := Lib.hid (hpU.up hB5 hB5.size)
               have HR5 := Lib.hid hR5
               have hg5 : g < W5.heap.size := by omega
               clear HU HSM hR5 hpU hrU bx' by' hbl hbl5 hB5
               cases heq : eqT Y (plcT [] X)[j].2 with
               | true =>
                 have hf : insF X Y = some (plcT [] X)[j].1 := by
                   rw [insF, find_at hlt HR5.out.none heq]
                   rfl
                 have HF := Lib.hid hf
                 clear hf heq
                 go_wp2_with fail
                 exact bodyPost_ret (v := .tuple #[pu, .bool true, .int .i64 0]) (by simp [results, Tryd.results35, go_sem]) rfl (InPost.some HV.out HF.out HP5.out (HB.out.trans (HR5.out.below.mono hws)))
               | false =>
                 have hn : RiAt X Y w W3 #[.int .i64 kx, .int .i64 nx, .string sx, .slice ax mx cx] #[.int .i64 ky, .int .i64 ny, .string sy, .slice ay my cy] (j + 1) W5 := ⟨HR5.out.bx, HR5.out.by', HR5.out.below, fun i hi hij => by
                   by_cases e : i = j
                   · subst e; exact heq
                   · exact HR5.out.none i hi (by omega)⟩
                 have HN := Lib.hid hn
                 clear hn heq hr5
                 go_wp2_with fail
                 exact ⟨⟨j + 1, by omega, by go_num, HN.out⟩, by simp [intOf]; omega⟩)
            | (have zz : Box (W4.alloc (.cells #[.int .i64 yk, .int .i64 yn, .string ys, .slice ya ym yc] 25)) W4.heap.size #[.int .i64 yk, .int .i64 yn, .string ys, .slice ya ym yc] 25 := Box.at rfl
               have hU : Below wr.heap.size wr (W4.alloc (.cells #[.int .i64 yk, .int .i64 yn, .string ys, .slice ya ym yc] 25)) := ((below_drw _ (Below.refl _ _)).trans hB4).alloc hB4.size _
               have hYU : IsT (W4.alloc (.cells #[.int .i64 yk, .int .i64 yn, .string ys, .slice ya ym yc] 25)).heap.size (W4.alloc (.cells #[.int .i64 yk, .int .i64 yn, .string ys, .slice ya ym yc] 25)) (plcT [] X)[j].2 (.agg #[.int .i64 yk, .int .i64 yn, .string ys, .slice ya ym yc]) := by
                 rw [HND.out] at hY
                 exact hY.up (below_a1 (Nat.le_trans hsw hB4.size) _) (by have : wr.heap.size ≤ W4.heap.size := hB4.size; simp; omega)
               clear hB4 hY HC HND
               generalize (W4.alloc (.cells #[.int .i64 yk, .int .i64 yn, .string ys, .slice ya ym yc] 25)) = U at *
               have hsU := hU.size
               have hbl := HA.out.below.trans (hU.mono HA.out.below.size)
               have hyU := HO.out.2.2.up hbl (by omega)
               have by' := HA.out.by'.keep hU
               have bx' := HA.out.bx.keep hU
               have hpU := HPR.out.up hbl (by omega)
               have hrU := (hU.cell (p := ⟨g, go' + j, none⟩) hgw).trans hrow
               have HU := Lib.hid (And.intro bx' (And.intro by' (And.intro hbl (And.intro hpU hrU))))
               have qy0 := by'.cell 0
               have qy1 := by'.cell 1
               have qy2 := by'.cell 2
               have qy3 := by'.cell 3
               have ly := by'.lt
               have qz0 := zz.cell 0
               have qz1 := zz.cell 1
               have qz2 := zz.cell 2
               have qz3 := zz.cell 3
               have lzz := zz.lt
               simp only [List.getElem?_toArray, List.getElem?_cons_succ, List.getElem?_cons_zero] at qy0 qy1 qy2 qy3 qz0 qz1 qz2 qz3
               have hsm := refSame_any Y (plcT [] X)[j].2 _ _ U hyU hYU
               have HSM := Lib.hid hsm
               clear hsm hyU hYU by' bx' zz hpU hrU hbl hU hrow
               go_wp2_with fail
               clear qy0 qy1 qy2 qy3 qz0 qz1 qz2 qz3 ly lzz
               refine HSM.out.mono ?_
               rintro e W5 ⟨rfl, hB5⟩
               have hs5 := hB5.size
               obtain ⟨bx', by', hbl, hpU, hrU⟩ := HU.out
               have hbl5 := hbl.trans (hB5.mono hbl.size)
               have hR5 : RiAt X Y w W3 #[.int .i64 kx, .int .i64 nx, .string sx, .slice ax mx cx] #[.int .i64 ky, .int .i64 ny, .string sy, .slice ay my cy] j W5 := ⟨bx'.keep hB5, by'.keep hB5, hbl5, HA.out.none⟩
               have hr5 := (hB5.cell (p := ⟨g, go' + j, none⟩) (by omega : g < U.heap.size)).trans hrU
               have HP5 := Lib.hid (hpU.up hB5 hB5.size)
               have HR5 := Lib.hid hR5
               have hg5 : g < W5.heap.size := by omega
               clear HU HSM hR5 hpU hrU bx' by' hbl hbl5 hB5
               cases heq : eqT Y (plcT [] X)[j].2 with
               | true =>
                 have hf : insF X Y = some (plcT [] X)[j].1 := by
                   rw [insF, find_at hlt HR5.out.none heq]
                   rfl
                 have HF := Lib.hid hf
                 clear hf heq
                 go_wp2_with fail
                 exact bodyPost_ret (v := .tuple #[pu, .bool true, .int .i64 0]) (by simp [results, Tryd.results35, go_sem]) rfl (InPost.some HV.out HF.out HP5.out (HB.out.trans (HR5.out.below.mono hws)))
               | false =>
                 have hn : RiAt X Y w W3 #[.int .i64 kx, .int .i64 nx, .string sx, .slice ax mx cx] #[.int .i64 ky, .int .i64 ny, .string sy, .slice ay my cy] (j + 1) W5 := ⟨HR5.out.bx, HR5.out.by', HR5.out.below, fun i hi hij => by
                   by_cases e : i = j
                   · subst e; exact heq
                   · exact HR5.out.none i hi (by omega)⟩
                 have HN := Lib.hid hn
                 clear hn heq hr5
                 go_wp2_with fail
                 exact ⟨⟨j + 1, by omega, by go_num, HN.out⟩, by simp [intOf]; omega⟩)
        · obtain rfl : j = (plcT [] X).length := by omega
          have hf : insF X Y = none := by
            rw [insF, find_no (fun i hi => HA.out.none i hi hi)]
            rfl
          have HF := Lib.hid hf
          clear hf
          go_wp2_with fail
          exact bodyPost_ret (v := .tuple #[.slice none 0 0, .bool false, .int .i64 0]) (by simp [results, Tryd.results35, go_sem]) rfl (InPost.none HV.out HF.out (HB.out.trans (HA.out.below.mono hws)))
end Go.Proofs.YtdigiaigbcfccaaDoor

/- Inside: a range over the places that is left by a return. -/
namespace Go.Proofs.YtdigiaigbcfccaaDoor
open Go.RowKit Go Go.Shelf

attribute [local go_sem] Oper.semAt_some

/-- A range over places(t) whose second variable lies in a box of its own in each round. -/
theorem range_placesH {F : Fence} {n : Nat} (hF : Fence.wide = F) (hd : F.depth = none) (hf : ∀ f, F.fn f) (hro : F.round = none) (h1 : 2 ≤ n) {g : Operand} {ps : Array Tmp} {assign body : Code} {Q : Exit → Act → World → Prop} {a : Act} {w : World}
    (Bt n₀ : Nat) (T : Tr) (v : Value) (W₀ : World) (hg : a.eval g = .func (.func 123) #[] #[.pointer (some ⟨Bt, 0, none⟩)]) (hBt : Box w Bt v.cells 25) (hBW : Below n₀ W₀ w) (hn₀ : n₀ ≤ w.heap.size)
    (hT : IsT n₀ W₀ T v) (hdeep : T.deep ≤ 999999999) (hsz : T.size ≤ 1000000000) (hps : ps.size = 2)
    (I : (Nat → Prop) → List (Pl n₀ W₀) → World → Prop) (Ix : Code → (Nat → Prop) → List (Pl n₀ W₀) → World → Prop) (hI : Shut w.heap.size I) (hIx : ∀ c, Shut w.heap.size (Ix c)) (h0 : I (fun _ => False) [] w)
    (h : ∃ a₂ : Value → Value → Nat → Act, (∀ (l : Nat) (p : Nat → Prop) (pre : List (Pl n₀ W₀)) (x : Pl n₀ W₀) (W : World) (K : Act → World → Prop), I p pre W → Pl.V p x W → w.heap.size ≤ W.heap.size → (∀ b, p b → w.heap.size ≤ b ∧ b < W.heap.size) →
        (∀ Bx W', KeepsFrom w.heap.size W W' → KP n₀ p W W' → I p pre W' → Pl.V p x W' → Box W' Bx x.1.2.2.cells 25 → K (a₂ x.1.1.2 x.1.2.2 Bx) W') →
        assign.wpIn (F.inRound l) (n - 1 - 1) Tryd.prog (Exit.then K (fun _ _ _ => False)) { tmps := (ps.zip x.encs).foldl (fun t (p, v) => t.setIfInBounds p v) a.tmps, defers := [] } W) ∧
      (∀ (l : Nat) (p : Nat → Prop) (pre : List (Pl n₀ W₀)) (x : Pl n₀ W₀) (Bx : Nat) (W : World), I p pre W → Pl.V p x W → Box W Bx x.1.2.2.cells 25 → w.heap.size ≤ W.heap.size → (∀ b, p b → w.heap.size ≤ b ∧ b < W.heap.size) → pre.length < T.size →
        body.wpIn (F.inRound l) (n - 1 - 1) Tryd.prog (ownPostG w.heap.size (KP n₀ p) (I p) (fun c => Ix c p) (pre ++ [x]) W) (a₂ x.1.1.2 x.1.2.2 Bx) W) ∧
      (∀ (D : Nat) (p : Nat → Prop) (xs : List (Pl n₀ W₀)) (W : World), w.heap.size ≤ D → ¬ p D → xs.map Pl.fg = scanP [] (preT 1 T) → I p xs W → W.heap[D]? = some (.deferred (some [])) → Q .normal { a with defers := { target := .collected D, args := #[] } :: a.defers } W) ∧
      (∀ (D : Nat) (c : Code) (p : Nat → Prop) (pre : List (Pl n₀ W₀)) (W : World), w.heap.size ≤ D → ¬ p D → pre.map Pl.fg <+: scanP [] (preT 1 T) → Ix c p pre W → W.heap[D]? = some (.deferred (some [])) → c.wpIn F n Tryd.prog Q { a with defers := { target := .collected D, args := #[] } :: a.defers } W)) :
    (Code.rangeFunc g ps assign body).wpIn F n Tryd.prog Q a w := by
  obtain ⟨a₂, hA, hB, hD, hS⟩ := h
  exact wpIn_rangeFunc_priv hro (by omega) hg (hf _) (enters_of Tryd.func123 (by kernel_rfl) rfl) (places_priv hF hd hf hro (n - 1) (by omega) Bt n₀ T v W₀ w hBt hBW hn₀ hT hdeep hsz) (Below.refl _ _) hn₀ (fun x => by rw [hps]; rfl) Pl.V_put
    I Ix hI hIx h0 (fun x a' W => ∃ Bx, Box W Bx x.1.2.2.cells 25 ∧ a' = a₂ x.1.1.2 x.1.2.2 Bx)
    (fun _ _ W l o o' ⟨Bx, h2, h3⟩ hl ho => ⟨Bx, (World.putObj_heap_other (fun e => by
      subst e
      rw [show W.heap[Bx]? = _ from h2] at hl
      cases hl
      cases ho)).trans h2, h3⟩)
    (fun l p pre x W K hi hv hs hb hK => hA l p pre x W K hi hv hs hb fun Bx W' h2 h3 h4 h5 h6 => hK _ _ h2 h3 h4 h5 ⟨Bx, h6, rfl⟩)
    (fun l p pre x a' W hi hv ha hs hb hl => by
      obtain ⟨Bx, h2, h3⟩ := ha
      subst h3
      exact hB l p pre x Bx W hi hv h2 hs hb hl) hD hS

/-- Boxes of the function's own, none of them the iterator's. -/
def InJ (N : Nat) (w : World) (bs : List (Nat × Array Value × TypeId)) (p : Nat → Prop) (W : World) : Prop :=
  (∀ x, x ∈ bs → x.1 < N ∧ Box W x.1 x.2.1 x.2.2) ∧ (∀ b, p b → N ≤ b) ∧ Below w.heap.size w W ∧ w.heap.size ≤ N ∧ N ≤ W.heap.size
theorem InJ.grown {N : Nat} {w W W' : World} {bs : List (Nat × Array Value × TypeId)} {p p' : Nat → Prop} {row : Option Nat} (h : InJ N w bs p W) (hg : W.grownBy W' row) (hr : ∀ r, row = some r → p r ∨ (N ≤ r ∧ ∃ o : Obj, W.heap[r]? = some o ∧ o.isCells = false))
    (hp : ∀ b, p' b → p b ∨ (W.heap.size ≤ b ∧ b < W'.heap.size)) : InJ N w bs p' W' := by
  obtain ⟨h1, h2, h3, h4, h5⟩ := h
  have hN : ∀ r, row = some r → N ≤ r := fun r e => by
    rcases hr r e with h | h
    · exact h2 r h
    · exact h.1
  refine ⟨fun x hx => ⟨(h1 x hx).1, (hg.block _ (h1 x hx).2.lt fun e => ?_).trans (h1 x hx).2⟩, fun b hb => ?_, h3.trans (grown_below' hg h3.size fun g e => Nat.le_trans h4 (hN g e)), h4, Nat.le_trans h5 hg.size⟩
  · have := hN _ e.symm; have := (h1 x hx).1; omega
  · rcases hp b hb with h | h
    · exact h2 b h
    · omega
theorem InJ.below {N : Nat} {w W W' : World} {bs : List (Nat × Array Value × TypeId)} {p : Nat → Prop} (h : InJ N w bs p W) (hB : Below W.heap.size W W') : InJ N w bs p W' :=
  h.grown (grown_b none hB) (fun r e => by cases e) (fun _ hb => .inl hb)

/-- Between two rounds: nothing found. -/
def InI {n₀ : Nat} {W₀ : World} (Y : Tr) (N : Nat) (w : World) (bs : List (Nat × Array Value × TypeId)) (p : Nat → Prop) (pre : List (Pl n₀ W₀)) (W : World) : Prop := InJ N w bs p W ∧ ∀ z, z ∈ pre.map Pl.fg → eqT z.2 Y = false
/-- Found. -/
def InX {n₀ : Nat} {W₀ : World} (Y : Tr) (N : Nat) (w : World) (bs : Value → List (Nat × Array Value × TypeId)) (c : Code) (p : Nat → Prop) (pre : List (Pl n₀ W₀)) (W : World) : Prop :=
  c = .ret ∧ ∃ (v : Value) (q : List (List Int × Tr)) (z : List Int × Tr), InJ N w (bs v) p W ∧ Nums w.heap.size W v z.1 ∧ (∀ b, v.ownBlock = some b → ¬ p b) ∧ pre.map Pl.fg = q ++ [z] ∧ (∀ y, y ∈ q → eqT y.2 Y = false) ∧ eqT z.2 Y = true
theorem InI.shut {n₀ : Nat} {W₀ : World} (Y : Tr) (N : Nat) (w : World) (bs : List (Nat × Array Value × TypeId)) {B : Nat} (hB : N ≤ B) : Shut B (InI (n₀ := n₀) (W₀ := W₀) Y N w bs) := by
  rintro p p' s W W' row ⟨h1, h2⟩ hg hr hp
  exact ⟨h1.grown hg (fun r e => (hr r e).imp id (fun h => ⟨by omega, h.2⟩)) hp, h2⟩
theorem InX.shut {n₀ : Nat} {W₀ : World} (Y : Tr) (N : Nat) (w : World) (bs : Value → List (Nat × Array Value × TypeId)) (c : Code) {B : Nat} (hB : N ≤ B) : Shut B (InX (n₀ := n₀) (W₀ := W₀) Y N w bs c) := by
  rintro p p' s W W' row ⟨h0, v, q, z, h1, h2, h3, h4⟩ hg hr hp
  have hrow := row_shut (p' := p') h2 h3 hg (fun r e => (hr r e).imp id (·.2)) hp
  exact ⟨h0, v, q, z, h1.grown hg (fun r e => (hr r e).imp id (fun h => ⟨by omega, h.2⟩)) hp, hrow.1, hrow.2, h4⟩
theorem eqT_comm (X Y : Tr) : eqT X Y = eqT Y X := by
  rw [Bool.eq_iff_iff]
  simp only [eqT, decide_eq_true_eq]
  exact ⟨Eq.symm, Eq.symm⟩
theorem insF_none {X Y : Tr} {l : List (List Int × Tr)} (h : l = scanP [] (preT 1 X)) (hn : ∀ z, z ∈ l → eqT z.2 Y = false) : insF X Y = none := by
  rw [insF, ← paths_plc, ← h, List.find?_eq_none.2 (fun z hz => by rw [eqT_comm]; simp [hn z hz])]
  rfl
theorem insF_some {X Y : Tr} {q : List (List Int × Tr)} {z : List Int × Tr} (h : q ++ [z] <+: scanP [] (preT 1 X)) (hn : ∀ y, y ∈ q → eqT y.2 Y = false) (hz : eqT z.2 Y = true) : insF X Y = some z.1 := by
  obtain ⟨r, hr⟩ := h
  rw [insF, ← paths_plc, ← hr, List.append_assoc, List.find?_append, List.find?_eq_none.2 (fun y hy => by rw [eqT_comm]; simp [hn y hy])]
  rw [List.singleton_append, List.find?_cons_of_pos (by rw [eqT_comm]; exact hz)]
  rfl

theorem InJ.get {N : Nat} {w W : World} {bs : List (Nat × Array Value × TypeId)} {p : Nat → Prop} (h : InJ N w bs p W) {b : Nat} {cs : Array Value} {t : TypeId} (hm : (b, cs, t) ∈ bs) : Box W b cs t := (h.1 _ hm).2
theorem InJ.lay {N : Nat} {w W : World} {bs : List (Nat × Array Value × TypeId)} {p : Nat → Prop} (h : InJ N w bs p W) (o : Obj) : InJ N w bs p (W.alloc o) := h.below (below_a1 (Nat.le_refl _) o)
theorem Nums.put' {b l : Nat} {W : World} {v : Value} {ns : List Int} {o : Obj} (h : Nums b W v ns) (hl : W.heap[l]? = some o) (ho : o.isCells = false) (o' : Obj) : Nums b (W.putObj l o') v ns := h.put hl ho o'
theorem kf_below {N : Nat} {A B : World} (h : Below A.heap.size A B) : KeepsFrom N A B := (KeepsOthers.of_below h).from _
theorem kp_below {n₀ : Nat} {p : Nat → Prop} {A B : World} (h : Below A.heap.size A B) (hn : n₀ ≤ A.heap.size) : KP n₀ p A B := ⟨KT.of_below h hn, fun b _ hb => h.block b hb⟩
theorem plV_below {n₀ : Nat} {W₀ : World} {p : Nat → Prop} {x : Pl n₀ W₀} {A B : World} (h : Pl.V p x A) (hB : Below A.heap.size A B) : Pl.V p x B :=
  ⟨h.1.at fun g hg => by obtain ⟨_, cur, hc⟩ := h.1.cells g hg; exact hB.block g hc.lt, h.2⟩
theorem InI.below {n₀ : Nat} {W₀ : World} {Y : Tr} {N : Nat} {w : World} {bs : List (Nat × Array Value × TypeId)} {p : Nat → Prop} {pre : List (Pl n₀ W₀)} {W W' : World} (h : InI Y N w bs p pre W) (hB : Below W.heap.size W W') : InI Y N w bs p pre W' := ⟨h.1.below hB, h.2⟩

set_option maxRecDepth 100000 in
set_option maxHeartbeats 4000000 in
theorem Inside_any (X Y : Tr) (v u : Value) (w : World) (hx : IsT w.heap.size w X v) (hy : IsT w.heap.size w Y u) (hdx : X.deep ≤ 999999999) (hdy : Y.deep ≤ 999999999) :
    Calls Tryd.prog 34 #[v, u] w (InPost X Y w) := by
  refine (callsIn_wide (n := 9)).1 ?_
  generalize hF : Fence.wide = F
  have hd : F.depth = none := by subst hF; rfl
  have hf : ∀ f, F.fn f := fun f => by subst hF; trivial
  have hro : F.round = none := by subst hF; rfl
  cases hTx : X with
  | node kx nx sx tx =>
  cases hTy : Y with
  | node ky ny sy ty =>
  subst hTx hTy
  have hx' := hx
  have hy' := hy
  obtain ⟨ax, cx, rfl, _⟩ := hx'.open
  obtain ⟨ay, cy, rfl, _⟩ := hy'.open
  clear hx' hy'
  have HX := Lib.hid (And.intro hx hy)
  clear hx hy
  have bx : Box ((((((w.alloc (.cells #[.int .i64 kx, .int .i64 nx, .string sx, .slice ax tx.length cx] 25)).alloc (.cells #[.int .i64 ky, .int .i64 ny, .string sy, .slice ay ty.length cy] 25)).alloc (.cells #[.slice none 0 0] 35)).alloc (.cells #[.bool false] 4)).alloc (.cells #[.int .i64 0] 28)).alloc (.cells #[.int .i64 kx, .int .i64 nx, .string sx, .slice ax tx.length cx, .int .i64 ky, .int .i64 ny, .string sy, .slice ay ty.length cy] 25)) (w.heap.size) #[.int .i64 kx, .int .i64 nx, .string sx, .slice ax tx.length cx] 25 := (((((Box.at rfl).alloc _).alloc _).alloc _).alloc _).alloc _
  have by' : Box ((((((w.alloc (.cells #[.int .i64 kx, .int .i64 nx, .string sx, .slice ax tx.length cx] 25)).alloc (.cells #[.int .i64 ky, .int .i64 ny, .string sy, .slice ay ty.length cy] 25)).alloc (.cells #[.slice none 0 0] 35)).alloc (.cells #[.bool false] 4)).alloc (.cells #[.int .i64 0] 28)).alloc (.cells #[.int .i64 kx, .int .i64 nx, .string sx, .slice ax tx.length cx, .int .i64 ky, .int .i64 ny, .string sy, .slice ay ty.length cy] 25)) (w.heap.size + 1) #[.int .i64 ky, .int .i64 ny, .string sy, .slice ay ty.length cy] 25 := ((((Box.at (by simp)).alloc _).alloc _).alloc _).alloc _
  have b4 : Box ((((((w.alloc (.cells #[.int .i64 kx, .int .i64 nx, .string sx, .slice ax tx.length cx] 25)).alloc (.cells #[.int .i64 ky, .int .i64 ny, .string sy, .slice ay ty.length cy] 25)).alloc (.cells #[.slice none 0 0] 35)).alloc (.cells #[.bool false] 4)).alloc (.cells #[.int .i64 0] 28)).alloc (.cells #[.int .i64 kx, .int .i64 nx, .string sx, .slice ax tx.length cx, .int .i64 ky, .int .i64 ny, .string sy, .slice ay ty.length cy] 25)) (w.heap.size + 1 + 1) #[.slice none 0 0] 35 := (((Box.at (by simp)).alloc _).alloc _).alloc _
  have b5 : Box ((((((w.alloc (.cells #[.int .i64 kx, .int .i64 nx, .string sx, .slice ax tx.length cx] 25)).alloc (.cells #[.int .i64 ky, .int .i64 ny, .string sy, .slice ay ty.length cy] 25)).alloc (.cells #[.slice none 0 0] 35)).alloc (.cells #[.bool false] 4)).alloc (.cells #[.int .i64 0] 28)).alloc (.cells #[.int .i64 kx, .int .i64 nx, .string sx, .slice ax tx.length cx, .int .i64 ky, .int .i64 ny, .string sy, .slice ay ty.length cy] 25)) (w.heap.size + 1 + 1 + 1) #[.bool false] 4 := ((Box.at (by simp)).alloc _).alloc _
  have b6 : Box ((((((w.alloc (.cells #[.int .i64 kx, .int .i64 nx, .string sx, .slice ax tx.length cx] 25)).alloc (.cells #[.int .i64 ky, .int .i64 ny, .string sy, .slice ay ty.length cy] 25)).alloc (.cells #[.slice none 0 0] 35)).alloc (.cells #[.bool false] 4)).alloc (.cells #[.int .i64 0] 28)).alloc (.cells #[.int .i64 kx, .int .i64 nx, .string sx, .slice ax tx.length cx, .int .i64 ky, .int .i64 ny, .string sy, .slice ay ty.length cy] 25)) (w.heap.size + 1 + 1 + 1 + 1) #[.int .i64 0] 28 := (Box.at (by simp)).alloc _
  have bs : Box ((((((w.alloc (.cells #[.int .i64 kx, .int .i64 nx, .string sx, .slice ax tx.length cx] 25)).alloc (.cells #[.int .i64 ky, .int .i64 ny, .string sy, .slice ay ty.length cy] 25)).alloc (.cells #[.slice none 0 0] 35)).alloc (.cells #[.bool false] 4)).alloc (.cells #[.int .i64 0] 28)).alloc (.cells #[.int .i64 kx, .int .i64 nx, .string sx, .slice ax tx.length cx, .int .i64 ky, .int .i64 ny, .string sy, .slice ay ty.length cy] 25)) (w.heap.size + 1 + 1 + 1 + 1 + 1) #[.int .i64 kx, .int .i64 nx, .string sx, .slice ax tx.length cx, .int .i64 ky, .int .i64 ny, .string sy, .slice ay ty.length cy] 25 := Box.at (by simp)
  have hB0 : Below w.heap.size w ((((((w.alloc (.cells #[.int .i64 kx, .int .i64 nx, .string sx, .slice ax tx.length cx] 25)).alloc (.cells #[.int .i64 ky, .int .i64 ny, .string sy, .slice ay ty.length cy] 25)).alloc (.cells #[.slice none 0 0] 35)).alloc (.cells #[.bool false] 4)).alloc (.cells #[.int .i64 0] 28)).alloc (.cells #[.int .i64 kx, .int .i64 nx, .string sx, .slice ax tx.length cx, .int .i64 ky, .int .i64 ny, .string sy, .slice ay ty.length cy] 25)) := (below_a4 (Nat.le_refl w.heap.size) _ _ _ _).trans (below_a2 (size_a2 (size_a2 (Nat.le_refl _) _ _) _ _) _ _)
  have hck := checkEach_any [.node kx nx sx tx, .node ky ny sy ty] (some ⟨w.heap.size + 1 + 1 + 1 + 1 + 1, 0, none⟩) 2 ((((((w.alloc (.cells #[.int .i64 kx, .int .i64 nx, .string sx, .slice ax tx.length cx] 25)).alloc (.cells #[.int .i64 ky, .int .i64 ny, .string sy, .slice ay ty.length cy] 25)).alloc (.cells #[.slice none 0 0] 35)).alloc (.cells #[.bool false] 4)).alloc (.cells #[.int .i64 0] 28)).alloc (.cells #[.int .i64 kx, .int .i64 nx, .string sx, .slice ax tx.length cx, .int .i64 ky, .int .i64 ny, .string sy, .slice ay ty.length cy] 25)) (by unfold maxLen; simp) (IsL.cons (by simp) (bs.cell 0) (bs.cell 1) (bs.cell 2) (bs.cell 3) (HX.out.1.up hB0 hB0.size) (IsL.cons (by simp) (bs.cell 4) (bs.cell 5) (bs.cell 6) (bs.cell 7) (HX.out.2.up hB0 hB0.size) IsL.nil)) (by intro t ht; simp at ht; rcases ht with rfl | rfl <;> assumption)
  rw [show [Tr.node kx nx sx tx, .node ky ny sy ty].all isB = (isB (.node kx nx sx tx) && isB (.node ky ny sy ty)) by simp] at hck
  have HCK := Lib.hid hck
  clear hck bs
  refine callsIn_of_wp_marks Tryd.func34 rfl (hf _) ?_ hro
  simp only [Tryd.ntmps34, List.size_toArray, List.length_cons, List.length_nil, Nat.reduceAdd, Nat.reduceSub, Array.replicate_succ, Array.replicate_zero, List.push_toArray, List.append_toArray, List.nil_append, List.cons_append]
  gi_wp2_with fail
  refine CallsIn.mono (callsIn_of_calls hF HCK.out) ?_
  rintro e W1 ⟨rfl, B⟩
  replace bx := Box.keep B bx
  replace by' := Box.keep B by'
  replace b4 := Box.keep B b4
  replace b5 := Box.keep B b5
  replace b6 := Box.keep B b6
  replace hB0 := hB0.trans (B.mono hB0.size)
  clear B HCK
  have l6 := b6.lt
  cases hr : (isB (.node kx nx sx tx) && isB (.node ky ny sy ty)) with
  | false =>
    have HV := Lib.hid hr
    clear hr
    rw [show errI false = 3 from rfl]
    have y4 := b4.cell 0
    have y5 := b5.cell 0
    have y6 := b6.cell 0
    have f4 := b4.frozen 0
    have f5 := b5.frozen 0
    have f6 := b6.frozen 0
    simp only [List.getElem?_toArray, List.getElem?_cons_zero] at y4 y5 y6
    have z4 := ((b4.set 0 (.slice none 0 0)).other (B' := w.heap.size + 1 + 1 + 1) (by omega) 0 (.bool false)).other (B' := w.heap.size + 1 + 1 + 1 + 1) (by omega) 0 (.int .i64 3)
    have z5 := ((b5.other (B' := w.heap.size + 1 + 1) (by omega) 0 (.slice none 0 0)).set 0 (.bool false)).other (B' := w.heap.size + 1 + 1 + 1 + 1) (by omega) 0 (.int .i64 3)
    have z6 := ((b6.other (B' := w.heap.size + 1 + 1) (by omega) 0 (.slice none 0 0)).other (B' := w.heap.size + 1 + 1 + 1) (by omega) 0 (.bool false)).set 0 (.int .i64 3)
    have zB := ((hB0.setCell (p := ⟨w.heap.size + 1 + 1, 0, none⟩) (by simp; omega) (.slice none 0 0)).setCell (p := ⟨w.heap.size + 1 + 1 + 1, 0, none⟩) (by simp; omega) (.bool false)).setCell (p := ⟨w.heap.size + 1 + 1 + 1 + 1, 0, none⟩) (by simp; omega) (.int .i64 3)
    have HZ := Lib.hid (And.intro z4 (And.intro z5 (And.intro z6 zB)))
    clear z4 z5 z6 zB b4 b5 b6 bx by' hB0
    gi_wp2_with fail
    obtain ⟨z4, z5, z6, zB⟩ := HZ.out
    have x4 := z4.cell 0
    have x5 := z5.cell 0
    have x6 := z6.cell 0
    clear HZ y4 y5 y6 f4 f5 f6 z4 z5 z6
    generalize (((W1.setCell ⟨w.heap.size + 1 + 1, 0, none⟩ (.slice none 0 0)).setCell ⟨w.heap.size + 1 + 1 + 1, 0, none⟩ (.bool false)).setCell ⟨w.heap.size + 1 + 1 + 1 + 1, 0, none⟩ (.int .i64 3)) = FW at *
    simp at x4 x5 x6
    exact ⟨.tuple #[.slice none 0 0, .bool false, .int .i64 3], by simp [results, Tryd.results34, go_sem, x4, x5, x6], InPost.no HV.out zB⟩
  | true =>
    have HV := Lib.hid hr
    have hz := isB_size (Bool.and_eq_true _ _ ▸ hr).1
    clear hr
    rw [show errI true = 0 from rfl]
    have q0 := bx.cell 0
    have q1 := bx.cell 1
    have q2 := bx.cell 2
    have q3 := bx.cell 3
    have lx := bx.lt
    simp only [List.getElem?_toArray, List.getElem?_cons_succ, List.getElem?_cons_zero] at q0 q1 q2 q3
    gi_wp2_with fail
    refine CallsIn.mono (callsIn_of_calls hF (places_any _ kx nx sx ax tx.length cx rfl _)) ?_
    rintro e w' ⟨rfl, rfl⟩
    clear q0 q1 q2 q3
    have hBE := hB0.trans (below_a1 hB0.size (.cells #[.int .i64 kx, .int .i64 nx, .string sx, .slice ax tx.length cx] 25))
    have hsE : (W1.alloc (.cells #[.int .i64 kx, .int .i64 nx, .string sx, .slice ax tx.length cx] 25)).heap.size = W1.heap.size + 1 := by simp
    have hJ0 : InJ (W1.heap.size + 1) w [(w.heap.size + 1, #[.int .i64 ky, .int .i64 ny, .string sy, .slice ay ty.length cy], 25), (w.heap.size + 1 + 1, #[.slice none 0 0], 35), (w.heap.size + 1 + 1 + 1, #[.bool false], 4), (w.heap.size + 1 + 1 + 1 + 1, #[.int .i64 0], 28)] (fun _ => False) (W1.alloc (.cells #[.int .i64 kx, .int .i64 nx, .string sx, .slice ax tx.length cx] 25)) := by
      refine ⟨?_, fun b h => h.elim, hBE, by have := hB0.size; omega, by simp⟩
      intro x hx
      simp only [List.mem_cons, List.not_mem_nil, or_false] at hx
      rcases hx with rfl | rfl | rfl | rfl
      · exact ⟨by simp only; omega, by'.alloc _⟩
      · exact ⟨by simp only; omega, b4.alloc _⟩
      · exact ⟨by simp only; omega, b5.alloc _⟩
      · exact ⟨by simp only; omega, b6.alloc _⟩
    have HJ0 := Lib.hid hJ0
    have hbp : Box (W1.alloc (.cells #[.int .i64 kx, .int .i64 nx, .string sx, .slice ax tx.length cx] 25)) W1.heap.size #[.int .i64 kx, .int .i64 nx, .string sx, .slice ax tx.length cx] 25 := Box.at rfl
    clear hJ0 bx by' b4 b5 b6
    gi_wp2_with fail
    refine range_placesH hF hd hf hro (by omega) W1.heap.size w.heap.size (.node kx nx sx tx) (.agg #[.int .i64 kx, .int .i64 nx, .string sx, .slice ax tx.length cx]) w rfl hbp hBE hBE.size HX.out.1 hdx (by omega) rfl
      (InI (.node ky ny sy ty) (W1.heap.size + 1) w [(w.heap.size + 1, #[.int .i64 ky, .int .i64 ny, .string sy, .slice ay ty.length cy], 25), (w.heap.size + 1 + 1, #[.slice none 0 0], 35), (w.heap.size + 1 + 1 + 1, #[.bool false], 4), (w.heap.size + 1 + 1 + 1 + 1, #[.int .i64 0], 28)]) (InX (.node ky ny sy ty) (W1.heap.size + 1) w (fun v => [(w.heap.size + 1, #[.int .i64 ky, .int .i64 ny, .string sy, .slice ay ty.length cy], 25), (w.heap.size + 1 + 1, #[v], 35), (w.heap.size + 1 + 1 + 1, #[.bool true], 4), (w.heap.size + 1 + 1 + 1 + 1, #[.int .i64 0], 28)])) (InI.shut _ _ _ _ (by simp)) (fun c => InX.shut _ _ _ _ c (by simp)) ⟨HJ0.out, fun z h => by cases h⟩ ?_
    rw [hsE]
    apply Exists.intro
    apply And.intro
    · rintro l p pre ⟨⟨⟨ns, pv⟩, T', v'⟩, hT'⟩ Wb K hI hV hs hb hK
      cases T' with
      | node k' n' s' ts' =>
      obtain ⟨a', c', rfl, _⟩ := hT'.open
      simp only [Pl.encs]
      gi_wp2_with fail
      have hblk : Box (Wb.alloc (.cells #[.int .i64 k', .int .i64 n', .string s', .slice a' ts'.length c'] 25)) Wb.heap.size #[.int .i64 k', .int .i64 n', .string s', .slice a' ts'.length c'] 25 := Box.at rfl
      have hBl := below_a1 (Nat.le_refl Wb.heap.size) (.cells #[.int .i64 k', .int .i64 n', .string s', .slice a' ts'.length c'] 25)
      have hwb : w.heap.size ≤ Wb.heap.size := hI.1.2.2.1.size
      have hKF := kf_below (N := W1.heap.size + 1) hBl
      have hKP := kp_below (n₀ := w.heap.size) (p := p) hBl hwb
      have hI' := hI.below hBl
      have hV' := plV_below hV hBl
      replace hK := fun Bx W' => hK Bx W'
      dsimp only [Value.cells] at hK
      clear hI hV hBl
      generalize Wb.alloc (.cells #[.int .i64 k', .int .i64 n', .string s', .slice a' ts'.length c'] 25) = W' at *
      generalize Wb.heap.size = Bx at *
      replace hK := hK Bx W' hKF hKP hI' hV' hblk
      clear hKF hKP hI' hV' hblk
      generalize Value.agg #[.int .i64 k', .int .i64 n', .string s', .slice a' ts'.length c'] = v' at *
      exact hK
    refine ⟨?_, ?_, ?_⟩
    · rintro l p pre ⟨⟨⟨ns, pv⟩, T', v'⟩, hT'⟩ Bx W ⟨hJ, hno⟩ ⟨hV1, hV2, hV3⟩ hbx hsW hpb hlen
      cases T' with
      | node k' n' s' ts' =>
      obtain ⟨a', c', rfl, _⟩ := hT'.open
      dsimp only [Value.cells] at hbx hV1 hV2 hV3
      have hby : Box W (w.heap.size + 1) #[.int .i64 ky, .int .i64 ny, .string sy, .slice ay ty.length cy] 25 := hJ.get (by simp)
      have hwW := hJ.2.2.1
      have hyW := HX.out.2.up hwW hwW.size
      have hTW := hT'.up hwW hwW.size
      have x0 := hbx.cell 0
      have x1 := hbx.cell 1
      have x2 := hbx.cell 2
      have x3 := hbx.cell 3
      have y0 := hby.cell 0
      have y1 := hby.cell 1
      have y2 := hby.cell 2
      have y3 := hby.cell 3
      have lbx := hbx.lt
      have lby := hby.lt
      simp only [List.getElem?_toArray, List.getElem?_cons_succ, List.getElem?_cons_zero] at x0 x1 x2 x3 y0 y1 y2 y3
      have hsm := same_any (.node k' n' s' ts') (.node ky ny sy ty) _ _ W hTW hyW
      have HSM := Lib.hid hsm
      have HJ := Lib.hid (And.intro hJ (And.intro hno (And.intro hV1 (And.intro hV2 (And.intro hV3 hwW)))))
      clear hJ hno hV1 hV2 hV3 hwW hsm hyW hTW hbx hby
      gi_wp2_with fail
      clear x0 x1 x2 x3 y0 y1 y2 y3
      refine (CallsIn.inRound l (callsIn_of_calls hF HSM.out)).mono ?_
      rintro e W5 ⟨rfl, B5⟩
      have hs5 := B5.size
      obtain ⟨hJ, hno, hV1, hV2, hV3, hwW⟩ := HJ.out
      have hJ5 := hJ.below B5
      have hN5 : Nums w.heap.size W5 pv ns := hV1.at fun g hg => by obtain ⟨_, cur, hc⟩ := hV1.cells g hg; exact B5.block g hc.lt
      have HB5 := Lib.hid B5
      clear HSM hJ hV1 hwW HJ B5
      cases heq : eqT (.node k' n' s' ts') (.node ky ny sy ty) with
      | false =>
        have hnew : InI (.node ky ny sy ty) (W1.heap.size + 1) w [(w.heap.size + 1, #[.int .i64 ky, .int .i64 ny, .string sy, .slice ay ty.length cy], 25), (w.heap.size + 1 + 1, #[.slice none 0 0], 35), (w.heap.size + 1 + 1 + 1, #[.bool false], 4), (w.heap.size + 1 + 1 + 1 + 1, #[.int .i64 0], 28)] p (pre ++ [(⟨((ns, pv), .node k' n' s' ts', .agg #[.int .i64 k', .int .i64 n', .string s', .slice a' ts'.length c']), hT'⟩ : Pl w.heap.size w)]) W5 := by
          refine ⟨hJ5, fun z hz => ?_⟩
          rw [List.map_append] at hz
          rcases List.mem_append.1 hz with hz | hz
          · exact hno z hz
          · rw [List.map_singleton, List.mem_singleton] at hz
            subst hz
            exact heq
        have HN := Lib.hid hnew
        clear hnew heq hJ5 hN5 hno
        gi_wp2_with fail
        exact ⟨kf_below HB5.out, kp_below HB5.out (by have := HN.out.1.2.2.1.size; have := HB5.out; omega), HN.out⟩
      | true =>
        have HQ := Lib.hid heq
        have hcl := copyList_any w.heap.size ns pv W5 hN5 hV3
        have HCL := Lib.hid hcl
        have HJ5 := Lib.hid (And.intro hJ5 (And.intro hno hV2))
        clear heq hcl hJ5 hN5 hno hV2
        gi_wp2_with fail
        refine (CallsIn.inRound l (callsIn_of_calls hF HCL.out)).mono ?_
        rintro e W6 ⟨v2, rfl, hN6, B6⟩
        have hs6 := B6.size
        obtain ⟨va, vm, vc, hv2⟩ : ∃ va vm vc, v2 = .slice va vm vc := by
          rcases Nums.open hN6 with ⟨e, _⟩ | ⟨g, cap, cur, e, _⟩ <;> exact ⟨_, _, _, e⟩
        obtain ⟨hJ5, hno, hV2⟩ := HJ5.out
        have hJ6 := hJ5.below B6
        have b4 : Box W6 (w.heap.size + 1 + 1) #[.slice none 0 0] 35 := hJ6.get (by simp)
        have b5 : Box W6 (w.heap.size + 1 + 1 + 1) #[.bool false] 4 := hJ6.get (by simp)
        have b6 : Box W6 (w.heap.size + 1 + 1 + 1 + 1) #[.int .i64 0] 28 := hJ6.get (by simp)
        have by' : Box W6 (w.heap.size + 1) #[.int .i64 ky, .int .i64 ny, .string sy, .slice ay ty.length cy] 25 := hJ6.get (by simp)
        have y4 := b4.cell 0
        have y5 := b5.cell 0
        have y6 := b6.cell 0
        have f4 := b4.frozen 0
        have f5 := b5.frozen 0
        have f6 := b6.frozen 0
        have l4 := b4.lt
        have l5 := b5.lt
        have l6' := b6.lt
        simp only [List.getElem?_toArray, List.getElem?_cons_zero] at y4 y5 y6
        have z3 := ((by'.other (B' := w.heap.size + 1 + 1) (by omega) 0 v2).other (B' := w.heap.size + 1 + 1 + 1) (by omega) 0 (.bool true)).other (B' := w.heap.size + 1 + 1 + 1 + 1) (by omega) 0 (.int .i64 0)
        have z4 := ((b4.set 0 v2).other (B' := w.heap.size + 1 + 1 + 1) (by omega) 0 (.bool true)).other (B' := w.heap.size + 1 + 1 + 1 + 1) (by omega) 0 (.int .i64 0)
        have z5 := ((b5.other (B' := w.heap.size + 1 + 1) (by omega) 0 v2).set 0 (.bool true)).other (B' := w.heap.size + 1 + 1 + 1 + 1) (by omega) 0 (.int .i64 0)
        have z6 := ((b6.other (B' := w.heap.size + 1 + 1) (by omega) 0 v2).other (B' := w.heap.size + 1 + 1 + 1) (by omega) 0 (.bool true)).set 0 (.int .i64 0)
        have hw6 := hJ6.2.2.1
        have zB := ((hw6.setCell (p := ⟨w.heap.size + 1 + 1, 0, none⟩) (by simp; omega) v2).setCell (p := ⟨w.heap.size + 1 + 1 + 1, 0, none⟩) (by simp; omega) (.bool true)).setCell (p := ⟨w.heap.size + 1 + 1 + 1 + 1, 0, none⟩) (by simp; omega) (.int .i64 0)
        have hKF : KeepsFrom (W1.heap.size + 1) W (((W6.setCell ⟨w.heap.size + 1 + 1, 0, none⟩ v2).setCell ⟨w.heap.size + 1 + 1 + 1, 0, none⟩ (.bool true)).setCell ⟨w.heap.size + 1 + 1 + 1 + 1, 0, none⟩ (.int .i64 0)) :=
          (((kf_below HB5.out).trans (kf_below B6)).trans ((KeepsOthers.setCell _ _ _).from _)).trans (((KeepsOthers.setCell _ _ _).from _).trans ((KeepsOthers.setCell _ _ _).from _))
        have hlt6 : W.heap.size ≤ W6.heap.size := by omega
        have hfree : ∀ b, v2.ownBlock = some b → ¬ p b := fun b hb hp => by
          obtain ⟨h1, _⟩ := hN6.cells b hb
          have := (hpb b hp).2
          omega
        have hNZ : Nums w.heap.size (((W6.setCell ⟨w.heap.size + 1 + 1, 0, none⟩ v2).setCell ⟨w.heap.size + 1 + 1 + 1, 0, none⟩ (.bool true)).setCell ⟨w.heap.size + 1 + 1 + 1 + 1, 0, none⟩ (.int .i64 0)) v2 ns := by
          refine (hN6.base (by have := hw6.size; have := HB5.out.size; omega)).at fun g hg => ?_
          obtain ⟨h1, _⟩ := hN6.cells g hg
          rw [Below.heap_setCell _ _ _ _ (by simp; omega), Below.heap_setCell _ _ _ _ (by simp; omega), Below.heap_setCell _ _ _ _ (by simp; omega)]
        have hJZ : InJ (W1.heap.size + 1) w ((fun v => [(w.heap.size + 1, #[.int .i64 ky, .int .i64 ny, .string sy, .slice ay ty.length cy], 25), (w.heap.size + 1 + 1, #[v], 35), (w.heap.size + 1 + 1 + 1, #[.bool true], 4), (w.heap.size + 1 + 1 + 1 + 1, #[.int .i64 0], 28)]) v2) p (((W6.setCell ⟨w.heap.size + 1 + 1, 0, none⟩ v2).setCell ⟨w.heap.size + 1 + 1 + 1, 0, none⟩ (.bool true)).setCell ⟨w.heap.size + 1 + 1 + 1 + 1, 0, none⟩ (.int .i64 0)) := by
          refine ⟨?_, hJ6.2.1, zB, hJ6.2.2.2.1, by simpa using hJ6.2.2.2.2⟩
          intro x hx
          simp only [List.mem_cons, List.not_mem_nil, or_false] at hx
          rcases hx with rfl | rfl | rfl | rfl
          · exact ⟨(hJ6.1 _ (by simp)).1, z3⟩
          · exact ⟨(hJ6.1 (w.heap.size + 1 + 1, #[.slice none 0 0], 35) (by simp)).1, by simpa using z4⟩
          · exact ⟨(hJ6.1 (w.heap.size + 1 + 1 + 1, #[.bool false], 4) (by simp)).1, by simpa using z5⟩
          · exact ⟨(hJ6.1 (w.heap.size + 1 + 1 + 1 + 1, #[.int .i64 0], 28) (by simp)).1, by simpa using z6⟩
        have hfin : InX (.node ky ny sy ty) (W1.heap.size + 1) w (fun v => [(w.heap.size + 1, #[.int .i64 ky, .int .i64 ny, .string sy, .slice ay ty.length cy], 25), (w.heap.size + 1 + 1, #[v], 35), (w.heap.size + 1 + 1 + 1, #[.bool true], 4), (w.heap.size + 1 + 1 + 1 + 1, #[.int .i64 0], 28)]) .ret p (pre ++ [(⟨((ns, pv), .node k' n' s' ts', .agg #[.int .i64 k', .int .i64 n', .string s', .slice a' ts'.length c']), hT'⟩ : Pl w.heap.size w)]) (((W6.setCell ⟨w.heap.size + 1 + 1, 0, none⟩ v2).setCell ⟨w.heap.size + 1 + 1 + 1, 0, none⟩ (.bool true)).setCell ⟨w.heap.size + 1 + 1 + 1 + 1, 0, none⟩ (.int .i64 0)) :=
          ⟨rfl, v2, pre.map Pl.fg, (ns, .node k' n' s' ts'), hJZ, hNZ, hfree, by rw [List.map_append]; rfl, hno, HQ.out⟩
        have HF := Lib.hid (And.intro hKF hfin)
        clear hKF hfin hJZ hNZ hfree zB hw6 z3 z4 z5 z6 b4 b5 b6 by' hJ6 hJ5 hno hV2 HJ5 HCL hN6 B6
        subst hv2
        gi_wp2_with fail
        exact HF.out
    · rintro D p xs W hDle hpD hxs ⟨hJ, hno⟩ hK
      have b4 : Box W (w.heap.size + 1 + 1) #[.slice none 0 0] 35 := hJ.get (by simp)
      have b5 : Box W (w.heap.size + 1 + 1 + 1) #[.bool false] 4 := hJ.get (by simp)
      have b6 : Box W (w.heap.size + 1 + 1 + 1 + 1) #[.int .i64 0] 28 := hJ.get (by simp)
      have y4 := b4.cell 0
      have y5 := b5.cell 0
      have y6 := b6.cell 0
      have f4 := b4.frozen 0
      have f5 := b5.frozen 0
      have f6 := b6.frozen 0
      have l4 := b4.lt
      have l5 := b5.lt
      have l6' := b6.lt
      simp only [List.getElem?_toArray, List.getElem?_cons_zero] at y4 y5 y6
      have z4 := ((b4.set 0 (.slice none 0 0)).other (B' := w.heap.size + 1 + 1 + 1) (by omega) 0 (.bool false)).other (B' := w.heap.size + 1 + 1 + 1 + 1) (by omega) 0 (.int .i64 0)
      have z5 := ((b5.other (B' := w.heap.size + 1 + 1) (by omega) 0 (.slice none 0 0)).set 0 (.bool false)).other (B' := w.heap.size + 1 + 1 + 1 + 1) (by omega) 0 (.int .i64 0)
      have z6 := ((b6.other (B' := w.heap.size + 1 + 1) (by omega) 0 (.slice none 0 0)).other (B' := w.heap.size + 1 + 1 + 1) (by omega) 0 (.bool false)).set 0 (.int .i64 0)
      have zB := ((hJ.2.2.1.setCell (p := ⟨w.heap.size + 1 + 1, 0, none⟩) (by simp; omega) (.slice none 0 0)).setCell (p := ⟨w.heap.size + 1 + 1 + 1, 0, none⟩) (by simp; omega) (.bool false)).setCell (p := ⟨w.heap.size + 1 + 1 + 1 + 1, 0, none⟩) (by simp; omega) (.int .i64 0)
      have hK2 : (((W.setCell ⟨w.heap.size + 1 + 1, 0, none⟩ (.slice none 0 0)).setCell ⟨w.heap.size + 1 + 1 + 1, 0, none⟩ (.bool false)).setCell ⟨w.heap.size + 1 + 1 + 1 + 1, 0, none⟩ (.int .i64 0)).heap[D]? = some (.deferred (some [])) := by
        rw [Below.heap_setCell _ _ _ _ (by simp; omega), Below.heap_setCell _ _ _ _ (by simp; omega), Below.heap_setCell _ _ _ _ (by simp; omega)]
        exact hK
      have hf : insF (.node kx nx sx tx) (.node ky ny sy ty) = none := insF_none hxs hno
      have HZ := Lib.hid (And.intro z4 (And.intro z5 (And.intro z6 (And.intro zB (And.intro hK2 hf)))))
      clear z4 z5 z6 zB b4 b5 b6 hK2 hK hf hno hJ
      gi_wp2_with fail
      obtain ⟨z4, z5, z6, zB, hK2, hf⟩ := HZ.out
      clear HZ y4 y5 y6 f4 f5 f6
      generalize (((W.setCell ⟨w.heap.size + 1 + 1, 0, none⟩ (.slice none 0 0)).setCell ⟨w.heap.size + 1 + 1 + 1, 0, none⟩ (.bool false)).setCell ⟨w.heap.size + 1 + 1 + 1 + 1, 0, none⟩ (.int .i64 0)) = FW at *
      refine ⟨by simp, .inl ⟨_, _, rfl, run_takeDeferred hK2, ?_⟩⟩
      have x4 := (z4.put (D := D) (by omega) (.deferred none)).cell 0
      have x5 := (z5.put (D := D) (by omega) (.deferred none)).cell 0
      have x6 := (z6.put (D := D) (by omega) (.deferred none)).cell 0
      have hD := zB.trans (belowK_b (w := w) (Nat.le_refl _) FW D _ (.deferred none) (by omega) hK2 rfl rfl)
      clear z4 z5 z6 zB hK2
      generalize FW.putObj D (.deferred none) = FV at *
      simp at x4 x5 x6
      exact ⟨.tuple #[.slice none 0 0, .bool false, .int .i64 0], by simp [results, Tryd.results34, go_sem, x4, x5, x6], InPost.none HV.out hf hD⟩
    · rintro D c p pre W hDle hpD hpre ⟨rfl, v2, q, z, hJ, hN, hfr, hq, hno, hz2⟩ hK
      have hf : insF (.node kx nx sx tx) (.node ky ny sy ty) = some z.1 := insF_some (by rw [← hq]; exact hpre) hno hz2
      gi_wp2_with fail
      refine ⟨by simp, .inl ⟨_, _, rfl, run_takeDeferred hK, ?_⟩⟩
      have b4 : Box W (w.heap.size + 1 + 1) #[v2] 35 := hJ.get (by simp)
      have b5 : Box W (w.heap.size + 1 + 1 + 1) #[.bool true] 4 := hJ.get (by simp)
      have b6 : Box W (w.heap.size + 1 + 1 + 1 + 1) #[.int .i64 0] 28 := hJ.get (by simp)
      have x4 := (b4.put (D := D) (by omega) (.deferred none)).cell 0
      have x5 := (b5.put (D := D) (by omega) (.deferred none)).cell 0
      have x6 := (b6.put (D := D) (by omega) (.deferred none)).cell 0
      have hD := hJ.2.2.1.trans (belowK_b (w := w) (Nat.le_refl _) W D _ (.deferred none) (by omega) hK rfl rfl)
      have hN2 := (hN.put hK rfl (.deferred none)).rd
      generalize W.putObj D (.deferred none) = FV at *
      simp at x4 x5 x6
      exact ⟨.tuple #[v2, .bool true, .int .i64 0], by simp [results, Tryd.results34, go_sem, x4, x5, x6], InPost.some HV.out hf hN2 hD⟩
end Go.Proofs.YtdigiaigbcfccaaDoor
