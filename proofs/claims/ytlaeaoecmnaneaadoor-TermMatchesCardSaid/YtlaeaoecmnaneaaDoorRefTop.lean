/- The second readings of Variant and Match. -/
import Derived.Test.YtlaeaoecmnaneaaDoorRefNorm
import Derived.Test.YtlaeaoecmnaneaaDoorRefMatch
namespace Go.Proofs.YtlaeaoecmnaneaaDoor
open Go.RowKit Go

attribute [local go_sem] monoUpon Yld.says

theorem num_one {T : Tr} (h : T.good = true) : [T].map (renT (idxR (varsL [] [T]))) = [nrm T] := num_norm (l := [T]) (by simp [goodL, h])
theorem numbered1 (T : Tr) (v0 v1 v2 v3 : Value) (w : World) (h : IsT w.heap.size w T (.agg #[v0, v1, v2, v3])) (hB : isB T = true) :
    Calls Tryd.prog 105 #[.slice (some ⟨w.heap.size, 0, none⟩) 1 1] (w.alloc (.cells #[v0, v1, v2, v3] 25)) (NmPost [nrm T] (varsL [] [T]) w) := by
  obtain ⟨a, c, e, h1, h2, h3⟩ := isS1 h
  cases e
  refine Calls.mono (refNumbered_any [T] _ 1 _ h3 (by have := (isB_size hB).1; simp only [sizeL]; omega)) ?_
  rintro e w' ⟨a, c, u, rfl, g1, g2, g3, g4, B⟩
  refine NmPost.mk (num_one (isB_is hB).1) g1 g2 g3 g4 (up1 B)
/-- Match hands back what was found, and whether it was. -/
def MtPost (p t : Tr) (w : World) (e : Ending) (w' : World) : Prop := Below w.heap.size w w' ∧ ∃ a c, e = .returned (.tuple #[.slice a ((matchR p t).getD []).length c, .bool (matchR p t).isSome, .int .i64 (errI (isB p && isB t))]) ∧ IsS w'.heap.size w' ((matchR p t).getD []) (.slice a ((matchR p t).getD []).length c)
theorem MtPost.no {p t : Tr} {w w' : World} (h : matchR p t = none) (x : Int) (hx : x = errI (isB p && isB t)) (hB : Below w.heap.size w w') : MtPost p t w (.returned (.tuple #[.slice none 0 0, .bool false, .int .i64 x])) w' := by
  subst hx
  refine ⟨hB, none, 0, by rw [h]; rfl, ?_⟩
  rw [h]
  exact ⟨none, 0, rfl, Nat.le_refl _, by decide, IsL.nil⟩
theorem MtPost.yes {p t : Tr} {fs : List Tr} {w w' : World} {v : Value} (h : matchR p t = some fs) (hS : IsS w'.heap.size w' fs v) (hB : Below w.heap.size w w') : MtPost p t w (.returned (.tuple #[v, .bool true, .int .i64 0])) w' := by
  obtain ⟨a, c, rfl, h1, h2, h3⟩ := hS
  have hb := matchR_some h
  have he : errI (isB p && isB t) = 0 := by rw [hb.1, hb.2.1]; rfl
  refine ⟨hB, a, c, ?_, ?_⟩
  · rw [h, he]; rfl
  · rw [h]; exact ⟨a, c, rfl, h1, h2, h3⟩
theorem match_mt (T U : Tr) (v u : Value) (w : World) (hv : IsT w.heap.size w T v) (hu : IsT w.heap.size w U u) (hdT : T.deep ≤ 999999999) (hdU : U.deep ≤ 999999999) :
    Calls Tryd.prog 49 #[v, u] w (MtPost T U w) := by
  refine Calls.mono (Match_any T U v u w hv hu hdT hdU) ?_
  rintro e w' ⟨hB, h⟩
  cases hm : matchR T U with
  | none =>
    rw [hm] at h
    subst h
    exact MtPost.no hm _ rfl hB
  | some fs =>
    rw [hm] at h
    obtain ⟨v, rfl, hP⟩ := h
    obtain ⟨a', c', rfl, h1, h2, h3⟩ := hP
    exact MtPost.yes hm ⟨a', c', rfl, h1, h2, IsPL.toL (fun _ hb => hb.2) _ _ h3⟩ hB

set_option maxRecDepth 100000 in
set_option maxHeartbeats 4000000 in
theorem refVariant_any (X Y : Tr) (v u : Value) (w : World) (hx : IsT w.heap.size w X v) (hy : IsT w.heap.size w Y u) (hsx : X.size ≤ 1000000) (hdx : X.deep ≤ 1000000) (hsy : Y.size ≤ 1000000) (hdy : Y.deep ≤ 1000000) :
    Calls Tryd.prog 48 #[v, u] w fun e w' => e = .returned (.tuple #[.bool (varR X Y), .int .i64 (errI (isB X && isB Y))]) ∧ Below w.heap.size w w' := by
  replace hsx : X.size ≤ 1000000000 := by omega
  replace hdx : X.deep ≤ 1000000000 := by omega
  replace hsy : Y.size ≤ 1000000000 := by omega
  replace hdy : Y.deep ≤ 1000000000 := by omega
  obtain ⟨k, n, s, a, m, c, rfl⟩ := (IsT.toP _ _ hx).form
  obtain ⟨k', n', s', a', m', c', rfl⟩ := (IsT.toP _ _ hy).form
  have bbx : Box ((w.alloc (.cells #[.int .i64 k, .int .i64 n, .string s, .slice a m c] 25)).alloc (.cells #[.int .i64 k', .int .i64 n', .string s', .slice a' m' c'] 25)) w.heap.size #[.int .i64 k, .int .i64 n, .string s, .slice a m c] 25 := (Box.at rfl).alloc _
  have bby : Box ((w.alloc (.cells #[.int .i64 k, .int .i64 n, .string s, .slice a m c] 25)).alloc (.cells #[.int .i64 k', .int .i64 n', .string s', .slice a' m' c'] 25)) (w.heap.size + 1) #[.int .i64 k', .int .i64 n', .string s', .slice a' m' c'] 25 := Box.at (by simp)
  have hb := below_a2 (Nat.le_refl w.heap.size) (.cells #[.int .i64 k, .int .i64 n, .string s, .slice a m c] 25) (.cells #[.int .i64 k', .int .i64 n', .string s', .slice a' m' c'] 25)
  replace hx := hx.up hb hb.size
  replace hy := hy.up hb hb.size
  go_enter Tryd.func48, Tryd.ntmps48
  have qx0 := bbx.cell 0
  have qx1 := bbx.cell 1
  have qx2 := bbx.cell 2
  have qx3 := bbx.cell 3
  have lx := bbx.lt
  simp only [List.getElem?_toArray, List.getElem?_cons_succ, List.getElem?_cons_zero] at qx0 qx1 qx2 qx3
  go_wp2_with fail
  clear qx0 qx1 qx2 qx3 lx
  refine (refCheck_any X _ _ hx hsx hdx).mono ?_
  rintro e W1 ⟨rfl, B⟩
  replace bbx := Box.keep B bbx
  replace bby := Box.keep B bby
  replace hx := hx.up B B.size
  replace hy := hy.up B B.size
  replace hb := hb.trans (B.mono hb.size)
  clear B
  cases hr : isB X with
  | false =>
    have hf : (isB X && isB Y) = false := by rw [hr]; rfl
    clear hr
    rw [show errI false = 3 from rfl]
    have HV : Hid (varR X Y = false ∧ errI (isB X && isB Y) = 3) := by rw [Hid, varR, hf]; exact ⟨rfl, rfl⟩
    clear hf
    go_wp2_with fail
    go_ret2
    exact ⟨by rw [HV.out.1, HV.out.2]; rfl, hb⟩
  | true =>
    rw [show errI true = 0 from rfl]
    have HRX := Lib.hid hr
    clear hr
    have qy0 := bby.cell 0
    have qy1 := bby.cell 1
    have qy2 := bby.cell 2
    have qy3 := bby.cell 3
    have ly := bby.lt
    simp only [List.getElem?_toArray, List.getElem?_cons_succ, List.getElem?_cons_zero] at qy0 qy1 qy2 qy3
    go_wp2_with fail
    clear qy0 qy1 qy2 qy3 ly
    refine (refCheck_any Y _ _ hy hsy hdy).mono ?_
    rintro e W2 ⟨rfl, B⟩
    replace bbx := Box.keep B bbx
    replace bby := Box.keep B bby
    replace hx := hx.up B B.size
    replace hy := hy.up B B.size
    replace hb := hb.trans (B.mono hb.size)
    clear B
    cases hr : isB Y with
    | false =>
      have hf : (isB X && isB Y) = false := by rw [HRX.out, hr]; rfl
      clear hr
      rw [show errI false = 3 from rfl]
      have HV : Hid (varR X Y = false ∧ errI (isB X && isB Y) = 3) := by rw [Hid, varR, hf]; exact ⟨rfl, rfl⟩
      clear hf
      go_wp2_with fail
      go_ret2
      exact ⟨by rw [HV.out.1, HV.out.2]; rfl, hb⟩
    | true =>
      rw [show errI true = 0 from rfl]
      have HRY := Lib.hid hr
      clear hr
      have HV : Hid (varR X Y = eqT (nrm X) (nrm Y) ∧ errI (isB X && isB Y) = 0) := by rw [Hid, varR, HRX.out, HRY.out]; exact ⟨rfl, rfl⟩
      have qx0 := bbx.cell 0
      have qx1 := bbx.cell 1
      have qx2 := bbx.cell 2
      have qx3 := bbx.cell 3
      have lx := bbx.lt
      simp only [List.getElem?_toArray, List.getElem?_cons_succ, List.getElem?_cons_zero] at qx0 qx1 qx2 qx3
      go_wp2_with fail
      clear qx0 qx1 qx2 qx3 lx
      refine (numbered1 X _ _ _ _ _ hx HRX.out).mono ?_
      rintro e W3 ⟨ax, cx, ux, rfl, -, -, hg, -, B⟩
      replace bbx := Box.keep B bbx
      replace bby := Box.keep B bby
      replace hx := hx.up B B.size
      replace hy := hy.up B B.size
      replace hb := hb.trans (B.mono hb.size)
      clear B
      have qy0 := bby.cell 0
      have qy1 := bby.cell 1
      have qy2 := bby.cell 2
      have qy3 := bby.cell 3
      have ly := bby.lt
      simp only [List.getElem?_toArray, List.getElem?_cons_succ, List.getElem?_cons_zero] at qy0 qy1 qy2 qy3
      go_wp2_with fail
      clear qy0 qy1 qy2 qy3 ly
      refine (numbered1 Y _ _ _ _ _ hy HRY.out).mono ?_
      rintro e W4 ⟨ay, cy, uy, rfl, -, -, hh, -, B⟩
      replace bbx := Box.keep B bbx
      replace bby := Box.keep B bby
      replace hx := hx.up B B.size
      replace hy := hy.up B B.size
      replace hg := hg.up B B.size
      replace hb := hb.trans (B.mono hb.size)
      clear B
      clear bbx bby hx hy
      obtain ⟨bx, ox, rfl, hbx⟩ := hg.addr (by simp)
      obtain ⟨tk, tn, ts, tl, ta, tc, te, c0, c1, c2, c3, ht⟩ := hg.node 0 (by simp)
      obtain ⟨by', oy, rfl, hby⟩ := hh.addr (by simp)
      obtain ⟨uk, un, us, ul, ua, uc, ue, d0, d1, d2, d3, hu⟩ := hh.node 0 (by simp)
      simp only [Nat.zero_mul, Nat.add_zero, List.getElem_cons_zero] at c0 c1 c2 c3 d0 d1 d2 d3 ht hu
      have HX := Lib.hid (And.intro ht (And.intro hu hb))
      obtain ⟨r, hr⟩ : ∃ r, eqT (nrm X) (nrm Y) = r := ⟨_, rfl⟩
      rw [hr] at HV
      have HS : Hid (∀ W, Below W4.heap.size W4 W → Calls Tryd.prog 25 #[.agg #[.int .i64 tk, .int .i64 tn, .string ts, .slice ta tl.length tc], .agg #[.int .i64 uk, .int .i64 un, .string us, .slice ua ul.length uc]] W fun e w' => e = .returned (.bool r) ∧ Below W.heap.size W w') := fun W hW => by
        have := refSame_any (nrm X) (nrm Y) _ _ W (HX.out.1.up hW hW.size) (HX.out.2.1.up hW hW.size)
        rw [hr] at this
        exact this
      clear hr ht hu hb te ue hg hh
      simp only [List.length_cons, List.length_nil, Nat.zero_add]
      go_wp2_with fail
      apply wp_region_mono [.det (.slice (some ⟨bx, ox, none⟩) 1 cx), .det (.pointer (some ⟨bx, ox, none⟩)), .det (.agg #[.int .i64 tk, .int .i64 tn, .string ts, .slice ta tl.length tc]), .det (.slice (some ⟨by', oy, none⟩) 1 cy), .det (.pointer (some ⟨by', oy, none⟩)), .det (.agg #[.int .i64 uk, .int .i64 un, .string us, .slice ua ul.length uc]), .det (.bool r), .det (.bool r), .det (.int .i64 0)] (by kernel_rfl) (by kernel_rfl)
      rotate_left
      · iterate 6 (
          refine wpM_step (fun K hK => ?_)
          go_simp
          apply And.intro
          · intro w' hC _
            have q1 := hC.old.1
            have hbs := hC.old.2.2
            clear hC
            go_simp
            exact Ext.refl _
          refine nextM_det (hK _ _ ?_)
          clear hK K)
        refine wpM_step (fun K hK => ?_)
        go_simp
        apply And.intro
        · intro w' hC _
          have hS := HS.out w' hC
          clear hC
          go_simp
          refine ⟨Ext.refl _, hS.mono ?_⟩
          rintro e w1 ⟨rfl, B⟩
          exact ⟨rfl, B⟩
        refine nextM_det (hK _ _ ?_)
        clear hK K
        iterate 2 (
          refine wpM_step (fun K hK => ?_)
          go_simp
          apply And.intro
          · intro w' hC _
            have q1 := hC.old.1
            have hbs := hC.old.2.2
            clear hC
            go_simp
            exact Ext.refl _
          refine nextM_det (hK _ _ ?_)
          clear hK K)
        refine wpM_nil ?_
        intro W3 hC _
        have hb3 := HX.out.2.2.trans (Below.mono hC HX.out.2.2.size)
        clear hC
        go_wp2_with fail
        go_ret2
        exact ⟨by rw [HV.out.1, HV.out.2]; rfl, hb3⟩
      · intro y hy
        simp only [List.mem_cons, List.not_mem_nil, or_false] at hy
        rcases hy with rfl | rfl | rfl | rfl | rfl | rfl | rfl | rfl | rfl <;> first | trivial
set_option maxRecDepth 100000 in
set_option maxHeartbeats 4000000 in
theorem refMatch_any (X Y : Tr) (v u : Value) (w : World) (hx : IsT w.heap.size w X v) (hy : IsT w.heap.size w Y u) (hsx : X.size ≤ 1000000) (hdx : X.deep ≤ 1000000) (hsy : Y.size ≤ 1000000) (hdy : Y.deep ≤ 1000000) :
    Calls Tryd.prog 50 #[v, u] w (MtPost X Y w) := by
  replace hsx : X.size ≤ 1000000000 := by omega
  replace hdx : X.deep ≤ 1000000000 := by omega
  replace hsy : Y.size ≤ 1000000000 := by omega
  replace hdy : Y.deep ≤ 1000000000 := by omega
  obtain ⟨k, n, s, a, m, c, rfl⟩ := (IsT.toP _ _ hx).form
  obtain ⟨k', n', s', a', m', c', rfl⟩ := (IsT.toP _ _ hy).form
  have bbx : Box ((w.alloc (.cells #[.int .i64 k, .int .i64 n, .string s, .slice a m c] 25)).alloc (.cells #[.int .i64 k', .int .i64 n', .string s', .slice a' m' c'] 25)) w.heap.size #[.int .i64 k, .int .i64 n, .string s, .slice a m c] 25 := (Box.at rfl).alloc _
  have bby : Box ((w.alloc (.cells #[.int .i64 k, .int .i64 n, .string s, .slice a m c] 25)).alloc (.cells #[.int .i64 k', .int .i64 n', .string s', .slice a' m' c'] 25)) (w.heap.size + 1) #[.int .i64 k', .int .i64 n', .string s', .slice a' m' c'] 25 := Box.at (by simp)
  have hb := below_a2 (Nat.le_refl w.heap.size) (.cells #[.int .i64 k, .int .i64 n, .string s, .slice a m c] 25) (.cells #[.int .i64 k', .int .i64 n', .string s', .slice a' m' c'] 25)
  replace hx := hx.up hb hb.size
  replace hy := hy.up hb hb.size
  go_enter Tryd.func50, Tryd.ntmps50
  have qx0 := bbx.cell 0
  have qx1 := bbx.cell 1
  have qx2 := bbx.cell 2
  have qx3 := bbx.cell 3
  have lx := bbx.lt
  simp only [List.getElem?_toArray, List.getElem?_cons_succ, List.getElem?_cons_zero] at qx0 qx1 qx2 qx3
  go_wp2_with fail
  clear qx0 qx1 qx2 qx3 lx
  refine (refCheck_any X _ _ hx hsx hdx).mono ?_
  rintro e W1 ⟨rfl, B⟩
  replace bbx := Box.keep B bbx
  replace bby := Box.keep B bby
  replace hx := hx.up B B.size
  replace hy := hy.up B B.size
  replace hb := hb.trans (B.mono hb.size)
  clear B
  cases hr : isB X with
  | false =>
    have hf : (isB X && isB Y) = false := by rw [hr]; rfl
    clear hr
    rw [show errI false = 3 from rfl]
    have HF := Lib.hid (MtPost.no (p := X) (t := Y) (by rw [matchR, hf]; rfl) 3 (by rw [hf]; rfl) hb)
    clear hf hb
    go_wp2_with fail
    exact bodyPost_ret (v := .tuple #[.slice none 0 0, .bool false, .int .i64 3]) (by simp [results, Tryd.results50, go_sem]) rfl (HF.out)
  | true =>
    rw [show errI true = 0 from rfl]
    have HRX := Lib.hid hr
    clear hr
    have qy0 := bby.cell 0
    have qy1 := bby.cell 1
    have qy2 := bby.cell 2
    have qy3 := bby.cell 3
    have ly := bby.lt
    simp only [List.getElem?_toArray, List.getElem?_cons_succ, List.getElem?_cons_zero] at qy0 qy1 qy2 qy3
    go_wp2_with fail
    clear qy0 qy1 qy2 qy3 ly
    refine (refCheck_any Y _ _ hy hsy hdy).mono ?_
    rintro e W2 ⟨rfl, B⟩
    replace bbx := Box.keep B bbx
    replace bby := Box.keep B bby
    replace hx := hx.up B B.size
    replace hy := hy.up B B.size
    replace hb := hb.trans (B.mono hb.size)
    clear B
    cases hr : isB Y with
    | false =>
      have hf : (isB X && isB Y) = false := by rw [HRX.out, hr]; rfl
      clear hr
      rw [show errI false = 3 from rfl]
      have HF := Lib.hid (MtPost.no (p := X) (t := Y) (by rw [matchR, hf]; rfl) 3 (by rw [hf]; rfl) hb)
      clear hf hb
      go_wp2_with fail
      exact bodyPost_ret (v := .tuple #[.slice none 0 0, .bool false, .int .i64 3]) (by simp [results, Tryd.results50, go_sem]) rfl (HF.out)
    | true =>
      rw [show errI true = 0 from rfl]
      have HRY := Lib.hid hr
      clear hr
      have hmg := mgR_eq X Y
      rw [mgR, HRX.out, HRY.out, Bool.and_self, if_pos rfl] at hmg
      have HMG := Lib.hid hmg
      clear hmg
      have HE : Hid ((0 : Int) = errI (isB X && isB Y)) := by rw [HRX.out, HRY.out]; rfl
      have hvs : varsIn 100000 X := hiT_vars (isB_pos HRX.out) (by have := hiT_le HRX.out; omega)
      have qx0 := bbx.cell 0
      have qx1 := bbx.cell 1
      have qx2 := bbx.cell 2
      have qx3 := bbx.cell 3
      have qy0 := bby.cell 0
      have qy1 := bby.cell 1
      have qy2 := bby.cell 2
      have qy3 := bby.cell 3
      have lx := bbx.lt
      have ly := bby.lt
      simp only [List.getElem?_toArray, List.getElem?_cons_succ, List.getElem?_cons_zero] at qx0 qx1 qx2 qx3 qy0 qy1 qy2 qy3
      go_wp2_with fail
      clear qx0 qx1 qx2 qx3 qy0 qy1 qy2 qy3 lx ly
      refine (refMatch1_any W2.heap.size X Y [] _ _ (.slice none 0 0) _ hx hy (Nat.le_refl _) (RowF.nil _ _) hvs).mono ?_
      rintro e W3 ⟨v', rfl, hr, hg, -, -⟩
      have B : Below W2.heap.size W2 W3 := grown_below' hg (Nat.le_refl _) (fun g e => by cases e)
      have hb2 := hb.trans (B.mono hb.size)
      have HS := Lib.hid (hr.isS B.size)
      clear hr hg B bbx bby hx hy hvs hb
      obtain ⟨R, hR⟩ : ∃ R, mgT X Y [] = R := ⟨_, rfl⟩
      rw [hR] at HMG HS ⊢
      clear hR
      cases hb : R.2 with
      | false =>
        have HF := Lib.hid (MtPost.no (p := X) (t := Y) (by rw [← HMG.out, hb]; rfl) 0 HE.out hb2)
        clear hb hb2 HS
        go_wp2_with fail
        exact bodyPost_ret (v := .tuple #[.slice none 0 0, .bool false, .int .i64 0]) (by simp [results, Tryd.results50, go_sem]) rfl (HF.out)
      | true =>
        have HF := Lib.hid (MtPost.yes (p := X) (t := Y) (by rw [← HMG.out, hb]; rfl) HS.out hb2)
        clear hb hb2 HS
        go_wp2_with fail
        exact bodyPost_ret (v := .tuple #[v', .bool true, .int .i64 0]) (by simp [results, Tryd.results50, go_sem]) rfl (HF.out)
end Go.Proofs.YtlaeaoecmnaneaaDoor
