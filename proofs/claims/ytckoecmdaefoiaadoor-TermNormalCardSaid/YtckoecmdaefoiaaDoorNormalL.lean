/- The law of normal terms. -/
import Derived.Test.YtckoecmdaefoiaaDoorShift
import Derived.Test.YtckoecmdaefoiaaDoorRowAt
import Derived.Test.YtckoecmdaefoiaaDoorTog
namespace Go.Proofs.YtckoecmdaefoiaaDoor
open Go.RowKit Go

attribute [local go_sem] monoUpon Yld.says

/-- What stands between the rounds of the law's two loops. -/
def NormB (w : World) (vs : List Int) (j : Nat) (ov : Value) (wr : World) : Prop := ∃ xs, RowAt 0 w.heap.size w ((vs.take j).map tV) ov xs wr
def NormS (w : World) (n : Int) (l : List Tr) (j : Nat) (ov : Value) (wr : World) : Prop := (l.take j).all (shOk n) = true ∧ ∃ xs, RowAt 0 w.heap.size w ((l.take j).map (renT (shF n))) ov xs wr

set_option maxRecDepth 100000 in
set_option maxHeartbeats 8000000 in
theorem termNormal_any (l : List Tr) (n : Int) (hn : okI n) (a : Option Addr) (c : Nat) (w : World) (h4 : l.length ≤ c) (h5 : c ≤ maxLen) (hl : IsL w.heap.size w l a) (htab : Lib.TabBelow Tryd.prog w.heap.size w "internal/strconv.uint64pow10" .u64 Lib.pow10Tab) :
    Calls Tryd.prog 12 #[.slice a l.length c, .int .i64 n] w fun e w' => e = .returned (.bool true) ∧ Below w.heap.size w w' := by
  have hlm : l.length ≤ 9223372036854775807 := by unfold maxLen at h5; omega
  have hb := Below.refl w.heap.size w
  go_enter Tryd.func12, Tryd.ntmps12
  go_wp2_with fail
  refine (sane_any _ (fun w'' h => htab w'' (hb.trans (h.mono hb.size)))).mono ?_
  rintro e W1 ⟨rfl, B⟩
  replace hl := hl.up B B.size
  replace hb := hb.trans (B.mono hb.size)
  clear B
  clear htab
  go_wp2_with fail
  refine (small_any l a c _ (Nat.le_trans h4 h5) hl).mono ?_
  rintro e W2 ⟨rfl, B⟩
  replace hl := hl.up B B.size
  replace hb := hb.trans (B.mono hb.size)
  clear B
  cases hr : smallB l with
  | false =>
    clear hr
    go_wp2_with fail
    go_ret
    exact ⟨rfl, hb⟩
  | true =>
    have HSM := Lib.hid (small_size hr)
    have HDP : Hid (∀ t, t ∈ l → t.deep ≤ 600000) := fun t ht => by have := (small_mem hr ht).2; omega
    clear hr
    go_wp2_with fail
    refine (refTogN_any l a c _ hl (by have := HSM.out.1; omega) (fun t ht => by have := HDP.out t ht; omega)).mono ?_
    rintro e W3 ⟨rfl, B⟩
    replace hl := hl.up B B.size
    replace hb := hb.trans (B.mono hb.size)
    clear B
    cases hr : togB l with
    | false =>
      clear hr
      go_wp2_with fail
      go_ret
      exact ⟨rfl, hb⟩
    | true =>
      have HT := Lib.hid hr
      have HNT := Lib.hid (normT_tog hr)
      have HNN := Lib.hid (normT_normT (tog_parts hr).2.2)
      have HVL := Lib.hid (vars_len hr)
      have HNL := Lib.hid (names_len hr)
      have HLE : Hid ((normT l).length = l.length) := by simp [Hid, normT]
      clear hr
      go_wp2_with fail
      refine (Normal_any l a c _ (Nat.le_trans h4 h5) hl (fun t ht => by have := HDP.out t ht; omega)).mono ?_
      rintro e W4 ⟨B, hp⟩
      rw [HT.out] at hp
      obtain ⟨v, u, rfl, ⟨an, cn, rfl, hn1, hn2, hnl⟩, hu⟩ := hp
      replace hnl := hnl.toL (n₀ := W4.heap.size) (fun _ h => h.2)
      replace hu := hu.rd
      rw [HLE.out] at hn1 ⊢
      replace hl := hl.up B B.size
      replace hb := hb.trans (B.mono hb.size)
      clear B
      obtain ⟨au, cu, rfl, hu1, hu2⟩ := hu
      have HU := Lib.hid hu2
      have HUW : Hid (Below W4.heap.size W4 W4) := Below.refl _ _
      have hvl : (varsL [] l).length ≤ 9223372036854775807 := by have := HVL.out; omega
      clear hu2
      go_wp2_with fail
      have hnq := Normal_any (normT l) an cn W4 (by rw [HLE.out]; exact Nat.le_trans h4 h5) hnl (fun t ht => by have := (isB_size ((tog_parts HNT.out).1 t ht)).2; omega)
      rw [HLE.out] at hnq
      refine hnq.mono ?_
      clear hnq
      rintro e W5 ⟨B, hp⟩
      rw [HNT.out, HNN.out] at hp
      obtain ⟨v2, u2, rfl, ⟨am, cm, rfl, hm1, hm2, hml⟩, hu2⟩ := hp
      replace hml := hml.toL (n₀ := W5.heap.size) (fun _ h => h.2)
      replace hu2 := hu2.rd
      rw [HLE.out] at hm1 ⊢
      have HUW2 : Hid (Below W4.heap.size W4 W5) := HUW.out.trans (B.mono HUW.out.size)
      replace hl := hl.up B B.size
      replace hnl := hnl.up B B.size
      replace hb := hb.trans (B.mono hb.size)
      clear B
      obtain ⟨ao, co, hoe, ho1, ho2⟩ := hu2
      rw [HNL.out] at hoe ho2
      subst hoe
      have HO := Lib.hid ho2
      clear HUW ho2
      go_wp2_with fail
      have hsq := refSameAll (normT l) (normT l) _ _ W5 ⟨an, cn, rfl, by rw [HLE.out]; exact hn1, hn2, hnl⟩ ⟨am, cm, rfl, by rw [HLE.out]; exact hm1, hm2, hml⟩
      rw [HLE.out, show eqLT (normT l) (normT l) = true by simp [eqLT]] at hsq
      refine hsq.mono ?_
      clear hsq
      rintro e W6 ⟨rfl, B⟩
      have HO2 : Hid (Below W5.heap.size W5 W6) := B
      have HUW3 : Hid (Below W4.heap.size W4 W6) := HUW2.out.trans (B.mono HUW2.out.size)
      replace hl := hl.up B B.size
      replace hnl := hnl.up B B.size
      replace hml := hml.up B B.size
      replace hb := hb.trans (B.mono hb.size)
      clear B
      clear hml
      clear HUW2 hm1 hm2
      go_wp2_with fail
      generalize hvs : varsL [] l = vs at *
      have HVS := Lib.hid hvs
      have HB0 := Lib.hid hb
      have HL0 := Lib.hid (And.intro hl hnl)
      have HOK : Hid (∀ x, x ∈ vs → 0 ≤ x ∧ x < 100000) := fun x hx => vars_range HT.out (by rw [hvs]; exact hx)
      have HON : Hid (∀ j, j < vs.length → (varsL [] (normT l)).getD j 0 = (j : Int)) := fun j hj => by
        have := normT_name (tog_parts HT.out).2.2 (i := j) (by rw [hvs]; exact hj)
        rw [List.getD, this]; rfl
      clear hvs hb hl hnl
      obtain ⟨i0, hi, hz0, hz1, hz2⟩ := info_parts infoTerm
      go_loopw [10, 68] (fun bv i wr => ∃ j : Nat, j ≤ vs.length ∧ i = .int .i64 j ∧ NormB W6 vs j bv wr) (fun _ i _ => vs.length - (intOf i).toNat)
      case atStart => exact ⟨0, Nat.zero_le _, rfl, [], RowAt.nil (Below.refl _ _) (Nat.zero_le _) (Nat.le_refl _) (Nat.le_refl _)⟩
      case round =>
        obtain ⟨j, hj, rfl, xs, hR⟩ := hrel
        have HR := Lib.hid hR
        have hBr := hR.below
        clear hR
        by_cases hlt : j < vs.length
        ·
          obtain ⟨bo, oo, rfl, hbo, hco⟩ := HO.out (by omega)
          obtain ⟨bu, ou, rfl, hbu, hcu⟩ := HU.out (by omega)
          have hWo : Below W5.heap.size W5 wr := HO2.out.trans (hBr.mono HO2.out.size)
          have hWu : Below W4.heap.size W4 wr := HUW3.out.trans (hBr.mono HUW3.out.size)
          have d0 := (hWo.cell (p := ⟨bo, oo + j, none⟩) hbo).trans (hco j hlt)
          have d1 := (hWu.cell (p := ⟨bu, ou + j, none⟩) hbu).trans (hcu j hlt)
          rw [HON.out j hlt] at d0
          obtain ⟨x, hx⟩ : ∃ x, vs[j] = x := ⟨_, rfl⟩
          simp only [List.getD, List.getElem?_eq_getElem hlt, Option.getD_some, hx] at d1
          have hxr := HOK.out x (by rw [← hx]; exact List.getElem_mem hlt)
          have HX := Lib.hid hx
          have hbo' : bo < wr.heap.size := by have := hWo.size; omega
          have hbu' : bu < wr.heap.size := by have := hWu.size; omega
          have hjm : j ≤ 4000 := by have := HVL.out; omega
          clear hWo hWu hco hcu hx hBr
          go_wp2_with fail
          refine (mkV x (by unfold okI; omega) _).mono ?_
          rintro e W9 ⟨av, cv, rfl, hv, B⟩
          obtain ⟨av', cv', he, _, _, _, _, hcv, _⟩ := hv.open
          cases he
          have hR9 := HR.out.up B
          have hsz := B.size
          have hlen : ((vs.take j).map tV).length = j := by simp; omega
          have hown := hR9.own
          rw [hlen] at hown
          have hlo := hR9.hlo
          have HR9 := Lib.hid (And.intro hR9 hlen)
          clear hR9 hlen B hv d0 d1
          go_wp2_with (at_builtin; refine wpList_append_where rfl _ _ 22 rfl W6.heap.size 25 i0 _ 4 56 Tryd.underlying22 hi hz0 hz1 hz2 rfl (by decide) _ _ _ rfl (World.ownsRow.alloc hown _) ⟨W9.heap.size, 0, none⟩ 1 1 [.int .i64 1, .int .i64 x, .string emp, .slice av 0 cv] rfl rfl (cells_of_box (Box.at rfl)) (one_cells _ _ _ _ _ _) (by unfold maxLen; omega) (by omega) (by simp; omega) ?_)
          intro v2 w3 hown3 hgrow hwh
          obtain ⟨hR9, hlen⟩ := HR9.out
          have hRn := hR9.push (t := tV x) (IsP.mk (l := []) (by unfold okI; omega) (by unfold okI; omega) (by decide) (Nat.zero_le _) hcv IsPL.nil) (by rw [hlen]; exact hown3) hgrow (fun b h => (hwh b h).imp id (fun h => by first | omega | (simp; omega) | (simp at h ⊢; omega)))
          rw [← List.map_singleton, ← List.map_append, ← HX.out, ← List.take_succ_eq_append_getElem hlt] at hRn
          have HRn := Lib.hid hRn
          clear hRn hown3 hgrow hwh hown hR9 hlen
          go_wp2_with fail
          go_roundw
          case rel => exact ⟨j + 1, hlt, by go_num, _, HRn.out⟩
          case measure => simp [intOf]; omega
        ·
          have hR := HR.out
          rw [List.take_of_length_le (by omega)] at hR
          obtain ⟨ab, cb, rfl, hb1, hb2, hbl⟩ := hR.done
          replace hbl := OA.lt hbl
          rw [List.length_map] at hb1 ⊢
          have HL1 := Lib.hid (And.intro (HL0.out.1.up hBr hBr.size) (And.intro (HL0.out.2.up hBr hBr.size) (And.intro hbl (HB0.out.trans (hBr.mono HB0.out.size)))))
          have hvl2 : vs.length ≤ cb := hb1
          clear hR HR HO HU HO2 HUW3 HON hbl hBr HL0 HB0 hu1 ho1
          obtain ⟨wo, rfl⟩ : ∃ wo : World, wo = wr := ⟨_, rfl⟩
          go_wp2_with fail
          go_loopw [11, 87] (fun mv i wr => ∃ j : Nat, j ≤ l.length ∧ i = .int .i64 j ∧ NormS wo n l j mv wr) (fun _ i _ => l.length - (intOf i).toNat)
          case atStart => exact ⟨0, Nat.zero_le _, rfl, rfl, [], RowAt.nil (Below.refl _ _) (Nat.zero_le _) (Nat.le_refl _) (Nat.le_refl _)⟩
          case round =>
            obtain ⟨j2, hj2, rfl, hall, xs2, hR⟩ := hrel
            have HR := Lib.hid (And.intro hall hR)
            have hBr := hR.below
            clear hR hall
            by_cases hlt2 : j2 < l.length
            ·
              have hnlj : j2 < (normT l).length := by rw [HLE.out]; exact hlt2
              obtain ⟨b, off, rfl, hbl⟩ := HL1.out.1.addr (by omega)
              obtain ⟨bn, on, rfl, hbn⟩ := HL1.out.2.1.addr (by omega)
              obtain ⟨tk, tn, ts, tl, ta, tc, te, d0, d1, d2, d3, ht⟩ := HL1.out.2.1.node' hbn hBr j2 hnlj
              obtain ⟨lk, ln, ls, ll, la, lc, le, e0, e1, e2, e3, hlj⟩ := HL1.out.1.node' hbl hBr j2 hlt2
              have hbk := back_subst HT.out hlt2 (X := (normT l)[j2]) (by simp [normT])
              rw [HVS.out] at hbk
              have hbo := back_ok HT.out
              rw [HVS.out] at hbo
              have hq := Subst_ok (.agg #[.int .i64 tk, .int .i64 tn, .string ts, .slice ta tl.length tc]) ab cb wr (ht.up hBr hBr.size) hbk.1 hbo (by rw [List.length_map]; exact hvl2) hb2 (HL1.out.2.2.1.up hBr hBr.size) l[j2] 0 hbk.2.2 hbk.2.1
              rw [List.length_map] at hq
              have HQ := Lib.hid hq
              have HLJ := Lib.hid (And.intro hlj le)
              have hwr := hBr.size
              have hbl' : b < wr.heap.size := by omega
              have hbn' : bn < wr.heap.size := by omega
              have HBR := Lib.hid hBr
              have hTL := (tog_parts HT.out).1 l[j2] (List.getElem_mem hlt2)
              have HTL := Lib.hid hTL
              clear te ht hlj le hq hbk hbo hBr hTL
              go_wp2_with fail
              refine HQ.out.mono ?_
              rintro e W9 ⟨kb, nb, sb', au', mb, cu', rfl, hbk, B⟩
              have hB9 := HBR.out.trans (B.mono HBR.out.size)
              have hR9 := HR.out.2.up B
              clear HQ d0 d1 d2 d3 e0 e1 e2 e3 B
              go_wp2_with fail
              have bbu : Box (W9.alloc (.cells #[.int .i64 kb, .int .i64 nb, .string sb', .slice au' mb cu'] 25)) W9.heap.size #[.int .i64 kb, .int .i64 nb, .string sb', .slice au' mb cu'] 25 := Box.at rfl
              have B := below_a1 (Nat.le_refl W9.heap.size) (.cells #[.int .i64 kb, .int .i64 nb, .string sb', .slice au' mb cu'] 25)
              replace hB9 := hB9.trans (B.mono hB9.size)
              replace hR9 := hR9.up B
              replace hbk := hbk.up B B.size
              generalize (W9.alloc (.cells #[.int .i64 kb, .int .i64 nb, .string sb', .slice au' mb cu'] 25)) = WA at *
              have p0 := bbu.cell 0
              have p1 := bbu.cell 1
              have p2 := bbu.cell 2
              have p3 := bbu.cell 3
              have l20 := bbu.lt
              simp only [List.getElem?_toArray, List.getElem?_cons_succ, List.getElem?_cons_zero] at p0 p1 p2 p3
              obtain ⟨lk', ln', ls', ll', la', lc', le', g0, g1, g2, g3, hlj'⟩ := HL1.out.1.node' hbl hB9 j2 hlt2
              rw [HLJ.out.2] at le'
              cases le'
              have hbl2 : b < WA.heap.size := by have := hB9.size; omega
              have HK : Hid (∀ W, Below WA.heap.size WA W → Calls Tryd.prog 25 #[.agg #[.int .i64 kb, .int .i64 nb, .string sb', .slice au' mb cu'], .agg #[.int .i64 lk, .int .i64 ln, .string ls, .slice la' ll.length lc']] W fun e w' => e = .returned (.bool true) ∧ Below W.heap.size W w') := fun W hW => sane_same l[j2] _ _ W (hbk.up hW hW.size) ((hlj'.up hB9 hB9.size).up hW hW.size)
              have HB9 := Lib.hid (And.intro hB9 hR9)
              clear hlj' hB9 hR9 hbk B bbu
              apply wp_region_mono [.det (.int .i64 0), .det (.bool false), .det (.bool false), .det (.agg #[.int .i64 kb, .int .i64 nb, .string sb', .slice au' mb cu']), .det (.slice (some ⟨b, off, none⟩) l.length c), .det (.int .i64 j2), .det (.pointer (some ⟨b, off + j2 * 4, none⟩)), .det (.agg #[.int .i64 lk, .int .i64 ln, .string ls, .slice la' ll.length lc']), .det (.bool true), .det (.bool false), .det (.bool false)] (by kernel_rfl) (by kernel_rfl)
              rotate_left
              · iterate 8 (
                  refine wpM_step (fun K hK => ?_)
                  go_simp
                  apply And.intro
                  · intro w' hC _
                    have q1 := hC.old.1
                    have hbs := hC.old.2.2
                    clear hC
                    go_simp
                    exact Ext.refl _
                  refine nextM_det (hK _ _ ?_)
                  clear hK K)
                refine wpM_step (fun K hK => ?_)
                go_simp
                apply And.intro
                · intro w' hC _
                  have hS := HK.out w' hC
                  clear hC
                  go_simp
                  refine ⟨Ext.refl _, hS.mono ?_⟩
                  rintro e w1 ⟨rfl, B⟩
                  exact ⟨rfl, B⟩
                refine nextM_det (hK _ _ ?_)
                clear hK K
                iterate 2 (
                  refine wpM_step (fun K hK => ?_)
                  go_simp
                  apply And.intro
                  · intro w' hC _
                    have q1 := hC.old.1
                    have hbs := hC.old.2.2
                    clear hC
                    go_simp
                    exact Ext.refl _
                  refine nextM_det (hK _ _ ?_)
                  clear hK K)
                refine wpM_nil ?_
                intro WB hC _
                have hBB : Below WA.heap.size WA WB := hC
                have hB10 := HB9.out.1.trans (hBB.mono HB9.out.1.size)
                have hR10 := HB9.out.2.up hBB
                clear hC hBB HK HB9 p0 p1 p2 p3 l20 g0 g1 g2 g3
                obtain ⟨lk2, ln2, ls2, ll2, la2, lc2, le2, g0, g1, g2, g3, hlj2⟩ := HL1.out.1.node' hbl hB10 j2 hlt2
                rw [HLJ.out.2] at le2
                cases le2
                have hbl3 : b < WB.heap.size := by have := hB10.size; omega
                have hsq := shift_any l[j2] n hn _ WB (hlj2.up hB10 hB10.size) (by have := (isB_size HTL.out).2; omega)
                have HSQ := Lib.hid hsq
                have HB10 := Lib.hid (And.intro hB10 hR10)
                clear hlj2 hsq hB10 hR10
                go_wp2_with fail
                refine HSQ.out.mono ?_
                rintro e WC ⟨v', rfl, hP, B⟩
                obtain ⟨yk, yn, ys, ya, ym, yc, rfl⟩ := hP.form
                have hB11 := HB10.out.1.trans (B.mono HB10.out.1.size)
                have hR11 := HB10.out.2.up B
                clear g0 g1 g2 g3 HSQ
                cases hs : shOk n l[j2] with
                | false =>
                  have HE : Hid (shE n l[j2] = 1) := by rw [Hid, shE, HTL.out, hs]; rfl
                  rw [HE.out]
                  clear hs hP
                  go_wp2_with fail
                  go_ret
                  exact ⟨rfl, HL1.out.2.2.2.trans ((hB11.trans (below_a1 hB11.size _)).mono HL1.out.2.2.2.size)⟩
                | true =>
                  have HE : Hid (shE n l[j2] = 0 ∧ shV n l[j2] = renT (shF n) l[j2]) := by rw [Hid, shE, shV, HTL.out, hs]; exact ⟨rfl, rfl⟩
                  rw [HE.out.1]
                  rw [HE.out.2] at hP
                  have hal : (l.take (j2 + 1)).all (shOk n) = true := by rw [List.take_succ_eq_append_getElem hlt2, List.all_append, HR.out.1]; simp [hs]
                  have HAL := Lib.hid hal
                  clear hs hal
                  have hx0 : Box (WC.alloc (.cells #[.int .i64 yk, .int .i64 yn, .string ys, .slice ya ym yc] 25)) WC.heap.size #[.int .i64 yk, .int .i64 yn, .string ys, .slice ya ym yc] 25 := Box.at rfl
                  have p0 := hx0.cell 0
                  have p1 := hx0.cell 1
                  have p2 := hx0.cell 2
                  have p3 := hx0.cell 3
                  simp only [List.getElem?_toArray, List.getElem?_cons_succ, List.getElem?_cons_zero] at p0 p1 p2 p3
                  have hBC := below_a1 (Nat.le_refl WC.heap.size) (.cells #[.int .i64 yk, .int .i64 yn, .string ys, .slice ya ym yc] 25)
                  have hR12 := hR11.up hBC
                  have hP12 : IsP (OB 0 wo.heap.size _ (WC.alloc (.cells #[.int .i64 yk, .int .i64 yn, .string ys, .slice ya ym yc] 25))) (WC.alloc (.cells #[.int .i64 yk, .int .i64 yn, .string ys, .slice ya ym yc] 25)) (renT (shF n) l[j2]) (.agg #[.int .i64 yk, .int .i64 yn, .string ys, .slice ya ym yc]) := OB.new HB10.out.2 (Nat.le_refl _) (New.below hP hBC (Nat.le_refl _))
                  have hlen : ((l.take j2).map (renT (shF n))).length = j2 := by simp; omega
                  have hown := hR12.own
                  rw [hlen] at hown
                  have hlo := hR12.hlo
                  have hl4 : j2 ≤ 4000 := by have := (tog_parts HT.out).2.1; have := length_le_sizeL l; omega
                  have HR12 := Lib.hid (And.intro hR12 (And.intro hP12 hlen))
                  clear hR12 hP12 hlen hP hR11 hBC hx0 B
                  go_wp2_with (at_builtin; refine wpList_append_where rfl _ _ 22 rfl wo.heap.size 25 i0 _ 4 56 Tryd.underlying22 hi hz0 hz1 hz2 rfl (by decide) _ _ _ rfl (World.ownsRow.alloc hown _) ⟨WC.heap.size + 1, 0, none⟩ 1 1 [.int .i64 yk, .int .i64 yn, .string ys, .slice ya ym yc] rfl rfl (cells_of_box (Box.at (by simp))) (one_cells _ _ _ _ _ _) (by unfold maxLen; omega) (by omega) (by simp; simp at hlo; omega) ?_)
                  intro v2 w3 hown3 hgrow hwh
                  obtain ⟨hR12, hP12, hlen⟩ := HR12.out
                  have hRn := hR12.push hP12 (by rw [hlen]; exact hown3) hgrow (fun b h => (hwh b h).imp id (fun h => by first | omega | (simp; omega) | (simp at h ⊢; omega)))
                  rw [← List.map_singleton, ← List.map_append, ← List.take_succ_eq_append_getElem hlt2] at hRn
                  have HRn := Lib.hid hRn
                  clear hRn hown3 hgrow hwh hown hR12 hP12 hlen p0 p1 p2 p3
                  go_wp2_with fail
                  go_roundw
                  case rel => exact ⟨j2 + 1, hlt2, by go_num, HAL.out, _, HRn.out⟩
                  case measure => simp [intOf]; omega
              · intro y hy
                simp only [List.mem_cons, List.not_mem_nil, or_false] at hy
                rcases hy with rfl | rfl | rfl | rfl | rfl | rfl | rfl | rfl | rfl | rfl | rfl <;> first | trivial
            ·
              have hR := HR.out.2
              have hall := HR.out.1
              rw [List.take_of_length_le (by omega)] at hR hall
              rw [← renL_map] at hR
              obtain ⟨am, cm, rfl, hm1, hm2, hml⟩ := hR.done
              replace hml := OA.lt hml
              obtain ⟨hs1, hs2⟩ := shift_norm HT.out hall
              have hlr : (renL (shF n) l).length = l.length := by rw [renL_map, List.length_map]
              have HX := Lib.hid (And.intro hs1 (And.intro hs2 (And.intro hlr hml)))
              have hq := Normal_any (renL (shF n) l) am cm wr (Nat.le_trans hm1 hm2) hml (fun t ht => by have := (isB_size ((tog_parts hs1).1 t ht)).2; omega)
              have HQ := Lib.hid hq
              have HBR := Lib.hid hBr
              clear hq hs1 hs2 hlr hml hR hall HR hBr
              go_wp2_with fail
              refine HQ.out.mono ?_
              rintro e W9 ⟨B, hp⟩
              rw [HX.out.1, HX.out.2.1] at hp
              obtain ⟨v2, u2, rfl, ⟨ap, cp, rfl, hp1, hp2, hpl⟩, hu2⟩ := hp
              obtain ⟨aq, cq, rfl, _⟩ := hu2.rd
              replace hpl := hpl.toL (n₀ := W9.heap.size) (fun _ h => h.2)
              have hB9 := HBR.out.trans (B.mono HBR.out.size)
              have hsq := refSameAll (normT l) (normT l) _ _ W9 ⟨ap, cp, rfl, hp1, hp2, hpl⟩ ⟨an, cn, rfl, by rw [HLE.out]; exact hn1, hn2, HL1.out.2.1.up hB9 hB9.size⟩
              rw [HLE.out, show eqLT (normT l) (normT l) = true by simp [eqLT]] at hsq
              rw [HLE.out]
              have HSQ := Lib.hid hsq
              have HB9 := Lib.hid hB9
              clear hsq hB9 hpl hu2 B
              go_wp2_with fail
              refine HSQ.out.mono ?_
              rintro e WA ⟨rfl, B⟩
              have HF := Lib.hid (HL1.out.2.2.2.trans ((HB9.out.trans (B.mono HB9.out.size)).mono HL1.out.2.2.2.size))
              clear B
              go_wp2_with fail
              go_ret
              exact ⟨rfl, HF.out⟩
end Go.Proofs.YtckoecmdaefoiaaDoor
