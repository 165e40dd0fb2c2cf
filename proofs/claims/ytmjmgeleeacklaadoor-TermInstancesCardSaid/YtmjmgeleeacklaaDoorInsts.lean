import Derived.Test.YtmjmgeleeacklaaDoorSbs
namespace Go.Proofs.YtmjmgeleeacklaaDoor
open Go.RowKit Go

attribute [local go_sem] monoUpon Yld.says

set_option maxRecDepth 100000 in
set_option maxHeartbeats 8000000 in
theorem termInstances_any (X Z : Tr) (l : List Tr) (vp vt : Value) (a : Option Addr) (c : Nat) (w : World) (hp : IsT w.heap.size w X vp) (ht : IsT w.heap.size w Z vt) (h4 : l.length ≤ c) (h5 : c ≤ maxLen) (hs : IsL w.heap.size w l a) (htab : Lib.TabBelow Tryd.prog w.heap.size w "internal/strconv.uint64pow10" .u64 Lib.pow10Tab) :
    Calls Tryd.prog 13 #[vp, .slice a l.length c, vt] w fun e w' => e = .returned (.bool true) ∧ Below w.heap.size w w' := by
  have hlm : l.length ≤ 9223372036854775807 := by unfold maxLen at h5; omega
  obtain ⟨kp, np, sp, ap, mp, cp, rfl⟩ := (IsT.toP _ _ hp).form
  obtain ⟨kt, nt, st, aat, mt, ct, rfl⟩ := (IsT.toP _ _ ht).form
  have bbp : Box ((w.alloc (.cells #[.int .i64 kp, .int .i64 np, .string sp, .slice ap mp cp] 25)).alloc (.cells #[.int .i64 kt, .int .i64 nt, .string st, .slice aat mt ct] 25)) w.heap.size #[.int .i64 kp, .int .i64 np, .string sp, .slice ap mp cp] 25 := (Box.at rfl).alloc _
  have bbt : Box ((w.alloc (.cells #[.int .i64 kp, .int .i64 np, .string sp, .slice ap mp cp] 25)).alloc (.cells #[.int .i64 kt, .int .i64 nt, .string st, .slice aat mt ct] 25)) (w.heap.size + 1) #[.int .i64 kt, .int .i64 nt, .string st, .slice aat mt ct] 25 := Box.at (by simp)
  have hb := below_a2 (Nat.le_refl w.heap.size) (.cells #[.int .i64 kp, .int .i64 np, .string sp, .slice ap mp cp] 25) (.cells #[.int .i64 kt, .int .i64 nt, .string st, .slice aat mt ct] 25)
  replace hp := hp.up hb hb.size
  replace ht := ht.up hb hb.size
  replace hs := hs.up hb hb.size
  go_enter Tryd.func13, Tryd.ntmps13
  go_wp2_with fail
  refine (sane_any _ (fun w'' h => htab w'' (hb.trans (h.mono hb.size)))).mono ?_
  rintro e W1 ⟨rfl, B⟩
  replace bbp := Box.keep B bbp
  replace bbt := Box.keep B bbt
  replace hp := hp.up B B.size
  replace ht := ht.up B B.size
  replace hs := hs.up B B.size
  replace hb := hb.trans (B.mono hb.size)
  clear B
  clear htab
  have qp0 := bbp.cell 0
  have qp1 := bbp.cell 1
  have qp2 := bbp.cell 2
  have qp3 := bbp.cell 3
  have qt0 := bbt.cell 0
  have qt1 := bbt.cell 1
  have qt2 := bbt.cell 2
  have qt3 := bbt.cell 3
  have lp := bbp.lt
  have lt := bbt.lt
  simp only [List.getElem?_toArray, List.getElem?_cons_succ, List.getElem?_cons_zero] at qp0 qp1 qp2 qp3 qt0 qt1 qt2 qt3
  go_wp2_with fail
  clear qp0 qp1 qp2 qp3 qt0 qt1 qt2 qt3 lp lt
  obtain ⟨sa0, sc0, he0, hs1, hs2, hs3⟩ := isS2 hp ht
  cases he0
  refine (right_any [X, Z] _ 2 _ (by unfold maxLen; simp) hs3).mono ?_
  rintro e W2 ⟨rfl, B⟩
  replace B := up1 B
  replace bbp := Box.keep B bbp
  replace bbt := Box.keep B bbt
  replace hp := hp.up B B.size
  replace ht := ht.up B B.size
  replace hs := hs.up B B.size
  replace hb := hb.trans (B.mono hb.size)
  clear B
  clear hs1 hs2 hs3
  cases hr : rightB [X, Z] with
  | false =>
    clear hr
    go_wp2_with fail
    go_ret
    exact ⟨rfl, hb⟩
  | true =>
    have HI := Lib.hid (And.intro (rightB_mem hr (t := X) (by simp)).1 (rightB_mem hr (t := Z) (by simp)).1)
    clear hr
    go_wp2_with fail
    refine (little1 l a c _ (Nat.le_trans h4 h5) hs).mono ?_
    rintro e W3 ⟨rfl, B⟩
    replace bbp := Box.keep B bbp
    replace bbt := Box.keep B bbt
    replace hp := hp.up B B.size
    replace ht := ht.up B B.size
    replace hs := hs.up B B.size
    replace hb := hb.trans (B.mono hb.size)
    clear B
    cases hr : litB l with
    | false =>
      clear hr
      go_wp2_with fail
      go_ret
      exact ⟨rfl, hb⟩
    | true =>
      have hlit : l.length ≤ 60 ∧ smallB l = true := by simpa [litB] using hr
      have HLIT := Lib.hid hlit
      clear hr hlit
      go_wp2_with fail
      refine (refIsSubst_any l a c _ (by have := HLIT.out.1; omega) hs (fun t ht => by have := small_mem HLIT.out.2 ht; omega)).mono ?_
      rintro e W4 ⟨rfl, B⟩
      replace bbp := Box.keep B bbp
      replace bbt := Box.keep B bbt
      replace hp := hp.up B B.size
      replace ht := ht.up B B.size
      replace hs := hs.up B B.size
      replace hb := hb.trans (B.mono hb.size)
      clear B
      cases hr : subOkB l with
      | false =>
        clear hr
        go_wp2_with fail
        go_ret
        exact ⟨rfl, hb⟩
      | true =>
        have HS := Lib.hid hr
        clear hr
        go_wp2_with fail
        have hvar := varR_inst HI.out.1 HI.out.2
        obtain ⟨r1, hr1⟩ : ∃ r1, instB X Z = r1 := ⟨_, rfl⟩
        obtain ⟨r2, hr2⟩ : ∃ r2, instB Z X = r2 := ⟨_, rfl⟩
        rw [hr1, hr2] at hvar
        have HK : Hid ((∀ W, Below W4.heap.size W4 W → Calls Tryd.prog 58 #[.agg #[.int .i64 kp, .int .i64 np, .string sp, .slice ap mp cp], .agg #[.int .i64 kt, .int .i64 nt, .string st, .slice aat mt ct]] W fun e w' => e = .returned (.bool r1) ∧ Below W.heap.size W w') ∧ (∀ W, Below W4.heap.size W4 W → Calls Tryd.prog 58 #[.agg #[.int .i64 kt, .int .i64 nt, .string st, .slice aat mt ct], .agg #[.int .i64 kp, .int .i64 np, .string sp, .slice ap mp cp]] W fun e w' => e = .returned (.bool r2) ∧ Below W.heap.size W w') ∧ (∀ W, Below W4.heap.size W4 W → Calls Tryd.prog 59 #[.agg #[.int .i64 kp, .int .i64 np, .string sp, .slice ap mp cp], .agg #[.int .i64 kt, .int .i64 nt, .string st, .slice aat mt ct]] W fun e w' => e = .returned (.bool (r1 && r2)) ∧ Below W.heap.size W w')) :=
          ⟨fun W hW => instance_ok HI.out.1 HI.out.2 _ _ W (hp.up hW hW.size) (ht.up hW hW.size) r1 hr1, fun W hW => instance_ok HI.out.2 HI.out.1 _ _ W (ht.up hW hW.size) (hp.up hW hW.size) r2 hr2, fun W hW => variant_ok HI.out.1 HI.out.2 _ _ W (hp.up hW hW.size) (ht.up hW hW.size) _ hvar.symm⟩
        clear hr1 hr2 hvar
        have qp0 := bbp.cell 0
        have qp1 := bbp.cell 1
        have qp2 := bbp.cell 2
        have qp3 := bbp.cell 3
        have qt0 := bbt.cell 0
        have qt1 := bbt.cell 1
        have qt2 := bbt.cell 2
        have qt3 := bbt.cell 3
        simp only [List.getElem?_toArray, List.getElem?_cons_succ, List.getElem?_cons_zero] at qp0 qp1 qp2 qp3 qt0 qt1 qt2 qt3
        have lp := bbp.lt
        have lt := bbt.lt
        cases r1 with
        | false =>
          apply wp_region_mono [.det (.agg #[.int .i64 kp, .int .i64 np, .string sp, .slice ap mp cp]), .det (.agg #[.int .i64 kt, .int .i64 nt, .string st, .slice aat mt ct]), .det (.bool false), .det (.bool false), .det (.agg #[.int .i64 kt, .int .i64 nt, .string st, .slice aat mt ct]), .det (.agg #[.int .i64 kp, .int .i64 np, .string sp, .slice ap mp cp]), .det (.bool r2), .det (.bool false), .det (.agg #[.int .i64 kp, .int .i64 np, .string sp, .slice ap mp cp]), .det (.agg #[.int .i64 kt, .int .i64 nt, .string st, .slice aat mt ct]), .det (.bool false), .det (.bool false)] (by kernel_rfl) (by kernel_rfl)
          rotate_left
          · iterate 2 (
              refine wpM_step (fun K hK => ?_)
              go_simp
              apply And.intro
              · intro w' hC _
                have q1 := hC.old.1
                have hbs := hC.old.2.2
                clear hC
                go_simp
                exact Ext.refl _
              refine nextM_det (hK _ _ ?_)
              clear hK K)
            refine wpM_step (fun K hK => ?_)
            go_simp
            apply And.intro
            · intro w' hC _
              have hS := HK.out.1 w' hC
              clear hC
              go_simp
              refine ⟨Ext.refl _, hS.mono ?_⟩
              rintro e w1 ⟨rfl, B⟩
              exact ⟨rfl, B⟩
            refine nextM_det (hK _ _ ?_)
            clear hK K
            iterate 1 (
              refine wpM_step (fun K hK => ?_)
              go_simp
              apply And.intro
              · intro w' hC _
                have q1 := hC.old.1
                have hbs := hC.old.2.2
                clear hC
                go_simp
                exact Ext.refl _
              refine nextM_det (hK _ _ ?_)
              clear hK K)
            iterate 3 (
              refine wpM_step (fun K hK => ?_)
              go_simp
              refine hK _ _ ?_
              clear hK K)
            iterate 1 (
              refine wpM_step (fun K hK => ?_)
              go_simp
              apply And.intro
              · intro w' hC _
                have q1 := hC.old.1
                have hbs := hC.old.2.2
                clear hC
                go_simp
                exact Ext.refl _
              refine nextM_det (hK _ _ ?_)
              clear hK K)
            iterate 2 (
              refine wpM_step (fun K hK => ?_)
              go_simp
              apply And.intro
              · intro w' hC _
                have q1 := hC.old.1
                have hbs := hC.old.2.2
                clear hC
                go_simp
                exact Ext.refl _
              refine nextM_det (hK _ _ ?_)
              clear hK K)
            refine wpM_step (fun K hK => ?_)
            go_simp
            apply And.intro
            · intro w' hC _
              have hS := HK.out.2.2 w' hC
              rw [Bool.false_and] at hS
              clear hC
              go_simp
              refine ⟨Ext.refl _, hS.mono ?_⟩
              rintro e w1 ⟨rfl, B⟩
              exact ⟨rfl, B⟩
            refine nextM_det (hK _ _ ?_)
            clear hK K
            iterate 1 (
              refine wpM_step (fun K hK => ?_)
              go_simp
              apply And.intro
              · intro w' hC _
                have q1 := hC.old.1
                have hbs := hC.old.2.2
                clear hC
                go_simp
                exact Ext.refl _
              refine nextM_det (hK _ _ ?_)
              clear hK K)
            refine wpM_nil ?_
            intro WR hC _
            have B : Below W4.heap.size W4 WR := hC
            clear hC HK qp0 qp1 qp2 qp3 qt0 qt1 qt2 qt3 lp lt
            replace bbp := Box.keep B bbp
            replace bbt := Box.keep B bbt
            replace hp := hp.up B B.size
            replace ht := ht.up B B.size
            replace hs := hs.up B B.size
            replace hb := hb.trans (B.mono hb.size)
            clear B
            cases hmr : matchR X Z with
            | none =>
              have qp0 := bbp.cell 0
              have qp1 := bbp.cell 1
              have qp2 := bbp.cell 2
              have qp3 := bbp.cell 3
              have qt0 := bbt.cell 0
              have qt1 := bbt.cell 1
              have qt2 := bbt.cell 2
              have qt3 := bbt.cell 3
              have lp := bbp.lt
              have lt := bbt.lt
              simp only [List.getElem?_toArray, List.getElem?_cons_succ, List.getElem?_cons_zero] at qp0 qp1 qp2 qp3 qt0 qt1 qt2 qt3
              go_wp2_with fail
              clear qp0 qp1 qp2 qp3 qt0 qt1 qt2 qt3 lp lt
              refine (Match_none HI.out.1 HI.out.2 hmr _ _ _ hp ht).mono ?_
              rintro e W5 ⟨rfl, B⟩
              replace bbp := Box.keep B bbp
              replace bbt := Box.keep B bbt
              replace hp := hp.up B B.size
              replace ht := ht.up B B.size
              replace hs := hs.up B B.size
              replace hb := hb.trans (B.mono hb.size)
              clear B
              clear hmr
              rcases subst_ok HI.out.1 HS.out with ⟨he1, hx1, hv1⟩ | ⟨he1, hv1⟩
              rotate_left
              · have HE := Lib.hid (And.intro he1 hv1)
                clear he1 hv1
                have qp0 := bbp.cell 0
                have qp1 := bbp.cell 1
                have qp2 := bbp.cell 2
                have qp3 := bbp.cell 3
                have lp := bbp.lt
                simp only [List.getElem?_toArray, List.getElem?_cons_succ, List.getElem?_cons_zero] at qp0 qp1 qp2 qp3
                go_wp2_with fail
                clear qp0 qp1 qp2 qp3 lp
                refine (Subst_ok _ a c _ hp HI.out.1 HS.out h4 h5 hs zeroTr 2 HE.out.2 HE.out.1).mono ?_
                rintro e W6 ⟨kb, nb, sb', ab, mb, cb, rfl, hbk, B⟩
                replace bbp := Box.keep B bbp
                replace bbt := Box.keep B bbt
                replace hp := hp.up B B.size
                replace ht := ht.up B B.size
                replace hs := hs.up B B.size
                replace hb := hb.trans (B.mono hb.size)
                clear B
                go_wp2_with fail
                go_ret
                exact ⟨rfl, hb.trans (below_a1 hb.size _)⟩
              · have HE := Lib.hid (And.intro he1 (And.intro hx1 hv1))
                clear he1 hx1 hv1
                have qp0 := bbp.cell 0
                have qp1 := bbp.cell 1
                have qp2 := bbp.cell 2
                have qp3 := bbp.cell 3
                have lp := bbp.lt
                simp only [List.getElem?_toArray, List.getElem?_cons_succ, List.getElem?_cons_zero] at qp0 qp1 qp2 qp3
                go_wp2_with fail
                clear qp0 qp1 qp2 qp3 lp
                refine (Subst_ok _ a c _ hp HI.out.1 HS.out h4 h5 hs (subT l X) 0 HE.out.2.2 HE.out.1).mono ?_
                rintro e W6 ⟨kb, nb, sb', ab, mb, cb, rfl, hbk, B⟩
                replace bbp := Box.keep B bbp
                replace bbt := Box.keep B bbt
                replace hp := hp.up B B.size
                replace ht := ht.up B B.size
                replace hs := hs.up B B.size
                replace hb := hb.trans (B.mono hb.size)
                clear B
                obtain ⟨mm, hmm, hat⟩ := match_inst HI.out.1 HE.out.2.1
                have HAT := Lib.hid hat
                clear hat
                have qp0 := bbp.cell 0
                have qp1 := bbp.cell 1
                have qp2 := bbp.cell 2
                have qp3 := bbp.cell 3
                have lp := bbp.lt
                simp only [List.getElem?_toArray, List.getElem?_cons_succ, List.getElem?_cons_zero] at qp0 qp1 qp2 qp3
                go_wp2_with fail
                clear qp0 qp1 qp2 qp3 lp
                have bbu : Box (W6.alloc (.cells #[.int .i64 kb, .int .i64 nb, .string sb', .slice ab mb cb] 25)) W6.heap.size #[.int .i64 kb, .int .i64 nb, .string sb', .slice ab mb cb] 25 := Box.at rfl
                have B := below_a1 (Nat.le_refl W6.heap.size) (.cells #[.int .i64 kb, .int .i64 nb, .string sb', .slice ab mb cb] 25)
                replace bbp := Box.keep B bbp
                replace bbt := Box.keep B bbt
                replace hp := hp.up B B.size
                replace ht := ht.up B B.size
                replace hs := hs.up B B.size
                replace hbk := hbk.up B B.size
                replace hb := hb.trans (B.mono hb.size)
                clear B
                generalize (W6.alloc (.cells #[.int .i64 kb, .int .i64 nb, .string sb', .slice ab mb cb] 25)) = V7 at *
                refine (Match_some hmm _ _ _ hp hbk).mono ?_
                rintro e W8 ⟨am, cm, rfl, hm1, hm2, hm, B⟩
                replace bbp := Box.keep B bbp
                replace bbt := Box.keep B bbt
                replace bbu := Box.keep B bbu
                replace hp := hp.up B B.size
                replace ht := ht.up B B.size
                replace hs := hs.up B B.size
                replace hbk := hbk.up B B.size
                replace hb := hb.trans (B.mono hb.size)
                clear B
                clear bbu hbk bbt ht
                clear hmm
                have qp0 := bbp.cell 0
                have qp1 := bbp.cell 1
                have qp2 := bbp.cell 2
                have qp3 := bbp.cell 3
                have lp := bbp.lt
                simp only [List.getElem?_toArray, List.getElem?_cons_succ, List.getElem?_cons_zero] at qp0 qp1 qp2 qp3
                go_wp2_with fail
                clear qp0 qp1 qp2 qp3 lp
                refine (Vars_one HI.out.1 _ _ _ _ _ hp).mono ?_
                rintro e W9 ⟨an, cn, rfl, hn, B⟩
                replace bbp := Box.keep B bbp
                replace hp := hp.up B B.size
                replace hs := hs.up B B.size
                replace hm := hm.up B B.size
                replace hb := hb.trans (B.mono hb.size)
                clear B
                have HOC : Hid (∀ j (hj : j < (vars1 X).length), occ (vars1 X)[j] X) := fun j hj => (vars1_mem (isB_is HI.out.1).1).1 (List.getElem_mem hj)
                generalize vars1 X = ns at *
                obtain ⟨an', cn', hne, hnm, hnc⟩ := hn
                cases hne
                have hnm' : ns.length ≤ 9223372036854775807 := by unfold maxLen at hnm; omega
                have hmm' : mm.length ≤ 9223372036854775807 := by unfold maxLen at hm2; omega
                have HN := Lib.hid hnc
                have HM2 := Lib.hid hm
                have HS2 := Lib.hid hs
                have HB := Lib.hid hb
                clear hnc hm hs hb hp bbp
                go_wp2_with fail
                go_loopw [110] (fun i wr => ∃ j : Nat, j ≤ ns.length ∧ i = .int .i64 j ∧ Below W9.heap.size W9 wr) (fun i _ => ns.length - (intOf i).toNat)
                case atStart => exact ⟨0, Nat.zero_le _, rfl, Below.refl _ _⟩
                case round =>
                  obtain ⟨j, hj, rfl, hBj⟩ := hrel
                  by_cases hlt : j < ns.length
                  · obtain ⟨bn, on, rfl, hbn, hcell⟩ := HN.out (by omega)
                    have d0 := (hBj.cell (p := ⟨bn, on + j, none⟩) hbn).trans (hcell j hlt)
                    simp only [List.getD, List.getElem?_eq_getElem hlt, Option.getD_some] at d0
                    have hocc := HOC.out j hlt
                    obtain ⟨x, hx⟩ : ∃ x, ns[j] = x := ⟨_, rfl⟩
                    rw [hx] at d0 hocc
                    obtain ⟨hx0, hxm, hwant⟩ := HAT.out x hocc
                    have hxr := occ_range X x (isB_is HI.out.1).1 hocc
                    obtain ⟨n, rfl⟩ : ∃ n : Nat, x = n := ⟨x.toNat, by omega⟩
                    rw [want_eq HS.out hx0] at hwant
                    simp only [Int.toNat_natCast] at hwant
                    have hnm2 : n < mm.length := by omega
                    have HW := Lib.hid hwant
                    have hwr := hBj.size
                    have hbw : bn < wr.heap.size := by omega
                    have HJ := Lib.hid hBj
                    clear hcell hocc hx hwant hBj
                    go_wp2_with fail
                    refine (mkV n (by unfold okI; omega) _).mono ?_
                    rintro e W1 ⟨av, cv, rfl, hv, B⟩
                    have hB1 := HJ.out.trans (B.mono HJ.out.size)
                    obtain ⟨bm, om, rfl, hbm⟩ := HM2.out.addr (by omega)
                    have hs1 := hB1.size
                    have B2 := hB1.trans (below_a1 hs1 (.cells #[.int .i64 1, .int .i64 n, .string emp, .slice av 0 cv] 25))
                    have b20 : Box (W1.alloc (.cells #[.int .i64 1, .int .i64 n, .string emp, .slice av 0 cv] 25)) W1.heap.size #[.int .i64 1, .int .i64 n, .string emp, .slice av 0 cv] 25 := Box.at rfl
                    replace hv := hv.up (below_a1 (Nat.le_refl W1.heap.size) (.cells #[.int .i64 1, .int .i64 n, .string emp, .slice av 0 cv] 25)) (size_a1 (Nat.le_refl _) _)
                    by_cases hln : n < l.length
                    · obtain ⟨bs, os, rfl, hbs⟩ := HS2.out.addr (by omega)
                      obtain ⟨tk, tn, ts, tl, ta, tc, te, e0, e1, e2, e3, hte⟩ := HS2.out.node' hbs hB1 n hln
                      have hbs1 : bs < W1.heap.size := by omega
                      have hbs2 : bs < wr.heap.size := by have := HJ.out.size; omega
                      have hgd : l.getD n default = l[n] := by simp [List.getD, hln]
                      have HTE := Lib.hid (And.intro te hgd)
                      obtain ⟨r, hr⟩ : ∃ r, (l[n]).free = r := ⟨_, rfl⟩
                      have hc := free_any l[n] _ _ (hte.up B2 B2.size) r hr
                      have HFC := Lib.hid hc
                      have HR := Lib.hid hr
                      have HX := Lib.hid (And.intro hB1 (And.intro B2 (And.intro b20 (And.intro hv (hte.up B2 B2.size)))))
                      clear te hc hr hgd hB1 B2 b20 hv B hte
                      go_wp2_with fail
                      refine HFC.out.mono ?_
                      rintro e W2 ⟨rfl, B⟩
                      obtain ⟨hB1, B2, b20, hv, hte⟩ := HX.out
                      have B3 := B2.trans (B.mono B2.size)
                      replace b20 := Box.keep B b20
                      replace hv := hv.up B B.size
                      replace hte := hte.up B B.size
                      clear B hB1 B2 HX
                      cases r with
                      | true =>
                        have hw : mm.getD n default = tV n := by rw [HW.out, if_neg (fun h => by rw [HTE.out.2, HR.out] at h; cases h.2)]
                        clear hte e0 e1 e2 e3
                        go_wp2_with fail
                        obtain ⟨mk, mn, ms, ml, ma, mc, me, g0, g1, g2, g3, hme⟩ := HM2.out.node' hbm B3 n hnm2
                        have hbm2 : bm < W2.heap.size := by have := B3.size; omega
                        have l20 := b20.lt
                        have p0 := b20.cell 0
                        have p1 := b20.cell 1
                        have p2 := b20.cell 2
                        have p3 := b20.cell 3
                        simp only [List.getElem?_toArray, List.getElem?_cons_succ, List.getElem?_cons_zero] at p0 p1 p2 p3
                        have hme' : IsT W9.heap.size W9 (tV n) (.agg #[.int .i64 mk, .int .i64 mn, .string ms, .slice ma ml.length mc]) := by rw [← hw]; simpa [List.getD, hnm2] using hme
                        have HK : Hid (∀ W, Below W2.heap.size W2 W → Calls Tryd.prog 25 #[.agg #[.int .i64 mk, .int .i64 mn, .string ms, .slice ma ml.length mc], .agg #[.int .i64 1, .int .i64 n, .string emp, .slice av 0 cv]] W fun e w' => e = .returned (.bool true) ∧ Below W.heap.size W w') := fun W hW => sane_same (tV n) _ _ W ((hme'.up B3 B3.size).up hW hW.size) (hv.up hW hW.size)
                        have HB3 := Lib.hid B3
                        clear hme hme' hw hv me B3 b20
                        apply wp_region_mono [.det (.int .i64 n), .det (.slice (some ⟨bm, om, none⟩) mm.length cm), .det (.int .i64 mm.length), .det (.bool false), .det (.bool false), .det (.slice (some ⟨bm, om, none⟩) mm.length cm), .det (.int .i64 n), .det (.pointer (some ⟨bm, om + n * 4, none⟩)), .det (.agg #[.int .i64 mk, .int .i64 mn, .string ms, .slice ma ml.length mc]), .det (.agg #[.int .i64 1, .int .i64 n, .string emp, .slice av 0 cv]), .det (.bool true), .det (.bool false), .det (.bool false)] (by kernel_rfl) (by kernel_rfl)
                        rotate_left
                        · iterate 10 (
                            refine wpM_step (fun K hK => ?_)
                            go_simp
                            apply And.intro
                            · intro w' hC _
                              have q1 := hC.old.1
                              have hbs := hC.old.2.2
                              clear hC
                              go_simp
                              exact Ext.refl _
                            refine nextM_det (hK _ _ ?_)
                            clear hK K)
                          refine wpM_step (fun K hK => ?_)
                          go_simp
                          apply And.intro
                          · intro w' hC _
                            have hS := HK.out w' hC
                            clear hC
                            go_simp
                            refine ⟨Ext.refl _, hS.mono ?_⟩
                            rintro e w1 ⟨rfl, B⟩
                            exact ⟨rfl, B⟩
                          refine nextM_det (hK _ _ ?_)
                          clear hK K
                          iterate 2 (
                            refine wpM_step (fun K hK => ?_)
                            go_simp
                            apply And.intro
                            · intro w' hC _
                              have q1 := hC.old.1
                              have hbs := hC.old.2.2
                              clear hC
                              go_simp
                              exact Ext.refl _
                            refine nextM_det (hK _ _ ?_)
                            clear hK K)
                          refine wpM_nil ?_
                          intro W3 hC _
                          have HB4 := Lib.hid (HB3.out.trans (Below.mono hC HB3.out.size))
                          clear hC p0 p1 p2 p3 g0 g1 g2 g3
                          go_wp2_with fail
                          go_roundw
                          case rel => exact ⟨j + 1, hlt, by go_num, HB4.out⟩
                          case measure => simp [intOf]; omega
                        · intro y hy
                          simp only [List.mem_cons, List.not_mem_nil, or_false] at hy
                          rcases hy with rfl | rfl | rfl | rfl | rfl | rfl | rfl | rfl | rfl | rfl | rfl | rfl | rfl <;> first | trivial
                      | false =>
                        have hw : mm.getD n default = l[n] := by rw [HW.out, if_pos ⟨by omega, by rw [HTE.out.2, HR.out]⟩, HTE.out.2]
                        obtain ⟨tk', tn', ts', tl', ta', tc', te, e0, e1, e2, e3, hte'⟩ := HS2.out.node' hbs B3 n hln
                        have hbs3 : bs < W2.heap.size := by have := B3.size; omega
                        have f0 := b20.frozen 0
                        have f1 := b20.frozen 1
                        have f2 := b20.frozen 2
                        have f3 := b20.frozen 3
                        have g0 := b20.cell 0
                        have g1 := b20.cell 1
                        have g2 := b20.cell 2
                        have g3 := b20.cell 3
                        have l20 := b20.lt
                        simp only [List.getElem?_toArray, List.getElem?_cons_succ, List.getElem?_cons_zero] at g0 g1 g2 g3
                        have z : Box ((((W2.setCell ⟨W1.heap.size, 0, none⟩ (.int .i64 tk')).setCell ⟨W1.heap.size, 1, none⟩ (.int .i64 tn')).setCell ⟨W1.heap.size, 2, none⟩ (.string ts')).setCell ⟨W1.heap.size, 3, none⟩ (.slice ta' tl'.length tc')) W1.heap.size #[.int .i64 tk', .int .i64 tn', .string ts', .slice ta' tl'.length tc'] 25 := by simpa using (((b20.set 0 (.int .i64 tk')).set 1 (.int .i64 tn')).set 2 (.string ts')).set 3 (.slice ta' tl'.length tc')
                        have zB := (((B3.setCell (p := ⟨W1.heap.size, 0, none⟩) hs1 (.int .i64 tk')).setCell (p := ⟨W1.heap.size, 1, none⟩) hs1 (.int .i64 tn')).setCell (p := ⟨W1.heap.size, 2, none⟩) hs1 (.string ts')).setCell (p := ⟨W1.heap.size, 3, none⟩) hs1 (.slice ta' tl'.length tc')
                        have hsz : W2.heap.size ≤ ((((W2.setCell ⟨W1.heap.size, 0, none⟩ (.int .i64 tk')).setCell ⟨W1.heap.size, 1, none⟩ (.int .i64 tn')).setCell ⟨W1.heap.size, 2, none⟩ (.string ts')).setCell ⟨W1.heap.size, 3, none⟩ (.slice ta' tl'.length tc')).heap.size := by simp
                        have hw2 : IsT ((((W2.setCell ⟨W1.heap.size, 0, none⟩ (.int .i64 tk')).setCell ⟨W1.heap.size, 1, none⟩ (.int .i64 tn')).setCell ⟨W1.heap.size, 2, none⟩ (.string ts')).setCell ⟨W1.heap.size, 3, none⟩ (.slice ta' tl'.length tc')).heap.size ((((W2.setCell ⟨W1.heap.size, 0, none⟩ (.int .i64 tk')).setCell ⟨W1.heap.size, 1, none⟩ (.int .i64 tn')).setCell ⟨W1.heap.size, 2, none⟩ (.string ts')).setCell ⟨W1.heap.size, 3, none⟩ (.slice ta' tl'.length tc')) l[n] (.agg #[.int .i64 tk', .int .i64 tn', .string ts', .slice ta' tl'.length tc']) := hte'.up zB zB.size
                        have HZ := Lib.hid (And.intro z (And.intro zB hw2))
                        clear z zB hw2 hte hte' te b20 hv B3 hsz
                        go_wp2_with fail
                        obtain ⟨b20, B3, hv⟩ := HZ.out
                        clear HZ f0 f1 f2 f3 g0 g1 g2 g3 e0 e1 e2 e3
                        generalize ((((W2.setCell ⟨W1.heap.size, 0, none⟩ (.int .i64 tk')).setCell ⟨W1.heap.size, 1, none⟩ (.int .i64 tn')).setCell ⟨W1.heap.size, 2, none⟩ (.string ts')).setCell ⟨W1.heap.size, 3, none⟩ (.slice ta' tl'.length tc')) = W2 at *
                        obtain ⟨mk, mn, ms, ml, ma, mc, me, g0, g1, g2, g3, hme⟩ := HM2.out.node' hbm B3 n hnm2
                        have hbm2 : bm < W2.heap.size := by have := B3.size; omega
                        have l20 := b20.lt
                        have p0 := b20.cell 0
                        have p1 := b20.cell 1
                        have p2 := b20.cell 2
                        have p3 := b20.cell 3
                        simp only [List.getElem?_toArray, List.getElem?_cons_succ, List.getElem?_cons_zero] at p0 p1 p2 p3
                        have hme' : IsT W9.heap.size W9 (l[n]) (.agg #[.int .i64 mk, .int .i64 mn, .string ms, .slice ma ml.length mc]) := by rw [← hw]; simpa [List.getD, hnm2] using hme
                        have HK : Hid (∀ W, Below W2.heap.size W2 W → Calls Tryd.prog 25 #[.agg #[.int .i64 mk, .int .i64 mn, .string ms, .slice ma ml.length mc], .agg #[.int .i64 tk', .int .i64 tn', .string ts', .slice ta' tl'.length tc']] W fun e w' => e = .returned (.bool true) ∧ Below W.heap.size W w') := fun W hW => sane_same (l[n]) _ _ W ((hme'.up B3 B3.size).up hW hW.size) (hv.up hW hW.size)
                        have HB3 := Lib.hid B3
                        clear hme hme' hw hv me B3 b20
                        apply wp_region_mono [.det (.int .i64 n), .det (.slice (some ⟨bm, om, none⟩) mm.length cm), .det (.int .i64 mm.length), .det (.bool false), .det (.bool false), .det (.slice (some ⟨bm, om, none⟩) mm.length cm), .det (.int .i64 n), .det (.pointer (some ⟨bm, om + n * 4, none⟩)), .det (.agg #[.int .i64 mk, .int .i64 mn, .string ms, .slice ma ml.length mc]), .det (.agg #[.int .i64 tk', .int .i64 tn', .string ts', .slice ta' tl'.length tc']), .det (.bool true), .det (.bool false), .det (.bool false)] (by kernel_rfl) (by kernel_rfl)
                        rotate_left
                        · iterate 10 (
                            refine wpM_step (fun K hK => ?_)
                            go_simp
                            apply And.intro
                            · intro w' hC _
                              have q1 := hC.old.1
                              have hbs := hC.old.2.2
                              clear hC
                              go_simp
                              exact Ext.refl _
                            refine nextM_det (hK _ _ ?_)
                            clear hK K)
                          refine wpM_step (fun K hK => ?_)
                          go_simp
                          apply And.intro
                          · intro w' hC _
                            have hS := HK.out w' hC
                            clear hC
                            go_simp
                            refine ⟨Ext.refl _, hS.mono ?_⟩
                            rintro e w1 ⟨rfl, B⟩
                            exact ⟨rfl, B⟩
                          refine nextM_det (hK _ _ ?_)
                          clear hK K
                          iterate 2 (
                            refine wpM_step (fun K hK => ?_)
                            go_simp
                            apply And.intro
                            · intro w' hC _
                              have q1 := hC.old.1
                              have hbs := hC.old.2.2
                              clear hC
                              go_simp
                              exact Ext.refl _
                            refine nextM_det (hK _ _ ?_)
                            clear hK K)
                          refine wpM_nil ?_
                          intro W3 hC _
                          have HB4 := Lib.hid (HB3.out.trans (Below.mono hC HB3.out.size))
                          clear hC p0 p1 p2 p3 g0 g1 g2 g3
                          go_wp2_with fail
                          go_roundw
                          case rel => exact ⟨j + 1, hlt, by go_num, HB4.out⟩
                          case measure => simp [intOf]; omega
                        · intro y hy
                          simp only [List.mem_cons, List.not_mem_nil, or_false] at hy
                          rcases hy with rfl | rfl | rfl | rfl | rfl | rfl | rfl | rfl | rfl | rfl | rfl | rfl | rfl <;> first | trivial
                    · have hw : mm.getD n default = tV n := by rw [HW.out, if_neg (fun h => hln (by omega))]
                      have B3 := B2
                      have HX := Lib.hid (And.intro B3 (And.intro b20 hv))
                      clear B2 B3 hB1 b20 hv B
                      go_wp2_with fail
                      obtain ⟨B3, b20, hv⟩ := HX.out
                      clear HX
                      generalize (W1.alloc (.cells #[.int .i64 1, .int .i64 n, .string emp, .slice av 0 cv] 25)) = W2 at *
                      obtain ⟨mk, mn, ms, ml, ma, mc, me, g0, g1, g2, g3, hme⟩ := HM2.out.node' hbm B3 n hnm2
                      have hbm2 : bm < W2.heap.size := by have := B3.size; omega
                      have l20 := b20.lt
                      have p0 := b20.cell 0
                      have p1 := b20.cell 1
                      have p2 := b20.cell 2
                      have p3 := b20.cell 3
                      simp only [List.getElem?_toArray, List.getElem?_cons_succ, List.getElem?_cons_zero] at p0 p1 p2 p3
                      have hme' : IsT W9.heap.size W9 (tV n) (.agg #[.int .i64 mk, .int .i64 mn, .string ms, .slice ma ml.length mc]) := by rw [← hw]; simpa [List.getD, hnm2] using hme
                      have HK : Hid (∀ W, Below W2.heap.size W2 W → Calls Tryd.prog 25 #[.agg #[.int .i64 mk, .int .i64 mn, .string ms, .slice ma ml.length mc], .agg #[.int .i64 1, .int .i64 n, .string emp, .slice av 0 cv]] W fun e w' => e = .returned (.bool true) ∧ Below W.heap.size W w') := fun W hW => sane_same (tV n) _ _ W ((hme'.up B3 B3.size).up hW hW.size) (hv.up hW hW.size)
                      have HB3 := Lib.hid B3
                      clear hme hme' hw hv me B3 b20
                      apply wp_region_mono [.det (.int .i64 n), .det (.slice (some ⟨bm, om, none⟩) mm.length cm), .det (.int .i64 mm.length), .det (.bool false), .det (.bool false), .det (.slice (some ⟨bm, om, none⟩) mm.length cm), .det (.int .i64 n), .det (.pointer (some ⟨bm, om + n * 4, none⟩)), .det (.agg #[.int .i64 mk, .int .i64 mn, .string ms, .slice ma ml.length mc]), .det (.agg #[.int .i64 1, .int .i64 n, .string emp, .slice av 0 cv]), .det (.bool true), .det (.bool false), .det (.bool false)] (by kernel_rfl) (by kernel_rfl)
                      rotate_left
                      · iterate 10 (
                          refine wpM_step (fun K hK => ?_)
                          go_simp
                          apply And.intro
                          · intro w' hC _
                            have q1 := hC.old.1
                            have hbs := hC.old.2.2
                            clear hC
                            go_simp
                            exact Ext.refl _
                          refine nextM_det (hK _ _ ?_)
                          clear hK K)
                        refine wpM_step (fun K hK => ?_)
                        go_simp
                        apply And.intro
                        · intro w' hC _
                          have hS := HK.out w' hC
                          clear hC
                          go_simp
                          refine ⟨Ext.refl _, hS.mono ?_⟩
                          rintro e w1 ⟨rfl, B⟩
                          exact ⟨rfl, B⟩
                        refine nextM_det (hK _ _ ?_)
                        clear hK K
                        iterate 2 (
                          refine wpM_step (fun K hK => ?_)
                          go_simp
                          apply And.intro
                          · intro w' hC _
                            have q1 := hC.old.1
                            have hbs := hC.old.2.2
                            clear hC
                            go_simp
                            exact Ext.refl _
                          refine nextM_det (hK _ _ ?_)
                          clear hK K)
                        refine wpM_nil ?_
                        intro W3 hC _
                        have HB4 := Lib.hid (HB3.out.trans (Below.mono hC HB3.out.size))
                        clear hC p0 p1 p2 p3 g0 g1 g2 g3
                        go_wp2_with fail
                        go_roundw
                        case rel => exact ⟨j + 1, hlt, by go_num, HB4.out⟩
                        case measure => simp [intOf]; omega
                      · intro y hy
                        simp only [List.mem_cons, List.not_mem_nil, or_false] at hy
                        rcases hy with rfl | rfl | rfl | rfl | rfl | rfl | rfl | rfl | rfl | rfl | rfl | rfl | rfl <;> first | trivial
                  · go_wp2_with fail
                    go_ret
                    exact ⟨rfl, HB.out.trans (hBj.mono HB.out.size)⟩
            | some fs =>
              obtain ⟨hok, he0, hv0, hle⟩ := match_back hmr
              have HM := Lib.hid (And.intro hok (And.intro he0 hv0))
              have qp0 := bbp.cell 0
              have qp1 := bbp.cell 1
              have qp2 := bbp.cell 2
              have qp3 := bbp.cell 3
              have qt0 := bbt.cell 0
              have qt1 := bbt.cell 1
              have qt2 := bbt.cell 2
              have qt3 := bbt.cell 3
              have lp := bbp.lt
              have lt := bbt.lt
              simp only [List.getElem?_toArray, List.getElem?_cons_succ, List.getElem?_cons_zero] at qp0 qp1 qp2 qp3 qt0 qt1 qt2 qt3
              go_wp2_with fail
              clear qp0 qp1 qp2 qp3 qt0 qt1 qt2 qt3 lp lt
              refine (Match_some hmr _ _ _ hp ht).mono ?_
              rintro e W5 ⟨af, cf, rfl, hf1, hf2, hf, B⟩
              replace bbp := Box.keep B bbp
              replace bbt := Box.keep B bbt
              replace hp := hp.up B B.size
              replace ht := ht.up B B.size
              replace hs := hs.up B B.size
              replace hb := hb.trans (B.mono hb.size)
              clear B
              clear hmr hok he0 hv0
              have hfm : fs.length ≤ 9223372036854775807 := by omega
              have qp0 := bbp.cell 0
              have qp1 := bbp.cell 1
              have qp2 := bbp.cell 2
              have qp3 := bbp.cell 3
              have lp := bbp.lt
              simp only [List.getElem?_toArray, List.getElem?_cons_succ, List.getElem?_cons_zero] at qp0 qp1 qp2 qp3
              go_wp2_with fail
              clear qp0 qp1 qp2 qp3 lp
              refine (Subst_ok _ af cf _ hp HI.out.1 HM.out.1 hf1 hf2 hf Z 0 HM.out.2.2 HM.out.2.1).mono ?_
              rintro e W6 ⟨kb, nb, sb', ab, mb, cb, rfl, hbk, B⟩
              replace bbp := Box.keep B bbp
              replace bbt := Box.keep B bbt
              replace hp := hp.up B B.size
              replace ht := ht.up B B.size
              replace hs := hs.up B B.size
              replace hf := hf.up B B.size
              replace hb := hb.trans (B.mono hb.size)
              clear B
              clear hf
              have qt0 := bbt.cell 0
              have qt1 := bbt.cell 1
              have qt2 := bbt.cell 2
              have qt3 := bbt.cell 3
              have lt := bbt.lt
              simp only [List.getElem?_toArray, List.getElem?_cons_succ, List.getElem?_cons_zero] at qt0 qt1 qt2 qt3
              go_wp2_with fail
              clear qt0 qt1 qt2 qt3 lt
              have bbu : Box (W6.alloc (.cells #[.int .i64 kb, .int .i64 nb, .string sb', .slice ab mb cb] 25)) W6.heap.size #[.int .i64 kb, .int .i64 nb, .string sb', .slice ab mb cb] 25 := Box.at rfl
              have B := below_a1 (Nat.le_refl W6.heap.size) (.cells #[.int .i64 kb, .int .i64 nb, .string sb', .slice ab mb cb] 25)
              replace bbp := Box.keep B bbp
              replace bbt := Box.keep B bbt
              replace hp := hp.up B B.size
              replace ht := ht.up B B.size
              replace hs := hs.up B B.size
              replace hbk := hbk.up B B.size
              replace hb := hb.trans (B.mono hb.size)
              clear B
              generalize (W6.alloc (.cells #[.int .i64 kb, .int .i64 nb, .string sb', .slice ab mb cb] 25)) = V7 at *
              refine (sane_same Z _ _ _ hbk ht).mono ?_
              rintro e W8 ⟨rfl, B⟩
              replace bbp := Box.keep B bbp
              replace bbt := Box.keep B bbt
              replace bbu := Box.keep B bbu
              replace hp := hp.up B B.size
              replace ht := ht.up B B.size
              replace hs := hs.up B B.size
              replace hbk := hbk.up B B.size
              replace hb := hb.trans (B.mono hb.size)
              clear B
              clear bbu hbk
              clear hf1 hf2 hfm hle HM
              rcases subst_ok HI.out.1 HS.out with ⟨he1, hx1, hv1⟩ | ⟨he1, hv1⟩
              rotate_left
              · have HE := Lib.hid (And.intro he1 hv1)
                clear he1 hv1
                have qp0 := bbp.cell 0
                have qp1 := bbp.cell 1
                have qp2 := bbp.cell 2
                have qp3 := bbp.cell 3
                have lp := bbp.lt
                simp only [List.getElem?_toArray, List.getElem?_cons_succ, List.getElem?_cons_zero] at qp0 qp1 qp2 qp3
                go_wp2_with fail
                clear qp0 qp1 qp2 qp3 lp
                refine (Subst_ok _ a c _ hp HI.out.1 HS.out h4 h5 hs zeroTr 2 HE.out.2 HE.out.1).mono ?_
                rintro e W9 ⟨kb, nb, sb', ab, mb, cb, rfl, hbk, B⟩
                replace bbp := Box.keep B bbp
                replace bbt := Box.keep B bbt
                replace hp := hp.up B B.size
                replace ht := ht.up B B.size
                replace hs := hs.up B B.size
                replace hb := hb.trans (B.mono hb.size)
                clear B
                go_wp2_with fail
                go_ret
                exact ⟨rfl, hb.trans (below_a1 hb.size _)⟩
              · have HE := Lib.hid (And.intro he1 (And.intro hx1 hv1))
                clear he1 hx1 hv1
                have qp0 := bbp.cell 0
                have qp1 := bbp.cell 1
                have qp2 := bbp.cell 2
                have qp3 := bbp.cell 3
                have lp := bbp.lt
                simp only [List.getElem?_toArray, List.getElem?_cons_succ, List.getElem?_cons_zero] at qp0 qp1 qp2 qp3
                go_wp2_with fail
                clear qp0 qp1 qp2 qp3 lp
                refine (Subst_ok _ a c _ hp HI.out.1 HS.out h4 h5 hs (subT l X) 0 HE.out.2.2 HE.out.1).mono ?_
                rintro e W9 ⟨kb, nb, sb', ab, mb, cb, rfl, hbk, B⟩
                replace bbp := Box.keep B bbp
                replace bbt := Box.keep B bbt
                replace hp := hp.up B B.size
                replace ht := ht.up B B.size
                replace hs := hs.up B B.size
                replace hb := hb.trans (B.mono hb.size)
                clear B
                obtain ⟨mm, hmm, hat⟩ := match_inst HI.out.1 HE.out.2.1
                have HAT := Lib.hid hat
                clear hat
                have qp0 := bbp.cell 0
                have qp1 := bbp.cell 1
                have qp2 := bbp.cell 2
                have qp3 := bbp.cell 3
                have lp := bbp.lt
                simp only [List.getElem?_toArray, List.getElem?_cons_succ, List.getElem?_cons_zero] at qp0 qp1 qp2 qp3
                go_wp2_with fail
                clear qp0 qp1 qp2 qp3 lp
                have bbu : Box (W9.alloc (.cells #[.int .i64 kb, .int .i64 nb, .string sb', .slice ab mb cb] 25)) W9.heap.size #[.int .i64 kb, .int .i64 nb, .string sb', .slice ab mb cb] 25 := Box.at rfl
                have B := below_a1 (Nat.le_refl W9.heap.size) (.cells #[.int .i64 kb, .int .i64 nb, .string sb', .slice ab mb cb] 25)
                replace bbp := Box.keep B bbp
                replace bbt := Box.keep B bbt
                replace hp := hp.up B B.size
                replace ht := ht.up B B.size
                replace hs := hs.up B B.size
                replace hbk := hbk.up B B.size
                replace hb := hb.trans (B.mono hb.size)
                clear B
                generalize (W9.alloc (.cells #[.int .i64 kb, .int .i64 nb, .string sb', .slice ab mb cb] 25)) = V10 at *
                refine (Match_some hmm _ _ _ hp hbk).mono ?_
                rintro e W11 ⟨am, cm, rfl, hm1, hm2, hm, B⟩
                replace bbp := Box.keep B bbp
                replace bbt := Box.keep B bbt
                replace bbu := Box.keep B bbu
                replace hp := hp.up B B.size
                replace ht := ht.up B B.size
                replace hs := hs.up B B.size
                replace hbk := hbk.up B B.size
                replace hb := hb.trans (B.mono hb.size)
                clear B
                clear bbu hbk bbt ht
                clear hmm
                have qp0 := bbp.cell 0
                have qp1 := bbp.cell 1
                have qp2 := bbp.cell 2
                have qp3 := bbp.cell 3
                have lp := bbp.lt
                simp only [List.getElem?_toArray, List.getElem?_cons_succ, List.getElem?_cons_zero] at qp0 qp1 qp2 qp3
                go_wp2_with fail
                clear qp0 qp1 qp2 qp3 lp
                refine (Vars_one HI.out.1 _ _ _ _ _ hp).mono ?_
                rintro e W12 ⟨an, cn, rfl, hn, B⟩
                replace bbp := Box.keep B bbp
                replace hp := hp.up B B.size
                replace hs := hs.up B B.size
                replace hm := hm.up B B.size
                replace hb := hb.trans (B.mono hb.size)
                clear B
                have HOC : Hid (∀ j (hj : j < (vars1 X).length), occ (vars1 X)[j] X) := fun j hj => (vars1_mem (isB_is HI.out.1).1).1 (List.getElem_mem hj)
                generalize vars1 X = ns at *
                obtain ⟨an', cn', hne, hnm, hnc⟩ := hn
                cases hne
                have hnm' : ns.length ≤ 9223372036854775807 := by unfold maxLen at hnm; omega
                have hmm' : mm.length ≤ 9223372036854775807 := by unfold maxLen at hm2; omega
                have HN := Lib.hid hnc
                have HM2 := Lib.hid hm
                have HS2 := Lib.hid hs
                have HB := Lib.hid hb
                clear hnc hm hs hb hp bbp
                go_wp2_with fail
                go_loopw [110] (fun i wr => ∃ j : Nat, j ≤ ns.length ∧ i = .int .i64 j ∧ Below W12.heap.size W12 wr) (fun i _ => ns.length - (intOf i).toNat)
                case atStart => exact ⟨0, Nat.zero_le _, rfl, Below.refl _ _⟩
                case round =>
                  obtain ⟨j, hj, rfl, hBj⟩ := hrel
                  by_cases hlt : j < ns.length
                  · obtain ⟨bn, on, rfl, hbn, hcell⟩ := HN.out (by omega)
                    have d0 := (hBj.cell (p := ⟨bn, on + j, none⟩) hbn).trans (hcell j hlt)
                    simp only [List.getD, List.getElem?_eq_getElem hlt, Option.getD_some] at d0
                    have hocc := HOC.out j hlt
                    obtain ⟨x, hx⟩ : ∃ x, ns[j] = x := ⟨_, rfl⟩
                    rw [hx] at d0 hocc
                    obtain ⟨hx0, hxm, hwant⟩ := HAT.out x hocc
                    have hxr := occ_range X x (isB_is HI.out.1).1 hocc
                    obtain ⟨n, rfl⟩ : ∃ n : Nat, x = n := ⟨x.toNat, by omega⟩
                    rw [want_eq HS.out hx0] at hwant
                    simp only [Int.toNat_natCast] at hwant
                    have hnm2 : n < mm.length := by omega
                    have HW := Lib.hid hwant
                    have hwr := hBj.size
                    have hbw : bn < wr.heap.size := by omega
                    have HJ := Lib.hid hBj
                    clear hcell hocc hx hwant hBj
                    go_wp2_with fail
                    refine (mkV n (by unfold okI; omega) _).mono ?_
                    rintro e W1 ⟨av, cv, rfl, hv, B⟩
                    have hB1 := HJ.out.trans (B.mono HJ.out.size)
                    obtain ⟨bm, om, rfl, hbm⟩ := HM2.out.addr (by omega)
                    have hs1 := hB1.size
                    have B2 := hB1.trans (below_a1 hs1 (.cells #[.int .i64 1, .int .i64 n, .string emp, .slice av 0 cv] 25))
                    have b20 : Box (W1.alloc (.cells #[.int .i64 1, .int .i64 n, .string emp, .slice av 0 cv] 25)) W1.heap.size #[.int .i64 1, .int .i64 n, .string emp, .slice av 0 cv] 25 := Box.at rfl
                    replace hv := hv.up (below_a1 (Nat.le_refl W1.heap.size) (.cells #[.int .i64 1, .int .i64 n, .string emp, .slice av 0 cv] 25)) (size_a1 (Nat.le_refl _) _)
                    by_cases hln : n < l.length
                    · obtain ⟨bs, os, rfl, hbs⟩ := HS2.out.addr (by omega)
                      obtain ⟨tk, tn, ts, tl, ta, tc, te, e0, e1, e2, e3, hte⟩ := HS2.out.node' hbs hB1 n hln
                      have hbs1 : bs < W1.heap.size := by omega
                      have hbs2 : bs < wr.heap.size := by have := HJ.out.size; omega
                      have hgd : l.getD n default = l[n] := by simp [List.getD, hln]
                      have HTE := Lib.hid (And.intro te hgd)
                      obtain ⟨r, hr⟩ : ∃ r, (l[n]).free = r := ⟨_, rfl⟩
                      have hc := free_any l[n] _ _ (hte.up B2 B2.size) r hr
                      have HFC := Lib.hid hc
                      have HR := Lib.hid hr
                      have HX := Lib.hid (And.intro hB1 (And.intro B2 (And.intro b20 (And.intro hv (hte.up B2 B2.size)))))
                      clear te hc hr hgd hB1 B2 b20 hv B hte
                      go_wp2_with fail
                      refine HFC.out.mono ?_
                      rintro e W2 ⟨rfl, B⟩
                      obtain ⟨hB1, B2, b20, hv, hte⟩ := HX.out
                      have B3 := B2.trans (B.mono B2.size)
                      replace b20 := Box.keep B b20
                      replace hv := hv.up B B.size
                      replace hte := hte.up B B.size
                      clear B hB1 B2 HX
                      cases r with
                      | true =>
                        have hw : mm.getD n default = tV n := by rw [HW.out, if_neg (fun h => by rw [HTE.out.2, HR.out] at h; cases h.2)]
                        clear hte e0 e1 e2 e3
                        go_wp2_with fail
                        obtain ⟨mk, mn, ms, ml, ma, mc, me, g0, g1, g2, g3, hme⟩ := HM2.out.node' hbm B3 n hnm2
                        have hbm2 : bm < W2.heap.size := by have := B3.size; omega
                        have l20 := b20.lt
                        have p0 := b20.cell 0
                        have p1 := b20.cell 1
                        have p2 := b20.cell 2
                        have p3 := b20.cell 3
                        simp only [List.getElem?_toArray, List.getElem?_cons_succ, List.getElem?_cons_zero] at p0 p1 p2 p3
                        have hme' : IsT W12.heap.size W12 (tV n) (.agg #[.int .i64 mk, .int .i64 mn, .string ms, .slice ma ml.length mc]) := by rw [← hw]; simpa [List.getD, hnm2] using hme
                        have HK : Hid (∀ W, Below W2.heap.size W2 W → Calls Tryd.prog 25 #[.agg #[.int .i64 mk, .int .i64 mn, .string ms, .slice ma ml.length mc], .agg #[.int .i64 1, .int .i64 n, .string emp, .slice av 0 cv]] W fun e w' => e = .returned (.bool true) ∧ Below W.heap.size W w') := fun W hW => sane_same (tV n) _ _ W ((hme'.up B3 B3.size).up hW hW.size) (hv.up hW hW.size)
                        have HB3 := Lib.hid B3
                        clear hme hme' hw hv me B3 b20
                        apply wp_region_mono [.det (.int .i64 n), .det (.slice (some ⟨bm, om, none⟩) mm.length cm), .det (.int .i64 mm.length), .det (.bool false), .det (.bool false), .det (.slice (some ⟨bm, om, none⟩) mm.length cm), .det (.int .i64 n), .det (.pointer (some ⟨bm, om + n * 4, none⟩)), .det (.agg #[.int .i64 mk, .int .i64 mn, .string ms, .slice ma ml.length mc]), .det (.agg #[.int .i64 1, .int .i64 n, .string emp, .slice av 0 cv]), .det (.bool true), .det (.bool false), .det (.bool false)] (by kernel_rfl) (by kernel_rfl)
                        rotate_left
                        · iterate 10 (
                            refine wpM_step (fun K hK => ?_)
                            go_simp
                            apply And.intro
                            · intro w' hC _
                              have q1 := hC.old.1
                              have hbs := hC.old.2.2
                              clear hC
                              go_simp
                              exact Ext.refl _
                            refine nextM_det (hK _ _ ?_)
                            clear hK K)
                          refine wpM_step (fun K hK => ?_)
                          go_simp
                          apply And.intro
                          · intro w' hC _
                            have hS := HK.out w' hC
                            clear hC
                            go_simp
                            refine ⟨Ext.refl _, hS.mono ?_⟩
                            rintro e w1 ⟨rfl, B⟩
                            exact ⟨rfl, B⟩
                          refine nextM_det (hK _ _ ?_)
                          clear hK K
                          iterate 2 (
                            refine wpM_step (fun K hK => ?_)
                            go_simp
                            apply And.intro
                            · intro w' hC _
                              have q1 := hC.old.1
                              have hbs := hC.old.2.2
                              clear hC
                              go_simp
                              exact Ext.refl _
                            refine nextM_det (hK _ _ ?_)
                            clear hK K)
                          refine wpM_nil ?_
                          intro W3 hC _
                          have HB4 := Lib.hid (HB3.out.trans (Below.mono hC HB3.out.size))
                          clear hC p0 p1 p2 p3 g0 g1 g2 g3
                          go_wp2_with fail
                          go_roundw
                          case rel => exact ⟨j + 1, hlt, by go_num, HB4.out⟩
                          case measure => simp [intOf]; omega
                        · intro y hy
                          simp only [List.mem_cons, List.not_mem_nil, or_false] at hy
                          rcases hy with rfl | rfl | rfl | rfl | rfl | rfl | rfl | rfl | rfl | rfl | rfl | rfl | rfl <;> first | trivial
                      | false =>
                        have hw : mm.getD n default = l[n] := by rw [HW.out, if_pos ⟨by omega, by rw [HTE.out.2, HR.out]⟩, HTE.out.2]
                        obtain ⟨tk', tn', ts', tl', ta', tc', te, e0, e1, e2, e3, hte'⟩ := HS2.out.node' hbs B3 n hln
                        have hbs3 : bs < W2.heap.size := by have := B3.size; omega
                        have f0 := b20.frozen 0
                        have f1 := b20.frozen 1
                        have f2 := b20.frozen 2
                        have f3 := b20.frozen 3
                        have g0 := b20.cell 0
                        have g1 := b20.cell 1
                        have g2 := b20.cell 2
                        have g3 := b20.cell 3
                        have l20 := b20.lt
                        simp only [List.getElem?_toArray, List.getElem?_cons_succ, List.getElem?_cons_zero] at g0 g1 g2 g3
                        have z : Box ((((W2.setCell ⟨W1.heap.size, 0, none⟩ (.int .i64 tk')).setCell ⟨W1.heap.size, 1, none⟩ (.int .i64 tn')).setCell ⟨W1.heap.size, 2, none⟩ (.string ts')).setCell ⟨W1.heap.size, 3, none⟩ (.slice ta' tl'.length tc')) W1.heap.size #[.int .i64 tk', .int .i64 tn', .string ts', .slice ta' tl'.length tc'] 25 := by simpa using (((b20.set 0 (.int .i64 tk')).set 1 (.int .i64 tn')).set 2 (.string ts')).set 3 (.slice ta' tl'.length tc')
                        have zB := (((B3.setCell (p := ⟨W1.heap.size, 0, none⟩) hs1 (.int .i64 tk')).setCell (p := ⟨W1.heap.size, 1, none⟩) hs1 (.int .i64 tn')).setCell (p := ⟨W1.heap.size, 2, none⟩) hs1 (.string ts')).setCell (p := ⟨W1.heap.size, 3, none⟩) hs1 (.slice ta' tl'.length tc')
                        have hsz : W2.heap.size ≤ ((((W2.setCell ⟨W1.heap.size, 0, none⟩ (.int .i64 tk')).setCell ⟨W1.heap.size, 1, none⟩ (.int .i64 tn')).setCell ⟨W1.heap.size, 2, none⟩ (.string ts')).setCell ⟨W1.heap.size, 3, none⟩ (.slice ta' tl'.length tc')).heap.size := by simp
                        have hw2 : IsT ((((W2.setCell ⟨W1.heap.size, 0, none⟩ (.int .i64 tk')).setCell ⟨W1.heap.size, 1, none⟩ (.int .i64 tn')).setCell ⟨W1.heap.size, 2, none⟩ (.string ts')).setCell ⟨W1.heap.size, 3, none⟩ (.slice ta' tl'.length tc')).heap.size ((((W2.setCell ⟨W1.heap.size, 0, none⟩ (.int .i64 tk')).setCell ⟨W1.heap.size, 1, none⟩ (.int .i64 tn')).setCell ⟨W1.heap.size, 2, none⟩ (.string ts')).setCell ⟨W1.heap.size, 3, none⟩ (.slice ta' tl'.length tc')) l[n] (.agg #[.int .i64 tk', .int .i64 tn', .string ts', .slice ta' tl'.length tc']) := hte'.up zB zB.size
                        have HZ := Lib.hid (And.intro z (And.intro zB hw2))
                        clear z zB hw2 hte hte' te b20 hv B3 hsz
                        go_wp2_with fail
                        obtain ⟨b20, B3, hv⟩ := HZ.out
                        clear HZ f0 f1 f2 f3 g0 g1 g2 g3 e0 e1 e2 e3
                        generalize ((((W2.setCell ⟨W1.heap.size, 0, none⟩ (.int .i64 tk')).setCell ⟨W1.heap.size, 1, none⟩ (.int .i64 tn')).setCell ⟨W1.heap.size, 2, none⟩ (.string ts')).setCell ⟨W1.heap.size, 3, none⟩ (.slice ta' tl'.length tc')) = W2 at *
                        obtain ⟨mk, mn, ms, ml, ma, mc, me, g0, g1, g2, g3, hme⟩ := HM2.out.node' hbm B3 n hnm2
                        have hbm2 : bm < W2.heap.size := by have := B3.size; omega
                        have l20 := b20.lt
                        have p0 := b20.cell 0
                        have p1 := b20.cell 1
                        have p2 := b20.cell 2
                        have p3 := b20.cell 3
                        simp only [List.getElem?_toArray, List.getElem?_cons_succ, List.getElem?_cons_zero] at p0 p1 p2 p3
                        have hme' : IsT W12.heap.size W12 (l[n]) (.agg #[.int .i64 mk, .int .i64 mn, .string ms, .slice ma ml.length mc]) := by rw [← hw]; simpa [List.getD, hnm2] using hme
                        have HK : Hid (∀ W, Below W2.heap.size W2 W → Calls Tryd.prog 25 #[.agg #[.int .i64 mk, .int .i64 mn, .string ms, .slice ma ml.length mc], .agg #[.int .i64 tk', .int .i64 tn', .string ts', .slice ta' tl'.length tc']] W fun e w' => e = .returned (.bool true) ∧ Below W.heap.size W w') := fun W hW => sane_same (l[n]) _ _ W ((hme'.up B3 B3.size).up hW hW.size) (hv.up hW hW.size)
                        have HB3 := Lib.hid B3
                        clear hme hme' hw hv me B3 b20
                        apply wp_region_mono [.det (.int .i64 n), .det (.slice (some ⟨bm, om, none⟩) mm.length cm), .det (.int .i64 mm.length), .det (.bool false), .det (.bool false), .det (.slice (some ⟨bm, om, none⟩) mm.length cm), .det (.int .i64 n), .det (.pointer (some ⟨bm, om + n * 4, none⟩)), .det (.agg #[.int .i64 mk, .int .i64 mn, .string ms, .slice ma ml.length mc]), .det (.agg #[.int .i64 tk', .int .i64 tn', .string ts', .slice ta' tl'.length tc']), .det (.bool true), .det (.bool false), .det (.bool false)] (by kernel_rfl) (by kernel_rfl)
                        rotate_left
                        · iterate 10 (
                            refine wpM_step (fun K hK => ?_)
                            go_simp
                            apply And.intro
                            · intro w' hC _
                              have q1 := hC.old.1
                              have hbs := hC.old.2.2
                              clear hC
                              go_simp
                              exact Ext.refl _
                            refine nextM_det (hK _ _ ?_)
                            clear hK K)
                          refine wpM_step (fun K hK => ?_)
                          go_simp
                          apply And.intro
                          · intro w' hC _
                            have hS := HK.out w' hC
                            clear hC
                            go_simp
                            refine ⟨Ext.refl _, hS.mono ?_⟩
                            rintro e w1 ⟨rfl, B⟩
                            exact ⟨rfl, B⟩
                          refine nextM_det (hK _ _ ?_)
                          clear hK K
                          iterate 2 (
                            refine wpM_step (fun K hK => ?_)
                            go_simp
                            apply And.intro
                            · intro w' hC _
                              have q1 := hC.old.1
                              have hbs := hC.old.2.2
                              clear hC
                              go_simp
                              exact Ext.refl _
                            refine nextM_det (hK _ _ ?_)
                            clear hK K)
                          refine wpM_nil ?_
                          intro W3 hC _
                          have HB4 := Lib.hid (HB3.out.trans (Below.mono hC HB3.out.size))
                          clear hC p0 p1 p2 p3 g0 g1 g2 g3
                          go_wp2_with fail
                          go_roundw
                          case rel => exact ⟨j + 1, hlt, by go_num, HB4.out⟩
                          case measure => simp [intOf]; omega
                        · intro y hy
                          simp only [List.mem_cons, List.not_mem_nil, or_false] at hy
                          rcases hy with rfl | rfl | rfl | rfl | rfl | rfl | rfl | rfl | rfl | rfl | rfl | rfl | rfl <;> first | trivial
                    · have hw : mm.getD n default = tV n := by rw [HW.out, if_neg (fun h => hln (by omega))]
                      have B3 := B2
                      have HX := Lib.hid (And.intro B3 (And.intro b20 hv))
                      clear B2 B3 hB1 b20 hv B
                      go_wp2_with fail
                      obtain ⟨B3, b20, hv⟩ := HX.out
                      clear HX
                      generalize (W1.alloc (.cells #[.int .i64 1, .int .i64 n, .string emp, .slice av 0 cv] 25)) = W2 at *
                      obtain ⟨mk, mn, ms, ml, ma, mc, me, g0, g1, g2, g3, hme⟩ := HM2.out.node' hbm B3 n hnm2
                      have hbm2 : bm < W2.heap.size := by have := B3.size; omega
                      have l20 := b20.lt
                      have p0 := b20.cell 0
                      have p1 := b20.cell 1
                      have p2 := b20.cell 2
                      have p3 := b20.cell 3
                      simp only [List.getElem?_toArray, List.getElem?_cons_succ, List.getElem?_cons_zero] at p0 p1 p2 p3
                      have hme' : IsT W12.heap.size W12 (tV n) (.agg #[.int .i64 mk, .int .i64 mn, .string ms, .slice ma ml.length mc]) := by rw [← hw]; simpa [List.getD, hnm2] using hme
                      have HK : Hid (∀ W, Below W2.heap.size W2 W → Calls Tryd.prog 25 #[.agg #[.int .i64 mk, .int .i64 mn, .string ms, .slice ma ml.length mc], .agg #[.int .i64 1, .int .i64 n, .string emp, .slice av 0 cv]] W fun e w' => e = .returned (.bool true) ∧ Below W.heap.size W w') := fun W hW => sane_same (tV n) _ _ W ((hme'.up B3 B3.size).up hW hW.size) (hv.up hW hW.size)
                      have HB3 := Lib.hid B3
                      clear hme hme' hw hv me B3 b20
                      apply wp_region_mono [.det (.int .i64 n), .det (.slice (some ⟨bm, om, none⟩) mm.length cm), .det (.int .i64 mm.length), .det (.bool false), .det (.bool false), .det (.slice (some ⟨bm, om, none⟩) mm.length cm), .det (.int .i64 n), .det (.pointer (some ⟨bm, om + n * 4, none⟩)), .det (.agg #[.int .i64 mk, .int .i64 mn, .string ms, .slice ma ml.length mc]), .det (.agg #[.int .i64 1, .int .i64 n, .string emp, .slice av 0 cv]), .det (.bool true), .det (.bool false), .det (.bool false)] (by kernel_rfl) (by kernel_rfl)
                      rotate_left
                      · iterate 10 (
                          refine wpM_step (fun K hK => ?_)
                          go_simp
                          apply And.intro
                          · intro w' hC _
                            have q1 := hC.old.1
                            have hbs := hC.old.2.2
                            clear hC
                            go_simp
                            exact Ext.refl _
                          refine nextM_det (hK _ _ ?_)
                          clear hK K)
                        refine wpM_step (fun K hK => ?_)
                        go_simp
                        apply And.intro
                        · intro w' hC _
                          have hS := HK.out w' hC
                          clear hC
                          go_simp
                          refine ⟨Ext.refl _, hS.mono ?_⟩
                          rintro e w1 ⟨rfl, B⟩
                          exact ⟨rfl, B⟩
                        refine nextM_det (hK _ _ ?_)
                        clear hK K
                        iterate 2 (
                          refine wpM_step (fun K hK => ?_)
                          go_simp
                          apply And.intro
                          · intro w' hC _
                            have q1 := hC.old.1
                            have hbs := hC.old.2.2
                            clear hC
                            go_simp
                            exact Ext.refl _
                          refine nextM_det (hK _ _ ?_)
                          clear hK K)
                        refine wpM_nil ?_
                        intro W3 hC _
                        have HB4 := Lib.hid (HB3.out.trans (Below.mono hC HB3.out.size))
                        clear hC p0 p1 p2 p3 g0 g1 g2 g3
                        go_wp2_with fail
                        go_roundw
                        case rel => exact ⟨j + 1, hlt, by go_num, HB4.out⟩
                        case measure => simp [intOf]; omega
                      · intro y hy
                        simp only [List.mem_cons, List.not_mem_nil, or_false] at hy
                        rcases hy with rfl | rfl | rfl | rfl | rfl | rfl | rfl | rfl | rfl | rfl | rfl | rfl | rfl <;> first | trivial
                  · go_wp2_with fail
                    go_ret
                    exact ⟨rfl, HB.out.trans (hBj.mono HB.out.size)⟩
          · intro y hy
            simp only [List.mem_cons, List.not_mem_nil, or_false] at hy
            rcases hy with rfl | rfl | rfl | rfl | rfl | rfl | rfl | rfl | rfl | rfl | rfl | rfl <;> first | trivial
        | true =>
          apply wp_region_mono [.det (.agg #[.int .i64 kp, .int .i64 np, .string sp, .slice ap mp cp]), .det (.agg #[.int .i64 kt, .int .i64 nt, .string st, .slice aat mt ct]), .det (.bool true), .det (.bool true), .det (.agg #[.int .i64 kt, .int .i64 nt, .string st, .slice aat mt ct]), .det (.agg #[.int .i64 kp, .int .i64 np, .string sp, .slice ap mp cp]), .det (.bool r2), .det (.bool r2), .det (.agg #[.int .i64 kp, .int .i64 np, .string sp, .slice ap mp cp]), .det (.agg #[.int .i64 kt, .int .i64 nt, .string st, .slice aat mt ct]), .det (.bool r2), .det (.bool false)] (by kernel_rfl) (by kernel_rfl)
          rotate_left
          · iterate 2 (
              refine wpM_step (fun K hK => ?_)
              go_simp
              apply And.intro
              · intro w' hC _
                have q1 := hC.old.1
                have hbs := hC.old.2.2
                clear hC
                go_simp
                exact Ext.refl _
              refine nextM_det (hK _ _ ?_)
              clear hK K)
            refine wpM_step (fun K hK => ?_)
            go_simp
            apply And.intro
            · intro w' hC _
              have hS := HK.out.1 w' hC
              clear hC
              go_simp
              refine ⟨Ext.refl _, hS.mono ?_⟩
              rintro e w1 ⟨rfl, B⟩
              exact ⟨rfl, B⟩
            refine nextM_det (hK _ _ ?_)
            clear hK K
            iterate 1 (
              refine wpM_step (fun K hK => ?_)
              go_simp
              apply And.intro
              · intro w' hC _
                have q1 := hC.old.1
                have hbs := hC.old.2.2
                clear hC
                go_simp
                exact Ext.refl _
              refine nextM_det (hK _ _ ?_)
              clear hK K)
            iterate 2 (
              refine wpM_step (fun K hK => ?_)
              go_simp
              apply And.intro
              · intro w' hC _
                have q1 := hC.old.1
                have hbs := hC.old.2.2
                clear hC
                go_simp
                exact Ext.refl _
              refine nextM_det (hK _ _ ?_)
              clear hK K)
            refine wpM_step (fun K hK => ?_)
            go_simp
            apply And.intro
            · intro w' hC _
              have hS := HK.out.2.1 w' hC
              clear hC
              go_simp
              refine ⟨Ext.refl _, hS.mono ?_⟩
              rintro e w1 ⟨rfl, B⟩
              exact ⟨rfl, B⟩
            refine nextM_det (hK _ _ ?_)
            clear hK K
            iterate 1 (
              refine wpM_step (fun K hK => ?_)
              go_simp
              apply And.intro
              · intro w' hC _
                have q1 := hC.old.1
                have hbs := hC.old.2.2
                clear hC
                go_simp
                exact Ext.refl _
              refine nextM_det (hK _ _ ?_)
              clear hK K)
            iterate 2 (
              refine wpM_step (fun K hK => ?_)
              go_simp
              apply And.intro
              · intro w' hC _
                have q1 := hC.old.1
                have hbs := hC.old.2.2
                clear hC
                go_simp
                exact Ext.refl _
              refine nextM_det (hK _ _ ?_)
              clear hK K)
            refine wpM_step (fun K hK => ?_)
            go_simp
            apply And.intro
            · intro w' hC _
              have hS := HK.out.2.2 w' hC
              rw [Bool.true_and] at hS
              clear hC
              go_simp
              refine ⟨Ext.refl _, hS.mono ?_⟩
              rintro e w1 ⟨rfl, B⟩
              exact ⟨rfl, B⟩
            refine nextM_det (hK _ _ ?_)
            clear hK K
            iterate 1 (
              refine wpM_step (fun K hK => ?_)
              go_simp
              apply And.intro
              · intro w' hC _
                have q1 := hC.old.1
                have hbs := hC.old.2.2
                clear hC
                go_simp
                exact Ext.refl _
              refine nextM_det (hK _ _ ?_)
              clear hK K)
            refine wpM_nil ?_
            intro WR hC _
            have B : Below W4.heap.size W4 WR := hC
            clear hC HK qp0 qp1 qp2 qp3 qt0 qt1 qt2 qt3 lp lt
            replace bbp := Box.keep B bbp
            replace bbt := Box.keep B bbt
            replace hp := hp.up B B.size
            replace ht := ht.up B B.size
            replace hs := hs.up B B.size
            replace hb := hb.trans (B.mono hb.size)
            clear B
            cases hmr : matchR X Z with
            | none =>
              have qp0 := bbp.cell 0
              have qp1 := bbp.cell 1
              have qp2 := bbp.cell 2
              have qp3 := bbp.cell 3
              have qt0 := bbt.cell 0
              have qt1 := bbt.cell 1
              have qt2 := bbt.cell 2
              have qt3 := bbt.cell 3
              have lp := bbp.lt
              have lt := bbt.lt
              simp only [List.getElem?_toArray, List.getElem?_cons_succ, List.getElem?_cons_zero] at qp0 qp1 qp2 qp3 qt0 qt1 qt2 qt3
              go_wp2_with fail
              clear qp0 qp1 qp2 qp3 qt0 qt1 qt2 qt3 lp lt
              refine (Match_none HI.out.1 HI.out.2 hmr _ _ _ hp ht).mono ?_
              rintro e W5 ⟨rfl, B⟩
              replace bbp := Box.keep B bbp
              replace bbt := Box.keep B bbt
              replace hp := hp.up B B.size
              replace ht := ht.up B B.size
              replace hs := hs.up B B.size
              replace hb := hb.trans (B.mono hb.size)
              clear B
              clear hmr
              rcases subst_ok HI.out.1 HS.out with ⟨he1, hx1, hv1⟩ | ⟨he1, hv1⟩
              rotate_left
              · have HE := Lib.hid (And.intro he1 hv1)
                clear he1 hv1
                have qp0 := bbp.cell 0
                have qp1 := bbp.cell 1
                have qp2 := bbp.cell 2
                have qp3 := bbp.cell 3
                have lp := bbp.lt
                simp only [List.getElem?_toArray, List.getElem?_cons_succ, List.getElem?_cons_zero] at qp0 qp1 qp2 qp3
                go_wp2_with fail
                clear qp0 qp1 qp2 qp3 lp
                refine (Subst_ok _ a c _ hp HI.out.1 HS.out h4 h5 hs zeroTr 2 HE.out.2 HE.out.1).mono ?_
                rintro e W6 ⟨kb, nb, sb', ab, mb, cb, rfl, hbk, B⟩
                replace bbp := Box.keep B bbp
                replace bbt := Box.keep B bbt
                replace hp := hp.up B B.size
                replace ht := ht.up B B.size
                replace hs := hs.up B B.size
                replace hb := hb.trans (B.mono hb.size)
                clear B
                go_wp2_with fail
                go_ret
                exact ⟨rfl, hb.trans (below_a1 hb.size _)⟩
              · have HE := Lib.hid (And.intro he1 (And.intro hx1 hv1))
                clear he1 hx1 hv1
                have qp0 := bbp.cell 0
                have qp1 := bbp.cell 1
                have qp2 := bbp.cell 2
                have qp3 := bbp.cell 3
                have lp := bbp.lt
                simp only [List.getElem?_toArray, List.getElem?_cons_succ, List.getElem?_cons_zero] at qp0 qp1 qp2 qp3
                go_wp2_with fail
                clear qp0 qp1 qp2 qp3 lp
                refine (Subst_ok _ a c _ hp HI.out.1 HS.out h4 h5 hs (subT l X) 0 HE.out.2.2 HE.out.1).mono ?_
                rintro e W6 ⟨kb, nb, sb', ab, mb, cb, rfl, hbk, B⟩
                replace bbp := Box.keep B bbp
                replace bbt := Box.keep B bbt
                replace hp := hp.up B B.size
                replace ht := ht.up B B.size
                replace hs := hs.up B B.size
                replace hb := hb.trans (B.mono hb.size)
                clear B
                obtain ⟨mm, hmm, hat⟩ := match_inst HI.out.1 HE.out.2.1
                have HAT := Lib.hid hat
                clear hat
                have qp0 := bbp.cell 0
                have qp1 := bbp.cell 1
                have qp2 := bbp.cell 2
                have qp3 := bbp.cell 3
                have lp := bbp.lt
                simp only [List.getElem?_toArray, List.getElem?_cons_succ, List.getElem?_cons_zero] at qp0 qp1 qp2 qp3
                go_wp2_with fail
                clear qp0 qp1 qp2 qp3 lp
                have bbu : Box (W6.alloc (.cells #[.int .i64 kb, .int .i64 nb, .string sb', .slice ab mb cb] 25)) W6.heap.size #[.int .i64 kb, .int .i64 nb, .string sb', .slice ab mb cb] 25 := Box.at rfl
                have B := below_a1 (Nat.le_refl W6.heap.size) (.cells #[.int .i64 kb, .int .i64 nb, .string sb', .slice ab mb cb] 25)
                replace bbp := Box.keep B bbp
                replace bbt := Box.keep B bbt
                replace hp := hp.up B B.size
                replace ht := ht.up B B.size
                replace hs := hs.up B B.size
                replace hbk := hbk.up B B.size
                replace hb := hb.trans (B.mono hb.size)
                clear B
                generalize (W6.alloc (.cells #[.int .i64 kb, .int .i64 nb, .string sb', .slice ab mb cb] 25)) = V7 at *
                refine (Match_some hmm _ _ _ hp hbk).mono ?_
                rintro e W8 ⟨am, cm, rfl, hm1, hm2, hm, B⟩
                replace bbp := Box.keep B bbp
                replace bbt := Box.keep B bbt
                replace bbu := Box.keep B bbu
                replace hp := hp.up B B.size
                replace ht := ht.up B B.size
                replace hs := hs.up B B.size
                replace hbk := hbk.up B B.size
                replace hb := hb.trans (B.mono hb.size)
                clear B
                clear bbu hbk bbt ht
                clear hmm
                have qp0 := bbp.cell 0
                have qp1 := bbp.cell 1
                have qp2 := bbp.cell 2
                have qp3 := bbp.cell 3
                have lp := bbp.lt
                simp only [List.getElem?_toArray, List.getElem?_cons_succ, List.getElem?_cons_zero] at qp0 qp1 qp2 qp3
                go_wp2_with fail
                clear qp0 qp1 qp2 qp3 lp
                refine (Vars_one HI.out.1 _ _ _ _ _ hp).mono ?_
                rintro e W9 ⟨an, cn, rfl, hn, B⟩
                replace bbp := Box.keep B bbp
                replace hp := hp.up B B.size
                replace hs := hs.up B B.size
                replace hm := hm.up B B.size
                replace hb := hb.trans (B.mono hb.size)
                clear B
                have HOC : Hid (∀ j (hj : j < (vars1 X).length), occ (vars1 X)[j] X) := fun j hj => (vars1_mem (isB_is HI.out.1).1).1 (List.getElem_mem hj)
                generalize vars1 X = ns at *
                obtain ⟨an', cn', hne, hnm, hnc⟩ := hn
                cases hne
                have hnm' : ns.length ≤ 9223372036854775807 := by unfold maxLen at hnm; omega
                have hmm' : mm.length ≤ 9223372036854775807 := by unfold maxLen at hm2; omega
                have HN := Lib.hid hnc
                have HM2 := Lib.hid hm
                have HS2 := Lib.hid hs
                have HB := Lib.hid hb
                clear hnc hm hs hb hp bbp
                go_wp2_with fail
                go_loopw [110] (fun i wr => ∃ j : Nat, j ≤ ns.length ∧ i = .int .i64 j ∧ Below W9.heap.size W9 wr) (fun i _ => ns.length - (intOf i).toNat)
                case atStart => exact ⟨0, Nat.zero_le _, rfl, Below.refl _ _⟩
                case round =>
                  obtain ⟨j, hj, rfl, hBj⟩ := hrel
                  by_cases hlt : j < ns.length
                  · obtain ⟨bn, on, rfl, hbn, hcell⟩ := HN.out (by omega)
                    have d0 := (hBj.cell (p := ⟨bn, on + j, none⟩) hbn).trans (hcell j hlt)
                    simp only [List.getD, List.getElem?_eq_getElem hlt, Option.getD_some] at d0
                    have hocc := HOC.out j hlt
                    obtain ⟨x, hx⟩ : ∃ x, ns[j] = x := ⟨_, rfl⟩
                    rw [hx] at d0 hocc
                    obtain ⟨hx0, hxm, hwant⟩ := HAT.out x hocc
                    have hxr := occ_range X x (isB_is HI.out.1).1 hocc
                    obtain ⟨n, rfl⟩ : ∃ n : Nat, x = n := ⟨x.toNat, by omega⟩
                    rw [want_eq HS.out hx0] at hwant
                    simp only [Int.toNat_natCast] at hwant
                    have hnm2 : n < mm.length := by omega
                    have HW := Lib.hid hwant
                    have hwr := hBj.size
                    have hbw : bn < wr.heap.size := by omega
                    have HJ := Lib.hid hBj
                    clear hcell hocc hx hwant hBj
                    go_wp2_with fail
                    refine (mkV n (by unfold okI; omega) _).mono ?_
                    rintro e W1 ⟨av, cv, rfl, hv, B⟩
                    have hB1 := HJ.out.trans (B.mono HJ.out.size)
                    obtain ⟨bm, om, rfl, hbm⟩ := HM2.out.addr (by omega)
                    have hs1 := hB1.size
                    have B2 := hB1.trans (below_a1 hs1 (.cells #[.int .i64 1, .int .i64 n, .string emp, .slice av 0 cv] 25))
                    have b20 : Box (W1.alloc (.cells #[.int .i64 1, .int .i64 n, .string emp, .slice av 0 cv] 25)) W1.heap.size #[.int .i64 1, .int .i64 n, .string emp, .slice av 0 cv] 25 := Box.at rfl
                    replace hv := hv.up (below_a1 (Nat.le_refl W1.heap.size) (.cells #[.int .i64 1, .int .i64 n, .string emp, .slice av 0 cv] 25)) (size_a1 (Nat.le_refl _) _)
                    by_cases hln : n < l.length
                    · obtain ⟨bs, os, rfl, hbs⟩ := HS2.out.addr (by omega)
                      obtain ⟨tk, tn, ts, tl, ta, tc, te, e0, e1, e2, e3, hte⟩ := HS2.out.node' hbs hB1 n hln
                      have hbs1 : bs < W1.heap.size := by omega
                      have hbs2 : bs < wr.heap.size := by have := HJ.out.size; omega
                      have hgd : l.getD n default = l[n] := by simp [List.getD, hln]
                      have HTE := Lib.hid (And.intro te hgd)
                      obtain ⟨r, hr⟩ : ∃ r, (l[n]).free = r := ⟨_, rfl⟩
                      have hc := free_any l[n] _ _ (hte.up B2 B2.size) r hr
                      have HFC := Lib.hid hc
                      have HR := Lib.hid hr
                      have HX := Lib.hid (And.intro hB1 (And.intro B2 (And.intro b20 (And.intro hv (hte.up B2 B2.size)))))
                      clear te hc hr hgd hB1 B2 b20 hv B hte
                      go_wp2_with fail
                      refine HFC.out.mono ?_
                      rintro e W2 ⟨rfl, B⟩
                      obtain ⟨hB1, B2, b20, hv, hte⟩ := HX.out
                      have B3 := B2.trans (B.mono B2.size)
                      replace b20 := Box.keep B b20
                      replace hv := hv.up B B.size
                      replace hte := hte.up B B.size
                      clear B hB1 B2 HX
                      cases r with
                      | true =>
                        have hw : mm.getD n default = tV n := by rw [HW.out, if_neg (fun h => by rw [HTE.out.2, HR.out] at h; cases h.2)]
                        clear hte e0 e1 e2 e3
                        go_wp2_with fail
                        obtain ⟨mk, mn, ms, ml, ma, mc, me, g0, g1, g2, g3, hme⟩ := HM2.out.node' hbm B3 n hnm2
                        have hbm2 : bm < W2.heap.size := by have := B3.size; omega
                        have l20 := b20.lt
                        have p0 := b20.cell 0
                        have p1 := b20.cell 1
                        have p2 := b20.cell 2
                        have p3 := b20.cell 3
                        simp only [List.getElem?_toArray, List.getElem?_cons_succ, List.getElem?_cons_zero] at p0 p1 p2 p3
                        have hme' : IsT W9.heap.size W9 (tV n) (.agg #[.int .i64 mk, .int .i64 mn, .string ms, .slice ma ml.length mc]) := by rw [← hw]; simpa [List.getD, hnm2] using hme
                        have HK : Hid (∀ W, Below W2.heap.size W2 W → Calls Tryd.prog 25 #[.agg #[.int .i64 mk, .int .i64 mn, .string ms, .slice ma ml.length mc], .agg #[.int .i64 1, .int .i64 n, .string emp, .slice av 0 cv]] W fun e w' => e = .returned (.bool true) ∧ Below W.heap.size W w') := fun W hW => sane_same (tV n) _ _ W ((hme'.up B3 B3.size).up hW hW.size) (hv.up hW hW.size)
                        have HB3 := Lib.hid B3
                        clear hme hme' hw hv me B3 b20
                        apply wp_region_mono [.det (.int .i64 n), .det (.slice (some ⟨bm, om, none⟩) mm.length cm), .det (.int .i64 mm.length), .det (.bool false), .det (.bool false), .det (.slice (some ⟨bm, om, none⟩) mm.length cm), .det (.int .i64 n), .det (.pointer (some ⟨bm, om + n * 4, none⟩)), .det (.agg #[.int .i64 mk, .int .i64 mn, .string ms, .slice ma ml.length mc]), .det (.agg #[.int .i64 1, .int .i64 n, .string emp, .slice av 0 cv]), .det (.bool true), .det (.bool false), .det (.bool false)] (by kernel_rfl) (by kernel_rfl)
                        rotate_left
                        · iterate 10 (
                            refine wpM_step (fun K hK => ?_)
                            go_simp
                            apply And.intro
                            · intro w' hC _
                              have q1 := hC.old.1
                              have hbs := hC.old.2.2
                              clear hC
                              go_simp
                              exact Ext.refl _
                            refine nextM_det (hK _ _ ?_)
                            clear hK K)
                          refine wpM_step (fun K hK => ?_)
                          go_simp
                          apply And.intro
                          · intro w' hC _
                            have hS := HK.out w' hC
                            clear hC
                            go_simp
                            refine ⟨Ext.refl _, hS.mono ?_⟩
                            rintro e w1 ⟨rfl, B⟩
                            exact ⟨rfl, B⟩
                          refine nextM_det (hK _ _ ?_)
                          clear hK K
                          iterate 2 (
                            refine wpM_step (fun K hK => ?_)
                            go_simp
                            apply And.intro
                            · intro w' hC _
                              have q1 := hC.old.1
                              have hbs := hC.old.2.2
                              clear hC
                              go_simp
                              exact Ext.refl _
                            refine nextM_det (hK _ _ ?_)
                            clear hK K)
                          refine wpM_nil ?_
                          intro W3 hC _
                          have HB4 := Lib.hid (HB3.out.trans (Below.mono hC HB3.out.size))
                          clear hC p0 p1 p2 p3 g0 g1 g2 g3
                          go_wp2_with fail
                          go_roundw
                          case rel => exact ⟨j + 1, hlt, by go_num, HB4.out⟩
                          case measure => simp [intOf]; omega
                        · intro y hy
                          simp only [List.mem_cons, List.not_mem_nil, or_false] at hy
                          rcases hy with rfl | rfl | rfl | rfl | rfl | rfl | rfl | rfl | rfl | rfl | rfl | rfl | rfl <;> first | trivial
                      | false =>
                        have hw : mm.getD n default = l[n] := by rw [HW.out, if_pos ⟨by omega, by rw [HTE.out.2, HR.out]⟩, HTE.out.2]
                        obtain ⟨tk', tn', ts', tl', ta', tc', te, e0, e1, e2, e3, hte'⟩ := HS2.out.node' hbs B3 n hln
                        have hbs3 : bs < W2.heap.size := by have := B3.size; omega
                        have f0 := b20.frozen 0
                        have f1 := b20.frozen 1
                        have f2 := b20.frozen 2
                        have f3 := b20.frozen 3
                        have g0 := b20.cell 0
                        have g1 := b20.cell 1
                        have g2 := b20.cell 2
                        have g3 := b20.cell 3
                        have l20 := b20.lt
                        simp only [List.getElem?_toArray, List.getElem?_cons_succ, List.getElem?_cons_zero] at g0 g1 g2 g3
                        have z : Box ((((W2.setCell ⟨W1.heap.size, 0, none⟩ (.int .i64 tk')).setCell ⟨W1.heap.size, 1, none⟩ (.int .i64 tn')).setCell ⟨W1.heap.size, 2, none⟩ (.string ts')).setCell ⟨W1.heap.size, 3, none⟩ (.slice ta' tl'.length tc')) W1.heap.size #[.int .i64 tk', .int .i64 tn', .string ts', .slice ta' tl'.length tc'] 25 := by simpa using (((b20.set 0 (.int .i64 tk')).set 1 (.int .i64 tn')).set 2 (.string ts')).set 3 (.slice ta' tl'.length tc')
                        have zB := (((B3.setCell (p := ⟨W1.heap.size, 0, none⟩) hs1 (.int .i64 tk')).setCell (p := ⟨W1.heap.size, 1, none⟩) hs1 (.int .i64 tn')).setCell (p := ⟨W1.heap.size, 2, none⟩) hs1 (.string ts')).setCell (p := ⟨W1.heap.size, 3, none⟩) hs1 (.slice ta' tl'.length tc')
                        have hsz : W2.heap.size ≤ ((((W2.setCell ⟨W1.heap.size, 0, none⟩ (.int .i64 tk')).setCell ⟨W1.heap.size, 1, none⟩ (.int .i64 tn')).setCell ⟨W1.heap.size, 2, none⟩ (.string ts')).setCell ⟨W1.heap.size, 3, none⟩ (.slice ta' tl'.length tc')).heap.size := by simp
                        have hw2 : IsT ((((W2.setCell ⟨W1.heap.size, 0, none⟩ (.int .i64 tk')).setCell ⟨W1.heap.size, 1, none⟩ (.int .i64 tn')).setCell ⟨W1.heap.size, 2, none⟩ (.string ts')).setCell ⟨W1.heap.size, 3, none⟩ (.slice ta' tl'.length tc')).heap.size ((((W2.setCell ⟨W1.heap.size, 0, none⟩ (.int .i64 tk')).setCell ⟨W1.heap.size, 1, none⟩ (.int .i64 tn')).setCell ⟨W1.heap.size, 2, none⟩ (.string ts')).setCell ⟨W1.heap.size, 3, none⟩ (.slice ta' tl'.length tc')) l[n] (.agg #[.int .i64 tk', .int .i64 tn', .string ts', .slice ta' tl'.length tc']) := hte'.up zB zB.size
                        have HZ := Lib.hid (And.intro z (And.intro zB hw2))
                        clear z zB hw2 hte hte' te b20 hv B3 hsz
                        go_wp2_with fail
                        obtain ⟨b20, B3, hv⟩ := HZ.out
                        clear HZ f0 f1 f2 f3 g0 g1 g2 g3 e0 e1 e2 e3
                        generalize ((((W2.setCell ⟨W1.heap.size, 0, none⟩ (.int .i64 tk')).setCell ⟨W1.heap.size, 1, none⟩ (.int .i64 tn')).setCell ⟨W1.heap.size, 2, none⟩ (.string ts')).setCell ⟨W1.heap.size, 3, none⟩ (.slice ta' tl'.length tc')) = W2 at *
                        obtain ⟨mk, mn, ms, ml, ma, mc, me, g0, g1, g2, g3, hme⟩ := HM2.out.node' hbm B3 n hnm2
                        have hbm2 : bm < W2.heap.size := by have := B3.size; omega
                        have l20 := b20.lt
                        have p0 := b20.cell 0
                        have p1 := b20.cell 1
                        have p2 := b20.cell 2
                        have p3 := b20.cell 3
                        simp only [List.getElem?_toArray, List.getElem?_cons_succ, List.getElem?_cons_zero] at p0 p1 p2 p3
                        have hme' : IsT W9.heap.size W9 (l[n]) (.agg #[.int .i64 mk, .int .i64 mn, .string ms, .slice ma ml.length mc]) := by rw [← hw]; simpa [List.getD, hnm2] using hme
                        have HK : Hid (∀ W, Below W2.heap.size W2 W → Calls Tryd.prog 25 #[.agg #[.int .i64 mk, .int .i64 mn, .string ms, .slice ma ml.length mc], .agg #[.int .i64 tk', .int .i64 tn', .string ts', .slice ta' tl'.length tc']] W fun e w' => e = .returned (.bool true) ∧ Below W.heap.size W w') := fun W hW => sane_same (l[n]) _ _ W ((hme'.up B3 B3.size).up hW hW.size) (hv.up hW hW.size)
                        have HB3 := Lib.hid B3
                        clear hme hme' hw hv me B3 b20
                        apply wp_region_mono [.det (.int .i64 n), .det (.slice (some ⟨bm, om, none⟩) mm.length cm), .det (.int .i64 mm.length), .det (.bool false), .det (.bool false), .det (.slice (some ⟨bm, om, none⟩) mm.length cm), .det (.int .i64 n), .det (.pointer (some ⟨bm, om + n * 4, none⟩)), .det (.agg #[.int .i64 mk, .int .i64 mn, .string ms, .slice ma ml.length mc]), .det (.agg #[.int .i64 tk', .int .i64 tn', .string ts', .slice ta' tl'.length tc']), .det (.bool true), .det (.bool false), .det (.bool false)] (by kernel_rfl) (by kernel_rfl)
                        rotate_left
                        · iterate 10 (
                            refine wpM_step (fun K hK => ?_)
                            go_simp
                            apply And.intro
                            · intro w' hC _
                              have q1 := hC.old.1
                              have hbs := hC.old.2.2
                              clear hC
                              go_simp
                              exact Ext.refl _
                            refine nextM_det (hK _ _ ?_)
                            clear hK K)
                          refine wpM_step (fun K hK => ?_)
                          go_simp
                          apply And.intro
                          · intro w' hC _
                            have hS := HK.out w' hC
                            clear hC
                            go_simp
                            refine ⟨Ext.refl _, hS.mono ?_⟩
                            rintro e w1 ⟨rfl, B⟩
                            exact ⟨rfl, B⟩
                          refine nextM_det (hK _ _ ?_)
                          clear hK K
                          iterate 2 (
                            refine wpM_step (fun K hK => ?_)
                            go_simp
                            apply And.intro
                            · intro w' hC _
                              have q1 := hC.old.1
                              have hbs := hC.old.2.2
                              clear hC
                              go_simp
                              exact Ext.refl _
                            refine nextM_det (hK _ _ ?_)
                            clear hK K)
                          refine wpM_nil ?_
                          intro W3 hC _
                          have HB4 := Lib.hid (HB3.out.trans (Below.mono hC HB3.out.size))
                          clear hC p0 p1 p2 p3 g0 g1 g2 g3
                          go_wp2_with fail
                          go_roundw
                          case rel => exact ⟨j + 1, hlt, by go_num, HB4.out⟩
                          case measure => simp [intOf]; omega
                        · intro y hy
                          simp only [List.mem_cons, List.not_mem_nil, or_false] at hy
                          rcases hy with rfl | rfl | rfl | rfl | rfl | rfl | rfl | rfl | rfl | rfl | rfl | rfl | rfl <;> first | trivial
                    · have hw : mm.getD n default = tV n := by rw [HW.out, if_neg (fun h => hln (by omega))]
                      have B3 := B2
                      have HX := Lib.hid (And.intro B3 (And.intro b20 hv))
                      clear B2 B3 hB1 b20 hv B
                      go_wp2_with fail
                      obtain ⟨B3, b20, hv⟩ := HX.out
                      clear HX
                      generalize (W1.alloc (.cells #[.int .i64 1, .int .i64 n, .string emp, .slice av 0 cv] 25)) = W2 at *
                      obtain ⟨mk, mn, ms, ml, ma, mc, me, g0, g1, g2, g3, hme⟩ := HM2.out.node' hbm B3 n hnm2
                      have hbm2 : bm < W2.heap.size := by have := B3.size; omega
                      have l20 := b20.lt
                      have p0 := b20.cell 0
                      have p1 := b20.cell 1
                      have p2 := b20.cell 2
                      have p3 := b20.cell 3
                      simp only [List.getElem?_toArray, List.getElem?_cons_succ, List.getElem?_cons_zero] at p0 p1 p2 p3
                      have hme' : IsT W9.heap.size W9 (tV n) (.agg #[.int .i64 mk, .int .i64 mn, .string ms, .slice ma ml.length mc]) := by rw [← hw]; simpa [List.getD, hnm2] using hme
                      have HK : Hid (∀ W, Below W2.heap.size W2 W → Calls Tryd.prog 25 #[.agg #[.int .i64 mk, .int .i64 mn, .string ms, .slice ma ml.length mc], .agg #[.int .i64 1, .int .i64 n, .string emp, .slice av 0 cv]] W fun e w' => e = .returned (.bool true) ∧ Below W.heap.size W w') := fun W hW => sane_same (tV n) _ _ W ((hme'.up B3 B3.size).up hW hW.size) (hv.up hW hW.size)
                      have HB3 := Lib.hid B3
                      clear hme hme' hw hv me B3 b20
                      apply wp_region_mono [.det (.int .i64 n), .det (.slice (some ⟨bm, om, none⟩) mm.length cm), .det (.int .i64 mm.length), .det (.bool false), .det (.bool false), .det (.slice (some ⟨bm, om, none⟩) mm.length cm), .det (.int .i64 n), .det (.pointer (some ⟨bm, om + n * 4, none⟩)), .det (.agg #[.int .i64 mk, .int .i64 mn, .string ms, .slice ma ml.length mc]), .det (.agg #[.int .i64 1, .int .i64 n, .string emp, .slice av 0 cv]), .det (.bool true), .det (.bool false), .det (.bool false)] (by kernel_rfl) (by kernel_rfl)
                      rotate_left
                      · iterate 10 (
                          refine wpM_step (fun K hK => ?_)
                          go_simp
                          apply And.intro
                          · intro w' hC _
                            have q1 := hC.old.1
                            have hbs := hC.old.2.2
                            clear hC
                            go_simp
                            exact Ext.refl _
                          refine nextM_det (hK _ _ ?_)
                          clear hK K)
                        refine wpM_step (fun K hK => ?_)
                        go_simp
                        apply And.intro
                        · intro w' hC _
                          have hS := HK.out w' hC
                          clear hC
                          go_simp
                          refine ⟨Ext.refl _, hS.mono ?_⟩
                          rintro e w1 ⟨rfl, B⟩
                          exact ⟨rfl, B⟩
                        refine nextM_det (hK _ _ ?_)
                        clear hK K
                        iterate 2 (
                          refine wpM_step (fun K hK => ?_)
                          go_simp
                          apply And.intro
                          · intro w' hC _
                            have q1 := hC.old.1
                            have hbs := hC.old.2.2
                            clear hC
                            go_simp
                            exact Ext.refl _
                          refine nextM_det (hK _ _ ?_)
                          clear hK K)
                        refine wpM_nil ?_
                        intro W3 hC _
                        have HB4 := Lib.hid (HB3.out.trans (Below.mono hC HB3.out.size))
                        clear hC p0 p1 p2 p3 g0 g1 g2 g3
                        go_wp2_with fail
                        go_roundw
                        case rel => exact ⟨j + 1, hlt, by go_num, HB4.out⟩
                        case measure => simp [intOf]; omega
                      · intro y hy
                        simp only [List.mem_cons, List.not_mem_nil, or_false] at hy
                        rcases hy with rfl | rfl | rfl | rfl | rfl | rfl | rfl | rfl | rfl | rfl | rfl | rfl | rfl <;> first | trivial
                  · go_wp2_with fail
                    go_ret
                    exact ⟨rfl, HB.out.trans (hBj.mono HB.out.size)⟩
            | some fs =>
              obtain ⟨hok, he0, hv0, hle⟩ := match_back hmr
              have HM := Lib.hid (And.intro hok (And.intro he0 hv0))
              have qp0 := bbp.cell 0
              have qp1 := bbp.cell 1
              have qp2 := bbp.cell 2
              have qp3 := bbp.cell 3
              have qt0 := bbt.cell 0
              have qt1 := bbt.cell 1
              have qt2 := bbt.cell 2
              have qt3 := bbt.cell 3
              have lp := bbp.lt
              have lt := bbt.lt
              simp only [List.getElem?_toArray, List.getElem?_cons_succ, List.getElem?_cons_zero] at qp0 qp1 qp2 qp3 qt0 qt1 qt2 qt3
              go_wp2_with fail
              clear qp0 qp1 qp2 qp3 qt0 qt1 qt2 qt3 lp lt
              refine (Match_some hmr _ _ _ hp ht).mono ?_
              rintro e W5 ⟨af, cf, rfl, hf1, hf2, hf, B⟩
              replace bbp := Box.keep B bbp
              replace bbt := Box.keep B bbt
              replace hp := hp.up B B.size
              replace ht := ht.up B B.size
              replace hs := hs.up B B.size
              replace hb := hb.trans (B.mono hb.size)
              clear B
              clear hmr hok he0 hv0
              have hfm : fs.length ≤ 9223372036854775807 := by omega
              have qp0 := bbp.cell 0
              have qp1 := bbp.cell 1
              have qp2 := bbp.cell 2
              have qp3 := bbp.cell 3
              have lp := bbp.lt
              simp only [List.getElem?_toArray, List.getElem?_cons_succ, List.getElem?_cons_zero] at qp0 qp1 qp2 qp3
              go_wp2_with fail
              clear qp0 qp1 qp2 qp3 lp
              refine (Subst_ok _ af cf _ hp HI.out.1 HM.out.1 hf1 hf2 hf Z 0 HM.out.2.2 HM.out.2.1).mono ?_
              rintro e W6 ⟨kb, nb, sb', ab, mb, cb, rfl, hbk, B⟩
              replace bbp := Box.keep B bbp
              replace bbt := Box.keep B bbt
              replace hp := hp.up B B.size
              replace ht := ht.up B B.size
              replace hs := hs.up B B.size
              replace hf := hf.up B B.size
              replace hb := hb.trans (B.mono hb.size)
              clear B
              clear hf
              have qt0 := bbt.cell 0
              have qt1 := bbt.cell 1
              have qt2 := bbt.cell 2
              have qt3 := bbt.cell 3
              have lt := bbt.lt
              simp only [List.getElem?_toArray, List.getElem?_cons_succ, List.getElem?_cons_zero] at qt0 qt1 qt2 qt3
              go_wp2_with fail
              clear qt0 qt1 qt2 qt3 lt
              have bbu : Box (W6.alloc (.cells #[.int .i64 kb, .int .i64 nb, .string sb', .slice ab mb cb] 25)) W6.heap.size #[.int .i64 kb, .int .i64 nb, .string sb', .slice ab mb cb] 25 := Box.at rfl
              have B := below_a1 (Nat.le_refl W6.heap.size) (.cells #[.int .i64 kb, .int .i64 nb, .string sb', .slice ab mb cb] 25)
              replace bbp := Box.keep B bbp
              replace bbt := Box.keep B bbt
              replace hp := hp.up B B.size
              replace ht := ht.up B B.size
              replace hs := hs.up B B.size
              replace hbk := hbk.up B B.size
              replace hb := hb.trans (B.mono hb.size)
              clear B
              generalize (W6.alloc (.cells #[.int .i64 kb, .int .i64 nb, .string sb', .slice ab mb cb] 25)) = V7 at *
              refine (sane_same Z _ _ _ hbk ht).mono ?_
              rintro e W8 ⟨rfl, B⟩
              replace bbp := Box.keep B bbp
              replace bbt := Box.keep B bbt
              replace bbu := Box.keep B bbu
              replace hp := hp.up B B.size
              replace ht := ht.up B B.size
              replace hs := hs.up B B.size
              replace hbk := hbk.up B B.size
              replace hb := hb.trans (B.mono hb.size)
              clear B
              clear bbu hbk
              clear hf1 hf2 hfm hle HM
              rcases subst_ok HI.out.1 HS.out with ⟨he1, hx1, hv1⟩ | ⟨he1, hv1⟩
              rotate_left
              · have HE := Lib.hid (And.intro he1 hv1)
                clear he1 hv1
                have qp0 := bbp.cell 0
                have qp1 := bbp.cell 1
                have qp2 := bbp.cell 2
                have qp3 := bbp.cell 3
                have lp := bbp.lt
                simp only [List.getElem?_toArray, List.getElem?_cons_succ, List.getElem?_cons_zero] at qp0 qp1 qp2 qp3
                go_wp2_with fail
                clear qp0 qp1 qp2 qp3 lp
                refine (Subst_ok _ a c _ hp HI.out.1 HS.out h4 h5 hs zeroTr 2 HE.out.2 HE.out.1).mono ?_
                rintro e W9 ⟨kb, nb, sb', ab, mb, cb, rfl, hbk, B⟩
                replace bbp := Box.keep B bbp
                replace bbt := Box.keep B bbt
                replace hp := hp.up B B.size
                replace ht := ht.up B B.size
                replace hs := hs.up B B.size
                replace hb := hb.trans (B.mono hb.size)
                clear B
                go_wp2_with fail
                go_ret
                exact ⟨rfl, hb.trans (below_a1 hb.size _)⟩
              · have HE := Lib.hid (And.intro he1 (And.intro hx1 hv1))
                clear he1 hx1 hv1
                have qp0 := bbp.cell 0
                have qp1 := bbp.cell 1
                have qp2 := bbp.cell 2
                have qp3 := bbp.cell 3
                have lp := bbp.lt
                simp only [List.getElem?_toArray, List.getElem?_cons_succ, List.getElem?_cons_zero] at qp0 qp1 qp2 qp3
                go_wp2_with fail
                clear qp0 qp1 qp2 qp3 lp
                refine (Subst_ok _ a c _ hp HI.out.1 HS.out h4 h5 hs (subT l X) 0 HE.out.2.2 HE.out.1).mono ?_
                rintro e W9 ⟨kb, nb, sb', ab, mb, cb, rfl, hbk, B⟩
                replace bbp := Box.keep B bbp
                replace bbt := Box.keep B bbt
                replace hp := hp.up B B.size
                replace ht := ht.up B B.size
                replace hs := hs.up B B.size
                replace hb := hb.trans (B.mono hb.size)
                clear B
                obtain ⟨mm, hmm, hat⟩ := match_inst HI.out.1 HE.out.2.1
                have HAT := Lib.hid hat
                clear hat
                have qp0 := bbp.cell 0
                have qp1 := bbp.cell 1
                have qp2 := bbp.cell 2
                have qp3 := bbp.cell 3
                have lp := bbp.lt
                simp only [List.getElem?_toArray, List.getElem?_cons_succ, List.getElem?_cons_zero] at qp0 qp1 qp2 qp3
                go_wp2_with fail
                clear qp0 qp1 qp2 qp3 lp
                have bbu : Box (W9.alloc (.cells #[.int .i64 kb, .int .i64 nb, .string sb', .slice ab mb cb] 25)) W9.heap.size #[.int .i64 kb, .int .i64 nb, .string sb', .slice ab mb cb] 25 := Box.at rfl
                have B := below_a1 (Nat.le_refl W9.heap.size) (.cells #[.int .i64 kb, .int .i64 nb, .string sb', .slice ab mb cb] 25)
                replace bbp := Box.keep B bbp
                replace bbt := Box.keep B bbt
                replace hp := hp.up B B.size
                replace ht := ht.up B B.size
                replace hs := hs.up B B.size
                replace hbk := hbk.up B B.size
                replace hb := hb.trans (B.mono hb.size)
                clear B
                generalize (W9.alloc (.cells #[.int .i64 kb, .int .i64 nb, .string sb', .slice ab mb cb] 25)) = V10 at *
                refine (Match_some hmm _ _ _ hp hbk).mono ?_
                rintro e W11 ⟨am, cm, rfl, hm1, hm2, hm, B⟩
                replace bbp := Box.keep B bbp
                replace bbt := Box.keep B bbt
                replace bbu := Box.keep B bbu
                replace hp := hp.up B B.size
                replace ht := ht.up B B.size
                replace hs := hs.up B B.size
                replace hbk := hbk.up B B.size
                replace hb := hb.trans (B.mono hb.size)
                clear B
                clear bbu hbk bbt ht
                clear hmm
                have qp0 := bbp.cell 0
                have qp1 := bbp.cell 1
                have qp2 := bbp.cell 2
                have qp3 := bbp.cell 3
                have lp := bbp.lt
                simp only [List.getElem?_toArray, List.getElem?_cons_succ, List.getElem?_cons_zero] at qp0 qp1 qp2 qp3
                go_wp2_with fail
                clear qp0 qp1 qp2 qp3 lp
                refine (Vars_one HI.out.1 _ _ _ _ _ hp).mono ?_
                rintro e W12 ⟨an, cn, rfl, hn, B⟩
                replace bbp := Box.keep B bbp
                replace hp := hp.up B B.size
                replace hs := hs.up B B.size
                replace hm := hm.up B B.size
                replace hb := hb.trans (B.mono hb.size)
                clear B
                have HOC : Hid (∀ j (hj : j < (vars1 X).length), occ (vars1 X)[j] X) := fun j hj => (vars1_mem (isB_is HI.out.1).1).1 (List.getElem_mem hj)
                generalize vars1 X = ns at *
                obtain ⟨an', cn', hne, hnm, hnc⟩ := hn
                cases hne
                have hnm' : ns.length ≤ 9223372036854775807 := by unfold maxLen at hnm; omega
                have hmm' : mm.length ≤ 9223372036854775807 := by unfold maxLen at hm2; omega
                have HN := Lib.hid hnc
                have HM2 := Lib.hid hm
                have HS2 := Lib.hid hs
                have HB := Lib.hid hb
                clear hnc hm hs hb hp bbp
                go_wp2_with fail
                go_loopw [110] (fun i wr => ∃ j : Nat, j ≤ ns.length ∧ i = .int .i64 j ∧ Below W12.heap.size W12 wr) (fun i _ => ns.length - (intOf i).toNat)
                case atStart => exact ⟨0, Nat.zero_le _, rfl, Below.refl _ _⟩
                case round =>
                  obtain ⟨j, hj, rfl, hBj⟩ := hrel
                  by_cases hlt : j < ns.length
                  · obtain ⟨bn, on, rfl, hbn, hcell⟩ := HN.out (by omega)
                    have d0 := (hBj.cell (p := ⟨bn, on + j, none⟩) hbn).trans (hcell j hlt)
                    simp only [List.getD, List.getElem?_eq_getElem hlt, Option.getD_some] at d0
                    have hocc := HOC.out j hlt
                    obtain ⟨x, hx⟩ : ∃ x, ns[j] = x := ⟨_, rfl⟩
                    rw [hx] at d0 hocc
                    obtain ⟨hx0, hxm, hwant⟩ := HAT.out x hocc
                    have hxr := occ_range X x (isB_is HI.out.1).1 hocc
                    obtain ⟨n, rfl⟩ : ∃ n : Nat, x = n := ⟨x.toNat, by omega⟩
                    rw [want_eq HS.out hx0] at hwant
                    simp only [Int.toNat_natCast] at hwant
                    have hnm2 : n < mm.length := by omega
                    have HW := Lib.hid hwant
                    have hwr := hBj.size
                    have hbw : bn < wr.heap.size := by omega
                    have HJ := Lib.hid hBj
                    clear hcell hocc hx hwant hBj
                    go_wp2_with fail
                    refine (mkV n (by unfold okI; omega) _).mono ?_
                    rintro e W1 ⟨av, cv, rfl, hv, B⟩
                    have hB1 := HJ.out.trans (B.mono HJ.out.size)
                    obtain ⟨bm, om, rfl, hbm⟩ := HM2.out.addr (by omega)
                    have hs1 := hB1.size
                    have B2 := hB1.trans (below_a1 hs1 (.cells #[.int .i64 1, .int .i64 n, .string emp, .slice av 0 cv] 25))
                    have b20 : Box (W1.alloc (.cells #[.int .i64 1, .int .i64 n, .string emp, .slice av 0 cv] 25)) W1.heap.size #[.int .i64 1, .int .i64 n, .string emp, .slice av 0 cv] 25 := Box.at rfl
                    replace hv := hv.up (below_a1 (Nat.le_refl W1.heap.size) (.cells #[.int .i64 1, .int .i64 n, .string emp, .slice av 0 cv] 25)) (size_a1 (Nat.le_refl _) _)
                    by_cases hln : n < l.length
                    · obtain ⟨bs, os, rfl, hbs⟩ := HS2.out.addr (by omega)
                      obtain ⟨tk, tn, ts, tl, ta, tc, te, e0, e1, e2, e3, hte⟩ := HS2.out.node' hbs hB1 n hln
                      have hbs1 : bs < W1.heap.size := by omega
                      have hbs2 : bs < wr.heap.size := by have := HJ.out.size; omega
                      have hgd : l.getD n default = l[n] := by simp [List.getD, hln]
                      have HTE := Lib.hid (And.intro te hgd)
                      obtain ⟨r, hr⟩ : ∃ r, (l[n]).free = r := ⟨_, rfl⟩
                      have hc := free_any l[n] _ _ (hte.up B2 B2.size) r hr
                      have HFC := Lib.hid hc
                      have HR := Lib.hid hr
                      have HX := Lib.hid (And.intro hB1 (And.intro B2 (And.intro b20 (And.intro hv (hte.up B2 B2.size)))))
                      clear te hc hr hgd hB1 B2 b20 hv B hte
                      go_wp2_with fail
                      refine HFC.out.mono ?_
                      rintro e W2 ⟨rfl, B⟩
                      obtain ⟨hB1, B2, b20, hv, hte⟩ := HX.out
                      have B3 := B2.trans (B.mono B2.size)
                      replace b20 := Box.keep B b20
                      replace hv := hv.up B B.size
                      replace hte := hte.up B B.size
                      clear B hB1 B2 HX
                      cases r with
                      | true =>
                        have hw : mm.getD n default = tV n := by rw [HW.out, if_neg (fun h => by rw [HTE.out.2, HR.out] at h; cases h.2)]
                        clear hte e0 e1 e2 e3
                        go_wp2_with fail
                        obtain ⟨mk, mn, ms, ml, ma, mc, me, g0, g1, g2, g3, hme⟩ := HM2.out.node' hbm B3 n hnm2
                        have hbm2 : bm < W2.heap.size := by have := B3.size; omega
                        have l20 := b20.lt
                        have p0 := b20.cell 0
                        have p1 := b20.cell 1
                        have p2 := b20.cell 2
                        have p3 := b20.cell 3
                        simp only [List.getElem?_toArray, List.getElem?_cons_succ, List.getElem?_cons_zero] at p0 p1 p2 p3
                        have hme' : IsT W12.heap.size W12 (tV n) (.agg #[.int .i64 mk, .int .i64 mn, .string ms, .slice ma ml.length mc]) := by rw [← hw]; simpa [List.getD, hnm2] using hme
                        have HK : Hid (∀ W, Below W2.heap.size W2 W → Calls Tryd.prog 25 #[.agg #[.int .i64 mk, .int .i64 mn, .string ms, .slice ma ml.length mc], .agg #[.int .i64 1, .int .i64 n, .string emp, .slice av 0 cv]] W fun e w' => e = .returned (.bool true) ∧ Below W.heap.size W w') := fun W hW => sane_same (tV n) _ _ W ((hme'.up B3 B3.size).up hW hW.size) (hv.up hW hW.size)
                        have HB3 := Lib.hid B3
                        clear hme hme' hw hv me B3 b20
                        apply wp_region_mono [.det (.int .i64 n), .det (.slice (some ⟨bm, om, none⟩) mm.length cm), .det (.int .i64 mm.length), .det (.bool false), .det (.bool false), .det (.slice (some ⟨bm, om, none⟩) mm.length cm), .det (.int .i64 n), .det (.pointer (some ⟨bm, om + n * 4, none⟩)), .det (.agg #[.int .i64 mk, .int .i64 mn, .string ms, .slice ma ml.length mc]), .det (.agg #[.int .i64 1, .int .i64 n, .string emp, .slice av 0 cv]), .det (.bool true), .det (.bool false), .det (.bool false)] (by kernel_rfl) (by kernel_rfl)
                        rotate_left
                        · iterate 10 (
                            refine wpM_step (fun K hK => ?_)
                            go_simp
                            apply And.intro
                            · intro w' hC _
                              have q1 := hC.old.1
                              have hbs := hC.old.2.2
                              clear hC
                              go_simp
                              exact Ext.refl _
                            refine nextM_det (hK _ _ ?_)
                            clear hK K)
                          refine wpM_step (fun K hK => ?_)
                          go_simp
                          apply And.intro
                          · intro w' hC _
                            have hS := HK.out w' hC
                            clear hC
                            go_simp
                            refine ⟨Ext.refl _, hS.mono ?_⟩
                            rintro e w1 ⟨rfl, B⟩
                            exact ⟨rfl, B⟩
                          refine nextM_det (hK _ _ ?_)
                          clear hK K
                          iterate 2 (
                            refine wpM_step (fun K hK => ?_)
                            go_simp
                            apply And.intro
                            · intro w' hC _
                              have q1 := hC.old.1
                              have hbs := hC.old.2.2
                              clear hC
                              go_simp
                              exact Ext.refl _
                            refine nextM_det (hK _ _ ?_)
                            clear hK K)
                          refine wpM_nil ?_
                          intro W3 hC _
                          have HB4 := Lib.hid (HB3.out.trans (Below.mono hC HB3.out.size))
                          clear hC p0 p1 p2 p3 g0 g1 g2 g3
                          go_wp2_with fail
                          go_roundw
                          case rel => exact ⟨j + 1, hlt, by go_num, HB4.out⟩
                          case measure => simp [intOf]; omega
                        · intro y hy
                          simp only [List.mem_cons, List.not_mem_nil, or_false] at hy
                          rcases hy with rfl | rfl | rfl | rfl | rfl | rfl | rfl | rfl | rfl | rfl | rfl | rfl | rfl <;> first | trivial
                      | false =>
                        have hw : mm.getD n default = l[n] := by rw [HW.out, if_pos ⟨by omega, by rw [HTE.out.2, HR.out]⟩, HTE.out.2]
                        obtain ⟨tk', tn', ts', tl', ta', tc', te, e0, e1, e2, e3, hte'⟩ := HS2.out.node' hbs B3 n hln
                        have hbs3 : bs < W2.heap.size := by have := B3.size; omega
                        have f0 := b20.frozen 0
                        have f1 := b20.frozen 1
                        have f2 := b20.frozen 2
                        have f3 := b20.frozen 3
                        have g0 := b20.cell 0
                        have g1 := b20.cell 1
                        have g2 := b20.cell 2
                        have g3 := b20.cell 3
                        have l20 := b20.lt
                        simp only [List.getElem?_toArray, List.getElem?_cons_succ, List.getElem?_cons_zero] at g0 g1 g2 g3
                        have z : Box ((((W2.setCell ⟨W1.heap.size, 0, none⟩ (.int .i64 tk')).setCell ⟨W1.heap.size, 1, none⟩ (.int .i64 tn')).setCell ⟨W1.heap.size, 2, none⟩ (.string ts')).setCell ⟨W1.heap.size, 3, none⟩ (.slice ta' tl'.length tc')) W1.heap.size #[.int .i64 tk', .int .i64 tn', .string ts', .slice ta' tl'.length tc'] 25 := by simpa using (((b20.set 0 (.int .i64 tk')).set 1 (.int .i64 tn')).set 2 (.string ts')).set 3 (.slice ta' tl'.length tc')
                        have zB := (((B3.setCell (p := ⟨W1.heap.size, 0, none⟩) hs1 (.int .i64 tk')).setCell (p := ⟨W1.heap.size, 1, none⟩) hs1 (.int .i64 tn')).setCell (p := ⟨W1.heap.size, 2, none⟩) hs1 (.string ts')).setCell (p := ⟨W1.heap.size, 3, none⟩) hs1 (.slice ta' tl'.length tc')
                        have hsz : W2.heap.size ≤ ((((W2.setCell ⟨W1.heap.size, 0, none⟩ (.int .i64 tk')).setCell ⟨W1.heap.size, 1, none⟩ (.int .i64 tn')).setCell ⟨W1.heap.size, 2, none⟩ (.string ts')).setCell ⟨W1.heap.size, 3, none⟩ (.slice ta' tl'.length tc')).heap.size := by simp
                        have hw2 : IsT ((((W2.setCell ⟨W1.heap.size, 0, none⟩ (.int .i64 tk')).setCell ⟨W1.heap.size, 1, none⟩ (.int .i64 tn')).setCell ⟨W1.heap.size, 2, none⟩ (.string ts')).setCell ⟨W1.heap.size, 3, none⟩ (.slice ta' tl'.length tc')).heap.size ((((W2.setCell ⟨W1.heap.size, 0, none⟩ (.int .i64 tk')).setCell ⟨W1.heap.size, 1, none⟩ (.int .i64 tn')).setCell ⟨W1.heap.size, 2, none⟩ (.string ts')).setCell ⟨W1.heap.size, 3, none⟩ (.slice ta' tl'.length tc')) l[n] (.agg #[.int .i64 tk', .int .i64 tn', .string ts', .slice ta' tl'.length tc']) := hte'.up zB zB.size
                        have HZ := Lib.hid (And.intro z (And.intro zB hw2))
                        clear z zB hw2 hte hte' te b20 hv B3 hsz
                        go_wp2_with fail
                        obtain ⟨b20, B3, hv⟩ := HZ.out
                        clear HZ f0 f1 f2 f3 g0 g1 g2 g3 e0 e1 e2 e3
                        generalize ((((W2.setCell ⟨W1.heap.size, 0, none⟩ (.int .i64 tk')).setCell ⟨W1.heap.size, 1, none⟩ (.int .i64 tn')).setCell ⟨W1.heap.size, 2, none⟩ (.string ts')).setCell ⟨W1.heap.size, 3, none⟩ (.slice ta' tl'.length tc')) = W2 at *
                        obtain ⟨mk, mn, ms, ml, ma, mc, me, g0, g1, g2, g3, hme⟩ := HM2.out.node' hbm B3 n hnm2
                        have hbm2 : bm < W2.heap.size := by have := B3.size; omega
                        have l20 := b20.lt
                        have p0 := b20.cell 0
                        have p1 := b20.cell 1
                        have p2 := b20.cell 2
                        have p3 := b20.cell 3
                        simp only [List.getElem?_toArray, List.getElem?_cons_succ, List.getElem?_cons_zero] at p0 p1 p2 p3
                        have hme' : IsT W12.heap.size W12 (l[n]) (.agg #[.int .i64 mk, .int .i64 mn, .string ms, .slice ma ml.length mc]) := by rw [← hw]; simpa [List.getD, hnm2] using hme
                        have HK : Hid (∀ W, Below W2.heap.size W2 W → Calls Tryd.prog 25 #[.agg #[.int .i64 mk, .int .i64 mn, .string ms, .slice ma ml.length mc], .agg #[.int .i64 tk', .int .i64 tn', .string ts', .slice ta' tl'.length tc']] W fun e w' => e = .returned (.bool true) ∧ Below W.heap.size W w') := fun W hW => sane_same (l[n]) _ _ W ((hme'.up B3 B3.size).up hW hW.size) (hv.up hW hW.size)
                        have HB3 := Lib.hid B3
                        clear hme hme' hw hv me B3 b20
                        apply wp_region_mono [.det (.int .i64 n), .det (.slice (some ⟨bm, om, none⟩) mm.length cm), .det (.int .i64 mm.length), .det (.bool false), .det (.bool false), .det (.slice (some ⟨bm, om, none⟩) mm.length cm), .det (.int .i64 n), .det (.pointer (some ⟨bm, om + n * 4, none⟩)), .det (.agg #[.int .i64 mk, .int .i64 mn, .string ms, .slice ma ml.length mc]), .det (.agg #[.int .i64 tk', .int .i64 tn', .string ts', .slice ta' tl'.length tc']), .det (.bool true), .det (.bool false), .det (.bool false)] (by kernel_rfl) (by kernel_rfl)
                        rotate_left
                        · iterate 10 (
                            refine wpM_step (fun K hK => ?_)
                            go_simp
                            apply And.intro
                            · intro w' hC _
                              have q1 := hC.old.1
                              have hbs := hC.old.2.2
                              clear hC
                              go_simp
                              exact Ext.refl _
                            refine nextM_det (hK _ _ ?_)
                            clear hK K)
                          refine wpM_step (fun K hK => ?_)
                          go_simp
                          apply And.intro
                          · intro w' hC _
                            have hS := HK.out w' hC
                            clear hC
                            go_simp
                            refine ⟨Ext.refl _, hS.mono ?_⟩
                            rintro e w1 ⟨rfl, B⟩
                            exact ⟨rfl, B⟩
                          refine nextM_det (hK _ _ ?_)
                          clear hK K
                          iterate 2 (
                            refine wpM_step (fun K hK => ?_)
                            go_simp
                            apply And.intro
                            · intro w' hC _
                              have q1 := hC.old.1
                              have hbs := hC.old.2.2
                              clear hC
                              go_simp
                              exact Ext.refl _
                            refine nextM_det (hK _ _ ?_)
                            clear hK K)
                          refine wpM_nil ?_
                          intro W3 hC _
                          have HB4 := Lib.hid (HB3.out.trans (Below.mono hC HB3.out.size))
                          clear hC p0 p1 p2 p3 g0 g1 g2 g3
                          go_wp2_with fail
                          go_roundw
                          case rel => exact ⟨j + 1, hlt, by go_num, HB4.out⟩
                          case measure => simp [intOf]; omega
                        · intro y hy
                          simp only [List.mem_cons, List.not_mem_nil, or_false] at hy
                          rcases hy with rfl | rfl | rfl | rfl | rfl | rfl | rfl | rfl | rfl | rfl | rfl | rfl | rfl <;> first | trivial
                    · have hw : mm.getD n default = tV n := by rw [HW.out, if_neg (fun h => hln (by omega))]
                      have B3 := B2
                      have HX := Lib.hid (And.intro B3 (And.intro b20 hv))
                      clear B2 B3 hB1 b20 hv B
                      go_wp2_with fail
                      obtain ⟨B3, b20, hv⟩ := HX.out
                      clear HX
                      generalize (W1.alloc (.cells #[.int .i64 1, .int .i64 n, .string emp, .slice av 0 cv] 25)) = W2 at *
                      obtain ⟨mk, mn, ms, ml, ma, mc, me, g0, g1, g2, g3, hme⟩ := HM2.out.node' hbm B3 n hnm2
                      have hbm2 : bm < W2.heap.size := by have := B3.size; omega
                      have l20 := b20.lt
                      have p0 := b20.cell 0
                      have p1 := b20.cell 1
                      have p2 := b20.cell 2
                      have p3 := b20.cell 3
                      simp only [List.getElem?_toArray, List.getElem?_cons_succ, List.getElem?_cons_zero] at p0 p1 p2 p3
                      have hme' : IsT W12.heap.size W12 (tV n) (.agg #[.int .i64 mk, .int .i64 mn, .string ms, .slice ma ml.length mc]) := by rw [← hw]; simpa [List.getD, hnm2] using hme
                      have HK : Hid (∀ W, Below W2.heap.size W2 W → Calls Tryd.prog 25 #[.agg #[.int .i64 mk, .int .i64 mn, .string ms, .slice ma ml.length mc], .agg #[.int .i64 1, .int .i64 n, .string emp, .slice av 0 cv]] W fun e w' => e = .returned (.bool true) ∧ Below W.heap.size W w') := fun W hW => sane_same (tV n) _ _ W ((hme'.up B3 B3.size).up hW hW.size) (hv.up hW hW.size)
                      have HB3 := Lib.hid B3
                      clear hme hme' hw hv me B3 b20
                      apply wp_region_mono [.det (.int .i64 n), .det (.slice (some ⟨bm, om, none⟩) mm.length cm), .det (.int .i64 mm.length), .det (.bool false), .det (.bool false), .det (.slice (some ⟨bm, om, none⟩) mm.length cm), .det (.int .i64 n), .det (.pointer (some ⟨bm, om + n * 4, none⟩)), .det (.agg #[.int .i64 mk, .int .i64 mn, .string ms, .slice ma ml.length mc]), .det (.agg #[.int .i64 1, .int .i64 n, .string emp, .slice av 0 cv]), .det (.bool true), .det (.bool false), .det (.bool false)] (by kernel_rfl) (by kernel_rfl)
                      rotate_left
                      · iterate 10 (
                          refine wpM_step (fun K hK => ?_)
                          go_simp
                          apply And.intro
                          · intro w' hC _
                            have q1 := hC.old.1
                            have hbs := hC.old.2.2
                            clear hC
                            go_simp
                            exact Ext.refl _
                          refine nextM_det (hK _ _ ?_)
                          clear hK K)
                        refine wpM_step (fun K hK => ?_)
                        go_simp
                        apply And.intro
                        · intro w' hC _
                          have hS := HK.out w' hC
                          clear hC
                          go_simp
                          refine ⟨Ext.refl _, hS.mono ?_⟩
                          rintro e w1 ⟨rfl, B⟩
                          exact ⟨rfl, B⟩
                        refine nextM_det (hK _ _ ?_)
                        clear hK K
                        iterate 2 (
                          refine wpM_step (fun K hK => ?_)
                          go_simp
                          apply And.intro
                          · intro w' hC _
                            have q1 := hC.old.1
                            have hbs := hC.old.2.2
                            clear hC
                            go_simp
                            exact Ext.refl _
                          refine nextM_det (hK _ _ ?_)
                          clear hK K)
                        refine wpM_nil ?_
                        intro W3 hC _
                        have HB4 := Lib.hid (HB3.out.trans (Below.mono hC HB3.out.size))
                        clear hC p0 p1 p2 p3 g0 g1 g2 g3
                        go_wp2_with fail
                        go_roundw
                        case rel => exact ⟨j + 1, hlt, by go_num, HB4.out⟩
                        case measure => simp [intOf]; omega
                      · intro y hy
                        simp only [List.mem_cons, List.not_mem_nil, or_false] at hy
                        rcases hy with rfl | rfl | rfl | rfl | rfl | rfl | rfl | rfl | rfl | rfl | rfl | rfl | rfl <;> first | trivial
                  · go_wp2_with fail
                    go_ret
                    exact ⟨rfl, HB.out.trans (hBj.mono HB.out.size)⟩
          · intro y hy
            simp only [List.mem_cons, List.not_mem_nil, or_false] at hy
            rcases hy with rfl | rfl | rfl | rfl | rfl | rfl | rfl | rfl | rfl | rfl | rfl | rfl <;> first | trivial
end Go.Proofs.YtmjmgeleeacklaaDoor
