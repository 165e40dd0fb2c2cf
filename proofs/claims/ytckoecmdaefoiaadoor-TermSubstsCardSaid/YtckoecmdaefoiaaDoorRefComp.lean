/- The second reading of Compose. -/
import Derived.Test.YtckoecmdaefoiaaDoorRefSubs
import Derived.Test.YtckoecmdaefoiaaDoorCompose
namespace Go.Proofs.YtckoecmdaefoiaaDoor
open Go.RowKit Go

theorem refVar_any (n : Int) (w : World) : Calls Tryd.prog 101 #[.int .i64 n] w fun e w' => e = .returned (.agg #[.int .i64 1, .int .i64 n, .string ⟨#[]⟩, .slice none 0 0]) ∧ Below w.heap.size w w' := by
  go_enter Tryd.func101, Tryd.ntmps101
  go_wp2_with fail
  have z : Box (w.alloc (.cells #[.int .i64 1, .int .i64 n, .string ⟨#[]⟩, .slice none 0 0] 25)) w.heap.size #[.int .i64 1, .int .i64 n, .string ⟨#[]⟩, .slice none 0 0] 25 := Box.at rfl
  have zB := below_a1 (Nat.le_refl w.heap.size) (.cells #[.int .i64 1, .int .i64 n, .string ⟨#[]⟩, .slice none 0 0] 25)
  have w0 := z.cell 0
  have w1 := z.cell 1
  have w2 := z.cell 2
  have w3 := z.cell 3
  clear z
  generalize (w.alloc (.cells #[.int .i64 1, .int .i64 n, .string ⟨#[]⟩, .slice none 0 0] 25)) = FW at *
  simp at w0 w1 w2 w3
  exact bodyPost_ret (v := .agg #[.int .i64 1, .int .i64 n, .string ⟨#[]⟩, .slice none 0 0]) (by simp [results, Tryd.results101, go_sem, w0, w1, w2, w3]) rfl ⟨rfl, zB⟩
theorem tV_isT (n₀ : Nat) (W : World) {n : Int} (h : okI n) : IsT n₀ W (tV n) (.agg #[.int .i64 1, .int .i64 n, .string ⟨#[]⟩, .slice none 0 0]) :=
  IsP.toT (p := fun _ => False) (fun _ h => h.elim) _ _ (IsP.mk (l := []) (by unfold okI; omega) h (by decide) (Nat.le_refl _) (by decide) IsPL.nil)
theorem sgS_free {l : List Tr} {j : Nat} (hj : j < l.length) (hf : (l[j]).free = true) : sgS l (j : Int) = tV j := by
  have := (free_size hf).2
  rw [sgS, if_neg]
  simp [putsB, hj, this]
theorem sgS_put {l : List Tr} (hl : subOkB l = true) {j : Nat} (hj : j < l.length) (hf : (l[j]).free = false) : sgS l (j : Int) = l[j] := by
  refine sgS_mem hj ?_
  rcases subOk_mem hl (List.getElem_mem hj) with h | h
  · rw [hf] at h; cases h
  · exact good_kind (isB_is h).1
theorem substE_fit {X : Tr} {l : List Tr} (hX : isB X = true) (hl : subOkB l = true) : substE X l = (if fitsB (subT l X) then 0 else 2) ∧ (fitsB (subT l X) = true → substV X l = subT l X) := by
  refine ⟨by rw [substE, if_pos hX, if_pos hl], fun h => ?_⟩
  rw [substV, hX, hl, h]
  rfl
theorem compFit_bad {a b : List Tr} (ha : subOkB a = true) (hb : subOkB b = true) {j : Nat} (hj : j < 100000) (hf : fitsB (subT b (sgS a (j : Int))) = false) : compFit a b = false := by
  by_cases hl : j < a.length
  · cases hfr : (a[j]).free with
    | true =>
      rw [sgS_free hl hfr, sub_var hb (by omega) (by omega), fits_isB (sgS_isB hb (by omega) (by omega))] at hf
      cases hf
    | false =>
      rw [sgS_put ha hl hfr] at hf
      rw [Bool.eq_false_iff]
      intro h
      rw [List.all_eq_true.1 h _ (List.getElem_mem hl)] at hf
      cases hf
  · rw [sgS_far (by omega), sub_var hb (by omega) (by omega), fits_isB (sgS_isB hb (by omega) (by omega))] at hf
    cases hf
theorem compFit_good {a b : List Tr} (ha : subOkB a = true) (h : ∀ j, j < max a.length b.length → fitsB (subT b (sgS a (j : Int))) = true) : compFit a b = true := by
  refine List.all_eq_true.2 fun t ht => ?_
  obtain ⟨j, hj, rfl⟩ := List.mem_iff_getElem.1 ht
  cases hfr : (a[j]).free with
  | true =>
    cases hT : a[j] with
    | node k x s ts =>
    rw [hT] at hfr
    simp only [Tr.free, freeB, Bool.and_eq_true, decide_eq_true_eq] at hfr
    obtain ⟨⟨⟨rfl, rfl⟩, _⟩, h0⟩ := hfr
    obtain rfl := List.length_eq_zero_iff.1 h0
    rw [subT, if_neg (by simp [putsB])]
    rfl
  | false =>
    have := h j (by omega)
    rwa [sgS_put ha hj hfr] at this
theorem ComposePost.row {a b : List Tr} {w w' : World} {ad : Option Addr} {c N : Nat} (hx : compE a b = 0) (hl : (compL a b).length = N) (h1 : N ≤ c) (h2 : c ≤ maxLen) (hL : IsL w'.heap.size w' (compL a b) ad) (hB : Below w.heap.size w w') : ComposePost a b w (.returned (.tuple #[.slice ad N c, .int .i64 0])) w' := by
  subst hl
  exact ⟨ad, c, by rw [hx], h1, h2, hL, hB⟩
structure RcB (la lb : List Tr) (w : World) (j : Nat) (ov : Value) (xs : List Value) (wr : World) : Prop where
  row : RowG none w.heap.size w.heap.size w ((List.range j).map (cmpE la lb)) ov xs wr
  fits : ∀ i, i < j → fitsB (subT lb (sgS la (i : Int))) = true
theorem RcB.below {la lb : List Tr} {w : World} {j : Nat} {ov : Value} {xs : List Value} {wr : World} (h : RcB la lb w j ov xs wr) : Below w.heap.size w wr := grown_below' h.row.grown (Nat.le_refl _) (fun g e => by cases e)

set_option maxRecDepth 100000 in
set_option maxHeartbeats 8000000 in
theorem refCompose_any (la lb : List Tr) (aa ab : Option Addr) (ca cb : Nat) (w : World) (hla : IsL w.heap.size w la aa) (hlb : IsL w.heap.size w lb ab) (hma : la.length ≤ 1000000) (hmb : lb.length ≤ 1000000) (hsa : ∀ t, t ∈ la → t.size ≤ 1000000000 ∧ t.deep ≤ 1000000000) (hsb : ∀ t, t ∈ lb → t.size ≤ 1000000000 ∧ t.deep ≤ 1000000000) :
    Calls Tryd.prog 43 #[.slice aa la.length ca, .slice ab lb.length cb] w (ComposePost la lb w) := by
  have HLA := Lib.hid hla
  have HLB := Lib.hid hlb
  have HSA := Lib.hid hsa
  have HSB := Lib.hid hsb
  clear hla hlb hsa hsb
  go_enter Tryd.func43, Tryd.ntmps43
  go_wp2_with fail
  refine (refIsSubst_any la aa ca w hma HLA.out HSA.out).mono ?_
  rintro e W1 ⟨rfl, B1⟩
  go_wp2_with fail
  refine (refIsSubst_any lb ab cb W1 hmb (HLB.out.up B1 B1.size) HSB.out).mono ?_
  rintro e W2 ⟨rfl, B2⟩
  have hB2 := B1.trans (B2.mono B1.size)
  clear B1 B2
  cases ha : subOkB la with
  | false =>
    have hE : Hid (compE la lb = 1) := by simp [Hid, compE, ha]
    clear ha
    cases hb : subOkB lb with
    | false =>
      clear hb
      go_wp2_with fail
      exact bodyPost_ret (v := .tuple #[.slice none 0 0, .int .i64 1]) (by simp [results, Tryd.results43, go_sem]) rfl (ComposePost.bad hE.out (by decide) hB2)
    | true =>
      clear hb
      go_wp2_with fail
      exact bodyPost_ret (v := .tuple #[.slice none 0 0, .int .i64 1]) (by simp [results, Tryd.results43, go_sem]) rfl (ComposePost.bad hE.out (by decide) hB2)
  | true =>
    cases hb : subOkB lb with
    | false =>
      have hE : Hid (compE la lb = 1) := by simp [Hid, compE, hb]
      clear ha hb
      go_wp2_with fail
      exact bodyPost_ret (v := .tuple #[.slice none 0 0, .int .i64 1]) (by simp [results, Tryd.results43, go_sem]) rfl (ComposePost.bad hE.out (by decide) hB2)
    | true =>
      have HA := Lib.hid ha
      have HB := Lib.hid hb
      have hlna := subOk_len ha
      have hlnb := subOk_len hb
      clear ha hb
      go_wp2_with fail
      obtain ⟨i0, hi, hz0, hz1, hz2⟩ := info_parts infoTerm
      have hS0 : RcB la lb w 0 (.slice none 0 0) [] W2 := ⟨RowG.nil (grown_b none hB2) (Nat.le_refl _) (fun p e => by cases e) (Nat.le_refl _) hB2.size, fun i h => absurd h (Nat.not_lt_zero _)⟩
      clear hB2
      go_loopw [8, 9] (fun sv iv wr => ∃ (j : Nat) (ov : Value) (xs : List Value), j ≤ max la.length lb.length ∧ ov = sv ∧ iv = .int .i64 j ∧ RcB la lb w j ov xs wr) (fun _ iv _ => max la.length lb.length - (intOf iv).toNat)
      case atStart => exact ⟨0, _, [], Nat.zero_le _, rfl, rfl, hS0⟩
      case round =>
        clear hS0
        obtain ⟨j, ov, xs, hj, rfl, rfl, hS⟩ := hrel
        have HS := Lib.hid hS
        have hsr := hS.below.size
        clear hS
        by_cases hlt : j < max la.length lb.length
        · go_wp2_with fail
          refine (refVar_any (j : Int) wr).mono ?_
          rintro e W1 ⟨rfl, B1⟩
          have hs1 := B1.size
          have bv : Box (W1.alloc (.cells #[.int .i64 1, .int .i64 (j : Int), .string ⟨#[]⟩, .slice none 0 0] 25)) W1.heap.size #[.int .i64 1, .int .i64 (j : Int), .string ⟨#[]⟩, .slice none 0 0] 25 := Box.at rfl
          have hR1 : RcB la lb w j ov xs (W1.alloc (.cells #[.int .i64 1, .int .i64 (j : Int), .string ⟨#[]⟩, .slice none 0 0] 25)) := ⟨(HS.out.row.keep B1).up (World.grownBy_alloc W1 (.cells #[.int .i64 1, .int .i64 (j : Int), .string ⟨#[]⟩, .slice none 0 0] 25) none), HS.out.fits⟩
          have hBr1 := B1.trans (below_a1 B1.size (.cells #[.int .i64 1, .int .i64 (j : Int), .string ⟨#[]⟩, .slice none 0 0] 25))
          clear B1
          by_cases hja : j < la.length
          · obtain ⟨b, off, rfl, hbb⟩ := HLA.out.addr (by omega)
            obtain ⟨tk, tn, tss, tl, ta, tc, te, x0, x1, x2, x3, ht⟩ := HLA.out.node' hbb hR1.below j hja
            obtain ⟨r, hr⟩ : ∃ r, (la[j]).free = r := ⟨_, rfl⟩
            have HFC := Lib.hid (free_any la[j] _ _ ((ht.below hR1.below).mono (by simp; omega)) r hr)
            have HX0 := Lib.hid (fun (W : World) (hB : Below w.heap.size w W) => And.intro ((hB.cell (p := ⟨b, off + j * 4, none⟩) hbb).trans ((hR1.below.cell (p := ⟨b, off + j * 4, none⟩) hbb).symm.trans x0)) (And.intro ((hB.cell (p := ⟨b, off + j * 4 + 1, none⟩) hbb).trans ((hR1.below.cell (p := ⟨b, off + j * 4 + 1, none⟩) hbb).symm.trans x1)) (And.intro ((hB.cell (p := ⟨b, off + j * 4 + 2, none⟩) hbb).trans ((hR1.below.cell (p := ⟨b, off + j * 4 + 2, none⟩) hbb).symm.trans x2)) ((hB.cell (p := ⟨b, off + j * 4 + 3, none⟩) hbb).trans ((hR1.below.cell (p := ⟨b, off + j * 4 + 3, none⟩) hbb).symm.trans x3)))))
            have HT0 := Lib.hid ht
            have HR1 := Lib.hid hR1
            have HBV := Lib.hid bv
            have l1 := bv.lt
            have HFR := Lib.hid hr
            clear te ht hR1 bv hr
            go_wp2_with fail
            refine HFC.out.mono ?_
            rintro e W2 ⟨rfl, B2⟩
            clear HFC x0 x1 x2 x3 l1
            have hR2 : RcB la lb w j ov xs W2 := ⟨HR1.out.row.keep B2, HS.out.fits⟩
            have bw := Box.keep B2 HBV.out
            have hBr2 := hBr1.trans (B2.mono hBr1.size)
            clear hBr1
            have hs2 := B2.size
            simp only [World.size_alloc] at hs2
            clear B2
            cases r with
            | true =>
              have hX : IsT w.heap.size W2 (sgS la (j : Int)) (.agg #[.int .i64 1, .int .i64 (j : Int), .string ⟨#[]⟩, .slice none 0 0]) := by rw [sgS_free hja HFR.out]; exact tV_isT _ _ (by unfold okI; omega)
              have hRo := hR2
              have bx := bw
              clear hR2 bw hBr2 HX0 HBV HR1 HT0
              have q0 := bx.cell 0
              have q1 := bx.cell 1
              have q2 := bx.cell 2
              have q3 := bx.cell 3
              have l0 := bx.lt
              simp only [List.getElem?_toArray, List.getElem?_cons_succ, List.getElem?_cons_zero] at q0 q1 q2 q3
              have hBw := hRo.below
              have hsw := hBw.size
              have hXb := sgS_isB HA.out (n := (j : Int)) (by omega) (by omega)
              have hcall := refSubst_any lb w.heap.size (sgS la (j : Int)) _ ab cb W2 hX hsw (HLB.out.below hBw) hmb (by have := (isB_size hXb).1; omega) (by have := (isB_size hXb).2; omega) HSB.out
              have hsf := substE_fit hXb HB.out
              have HC := Lib.hid hcall
              have HSF := Lib.hid hsf
              have HR := Lib.hid hRo
              clear hcall hsf hXb hX hRo bx hBw
              go_wp2_with fail
              refine HC.out.mono ?_
              rintro e W4 ⟨yk, yx, ys, ya, ym, yc, rfl, hP, B4⟩
              have hR4 := (HR.out.row.keep B4).up (World.grownBy_alloc W4 (.cells #[.int .i64 yk, .int .i64 yx, .string ys, .slice ya ym yc] 25) none)
              have hs4 := B4.size
              have y0 : Box (W4.alloc (.cells #[.int .i64 yk, .int .i64 yx, .string ys, .slice ya ym yc] 25)) W4.heap.size #[.int .i64 yk, .int .i64 yx, .string ys, .slice ya ym yc] 25 := Box.at rfl
              clear HC q0 q1 q2 q3 l0
              cases hf : fitsB (subT lb (sgS la (j : Int))) with
              | false =>
                have hE2 : substE (sgS la (j : Int)) lb = 2 := by rw [HSF.out.1, hf]; rfl
                have hE : Hid (compE la lb = 2) := by simp [Hid, compE, HA.out, HB.out, compFit_bad HA.out HB.out (j := j) (by omega) hf]
                rw [hE2]
                have hBF := (HR.out.below.trans (B4.mono hsw)).trans (below_a1 (show w.heap.size ≤ W4.heap.size by omega) (.cells #[.int .i64 yk, .int .i64 yx, .string ys, .slice ya ym yc] 25))
                clear hf hE2 hP B4 hR4 y0
                go_wp2_with fail
                exact bodyPost_ret (v := .tuple #[.slice none 0 0, .int .i64 2]) (by simp [results, Tryd.results43, go_sem]) rfl (ComposePost.bad hE.out (by decide) hBF)
              | true =>
                have hE0 : substE (sgS la (j : Int)) lb = 0 := by rw [HSF.out.1, hf]; rfl
                rw [HSF.out.2 hf] at hP
                rw [hE0]
                clear hE0
                have hfit : ∀ i, i < j + 1 → fitsB (subT lb (sgS la (i : Int))) = true := fun i h => by
                  by_cases e : i = j
                  · rw [e]; exact hf
                  · exact HR.out.fits i (by omega)
                have hk := hP.kinds (j : Int)
                have hPo : IsP (OB w.heap.size w.heap.size ov W4) W4 (subT lb (sgS la (j : Int))) (.agg #[.int .i64 yk, .int .i64 yx, .string ys, .slice ya ym yc]) := OB.from HR.out.row (Nat.le_refl _) hP
                have hlen : ((List.range j).map (cmpE la lb)).length = j := by simp
                have hown := hR4.own
                rw [hlen] at hown
                have hlo := hR4.hlo
                have p0 := y0.cell 0
                have p1 := y0.cell 1
                have p2 := y0.cell 2
                have p3 := y0.cell 3
                have g0 := y0.frozen 0
                have g1 := y0.frozen 1
                have g2 := y0.frozen 2
                have g3 := y0.frozen 3
                have l4 := y0.lt
                simp only [List.getElem?_toArray, List.getElem?_cons_succ, List.getElem?_cons_zero] at p0 p1 p2 p3
                have HP := Lib.hid (And.intro hR4 (And.intro hPo (And.intro hfit (And.intro hlen hk))))
                clear hR4 hPo hfit hlen hk hf hP y0
                have B4' := B4
                clear B4
                by_cases h1 : yk = 1
                · subst h1
                  by_cases h2 : yx = (j : Int)
                  · subst h2
                    have hcm : Hid (cmpE la lb j = zeroTr) := by rw [Hid, cmpE, if_pos]; rw [HP.out.2.2.2.2]; simp
                    have hRW := Lib.hid (And.intro ((HR.out.row.keep B4').up (World.grownBy_alloc W4 (.cells #[.int .i64 0, .int .i64 0, .string ⟨#[]⟩, .slice none 0 0] 25) none)) (show IsP (OB w.heap.size w.heap.size ov (W4.alloc (.cells #[.int .i64 0, .int .i64 0, .string ⟨#[]⟩, .slice none 0 0] 25))) (W4.alloc (.cells #[.int .i64 0, .int .i64 0, .string ⟨#[]⟩, .slice none 0 0] 25)) zeroTr (.agg #[.int .i64 0, .int .i64 0, .string ⟨#[]⟩, .slice none 0 0]) from zero_isP _ _))
                    clear hown
                    have hown := hRW.out.1.own
                    rw [HP.out.2.2.2.1] at hown
                    go_wp2_with (at_builtin; refine wpList_append_where rfl _ _ 22 rfl w.heap.size 25 i0 _ 4 56 Tryd.underlying22 hi hz0 hz1 hz2 rfl (by decide) _ _ _ rfl (World.ownsRow.alloc hown _) ⟨W4.heap.size + 1, 0, none⟩ 1 1 [.int .i64 0, .int .i64 0, .string ⟨#[]⟩, .slice none 0 0] rfl rfl (cells_of_box (Box.at (by simp))) (one_cells _ _ _ _ _ _) (by unfold maxLen; omega) (by omega) (by simp; simp at hlo; omega) ?_)
                    intro v2 w3 hown3 hgrow hwh
                    have hRn := (hRW.out.1).push hRW.out.2 (by rw [HP.out.2.2.2.1]; exact hown3) hgrow (fun b h => (hwh b h).imp id (fun h => by first | omega | (simp; omega) | (simp at h ⊢; omega)))
                    rw [← hcm.out, ← List.map_singleton, ← List.map_append, ← List.range_succ] at hRn
                    have HN := Lib.hid (RcB.mk hRn HP.out.2.2.1)
                    clear hRn hown3 hgrow hwh hown p0 p1 p2 p3 g0 g1 g2 g3
                    go_wp2_with fail
                    go_roundw
                    case rel => exact ⟨j + 1, _, _, hlt, rfl, by go_num, HN.out⟩
                    case measure => simp [intOf]; omega
                  · have hcm : Hid (cmpE la lb j = subT lb (sgS la (j : Int))) := by rw [Hid, cmpE, if_neg]; rw [HP.out.2.2.2.2]; simp [h2]
                    have hRW := Lib.hid (And.intro HP.out.1 (IsP.map (q := OB w.heap.size w.heap.size ov (W4.alloc (.cells #[.int .i64 1, .int .i64 yx, .string ys, .slice ya ym yc] 25))) (B := W4.alloc (.cells #[.int .i64 1, .int .i64 yx, .string ys, .slice ya ym yc] 25)) (fun b hb => ⟨⟨hb.1, by have := hb.2.1; simp; omega, hb.2.2⟩, Below.heap_alloc W4 _ b hb.2.1⟩) _ _ HP.out.2.1))
                    go_wp2_with (at_builtin; refine wpList_append_where rfl _ _ 22 rfl w.heap.size 25 i0 _ 4 56 Tryd.underlying22 hi hz0 hz1 hz2 rfl (by decide) _ _ _ rfl (World.ownsRow.alloc hown _) ⟨W4.heap.size + 1, 0, none⟩ 1 1 [.int .i64 1, .int .i64 yx, .string ys, .slice ya ym yc] rfl rfl (cells_of_box (Box.at (by simp))) (one_cells _ _ _ _ _ _) (by unfold maxLen; omega) (by omega) (by simp; simp at hlo; omega) ?_)
                    intro v2 w3 hown3 hgrow hwh
                    have hRn := (hRW.out.1).push hRW.out.2 (by rw [HP.out.2.2.2.1]; exact hown3) hgrow (fun b h => (hwh b h).imp id (fun h => by first | omega | (simp; omega) | (simp at h ⊢; omega)))
                    rw [← hcm.out, ← List.map_singleton, ← List.map_append, ← List.range_succ] at hRn
                    have HN := Lib.hid (RcB.mk hRn HP.out.2.2.1)
                    clear hRn hown3 hgrow hwh hown p0 p1 p2 p3 g0 g1 g2 g3
                    go_wp2_with fail
                    go_roundw
                    case rel => exact ⟨j + 1, _, _, hlt, rfl, by go_num, HN.out⟩
                    case measure => simp [intOf]; omega
                · have hcm : Hid (cmpE la lb j = subT lb (sgS la (j : Int))) := by rw [Hid, cmpE, if_neg]; rw [HP.out.2.2.2.2]; simp [h1]
                  have hRW := Lib.hid (And.intro HP.out.1 (IsP.map (q := OB w.heap.size w.heap.size ov (W4.alloc (.cells #[.int .i64 yk, .int .i64 yx, .string ys, .slice ya ym yc] 25))) (B := W4.alloc (.cells #[.int .i64 yk, .int .i64 yx, .string ys, .slice ya ym yc] 25)) (fun b hb => ⟨⟨hb.1, by have := hb.2.1; simp; omega, hb.2.2⟩, Below.heap_alloc W4 _ b hb.2.1⟩) _ _ HP.out.2.1))
                  go_wp2_with (at_builtin; refine wpList_append_where rfl _ _ 22 rfl w.heap.size 25 i0 _ 4 56 Tryd.underlying22 hi hz0 hz1 hz2 rfl (by decide) _ _ _ rfl (World.ownsRow.alloc hown _) ⟨W4.heap.size + 1, 0, none⟩ 1 1 [.int .i64 yk, .int .i64 yx, .string ys, .slice ya ym yc] rfl rfl (cells_of_box (Box.at (by simp))) (one_cells _ _ _ _ _ _) (by unfold maxLen; omega) (by omega) (by simp; simp at hlo; omega) ?_)
                  intro v2 w3 hown3 hgrow hwh
                  have hRn := (hRW.out.1).push hRW.out.2 (by rw [HP.out.2.2.2.1]; exact hown3) hgrow (fun b h => (hwh b h).imp id (fun h => by first | omega | (simp; omega) | (simp at h ⊢; omega)))
                  rw [← hcm.out, ← List.map_singleton, ← List.map_append, ← List.range_succ] at hRn
                  have HN := Lib.hid (RcB.mk hRn HP.out.2.2.1)
                  clear hRn hown3 hgrow hwh hown p0 p1 p2 p3 g0 g1 g2 g3
                  go_wp2_with fail
                  go_roundw
                  case rel => exact ⟨j + 1, _, _, hlt, rfl, by go_num, HN.out⟩
                  case measure => simp [intOf]; omega
            | false =>
              obtain ⟨x0, x1, x2, x3⟩ := HX0.out W2 hR2.below
              have u0 := bw.cell 0
              have u1 := bw.cell 1
              have u2 := bw.cell 2
              have u3 := bw.cell 3
              have g0 := bw.frozen 0
              have g1 := bw.frozen 1
              have g2 := bw.frozen 2
              have g3 := bw.frozen 3
              have l1 := bw.lt
              simp only [List.getElem?_toArray, List.getElem?_cons_succ, List.getElem?_cons_zero] at u0 u1 u2 u3
              have hRo : RcB la lb w j ov xs ((((W2.setCell ⟨W1.heap.size, 0, none⟩ (.int .i64 tk)).setCell ⟨W1.heap.size, 1, none⟩ (.int .i64 tn)).setCell ⟨W1.heap.size, 2, none⟩ (.string tss)).setCell ⟨W1.heap.size, 3, none⟩ (.slice ta tl.length tc)) := ⟨HS.out.row.keep (below_four hBr2 (B := W1.heap.size) (by omega) (.int .i64 tk) (.int .i64 tn) (.string tss) (.slice ta tl.length tc)), HS.out.fits⟩
              have hX : IsT w.heap.size ((((W2.setCell ⟨W1.heap.size, 0, none⟩ (.int .i64 tk)).setCell ⟨W1.heap.size, 1, none⟩ (.int .i64 tn)).setCell ⟨W1.heap.size, 2, none⟩ (.string tss)).setCell ⟨W1.heap.size, 3, none⟩ (.slice ta tl.length tc)) (sgS la (j : Int)) (.agg #[.int .i64 tk, .int .i64 tn, .string tss, .slice ta tl.length tc]) := by rw [sgS_put HA.out hja HFR.out]; exact HT0.out.below hRo.below
              have bx := bw.four (.int .i64 tk) (.int .i64 tn) (.string tss) (.slice ta tl.length tc)
              have hsx : ((((W2.setCell ⟨W1.heap.size, 0, none⟩ (.int .i64 tk)).setCell ⟨W1.heap.size, 1, none⟩ (.int .i64 tn)).setCell ⟨W1.heap.size, 2, none⟩ (.string tss)).setCell ⟨W1.heap.size, 3, none⟩ (.slice ta tl.length tc)).heap.size = W2.heap.size := by simp
              have HQ := Lib.hid (And.intro hRo (And.intro hX bx))
              clear hR2 hBr2 bw HX0 hRo hX bx HBV HR1
              go_upto_region 12 with (fail)
              clear x0 x1 x2 x3 u0 u1 u2 u3 g0 g1 g2 g3 l1
              generalize ((((W2.setCell ⟨W1.heap.size, 0, none⟩ (.int .i64 tk)).setCell ⟨W1.heap.size, 1, none⟩ (.int .i64 tn)).setCell ⟨W1.heap.size, 2, none⟩ (.string tss)).setCell ⟨W1.heap.size, 3, none⟩ (.slice ta tl.length tc)) = WX at *
              obtain ⟨hRo, hX, bx⟩ := HQ.out
              clear HQ
              have q0 := bx.cell 0
              have q1 := bx.cell 1
              have q2 := bx.cell 2
              have q3 := bx.cell 3
              have l0 := bx.lt
              simp only [List.getElem?_toArray, List.getElem?_cons_succ, List.getElem?_cons_zero] at q0 q1 q2 q3
              have hBw := hRo.below
              have hsw := hBw.size
              have hXb := sgS_isB HA.out (n := (j : Int)) (by omega) (by omega)
              have hcall := refSubst_any lb w.heap.size (sgS la (j : Int)) _ ab cb WX hX hsw (HLB.out.below hBw) hmb (by have := (isB_size hXb).1; omega) (by have := (isB_size hXb).2; omega) HSB.out
              have hsf := substE_fit hXb HB.out
              have HC := Lib.hid hcall
              have HSF := Lib.hid hsf
              have HR := Lib.hid hRo
              clear hcall hsf hXb hX hRo bx hBw
              go_wp2_with fail
              refine HC.out.mono ?_
              rintro e W4 ⟨yk, yx, ys, ya, ym, yc, rfl, hP, B4⟩
              have hR4 := (HR.out.row.keep B4).up (World.grownBy_alloc W4 (.cells #[.int .i64 yk, .int .i64 yx, .string ys, .slice ya ym yc] 25) none)
              have hs4 := B4.size
              have y0 : Box (W4.alloc (.cells #[.int .i64 yk, .int .i64 yx, .string ys, .slice ya ym yc] 25)) W4.heap.size #[.int .i64 yk, .int .i64 yx, .string ys, .slice ya ym yc] 25 := Box.at rfl
              clear HC q0 q1 q2 q3 l0
              cases hf : fitsB (subT lb (sgS la (j : Int))) with
              | false =>
                have hE2 : substE (sgS la (j : Int)) lb = 2 := by rw [HSF.out.1, hf]; rfl
                have hE : Hid (compE la lb = 2) := by simp [Hid, compE, HA.out, HB.out, compFit_bad HA.out HB.out (j := j) (by omega) hf]
                rw [hE2]
                have hBF := (HR.out.below.trans (B4.mono hsw)).trans (below_a1 (show w.heap.size ≤ W4.heap.size by omega) (.cells #[.int .i64 yk, .int .i64 yx, .string ys, .slice ya ym yc] 25))
                clear hf hE2 hP B4 hR4 y0
                go_wp2_with fail
                exact bodyPost_ret (v := .tuple #[.slice none 0 0, .int .i64 2]) (by simp [results, Tryd.results43, go_sem]) rfl (ComposePost.bad hE.out (by decide) hBF)
              | true =>
                have hE0 : substE (sgS la (j : Int)) lb = 0 := by rw [HSF.out.1, hf]; rfl
                rw [HSF.out.2 hf] at hP
                rw [hE0]
                clear hE0
                have hfit : ∀ i, i < j + 1 → fitsB (subT lb (sgS la (i : Int))) = true := fun i h => by
                  by_cases e : i = j
                  · rw [e]; exact hf
                  · exact HR.out.fits i (by omega)
                have hk := hP.kinds (j : Int)
                have hPo : IsP (OB w.heap.size w.heap.size ov W4) W4 (subT lb (sgS la (j : Int))) (.agg #[.int .i64 yk, .int .i64 yx, .string ys, .slice ya ym yc]) := OB.from HR.out.row (Nat.le_refl _) hP
                have hlen : ((List.range j).map (cmpE la lb)).length = j := by simp
                have hown := hR4.own
                rw [hlen] at hown
                have hlo := hR4.hlo
                have p0 := y0.cell 0
                have p1 := y0.cell 1
                have p2 := y0.cell 2
                have p3 := y0.cell 3
                have g0 := y0.frozen 0
                have g1 := y0.frozen 1
                have g2 := y0.frozen 2
                have g3 := y0.frozen 3
                have l4 := y0.lt
                simp only [List.getElem?_toArray, List.getElem?_cons_succ, List.getElem?_cons_zero] at p0 p1 p2 p3
                have HP := Lib.hid (And.intro hR4 (And.intro hPo (And.intro hfit (And.intro hlen hk))))
                clear hR4 hPo hfit hlen hk hf hP y0
                have B4' := B4
                clear B4
                by_cases h1 : yk = 1
                · subst h1
                  by_cases h2 : yx = (j : Int)
                  · subst h2
                    have hcm : Hid (cmpE la lb j = zeroTr) := by rw [Hid, cmpE, if_pos]; rw [HP.out.2.2.2.2]; simp
                    have hRW := Lib.hid (And.intro ((HR.out.row.keep B4').up (World.grownBy_alloc W4 (.cells #[.int .i64 0, .int .i64 0, .string ⟨#[]⟩, .slice none 0 0] 25) none)) (show IsP (OB w.heap.size w.heap.size ov (W4.alloc (.cells #[.int .i64 0, .int .i64 0, .string ⟨#[]⟩, .slice none 0 0] 25))) (W4.alloc (.cells #[.int .i64 0, .int .i64 0, .string ⟨#[]⟩, .slice none 0 0] 25)) zeroTr (.agg #[.int .i64 0, .int .i64 0, .string ⟨#[]⟩, .slice none 0 0]) from zero_isP _ _))
                    clear hown
                    have hown := hRW.out.1.own
                    rw [HP.out.2.2.2.1] at hown
                    go_wp2_with (at_builtin; refine wpList_append_where rfl _ _ 22 rfl w.heap.size 25 i0 _ 4 56 Tryd.underlying22 hi hz0 hz1 hz2 rfl (by decide) _ _ _ rfl (World.ownsRow.alloc hown _) ⟨W4.heap.size + 1, 0, none⟩ 1 1 [.int .i64 0, .int .i64 0, .string ⟨#[]⟩, .slice none 0 0] rfl rfl (cells_of_box (Box.at (by simp))) (one_cells _ _ _ _ _ _) (by unfold maxLen; omega) (by omega) (by simp; simp at hlo; omega) ?_)
                    intro v2 w3 hown3 hgrow hwh
                    have hRn := (hRW.out.1).push hRW.out.2 (by rw [HP.out.2.2.2.1]; exact hown3) hgrow (fun b h => (hwh b h).imp id (fun h => by first | omega | (simp; omega) | (simp at h ⊢; omega)))
                    rw [← hcm.out, ← List.map_singleton, ← List.map_append, ← List.range_succ] at hRn
                    have HN := Lib.hid (RcB.mk hRn HP.out.2.2.1)
                    clear hRn hown3 hgrow hwh hown p0 p1 p2 p3 g0 g1 g2 g3
                    go_wp2_with fail
                    go_roundw
                    case rel => exact ⟨j + 1, _, _, hlt, rfl, by go_num, HN.out⟩
                    case measure => simp [intOf]; omega
                  · have hcm : Hid (cmpE la lb j = subT lb (sgS la (j : Int))) := by rw [Hid, cmpE, if_neg]; rw [HP.out.2.2.2.2]; simp [h2]
                    have hRW := Lib.hid (And.intro HP.out.1 (IsP.map (q := OB w.heap.size w.heap.size ov (W4.alloc (.cells #[.int .i64 1, .int .i64 yx, .string ys, .slice ya ym yc] 25))) (B := W4.alloc (.cells #[.int .i64 1, .int .i64 yx, .string ys, .slice ya ym yc] 25)) (fun b hb => ⟨⟨hb.1, by have := hb.2.1; simp; omega, hb.2.2⟩, Below.heap_alloc W4 _ b hb.2.1⟩) _ _ HP.out.2.1))
                    go_wp2_with (at_builtin; refine wpList_append_where rfl _ _ 22 rfl w.heap.size 25 i0 _ 4 56 Tryd.underlying22 hi hz0 hz1 hz2 rfl (by decide) _ _ _ rfl (World.ownsRow.alloc hown _) ⟨W4.heap.size + 1, 0, none⟩ 1 1 [.int .i64 1, .int .i64 yx, .string ys, .slice ya ym yc] rfl rfl (cells_of_box (Box.at (by simp))) (one_cells _ _ _ _ _ _) (by unfold maxLen; omega) (by omega) (by simp; simp at hlo; omega) ?_)
                    intro v2 w3 hown3 hgrow hwh
                    have hRn := (hRW.out.1).push hRW.out.2 (by rw [HP.out.2.2.2.1]; exact hown3) hgrow (fun b h => (hwh b h).imp id (fun h => by first | omega | (simp; omega) | (simp at h ⊢; omega)))
                    rw [← hcm.out, ← List.map_singleton, ← List.map_append, ← List.range_succ] at hRn
                    have HN := Lib.hid (RcB.mk hRn HP.out.2.2.1)
                    clear hRn hown3 hgrow hwh hown p0 p1 p2 p3 g0 g1 g2 g3
                    go_wp2_with fail
                    go_roundw
                    case rel => exact ⟨j + 1, _, _, hlt, rfl, by go_num, HN.out⟩
                    case measure => simp [intOf]; omega
                · have hcm : Hid (cmpE la lb j = subT lb (sgS la (j : Int))) := by rw [Hid, cmpE, if_neg]; rw [HP.out.2.2.2.2]; simp [h1]
                  have hRW := Lib.hid (And.intro HP.out.1 (IsP.map (q := OB w.heap.size w.heap.size ov (W4.alloc (.cells #[.int .i64 yk, .int .i64 yx, .string ys, .slice ya ym yc] 25))) (B := W4.alloc (.cells #[.int .i64 yk, .int .i64 yx, .string ys, .slice ya ym yc] 25)) (fun b hb => ⟨⟨hb.1, by have := hb.2.1; simp; omega, hb.2.2⟩, Below.heap_alloc W4 _ b hb.2.1⟩) _ _ HP.out.2.1))
                  go_wp2_with (at_builtin; refine wpList_append_where rfl _ _ 22 rfl w.heap.size 25 i0 _ 4 56 Tryd.underlying22 hi hz0 hz1 hz2 rfl (by decide) _ _ _ rfl (World.ownsRow.alloc hown _) ⟨W4.heap.size + 1, 0, none⟩ 1 1 [.int .i64 yk, .int .i64 yx, .string ys, .slice ya ym yc] rfl rfl (cells_of_box (Box.at (by simp))) (one_cells _ _ _ _ _ _) (by unfold maxLen; omega) (by omega) (by simp; simp at hlo; omega) ?_)
                  intro v2 w3 hown3 hgrow hwh
                  have hRn := (hRW.out.1).push hRW.out.2 (by rw [HP.out.2.2.2.1]; exact hown3) hgrow (fun b h => (hwh b h).imp id (fun h => by first | omega | (simp; omega) | (simp at h ⊢; omega)))
                  rw [← hcm.out, ← List.map_singleton, ← List.map_append, ← List.range_succ] at hRn
                  have HN := Lib.hid (RcB.mk hRn HP.out.2.2.1)
                  clear hRn hown3 hgrow hwh hown p0 p1 p2 p3 g0 g1 g2 g3
                  go_wp2_with fail
                  go_roundw
                  case rel => exact ⟨j + 1, _, _, hlt, rfl, by go_num, HN.out⟩
                  case measure => simp [intOf]; omega
          · have hX : IsT w.heap.size (W1.alloc (.cells #[.int .i64 1, .int .i64 (j : Int), .string ⟨#[]⟩, .slice none 0 0] 25)) (sgS la (j : Int)) (.agg #[.int .i64 1, .int .i64 (j : Int), .string ⟨#[]⟩, .slice none 0 0]) := by rw [sgS_far (by omega)]; exact tV_isT _ _ (by unfold okI; omega)
            have hRo := hR1
            have bx := bv
            clear hR1 bv
            have q0 := bx.cell 0
            have q1 := bx.cell 1
            have q2 := bx.cell 2
            have q3 := bx.cell 3
            have l0 := bx.lt
            simp only [List.getElem?_toArray, List.getElem?_cons_succ, List.getElem?_cons_zero] at q0 q1 q2 q3
            have hBw := hRo.below
            have hsw := hBw.size
            have hXb := sgS_isB HA.out (n := (j : Int)) (by omega) (by omega)
            have hcall := refSubst_any lb w.heap.size (sgS la (j : Int)) _ ab cb (W1.alloc (.cells #[.int .i64 1, .int .i64 (j : Int), .string ⟨#[]⟩, .slice none 0 0] 25)) hX hsw (HLB.out.below hBw) hmb (by have := (isB_size hXb).1; omega) (by have := (isB_size hXb).2; omega) HSB.out
            have hsf := substE_fit hXb HB.out
            have HC := Lib.hid hcall
            have HSF := Lib.hid hsf
            have HR := Lib.hid hRo
            clear hcall hsf hXb hX hRo bx hBw
            go_wp2_with fail
            refine HC.out.mono ?_
            rintro e W4 ⟨yk, yx, ys, ya, ym, yc, rfl, hP, B4⟩
            have hR4 := (HR.out.row.keep B4).up (World.grownBy_alloc W4 (.cells #[.int .i64 yk, .int .i64 yx, .string ys, .slice ya ym yc] 25) none)
            have hs4 := B4.size
            have y0 : Box (W4.alloc (.cells #[.int .i64 yk, .int .i64 yx, .string ys, .slice ya ym yc] 25)) W4.heap.size #[.int .i64 yk, .int .i64 yx, .string ys, .slice ya ym yc] 25 := Box.at rfl
            clear HC q0 q1 q2 q3 l0
            cases hf : fitsB (subT lb (sgS la (j : Int))) with
            | false =>
              have hE2 : substE (sgS la (j : Int)) lb = 2 := by rw [HSF.out.1, hf]; rfl
              have hE : Hid (compE la lb = 2) := by simp [Hid, compE, HA.out, HB.out, compFit_bad HA.out HB.out (j := j) (by omega) hf]
              rw [hE2]
              have hBF := (HR.out.below.trans (B4.mono hsw)).trans (below_a1 (show w.heap.size ≤ W4.heap.size by omega) (.cells #[.int .i64 yk, .int .i64 yx, .string ys, .slice ya ym yc] 25))
              clear hf hE2 hP B4 hR4 y0
              go_wp2_with fail
              exact bodyPost_ret (v := .tuple #[.slice none 0 0, .int .i64 2]) (by simp [results, Tryd.results43, go_sem]) rfl (ComposePost.bad hE.out (by decide) hBF)
            | true =>
              have hE0 : substE (sgS la (j : Int)) lb = 0 := by rw [HSF.out.1, hf]; rfl
              rw [HSF.out.2 hf] at hP
              rw [hE0]
              clear hE0
              have hfit : ∀ i, i < j + 1 → fitsB (subT lb (sgS la (i : Int))) = true := fun i h => by
                by_cases e : i = j
                · rw [e]; exact hf
                · exact HR.out.fits i (by omega)
              have hk := hP.kinds (j : Int)
              have hPo : IsP (OB w.heap.size w.heap.size ov W4) W4 (subT lb (sgS la (j : Int))) (.agg #[.int .i64 yk, .int .i64 yx, .string ys, .slice ya ym yc]) := OB.from HR.out.row (Nat.le_refl _) hP
              have hlen : ((List.range j).map (cmpE la lb)).length = j := by simp
              have hown := hR4.own
              rw [hlen] at hown
              have hlo := hR4.hlo
              have p0 := y0.cell 0
              have p1 := y0.cell 1
              have p2 := y0.cell 2
              have p3 := y0.cell 3
              have g0 := y0.frozen 0
              have g1 := y0.frozen 1
              have g2 := y0.frozen 2
              have g3 := y0.frozen 3
              have l4 := y0.lt
              simp only [List.getElem?_toArray, List.getElem?_cons_succ, List.getElem?_cons_zero] at p0 p1 p2 p3
              have HP := Lib.hid (And.intro hR4 (And.intro hPo (And.intro hfit (And.intro hlen hk))))
              clear hR4 hPo hfit hlen hk hf hP y0
              have B4' := B4
              clear B4
              by_cases h1 : yk = 1
              · subst h1
                by_cases h2 : yx = (j : Int)
                · subst h2
                  have hcm : Hid (cmpE la lb j = zeroTr) := by rw [Hid, cmpE, if_pos]; rw [HP.out.2.2.2.2]; simp
                  have hRW := Lib.hid (And.intro ((HR.out.row.keep B4').up (World.grownBy_alloc W4 (.cells #[.int .i64 0, .int .i64 0, .string ⟨#[]⟩, .slice none 0 0] 25) none)) (show IsP (OB w.heap.size w.heap.size ov (W4.alloc (.cells #[.int .i64 0, .int .i64 0, .string ⟨#[]⟩, .slice none 0 0] 25))) (W4.alloc (.cells #[.int .i64 0, .int .i64 0, .string ⟨#[]⟩, .slice none 0 0] 25)) zeroTr (.agg #[.int .i64 0, .int .i64 0, .string ⟨#[]⟩, .slice none 0 0]) from zero_isP _ _))
                  clear hown
                  have hown := hRW.out.1.own
                  rw [HP.out.2.2.2.1] at hown
                  go_wp2_with (at_builtin; refine wpList_append_where rfl _ _ 22 rfl w.heap.size 25 i0 _ 4 56 Tryd.underlying22 hi hz0 hz1 hz2 rfl (by decide) _ _ _ rfl (World.ownsRow.alloc hown _) ⟨W4.heap.size + 1, 0, none⟩ 1 1 [.int .i64 0, .int .i64 0, .string ⟨#[]⟩, .slice none 0 0] rfl rfl (cells_of_box (Box.at (by simp))) (one_cells _ _ _ _ _ _) (by unfold maxLen; omega) (by omega) (by simp; simp at hlo; omega) ?_)
                  intro v2 w3 hown3 hgrow hwh
                  have hRn := (hRW.out.1).push hRW.out.2 (by rw [HP.out.2.2.2.1]; exact hown3) hgrow (fun b h => (hwh b h).imp id (fun h => by first | omega | (simp; omega) | (simp at h ⊢; omega)))
                  rw [← hcm.out, ← List.map_singleton, ← List.map_append, ← List.range_succ] at hRn
                  have HN := Lib.hid (RcB.mk hRn HP.out.2.2.1)
                  clear hRn hown3 hgrow hwh hown p0 p1 p2 p3 g0 g1 g2 g3
                  go_wp2_with fail
                  go_roundw
                  case rel => exact ⟨j + 1, _, _, hlt, rfl, by go_num, HN.out⟩
                  case measure => simp [intOf]; omega
                · have hcm : Hid (cmpE la lb j = subT lb (sgS la (j : Int))) := by rw [Hid, cmpE, if_neg]; rw [HP.out.2.2.2.2]; simp [h2]
                  have hRW := Lib.hid (And.intro HP.out.1 (IsP.map (q := OB w.heap.size w.heap.size ov (W4.alloc (.cells #[.int .i64 1, .int .i64 yx, .string ys, .slice ya ym yc] 25))) (B := W4.alloc (.cells #[.int .i64 1, .int .i64 yx, .string ys, .slice ya ym yc] 25)) (fun b hb => ⟨⟨hb.1, by have := hb.2.1; simp; omega, hb.2.2⟩, Below.heap_alloc W4 _ b hb.2.1⟩) _ _ HP.out.2.1))
                  go_wp2_with (at_builtin; refine wpList_append_where rfl _ _ 22 rfl w.heap.size 25 i0 _ 4 56 Tryd.underlying22 hi hz0 hz1 hz2 rfl (by decide) _ _ _ rfl (World.ownsRow.alloc hown _) ⟨W4.heap.size + 1, 0, none⟩ 1 1 [.int .i64 1, .int .i64 yx, .string ys, .slice ya ym yc] rfl rfl (cells_of_box (Box.at (by simp))) (one_cells _ _ _ _ _ _) (by unfold maxLen; omega) (by omega) (by simp; simp at hlo; omega) ?_)
                  intro v2 w3 hown3 hgrow hwh
                  have hRn := (hRW.out.1).push hRW.out.2 (by rw [HP.out.2.2.2.1]; exact hown3) hgrow (fun b h => (hwh b h).imp id (fun h => by first | omega | (simp; omega) | (simp at h ⊢; omega)))
                  rw [← hcm.out, ← List.map_singleton, ← List.map_append, ← List.range_succ] at hRn
                  have HN := Lib.hid (RcB.mk hRn HP.out.2.2.1)
                  clear hRn hown3 hgrow hwh hown p0 p1 p2 p3 g0 g1 g2 g3
                  go_wp2_with fail
                  go_roundw
                  case rel => exact ⟨j + 1, _, _, hlt, rfl, by go_num, HN.out⟩
                  case measure => simp [intOf]; omega
              · have hcm : Hid (cmpE la lb j = subT lb (sgS la (j : Int))) := by rw [Hid, cmpE, if_neg]; rw [HP.out.2.2.2.2]; simp [h1]
                have hRW := Lib.hid (And.intro HP.out.1 (IsP.map (q := OB w.heap.size w.heap.size ov (W4.alloc (.cells #[.int .i64 yk, .int .i64 yx, .string ys, .slice ya ym yc] 25))) (B := W4.alloc (.cells #[.int .i64 yk, .int .i64 yx, .string ys, .slice ya ym yc] 25)) (fun b hb => ⟨⟨hb.1, by have := hb.2.1; simp; omega, hb.2.2⟩, Below.heap_alloc W4 _ b hb.2.1⟩) _ _ HP.out.2.1))
                go_wp2_with (at_builtin; refine wpList_append_where rfl _ _ 22 rfl w.heap.size 25 i0 _ 4 56 Tryd.underlying22 hi hz0 hz1 hz2 rfl (by decide) _ _ _ rfl (World.ownsRow.alloc hown _) ⟨W4.heap.size + 1, 0, none⟩ 1 1 [.int .i64 yk, .int .i64 yx, .string ys, .slice ya ym yc] rfl rfl (cells_of_box (Box.at (by simp))) (one_cells _ _ _ _ _ _) (by unfold maxLen; omega) (by omega) (by simp; simp at hlo; omega) ?_)
                intro v2 w3 hown3 hgrow hwh
                have hRn := (hRW.out.1).push hRW.out.2 (by rw [HP.out.2.2.2.1]; exact hown3) hgrow (fun b h => (hwh b h).imp id (fun h => by first | omega | (simp; omega) | (simp at h ⊢; omega)))
                rw [← hcm.out, ← List.map_singleton, ← List.map_append, ← List.range_succ] at hRn
                have HN := Lib.hid (RcB.mk hRn HP.out.2.2.1)
                clear hRn hown3 hgrow hwh hown p0 p1 p2 p3 g0 g1 g2 g3
                go_wp2_with fail
                go_roundw
                case rel => exact ⟨j + 1, _, _, hlt, rfl, by go_num, HN.out⟩
                case measure => simp [intOf]; omega
        · have hjN : j = max la.length lb.length := by omega
          obtain ⟨oa, oc, hov, ho1, ho2, ho3⟩ := HS.out.row.done
          have hfit := compFit_good HA.out (fun i h => HS.out.fits i (by omega))
          have hx : Hid (compE la lb = 0) := by simp [Hid, compE, HA.out, HB.out, hfit]
          have hc : Hid (compL la lb = (List.range j).map (cmpE la lb)) := by rw [Hid, compL, if_pos hx.out, compT, hjN]
          have hl : Hid ((compL la lb).length = j) := by rw [Hid, hc.out]; simp
          rw [← hc.out] at hov ho1 ho3
          rw [hl.out] at hov ho1
          subst hov
          have HX := Lib.hid (And.intro ho1 (And.intro ho2 ho3))
          clear ho1 ho2 ho3 hfit
          go_wp2_with fail
          exact bodyPost_ret (v := .tuple #[.slice oa j oc, .int .i64 0]) (by simp [results, Tryd.results43, go_sem]) rfl (ComposePost.row hx.out hl.out HX.out.1 HX.out.2.1 (OA.lt HX.out.2.2) HS.out.below)
end Go.Proofs.YtckoecmdaefoiaaDoor
