/- The law of compositions. -/
import Derived.Test.YtckoecmdaefoiaaDoorCompose
namespace Go.Proofs.YtckoecmdaefoiaaDoor
open Go.RowKit Go

attribute [local go_sem] monoUpon Yld.says

theorem subOk_deep {l : List Tr} (hs : subOkB l = true) : ∀ t, t ∈ l → t.deep ≤ 999999999 := fun t ht => by
  rcases subOk_mem hs ht with h | h
  · have h1 := (free_size h).1
    have : t.deep ≤ t.size := deep_le_size t
    omega
  · have := (isB_size h).2; omega
theorem Compose_ok {la lb : List Tr} (hla : subOkB la = true) (hlb : subOkB lb = true) (aa ab : Option Addr) (ca cb : Nat) (w : World) (h4a : la.length ≤ ca) (h5a : ca ≤ maxLen) (h4b : lb.length ≤ cb) (h5b : cb ≤ maxLen) (ha : IsL w.heap.size w la aa) (hb : IsL w.heap.size w lb ab) (L : List Tr) (x : Int) (hL : compL la lb = L) (hx : compE la lb = x) :
    Calls Tryd.prog 42 #[.slice aa la.length ca, .slice ab lb.length cb] w fun e w' => ∃ ad c, e = .returned (.tuple #[.slice ad L.length c, .int .i64 x]) ∧ L.length ≤ c ∧ c ≤ maxLen ∧ IsL w'.heap.size w' L ad ∧ Below w.heap.size w w' := by
  subst hL hx
  exact compose_any la lb aa ab ca cb w h4a h5a h4b h5b (by have := subOk_len hla; omega) (by have := subOk_len hlb; omega) ha hb (subOk_deep hla) (subOk_deep hlb)
theorem little3 (l m n : List Tr) (al am an : Option Addr) (cl cm cn : Nat) (w : World) (h1 : l.length ≤ maxLen) (h2 : m.length ≤ maxLen) (h3 : n.length ≤ maxLen) (hl : IsL w.heap.size w l al) (hm : IsL w.heap.size w m am) (hn : IsL w.heap.size w n an) :
    Calls Tryd.prog 37 #[.slice (some ⟨w.heap.size, 0, none⟩) 3 3] (w.alloc (.cells #[.slice al l.length cl, .slice am m.length cm, .slice an n.length cn] 22)) fun e w' => e = .returned (.bool (litB l && (litB m && litB n))) ∧ Below w.heap.size w w' := by
  have hb : Box (w.alloc (.cells #[.slice al l.length cl, .slice am m.length cm, .slice an n.length cn] 22)) w.heap.size #[.slice al l.length cl, .slice am m.length cm, .slice an n.length cn] 22 := Box.at rfl
  have hB := below_a1 (Nat.le_refl w.heap.size) (.cells #[.slice al l.length cl, .slice am m.length cm, .slice an n.length cn] 22)
  refine Calls.mono (little_any [l, m, n] w.heap.size 0 3 _ (by simp) (by unfold maxLen; simp) (fun j hj => ?_)) ?_
  · match j, hj with
    | 0, _ => exact ⟨al, cl, hb.cell 0, h1, hl.up hB hB.size⟩
    | 1, _ => exact ⟨am, cm, hb.cell 1, h2, hm.up hB hB.size⟩
    | 2, _ => exact ⟨an, cn, hb.cell 2, h3, hn.up hB hB.size⟩
    | j + 3, hj => exact absurd hj (by simp)
  · rintro e w' ⟨rfl, B⟩
    exact ⟨by simp, up1 B⟩
theorem subst_nil {X : Tr} (h : isB X = true) : substE X [] = 0 ∧ substV X [] = X := by
  have h0 : subOkB [] = true := rfl
  have h1 := sub_nil (isB_is h).1
  rw [substE, substV, h, h0, h1, fits_isB h]
  exact ⟨rfl, rfl⟩
theorem comp_subst {l m : List Tr} {X : Tr} (hX : isB X = true) (hl : subOkB l = true) (hm : subOkB m = true) (hc : subOkB (compT l m) = true) (hs : isB (subT l X) = true) : substE (subT l X) m = substE X (compT l m) ∧ substV (subT l X) m = substV X (compT l m) := by
  rw [substE, substE, substV, substV, hX, hm, hc, hs, subT_comp hl hm hc (isB_is hX).1]
  exact ⟨rfl, rfl⟩

set_option maxRecDepth 100000 in
set_option maxHeartbeats 8000000 in
theorem termComposed_any (X : Tr) (l m n : List Tr) (vt : Value) (al am an : Option Addr) (cl cm cn : Nat) (w : World) (ht : IsT w.heap.size w X vt) (h4l : l.length ≤ cl) (h5l : cl ≤ maxLen) (hl : IsL w.heap.size w l al) (h4m : m.length ≤ cm) (h5m : cm ≤ maxLen) (hm : IsL w.heap.size w m am) (h4n : n.length ≤ cn) (h5n : cn ≤ maxLen) (hn : IsL w.heap.size w n an) (htab : Lib.TabBelow Tryd.prog w.heap.size w "internal/strconv.uint64pow10" .u64 Lib.pow10Tab) :
    Calls Tryd.prog 11 #[vt, .slice al l.length cl, .slice am m.length cm, .slice an n.length cn] w fun e w' => e = .returned (.bool true) ∧ Below w.heap.size w w' := by
  obtain ⟨kt, nt, st, at', mt, ct, rfl⟩ := (IsT.toP _ _ ht).form
  have bbt : Box (w.alloc (.cells #[.int .i64 kt, .int .i64 nt, .string st, .slice at' mt ct] 25)) w.heap.size #[.int .i64 kt, .int .i64 nt, .string st, .slice at' mt ct] 25 := Box.at rfl
  have hb := below_a1 (Nat.le_refl w.heap.size) (.cells #[.int .i64 kt, .int .i64 nt, .string st, .slice at' mt ct] 25)
  replace ht := ht.up hb hb.size
  replace hl := hl.up hb hb.size
  replace hm := hm.up hb hb.size
  replace hn := hn.up hb hb.size
  go_enter Tryd.func11, Tryd.ntmps11
  go_wp2_with fail
  refine (sane_any _ (fun w'' h => htab w'' (hb.trans (h.mono hb.size)))).mono ?_
  rintro e W1 ⟨rfl, B⟩
  replace bbt := Box.keep B bbt
  replace ht := ht.up B B.size
  replace hl := hl.up B B.size
  replace hm := hm.up B B.size
  replace hn := hn.up B B.size
  replace hb := hb.trans (B.mono hb.size)
  clear B
  clear htab
  have qt0 := bbt.cell 0
  have qt1 := bbt.cell 1
  have qt2 := bbt.cell 2
  have qt3 := bbt.cell 3
  have lt := bbt.lt
  simp only [List.getElem?_toArray, List.getElem?_cons_succ, List.getElem?_cons_zero] at qt0 qt1 qt2 qt3
  go_wp2_with fail
  clear qt0 qt1 qt2 qt3 lt
  obtain ⟨sa0, sc0, he0, hs1, hs2, hs3⟩ := isS1 ht
  cases he0
  refine (right_any [X] _ 1 _ (by unfold maxLen; simp) hs3).mono ?_
  rintro e W2 ⟨rfl, B⟩
  replace B := up1 B
  replace bbt := Box.keep B bbt
  replace ht := ht.up B B.size
  replace hl := hl.up B B.size
  replace hm := hm.up B B.size
  replace hn := hn.up B B.size
  replace hb := hb.trans (B.mono hb.size)
  clear B
  clear hs1 hs2 hs3
  cases hr : rightB [X] with
  | false =>
    clear hr
    go_wp2_with fail
    go_ret
    exact ⟨rfl, hb⟩
  | true =>
    have HX := Lib.hid (rightB_mem hr (t := X) (by simp)).1
    clear hr
    go_wp2_with fail
    refine (little3 l m n al am an cl cm cn _ (Nat.le_trans h4l h5l) (Nat.le_trans h4m h5m) (Nat.le_trans h4n h5n) hl hm hn).mono ?_
    rintro e W3 ⟨rfl, B⟩
    replace bbt := Box.keep B bbt
    replace ht := ht.up B B.size
    replace hl := hl.up B B.size
    replace hm := hm.up B B.size
    replace hn := hn.up B B.size
    replace hb := hb.trans (B.mono hb.size)
    clear B
    cases hr : (litB l && (litB m && litB n)) with
    | false =>
      clear hr
      go_wp2_with fail
      go_ret
      exact ⟨rfl, hb⟩
    | true =>
      have hlit : (l.length ≤ 60 ∧ smallB l = true) ∧ (m.length ≤ 60 ∧ smallB m = true) ∧ (n.length ≤ 60 ∧ smallB n = true) := by simpa [litB] using hr
      have HLIT := Lib.hid hlit
      clear hr hlit
      go_wp2_with fail
      refine (refIsSubst_any l al cl _ (by have := HLIT.out.1.1; omega) hl (fun t ht => by have := small_mem HLIT.out.1.2 ht; omega)).mono ?_
      rintro e W4 ⟨rfl, B⟩
      replace bbt := Box.keep B bbt
      replace ht := ht.up B B.size
      replace hl := hl.up B B.size
      replace hm := hm.up B B.size
      replace hn := hn.up B B.size
      replace hb := hb.trans (B.mono hb.size)
      clear B
      cases hr : subOkB l with
      | false =>
        clear hr
        go_wp2_with fail
        go_ret
        exact ⟨rfl, hb⟩
      | true =>
        have HSl := Lib.hid hr
        clear hr
        go_wp2_with fail
        refine (refIsSubst_any m am cm _ (by have := HLIT.out.2.1.1; omega) hm (fun t ht => by have := small_mem HLIT.out.2.1.2 ht; omega)).mono ?_
        rintro e W5 ⟨rfl, B⟩
        replace bbt := Box.keep B bbt
        replace ht := ht.up B B.size
        replace hl := hl.up B B.size
        replace hm := hm.up B B.size
        replace hn := hn.up B B.size
        replace hb := hb.trans (B.mono hb.size)
        clear B
        cases hr : subOkB m with
        | false =>
          clear hr
          go_wp2_with fail
          go_ret
          exact ⟨rfl, hb⟩
        | true =>
          have HSm := Lib.hid hr
          clear hr
          go_wp2_with fail
          refine (refIsSubst_any n an cn _ (by have := HLIT.out.2.2.1; omega) hn (fun t ht => by have := small_mem HLIT.out.2.2.2 ht; omega)).mono ?_
          rintro e W6 ⟨rfl, B⟩
          replace bbt := Box.keep B bbt
          replace ht := ht.up B B.size
          replace hl := hl.up B B.size
          replace hm := hm.up B B.size
          replace hn := hn.up B B.size
          replace hb := hb.trans (B.mono hb.size)
          clear B
          cases hr : subOkB n with
          | false =>
            clear hr
            go_wp2_with fail
            go_ret
            exact ⟨rfl, hb⟩
          | true =>
            have HSn := Lib.hid hr
            clear hr
            have HN0 := Lib.hid (subst_nil HX.out)
            have qt0 := bbt.cell 0
            have qt1 := bbt.cell 1
            have qt2 := bbt.cell 2
            have qt3 := bbt.cell 3
            have lt := bbt.lt
            simp only [List.getElem?_toArray, List.getElem?_cons_succ, List.getElem?_cons_zero] at qt0 qt1 qt2 qt3
            go_wp2_with fail
            clear qt0 qt1 qt2 qt3 lt
            refine (Subst_ok (l := []) _ none 0 _ ht HX.out rfl (Nat.le_refl _) (by unfold maxLen; omega) IsL.nil X 0 HN0.out.2 HN0.out.1).mono ?_
            rintro e W7 ⟨kp, np, sp, ap, mp, cp, rfl, hp, B⟩
            replace bbt := Box.keep B bbt
            replace ht := ht.up B B.size
            replace hl := hl.up B B.size
            replace hm := hm.up B B.size
            replace hn := hn.up B B.size
            replace hb := hb.trans (B.mono hb.size)
            clear B
            have qt0 := bbt.cell 0
            have qt1 := bbt.cell 1
            have qt2 := bbt.cell 2
            have qt3 := bbt.cell 3
            have lt := bbt.lt
            simp only [List.getElem?_toArray, List.getElem?_cons_succ, List.getElem?_cons_zero] at qt0 qt1 qt2 qt3
            go_wp2_with fail
            clear qt0 qt1 qt2 qt3 lt
            have bbp : Box (W7.alloc (.cells #[.int .i64 kp, .int .i64 np, .string sp, .slice ap mp cp] 25)) W7.heap.size #[.int .i64 kp, .int .i64 np, .string sp, .slice ap mp cp] 25 := Box.at rfl
            have B := below_a1 (Nat.le_refl W7.heap.size) (.cells #[.int .i64 kp, .int .i64 np, .string sp, .slice ap mp cp] 25)
            replace bbt := Box.keep B bbt
            replace ht := ht.up B B.size
            replace hl := hl.up B B.size
            replace hm := hm.up B B.size
            replace hn := hn.up B B.size
            replace hp := hp.up B B.size
            replace hb := hb.trans (B.mono hb.size)
            clear B
            generalize (W7.alloc (.cells #[.int .i64 kp, .int .i64 np, .string sp, .slice ap mp cp] 25)) = V8 at *
            refine (sane_same X _ _ _ hp ht).mono ?_
            rintro e W9 ⟨rfl, B⟩
            replace bbt := Box.keep B bbt
            replace bbp := Box.keep B bbp
            replace ht := ht.up B B.size
            replace hl := hl.up B B.size
            replace hm := hm.up B B.size
            replace hn := hn.up B B.size
            replace hp := hp.up B B.size
            replace hb := hb.trans (B.mono hb.size)
            clear B
            clear bbp hp
            obtain ⟨xc, hxc⟩ : ∃ xc, compE l m = xc := ⟨_, rfl⟩
            cases hf : compFit l m with
            | false =>
              clear hxc xc
              have HE := Lib.hid (compE_bad3 HSl.out HSm.out hf)
              clear hf
              go_wp2_with fail
              refine (Compose_ok HSl.out HSm.out al am cl cm _ h4l h5l h4m h5m hl hm (compL l m) 2 rfl HE.out).mono ?_
              rintro e W10 ⟨aq, cq, rfl, h4q, h5q, hq, B⟩
              replace bbt := Box.keep B bbt
              replace ht := ht.up B B.size
              replace hl := hl.up B B.size
              replace hm := hm.up B B.size
              replace hn := hn.up B B.size
              replace hb := hb.trans (B.mono hb.size)
              clear B
              go_wp2_with fail
              go_ret
              exact ⟨rfl, hb⟩
            | true =>
              clear hxc xc
              have HE := Lib.hid (compE_ok HSl.out HSm.out hf)
              have HQ := Lib.hid (compT_ok HSl.out HSm.out hf)
              have HQL : Hid (compL l m = compT l m) := by rw [Hid, compL, if_pos HE.out]
              have HF1 := Lib.hid hf
              clear hf
              go_wp2_with fail
              refine (Compose_ok HSl.out HSm.out al am cl cm _ h4l h5l h4m h5m hl hm (compT l m) 0 HQL.out HE.out).mono ?_
              rintro e W10 ⟨aq, cq, rfl, h4q, h5q, hq, B⟩
              replace bbt := Box.keep B bbt
              replace ht := ht.up B B.size
              replace hl := hl.up B B.size
              replace hm := hm.up B B.size
              replace hn := hn.up B B.size
              replace hb := hb.trans (B.mono hb.size)
              clear B
              have qt0 := bbt.cell 0
              have qt1 := bbt.cell 1
              have qt2 := bbt.cell 2
              have qt3 := bbt.cell 3
              have lt := bbt.lt
              simp only [List.getElem?_toArray, List.getElem?_cons_succ, List.getElem?_cons_zero] at qt0 qt1 qt2 qt3
              go_wp2_with fail
              clear qt0 qt1 qt2 qt3 lt
              rcases subst_ok HX.out HSl.out with ⟨he1, hx1, hv1⟩ | ⟨he1, hv1⟩
              rotate_left
              · have HE1 := Lib.hid (And.intro he1 hv1)
                clear he1 hv1
                refine (Subst_ok (l := l) _ al cl _ ht HX.out HSl.out h4l h5l hl zeroTr 2 HE1.out.2 HE1.out.1).mono ?_
                rintro e W11 ⟨kx, nx, sx, ax, mx, cx, rfl, hx, B⟩
                replace bbt := Box.keep B bbt
                replace ht := ht.up B B.size
                replace hl := hl.up B B.size
                replace hm := hm.up B B.size
                replace hn := hn.up B B.size
                replace hq := hq.up B B.size
                replace hb := hb.trans (B.mono hb.size)
                clear B
                go_wp2_with fail
                have bbx : Box (W11.alloc (.cells #[.int .i64 kx, .int .i64 nx, .string sx, .slice ax mx cx] 25)) W11.heap.size #[.int .i64 kx, .int .i64 nx, .string sx, .slice ax mx cx] 25 := Box.at rfl
                have B := below_a1 (Nat.le_refl W11.heap.size) (.cells #[.int .i64 kx, .int .i64 nx, .string sx, .slice ax mx cx] 25)
                replace bbt := Box.keep B bbt
                replace ht := ht.up B B.size
                replace hl := hl.up B B.size
                replace hm := hm.up B B.size
                replace hn := hn.up B B.size
                replace hq := hq.up B B.size
                replace hx := hx.up B B.size
                replace hb := hb.trans (B.mono hb.size)
                clear B
                generalize (W11.alloc (.cells #[.int .i64 kx, .int .i64 nx, .string sx, .slice ax mx cx] 25)) = V12 at *
                clear bbx hx
                clear bbt ht
                cases hf : compFit m n with
                | false =>
                  have HE2 := Lib.hid (compE_bad3 HSm.out HSn.out hf)
                  clear hf
                  go_wp2_with fail
                  refine (Compose_ok HSm.out HSn.out am an cm cn _ h4m h5m h4n h5n hm hn (compL m n) 2 rfl HE2.out).mono ?_
                  rintro e W13 ⟨au, cu, rfl, h4u, h5u, hu, B⟩
                  replace hl := hl.up B B.size
                  replace hm := hm.up B B.size
                  replace hn := hn.up B B.size
                  replace hq := hq.up B B.size
                  replace hb := hb.trans (B.mono hb.size)
                  clear B
                  clear hu
                  go_wp2_with fail
                  refine (Compose_ok HQ.out HSn.out aq an cq cn _ h4q h5q h4n h5n hq hn (compL (compT l m) n) (compE (compT l m) n) rfl rfl).mono ?_
                  rintro e W14 ⟨av, cv, rfl, h4v, h5v, hv, B⟩
                  replace hl := hl.up B B.size
                  replace hm := hm.up B B.size
                  replace hn := hn.up B B.size
                  replace hq := hq.up B B.size
                  replace hb := hb.trans (B.mono hb.size)
                  clear B
                  clear hv
                  go_wp2_with fail
                  go_ret
                  exact ⟨rfl, hb⟩
                | true =>
                  have HE2 := Lib.hid (compE_ok HSm.out HSn.out hf)
                  have HU := Lib.hid (compT_ok HSm.out HSn.out hf)
                  have HUL : Hid (compL m n = compT m n) := by rw [Hid, compL, if_pos HE2.out]
                  clear hf
                  go_wp2_with fail
                  refine (Compose_ok HSm.out HSn.out am an cm cn _ h4m h5m h4n h5n hm hn (compT m n) 0 HUL.out HE2.out).mono ?_
                  rintro e W13 ⟨au, cu, rfl, h4u, h5u, hu, B⟩
                  replace hl := hl.up B B.size
                  replace hm := hm.up B B.size
                  replace hn := hn.up B B.size
                  replace hq := hq.up B B.size
                  replace hb := hb.trans (B.mono hb.size)
                  clear B
                  cases hf : compFit (compT l m) n with
                  | false =>
                    have HE3 := Lib.hid (compE_bad3 HQ.out HSn.out hf)
                    clear hf
                    go_wp2_with fail
                    refine (Compose_ok HQ.out HSn.out aq an cq cn _ h4q h5q h4n h5n hq hn (compL (compT l m) n) 2 rfl HE3.out).mono ?_
                    rintro e W14 ⟨av, cv, rfl, h4v, h5v, hv, B⟩
                    replace hl := hl.up B B.size
                    replace hm := hm.up B B.size
                    replace hn := hn.up B B.size
                    replace hq := hq.up B B.size
                    replace hu := hu.up B B.size
                    replace hb := hb.trans (B.mono hb.size)
                    clear B
                    clear hv
                    go_wp2_with fail
                    go_ret
                    exact ⟨rfl, hb⟩
                  | true =>
                    have HE3 := Lib.hid (compE_ok HQ.out HSn.out hf)
                    have HVL : Hid (compL (compT l m) n = compT (compT l m) n) := by rw [Hid, compL, if_pos HE3.out]
                    have HE4 := Lib.hid (compE_ok HSl.out HU.out (comp_fit HSl.out HSm.out HSn.out HF1.out hf HU.out))
                    have HAS := Lib.hid (comp_assoc HSl.out HSm.out HSn.out HQ.out HU.out)
                    have HWL : Hid (compL l (compT m n) = compT (compT l m) n) := by rw [Hid, compL, if_pos HE4.out, HAS.out]
                    clear hf
                    go_wp2_with fail
                    refine (Compose_ok HQ.out HSn.out aq an cq cn _ h4q h5q h4n h5n hq hn (compT (compT l m) n) 0 HVL.out HE3.out).mono ?_
                    rintro e W14 ⟨av, cv, rfl, h4v, h5v, hv, B⟩
                    replace hl := hl.up B B.size
                    replace hm := hm.up B B.size
                    replace hn := hn.up B B.size
                    replace hq := hq.up B B.size
                    replace hu := hu.up B B.size
                    replace hb := hb.trans (B.mono hb.size)
                    clear B
                    go_wp2_with fail
                    refine (Compose_ok HSl.out HU.out al au cl cu _ h4l h5l h4u h5u hl hu (compT (compT l m) n) 0 HWL.out HE4.out).mono ?_
                    rintro e W15 ⟨ar, cr, rfl, h4r, h5r, hr, B⟩
                    replace hl := hl.up B B.size
                    replace hm := hm.up B B.size
                    replace hn := hn.up B B.size
                    replace hq := hq.up B B.size
                    replace hu := hu.up B B.size
                    replace hv := hv.up B B.size
                    replace hb := hb.trans (B.mono hb.size)
                    clear B
                    go_wp2_with fail
                    generalize compT (compT l m) n = Q at *
                    have hsq := refSameAll Q Q _ _ W15 ⟨av, cv, rfl, h4v, h5v, hv⟩ ⟨ar, cr, rfl, h4r, h5r, hr⟩
                    rw [show eqLT Q Q = true by simp [eqLT]] at hsq
                    refine hsq.mono ?_
                    clear hsq
                    rintro e W16 ⟨rfl, B⟩
                    replace hl := hl.up B B.size
                    replace hm := hm.up B B.size
                    replace hn := hn.up B B.size
                    replace hq := hq.up B B.size
                    replace hu := hu.up B B.size
                    replace hv := hv.up B B.size
                    replace hr := hr.up B B.size
                    replace hb := hb.trans (B.mono hb.size)
                    clear B
                    go_wp2_with fail
                    go_ret
                    exact ⟨rfl, hb⟩
              · have HE1 := Lib.hid (And.intro he1 (And.intro hx1 hv1))
                clear he1 hx1 hv1
                refine (Subst_ok (l := l) _ al cl _ ht HX.out HSl.out h4l h5l hl (subT l X) 0 HE1.out.2.2 HE1.out.1).mono ?_
                rintro e W11 ⟨kx, nx, sx, ax, mx, cx, rfl, hx, B⟩
                replace bbt := Box.keep B bbt
                replace ht := ht.up B B.size
                replace hl := hl.up B B.size
                replace hm := hm.up B B.size
                replace hn := hn.up B B.size
                replace hq := hq.up B B.size
                replace hb := hb.trans (B.mono hb.size)
                clear B
                have HCS := Lib.hid (comp_subst HX.out HSl.out HSm.out HQ.out HE1.out.2.1)
                obtain ⟨ze, hze⟩ : ∃ ze, substE X (compT l m) = ze := ⟨_, rfl⟩
                have HZE := Lib.hid hze
                clear hze
                go_wp2_with fail
                have bbx : Box (W11.alloc (.cells #[.int .i64 kx, .int .i64 nx, .string sx, .slice ax mx cx] 25)) W11.heap.size #[.int .i64 kx, .int .i64 nx, .string sx, .slice ax mx cx] 25 := Box.at rfl
                have B := below_a1 (Nat.le_refl W11.heap.size) (.cells #[.int .i64 kx, .int .i64 nx, .string sx, .slice ax mx cx] 25)
                replace bbt := Box.keep B bbt
                replace ht := ht.up B B.size
                replace hl := hl.up B B.size
                replace hm := hm.up B B.size
                replace hn := hn.up B B.size
                replace hq := hq.up B B.size
                replace hx := hx.up B B.size
                replace hb := hb.trans (B.mono hb.size)
                clear B
                generalize (W11.alloc (.cells #[.int .i64 kx, .int .i64 nx, .string sx, .slice ax mx cx] 25)) = V12 at *
                have qx0 := bbx.cell 0
                have qx1 := bbx.cell 1
                have qx2 := bbx.cell 2
                have qx3 := bbx.cell 3
                have lx := bbx.lt
                simp only [List.getElem?_toArray, List.getElem?_cons_succ, List.getElem?_cons_zero] at qx0 qx1 qx2 qx3
                go_wp2_with fail
                clear qx0 qx1 qx2 qx3 lx
                refine (Subst_ok (l := m) _ am cm _ hx HE1.out.2.1 HSm.out h4m h5m hm (substV X (compT l m)) ze HCS.out.2 (HCS.out.1.trans HZE.out)).mono ?_
                rintro e W13 ⟨ky, ny, sy, ay, my, cy, rfl, hy, B⟩
                replace bbt := Box.keep B bbt
                replace bbx := Box.keep B bbx
                replace ht := ht.up B B.size
                replace hl := hl.up B B.size
                replace hm := hm.up B B.size
                replace hn := hn.up B B.size
                replace hq := hq.up B B.size
                replace hx := hx.up B B.size
                replace hb := hb.trans (B.mono hb.size)
                clear B
                clear bbx hx
                have qt0 := bbt.cell 0
                have qt1 := bbt.cell 1
                have qt2 := bbt.cell 2
                have qt3 := bbt.cell 3
                have lt := bbt.lt
                simp only [List.getElem?_toArray, List.getElem?_cons_succ, List.getElem?_cons_zero] at qt0 qt1 qt2 qt3
                go_wp2_with fail
                clear qt0 qt1 qt2 qt3 lt
                have bby : Box (W13.alloc (.cells #[.int .i64 ky, .int .i64 ny, .string sy, .slice ay my cy] 25)) W13.heap.size #[.int .i64 ky, .int .i64 ny, .string sy, .slice ay my cy] 25 := Box.at rfl
                have B := below_a1 (Nat.le_refl W13.heap.size) (.cells #[.int .i64 ky, .int .i64 ny, .string sy, .slice ay my cy] 25)
                replace bbt := Box.keep B bbt
                replace ht := ht.up B B.size
                replace hl := hl.up B B.size
                replace hm := hm.up B B.size
                replace hn := hn.up B B.size
                replace hq := hq.up B B.size
                replace hy := hy.up B B.size
                replace hb := hb.trans (B.mono hb.size)
                clear B
                generalize (W13.alloc (.cells #[.int .i64 ky, .int .i64 ny, .string sy, .slice ay my cy] 25)) = V14 at *
                have qt0 := bbt.cell 0
                have qt1 := bbt.cell 1
                have qt2 := bbt.cell 2
                have qt3 := bbt.cell 3
                have lt := bbt.lt
                simp only [List.getElem?_toArray, List.getElem?_cons_succ, List.getElem?_cons_zero] at qt0 qt1 qt2 qt3
                go_wp2_with fail
                clear qt0 qt1 qt2 qt3 lt
                refine (Subst_ok (l := compT l m) _ aq cq _ ht HX.out HQ.out h4q h5q hq (substV X (compT l m)) ze rfl HZE.out).mono ?_
                rintro e W15 ⟨kz, nz, sz, az, mz, cz, rfl, hz, B⟩
                replace bbt := Box.keep B bbt
                replace bby := Box.keep B bby
                replace ht := ht.up B B.size
                replace hl := hl.up B B.size
                replace hm := hm.up B B.size
                replace hn := hn.up B B.size
                replace hq := hq.up B B.size
                replace hy := hy.up B B.size
                replace hb := hb.trans (B.mono hb.size)
                clear B
                have qy0 := bby.cell 0
                have qy1 := bby.cell 1
                have qy2 := bby.cell 2
                have qy3 := bby.cell 3
                have ly := bby.lt
                simp only [List.getElem?_toArray, List.getElem?_cons_succ, List.getElem?_cons_zero] at qy0 qy1 qy2 qy3
                go_wp2_with fail
                clear qy0 qy1 qy2 qy3 ly
                have bbz : Box (W15.alloc (.cells #[.int .i64 kz, .int .i64 nz, .string sz, .slice az mz cz] 25)) W15.heap.size #[.int .i64 kz, .int .i64 nz, .string sz, .slice az mz cz] 25 := Box.at rfl
                have B := below_a1 (Nat.le_refl W15.heap.size) (.cells #[.int .i64 kz, .int .i64 nz, .string sz, .slice az mz cz] 25)
                replace bbt := Box.keep B bbt
                replace bby := Box.keep B bby
                replace ht := ht.up B B.size
                replace hl := hl.up B B.size
                replace hm := hm.up B B.size
                replace hn := hn.up B B.size
                replace hq := hq.up B B.size
                replace hy := hy.up B B.size
                replace hz := hz.up B B.size
                replace hb := hb.trans (B.mono hb.size)
                clear B
                generalize (W15.alloc (.cells #[.int .i64 kz, .int .i64 nz, .string sz, .slice az mz cz] 25)) = V16 at *
                have qy0 := bby.cell 0
                have qy1 := bby.cell 1
                have qy2 := bby.cell 2
                have qy3 := bby.cell 3
                have ly := bby.lt
                simp only [List.getElem?_toArray, List.getElem?_cons_succ, List.getElem?_cons_zero] at qy0 qy1 qy2 qy3
                go_wp2_with fail
                clear qy0 qy1 qy2 qy3 ly
                refine (sane_same (substV X (compT l m)) _ _ _ hy hz).mono ?_
                rintro e W17 ⟨rfl, B⟩
                replace bbt := Box.keep B bbt
                replace bby := Box.keep B bby
                replace bbz := Box.keep B bbz
                replace ht := ht.up B B.size
                replace hl := hl.up B B.size
                replace hm := hm.up B B.size
                replace hn := hn.up B B.size
                replace hq := hq.up B B.size
                replace hy := hy.up B B.size
                replace hz := hz.up B B.size
                replace hb := hb.trans (B.mono hb.size)
                clear B
                clear bby hy bbz hz
                clear bbt ht
                cases hf : compFit m n with
                | false =>
                  have HE2 := Lib.hid (compE_bad3 HSm.out HSn.out hf)
                  clear hf
                  go_wp2_with fail
                  refine (Compose_ok HSm.out HSn.out am an cm cn _ h4m h5m h4n h5n hm hn (compL m n) 2 rfl HE2.out).mono ?_
                  rintro e W18 ⟨au, cu, rfl, h4u, h5u, hu, B⟩
                  replace hl := hl.up B B.size
                  replace hm := hm.up B B.size
                  replace hn := hn.up B B.size
                  replace hq := hq.up B B.size
                  replace hb := hb.trans (B.mono hb.size)
                  clear B
                  clear hu
                  go_wp2_with fail
                  refine (Compose_ok HQ.out HSn.out aq an cq cn _ h4q h5q h4n h5n hq hn (compL (compT l m) n) (compE (compT l m) n) rfl rfl).mono ?_
                  rintro e W19 ⟨av, cv, rfl, h4v, h5v, hv, B⟩
                  replace hl := hl.up B B.size
                  replace hm := hm.up B B.size
                  replace hn := hn.up B B.size
                  replace hq := hq.up B B.size
                  replace hb := hb.trans (B.mono hb.size)
                  clear B
                  clear hv
                  go_wp2_with fail
                  go_ret
                  exact ⟨rfl, hb⟩
                | true =>
                  have HE2 := Lib.hid (compE_ok HSm.out HSn.out hf)
                  have HU := Lib.hid (compT_ok HSm.out HSn.out hf)
                  have HUL : Hid (compL m n = compT m n) := by rw [Hid, compL, if_pos HE2.out]
                  clear hf
                  go_wp2_with fail
                  refine (Compose_ok HSm.out HSn.out am an cm cn _ h4m h5m h4n h5n hm hn (compT m n) 0 HUL.out HE2.out).mono ?_
                  rintro e W18 ⟨au, cu, rfl, h4u, h5u, hu, B⟩
                  replace hl := hl.up B B.size
                  replace hm := hm.up B B.size
                  replace hn := hn.up B B.size
                  replace hq := hq.up B B.size
                  replace hb := hb.trans (B.mono hb.size)
                  clear B
                  cases hf : compFit (compT l m) n with
                  | false =>
                    have HE3 := Lib.hid (compE_bad3 HQ.out HSn.out hf)
                    clear hf
                    go_wp2_with fail
                    refine (Compose_ok HQ.out HSn.out aq an cq cn _ h4q h5q h4n h5n hq hn (compL (compT l m) n) 2 rfl HE3.out).mono ?_
                    rintro e W19 ⟨av, cv, rfl, h4v, h5v, hv, B⟩
                    replace hl := hl.up B B.size
                    replace hm := hm.up B B.size
                    replace hn := hn.up B B.size
                    replace hq := hq.up B B.size
                    replace hu := hu.up B B.size
                    replace hb := hb.trans (B.mono hb.size)
                    clear B
                    clear hv
                    go_wp2_with fail
                    go_ret
                    exact ⟨rfl, hb⟩
                  | true =>
                    have HE3 := Lib.hid (compE_ok HQ.out HSn.out hf)
                    have HVL : Hid (compL (compT l m) n = compT (compT l m) n) := by rw [Hid, compL, if_pos HE3.out]
                    have HE4 := Lib.hid (compE_ok HSl.out HU.out (comp_fit HSl.out HSm.out HSn.out HF1.out hf HU.out))
                    have HAS := Lib.hid (comp_assoc HSl.out HSm.out HSn.out HQ.out HU.out)
                    have HWL : Hid (compL l (compT m n) = compT (compT l m) n) := by rw [Hid, compL, if_pos HE4.out, HAS.out]
                    clear hf
                    go_wp2_with fail
                    refine (Compose_ok HQ.out HSn.out aq an cq cn _ h4q h5q h4n h5n hq hn (compT (compT l m) n) 0 HVL.out HE3.out).mono ?_
                    rintro e W19 ⟨av, cv, rfl, h4v, h5v, hv, B⟩
                    replace hl := hl.up B B.size
                    replace hm := hm.up B B.size
                    replace hn := hn.up B B.size
                    replace hq := hq.up B B.size
                    replace hu := hu.up B B.size
                    replace hb := hb.trans (B.mono hb.size)
                    clear B
                    go_wp2_with fail
                    refine (Compose_ok HSl.out HU.out al au cl cu _ h4l h5l h4u h5u hl hu (compT (compT l m) n) 0 HWL.out HE4.out).mono ?_
                    rintro e W20 ⟨ar, cr, rfl, h4r, h5r, hr, B⟩
                    replace hl := hl.up B B.size
                    replace hm := hm.up B B.size
                    replace hn := hn.up B B.size
                    replace hq := hq.up B B.size
                    replace hu := hu.up B B.size
                    replace hv := hv.up B B.size
                    replace hb := hb.trans (B.mono hb.size)
                    clear B
                    go_wp2_with fail
                    generalize compT (compT l m) n = Q at *
                    have hsq := refSameAll Q Q _ _ W20 ⟨av, cv, rfl, h4v, h5v, hv⟩ ⟨ar, cr, rfl, h4r, h5r, hr⟩
                    rw [show eqLT Q Q = true by simp [eqLT]] at hsq
                    refine hsq.mono ?_
                    clear hsq
                    rintro e W21 ⟨rfl, B⟩
                    replace hl := hl.up B B.size
                    replace hm := hm.up B B.size
                    replace hn := hn.up B B.size
                    replace hq := hq.up B B.size
                    replace hu := hu.up B B.size
                    replace hv := hv.up B B.size
                    replace hr := hr.up B B.size
                    replace hb := hb.trans (B.mono hb.size)
                    clear B
                    go_wp2_with fail
                    go_ret
                    exact ⟨rfl, hb⟩
end Go.Proofs.YtckoecmdaefoiaaDoor
