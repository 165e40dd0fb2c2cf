import Derived.Test.YtdigiaigbcfccaaDoorInst
import Derived.Test.YtdigiaigbcfccaaDoorSaneM
namespace Go.Proofs.YtdigiaigbcfccaaDoor
open Go.RowKit Go

attribute [local go_sem] monoUpon Yld.says

theorem tog1 (T : Tr) : togB [T] = isB T := by
  rw [togB]
  simp only [List.all_cons, List.all_nil, Bool.and_true, sizeL, Nat.add_zero]
  cases h : isB T with
  | false => rfl
  | true => have := (isB_size h).1; simp [this]
theorem norm1 (T : Tr) : normT [T] = [nrm T] := rfl

/-- What Normal leaves of one tree. -/
def Norm1 (T : Tr) (w : World) (e : Ending) (w' : World) : Prop := Below w.heap.size w w' ∧ ((isB T = true ∧ ∃ v u, e = .returned (.tuple #[v, u, .int .i64 0]) ∧ IsS w'.heap.size w' [nrm T] v) ∨ (isB T = false ∧ e = .returned (.tuple #[.slice none 0 0, .slice none 0 0, .int .i64 3])))
theorem normal1 (T : Tr) (v0 v1 v2 v3 : Value) (w : World) (h : IsT w.heap.size w T (.agg #[v0, v1, v2, v3])) (hd : T.deep ≤ 999999999) :
    Calls Tryd.prog 45 #[.slice (some ⟨w.heap.size, 0, none⟩) 1 1] (w.alloc (.cells #[v0, v1, v2, v3] 25)) (Norm1 T w) := by
  obtain ⟨a, c, he, h1, h2, h3⟩ := isS1 h
  cases he
  have hn := Normal_any [T] _ 1 _ (by unfold maxLen; simp) h3 (by intro t ht; simp at ht; subst ht; exact hd)
  refine Calls.mono hn ?_
  rintro e w' ⟨B, hh⟩
  rw [tog1, norm1] at hh
  refine ⟨up1 B, ?_⟩
  cases hT : isB T with
  | true =>
    rw [hT] at hh
    obtain ⟨x, y, rfl, hx, _⟩ := hh
    exact .inl ⟨rfl, x, y, rfl, hx.toS (fun b h => h.2)⟩
  | false =>
    rw [hT] at hh
    exact .inr ⟨rfl, hh⟩

set_option maxRecDepth 100000 in
set_option maxHeartbeats 2000000 in
theorem Variant_any (T U : Tr) (v u : Value) (w : World) (hv : IsT w.heap.size w T v) (hu : IsT w.heap.size w U u) (hdT : T.deep ≤ 999999999) (hdU : U.deep ≤ 999999999) :
    Calls Tryd.prog 47 #[v, u] w fun e w' => e = .returned (.tuple #[.bool (varR T U), .int .i64 (errI (isB T && isB U))]) ∧ Below w.heap.size w w' := by
  obtain ⟨k, n, s, a, m, c, rfl⟩ := (IsT.toP _ _ hv).form
  obtain ⟨k', n', s', a', m', c', rfl⟩ := (IsT.toP _ _ hu).form
  have b1 : Box ((w.alloc (.cells #[.int .i64 k, .int .i64 n, .string s, .slice a m c] 25)).alloc (.cells #[.int .i64 k', .int .i64 n', .string s', .slice a' m' c'] 25)) (w.heap.size + 1) #[.int .i64 k', .int .i64 n', .string s', .slice a' m' c'] 25 := Box.at (by simp)
  have hb := below_a2 (Nat.le_refl w.heap.size) (.cells #[.int .i64 k, .int .i64 n, .string s, .slice a m c] 25) (.cells #[.int .i64 k', .int .i64 n', .string s', .slice a' m' c'] 25)
  replace hv := hv.up hb hb.size
  replace hu := hu.up hb hb.size
  go_enter Tryd.func47, Tryd.ntmps47
  go_wp2_with fail
  have hn := normal1 T _ _ _ _ _ hv hdT
  rw [show ((w.alloc (.cells #[.int .i64 k, .int .i64 n, .string s, .slice a m c] 25)).alloc (.cells #[.int .i64 k', .int .i64 n', .string s', .slice a' m' c'] 25)).heap.size = w.heap.size + 1 + 1 by simp] at hn
  refine hn.mono ?_
  clear hn
  rintro e W1 ⟨B, hh⟩
  replace b1 := Box.keep B b1
  replace hb := hb.trans (B.mono hb.size)
  replace hu := hu.up B B.size
  clear B hv
  rcases hh with ⟨hT, x, y, rfl, hx⟩ | ⟨hT, rfl⟩
  rotate_left
  · have HV : Hid (varR T U = false ∧ errI (isB T && isB U) = 3) := by rw [Hid, varR, hT]; exact ⟨rfl, rfl⟩
    clear hT b1 hu
    go_wp2_with fail
    go_ret2
    exact ⟨by rw [HV.out.1, HV.out.2]; rfl, hb⟩
  · have HT := Lib.hid hT
    clear hT
    have t0 := b1.cell 0
    have t1 := b1.cell 1
    have t2 := b1.cell 2
    have t3 := b1.cell 3
    simp only [List.getElem?_toArray, List.getElem?_cons_succ, List.getElem?_cons_zero] at t0 t1 t2 t3
    go_wp2_with fail
    clear t0 t1 t2 t3
    refine (normal1 U _ _ _ _ _ hu hdU).mono ?_
    rintro e W2 ⟨B, hh⟩
    replace hb := hb.trans (B.mono hb.size)
    replace hx := hx.up B B.size
    clear B hu b1
    rcases hh with ⟨hU, x', y', rfl, hx'⟩ | ⟨hU, rfl⟩
    rotate_left
    · have HV : Hid (varR T U = false ∧ errI (isB T && isB U) = 3) := by rw [Hid, varR, HT.out, hU]; exact ⟨rfl, rfl⟩
      clear hU hx
      go_wp2_with fail
      go_ret2
      exact ⟨by rw [HV.out.1, HV.out.2]; rfl, hb⟩
    · have HV : Hid (varR T U = eqT (nrm T) (nrm U) ∧ errI (isB T && isB U) = 0) := by rw [Hid, varR, HT.out, hU]; exact ⟨rfl, rfl⟩
      clear hU
      obtain ⟨ax, cx, rfl, g1, g2, g3⟩ := hx
      obtain ⟨bx, ox, rfl, hbx⟩ := g3.addr (by simp)
      obtain ⟨tk, tn, ts, tl, ta, tc, te, c0, c1, c2, c3, ht⟩ := g3.node 0 (by simp)
      obtain ⟨ay, cy, rfl, g1', g2', g3'⟩ := hx'
      obtain ⟨by', oy, rfl, hby⟩ := g3'.addr (by simp)
      obtain ⟨uk, un, us, ul, ua, uc, ue, d0, d1, d2, d3, hu⟩ := g3'.node 0 (by simp)
      simp only [Nat.zero_mul, Nat.add_zero, List.getElem_cons_zero] at c0 c1 c2 c3 d0 d1 d2 d3 ht hu
      have HX := Lib.hid (And.intro ht (And.intro hu hb))
      obtain ⟨r, hr⟩ : ∃ r, eqT (nrm T) (nrm U) = r := ⟨_, rfl⟩
      rw [hr] at HV
      have HS : Hid (∀ W, Below W2.heap.size W2 W → Calls Tryd.prog 24 #[.agg #[.int .i64 tk, .int .i64 tn, .string ts, .slice ta tl.length tc], .agg #[.int .i64 uk, .int .i64 un, .string us, .slice ua ul.length uc]] W fun e w' => e = .returned (.bool r) ∧ Below W.heap.size W w') := fun W hW => by
        have := same_any (nrm T) (nrm U) _ _ W (HX.out.1.up hW hW.size) (HX.out.2.1.up hW hW.size)
        rw [hr] at this
        exact this
      clear hr ht hu hb g1 g2 g3 g1' g2' g3' te ue
      go_wp2_with fail
      apply wp_region_mono [.det (.slice (some ⟨bx, ox, none⟩) 1 cx), .det (.pointer (some ⟨bx, ox, none⟩)), .det (.agg #[.int .i64 tk, .int .i64 tn, .string ts, .slice ta tl.length tc]), .det (.slice (some ⟨by', oy, none⟩) 1 cy), .det (.pointer (some ⟨by', oy, none⟩)), .det (.agg #[.int .i64 uk, .int .i64 un, .string us, .slice ua ul.length uc]), .det (.bool r), .det (.bool r), .det (.int .i64 0)] (by kernel_rfl) (by kernel_rfl)
      rotate_left
      · iterate 6 (
          refine wpM_step (fun K hK => ?_)
          go_simp
          apply And.intro
          · intro w' hC _
            have q1 := hC.old.1
            have hbs := hC.old.2.2
            clear hC
            go_simp
            exact Ext.refl _
          refine nextM_det (hK _ _ ?_)
          clear hK K)
        refine wpM_step (fun K hK => ?_)
        go_simp
        apply And.intro
        · intro w' hC _
          have hS := HS.out w' hC
          clear hC
          go_simp
          refine ⟨Ext.refl _, hS.mono ?_⟩
          rintro e w1 ⟨rfl, B⟩
          exact ⟨rfl, B⟩
        refine nextM_det (hK _ _ ?_)
        clear hK K
        iterate 2 (
          refine wpM_step (fun K hK => ?_)
          go_simp
          apply And.intro
          · intro w' hC _
            have q1 := hC.old.1
            have hbs := hC.old.2.2
            clear hC
            go_simp
            exact Ext.refl _
          refine nextM_det (hK _ _ ?_)
          clear hK K)
        refine wpM_nil ?_
        intro W3 hC _
        have hb3 := HX.out.2.2.trans (Below.mono hC HX.out.2.2.size)
        clear hC
        go_wp2_with fail
        go_ret2
        exact ⟨by rw [HV.out.1, HV.out.2]; rfl, hb3⟩
      · intro y hy
        simp only [List.mem_cons, List.not_mem_nil, or_false] at hy
        rcases hy with rfl | rfl | rfl | rfl | rfl | rfl | rfl | rfl | rfl <;> first | trivial

theorem instance_any (T U : Tr) (v u : Value) (w : World) (hv : IsT w.heap.size w T v) (hu : IsT w.heap.size w U u) (hdT : T.deep ≤ 999999999) (hdU : U.deep ≤ 999999999) :
    Calls Tryd.prog 58 #[v, u] w fun e w' => e = .returned (.bool (instB T U)) ∧ Below w.heap.size w w' := by
  obtain ⟨k, n, s, a, m, c, rfl⟩ := (IsT.toP _ _ hv).form
  obtain ⟨k', n', s', a', m', c', rfl⟩ := (IsT.toP _ _ hu).form
  have hb := below_a2 (Nat.le_refl w.heap.size) (.cells #[.int .i64 k, .int .i64 n, .string s, .slice a m c] 25) (.cells #[.int .i64 k', .int .i64 n', .string s', .slice a' m' c'] 25)
  replace hv := hv.up hb hb.size
  replace hu := hu.up hb hb.size
  go_enter Tryd.func58, Tryd.ntmps58
  go_wp2_with fail
  refine (Match_any T U _ _ _ hv hu hdT hdU).mono ?_
  rintro e W1 ⟨B, hh⟩
  replace hb := hb.trans (B.mono hb.size)
  clear B hv hu
  cases hm : matchR T U with
  | some fs =>
    rw [hm] at hh
    have HI : Hid (instB T U = true) := by rw [Hid, instB, hm]; rfl
    obtain ⟨x, rfl, _⟩ := hh
    clear hm
    go_wp2_with fail
    go_ret
    exact ⟨retB HI.out, hb⟩
  | none =>
    rw [hm] at hh
    have HI : Hid (instB T U = false) := by rw [Hid, instB, hm]; rfl
    generalize errI (isB T && isB U) = c at *
    clear hm
    subst hh
    go_wp2_with fail
    all_goals
      go_ret
      exact ⟨retB HI.out, hb⟩
theorem variant_any (T U : Tr) (v u : Value) (w : World) (hv : IsT w.heap.size w T v) (hu : IsT w.heap.size w U u) (hdT : T.deep ≤ 999999999) (hdU : U.deep ≤ 999999999) :
    Calls Tryd.prog 59 #[v, u] w fun e w' => e = .returned (.bool (varR T U)) ∧ Below w.heap.size w w' := by
  obtain ⟨k, n, s, a, m, c, rfl⟩ := (IsT.toP _ _ hv).form
  obtain ⟨k', n', s', a', m', c', rfl⟩ := (IsT.toP _ _ hu).form
  have hb := below_a2 (Nat.le_refl w.heap.size) (.cells #[.int .i64 k, .int .i64 n, .string s, .slice a m c] 25) (.cells #[.int .i64 k', .int .i64 n', .string s', .slice a' m' c'] 25)
  replace hv := hv.up hb hb.size
  replace hu := hu.up hb hb.size
  have HE : Hid (errI (isB T && isB U) = 0 ∨ varR T U = false) := by
    rw [Hid, varR]
    cases isB T && isB U with
    | true => exact .inl rfl
    | false => exact .inr rfl
  have HC := Lib.hid (fun (W : World) (h1 : IsT W.heap.size W T (.agg #[.int .i64 k, .int .i64 n, .string s, .slice a m c])) (h2 : IsT W.heap.size W U (.agg #[.int .i64 k', .int .i64 n', .string s', .slice a' m' c'])) => Variant_any T U _ _ W h1 h2 hdT hdU)
  generalize varR T U = r at *
  generalize errI (isB T && isB U) = c at *
  go_enter Tryd.func59, Tryd.ntmps59
  go_wp2_with fail
  refine (HC.out _ hv hu).mono ?_
  rintro e W1 ⟨rfl, B⟩
  replace hb := hb.trans (B.mono hb.size)
  clear B hv hu
  rcases HE.out with rfl | rfl
  · go_wp2_with fail
    go_ret
    exact ⟨rfl, hb⟩
  · clear HE
    go_wp2_with fail
    all_goals
      go_ret
      exact ⟨rfl, hb⟩
end Go.Proofs.YtdigiaigbcfccaaDoor
