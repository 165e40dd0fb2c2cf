/- The second reading of the order. -/
import Derived.Test.YtdigiaigbcfccaaGreatDoorSymO
import Derived.Test.YtdigiaigbcfccaaGreatDoorRSame
import Derived.Test.YtdigiaigbcfccaaGreatDoorSbs
namespace Go.Proofs.YtdigiaigbcfccaaGreatDoor
open Go.RowKit Go

attribute [local go_sem] Oper.semAt_some monoUpon Yld.says

theorem binOp_str_gtr2 (t : TypeId) (a b : ByteArray) : binOp .gtr t (.string a) (.string b) = pure (.bool !(Op.bytesLess a.toList b.toList || a.toList == b.toList)) := by simp [binOp, Op.stringOp]
attribute [local go_sem] binOp_str_gtr2
theorem refInts_any (a b : Int) (w : World) : Calls Tryz.prog 66 #[.int .i64 a, .int .i64 b] w fun e w' => e = .returned (.int .i64 (Lib.compareInt a b)) ∧ w' = w := by
  obtain ⟨r, hr⟩ : ∃ r, Lib.compareInt a b = r := ⟨_, rfl⟩
  have hr' := hr
  unfold Lib.compareInt at hr'
  rw [hr]
  by_cases h1 : a < b
  · rw [if_pos h1] at hr'
    subst hr'
    clear hr
    go_enter Tryz.func66, Tryz.ntmps66
    go_wp2_with fail
    go_ret
    exact ⟨rfl, rfl⟩
  · rw [if_neg h1] at hr'
    by_cases h2 : b < a
    · rw [if_pos h2] at hr'
      subst hr'
      clear hr
      have h3 : decide (a > b) = true := by simpa using h2
      go_enter Tryz.func66, Tryz.ntmps66
      go_wp2_with fail
      go_ret
      exact ⟨rfl, rfl⟩
    · rw [if_neg h2] at hr'
      subst hr'
      clear hr
      have h3 : decide (a > b) = false := by simpa using h2
      go_enter Tryz.func66, Tryz.ntmps66
      go_wp2_with fail
      go_ret
      exact ⟨rfl, rfl⟩
theorem refTexts_any (x y : ByteArray) (w : World) : Calls Tryz.prog 67 #[.string x, .string y] w fun e w' => e = .returned (.int .i64 (Lib.compareBytes x.data.toList y.data.toList)) ∧ w' = w := by
  have e1 := bytesLess_cmp x.toList y.toList
  have e2 := cb_zero x.data.toList y.data.toList
  have hr := cb_rng x.data.toList y.data.toList
  rw [bytes_toList x, bytes_toList y] at e1
  rw [← bytes_toList x, ← bytes_toList y] at e1
  obtain ⟨r, hr0⟩ : ∃ r, Lib.compareBytes x.data.toList y.data.toList = r := ⟨_, rfl⟩
  have e3 : (x.toList == y.toList) = decide (r = 0) := by
    rw [hr0] at e2
    rw [Bool.eq_iff_iff, beq_iff_eq, decide_eq_true_iff, e2, bytes_toList, bytes_toList]
  rw [← bytes_toList x, ← bytes_toList y] at hr0
  rw [bytes_toList, bytes_toList] at hr0
  rw [hr0] at hr ⊢
  rw [show Lib.compareBytes x.toList y.toList = r by rw [bytes_toList, bytes_toList]; exact hr0] at e1
  clear e2
  unfold Rng at hr
  rcases hr with rfl | rfl | rfl
  · have f1 : Op.bytesLess x.toList y.toList = true := e1
    have f2 : (x.toList == y.toList) = false := e3
    clear e1 e3 hr0
    go_enter Tryz.func67, Tryz.ntmps67
    go_wp2_with fail
    go_ret
    exact ⟨rfl, rfl⟩
  · have f1 : Op.bytesLess x.toList y.toList = false := e1
    have f2 : (x.toList == y.toList) = true := e3
    clear e1 e3 hr0
    go_enter Tryz.func67, Tryz.ntmps67
    go_wp2_with fail
    go_ret
    exact ⟨rfl, rfl⟩
  · have f1 : Op.bytesLess x.toList y.toList = false := e1
    have f2 : (x.toList == y.toList) = false := e3
    clear e1 e3 hr0
    go_enter Tryz.func67, Tryz.ntmps67
    go_wp2_with fail
    go_ret
    exact ⟨rfl, rfl⟩

theorem nodeB_leaf {k n : Int} {s : ByteArray} {len : Nat} (h : nodeB k n s len = true) (hk : k = 1 ∨ k = 2) : s.toList = [] ∧ len = 0 := by
  unfold nodeB at h
  rcases hk with rfl | rfl
  · rw [if_pos rfl] at h
    simp only [Bool.and_eq_true, decide_eq_true_eq] at h
    exact ⟨h.1.2, h.2⟩
  · rw [if_neg (by decide), if_pos rfl] at h
    simp only [Bool.and_eq_true, decide_eq_true_eq] at h
    exact ⟨h.1.2, h.2⟩
theorem nodeB_zero {k n : Int} {s : ByteArray} {len : Nat} (h : nodeB k n s len = true) (hk : ¬ (k = 1 ∨ k = 2)) : n = 0 := by
  unfold nodeB at h
  rw [if_neg (fun e => hk (.inl e)), if_neg (fun e => hk (.inr e))] at h
  split at h
  · simp only [Bool.and_eq_true, decide_eq_true_eq] at h; exact h.1.1
  · split at h
    · simp only [Bool.and_eq_true, decide_eq_true_eq] at h; exact h.1.1
    · split at h
      · simp only [Bool.and_eq_true, decide_eq_true_eq] at h; exact h.1.1.1
      · split at h
        · simp only [Bool.and_eq_true, decide_eq_true_eq] at h; exact h.1.1
        · cases h
theorem good_at {k n : Int} {s : ByteArray} {l : List Tr} (h : (Tr.node k n s l).good = true) : nodeB k n s l.length = true ∧ ∀ j (hj : j < l.length), l[j].good = true := by
  rw [Tr.good, Bool.and_eq_true, goodL_all, List.all_eq_true] at h
  exact ⟨h.1, fun j hj => h.2 _ (List.getElem_mem hj)⟩
theorem ord_kind {k n k' n' : Int} {s s' : ByteArray} {l l' : List Tr} (h : ¬ k = k') : ordT (.node k n s l) (.node k' n' s' l') = Lib.compareInt k k' := by
  have h0 : Lib.compareInt k k' ≠ 0 := fun e => h ((ci_zero _ _).1 e)
  simp [ordT, topO, orL, h0]
theorem ord_leaf {k n n' : Int} {s s' : ByteArray} {l l' : List Tr} (hT : (Tr.node k n s l).good = true) (hU : (Tr.node k n' s' l').good = true) (hk : k = 1 ∨ k = 2) : ordT (.node k n s l) (.node k n' s' l') = Lib.compareInt n n' := by
  obtain ⟨h1, h2⟩ := nodeB_leaf (good_at hT).1 hk
  obtain ⟨h3, h4⟩ := nodeB_leaf (good_at hU).1 hk
  obtain rfl := List.length_eq_zero_iff.1 h2
  obtain rfl := List.length_eq_zero_iff.1 h4
  have e1 := (ci_zero k k).2 rfl
  have e2 := (ci_zero (0 : Int) 0).2 rfl
  have e3 : Lib.compareBytes s.data.toList s'.data.toList = 0 := (cb_zero _ _).2 (by rw [← bytes_toList, ← bytes_toList, h1, h3])
  simp only [ordT, topO, orL, e1, e3, List.length_nil, Int.natCast_zero, e2, if_true, ordL]
  split <;> simp_all
theorem ord_top {k n n' : Int} {s s' : ByteArray} {l l' : List Tr} (hT : (Tr.node k n s l).good = true) (hU : (Tr.node k n' s' l').good = true) (hk : ¬ (k = 1 ∨ k = 2)) : ordT (.node k n s l) (.node k n' s' l') = if Lib.compareInt l.length l'.length = 0 then (if Lib.compareBytes s.data.toList s'.data.toList = 0 then ordL l l' else Lib.compareBytes s.data.toList s'.data.toList) else Lib.compareInt l.length l'.length := by
  obtain rfl := nodeB_zero (good_at hT).1 hk
  obtain rfl := nodeB_zero (good_at hU).1 hk
  have e1 := (ci_zero k k).2 rfl
  have e2 := (ci_zero (0 : Int) 0).2 rfl
  simp only [ordT, topO, orL, e1, e2, if_true]
  by_cases h1 : Lib.compareInt (l.length : Int) l'.length = 0 <;> by_cases h2 : Lib.compareBytes s.data.toList s'.data.toList = 0 <;> simp [h1, h2]

set_option maxRecDepth 100000 in
set_option maxHeartbeats 4000000 in
theorem refOrder_any (T : Tr) : ∀ (U : Tr) (v u : Value) (w : World), IsT w.heap.size w T v → IsT w.heap.size w U u → T.good = true → U.good = true →
    Calls Tryz.prog 35 #[v, u] w fun e w' => e = .returned (.int .i64 (ordT T U)) ∧ Below w.heap.size w w' := by
  induction T using Tr.ind with
  | h k n s l ih =>
    intro U v u w hv hu hgT hgU
    cases U with
    | node k' n' s' l' =>
    obtain ⟨a, c, rfl, _, _, _, hlc, hcm, hl⟩ := hv.open
    obtain ⟨a', c', rfl, _, _, _, hlc', hcm', hl'⟩ := hu.open
    have HI := Lib.hid ih
    clear ih hv hu
    unfold maxLen at hcm hcm'
    have b1 : Box ((w.alloc (.cells #[.int .i64 k, .int .i64 n, .string s, .slice a l.length c] 24)).alloc (.cells #[.int .i64 k', .int .i64 n', .string s', .slice a' l'.length c'] 24)) w.heap.size #[.int .i64 k, .int .i64 n, .string s, .slice a l.length c] 24 := (Box.at rfl).alloc _
    have b2 : Box ((w.alloc (.cells #[.int .i64 k, .int .i64 n, .string s, .slice a l.length c] 24)).alloc (.cells #[.int .i64 k', .int .i64 n', .string s', .slice a' l'.length c'] 24)) (w.heap.size + 1) #[.int .i64 k', .int .i64 n', .string s', .slice a' l'.length c'] 24 := Box.at (by simp)
    have hB0 := below_a2 (Nat.le_refl w.heap.size) (.cells #[.int .i64 k, .int .i64 n, .string s, .slice a l.length c] 24) (.cells #[.int .i64 k', .int .i64 n', .string s', .slice a' l'.length c'] 24)
    by_cases hk : k = k'
    · subst hk
      by_cases hv : k = 1 ∨ k = 2
      · have HO := Lib.hid (ord_leaf hgT hgU hv)
        clear hgT hgU b1 b2
        have hkk : (k == 1) = true ∨ ((k == 1) = false ∧ (k == 2) = true) := by
          rcases hv with rfl | rfl
          · exact .inl rfl
          · exact .inr ⟨rfl, rfl⟩
        have hkne : (k != k) = false := by simp
        clear hv
        rcases hkk with h1 | ⟨h1, h2⟩
        · go_enter Tryz.func35, Tryz.ntmps35
          go_wp2_with fail
          refine (refInts_any n n' _).mono ?_
          rintro e w' ⟨rfl, rfl⟩
          go_wp2_with fail
          go_ret
          exact ⟨by rw [HO.out]; rfl, hB0⟩
        · go_enter Tryz.func35, Tryz.ntmps35
          go_wp2_with fail
          refine (refInts_any n n' _).mono ?_
          rintro e w' ⟨rfl, rfl⟩
          go_wp2_with fail
          go_ret
          exact ⟨by rw [HO.out]; rfl, hB0⟩
      · have HO := Lib.hid (ord_top hgT hgU hv)
        have HG := Lib.hid (And.intro (good_at hgT).2 (good_at hgU).2)
        have h1 : (k == 1) = false := by simpa using fun e => hv (.inl e)
        have h2 : (k == 2) = false := by simpa using fun e => hv (.inr e)
        have hkne : (k != k) = false := by simp
        clear hgT hgU hv
        go_enter Tryz.func35, Tryz.ntmps35
        go_wp2_with fail
        refine (refInts_any l.length l'.length _).mono ?_
        rintro e w' ⟨rfl, rfl⟩
        obtain ⟨p, hp⟩ : ∃ p, Lib.compareInt l.length l'.length = p := ⟨_, rfl⟩
        have hpz := ci_zero (l.length : Int) l'.length
        rw [hp] at hpz
        have HP := Lib.hid hp
        rw [hp]
        clear hp
        by_cases hp0 : p = 0
        · have hlen : l.length = l'.length := by have := hpz.1 hp0; omega
          have HL := Lib.hid hlen
          subst hp0
          clear hpz hlen
          go_wp2_with fail
          refine (refTexts_any s s' _).mono ?_
          rintro e w' ⟨rfl, rfl⟩
          obtain ⟨m0, hm0⟩ : ∃ m, Lib.compareBytes s.data.toList s'.data.toList = m := ⟨_, rfl⟩
          have HO2 : Hid (ordT (.node k n s l) (.node k n' s' l') = if m0 = 0 then ordL l l' else m0) := by rw [Hid, HO.out, if_pos HP.out, hm0]
          rw [hm0]
          clear hm0
          generalize (w.alloc (.cells #[.int .i64 k, .int .i64 n, .string s, .slice a l.length c] 24)).alloc (.cells #[.int .i64 k, .int .i64 n', .string s', .slice a' l'.length c'] 24) = W1 at *
          go_wp2_with fail
          go_loopw [5, 6] (fun mv iv wr => ∃ (m : Int) (j : Nat), mv = .int .i64 m ∧ j ≤ l.length ∧ iv = .int .i64 j ∧ Hid (ordT (.node k n s l) (.node k n' s' l') = if m = 0 then ordL (l.drop j) (l'.drop j) else m) ∧ Ext W1 wr) (fun _ iv _ => l.length - (intOf iv).toNat)
          case atStart => exact ⟨m0, 0, rfl, Nat.zero_le _, rfl, HO2, Ext.refl _⟩
          case round =>
            obtain ⟨m, j, rfl, hj, rfl, HM, hX⟩ := hrel
            have hBw := hB0.trans (Below.mono hX hB0.size)
            have x3 := (Box.keep hX b1).cell 3
            have y3 := (Box.keep hX b2).cell 3
            have xl := (Box.keep hX b1).lt
            have yl := (Box.keep hX b2).lt
            simp only [List.getElem?_toArray, List.getElem?_cons_succ, List.getElem?_cons_zero] at x3 y3
            by_cases hlt : j < l.length
            · by_cases hm : m = 0
              · subst hm
                have hlt' : j < l'.length := by have := HL.out; omega
                obtain ⟨b, off, rfl, hb⟩ := hl.addr (by omega)
                obtain ⟨b', off', rfl, hb'⟩ := hl'.addr (by omega)
                obtain ⟨tk, tn, ts, tl, ta, tc, te, c0, c1, c2, c3, ht⟩ := hl.node' hb hBw j hlt
                obtain ⟨uk, un, us, ul, ua, uc, ue, d0, d1, d2, d3, hu⟩ := hl'.node' hb' hBw j hlt'
                replace ht := ht.below hBw
                replace hu := hu.below hBw
                have Te := Lib.hid te
                have Ue := Lib.hid ue
                clear te ue
                have hbw : b < wr.heap.size := by have := hBw.size; omega
                have hbw' : b' < wr.heap.size := by have := hBw.size; omega
                obtain ⟨r, hr⟩ : ∃ r, ordT l[j] l'[j] = r := ⟨_, rfl⟩
                have HM2 : Hid (ordT (.node k n s l) (.node k n' s' l') = if r = 0 then ordL (l.drop (j + 1)) (l'.drop (j + 1)) else r) := by
                  rw [Hid, HM.out, if_pos rfl, ordL_drop hlt hlt', hr]
                have HR := Lib.hid hr
                clear hr
                go_wp2_with fail
                apply wp_region_mono [.det _, .det _, .det _, .det _, .det _, .det _, .det _, .det _, .det _, .det _, .det _, .det _] (by kernel_rfl) (by kernel_rfl)
                rotate_left
                · iterate 10 (
                    refine wpM_step (fun K hK => ?_)
                    go_simp
                    apply And.intro
                    · intro w' hC _
                      have q1 := hC.old.1
                      have hbs := hC.old.2.2
                      clear hC
                      go_simp
                      exact ⟨Ext.refl _, rfl⟩
                    refine nextM_det (hK _ _ ?_)
                    clear hK K)
                  refine wpM_step (fun K hK => ?_)
                  go_simp
                  apply And.intro
                  · intro w' hC _
                    go_simp
                    refine ⟨Ext.refl _, (HI.out _ (List.getElem_mem hlt) _ _ _ _ (ht.up (Below.mono hC hBw.size) (Nat.le_trans hBw.size hC.old.2.2)) (hu.up (Below.mono hC hBw.size) (Nat.le_trans hBw.size hC.old.2.2)) (HG.out.1 j hlt) (HG.out.2 j hlt')).mono ?_⟩
                    rintro e w1 ⟨rfl, hB1⟩
                    exact ⟨congrArg (fun b => Ending.returned (Value.int .i64 b)) HR.out, hB1⟩
                  refine nextM_det (hK _ _ ?_)
                  clear hK K
                  iterate 1 (
                    refine wpM_step (fun K hK => ?_)
                    go_simp
                    apply And.intro
                    · intro w' hC _
                      have q1 := hC.old.1
                      have hbs := hC.old.2.2
                      clear hC
                      go_simp
                      exact ⟨Ext.refl _, rfl⟩
                    refine nextM_det (hK _ _ ?_)
                    clear hK K)
                  refine wpM_nil ?_
                  intro w1 hC1 _
                  have hB2 := hX.trans hC1
                  clear hC1 c0 c1 c2 c3 d0 d1 d2 d3 x3 y3
                  go_wp2_with fail
                  go_roundw
                  case rel => exact ⟨r, j + 1, rfl, hlt, by go_num, HM2, hB2⟩
                  case measure => simp [intOf]; omega
                · intro y hy
                  simp only [List.mem_cons, List.not_mem_nil, or_false] at hy
                  rcases hy with rfl | rfl | rfl | rfl | rfl | rfl | rfl | rfl | rfl | rfl | rfl | rfl <;> first | trivial
              · have hmn : (m == 0) = false := by simpa using hm
                have HM2 : Hid (ordT (.node k n s l) (.node k n' s' l') = m) := by rw [Hid, HM.out, if_neg hm]
                clear hm
                go_wp2_with fail
                go_ret
                exact ⟨by rw [HM2.out]; rfl, hBw⟩
            · have HM2 : Hid (ordT (.node k n s l) (.node k n' s' l') = m) := by
                rw [Hid, HM.out, List.drop_eq_nil_of_le (by omega), List.drop_eq_nil_of_le (by have := HL.out; omega), ordL]
                split <;> simp_all
              go_wp2_with fail
              go_ret
              exact ⟨by rw [HM2.out]; rfl, hBw⟩
        · have hpn : (p != 0) = true := by simpa using hp0
          have HO2 : Hid (ordT (.node k n s l) (.node k n' s' l') = p) := by rw [Hid, HO.out, if_neg (by rw [HP.out]; exact hp0), HP.out]
          clear hpz b1 b2 hp0
          go_wp2_with fail
          go_ret
          exact ⟨by rw [HO2.out]; rfl, hB0⟩
    · have HO := Lib.hid (ord_kind (n := n) (n' := n') (s := s) (s' := s') (l := l) (l' := l') hk)
      have hkn : (k != k') = true := by simpa using hk
      clear hk hgT hgU b1 b2
      go_enter Tryz.func35, Tryz.ntmps35
      go_wp2_with fail
      refine (refInts_any k k' _).mono ?_
      rintro e w' ⟨rfl, rfl⟩
      go_wp2_with fail
      go_ret
      exact ⟨by rw [HO.out]; rfl, hB0⟩
end Go.Proofs.YtdigiaigbcfccaaGreatDoor
