import Derived.Test.YtckoecmdaefoiaaDoorSameAll
import Derived.Test.YtckoecmdaefoiaaDoorMeas
namespace Go.Proofs.YtckoecmdaefoiaaDoor
open Go.RowKit Go
open Classical
attribute [local go_sem] monoUpon Yld.says

set_option maxRecDepth 100000 in
set_option maxHeartbeats 1000000 in
theorem refSame_any (T : Tr) : ∀ (U : Tr) (v u : Value) (w : World), IsT w.heap.size w T v → IsT w.heap.size w U u →
    Calls Tryd.prog 25 #[v, u] w fun e w' => e = .returned (.bool (eqT T U)) ∧ Below w.heap.size w w' := by
  induction T using Tr.ind with
  | h k n s l ih =>
    intro U v u w hv hu
    cases U with
    | node k' n' s' l' =>
    obtain ⟨a, c, rfl, _, _, _, hlc, hcm, hl⟩ := hv.open
    obtain ⟨a', c', rfl, _, _, _, hlc', hcm', hl'⟩ := hu.open
    have HI := Lib.hid ih
    clear ih hv hu
    unfold maxLen at hcm hcm'
    by_cases htop : k = k' ∧ n = n' ∧ s = s' ∧ l.length = l'.length
    · obtain ⟨rfl, rfl, rfl, hlen⟩ := htop
      have hlen1 : l'.length ≤ l.length := by omega
      have hlen2 : l.length ≤ l'.length := by omega
      have hle : (((l.length : Nat) : Int) != (l'.length : Nat)) = false := by simp [hlen]
      clear hlen
      by_cases h0 : 0 < l.length
      · obtain ⟨b, off, rfl, hb⟩ := hl.addr h0
        obtain ⟨b', off', rfl, hb'⟩ := hl'.addr (by omega)
        go_enter Tryd.func25, Tryd.ntmps25
        go_wp2_with fail
        have b1 : Box ((w.alloc (.cells #[.int .i64 k, .int .i64 n, .string s, .slice (some ⟨b, off, none⟩) l.length c] 25)).alloc (.cells #[.int .i64 k, .int .i64 n, .string s, .slice (some ⟨b', off', none⟩) l'.length c'] 25)) w.heap.size #[.int .i64 k, .int .i64 n, .string s, .slice (some ⟨b, off, none⟩) l.length c] 25 := (Box.at rfl).alloc _
        have b2 : Box ((w.alloc (.cells #[.int .i64 k, .int .i64 n, .string s, .slice (some ⟨b, off, none⟩) l.length c] 25)).alloc (.cells #[.int .i64 k, .int .i64 n, .string s, .slice (some ⟨b', off', none⟩) l'.length c'] 25)) (w.heap.size + 1) #[.int .i64 k, .int .i64 n, .string s, .slice (some ⟨b', off', none⟩) l'.length c'] 25 := Box.at (by simp)
        have hB0 := below_a2 (Nat.le_refl w.heap.size) (.cells #[.int .i64 k, .int .i64 n, .string s, .slice (some ⟨b, off, none⟩) l.length c] 25) (.cells #[.int .i64 k, .int .i64 n, .string s, .slice (some ⟨b', off', none⟩) l'.length c'] 25)
        generalize (w.alloc (.cells #[.int .i64 k, .int .i64 n, .string s, .slice (some ⟨b, off, none⟩) l.length c] 25)).alloc (.cells #[.int .i64 k, .int .i64 n, .string s, .slice (some ⟨b', off', none⟩) l'.length c'] 25) = W1 at *
        go_loopw [5] (fun i wr => ∃ j : Nat, j ≤ l.length ∧ i = .int .i64 j ∧ l.take j = l'.take j ∧ Ext W1 wr) (fun i _ => l.length - (intOf i).toNat)
        case atStart => exact ⟨0, Nat.zero_le _, rfl, rfl, Ext.refl _⟩
        case round =>
          obtain ⟨j, hj, rfl, htk, hX⟩ := hrel
          have Htk := Lib.hid htk
          clear htk
          have hBw := hB0.trans (Below.mono hX hB0.size)
          have x3 := (Box.keep hX b1).cell 3
          have y3 := (Box.keep hX b2).cell 3
          have xl := (Box.keep hX b1).lt
          have yl := (Box.keep hX b2).lt
          simp only [List.getElem?_toArray, List.getElem?_cons_succ, List.getElem?_cons_zero] at x3 y3
          by_cases hlt : j < l.length
          · have hlt' : j < l'.length := by omega
            obtain ⟨tk, tn, ts, tl, ta, tc, te, c0, c1, c2, c3, ht⟩ := hl.node' hb hBw j hlt
            obtain ⟨uk, un, us, ul, ua, uc, ue, d0, d1, d2, d3, hu⟩ := hl'.node' hb' hBw j hlt'
            replace ht := ht.below hBw
            replace hu := hu.below hBw
            have Te := Lib.hid te
            have Ue := Lib.hid ue
            clear te ue
            have hbw : b < wr.heap.size := by have := hBw.size; omega
            have hbw' : b' < wr.heap.size := by have := hBw.size; omega
            by_cases heq : l[j] = l'[j]
            · have Heq : Hid (eqT l[j] l'[j] = true) := by simp [Hid, eqT, heq]
              have htk' : Hid (l.take (j + 1) = l'.take (j + 1)) := by
                unfold Hid
                rw [List.take_succ_eq_append_getElem hlt, List.take_succ_eq_append_getElem hlt', Htk.out, heq]
              clear heq Htk
              go_wp2_with fail
              apply wp_region_mono [.det _, .det _, .det _, .det _, .det _, .det _, .det _, .det _, .det _, .det _, .det _, .det _] (by kernel_rfl) (by kernel_rfl)
              rotate_left
              · iterate 10 (
                  refine wpM_step (fun K hK => ?_)
                  go_simp
                  apply And.intro
                  · intro w' hC _
                    have q1 := hC.old.1
                    have hbs := hC.old.2.2
                    clear hC
                    go_simp
                    exact ⟨Ext.refl _, rfl⟩
                  refine nextM_det (hK _ _ ?_)
                  clear hK K)
                refine wpM_step (fun K hK => ?_)
                go_simp
                apply And.intro
                · intro w' hC _
                  go_simp
                  refine ⟨Ext.refl _, (HI.out _ (List.getElem_mem hlt) _ _ _ _ (ht.up (Below.mono hC hBw.size) (Nat.le_trans hBw.size hC.old.2.2)) (hu.up (Below.mono hC hBw.size) (Nat.le_trans hBw.size hC.old.2.2))).mono ?_⟩
                  rintro e w1 ⟨rfl, hB1⟩
                  exact ⟨congrArg (fun b => Ending.returned (Value.bool b)) Heq.out, hB1⟩
                refine nextM_det (hK _ _ ?_)
                clear hK K
                iterate 1 (
                  refine wpM_step (fun K hK => ?_)
                  go_simp
                  apply And.intro
                  · intro w' hC _
                    have q1 := hC.old.1
                    have hbs := hC.old.2.2
                    clear hC
                    go_simp
                    exact ⟨Ext.refl _, rfl⟩
                  refine nextM_det (hK _ _ ?_)
                  clear hK K)
                refine wpM_nil ?_
                intro w1 hC1 _
                have hB2 := hX.trans hC1
                clear hC1 c0 c1 c2 c3 d0 d1 d2 d3 x3 y3
                go_wp2_with fail
                go_roundw
                case rel => exact ⟨j + 1, hlt, by go_num, htk'.out, hB2⟩
                case measure => simp [intOf]; omega
              · intro y hy
                simp only [List.mem_cons, List.not_mem_nil, or_false] at hy
                rcases hy with rfl | rfl | rfl | rfl | rfl | rfl | rfl | rfl | rfl | rfl | rfl | rfl <;> first | trivial
            · have Heq : Hid (eqT l[j] l'[j] = false) := by simp [Hid, eqT, heq]
              have hne : Hid (eqT (.node k n s l) (.node k n s l') = false) := by
                simp only [Hid, eqT, decide_eq_false_iff_not, Tr.node.injEq]
                rintro ⟨_, _, _, e⟩
                subst e
                exact heq rfl
              clear heq Htk
              go_wp2_with fail
              apply wp_region_mono [.det _, .det _, .det _, .det _, .det _, .det _, .det _, .det _, .det _, .det _, .det _, .det _] (by kernel_rfl) (by kernel_rfl)
              rotate_left
              · iterate 10 (
                  refine wpM_step (fun K hK => ?_)
                  go_simp
                  apply And.intro
                  · intro w' hC _
                    have q1 := hC.old.1
                    have hbs := hC.old.2.2
                    clear hC
                    go_simp
                    exact ⟨Ext.refl _, rfl⟩
                  refine nextM_det (hK _ _ ?_)
                  clear hK K)
                refine wpM_step (fun K hK => ?_)
                go_simp
                apply And.intro
                · intro w' hC _
                  go_simp
                  refine ⟨Ext.refl _, (HI.out _ (List.getElem_mem hlt) _ _ _ _ (ht.up (Below.mono hC hBw.size) (Nat.le_trans hBw.size hC.old.2.2)) (hu.up (Below.mono hC hBw.size) (Nat.le_trans hBw.size hC.old.2.2))).mono ?_⟩
                  rintro e w1 ⟨rfl, hB1⟩
                  exact ⟨congrArg (fun b => Ending.returned (Value.bool b)) Heq.out, hB1⟩
                refine nextM_det (hK _ _ ?_)
                clear hK K
                iterate 1 (
                  refine wpM_step (fun K hK => ?_)
                  go_simp
                  apply And.intro
                  · intro w' hC _
                    have q1 := hC.old.1
                    have hbs := hC.old.2.2
                    clear hC
                    go_simp
                    exact ⟨Ext.refl _, rfl⟩
                  refine nextM_det (hK _ _ ?_)
                  clear hK K)
                refine wpM_nil ?_
                intro w1 hC1 _
                have hB2 := hX.trans hC1
                clear hC1 c0 c1 c2 c3 d0 d1 d2 d3 x3 y3
                go_wp2_with fail
                go_ret
                exact ⟨retB hne.out, hB0.trans (Below.mono hB2 hB0.size)⟩
              · intro y hy
                simp only [List.mem_cons, List.not_mem_nil, or_false] at hy
                rcases hy with rfl | rfl | rfl | rfl | rfl | rfl | rfl | rfl | rfl | rfl | rfl | rfl <;> first | trivial
          · go_wp2_with fail
            go_ret
            refine ⟨retB ?_, hBw⟩
            have e : l = l' := by
              have := Htk.out
              rwa [List.take_of_length_le (by omega), List.take_of_length_le (by omega)] at this
            simp [eqT, e]
      · have e1 : l = [] := List.length_eq_zero_iff.1 (by omega)
        have e2 : l' = [] := List.length_eq_zero_iff.1 (by omega)
        subst e1 e2
        have hne : Hid (eqT (.node k n s []) (.node k n s []) = true) := by simp [Hid, eqT]
        clear h0
        simp only [List.length_nil]
        go_enter Tryd.func25, Tryd.ntmps25
        go_wp2_with fail
        refine wp_loop_rounds 1 ?_
        rw [rounds_succ]
        go_wp2_with fail
        go_ret
        exact ⟨retB hne.out, below_box2 _ _ _⟩
    · have hr : Hid (eqT (.node k n s l) (.node k' n' s' l') = false) := by
        simp only [Hid, eqT, decide_eq_false_iff_not, Tr.node.injEq]
        rintro ⟨rfl, rfl, rfl, rfl⟩
        exact htop ⟨rfl, rfl, rfl, rfl⟩
      by_cases h1 : k = k'
      · by_cases h2 : n = n'
        · by_cases h3 : s = s'
          · have h4 : (((l.length : Nat) : Int) != (l'.length : Nat)) = true := by
              simp only [bne_iff_ne]
              intro e
              exact htop ⟨h1, h2, h3, by omega⟩
            subst h1 h2 h3
            clear htop
            go_enter Tryd.func25, Tryd.ntmps25
            go_wp2_with fail
            go_ret
            exact ⟨retB hr.out, below_box2 _ _ _⟩
          · have h3' : (s.toList == s'.toList) = false := bytes_ne h3
            subst h1 h2
            clear htop h3
            go_enter Tryd.func25, Tryd.ntmps25
            go_wp2_with fail
            go_ret
            exact ⟨retB hr.out, below_box2 _ _ _⟩
        · have h2' : (n != n') = true := by simpa using h2
          subst h1
          clear htop h2
          go_enter Tryd.func25, Tryd.ntmps25
          go_wp2_with fail
          go_ret
          exact ⟨retB hr.out, below_box2 _ _ _⟩
      · have h1' : (k != k') = true := by simpa using h1
        clear htop h1
        go_enter Tryd.func25, Tryd.ntmps25
        go_wp2_with fail
        go_ret
        exact ⟨retB hr.out, below_box2 _ _ _⟩

theorem refSameAll (l l' : List Tr) (v v' : Value) (w : World) (hv : IsS w.heap.size w l v) (hu : IsS w.heap.size w l' v') :
    Calls Tryd.prog 44 #[v, v'] w fun e w' => e = .returned (.bool (eqLT l l')) ∧ Below w.heap.size w w' := by
  obtain ⟨a, c, rfl, h1, h2, h3⟩ := hv
  obtain ⟨a', c', rfl, h1', h2', h3'⟩ := hu
  exact refSameAll_any l l' a a' c c' w (Nat.le_trans h1 h2) (Nat.le_trans h1' h2') h3 h3' (fun t _ u v v' W h h' => refSame_any t u v v' W h h')
end Go.Proofs.YtckoecmdaefoiaaDoor
