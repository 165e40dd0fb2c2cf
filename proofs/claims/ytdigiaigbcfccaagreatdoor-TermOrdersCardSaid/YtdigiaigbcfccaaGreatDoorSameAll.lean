import Derived.Test.YtdigiaigbcfccaaGreatDoorSame
import Derived.Test.YtdigiaigbcfccaaGreatDoorMono
namespace Go.Proofs.YtdigiaigbcfccaaGreatDoor
open Go.RowKit Go
open Classical
attribute [local go_sem] monoUpon Yld.says

set_option maxRecDepth 100000 in
set_option maxHeartbeats 400000 in
theorem refSameAll_any (l l' : List Tr) (a a' : Option Addr) (c c' : Nat) (w : World) (hm : l.length ≤ maxLen) (hm' : l'.length ≤ maxLen)
    (hl : IsL w.heap.size w l a) (hl' : IsL w.heap.size w l' a')
    (hS : ∀ t, t ∈ l → ∀ (u : Tr) (v v' : Value) (W : World), IsT W.heap.size W t v → IsT W.heap.size W u v' →
      Calls Tryz.prog 25 #[v, v'] W fun e w' => e = .returned (.bool (eqT t u)) ∧ Below W.heap.size W w') :
    Calls Tryz.prog 29 #[.slice a l.length c, .slice a' l'.length c'] w
      fun e w' => e = .returned (.bool (eqLT l l')) ∧ Below w.heap.size w w' := by
  unfold maxLen at hm hm'
  by_cases hlen : l.length = l'.length
  · by_cases h0 : 0 < l.length
    · obtain ⟨b, off, rfl, hb⟩ := hl.addr h0
      obtain ⟨b', off', rfl, hb'⟩ := hl'.addr (by omega)
      have hle : (((l.length : Nat) : Int) != (l'.length : Nat)) = false := by simp [hlen]
      have H := Lib.hid hlen
      have HS := Lib.hid hS
      clear hlen hS
      go_enter Tryz.func29, Tryz.ntmps29
      go_wp2_with fail
      go_loopw [5] (fun i wr => ∃ k : Nat, k ≤ l.length ∧ i = .int .i64 k ∧ l.take k = l'.take k ∧ Below w.heap.size w wr) (fun i _ => l.length - (intOf i).toNat)
      case atStart => exact ⟨0, Nat.zero_le _, rfl, rfl, Below.refl _ _⟩
      case round =>
        obtain ⟨k, hk, rfl, htk, hB⟩ := hrel
        have Htk := Lib.hid htk
        clear htk
        by_cases hlt : k < l.length
        · have hlt' : k < l'.length := by have := H.out; omega
          obtain ⟨tk, tn, ts, tl, ta, tc, te, c0, c1, c2, c3, ht⟩ := (hl.below hB).node k hlt
          obtain ⟨uk, un, us, ul, ua, uc, ue, d0, d1, d2, d3, hu⟩ := (hl'.below hB).node k hlt'
          have Te := Lib.hid te
          have Ue := Lib.hid ue
          clear te ue
          have hbw : b < wr.heap.size := by have := hB.size; omega
          have hbw' : b' < wr.heap.size := by have := hB.size; omega
          by_cases heq : l[k] = l'[k]
          · have Heq : Hid (eqT l[k] l'[k] = true) := by simp [Hid, eqT, heq]
            have htk' : Hid (l.take (k + 1) = l'.take (k + 1)) := by
              unfold Hid
              rw [List.take_succ_eq_append_getElem hlt, List.take_succ_eq_append_getElem hlt', Htk.out, heq]
            clear heq Htk
            go_wp2_with fail
            apply wp_region_mono [.det _, .det _, .det _, .det _, .det _, .det _, .det _, .det _, .det _, .det _] (by kernel_rfl) (by kernel_rfl)
            rotate_left
            · iterate 8 (
                refine wpM_step (fun K hK => ?_)
                go_simp
                apply And.intro
                · intro w' hC _
                  have q1 := hC.old.1
                  have hbs := hC.old.2.2
                  clear hC
                  go_simp
                  exact ⟨Ext.refl _, rfl⟩
                refine nextM_det (hK _ _ ?_)
                clear hK K)
              refine wpM_step (fun K hK => ?_)
              go_simp
              apply And.intro
              · intro w' hC _
                go_simp
                refine ⟨Ext.refl _, (HS.out _ (List.getElem_mem hlt) _ _ _ _ (ht.up (Below.mono hC hB.size) (Nat.le_trans hB.size hC.old.2.2)) (hu.up (Below.mono hC hB.size) (Nat.le_trans hB.size hC.old.2.2))).mono ?_⟩
                rintro e w1 ⟨rfl, hB1⟩
                exact ⟨congrArg (fun b => Ending.returned (Value.bool b)) Heq.out, hB1⟩
              refine nextM_det (hK _ _ ?_)
              clear hK K
              refine wpM_step (fun K hK => ?_)
              go_simp
              apply And.intro
              · intro w' hC _
                go_simp
                exact ⟨Ext.refl _, rfl⟩
              refine nextM_det (hK _ _ ?_)
              clear hK K
              refine wpM_nil ?_
              intro w1 hC1 _
              have hB2 := hB.trans (Below.mono hC1 hB.size)
              clear hC1
              go_wp2_with fail
              go_roundw
              case rel => exact ⟨k + 1, hlt, by go_num, htk'.out, hB2⟩
              case measure => simp [intOf]; omega
            · intro y hy
              simp only [List.mem_cons, List.not_mem_nil, or_false] at hy
              rcases hy with rfl | rfl | rfl | rfl | rfl | rfl | rfl | rfl | rfl | rfl <;> trivial
          · have Heq : Hid (eqT l[k] l'[k] = false) := by simp [Hid, eqT, heq]
            have hne : Hid (eqLT l l' = false) := by
              simp only [Hid, eqLT, decide_eq_false_iff_not]
              intro e
              subst e
              exact heq rfl
            clear heq Htk
            go_wp2_with fail
            apply wp_region_mono [.det _, .det _, .det _, .det _, .det _, .det _, .det _, .det _, .det _, .det _] (by kernel_rfl) (by kernel_rfl)
            rotate_left
            · iterate 8 (
                refine wpM_step (fun K hK => ?_)
                go_simp
                apply And.intro
                · intro w' hC _
                  have q1 := hC.old.1
                  have hbs := hC.old.2.2
                  clear hC
                  go_simp
                  exact ⟨Ext.refl _, rfl⟩
                refine nextM_det (hK _ _ ?_)
                clear hK K)
              refine wpM_step (fun K hK => ?_)
              go_simp
              apply And.intro
              · intro w' hC _
                go_simp
                refine ⟨Ext.refl _, (HS.out _ (List.getElem_mem hlt) _ _ _ _ (ht.up (Below.mono hC hB.size) (Nat.le_trans hB.size hC.old.2.2)) (hu.up (Below.mono hC hB.size) (Nat.le_trans hB.size hC.old.2.2))).mono ?_⟩
                rintro e w1 ⟨rfl, hB1⟩
                exact ⟨congrArg (fun b => Ending.returned (Value.bool b)) Heq.out, hB1⟩
              refine nextM_det (hK _ _ ?_)
              clear hK K
              refine wpM_step (fun K hK => ?_)
              go_simp
              apply And.intro
              · intro w' hC _
                go_simp
                exact ⟨Ext.refl _, rfl⟩
              refine nextM_det (hK _ _ ?_)
              clear hK K
              refine wpM_nil ?_
              intro w1 hC1 _
              have hB2 := hB.trans (Below.mono hC1 hB.size)
              clear hC1
              go_wp2_with fail
              go_ret
              exact ⟨retB hne.out, hB2⟩
            · intro y hy
              simp only [List.mem_cons, List.not_mem_nil, or_false] at hy
              rcases hy with rfl | rfl | rfl | rfl | rfl | rfl | rfl | rfl | rfl | rfl <;> trivial
        · have hlt' : ¬ k < l'.length := by have := H.out; omega
          go_wp2_with fail
          go_ret
          refine ⟨?_, hB⟩
          have e : l = l' := by
            have := Htk.out
            rwa [List.take_of_length_le (by omega), List.take_of_length_le (by omega)] at this
          simp [eqLT, e]
    · have e1 : l = [] := List.length_eq_zero_iff.1 (by omega)
      have e2 : l' = [] := List.length_eq_zero_iff.1 (by omega)
      subst e1 e2
      have hne : Hid (eqLT [] [] = true) := by simp [Hid, eqLT]
      clear hS hlen h0
      simp only [List.length_nil]
      go_enter Tryz.func29, Tryz.ntmps29
      go_wp2_with fail
      refine wp_loop_rounds 1 ?_
      rw [rounds_succ]
      go_wp2_with fail
      go_ret
      exact ⟨retB hne.out, Below.refl _ _⟩
  · have hle : (((l.length : Nat) : Int) != (l'.length : Nat)) = true := by simp; omega
    have hne : Hid (eqLT l l' = false) := by
      simp only [Hid, eqLT, decide_eq_false_iff_not]
      intro e
      subst e
      exact hlen rfl
    clear hS hlen
    go_enter Tryz.func29, Tryz.ntmps29
    go_wp2_with fail
    go_ret
    exact ⟨retB hne.out, Below.refl _ _⟩
end Go.Proofs.YtdigiaigbcfccaaGreatDoor
