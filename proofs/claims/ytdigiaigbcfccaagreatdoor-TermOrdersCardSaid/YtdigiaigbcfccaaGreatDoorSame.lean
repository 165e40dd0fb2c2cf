import Derived.Test.YtdigiaigbcfccaaGreatDoorTr
namespace Go.Proofs.YtdigiaigbcfccaaGreatDoor
open Go.RowKit Go
open Classical

noncomputable def eqT (T U : Tr) : Bool := decide (T = U)
noncomputable def eqLT (l l' : List Tr) : Bool := decide (l = l')

set_option maxHeartbeats 400000 in
theorem equalFunc_any (l l' : List Tr) (a a' : Option Addr) (c c' : Nat) (w : World) (hm : l.length ≤ maxLen) (hm' : l'.length ≤ maxLen)
    (hl : IsL w.heap.size w l a) (hl' : IsL w.heap.size w l' a')
    (hS : ∀ t, t ∈ l → ∀ (u : Tr) (v v' : Value) (W : World), IsT W.heap.size W t v → IsT W.heap.size W u v' →
      Calls Tryz.prog 81 #[v, v'] W fun e w' => e = .returned (.bool (eqT t u)) ∧ Below W.heap.size W w') :
    Calls Tryz.prog 94 #[.slice a l.length c, .slice a' l'.length c', .func (.func 81) #[] #[]] w
      fun e w' => e = .returned (.bool (eqLT l l')) ∧ Below w.heap.size w w' := by
  unfold maxLen at hm hm'
  by_cases hlen : l.length = l'.length
  · by_cases h0 : 0 < l.length
    · obtain ⟨b, off, rfl, hb⟩ := hl.addr h0
      obtain ⟨b', off', rfl, hb'⟩ := hl'.addr (by omega)
      have hle : (((l.length : Nat) : Int) != (l'.length : Nat)) = false := by simp [hlen]
      have H := Lib.hid hlen
      have HS := Lib.hid hS
      clear hlen hS
      go_enter Tryz.func94, Tryz.ntmps94
      go_wp2_with fail
      go_outline
      go_loopw [17] (fun i wr => ∃ k : Nat, k ≤ l.length ∧ i = .int .i64 k ∧ l.take k = l'.take k ∧ Below w.heap.size w wr) (fun i _ => l.length - (intOf i).toNat)
      case atStart => exact ⟨0, Nat.zero_le _, rfl, rfl, Below.refl _ _⟩
      case round =>
        obtain ⟨k, hk, rfl, htk, hB⟩ := hrel
        have Htk := Lib.hid htk
        clear htk
        by_cases hlt : k < l.length
        · have hlt' : k < l'.length := by have := H.out; omega
          obtain ⟨tk, tn, ts, tl, ta, tc, te, c0, c1, c2, c3, ht⟩ := (hl.below hB).node k hlt
          obtain ⟨uk, un, us, ul, ua, uc, ue, d0, d1, d2, d3, hu⟩ := (hl'.below hB).node k hlt'
          have Te := Lib.hid te
          have Ue := Lib.hid ue
          clear te ue
          have hbw : b < wr.heap.size := by have := hB.size; omega
          have hbw' : b' < wr.heap.size := by have := hB.size; omega
          by_cases heq : l[k] = l'[k]
          · have Heq : Hid (eqT l[k] l'[k] = true) := by simp [Hid, eqT, heq]
            have htk' : Hid (l.take (k + 1) = l'.take (k + 1)) := by
              unfold Hid
              rw [List.take_succ_eq_append_getElem hlt, List.take_succ_eq_append_getElem hlt', Htk.out, heq]
            clear heq Htk
            go_wp2_with fail
            refine (HS.out _ (List.getElem_mem hlt) _ _ _ _ (ht.up (below_a2 hB.size _ _) (size_a2 hB.size _ _)) (hu.up (below_a2 hB.size _ _) (size_a2 hB.size _ _))).mono ?_
            rintro e w1 ⟨rfl, hB1⟩
            rw [Heq.out]
            have hB2 := hB.trans ((below_a2 hB.size _ _).trans (hB1.mono (size_a2 hB.size _ _)))
            clear hB1
            go_wp2_with fail
            go_roundw
            case rel => exact ⟨k + 1, hlt, by go_num, htk'.out, hB2⟩
            case measure => simp [intOf]; omega
          · have Heq : Hid (eqT l[k] l'[k] = false) := by simp [Hid, eqT, heq]
            have hne : Hid (eqLT l l' = false) := by
              simp only [Hid, eqLT, decide_eq_false_iff_not]
              intro e
              subst e
              exact heq rfl
            clear heq Htk
            go_wp2_with fail
            refine (HS.out _ (List.getElem_mem hlt) _ _ _ _ (ht.up (below_a2 hB.size _ _) (size_a2 hB.size _ _)) (hu.up (below_a2 hB.size _ _) (size_a2 hB.size _ _))).mono ?_
            rintro e w1 ⟨rfl, hB1⟩
            rw [Heq.out]
            have hB2 := hB.trans ((below_a2 hB.size _ _).trans (hB1.mono (size_a2 hB.size _ _)))
            clear hB1
            go_wp2_with fail
            go_ret
            exact ⟨retB hne.out, hB2⟩
        · have hlt' : ¬ k < l'.length := by have := H.out; omega
          go_wp2_with fail
          go_ret
          refine ⟨?_, hB⟩
          have e : l = l' := by
            have := Htk.out
            rwa [List.take_of_length_le (by omega), List.take_of_length_le (by omega)] at this
          simp [eqLT, e]
    · have e1 : l = [] := List.length_eq_zero_iff.1 (by omega)
      have e2 : l' = [] := List.length_eq_zero_iff.1 (by omega)
      subst e1 e2
      have hne : Hid (eqLT [] [] = true) := by simp [Hid, eqLT]
      clear hS hlen h0
      simp only [List.length_nil]
      go_enter Tryz.func94, Tryz.ntmps94
      go_wp2_with fail
      refine wp_loop_rounds 1 ?_
      rw [rounds_succ]
      go_wp2_with fail
      go_ret
      exact ⟨retB hne.out, Below.refl _ _⟩
  · have hle : (((l.length : Nat) : Int) != (l'.length : Nat)) = true := by simp; omega
    have hne : Hid (eqLT l l' = false) := by
      simp only [Hid, eqLT, decide_eq_false_iff_not]
      intro e
      subst e
      exact hlen rfl
    clear hS hlen
    go_enter Tryz.func94, Tryz.ntmps94
    go_wp2_with fail
    go_ret
    exact ⟨retB hne.out, Below.refl _ _⟩

set_option maxHeartbeats 400000 in
theorem same_any (T : Tr) : ∀ (U : Tr) (v u : Value) (w : World), IsT w.heap.size w T v → IsT w.heap.size w U u →
    Calls Tryz.prog 81 #[v, u] w fun e w' => e = .returned (.bool (eqT T U)) ∧ Below w.heap.size w w' := by
  induction T using Tr.ind with
  | h k n s l ih =>
    intro U v u w hv hu
    cases U with
    | node k' n' s' l' =>
    obtain ⟨a, c, rfl, _, _, _, hlc, hcm, hl⟩ := hv.open
    obtain ⟨a', c', rfl, _, _, _, hlc', hcm', hl'⟩ := hu.open
    have HI := Lib.hid ih
    clear ih hv hu
    cases htop : topB k n s l.length k' n' s' l'.length with
    | true =>
      have hr : Hid (eqLT l l' = eqT (.node k n s l) (.node k' n' s' l')) := by
        have : k = k' ∧ n = n' ∧ s = s' ∧ l.length = l'.length := by simpa [topB] using htop
        obtain ⟨rfl, rfl, rfl, _⟩ := this
        simp [Hid, eqLT, eqT]
      have Ht := Lib.hid htop
      clear htop
      go_enter Tryz.func81, Tryz.ntmps81
      go_wp2_with fail
      refine (sameTop_any k n s l.length k' n' s' l'.length a a' c c' _).mono ?_
      rintro e w1 ⟨rfl, hB1⟩
      rw [Ht.out]
      have hB2 := (below_a2 (Nat.le_refl w.heap.size) _ _).trans (hB1.mono (size_a2 (Nat.le_refl w.heap.size) _ _))
      obtain ⟨q1, q2⟩ := bcell hB1
      go_wp2_with fail
      refine (equalFunc_any l l' a a' c c' _ (Nat.le_trans hlc hcm) (Nat.le_trans hlc' hcm') (hl.up hB2 hB2.size) (hl'.up hB2 hB2.size) (fun t ht u v v' W h1 h2 => HI.out t ht u v v' W h1 h2)).mono ?_
      rintro e w2 ⟨rfl, hB3⟩
      clear q1 q2
      go_wp2_with fail
      go_ret
      exact ⟨retB hr.out.symm, hB2.trans (hB3.mono hB2.size)⟩
    | false =>
      have hr : Hid (eqT (.node k n s l) (.node k' n' s' l') = false) := by
        have : ¬ (k = k' ∧ n = n' ∧ s = s' ∧ l.length = l'.length) := by simpa [topB] using htop
        simp only [Hid, eqT, decide_eq_false_iff_not, Tr.node.injEq]
        rintro ⟨rfl, rfl, rfl, rfl⟩
        exact this ⟨rfl, rfl, rfl, rfl⟩
      have Ht := Lib.hid htop
      clear htop
      go_enter Tryz.func81, Tryz.ntmps81
      go_wp2_with fail
      refine (sameTop_any k n s l.length k' n' s' l'.length a a' c c' _).mono ?_
      rintro e w1 ⟨rfl, hB1⟩
      rw [Ht.out]
      have hB2 := (below_a2 (Nat.le_refl w.heap.size) _ _).trans (hB1.mono (size_a2 (Nat.le_refl w.heap.size) _ _))
      obtain ⟨q1, q2⟩ := bcell hB1
      go_wp2_with fail
      go_ret
      exact ⟨retB hr.out, hB2⟩

end Go.Proofs.YtdigiaigbcfccaaGreatDoor
