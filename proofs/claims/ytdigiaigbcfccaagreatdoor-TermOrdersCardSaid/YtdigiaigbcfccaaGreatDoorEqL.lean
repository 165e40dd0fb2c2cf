import Derived.Test.YtdigiaigbcfccaaGreatDoorMaps
import Derived.Test.YtdigiaigbcfccaaGreatDoorShelf
namespace Go.Proofs.YtdigiaigbcfccaaGreatDoor
open Go.RowKit Go

/-- v is a slice of these numbers, below n₀. -/
def RdN (n₀ : Nat) (W : World) (ns : List Int) (v : Value) : Prop := ∃ (a : Option Addr) (c : Nat), v = .slice a ns.length c ∧ ns.length ≤ maxLen ∧ (0 < ns.length → ∃ b off, a = some ⟨b, off, none⟩ ∧ b < n₀ ∧ ∀ j, j < ns.length → W.cell? ⟨b, off + j, none⟩ = some (.int .i64 (ns.getD j 0)))
theorem RdN.keep {n₀ n₁ : Nat} {A B : World} {ns : List Int} {v : Value} (h : RdN n₀ A ns v) (hb : Below n₀ A B) (hn : n₀ ≤ n₁) : RdN n₁ B ns v := by
  obtain ⟨a, c, e, h1, h2⟩ := h
  refine ⟨a, c, e, h1, fun h0 => ?_⟩
  obtain ⟨b, off, e2, h3, h4⟩ := h2 h0
  exact ⟨b, off, e2, by omega, fun j hj => (hb.cell (p := ⟨b, off + j, none⟩) h3).trans (h4 j hj)⟩
theorem Nums.rd {base : Nat} {W : World} {ns : List Int} {v : Value} (h : Nums base W v ns) : RdN W.heap.size W ns v := by
  rcases h.open with ⟨rfl, rfl⟩ | ⟨g, cap, cur, rfl, h1, h2, h3, h4, h5, h6⟩
  · exact ⟨none, 0, rfl, by simp, fun h => by simp at h⟩
  · refine ⟨_, cap, rfl, Nat.le_trans h3 h4, fun _ => ⟨g, 0, rfl, h2.lt, fun j hj => ?_⟩⟩
    rw [Nat.zero_add]
    exact (h2.cell j).trans (take_get h6 hj)

set_option maxHeartbeats 1000000 in
theorem equalN_any (xs ys : List Int) (v u : Value) (w : World) (hx : RdN w.heap.size w xs v) (hy : RdN w.heap.size w ys u) :
    Calls Tryz.prog 12 #[v, u] w fun e w' => e = .returned (.bool (decide (xs = ys))) ∧ Below w.heap.size w w' := by
  obtain ⟨a, c, rfl, h1, h2⟩ := hx
  obtain ⟨a', c', rfl, h3, h4⟩ := hy
  unfold maxLen at h1 h3
  by_cases hl : xs.length = ys.length
  · by_cases h0 : 0 < xs.length
    · obtain ⟨b, off, rfl, hb, hc⟩ := h2 h0
      obtain ⟨b', off', rfl, hb', hc'⟩ := h4 (by omega)
      refine (Tryz.slices_Equal_int b off xs.length c b' off' ys.length c' xs ys w (Nat.le_refl _) (Nat.le_refl _) (by omega) (by omega) hc hc').mono ?_
      rintro e w' ⟨rfl, q, rfl⟩
      refine ⟨?_, ?_⟩
      · rw [List.take_length, List.take_length]
        congr 2
        rw [Bool.eq_iff_iff]
        simp
      · exact ⟨rfl, rfl, rfl, Nat.le_refl _, fun _ _ => rfl⟩
    · have hx0 : xs = [] := List.length_eq_zero_iff.1 (by omega)
      have hy0 : ys = [] := List.length_eq_zero_iff.1 (by omega)
      subst hx0 hy0
      refine (Tryz.slices_Equal_int_empty a a' c 0 c' w (by omega)).mono ?_
      rintro e w' ⟨rfl, rfl⟩
      exact ⟨rfl, Below.refl _ _⟩
  · refine (Tryz.slices_Equal_int_lens a a' xs.length c ys.length c' w hl).mono ?_
    rintro e w' ⟨rfl, rfl⟩
    refine ⟨?_, Below.refl _ _⟩
    have : ¬ xs = ys := fun e => hl (by rw [e])
    rw [decide_eq_false this]

/-- v is a slice of slices of these numbers. -/
def RdNN (n₀ : Nat) (W : World) (ls : List (List Int)) (v : Value) : Prop := ∃ (a : Option Addr) (c : Nat), v = .slice a ls.length c ∧ ls.length ≤ maxLen ∧ (0 < ls.length → ∃ b off, a = some ⟨b, off, none⟩ ∧ b < n₀ ∧ ∀ j (hj : j < ls.length), ∃ u, W.cell? ⟨b, off + j, none⟩ = some u ∧ RdN n₀ W ls[j] u)

set_option maxRecDepth 100000 in
set_option maxHeartbeats 1000000 in
theorem equalNN_any (xs ys : List (List Int)) (v u : Value) (w : World) (hx : RdNN w.heap.size w xs v) (hy : RdNN w.heap.size w ys u) :
    Calls Tryz.prog 24 #[v, u, .func (.func 12) #[] #[]] w fun e w' => e = .returned (.bool (decide (xs = ys))) ∧ Below w.heap.size w w' := by
  obtain ⟨a, c, rfl, h1, h2⟩ := hx
  obtain ⟨a', c', rfl, h3, h4⟩ := hy
  unfold maxLen at h1 h3
  by_cases hlen : xs.length = ys.length
  · have hle : (((xs.length : Nat) : Int) != (ys.length : Nat)) = false := by simp [hlen]
    have H := Lib.hid hlen
    have H2 := Lib.hid h2
    have H4 := Lib.hid h4
    clear hlen h2 h4
    by_cases h0 : 0 < xs.length
    · go_enter Tryz.func24, Tryz.ntmps24
      go_wp2_with fail
      go_loopw [17] (fun i wr => ∃ k : Nat, k ≤ xs.length ∧ i = .int .i64 k ∧ xs.take k = ys.take k ∧ Below w.heap.size w wr) (fun i _ => xs.length - (intOf i).toNat)
      case atStart => exact ⟨0, Nat.zero_le _, rfl, rfl, Below.refl _ _⟩
      case round =>
        obtain ⟨k, hk, rfl, htk, hB⟩ := hrel
        have Htk := Lib.hid htk
        clear htk
        by_cases hlt : k < xs.length
        · have hlt' : k < ys.length := by have := H.out; omega
          obtain ⟨b, off, rfl, hb, hc⟩ := H2.out h0
          obtain ⟨b', off', rfl, hb', hc'⟩ := H4.out (by omega)
          obtain ⟨p, c0, hp⟩ := hc k hlt
          obtain ⟨q, d0, hq⟩ := hc' k hlt'
          replace c0 := (hB.cell (p := ⟨b, off + k, none⟩) hb).trans c0
          replace d0 := (hB.cell (p := ⟨b', off' + k, none⟩) hb').trans d0
          have hbw : b < wr.heap.size := by have := hB.size; omega
          have hbw' : b' < wr.heap.size := by have := hB.size; omega
          have HP := Lib.hid (And.intro hp hq)
          obtain ⟨pa, pc, rfl, _⟩ := hp
          obtain ⟨qa, qc, rfl, _⟩ := hq
          clear hc hc'
          by_cases heq : xs[k] = ys[k]
          · have Heq : Hid (decide (xs[k] = ys[k]) = true) := by simpa [Hid] using heq
            have htk' : Hid (xs.take (k + 1) = ys.take (k + 1)) := by
              unfold Hid
              rw [List.take_succ_eq_append_getElem hlt, List.take_succ_eq_append_getElem hlt', Htk.out, heq]
            clear heq Htk
            go_wp2_with fail
            refine (equalN_any _ _ _ _ wr (HP.out.1.keep hB hB.size) (HP.out.2.keep hB hB.size)).mono ?_
            rintro e w1 ⟨rfl, hB1⟩
            rw [Heq.out]
            have hB2 := hB.trans (hB1.mono hB.size)
            clear hB1
            go_wp2_with fail
            go_roundw
            case rel => exact ⟨k + 1, hlt, by go_num, htk'.out, hB2⟩
            case measure => simp [intOf]; omega
          · have Heq : Hid (decide (xs[k] = ys[k]) = false) := by simpa [Hid] using heq
            have Hne : Hid (decide (xs = ys) = false) := by
              rw [Hid, decide_eq_false_iff_not]
              intro e
              subst e
              exact heq rfl
            clear heq Htk
            go_wp2_with fail
            refine (equalN_any _ _ _ _ wr (HP.out.1.keep hB hB.size) (HP.out.2.keep hB hB.size)).mono ?_
            rintro e w1 ⟨rfl, hB1⟩
            rw [Heq.out]
            have hB2 := hB.trans (hB1.mono hB.size)
            clear hB1
            go_wp2_with fail
            go_ret
            exact ⟨retB Hne.out, hB2⟩
        · have Heq : Hid (decide (xs = ys) = true) := by
            have := Htk.out
            rw [List.take_of_length_le (by omega), List.take_of_length_le (by have := H.out; omega)] at this
            simpa [Hid] using this
          go_wp2_with fail
          go_ret
          exact ⟨retB Heq.out, hB⟩
    · have hx0 : xs = [] := List.length_eq_zero_iff.1 (by omega)
      subst hx0
      have hy0 : ys = [] := List.length_eq_zero_iff.1 (by have := H.out; simp at this; omega)
      subst hy0
      clear h0 H2 H4
      simp only [List.length_nil] at hle ⊢
      go_enter Tryz.func24, Tryz.ntmps24
      go_wp2_with fail
      refine wp_loop_rounds 1 ?_
      rw [rounds_succ]
      go_wp2_with fail
      go_ret
      exact ⟨rfl, Below.refl _ _⟩
  · have hle : (((xs.length : Nat) : Int) != (ys.length : Nat)) = true := by simpa using (by omega : ¬ ((xs.length : Nat) : Int) = (ys.length : Nat))
    have Hne : Hid (decide (xs = ys) = false) := by
      rw [Hid, decide_eq_false_iff_not]
      intro e
      exact hlen (by rw [e])
    clear hlen h2 h4
    go_enter Tryz.func24, Tryz.ntmps24
    go_wp2_with fail
    go_ret
    exact ⟨retB Hne.out, Below.refl _ _⟩
end Go.Proofs.YtdigiaigbcfccaaGreatDoor
