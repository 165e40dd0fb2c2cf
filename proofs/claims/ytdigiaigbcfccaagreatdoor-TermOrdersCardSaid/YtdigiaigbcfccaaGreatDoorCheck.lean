import Derived.Test.YtdigiaigbcfccaaGreatDoorMeas
namespace Go.Proofs.YtdigiaigbcfccaaGreatDoor
open Go.RowKit Go

def errI (b : Bool) : Int := if b then 0 else 3
def togB (l : List Tr) : Bool := l.all isB && decide (sizeL l ≤ 4000)

theorem all_take {l : List Tr} (i : Nat) (h : i < l.length) (ha : (l.take i).all isB = true) (hi : isB l[i] = true) : (l.take (i + 1)).all isB = true := by
  rw [List.take_succ_eq_append_getElem h, List.all_append, ha]; simp [hi]
theorem all_not {l : List Tr} {i : Nat} (h : i < l.length) (hi : isB l[i] = false) : l.all isB = false := by
  rw [List.all_eq_false]; exact ⟨l[i], List.getElem_mem h, by simp [hi]⟩

set_option maxRecDepth 100000 in
set_option maxHeartbeats 1000000 in
theorem checkEach_any (l : List Tr) (a : Option Addr) (c : Nat) (w : World) (hm : l.length ≤ maxLen) (hl : IsL w.heap.size w l a) (hdp : ∀ t, t ∈ l → t.deep ≤ 999999999) :
    Calls Tryz.prog 32 #[.slice a l.length c] w fun e w' => e = .returned (.int .i64 (errI (l.all isB))) ∧ Below w.heap.size w w' := by
  unfold maxLen at hm
  have HD := Lib.hid hdp
  clear hdp
  by_cases h0 : 0 < l.length
  · obtain ⟨b, off, rfl, hb⟩ := hl.addr h0
    go_enter Tryz.func32, Tryz.ntmps32
    go_wp2_with fail
    go_loopw [9] (fun i wr => ∃ k : Nat, k ≤ l.length ∧ i = .int .i64 k ∧ (l.take k).all isB = true ∧ Below w.heap.size w wr) (fun i _ => l.length - (intOf i).toNat)
    case atStart => exact ⟨0, Nat.zero_le _, rfl, rfl, Below.refl _ _⟩
    case round =>
      obtain ⟨k, hk, rfl, hall, hB⟩ := hrel
      have Hall := Lib.hid hall
      clear hall
      by_cases hlt : k < l.length
      · obtain ⟨tk, tn, ts, tl, ta, tc, te, c0, c1, c2, c3, ht⟩ := (hl.below hB).node k hlt
        have Te := Lib.hid te
        clear te
        have hbw : b < wr.heap.size := by have := hB.size; omega
        go_wp2_with fail
        refine (measure_any l[k] _ _ (ht.up (below_a1 hB.size _) (size_a1 hB.size _)) (HD.out _ (List.getElem_mem hlt))).mono ?_
        rintro e w1 ⟨rfl, hB1⟩
        have hB2 := hB.trans ((below_a1 hB.size _).trans (hB1.mono (size_a1 hB.size _)))
        clear hB1
        cases hi : isB l[k] with
        | true =>
          have Hn := Lib.hid (all_take k hlt Hall.out hi)
          clear hi
          go_wp2_with fail
          go_roundw
          case rel => exact ⟨k + 1, hlt, by go_num, Hn.out, hB2.alloc hB2.size _⟩
          case measure => simp [intOf]; omega
        | false =>
          have Hn : Hid (errI (l.all isB) = 3) := by rw [Hid, all_not hlt hi]; rfl
          clear hi
          go_wp2_with fail
          go_ret
          exact ⟨retI Hn.out, hB2.alloc hB2.size _⟩
      · have Hn : Hid (errI (l.all isB) = 0) := by
          have := Hall.out
          rw [List.take_of_length_le (by omega)] at this
          rw [Hid, this]; rfl
        go_wp2_with fail
        go_ret
        exact ⟨retI Hn.out, hB⟩
  · have e1 : l = [] := List.length_eq_zero_iff.1 (by omega)
    subst e1
    have Hn : Hid (errI (([] : List Tr).all isB) = 0) := rfl
    clear h0
    simp only [List.length_nil]
    go_enter Tryz.func32, Tryz.ntmps32
    go_wp2_with fail
    refine wp_loop_rounds 1 ?_
    rw [rounds_succ]
    go_wp2_with fail
    go_ret
    exact ⟨retI Hn.out, Below.refl _ _⟩

set_option maxHeartbeats 1000000 in
theorem check_any (T : Tr) (v : Value) (w : World) (hT : IsT w.heap.size w T v) (hdp : T.deep ≤ 999999999) :
    Calls Tryz.prog 30 #[v] w fun e W' => e = .returned (.int .i64 (errI (isB T))) ∧ Below w.heap.size w W' := by
  cases hTc : T with
  | node k nn s ts =>
  subst hTc
  have hT' := hT
  obtain ⟨a, c, rfl, _⟩ := hT'.open
  go_enter Tryz.func30, Tryz.ntmps30
  go_wp2_with fail
  refine (checkEach_any [.node k nn s ts] (some ⟨w.heap.size + 1, 0, none⟩) 1 _ (by unfold maxLen; simp) ?_ (by simpa using hdp)).mono ?_
  · have hblk := block_at (W := w.alloc (.cells #[.int .i64 k, .int .i64 nn, .string s, .slice a ts.length c] 24)) (B := w.heap.size + 1) (o := .cells #[.int .i64 k, .int .i64 nn, .string s, .slice a ts.length c] 24) (by simp)
    exact IsL.cons (by simp) (box_cell hblk 0) (box_cell hblk 1) (box_cell hblk 2) (box_cell hblk 3) (hT.up (below_a2 (Nat.le_refl _) _ _) (by simp; omega)) IsL.nil
  rintro e w1 ⟨rfl, hB1⟩
  have hB2 := (below_a2 (Nat.le_refl _) _ _).trans (hB1.mono (size_a2 (Nat.le_refl _) _ _))
  clear hB1
  go_wp2_with fail
  go_ret
  exact ⟨rfl, hB2⟩

theorem sizeL_take {l : List Tr} (i : Nat) (h : i < l.length) : sizeL (l.take (i + 1)) = sizeL (l.take i) + l[i].size := by
  rw [List.take_succ_eq_append_getElem h, sizeL_append]; simp [sizeL]
theorem sizeL_take_le {l : List Tr} (i : Nat) : sizeL (l.take i) ≤ sizeL l := by
  have e : l = l.take i ++ l.drop i := by simp
  conv => rhs; rw [e]
  rw [sizeL_append]; omega

set_option maxRecDepth 100000 in
set_option maxHeartbeats 1000000 in
theorem checkAll_any (l : List Tr) (a : Option Addr) (c : Nat) (w : World) (hm : l.length ≤ maxLen) (hl : IsL w.heap.size w l a) (hdp : ∀ t, t ∈ l → t.deep ≤ 999999999) :
    Calls Tryz.prog 36 #[.slice a l.length c] w fun e w' => e = .returned (.int .i64 (errI (togB l))) ∧ Below w.heap.size w w' := by
  unfold maxLen at hm
  have HD := Lib.hid hdp
  clear hdp
  by_cases h0 : 0 < l.length
  · obtain ⟨b, off, rfl, hb⟩ := hl.addr h0
    go_enter Tryz.func36, Tryz.ntmps36
    go_wp2_with fail
    go_loopw [3, 10] (fun t i wr => ∃ k : Nat, k ≤ l.length ∧ i = .int .i64 k ∧ t = .int .i64 (sizeL (l.take k)) ∧ sizeL (l.take k) ≤ 4000 ∧ (l.take k).all isB = true ∧ Below w.heap.size w wr) (fun _ i _ => l.length - (intOf i).toNat)
    case atStart => exact ⟨0, Nat.zero_le _, rfl, rfl, by simp [sizeL], rfl, Below.refl _ _⟩
    case round =>
      obtain ⟨k, hk, rfl, rfl, hcnt, hall, hB⟩ := hrel
      have Hall := Lib.hid hall
      clear hall
      by_cases hlt : k < l.length
      · obtain ⟨tk, tn, ts, tl, ta, tc, te, c0, c1, c2, c3, ht⟩ := (hl.below hB).node k hlt
        have Te := Lib.hid te
        clear te
        have hbw : b < wr.heap.size := by have := hB.size; omega
        go_wp2_with fail
        refine (measure_any l[k] _ _ (ht.up (below_a1 hB.size _) (size_a1 hB.size _)) (HD.out _ (List.getElem_mem hlt))).mono ?_
        rintro e w1 ⟨rfl, hB1⟩
        have hB2 := hB.trans ((below_a1 hB.size _).trans (hB1.mono (size_a1 hB.size _)))
        clear hB1
        cases hi : isB l[k] with
        | true =>
          have hmN : measN l[k] = (l[k].size : Nat) := by simp [measN, hi]
          rw [hmN]
          have hsk : l[k].size ≤ 4000 := by
            simp [isB] at hi; exact hi.1.1
          have Hn := Lib.hid (all_take k hlt Hall.out hi)
          have Hs := Lib.hid (sizeL_take k hlt)
          clear hi hmN
          by_cases hbig : sizeL (l.take k) + l[k].size ≤ 4000
          · go_wp2_with fail
            go_roundw
            case rel => exact ⟨k + 1, hlt, by go_num, by rw [Hs.out]; go_num, by rw [Hs.out]; exact hbig, Hn.out, hB2.alloc hB2.size _⟩
            case measure => simp [intOf]; omega
          · have Hr : Hid (errI (togB l) = 3) := by
              have h1 := sizeL_take_le (l := l) (k + 1)
              rw [Hs.out] at h1
              have : ¬ sizeL l ≤ 4000 := by omega
              simp [Hid, togB, this, errI]
            go_wp2_with fail
            go_ret
            exact ⟨retI Hr.out, hB2.alloc hB2.size _⟩
        | false =>
          have hmN : measN l[k] = 0 := by simp [measN, hi]
          rw [hmN]
          have Hn : Hid (errI (togB l) = 3) := by rw [Hid, togB, all_not hlt hi]; rfl
          clear hi hmN
          go_wp2_with fail
          go_ret
          exact ⟨retI Hn.out, hB2.alloc hB2.size _⟩
      · have Hn : Hid (errI (togB l) = 0) := by
          have := Hall.out
          rw [List.take_of_length_le (by omega)] at this hcnt
          simp [Hid, togB, this, hcnt, errI]
        go_wp2_with fail
        go_ret
        exact ⟨retI Hn.out, hB⟩
  · have e1 : l = [] := List.length_eq_zero_iff.1 (by omega)
    subst e1
    have Hn : Hid (errI (togB []) = 0) := by simp [Hid, togB, sizeL, errI]
    clear h0
    simp only [List.length_nil]
    go_enter Tryz.func36, Tryz.ntmps36
    go_wp2_with fail
    refine wp_loop_rounds 1 ?_
    rw [rounds_succ]
    go_wp2_with fail
    go_ret
    exact ⟨retI Hn.out, Below.refl _ _⟩

end Go.Proofs.YtdigiaigbcfccaaGreatDoor
