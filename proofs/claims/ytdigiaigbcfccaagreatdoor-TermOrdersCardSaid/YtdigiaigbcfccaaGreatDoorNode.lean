import Derived.Test.YtdigiaigbcfccaaGreatDoorSize
namespace Go.Proofs.YtdigiaigbcfccaaGreatDoor
open Go.RowKit Go

def byteB (c : UInt8) : Bool := decide (32 ≤ c.toNat) && decide (c.toNat ≤ 126)
def nameB (s : ByteArray) : Bool := decide (1 ≤ s.size) && decide (s.size ≤ 32) && s.data.toList.all byteB

def nodeB (k n : Int) (s : ByteArray) (len : Nat) : Bool :=
  if k = 1 then decide (0 ≤ n) && decide (n < 100000) && decide (s.toList = []) && decide (len = 0)
  else if k = 2 then decide (-2147483647 ≤ n) && decide (n ≤ 2147483647) && decide (s.toList = []) && decide (len = 0)
  else if k = 3 then decide (n = 0) && nameB s && decide (len = 0)
  else if k = 4 then decide (n = 0) && decide (s.size ≤ 255) && decide (len = 0)
  else if k = 5 then decide (n = 0) && nameB s && decide (1 ≤ len) && decide (len ≤ 16)
  else if k = 6 then decide (n = 0) && decide (s.toList = []) && decide (len ≤ 64)
  else false

theorem fits_any (n d : Int) (w : World) : Calls Tryz.prog 50 #[.agg #[.int .i64 n, .int .i64 d]] w fun e w' => e = .returned (.bool (decide (n ≤ 4000) && decide (d ≤ 600))) ∧ Below w.heap.size w w' := by
  go_enter Tryz.func50, Tryz.ntmps50
  go_wp2_with fail
  all_goals
    go_ret
    refine ⟨retB ?_, below_box1 _ _⟩
    simp [*]
    try omega

theorem all_take_succ (l : List UInt8) (k : Nat) (h : k < l.length) : (l.take (k + 1)).all byteB = ((l.take k).all byteB && byteB l[k]) := by
  rw [List.take_succ_eq_append_getElem h, List.all_append]; simp
theorem all_false {l : List UInt8} {k : Nat} (h : k < l.length) (hb : byteB l[k] = false) : l.all byteB = false := by
  rw [List.all_eq_false]
  exact ⟨l[k], List.getElem_mem h, by simp [hb]⟩

set_option maxHeartbeats 1000000 in
theorem isName_any (s : ByteArray) (hs : s.size ≤ maxLen) (w : World) : Calls Tryz.prog 96 #[.string s] w fun e w' => e = .returned (.bool (nameB s)) ∧ w' = w := by
  unfold maxLen at hs
  by_cases h1 : 1 ≤ s.size
  · by_cases h2 : s.size ≤ 32
    · have hn : Hid (nameB s = s.data.toList.all byteB) := by simp [Hid, nameB, h1, h2]
      go_enter Tryz.func96, Tryz.ntmps96
      go_wp2_with fail
      go_loop [14] (fun i => ∃ k : Nat, k ≤ s.size ∧ i = .int .i64 k ∧ (s.data.toList.take k).all byteB = true) (fun i => s.size - (intOf i).toNat)
      case atStart => exact ⟨0, Nat.zero_le _, rfl, rfl⟩
      case round =>
        obtain ⟨k, hk, rfl, hall⟩ := hrel
        have Hall := Lib.hid hall
        clear hall
        by_cases hlt : k < s.size
        · have hl : k < s.data.toList.length := by simpa using hlt
          have hg : Hid (s.data.toList[k] = s[k]) := by simp [Hid]; rfl
          cases hb : byteB s[k] with
          | true =>
            have ha : Hid ((s.data.toList.take (k + 1)).all byteB = true) := by
              simp only [Hid]
              rw [all_take_succ _ _ hl, Hall.out, hg.out, hb]; rfl
            have hb1 : 32 ≤ (s[k].toNat : Int) ∧ (s[k].toNat : Int) ≤ 126 := by
              simp [byteB] at hb; omega
            obtain ⟨hb1, hb2⟩ := hb1
            clear hb
            go_wp2_with fail
            go_round
            case rel => exact ⟨k + 1, by omega, by go_num, ha.out⟩
            case measure => simp [intOf]; omega
          | false =>
            have ha : Hid (nameB s = false) := by
              simp only [Hid]
              rw [hn.out]
              exact all_false hl (by rw [hg.out, hb])
            have hb1 : (s[k].toNat : Int) < 32 ∨ 126 < (s[k].toNat : Int) := by
              simp [byteB] at hb; omega
            clear hb
            go_wp2_with fail
            all_goals
              go_ret
              exact ⟨retB ha.out, rfl⟩
        · go_wp2_with fail
          go_ret
          refine ⟨retB ?_, rfl⟩
          rw [hn.out]
          have := Hall.out
          rwa [List.take_of_length_le (by simp; omega)] at this
    · have hn : Hid (nameB s = false) := by simp [Hid, nameB, h2]
      go_enter Tryz.func96, Tryz.ntmps96
      go_wp2_with fail
      go_ret
      exact ⟨retB hn.out, rfl⟩
  · have hn : Hid (nameB s = false) := by simp [Hid, nameB, h1]
    go_enter Tryz.func96, Tryz.ntmps96
    go_wp2_with fail
    go_ret
    exact ⟨retB hn.out, rfl⟩

set_option maxHeartbeats 2000000 in
theorem isNode_any (k n : Int) (s : ByteArray) (len : Nat) (a : Option Addr) (c : Nat) (w : World) (hm : len ≤ maxLen) (hs : s.size ≤ maxLen) :
    Calls Tryz.prog 85 #[.agg #[.int .i64 k, .int .i64 n, .string s, .slice a len c]] w fun e w' => e = .returned (.bool (nodeB k n s len)) ∧ Below w.heap.size w w' := by
  have hN := fun W => isName_any s hs W
  have HN := Lib.hid hN
  clear hN
  unfold maxLen at hm hs
  by_cases h1 : k = 1
  · subst h1
    go_enter Tryz.func85, Tryz.ntmps85
    go_wp2_with fail
    all_goals
      go_ret
      refine ⟨retB ?_, below_box1 _ _⟩
      rw [Bool.eq_iff_iff]
      simp [nodeB, *]
      try omega
  have h1' : (k == 1) = false := by simpa using h1
  have H1 := Lib.hid h1
  clear h1
  by_cases h2 : k = 2
  · subst h2
    go_enter Tryz.func85, Tryz.ntmps85
    go_wp2_with fail
    all_goals
      go_ret
      refine ⟨retB ?_, below_box1 _ _⟩
      rw [Bool.eq_iff_iff]
      simp [nodeB, *]
      try omega
  have h2' : (k == 2) = false := by simpa using h2
  have H2 := Lib.hid h2
  clear h2
  by_cases h3 : k = 3
  · subst h3
    go_enter Tryz.func85, Tryz.ntmps85
    go_wp2_with (go_at_call 96; refine (HN.out _).mono ?_; rintro e w' ⟨rfl, rfl⟩)
    all_goals
      go_ret
      refine ⟨retB ?_, below_box1 _ _⟩
      rw [Bool.eq_iff_iff]
      simp [nodeB, *]
      try omega
  have h3' : (k == 3) = false := by simpa using h3
  have H3 := Lib.hid h3
  clear h3
  by_cases h4 : k = 4
  · subst h4
    go_enter Tryz.func85, Tryz.ntmps85
    go_wp2_with fail
    all_goals
      go_ret
      refine ⟨retB ?_, below_box1 _ _⟩
      rw [Bool.eq_iff_iff]
      simp [nodeB, *]
      try omega
  have h4' : (k == 4) = false := by simpa using h4
  have H4 := Lib.hid h4
  clear h4
  by_cases h5 : k = 5
  · subst h5
    go_enter Tryz.func85, Tryz.ntmps85
    go_wp2_with (go_at_call 96; refine (HN.out _).mono ?_; rintro e w' ⟨rfl, rfl⟩)
    all_goals
      go_ret
      refine ⟨retB ?_, below_box1 _ _⟩
      rw [Bool.eq_iff_iff]
      simp [nodeB, *]
      try omega
  have h5' : (k == 5) = false := by simpa using h5
  have H5 := Lib.hid h5
  clear h5
  by_cases h6 : k = 6
  · subst h6
    go_enter Tryz.func85, Tryz.ntmps85
    go_wp2_with fail
    all_goals
      go_ret
      refine ⟨retB ?_, below_box1 _ _⟩
      rw [Bool.eq_iff_iff]
      simp [nodeB, *]
      try omega
  have h6' : (k == 6) = false := by simpa using h6
  have hn : Hid (nodeB k n s len = false) := by simp [Hid, nodeB, H1.out, H2.out, H3.out, H4.out, H5.out, h6]
  clear h6
  go_enter Tryz.func85, Tryz.ntmps85
  go_wp2_with fail
  go_ret
  exact ⟨retB hn.out, below_box1 _ _⟩
end Go.Proofs.YtdigiaigbcfccaaGreatDoor
