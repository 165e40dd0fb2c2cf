/- Classes of bytes, both readings. -/
import Derived.Test.YthfciekhmbfmfaaGreatDoorOpsM
import Derived.Test.YthfciekhmbfmfaaGreatDoorShelf
import Derived.RegionTactic
import Derived.Deep.RegionWith
import Derived.Laws.IdiomStrings
import Derived.Lib.ItoaLen
namespace Go.Proofs.YthfciekhmbfmfaaGreatDoor
open Go.RowKit Go

def inB (lo hi n : Int) : Bool := decide (lo ≤ n) && decide (n ≤ hi)
def smallB (n : Int) : Bool := inB 97 122 n
def capB (n : Int) : Bool := inB 65 90 n
def digB (n : Int) : Bool := inB 48 57 n
def shownB (n : Int) : Bool := inB 32 126 n
/-- One byte's answer. -/
def ByQ (b : Bool) (w : World) (e : Ending) (w' : World) : Prop := e = .returned (.bool b) ∧ w' = w
theorem inB_yes {lo hi n : Int} (h : lo ≤ n) (k : n ≤ hi) : inB lo hi n = true := by simp [inB, h, k]
theorem inB_lo {lo hi n : Int} (h : ¬ lo ≤ n) : inB lo hi n = false := by simp [inB, h]
theorem inB_hi {lo hi n : Int} (k : ¬ n ≤ hi) : inB lo hi n = false := by simp [inB, k]
theorem isSmall_any (n : Int) (w : World) : Calls Tryz.prog 135 #[.int .u8 n] w (ByQ (smallB n) w) := by
  by_cases h1 : 97 ≤ n
  · have d1 : decide (n ≥ 97) = true := by simpa using h1
    by_cases h2 : n ≤ 122
    · have d2 : decide (n ≤ 122) = true := by simpa using h2
      have HV := Lib.hid (inB_yes (lo := 97) (hi := 122) h1 h2)
      clear h1 h2
      go_enter Tryz.func135, Tryz.ntmps135
      go_wp2_with fail
      go_ret
      exact ⟨by rw [smallB, HV.out]; rfl, rfl⟩
    · have d2 : decide (n ≤ 122) = false := by simpa using h2
      have HV := Lib.hid (inB_hi (lo := 97) (hi := 122) h2)
      clear h1 h2
      go_enter Tryz.func135, Tryz.ntmps135
      go_wp2_with fail
      go_ret
      exact ⟨by rw [smallB, HV.out]; rfl, rfl⟩
  · have d1 : decide (n ≥ 97) = false := by simpa using h1
    have HV := Lib.hid (inB_lo (lo := 97) (hi := 122) h1)
    clear h1
    go_enter Tryz.func135, Tryz.ntmps135
    go_wp2_with fail
    go_ret
    exact ⟨by rw [smallB, HV.out]; rfl, rfl⟩
theorem isCapital_any (n : Int) (w : World) : Calls Tryz.prog 137 #[.int .u8 n] w (ByQ (capB n) w) := by
  by_cases h1 : 65 ≤ n
  · have d1 : decide (n ≥ 65) = true := by simpa using h1
    by_cases h2 : n ≤ 90
    · have d2 : decide (n ≤ 90) = true := by simpa using h2
      have HV := Lib.hid (inB_yes (lo := 65) (hi := 90) h1 h2)
      clear h1 h2
      go_enter Tryz.func137, Tryz.ntmps137
      go_wp2_with fail
      go_ret
      exact ⟨by rw [capB, HV.out]; rfl, rfl⟩
    · have d2 : decide (n ≤ 90) = false := by simpa using h2
      have HV := Lib.hid (inB_hi (lo := 65) (hi := 90) h2)
      clear h1 h2
      go_enter Tryz.func137, Tryz.ntmps137
      go_wp2_with fail
      go_ret
      exact ⟨by rw [capB, HV.out]; rfl, rfl⟩
  · have d1 : decide (n ≥ 65) = false := by simpa using h1
    have HV := Lib.hid (inB_lo (lo := 65) (hi := 90) h1)
    clear h1
    go_enter Tryz.func137, Tryz.ntmps137
    go_wp2_with fail
    go_ret
    exact ⟨by rw [capB, HV.out]; rfl, rfl⟩
theorem isDigit_any (n : Int) (w : World) : Calls Tryz.prog 139 #[.int .u8 n] w (ByQ (digB n) w) := by
  by_cases h1 : 48 ≤ n
  · have d1 : decide (n ≥ 48) = true := by simpa using h1
    by_cases h2 : n ≤ 57
    · have d2 : decide (n ≤ 57) = true := by simpa using h2
      have HV := Lib.hid (inB_yes (lo := 48) (hi := 57) h1 h2)
      clear h1 h2
      go_enter Tryz.func139, Tryz.ntmps139
      go_wp2_with fail
      go_ret
      exact ⟨by rw [digB, HV.out]; rfl, rfl⟩
    · have d2 : decide (n ≤ 57) = false := by simpa using h2
      have HV := Lib.hid (inB_hi (lo := 48) (hi := 57) h2)
      clear h1 h2
      go_enter Tryz.func139, Tryz.ntmps139
      go_wp2_with fail
      go_ret
      exact ⟨by rw [digB, HV.out]; rfl, rfl⟩
  · have d1 : decide (n ≥ 48) = false := by simpa using h1
    have HV := Lib.hid (inB_lo (lo := 48) (hi := 57) h1)
    clear h1
    go_enter Tryz.func139, Tryz.ntmps139
    go_wp2_with fail
    go_ret
    exact ⟨by rw [digB, HV.out]; rfl, rfl⟩
theorem isShown_any (n : Int) (w : World) : Calls Tryz.prog 203 #[.int .u8 n] w (ByQ (shownB n) w) := by
  by_cases h1 : 32 ≤ n
  · have d1 : decide (n ≥ 32) = true := by simpa using h1
    by_cases h2 : n ≤ 126
    · have d2 : decide (n ≤ 126) = true := by simpa using h2
      have HV := Lib.hid (inB_yes (lo := 32) (hi := 126) h1 h2)
      clear h1 h2
      go_enter Tryz.func203, Tryz.ntmps203
      go_wp2_with fail
      go_ret
      exact ⟨by rw [shownB, HV.out]; rfl, rfl⟩
    · have d2 : decide (n ≤ 126) = false := by simpa using h2
      have HV := Lib.hid (inB_hi (lo := 32) (hi := 126) h2)
      clear h1 h2
      go_enter Tryz.func203, Tryz.ntmps203
      go_wp2_with fail
      go_ret
      exact ⟨by rw [shownB, HV.out]; rfl, rfl⟩
  · have d1 : decide (n ≥ 32) = false := by simpa using h1
    have HV := Lib.hid (inB_lo (lo := 32) (hi := 126) h1)
    clear h1
    go_enter Tryz.func203, Tryz.ntmps203
    go_wp2_with fail
    go_ret
    exact ⟨by rw [shownB, HV.out]; rfl, rfl⟩
theorem refSmall_any (n : Int) (w : World) : Calls Tryz.prog 106 #[.int .u8 n] w (ByQ (smallB n) w) := by
  by_cases h1 : 97 ≤ n
  · have d1 : decide (n ≥ 97) = true := by simpa using h1
    by_cases h2 : n ≤ 122
    · have d2 : decide (n ≤ 122) = true := by simpa using h2
      have HV := Lib.hid (inB_yes (lo := 97) (hi := 122) h1 h2)
      clear h1 h2
      go_enter Tryz.func106, Tryz.ntmps106
      go_wp2_with fail
      go_ret
      exact ⟨by rw [smallB, HV.out]; rfl, rfl⟩
    · have d2 : decide (n ≤ 122) = false := by simpa using h2
      have HV := Lib.hid (inB_hi (lo := 97) (hi := 122) h2)
      clear h1 h2
      go_enter Tryz.func106, Tryz.ntmps106
      go_wp2_with fail
      go_ret
      exact ⟨by rw [smallB, HV.out]; rfl, rfl⟩
  · have d1 : decide (n ≥ 97) = false := by simpa using h1
    have HV := Lib.hid (inB_lo (lo := 97) (hi := 122) h1)
    clear h1
    go_enter Tryz.func106, Tryz.ntmps106
    go_wp2_with fail
    go_ret
    exact ⟨by rw [smallB, HV.out]; rfl, rfl⟩
theorem refDigit_any (n : Int) (w : World) : Calls Tryz.prog 102 #[.int .u8 n] w (ByQ (digB n) w) := by
  by_cases h1 : 48 ≤ n
  · have d1 : decide (n ≥ 48) = true := by simpa using h1
    by_cases h2 : n ≤ 57
    · have d2 : decide (n ≤ 57) = true := by simpa using h2
      have HV := Lib.hid (inB_yes (lo := 48) (hi := 57) h1 h2)
      clear h1 h2
      go_enter Tryz.func102, Tryz.ntmps102
      go_wp2_with fail
      go_ret
      exact ⟨by rw [digB, HV.out]; rfl, rfl⟩
    · have d2 : decide (n ≤ 57) = false := by simpa using h2
      have HV := Lib.hid (inB_hi (lo := 48) (hi := 57) h2)
      clear h1 h2
      go_enter Tryz.func102, Tryz.ntmps102
      go_wp2_with fail
      go_ret
      exact ⟨by rw [digB, HV.out]; rfl, rfl⟩
  · have d1 : decide (n ≥ 48) = false := by simpa using h1
    have HV := Lib.hid (inB_lo (lo := 48) (hi := 57) h1)
    clear h1
    go_enter Tryz.func102, Tryz.ntmps102
    go_wp2_with fail
    go_ret
    exact ⟨by rw [digB, HV.out]; rfl, rfl⟩
def blankB (n : Int) : Bool := decide (n = 32) || decide (n = 9) || decide (n = 10) || decide (n = 13)
theorem isBlank_any (n : Int) (w : World) : Calls Tryz.prog 181 #[.int .u8 n] w (ByQ (blankB n) w) := by
  by_cases h32 : n = 32
  · subst h32
    go_enter Tryz.func181, Tryz.ntmps181
    go_wp2_with fail
    go_ret
    exact ⟨rfl, rfl⟩
  · have e32 : (n == 32) = false := by simpa using h32
    by_cases h9 : n = 9
    · subst h9
      clear e32 h32
      go_enter Tryz.func181, Tryz.ntmps181
      go_wp2_with fail
      go_ret
      exact ⟨rfl, rfl⟩
    · have e9 : (n == 9) = false := by simpa using h9
      by_cases h10 : n = 10
      · subst h10
        clear e32 h32 e9 h9
        go_enter Tryz.func181, Tryz.ntmps181
        go_wp2_with fail
        go_ret
        exact ⟨rfl, rfl⟩
      · have e10 : (n == 10) = false := by simpa using h10
        by_cases h13 : n = 13
        · subst h13
          clear e32 h32 e9 h9 e10 h10
          go_enter Tryz.func181, Tryz.ntmps181
          go_wp2_with fail
          go_ret
          exact ⟨rfl, rfl⟩
        · have e13 : (n == 13) = false := by simpa using h13
          have HV : Hid (blankB n = false) := by simp [Hid, blankB, h32, h9, h10, h13]
          clear h32 h9 h10 h13
          go_enter Tryz.func181, Tryz.ntmps181
          go_wp2_with fail
          go_ret
          exact ⟨by rw [HV.out]; rfl, rfl⟩
theorem refBlank_any (n : Int) (w : World) : Calls Tryz.prog 99 #[.int .u8 n] w (ByQ (blankB n) w) := by
  by_cases h32 : n = 32
  · subst h32
    go_enter Tryz.func99, Tryz.ntmps99
    go_wp2_with fail
    go_ret
    exact ⟨rfl, rfl⟩
  · have e32 : (n == 32) = false := by simpa using h32
    by_cases h9 : n = 9
    · subst h9
      clear e32 h32
      go_enter Tryz.func99, Tryz.ntmps99
      go_wp2_with fail
      go_ret
      exact ⟨rfl, rfl⟩
    · have e9 : (n == 9) = false := by simpa using h9
      by_cases h10 : n = 10
      · subst h10
        clear e32 h32 e9 h9
        go_enter Tryz.func99, Tryz.ntmps99
        go_wp2_with fail
        go_ret
        exact ⟨rfl, rfl⟩
      · have e10 : (n == 10) = false := by simpa using h10
        by_cases h13 : n = 13
        · subst h13
          clear e32 h32 e9 h9 e10 h10
          go_enter Tryz.func99, Tryz.ntmps99
          go_wp2_with fail
          go_ret
          exact ⟨rfl, rfl⟩
        · have e13 : (n == 13) = false := by simpa using h13
          have HV : Hid (blankB n = false) := by simp [Hid, blankB, h32, h9, h10, h13]
          clear h32 h9 h10 h13
          go_enter Tryz.func99, Tryz.ntmps99
          go_wp2_with fail
          go_ret
          exact ⟨by rw [HV.out]; rfl, rfl⟩
end Go.Proofs.YthfciekhmbfmfaaGreatDoor

/- Classes of bytes that are told by others. -/
namespace Go.Proofs.YthfciekhmbfmfaaGreatDoor
open Go.RowKit Go

def namedB (n : Int) : Bool := smallB n || capB n || digB n || decide (n = 95)
def cap_B (n : Int) : Bool := capB n || decide (n = 95)
def wordB (n : Int) : Bool := smallB n || cap_B n || digB n
theorem word_named (n : Int) : wordB n = namedB n := by
  unfold wordB namedB cap_B
  cases smallB n <;> cases capB n <;> cases digB n <;> cases decide (n = 95) <;> rfl
theorem isNamed_any (n : Int) (w : World) : Calls Tryz.prog 178 #[.int .u8 n] w (ByQ (namedB n) w) := by
  obtain ⟨b0, h0⟩ : ∃ b, smallB n = b := ⟨_, rfl⟩
  obtain ⟨b1, h1⟩ : ∃ b, capB n = b := ⟨_, rfl⟩
  obtain ⟨b2, h2⟩ : ∃ b, digB n = b := ⟨_, rfl⟩
  have HV : Hid (namedB n = (b0 || b1 || b2 || decide (n = 95))) := by rw [Hid, namedB, h0, h1, h2]
  have c0 := isSmall_any n
  have c1 := isCapital_any n
  have c2 := isDigit_any n
  rw [h0] at c0
  rw [h1] at c1
  rw [h2] at c2
  have H := Lib.hid (And.intro c0 (And.intro c1 c2))
  clear c0 c1 c2 h0 h1 h2
  go_enter Tryz.func178, Tryz.ntmps178
  go_wp2_with fail
  refine (H.out.1 _).mono ?_
  rintro e w' ⟨rfl, rfl⟩
  cases b0 with
  | true =>
    go_wp2_with fail
    go_ret
    exact ⟨by rw [HV.out]; rfl, rfl⟩
  | false =>
    go_wp2_with fail
    refine (H.out.2.1 _).mono ?_
    rintro e w' ⟨rfl, rfl⟩
    cases b1 with
    | true =>
      go_wp2_with fail
      go_ret
      exact ⟨by rw [HV.out]; rfl, rfl⟩
    | false =>
      go_wp2_with fail
      refine (H.out.2.2 _).mono ?_
      rintro e w' ⟨rfl, rfl⟩
      cases b2 with
      | true =>
        go_wp2_with fail
        go_ret
        exact ⟨by rw [HV.out]; rfl, rfl⟩
      | false =>
        by_cases h : n = 95
        · subst h
          go_wp2_with fail
          go_ret
          exact ⟨by rw [HV.out]; rfl, rfl⟩
        · have e : (n == 95) = false := by simpa using h
          have HV2 : Hid (namedB n = false) := by rw [Hid, HV.out]; simp [h]
          clear h
          go_wp2_with fail
          go_ret
          exact ⟨by rw [HV2.out]; rfl, rfl⟩
theorem refCapital_any (n : Int) (w : World) : Calls Tryz.prog 107 #[.int .u8 n] w (ByQ (cap_B n) w) := by
  by_cases h1 : 65 ≤ n
  · have d1 : decide (n ≥ 65) = true := by simpa using h1
    by_cases h2 : n ≤ 90
    · have d2 : decide (n ≤ 90) = true := by simpa using h2
      have HV : Hid (cap_B n = true) := by rw [Hid, cap_B, capB, inB_yes h1 h2]; rfl
      clear h1 h2
      go_enter Tryz.func107, Tryz.ntmps107
      go_wp2_with fail
      go_ret
      exact ⟨by rw [HV.out]; rfl, rfl⟩
    · have d2 : decide (n ≤ 90) = false := by simpa using h2
      by_cases h : n = 95
      · subst h
        clear h1 h2 d1 d2
        go_enter Tryz.func107, Tryz.ntmps107
        go_wp2_with fail
        go_ret
        exact ⟨rfl, rfl⟩
      · have e : (n == 95) = false := by simpa using h
        have HV : Hid (cap_B n = false) := by rw [Hid, cap_B, capB, inB_hi h2]; simp [h]
        clear h1 h2 h
        go_enter Tryz.func107, Tryz.ntmps107
        go_wp2_with fail
        go_ret
        exact ⟨by rw [HV.out]; rfl, rfl⟩
  · have d1 : decide (n ≥ 65) = false := by simpa using h1
    have e : (n == 95) = false := by simp; omega
    have HV : Hid (cap_B n = false) := by rw [Hid, cap_B, capB, inB_lo h1]; simp; omega
    clear h1
    go_enter Tryz.func107, Tryz.ntmps107
    go_wp2_with fail
    go_ret
    exact ⟨by rw [HV.out]; rfl, rfl⟩
theorem refWord_any (n : Int) (w : World) : Calls Tryz.prog 105 #[.int .u8 n] w (ByQ (namedB n) w) := by
  obtain ⟨b0, h0⟩ : ∃ b, smallB n = b := ⟨_, rfl⟩
  obtain ⟨b1, h1⟩ : ∃ b, cap_B n = b := ⟨_, rfl⟩
  obtain ⟨b2, h2⟩ : ∃ b, digB n = b := ⟨_, rfl⟩
  have HV : Hid (namedB n = (b0 || b1 || b2)) := by rw [Hid, ← word_named, wordB, h0, h1, h2]
  have c0 := refSmall_any n
  have c1 := refCapital_any n
  have c2 := refDigit_any n
  rw [h0] at c0
  rw [h1] at c1
  rw [h2] at c2
  have H := Lib.hid (And.intro c0 (And.intro c1 c2))
  clear c0 c1 c2 h0 h1 h2
  go_enter Tryz.func105, Tryz.ntmps105
  go_wp2_with fail
  refine (H.out.1 _).mono ?_
  rintro e w' ⟨rfl, rfl⟩
  cases b0 with
  | true =>
    go_wp2_with fail
    go_ret
    exact ⟨by rw [HV.out]; rfl, rfl⟩
  | false =>
    go_wp2_with fail
    refine (H.out.2.1 _).mono ?_
    rintro e w' ⟨rfl, rfl⟩
    cases b1 with
    | true =>
      go_wp2_with fail
      go_ret
      exact ⟨by rw [HV.out]; rfl, rfl⟩
    | false =>
      go_wp2_with fail
      refine (H.out.2.2 _).mono ?_
      rintro e w' ⟨rfl, rfl⟩
      go_wp2_with fail
      go_ret
      exact ⟨by rw [HV.out]; rfl, rfl⟩
/-- A string has a byte. -/
def hasB (s : ByteArray) (n : Int) : Bool := s.data.toList.any fun c => decide ((c.toNat : Int) = n)
theorem any_take {α : Type} (f : α → Bool) (l : List α) (k : Nat) (h : k < l.length) : (l.take (k + 1)).any f = ((l.take k).any f || f l[k]) := by
  rw [List.take_succ_eq_append_getElem h, List.any_append]
  simp
theorem refHas_any (s : ByteArray) (n : Int) (hs : s.size ≤ maxLen) (w : World) : Calls Tryz.prog 101 #[.string s, .int .u8 n] w (ByQ (hasB s n) w) := by
  unfold maxLen at hs
  go_enter Tryz.func101, Tryz.ntmps101
  go_wp2_with fail
  go_loop [5] (fun i => ∃ k : Nat, k ≤ s.size ∧ i = .int .i64 k ∧ Hid ((s.data.toList.take k).any (fun c => decide ((c.toNat : Int) = n)) = false)) (fun i => s.size - (intOf i).toNat)
  case atStart => exact ⟨0, Nat.zero_le _, rfl, rfl⟩
  case round =>
    obtain ⟨k, hk, rfl, Hall⟩ := hrel
    by_cases hlt : k < s.size
    · have hl : k < s.data.toList.length := by simpa using hlt
      have hg : s.data.toList[k] = s[k] := by simp; rfl
      by_cases hb : (s[k].toNat : Int) = n
      · have ha : Hid (hasB s n = true) := by
          rw [Hid, hasB, List.any_eq_true]
          exact ⟨_, List.getElem_mem hl, by rw [hg]; simpa using hb⟩
        have hbb : ((s[k].toNat : Int) == n) = true := by simpa using hb
        clear hb hg
        go_wp2_with fail
        go_ret
        exact ⟨by rw [ha.out]; rfl, rfl⟩
      · have ha : Hid ((s.data.toList.take (k + 1)).any (fun c => decide ((c.toNat : Int) = n)) = false) := by
          rw [Hid, any_take _ _ k hl, Hall.out, hg]
          simpa using hb
        have hbb : ((s[k].toNat : Int) == n) = false := by simpa using hb
        clear hb hg
        go_wp2_with fail
        go_round
        case rel => exact ⟨k + 1, by omega, by go_num, ha⟩
        case measure => simp [intOf]; omega
    · have ha : Hid (hasB s n = false) := by
        have := Hall.out
        rwa [List.take_of_length_le (by simp; omega)] at this
      go_wp2_with fail
      go_ret
      exact ⟨by rw [ha.out]; rfl, rfl⟩
/-- The bytes of names without letters, and those that are lexemes by themselves. -/
def symsS : ByteArray := ⟨#[43, 45, 42, 47, 92, 94, 60, 62, 61, 126, 58, 63, 64, 35, 38, 36, 46]⟩
def signsS : ByteArray := ⟨#[40, 41, 91, 93, 123, 125, 44, 124]⟩
def symbolB (n : Int) : Bool := hasB symsS n
def signB (n : Int) : Bool := hasB signsS n
theorem refSymbol_any (n : Int) (w : World) : Calls Tryz.prog 108 #[.int .u8 n] w (ByQ (symbolB n) w) := by
  have hc := fun w => refHas_any symsS n (by decide) w
  obtain ⟨b, hb⟩ : ∃ b, hasB symsS n = b := ⟨_, rfl⟩
  rw [hb] at hc
  have HB : Hid (symbolB n = b) := hb
  clear hb
  unfold symsS at hc
  go_enter Tryz.func108, Tryz.ntmps108
  go_wp2_with fail
  refine (hc _).mono ?_
  rintro e w' ⟨rfl, rfl⟩
  go_wp2_with fail
  go_ret
  exact ⟨by rw [HB.out]; rfl, rfl⟩
end Go.Proofs.YthfciekhmbfmfaaGreatDoor

/- Signs and symbols, by strings.IndexByte. -/
namespace Go.Proofs.YthfciekhmbfmfaaGreatDoor
open Go.RowKit Go

theorem idx_any (c : UInt8) : ∀ l : List UInt8, decide (0 ≤ Lib.indexByte l c) = l.any fun b => decide ((b.toNat : Int) = c.toNat)
  | [] => by simp [Lib.indexByte]
  | b :: l => by
    have ih := idx_any c l
    have hg := Lib.indexByte_ge l c
    rw [List.any_cons, ← ih, Lib.indexByte]
    by_cases h : b = c
    · subst h; simp
    · have h2 : ¬ ((b.toNat : Int) = c.toNat) := fun e => h (UInt8.toNat_inj.1 (by omega))
      have h3 : (b == c) = false := by simpa using h
      rw [decide_eq_false h2, Bool.false_or, h3]
      by_cases h4 : Lib.indexByte l c = -1
      · simp [h4]
      · have h5 : (Lib.indexByte l c == -1) = false := by simpa using h4
        simp only [h5, Bool.false_eq_true, if_false]
        by_cases h6 : 0 ≤ Lib.indexByte l c
        · simp [h6]; omega
        · omega
theorem byte_back (c : UInt8) : ((c.toNat : Int)).toNat.toUInt8 = c := by simp
theorem isSign_any (c : UInt8) (w : World) : Calls Tryz.prog 143 #[.int .u8 (c.toNat : Int)] w (ByQ (signB c.toNat) w) := by
  have hc := fun w => Tryz.strings_IndexByte signsS (c.toNat : Int) w
  rw [byte_back] at hc
  have hi := idx_any c signsS.data.toList
  obtain ⟨r, hr⟩ : ∃ r, Lib.indexByte signsS.data.toList c = r := ⟨_, rfl⟩
  rw [hr] at hc hi
  have HI : Hid (signB c.toNat = decide (0 ≤ r)) := hi.symm
  clear hi hr
  unfold signsS at hc
  go_enter Tryz.func143, Tryz.ntmps143
  go_wp2_with fail
  refine (hc _).mono ?_
  rintro e w' ⟨rfl, rfl⟩
  by_cases h : 0 ≤ r
  · have HV := HI.out
    rw [decide_eq_true h] at HV
    have HV := Lib.hid HV
    have d : decide (r ≥ 0) = true := by simpa using h
    clear h
    go_wp2_with fail
    go_ret
    exact ⟨by rw [HV.out]; rfl, rfl⟩
  · have HV := HI.out
    rw [decide_eq_false h] at HV
    have HV := Lib.hid HV
    have d : decide (r ≥ 0) = false := by simpa using h
    clear h
    go_wp2_with fail
    go_ret
    exact ⟨by rw [HV.out]; rfl, rfl⟩
theorem isSymbol_any (c : UInt8) (w : World) : Calls Tryz.prog 141 #[.int .u8 (c.toNat : Int)] w (ByQ (symbolB c.toNat) w) := by
  have hc := fun w => Tryz.strings_IndexByte symsS (c.toNat : Int) w
  rw [byte_back] at hc
  have hi := idx_any c symsS.data.toList
  obtain ⟨r, hr⟩ : ∃ r, Lib.indexByte symsS.data.toList c = r := ⟨_, rfl⟩
  rw [hr] at hc hi
  have HI : Hid (symbolB c.toNat = decide (0 ≤ r)) := hi.symm
  clear hi hr
  unfold symsS at hc
  go_enter Tryz.func141, Tryz.ntmps141
  go_wp2_with fail
  refine (hc _).mono ?_
  rintro e w' ⟨rfl, rfl⟩
  by_cases h : 0 ≤ r
  · have HV := HI.out
    rw [decide_eq_true h] at HV
    have HV := Lib.hid HV
    have d : decide (r ≥ 0) = true := by simpa using h
    clear h
    go_wp2_with fail
    go_ret
    exact ⟨by rw [HV.out]; rfl, rfl⟩
  · have HV := HI.out
    rw [decide_eq_false h] at HV
    have HV := Lib.hid HV
    have d : decide (r ≥ 0) = false := by simpa using h
    clear h
    go_wp2_with fail
    go_ret
    exact ⟨by rw [HV.out]; rfl, rfl⟩
end Go.Proofs.YthfciekhmbfmfaaGreatDoor

/- Decimal numbers: the second reading's digits. -/
namespace Go.Proofs.YthfciekhmbfmfaaGreatDoor
open Go.RowKit Go

theorem add_str (t : TypeId) (x y : ByteArray) (h : x.size + y.size ≤ 1000000) : binOp .add t (.string x) (.string y) = pure (.string (x ++ y)) := by
  have h2 : ¬ ((x.size + y.size : Nat) : Int) > IntKind.i64.max := by
    simp [IntKind.max, IntKind.bits, IntKind.signed]
    omega
  simp only [binOp, Op.stringOp]
  rw [if_neg h2]
/-- One byte, made a string. -/
theorem byte_at (W : World) (B : Nat) (b : UInt8) (hb : Box W B #[.int .u8 (b.toNat : Int)] 5) : (convert 62 9 (.slice (some ⟨B, 0, none⟩) 1 1)).run Tryz.prog W = .ok (.string ⟨#[b]⟩) W :=
  run_convert_bytes_back W 62 9 5 ⟨B, 0, none⟩ 1 [b] Tryz.underlying62 Tryz.underlying5 Tryz.underlying9 (fun j hj => by
    obtain rfl : j = 0 := by simpa using hj
    have := hb.cell 0
    rwa [show (⟨B, 0, none⟩ : Addr).add 0 = ⟨B, 0, none⟩ from rfl])
set_option maxRecDepth 100000 in
theorem digit_at (d : Nat) (hd : d < 10) (W : World) (B : Nat) (hb : Box W B #[.int .u8 (48 + (d : Int))] 5) : (convert 62 9 (.slice (some ⟨B, 0, none⟩) 1 1)).run Tryz.prog W = .ok (.string ⟨#[UInt8.ofNat (48 + d)]⟩) W := by
  generalize hc : UInt8.ofNat (48 + d) = c
  have e : (c.toNat : Int) = 48 + (d : Int) := by
    rw [← hc]
    have h1 : (UInt8.ofNat (48 + d)).toNat = (48 + d) % 256 := UInt8.toNat_ofNat'
    omega
  refine byte_at W B c ?_
  rw [e]
  exact hb
theorem digit_str (d : Nat) (hd : d < 10) (W : World) : (convert 62 9 (.slice (some ⟨W.heap.size, 0, none⟩) 1 1)).run Tryz.prog (W.alloc (.cells #[.int .u8 (48 + (d : Int))] 5)) = .ok (.string ⟨#[UInt8.ofNat (48 + d)]⟩) (W.alloc (.cells #[.int .u8 (48 + (d : Int))] 5)) :=
  digit_at d hd _ _ (World.alloc_heap_new _ _)
theorem drw_at (W : World) (cs : Array Value) (t : TypeId) : Box (W.alloc (.cells cs t)).drew W.heap.size cs t := show Box (W.alloc (.cells cs t)) W.heap.size cs t from World.alloc_heap_new _ _
theorem drw_box {W W4 : World} {cs : Array Value} {t : TypeId} (h : Below (W.alloc (.cells cs t)).drew.heap.size (W.alloc (.cells cs t)).drew W4) : Box W4 W.heap.size cs t := Box.keep h (drw_at W cs t)
theorem drw_low {W : World} (o : Obj) : Below W.heap.size W (W.alloc o).drew :=
  (below_a1 (Nat.le_refl W.heap.size) o).trans ⟨rfl, rfl, rfl, Nat.le_refl _, fun _ _ => rfl⟩
theorem drw_only (W : World) : Below W.heap.size W W.drew := ⟨rfl, rfl, rfl, Nat.le_refl _, fun _ _ => rfl⟩
set_option maxRecDepth 100000 in
set_option maxHeartbeats 1000000 in
theorem digits_any (n : Nat) : n < 1000000 → ∀ w : World, Calls Tryz.prog 87 #[.int .i64 n] w fun e w' => e = .returned (.string ⟨(Lib.decDigits n).toArray⟩) ∧ Below w.heap.size w w' := by
  induction n using Nat.strongRecOn with
  | ind n ih =>
    intro hn w
    by_cases h : n < 10
    · have h1 : (n : Int) < 10 := by omega
      have hcv := digit_str n h
      have HD : Hid (Lib.decDigits n = [UInt8.ofNat (48 + n)]) := Lib.decDigits_one h
      generalize UInt8.ofNat (48 + n) = b at *
      clear ih
      go_enter Tryz.func87, Tryz.ntmps87
      go_wp2_with fail
      go_ret
      exact ⟨by rw [HD.out]; rfl, below_a1 (Nat.le_refl _) _⟩
    · have h1 : ¬ (n : Int) < 10 := by omega
      have hq : Int.tdiv (n : Int) 10 = ((n / 10 : Nat) : Int) := by rw [Int.tdiv_eq_ediv_of_nonneg (by omega)]; omega
      have hr : Int.tmod (n : Int) 10 = ((n % 10 : Nat) : Int) := by rw [Int.tmod_eq_emod_of_nonneg (by omega)]; omega
      have hcv := digit_str (n % 10) (by omega)
      have hcz := digit_at (n % 10) (by omega)
      have HI := Lib.hid (ih (n / 10) (by omega) (by omega))
      have HD : Hid (Lib.decDigits n = Lib.decDigits (n / 10) ++ [UInt8.ofNat (48 + n % 10)]) := by rw [Hid, Lib.decDigits, dif_neg h]
      have hd10 : n % 10 < 10 := by omega
      have hQl : n / 10 < 1000000 := by omega
      generalize hQ : n / 10 = Q at *
      generalize hR : n % 10 = R at *
      generalize UInt8.ofNat (48 + R) = b at *
      have hw1 : IntKind.wrap .i64 (Q : Int) = Q := by simp [IntKind.wrap, IntKind.bits, IntKind.signed]; omega
      have hw2 : IntKind.wrap .i64 (48 + (R : Int)) = 48 + (R : Int) := by simp [IntKind.wrap, IntKind.bits, IntKind.signed]; omega
      have hw3 : IntKind.wrap .u8 (48 + (R : Int)) = 48 + (R : Int) := by simp [IntKind.wrap, IntKind.bits, IntKind.signed]; omega
      clear ih hQ hR
      have hSz : (⟨(Lib.decDigits Q).toArray⟩ : ByteArray).size ≤ 20 := by
        have h2 := Lib.nDigits_le20 Q (by omega)
        rw [← Lib.decDigits_length] at h2
        exact h2
      have HE : Hid ((⟨(Lib.decDigits n).toArray⟩ : ByteArray) = ⟨(Lib.decDigits Q).toArray⟩ ++ ⟨#[b]⟩) := by
        rw [Hid, HD.out]
        apply ByteArray.ext
        simp
      generalize (⟨(Lib.decDigits Q).toArray⟩ : ByteArray) = S at *
      have hadd : ∀ t, binOp .add t (.string S) (.string ⟨#[b]⟩) = pure (.string (S ++ ⟨#[b]⟩)) := fun t => add_str t S ⟨#[b]⟩ (by have : (⟨#[b]⟩ : ByteArray).size = 1 := rfl; omega)
      have hcd := hcz _ _ (drw_at w #[.int .u8 (48 + (R : Int))] 5)
      clear hSz
      go_enter Tryz.func87, Tryz.ntmps87
      go_wp2_with fail
      go_region_with (go_at_call 87; refine (HI.out _).mono ?_; rintro e W4 ⟨rfl, hB4⟩; try (have hz := hcz W4 w.heap.size (drw_box hB4)))
      all_goals
        have hL : Below w.heap.size w W4 := by first | exact (drw_only w).trans hB4 | exact (drw_low _).trans (Below.mono hB4 (below_a1 (Nat.le_refl w.heap.size) (.cells #[.int .u8 (48 + (R : Int))] 5)).size)
        have HL := Lib.hid hL
        clear hL hB4
        go_wp2_with fail
        go_ret
        refine ⟨by rw [HE.out]; rfl, ?_⟩
        first | exact HL.out | exact HL.out.alloc HL.out.size _
end Go.Proofs.YthfciekhmbfmfaaGreatDoor
