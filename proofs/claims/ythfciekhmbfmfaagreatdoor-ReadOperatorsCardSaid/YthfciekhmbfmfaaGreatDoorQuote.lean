/- What is written in quotes, both readings. -/
import Derived.Test.YthfciekhmbfmfaaGreatDoorBytes
import Derived.Deep.RegionHeld3
import Derived.Deep.AppendLies
namespace Go.Proofs.YthfciekhmbfmfaaGreatDoor
open Go.RowKit Go

def escq (c : UInt8) : List UInt8 := if c = 39 ∨ c = 92 then [92, c] else [c]
/-- A name in quotes, but for the last quote. -/
def qtL (l : List UInt8) : List UInt8 := 39 :: l.flatMap escq
theorem escq_len (c : UInt8) : (escq c).length ≤ 2 := by unfold escq; split <;> simp
theorem flat_len (f : UInt8 → List UInt8) (m : Nat) (hf : ∀ c, (f c).length ≤ m) : ∀ l : List UInt8, (l.flatMap f).length ≤ m * l.length
  | [] => by simp
  | c :: l => by
    have h1 := flat_len f m hf l
    have h2 := hf c
    rw [List.flatMap_cons, List.length_append, List.length_cons, Nat.mul_succ]
    omega
theorem flat_take (f : UInt8 → List UInt8) (s : ByteArray) (k : Nat) (h : k < s.size) : (s.data.toList.take (k + 1)).flatMap f = (s.data.toList.take k).flatMap f ++ f s[k] := by
  have hl : k < s.data.toList.length := by simpa using h
  have hg : s.data.toList[k] = s[k] := by simp; rfl
  rw [List.take_succ_eq_append_getElem hl, List.flatMap_append, hg]
  simp
theorem flat_all (f : UInt8 → List UInt8) (s : ByteArray) (k : Nat) (h : s.size ≤ k) : (s.data.toList.take k).flatMap f = s.data.toList.flatMap f := by
  rw [List.take_of_length_le (by simpa using h)]
set_option maxRecDepth 100000 in
set_option maxHeartbeats 2000000 in
theorem quote_any (s : ByteArray) (hs : s.size ≤ 1000000) (w : World) : Calls Tryz.prog 128 #[.string s] w fun e w' => e = .returned (.string ⟨(qtL s.data.toList ++ [39]).toArray⟩) ∧ Below w.heap.size w w' := by
  obtain ⟨i0, hi, hz0, hz1, hz2⟩ := info_parts infoU8
  have h0 : BytR w [39] (.slice (some ⟨w.heap.size, 0, none⟩) 1 1) (w.alloc (.cells #[.int .u8 39] 5)) := BytR.new w [39] (by unfold maxLen; simp)
  have H0 := Lib.hid h0
  clear h0
  go_enter Tryz.func128, Tryz.ntmps128
  go_wp2_with fail
  go_loopw [3, 8] (fun ov iv wr => ∃ (k : Nat) (v : Value) (A : List UInt8), k ≤ s.size ∧ iv = .int .i64 k ∧ ov = v ∧ Hid (A = 39 :: (s.data.toList.take k).flatMap escq) ∧ BytR w A v wr) (fun _ iv _ => s.size - (intOf iv).toNat)
  case atStart => exact ⟨0, _, _, Nat.zero_le _, rfl, rfl, rfl, H0.out⟩
  case round =>
    obtain ⟨k, v, A, hk, rfl, rfl, hA, hR⟩ := hrel
    have hsz := hR.len
    have hL := flat_len escq 2 escq_len (s.data.toList.take k)
    have hL2 : (s.data.toList.take k).length = k := by simp; omega
    have hlA : A.length ≤ 2000001 := by rw [hA.out, List.length_cons]; omega
    have HR := Lib.hid hR
    clear hR hL hL2 H0
    by_cases hlt : k < s.size
    · have HT : Hid (39 :: (s.data.toList.take (k + 1)).flatMap escq = A ++ escq s[k]) := by rw [Hid, flat_take escq s k hlt, hA.out]; simp
      by_cases c39 : s[k] = 39
      · have e : (s[k].toNat : Int) = 39 := by rw [c39]; rfl
        have HE : Hid (escq s[k] = [92] ++ [39]) := by rw [c39]; rfl
        clear c39
        go_wp2_with (at_builtin; refine wpList_append_own_at _ rfl _ _ 62 rfl w.heap.size 5 i0 (.int .u8 0) 1 1 Tryz.underlying62 hi hz0 hz1 hz2 rfl (by decide) _ _ _ rfl (World.ownsRow.alloc HR.out.own _) ⟨wr.heap.size, 0, none⟩ 1 1 [.int .u8 92] rfl rfl (cell_one_new _ _ _) (fun u hu => by simp only [List.mem_cons, List.not_mem_nil, or_false] at hu; rcases hu with rfl <;> rfl) (by unfold maxLen; omega) (by omega) (by simp; omega) ?_)
        intro v1 w1 hown1 hgrow1 _ _
        have hB1 : BytR w (A ++ [92]) v1 w1 := BytR.push (k := [92]) HR.out hown1 hgrow1
        obtain ⟨A1, hA1⟩ : ∃ A1, A ++ [92] = A1 := ⟨_, rfl⟩
        have hl1 : A1.length ≤ 2000002 := by rw [← hA1, List.length_append, List.length_singleton]; omega
        rw [hA1] at hB1
        have HA1 := Lib.hid hA1
        have hs1 := hB1.len
        have H1 := Lib.hid hB1
        clear hB1 hown1 hgrow1 hA1
        go_wp2_with (at_builtin; refine wpList_append_own_at _ rfl _ _ 62 rfl w.heap.size 5 i0 (.int .u8 0) 1 1 Tryz.underlying62 hi hz0 hz1 hz2 rfl (by decide) _ _ _ rfl (World.ownsRow.alloc H1.out.own _) ⟨w1.heap.size, 0, none⟩ 1 1 [.int .u8 39] rfl rfl (cell_one_new _ _ _) (fun u hu => by simp only [List.mem_cons, List.not_mem_nil, or_false] at hu; rcases hu with rfl <;> rfl) (by unfold maxLen; omega) (by omega) (by simp; omega) ?_)
        intro v2 w2 hown2 hgrow2 _ _
        have hB2 : BytR w (A1 ++ [39]) v2 w2 := BytR.push (k := [39]) H1.out hown2 hgrow2
        have H2 := Lib.hid hB2
        clear hB2 hown2 hgrow2
        go_wp2_with fail
        go_roundw
        case rel => exact ⟨k + 1, v2, _, hlt, by go_num, rfl, by rw [Hid, HT.out, HE.out, ← List.append_assoc, HA1.out], H2.out⟩
        case measure => simp [intOf]; omega
      by_cases c92 : s[k] = 92
      · have e : (s[k].toNat : Int) = 92 := by rw [c92]; rfl
        have HE : Hid (escq s[k] = [92] ++ [92]) := by rw [c92]; rfl
        have e39 : ((92 : Int) == 39) = false := rfl
        clear c39 c92
        go_wp2_with (at_builtin; refine wpList_append_own_at _ rfl _ _ 62 rfl w.heap.size 5 i0 (.int .u8 0) 1 1 Tryz.underlying62 hi hz0 hz1 hz2 rfl (by decide) _ _ _ rfl (World.ownsRow.alloc HR.out.own _) ⟨wr.heap.size, 0, none⟩ 1 1 [.int .u8 92] rfl rfl (cell_one_new _ _ _) (fun u hu => by simp only [List.mem_cons, List.not_mem_nil, or_false] at hu; rcases hu with rfl <;> rfl) (by unfold maxLen; omega) (by omega) (by simp; omega) ?_)
        intro v1 w1 hown1 hgrow1 _ _
        have hB1 : BytR w (A ++ [92]) v1 w1 := BytR.push (k := [92]) HR.out hown1 hgrow1
        obtain ⟨A1, hA1⟩ : ∃ A1, A ++ [92] = A1 := ⟨_, rfl⟩
        have hl1 : A1.length ≤ 2000002 := by rw [← hA1, List.length_append, List.length_singleton]; omega
        rw [hA1] at hB1
        have HA1 := Lib.hid hA1
        have hs1 := hB1.len
        have H1 := Lib.hid hB1
        clear hB1 hown1 hgrow1 hA1
        go_wp2_with (at_builtin; refine wpList_append_own_at _ rfl _ _ 62 rfl w.heap.size 5 i0 (.int .u8 0) 1 1 Tryz.underlying62 hi hz0 hz1 hz2 rfl (by decide) _ _ _ rfl (World.ownsRow.alloc H1.out.own _) ⟨w1.heap.size, 0, none⟩ 1 1 [.int .u8 92] rfl rfl (cell_one_new _ _ _) (fun u hu => by simp only [List.mem_cons, List.not_mem_nil, or_false] at hu; rcases hu with rfl <;> rfl) (by unfold maxLen; omega) (by omega) (by simp; omega) ?_)
        intro v2 w2 hown2 hgrow2 _ _
        have hB2 : BytR w (A1 ++ [92]) v2 w2 := BytR.push (k := [92]) H1.out hown2 hgrow2
        have H2 := Lib.hid hB2
        clear hB2 hown2 hgrow2
        go_wp2_with fail
        go_roundw
        case rel => exact ⟨k + 1, v2, _, hlt, by go_num, rfl, by rw [Hid, HT.out, HE.out, ← List.append_assoc, HA1.out], H2.out⟩
        case measure => simp [intOf]; omega
      have n39 : ¬ ((s[k].toNat : Int) = 39) := fun e => c39 (UInt8.toNat_inj.1 (by simpa using Int.ofNat.inj e))
      have n92 : ¬ ((s[k].toNat : Int) = 92) := fun e => c92 (UInt8.toNat_inj.1 (by simpa using Int.ofNat.inj e))
      have e39 : ((s[k].toNat : Int) == 39) = false := by simpa using n39
      have e92 : ((s[k].toNat : Int) == 92) = false := by simpa using n92
      have HE : Hid (escq s[k] = [s[k]]) := by rw [Hid, escq, if_neg (fun h => h.elim c39 c92)]
      clear c39 c92 n39 n92
      go_wp2_with (at_builtin; refine wpList_append_own_at _ rfl _ _ 62 rfl w.heap.size 5 i0 (.int .u8 0) 1 1 Tryz.underlying62 hi hz0 hz1 hz2 rfl (by decide) _ _ _ rfl (World.ownsRow.alloc HR.out.own _) ⟨wr.heap.size, 0, none⟩ 1 1 [.int .u8 (s[k].toNat : Int)] rfl rfl (cell_one_new _ _ _) (fun u hu => by simp only [List.mem_cons, List.not_mem_nil, or_false] at hu; rcases hu with rfl <;> rfl) (by unfold maxLen; omega) (by omega) (by simp; omega) ?_)
      intro v1 w1 hown1 hgrow1 _ _
      have hB1 : BytR w (A ++ [s[k]]) v1 w1 := BytR.push (k := [s[k]]) HR.out hown1 hgrow1
      have H1 := Lib.hid hB1
      clear hB1 hown1 hgrow1
      go_wp2_with fail
      go_roundw
      case rel => exact ⟨k + 1, v1, _, hlt, by go_num, rfl, by rw [Hid, HT.out, HE.out], H1.out⟩
      case measure => simp [intOf]; omega
    · have hA : Hid (A = qtL s.data.toList) := by rw [Hid, hA.out, flat_all escq s k (by omega)]; rfl
      go_wp2_with (at_builtin; refine wpList_append_own_at _ rfl _ _ 62 rfl w.heap.size 5 i0 (.int .u8 0) 1 1 Tryz.underlying62 hi hz0 hz1 hz2 rfl (by decide) _ _ _ rfl (World.ownsRow.alloc HR.out.own _) ⟨wr.heap.size, 0, none⟩ 1 1 [.int .u8 39] rfl rfl (cell_one_new _ _ _) (fun u hu => by simp only [List.mem_cons, List.not_mem_nil, or_false] at hu; rcases hu with rfl <;> rfl) (by unfold maxLen; omega) (by omega) (by simp; omega) ?_)
      intro v1 w1 hown1 hgrow1 _ _
      have hB1 : BytR w (A ++ [39]) v1 w1 := BytR.push (k := [39]) HR.out hown1 hgrow1
      have hcv := hB1.str
      have H1 := Lib.hid hB1
      obtain ⟨A1, hA1⟩ : ∃ A1, A ++ [39] = A1 := ⟨_, rfl⟩
      rw [hA1] at hcv
      have HA1 : Hid (qtL s.data.toList ++ [39] = A1) := by rw [Hid, ← hA.out]; exact hA1
      clear hB1 hown1 hgrow1 hA1
      go_wp2_with fail
      go_ret
      exact ⟨by rw [HA1.out]; rfl, H1.out.below⟩
set_option maxRecDepth 100000 in
set_option maxHeartbeats 2000000 in
theorem inQuotes_any (s : ByteArray) (hs : s.size ≤ 1000000) (w : World) : Calls Tryz.prog 90 #[.string s] w fun e w' => e = .returned (.string ⟨(qtL s.data.toList ++ [39]).toArray⟩) ∧ Below w.heap.size w w' := by
  obtain ⟨i0, hi, hz0, hz1, hz2⟩ := info_parts infoU8
  have h0 : BytR w [39] (.slice (some ⟨w.heap.size, 0, none⟩) 1 1) (w.alloc (.cells #[.int .u8 39] 5)) := BytR.new w [39] (by unfold maxLen; simp)
  have H0 := Lib.hid h0
  clear h0
  go_enter Tryz.func90, Tryz.ntmps90
  go_wp2_with fail
  go_loopw [3, 4] (fun ov iv wr => ∃ (k : Nat) (v : Value) (A : List UInt8), k ≤ s.size ∧ iv = .int .i64 k ∧ ov = v ∧ Hid (A = 39 :: (s.data.toList.take k).flatMap escq) ∧ BytR w A v wr) (fun _ iv _ => s.size - (intOf iv).toNat)
  case atStart => exact ⟨0, _, _, Nat.zero_le _, rfl, rfl, rfl, H0.out⟩
  case round =>
    obtain ⟨k, v, A, hk, rfl, rfl, hA, hR⟩ := hrel
    have hsz := hR.len
    have hL := flat_len escq 2 escq_len (s.data.toList.take k)
    have hL2 : (s.data.toList.take k).length = k := by simp; omega
    have hlA : A.length ≤ 2000001 := by rw [hA.out, List.length_cons]; omega
    have HR := Lib.hid hR
    clear hR hL hL2 H0
    by_cases hlt : k < s.size
    · have HT : Hid (39 :: (s.data.toList.take (k + 1)).flatMap escq = A ++ escq s[k]) := by rw [Hid, flat_take escq s k hlt, hA.out]; simp
      by_cases c39 : s[k] = 39
      · have e : (s[k].toNat : Int) = 39 := by rw [c39]; rfl
        have HE : Hid (escq s[k] = [92] ++ [39]) := by rw [c39]; rfl
        clear c39
        go_wp2_with (at_builtin; refine wpList_append_own_at _ rfl _ _ 62 rfl w.heap.size 5 i0 (.int .u8 0) 1 1 Tryz.underlying62 hi hz0 hz1 hz2 rfl (by decide) _ _ _ rfl (World.ownsRow.alloc HR.out.own _) ⟨wr.heap.size, 0, none⟩ 1 1 [.int .u8 92] rfl rfl (cell_one_new _ _ _) (fun u hu => by simp only [List.mem_cons, List.not_mem_nil, or_false] at hu; rcases hu with rfl <;> rfl) (by unfold maxLen; omega) (by omega) (by simp; omega) ?_)
        intro v1 w1 hown1 hgrow1 _ _
        have hB1 : BytR w (A ++ [92]) v1 w1 := BytR.push (k := [92]) HR.out hown1 hgrow1
        obtain ⟨A1, hA1⟩ : ∃ A1, A ++ [92] = A1 := ⟨_, rfl⟩
        have hl1 : A1.length ≤ 2000002 := by rw [← hA1, List.length_append, List.length_singleton]; omega
        rw [hA1] at hB1
        have HA1 := Lib.hid hA1
        have hs1 := hB1.len
        have H1 := Lib.hid hB1
        clear hB1 hown1 hgrow1 hA1
        go_wp2_with (at_builtin; refine wpList_append_own_at _ rfl _ _ 62 rfl w.heap.size 5 i0 (.int .u8 0) 1 1 Tryz.underlying62 hi hz0 hz1 hz2 rfl (by decide) _ _ _ rfl (World.ownsRow.alloc H1.out.own _) ⟨w1.heap.size, 0, none⟩ 1 1 [.int .u8 39] rfl rfl (cell_one_new _ _ _) (fun u hu => by simp only [List.mem_cons, List.not_mem_nil, or_false] at hu; rcases hu with rfl <;> rfl) (by unfold maxLen; omega) (by omega) (by simp; omega) ?_)
        intro v2 w2 hown2 hgrow2 _ _
        have hB2 : BytR w (A1 ++ [39]) v2 w2 := BytR.push (k := [39]) H1.out hown2 hgrow2
        have H2 := Lib.hid hB2
        clear hB2 hown2 hgrow2
        go_wp2_with fail
        go_roundw
        case rel => exact ⟨k + 1, v2, _, hlt, by go_num, rfl, by rw [Hid, HT.out, HE.out, ← List.append_assoc, HA1.out], H2.out⟩
        case measure => simp [intOf]; omega
      by_cases c92 : s[k] = 92
      · have e : (s[k].toNat : Int) = 92 := by rw [c92]; rfl
        have HE : Hid (escq s[k] = [92] ++ [92]) := by rw [c92]; rfl
        have e39 : ((92 : Int) == 39) = false := rfl
        clear c39 c92
        go_wp2_with (at_builtin; refine wpList_append_own_at _ rfl _ _ 62 rfl w.heap.size 5 i0 (.int .u8 0) 1 1 Tryz.underlying62 hi hz0 hz1 hz2 rfl (by decide) _ _ _ rfl (World.ownsRow.alloc HR.out.own _) ⟨wr.heap.size, 0, none⟩ 1 1 [.int .u8 92] rfl rfl (cell_one_new _ _ _) (fun u hu => by simp only [List.mem_cons, List.not_mem_nil, or_false] at hu; rcases hu with rfl <;> rfl) (by unfold maxLen; omega) (by omega) (by simp; omega) ?_)
        intro v1 w1 hown1 hgrow1 _ _
        have hB1 : BytR w (A ++ [92]) v1 w1 := BytR.push (k := [92]) HR.out hown1 hgrow1
        obtain ⟨A1, hA1⟩ : ∃ A1, A ++ [92] = A1 := ⟨_, rfl⟩
        have hl1 : A1.length ≤ 2000002 := by rw [← hA1, List.length_append, List.length_singleton]; omega
        rw [hA1] at hB1
        have HA1 := Lib.hid hA1
        have hs1 := hB1.len
        have H1 := Lib.hid hB1
        clear hB1 hown1 hgrow1 hA1
        go_wp2_with (at_builtin; refine wpList_append_own_at _ rfl _ _ 62 rfl w.heap.size 5 i0 (.int .u8 0) 1 1 Tryz.underlying62 hi hz0 hz1 hz2 rfl (by decide) _ _ _ rfl (World.ownsRow.alloc H1.out.own _) ⟨w1.heap.size, 0, none⟩ 1 1 [.int .u8 92] rfl rfl (cell_one_new _ _ _) (fun u hu => by simp only [List.mem_cons, List.not_mem_nil, or_false] at hu; rcases hu with rfl <;> rfl) (by unfold maxLen; omega) (by omega) (by simp; omega) ?_)
        intro v2 w2 hown2 hgrow2 _ _
        have hB2 : BytR w (A1 ++ [92]) v2 w2 := BytR.push (k := [92]) H1.out hown2 hgrow2
        have H2 := Lib.hid hB2
        clear hB2 hown2 hgrow2
        go_wp2_with fail
        go_roundw
        case rel => exact ⟨k + 1, v2, _, hlt, by go_num, rfl, by rw [Hid, HT.out, HE.out, ← List.append_assoc, HA1.out], H2.out⟩
        case measure => simp [intOf]; omega
      have n39 : ¬ ((s[k].toNat : Int) = 39) := fun e => c39 (UInt8.toNat_inj.1 (by simpa using Int.ofNat.inj e))
      have n92 : ¬ ((s[k].toNat : Int) = 92) := fun e => c92 (UInt8.toNat_inj.1 (by simpa using Int.ofNat.inj e))
      have e39 : ((s[k].toNat : Int) == 39) = false := by simpa using n39
      have e92 : ((s[k].toNat : Int) == 92) = false := by simpa using n92
      have HE : Hid (escq s[k] = [s[k]]) := by rw [Hid, escq, if_neg (fun h => h.elim c39 c92)]
      clear c39 c92 n39 n92
      go_wp2_with (at_builtin; refine wpList_append_own_at _ rfl _ _ 62 rfl w.heap.size 5 i0 (.int .u8 0) 1 1 Tryz.underlying62 hi hz0 hz1 hz2 rfl (by decide) _ _ _ rfl (World.ownsRow.alloc HR.out.own _) ⟨wr.heap.size, 0, none⟩ 1 1 [.int .u8 (s[k].toNat : Int)] rfl rfl (cell_one_new _ _ _) (fun u hu => by simp only [List.mem_cons, List.not_mem_nil, or_false] at hu; rcases hu with rfl <;> rfl) (by unfold maxLen; omega) (by omega) (by simp; omega) ?_)
      intro v1 w1 hown1 hgrow1 _ _
      have hB1 : BytR w (A ++ [s[k]]) v1 w1 := BytR.push (k := [s[k]]) HR.out hown1 hgrow1
      have H1 := Lib.hid hB1
      clear hB1 hown1 hgrow1
      go_wp2_with fail
      go_roundw
      case rel => exact ⟨k + 1, v1, _, hlt, by go_num, rfl, by rw [Hid, HT.out, HE.out], H1.out⟩
      case measure => simp [intOf]; omega
    · have hA : Hid (A = qtL s.data.toList) := by rw [Hid, hA.out, flat_all escq s k (by omega)]; rfl
      go_wp2_with (at_builtin; refine wpList_append_own_at _ rfl _ _ 62 rfl w.heap.size 5 i0 (.int .u8 0) 1 1 Tryz.underlying62 hi hz0 hz1 hz2 rfl (by decide) _ _ _ rfl (World.ownsRow.alloc HR.out.own _) ⟨wr.heap.size, 0, none⟩ 1 1 [.int .u8 39] rfl rfl (cell_one_new _ _ _) (fun u hu => by simp only [List.mem_cons, List.not_mem_nil, or_false] at hu; rcases hu with rfl <;> rfl) (by unfold maxLen; omega) (by omega) (by simp; omega) ?_)
      intro v1 w1 hown1 hgrow1 _ _
      have hB1 : BytR w (A ++ [39]) v1 w1 := BytR.push (k := [39]) HR.out hown1 hgrow1
      have hcv := hB1.str
      have H1 := Lib.hid hB1
      obtain ⟨A1, hA1⟩ : ∃ A1, A ++ [39] = A1 := ⟨_, rfl⟩
      rw [hA1] at hcv
      have HA1 : Hid (qtL s.data.toList ++ [39] = A1) := by rw [Hid, ← hA.out]; exact hA1
      clear hB1 hown1 hgrow1 hA1
      go_wp2_with fail
      go_ret
      exact ⟨by rw [HA1.out]; rfl, H1.out.below⟩
end Go.Proofs.YthfciekhmbfmfaaGreatDoor

/- What strings are written as, both readings. -/
namespace Go.Proofs.YthfciekhmbfmfaaGreatDoor
open Go.RowKit Go

def hexd (n : Nat) : UInt8 := if n < 10 then UInt8.ofNat (48 + n) else UInt8.ofNat (87 + n)
def escs (c : UInt8) : List UInt8 := if c = 34 ∨ c = 92 then [92, c] else if c = 10 then [92, 110] else if shownB c.toNat then [c] else [92, 120, hexd (c.toNat / 16), hexd (c.toNat % 16)]
/-- A string in quotes, but for the last quote. -/
def qsL (l : List UInt8) : List UInt8 := 34 :: l.flatMap escs
theorem escs_len (c : UInt8) : (escs c).length ≤ 4 := by
  unfold escs
  split
  · simp
  · split
    · simp
    · split <;> simp
theorem inB_iff {lo hi n : Int} : inB lo hi n = true ↔ lo ≤ n ∧ n ≤ hi := by simp [inB]
theorem inB_no {lo hi n : Int} : inB lo hi n = false ↔ n < lo ∨ hi < n := by
  rw [Bool.eq_false_iff, Ne, inB_iff]
  omega
def hexT : ByteArray := ⟨#[48, 49, 50, 51, 52, 53, 54, 55, 56, 57, 97, 98, 99, 100, 101, 102]⟩
theorem hexT_get (n : Nat) (h : n < 16) : hexT[n]'h = hexd n := by
  have key : ∀ n : Fin 16, hexT[n.1]'n.2 = hexd n.1 := by decide
  exact key ⟨n, h⟩
theorem BytR.drewn {w W : World} {l : List UInt8} {v : Value} (h : BytR w l v W) : BytR w l v W.drew := ⟨h.own, h.below.trans ⟨rfl, rfl, rfl, Nat.le_refl _, fun _ _ => rfl⟩⟩
set_option maxRecDepth 100000 in
set_option maxHeartbeats 4000000 in
theorem str_any (s : ByteArray) (hs : s.size ≤ 1000000) (w : World) : Calls Tryz.prog 160 #[.string s] w fun e w' => e = .returned (.string ⟨(qsL s.data.toList ++ [34]).toArray⟩) ∧ Below w.heap.size w w' := by
  obtain ⟨i0, hi, hz0, hz1, hz2⟩ := info_parts infoU8
  have h0 : BytR w [34] (.slice (some ⟨w.heap.size, 0, none⟩) 1 1) (w.alloc (.cells #[.int .u8 34] 5)) := BytR.new w [34] (by unfold maxLen; simp)
  have H0 := Lib.hid h0
  clear h0
  go_enter Tryz.func160, Tryz.ntmps160
  go_wp2_with fail
  go_loopw [3, 4] (fun ov iv wr => ∃ (k : Nat) (v : Value) (A : List UInt8), k ≤ s.size ∧ iv = .int .i64 k ∧ ov = v ∧ Hid (A = 34 :: (s.data.toList.take k).flatMap escs) ∧ BytR w A v wr) (fun _ iv _ => s.size - (intOf iv).toNat)
  case atStart => exact ⟨0, _, _, Nat.zero_le _, rfl, rfl, rfl, H0.out⟩
  case round =>
    obtain ⟨k, v, A, hk, rfl, rfl, hA, hR⟩ := hrel
    have hsz := hR.len
    have hL := flat_len escs 4 escs_len (s.data.toList.take k)
    have hL2 : (s.data.toList.take k).length = k := by simp; omega
    have hlA : A.length ≤ 4000001 := by rw [hA.out, List.length_cons]; omega
    have HR := Lib.hid hR
    clear hR hL hL2 H0
    by_cases hlt : k < s.size
    · have HT : Hid (34 :: (s.data.toList.take (k + 1)).flatMap escs = A ++ escs s[k]) := by rw [Hid, flat_take escs s k hlt, hA.out]; simp
      obtain ⟨c, hc⟩ : ∃ c, s[k] = c := ⟨_, rfl⟩
      rw [hc] at HT
      by_cases c34 : c = 34
      · subst c34
        have hc' : (s[k].toNat : Int) = 34 := by rw [hc]; rfl
        have HE : Hid (escs 34 = [92, 34]) := rfl
        clear hc
        go_wp2_with (at_builtin; refine wpList_append_own_at _ rfl _ _ 62 rfl w.heap.size 5 i0 (.int .u8 0) 1 1 Tryz.underlying62 hi hz0 hz1 hz2 rfl (by decide) _ _ _ rfl (World.ownsRow.alloc HR.out.own _) ⟨wr.heap.size, 0, none⟩ 2 2 [.int .u8 92, .int .u8 34] rfl rfl (two_new _ _ _ _) (fun u hu => by simp only [List.mem_cons, List.not_mem_nil, or_false] at hu; rcases hu with rfl | rfl <;> rfl) (by unfold maxLen; omega) (by omega) (by simp; omega) ?_)
        intro v1 w1 hown1 hgrow1 _ _
        have hB1 : BytR w (A ++ [92, 34]) v1 w1 := BytR.push (k := [92, 34]) HR.out hown1 hgrow1
        have H1 := Lib.hid hB1
        clear hB1 hown1 hgrow1
        go_wp2_with fail
        go_roundw
        case rel => exact ⟨k + 1, v1, _, hlt, by go_num, rfl, by rw [Hid, HT.out, HE.out], H1.out⟩
        case measure => simp [intOf]; omega
      by_cases c92 : c = 92
      · subst c92
        have hc' : (s[k].toNat : Int) = 92 := by rw [hc]; rfl
        have HE : Hid (escs 92 = [92, 92]) := rfl
        clear c34
        clear hc
        go_wp2_with (at_builtin; refine wpList_append_own_at _ rfl _ _ 62 rfl w.heap.size 5 i0 (.int .u8 0) 1 1 Tryz.underlying62 hi hz0 hz1 hz2 rfl (by decide) _ _ _ rfl (World.ownsRow.alloc HR.out.own _) ⟨wr.heap.size, 0, none⟩ 2 2 [.int .u8 92, .int .u8 92] rfl rfl (two_new _ _ _ _) (fun u hu => by simp only [List.mem_cons, List.not_mem_nil, or_false] at hu; rcases hu with rfl | rfl <;> rfl) (by unfold maxLen; omega) (by omega) (by simp; omega) ?_)
        intro v1 w1 hown1 hgrow1 _ _
        have hB1 : BytR w (A ++ [92, 92]) v1 w1 := BytR.push (k := [92, 92]) HR.out hown1 hgrow1
        have H1 := Lib.hid hB1
        clear hB1 hown1 hgrow1
        go_wp2_with fail
        go_roundw
        case rel => exact ⟨k + 1, v1, _, hlt, by go_num, rfl, by rw [Hid, HT.out, HE.out], H1.out⟩
        case measure => simp [intOf]; omega
      by_cases c10 : c = 10
      · subst c10
        have hc' : (s[k].toNat : Int) = 10 := by rw [hc]; rfl
        have HE : Hid (escs 10 = [92, 110]) := rfl
        clear hc c34 c92
        go_wp2_with (at_builtin; refine wpList_append_own_at _ rfl _ _ 62 rfl w.heap.size 5 i0 (.int .u8 0) 1 1 Tryz.underlying62 hi hz0 hz1 hz2 rfl (by decide) _ _ _ rfl (World.ownsRow.alloc HR.out.own _) ⟨wr.heap.size, 0, none⟩ 2 2 [.int .u8 92, .int .u8 110] rfl rfl (two_new _ _ _ _) (fun u hu => by simp only [List.mem_cons, List.not_mem_nil, or_false] at hu; rcases hu with rfl | rfl <;> rfl) (by unfold maxLen; omega) (by omega) (by simp; omega) ?_)
        intro v1 w1 hown1 hgrow1 _ _
        have hB1 : BytR w (A ++ [92, 110]) v1 w1 := BytR.push (k := [92, 110]) HR.out hown1 hgrow1
        have H1 := Lib.hid hB1
        clear hB1 hown1 hgrow1
        go_wp2_with fail
        go_roundw
        case rel => exact ⟨k + 1, v1, _, hlt, by go_num, rfl, by rw [Hid, HT.out, HE.out], H1.out⟩
        case measure => simp [intOf]; omega
      subst hc
      have n34 : ¬ ((s[k].toNat : Int) = 34) := fun e => c34 (UInt8.toNat_inj.1 (by simpa using Int.ofNat.inj e))
      have n92 : ¬ ((s[k].toNat : Int) = 92) := fun e => c92 (UInt8.toNat_inj.1 (by simpa using Int.ofNat.inj e))
      have n10 : ¬ ((s[k].toNat : Int) = 10) := fun e => c10 (UInt8.toNat_inj.1 (by simpa using Int.ofNat.inj e))
      have e34 : ((s[k].toNat : Int) == 34) = false := by simpa using n34
      have e92 : ((s[k].toNat : Int) == 92) = false := by simpa using n92
      have e10 : ((s[k].toNat : Int) == 10) = false := by simpa using n10
      cases hsh : shownB s[k].toNat with
      | true =>
        have HE : Hid (escs s[k] = [s[k]]) := by rw [Hid, escs, if_neg (fun h => h.elim c34 c92), if_neg c10, if_pos hsh]
        have h32 : decide ((s[k].toNat : Int) < 32) = false := by have := inB_iff.1 hsh; simp; omega
        have h126 : decide ((s[k].toNat : Int) > 126) = false := by have := inB_iff.1 hsh; simp; omega
        clear c34 c92 c10 n34 n92 n10 hsh
        go_wp2_with (at_builtin; refine wpList_append_own_at _ rfl _ _ 62 rfl w.heap.size 5 i0 (.int .u8 0) 1 1 Tryz.underlying62 hi hz0 hz1 hz2 rfl (by decide) _ _ _ rfl (World.ownsRow.alloc HR.out.own _) ⟨wr.heap.size, 0, none⟩ 1 1 [.int .u8 (s[k].toNat : Int)] rfl rfl (cell_one_new _ _ _) (fun u hu => by simp only [List.mem_cons, List.not_mem_nil, or_false] at hu; rcases hu with rfl <;> rfl) (by unfold maxLen; omega) (by omega) (by simp; omega) ?_)
        intro v1 w1 hown1 hgrow1 _ _
        have hB1 : BytR w (A ++ [s[k]]) v1 w1 := BytR.push (k := [s[k]]) HR.out hown1 hgrow1
        have H1 := Lib.hid hB1
        clear hB1 hown1 hgrow1
        go_wp2_with fail
        go_roundw
        case rel => exact ⟨k + 1, v1, _, hlt, by go_num, rfl, by rw [Hid, HT.out, HE.out], H1.out⟩
        case measure => simp [intOf]; omega
      | false =>
        have HE : Hid (escs s[k] = [92, 120, hexd (s[k].toNat / 16), hexd (s[k].toNat % 16)]) := by rw [Hid, escs, if_neg (fun h => h.elim c34 c92), if_neg c10, if_neg (by simp [hsh])]
        have hlt256 : s[k].toNat < 256 := UInt8.toNat_lt _
        have hq : Int.tdiv (s[k].toNat : Int) 16 = ((s[k].toNat / 16 : Nat) : Int) := by rw [Int.tdiv_eq_ediv_of_nonneg (by omega)]; omega
        have hr : Int.tmod (s[k].toNat : Int) 16 = ((s[k].toNat % 16 : Nat) : Int) := by rw [Int.tmod_eq_emod_of_nonneg (by omega)]; omega
        have h32 : decide ((s[k].toNat : Int) < 32) = true ∨ decide ((s[k].toNat : Int) < 32) = false ∧ decide ((s[k].toNat : Int) > 126) = true := by have := inB_no.1 hsh; simp; omega
        obtain ⟨Q, hQ⟩ : ∃ Q, s[k].toNat / 16 = Q := ⟨_, rfl⟩
        obtain ⟨R, hRr⟩ : ∃ R, s[k].toNat % 16 = R := ⟨_, rfl⟩
        have hQ16 : Q < 16 := by omega
        have hR16 : R < 16 := by omega
        rw [hQ] at hq HE
        rw [hRr] at hr HE
        have hw1 : IntKind.wrap .u8 (Q : Int) = Q := by simp [IntKind.wrap, IntKind.bits, IntKind.signed]; omega
        have hw2 : IntKind.wrap .u8 (R : Int) = R := by simp [IntKind.wrap, IntKind.bits, IntKind.signed]; omega
        have hxQ : hexT[Q]'hQ16 = hexd Q := hexT_get Q hQ16
        have hxR : hexT[R]'hR16 = hexd R := hexT_get R hR16
        clear hQ hRr hlt256 c34 c92 c10 n34 n92 n10 hsh
        rcases h32 with h32 | ⟨h32, h126⟩
        all_goals
          go_wp2_with fail
          go_region_held3 (fun _ => True) (trivial) ((refine step_append_lies _ (by rfl) _ _ _ (by rfl) w.heap.size 5 i0 (.int .u8 0) 1 1 Tryz.underlying62 hi hz0 hz1 hz2 rfl (by decide) _ A.length (byts A) (by rfl) (by first | exact World.ownsRow.alloc HR.out.own _ | exact World.ownsRow.alloc HR.out.drewn.own _) ⟨wr.heap.size, 0, none⟩ 4 4 [.int .u8 92, .int .u8 120, .int .u8 ((hexT[Q]'hQ16).toNat : Int), .int .u8 ((hexT[R]'hR16).toNat : Int)] (by rfl) (by rfl) (by exact World.news_of_block (cs := #[_, _, _, _]) (heap_alloc_new wr _)) (fun u hu => by simp only [List.mem_cons, List.not_mem_nil, or_false] at hu; rcases hu with rfl | rfl | rfl | rfl <;> rfl) (by omega) (by unfold maxLen; omega) (by omega) (by first | exact Nat.le_succ_of_le hsz | (simp; omega)) (wr.heap.size + 1) (by first | rfl | simp) ?_; intro g cap w1 hown1 hgrow1 _ _))
          all_goals
            first | have hB1 := BytR.push (k := [92, 120, hexT[Q]'hQ16, hexT[R]'hR16]) HR.out hown1 hgrow1 | have hB1 := BytR.push (k := [92, 120, hexT[Q]'hQ16, hexT[R]'hR16]) HR.out hown1 (gr_drew hgrow1) | have hB1 := BytR.push (k := [92, 120, hexT[Q]'hQ16, hexT[R]'hR16]) HR.out.drewn hown1 hgrow1
            have H1 := Lib.hid hB1
            have HX := Lib.hid (And.intro hxQ hxR)
            clear hB1 hown1 hgrow1 hxQ hxR
            go_wp2_with fail
            go_roundw
            case rel => exact ⟨k + 1, _, _, hlt, by go_num, rfl, by rw [Hid, HT.out, HE.out, ← HX.out.1, ← HX.out.2], H1.out⟩
            case measure => simp [intOf]; omega
    · have hA : Hid (A = qsL s.data.toList) := by rw [Hid, hA.out, flat_all escs s k (by omega)]; rfl
      go_wp2_with (at_builtin; refine wpList_append_own_at _ rfl _ _ 62 rfl w.heap.size 5 i0 (.int .u8 0) 1 1 Tryz.underlying62 hi hz0 hz1 hz2 rfl (by decide) _ _ _ rfl (World.ownsRow.alloc HR.out.own _) ⟨wr.heap.size, 0, none⟩ 1 1 [.int .u8 34] rfl rfl (cell_one_new _ _ _) (fun u hu => by simp only [List.mem_cons, List.not_mem_nil, or_false] at hu; rcases hu with rfl <;> rfl) (by unfold maxLen; omega) (by omega) (by simp; omega) ?_)
      intro v1 w1 hown1 hgrow1 _ _
      have hB1 : BytR w (A ++ [34]) v1 w1 := BytR.push (k := [34]) HR.out hown1 hgrow1
      have hcv := hB1.str
      have H1 := Lib.hid hB1
      obtain ⟨A1, hA1⟩ : ∃ A1, A ++ [34] = A1 := ⟨_, rfl⟩
      rw [hA1] at hcv
      have HA1 : Hid (qsL s.data.toList ++ [34] = A1) := by rw [Hid, ← hA.out]; exact hA1
      clear hB1 hown1 hgrow1 hA1
      go_wp2_with fail
      go_ret
      exact ⟨by rw [HA1.out]; rfl, H1.out.below⟩
set_option maxRecDepth 100000 in
set_option maxHeartbeats 4000000 in
theorem quoteStr_any (s : ByteArray) (hs : s.size ≤ 1000000) (w : World) : Calls Tryz.prog 174 #[.string s] w fun e w' => e = .returned (.string ⟨(qsL s.data.toList ++ [34]).toArray⟩) ∧ Below w.heap.size w w' := by
  obtain ⟨i0, hi, hz0, hz1, hz2⟩ := info_parts infoU8
  have h0 : BytR w [34] (.slice (some ⟨w.heap.size, 0, none⟩) 1 1) (w.alloc (.cells #[.int .u8 34] 5)) := BytR.new w [34] (by unfold maxLen; simp)
  have H0 := Lib.hid h0
  clear h0
  go_enter Tryz.func174, Tryz.ntmps174
  go_wp2_with fail
  go_loopw [3, 9] (fun ov iv wr => ∃ (k : Nat) (v : Value) (A : List UInt8), k ≤ s.size ∧ iv = .int .i64 k ∧ ov = v ∧ Hid (A = 34 :: (s.data.toList.take k).flatMap escs) ∧ BytR w A v wr) (fun _ iv _ => s.size - (intOf iv).toNat)
  case atStart => exact ⟨0, _, _, Nat.zero_le _, rfl, rfl, rfl, H0.out⟩
  case round =>
    obtain ⟨k, v, A, hk, rfl, rfl, hA, hR⟩ := hrel
    have hsz := hR.len
    have hL := flat_len escs 4 escs_len (s.data.toList.take k)
    have hL2 : (s.data.toList.take k).length = k := by simp; omega
    have hlA : A.length ≤ 4000001 := by rw [hA.out, List.length_cons]; omega
    have HR := Lib.hid hR
    clear hR hL hL2 H0
    by_cases hlt : k < s.size
    · have HT : Hid (34 :: (s.data.toList.take (k + 1)).flatMap escs = A ++ escs s[k]) := by rw [Hid, flat_take escs s k hlt, hA.out]; simp
      obtain ⟨c, hc⟩ : ∃ c, s[k] = c := ⟨_, rfl⟩
      rw [hc] at HT
      by_cases c34 : c = 34
      · subst c34
        have hc' : (s[k].toNat : Int) = 34 := by rw [hc]; rfl
        have HE : Hid (escs 34 = [92, 34]) := rfl
        clear hc
        go_wp2_with (at_builtin; refine wpList_append_own_at _ rfl _ _ 62 rfl w.heap.size 5 i0 (.int .u8 0) 1 1 Tryz.underlying62 hi hz0 hz1 hz2 rfl (by decide) _ _ _ rfl (World.ownsRow.alloc HR.out.own _) ⟨wr.heap.size, 0, none⟩ 2 2 [.int .u8 92, .int .u8 34] rfl rfl (two_new _ _ _ _) (fun u hu => by simp only [List.mem_cons, List.not_mem_nil, or_false] at hu; rcases hu with rfl | rfl <;> rfl) (by unfold maxLen; omega) (by omega) (by simp; omega) ?_)
        intro v1 w1 hown1 hgrow1 _ _
        have hB1 : BytR w (A ++ [92, 34]) v1 w1 := BytR.push (k := [92, 34]) HR.out hown1 hgrow1
        have H1 := Lib.hid hB1
        clear hB1 hown1 hgrow1
        go_wp2_with fail
        go_roundw
        case rel => exact ⟨k + 1, v1, _, hlt, by go_num, rfl, by rw [Hid, HT.out, HE.out], H1.out⟩
        case measure => simp [intOf]; omega
      by_cases c92 : c = 92
      · subst c92
        have hc' : (s[k].toNat : Int) = 92 := by rw [hc]; rfl
        have HE : Hid (escs 92 = [92, 92]) := rfl
        clear c34
        clear hc
        go_wp2_with (at_builtin; refine wpList_append_own_at _ rfl _ _ 62 rfl w.heap.size 5 i0 (.int .u8 0) 1 1 Tryz.underlying62 hi hz0 hz1 hz2 rfl (by decide) _ _ _ rfl (World.ownsRow.alloc HR.out.own _) ⟨wr.heap.size, 0, none⟩ 2 2 [.int .u8 92, .int .u8 92] rfl rfl (two_new _ _ _ _) (fun u hu => by simp only [List.mem_cons, List.not_mem_nil, or_false] at hu; rcases hu with rfl | rfl <;> rfl) (by unfold maxLen; omega) (by omega) (by simp; omega) ?_)
        intro v1 w1 hown1 hgrow1 _ _
        have hB1 : BytR w (A ++ [92, 92]) v1 w1 := BytR.push (k := [92, 92]) HR.out hown1 hgrow1
        have H1 := Lib.hid hB1
        clear hB1 hown1 hgrow1
        go_wp2_with fail
        go_roundw
        case rel => exact ⟨k + 1, v1, _, hlt, by go_num, rfl, by rw [Hid, HT.out, HE.out], H1.out⟩
        case measure => simp [intOf]; omega
      by_cases c10 : c = 10
      · subst c10
        have hc' : (s[k].toNat : Int) = 10 := by rw [hc]; rfl
        have HE : Hid (escs 10 = [92, 110]) := rfl
        clear hc c34 c92
        go_wp2_with (at_builtin; refine wpList_append_own_at _ rfl _ _ 62 rfl w.heap.size 5 i0 (.int .u8 0) 1 1 Tryz.underlying62 hi hz0 hz1 hz2 rfl (by decide) _ _ _ rfl (World.ownsRow.alloc HR.out.own _) ⟨wr.heap.size, 0, none⟩ 2 2 [.int .u8 92, .int .u8 110] rfl rfl (two_new _ _ _ _) (fun u hu => by simp only [List.mem_cons, List.not_mem_nil, or_false] at hu; rcases hu with rfl | rfl <;> rfl) (by unfold maxLen; omega) (by omega) (by simp; omega) ?_)
        intro v1 w1 hown1 hgrow1 _ _
        have hB1 : BytR w (A ++ [92, 110]) v1 w1 := BytR.push (k := [92, 110]) HR.out hown1 hgrow1
        have H1 := Lib.hid hB1
        clear hB1 hown1 hgrow1
        go_wp2_with fail
        go_roundw
        case rel => exact ⟨k + 1, v1, _, hlt, by go_num, rfl, by rw [Hid, HT.out, HE.out], H1.out⟩
        case measure => simp [intOf]; omega
      subst hc
      have n34 : ¬ ((s[k].toNat : Int) = 34) := fun e => c34 (UInt8.toNat_inj.1 (by simpa using Int.ofNat.inj e))
      have n92 : ¬ ((s[k].toNat : Int) = 92) := fun e => c92 (UInt8.toNat_inj.1 (by simpa using Int.ofNat.inj e))
      have n10 : ¬ ((s[k].toNat : Int) = 10) := fun e => c10 (UInt8.toNat_inj.1 (by simpa using Int.ofNat.inj e))
      have e34 : ((s[k].toNat : Int) == 34) = false := by simpa using n34
      have e92 : ((s[k].toNat : Int) == 92) = false := by simpa using n92
      have e10 : ((s[k].toNat : Int) == 10) = false := by simpa using n10
      cases hsh : shownB s[k].toNat with
      | true =>
        have HE : Hid (escs s[k] = [s[k]]) := by rw [Hid, escs, if_neg (fun h => h.elim c34 c92), if_neg c10, if_pos hsh]
        have hsw := fun w => isShown_any (s[k].toNat : Int) w
        rw [hsh] at hsw
        have HSW := Lib.hid hsw
        clear hsw
        clear c34 c92 c10 n34 n92 n10 hsh
        go_wp2_with fail
        refine (HSW.out _).mono ?_
        rintro e wr ⟨rfl, rfl⟩
        go_wp2_with (at_builtin; refine wpList_append_own_at _ rfl _ _ 62 rfl w.heap.size 5 i0 (.int .u8 0) 1 1 Tryz.underlying62 hi hz0 hz1 hz2 rfl (by decide) _ _ _ rfl (World.ownsRow.alloc HR.out.own _) ⟨wr.heap.size, 0, none⟩ 1 1 [.int .u8 (s[k].toNat : Int)] rfl rfl (cell_one_new _ _ _) (fun u hu => by simp only [List.mem_cons, List.not_mem_nil, or_false] at hu; rcases hu with rfl <;> rfl) (by unfold maxLen; omega) (by omega) (by simp; omega) ?_)
        intro v1 w1 hown1 hgrow1 _ _
        have hB1 : BytR w (A ++ [s[k]]) v1 w1 := BytR.push (k := [s[k]]) HR.out hown1 hgrow1
        have H1 := Lib.hid hB1
        clear hB1 hown1 hgrow1
        go_wp2_with fail
        go_roundw
        case rel => exact ⟨k + 1, v1, _, hlt, by go_num, rfl, by rw [Hid, HT.out, HE.out], H1.out⟩
        case measure => simp [intOf]; omega
      | false =>
        have HE : Hid (escs s[k] = [92, 120, hexd (s[k].toNat / 16), hexd (s[k].toNat % 16)]) := by rw [Hid, escs, if_neg (fun h => h.elim c34 c92), if_neg c10, if_neg (by simp [hsh])]
        have hlt256 : s[k].toNat < 256 := UInt8.toNat_lt _
        have hq : Int.tdiv (s[k].toNat : Int) 16 = ((s[k].toNat / 16 : Nat) : Int) := by rw [Int.tdiv_eq_ediv_of_nonneg (by omega)]; omega
        have hr : Int.tmod (s[k].toNat : Int) 16 = ((s[k].toNat % 16 : Nat) : Int) := by rw [Int.tmod_eq_emod_of_nonneg (by omega)]; omega
        obtain ⟨Q, hQ⟩ : ∃ Q, s[k].toNat / 16 = Q := ⟨_, rfl⟩
        obtain ⟨R, hRr⟩ : ∃ R, s[k].toNat % 16 = R := ⟨_, rfl⟩
        have hQ16 : Q < 16 := by omega
        have hR16 : R < 16 := by omega
        rw [hQ] at hq HE
        rw [hRr] at hr HE
        have hw1 : IntKind.wrap .u8 (Q : Int) = Q := by simp [IntKind.wrap, IntKind.bits, IntKind.signed]; omega
        have hw2 : IntKind.wrap .u8 (R : Int) = R := by simp [IntKind.wrap, IntKind.bits, IntKind.signed]; omega
        have hxQ : hexT[Q]'hQ16 = hexd Q := hexT_get Q hQ16
        have hxR : hexT[R]'hR16 = hexd R := hexT_get R hR16
        have hsw := fun w => isShown_any (s[k].toNat : Int) w
        rw [hsh] at hsw
        have HSW := Lib.hid hsw
        clear hsw
        clear hQ hRr hlt256 c34 c92 c10 n34 n92 n10 hsh
        go_wp2_with fail
        refine (HSW.out _).mono ?_
        rintro e wr ⟨rfl, rfl⟩
        go_wp2_with fail
        go_region_held3 (fun _ => True) (trivial) ((refine step_append_lies _ (by rfl) _ _ _ (by rfl) w.heap.size 5 i0 (.int .u8 0) 1 1 Tryz.underlying62 hi hz0 hz1 hz2 rfl (by decide) _ A.length (byts A) (by rfl) (by first | exact World.ownsRow.alloc HR.out.own _ | exact World.ownsRow.alloc HR.out.drewn.own _) ⟨wr.heap.size, 0, none⟩ 4 4 [.int .u8 92, .int .u8 120, .int .u8 ((hexT[Q]'hQ16).toNat : Int), .int .u8 ((hexT[R]'hR16).toNat : Int)] (by rfl) (by rfl) (by exact World.news_of_block (cs := #[_, _, _, _]) (heap_alloc_new wr _)) (fun u hu => by simp only [List.mem_cons, List.not_mem_nil, or_false] at hu; rcases hu with rfl | rfl | rfl | rfl <;> rfl) (by omega) (by unfold maxLen; omega) (by omega) (by first | exact Nat.le_succ_of_le hsz | (simp; omega)) (wr.heap.size + 1) (by first | rfl | simp) ?_; intro g cap w1 hown1 hgrow1 _ _))
        all_goals
          first | have hB1 := BytR.push (k := [92, 120, hexT[Q]'hQ16, hexT[R]'hR16]) HR.out hown1 hgrow1 | have hB1 := BytR.push (k := [92, 120, hexT[Q]'hQ16, hexT[R]'hR16]) HR.out hown1 (gr_drew hgrow1) | have hB1 := BytR.push (k := [92, 120, hexT[Q]'hQ16, hexT[R]'hR16]) HR.out.drewn hown1 hgrow1
          have H1 := Lib.hid hB1
          have HX := Lib.hid (And.intro hxQ hxR)
          clear hB1 hown1 hgrow1 hxQ hxR
          go_wp2_with fail
          go_roundw
          case rel => exact ⟨k + 1, _, _, hlt, by go_num, rfl, by rw [Hid, HT.out, HE.out, ← HX.out.1, ← HX.out.2], H1.out⟩
          case measure => simp [intOf]; omega
    · have hA : Hid (A = qsL s.data.toList) := by rw [Hid, hA.out, flat_all escs s k (by omega)]; rfl
      go_wp2_with (at_builtin; refine wpList_append_own_at _ rfl _ _ 62 rfl w.heap.size 5 i0 (.int .u8 0) 1 1 Tryz.underlying62 hi hz0 hz1 hz2 rfl (by decide) _ _ _ rfl (World.ownsRow.alloc HR.out.own _) ⟨wr.heap.size, 0, none⟩ 1 1 [.int .u8 34] rfl rfl (cell_one_new _ _ _) (fun u hu => by simp only [List.mem_cons, List.not_mem_nil, or_false] at hu; rcases hu with rfl <;> rfl) (by unfold maxLen; omega) (by omega) (by simp; omega) ?_)
      intro v1 w1 hown1 hgrow1 _ _
      have hB1 : BytR w (A ++ [34]) v1 w1 := BytR.push (k := [34]) HR.out hown1 hgrow1
      have hcv := hB1.str
      have H1 := Lib.hid hB1
      obtain ⟨A1, hA1⟩ : ∃ A1, A ++ [34] = A1 := ⟨_, rfl⟩
      rw [hA1] at hcv
      have HA1 : Hid (qsL s.data.toList ++ [34] = A1) := by rw [Hid, ← hA.out]; exact hA1
      clear hB1 hown1 hgrow1 hA1
      go_wp2_with fail
      go_ret
      exact ⟨by rw [HA1.out]; rfl, H1.out.below⟩
end Go.Proofs.YthfciekhmbfmfaaGreatDoor
