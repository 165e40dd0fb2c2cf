/- Whether trees are terms together: the second reading. -/
import Derived.Test.YtdigiaigbcfccaaGreatDoorSane
namespace Go.Proofs.YtdigiaigbcfccaaGreatDoor
open Go.RowKit Go

attribute [local go_sem] monoUpon Yld.says

set_option maxRecDepth 100000 in
set_option maxHeartbeats 1000000 in
theorem refTogN_any (l : List Tr) (a : Option Addr) (c : Nat) (w : World) (hl : IsL w.heap.size w l a) (hs : sizeL l ≤ 1000000) (hd : ∀ t, t ∈ l → t.deep ≤ 1000000000) :
    Calls Tryz.prog 70 #[.slice a l.length c] w fun e w' => e = .returned (.bool (togB l)) ∧ Below w.heap.size w w' := by
  have HL := Lib.hid hl
  have HD := Lib.hid hd
  have hlen := length_le_sizeL l
  have hlm : l.length ≤ 9223372036854775807 := by omega
  clear hl hd
  go_enter Tryz.func70, Tryz.ntmps70
  go_wp2_with fail
  go_loopw [3, 4] (fun x i wr => ∃ j : Nat, j ≤ l.length ∧ i = .int .i64 j ∧ x = .int .i64 (sizeL (l.take j) : Int) ∧ (l.take j).all isB = true ∧ Below w.heap.size w wr) (fun _ i _ => l.length - (intOf i).toNat)
  case atStart => exact ⟨0, Nat.zero_le _, rfl, rfl, rfl, Below.refl _ _⟩
  case round =>
    obtain ⟨j, hj, rfl, rfl, hall, hBj⟩ := hrel
    have hz1 := sizeL_take_le (l := l) j
    by_cases hlt : j < l.length
    · obtain ⟨b, off, rfl, hbb⟩ := HL.out.addr (by omega)
      obtain ⟨tk, tn, ts, tl, ta, tc, te, d0, d1, d2, d3, ht⟩ := HL.out.node' hbb hBj j hlt
      have hwr := hBj.size
      have hbw : b < wr.heap.size := by omega
      have hu1 : l[j].size ≤ 1000000000 := by have := size_mem (List.getElem_mem hlt); omega
      have hu2 : l[j].deep ≤ 1000000000 := HD.out _ (List.getElem_mem hlt)
      have hq1 := sizeL_take j hlt
      have hr1 := sizeL_take_le (l := l) (j + 1)
      have HJ := Lib.hid (And.intro hall (And.intro hBj te))
      clear te hall hBj
      go_wp2_with fail
      refine (refIs_any l[j] _ _ (ht.up HJ.out.2.1 HJ.out.2.1.size) hu1 hu2).mono ?_
      rintro e W1 ⟨rfl, B⟩
      have hB1 := HJ.out.2.1.trans (B.mono HJ.out.2.1.size)
      have HK := Lib.hid hB1
      clear B d0 d1 d2 d3 ht
      cases hi : isB l[j] with
      | false =>
        have HT : Hid (togB l = false) := by rw [Hid, togB, List.all_eq_false.2 ⟨_, List.getElem_mem hlt, by simp [hi]⟩]; rfl
        clear hi hB1
        go_wp2_with fail
        go_ret
        exact ⟨retB HT.out, HK.out⟩
      | true =>
        have HT : Hid ((l.take (j + 1)).all isB = true) := all_take j hlt HJ.out.1 hi
        obtain ⟨tk', tn', ts', tl', ta', tc', te, d0, d1, d2, d3, ht⟩ := HL.out.node' hbb hB1 j hlt
        have hbw1 : b < W1.heap.size := by have := hB1.size; omega
        have HE := Lib.hid te
        clear te hi hB1
        have hc := refSize_any l[j] _ W1 (ht.up HK.out HK.out.size) hu1 hu2
        generalize hA : sizeL (l.take (j + 1)) = A at *
        generalize sizeL (l.take j) = A0 at *
        generalize l[j].size = A1 at *
        generalize l[j].deep = D1 at *
        have HQ := Lib.hid (And.intro hq1 hA)
        have HC := Lib.hid hc
        have hle : (A0 : Int) + A1 ≤ 1000000000 := by omega
        have hnn : 0 ≤ (A0 : Int) ∧ 0 ≤ (A1 : Int) := by omega
        clear hq1 hc hA
        go_wp2_with fail
        refine HC.out.mono ?_
        rintro e W2 ⟨rfl, B⟩
        have HB := Lib.hid (HK.out.trans (B.mono HK.out.size))
        clear B d0 d1 d2 d3 ht
        go_wp2_with fail
        go_roundw
        case rel =>
          refine ⟨j + 1, hlt, by go_num, ?_, HT.out, HB.out⟩
          rw [HQ.out.2]
          have := HQ.out.1
          congr 1
          omega
        case measure => simp [intOf]; omega
    · rw [List.take_of_length_le (by omega)] at hall ⊢
      have HJ := Lib.hid hBj
      have HT : Hid (togB l = decide (sizeL l ≤ 4000)) := by rw [Hid, togB, hall]; rfl
      clear hall hBj hz1
      generalize sizeL l = A at *
      go_wp2_with fail
      all_goals
        go_ret
        refine ⟨retB ?_, HJ.out⟩
        rw [HT.out, Bool.eq_iff_iff]
        simp [*]
        try omega
end Go.Proofs.YtdigiaigbcfccaaGreatDoor
