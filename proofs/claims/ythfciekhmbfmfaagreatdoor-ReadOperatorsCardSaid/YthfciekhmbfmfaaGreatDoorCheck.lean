import Derived.Test.YthfciekhmbfmfaaGreatDoorMeas
import Derived.Test.YthfciekhmbfmfaaGreatDoorLexO
namespace Go.Proofs.YthfciekhmbfmfaaGreatDoor
open Go.RowKit Go

def errI (b : Bool) : Int := if b then 0 else 3
def togB (l : List Tr) : Bool := l.all isB && decide (sizeL l ≤ 4000)

theorem all_take {l : List Tr} (i : Nat) (h : i < l.length) (ha : (l.take i).all isB = true) (hi : isB l[i] = true) : (l.take (i + 1)).all isB = true := by
  rw [List.take_succ_eq_append_getElem h, List.all_append, ha]; simp [hi]
theorem all_not {l : List Tr} {i : Nat} (h : i < l.length) (hi : isB l[i] = false) : l.all isB = false := by
  rw [List.all_eq_false]; exact ⟨l[i], List.getElem_mem h, by simp [hi]⟩

set_option maxRecDepth 100000 in
set_option maxHeartbeats 1000000 in
theorem checkEach_any (l : List Tr) (a : Option Addr) (c : Nat) (w : World) (hm : l.length ≤ maxLen) (hl : IsL w.heap.size w l a) (hdp : ∀ t, t ∈ l → t.deep ≤ 999999999) :
    Calls Tryz.prog 123 #[.slice a l.length c] w fun e w' => e = .returned (.int .i64 (errI (l.all isB))) ∧ Below w.heap.size w w' := by
  unfold maxLen at hm
  have HD := Lib.hid hdp
  clear hdp
  by_cases h0 : 0 < l.length
  · obtain ⟨b, off, rfl, hb⟩ := hl.addr h0
    go_enter Tryz.func123, Tryz.ntmps123
    go_wp2_with fail
    go_loopw [9] (fun i wr => ∃ k : Nat, k ≤ l.length ∧ i = .int .i64 k ∧ (l.take k).all isB = true ∧ Below w.heap.size w wr) (fun i _ => l.length - (intOf i).toNat)
    case atStart => exact ⟨0, Nat.zero_le _, rfl, rfl, Below.refl _ _⟩
    case round =>
      obtain ⟨k, hk, rfl, hall, hB⟩ := hrel
      have Hall := Lib.hid hall
      clear hall
      by_cases hlt : k < l.length
      · obtain ⟨tk, tn, ts, tl, ta, tc, te, c0, c1, c2, c3, ht⟩ := (hl.below hB).node k hlt
        have Te := Lib.hid te
        clear te
        have hbw : b < wr.heap.size := by have := hB.size; omega
        go_wp2_with fail
        refine (measure_any l[k] _ _ (ht.up (below_a1 hB.size _) (size_a1 hB.size _)) (HD.out _ (List.getElem_mem hlt))).mono ?_
        rintro e w1 ⟨rfl, hB1⟩
        have hB2 := hB.trans ((below_a1 hB.size _).trans (hB1.mono (size_a1 hB.size _)))
        clear hB1
        cases hi : isB l[k] with
        | true =>
          have Hn := Lib.hid (all_take k hlt Hall.out hi)
          clear hi
          go_wp2_with fail
          go_roundw
          case rel => exact ⟨k + 1, hlt, by go_num, Hn.out, hB2.alloc hB2.size _⟩
          case measure => simp [intOf]; omega
        | false =>
          have Hn : Hid (errI (l.all isB) = 3) := by rw [Hid, all_not hlt hi]; rfl
          clear hi
          go_wp2_with fail
          go_ret
          exact ⟨retI Hn.out, hB2.alloc hB2.size _⟩
      · have Hn : Hid (errI (l.all isB) = 0) := by
          have := Hall.out
          rw [List.take_of_length_le (by omega)] at this
          rw [Hid, this]; rfl
        go_wp2_with fail
        go_ret
        exact ⟨retI Hn.out, hB⟩
  · have e1 : l = [] := List.length_eq_zero_iff.1 (by omega)
    subst e1
    have Hn : Hid (errI (([] : List Tr).all isB) = 0) := rfl
    clear h0
    simp only [List.length_nil]
    go_enter Tryz.func123, Tryz.ntmps123
    go_wp2_with fail
    refine wp_loop_rounds 1 ?_
    rw [rounds_succ]
    go_wp2_with fail
    go_ret
    exact ⟨retI Hn.out, Below.refl _ _⟩

set_option maxHeartbeats 1000000 in
theorem check_any (T : Tr) (v : Value) (w : World) (hT : IsT w.heap.size w T v) (hdp : T.deep ≤ 999999999) :
    Calls Tryz.prog 83 #[v] w fun e W' => e = .returned (.int .i64 (errI (isB T))) ∧ Below w.heap.size w W' := by
  cases hTc : T with
  | node k nn s ts =>
  subst hTc
  have hT' := hT
  obtain ⟨a, c, rfl, _⟩ := hT'.open
  go_enter Tryz.func83, Tryz.ntmps83
  go_wp2_with fail
  refine (checkEach_any [.node k nn s ts] (some ⟨w.heap.size + 1, 0, none⟩) 1 _ (by unfold maxLen; simp) ?_ (by simpa using hdp)).mono ?_
  · have hblk := block_at (W := w.alloc (.cells #[.int .i64 k, .int .i64 nn, .string s, .slice a ts.length c] 31)) (B := w.heap.size + 1) (o := .cells #[.int .i64 k, .int .i64 nn, .string s, .slice a ts.length c] 31) (by simp)
    exact IsL.cons (by simp) (box_cell hblk 0) (box_cell hblk 1) (box_cell hblk 2) (box_cell hblk 3) (hT.up (below_a2 (Nat.le_refl _) _ _) (by simp; omega)) IsL.nil
  rintro e w1 ⟨rfl, hB1⟩
  have hB2 := (below_a2 (Nat.le_refl _) _ _).trans (hB1.mono (size_a2 (Nat.le_refl _) _ _))
  clear hB1
  go_wp2_with fail
  go_ret
  exact ⟨rfl, hB2⟩

theorem sizeL_take {l : List Tr} (i : Nat) (h : i < l.length) : sizeL (l.take (i + 1)) = sizeL (l.take i) + l[i].size := by
  rw [List.take_succ_eq_append_getElem h, sizeL_append]; simp [sizeL]
theorem sizeL_take_le {l : List Tr} (i : Nat) : sizeL (l.take i) ≤ sizeL l := by
  have e : l = l.take i ++ l.drop i := by simp
  conv => rhs; rw [e]
  rw [sizeL_append]; omega

set_option maxRecDepth 100000 in
set_option maxHeartbeats 1000000 in
theorem checkAll_any (l : List Tr) (a : Option Addr) (c : Nat) (w : World) (hm : l.length ≤ maxLen) (hl : IsL w.heap.size w l a) (hdp : ∀ t, t ∈ l → t.deep ≤ 999999999) :
    Calls Tryz.prog 119 #[.slice a l.length c] w fun e w' => e = .returned (.int .i64 (errI (togB l))) ∧ Below w.heap.size w w' := by
  unfold maxLen at hm
  have HD := Lib.hid hdp
  clear hdp
  by_cases h0 : 0 < l.length
  · obtain ⟨b, off, rfl, hb⟩ := hl.addr h0
    go_enter Tryz.func119, Tryz.ntmps119
    go_wp2_with fail
    go_loopw [3, 10] (fun t i wr => ∃ k : Nat, k ≤ l.length ∧ i = .int .i64 k ∧ t = .int .i64 (sizeL (l.take k)) ∧ sizeL (l.take k) ≤ 4000 ∧ (l.take k).all isB = true ∧ Below w.heap.size w wr) (fun _ i _ => l.length - (intOf i).toNat)
    case atStart => exact ⟨0, Nat.zero_le _, rfl, rfl, by simp [sizeL], rfl, Below.refl _ _⟩
    case round =>
      obtain ⟨k, hk, rfl, rfl, hcnt, hall, hB⟩ := hrel
      have Hall := Lib.hid hall
      clear hall
      by_cases hlt : k < l.length
      · obtain ⟨tk, tn, ts, tl, ta, tc, te, c0, c1, c2, c3, ht⟩ := (hl.below hB).node k hlt
        have Te := Lib.hid te
        clear te
        have hbw : b < wr.heap.size := by have := hB.size; omega
        go_wp2_with fail
        refine (measure_any l[k] _ _ (ht.up (below_a1 hB.size _) (size_a1 hB.size _)) (HD.out _ (List.getElem_mem hlt))).mono ?_
        rintro e w1 ⟨rfl, hB1⟩
        have hB2 := hB.trans ((below_a1 hB.size _).trans (hB1.mono (size_a1 hB.size _)))
        clear hB1
        cases hi : isB l[k] with
        | true =>
          have hmN : measN l[k] = (l[k].size : Nat) := by simp [measN, hi]
          rw [hmN]
          have hsk : l[k].size ≤ 4000 := by
            simp [isB] at hi; exact hi.1.1
          have Hn := Lib.hid (all_take k hlt Hall.out hi)
          have Hs := Lib.hid (sizeL_take k hlt)
          clear hi hmN
          by_cases hbig : sizeL (l.take k) + l[k].size ≤ 4000
          · go_wp2_with fail
            go_roundw
            case rel => exact ⟨k + 1, hlt, by go_num, by rw [Hs.out]; go_num, by rw [Hs.out]; exact hbig, Hn.out, hB2.alloc hB2.size _⟩
            case measure => simp [intOf]; omega
          · have Hr : Hid (errI (togB l) = 3) := by
              have h1 := sizeL_take_le (l := l) (k + 1)
              rw [Hs.out] at h1
              have : ¬ sizeL l ≤ 4000 := by omega
              simp [Hid, togB, this, errI]
            go_wp2_with fail
            go_ret
            exact ⟨retI Hr.out, hB2.alloc hB2.size _⟩
        | false =>
          have hmN : measN l[k] = 0 := by simp [measN, hi]
          rw [hmN]
          have Hn : Hid (errI (togB l) = 3) := by rw [Hid, togB, all_not hlt hi]; rfl
          clear hi hmN
          go_wp2_with fail
          go_ret
          exact ⟨retI Hn.out, hB2.alloc hB2.size _⟩
      · have Hn : Hid (errI (togB l) = 0) := by
          have := Hall.out
          rw [List.take_of_length_le (by omega)] at this hcnt
          simp [Hid, togB, this, hcnt, errI]
        go_wp2_with fail
        go_ret
        exact ⟨retI Hn.out, hB⟩
  · have e1 : l = [] := List.length_eq_zero_iff.1 (by omega)
    subst e1
    have Hn : Hid (errI (togB []) = 0) := by simp [Hid, togB, sizeL, errI]
    clear h0
    simp only [List.length_nil]
    go_enter Tryz.func119, Tryz.ntmps119
    go_wp2_with fail
    refine wp_loop_rounds 1 ?_
    rw [rounds_succ]
    go_wp2_with fail
    go_ret
    exact ⟨retI Hn.out, Below.refl _ _⟩

end Go.Proofs.YthfciekhmbfmfaaGreatDoor

/- What is read is no greater than a term: limit. -/
namespace Go.Proofs.YthfciekhmbfmfaaGreatDoor
open Go.RowKit Go Go.Maps

/-- The readings that lie from an address on: their terms. -/
def RdL (W : World) (b off : Nat) (ts : List Tr) : Prop := ∀ i (hi : i < ts.length), ∃ (k n : Int) (s : ByteArray) (x : Option Addr) (y z : Nat) (xa : Option Addr) (ya za : Nat),
  W.cell? ⟨b, off + i * 5, none⟩ = some (.int .i64 k) ∧ W.cell? ⟨b, off + i * 5 + 1, none⟩ = some (.int .i64 n) ∧ W.cell? ⟨b, off + i * 5 + 2, none⟩ = some (.string s) ∧ W.cell? ⟨b, off + i * 5 + 3, none⟩ = some (.slice x y z) ∧ W.cell? ⟨b, off + i * 5 + 4, none⟩ = some (.slice xa ya za) ∧
  IsT W.heap.size W ts[i] (.agg #[.int .i64 k, .int .i64 n, .string s, .slice x y z]) ∧ ts[i].deep ≤ 999999999
/-- What limit hands back. -/
def LimQ (b : Bool) (W : World) (e : Ending) (W' : World) : Prop := Below W.heap.size W W' ∧ e = if b then .returned (.tuple #[]) else thrown 0 2
set_option maxRecDepth 100000 in
set_option maxHeartbeats 8000000 in
theorem limit_any (ts : List Tr) (b off c : Nat) (W : World) (h : RdL W b off ts) (hb : b < W.heap.size) (hl : ts.length ≤ 8000) :
    Calls Tryz.prog 68 #[.slice (some ⟨b, off, none⟩) ts.length c] W (LimQ (ts.all isB) W) := by
  have HT := Lib.hid (fun w => throw_any 0 2 w)
  have HH := Lib.hid h
  clear h
  go_enter Tryz.func68, Tryz.ntmps68
  go_wp2_with fail
  go_loopw [6] (fun iv wr => ∃ j : Nat, j ≤ ts.length ∧ iv = .int .i64 (j : Int) ∧ Below W.heap.size W wr ∧ Hid (∀ t ∈ ts.take j, isB t = true)) (fun iv _ => ts.length - (intOf iv).toNat)
  case atStart => exact ⟨0, Nat.zero_le _, rfl, Below.refl _ _, by intro t ht; simp at ht⟩
  case round =>
    obtain ⟨j, hj, rfl, hB, hall⟩ := hrel
    have HB := Lib.hid hB
    have hsz := hB.size
    by_cases hlt : j < ts.length
    · obtain ⟨k, n, s, x, y, z, xa, ya, za, c0, c1, c2, c3, c4, ht, hd⟩ := HH.out j hlt
      rw [← hB.cell (p := ⟨b, off + j * 5, none⟩) hb] at c0
      rw [← hB.cell (p := ⟨b, off + j * 5 + 1, none⟩) hb] at c1
      rw [← hB.cell (p := ⟨b, off + j * 5 + 2, none⟩) hb] at c2
      rw [← hB.cell (p := ⟨b, off + j * 5 + 3, none⟩) hb] at c3
      rw [← hB.cell (p := ⟨b, off + j * 5 + 4, none⟩) hb] at c4
      have hbw : b < wr.heap.size := by omega
      have hA : Below wr.heap.size wr (wr.alloc (.cells #[.int .i64 k, .int .i64 n, .string s, .slice x y z, .slice xa ya za] 86)) := below_a1 (Nat.le_refl _) _
      have hB2 := HB.out.trans (hA.mono hsz)
      have hbx : Box (wr.alloc (.cells #[.int .i64 k, .int .i64 n, .string s, .slice x y z, .slice xa ya za] 86)) wr.heap.size #[.int .i64 k, .int .i64 n, .string s, .slice x y z, .slice xa ya za] 86 := World.alloc_heap_new _ _
      have HC := Lib.hid (check_any ts[j] _ _ (ht.up hB2 hB2.size) hd)
      have HB2 := Lib.hid hB2
      have q0 := hbx.cell 0
      have q1 := hbx.cell 1
      have q2 := hbx.cell 2
      have q3 := hbx.cell 3
      simp only [List.getElem?_toArray, List.getElem?_cons_succ, List.getElem?_cons_zero] at q0 q1 q2 q3
      clear hB ht hA hB2 hbx
      go_wp2_with fail
      refine (HC.out).mono ?_
      rintro e w2 ⟨rfl, hB3⟩
      have hB4 := HB2.out.trans (hB3.mono HB2.out.size)
      cases hb2 : isB ts[j] with
      | true =>
        have HN : Hid (∀ t ∈ ts.take (j + 1), isB t = true) := by
          intro t ht
          rw [List.take_succ_eq_append_getElem hlt] at ht
          rcases List.mem_append.1 ht with h | h
          · exact hall.out t h
          · rw [List.mem_singleton.1 h]; exact hb2
        rw [show errI true = 0 from rfl]
        have HB4 := Lib.hid hB4
        clear hb2 hB3 hB4
        go_wp2_with fail
        go_roundw
        case rel => exact ⟨j + 1, hlt, by go_num, HB4.out, HN⟩
        case measure => simp [intOf]; omega
      | false =>
        have HN : Hid (ts.all isB = false) := by
          rw [Hid, List.all_eq_false]
          exact ⟨ts[j], List.getElem_mem hlt, by simp [hb2]⟩
        rw [show errI false = 3 from rfl]
        have HB4 := Lib.hid hB4
        clear hb2 hB3 hB4
        go_wp2_with fail
        refine (HT.out _).mono ?_
        rintro e w3 ⟨rfl, rfl⟩
        refine And.intro rfl ?_
        rw [LimQ, HN.out]
        exact ⟨HB4.out, rfl⟩
    · have HN : Hid (ts.all isB = true) := by
        have h1 := hall.out
        rw [List.take_of_length_le (by omega)] at h1
        rw [Hid, List.all_eq_true]
        exact fun t ht => h1 t ht
      go_wp2_with fail
      first | go_end0 | go_ret
      rw [LimQ, HN.out]
      exact ⟨HB.out, rfl⟩
end Go.Proofs.YthfciekhmbfmfaaGreatDoor
