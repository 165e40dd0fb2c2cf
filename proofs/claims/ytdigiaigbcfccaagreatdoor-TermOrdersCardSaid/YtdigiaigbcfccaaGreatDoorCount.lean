import Derived.Test.YtdigiaigbcfccaaGreatDoorMatch
namespace Go.Proofs.YtdigiaigbcfccaaGreatDoor
open Go.RowKit Go

mutual
/-- Counting nodes down from m: whether it goes on, and what is left. -/
def cntT : Tr → Int → Int → Bool × Int
  | .node _ _ s l, m, d => if m - 1 < 0 ∨ 700 < d ∨ 1000 < (s.size : Int) then (false, m - 1) else cntL l (m - 1) (d + 1)
def cntL : List Tr → Int → Int → Bool × Int
  | [], m, _ => (true, m)
  | t :: ts, m, d => if (cntT t m d).1 = true then cntL ts (cntT t m d).2 d else (false, (cntT t m d).2)
end
mutual
theorem cntT_le : ∀ (T : Tr) (m d : Int), 0 ≤ m → (cntT T m d).1 = true → 0 ≤ (cntT T m d).2 ∧ (cntT T m d).2 ≤ m
  | .node _ _ s l, m, d, h0, h => by
    rw [cntT] at h ⊢
    split at h
    · cases h
    · rename_i hc
      rw [if_neg hc]
      have := cntL_le l (m - 1) (d + 1) (by omega) h
      omega
theorem cntL_le : ∀ (l : List Tr) (m d : Int), 0 ≤ m → (cntL l m d).1 = true → 0 ≤ (cntL l m d).2 ∧ (cntL l m d).2 ≤ m
  | [], m, d, h0, _ => by simp [cntL]; omega
  | t :: ts, m, d, h0, h => by
    rw [cntL] at h ⊢
    split at h
    · rename_i hc
      rw [if_pos hc]
      have h1 := cntT_le t m d h0 hc
      have h2 := cntL_le ts _ d h1.1 h
      omega
    · cases h
end
theorem cntL_take : ∀ (l : List Tr) (m d x : Int) (j : Nat) (h : j < l.length), cntL (l.take j) m d = (true, x) → cntL (l.take (j + 1)) m d = cntT l[j] x d
  | t :: ts, m, d, x, 0, _, hm => by
    simp only [List.take_zero, cntL, Prod.mk.injEq, true_and] at hm
    subst hm
    simp only [List.take_succ_cons, List.take_zero, cntL, List.getElem_cons_zero]
    split
    · rename_i h; exact Prod.ext h.symm rfl
    · rename_i h; exact Prod.ext (by simpa using (Bool.eq_false_iff.2 h).symm) rfl
  | t :: ts, m, d, x, j + 1, h, hm => by
    simp only [List.take_succ_cons, cntL, List.getElem_cons_succ] at hm ⊢
    split at hm
    · rename_i hc
      rw [if_pos hc]
      exact cntL_take ts _ d x j (by simpa using h) hm
    · cases hm
theorem cntL_false : ∀ (l : List Tr) (m d x : Int) (j : Nat), cntL (l.take j) m d = (false, x) → cntL l m d = (false, x)
  | [], m, d, x, j, h => by simp [cntL] at h
  | t :: ts, m, d, x, 0, h => by simp [cntL] at h
  | t :: ts, m, d, x, j + 1, h => by
    simp only [List.take_succ_cons, cntL] at h ⊢
    split at h
    · rename_i hc; rw [if_pos hc]; exact cntL_false ts _ d x j h
    · rename_i hc; rw [if_neg hc]; exact h

def CountPost (P : Nat) (r : Bool × Int) (w : World) (e : Ending) (w' : World) : Prop := e = .returned (.bool r.1) ∧ Box w' P #[.int .i64 r.2] 3 ∧ w.grownBy w' (some P)

set_option maxRecDepth 100000 in
set_option maxHeartbeats 1000000 in
theorem count_any (n₀ P : Nat) (hP : n₀ ≤ P) (T : Tr) : ∀ (v : Value) (m d : Int) (w : World), IsT n₀ w T v → n₀ ≤ w.heap.size → Box w P #[.int .i64 m] 3 → 0 ≤ m → m ≤ 1000000 → 0 ≤ d → d ≤ 1000 →
    Calls Tryz.prog 31 #[v, .pointer (some ⟨P, 0, none⟩), .int .i64 d] w (CountPost P (cntT T m d) w) := by
  induction T using Tr.ind with
  | h k n s l ih =>
  intro v m d w hT hn hb hm0 hm1 hd0 hd1
  obtain ⟨a, c, rfl, _, _, hs, hlc, hcm, hl⟩ := hT.open
  have HI := Lib.hid ih
  have HL := Lib.hid hl
  have hPl := hb.lt
  have b0 : Box (w.alloc (.cells #[.int .i64 k, .int .i64 n, .string s, .slice a l.length c] 24)) w.heap.size #[.int .i64 k, .int .i64 n, .string s, .slice a l.length c] 24 := Box.at rfl
  have c0 := (hb.alloc (.cells #[.int .i64 k, .int .i64 n, .string s, .slice a l.length c] 24)).cell 0
  have f0 := (hb.alloc (.cells #[.int .i64 k, .int .i64 n, .string s, .slice a l.length c] 24)).frozen 0
  simp only [List.getElem?_toArray, List.getElem?_cons_zero] at c0
  have b1 : Box ((w.setCell ⟨P, 0, none⟩ (.int .i64 (m - 1))).alloc (.cells #[.int .i64 k, .int .i64 n, .string s, .slice a l.length c] 24)) P #[.int .i64 (m - 1)] 3 := Box.alloc (by simpa using hb.set 0 (.int .i64 (m - 1))) _
  have bt : Box ((w.setCell ⟨P, 0, none⟩ (.int .i64 (m - 1))).alloc (.cells #[.int .i64 k, .int .i64 n, .string s, .slice a l.length c] 24)) w.heap.size #[.int .i64 k, .int .i64 n, .string s, .slice a l.length c] 24 := Box.at (by simp)
  have hg : w.grownBy ((w.setCell ⟨P, 0, none⟩ (.int .i64 (m - 1))).alloc (.cells #[.int .i64 k, .int .i64 n, .string s, .slice a l.length c] 24)) (some P) := grown_trans (grown_set P 0 w _) (World.grownBy_alloc _ _ _)
  have t2 := bt.cell 2
  have t3 := bt.cell 3
  have p0 := b1.cell 0
  have lt := bt.lt
  have lp := b1.lt
  simp only [List.getElem?_toArray, List.getElem?_cons_succ, List.getElem?_cons_zero] at t2 t3 p0
  have HB := Lib.hid (And.intro b1 hg)
  have hsM : s.size ≤ 9223372036854775807 := by unfold maxLen at hs; omega
  clear ih hT hl hb b0 b1 bt hg
  by_cases h1 : m - 1 < 0
  · have hc : Hid (cntT (.node k n s l) m d = (false, m - 1)) := by rw [Hid, cntT, if_pos (.inl h1)]
    go_enter Tryz.func31, Tryz.ntmps31
    go_wp2_with fail
    go_ret
    refine ⟨?_, ?_, HB.out.2⟩
    · rw [hc.out]; rfl
    · rw [hc.out]; exact HB.out.1
  · by_cases h2 : 700 < d
    · have hc : Hid (cntT (.node k n s l) m d = (false, m - 1)) := by rw [Hid, cntT, if_pos (.inr (.inl h2))]
      go_enter Tryz.func31, Tryz.ntmps31
      go_wp2_with fail
      go_ret
      refine ⟨?_, ?_, HB.out.2⟩
      · rw [hc.out]; rfl
      · rw [hc.out]; exact HB.out.1
    · by_cases h3 : 1000 < (s.size : Int)
      · have hc : Hid (cntT (.node k n s l) m d = (false, m - 1)) := by rw [Hid, cntT, if_pos (.inr (.inr h3))]
        go_enter Tryz.func31, Tryz.ntmps31
        go_wp2_with fail
        go_ret
        refine ⟨?_, ?_, HB.out.2⟩
        · rw [hc.out]; rfl
        · rw [hc.out]; exact HB.out.1
      · have hc : Hid (cntT (.node k n s l) m d = cntL l (m - 1) (d + 1)) := by rw [Hid, cntT, if_neg (by omega)]
        have hlm : l.length ≤ 9223372036854775807 := by unfold maxLen at hcm; omega
        go_enter Tryz.func31, Tryz.ntmps31
        go_wp2_with fail
        go_loopw [31] (fun i wr => ∃ (j : Nat) (x : Int), j ≤ l.length ∧ i = .int .i64 j ∧ cntL (l.take j) (m - 1) (d + 1) = (true, x) ∧ 0 ≤ x ∧ x ≤ 1000000 ∧ Box wr P #[.int .i64 x] 3 ∧ w.grownBy wr (some P)) (fun i _ => l.length - (intOf i).toNat)
        case atStart => exact ⟨0, m - 1, Nat.zero_le _, rfl, by simp [cntL], by omega, by omega, HB.out.1, HB.out.2⟩
        case round =>
          obtain ⟨j, x, hj, rfl, hcj, hx0, hx1, hbj, hgj⟩ := hrel
          by_cases hlt : j < l.length
          · obtain ⟨b, off, rfl, hbb⟩ := HL.out.addr (by omega)
            have hBj := grown_below hgj hn hP
            obtain ⟨tk, tn, ts, tl, ta, tc, te, c0, c1, c2, c3, ht⟩ := HL.out.node' hbb hBj j hlt
            have hbw : b < wr.heap.size := by have := hgj.size; omega
            have hwr := hgj.size
            have hstep := cntL_take l (m - 1) (d + 1) x j hlt hcj
            have Te := Lib.hid (And.intro te hstep)
            have HJ := Lib.hid (And.intro hbj hgj)
            clear te hstep hbj hgj hcj
            go_wp2_with fail
            refine (HI.out _ (List.getElem_mem hlt) _ x (d + 1) _ ((ht.below hBj).below (below_a1 (by omega) _)) (by simp; omega) (HJ.out.1.alloc _) hx0 hx1 (by omega) (by omega)).mono ?_
            rintro e w2 ⟨rfl, hb2, hg2⟩
            have hg3 := grown_trans (grown_trans HJ.out.2 (World.grownBy_alloc wr _ _)) hg2
            have HK := Lib.hid (And.intro hb2 hg3)
            clear hb2 hg2 hg3
            cases hr : (cntT l[j] x (d + 1)).1 with
            | true =>
              have hle := cntT_le _ _ _ hx0 hr
              have Hr := Lib.hid hr
              clear hr
              go_wp2_with fail
              go_roundw
              case rel => exact ⟨j + 1, _, hlt, by go_num, by rw [Te.out.2]; exact Prod.ext Hr.out rfl, hle.1, by omega, HK.out.1, HK.out.2⟩
              case measure => simp [intOf]; omega
            | false =>
              have Hr : Hid (cntL l (m - 1) (d + 1) = (false, (cntT l[j] x (d + 1)).2)) := cntL_false l _ _ _ (j + 1) (by rw [Te.out.2]; exact Prod.ext hr rfl)
              clear hr
              go_wp2_with fail
              go_ret
              refine ⟨?_, ?_, HK.out.2⟩
              · rw [hc.out, Hr.out]; rfl
              · rw [hc.out, Hr.out]; exact HK.out.1
          · rw [List.take_of_length_le (by omega)] at hcj
            have Hc := Lib.hid hcj
            have HJ := Lib.hid (And.intro hbj hgj)
            clear hcj hbj hgj
            go_wp2_with fail
            go_ret
            refine ⟨?_, ?_, HJ.out.2⟩
            · rw [hc.out, Hc.out]; rfl
            · rw [hc.out, Hc.out]; exact HJ.out.1

/-- The trees have together few nodes, none too deep, no name too long. -/
def smallB (l : List Tr) : Bool := (cntL l 1500 1).1
set_option maxRecDepth 100000 in
set_option maxHeartbeats 1000000 in
theorem small_any (l : List Tr) (a : Option Addr) (c : Nat) (w : World) (hm : l.length ≤ maxLen) (hl : IsL w.heap.size w l a) :
    Calls Tryz.prog 5 #[.slice a l.length c] w fun e w' => e = .returned (.bool (smallB l)) ∧ Below w.heap.size w w' := by
  have HL := Lib.hid hl
  have hlm : l.length ≤ 9223372036854775807 := by unfold maxLen at hm; omega
  clear hl
  go_enter Tryz.func5, Tryz.ntmps5
  go_wp2_with fail
  have hb0 : Box (w.alloc (.cells #[.int .i64 1500] 3)) w.heap.size #[.int .i64 1500] 3 := Box.at rfl
  go_loopw [8] (fun i wr => ∃ (j : Nat) (x : Int), j ≤ l.length ∧ i = .int .i64 j ∧ cntL (l.take j) 1500 1 = (true, x) ∧ 0 ≤ x ∧ x ≤ 1000000 ∧ Box wr w.heap.size #[.int .i64 x] 3 ∧ Below w.heap.size w wr) (fun i _ => l.length - (intOf i).toNat)
  case atStart => exact ⟨0, 1500, Nat.zero_le _, rfl, by simp [cntL], by omega, by omega, hb0, below_a1 (Nat.le_refl _) _⟩
  case round =>
    obtain ⟨j, x, hj, rfl, hcj, hx0, hx1, hbj, hBj⟩ := hrel
    by_cases hlt : j < l.length
    · obtain ⟨b, off, rfl, hbb⟩ := HL.out.addr (by omega)
      obtain ⟨tk, tn, ts, tl, ta, tc, te, c0, c1, c2, c3, ht⟩ := HL.out.node' hbb hBj j hlt
      have hwr := hBj.size
      have hbw : b < wr.heap.size := by omega
      have hstep := cntL_take l 1500 1 x j hlt hcj
      have Te := Lib.hid (And.intro te hstep)
      have HJ := Lib.hid (And.intro hbj hBj)
      clear te hstep hbj hBj hcj
      go_wp2_with fail
      refine (count_any w.heap.size w.heap.size (Nat.le_refl _) l[j] _ x 1 _ ((ht.below HJ.out.2).below (below_a1 (by omega) _)) (by simp; omega) (HJ.out.1.alloc _) hx0 hx1 (by omega) (by omega)).mono ?_
      rintro e w2 ⟨rfl, hb2, hg2⟩
      have hB2 := (HJ.out.2.trans (below_a1 hwr _)).trans (grown_below hg2 (by simp; omega) (Nat.le_refl _))
      have HK := Lib.hid (And.intro hb2 hB2)
      clear hb2 hg2 hB2
      cases hr : (cntT l[j] x 1).1 with
      | true =>
        have hle := cntT_le _ _ _ hx0 hr
        have Hr := Lib.hid hr
        clear hr
        go_wp2_with fail
        go_roundw
        case rel => exact ⟨j + 1, _, hlt, by go_num, by rw [Te.out.2]; exact Prod.ext Hr.out rfl, hle.1, by omega, HK.out.1, HK.out.2⟩
        case measure => simp [intOf]; omega
      | false =>
        have Hr : Hid (smallB l = false) := by rw [Hid, smallB, cntL_false l _ _ _ (j + 1) (by rw [Te.out.2]; exact Prod.ext hr rfl)]
        clear hr
        go_wp2_with fail
        go_ret
        exact ⟨retB Hr.out, HK.out.2⟩
    · rw [List.take_of_length_le (by omega)] at hcj
      have Hc : Hid (smallB l = true) := by rw [Hid, smallB, hcj]
      have HJ := Lib.hid hBj
      clear hcj hbj hBj
      go_wp2_with fail
      go_ret
      exact ⟨retB Hc.out, HJ.out⟩
end Go.Proofs.YtdigiaigbcfccaaGreatDoor

namespace Go.Proofs.YtdigiaigbcfccaaGreatDoor
open Go.RowKit Go

set_option maxHeartbeats 1000000 in
theorem refName_any (s : ByteArray) (hs : s.size ≤ maxLen) (w : World) : Calls Tryz.prog 110 #[.string s] w fun e w' => e = .returned (.bool (nameB s)) ∧ w' = w := by
  unfold maxLen at hs
  go_enter Tryz.func110, Tryz.ntmps110
  go_wp2_with fail
  go_loop [3] (fun i => ∃ k : Nat, k ≤ s.size ∧ i = .int .i64 k ∧ (s.data.toList.take k).all byteB = true) (fun i => s.size - (intOf i).toNat)
  case atStart => exact ⟨0, Nat.zero_le _, rfl, rfl⟩
  case round =>
    obtain ⟨k, hk, rfl, hall⟩ := hrel
    have Hall := Lib.hid hall
    clear hall
    by_cases hlt : k < s.size
    · have hl : k < s.data.toList.length := by simpa using hlt
      have hg : Hid (s.data.toList[k] = s[k]) := by simp [Hid]; rfl
      cases hb : byteB s[k] with
      | true =>
        have ha : Hid ((s.data.toList.take (k + 1)).all byteB = true) := by
          simp only [Hid]
          rw [all_take_succ _ _ hl, Hall.out, hg.out, hb]; rfl
        have hb1 : 32 ≤ (s[k].toNat : Int) ∧ (s[k].toNat : Int) ≤ 126 := by
          simp [byteB] at hb; omega
        obtain ⟨hb1, hb2⟩ := hb1
        clear hb
        go_wp2_with fail
        go_round
        case rel => exact ⟨k + 1, by omega, by go_num, ha.out⟩
        case measure => simp [intOf]; omega
      | false =>
        have ha : Hid (nameB s = false) := by
          simp only [Hid, nameB]
          rw [all_false hl (by rw [hg.out, hb])]
          simp
        have hb1 : (s[k].toNat : Int) < 32 ∨ 126 < (s[k].toNat : Int) := by
          simp [byteB] at hb; omega
        clear hb
        go_wp2_with fail
        all_goals
          go_ret
          exact ⟨retB ha.out, rfl⟩
    · have hall := Hall.out
      rw [List.take_of_length_le (by simp; omega)] at hall
      have Ha : Hid (nameB s = (decide (1 ≤ s.size) && decide (s.size ≤ 32))) := by simp only [Hid, nameB, hall, Bool.and_true]
      clear hall
      go_wp2_with fail
      all_goals
        go_ret
        refine ⟨retB ?_, rfl⟩
        rw [Ha.out, Bool.eq_iff_iff]
        simp [*]
        try omega

set_option maxHeartbeats 2000000 in
theorem refNode_any (k n : Int) (s : ByteArray) (len : Nat) (a : Option Addr) (c : Nat) (w : World) (hm : len ≤ maxLen) (hs : s.size ≤ maxLen) :
    Calls Tryz.prog 98 #[.agg #[.int .i64 k, .int .i64 n, .string s, .slice a len c]] w fun e w' => e = .returned (.bool (nodeB k n s len)) ∧ Below w.heap.size w w' := by
  have hN := fun W => refName_any s hs W
  have HN := Lib.hid hN
  clear hN
  unfold maxLen at hm hs
  by_cases h1 : k = 1
  · subst h1
    go_enter Tryz.func98, Tryz.ntmps98
    go_wp2_with fail
    all_goals
      go_ret
      refine ⟨retB ?_, below_box1 _ _⟩
      rw [Bool.eq_iff_iff]
      simp [nodeB, *]
      try omega
  have h1' : (k == 1) = false := by simpa using h1
  have H1 := Lib.hid h1
  clear h1
  by_cases h2 : k = 2
  · subst h2
    go_enter Tryz.func98, Tryz.ntmps98
    go_wp2_with fail
    all_goals
      go_ret
      refine ⟨retB ?_, below_box1 _ _⟩
      rw [Bool.eq_iff_iff]
      simp [nodeB, *]
      try omega
  have h2' : (k == 2) = false := by simpa using h2
  have H2 := Lib.hid h2
  clear h2
  by_cases h3 : k = 3
  · subst h3
    go_enter Tryz.func98, Tryz.ntmps98
    go_wp2_with (go_at_call 110; refine (HN.out _).mono ?_; rintro e w' ⟨rfl, rfl⟩)
    all_goals
      go_ret
      refine ⟨retB ?_, below_box1 _ _⟩
      rw [Bool.eq_iff_iff]
      simp [nodeB, *]
      try omega
  have h3' : (k == 3) = false := by simpa using h3
  have H3 := Lib.hid h3
  clear h3
  by_cases h4 : k = 4
  · subst h4
    go_enter Tryz.func98, Tryz.ntmps98
    go_wp2_with fail
    all_goals
      go_ret
      refine ⟨retB ?_, below_box1 _ _⟩
      rw [Bool.eq_iff_iff]
      simp [nodeB, *]
      try omega
  have h4' : (k == 4) = false := by simpa using h4
  have H4 := Lib.hid h4
  clear h4
  by_cases h5 : k = 5
  · subst h5
    go_enter Tryz.func98, Tryz.ntmps98
    go_wp2_with (go_at_call 110; refine (HN.out _).mono ?_; rintro e w' ⟨rfl, rfl⟩)
    all_goals
      go_ret
      refine ⟨retB ?_, below_box1 _ _⟩
      rw [Bool.eq_iff_iff]
      simp [nodeB, *]
      try omega
  have h5' : (k == 5) = false := by simpa using h5
  have H5 := Lib.hid h5
  clear h5
  by_cases h6 : k = 6
  · subst h6
    go_enter Tryz.func98, Tryz.ntmps98
    go_wp2_with fail
    all_goals
      go_ret
      refine ⟨retB ?_, below_box1 _ _⟩
      rw [Bool.eq_iff_iff]
      simp [nodeB, *]
      try omega
  have h6' : (k == 6) = false := by simpa using h6
  have hn : Hid (nodeB k n s len = false) := by simp [Hid, nodeB, H1.out, H2.out, H3.out, H4.out, H5.out, h6]
  clear h6
  go_enter Tryz.func98, Tryz.ntmps98
  go_wp2_with fail
  go_ret
  exact ⟨retB hn.out, below_box1 _ _⟩

mutual
/-- All nodes are right by themselves. -/
def Tr.good : Tr → Bool
  | .node k n s l => nodeB k n s l.length && goodL l
def goodL : List Tr → Bool
  | [] => true
  | t :: ts => t.good && goodL ts
end
theorem goodL_all (l : List Tr) : goodL l = l.all Tr.good := by
  induction l with
  | nil => rfl
  | cons t ts ih => simp [goodL, ih]
mutual
theorem good_preT (d : Int) : ∀ T : Tr, (preT d T).all (fun x => x.2.okNode) = T.good
  | .node k n s l => by simp only [preT, List.all_cons, Tr.good, good_preL (d + 1) l]; rfl
theorem good_preL (d : Int) : ∀ l : List Tr, (preL d l).all (fun x => x.2.okNode) = goodL l
  | [] => rfl
  | t :: ts => by simp only [preL, List.all_append, goodL, good_preT d t, good_preL d ts]
end
theorem isB_good (T : Tr) : isB T = (decide (T.size ≤ 4000) && decide (T.deep ≤ 600) && T.good) := by rw [isB, nodesB, good_preT]

set_option maxRecDepth 100000 in
set_option maxHeartbeats 1000000 in
theorem refNodes_any (T : Tr) : ∀ (v : Value) (w : World), IsT w.heap.size w T v →
    Calls Tryz.prog 89 #[v] w fun e w' => e = .returned (.bool T.good) ∧ Below w.heap.size w w' := by
  induction T using Tr.ind with
  | h k n s l ih =>
  intro v w hT
  obtain ⟨a, c, rfl, _, _, hs, hlc, hcm, hl⟩ := hT.open
  have HI := Lib.hid ih
  have HL := Lib.hid hl
  have hlm : l.length ≤ maxLen := by omega
  have b0 : Box (w.alloc (.cells #[.int .i64 k, .int .i64 n, .string s, .slice a l.length c] 24)) w.heap.size #[.int .i64 k, .int .i64 n, .string s, .slice a l.length c] 24 := Box.at rfl
  have hB0 := below_a1 (Nat.le_refl w.heap.size) (.cells #[.int .i64 k, .int .i64 n, .string s, .slice a l.length c] 24)
  clear ih hT hl
  go_enter Tryz.func89, Tryz.ntmps89
  go_wp2_with fail
  refine (refNode_any k n s l.length a c _ hlm hs).mono ?_
  rintro e w1 ⟨rfl, hB1⟩
  replace b0 := Box.keep hB1 b0
  replace hB0 := hB0.trans (hB1.mono hB0.size)
  have t3 := b0.cell 3
  simp only [List.getElem?_toArray, List.getElem?_cons_succ, List.getElem?_cons_zero] at t3
  have hsz := b0.lt
  have HB := Lib.hid (And.intro b0 hB0)
  clear hB1 b0 hB0
  cases hn : nodeB k n s l.length with
  | false =>
    have HG : Hid (Tr.good (.node k n s l) = false) := by rw [Hid, Tr.good, hn]; rfl
    clear hn
    go_wp2_with fail
    go_ret
    exact ⟨retB HG.out, HB.out.2⟩
  | true =>
    have HG : Hid (Tr.good (.node k n s l) = l.all Tr.good) := by rw [Hid, Tr.good, hn, goodL_all]; rfl
    clear hn t3
    unfold maxLen at hlm
    go_wp2_with fail
    go_loopw [3] (fun i wr => ∃ j : Nat, j ≤ l.length ∧ i = .int .i64 j ∧ (l.take j).all Tr.good = true ∧ Box wr w.heap.size #[.int .i64 k, .int .i64 n, .string s, .slice a l.length c] 24 ∧ Below w.heap.size w wr) (fun i _ => l.length - (intOf i).toNat)
    case atStart => exact ⟨0, Nat.zero_le _, rfl, rfl, HB.out.1, HB.out.2⟩
    case round =>
      obtain ⟨j, hj, rfl, hall, hbj, hBj⟩ := hrel
      have c3 := hbj.cell 3
      simp only [List.getElem?_toArray, List.getElem?_cons_succ, List.getElem?_cons_zero] at c3
      have hwr := hbj.lt
      by_cases hlt : j < l.length
      · obtain ⟨b, off, rfl, hbb⟩ := HL.out.addr (by omega)
        obtain ⟨tk, tn, ts, tl, ta, tc, te, d0, d1, d2, d3, ht⟩ := HL.out.node' hbb hBj j hlt
        have hbw : b < wr.heap.size := by omega
        have Te := Lib.hid te
        have HJ := Lib.hid (And.intro hall (And.intro hbj hBj))
        clear te hall hbj hBj
        go_wp2_with fail
        refine (HI.out _ (List.getElem_mem hlt) _ _ (ht.up HJ.out.2.2 HJ.out.2.2.size)).mono ?_
        rintro e w2 ⟨rfl, hB2⟩
        have HK := Lib.hid (And.intro (Box.keep hB2 HJ.out.2.1) (HJ.out.2.2.trans (hB2.mono HJ.out.2.2.size)))
        clear hB2
        cases hg : (l[j]).good with
        | true =>
          have Hg : Hid ((l.take (j + 1)).all Tr.good = true) := by rw [Hid, List.take_succ_eq_append_getElem hlt, List.all_append, HJ.out.1]; simp [hg]
          clear hg
          go_wp2_with fail
          go_roundw
          case rel => exact ⟨j + 1, hlt, by go_num, Hg.out, HK.out.1, HK.out.2⟩
          case measure => simp [intOf]; omega
        | false =>
          have Hg : Hid (l.all Tr.good = false) := by rw [Hid, List.all_eq_false]; exact ⟨_, List.getElem_mem hlt, by simp [hg]⟩
          clear hg
          go_wp2_with fail
          go_ret
          exact ⟨retB (HG.out.trans Hg.out), HK.out.2⟩
      · rw [List.take_of_length_le (by omega)] at hall
        have HJ := Lib.hid (And.intro hall hBj)
        clear hall hbj hBj
        go_wp2_with fail
        go_ret
        exact ⟨retB (HG.out.trans HJ.out.1), HJ.out.2⟩

theorem deepL_take {l : List Tr} (i : Nat) (h : i < l.length) : deepL (l.take (i + 1)) = max (deepL (l.take i)) l[i].deep := by
  rw [List.take_succ_eq_append_getElem h]
  have H : ∀ u v : List Tr, deepL (u ++ v) = max (deepL u) (deepL v) := fun u v => by
    induction u with
    | nil => simp [deepL]
    | cons t ts ih => simp only [List.cons_append, deepL, ih]; omega
  rw [H]
  simp [deepL]
theorem deepL_take_le {l : List Tr} : ∀ i : Nat, deepL (l.take i) ≤ deepL l := fun i => by
  induction l generalizing i with
  | nil => simp
  | cons t ts ih => cases i with
    | zero => simp [deepL]
    | succ i => simp only [List.take_succ_cons, deepL]; have := ih i; omega

set_option maxRecDepth 100000 in
set_option maxHeartbeats 1000000 in
theorem refSize_any (T : Tr) : ∀ (v : Value) (w : World), IsT w.heap.size w T v → T.size ≤ 1000000000 → T.deep ≤ 1000000000 →
    Calls Tryz.prog 88 #[v] w fun e w' => e = .returned (.tuple #[.int .i64 T.size, .int .i64 T.deep]) ∧ Below w.heap.size w w' := by
  induction T using Tr.ind with
  | h k n s l ih =>
  intro v w hT hsz hdp
  obtain ⟨a, c, rfl, _, _, hs, hlc, hcm, hl⟩ := hT.open
  have HI := Lib.hid ih
  have HL := Lib.hid hl
  have hlm : l.length ≤ 9223372036854775807 := by unfold maxLen at hcm; omega
  have b0 : Box (w.alloc (.cells #[.int .i64 k, .int .i64 n, .string s, .slice a l.length c] 24)) w.heap.size #[.int .i64 k, .int .i64 n, .string s, .slice a l.length c] 24 := Box.at rfl
  have hB0 := below_a1 (Nat.le_refl w.heap.size) (.cells #[.int .i64 k, .int .i64 n, .string s, .slice a l.length c] 24)
  have HB := Lib.hid (And.intro b0 hB0)
  have HS : Hid (Tr.size (.node k n s l) = 1 + sizeL l ∧ Tr.deep (.node k n s l) = 1 + deepL l) := by rw [Hid, Tr.size, Tr.deep]; exact ⟨rfl, rfl⟩
  rw [HS.out.1] at hsz
  rw [HS.out.2] at hdp
  clear ih hT hl b0 hB0
  go_enter Tryz.func88, Tryz.ntmps88
  go_wp2_with fail
  go_loopw [4, 5, 6] (fun x y i wr => ∃ j : Nat, j ≤ l.length ∧ i = .int .i64 j ∧ x = .int .i64 (1 + (sizeL (l.take j) : Int)) ∧ y = .int .i64 (deepL (l.take j) : Int) ∧ Box wr w.heap.size #[.int .i64 k, .int .i64 n, .string s, .slice a l.length c] 24 ∧ Below w.heap.size w wr) (fun _ _ i _ => l.length - (intOf i).toNat)
  case atStart => exact ⟨0, Nat.zero_le _, rfl, rfl, rfl, HB.out.1, HB.out.2⟩
  case round =>
    obtain ⟨j, hj, rfl, rfl, rfl, hbj, hBj⟩ := hrel
    have c3 := hbj.cell 3
    simp only [List.getElem?_toArray, List.getElem?_cons_succ, List.getElem?_cons_zero] at c3
    have hwr := hbj.lt
    have hz1 := sizeL_take_le (l := l) j
    have hz2 := deepL_take_le (l := l) j
    by_cases hlt : j < l.length
    · obtain ⟨b, off, rfl, hbb⟩ := HL.out.addr (by omega)
      obtain ⟨tk, tn, ts, tl, ta, tc, te, d0, d1, d2, d3, ht⟩ := HL.out.node' hbb hBj j hlt
      have hbw : b < wr.heap.size := by omega
      have hq1 := sizeL_take j hlt
      have hq2 := deepL_take j hlt
      have hr1 := sizeL_take_le (l := l) (j + 1)
      have hr2 := deepL_take_le (l := l) (j + 1)
      have hu1 : l[j].size ≤ 1000000000 := by omega
      have hu2 : l[j].deep ≤ 1000000000 := by omega
      have hc := HI.out _ (List.getElem_mem hlt) _ wr (ht.up hBj hBj.size) hu1 hu2
      generalize hA : sizeL (l.take (j + 1)) = A at *
      generalize hD : deepL (l.take (j + 1)) = D at *
      generalize sizeL (l.take j) = A0 at *
      generalize deepL (l.take j) = D0 at *
      generalize l[j].size = A1 at *
      generalize l[j].deep = D1 at *
      have Te := Lib.hid te
      have HJ := Lib.hid (And.intro hbj hBj)
      have HQ := Lib.hid (And.intro (And.intro hq1 hq2) (And.intro hA hD))
      have hle : (A0 : Int) + A1 ≤ 1000000000 := by omega
      have hnn : 0 ≤ (A0 : Int) ∧ 0 ≤ (A1 : Int) := by omega
      have HC := Lib.hid hc
      clear te hbj hBj hq1 hq2 hA hD hc
      go_wp2_with fail
      refine HC.out.mono ?_
      rintro e w2 ⟨rfl, hB2⟩
      have HK := Lib.hid (And.intro (Box.keep hB2 HJ.out.1) (HJ.out.2.trans (hB2.mono HJ.out.2.size)))
      clear hB2
      go_wp2_with fail
      all_goals
        go_roundw
        case rel =>
          refine ⟨j + 1, hlt, by go_num, ?_, ?_, HK.out.1, HK.out.2⟩
          · rw [HQ.out.2.1]; have := HQ.out.1.1; congr 1; omega
          · rw [HQ.out.2.2]; have := HQ.out.1.2; congr 1; omega
        case measure => simp [intOf]; omega
    · rw [List.take_of_length_le (by omega)]
      have HJ := Lib.hid hBj
      have HQ : Hid (1 + (sizeL l : Int) = ((1 + sizeL l : Nat) : Int) ∧ (deepL l : Int) + 1 = ((1 + deepL l : Nat) : Int)) := ⟨by omega, by omega⟩
      generalize hA : sizeL l = A at *
      generalize hD : deepL l = D at *
      clear hBj hbj hA hD hz1 hz2
      go_wp2_with fail
      go_ret2
      refine ⟨?_, HJ.out⟩
      rw [HS.out.1, HS.out.2, ← HQ.out.1, ← HQ.out.2]
      rfl

set_option maxRecDepth 100000 in
set_option maxHeartbeats 1000000 in
theorem refIs_any (T : Tr) (v : Value) (w : World) (hT : IsT w.heap.size w T v) (hsz : T.size ≤ 1000000000) (hdp : T.deep ≤ 1000000000) :
    Calls Tryz.prog 65 #[v] w fun e w' => e = .returned (.bool (isB T)) ∧ Below w.heap.size w w' := by
  cases hTc : T with
  | node k n s l =>
  subst hTc
  have hT' := hT
  obtain ⟨a, c, rfl, _⟩ := hT'.open
  have HT := Lib.hid hT
  have b0 : Box (w.alloc (.cells #[.int .i64 k, .int .i64 n, .string s, .slice a l.length c] 24)) w.heap.size #[.int .i64 k, .int .i64 n, .string s, .slice a l.length c] 24 := Box.at rfl
  have hB0 := below_a1 (Nat.le_refl w.heap.size) (.cells #[.int .i64 k, .int .i64 n, .string s, .slice a l.length c] 24)
  have hg := isB_good (.node k n s l)
  have hc := refSize_any (.node k n s l) _ _ (hT.up hB0 hB0.size) hsz hdp
  have hN : ∀ W, Below w.heap.size w W → Calls Tryz.prog 89 #[.agg #[.int .i64 k, .int .i64 n, .string s, .slice a l.length c]] W fun e w' => e = .returned (.bool (Tr.good (.node k n s l))) ∧ Below W.heap.size W w' := fun W hW => refNodes_any _ _ _ (hT.up hW hW.size)
  generalize Tr.size (.node k n s l) = A at *
  generalize Tr.deep (.node k n s l) = D at *
  generalize Tr.good (.node k n s l) = G at *
  generalize isB (.node k n s l) = R at *
  have HG := Lib.hid hg
  have HC := Lib.hid hc
  have HN := Lib.hid hN
  clear hT hg hc hN
  go_enter Tryz.func65, Tryz.ntmps65
  go_wp2_with fail
  refine HC.out.mono ?_
  rintro e w1 ⟨rfl, hB1⟩
  replace b0 := Box.keep hB1 b0
  replace hB0 := hB0.trans (hB1.mono hB0.size)
  have t0 := b0.cell 0
  have t1 := b0.cell 1
  have t2 := b0.cell 2
  have t3 := b0.cell 3
  have l0 := b0.lt
  simp only [List.getElem?_toArray, List.getElem?_cons_succ, List.getElem?_cons_zero] at t0 t1 t2 t3
  have HB := Lib.hid hB0
  clear hB0 hB1 b0
  by_cases h1 : A ≤ 4000
  · by_cases h2 : D ≤ 600
    · go_wp2_with fail
      refine (HN.out _ HB.out).mono ?_
      rintro e w2 ⟨rfl, hB2⟩
      have HB2 := Lib.hid (HB.out.trans (hB2.mono HB.out.size))
      clear hB2
      go_wp2_with fail
      go_ret
      refine ⟨retB ?_, HB2.out⟩
      rw [HG.out]
      simp [h1, h2]
    · have HR : Hid (R = false) := by rw [Hid, HG.out]; simp [h2]
      go_wp2_with fail
      go_ret
      exact ⟨retB HR.out, HB.out⟩
  · have HR : Hid (R = false) := by rw [Hid, HG.out]; simp [h1]
    go_wp2_with fail
    go_ret
    exact ⟨retB HR.out, HB.out⟩

def IdxPost (b : Bool) (w : World) (e : Ending) (w' : World) : Prop := ∃ r : Int, e = .returned (.int .i64 r) ∧ decide (0 ≤ r) = b ∧ -1 ≤ r ∧ Below w.heap.size w w'

mutual
theorem cntT_ok : ∀ (T : Tr) (m d : Int), (cntT T m d).1 = true → (cntT T m d).2 = m - T.size ∧ 0 ≤ (cntT T m d).2 ∧ d + T.deep - 1 ≤ 700
  | .node k n s l, m, d => by
    rw [cntT]
    split
    · intro h; cases h
    · rename_i h0
      intro h
      have := cntL_ok l (m - 1) (d + 1) (by omega) h
      simp only [Tr.size, Tr.deep]
      by_cases e : deepL l = 0
      · omega
      · have := this.2.2 (by omega); omega
theorem cntL_ok : ∀ (l : List Tr) (m d : Int), 0 ≤ m → (cntL l m d).1 = true → (cntL l m d).2 = m - sizeL l ∧ 0 ≤ (cntL l m d).2 ∧ (0 < deepL l → d + deepL l - 1 ≤ 700)
  | [], m, d => by simp [cntL, sizeL, deepL]
  | t :: ts, m, d => by
    intro hm
    rw [cntL]
    split
    · rename_i h0
      intro h
      have h1 := cntT_ok t m d h0
      have h2 := cntL_ok ts (cntT t m d).2 d h1.2.1 h
      simp only [sizeL, deepL]
      refine ⟨by omega, h2.2.1, fun _ => ?_⟩
      by_cases e : deepL ts = 0
      · have : max t.deep (deepL ts) = t.deep := by omega
        omega
      · have := h2.2.2 (by omega)
        omega
    · rename_i h0
      intro h; cases h
end
theorem small_size {l : List Tr} (h : smallB l = true) : sizeL l ≤ 1500 ∧ deepL l ≤ 700 := by
  have := cntL_ok l 1500 1 (by omega) h
  refine ⟨by omega, ?_⟩
  by_cases e : deepL l = 0
  · omega
  · have := this.2.2 (by omega); omega
theorem small_mem {l : List Tr} (h : smallB l = true) {t : Tr} (ht : t ∈ l) : t.size ≤ 1500 ∧ t.deep ≤ 700 := by
  have h1 := small_size h
  have h2 := size_mem ht
  have h3 := deep_mem ht
  omega

def rightB (l : List Tr) : Bool := smallB l && l.all isB
theorem rightB_mem {l : List Tr} (h : rightB l = true) {t : Tr} (ht : t ∈ l) : isB t = true ∧ t.size ≤ 1500 ∧ t.deep ≤ 700 := by
  simp only [rightB, Bool.and_eq_true, List.all_eq_true] at h
  exact ⟨h.2 t ht, small_mem h.1 ht⟩

end Go.Proofs.YtdigiaigbcfccaaGreatDoor
