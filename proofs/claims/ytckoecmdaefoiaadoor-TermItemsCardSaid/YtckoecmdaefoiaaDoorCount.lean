import Derived.Test.YtckoecmdaefoiaaDoorMatch2
namespace Go.Proofs.YtckoecmdaefoiaaDoor
open Go.RowKit Go

mutual
/-- Counting nodes down from m: whether it goes on, and what is left. -/
def cntT : Tr → Int → Int → Bool × Int
  | .node _ _ s l, m, d => if m - 1 < 0 ∨ 700 < d ∨ 1000 < (s.size : Int) then (false, m - 1) else cntL l (m - 1) (d + 1)
def cntL : List Tr → Int → Int → Bool × Int
  | [], m, _ => (true, m)
  | t :: ts, m, d => if (cntT t m d).1 = true then cntL ts (cntT t m d).2 d else (false, (cntT t m d).2)
end
mutual
theorem cntT_le : ∀ (T : Tr) (m d : Int), 0 ≤ m → (cntT T m d).1 = true → 0 ≤ (cntT T m d).2 ∧ (cntT T m d).2 ≤ m
  | .node _ _ s l, m, d, h0, h => by
    rw [cntT] at h ⊢
    split at h
    · cases h
    · rename_i hc
      rw [if_neg hc]
      have := cntL_le l (m - 1) (d + 1) (by omega) h
      omega
theorem cntL_le : ∀ (l : List Tr) (m d : Int), 0 ≤ m → (cntL l m d).1 = true → 0 ≤ (cntL l m d).2 ∧ (cntL l m d).2 ≤ m
  | [], m, d, h0, _ => by simp [cntL]; omega
  | t :: ts, m, d, h0, h => by
    rw [cntL] at h ⊢
    split at h
    · rename_i hc
      rw [if_pos hc]
      have h1 := cntT_le t m d h0 hc
      have h2 := cntL_le ts _ d h1.1 h
      omega
    · cases h
end
theorem cntL_take : ∀ (l : List Tr) (m d x : Int) (j : Nat) (h : j < l.length), cntL (l.take j) m d = (true, x) → cntL (l.take (j + 1)) m d = cntT l[j] x d
  | t :: ts, m, d, x, 0, _, hm => by
    simp only [List.take_zero, cntL, Prod.mk.injEq, true_and] at hm
    subst hm
    simp only [List.take_succ_cons, List.take_zero, cntL, List.getElem_cons_zero]
    split
    · rename_i h; exact Prod.ext h.symm rfl
    · rename_i h; exact Prod.ext (by simpa using (Bool.eq_false_iff.2 h).symm) rfl
  | t :: ts, m, d, x, j + 1, h, hm => by
    simp only [List.take_succ_cons, cntL, List.getElem_cons_succ] at hm ⊢
    split at hm
    · rename_i hc
      rw [if_pos hc]
      exact cntL_take ts _ d x j (by simpa using h) hm
    · cases hm
theorem cntL_false : ∀ (l : List Tr) (m d x : Int) (j : Nat), cntL (l.take j) m d = (false, x) → cntL l m d = (false, x)
  | [], m, d, x, j, h => by simp [cntL] at h
  | t :: ts, m, d, x, 0, h => by simp [cntL] at h
  | t :: ts, m, d, x, j + 1, h => by
    simp only [List.take_succ_cons, cntL] at h ⊢
    split at h
    · rename_i hc; rw [if_pos hc]; exact cntL_false ts _ d x j h
    · rename_i hc; rw [if_neg hc]; exact h

def CountPost (P : Nat) (r : Bool × Int) (w : World) (e : Ending) (w' : World) : Prop := e = .returned (.bool r.1) ∧ Box w' P #[.int .i64 r.2] 3 ∧ w.grownBy w' (some P)

set_option maxRecDepth 100000 in
set_option maxHeartbeats 1000000 in
theorem count_any (n₀ P : Nat) (hP : n₀ ≤ P) (T : Tr) : ∀ (v : Value) (m d : Int) (w : World), IsT n₀ w T v → n₀ ≤ w.heap.size → Box w P #[.int .i64 m] 3 → 0 ≤ m → m ≤ 1000000 → 0 ≤ d → d ≤ 1000 →
    Calls Tryd.prog 17 #[v, .pointer (some ⟨P, 0, none⟩), .int .i64 d] w (CountPost P (cntT T m d) w) := by
  induction T using Tr.ind with
  | h k n s l ih =>
  intro v m d w hT hn hb hm0 hm1 hd0 hd1
  obtain ⟨a, c, rfl, _, _, hs, hlc, hcm, hl⟩ := hT.open
  have HI := Lib.hid ih
  have HL := Lib.hid hl
  have hPl := hb.lt
  have b0 : Box (w.alloc (.cells #[.int .i64 k, .int .i64 n, .string s, .slice a l.length c] 25)) w.heap.size #[.int .i64 k, .int .i64 n, .string s, .slice a l.length c] 25 := Box.at rfl
  have c0 := (hb.alloc (.cells #[.int .i64 k, .int .i64 n, .string s, .slice a l.length c] 25)).cell 0
  have f0 := (hb.alloc (.cells #[.int .i64 k, .int .i64 n, .string s, .slice a l.length c] 25)).frozen 0
  simp only [List.getElem?_toArray, List.getElem?_cons_zero] at c0
  have b1 : Box ((w.setCell ⟨P, 0, none⟩ (.int .i64 (m - 1))).alloc (.cells #[.int .i64 k, .int .i64 n, .string s, .slice a l.length c] 25)) P #[.int .i64 (m - 1)] 3 := Box.alloc (by simpa using hb.set 0 (.int .i64 (m - 1))) _
  have bt : Box ((w.setCell ⟨P, 0, none⟩ (.int .i64 (m - 1))).alloc (.cells #[.int .i64 k, .int .i64 n, .string s, .slice a l.length c] 25)) w.heap.size #[.int .i64 k, .int .i64 n, .string s, .slice a l.length c] 25 := Box.at (by simp)
  have hg : w.grownBy ((w.setCell ⟨P, 0, none⟩ (.int .i64 (m - 1))).alloc (.cells #[.int .i64 k, .int .i64 n, .string s, .slice a l.length c] 25)) (some P) := grown_trans (grown_set P 0 w _) (World.grownBy_alloc _ _ _)
  have t2 := bt.cell 2
  have t3 := bt.cell 3
  have p0 := b1.cell 0
  have lt := bt.lt
  have lp := b1.lt
  simp only [List.getElem?_toArray, List.getElem?_cons_succ, List.getElem?_cons_zero] at t2 t3 p0
  have HB := Lib.hid (And.intro b1 hg)
  have hsM : s.size ≤ 9223372036854775807 := by unfold maxLen at hs; omega
  clear ih hT hl hb b0 b1 bt hg
  by_cases h1 : m - 1 < 0
  · have hc : Hid (cntT (.node k n s l) m d = (false, m - 1)) := by rw [Hid, cntT, if_pos (.inl h1)]
    go_enter Tryd.func17, Tryd.ntmps17
    go_wp2_with fail
    go_ret
    refine ⟨?_, ?_, HB.out.2⟩
    · rw [hc.out]; rfl
    · rw [hc.out]; exact HB.out.1
  · by_cases h2 : 700 < d
    · have hc : Hid (cntT (.node k n s l) m d = (false, m - 1)) := by rw [Hid, cntT, if_pos (.inr (.inl h2))]
      go_enter Tryd.func17, Tryd.ntmps17
      go_wp2_with fail
      go_ret
      refine ⟨?_, ?_, HB.out.2⟩
      · rw [hc.out]; rfl
      · rw [hc.out]; exact HB.out.1
    · by_cases h3 : 1000 < (s.size : Int)
      · have hc : Hid (cntT (.node k n s l) m d = (false, m - 1)) := by rw [Hid, cntT, if_pos (.inr (.inr h3))]
        go_enter Tryd.func17, Tryd.ntmps17
        go_wp2_with fail
        go_ret
        refine ⟨?_, ?_, HB.out.2⟩
        · rw [hc.out]; rfl
        · rw [hc.out]; exact HB.out.1
      · have hc : Hid (cntT (.node k n s l) m d = cntL l (m - 1) (d + 1)) := by rw [Hid, cntT, if_neg (by omega)]
        have hlm : l.length ≤ 9223372036854775807 := by unfold maxLen at hcm; omega
        go_enter Tryd.func17, Tryd.ntmps17
        go_wp2_with fail
        go_loopw [31] (fun i wr => ∃ (j : Nat) (x : Int), j ≤ l.length ∧ i = .int .i64 j ∧ cntL (l.take j) (m - 1) (d + 1) = (true, x) ∧ 0 ≤ x ∧ x ≤ 1000000 ∧ Box wr P #[.int .i64 x] 3 ∧ w.grownBy wr (some P)) (fun i _ => l.length - (intOf i).toNat)
        case atStart => exact ⟨0, m - 1, Nat.zero_le _, rfl, by simp [cntL], by omega, by omega, HB.out.1, HB.out.2⟩
        case round =>
          obtain ⟨j, x, hj, rfl, hcj, hx0, hx1, hbj, hgj⟩ := hrel
          by_cases hlt : j < l.length
          · obtain ⟨b, off, rfl, hbb⟩ := HL.out.addr (by omega)
            have hBj := grown_below hgj hn hP
            obtain ⟨tk, tn, ts, tl, ta, tc, te, c0, c1, c2, c3, ht⟩ := HL.out.node' hbb hBj j hlt
            have hbw : b < wr.heap.size := by have := hgj.size; omega
            have hwr := hgj.size
            have hstep := cntL_take l (m - 1) (d + 1) x j hlt hcj
            have Te := Lib.hid (And.intro te hstep)
            have HJ := Lib.hid (And.intro hbj hgj)
            clear te hstep hbj hgj hcj
            go_wp2_with fail
            refine (HI.out _ (List.getElem_mem hlt) _ x (d + 1) _ ((ht.below hBj).below (below_a1 (by omega) _)) (by simp; omega) (HJ.out.1.alloc _) hx0 hx1 (by omega) (by omega)).mono ?_
            rintro e w2 ⟨rfl, hb2, hg2⟩
            have hg3 := grown_trans (grown_trans HJ.out.2 (World.grownBy_alloc wr _ _)) hg2
            have HK := Lib.hid (And.intro hb2 hg3)
            clear hb2 hg2 hg3
            cases hr : (cntT l[j] x (d + 1)).1 with
            | true =>
              have hle := cntT_le _ _ _ hx0 hr
              have Hr := Lib.hid hr
              clear hr
              go_wp2_with fail
              go_roundw
              case rel => exact ⟨j + 1, _, hlt, by go_num, by rw [Te.out.2]; exact Prod.ext Hr.out rfl, hle.1, by omega, HK.out.1, HK.out.2⟩
              case measure => simp [intOf]; omega
            | false =>
              have Hr : Hid (cntL l (m - 1) (d + 1) = (false, (cntT l[j] x (d + 1)).2)) := cntL_false l _ _ _ (j + 1) (by rw [Te.out.2]; exact Prod.ext hr rfl)
              clear hr
              go_wp2_with fail
              go_ret
              refine ⟨?_, ?_, HK.out.2⟩
              · rw [hc.out, Hr.out]; rfl
              · rw [hc.out, Hr.out]; exact HK.out.1
          · rw [List.take_of_length_le (by omega)] at hcj
            have Hc := Lib.hid hcj
            have HJ := Lib.hid (And.intro hbj hgj)
            clear hcj hbj hgj
            go_wp2_with fail
            go_ret
            refine ⟨?_, ?_, HJ.out.2⟩
            · rw [hc.out, Hc.out]; rfl
            · rw [hc.out, Hc.out]; exact HJ.out.1

/-- The trees have together few nodes, none too deep, no name too long. -/
def smallB (l : List Tr) : Bool := (cntL l 1500 1).1
set_option maxRecDepth 100000 in
set_option maxHeartbeats 1000000 in
theorem small_any (l : List Tr) (a : Option Addr) (c : Nat) (w : World) (hm : l.length ≤ maxLen) (hl : IsL w.heap.size w l a) :
    Calls Tryd.prog 26 #[.slice a l.length c] w fun e w' => e = .returned (.bool (smallB l)) ∧ Below w.heap.size w w' := by
  have HL := Lib.hid hl
  have hlm : l.length ≤ 9223372036854775807 := by unfold maxLen at hm; omega
  clear hl
  go_enter Tryd.func26, Tryd.ntmps26
  go_wp2_with fail
  have hb0 : Box (w.alloc (.cells #[.int .i64 1500] 3)) w.heap.size #[.int .i64 1500] 3 := Box.at rfl
  go_loopw [8] (fun i wr => ∃ (j : Nat) (x : Int), j ≤ l.length ∧ i = .int .i64 j ∧ cntL (l.take j) 1500 1 = (true, x) ∧ 0 ≤ x ∧ x ≤ 1000000 ∧ Box wr w.heap.size #[.int .i64 x] 3 ∧ Below w.heap.size w wr) (fun i _ => l.length - (intOf i).toNat)
  case atStart => exact ⟨0, 1500, Nat.zero_le _, rfl, by simp [cntL], by omega, by omega, hb0, below_a1 (Nat.le_refl _) _⟩
  case round =>
    obtain ⟨j, x, hj, rfl, hcj, hx0, hx1, hbj, hBj⟩ := hrel
    by_cases hlt : j < l.length
    · obtain ⟨b, off, rfl, hbb⟩ := HL.out.addr (by omega)
      obtain ⟨tk, tn, ts, tl, ta, tc, te, c0, c1, c2, c3, ht⟩ := HL.out.node' hbb hBj j hlt
      have hwr := hBj.size
      have hbw : b < wr.heap.size := by omega
      have hstep := cntL_take l 1500 1 x j hlt hcj
      have Te := Lib.hid (And.intro te hstep)
      have HJ := Lib.hid (And.intro hbj hBj)
      clear te hstep hbj hBj hcj
      go_wp2_with fail
      refine (count_any w.heap.size w.heap.size (Nat.le_refl _) l[j] _ x 1 _ ((ht.below HJ.out.2).below (below_a1 (by omega) _)) (by simp; omega) (HJ.out.1.alloc _) hx0 hx1 (by omega) (by omega)).mono ?_
      rintro e w2 ⟨rfl, hb2, hg2⟩
      have hB2 := (HJ.out.2.trans (below_a1 hwr _)).trans (grown_below hg2 (by simp; omega) (Nat.le_refl _))
      have HK := Lib.hid (And.intro hb2 hB2)
      clear hb2 hg2 hB2
      cases hr : (cntT l[j] x 1).1 with
      | true =>
        have hle := cntT_le _ _ _ hx0 hr
        have Hr := Lib.hid hr
        clear hr
        go_wp2_with fail
        go_roundw
        case rel => exact ⟨j + 1, _, hlt, by go_num, by rw [Te.out.2]; exact Prod.ext Hr.out rfl, hle.1, by omega, HK.out.1, HK.out.2⟩
        case measure => simp [intOf]; omega
      | false =>
        have Hr : Hid (smallB l = false) := by rw [Hid, smallB, cntL_false l _ _ _ (j + 1) (by rw [Te.out.2]; exact Prod.ext hr rfl)]
        clear hr
        go_wp2_with fail
        go_ret
        exact ⟨retB Hr.out, HK.out.2⟩
    · rw [List.take_of_length_le (by omega)] at hcj
      have Hc : Hid (smallB l = true) := by rw [Hid, smallB, hcj]
      have HJ := Lib.hid hBj
      clear hcj hbj hBj
      go_wp2_with fail
      go_ret
      exact ⟨retB Hc.out, HJ.out⟩
end Go.Proofs.YtckoecmdaefoiaaDoor
