import Derived.Test.YtdigiaigbcfccaaGreatDoorSub
namespace Go.Proofs.YtdigiaigbcfccaaGreatDoor
open Go.RowKit Go

def putsB (l : List Tr) (k n : Int) : Bool := decide (k = 1) && decide (n < l.length) && decide ((l.getD n.toNat default).kind ≠ 0)

set_option maxHeartbeats 1000000 in
theorem puts_any (l : List Tr) (a : Option Addr) (c : Nat) (e : Value) (he : ∃ ea en ec, e = .slice ea en ec) (k n : Int) (s : ByteArray) (len : Nat) (a' : Option Addr) (c' : Nat) (w : World) (hm : l.length ≤ 1000000) (hl : IsL w.heap.size w l a) (hn : k = 1 → 0 ≤ n) :
    Calls Tryz.prog 80 #[.agg #[.slice a l.length c, e], .agg #[.int .i64 k, .int .i64 n, .string s, .slice a' len c']] w fun e w' => e = .returned (.bool (putsB l k n)) ∧ Below w.heap.size w w' := by
  obtain ⟨ea, en, ec, rfl⟩ := he
  by_cases h1 : k = 1
  · subst h1
    obtain ⟨j, rfl⟩ := Int.eq_ofNat_of_zero_le (hn rfl)
    clear hn
    by_cases h2 : j < l.length
    · obtain ⟨b, off, rfl, hb⟩ := hl.addr (by omega)
      obtain ⟨tk, tn, ts, tl, ta, tc, te, c0, c1, c2, c3, ht⟩ := hl.node j h2
      have hp : Hid (putsB l 1 j = decide (tk ≠ 0)) := by
        have h2' : (j : Int) < l.length := by omega
        simp [Hid, putsB, h2', List.getElem?_eq_getElem h2, te, Tr.kind]
      have h2' : (j : Int) < l.length := by omega
      clear te
      by_cases h3 : tk = 0
      · have hz : Hid (putsB l 1 j = false) := by rw [Hid, hp.out]; simp [h3]
        rw [h3] at c0
        clear h3
        go_enter Tryz.func80, Tryz.ntmps80
        go_wp2_with fail
        go_ret
        exact ⟨retB hz.out, below_box2 _ _ _⟩
      · have hz : Hid (putsB l 1 j = true) := by rw [Hid, hp.out]; simp [h3]
        have h3' : (tk != 0) = true := by simpa using h3
        clear h3
        go_enter Tryz.func80, Tryz.ntmps80
        go_wp2_with fail
        go_ret
        exact ⟨retB hz.out, below_box2 _ _ _⟩
    · have hz : Hid (putsB l 1 j = false) := by
        have h2' : ¬ (j : Int) < l.length := by omega
        simp [Hid, putsB, h2']
      have h2' : (l.length : Int) ≤ j := by omega
      go_enter Tryz.func80, Tryz.ntmps80
      go_wp2_with fail
      go_ret
      exact ⟨retB hz.out, below_box2 _ _ _⟩
  · have hz : Hid (putsB l k n = false) := by simp [Hid, putsB, h1]
    have h1' : (k == 1) = false := by simpa using h1
    clear h1 hn
    go_enter Tryz.func80, Tryz.ntmps80
    go_wp2_with fail
    go_ret
    exact ⟨retB hz.out, below_box2 _ _ _⟩

mutual
/-- What a substitution makes of a tree. -/
def subT (l : List Tr) : Tr → Tr
  | .node k n s ts => if putsB l k n then l.getD n.toNat default else .node k n s (subL l ts)
def subL (l : List Tr) : List Tr → List Tr
  | [] => []
  | t :: ts => subT l t :: subL l ts
end
theorem subL_map (l ts : List Tr) : subL l ts = ts.map (subT l) := by
  induction ts with
  | nil => simp [subL]
  | cons t ts ih => simp [subL, ih]

mutual
/-- The numbers of variables are not negative. -/
def posT : Tr → Prop
  | .node k n _ ts => (k = 1 → 0 ≤ n) ∧ posL ts
def posL : List Tr → Prop
  | [] => True
  | t :: ts => posT t ∧ posL ts
end
theorem posL_mem {t : Tr} : ∀ {l : List Tr}, posL l → t ∈ l → posT t
  | x :: xs, h, ht => by
    rcases List.mem_cons.1 ht with rfl | ht
    · exact h.1
    · exact posL_mem h.2 ht

theorem enters_apply : ∀ args w, (callFunc 51 args).run Tryz.prog w = .ok (.enter 51 args) w := enters_of Tryz.func51 (by kernel_rfl) rfl

set_option maxRecDepth 100000 in
set_option maxHeartbeats 2000000 in
theorem apply_any (l : List Tr) (hm : l.length ≤ 1000000) (hsz : ∀ t, t ∈ l → t.size ≤ 1000000) (a : Option Addr) (c : Nat) (ea : Option Addr) (en ec : Nat) (w₀ : World) (hl : IsL w₀.heap.size w₀ l a) (T : Tr) :
    ∀ (v : Value) (w : World), Below w₀.heap.size w₀ w → IsT w.heap.size w T v → T.size ≤ 1000000 → posT T →
    Calls Tryz.prog 51 #[.agg #[.slice a l.length c, .slice ea en ec], v] w fun e w' => ∃ v', e = .returned v' ∧ IsP (New w.heap.size w') w' (subT l T) v' ∧ Below w.heap.size w w' := by
  induction T using Tr.ind with
  | h k n s ts ih =>
    intro v w hW hT hTs hpos
    obtain ⟨a', c', rfl, h1, h2, h3, h4, h5, hts⟩ := hT.open
    simp only [Tr.size] at hTs
    unfold posT at hpos
    have hlen := length_le_sizeL ts
    have HI := Lib.hid ih
    have H := Lib.hid (And.intro h1 (And.intro h2 h3))
    have HL := hl.up hW hW.size
    clear ih h1 h2 h3
    have hb1 : Box (((w.alloc (.cells #[.slice a l.length c, .slice ea en ec] 88)).alloc (.cells #[.int .i64 k, .int .i64 n, .string s, .slice a' ts.length c'] 24)).alloc (.cells #[.int .i64 0, .int .i64 0, .string ⟨#[]⟩, .slice none 0 0] 24)) (w.heap.size + 1) #[.int .i64 k, .int .i64 n, .string s, .slice a' ts.length c'] 24 := (Box.at (by simp)).alloc _
    have hb2 : Box (((w.alloc (.cells #[.slice a l.length c, .slice ea en ec] 88)).alloc (.cells #[.int .i64 k, .int .i64 n, .string s, .slice a' ts.length c'] 24)).alloc (.cells #[.int .i64 0, .int .i64 0, .string ⟨#[]⟩, .slice none 0 0] 24)) (w.heap.size + 1 + 1) #[.int .i64 0, .int .i64 0, .string ⟨#[]⟩, .slice none 0 0] 24 := Box.at (by simp)
    have hb0 : Box (((w.alloc (.cells #[.slice a l.length c, .slice ea en ec] 88)).alloc (.cells #[.int .i64 k, .int .i64 n, .string s, .slice a' ts.length c'] 24)).alloc (.cells #[.int .i64 0, .int .i64 0, .string ⟨#[]⟩, .slice none 0 0] 24)) w.heap.size #[.slice a l.length c, .slice ea en ec] 88 := ((Box.at rfl).alloc _).alloc _
    have hB0 := below_a3 (Nat.le_refl w.heap.size) (.cells #[.slice a l.length c, .slice ea en ec] 88) (.cells #[.int .i64 k, .int .i64 n, .string s, .slice a' ts.length c'] 24) (.cells #[.int .i64 0, .int .i64 0, .string ⟨#[]⟩, .slice none 0 0] 24)
    go_enter Tryz.func51, Tryz.ntmps51
    go_wp2_with fail
    refine (puts_any l a c _ ⟨_, _, _, rfl⟩ k n s ts.length a' c' _ hm (HL.up hB0 hB0.size) hpos.1).mono ?_
    rintro e w1 ⟨rfl, hB1⟩
    have p0 := Box.keep hB1 hb0
    have p1 := Box.keep hB1 hb1
    have p2 := Box.keep hB1 hb2
    have hB2 := hB0.trans (hB1.mono hB0.size)
    have hs1 := hB1.size
    simp only [World.size_alloc] at hs1
    clear hB1 hb0 hb1 hb2 hB0
    have q0 := p0.cell 0
    have q1 := p0.cell 1
    have r0 := p1.cell 0
    have r1 := p1.cell 1
    have r2 := p1.cell 2
    have r3 := p1.cell 3
    have u0 := p2.cell 0
    have u1 := p2.cell 1
    have u2 := p2.cell 2
    have u3 := p2.cell 3
    have f3 := p1.frozen 3
    have g0 := p2.frozen 0
    have g1 := p2.frozen 1
    have g2 := p2.frozen 2
    have g3 := p2.frozen 3
    simp only [List.getElem?_toArray, List.getElem?_cons_succ, List.getElem?_cons_zero] at q0 q1 r0 r1 r2 r3 u0 u1 u2 u3
    cases hpb : putsB l k n with
    | true =>
      have hk : k = 1 ∧ n < l.length := by simp [putsB] at hpb; exact ⟨hpb.1.1, hpb.1.2⟩
      obtain ⟨rfl, hnl⟩ := hk
      obtain ⟨j, rfl⟩ := Int.eq_ofNat_of_zero_le (hpos.1 rfl)
      have hj : j < l.length := by omega
      have hS : Hid (subT l (.node 1 j s ts) = l[j]) := by
        simp [Hid, subT, hpb, List.getElem?_eq_getElem hj]
      obtain ⟨b, off, rfl, hb⟩ := HL.addr (by omega)
      obtain ⟨tk, tn, tss, tl, ta, tc, te, c0, c1, c2, c3, ht⟩ := (HL.below hB2).node j hj
      have Te := Lib.hid te
      have hbw : b < w1.heap.size := by omega
      clear hpb te hpos
      go_wp2_with fail
      refine (copyTerm_any l[j] _ _ (ht.mono hB2.size) (hsz _ (List.getElem_mem hj))).mono ?_
      rintro e w2 ⟨v', rfl, hP, hB3⟩
      rw [Te.out] at hP
      obtain ⟨fa, fc, rfl, _⟩ := hP.open
      have HP := Lib.hid hP
      have p2' := Box.keep hB3 p2
      have hB4 := hB2.trans (hB3.mono hB2.size)
      have g0 := p2'.frozen 0
      have g1 := p2'.frozen 1
      have g2 := p2'.frozen 2
      have g3 := p2'.frozen 3
      have u0 := p2'.cell 0
      have u1 := p2'.cell 1
      have u2 := p2'.cell 2
      have u3 := p2'.cell 3
      simp only [List.getElem?_toArray, List.getElem?_cons_succ, List.getElem?_cons_zero] at u0 u1 u2 u3
      clear hP hB3
      go_wp2_with fail
      have z := (((p2'.set 0 (.int .i64 tk)).set 1 (.int .i64 tn)).set 2 (.string tss)).set 3 (.slice fa tl.length fc)
      have zB := (((hB4.setCell (p := ⟨w.heap.size + 1 + 1, 0, none⟩) (by simp; omega) (.int .i64 tk)).setCell (p := ⟨w.heap.size + 1 + 1, 1, none⟩) (by simp; omega) (.int .i64 tn)).setCell (p := ⟨w.heap.size + 1 + 1, 2, none⟩) (by simp; omega) (.string tss)).setCell (p := ⟨w.heap.size + 1 + 1, 3, none⟩) (by simp; omega) (.slice fa tl.length fc)
      have y0 := z.cell 0
      have y1 := z.cell 1
      have y2 := z.cell 2
      have y3 := z.cell 3
      have zP := IsP.map (q := New w.heap.size ((((w2.setCell ⟨w.heap.size + 1 + 1, 0, none⟩ (.int .i64 tk)).setCell ⟨w.heap.size + 1 + 1, 1, none⟩ (.int .i64 tn)).setCell ⟨w.heap.size + 1 + 1, 2, none⟩ (.string tss)).setCell ⟨w.heap.size + 1 + 1, 3, none⟩ (.slice fa tl.length fc)))
        (B := (((w2.setCell ⟨w.heap.size + 1 + 1, 0, none⟩ (.int .i64 tk)).setCell ⟨w.heap.size + 1 + 1, 1, none⟩ (.int .i64 tn)).setCell ⟨w.heap.size + 1 + 1, 2, none⟩ (.string tss)).setCell ⟨w.heap.size + 1 + 1, 3, none⟩ (.slice fa tl.length fc))
        (fun b hb => by
          obtain ⟨hb1, hb2⟩ := hb
          refine ⟨⟨by omega, by simpa using hb2⟩, ?_⟩
          rw [Below.heap_setCell _ _ _ _ (by simp; omega), Below.heap_setCell _ _ _ _ (by simp; omega), Below.heap_setCell _ _ _ _ (by simp; omega), Below.heap_setCell _ _ _ _ (by simp; omega)]) _ _ HP.out
      clear z HP
      generalize (((w2.setCell ⟨w.heap.size + 1 + 1, 0, none⟩ (.int .i64 tk)).setCell ⟨w.heap.size + 1 + 1, 1, none⟩ (.int .i64 tn)).setCell ⟨w.heap.size + 1 + 1, 2, none⟩ (.string tss)).setCell ⟨w.heap.size + 1 + 1, 3, none⟩ (.slice fa tl.length fc) = FW at *
      simp at y0 y1 y2 y3
      exact bodyPost_ret (v := .agg #[.int .i64 tk, .int .i64 tn, .string tss, .slice fa tl.length fc]) (by simp [results, Tryz.results51, go_sem, y0, y1, y2, y3]) rfl ⟨_, rfl, by rw [hS.out, Te.out]; exact zP, zB⟩
    | false =>
      have hS : Hid (subT l (.node k n s ts) = .node k n s (ts.map (subT l))) := by simp [Hid, subT, hpb, subL_map]
      have hX : Hid (w₀.heap.size ≤ w1.heap.size) := by have := hW.size; unfold Hid; omega
      clear hpb
      go_wp2_with fail
      refine (copyEach_any _ #[.agg #[.slice a l.length c, .slice ea en ec]] #[] enters_apply ts a' c' _ (by omega) (hts.up hB2 hB2.size) (subT l) (fun t ht v W hW1 hv => by
        simpa using HI.out t ht v W ((hW.trans (hB2.mono hW.size)).trans (hW1.mono hX.out)) hv (by have := size_mem ht; omega) (posL_mem hpos.2 ht))).mono ?_
      rintro e w2 ⟨fa, fc, rfl, h6, h7, hP, hB3⟩
      have p1' := Box.keep hB3 p1
      have p2' := Box.keep hB3 p2
      have hB4 := hB2.trans (hB3.mono hB2.size)
      have HP := Lib.hid hP
      have hs3 := hB3.size
      have r0 := p1'.cell 0
      have r1 := p1'.cell 1
      have r2 := p1'.cell 2
      have r3 := p1'.cell 3
      have f3 := p1'.frozen 3
      have g0 := p2'.frozen 0
      have g1 := p2'.frozen 1
      have g2 := p2'.frozen 2
      have g3 := p2'.frozen 3
      have u0 := p2'.cell 0
      have u1 := p2'.cell 1
      have u2 := p2'.cell 2
      have u3 := p2'.cell 3
      simp only [List.getElem?_toArray, List.getElem?_cons_succ, List.getElem?_cons_zero] at r0 r1 r2 r3 u0 u1 u2 u3
      clear hP hB3 q0 q1
      go_wp2_with fail
      have z := ((((p2'.other (B' := w.heap.size + 1) (by omega) 3 (.slice fa ts.length fc)).set 0 (.int .i64 k)).set 1 (.int .i64 n)).set 2 (.string s)).set 3 (.slice fa ts.length fc)
      have zB := ((((hB4.setCell (p := ⟨w.heap.size + 1, 3, none⟩) (by simp) (.slice fa ts.length fc)).setCell (p := ⟨w.heap.size + 1 + 1, 0, none⟩) (by simp; omega) (.int .i64 k)).setCell (p := ⟨w.heap.size + 1 + 1, 1, none⟩) (by simp; omega) (.int .i64 n)).setCell (p := ⟨w.heap.size + 1 + 1, 2, none⟩) (by simp; omega) (.string s)).setCell (p := ⟨w.heap.size + 1 + 1, 3, none⟩) (by simp; omega) (.slice fa ts.length fc)
      have y0 := z.cell 0
      have y1 := z.cell 1
      have y2 := z.cell 2
      have y3 := z.cell 3
      have zP := IsPL.map (q := New w.heap.size (((((w2.setCell ⟨w.heap.size + 1, 3, none⟩ (.slice fa ts.length fc)).setCell ⟨w.heap.size + 1 + 1, 0, none⟩ (.int .i64 k)).setCell ⟨w.heap.size + 1 + 1, 1, none⟩ (.int .i64 n)).setCell ⟨w.heap.size + 1 + 1, 2, none⟩ (.string s)).setCell ⟨w.heap.size + 1 + 1, 3, none⟩ (.slice fa ts.length fc)))
        (B := ((((w2.setCell ⟨w.heap.size + 1, 3, none⟩ (.slice fa ts.length fc)).setCell ⟨w.heap.size + 1 + 1, 0, none⟩ (.int .i64 k)).setCell ⟨w.heap.size + 1 + 1, 1, none⟩ (.int .i64 n)).setCell ⟨w.heap.size + 1 + 1, 2, none⟩ (.string s)).setCell ⟨w.heap.size + 1 + 1, 3, none⟩ (.slice fa ts.length fc))
        (fun b hb => by
          obtain ⟨hb1, hb2⟩ := hb
          refine ⟨⟨by omega, by simpa using hb2⟩, ?_⟩
          rw [Below.heap_setCell _ _ _ _ (by simp; omega), Below.heap_setCell _ _ _ _ (by simp; omega), Below.heap_setCell _ _ _ _ (by simp; omega), Below.heap_setCell _ _ _ _ (by simp; omega), Below.heap_setCell _ _ _ _ (by simp; omega)]) _ _ HP.out
      clear z HP
      generalize ((((w2.setCell ⟨w.heap.size + 1, 3, none⟩ (.slice fa ts.length fc)).setCell ⟨w.heap.size + 1 + 1, 0, none⟩ (.int .i64 k)).setCell ⟨w.heap.size + 1 + 1, 1, none⟩ (.int .i64 n)).setCell ⟨w.heap.size + 1 + 1, 2, none⟩ (.string s)).setCell ⟨w.heap.size + 1 + 1, 3, none⟩ (.slice fa ts.length fc) = FW at *
      simp at y0 y1 y2 y3
      have e1 : ts.length = (ts.map (subT l)).length := by simp
      refine bodyPost_ret (v := .agg #[.int .i64 k, .int .i64 n, .string s, .slice fa ts.length fc]) (by simp [results, Tryz.results51, go_sem, y0, y1, y2, y3]) rfl ⟨_, rfl, ?_, zB⟩
      rw [hS.out, e1]
      exact IsP.mk H.out.1 H.out.2.1 H.out.2.2 (by rw [← e1]; exact h6) h7 zP

end Go.Proofs.YtdigiaigbcfccaaGreatDoor
