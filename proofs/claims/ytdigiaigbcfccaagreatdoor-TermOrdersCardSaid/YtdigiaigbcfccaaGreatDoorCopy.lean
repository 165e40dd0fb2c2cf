import Derived.Test.YtdigiaigbcfccaaGreatDoorRSame
import Derived.Laws.MakeOwn
namespace Go.Proofs.YtdigiaigbcfccaaGreatDoor
open Go.RowKit Go

theorem infoTerm : (Tryz.prog.info? 24).map (fun i => (i.zero, i.size, i.bytes)) = some (some (.agg #[.int .i64 0, .int .i64 0, .string ⟨#[]⟩, .slice none 0 0]), 4, 56) := by kernel_rfl
theorem mk_terms (n : Nat) (h : n ≤ 1000000) (W : World) : (Instr.makeSlice 22 (.int .i64 n) (.int .i64 n)).run Tryz.prog W = .ok (.slice (some ⟨W.heap.size, 0, none⟩) n n) (W.alloc (.cells (madeCells #[.int .i64 0, .int .i64 0, .string ⟨#[]⟩, .slice none 0 0] (n * 4)) 24)) := by
  obtain ⟨i0, hi, hz0, hz1, hz2⟩ := info_parts infoTerm
  have := run_make (P := Tryz.prog) W 22 24 i0 _ Tryz.underlying22 hi hz0 .i64 .i64 n n (by omega) (by omega) (by rw [hz2]; omega) (by omega)
  rw [this, hz1]
  rfl

set_option maxRecDepth 100000 in
set_option maxHeartbeats 1000000 in
theorem copyEach_any (g : Nat) (first captured : Array Value) (he : ∀ args w, (callFunc g args).run Tryz.prog w = .ok (.enter g args) w) (l : List Tr) (a : Option Addr) (c : Nat) (w : World) (hm : l.length ≤ 1000000) (hl : IsL w.heap.size w l a) (Fn : Tr → Tr)
    (hM : ∀ t, t ∈ l → ∀ (v : Value) (W : World), Below w.heap.size w W → IsT W.heap.size W t v →
      Calls Tryz.prog g (first.push v ++ captured) W fun e W' => ∃ v', e = .returned v' ∧ IsP (New W.heap.size W') W' (Fn t) v' ∧ Below W.heap.size W W') :
    Calls Tryz.prog 54 #[.slice a l.length c, .func (.func g) first captured] w
      fun e w' => ∃ a' c', e = .returned (.slice a' l.length c') ∧ l.length ≤ c' ∧ c' ≤ maxLen ∧ IsPL (New w.heap.size w') w' (l.map Fn) a' ∧ Below w.heap.size w w' := by
  have HM := Lib.hid hM
  clear hM
  by_cases h0 : 0 < l.length
  · obtain ⟨b, off, rfl, hb⟩ := hl.addr h0
    have hmk := mk_terms l.length hm w
    have hne : (((l.length : Nat) : Int) == 0) = false := beq_eq_false_iff_ne.2 (by omega)
    go_enter Tryz.func54, Tryz.ntmps54
    go_wp2_with fail
    clear hmk
    go_loopw [16] (fun i wr => ∃ (k : Nat) (cs : Array Value), k ≤ l.length ∧ i = .int .i64 k ∧ Box wr w.heap.size cs 24 ∧ cs.size = l.length * 4 ∧ Laid wr (w.heap.size + 1) cs ((l.take k).map Fn) ∧ Below w.heap.size w wr) (fun i _ => l.length - (intOf i).toNat)
    case atStart => exact ⟨0, _, Nat.zero_le _, rfl, Box.at rfl, size_madeCells _ _, fun i hi => by simp at hi, below_a1 (Nat.le_refl _) _⟩
    case round =>
      obtain ⟨k, cs, hk, rfl, hbox, hsz, hlaid, hB⟩ := hrel
      have Hlaid := Lib.hid hlaid
      have Hsz := Lib.hid hsz
      clear hlaid hsz
      by_cases hlt : k < l.length
      · obtain ⟨tk, tn, ts, tl, ta, tc, te, c0, c1, c2, c3, ht⟩ := (hl.below hB).node k hlt
        have Te := Lib.hid te
        clear te
        have hbw : b < wr.heap.size := by have := hB.size; omega
        have hk0 : k * 4 < cs.size := by rw [Hsz.out]; omega
        have hk1 : k * 4 + 1 < cs.size := by rw [Hsz.out]; omega
        have hk2 : k * 4 + 2 < cs.size := by rw [Hsz.out]; omega
        have hk3 : k * 4 + 3 < cs.size := by rw [Hsz.out]; omega
        go_wp2_with fail
        refine (HM.out _ (List.getElem_mem hlt) _ _ (hB.trans (below_a1 hB.size _)) (ht.up (below_a1 hB.size _) (size_a1 hB.size _))).mono ?_
        rintro e w1 ⟨v', rfl, hP, hB1⟩
        have hB2 := hB.trans ((below_a1 hB.size (.cells #[.int .i64 tk, .int .i64 tn, .string ts, .slice ta tl.length tc] 24)).trans (hB1.mono (size_a1 hB.size _)))
        have hbox1 := Box.keep hB1 (hbox.alloc _)
        have hlaid1 : Laid w1 (w.heap.size + 1) cs ((l.take k).map Fn) := Hlaid.out.keep (by have := hB1.size; simp at this; omega) (fun b _ h2 => (hB1.block b (by simp; omega)).trans (Below.heap_alloc _ _ _ h2))
        have hP1 : IsP (New (w.heap.size + 1) w1) w1 (Fn l[k]) v' := New.below hP (Below.refl _ _) (by have := hbox.lt; simp; omega)
        have Hlaid1 := Lib.hid hlaid1
        clear hP hlaid1 Hlaid hbox
        cases hF : Fn l[k] with
        | node fk fn fs fl =>
        rw [hF] at hP1
        have hP2 := hP1
        obtain ⟨fa, fc, rfl, _⟩ := hP2.open
        have HF := Lib.hid hF
        clear hF hP2
        have r0 := (hbox1.cell (k * 4)).trans (Array.getElem?_eq_getElem hk0)
        have r1 := (hbox1.cell (k * 4 + 1)).trans (Array.getElem?_eq_getElem hk1)
        have r2 := (hbox1.cell (k * 4 + 2)).trans (Array.getElem?_eq_getElem hk2)
        have r3 := (hbox1.cell (k * 4 + 3)).trans (Array.getElem?_eq_getElem hk3)
        have f0 := hbox1.frozen (k * 4)
        have f1 := hbox1.frozen (k * 4 + 1)
        have f2 := hbox1.frozen (k * 4 + 2)
        have f3 := hbox1.frozen (k * 4 + 3)
        go_wp2_with fail
        clear r0 r1 r2 r3 f0 f1 f2 f3
        go_roundw
        case rel =>
          have hlen : ((l.take k).map Fn).length = k := by simp; omega
          refine ⟨k + 1, _, hlt, by go_num, (((hbox1.set (k * 4) _).set (k * 4 + 1) _).set (k * 4 + 2) _).set (k * 4 + 3) _, by simp [Hsz.out], ?_, (((hB2.setCell (p := ⟨w.heap.size, k * 4, none⟩) (Nat.le_refl _) _).setCell (p := ⟨w.heap.size, k * 4 + 1, none⟩) (Nat.le_refl _) _).setCell (p := ⟨w.heap.size, k * 4 + 2, none⟩) (Nat.le_refl _) _).setCell (p := ⟨w.heap.size, k * 4 + 3, none⟩) (Nat.le_refl _) _⟩
          have hL := Laid.snoc Hlaid1.out (by rw [hlen, Hsz.out]; omega) hP1
          rw [hlen] at hL
          rw [List.take_succ_eq_append_getElem hlt, List.map_append, List.map_cons, List.map_nil, HF.out]
          refine hL.keep (by simp) (fun b hb1 _ => ?_)
          rw [Below.heap_setCell _ _ _ _ (by simp; omega), Below.heap_setCell _ _ _ _ (by simp; omega), Below.heap_setCell _ _ _ _ (by simp; omega), Below.heap_setCell _ _ _ _ (by simp; omega)]
        case measure => simp [intOf]; omega
      · have e : l.take k = l := List.take_of_length_le (by omega)
        have hlaid := Hlaid.out
        rw [e] at hlaid
        have hfin := Laid.done hlaid hbox
        have Hfin := Lib.hid hfin
        clear hfin hlaid e
        go_wp2_with fail
        go_ret
        exact ⟨_, _, rfl, Nat.le_refl _, by unfold maxLen; omega, Hfin.out, hB⟩
  · have e1 : l = [] := List.length_eq_zero_iff.1 (by omega)
    subst e1
    clear h0 HM
    simp only [List.length_nil]
    go_enter Tryz.func54, Tryz.ntmps54
    go_wp2_with fail
    go_ret
    exact ⟨none, 0, rfl, Nat.le_refl _, by unfold maxLen; omega, IsPL.nil, Below.refl _ _⟩
theorem one_le_size (T : Tr) : 1 ≤ T.size := by cases T; simp [Tr.size]
theorem length_le_sizeL : ∀ l : List Tr, l.length ≤ sizeL l
  | [] => by simp [sizeL]
  | t :: ts => by have := length_le_sizeL ts; have := one_le_size t; simp [sizeL]; omega
theorem size_mem {t : Tr} : ∀ {l : List Tr}, t ∈ l → t.size ≤ sizeL l
  | x :: xs, h => by
    rcases List.mem_cons.1 h with rfl | h
    · simp [sizeL]
    · have := size_mem h; simp [sizeL]; omega

theorem enters_copy : ∀ args w, (callFunc 55 args).run Tryz.prog w = .ok (.enter 55 args) w := enters_of Tryz.func55 (by kernel_rfl) rfl

set_option maxRecDepth 100000 in
set_option maxHeartbeats 1000000 in
theorem copyTerm_any (T : Tr) : ∀ (v : Value) (w : World), IsT w.heap.size w T v → T.size ≤ 1000000 →
    Calls Tryz.prog 55 #[v] w fun e w' => ∃ v', e = .returned v' ∧ IsP (New w.heap.size w') w' T v' ∧ Below w.heap.size w w' := by
  induction T using Tr.ind with
  | h k n s l ih =>
    intro v w hT hsz
    obtain ⟨a, c, rfl, h1, h2, h3, h4, h5, hl⟩ := hT.open
    simp only [Tr.size] at hsz
    have hlen := length_le_sizeL l
    have HI := Lib.hid ih
    have H := Lib.hid (And.intro h1 (And.intro h2 h3))
    clear ih hT h1 h2 h3
    go_enter Tryz.func55, Tryz.ntmps55
    go_wp2_with fail
    have hb1 : Box ((w.alloc (.cells #[.int .i64 k, .int .i64 n, .string s, .slice a l.length c] 24)).alloc (.cells #[.int .i64 0, .int .i64 0, .string ⟨#[]⟩, .slice none 0 0] 24)) w.heap.size #[.int .i64 k, .int .i64 n, .string s, .slice a l.length c] 24 := (Box.at rfl).alloc _
    have hb2 : Box ((w.alloc (.cells #[.int .i64 k, .int .i64 n, .string s, .slice a l.length c] 24)).alloc (.cells #[.int .i64 0, .int .i64 0, .string ⟨#[]⟩, .slice none 0 0] 24)) (w.heap.size + 1) #[.int .i64 0, .int .i64 0, .string ⟨#[]⟩, .slice none 0 0] 24 := Box.at (by simp)
    have hB0 := below_a2 (Nat.le_refl w.heap.size) (.cells #[.int .i64 k, .int .i64 n, .string s, .slice a l.length c] 24) (.cells #[.int .i64 0, .int .i64 0, .string ⟨#[]⟩, .slice none 0 0] 24)
    refine (copyEach_any _ #[] #[] enters_copy l a c _ (by omega) (hl.up hB0 hB0.size) id (fun t ht v W hW hv => by simpa using HI.out t ht v W hv (by have := size_mem ht; omega))).mono ?_
    rintro e w1 ⟨a', c', rfl, h6, h7, hP, hB1⟩
    have hb1' := Box.keep hB1 hb1
    have hb2' := Box.keep hB1 hb2
    have hB2 := hB0.trans (hB1.mono hB0.size)
    have hsz1 := hB1.size
    simp only [World.size_alloc] at hsz1
    rw [List.map_id] at hP
    have HP := Lib.hid hP
    clear hP hb1 hb2 hB0 hB1
    have r0 := hb1'.cell 0
    have r1 := hb1'.cell 1
    have r2 := hb1'.cell 2
    have r3 := hb1'.cell 3
    have f3 := hb1'.frozen 3
    have u0 := hb2'.cell 0
    have u1 := hb2'.cell 1
    have u2 := hb2'.cell 2
    have u3 := hb2'.cell 3
    have g0 := hb2'.frozen 0
    have g1 := hb2'.frozen 1
    have g2 := hb2'.frozen 2
    have g3 := hb2'.frozen 3
    simp only [List.getElem?_toArray, List.getElem?_cons_succ, List.getElem?_cons_zero] at r0 r1 r2 r3 u0 u1 u2 u3
    go_wp2_with fail
    have z := ((((hb2'.other (B' := w.heap.size) (by omega) 3 (.slice a' l.length c')).set 0 (.int .i64 k)).set 1 (.int .i64 n)).set 2 (.string s)).set 3 (.slice a' l.length c')
    have zB := ((((hB2.setCell (p := ⟨w.heap.size, 3, none⟩) (Nat.le_refl _) (.slice a' l.length c')).setCell (p := ⟨w.heap.size + 1, 0, none⟩) (by simp) (.int .i64 k)).setCell (p := ⟨w.heap.size + 1, 1, none⟩) (by simp) (.int .i64 n)).setCell (p := ⟨w.heap.size + 1, 2, none⟩) (by simp) (.string s)).setCell (p := ⟨w.heap.size + 1, 3, none⟩) (by simp) (.slice a' l.length c')
    have y0 := z.cell 0
    have y1 := z.cell 1
    have y2 := z.cell 2
    have y3 := z.cell 3
    have zP := IsPL.map (q := New w.heap.size (((((w1.setCell ⟨w.heap.size, 3, none⟩ (.slice a' l.length c')).setCell ⟨w.heap.size + 1, 0, none⟩ (.int .i64 k)).setCell ⟨w.heap.size + 1, 1, none⟩ (.int .i64 n)).setCell ⟨w.heap.size + 1, 2, none⟩ (.string s)).setCell ⟨w.heap.size + 1, 3, none⟩ (.slice a' l.length c'))) (B := ((((w1.setCell ⟨w.heap.size, 3, none⟩ (.slice a' l.length c')).setCell ⟨w.heap.size + 1, 0, none⟩ (.int .i64 k)).setCell ⟨w.heap.size + 1, 1, none⟩ (.int .i64 n)).setCell ⟨w.heap.size + 1, 2, none⟩ (.string s)).setCell ⟨w.heap.size + 1, 3, none⟩ (.slice a' l.length c'))
      (fun b hb => by
        obtain ⟨hb1, hb2⟩ := hb
        simp only [World.size_alloc] at hb1
        refine ⟨⟨by omega, by simpa using hb2⟩, ?_⟩
        rw [Below.heap_setCell _ _ _ _ (by simp; omega), Below.heap_setCell _ _ _ _ (by simp; omega), Below.heap_setCell _ _ _ _ (by simp; omega), Below.heap_setCell _ _ _ _ (by simp; omega), Below.heap_setCell _ _ _ _ (by simp; omega)]) l a' HP.out
    clear z HP r0 r1 r2 r3 f3 u0 u1 u2 u3 g0 g1 g2 g3 hb1' hb2'
    generalize ((((w1.setCell ⟨w.heap.size, 3, none⟩ (.slice a' l.length c')).setCell ⟨w.heap.size + 1, 0, none⟩ (.int .i64 k)).setCell ⟨w.heap.size + 1, 1, none⟩ (.int .i64 n)).setCell ⟨w.heap.size + 1, 2, none⟩ (.string s)).setCell ⟨w.heap.size + 1, 3, none⟩ (.slice a' l.length c') = FW at *
    simp at y0 y1 y2 y3
    exact bodyPost_ret (v := .agg #[.int .i64 k, .int .i64 n, .string s, .slice a' l.length c']) (by simp [results, Tryz.results55, go_sem, y0, y1, y2, y3]) rfl ⟨_, rfl, IsP.mk H.out.1 H.out.2.1 H.out.2.2 h6 h7 zP, zB⟩

end Go.Proofs.YtdigiaigbcfccaaGreatDoor
