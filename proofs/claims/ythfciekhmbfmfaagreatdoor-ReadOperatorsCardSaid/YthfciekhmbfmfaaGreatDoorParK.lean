/- The parser's bracketed: what begins with a sign. -/
import Derived.Test.YthfciekhmbfmfaaGreatDoorParL
namespace Go.Proofs.YthfciekhmbfmfaaGreatDoor
open Go.RowKit Go Go.Maps

section
variable {w : World} {B b1 b2 V tot : Nat} {xs : List Lx} {pv nv : Value} {st : PS} {W : World} {n : Nat}
set_option maxRecDepth 100000 in
set_option maxHeartbeats 8000000 in
theorem bracketed_any (hT : TermOk w B b1 b2 V tot xs pv n) (h : PaSt w B b1 b2 V tot xs pv st nv W) (hx : LxOk tot xs) (hn : xs.length < n + (st.i + 1)) (hlt : st.i < xs.length) (s : List UInt8) :
    Calls Tryz.prog 192 #[.pointer (some ⟨B, 0, none⟩), sV s] W (PaQ w B b1 b2 V tot xs pv nv (st.i + 1) W (tval W.heap.size) (brackF tot xs (termN tot xs n) s st)) := by
  by_cases hs : s = [40]
  · subst hs
    have HT := Lib.hid hT
    have HX := Lib.hid hx
    have HN := Lib.hid hn
    have hl8 := hx.len
    obtain ⟨hne1, hne2⟩ := h.ne
    have hR0 : Box (W.alloc (.cells #[.int .i64 0, .int .i64 0, .string ⟨#[]⟩, .slice none 0 0] 31)) W.heap.size #[.int .i64 0, .int .i64 0, .string ⟨#[]⟩, .slice none 0 0] 31 := World.alloc_heap_new _ _
    have hA := below_a1 (Nat.le_refl W.heap.size) (.cells #[.int .i64 0, .int .i64 0, .string ⟨#[]⟩, .slice none 0 0] 31)
    have h0 := h.up hA
    have hT0 := PaTo.up (B := B) (V := V) (nv := nv) hA
    have hwW := h.below.size
    obtain ⟨i1, hi1⟩ : ∃ i1, st.i + 1 = i1 := ⟨_, rfl⟩
    have hi2 : ((st.i : Int) + 1) = (i1 : Int) := by omega
    have hwr : IntKind.i64.wrap (i1 : Int) = (i1 : Int) := by rw [IntKind.wrap_i64]; omega
    have hS := h0.setAt i1 (by omega) (by omega)
    have hT1 := hT0.trans hS.2
    have hR2 := hR0.other (fun e => hne1 e) 1 (.int .i64 (i1 : Int))
    have c1 := h0.box.cell 1
    have f1 := h0.box.frozen 1
    have l0 := h0.box.lt
    simp only [List.getElem?_toArray, List.getElem?_cons_succ, List.getElem?_cons_zero] at c1
    have HI := Lib.hid hi1
    have H0 := Lib.hid (And.intro h0 (And.intro hT0 hR0))
    have H1 := Lib.hid (And.intro hS.1 (And.intro hT1 hR2))
    have hn1 : xs.length < n + (⟨i1, st.ns⟩ : PS).i := by show xs.length < n + i1; omega
    have HN1 := Lib.hid hn1
    clear h hS hT1 hR2 h0 hT0 hR0 hA hi1 hT hn1
    have HP : Hid (brackF tot xs (termN tot xs n) [40] st = match termN tot xs n 1200 ⟨i1, st.ns⟩ with | .error e => .error e | .ok (t, st1) => match signF tot xs [41] st1 with | .error e => .error e | .ok st2 => .ok (t, st2)) := by rw [Hid, brackF, if_pos rfl, HI.out]; rfl
    have HC := Lib.hid (HT.out 1200 ⟨i1, st.ns⟩ nv _ (by omega) (by omega) H1.out.1 HN1.out)
    go_enter Tryz.func192, Tryz.ntmps192
    go_wp2_with fail
    refine (HC.out).mono ?_
    rintro e w2 hQ2
    cases hr : termN tot xs n 1200 ⟨i1, st.ns⟩ with
    | error p =>
      rw [hr] at hQ2
      obtain ⟨rfl, hb⟩ := hQ2
      refine And.intro rfl ?_
      rw [HP.out, hr]
      exact ⟨rfl, hb⟩
    | ok x =>
      obtain ⟨t, st2⟩ := x
      rw [hr] at hQ2
      obtain ⟨v2, nv2, rfl, ht, h2, hT2, hi3⟩ := hQ2
      obtain ⟨a0, a1, a2, a3, am, a4, rfl⟩ := IsP.formP ht
      have hR3 := PaTo.box H1.out.1 hT2 H1.out.2.2 (by decide) (by decide)
      have hRW := H1.out.2.2.lt
      have hi3' : i1 + 1 ≤ st2.i := hi3
      have hA2 := below_a1 (Nat.le_refl w2.heap.size) (.cells #[.int .i64 a0, .int .i64 a1, .string a2, .slice a3 am a4] 31)
      have hRn : Box (w2.alloc (.cells #[.int .i64 a0, .int .i64 a1, .string a2, .slice a3 am a4] 31)) w2.heap.size #[.int .i64 a0, .int .i64 a1, .string a2, .slice a3 am a4] 31 := World.alloc_heap_new _ _
      have H2 := Lib.hid (And.intro (h2.up hA2) (And.intro ((H1.out.2.1.trans hT2).trans (PaTo.up (B := B) (V := V) (nv := nv2) hA2)) (And.intro (hR3.keep hA2) (And.intro (ht.up (TmK.of_below hA2) (Nat.le_refl _)) hRn))))
      have HR := Lib.hid hr
      have hw2R := hR3.lt
      clear c1 f1 l0 h2 hT2 hR3 ht hi3 hr hA2 hRn
      go_wp2_with fail
      refine (sign_any H2.out.1 HX.out [41]).mono ?_
      rintro e w4 hQ4
      cases hs4 : signF tot xs [41] st2 with
      | error p =>
        rw [hs4] at hQ4
        obtain ⟨rfl, hb⟩ := hQ4
        refine And.intro rfl ?_
        rw [HP.out, HR.out]
        simp only [hs4]
        exact ⟨rfl, hb⟩
      | ok st4 =>
        rw [hs4] at hQ4
        obtain ⟨v4, nv4, rfl, rfl, h4, hT4, hi5⟩ := hQ4
        have hR5 := PaTo.box H2.out.1 hT4 H2.out.2.2.1 (by decide) (by decide)
        have hR6 := PaTo.box H2.out.1 hT4 H2.out.2.2.2.2 (by decide) (by decide)
        have ht4 := H2.out.2.2.2.1.up (PaTo.tk H2.out.1 hT4) (Nat.le_refl _)
        have hi5' : st2.i + 1 ≤ st4.i := hi5
        have q0 := hR5.cell 0
        have q1 := hR5.cell 1
        have q2 := hR5.cell 2
        have q3 := hR5.cell 3
        have z0 := hR5.frozen 0
        have z1 := hR5.frozen 1
        have z2 := hR5.frozen 2
        have z3 := hR5.frozen 3
        have l1 := hR5.lt
        simp only [List.getElem?_toArray, List.getElem?_cons_succ, List.getElem?_cons_zero] at q0 q1 q2 q3
        have p0 := hR6.cell 0
        have p1 := hR6.cell 1
        have p2 := hR6.cell 2
        have p3 := hR6.cell 3
        have l6 := hR6.lt
        simp only [List.getElem?_toArray, List.getElem?_cons_succ, List.getElem?_cons_zero] at p0 p1 p2 p3
        have H4 := Lib.hid (And.intro h4 (And.intro (H2.out.2.1.trans hT4) (And.intro hR5 ht4)))
        have HS4 := Lib.hid hs4
        clear h4 hT4 hR5 hR6 ht4 hs4 hi5
        go_wp2_with fail
        have hf1 := H4.out.1.put H4.out.2.2.1 (by omega) (.int .i64 a0) (.int .i64 a1) (.string a2) (.slice a3 am a4)
        have hf2 := H4.out.2.1.put (R := W.heap.size) (by omega) (.int .i64 a0) (.int .i64 a1) (.string a2) (.slice a3 am a4)
        have hf3 := H4.out.2.2.1.set4 (.int .i64 a0) (.int .i64 a1) (.string a2) (.slice a3 am a4)
        have hf4 := H4.out.2.2.2.set4 (show W.heap.size < ((W.alloc (.cells #[.int .i64 0, .int .i64 0, .string ⟨#[]⟩, .slice none 0 0] 31)).setCell ⟨B, 1, none⟩ (.int .i64 (i1 : Int))).heap.size by omega) (.int .i64 a0) (.int .i64 a1) (.string a2) (.slice a3 am a4)
        unfold set4 at hf1 hf2 hf3 hf4
        generalize (((w4.setCell ⟨W.heap.size, 0, none⟩ (.int .i64 a0)).setCell ⟨W.heap.size, 1, none⟩ (.int .i64 a1)).setCell ⟨W.heap.size, 2, none⟩ (.string a2)).setCell ⟨W.heap.size, 3, none⟩ (.slice a3 am a4) = FW at *
        have y0 := hf3.cell 0
        have y1 := hf3.cell 1
        have y2 := hf3.cell 2
        have y3 := hf3.cell 3
        simp only [List.getElem?_toArray, List.getElem?_cons_succ, List.getElem?_cons_zero] at y0 y1 y2 y3
        refine bodyPost_ret (v := .agg #[.int .i64 a0, .int .i64 a1, .string a2, .slice a3 am a4]) (by simp [results, Tryz.results192, go_sem, y0, y1, y2, y3]) rfl ?_
        rw [HP.out, HR.out]
        simp only [HS4.out]
        have h9 := HI.out
        exact ⟨_, nv4, rfl, hf4.up (TmK.refl _) (by omega), hf1, hf2, by omega⟩
  · by_cases hs2 : s = [91]
    · subst hs2
      have HT := Lib.hid hT
      have HX := Lib.hid hx
      have HN := Lib.hid hn
      have hl8 := hx.len
      obtain ⟨hne1, hne2⟩ := h.ne
      have hR0 : Box (W.alloc (.cells #[.int .i64 0, .int .i64 0, .string ⟨#[]⟩, .slice none 0 0] 31)) W.heap.size #[.int .i64 0, .int .i64 0, .string ⟨#[]⟩, .slice none 0 0] 31 := World.alloc_heap_new _ _
      have hA := below_a1 (Nat.le_refl W.heap.size) (.cells #[.int .i64 0, .int .i64 0, .string ⟨#[]⟩, .slice none 0 0] 31)
      have h0 := h.up hA
      have hT0 := PaTo.up (B := B) (V := V) (nv := nv) hA
      have hwW := h.below.size
      obtain ⟨i1, hi1⟩ : ∃ i1, st.i + 1 = i1 := ⟨_, rfl⟩
      have hi2 : ((st.i : Int) + 1) = (i1 : Int) := by omega
      have hwr : IntKind.i64.wrap (i1 : Int) = (i1 : Int) := by rw [IntKind.wrap_i64]; omega
      have hS := h0.setAt i1 (by omega) (by omega)
      have hT1 := hT0.trans hS.2
      have hR2 := hR0.other (fun e => hne1 e) 1 (.int .i64 (i1 : Int))
      have c1 := h0.box.cell 1
      have f1 := h0.box.frozen 1
      have l0 := h0.box.lt
      simp only [List.getElem?_toArray, List.getElem?_cons_succ, List.getElem?_cons_zero] at c1
      have HI := Lib.hid hi1
      have H0 := Lib.hid (And.intro h0 (And.intro hT0 hR0))
      have H1 := Lib.hid (And.intro hS.1 (And.intro hT1 hR2))
      have hn1 : xs.length < n + (⟨i1, st.ns⟩ : PS).i := by show xs.length < n + i1; omega
      have HN1 := Lib.hid hn1
      clear h hS hT1 hR2 h0 hT0 hR0 hA hi1 hT hn1
      have HP : Hid (brackF tot xs (termN tot xs n) [91] st = listF tot xs (termN tot xs n) ⟨i1, st.ns⟩) := by rw [Hid, brackF, if_neg hs, if_pos rfl, HI.out]
      clear hs
      go_enter Tryz.func192, Tryz.ntmps192
      go_wp2_with fail
      refine (list_any  HT.out H1.out.1 HX.out HN1.out).mono ?_
      rintro e w2 hQ2
      cases hr : listF tot xs (termN tot xs n) ⟨i1, st.ns⟩ with
      | error p =>
        rw [hr] at hQ2
        obtain ⟨rfl, hb⟩ := hQ2
        refine And.intro rfl ?_
        rw [HP.out, hr]
        exact ⟨rfl, hb⟩
      | ok x =>
        obtain ⟨t, st2⟩ := x
        rw [hr] at hQ2
        obtain ⟨v2, nv2, rfl, ht, h2, hT2, hi3⟩ := hQ2
        obtain ⟨a0, a1, a2, a3, am, a4, rfl⟩ := IsP.formP ht
        have hR3 := PaTo.box H1.out.1 hT2 H1.out.2.2 (by decide) (by decide)
        have hRW := H1.out.2.2.lt
        have hi3' : i1 + 1 ≤ st2.i := hi3
        have H2 := Lib.hid (And.intro h2 (And.intro (H1.out.2.1.trans hT2) (And.intro hR3 ht)))
        have HR := Lib.hid hr
        have q0 := hR3.cell 0
        have q1 := hR3.cell 1
        have q2 := hR3.cell 2
        have q3 := hR3.cell 3
        have z0 := hR3.frozen 0
        have z1 := hR3.frozen 1
        have z2 := hR3.frozen 2
        have z3 := hR3.frozen 3
        have l1 := hR3.lt
        simp only [List.getElem?_toArray, List.getElem?_cons_succ, List.getElem?_cons_zero] at q0 q1 q2 q3
        clear c1 f1 l0 h2 hT2 hR3 ht hi3 hr
        go_wp2_with fail
        have hf1 := H2.out.1.put H2.out.2.2.1 (by omega) (.int .i64 a0) (.int .i64 a1) (.string a2) (.slice a3 am a4)
        have hf2 := H2.out.2.1.put (R := W.heap.size) (by omega) (.int .i64 a0) (.int .i64 a1) (.string a2) (.slice a3 am a4)
        have hf3 := H2.out.2.2.1.set4 (.int .i64 a0) (.int .i64 a1) (.string a2) (.slice a3 am a4)
        have hf4 := H2.out.2.2.2.set4 (show W.heap.size < (W.alloc (.cells #[.int .i64 0, .int .i64 0, .string ⟨#[]⟩, .slice none 0 0] 31) |>.setCell ⟨B, 1, none⟩ (.int .i64 (i1 : Int))).heap.size by omega) (.int .i64 a0) (.int .i64 a1) (.string a2) (.slice a3 am a4)
        unfold set4 at hf1 hf2 hf3 hf4
        generalize (((w2.setCell ⟨W.heap.size, 0, none⟩ (.int .i64 a0)).setCell ⟨W.heap.size, 1, none⟩ (.int .i64 a1)).setCell ⟨W.heap.size, 2, none⟩ (.string a2)).setCell ⟨W.heap.size, 3, none⟩ (.slice a3 am a4) = FW at *
        have y0 := hf3.cell 0
        have y1 := hf3.cell 1
        have y2 := hf3.cell 2
        have y3 := hf3.cell 3
        simp only [List.getElem?_toArray, List.getElem?_cons_succ, List.getElem?_cons_zero] at y0 y1 y2 y3
        refine bodyPost_ret (v := .agg #[.int .i64 a0, .int .i64 a1, .string a2, .slice a3 am a4]) (by simp [results, Tryz.results192, go_sem, y0, y1, y2, y3]) rfl ?_
        rw [HP.out, HR.out]
        have h9 := HI.out
        exact ⟨_, nv2, rfl, hf4.up (TmK.refl _) (by omega), hf1, hf2, by omega⟩
    · by_cases hs3 : s = [123]
      · subst hs3
        have HT := Lib.hid hT
        have HX := Lib.hid hx
        have HN := Lib.hid hn
        have hl8 := hx.len
        obtain ⟨hne1, hne2⟩ := h.ne
        have hR0 : Box (W.alloc (.cells #[.int .i64 0, .int .i64 0, .string ⟨#[]⟩, .slice none 0 0] 31)) W.heap.size #[.int .i64 0, .int .i64 0, .string ⟨#[]⟩, .slice none 0 0] 31 := World.alloc_heap_new _ _
        have hA := below_a1 (Nat.le_refl W.heap.size) (.cells #[.int .i64 0, .int .i64 0, .string ⟨#[]⟩, .slice none 0 0] 31)
        have h0 := h.up hA
        have hT0 := PaTo.up (B := B) (V := V) (nv := nv) hA
        have hwW := h.below.size
        obtain ⟨i1, hi1⟩ : ∃ i1, st.i + 1 = i1 := ⟨_, rfl⟩
        have hi2 : ((st.i : Int) + 1) = (i1 : Int) := by omega
        have hwr : IntKind.i64.wrap (i1 : Int) = (i1 : Int) := by rw [IntKind.wrap_i64]; omega
        have hS := h0.setAt i1 (by omega) (by omega)
        have hT1 := hT0.trans hS.2
        have hR2 := hR0.other (fun e => hne1 e) 1 (.int .i64 (i1 : Int))
        have c1 := h0.box.cell 1
        have f1 := h0.box.frozen 1
        have l0 := h0.box.lt
        simp only [List.getElem?_toArray, List.getElem?_cons_succ, List.getElem?_cons_zero] at c1
        have HI := Lib.hid hi1
        have H0 := Lib.hid (And.intro h0 (And.intro hT0 hR0))
        have H1 := Lib.hid (And.intro hS.1 (And.intro hT1 hR2))
        have hn1 : xs.length < n + (⟨i1, st.ns⟩ : PS).i := by show xs.length < n + i1; omega
        have HN1 := Lib.hid hn1
        clear h hS hT1 hR2 h0 hT0 hR0 hA hi1 hT hn1
        have HP : Hid (brackF tot xs (termN tot xs n) [123] st = vecF tot xs (termN tot xs n) ⟨i1, st.ns⟩) := by rw [Hid, brackF, if_neg hs, if_neg hs2, if_pos rfl, HI.out]
        clear hs hs2
        go_enter Tryz.func192, Tryz.ntmps192
        go_wp2_with fail
        refine (vector_any  HT.out H1.out.1 HX.out HN1.out).mono ?_
        rintro e w2 hQ2
        cases hr : vecF tot xs (termN tot xs n) ⟨i1, st.ns⟩ with
        | error p =>
          rw [hr] at hQ2
          obtain ⟨rfl, hb⟩ := hQ2
          refine And.intro rfl ?_
          rw [HP.out, hr]
          exact ⟨rfl, hb⟩
        | ok x =>
          obtain ⟨t, st2⟩ := x
          rw [hr] at hQ2
          obtain ⟨v2, nv2, rfl, ht, h2, hT2, hi3⟩ := hQ2
          obtain ⟨a0, a1, a2, a3, am, a4, rfl⟩ := IsP.formP ht
          have hR3 := PaTo.box H1.out.1 hT2 H1.out.2.2 (by decide) (by decide)
          have hRW := H1.out.2.2.lt
          have hi3' : i1 + 1 ≤ st2.i := hi3
          have H2 := Lib.hid (And.intro h2 (And.intro (H1.out.2.1.trans hT2) (And.intro hR3 ht)))
          have HR := Lib.hid hr
          have q0 := hR3.cell 0
          have q1 := hR3.cell 1
          have q2 := hR3.cell 2
          have q3 := hR3.cell 3
          have z0 := hR3.frozen 0
          have z1 := hR3.frozen 1
          have z2 := hR3.frozen 2
          have z3 := hR3.frozen 3
          have l1 := hR3.lt
          simp only [List.getElem?_toArray, List.getElem?_cons_succ, List.getElem?_cons_zero] at q0 q1 q2 q3
          clear c1 f1 l0 h2 hT2 hR3 ht hi3 hr
          go_wp2_with fail
          have hf1 := H2.out.1.put H2.out.2.2.1 (by omega) (.int .i64 a0) (.int .i64 a1) (.string a2) (.slice a3 am a4)
          have hf2 := H2.out.2.1.put (R := W.heap.size) (by omega) (.int .i64 a0) (.int .i64 a1) (.string a2) (.slice a3 am a4)
          have hf3 := H2.out.2.2.1.set4 (.int .i64 a0) (.int .i64 a1) (.string a2) (.slice a3 am a4)
          have hf4 := H2.out.2.2.2.set4 (show W.heap.size < (W.alloc (.cells #[.int .i64 0, .int .i64 0, .string ⟨#[]⟩, .slice none 0 0] 31) |>.setCell ⟨B, 1, none⟩ (.int .i64 (i1 : Int))).heap.size by omega) (.int .i64 a0) (.int .i64 a1) (.string a2) (.slice a3 am a4)
          unfold set4 at hf1 hf2 hf3 hf4
          generalize (((w2.setCell ⟨W.heap.size, 0, none⟩ (.int .i64 a0)).setCell ⟨W.heap.size, 1, none⟩ (.int .i64 a1)).setCell ⟨W.heap.size, 2, none⟩ (.string a2)).setCell ⟨W.heap.size, 3, none⟩ (.slice a3 am a4) = FW at *
          have y0 := hf3.cell 0
          have y1 := hf3.cell 1
          have y2 := hf3.cell 2
          have y3 := hf3.cell 3
          simp only [List.getElem?_toArray, List.getElem?_cons_succ, List.getElem?_cons_zero] at y0 y1 y2 y3
          refine bodyPost_ret (v := .agg #[.int .i64 a0, .int .i64 a1, .string a2, .slice a3 am a4]) (by simp [results, Tryz.results192, go_sem, y0, y1, y2, y3]) rfl ?_
          rw [HP.out, HR.out]
          have h9 := HI.out
          exact ⟨_, nv2, rfl, hf4.up (TmK.refl _) (by omega), hf1, hf2, by omega⟩
      · have HP : Hid (brackF tot xs (termN tot xs n) s st = .error (plc tot xs st.i)) := by rw [Hid, brackF, if_neg hs, if_neg hs2, if_neg hs3]
        have n1 := sV_ne hs
        have n2 := sV_ne hs2
        have n3 := sV_ne hs3
        have m1 : (s == [40]) = false := by simpa using hs
        have m2 : (s == [91]) = false := by simpa using hs2
        have m3 : (s == [123]) = false := by simpa using hs3
        have hA := below_a1 (Nat.le_refl W.heap.size) (.cells #[.int .i64 0, .int .i64 0, .string ⟨#[]⟩, .slice none 0 0] 31)
        have HC := Lib.hid (tooMuch_any (h.up hA) hx)
        have HB := Lib.hid (h.below.trans (hA.mono h.below.size))
        have hwW := h.below.size
        clear hs hs2 hs3 h hT hA
        go_enter Tryz.func192, Tryz.ntmps192
        go_wp2_with fail
        refine (HC.out).mono ?_
        rintro e w2 ⟨rfl, hb⟩
        refine And.intro rfl ?_
        rw [HP.out]
        exact ⟨rfl, HB.out.trans (hb.mono HB.out.size)⟩
end
end Go.Proofs.YthfciekhmbfmfaaGreatDoor

/- The parser's variable. -/
namespace Go.Proofs.YthfciekhmbfmfaaGreatDoor
open Go.RowKit Go Go.Maps

theorem infoStr : (Tryz.prog.info? 9).map (fun i => (i.zero, i.size, i.bytes)) = some (some (.string ⟨#[]⟩), 1, 16) := by kernel_rfl
theorem OpsAt.block {W W' : World} {b n : Nat} {f : List UInt8 → Option Op3} (h : OpsAt W b n f) (hb : W'.heap[b]? = W.heap[b]?) : OpsAt W' b n f := by
  obtain ⟨D, ⟨es, clock, hm, h1⟩, h2⟩ := h
  exact ⟨D, ⟨es, clock, hb.trans hm, h1⟩, h2⟩
theorem VarsAt.block {W W' : World} {b n : Nat} {f : List UInt8 → Option Nat} (h : VarsAt W b n f) (hb : W'.heap[b]? = W.heap[b]?) : VarsAt W' b n f := by
  obtain ⟨D, ⟨es, clock, hm, h1⟩, h2⟩ := h
  exact ⟨D, ⟨es, clock, hb.trans hm, h1⟩, h2⟩
theorem OwnR.block {α : Type} {t : TypeId} {k : Nat} {f : α → List Value} {lo : Nat} {l : List α} {v : Value} {W W' : World} (h : OwnR t k f lo l v W) (hb : ∀ b, v.ownBlock = some b → W'.heap[b]? = W.heap[b]?) : OwnR t k f lo l v W' := ⟨own_block h.own hb⟩
section
variable {w : World} {B b1 b2 V tot : Nat} {xs : List Lx} {pv nv : Value} {st : PS} {W : World} {n : Nat}
/-- A name was noted, in the map and in the row. -/
theorem PaSt.addName {w2 w3 : World} {o : Obj} {name : List UInt8} {nv' : Value} {m : Nat} (h : PaSt w B b1 b2 V tot xs pv st nv W) (hv : VarsAt w2 V m (vix (st.ns ++ [name]))) (hm : m ≤ st.ns.length + 1) (hg : W.grownBy w2 (some V))
    (hown : w3.ownsRow w.heap.size 9 1 nv' (st.ns.length + 1) (st.ns.flatMap strV ++ strV name)) (hgr : (w2.alloc o).grownBy w3 nv.ownBlock) (hat : ∀ b, nv'.ownBlock = some b → nv.ownBlock = some b ∨ W.heap.size ≤ b) (hns : st.ns.length + 1 ≤ st.i) :
    PaSt w B b1 b2 V tot xs pv ⟨st.i, st.ns ++ [name]⟩ nv' (w3.setCell ⟨B, 6, none⟩ nv') ∧ PaTo B V nv nv' W (w3.setCell ⟨B, 6, none⟩ nv') := by
  have hk2 : ∀ k, k < W.heap.size → some k ≠ nv.ownBlock → w3.heap[k]? = w2.heap[k]? := fun k hk h1 =>
    (hgr.block k (by have := hg.size; simp; omega) h1).trans (Below.heap_alloc w2 o k (Nat.lt_of_lt_of_le hk hg.size))
  have hk : ∀ k, k < W.heap.size → k ≠ V → some k ≠ nv.ownBlock → w3.heap[k]? = W.heap[k]? := fun k hk hV h1 => (hk2 k hk h1).trans (hg.block k hk (by simpa using hV))
  have hF : ∀ k, k < W.heap.size → k ≠ V → some k ≠ nv.ownBlock → k ≠ B → (w3.setCell ⟨B, 6, none⟩ nv').heap[k]? = W.heap[k]? := fun k h1 h2 h3 h4 => (Below.heap_setCell _ _ _ _ h4).trans (hk k h1 h2 h3)
  obtain ⟨nn, hnn, hvv⟩ := h.vars
  obtain ⟨esV, clV, hmV⟩ := hvv.map
  obtain ⟨o1, o2, o3, ⟨m1, o4⟩, m2, o5⟩ := h.ops
  have hcell : ∀ {k : Nat} {c : Array Value} {t : TypeId} {fr : Nat × Nat}, W.heap[k]? = some (Obj.cells c t fr) → k ≠ V := fun h1 e => by subst e; rw [hmV] at h1; cases h1
  have hmapN : ∀ {k : Nat}, (∃ es clock, W.heap[k]? = some (Obj.map es clock)) → some k ≠ nv.ownBlock ∧ k ≠ B := fun {k} ⟨es, cl, h1⟩ => by
    refine ⟨fun e => ?_, fun e => ?_⟩
    · obtain ⟨c, fr, h2⟩ := h.names.typed e.symm
      rw [h1] at h2
      cases h2
    · subst e
      have h2 := h.box
      rw [show W.heap[k]? = some _ from h2] at h1
      cases h1
  have hBV : B ≠ V := hcell h.box
  have hBN : some B ≠ nv.ownBlock := fun e => by
    obtain ⟨c, fr, h2⟩ := h.names.typed e.symm
    have h3 := h.box
    rw [show W.heap[B]? = some _ from h3] at h2
    cases h2
  have hVN := hmapN ⟨esV, clV, hmV⟩
  have hb3 : Box w3 B _ _ := (hk B h.box.lt hBV hBN).trans h.box
  have ho1 := hmapN o4.map
  have ho2 := hmapN o5.map
  have hszW : W.heap.size ≤ w3.heap.size := by have h1 := hg.size; have h2 := hgr.size; simp at h2; omega
  have hnb : ∀ b, nv'.ownBlock = some b → b ≠ B := fun b hb e => by
    subst e
    rcases hat _ hb with e | e
    · exact hBN e.symm
    · have := h.box.lt; omega
  have hbel : Below w.heap.size w (w3.setCell ⟨B, 6, none⟩ nv') := by
    have h1 := h.below.trans (gr_low hg h.below.size (fun g e => by cases e; exact h.hV))
    have h2 := (h1.alloc h1.size o).trans (gr_low hgr (by have := h1.size; simp; omega) (fun g e => (own_typed h.names.own e).1))
    exact h2.trans (gr_low (gr_set B 6 w3 _) h2.size (fun g e => by cases e; exact h.hB))
  refine ⟨⟨hb3.set 6 nv', ?_, ⟨o1, o2, o3, ⟨m1, o4.block (hF _ o4.lt (Ne.symm h.ne1) ho1.1 ho1.2)⟩, m2, o5.block (hF _ o5.lt (Ne.symm h.ne2) ho2.1 ho2.2)⟩, ⟨m, by simp only [List.length_append, List.length_cons, List.length_nil]; omega, hv.block ((Below.heap_setCell _ _ _ _ hVN.2).trans (hk2 V hvv.lt hVN.1))⟩, ?_, h.ne1, h.ne2, hbel, h.hB, h.hV, h.hi, by show (st.ns ++ [name]).length ≤ st.i; simp only [List.length_append, List.length_cons, List.length_nil]; omega⟩, ?_⟩
  · refine h.row.block fun b hb => ?_
    obtain ⟨c, fr, h1⟩ := h.row.typed hb
    refine hF b (Array.getElem?_eq_some_iff.1 h1).1 (hcell h1) (fun e => ?_) (fun e => ?_)
    · obtain ⟨c', fr', h2⟩ := h.names.typed e.symm
      rw [h1] at h2
      cases h2
    · subst e
      have h2 := h.box
      rw [show W.heap[b]? = some _ from h2] at h1
      cases h1
  · have h1 : OwnR 9 1 strV w.heap.size (st.ns ++ [name]) nv' w3 := OwnR.push name hown
    exact h1.block fun b hb => Below.heap_setCell _ _ _ _ (hnb b hb)
  · exact ⟨by simp; omega, fun k h1 h2 h3 h4 => hF k h1 h3 h4 h2, hat⟩

theorem varF_old {name : List UInt8} {ns : List (List UInt8)} {v : Nat} (h : vix ns name = some v) (hn : ¬ name = [95]) : varF name ns = (v, ns) := by rw [varF, h]; simp only [if_neg hn]
theorem varF_new {name : List UInt8} {ns : List (List UInt8)} (h : vix ns name = none ∨ name = [95]) : varF name ns = (ns.length, ns ++ [name]) := by
  rw [varF]
  cases hv : vix ns name with
  | none => rfl
  | some v =>
    rcases h with h | h
    · rw [hv] at h; cases h
    · simp only [if_pos h]
set_option maxRecDepth 100000 in
set_option maxHeartbeats 8000000 in
theorem variable_any (h : PaSt w B b1 b2 V tot xs pv st nv W) (hx : LxOk tot xs) (hns : st.ns.length + 1 ≤ st.i) (name : List UInt8) (hnm : name.length ≤ 255) :
    Calls Tryz.prog 193 #[.pointer (some ⟨B, 0, none⟩), sV name] W (PaQ w B b1 b2 V tot xs pv nv st.i W (tval W.heap.size) (.ok (.node 1 ((varF name st.ns).1 : Int) (nm []) [], ⟨st.i, (varF name st.ns).2⟩))) := by
  obtain ⟨i0, hi, hz0, hz1, hz2⟩ := info_parts infoStr
  have hl8 := hx.len
  have hix := h.hi
  obtain ⟨hne1, hne2⟩ := h.ne
  have hR0 : Box (W.alloc (.cells #[.int .i64 0, .int .i64 0, .string ⟨#[]⟩, .slice none 0 0] 31)) W.heap.size #[.int .i64 0, .int .i64 0, .string ⟨#[]⟩, .slice none 0 0] 31 := World.alloc_heap_new _ _
  have hA := below_a1 (Nat.le_refl W.heap.size) (.cells #[.int .i64 0, .int .i64 0, .string ⟨#[]⟩, .slice none 0 0] 31)
  have h0 := h.up hA
  have hT0 := PaTo.up (B := B) (V := V) (nv := nv) hA
  have hwW := h.below.size
  have hks : (⟨name.toArray⟩ : ByteArray).size ≤ maxLen := by show name.toArray.size ≤ _; simp [maxLen]; omega
  have c5 := h0.box.cell 5
  have l0 := h0.box.lt
  obtain ⟨hq0, hq1⟩ : ∃ s0, (W.alloc (.cells #[.int .i64 0, .int .i64 0, .string ⟨#[]⟩, .slice none 0 0] 31)) = s0 := ⟨_, rfl⟩
  obtain ⟨nn, hnn, hv⟩ := h0.vars
  have hlk := hv.look_ok ⟨name.toArray⟩ hks
  rw [show (⟨name.toArray⟩ : ByteArray).data.toList = name from rfl] at hlk
  simp only [List.getElem?_toArray, List.getElem?_cons_succ, List.getElem?_cons_zero] at c5
  by_cases hold : (∃ v, vix st.ns name = some v) ∧ ¬ name = [95]
  · obtain ⟨⟨v, hvx⟩, h95⟩ := hold
    have hvl := vix_lt hvx
    rw [hvx] at hlk
    simp only [Option.getD_some, Option.isSome_some] at hlk
    have HP := Lib.hid (varF_old hvx h95)
    have n1 := sV_ne h95
    have m1 : (name == [95]) = false := by simpa using h95
    have hR1 := hR0
    have q0 := hR0.cell 0
    have q1 := hR0.cell 1
    have q2 := hR0.cell 2
    have q3 := hR0.cell 3
    have z0 := hR0.frozen 0
    have z1 := hR0.frozen 1
    have z2 := hR0.frozen 2
    have z3 := hR0.frozen 3
    simp only [List.getElem?_toArray, List.getElem?_cons_succ, List.getElem?_cons_zero] at q0 q1 q2 q3
    have HH := Lib.hid h
    clear h h0 hT0 hR0 hR1 hA hv hvx h95 hq1
    go_enter Tryz.func193, Tryz.ntmps193
    go_wp2_with fail
    have hA1 := below_a1 (Nat.le_refl W.heap.size) (.cells #[.int .i64 1, .int .i64 (v : Int), .string ⟨#[]⟩, .slice none 0 0] 31)
    have hf1 := HH.out.up hA1
    have hf2 := PaTo.up (B := B) (V := V) (nv := nv) hA1
    have hf3 : Box (W.alloc (.cells #[.int .i64 1, .int .i64 (v : Int), .string ⟨#[]⟩, .slice none 0 0] 31)) W.heap.size #[.int .i64 1, .int .i64 (v : Int), .string ⟨#[]⟩, .slice none 0 0] 31 := World.alloc_heap_new _ _
    generalize W.alloc (.cells #[.int .i64 1, .int .i64 (v : Int), .string ⟨#[]⟩, .slice none 0 0] 31) = FW at *
    have y0 := hf3.cell 0
    have y1 := hf3.cell 1
    have y2 := hf3.cell 2
    have y3 := hf3.cell 3
    simp only [List.getElem?_toArray, List.getElem?_cons_succ, List.getElem?_cons_zero] at y0 y1 y2 y3
    refine bodyPost_ret (v := .agg #[.int .i64 1, .int .i64 (v : Int), .string ⟨#[]⟩, .slice none 0 0]) (by simp [results, Tryz.results193, go_sem, y0, y1, y2, y3]) rfl ?_
    rw [HP.out]
    exact ⟨_, nv, rfl, tval.leaf (by unfold okI; omega) (by unfold okI; omega) (by decide) (by unfold maxLen; omega), hf1, hf2, Nat.le_refl _⟩
  · have hnew : vix st.ns name = none ∨ name = [95] := by
      cases hv2 : vix st.ns name with
      | none => exact .inl rfl
      | some v =>
        by_cases h95 : name = [95]
        · exact .inr h95
        · exact absurd ⟨⟨v, hv2⟩, h95⟩ hold
    have HP := Lib.hid (varF_new hnew)
    obtain ⟨w2, hup, hv2, hg2⟩ := hv.put (by unfold maxLen; omega) ⟨name.toArray⟩ hks
    rw [show (⟨name.toArray⟩ : ByteArray).data.toList = name from rfl] at hv2
    have hform : ∃ na nc, nv = .slice na st.ns.length nc := by
      rcases h.names.own.2 with ⟨e1, e2⟩ | ⟨g, cap, cur, e1, _⟩
      · exact ⟨none, 0, by rw [e1, e2]⟩
      · exact ⟨_, _, e1⟩
    obtain ⟨na, nc, rfl⟩ := hform
    have c6 := h0.box.cell 6
    simp only [List.getElem?_toArray, List.getElem?_cons_succ, List.getElem?_cons_zero] at c6
    have hBV : B ≠ V := fun e => by
      obtain ⟨es, cl, hm⟩ := hv.map
      have h3 := h0.box
      rw [e] at h3
      rw [show _ = some _ from h3] at hm
      cases hm
    have hbx2 : Box w2 B _ _ := (hg2.block B h0.box.lt (fun e => hBV (by cases e; rfl))).trans h0.box
    have hRV : W.heap.size ≠ V := fun e => by
      obtain ⟨es, cl, hm⟩ := hv.map
      rw [← e] at hm
      rw [show _ = some _ from hR0] at hm
      cases hm
    have hR2 : Box w2 W.heap.size _ _ := (hg2.block _ hR0.lt (fun e => hRV (by cases e; rfl))).trans hR0
    have hown2 := h0.names.own.kept hg2 (by
      rcases hb : (Value.slice na st.ns.length nc).ownBlock with _ | b
      · exact .inl rfl
      · refine .inr fun e => ?_
        cases e
        obtain ⟨c, fr, h3⟩ := h0.names.typed hb
        obtain ⟨es, cl, hm⟩ := hv.map
        rw [hm] at h3
        cases h3)
    have d5 := hbx2.cell 5
    have d6 := hbx2.cell 6
    have dl := hbx2.lt
    have hw2s : w.heap.size ≤ w2.heap.size := by have h1 := hg2.size; have h2 := h0.below.size; omega
    have hW2s : W.heap.size + 1 ≤ w2.heap.size := by have h1 := hg2.size; have h2 := hR0.lt; omega
    simp only [List.getElem?_toArray, List.getElem?_cons_succ, List.getElem?_cons_zero] at d5 d6
    have hknown : (vix st.ns name = none) ∨ (∃ v, vix st.ns name = some v ∧ name = [95]) := by
      cases hv3 : vix st.ns name with
      | none => exact .inl rfl
      | some v => exact .inr ⟨v, rfl, hnew.resolve_left (by rw [hv3]; simp)⟩
    have HH := Lib.hid (And.intro h0 (And.intro hT0 (And.intro hv2 (And.intro hg2 (And.intro hbx2 hR2)))))
    have HNN := Lib.hid hnn
    clear h h0 hT0 hR0 hA hv hq1 hv2 hg2 hbx2 hR2 hold hnew
    rcases hknown with hk | ⟨vv, hk, rfl⟩
    · rw [hk] at hlk
      simp only [Option.getD_none, Option.isSome_none, Int.ofNat_zero] at hlk
      clear hk
      go_enter Tryz.func193, Tryz.ntmps193
      go_wp2_with (at_builtin; go_loud (refine wpList_append_lies _ rfl _ _ 32 rfl w.heap.size 9 i0 _ 1 16 Tryz.underlying32 hi hz0 hz1 hz2 rfl (by decide) _ st.ns.length (st.ns.flatMap strV) rfl (World.ownsRow.alloc hown2 _) ⟨w2.heap.size, 0, none⟩ 1 1 [sV name] rfl rfl (World.news_of_block (cs := #[sV name]) (heap_alloc_new w2 _)) (fun u hu => by simp only [List.mem_cons, List.not_mem_nil, or_false] at hu; rcases hu with rfl; rfl) (by decide) (by unfold maxLen; omega) (by omega) (by simp; omega) (w2.heap.size + 1) (by simp) ?_))
      intro g4 c4 w4 hown4 hgrow hat hlt4
      obtain ⟨h0, hT0, hv2, hg2, hbx2, hR2⟩ := HH.out
      have hadd := h0.addName (name := name) hv2 (by have := HNN.out; omega) hg2 hown4 hgrow (fun b hb => by
        have e2 : g4 = b := by simpa [Value.ownBlock] using hb
        subst e2
        exact hat.imp id (fun e => by have h1 := hg2.size; omega)) hns
      have hBN : some B ≠ (Value.slice na st.ns.length nc).ownBlock := fun e => by
        obtain ⟨c, fr, h2⟩ := h0.names.typed e.symm
        have h3 := h0.box
        rw [show _ = some _ from h3] at h2
        cases h2
      have hRN : some W.heap.size ≠ (Value.slice na st.ns.length nc).ownBlock := fun e => by
        obtain ⟨c, fr, h2⟩ := h0.names.typed e.symm
        have h4 := (hg2.block _ (by have := (Array.getElem?_eq_some_iff.1 h2).1; omega) (fun e => hRV (by cases e; rfl)))
        rw [show w2.heap[W.heap.size]? = some _ from hR2, h2] at h4
        cases h4
      have hbx4 : Box w4 B _ _ := (hgrow.block B (by simp; omega) hBN).trans ((Below.heap_alloc w2 _ B hbx2.lt).trans hbx2)
      have hR4 : Box w4 W.heap.size _ _ := (hgrow.block _ (by simp; omega) hRN).trans ((Below.heap_alloc w2 _ _ hR2.lt).trans hR2)
      have e6 := hbx4.cell 6
      have ez := hbx4.frozen 6
      have el := hbx4.lt
      simp only [List.getElem?_toArray, List.getElem?_cons_succ, List.getElem?_cons_zero] at e6
      have hR5 := hR4.other (fun e => hne1 e) 6 (.slice (some ⟨g4, 0, none⟩) (st.ns.length + 1) c4)
      have q0 := hR4.cell 0
      have q1 := hR4.cell 1
      have q2 := hR4.cell 2
      have q3 := hR4.cell 3
      have z0 := hR4.frozen 0
      have z1 := hR4.frozen 1
      have z2 := hR4.frozen 2
      have z3 := hR4.frozen 3
      have lR := hR4.lt
      simp only [List.getElem?_toArray, List.getElem?_cons_succ, List.getElem?_cons_zero] at q0 q1 q2 q3
      have H5 := Lib.hid (And.intro hadd.1 (And.intro (hT0.trans hadd.2) hR5))
      clear h0 hT0 hv2 hg2 hbx2 hR2 hadd hBN hRN hbx4 hR4 hR5 hown4 hgrow hat hown2
      go_wp2_with fail
      have hf1 := H5.out.1.put H5.out.2.2 (by omega) (.int .i64 1) (.int .i64 (st.ns.length : Int)) (.string ⟨#[]⟩) (.slice none 0 0)
      have hf2 := H5.out.2.1.put (R := W.heap.size) (by omega) (.int .i64 1) (.int .i64 (st.ns.length : Int)) (.string ⟨#[]⟩) (.slice none 0 0)
      have hf3 := H5.out.2.2.set4 (.int .i64 1) (.int .i64 (st.ns.length : Int)) (.string ⟨#[]⟩) (.slice none 0 0)
      unfold set4 at hf1 hf2 hf3
      generalize ((((w4.setCell ⟨B, 6, none⟩ (.slice (some ⟨g4, 0, none⟩) (st.ns.length + 1) c4)).setCell ⟨W.heap.size, 0, none⟩ (.int .i64 1)).setCell ⟨W.heap.size, 1, none⟩ (.int .i64 (st.ns.length : Int))).setCell ⟨W.heap.size, 2, none⟩ (.string ⟨#[]⟩)).setCell ⟨W.heap.size, 3, none⟩ (.slice none 0 0) = FW at *
      have y0 := hf3.cell 0
      have y1 := hf3.cell 1
      have y2 := hf3.cell 2
      have y3 := hf3.cell 3
      simp only [List.getElem?_toArray, List.getElem?_cons_succ, List.getElem?_cons_zero] at y0 y1 y2 y3
      refine bodyPost_ret (v := .agg #[.int .i64 1, .int .i64 (st.ns.length : Int), .string ⟨#[]⟩, .slice none 0 0]) (by simp [results, Tryz.results193, go_sem, y0, y1, y2, y3]) rfl ?_
      rw [HP.out]
      exact ⟨_, _, rfl, tval.leaf (by unfold okI; omega) (by unfold okI; omega) (by decide) (by unfold maxLen; omega), hf1, hf2, Nat.le_refl _⟩
    · rw [hk] at hlk
      simp only [Option.getD_some, Option.isSome_some] at hlk
      clear hk
      go_enter Tryz.func193, Tryz.ntmps193
      go_wp2_with (at_builtin; go_loud (refine wpList_append_lies _ rfl _ _ 32 rfl w.heap.size 9 i0 _ 1 16 Tryz.underlying32 hi hz0 hz1 hz2 rfl (by decide) _ st.ns.length (st.ns.flatMap strV) rfl (World.ownsRow.alloc hown2 _) ⟨w2.heap.size, 0, none⟩ 1 1 [sV [95]] rfl rfl (World.news_of_block (cs := #[sV [95]]) (heap_alloc_new w2 _)) (fun u hu => by simp only [List.mem_cons, List.not_mem_nil, or_false] at hu; rcases hu with rfl; rfl) (by decide) (by unfold maxLen; omega) (by omega) (by simp; omega) (w2.heap.size + 1) (by simp) ?_))
      intro g4 c4 w4 hown4 hgrow hat hlt4
      obtain ⟨h0, hT0, hv2, hg2, hbx2, hR2⟩ := HH.out
      have hadd := h0.addName (name := [95]) hv2 (by have := HNN.out; omega) hg2 hown4 hgrow (fun b hb => by
        have e2 : g4 = b := by simpa [Value.ownBlock] using hb
        subst e2
        exact hat.imp id (fun e => by have h1 := hg2.size; omega)) hns
      have hBN : some B ≠ (Value.slice na st.ns.length nc).ownBlock := fun e => by
        obtain ⟨c, fr, h2⟩ := h0.names.typed e.symm
        have h3 := h0.box
        rw [show _ = some _ from h3] at h2
        cases h2
      have hRN : some W.heap.size ≠ (Value.slice na st.ns.length nc).ownBlock := fun e => by
        obtain ⟨c, fr, h2⟩ := h0.names.typed e.symm
        have h4 := (hg2.block _ (by have := (Array.getElem?_eq_some_iff.1 h2).1; omega) (fun e => hRV (by cases e; rfl)))
        rw [show w2.heap[W.heap.size]? = some _ from hR2, h2] at h4
        cases h4
      have hbx4 : Box w4 B _ _ := (hgrow.block B (by simp; omega) hBN).trans ((Below.heap_alloc w2 _ B hbx2.lt).trans hbx2)
      have hR4 : Box w4 W.heap.size _ _ := (hgrow.block _ (by simp; omega) hRN).trans ((Below.heap_alloc w2 _ _ hR2.lt).trans hR2)
      have e6 := hbx4.cell 6
      have ez := hbx4.frozen 6
      have el := hbx4.lt
      simp only [List.getElem?_toArray, List.getElem?_cons_succ, List.getElem?_cons_zero] at e6
      have hR5 := hR4.other (fun e => hne1 e) 6 (.slice (some ⟨g4, 0, none⟩) (st.ns.length + 1) c4)
      have q0 := hR4.cell 0
      have q1 := hR4.cell 1
      have q2 := hR4.cell 2
      have q3 := hR4.cell 3
      have z0 := hR4.frozen 0
      have z1 := hR4.frozen 1
      have z2 := hR4.frozen 2
      have z3 := hR4.frozen 3
      have lR := hR4.lt
      simp only [List.getElem?_toArray, List.getElem?_cons_succ, List.getElem?_cons_zero] at q0 q1 q2 q3
      have H5 := Lib.hid (And.intro hadd.1 (And.intro (hT0.trans hadd.2) hR5))
      clear h0 hT0 hv2 hg2 hbx2 hR2 hadd hBN hRN hbx4 hR4 hR5 hown4 hgrow hat hown2
      go_wp2_with fail
      have hf1 := H5.out.1.put H5.out.2.2 (by omega) (.int .i64 1) (.int .i64 (st.ns.length : Int)) (.string ⟨#[]⟩) (.slice none 0 0)
      have hf2 := H5.out.2.1.put (R := W.heap.size) (by omega) (.int .i64 1) (.int .i64 (st.ns.length : Int)) (.string ⟨#[]⟩) (.slice none 0 0)
      have hf3 := H5.out.2.2.set4 (.int .i64 1) (.int .i64 (st.ns.length : Int)) (.string ⟨#[]⟩) (.slice none 0 0)
      unfold set4 at hf1 hf2 hf3
      generalize ((((w4.setCell ⟨B, 6, none⟩ (.slice (some ⟨g4, 0, none⟩) (st.ns.length + 1) c4)).setCell ⟨W.heap.size, 0, none⟩ (.int .i64 1)).setCell ⟨W.heap.size, 1, none⟩ (.int .i64 (st.ns.length : Int))).setCell ⟨W.heap.size, 2, none⟩ (.string ⟨#[]⟩)).setCell ⟨W.heap.size, 3, none⟩ (.slice none 0 0) = FW at *
      have y0 := hf3.cell 0
      have y1 := hf3.cell 1
      have y2 := hf3.cell 2
      have y3 := hf3.cell 3
      simp only [List.getElem?_toArray, List.getElem?_cons_succ, List.getElem?_cons_zero] at y0 y1 y2 y3
      refine bodyPost_ret (v := .agg #[.int .i64 1, .int .i64 (st.ns.length : Int), .string ⟨#[]⟩, .slice none 0 0]) (by simp [results, Tryz.results193, go_sem, y0, y1, y2, y3]) rfl ?_
      rw [HP.out]
      exact ⟨_, _, rfl, tval.leaf (by unfold okI; omega) (by unfold okI; omega) (by decide) (by unfold maxLen; omega), hf1, hf2, Nat.le_refl _⟩
end
end Go.Proofs.YthfciekhmbfmfaaGreatDoor
