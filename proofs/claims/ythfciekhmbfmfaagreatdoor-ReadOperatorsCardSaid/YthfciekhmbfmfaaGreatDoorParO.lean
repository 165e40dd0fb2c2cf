/- The parser's first: a term that does not begin with another one. -/
import Derived.Test.YthfciekhmbfmfaaGreatDoorParM
namespace Go.Proofs.YthfciekhmbfmfaaGreatDoor
open Go.RowKit Go Go.Maps

section
variable {w : World} {B b1 b2 V tot : Nat} {xs : List Lx} {pv nv : Value} {st : PS} {W : World} {n : Nat}
set_option maxRecDepth 100000 in
set_option maxHeartbeats 32000000 in
theorem first_any (hT : TermOk w B b1 b2 V tot xs pv n) (h : PaSt w B b1 b2 V tot xs pv st nv W) (hx : LxOk tot xs) (hn : xs.length < n + (st.i + 1)) (most : Int) :
    Calls Tryz.prog 149 #[.pointer (some ⟨B, 0, none⟩), .int .i64 most] W (PaQ w B b1 b2 V tot xs pv nv (st.i + 1) W (pval W.heap.size) (firstF tot xs (termN tot xs n) most st)) := by
  have HT := Lib.hid hT
  have HX := Lib.hid hx
  have HN := Lib.hid hn
  have hl8 := hx.len
  have hix := h.hi
  have HNS := Lib.hid h.hn
  obtain ⟨hne1, hne2⟩ := h.ne
  have hR0 : Box (W.alloc (.cells #[.int .i64 0, .int .i64 0, .string ⟨#[]⟩, .slice none 0 0] 31)) W.heap.size #[.int .i64 0, .int .i64 0, .string ⟨#[]⟩, .slice none 0 0] 31 := World.alloc_heap_new _ _
  have hA := below_a1 (Nat.le_refl W.heap.size) (.cells #[.int .i64 0, .int .i64 0, .string ⟨#[]⟩, .slice none 0 0] 31)
  have h0 := h.up hA
  have hT0 := PaTo.up (B := B) (V := V) (nv := nv) hA
  have hwW := h.below.size
  obtain ⟨i1, hi1⟩ : ∃ i1, st.i + 1 = i1 := ⟨_, rfl⟩
  have hi2 : ((st.i : Int) + 1) = (i1 : Int) := by omega
  have hwr : IntKind.i64.wrap (i1 : Int) = (i1 : Int) := by rw [IntKind.wrap_i64]; omega
  have HI := Lib.hid hi1
  have HK := Lib.hid (peek_any h0 hx)
  have H0 := Lib.hid (And.intro h0 (And.intro hT0 hR0))
  clear h h0 hT0 hR0 hA hi1 hT hn
  cases ht : tokAt xs st.i with
  | none =>
    have HP : Hid (firstF tot xs (termN tot xs n) most st = .error (plc tot xs st.i)) := by rw [Hid, firstF, ht]
    have HTK := Lib.hid ht
    clear ht
    have ta0 := ta_any .name none
    have ta1 := ta_any .quoted none
    have ta2 := ta_any .sign none
    have ta3 := ta_any .var none
    have ta4 := ta_any .int none
    have ta5 := ta_any .str none
    simp only [tokO, tokV, kTy, taV, taB, payV, reduceCtorEq, if_false, if_true, decide_true, decide_false] at ta0 ta1 ta2 ta3 ta4 ta5
    go_enter Tryz.func149, Tryz.ntmps149
    go_wp2_with fail
    refine (HK.out).mono ?_
    rintro e w1 ⟨rfl, B1⟩
    rw [HTK.out]
    simp only [tokO]
    have H1 := Lib.hid (And.intro (H0.out.1.up B1) (And.intro (H0.out.2.1.trans (PaTo.up (B := B) (V := V) (nv := nv) B1)) (H0.out.2.2.keep B1)))
    have hw1 : W.heap.size + 1 ≤ w1.heap.size := by have := (H1.out.2.2).lt; omega
    clear B1
    have HC := Lib.hid (tooMuch_any H1.out.1 HX.out)
    go_wp2_with fail
    refine (HC.out).mono ?_
    rintro e w2 ⟨rfl, hb⟩
    refine And.intro rfl ?_
    rw [HP.out]
    exact ⟨rfl, H1.out.1.below.trans (hb.mono H1.out.1.below.size)⟩
  | some t =>
    have hlt : st.i < xs.length := by
      by_cases hq : st.i < xs.length
      · exact hq
      · rw [tokAt_none (by omega)] at ht; cases ht
    have hok := hx.tok _ (List.getElem_mem hlt)
    rw [show xs[st.i].t = t by rw [tokAt_some hlt] at ht; exact Option.some.inj ht] at hok
    obtain ⟨k, s, tn⟩ := t
    have HSL : Hid (s.length ≤ 255) := hok.1
    have HTN : Hid (tn ≤ 2147483647) := hok.2.1
    clear hok
    cases k with
    | name =>
      have HP : Hid (firstF tot xs (termN tot xs n) most st = namedF tot xs (termN tot xs n) s most st) := by rw [Hid, firstF, ht]
      have HTK := Lib.hid ht
      clear ht
      have ta0 := ta_any .name (some ⟨.name, s, tn⟩)
      have ta1 := ta_any .quoted (some ⟨.name, s, tn⟩)
      have ta2 := ta_any .sign (some ⟨.name, s, tn⟩)
      have ta3 := ta_any .var (some ⟨.name, s, tn⟩)
      have ta4 := ta_any .int (some ⟨.name, s, tn⟩)
      have ta5 := ta_any .str (some ⟨.name, s, tn⟩)
      simp only [tokO, tokV, kTy, taV, taB, payV, reduceCtorEq, if_false, if_true, decide_true, decide_false] at ta0 ta1 ta2 ta3 ta4 ta5
      go_enter Tryz.func149, Tryz.ntmps149
      go_wp2_with fail
      refine (HK.out).mono ?_
      rintro e w1 ⟨rfl, B1⟩
      rw [HTK.out]
      simp only [tokO, tokV]
      have H1 := Lib.hid (And.intro (H0.out.1.up B1) (And.intro (H0.out.2.1.trans (PaTo.up (B := B) (V := V) (nv := nv) B1)) (H0.out.2.2.keep B1)))
      have hw1 : W.heap.size + 1 ≤ w1.heap.size := by have := (H1.out.2.2).lt; omega
      clear B1
      go_wp2_with fail
      refine (named_any HT.out H1.out.1 HX.out HN.out hlt s HSL.out most).mono ?_
      rintro e w2 hQ2
      cases hr : namedF tot xs (termN tot xs n) s most st with
      | error p =>
        rw [hr] at hQ2
        obtain ⟨rfl, hb⟩ := hQ2
        refine And.intro rfl ?_
        rw [HP.out, hr]
        exact ⟨rfl, hb⟩
      | ok x =>
        obtain ⟨⟨t, pr⟩, st2⟩ := x
        rw [hr] at hQ2
        obtain ⟨v2, nv2, rfl, ⟨u2, rfl, ht⟩, h2, hT2, hi3⟩ := hQ2
        have ht : tval w1.heap.size t u2 w2 := ht
        obtain ⟨a0, a1, a2, a3, am, a4, rfl⟩ := IsP.formP ht
        have hR3 := PaTo.box H1.out.1 hT2 H1.out.2.2 (by decide) (by decide)
        have hi3' : st.i + 1 ≤ st2.i := hi3
        have H2 := Lib.hid (And.intro h2 (And.intro (H1.out.2.1.trans hT2) (And.intro hR3 ht)))
        have HR := Lib.hid hr
        have q0 := hR3.cell 0
        have q1 := hR3.cell 1
        have q2 := hR3.cell 2
        have q3 := hR3.cell 3
        have z0 := hR3.frozen 0
        have z1 := hR3.frozen 1
        have z2 := hR3.frozen 2
        have z3 := hR3.frozen 3
        have l1 := hR3.lt
        simp only [List.getElem?_toArray, List.getElem?_cons_succ, List.getElem?_cons_zero] at q0 q1 q2 q3
        clear h2 hT2 hR3 ht hi3 hr
        go_wp2_with fail
        have hf1 := H2.out.1.put H2.out.2.2.1 (by omega) (.int .i64 a0) (.int .i64 a1) (.string a2) (.slice a3 am a4)
        have hf2 := H2.out.2.1.put (R := W.heap.size) (by omega) (.int .i64 a0) (.int .i64 a1) (.string a2) (.slice a3 am a4)
        have hf3 := H2.out.2.2.1.set4 (.int .i64 a0) (.int .i64 a1) (.string a2) (.slice a3 am a4)
        have hf4 := H2.out.2.2.2.set4 (show W.heap.size < w1.heap.size by omega) (.int .i64 a0) (.int .i64 a1) (.string a2) (.slice a3 am a4)
        unfold set4 at hf1 hf2 hf3 hf4
        generalize (((w2.setCell ⟨W.heap.size, 0, none⟩ (.int .i64 a0)).setCell ⟨W.heap.size, 1, none⟩ (.int .i64 a1)).setCell ⟨W.heap.size, 2, none⟩ (.string a2)).setCell ⟨W.heap.size, 3, none⟩ (.slice a3 am a4) = FW at *
        have y0 := hf3.cell 0
        have y1 := hf3.cell 1
        have y2 := hf3.cell 2
        have y3 := hf3.cell 3
        simp only [List.getElem?_toArray, List.getElem?_cons_succ, List.getElem?_cons_zero] at y0 y1 y2 y3
        refine bodyPost_ret (v := .tuple #[.agg #[.int .i64 a0, .int .i64 a1, .string a2, .slice a3 am a4], .int .i64 pr]) (by simp [results, Tryz.results149, go_sem, y0, y1, y2, y3]) rfl ?_
        rw [HP.out, HR.out]
        exact ⟨_, nv2, rfl, ⟨_, rfl, hf4.up (TmK.refl _) (by omega)⟩, hf1, hf2, hi3'⟩
    | quoted =>
      have HP : Hid (firstF tot xs (termN tot xs n) most st = match plainF tot xs (termN tot xs n) s st with | .error e => .error e | .ok (t, st') => .ok ((t, 0), st')) := by rw [Hid, firstF, ht]; rfl
      have HTK := Lib.hid ht
      clear ht
      have ta0 := ta_any .name (some ⟨.quoted, s, tn⟩)
      have ta1 := ta_any .quoted (some ⟨.quoted, s, tn⟩)
      have ta2 := ta_any .sign (some ⟨.quoted, s, tn⟩)
      have ta3 := ta_any .var (some ⟨.quoted, s, tn⟩)
      have ta4 := ta_any .int (some ⟨.quoted, s, tn⟩)
      have ta5 := ta_any .str (some ⟨.quoted, s, tn⟩)
      simp only [tokO, tokV, kTy, taV, taB, payV, reduceCtorEq, if_false, if_true, decide_true, decide_false] at ta0 ta1 ta2 ta3 ta4 ta5
      go_enter Tryz.func149, Tryz.ntmps149
      go_wp2_with fail
      refine (HK.out).mono ?_
      rintro e w1 ⟨rfl, B1⟩
      rw [HTK.out]
      simp only [tokO, tokV]
      have H1 := Lib.hid (And.intro (H0.out.1.up B1) (And.intro (H0.out.2.1.trans (PaTo.up (B := B) (V := V) (nv := nv) B1)) (H0.out.2.2.keep B1)))
      have hw1 : W.heap.size + 1 ≤ w1.heap.size := by have := (H1.out.2.2).lt; omega
      clear B1
      go_wp2_with fail
      refine (plain_any HT.out H1.out.1 HX.out HN.out hlt s HSL.out).mono ?_
      rintro e w2 hQ2
      cases hr : plainF tot xs (termN tot xs n) s st with
      | error p =>
        rw [hr] at hQ2
        obtain ⟨rfl, hb⟩ := hQ2
        refine And.intro rfl ?_
        rw [HP.out, hr]
        exact ⟨rfl, hb⟩
      | ok x =>
        obtain ⟨t, st2⟩ := x
        rw [hr] at hQ2
        obtain ⟨v2, nv2, rfl, ht, h2, hT2, hi3⟩ := hQ2
        skip
        obtain ⟨a0, a1, a2, a3, am, a4, rfl⟩ := IsP.formP ht
        have hR3 := PaTo.box H1.out.1 hT2 H1.out.2.2 (by decide) (by decide)
        have hi3' : st.i + 1 ≤ st2.i := hi3
        have H2 := Lib.hid (And.intro h2 (And.intro (H1.out.2.1.trans hT2) (And.intro hR3 ht)))
        have HR := Lib.hid hr
        have q0 := hR3.cell 0
        have q1 := hR3.cell 1
        have q2 := hR3.cell 2
        have q3 := hR3.cell 3
        have z0 := hR3.frozen 0
        have z1 := hR3.frozen 1
        have z2 := hR3.frozen 2
        have z3 := hR3.frozen 3
        have l1 := hR3.lt
        simp only [List.getElem?_toArray, List.getElem?_cons_succ, List.getElem?_cons_zero] at q0 q1 q2 q3
        clear h2 hT2 hR3 ht hi3 hr
        go_wp2_with fail
        have hf1 := H2.out.1.put H2.out.2.2.1 (by omega) (.int .i64 a0) (.int .i64 a1) (.string a2) (.slice a3 am a4)
        have hf2 := H2.out.2.1.put (R := W.heap.size) (by omega) (.int .i64 a0) (.int .i64 a1) (.string a2) (.slice a3 am a4)
        have hf3 := H2.out.2.2.1.set4 (.int .i64 a0) (.int .i64 a1) (.string a2) (.slice a3 am a4)
        have hf4 := H2.out.2.2.2.set4 (show W.heap.size < w1.heap.size by omega) (.int .i64 a0) (.int .i64 a1) (.string a2) (.slice a3 am a4)
        unfold set4 at hf1 hf2 hf3 hf4
        generalize (((w2.setCell ⟨W.heap.size, 0, none⟩ (.int .i64 a0)).setCell ⟨W.heap.size, 1, none⟩ (.int .i64 a1)).setCell ⟨W.heap.size, 2, none⟩ (.string a2)).setCell ⟨W.heap.size, 3, none⟩ (.slice a3 am a4) = FW at *
        have y0 := hf3.cell 0
        have y1 := hf3.cell 1
        have y2 := hf3.cell 2
        have y3 := hf3.cell 3
        simp only [List.getElem?_toArray, List.getElem?_cons_succ, List.getElem?_cons_zero] at y0 y1 y2 y3
        refine bodyPost_ret (v := .tuple #[.agg #[.int .i64 a0, .int .i64 a1, .string a2, .slice a3 am a4], .int .i64 0]) (by simp [results, Tryz.results149, go_sem, y0, y1, y2, y3]) rfl ?_
        rw [HP.out, HR.out]
        exact ⟨_, nv2, rfl, ⟨_, rfl, hf4.up (TmK.refl _) (by omega)⟩, hf1, hf2, hi3'⟩
    | var =>
      have HP : Hid (firstF tot xs (termN tot xs n) most st = .ok ((.node 1 ((varF s st.ns).1 : Int) (nm []) [], 0), ⟨i1, (varF s st.ns).2⟩)) := by rw [Hid, firstF, ht]; simp only [HI.out]
      have HTK := Lib.hid ht
      clear ht
      have ta0 := ta_any .name (some ⟨.var, s, tn⟩)
      have ta1 := ta_any .quoted (some ⟨.var, s, tn⟩)
      have ta2 := ta_any .sign (some ⟨.var, s, tn⟩)
      have ta3 := ta_any .var (some ⟨.var, s, tn⟩)
      have ta4 := ta_any .int (some ⟨.var, s, tn⟩)
      have ta5 := ta_any .str (some ⟨.var, s, tn⟩)
      simp only [tokO, tokV, kTy, taV, taB, payV, reduceCtorEq, if_false, if_true, decide_true, decide_false] at ta0 ta1 ta2 ta3 ta4 ta5
      go_enter Tryz.func149, Tryz.ntmps149
      go_wp2_with fail
      refine (HK.out).mono ?_
      rintro e w1 ⟨rfl, B1⟩
      rw [HTK.out]
      simp only [tokO, tokV]
      have H1 := Lib.hid (And.intro (H0.out.1.up B1) (And.intro (H0.out.2.1.trans (PaTo.up (B := B) (V := V) (nv := nv) B1)) (H0.out.2.2.keep B1)))
      have hw1 : W.heap.size + 1 ≤ w1.heap.size := by have := (H1.out.2.2).lt; omega
      clear B1
      have h1 := H1.out.1
      have hS := h1.setAt i1 (by have := HI.out; omega) (by have := HI.out; omega)
      have hR2 := H1.out.2.2.other (fun e => hne1 e) 1 (.int .i64 (i1 : Int))
      have hTW := H1.out.2.1.trans hS.2
      have c1 := h1.box.cell 1
      have f1 := h1.box.frozen 1
      have l0 := h1.box.lt
      simp only [List.getElem?_toArray, List.getElem?_cons_succ, List.getElem?_cons_zero] at c1
      have H2 := Lib.hid (And.intro hS.1 (And.intro hTW hR2))
      have hwS : w1.heap.size = (w1.setCell ⟨B, 1, none⟩ (.int .i64 (i1 : Int))).heap.size := by simp
      clear h1 hS hR2 hTW
      go_wp2_with fail
      refine (variable_any H2.out.1 HX.out (by have h1 := HI.out; have h2 := HNS.out; show st.ns.length + 1 ≤ i1; omega) s HSL.out).mono ?_
      rintro e w2 hQ2
      obtain ⟨v2, nv2, rfl, ht, h2, hT2, hi3⟩ := hQ2
      obtain ⟨a0, a1, a2, a3, am, a4, rfl⟩ := IsP.formP ht
      have hR3 := PaTo.box H2.out.1 hT2 H2.out.2.2 (by decide) (by decide)
      rw [← hwS] at ht
      have H3 := Lib.hid (And.intro h2 (And.intro (H2.out.2.1.trans hT2) (And.intro hR3 ht)))
      have q0 := hR3.cell 0
      have q1 := hR3.cell 1
      have q2 := hR3.cell 2
      have q3 := hR3.cell 3
      have z0 := hR3.frozen 0
      have z1 := hR3.frozen 1
      have z2 := hR3.frozen 2
      have z3 := hR3.frozen 3
      have l1 := hR3.lt
      simp only [List.getElem?_toArray, List.getElem?_cons_succ, List.getElem?_cons_zero] at q0 q1 q2 q3
      clear h2 hT2 hR3 ht hi3 c1 f1 l0
      go_wp2_with fail
      have hf1 := H3.out.1.put H3.out.2.2.1 (by omega) (.int .i64 a0) (.int .i64 a1) (.string a2) (.slice a3 am a4)
      have hf2 := H3.out.2.1.put (R := W.heap.size) (by omega) (.int .i64 a0) (.int .i64 a1) (.string a2) (.slice a3 am a4)
      have hf3 := H3.out.2.2.1.set4 (.int .i64 a0) (.int .i64 a1) (.string a2) (.slice a3 am a4)
      have hf4 := H3.out.2.2.2.set4 (show W.heap.size < w1.heap.size by omega) (.int .i64 a0) (.int .i64 a1) (.string a2) (.slice a3 am a4)
      unfold set4 at hf1 hf2 hf3 hf4
      generalize (((w2.setCell ⟨W.heap.size, 0, none⟩ (.int .i64 a0)).setCell ⟨W.heap.size, 1, none⟩ (.int .i64 a1)).setCell ⟨W.heap.size, 2, none⟩ (.string a2)).setCell ⟨W.heap.size, 3, none⟩ (.slice a3 am a4) = FW at *
      have y0 := hf3.cell 0
      have y1 := hf3.cell 1
      have y2 := hf3.cell 2
      have y3 := hf3.cell 3
      simp only [List.getElem?_toArray, List.getElem?_cons_succ, List.getElem?_cons_zero] at y0 y1 y2 y3
      refine bodyPost_ret (v := .tuple #[.agg #[.int .i64 a0, .int .i64 a1, .string a2, .slice a3 am a4], .int .i64 0]) (by simp [results, Tryz.results149, go_sem, y0, y1, y2, y3]) rfl ?_
      rw [HP.out]
      exact ⟨_, nv2, rfl, ⟨_, rfl, hf4.up (TmK.refl _) (by omega)⟩, hf1, hf2, by show st.i + 1 ≤ i1; rw [HI.out]; exact Nat.le_refl _⟩
    | int =>
      have HP : Hid (firstF tot xs (termN tot xs n) most st = .ok ((.node 2 (tn : Int) (nm []) [], 0), ⟨i1, st.ns⟩)) := by rw [Hid, firstF, ht]; simp only [HI.out]
      have HTK := Lib.hid ht
      clear ht
      have ta0 := ta_any .name (some ⟨.int, s, tn⟩)
      have ta1 := ta_any .quoted (some ⟨.int, s, tn⟩)
      have ta2 := ta_any .sign (some ⟨.int, s, tn⟩)
      have ta3 := ta_any .var (some ⟨.int, s, tn⟩)
      have ta4 := ta_any .int (some ⟨.int, s, tn⟩)
      have ta5 := ta_any .str (some ⟨.int, s, tn⟩)
      simp only [tokO, tokV, kTy, taV, taB, payV, reduceCtorEq, if_false, if_true, decide_true, decide_false] at ta0 ta1 ta2 ta3 ta4 ta5
      go_enter Tryz.func149, Tryz.ntmps149
      go_wp2_with fail
      refine (HK.out).mono ?_
      rintro e w1 ⟨rfl, B1⟩
      rw [HTK.out]
      simp only [tokO, tokV]
      have H1 := Lib.hid (And.intro (H0.out.1.up B1) (And.intro (H0.out.2.1.trans (PaTo.up (B := B) (V := V) (nv := nv) B1)) (H0.out.2.2.keep B1)))
      have hw1 : W.heap.size + 1 ≤ w1.heap.size := by have := (H1.out.2.2).lt; omega
      clear B1
      have h1 := H1.out.1
      have hS := h1.setAt i1 (by have := HI.out; omega) (by have := HI.out; omega)
      have hR2 := H1.out.2.2.other (fun e => hne1 e) 1 (.int .i64 (i1 : Int))
      have hTW := H1.out.2.1.trans hS.2
      have c1 := h1.box.cell 1
      have f1 := h1.box.frozen 1
      have l0 := h1.box.lt
      simp only [List.getElem?_toArray, List.getElem?_cons_succ, List.getElem?_cons_zero] at c1
      have q0 := H1.out.2.2.cell 0
      have q1 := H1.out.2.2.cell 1
      have q2 := H1.out.2.2.cell 2
      have q3 := H1.out.2.2.cell 3
      have z0 := H1.out.2.2.frozen 0
      have z1 := H1.out.2.2.frozen 1
      have z2 := H1.out.2.2.frozen 2
      have z3 := H1.out.2.2.frozen 3
      have l1 := H1.out.2.2.lt
      simp only [List.getElem?_toArray, List.getElem?_cons_succ, List.getElem?_cons_zero] at q0 q1 q2 q3
      have H2 := Lib.hid (And.intro hS.1 (And.intro hTW hR2))
      clear h1 hS hR2 hTW
      go_wp2_with fail
      have hf1 := H2.out.1.put H2.out.2.2 (by omega) (.int .i64 2) (.int .i64 (tn : Int)) (.string ⟨#[]⟩) (.slice none 0 0)
      have hf2 := H2.out.2.1.put (R := W.heap.size) (by omega) (.int .i64 2) (.int .i64 (tn : Int)) (.string ⟨#[]⟩) (.slice none 0 0)
      have hf3 := H2.out.2.2.set4 (.int .i64 2) (.int .i64 (tn : Int)) (.string ⟨#[]⟩) (.slice none 0 0)
      unfold set4 at hf1 hf2 hf3
      generalize ((((w1.setCell ⟨B, 1, none⟩ (.int .i64 (i1 : Int))).setCell ⟨W.heap.size, 0, none⟩ (.int .i64 2)).setCell ⟨W.heap.size, 1, none⟩ (.int .i64 (tn : Int))).setCell ⟨W.heap.size, 2, none⟩ (.string ⟨#[]⟩)).setCell ⟨W.heap.size, 3, none⟩ (.slice none 0 0) = FW at *
      have y0 := hf3.cell 0
      have y1 := hf3.cell 1
      have y2 := hf3.cell 2
      have y3 := hf3.cell 3
      simp only [List.getElem?_toArray, List.getElem?_cons_succ, List.getElem?_cons_zero] at y0 y1 y2 y3
      refine bodyPost_ret (v := .tuple #[.agg #[.int .i64 2, .int .i64 (tn : Int), .string ⟨#[]⟩, .slice none 0 0], .int .i64 0]) (by simp [results, Tryz.results149, go_sem, y0, y1, y2, y3]) rfl ?_
      rw [HP.out]
      exact ⟨_, nv, rfl, ⟨_, rfl, tval.leaf (by unfold okI; omega) (by unfold okI; have := HTN.out; omega) (by decide) (by unfold maxLen; omega)⟩, hf1, hf2, by rw [HI.out]; exact Nat.le_refl _⟩
    | str =>
      have HP : Hid (firstF tot xs (termN tot xs n) most st = .ok ((.node 4 0 (nm s) [], 0), ⟨i1, st.ns⟩)) := by rw [Hid, firstF, ht]; simp only [HI.out]
      have HTK := Lib.hid ht
      clear ht
      have ta0 := ta_any .name (some ⟨.str, s, tn⟩)
      have ta1 := ta_any .quoted (some ⟨.str, s, tn⟩)
      have ta2 := ta_any .sign (some ⟨.str, s, tn⟩)
      have ta3 := ta_any .var (some ⟨.str, s, tn⟩)
      have ta4 := ta_any .int (some ⟨.str, s, tn⟩)
      have ta5 := ta_any .str (some ⟨.str, s, tn⟩)
      simp only [tokO, tokV, kTy, taV, taB, payV, reduceCtorEq, if_false, if_true, decide_true, decide_false] at ta0 ta1 ta2 ta3 ta4 ta5
      go_enter Tryz.func149, Tryz.ntmps149
      go_wp2_with fail
      refine (HK.out).mono ?_
      rintro e w1 ⟨rfl, B1⟩
      rw [HTK.out]
      simp only [tokO, tokV]
      have H1 := Lib.hid (And.intro (H0.out.1.up B1) (And.intro (H0.out.2.1.trans (PaTo.up (B := B) (V := V) (nv := nv) B1)) (H0.out.2.2.keep B1)))
      have hw1 : W.heap.size + 1 ≤ w1.heap.size := by have := (H1.out.2.2).lt; omega
      clear B1
      have h1 := H1.out.1
      have hS := h1.setAt i1 (by have := HI.out; omega) (by have := HI.out; omega)
      have hR2 := H1.out.2.2.other (fun e => hne1 e) 1 (.int .i64 (i1 : Int))
      have hTW := H1.out.2.1.trans hS.2
      have c1 := h1.box.cell 1
      have f1 := h1.box.frozen 1
      have l0 := h1.box.lt
      simp only [List.getElem?_toArray, List.getElem?_cons_succ, List.getElem?_cons_zero] at c1
      have q0 := H1.out.2.2.cell 0
      have q1 := H1.out.2.2.cell 1
      have q2 := H1.out.2.2.cell 2
      have q3 := H1.out.2.2.cell 3
      have z0 := H1.out.2.2.frozen 0
      have z1 := H1.out.2.2.frozen 1
      have z2 := H1.out.2.2.frozen 2
      have z3 := H1.out.2.2.frozen 3
      have l1 := H1.out.2.2.lt
      simp only [List.getElem?_toArray, List.getElem?_cons_succ, List.getElem?_cons_zero] at q0 q1 q2 q3
      have H2 := Lib.hid (And.intro hS.1 (And.intro hTW hR2))
      clear h1 hS hR2 hTW
      go_wp2_with fail
      have hf1 := H2.out.1.put H2.out.2.2 (by omega) (.int .i64 4) (.int .i64 0) (sV s) (.slice none 0 0)
      have hf2 := H2.out.2.1.put (R := W.heap.size) (by omega) (.int .i64 4) (.int .i64 0) (sV s) (.slice none 0 0)
      have hf3 := H2.out.2.2.set4 (.int .i64 4) (.int .i64 0) (sV s) (.slice none 0 0)
      unfold set4 at hf1 hf2 hf3
      generalize ((((w1.setCell ⟨B, 1, none⟩ (.int .i64 (i1 : Int))).setCell ⟨W.heap.size, 0, none⟩ (.int .i64 4)).setCell ⟨W.heap.size, 1, none⟩ (.int .i64 0)).setCell ⟨W.heap.size, 2, none⟩ (sV s)).setCell ⟨W.heap.size, 3, none⟩ (.slice none 0 0) = FW at *
      have y0 := hf3.cell 0
      have y1 := hf3.cell 1
      have y2 := hf3.cell 2
      have y3 := hf3.cell 3
      simp only [List.getElem?_toArray, List.getElem?_cons_succ, List.getElem?_cons_zero] at y0 y1 y2 y3
      refine bodyPost_ret (v := .tuple #[.agg #[.int .i64 4, .int .i64 0, sV s, .slice none 0 0], .int .i64 0]) (by simp [results, Tryz.results149, go_sem, y0, y1, y2, y3]) rfl ?_
      rw [HP.out]
      exact ⟨_, nv, rfl, ⟨_, rfl, tval.leaf (by unfold okI; omega) (by unfold okI; omega) (by have := HSL.out; show s.toArray.size ≤ _; simp; omega) (by unfold maxLen; omega)⟩, hf1, hf2, by rw [HI.out]; exact Nat.le_refl _⟩
    | sign =>
      have HP : Hid (firstF tot xs (termN tot xs n) most st = match brackF tot xs (termN tot xs n) s st with | .error e => .error e | .ok (t, st') => .ok ((t, 0), st')) := by rw [Hid, firstF, ht]; rfl
      have HTK := Lib.hid ht
      clear ht
      have ta0 := ta_any .name (some ⟨.sign, s, tn⟩)
      have ta1 := ta_any .quoted (some ⟨.sign, s, tn⟩)
      have ta2 := ta_any .sign (some ⟨.sign, s, tn⟩)
      have ta3 := ta_any .var (some ⟨.sign, s, tn⟩)
      have ta4 := ta_any .int (some ⟨.sign, s, tn⟩)
      have ta5 := ta_any .str (some ⟨.sign, s, tn⟩)
      simp only [tokO, tokV, kTy, taV, taB, payV, reduceCtorEq, if_false, if_true, decide_true, decide_false] at ta0 ta1 ta2 ta3 ta4 ta5
      go_enter Tryz.func149, Tryz.ntmps149
      go_wp2_with fail
      refine (HK.out).mono ?_
      rintro e w1 ⟨rfl, B1⟩
      rw [HTK.out]
      simp only [tokO, tokV]
      have H1 := Lib.hid (And.intro (H0.out.1.up B1) (And.intro (H0.out.2.1.trans (PaTo.up (B := B) (V := V) (nv := nv) B1)) (H0.out.2.2.keep B1)))
      have hw1 : W.heap.size + 1 ≤ w1.heap.size := by have := (H1.out.2.2).lt; omega
      clear B1
      go_wp2_with fail
      refine (bracketed_any HT.out H1.out.1 HX.out HN.out hlt s).mono ?_
      rintro e w2 hQ2
      cases hr : brackF tot xs (termN tot xs n) s st with
      | error p =>
        rw [hr] at hQ2
        obtain ⟨rfl, hb⟩ := hQ2
        refine And.intro rfl ?_
        rw [HP.out, hr]
        exact ⟨rfl, hb⟩
      | ok x =>
        obtain ⟨t, st2⟩ := x
        rw [hr] at hQ2
        obtain ⟨v2, nv2, rfl, ht, h2, hT2, hi3⟩ := hQ2
        skip
        obtain ⟨a0, a1, a2, a3, am, a4, rfl⟩ := IsP.formP ht
        have hR3 := PaTo.box H1.out.1 hT2 H1.out.2.2 (by decide) (by decide)
        have hi3' : st.i + 1 ≤ st2.i := hi3
        have H2 := Lib.hid (And.intro h2 (And.intro (H1.out.2.1.trans hT2) (And.intro hR3 ht)))
        have HR := Lib.hid hr
        have q0 := hR3.cell 0
        have q1 := hR3.cell 1
        have q2 := hR3.cell 2
        have q3 := hR3.cell 3
        have z0 := hR3.frozen 0
        have z1 := hR3.frozen 1
        have z2 := hR3.frozen 2
        have z3 := hR3.frozen 3
        have l1 := hR3.lt
        simp only [List.getElem?_toArray, List.getElem?_cons_succ, List.getElem?_cons_zero] at q0 q1 q2 q3
        clear h2 hT2 hR3 ht hi3 hr
        go_wp2_with fail
        have hf1 := H2.out.1.put H2.out.2.2.1 (by omega) (.int .i64 a0) (.int .i64 a1) (.string a2) (.slice a3 am a4)
        have hf2 := H2.out.2.1.put (R := W.heap.size) (by omega) (.int .i64 a0) (.int .i64 a1) (.string a2) (.slice a3 am a4)
        have hf3 := H2.out.2.2.1.set4 (.int .i64 a0) (.int .i64 a1) (.string a2) (.slice a3 am a4)
        have hf4 := H2.out.2.2.2.set4 (show W.heap.size < w1.heap.size by omega) (.int .i64 a0) (.int .i64 a1) (.string a2) (.slice a3 am a4)
        unfold set4 at hf1 hf2 hf3 hf4
        generalize (((w2.setCell ⟨W.heap.size, 0, none⟩ (.int .i64 a0)).setCell ⟨W.heap.size, 1, none⟩ (.int .i64 a1)).setCell ⟨W.heap.size, 2, none⟩ (.string a2)).setCell ⟨W.heap.size, 3, none⟩ (.slice a3 am a4) = FW at *
        have y0 := hf3.cell 0
        have y1 := hf3.cell 1
        have y2 := hf3.cell 2
        have y3 := hf3.cell 3
        simp only [List.getElem?_toArray, List.getElem?_cons_succ, List.getElem?_cons_zero] at y0 y1 y2 y3
        refine bodyPost_ret (v := .tuple #[.agg #[.int .i64 a0, .int .i64 a1, .string a2, .slice a3 am a4], .int .i64 0]) (by simp [results, Tryz.results149, go_sem, y0, y1, y2, y3]) rfl ?_
        rw [HP.out, HR.out]
        exact ⟨_, nv2, rfl, ⟨_, rfl, hf4.up (TmK.refl _) (by omega)⟩, hf1, hf2, hi3'⟩
    | fin =>
      have HP : Hid (firstF tot xs (termN tot xs n) most st = .error (plc tot xs st.i)) := by rw [Hid, firstF, ht]
      have HTK := Lib.hid ht
      clear ht
      have ta0 := ta_any .name (some ⟨.fin, s, tn⟩)
      have ta1 := ta_any .quoted (some ⟨.fin, s, tn⟩)
      have ta2 := ta_any .sign (some ⟨.fin, s, tn⟩)
      have ta3 := ta_any .var (some ⟨.fin, s, tn⟩)
      have ta4 := ta_any .int (some ⟨.fin, s, tn⟩)
      have ta5 := ta_any .str (some ⟨.fin, s, tn⟩)
      simp only [tokO, tokV, kTy, taV, taB, payV, reduceCtorEq, if_false, if_true, decide_true, decide_false] at ta0 ta1 ta2 ta3 ta4 ta5
      go_enter Tryz.func149, Tryz.ntmps149
      go_wp2_with fail
      refine (HK.out).mono ?_
      rintro e w1 ⟨rfl, B1⟩
      rw [HTK.out]
      simp only [tokO, tokV]
      have H1 := Lib.hid (And.intro (H0.out.1.up B1) (And.intro (H0.out.2.1.trans (PaTo.up (B := B) (V := V) (nv := nv) B1)) (H0.out.2.2.keep B1)))
      have hw1 : W.heap.size + 1 ≤ w1.heap.size := by have := (H1.out.2.2).lt; omega
      clear B1
      have HC := Lib.hid (tooMuch_any H1.out.1 HX.out)
      go_wp2_with fail
      refine (HC.out).mono ?_
      rintro e w2 ⟨rfl, hb⟩
      refine And.intro rfl ?_
      rw [HP.out]
      exact ⟨rfl, H1.out.1.below.trans (hb.mono H1.out.1.below.size)⟩
end
end Go.Proofs.YthfciekhmbfmfaaGreatDoor

/- A region in which the parser reads a term, puts a structure together, and stores it into a box that lies among the trees, and is no part of them. -/
namespace Go.Proofs.YthfciekhmbfmfaaGreatDoor
open Go.RowKit Go Go.Maps

/-- Blocks of terms, from lo on, but one. -/
def TX (R lo : Nat) (W : World) (b : Nat) : Prop := TN lo W b ∧ b ≠ R
def xval (R lo : Nat) (t : Tr) (v : Value) (W : World) : Prop := IsP (TX R lo W) W t v
def xlval (R lo : Nat) (l : List Tr) (v : Value) (W : World) : Prop := ∃ a c, v = .slice a l.length c ∧ l.length ≤ c ∧ c ≤ maxLen ∧ IsPL (TX R lo W) W l a
theorem xval.low {R lo : Nat} {t : Tr} {v : Value} {W : World} (h : xval R lo t v W) : tval lo t v W := IsP.map (fun b hb => ⟨hb.1, rfl⟩) _ _ h
theorem xval.of {R lo : Nat} {t : Tr} {v : Value} {W : World} (h : tval lo t v W) (hR : ∀ b, lo ≤ b → b < W.heap.size → b ≠ R) : xval R lo t v W := IsP.map (fun b hb => ⟨⟨hb, hR b hb.1 hb.lt⟩, rfl⟩) _ _ h
theorem xval.up {R lo lo' : Nat} {t : Tr} {v : Value} {A B : World} (h : xval R lo t v A) (hK : TmK A B) (hl : lo' ≤ lo) : xval R lo' t v B :=
  IsP.map (fun b hb => by
    obtain ⟨⟨h1, c, fr, h2⟩, h4⟩ := hb
    have h3 := hK b c fr h2
    exact ⟨⟨⟨Nat.le_trans hl h1, c, fr, h3⟩, h4⟩, by rw [h3, h2]⟩) _ _ h
theorem xlval.up {R lo lo' : Nat} {l : List Tr} {v : Value} {A B : World} (h : xlval R lo l v A) (hK : TmK A B) (hl : lo' ≤ lo) : xlval R lo' l v B := by
  obtain ⟨a, c, h1, h2, h3, h4⟩ := h
  exact ⟨a, c, h1, h2, h3, IsPL.map (fun b hb => by
    obtain ⟨⟨h1, c, fr, h2⟩, h4⟩ := hb
    have h3 := hK b c fr h2
    exact ⟨⟨⟨Nat.le_trans hl h1, c, fr, h3⟩, h4⟩, by rw [h3, h2]⟩) _ _ h4⟩
theorem xval.set4 {lo R : Nat} {t : Tr} {v : Value} {W : World} (h : xval R lo t v W) (a0 a1 a2 a3 : Value) : xval R lo t v (set4 W R a0 a1 a2 a3) :=
  IsP.map (fun b hb => by
    have h1 := set4_block W R a0 a1 a2 a3 b hb.2
    obtain ⟨⟨h2, c, fr, h3⟩, h4⟩ := hb
    exact ⟨⟨⟨h2, c, fr, h1.trans h3⟩, h4⟩, h1⟩) _ _ h
/-- A row of two terms, laid just now. -/
theorem xlval.two {R lo : Nat} {W : World} {x y : Tr} {x0 x1 x2 x3 y0 y1 y2 y3 : Value} (hx : xval R lo x (.agg #[x0, x1, x2, x3]) W) (hy : xval R lo y (.agg #[y0, y1, y2, y3]) W) (hlo : lo ≤ W.heap.size) (hR : R < W.heap.size) : xlval R lo [x, y] (.slice (some ⟨W.heap.size, 0, none⟩) 2 2) (W.alloc (.cells #[x0, x1, x2, x3, y0, y1, y2, y3] 31)) := by
  have hb : Box (W.alloc (.cells #[x0, x1, x2, x3, y0, y1, y2, y3] 31)) W.heap.size #[x0, x1, x2, x3, y0, y1, y2, y3] 31 := World.alloc_heap_new _ _
  have hK := TmK.of_below (below_a1 (Nat.le_refl W.heap.size) (.cells #[x0, x1, x2, x3, y0, y1, y2, y3] 31))
  have hp : TX R lo (W.alloc (.cells #[x0, x1, x2, x3, y0, y1, y2, y3] 31)) W.heap.size := ⟨⟨hlo, _, _, hb⟩, by omega⟩
  refine ⟨_, 2, rfl, Nat.le_refl _, by unfold maxLen; omega, ?_⟩
  unfold IsPL
  refine ⟨W.heap.size, 0, x0, x1, x2, x3, rfl, hp, hb.cell 0, hb.cell 1, hb.cell 2, hb.cell 3, hx.up hK (Nat.le_refl _), ?_⟩
  unfold IsPL
  refine ⟨W.heap.size, 4, y0, y1, y2, y3, rfl, hp, hb.cell 4, hb.cell 5, hb.cell 6, hb.cell 7, hy.up hK (Nat.le_refl _), ?_⟩
  exact IsPL.nil
/-- A structure is put together. -/
theorem structureX_any (name : List UInt8) (hn : name.length ≤ 255) (l : List Tr) (v : Value) (R lo : Nat) (W : World) (hlo : lo ≤ W.heap.size) (h : xlval R lo l v W) : Calls Tryz.prog 151 #[sV name, v] W fun e W' => ∃ u, e = .returned u ∧ xval R lo (fn name l) u W' ∧ Below W.heap.size W W' := by
  obtain ⟨a, c, rfl, h1, h2, h3⟩ := h
  have HH := Lib.hid h3
  clear h3
  go_enter Tryz.func151, Tryz.ntmps151
  go_wp2_with fail
  have bx : Box (W.alloc (.cells #[.int .i64 5, .int .i64 0, sV name, .slice a l.length c] 31)) W.heap.size #[.int .i64 5, .int .i64 0, sV name, .slice a l.length c] 31 := World.alloc_heap_new _ _
  have hB := below_a1 (Nat.le_refl W.heap.size) (.cells #[.int .i64 5, .int .i64 0, sV name, .slice a l.length c] 31)
  have y0 := bx.cell 0
  have y1 := bx.cell 1
  have y2 := bx.cell 2
  have y3 := bx.cell 3
  simp only [List.getElem?_toArray, List.getElem?_cons_succ, List.getElem?_cons_zero] at y0 y1 y2 y3
  generalize W.alloc (.cells #[.int .i64 5, .int .i64 0, sV name, .slice a l.length c] 31) = FW at *
  refine bodyPost_ret (v := .agg #[.int .i64 5, .int .i64 0, sV name, .slice a l.length c]) (by simp [results, Tryz.results151, go_sem, y0, y1, y2, y3]) rfl ⟨_, rfl, ?_, hB⟩
  have hX : xlval R lo l (.slice a l.length c) W := ⟨a, c, rfl, h1, h2, HH.out⟩
  obtain ⟨a', c', e, _, _, hpl⟩ := hX.up (TmK.of_below hB) (Nat.le_refl _)
  cases e
  exact IsP.mk (by unfold okI; omega) (by unfold okI; omega) (by show name.toArray.size ≤ _; simp [maxLen]; omega) h1 h2 hpl
/-- All blocks of terms but one stay. -/
def FarX (R : Nat) (_ : Nat) (A B : World) : Prop := A.heap.size ≤ B.heap.size ∧ ∀ (k : Nat) (c : Array Value) (fr : Nat × Nat), k ≠ R → A.heap[k]? = some (Obj.cells c 31 fr) → B.heap[k]? = some (Obj.cells c 31 fr)
theorem FarX.refl (R i : Nat) (A : World) : FarX R i A A := ⟨Nat.le_refl _, fun _ _ _ _ h => h⟩
theorem FarX.of_tk {R i : Nat} {A B : World} (hs : A.heap.size ≤ B.heap.size) (h : TmK A B) : FarX R i A B := ⟨hs, fun k c fr _ e => h k c fr e⟩
theorem FarX.of_ext {R i : Nat} {A B : World} (h : Ext A B) : FarX R i A B := .of_tk (Below.size h) (TmK.of_below h)
theorem xval.farX {R lo i : Nat} {t : Tr} {v : Value} {A B : World} (h : xval R lo t v A) (hK : FarX R i A B) : xval R lo t v B :=
  IsP.map (fun b hb => by
    obtain ⟨⟨h1, c, fr, h2⟩, h4⟩ := hb
    have h3 := hK.2 b c fr h4 h2
    exact ⟨⟨⟨h1, c, fr, h3⟩, h4⟩, by rw [h3, h2]⟩) _ _ h
theorem xlval.farX {R lo i : Nat} {l : List Tr} {v : Value} {A B : World} (h : xlval R lo l v A) (hK : FarX R i A B) : xlval R lo l v B := by
  obtain ⟨a, c, h1, h2, h3, h4⟩ := h
  exact ⟨a, c, h1, h2, h3, IsPL.map (fun b hb => by
    obtain ⟨⟨h1, c, fr, h2⟩, h4⟩ := hb
    have h3 := hK.2 b c fr h4 h2
    exact ⟨⟨⟨h1, c, fr, h3⟩, h4⟩, by rw [h3, h2]⟩) _ _ h4⟩
/-- What the operations of the region yield. -/
def YX (R lo : Nat) (r : PR Tr) (tr : Tr → Tr) (u : Value) (w : World) : Prop := lo ≤ w.heap.size ∧ ∃ t st, R < w.heap.size ∧ r = .ok (t, st) ∧ xval R lo (tr t) u w
def YLX (R lo : Nat) (r : PR Tr) (tl : Tr → List Tr) (u : Value) (w : World) : Prop := lo ≤ w.heap.size ∧ ∃ t st, R < w.heap.size ∧ r = .ok (t, st) ∧ xlval R lo (tl t) u w
theorem YX.stable (R lo b : Nat) (r : PR Tr) (tr : Tr → Tr) : (Yld.any (YX R lo r tr)).stableP (FarX R b) := fun _ _ _ hK ⟨h1, t, st, h0, h2, h3⟩ => ⟨Nat.le_trans h1 hK.1, t, st, Nat.lt_of_lt_of_le h0 hK.1, h2, h3.farX hK⟩
theorem YLX.stable (R lo b : Nat) (r : PR Tr) (tl : Tr → List Tr) : (Yld.any (YLX R lo r tl)).stableP (FarX R b) := fun _ _ _ hK ⟨h1, t, st, h0, h2, h3⟩ => ⟨Nat.le_trans h1 hK.1, t, st, Nat.lt_of_lt_of_le h0 hK.1, h2, h3.farX hK⟩
section
variable (w : World) (B b1 b2 V tot : Nat) (xs : List Lx) (pv nv : Value) (W W3 : World) (R0 R1 Rz lo : Nat) (z0 z1 z2 z3 : Value) (oa ob oc : Int) (j : Nat) (r : PR Tr) (tr : Tr → Tr) (kp : World → Prop)
def RegU (ph : Nat) (w' : World) : Prop :=
  (Box w' R1 #[.int .i64 oa, .int .i64 ob, .int .i64 oc] 48 ∧ lo ≤ w'.heap.size) ∧ Box w' Rz #[.int .i64 0, .int .i64 0, .string ⟨#[]⟩, .slice none 0 0] 31 ∧
  (if ph = 0 then Ext W3 w' ∧ Box w' R0 #[z0, z1, z2, z3] 31 ∧ kp w'
  else if ph = 1 then ∃ t2 st2 nv2, r = .ok (t2, st2) ∧ PaSt w B b1 b2 V tot xs pv st2 nv2 w' ∧ PaTo B V nv nv2 W w' ∧ j ≤ st2.i ∧ Box w' R0 #[z0, z1, z2, z3] 31 ∧ kp w'
  else ∃ t2 st2 nv2 e0 e1 e2 e3, r = .ok (t2, st2) ∧ PaSt w B b1 b2 V tot xs pv st2 nv2 w' ∧ PaTo B V nv nv2 W w' ∧ j ≤ st2.i ∧ Box w' R0 #[e0, e1, e2, e3] 31 ∧ xval R0 lo (tr t2) (.agg #[e0, e1, e2, e3]) w')
end
section
variable {w : World} {B b1 b2 V tot : Nat} {xs : List Lx} {pv nv : Value} {W W3 : World} {R0 R1 Rz lo : Nat} {z0 z1 z2 z3 : Value} {oa ob oc : Int} {j : Nat} {r : PR Tr} {tr : Tr → Tr} {kp : World → Prop}
theorem RegU.op {ph : Nat} {w' : World} (h : RegU w B b1 b2 V tot xs pv nv W W3 R0 R1 Rz lo z0 z1 z2 z3 oa ob oc j r tr kp ph w') : Box w' R1 #[.int .i64 oa, .int .i64 ob, .int .i64 oc] 48 ∧ lo ≤ w'.heap.size := h.1
theorem RegU.old {ph : Nat} {w' : World} (hph : ph < 2) (h : RegU w B b1 b2 V tot xs pv nv W W3 R0 R1 Rz lo z0 z1 z2 z3 oa ob oc j r tr kp ph w') : Box w' R0 #[z0, z1, z2, z3] 31 ∧ kp w' := by
  have h2 := h.2.2
  by_cases h0 : ph = 0
  · rw [if_pos h0] at h2; exact h2.2
  · rw [if_neg h0, if_pos (by omega)] at h2
    obtain ⟨_, _, _, _, _, _, _, h3⟩ := h2
    exact h3
theorem RegU.start (h1 : Box W3 R1 #[.int .i64 oa, .int .i64 ob, .int .i64 oc] 48) (h2 : lo ≤ W3.heap.size) (hz : Box W3 Rz #[.int .i64 0, .int .i64 0, .string ⟨#[]⟩, .slice none 0 0] 31) (h3 : Box W3 R0 #[z0, z1, z2, z3] 31) (h4 : kp { W3 with drawn := W3.drawn + 1 }) : RegU w B b1 b2 V tot xs pv nv W W3 R0 R1 Rz lo z0 z1 z2 z3 oa ob oc j r tr kp 0 { W3 with drawn := W3.drawn + 1 } :=
  ⟨⟨h1, h2⟩, hz, by rw [if_pos rfl]; exact ⟨(Below.refl _ _).drew, h3, h4⟩⟩
/-- Memory is made, ahead of the store. -/
theorem RegU.ext {ph : Nat} {w' w'' : World} (hph : ph < 2) (hkp : ∀ A B, Ext A B → kp A → kp B) (h : RegU w B b1 b2 V tot xs pv nv W W3 R0 R1 Rz lo z0 z1 z2 z3 oa ob oc j r tr kp ph w') (hE : Ext w' w'') : RegU w B b1 b2 V tot xs pv nv W W3 R0 R1 Rz lo z0 z1 z2 z3 oa ob oc j r tr kp ph w'' := by
  obtain ⟨⟨h1, h2⟩, hz, h3⟩ := h
  refine ⟨⟨h1.keep hE, Nat.le_trans h2 (Below.size hE)⟩, hz.keep hE, ?_⟩
  by_cases h0 : ph = 0
  · rw [if_pos h0] at h3 ⊢
    exact ⟨h3.1.trans hE, h3.2.1.keep hE, hkp _ _ hE h3.2.2⟩
  · rw [if_neg h0, if_pos (by omega)] at h3 ⊢
    obtain ⟨t2, st2, nv2, g1, g2, g3, g4, g5, g6⟩ := h3
    exact ⟨t2, st2, nv2, g1, g2.up hE, g3.trans (PaTo.up hE), g4, g5.keep hE, hkp _ _ hE g6⟩
/-- The call. -/
theorem RegU.call {nva : Value} {st : PS} {i : Nat} {w' w'' : World} {e : Ending} (hkp : ∀ A B, TmK A B → kp A → kp B) (h0 : PaSt w B b1 b2 V tot xs pv st nva W3) (hW : PaTo B V nv nva W W3) (hj : j ≤ i) (h : RegU w B b1 b2 V tot xs pv nv W W3 R0 R1 Rz lo z0 z1 z2 z3 oa ob oc j r tr kp 0 w')
    (hQ : PaQ w B b1 b2 V tot xs pv nva i w' (tval w'.heap.size) r e w'') : (∃ v, e = .returned v ∧ (FarX R0 0 w' w'' ∧ RegU w B b1 b2 V tot xs pv nv W W3 R0 R1 Rz lo z0 z1 z2 z3 oa ob oc j r tr kp 1 w'' ∧ YX R0 lo r id v w'')) ∨ ∃ ch, e = .panicked ch ∧ RegX w r ch w'' := by
  obtain ⟨⟨h1, h2⟩, hz, h3⟩ := h
  rw [if_pos rfl] at h3
  obtain ⟨hE, h4, h5⟩ := h3
  have h0' := h0.up hE
  cases hr : r with
  | error p =>
    rw [hr] at hQ
    obtain ⟨rfl, hb⟩ := hQ
    exact .inr ⟨_, rfl, p, rfl, rfl, hb⟩
  | ok x =>
    obtain ⟨t, st2⟩ := x
    rw [hr] at hQ
    obtain ⟨v, nv2, rfl, ht, g1, g2, g3⟩ := hQ
    have hK := PaTo.tk h0' g2
    have hRl := h4.lt
    refine .inl ⟨v, rfl, .of_tk g2.size hK, ⟨⟨PaTo.box h0' g2 h1 (by decide) (by decide), Nat.le_trans h2 g2.size⟩, PaTo.box h0' g2 hz (by decide) (by decide), ?_⟩, Nat.le_trans h2 g2.size, t, st2, Nat.lt_of_lt_of_le hRl g2.size, rfl, (xval.of ht (fun b hb _ => by omega)).up (TmK.refl _) h2⟩
    rw [if_neg (by decide), if_pos rfl]
    exact ⟨t, st2, nv2, rfl, g1, (hW.trans (PaTo.up hE)).trans g2, Nat.le_trans hj g3, PaTo.box h0' g2 h4 (by decide) (by decide), hkp _ _ hK h5⟩
/-- The store. -/
theorem RegU.store {w' : World} {e0 e1 e2 e3 : Value} (hw : w.heap.size ≤ R0) (hW : W.heap.size ≤ R0) (hne : R1 ≠ R0) (hnz : Rz ≠ R0) (h : RegU w B b1 b2 V tot xs pv nv W W3 R0 R1 Rz lo z0 z1 z2 z3 oa ob oc j r tr kp 1 w') (hy : YX R0 lo r tr (.agg #[e0, e1, e2, e3]) w') :
    FarX R0 1 w' (set4 w' R0 e0 e1 e2 e3) ∧ RegU w B b1 b2 V tot xs pv nv W W3 R0 R1 Rz lo z0 z1 z2 z3 oa ob oc j r tr kp 2 (set4 w' R0 e0 e1 e2 e3) := by
  obtain ⟨⟨h1, h2⟩, hz, h3⟩ := h
  rw [if_neg (by decide), if_pos rfl] at h3
  obtain ⟨t2, st2, nv2, g1, g2, g3, g4, g5, g6⟩ := h3
  obtain ⟨_, t, st, _, k1, k2⟩ := hy
  rw [g1] at k1
  cases k1
  have hsz : (set4 w' R0 e0 e1 e2 e3).heap.size = w'.heap.size := by simp [set4]
  refine ⟨⟨by rw [hsz]; exact Nat.le_refl _, fun k c fr hk e => (set4_block _ _ _ _ _ _ _ hk).trans e⟩, ⟨(set4_block _ _ _ _ _ _ _ hne).trans h1, by rw [hsz]; exact h2⟩, (set4_block _ _ _ _ _ _ _ hnz).trans hz, ?_⟩
  rw [if_neg (by decide), if_neg (by decide)]
  exact ⟨t2, st2, nv2, e0, e1, e2, e3, g1, g2.put g5 hw _ _ _ _, g3.put hW _ _ _ _, g4, g5.set4 _ _ _ _, k2.set4 _ _ _ _⟩
theorem RegU.done {w' : World} (h : RegU w B b1 b2 V tot xs pv nv W W3 R0 R1 Rz lo z0 z1 z2 z3 oa ob oc j r tr kp 2 w') : Box w' R1 #[.int .i64 oa, .int .i64 ob, .int .i64 oc] 48 ∧ Box w' Rz #[.int .i64 0, .int .i64 0, .string ⟨#[]⟩, .slice none 0 0] 31 ∧ ∃ t2 st2 nv2 e0 e1 e2 e3, r = .ok (t2, st2) ∧ PaSt w B b1 b2 V tot xs pv st2 nv2 w' ∧ PaTo B V nv nv2 W w' ∧ j ≤ st2.i ∧ Box w' R0 #[e0, e1, e2, e3] 31 ∧ xval R0 lo (tr t2) (.agg #[e0, e1, e2, e3]) w' := by
  obtain ⟨⟨h1, h2⟩, hz, h3⟩ := h
  rw [if_neg (by decide), if_neg (by decide)] at h3
  exact ⟨h1, hz, h3⟩
end
end Go.Proofs.YthfciekhmbfmfaaGreatDoor
