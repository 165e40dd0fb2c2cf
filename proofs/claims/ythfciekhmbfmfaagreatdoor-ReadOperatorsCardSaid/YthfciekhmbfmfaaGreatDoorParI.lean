/- The parser's infix. -/
import Derived.Test.YthfciekhmbfmfaaGreatDoorParK
namespace Go.Proofs.YthfciekhmbfmfaaGreatDoor
open Go.RowKit Go Go.Maps

section
variable {w : World} {B b1 b2 V tot : Nat} {xs : List Lx} {pv nv : Value} {st : PS} {W : World} {n : Nat}
theorem infF_none {i : Nat} (h : tokAt xs i = none) : infF xs i = ([], (0, 0, 0)) := by rw [infF, h]
set_option maxRecDepth 100000 in
set_option maxHeartbeats 8000000 in
theorem infix_any (h : PaSt w B b1 b2 V tot xs pv st nv W) (hx : LxOk tot xs) : Calls Tryz.prog 150 #[.pointer (some ⟨B, 0, none⟩)] W fun e W' => e = .returned (.tuple #[sV (infF xs st.i).1, opV (infF xs st.i).2]) ∧ Below W.heap.size W W' := by
  have hA := below_a1 (Nat.le_refl W.heap.size) (.cells #[.int .i64 0, .int .i64 0, .int .i64 0] 48)
  have hR0 : Box (W.alloc (.cells #[.int .i64 0, .int .i64 0, .int .i64 0] 48)) W.heap.size #[.int .i64 0, .int .i64 0, .int .i64 0] 48 := World.alloc_heap_new _ _
  have hl8 := hx.len
  obtain ⟨hne1, hne2⟩ := h.ne
  have h0 := h.up hA
  have HK := Lib.hid (peek_any h0 hx)
  have H0 := Lib.hid (And.intro h0 (And.intro hR0 hA))
  have htok : ∀ t, tokAt xs st.i = some t → t.s.length ≤ 255 := fun t ht => by
    rw [tokAt] at ht
    cases hg : xs[st.i]? with
    | none => rw [hg] at ht; cases ht
    | some x => rw [hg] at ht; cases ht; exact (hx.tok x (List.mem_of_getElem? hg)).1
  clear h h0 hR0 hA
  cases ht : tokAt xs st.i with
  | none =>
    have HP := Lib.hid (infF_none (xs := xs) ht)
    have ta1 := ta_any .name none
    have ta2 := ta_any .sign none
    simp only [tokO, kTy, taV, taB, payV, reduceCtorEq, if_false] at ta1 ta2
    have HT := Lib.hid ht
    clear ht
    go_enter Tryz.func150, Tryz.ntmps150
    go_wp2_with fail
    refine (HK.out).mono ?_
    rintro e w1 ⟨rfl, B1⟩
    rw [HT.out]
    simp only [tokO]
    have hR1 := H0.out.2.1.keep B1
    have hB1 := H0.out.2.2.trans (B1.mono H0.out.2.2.size)
    have q0 := hR1.cell 0
    have q1 := hR1.cell 1
    have q2 := hR1.cell 2
    have z0 := hR1.frozen 0
    have z1 := hR1.frozen 1
    have z2 := hR1.frozen 2
    have l1 := hR1.lt
    simp only [List.getElem?_toArray, List.getElem?_cons_succ, List.getElem?_cons_zero] at q0 q1 q2
    have H1 := Lib.hid (And.intro hR1 hB1)
    clear hR1 hB1 B1
    go_wp2_with fail
    have HF : Hid (Box (((w1.setCell ⟨W.heap.size, 0, none⟩ (.int .i64 0)).setCell ⟨W.heap.size, 1, none⟩ (.int .i64 0)).setCell ⟨W.heap.size, 2, none⟩ (.int .i64 0)) W.heap.size #[.int .i64 0, .int .i64 0, .int .i64 0] 48 ∧ Below W.heap.size W (((w1.setCell ⟨W.heap.size, 0, none⟩ (.int .i64 0)).setCell ⟨W.heap.size, 1, none⟩ (.int .i64 0)).setCell ⟨W.heap.size, 2, none⟩ (.int .i64 0))) :=
      ⟨((H1.out.1.set 0 _).set 1 _).set 2 _, ((H1.out.2.setCell (p := ⟨W.heap.size, 0, none⟩) (Nat.le_refl _) _).setCell (p := ⟨W.heap.size, 1, none⟩) (Nat.le_refl _) _).setCell (p := ⟨W.heap.size, 2, none⟩) (Nat.le_refl _) _⟩
    generalize ((w1.setCell ⟨W.heap.size, 0, none⟩ (.int .i64 0)).setCell ⟨W.heap.size, 1, none⟩ (.int .i64 0)).setCell ⟨W.heap.size, 2, none⟩ (.int .i64 0) = FW at *
    have hf : Box FW W.heap.size #[.int .i64 0, .int .i64 0, .int .i64 0] 48 := HF.out.1
    have y0 := hf.cell 0
    have y1 := hf.cell 1
    have y2 := hf.cell 2
    simp only [List.getElem?_toArray, List.getElem?_cons_succ, List.getElem?_cons_zero] at y0 y1 y2
    refine bodyPost_ret (v := .tuple #[sV [], .agg #[.int .i64 0, .int .i64 0, .int .i64 0]]) (by simp [results, Tryz.results150, go_sem, y0, y1, y2]) rfl ⟨by rw [HP.out]; rfl, HF.out.2⟩
  | some t =>
    obtain ⟨k, s, tn⟩ := t
    cases k with
    | name =>
      have ta1 := ta_any .name (some ⟨.name, s, tn⟩)
      have ta2 := ta_any .sign (some ⟨.name, s, tn⟩)
      simp only [tokO, tokV, kTy, taV, taB, payV, reduceCtorEq, if_false, if_true, decide_true, decide_false] at ta1 ta2
      have HT := Lib.hid ht
      obtain ⟨⟨oa, ob, oc⟩, hop⟩ : ∃ o : Op3, (tabF opsI (⟨s.toArray⟩ : ByteArray).data.toList).getD (0, 0, 0) = o := ⟨_, rfl⟩
      have hks : (⟨s.toArray⟩ : ByteArray).size ≤ maxLen := by have := htok _ ht; show s.toArray.size ≤ _; simp [maxLen]; simp at this; omega
      have HP : Hid (infF xs st.i = (s, (oa, ob, oc))) := by rw [Hid, infF, ht]; simp only; rw [show infV (nm s) = (oa, ob, oc) from hop]
      rw [show (oa, ob, oc) = ((oa, ob, oc) : Op3) from rfl] at hop
      clear ht
      go_enter Tryz.func150, Tryz.ntmps150
      go_wp2_with fail
      refine (HK.out).mono ?_
      rintro e w1 ⟨rfl, B1⟩
      rw [HT.out]
      simp only [tokO, tokV]
      have h1 := H0.out.1.up B1
      obtain ⟨o1, o2, o3, ⟨m1, o4⟩, m2, o5⟩ := h1.ops
      have hlk := o4.look ⟨s.toArray⟩ hks
      have hlk2 : (Instr.lookup 111 (.map (some b1)) (.string ⟨s.toArray⟩) false).run Tryz.prog w1.drew = _ := (o4.block (W' := w1.drew) rfl).look ⟨s.toArray⟩ hks
      rw [hop] at hlk hlk2
      simp only [opV] at hlk hlk2
      have c3 := h1.box.cell 3
      have l0 := h1.box.lt
      simp only [List.getElem?_toArray, List.getElem?_cons_succ, List.getElem?_cons_zero] at c3
      have hR1 := H0.out.2.1.keep B1
      have hB1 := H0.out.2.2.trans (B1.mono H0.out.2.2.size)
      have q0 := hR1.cell 0
      have q1 := hR1.cell 1
      have q2 := hR1.cell 2
      have z0 := hR1.frozen 0
      have z1 := hR1.frozen 1
      have z2 := hR1.frozen 2
      have l1 := hR1.lt
      simp only [List.getElem?_toArray, List.getElem?_cons_succ, List.getElem?_cons_zero] at q0 q1 q2
      have H1 := Lib.hid (And.intro hR1 hB1)
      clear h1 o1 o2 o3 o4 o5 hR1 hB1 B1
      go_wp2_with fail
      go_region
      go_wp2_with fail
      have HF : Hid (Box (((w1.setCell ⟨W.heap.size, 0, none⟩ (.int .i64 oa)).setCell ⟨W.heap.size, 1, none⟩ (.int .i64 ob)).setCell ⟨W.heap.size, 2, none⟩ (.int .i64 oc)).drew W.heap.size #[.int .i64 oa, .int .i64 ob, .int .i64 oc] 48 ∧ Below W.heap.size W (((w1.setCell ⟨W.heap.size, 0, none⟩ (.int .i64 oa)).setCell ⟨W.heap.size, 1, none⟩ (.int .i64 ob)).setCell ⟨W.heap.size, 2, none⟩ (.int .i64 oc)).drew) := by
        have h2 : Below W.heap.size W (((w1.setCell ⟨W.heap.size, 0, none⟩ (.int .i64 oa)).setCell ⟨W.heap.size, 1, none⟩ (.int .i64 ob)).setCell ⟨W.heap.size, 2, none⟩ (.int .i64 oc)) := ((H1.out.2.setCell (p := ⟨W.heap.size, 0, none⟩) (Nat.le_refl _) _).setCell (p := ⟨W.heap.size, 1, none⟩) (Nat.le_refl _) _).setCell (p := ⟨W.heap.size, 2, none⟩) (Nat.le_refl _) _
        exact ⟨((H1.out.1.set 0 (.int .i64 oa)).set 1 (.int .i64 ob)).set 2 (.int .i64 oc), ⟨h2.os, h2.tape, h2.output, h2.size, h2.block⟩⟩
      generalize (((w1.setCell ⟨W.heap.size, 0, none⟩ (.int .i64 oa)).setCell ⟨W.heap.size, 1, none⟩ (.int .i64 ob)).setCell ⟨W.heap.size, 2, none⟩ (.int .i64 oc)).drew = FW at *
      have hf : Box FW W.heap.size #[.int .i64 oa, .int .i64 ob, .int .i64 oc] 48 := HF.out.1
      have y0 := hf.cell 0
      have y1 := hf.cell 1
      have y2 := hf.cell 2
      simp only [List.getElem?_toArray, List.getElem?_cons_succ, List.getElem?_cons_zero] at y0 y1 y2
      refine bodyPost_ret (v := .tuple #[sV s, .agg #[.int .i64 oa, .int .i64 ob, .int .i64 oc]]) (by simp [results, Tryz.results150, go_sem, y0, y1, y2]) rfl ⟨by rw [HP.out]; rfl, HF.out.2⟩
    | quoted =>
      have ta1 := ta_any .name (some ⟨.quoted, s, tn⟩)
      have ta2 := ta_any .sign (some ⟨.quoted, s, tn⟩)
      simp only [tokO, tokV, kTy, taV, taB, payV, reduceCtorEq, if_false, if_true, decide_true, decide_false] at ta1 ta2
      have HT := Lib.hid ht
      have HP : Hid (infF xs st.i = ([], (0, 0, 0))) := by rw [Hid, infF, ht]
      clear ht
      go_enter Tryz.func150, Tryz.ntmps150
      go_wp2_with fail
      refine (HK.out).mono ?_
      rintro e w1 ⟨rfl, B1⟩
      rw [HT.out]
      simp only [tokO, tokV]
      have hR1 := H0.out.2.1.keep B1
      have hB1 := H0.out.2.2.trans (B1.mono H0.out.2.2.size)
      have q0 := hR1.cell 0
      have q1 := hR1.cell 1
      have q2 := hR1.cell 2
      have z0 := hR1.frozen 0
      have z1 := hR1.frozen 1
      have z2 := hR1.frozen 2
      have l1 := hR1.lt
      simp only [List.getElem?_toArray, List.getElem?_cons_succ, List.getElem?_cons_zero] at q0 q1 q2
      have H1 := Lib.hid (And.intro hR1 hB1)
      clear hR1 hB1 B1
      go_wp2_with fail
      have HF : Hid (Box (((w1.setCell ⟨W.heap.size, 0, none⟩ (.int .i64 0)).setCell ⟨W.heap.size, 1, none⟩ (.int .i64 0)).setCell ⟨W.heap.size, 2, none⟩ (.int .i64 0)) W.heap.size #[.int .i64 0, .int .i64 0, .int .i64 0] 48 ∧ Below W.heap.size W (((w1.setCell ⟨W.heap.size, 0, none⟩ (.int .i64 0)).setCell ⟨W.heap.size, 1, none⟩ (.int .i64 0)).setCell ⟨W.heap.size, 2, none⟩ (.int .i64 0))) :=
        ⟨((H1.out.1.set 0 _).set 1 _).set 2 _, ((H1.out.2.setCell (p := ⟨W.heap.size, 0, none⟩) (Nat.le_refl _) _).setCell (p := ⟨W.heap.size, 1, none⟩) (Nat.le_refl _) _).setCell (p := ⟨W.heap.size, 2, none⟩) (Nat.le_refl _) _⟩
      generalize ((w1.setCell ⟨W.heap.size, 0, none⟩ (.int .i64 0)).setCell ⟨W.heap.size, 1, none⟩ (.int .i64 0)).setCell ⟨W.heap.size, 2, none⟩ (.int .i64 0) = FW at *
      have hf : Box FW W.heap.size #[.int .i64 0, .int .i64 0, .int .i64 0] 48 := HF.out.1
      have y0 := hf.cell 0
      have y1 := hf.cell 1
      have y2 := hf.cell 2
      simp only [List.getElem?_toArray, List.getElem?_cons_succ, List.getElem?_cons_zero] at y0 y1 y2
      refine bodyPost_ret (v := .tuple #[sV [], .agg #[.int .i64 0, .int .i64 0, .int .i64 0]]) (by simp [results, Tryz.results150, go_sem, y0, y1, y2]) rfl ⟨by rw [HP.out]; rfl, HF.out.2⟩
    | var =>
      have ta1 := ta_any .name (some ⟨.var, s, tn⟩)
      have ta2 := ta_any .sign (some ⟨.var, s, tn⟩)
      simp only [tokO, tokV, kTy, taV, taB, payV, reduceCtorEq, if_false, if_true, decide_true, decide_false] at ta1 ta2
      have HT := Lib.hid ht
      have HP : Hid (infF xs st.i = ([], (0, 0, 0))) := by rw [Hid, infF, ht]
      clear ht
      go_enter Tryz.func150, Tryz.ntmps150
      go_wp2_with fail
      refine (HK.out).mono ?_
      rintro e w1 ⟨rfl, B1⟩
      rw [HT.out]
      simp only [tokO, tokV]
      have hR1 := H0.out.2.1.keep B1
      have hB1 := H0.out.2.2.trans (B1.mono H0.out.2.2.size)
      have q0 := hR1.cell 0
      have q1 := hR1.cell 1
      have q2 := hR1.cell 2
      have z0 := hR1.frozen 0
      have z1 := hR1.frozen 1
      have z2 := hR1.frozen 2
      have l1 := hR1.lt
      simp only [List.getElem?_toArray, List.getElem?_cons_succ, List.getElem?_cons_zero] at q0 q1 q2
      have H1 := Lib.hid (And.intro hR1 hB1)
      clear hR1 hB1 B1
      go_wp2_with fail
      have HF : Hid (Box (((w1.setCell ⟨W.heap.size, 0, none⟩ (.int .i64 0)).setCell ⟨W.heap.size, 1, none⟩ (.int .i64 0)).setCell ⟨W.heap.size, 2, none⟩ (.int .i64 0)) W.heap.size #[.int .i64 0, .int .i64 0, .int .i64 0] 48 ∧ Below W.heap.size W (((w1.setCell ⟨W.heap.size, 0, none⟩ (.int .i64 0)).setCell ⟨W.heap.size, 1, none⟩ (.int .i64 0)).setCell ⟨W.heap.size, 2, none⟩ (.int .i64 0))) :=
        ⟨((H1.out.1.set 0 _).set 1 _).set 2 _, ((H1.out.2.setCell (p := ⟨W.heap.size, 0, none⟩) (Nat.le_refl _) _).setCell (p := ⟨W.heap.size, 1, none⟩) (Nat.le_refl _) _).setCell (p := ⟨W.heap.size, 2, none⟩) (Nat.le_refl _) _⟩
      generalize ((w1.setCell ⟨W.heap.size, 0, none⟩ (.int .i64 0)).setCell ⟨W.heap.size, 1, none⟩ (.int .i64 0)).setCell ⟨W.heap.size, 2, none⟩ (.int .i64 0) = FW at *
      have hf : Box FW W.heap.size #[.int .i64 0, .int .i64 0, .int .i64 0] 48 := HF.out.1
      have y0 := hf.cell 0
      have y1 := hf.cell 1
      have y2 := hf.cell 2
      simp only [List.getElem?_toArray, List.getElem?_cons_succ, List.getElem?_cons_zero] at y0 y1 y2
      refine bodyPost_ret (v := .tuple #[sV [], .agg #[.int .i64 0, .int .i64 0, .int .i64 0]]) (by simp [results, Tryz.results150, go_sem, y0, y1, y2]) rfl ⟨by rw [HP.out]; rfl, HF.out.2⟩
    | int =>
      have ta1 := ta_any .name (some ⟨.int, s, tn⟩)
      have ta2 := ta_any .sign (some ⟨.int, s, tn⟩)
      simp only [tokO, tokV, kTy, taV, taB, payV, reduceCtorEq, if_false, if_true, decide_true, decide_false] at ta1 ta2
      have HT := Lib.hid ht
      have HP : Hid (infF xs st.i = ([], (0, 0, 0))) := by rw [Hid, infF, ht]
      clear ht
      go_enter Tryz.func150, Tryz.ntmps150
      go_wp2_with fail
      refine (HK.out).mono ?_
      rintro e w1 ⟨rfl, B1⟩
      rw [HT.out]
      simp only [tokO, tokV]
      have hR1 := H0.out.2.1.keep B1
      have hB1 := H0.out.2.2.trans (B1.mono H0.out.2.2.size)
      have q0 := hR1.cell 0
      have q1 := hR1.cell 1
      have q2 := hR1.cell 2
      have z0 := hR1.frozen 0
      have z1 := hR1.frozen 1
      have z2 := hR1.frozen 2
      have l1 := hR1.lt
      simp only [List.getElem?_toArray, List.getElem?_cons_succ, List.getElem?_cons_zero] at q0 q1 q2
      have H1 := Lib.hid (And.intro hR1 hB1)
      clear hR1 hB1 B1
      go_wp2_with fail
      have HF : Hid (Box (((w1.setCell ⟨W.heap.size, 0, none⟩ (.int .i64 0)).setCell ⟨W.heap.size, 1, none⟩ (.int .i64 0)).setCell ⟨W.heap.size, 2, none⟩ (.int .i64 0)) W.heap.size #[.int .i64 0, .int .i64 0, .int .i64 0] 48 ∧ Below W.heap.size W (((w1.setCell ⟨W.heap.size, 0, none⟩ (.int .i64 0)).setCell ⟨W.heap.size, 1, none⟩ (.int .i64 0)).setCell ⟨W.heap.size, 2, none⟩ (.int .i64 0))) :=
        ⟨((H1.out.1.set 0 _).set 1 _).set 2 _, ((H1.out.2.setCell (p := ⟨W.heap.size, 0, none⟩) (Nat.le_refl _) _).setCell (p := ⟨W.heap.size, 1, none⟩) (Nat.le_refl _) _).setCell (p := ⟨W.heap.size, 2, none⟩) (Nat.le_refl _) _⟩
      generalize ((w1.setCell ⟨W.heap.size, 0, none⟩ (.int .i64 0)).setCell ⟨W.heap.size, 1, none⟩ (.int .i64 0)).setCell ⟨W.heap.size, 2, none⟩ (.int .i64 0) = FW at *
      have hf : Box FW W.heap.size #[.int .i64 0, .int .i64 0, .int .i64 0] 48 := HF.out.1
      have y0 := hf.cell 0
      have y1 := hf.cell 1
      have y2 := hf.cell 2
      simp only [List.getElem?_toArray, List.getElem?_cons_succ, List.getElem?_cons_zero] at y0 y1 y2
      refine bodyPost_ret (v := .tuple #[sV [], .agg #[.int .i64 0, .int .i64 0, .int .i64 0]]) (by simp [results, Tryz.results150, go_sem, y0, y1, y2]) rfl ⟨by rw [HP.out]; rfl, HF.out.2⟩
    | str =>
      have ta1 := ta_any .name (some ⟨.str, s, tn⟩)
      have ta2 := ta_any .sign (some ⟨.str, s, tn⟩)
      simp only [tokO, tokV, kTy, taV, taB, payV, reduceCtorEq, if_false, if_true, decide_true, decide_false] at ta1 ta2
      have HT := Lib.hid ht
      have HP : Hid (infF xs st.i = ([], (0, 0, 0))) := by rw [Hid, infF, ht]
      clear ht
      go_enter Tryz.func150, Tryz.ntmps150
      go_wp2_with fail
      refine (HK.out).mono ?_
      rintro e w1 ⟨rfl, B1⟩
      rw [HT.out]
      simp only [tokO, tokV]
      have hR1 := H0.out.2.1.keep B1
      have hB1 := H0.out.2.2.trans (B1.mono H0.out.2.2.size)
      have q0 := hR1.cell 0
      have q1 := hR1.cell 1
      have q2 := hR1.cell 2
      have z0 := hR1.frozen 0
      have z1 := hR1.frozen 1
      have z2 := hR1.frozen 2
      have l1 := hR1.lt
      simp only [List.getElem?_toArray, List.getElem?_cons_succ, List.getElem?_cons_zero] at q0 q1 q2
      have H1 := Lib.hid (And.intro hR1 hB1)
      clear hR1 hB1 B1
      go_wp2_with fail
      have HF : Hid (Box (((w1.setCell ⟨W.heap.size, 0, none⟩ (.int .i64 0)).setCell ⟨W.heap.size, 1, none⟩ (.int .i64 0)).setCell ⟨W.heap.size, 2, none⟩ (.int .i64 0)) W.heap.size #[.int .i64 0, .int .i64 0, .int .i64 0] 48 ∧ Below W.heap.size W (((w1.setCell ⟨W.heap.size, 0, none⟩ (.int .i64 0)).setCell ⟨W.heap.size, 1, none⟩ (.int .i64 0)).setCell ⟨W.heap.size, 2, none⟩ (.int .i64 0))) :=
        ⟨((H1.out.1.set 0 _).set 1 _).set 2 _, ((H1.out.2.setCell (p := ⟨W.heap.size, 0, none⟩) (Nat.le_refl _) _).setCell (p := ⟨W.heap.size, 1, none⟩) (Nat.le_refl _) _).setCell (p := ⟨W.heap.size, 2, none⟩) (Nat.le_refl _) _⟩
      generalize ((w1.setCell ⟨W.heap.size, 0, none⟩ (.int .i64 0)).setCell ⟨W.heap.size, 1, none⟩ (.int .i64 0)).setCell ⟨W.heap.size, 2, none⟩ (.int .i64 0) = FW at *
      have hf : Box FW W.heap.size #[.int .i64 0, .int .i64 0, .int .i64 0] 48 := HF.out.1
      have y0 := hf.cell 0
      have y1 := hf.cell 1
      have y2 := hf.cell 2
      simp only [List.getElem?_toArray, List.getElem?_cons_succ, List.getElem?_cons_zero] at y0 y1 y2
      refine bodyPost_ret (v := .tuple #[sV [], .agg #[.int .i64 0, .int .i64 0, .int .i64 0]]) (by simp [results, Tryz.results150, go_sem, y0, y1, y2]) rfl ⟨by rw [HP.out]; rfl, HF.out.2⟩
    | sign =>
      have ta1 := ta_any .name (some ⟨.sign, s, tn⟩)
      have ta2 := ta_any .sign (some ⟨.sign, s, tn⟩)
      simp only [tokO, tokV, kTy, taV, taB, payV, reduceCtorEq, if_false, if_true, decide_true, decide_false] at ta1 ta2
      have HT := Lib.hid ht
      obtain ⟨⟨oa, ob, oc⟩, hop⟩ : ∃ o : Op3, (tabF opsI (⟨s.toArray⟩ : ByteArray).data.toList).getD (0, 0, 0) = o := ⟨_, rfl⟩
      have hks : (⟨s.toArray⟩ : ByteArray).size ≤ maxLen := by have := htok _ ht; show s.toArray.size ≤ _; simp [maxLen]; simp at this; omega
      have HP : Hid (infF xs st.i = (s, (oa, ob, oc))) := by rw [Hid, infF, ht]; simp only; rw [show infV (nm s) = (oa, ob, oc) from hop]
      rw [show (oa, ob, oc) = ((oa, ob, oc) : Op3) from rfl] at hop
      clear ht
      go_enter Tryz.func150, Tryz.ntmps150
      go_wp2_with fail
      refine (HK.out).mono ?_
      rintro e w1 ⟨rfl, B1⟩
      rw [HT.out]
      simp only [tokO, tokV]
      have h1 := H0.out.1.up B1
      obtain ⟨o1, o2, o3, ⟨m1, o4⟩, m2, o5⟩ := h1.ops
      have hlk := o4.look ⟨s.toArray⟩ hks
      have hlk2 : (Instr.lookup 111 (.map (some b1)) (.string ⟨s.toArray⟩) false).run Tryz.prog w1.drew = _ := (o4.block (W' := w1.drew) rfl).look ⟨s.toArray⟩ hks
      rw [hop] at hlk hlk2
      simp only [opV] at hlk hlk2
      have c3 := h1.box.cell 3
      have l0 := h1.box.lt
      simp only [List.getElem?_toArray, List.getElem?_cons_succ, List.getElem?_cons_zero] at c3
      have hR1 := H0.out.2.1.keep B1
      have hB1 := H0.out.2.2.trans (B1.mono H0.out.2.2.size)
      have q0 := hR1.cell 0
      have q1 := hR1.cell 1
      have q2 := hR1.cell 2
      have z0 := hR1.frozen 0
      have z1 := hR1.frozen 1
      have z2 := hR1.frozen 2
      have l1 := hR1.lt
      simp only [List.getElem?_toArray, List.getElem?_cons_succ, List.getElem?_cons_zero] at q0 q1 q2
      have H1 := Lib.hid (And.intro hR1 hB1)
      clear h1 o1 o2 o3 o4 o5 hR1 hB1 B1
      go_wp2_with fail
      go_region
      go_wp2_with fail
      have HF : Hid (Box (((w1.setCell ⟨W.heap.size, 0, none⟩ (.int .i64 oa)).setCell ⟨W.heap.size, 1, none⟩ (.int .i64 ob)).setCell ⟨W.heap.size, 2, none⟩ (.int .i64 oc)).drew W.heap.size #[.int .i64 oa, .int .i64 ob, .int .i64 oc] 48 ∧ Below W.heap.size W (((w1.setCell ⟨W.heap.size, 0, none⟩ (.int .i64 oa)).setCell ⟨W.heap.size, 1, none⟩ (.int .i64 ob)).setCell ⟨W.heap.size, 2, none⟩ (.int .i64 oc)).drew) := by
        have h2 : Below W.heap.size W (((w1.setCell ⟨W.heap.size, 0, none⟩ (.int .i64 oa)).setCell ⟨W.heap.size, 1, none⟩ (.int .i64 ob)).setCell ⟨W.heap.size, 2, none⟩ (.int .i64 oc)) := ((H1.out.2.setCell (p := ⟨W.heap.size, 0, none⟩) (Nat.le_refl _) _).setCell (p := ⟨W.heap.size, 1, none⟩) (Nat.le_refl _) _).setCell (p := ⟨W.heap.size, 2, none⟩) (Nat.le_refl _) _
        exact ⟨((H1.out.1.set 0 (.int .i64 oa)).set 1 (.int .i64 ob)).set 2 (.int .i64 oc), ⟨h2.os, h2.tape, h2.output, h2.size, h2.block⟩⟩
      generalize (((w1.setCell ⟨W.heap.size, 0, none⟩ (.int .i64 oa)).setCell ⟨W.heap.size, 1, none⟩ (.int .i64 ob)).setCell ⟨W.heap.size, 2, none⟩ (.int .i64 oc)).drew = FW at *
      have hf : Box FW W.heap.size #[.int .i64 oa, .int .i64 ob, .int .i64 oc] 48 := HF.out.1
      have y0 := hf.cell 0
      have y1 := hf.cell 1
      have y2 := hf.cell 2
      simp only [List.getElem?_toArray, List.getElem?_cons_succ, List.getElem?_cons_zero] at y0 y1 y2
      refine bodyPost_ret (v := .tuple #[sV s, .agg #[.int .i64 oa, .int .i64 ob, .int .i64 oc]]) (by simp [results, Tryz.results150, go_sem, y0, y1, y2]) rfl ⟨by rw [HP.out]; rfl, HF.out.2⟩
    | fin =>
      have ta1 := ta_any .name (some ⟨.fin, s, tn⟩)
      have ta2 := ta_any .sign (some ⟨.fin, s, tn⟩)
      simp only [tokO, tokV, kTy, taV, taB, payV, reduceCtorEq, if_false, if_true, decide_true, decide_false] at ta1 ta2
      have HT := Lib.hid ht
      have HP : Hid (infF xs st.i = ([], (0, 0, 0))) := by rw [Hid, infF, ht]
      clear ht
      go_enter Tryz.func150, Tryz.ntmps150
      go_wp2_with fail
      refine (HK.out).mono ?_
      rintro e w1 ⟨rfl, B1⟩
      rw [HT.out]
      simp only [tokO, tokV]
      have hR1 := H0.out.2.1.keep B1
      have hB1 := H0.out.2.2.trans (B1.mono H0.out.2.2.size)
      have q0 := hR1.cell 0
      have q1 := hR1.cell 1
      have q2 := hR1.cell 2
      have z0 := hR1.frozen 0
      have z1 := hR1.frozen 1
      have z2 := hR1.frozen 2
      have l1 := hR1.lt
      simp only [List.getElem?_toArray, List.getElem?_cons_succ, List.getElem?_cons_zero] at q0 q1 q2
      have H1 := Lib.hid (And.intro hR1 hB1)
      clear hR1 hB1 B1
      go_wp2_with fail
      have HF : Hid (Box (((w1.setCell ⟨W.heap.size, 0, none⟩ (.int .i64 0)).setCell ⟨W.heap.size, 1, none⟩ (.int .i64 0)).setCell ⟨W.heap.size, 2, none⟩ (.int .i64 0)) W.heap.size #[.int .i64 0, .int .i64 0, .int .i64 0] 48 ∧ Below W.heap.size W (((w1.setCell ⟨W.heap.size, 0, none⟩ (.int .i64 0)).setCell ⟨W.heap.size, 1, none⟩ (.int .i64 0)).setCell ⟨W.heap.size, 2, none⟩ (.int .i64 0))) :=
        ⟨((H1.out.1.set 0 _).set 1 _).set 2 _, ((H1.out.2.setCell (p := ⟨W.heap.size, 0, none⟩) (Nat.le_refl _) _).setCell (p := ⟨W.heap.size, 1, none⟩) (Nat.le_refl _) _).setCell (p := ⟨W.heap.size, 2, none⟩) (Nat.le_refl _) _⟩
      generalize ((w1.setCell ⟨W.heap.size, 0, none⟩ (.int .i64 0)).setCell ⟨W.heap.size, 1, none⟩ (.int .i64 0)).setCell ⟨W.heap.size, 2, none⟩ (.int .i64 0) = FW at *
      have hf : Box FW W.heap.size #[.int .i64 0, .int .i64 0, .int .i64 0] 48 := HF.out.1
      have y0 := hf.cell 0
      have y1 := hf.cell 1
      have y2 := hf.cell 2
      simp only [List.getElem?_toArray, List.getElem?_cons_succ, List.getElem?_cons_zero] at y0 y1 y2
      refine bodyPost_ret (v := .tuple #[sV [], .agg #[.int .i64 0, .int .i64 0, .int .i64 0]]) (by simp [results, Tryz.results150, go_sem, y0, y1, y2]) rfl ⟨by rw [HP.out]; rfl, HF.out.2⟩
end
end Go.Proofs.YthfciekhmbfmfaaGreatDoor
