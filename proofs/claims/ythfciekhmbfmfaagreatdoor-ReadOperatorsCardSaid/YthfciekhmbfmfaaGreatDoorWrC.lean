/- The writer's simple, given its term. -/
import Derived.Test.YthfciekhmbfmfaaGreatDoorTermR
import Derived.Test.YthfciekhmbfmfaaGreatDoorOpr
namespace Go.Proofs.YthfciekhmbfmfaaGreatDoor
open Go.RowKit Go Go.Maps

/-- The writer's variables. -/
def VarW (w : World) (B b1 b2 : Nat) (fv : Value) (plain : Bool) (vn : Nat → List UInt8) : Prop := ∀ (i : Int) (s : ByteArray) (a : Option Addr) (m c : Nat) (st : WS) (ov : Value) (W : World), 0 ≤ i → i < 100000 → WrSt w B b1 b2 fv plain st ov W → st.out.length ≤ 800000010 →
    Calls Tryz.prog 125 #[.pointer (some ⟨B, 0, none⟩), .agg #[.int .i64 1, .int .i64 i, .string s, .slice a m c]] W (WrQ w B b1 b2 fv plain (putF st (vn i.toNat)) W)
section
variable {w : World} {B b1 b2 : Nat} {fv ov : Value} {plain : Bool} {vn : Nat → List UInt8} {st : WS} {W : World} {mm : Int} {n : Nat}
theorem arr_size (l : List UInt8) : (⟨l.toArray⟩ : ByteArray).size = l.length := by show l.toArray.size = _; simp
set_option maxRecDepth 100000 in
set_option maxHeartbeats 32000000 in
theorem simple_anyW (hT : TermW w B b1 b2 fv plain vn n) (hV : VarW w B b1 b2 fv plain vn) (hC : WrC w mm) (hv : ∀ k, k < 100000 → (vn k).length ≤ 1000) (T : Tr) (v : Value) (hs : T.size ≤ n + 1) (hf : T.fine = true) (htv : IsT w.heap.size w T v) (h : WrSt w B b1 b2 fv plain st ov W) (hb : st.out.length + 5000 * T.size ≤ 800000010) :
    Calls Tryz.prog 125 #[.pointer (some ⟨B, 0, none⟩), v] W (WrQ w B b1 b2 fv plain (simpleW vn (wrN plain vn n) T st) W) := by
  cases T with
  | node k i s l =>
  obtain ⟨a, c, rfl, hk1, hi1, hs1, hlc, hcm, hl⟩ := htv.open
  obtain ⟨hn, hfl⟩ := fine_node hf
  have hsz : (Tr.node k i s l).size = 1 + sizeL l := by simp only [Tr.size]
  rw [hsz] at hs hb
  have hdl := data_len s
  have hwW := h.below.size
  by_cases h1 : k = 1
  · subst h1
    have hr := fine_one hn
    have hP : simpleW vn (wrN plain vn n) (.node 1 i s l) st = putF st (vn i.toNat) := by rw [simpleW, if_pos rfl]
    rw [hP]
    exact hV i s a _ c st ov W hr.1 hr.2 h (by omega)
  have hA := below_a1 (Nat.le_refl W.heap.size) (.cells #[.int .i64 k, .int .i64 i, .string s, .slice a l.length c] 31)
  have hbx : Box (W.alloc (.cells #[.int .i64 k, .int .i64 i, .string s, .slice a l.length c] 31)) W.heap.size #[.int .i64 k, .int .i64 i, .string s, .slice a l.length c] 31 := Box.at rfl
  have hBne : W.heap.size ≠ B := by have := h.box.lt; omega
  have H0 := Lib.hid (And.intro (h.up hA) (And.intro (WrTo.up (B := B) hA) hbx))
  by_cases h2 : k = 2
  · subst h2
    have hr := fine_two hn
    have hil := intL_len i hr
    have hit := Lib.hid (Tryz.strconv_Itoa i (by omega) (by omega) _ (hC.tab _ (h.below.trans (hA.mono h.below.size))))
    have HPU := Lib.hid (fun (w2 : World) (ov2 : Value) (h2 : WrSt w B b1 b2 fv plain st ov2 w2) => put_any h2 ⟨(intL i).toArray⟩ (by rw [arr_size]; exact hil.1) (by rw [arr_size]; omega))
    have HP : Hid (simpleW vn (wrN plain vn n) (.node 2 i s l) st = putF st (intL i)) := by
      rw [Hid, simpleW, if_neg (by decide), if_pos rfl]
    clear h hA hbx hT hV hC hl htv hf hn hfl hs hb hsz hdl h1 hil hr
    go_enter Tryz.func125, Tryz.ntmps125
    go_wp2_with fail
    refine (hit.out).mono ?_
    rintro e w2 ⟨rfl, kk, os, rfl⟩
    have hg := grow_low (W.alloc (.cells #[.int .i64 2, .int .i64 i, .string s, .slice a l.length c] 31)) kk os
    have H2 := Lib.hid (And.intro (H0.out.1.up hg) (H0.out.2.1.trans (WrTo.up (B := B) hg)))
    clear hg
    generalize Sort.grow _ os = W5 at *
    go_wp2_with fail
    refine (HPU.out _ _ H2.out.1).mono ?_
    rintro e w3 ⟨rfl, ov3, h3, t3⟩
    have H3 := Lib.hid (And.intro h3 (H2.out.2.trans t3))
    clear h3 t3
    go_wp2_with fail
    first | go_end0 | go_ret
    exact ⟨rfl, ov3, by rw [HP.out]; exact H3.out.1, H3.out.2⟩
  by_cases h3 : k = 3
  · subst h3
    have hr := name_size (fine_three hn)
    have hal := atomF_len s.data.toList
    have han := atomF_ne s.data.toList
    have HAT := Lib.hid (atom_any H0.out.1 hC s (by omega))
    have HPU := Lib.hid (fun (w2 : World) (ov2 : Value) (h2 : WrSt w B b1 b2 fv plain st ov2 w2) => put_any h2 ⟨(atomF s.data.toList).toArray⟩ (by rw [arr_size]; exact han) (by rw [arr_size]; omega))
    have q0 := hbx.cell 0
    have q2 := hbx.cell 2
    have lq := hbx.lt
    simp only [List.getElem?_toArray, List.getElem?_cons_succ, List.getElem?_cons_zero] at q0 q2
    have HP : Hid (simpleW vn (wrN plain vn n) (.node 3 i s l) st = putF st (atomF s.data.toList)) := by
      rw [Hid, simpleW, if_neg (by decide), if_neg (by decide), if_pos rfl]
    clear h hA hbx hT hV hC hl htv hf hn hfl hs hb hsz hdl h1 hal han hr h2
    go_enter Tryz.func125, Tryz.ntmps125
    go_wp2_with fail
    refine (HAT.out).mono ?_
    rintro e w2 ⟨rfl, hB2⟩
    have H2 := Lib.hid (And.intro (H0.out.1.up hB2) (H0.out.2.1.trans (WrTo.up (B := B) hB2)))
    clear hB2
    go_wp2_with fail
    refine (HPU.out _ _ H2.out.1).mono ?_
    rintro e w3 ⟨rfl, ov3, h3, t3⟩
    have H3 := Lib.hid (And.intro h3 (H2.out.2.trans t3))
    clear h3 t3
    go_wp2_with fail
    first | go_end0 | go_ret
    exact ⟨rfl, ov3, by rw [HP.out]; exact H3.out.1, H3.out.2⟩
  by_cases h4 : k = 4
  · subst h4
    have hr := fine_four hn
    have hal := qsL_len s.data.toList
    have HAT := Lib.hid (quoteStr_any s (by omega) (W.alloc (.cells #[.int .i64 4, .int .i64 i, .string s, .slice a l.length c] 31)))
    have HPU := Lib.hid (fun (w2 : World) (ov2 : Value) (h2 : WrSt w B b1 b2 fv plain st ov2 w2) => put_any h2 ⟨(qsL s.data.toList ++ [34]).toArray⟩ (by rw [arr_size]; simp) (by rw [arr_size]; simp only [List.length_append, List.length_cons, List.length_nil]; omega))
    have HP : Hid (simpleW vn (wrN plain vn n) (.node 4 i s l) st = putF st (qsL s.data.toList ++ [34])) := by
      rw [Hid, simpleW, if_neg (by decide), if_neg (by decide), if_neg (by decide), if_pos rfl]
    clear h hA hbx hT hV hC hl htv hf hn hfl hs hb hsz hdl h1 hal hr h2 h3
    go_enter Tryz.func125, Tryz.ntmps125
    go_wp2_with fail
    refine (HAT.out).mono ?_
    rintro e w2 ⟨rfl, hB2⟩
    have H2 := Lib.hid (And.intro (H0.out.1.up hB2) (H0.out.2.1.trans (WrTo.up (B := B) hB2)))
    clear hB2
    go_wp2_with fail
    refine (HPU.out _ _ H2.out.1).mono ?_
    rintro e w3 ⟨rfl, ov3, h3, t3⟩
    have H3 := Lib.hid (And.intro h3 (H2.out.2.trans t3))
    clear h3 t3
    go_wp2_with fail
    first | go_end0 | go_ret
    exact ⟨rfl, ov3, by rw [HP.out]; exact H3.out.1, H3.out.2⟩
  by_cases h6 : k = 6
  · subst h6
    have hpl := putF_len st [123]
    simp only [List.length_cons, List.length_nil] at hpl
    have hpp := partsW_len (wrN_len (plain := plain) hv n) l (putF st [123]) hfl
    have HP1 := Lib.hid (put_any H0.out.1 ⟨#[123]⟩ (by decide) (by show _ + 1 ≤ _; omega))
    have HPA := Lib.hid (fun (w2 : World) (ov2 : Value) (h2 : WrSt w B b1 b2 fv plain (putF st [123]) ov2 w2) => parts_anyW hT hv l a c hl hfl (by omega) h2 (by omega))
    have HP2 := Lib.hid (fun (w2 : World) (ov2 : Value) (h2 : WrSt w B b1 b2 fv plain (partsW (wrN plain vn n) l (putF st [123])) ov2 w2) => put_any h2 ⟨#[125]⟩ (by decide) (by show _ + 1 ≤ _; omega))
    have HP : Hid (simpleW vn (wrN plain vn n) (.node 6 i s l) st = putF (partsW (wrN plain vn n) l (putF st [123])) [125]) := by
      rw [Hid, simpleW, if_neg (by decide), if_neg (by decide), if_neg (by decide), if_neg (by decide), if_pos rfl]
    obtain ⟨m, hm⟩ : ∃ m, l.length = m := ⟨_, rfl⟩
    rw [hm] at H0 HPA HP1 ⊢
    clear h hA hbx hT hV hC hl htv hf hn hfl hs hb hsz hdl h1 h2 h3 h4 hpl hpp hm
    go_enter Tryz.func125, Tryz.ntmps125
    go_wp2_with fail
    refine (HP1.out).mono ?_
    rintro e w2 ⟨rfl, ov2, h2, t2⟩
    have hbx2 := t2.box H0.out.2.2 hBne (by decide)
    have q3 := hbx2.cell 3
    have lq := hbx2.lt
    simp only [List.getElem?_toArray, List.getElem?_cons_succ, List.getElem?_cons_zero] at q3
    have H2 := Lib.hid (And.intro h2 (H0.out.2.1.trans t2))
    clear h2 t2 hbx2
    go_wp2_with fail
    refine (HPA.out _ _ H2.out.1).mono ?_
    rintro e w3 ⟨rfl, ov3, h3, t3⟩
    have H3 := Lib.hid (And.intro h3 (H2.out.2.trans t3))
    clear h3 t3 q3 lq
    go_wp2_with fail
    refine (HP2.out _ _ H3.out.1).mono ?_
    rintro e w4 ⟨rfl, ov4, h4, t4⟩
    have H4 := Lib.hid (And.intro h4 (H3.out.2.trans t4))
    clear h4 t4
    go_wp2_with fail
    first | go_end0 | go_ret
    exact ⟨rfl, ov4, by rw [HP.out]; exact H4.out.1, H4.out.2⟩
  by_cases h5 : k = 5
  · subst h5
    obtain ⟨g1, g2, g3⟩ := fine_five hn
    have hr := name_size g1
    have HCELL := Lib.hid (readIsCell_any (.node 5 i s l) _ _ ((htv.below (h.below.trans (hA.mono h.below.size))).mono (Nat.le_trans h.below.size hA.size)))
    cases hc : cellB (.node 5 i s l) with
    | true =>
      obtain ⟨i', s', x, y, he⟩ := cell_form hc
      cases he
      have HP : Hid (simpleW vn (wrN plain vn n) (.node 5 i s [x, y]) st = putF (restW (wrN plain vn n) (sizeL [x, y] + 1) y (wrN plain vn n 999 x (putF st [91]))) [93]) := by
        rw [Hid, simpleW, if_neg (by decide), if_neg (by decide), if_neg (by decide), if_neg (by decide), if_neg (by decide), if_pos rfl, if_pos hc]; rfl
      have HLI := Lib.hid (fun (w2 : World) (ov2 : Value) (h2 : WrSt w B b1 b2 fv plain st ov2 w2) => list_anyW hT hv i s x y a c hl hfl (by omega) h2 (by omega))
      have HCC := Lib.hid hc
      simp only [List.length_cons, List.length_nil, Nat.zero_add, Nat.reduceAdd] at H0 ⊢
      clear h hA hbx hT hV hC hl htv hf hn hfl hs hb hsz hdl h1 h2 h3 h4 h6 g1 g2 g3 hr hc
      go_enter Tryz.func125, Tryz.ntmps125
      go_wp2_with fail
      refine (HCELL.out).mono ?_
      rintro e w2 ⟨rfl, hB2⟩
      rw [HCC.out]
      have hbx2 := H0.out.2.2.keep hB2
      have q0 := hbx2.cell 0
      have q1 := hbx2.cell 1
      have q2 := hbx2.cell 2
      have q3 := hbx2.cell 3
      have lq := hbx2.lt
      simp only [List.getElem?_toArray, List.getElem?_cons_succ, List.getElem?_cons_zero] at q0 q1 q2 q3
      have H2 := Lib.hid (And.intro (H0.out.1.up hB2) (H0.out.2.1.trans (WrTo.up (B := B) hB2)))
      clear hB2 hbx2
      go_wp2_with fail
      refine (HLI.out _ _ H2.out.1).mono ?_
      rintro e w3 ⟨rfl, ov3, h3, t3⟩
      have H3 := Lib.hid (And.intro h3 (H2.out.2.trans t3))
      clear h3 t3 q0 q1 q2 q3 lq
      go_wp2_with fail
      first | go_end0 | go_ret
      exact ⟨rfl, ov3, by rw [HP.out]; exact H3.out.1, H3.out.2⟩
    | false =>
      have HP : Hid (simpleW vn (wrN plain vn n) (.node 5 i s l) st = putF (partsW (wrN plain vn n) l (putF (putF st (nameF s.data.toList)) [40])) [41]) := by
        rw [Hid, simpleW, if_neg (by decide), if_neg (by decide), if_neg (by decide), if_neg (by decide), if_neg (by decide), if_pos rfl, if_neg (by rw [hc]; exact Bool.false_ne_true)]
      have hnl := nameF_len s.data.toList
      have hnn := nameF_ne s.data.toList
      have hp1 := putF_len st (nameF s.data.toList)
      have hp2 := putF_len (putF st (nameF s.data.toList)) [40]
      simp only [List.length_cons, List.length_nil] at hp2
      have hpp := partsW_len (wrN_len (plain := plain) hv n) l (putF (putF st (nameF s.data.toList)) [40]) hfl
      have HNA := Lib.hid (fun (w2 : World) (hB : Below w.heap.size w w2) => nameText_any s w2 (by omega) mm (hC.mxAt hB) (Nat.lt_of_lt_of_le hC.ml hB.size))
      have HP1 := Lib.hid (fun (w2 : World) (ov2 : Value) (h2 : WrSt w B b1 b2 fv plain st ov2 w2) => put_any h2 ⟨(nameF s.data.toList).toArray⟩ (by rw [arr_size]; exact hnn) (by rw [arr_size]; omega))
      have HP2 := Lib.hid (fun (w2 : World) (ov2 : Value) (h2 : WrSt w B b1 b2 fv plain (putF st (nameF s.data.toList)) ov2 w2) => put_any h2 ⟨#[40]⟩ (by decide) (by show _ + 1 ≤ _; omega))
      have HPA := Lib.hid (fun (w2 : World) (ov2 : Value) (h2 : WrSt w B b1 b2 fv plain (putF (putF st (nameF s.data.toList)) [40]) ov2 w2) => parts_anyW hT hv l a c hl hfl (by omega) h2 (by omega))
      have HP3 := Lib.hid (fun (w2 : World) (ov2 : Value) (h2 : WrSt w B b1 b2 fv plain (partsW (wrN plain vn n) l (putF (putF st (nameF s.data.toList)) [40])) ov2 w2) => put_any h2 ⟨#[41]⟩ (by decide) (by show _ + 1 ≤ _; omega))
      have HCC := Lib.hid hc
      obtain ⟨m, hm⟩ : ∃ m, l.length = m := ⟨_, rfl⟩
      rw [hm] at H0 HPA HCELL ⊢
      clear h hA hbx hT hV hC hl htv hf hn hfl hs hb hsz hdl h1 h2 h3 h4 h6 g1 g2 g3 hr hc hnl hnn hp1 hp2 hpp hm
      go_enter Tryz.func125, Tryz.ntmps125
      go_wp2_with fail
      refine (HCELL.out).mono ?_
      rintro e w2 ⟨rfl, hB2⟩
      rw [HCC.out]
      have hbx2 := H0.out.2.2.keep hB2
      have q2 := hbx2.cell 2
      have lq := hbx2.lt
      simp only [List.getElem?_toArray, List.getElem?_cons_succ, List.getElem?_cons_zero] at q2
      have H2 := Lib.hid (And.intro (H0.out.1.up hB2) (And.intro (H0.out.2.1.trans (WrTo.up (B := B) hB2)) hbx2))
      clear hB2 hbx2
      go_wp2_with fail
      refine (HNA.out _ H2.out.1.below).mono ?_
      rintro e w3 ⟨rfl, hB3⟩
      have H3 := Lib.hid (And.intro (H2.out.1.up hB3) (And.intro (H2.out.2.1.trans (WrTo.up (B := B) hB3)) (H2.out.2.2.keep hB3)))
      clear hB3 q2 lq
      go_wp2_with fail
      refine (HP1.out _ _ H3.out.1).mono ?_
      rintro e w4 ⟨rfl, ov4, h4, t4⟩
      have H4 := Lib.hid (And.intro h4 (And.intro (H3.out.2.1.trans t4) (t4.box H3.out.2.2 hBne (by decide))))
      clear h4 t4
      go_wp2_with fail
      refine (HP2.out _ _ H4.out.1).mono ?_
      rintro e w5 ⟨rfl, ov5, h5, t5⟩
      have hbx5 := t5.box H4.out.2.2 hBne (by decide)
      have q3 := hbx5.cell 3
      have lq := hbx5.lt
      simp only [List.getElem?_toArray, List.getElem?_cons_succ, List.getElem?_cons_zero] at q3
      have H5 := Lib.hid (And.intro h5 (H4.out.2.1.trans t5))
      clear h5 t5 hbx5
      go_wp2_with fail
      refine (HPA.out _ _ H5.out.1).mono ?_
      rintro e w6 ⟨rfl, ov6, h6, t6⟩
      have H6 := Lib.hid (And.intro h6 (H5.out.2.trans t6))
      clear h6 t6 q3 lq
      go_wp2_with fail
      refine (HP3.out _ _ H6.out.1).mono ?_
      rintro e w7 ⟨rfl, ov7, h7, t7⟩
      have H7 := Lib.hid (And.intro h7 (H6.out.2.trans t7))
      clear h7 t7
      go_wp2_with fail
      first | go_end0 | go_ret
      exact ⟨rfl, ov7, by rw [HP.out]; exact H7.out.1, H7.out.2⟩
  exact absurd hn (by unfold nodeB; rw [if_neg h1, if_neg h2, if_neg h3, if_neg h4, if_neg h5, if_neg h6]; exact Bool.false_ne_true)
end
end Go.Proofs.YthfciekhmbfmfaaGreatDoor

/- The writer's term. -/
namespace Go.Proofs.YthfciekhmbfmfaaGreatDoor
open Go.RowKit Go Go.Maps

attribute [local go_sem] Oper.semAt_some monoUpon Yld.says
section
variable {w : World} {B b1 b2 : Nat} {fv ov : Value} {plain : Bool} {vn : Nat → List UInt8} {st : WS} {W : World} {mm : Int} {n : Nat}
set_option maxRecDepth 100000 in
set_option maxHeartbeats 32000000 in
/-- Without brackets. -/
theorem term_leW (hT : TermW w B b1 b2 fv plain vn n) (hV : VarW w B b1 b2 fv plain vn) (hC : WrC w mm) (hv : ∀ k, k < 100000 → (vn k).length ≤ 1000) (T : Tr) (v : Value) (most : Int) (hs : T.size ≤ n + 1) (hf : T.fine = true) (htv : IsT w.heap.size w T v) (h : WrSt w B b1 b2 fv plain st ov W) (hb : st.out.length + 5000 * T.size ≤ 800000010) (hle : (opF plain T).1 ≤ most) :
    Calls Tryz.prog 84 #[.pointer (some ⟨B, 0, none⟩), v, .int .i64 most] W (WrQ w B b1 b2 fv plain (bodyW plain vn (wrN plain vn n) T st) W) := by
  cases T with
  | node k i s l =>
  have HIN := Lib.hid (fun (w2 : World) (ov2 : Value) (st2 : WS) (h2 : WrSt w B b1 b2 fv plain st2 ov2 w2) (hb2 : st2.out.length + 5000 * (Tr.node k i s l).size ≤ 800000010) => simple_anyW hT hV hC hv _ _ hs hf htv h2 hb2)
  have HTV := Lib.hid htv
  have HT := Lib.hid hT
  obtain ⟨a, c, rfl, hk1, hi1, hs1, hlc, hcm, hl⟩ := htv.open
  have hA := below_a1 (Nat.le_refl W.heap.size) (.cells #[.int .i64 k, .int .i64 i, .string s, .slice a l.length c] 31)
  have hbx : Box (W.alloc (.cells #[.int .i64 k, .int .i64 i, .string s, .slice a l.length c] 31)) W.heap.size #[.int .i64 k, .int .i64 i, .string s, .slice a l.length c] 31 := Box.at rfl
  have hBne : W.heap.size ≠ B := by have := h.box.lt; omega
  have hwW := h.below.size
  have H0 := Lib.hid (And.intro (h.up hA) (And.intro (WrTo.up (B := B) hA) hbx))
  have HOP := Lib.hid (operator_any (.node k i s l) _ _ _ _ H0.out.1 htv)
  have q0 := hbx.cell 0
  have q1 := hbx.cell 1
  have q2 := hbx.cell 2
  have q3 := hbx.cell 3
  have lq := hbx.lt
  simp only [List.getElem?_toArray, List.getElem?_cons_succ, List.getElem?_cons_zero] at q0 q1 q2 q3
  obtain ⟨⟨oa, ob, oc⟩, ho⟩ : ∃ o : Op3, opF plain (.node k i s l) = o := ⟨_, rfl⟩
  rw [ho] at HOP hle
  have hle : ¬ oa > most := by show ¬ most < oa; simp only at hle; omega
  simp only [opV] at HOP
  have HFF := Lib.hid hf
  have HBD := Lib.hid (And.intro hs hb)
  have HCL := Lib.hid hC
  have HLS := Lib.hid (And.intro hl (And.intro hs1 hcm))
  clear h hA hT hV hC htv hf hl hs hb hk1 hi1 hlc hcm hbx hs1
  refine (callsIn_wide (n := 9)).1 ?_
  generalize hF : Fence.wide = F
  have hd : F.depth = none := by subst hF; rfl
  have hf : ∀ f, F.fn f := fun f => by subst hF; trivial
  have hro : F.round = none := by subst hF; rfl
  by_cases hz : oa = 0
  · have HP : Hid (bodyW plain vn (wrN plain vn n) (.node k i s l) st = simpleW vn (wrN plain vn n) (.node k i s l) st) := by rw [Hid, bodyW, ho]; simp only [hz, if_true]
    have hz1 : (oa == 0) = true := by rw [hz]; rfl
    clear ho hz
    refine callsIn_of_wp Tryz.func84 rfl (hf _) ?_ hro
    simp only [Tryz.ntmps84, List.size_toArray, List.length_cons, List.length_nil, Nat.reduceAdd, Nat.reduceSub, Array.replicate_succ, Array.replicate_zero, List.push_toArray, List.append_toArray, List.nil_append, List.cons_append]
    gi_wp2_with fail
    refine CallsIn.mono (callsIn_of_calls hF (HOP.out)) ?_
    rintro e w1 ⟨rfl, hB1⟩
    have h1 := H0.out.1.up hB1
    have hbx1 := H0.out.2.2.keep hB1
    have hA2 := below_a1 (Nat.le_refl w1.heap.size) (.cells #[.int .i64 oa, .int .i64 ob, .int .i64 oc] 48)
    have hO : Box (w1.alloc (.cells #[.int .i64 oa, .int .i64 ob, .int .i64 oc] 48)) w1.heap.size #[.int .i64 oa, .int .i64 ob, .int .i64 oc] 48 := Box.at rfl
    have hOne : w1.heap.size ≠ B := by have := h1.box.lt; omega
    have hOW : W.heap.size ≤ w1.heap.size := Nat.le_trans (by have := H0.out.2.1.1; exact this) hB1.size
    have H1 := Lib.hid (And.intro (h1.up hA2) (And.intro ((H0.out.2.1.trans (WrTo.up (B := B) hB1)).trans (WrTo.up (B := B) hA2)) (And.intro (hbx1.keep hA2) hO)))
    clear q0 q1 q2 q3 lq h1 hbx1 hA2 hO hB1
    have q0 := (H1.out.2.2.1).cell 0
    have q1 := (H1.out.2.2.1).cell 1
    have q2 := (H1.out.2.2.1).cell 2
    have q3 := (H1.out.2.2.1).cell 3
    have lq := (H1.out.2.2.1).lt
    have p0 := (H1.out.2.2.2).cell 0
    have p1 := (H1.out.2.2.2).cell 1
    have p2 := (H1.out.2.2.2).cell 2
    have lp := (H1.out.2.2.2).lt
    simp only [List.getElem?_toArray, List.getElem?_cons_succ, List.getElem?_cons_zero] at q0 q1 q2 q3 p0 p1 p2
    gi_wp2_with fail
    refine CallsIn.mono (callsIn_of_calls hF (HIN.out _ _ _ H1.out.1 HBD.out.2)) ?_
    rintro e w3 ⟨rfl, ov3, h3, t3⟩
    have H3 := Lib.hid (And.intro h3 (H1.out.2.1.trans t3))
    clear h3 t3 q0 q1 q2 q3 lq p0 p1 p2 lp
    gi_wp2_with fail
    first | go_end0 | go_ret
    exact ⟨rfl, ov3, by rw [HP.out]; exact H3.out.1, H3.out.2⟩
  · obtain ⟨hp, hform⟩ := op_form (T := .node k i s l) (plain := plain) (by rw [ho]; exact hz)
    subst hp
    have hz1 : (oa == 0) = false := by simpa using hz
    rcases hform with ⟨i', s', x, he, oe1, oe2⟩ | ⟨i', s', x, y, he, oe1, oe2⟩
    · cases he
      have hob : ob = 0 := by
        have h1 := ho.symm.trans oe1
        rcases pre_good s with g | g
        · rw [g] at oe2; exact absurd oe2 (by decide)
        · have := congrArg (fun p => p.2.1) h1
          simp only at this
          rw [this]; exact g.2.2.1
      have hob1 : (ob == 0) = true := by rw [hob]; rfl
      have HP : Hid (bodyW false vn (wrN false vn n) (.node 5 i s [x]) st = wrN false vn n oc x ⟨(putF st s.data.toList).out, true⟩) := by rw [Hid, bodyW, ho]; simp only [if_neg hz, if_pos hob]; rfl
      obtain ⟨bb, off, rfl, hbb⟩ := HLS.out.1.addr (by simp)
      obtain ⟨kx, nx, sx, tx, ax, cx, hx, d0, d1, d2, d3, htx⟩ := IsL.node' HLS.out.1 hbb (Below.refl _ _) 0 (by simp)
      simp only [List.getElem_cons_zero, List.getElem_cons_succ, Nat.zero_mul, Nat.add_zero, Nat.one_mul] at hx d0 d1 d2 d3 htx
      subst hx
      obtain ⟨hn, hfl⟩ := fine_node HFF.out
      simp only [fineL, Bool.and_eq_true, and_true] at hfl
      have hns := name_size (fine_five hn).1
      have hdl := data_len s
      have hsz : (Tr.node 5 i s [Tr.node kx nx sx tx]).size = 1 + (Tr.node kx nx sx tx).size := by simp only [Tr.size, sizeL]; omega
      have hbd := HBD.out
      rw [hsz] at hbd
      have hpl := putF_len st s.data.toList
      have HPU := Lib.hid (fun (w2 : World) (ov2 : Value) (h2 : WrSt w B b1 b2 fv false st ov2 w2) => put_any h2 s (by omega) (by omega))
      have HC := Lib.hid (fun (w2 : World) (ov2 : Value) (h2 : WrSt w B b1 b2 fv false ⟨(putF st s.data.toList).out, true⟩ ov2 w2) => HT.out _ _ oc _ ov2 w2 (by omega) hfl htx h2 (by show (putF st s.data.toList).out.length + _ ≤ _; omega))
      simp only [List.length_cons, List.length_nil, Nat.zero_add] at H0 HOP HIN q3 ⊢
      clear ho hz hob oe1 oe2 hn hfl hns hdl hsz hbd hpl htx
      refine callsIn_of_wp Tryz.func84 rfl (hf _) ?_ hro
      simp only [Tryz.ntmps84, List.size_toArray, List.length_cons, List.length_nil, Nat.reduceAdd, Nat.reduceSub, Array.replicate_succ, Array.replicate_zero, List.push_toArray, List.append_toArray, List.nil_append, List.cons_append]
      gi_wp2_with fail
      refine CallsIn.mono (callsIn_of_calls hF (HOP.out)) ?_
      rintro e w1 ⟨rfl, hB1⟩
      have h1 := H0.out.1.up hB1
      have hbx1 := H0.out.2.2.keep hB1
      have hA2 := below_a1 (Nat.le_refl w1.heap.size) (.cells #[.int .i64 oa, .int .i64 ob, .int .i64 oc] 48)
      have hO : Box (w1.alloc (.cells #[.int .i64 oa, .int .i64 ob, .int .i64 oc] 48)) w1.heap.size #[.int .i64 oa, .int .i64 ob, .int .i64 oc] 48 := Box.at rfl
      have hOne : w1.heap.size ≠ B := by have := h1.box.lt; omega
      have hOW : W.heap.size ≤ w1.heap.size := Nat.le_trans (by have := H0.out.2.1.1; exact this) hB1.size
      have H1 := Lib.hid (And.intro (h1.up hA2) (And.intro ((H0.out.2.1.trans (WrTo.up (B := B) hB1)).trans (WrTo.up (B := B) hA2)) (And.intro (hbx1.keep hA2) hO)))
      clear q0 q1 q2 q3 lq h1 hbx1 hA2 hO hB1
      have q0 := (H1.out.2.2.1).cell 0
      have q1 := (H1.out.2.2.1).cell 1
      have q2 := (H1.out.2.2.1).cell 2
      have q3 := (H1.out.2.2.1).cell 3
      have lq := (H1.out.2.2.1).lt
      have p0 := (H1.out.2.2.2).cell 0
      have p1 := (H1.out.2.2.2).cell 1
      have p2 := (H1.out.2.2.2).cell 2
      have lp := (H1.out.2.2.2).lt
      simp only [List.getElem?_toArray, List.getElem?_cons_succ, List.getElem?_cons_zero] at q0 q1 q2 q3 p0 p1 p2
      gi_wp2_with fail
      refine CallsIn.mono (callsIn_of_calls hF (HPU.out _ _ H1.out.1)) ?_
      rintro e w3 ⟨rfl, ov3, h3, t3⟩
      have b5 := h3.box.cell 5
      have f5 := h3.box.frozen 5
      have lB := h3.box.lt
      simp only [List.getElem?_toArray, List.getElem?_cons_succ, List.getElem?_cons_zero] at b5
      obtain ⟨h4, t4⟩ := h3.setBeh true
      have H4 := Lib.hid (And.intro h4 (And.intro ((H1.out.2.1.trans t3).trans t4) (And.intro ((t3.box H1.out.2.2.1 hBne (by decide)).other hBne 5 (.bool true)) ((t3.box H1.out.2.2.2 hOne (by decide)).other hOne 5 (.bool true)))))
      clear h3 t3 h4 t4 q0 q1 q2 q3 lq p0 p1 p2 lp
      gi_wp2_with fail
      clear b5 f5 lB
      generalize w3.setCell ⟨B, 5, none⟩ (.bool true) = W4 at *
      have q0 := (H4.out.2.2.1).cell 0
      have q1 := (H4.out.2.2.1).cell 1
      have q2 := (H4.out.2.2.1).cell 2
      have q3 := (H4.out.2.2.1).cell 3
      have lq := (H4.out.2.2.1).lt
      have p0 := (H4.out.2.2.2).cell 0
      have p1 := (H4.out.2.2.2).cell 1
      have p2 := (H4.out.2.2.2).cell 2
      have lp := (H4.out.2.2.2).lt
      simp only [List.getElem?_toArray, List.getElem?_cons_succ, List.getElem?_cons_zero] at q0 q1 q2 q3 p0 p1 p2
      have hbW : bb < W4.heap.size := Nat.lt_of_lt_of_le hbb (H4.out.1).below.size
      have g0 := (((H4.out.1).below.cell (p := ⟨bb, off, none⟩) hbb)).trans d0
      have g1 := (((H4.out.1).below.cell (p := ⟨bb, off + 1, none⟩) hbb)).trans d1
      have g2 := (((H4.out.1).below.cell (p := ⟨bb, off + 2, none⟩) hbb)).trans d2
      have g3 := (((H4.out.1).below.cell (p := ⟨bb, off + 3, none⟩) hbb)).trans d3
      refine wpIn_region_mono_tail 7 [.det (.pointer (some ⟨B, 0, none⟩)), .det (.pointer (some ⟨W.heap.size, 3, none⟩)), .det (.slice (some ⟨bb, off, none⟩) 1 c), .det (.pointer (some ⟨bb, off, none⟩)), .det (.agg #[.int .i64 kx, .int .i64 nx, .string sx, .slice ax tx.length cx]), .det (.pointer (some ⟨w1.heap.size, 2, none⟩)), .det (.int .i64 oc)] hf hd (fun k f args w R h => callsIn_of_calls hF h) (by kernel_rfl) (by kernel_rfl) ?_ ?_
      · intro y hy
        simp only [List.mem_cons, List.not_mem_nil, or_false] at hy
        rcases hy with rfl | rfl | rfl | rfl | rfl | rfl | rfl <;> first | trivial
      simp only [List.take_succ_cons, List.take_zero, List.drop_succ_cons, List.drop_zero]
      iterate 7 (
        refine wpM_step (fun K hK => ?_)
        go_simp
        apply And.intro
        · intro w' hC _
          have q1 := hC.old.1
          have hbs := hC.old.2.2
          clear hC
          go_simp
          exact Ext.refl _
        refine nextM_det (hK _ _ ?_)
        clear hK K)
      refine wpM_nil ?_
      intro W5 hC5 _
      have hC6 : Below W4.heap.size W4 W5 := hC5
      have H5 := Lib.hid (And.intro (H4.out.1.up hC6) (H4.out.2.1.trans (WrTo.up (B := B) hC6)))
      clear hC5 hC6 hbW g0 g1 g2 g3 q0 q1 q2 q3 lq p0 p1 p2 lp
      gi_wp2_with fail
      refine CallsIn.mono (callsIn_of_calls hF (HC.out _ _ H5.out.1)) ?_
      rintro e w6 ⟨rfl, ov6, h6, t6⟩
      have H6 := Lib.hid (And.intro h6 (H5.out.2.trans t6))
      clear h6 t6
      gi_wp2_with fail
      first | go_end0 | go_ret
      exact ⟨rfl, ov6, by rw [HP.out]; exact H6.out.1, H6.out.2⟩
    · cases he
      have hob : ¬ ob = 0 := by
        have h1 := ho.symm.trans oe1
        rcases inf_good s with g | g
        · rw [g] at oe2; exact absurd oe2 (by decide)
        · have := congrArg (fun p => p.2.1) h1
          simp only at this
          rw [this]; omega
      have hob1 : (ob == 0) = false := by simpa using hob
      have HP : Hid (bodyW false vn (wrN false vn n) (.node 5 i s [x, y]) st = wrN false vn n oc y (putF (wrN false vn n ob x st) s.data.toList)) := by rw [Hid, bodyW, ho]; simp only [if_neg hz, if_neg hob]; rfl
      obtain ⟨bb, off, rfl, hbb⟩ := HLS.out.1.addr (by simp)
      obtain ⟨kx, nx, sx, tx, ax, cx, hx, d0, d1, d2, d3, htx⟩ := IsL.node' HLS.out.1 hbb (Below.refl _ _) 0 (by simp)
      simp only [List.getElem_cons_zero, List.getElem_cons_succ, Nat.zero_mul, Nat.add_zero, Nat.one_mul] at hx d0 d1 d2 d3 htx
      subst hx
      obtain ⟨ky, ny, sy, ty, ay, cy, hy, e0, e1, e2, e3, hty⟩ := IsL.node' HLS.out.1 hbb (Below.refl _ _) 1 (by simp)
      simp only [List.getElem_cons_zero, List.getElem_cons_succ, Nat.zero_mul, Nat.add_zero, Nat.one_mul] at hy e0 e1 e2 e3 hty
      subst hy
      obtain ⟨hn, hfl⟩ := fine_node HFF.out
      simp only [fineL, Bool.and_eq_true, and_true] at hfl
      have hns := name_size (fine_five hn).1
      have hdl := data_len s
      have hsz : (Tr.node 5 i s [Tr.node kx nx sx tx, Tr.node ky ny sy ty]).size = 1 + ((Tr.node kx nx sx tx).size + (Tr.node ky ny sy ty).size) := by simp only [Tr.size, sizeL]; omega
      have hbd := HBD.out
      rw [hsz] at hbd
      have hxp := size_pos (.node kx nx sx tx)
      have hyp := size_pos (.node ky ny sy ty)
      have hwl := wrN_len (plain := false) hv n ob (.node kx nx sx tx) st hfl.1
      have hpl := putF_len (wrN false vn n ob (.node kx nx sx tx) st) s.data.toList
      have HC1 := Lib.hid (fun (w2 : World) (ov2 : Value) (h2 : WrSt w B b1 b2 fv false st ov2 w2) => HT.out _ _ ob _ ov2 w2 (by omega) hfl.1 htx h2 (by omega))
      have HPU := Lib.hid (fun (w2 : World) (ov2 : Value) (h2 : WrSt w B b1 b2 fv false (wrN false vn n ob (.node kx nx sx tx) st) ov2 w2) => put_any h2 s (by omega) (by omega))
      have HC := Lib.hid (fun (w2 : World) (ov2 : Value) (h2 : WrSt w B b1 b2 fv false (putF (wrN false vn n ob (.node kx nx sx tx) st) s.data.toList) ov2 w2) => HT.out _ _ oc _ ov2 w2 (by omega) hfl.2 hty h2 (by omega))
      simp only [List.length_cons, List.length_nil, Nat.zero_add, Nat.reduceAdd] at H0 HOP HIN q3 ⊢
      clear ho hz hob oe1 oe2 hn hfl hns hdl hsz hbd hpl hwl hxp hyp htx hty
      refine callsIn_of_wp Tryz.func84 rfl (hf _) ?_ hro
      simp only [Tryz.ntmps84, List.size_toArray, List.length_cons, List.length_nil, Nat.reduceAdd, Nat.reduceSub, Array.replicate_succ, Array.replicate_zero, List.push_toArray, List.append_toArray, List.nil_append, List.cons_append]
      gi_wp2_with fail
      refine CallsIn.mono (callsIn_of_calls hF (HOP.out)) ?_
      rintro e w1 ⟨rfl, hB1⟩
      have h1 := H0.out.1.up hB1
      have hbx1 := H0.out.2.2.keep hB1
      have hA2 := below_a1 (Nat.le_refl w1.heap.size) (.cells #[.int .i64 oa, .int .i64 ob, .int .i64 oc] 48)
      have hO : Box (w1.alloc (.cells #[.int .i64 oa, .int .i64 ob, .int .i64 oc] 48)) w1.heap.size #[.int .i64 oa, .int .i64 ob, .int .i64 oc] 48 := Box.at rfl
      have hOne : w1.heap.size ≠ B := by have := h1.box.lt; omega
      have hOW : W.heap.size ≤ w1.heap.size := Nat.le_trans (by have := H0.out.2.1.1; exact this) hB1.size
      have H1 := Lib.hid (And.intro (h1.up hA2) (And.intro ((H0.out.2.1.trans (WrTo.up (B := B) hB1)).trans (WrTo.up (B := B) hA2)) (And.intro (hbx1.keep hA2) hO)))
      clear q0 q1 q2 q3 lq h1 hbx1 hA2 hO hB1
      have q0 := (H1.out.2.2.1).cell 0
      have q1 := (H1.out.2.2.1).cell 1
      have q2 := (H1.out.2.2.1).cell 2
      have q3 := (H1.out.2.2.1).cell 3
      have lq := (H1.out.2.2.1).lt
      have p0 := (H1.out.2.2.2).cell 0
      have p1 := (H1.out.2.2.2).cell 1
      have p2 := (H1.out.2.2.2).cell 2
      have lp := (H1.out.2.2.2).lt
      simp only [List.getElem?_toArray, List.getElem?_cons_succ, List.getElem?_cons_zero] at q0 q1 q2 q3 p0 p1 p2
      gi_wp2_with fail
      have hbW : bb < (w1.alloc (.cells #[.int .i64 oa, .int .i64 ob, .int .i64 oc] 48)).heap.size := Nat.lt_of_lt_of_le hbb (H1.out.1).below.size
      have g0 := (((H1.out.1).below.cell (p := ⟨bb, off, none⟩) hbb)).trans d0
      have g1 := (((H1.out.1).below.cell (p := ⟨bb, off + 1, none⟩) hbb)).trans d1
      have g2 := (((H1.out.1).below.cell (p := ⟨bb, off + 2, none⟩) hbb)).trans d2
      have g3 := (((H1.out.1).below.cell (p := ⟨bb, off + 3, none⟩) hbb)).trans d3
      generalize (w1.alloc (.cells #[.int .i64 oa, .int .i64 ob, .int .i64 oc] 48)) = W2 at *
      refine wpIn_region_mono_tail 7 [.det (.pointer (some ⟨B, 0, none⟩)), .det (.pointer (some ⟨W.heap.size, 3, none⟩)), .det (.slice (some ⟨bb, off, none⟩) 2 c), .det (.pointer (some ⟨bb, off, none⟩)), .det (.agg #[.int .i64 kx, .int .i64 nx, .string sx, .slice ax tx.length cx]), .det (.pointer (some ⟨w1.heap.size, 1, none⟩)), .det (.int .i64 ob)] hf hd (fun k f args w R h => callsIn_of_calls hF h) (by kernel_rfl) (by kernel_rfl) ?_ ?_
      · intro y hy
        simp only [List.mem_cons, List.not_mem_nil, or_false] at hy
        rcases hy with rfl | rfl | rfl | rfl | rfl | rfl | rfl <;> first | trivial
      simp only [List.take_succ_cons, List.take_zero, List.drop_succ_cons, List.drop_zero]
      iterate 7 (
        refine wpM_step (fun K hK => ?_)
        go_simp
        apply And.intro
        · intro w' hC _
          have q1 := hC.old.1
          have hbs := hC.old.2.2
          clear hC
          go_simp
          exact Ext.refl _
        refine nextM_det (hK _ _ ?_)
        clear hK K)
      refine wpM_nil ?_
      intro W3 hC3 _
      have hC2 : Below W2.heap.size W2 W3 := hC3
      have H3 := Lib.hid (And.intro (H1.out.1.up hC2) (And.intro (H1.out.2.1.trans (WrTo.up (B := B) hC2)) (And.intro (H1.out.2.2.1.keep hC2) (H1.out.2.2.2.keep hC2))))
      clear hC3 hC2 hbW g0 g1 g2 g3 q0 q1 q2 q3 lq p0 p1 p2 lp
      gi_wp2_with fail
      refine CallsIn.mono (callsIn_of_calls hF (HC1.out _ _ H3.out.1)) ?_
      rintro e w4 ⟨rfl, ov4, h4, t4⟩
      have H4 := Lib.hid (And.intro h4 (And.intro (H3.out.2.1.trans t4) (And.intro (t4.box H3.out.2.2.1 hBne (by decide)) (t4.box H3.out.2.2.2 hOne (by decide)))))
      clear h4 t4
      have q0 := (H4.out.2.2.1).cell 0
      have q1 := (H4.out.2.2.1).cell 1
      have q2 := (H4.out.2.2.1).cell 2
      have q3 := (H4.out.2.2.1).cell 3
      have lq := (H4.out.2.2.1).lt
      have p0 := (H4.out.2.2.2).cell 0
      have p1 := (H4.out.2.2.2).cell 1
      have p2 := (H4.out.2.2.2).cell 2
      have lp := (H4.out.2.2.2).lt
      simp only [List.getElem?_toArray, List.getElem?_cons_succ, List.getElem?_cons_zero] at q0 q1 q2 q3 p0 p1 p2
      gi_wp2_with fail
      refine CallsIn.mono (callsIn_of_calls hF (HPU.out _ _ H4.out.1)) ?_
      rintro e w5 ⟨rfl, ov5, h5, t5⟩
      have H5 := Lib.hid (And.intro h5 (And.intro (H4.out.2.1.trans t5) (And.intro (t5.box H4.out.2.2.1 hBne (by decide)) (t5.box H4.out.2.2.2 hOne (by decide)))))
      clear h5 t5 q0 q1 q2 q3 lq p0 p1 p2 lp
      have q0 := (H5.out.2.2.1).cell 0
      have q1 := (H5.out.2.2.1).cell 1
      have q2 := (H5.out.2.2.1).cell 2
      have q3 := (H5.out.2.2.1).cell 3
      have lq := (H5.out.2.2.1).lt
      have p0 := (H5.out.2.2.2).cell 0
      have p1 := (H5.out.2.2.2).cell 1
      have p2 := (H5.out.2.2.2).cell 2
      have lp := (H5.out.2.2.2).lt
      simp only [List.getElem?_toArray, List.getElem?_cons_succ, List.getElem?_cons_zero] at q0 q1 q2 q3 p0 p1 p2
      gi_wp2_with fail
      have hbW : bb < w5.heap.size := Nat.lt_of_lt_of_le hbb (H5.out.1).below.size
      have g0 := (((H5.out.1).below.cell (p := ⟨bb, off + 4, none⟩) hbb)).trans e0
      have g1 := (((H5.out.1).below.cell (p := ⟨bb, off + 4 + 1, none⟩) hbb)).trans e1
      have g2 := (((H5.out.1).below.cell (p := ⟨bb, off + 4 + 2, none⟩) hbb)).trans e2
      have g3 := (((H5.out.1).below.cell (p := ⟨bb, off + 4 + 3, none⟩) hbb)).trans e3
      refine wpIn_region_mono_tail 7 [.det (.pointer (some ⟨B, 0, none⟩)), .det (.pointer (some ⟨W.heap.size, 3, none⟩)), .det (.slice (some ⟨bb, off, none⟩) 2 c), .det (.pointer (some ⟨bb, off + 4, none⟩)), .det (.agg #[.int .i64 ky, .int .i64 ny, .string sy, .slice ay ty.length cy]), .det (.pointer (some ⟨w1.heap.size, 2, none⟩)), .det (.int .i64 oc)] hf hd (fun k f args w R h => callsIn_of_calls hF h) (by kernel_rfl) (by kernel_rfl) ?_ ?_
      · intro y hy
        simp only [List.mem_cons, List.not_mem_nil, or_false] at hy
        rcases hy with rfl | rfl | rfl | rfl | rfl | rfl | rfl <;> first | trivial
      simp only [List.take_succ_cons, List.take_zero, List.drop_succ_cons, List.drop_zero]
      iterate 7 (
        refine wpM_step (fun K hK => ?_)
        go_simp
        apply And.intro
        · intro w' hC _
          have q1 := hC.old.1
          have hbs := hC.old.2.2
          clear hC
          go_simp
          exact Ext.refl _
        refine nextM_det (hK _ _ ?_)
        clear hK K)
      refine wpM_nil ?_
      intro W6 hC6 _
      have hC7 : Below w5.heap.size w5 W6 := hC6
      have H6 := Lib.hid (And.intro (H5.out.1.up hC7) (H5.out.2.1.trans (WrTo.up (B := B) hC7)))
      clear hC6 hC7 hbW g0 g1 g2 g3 q0 q1 q2 q3 lq p0 p1 p2 lp
      gi_wp2_with fail
      refine CallsIn.mono (callsIn_of_calls hF (HC.out _ _ H6.out.1)) ?_
      rintro e w7 ⟨rfl, ov7, h7, t7⟩
      have H7 := Lib.hid (And.intro h7 (H6.out.2.trans t7))
      clear h7 t7
      gi_wp2_with fail
      first | go_end0 | go_ret
      exact ⟨rfl, ov7, by rw [HP.out]; exact H7.out.1, H7.out.2⟩
end
end Go.Proofs.YthfciekhmbfmfaaGreatDoor
