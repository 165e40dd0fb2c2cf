/- The writer's term, for all terms; the names of variables. -/
import Derived.Test.YthfciekhmbfmfaaGreatDoorWrC
import Derived.Test.YthfciekhmbfmfaaGreatDoorCheck
namespace Go.Proofs.YthfciekhmbfmfaaGreatDoor
open Go.RowKit Go Go.Maps

attribute [local go_sem] Oper.semAt_some monoUpon Yld.says
section
variable {w : World} {B b1 b2 : Nat} {fv ov : Value} {plain : Bool} {vn : Nat → List UInt8} {st : WS} {W : World} {mm : Int} {n : Nat}
set_option maxRecDepth 100000 in
set_option maxHeartbeats 32000000 in
theorem termW_all (hV : VarW w B b1 b2 fv plain vn) (hC : WrC w mm) (hv : ∀ k, k < 100000 → (vn k).length ≤ 1000) : ∀ n, TermW w B b1 b2 fv plain vn n
  | 0 => fun T v most st ov W hs => by have := size_pos T; omega
  | n + 1 => by
    have hT := termW_all hV hC hv n
    intro T v most st ov W hs hf htv h hb
    by_cases hle : (opF plain T).1 ≤ most
    · have hP : wrN plain vn (n + 1) most T st = bodyW plain vn (wrN plain vn n) T st := by rw [wrN, if_neg (by omega)]
      rw [hP]
      exact term_leW hT hV hC hv T v most hs hf htv h (by omega) hle
    · have HP : Hid (wrN plain vn (n + 1) most T st = putF (bodyW plain vn (wrN plain vn n) T (putF st [40])) [41]) := by rw [Hid, wrN, if_pos (by omega)]
      have hpl := putF_len st [40]
      simp only [List.length_cons, List.length_nil] at hpl
      have hbl := bodyW_len (plain := plain) hv (wrN_len (plain := plain) hv n) T (putF st [40]) hf
      have HLE := Lib.hid (fun (w2 : World) (ov2 : Value) (h2 : WrSt w B b1 b2 fv plain (putF st [40]) ov2 w2) => term_leW hT hV hC hv T v 1200 hs hf htv h2 (by omega) (op_range plain T).2.1)
      have HP2 := Lib.hid (fun (w2 : World) (ov2 : Value) (h2 : WrSt w B b1 b2 fv plain (bodyW plain vn (wrN plain vn n) T (putF st [40])) ov2 w2) => put_any h2 ⟨#[41]⟩ (by decide) (by show _ + 1 ≤ _; omega))
      cases T with
      | node k i s l =>
      obtain ⟨a, c, rfl, _, _, _, _, _, _⟩ := htv.open
      have hA := below_a1 (Nat.le_refl W.heap.size) (.cells #[.int .i64 k, .int .i64 i, .string s, .slice a l.length c] 31)
      have hbx : Box (W.alloc (.cells #[.int .i64 k, .int .i64 i, .string s, .slice a l.length c] 31)) W.heap.size #[.int .i64 k, .int .i64 i, .string s, .slice a l.length c] 31 := Box.at rfl
      have hBne : W.heap.size ≠ B := by have := h.box.lt; omega
      have H0 := Lib.hid (And.intro (h.up hA) (And.intro (WrTo.up (B := B) hA) hbx))
      have HOP := Lib.hid (operator_any (.node k i s l) _ _ _ _ H0.out.1 htv)
      have HP1 := Lib.hid (fun (w2 : World) (ov2 : Value) (h2 : WrSt w B b1 b2 fv plain st ov2 w2) => put_any h2 ⟨#[40]⟩ (by decide) (by show _ + 1 ≤ _; omega))
      have q0 := hbx.cell 0
      have q1 := hbx.cell 1
      have q2 := hbx.cell 2
      have q3 := hbx.cell 3
      have lq := hbx.lt
      simp only [List.getElem?_toArray, List.getElem?_cons_succ, List.getElem?_cons_zero] at q0 q1 q2 q3
      obtain ⟨⟨oa, ob, oc⟩, ho⟩ : ∃ o : Op3, opF plain (.node k i s l) = o := ⟨_, rfl⟩
      rw [ho] at HOP hle
      have hgt : oa > most := by simp only at hle; omega
      simp only [opV] at HOP
      clear h hA hT hV hC htv hf hs hb hbx ho hle hpl hbl
      go_enter Tryz.func84, Tryz.ntmps84
      go_wp2_with fail
      refine (HOP.out).mono ?_
      rintro e w1 ⟨rfl, hB1⟩
      have h1 := H0.out.1.up hB1
      have hbx1 := H0.out.2.2.keep hB1
      have hA2 := below_a1 (Nat.le_refl w1.heap.size) (.cells #[.int .i64 oa, .int .i64 ob, .int .i64 oc] 48)
      have hO : Box (w1.alloc (.cells #[.int .i64 oa, .int .i64 ob, .int .i64 oc] 48)) w1.heap.size #[.int .i64 oa, .int .i64 ob, .int .i64 oc] 48 := Box.at rfl
      have H1 := Lib.hid (And.intro (h1.up hA2) (And.intro ((H0.out.2.1.trans (WrTo.up (B := B) hB1)).trans (WrTo.up (B := B) hA2)) (And.intro (hbx1.keep hA2) hO)))
      clear q0 q1 q2 q3 lq h1 hbx1 hA2 hO hB1
      have p0 := (H1.out.2.2.2).cell 0
      have p1 := (H1.out.2.2.2).cell 1
      have p2 := (H1.out.2.2.2).cell 2
      have lp := (H1.out.2.2.2).lt
      simp only [List.getElem?_toArray, List.getElem?_cons_succ, List.getElem?_cons_zero] at p0 p1 p2
      go_wp2_with fail
      refine (HP1.out _ _ H1.out.1).mono ?_
      rintro e w2 ⟨rfl, ov2, h2, t2⟩
      have hbx2 := t2.box H1.out.2.2.1 hBne (by decide)
      have H2 := Lib.hid (And.intro h2 (H1.out.2.1.trans t2))
      clear h2 t2 p0 p1 p2 lp
      have q0 := hbx2.cell 0
      have q1 := hbx2.cell 1
      have q2 := hbx2.cell 2
      have q3 := hbx2.cell 3
      have lq := hbx2.lt
      simp only [List.getElem?_toArray, List.getElem?_cons_succ, List.getElem?_cons_zero] at q0 q1 q2 q3
      clear hbx2
      go_wp2_with fail
      refine (HLE.out _ _ H2.out.1).mono ?_
      rintro e w3 ⟨rfl, ov3, h3, t3⟩
      have H3 := Lib.hid (And.intro h3 (H2.out.2.trans t3))
      clear h3 t3 q0 q1 q2 q3 lq
      go_wp2_with fail
      refine (HP2.out _ _ H3.out.1).mono ?_
      rintro e w4 ⟨rfl, ov4, h4, t4⟩
      have H4 := Lib.hid (And.intro h4 (H3.out.2.trans t4))
      clear h4 t4
      go_wp2_with fail
      first | go_end0 | go_ret
      exact ⟨rfl, ov4, by rw [HP.out]; exact H4.out.1, H4.out.2⟩
theorem vnL_len (m : Nat) (hm : m < 100000) : 0 < (vnL m).length ∧ (vnL m).length ≤ 1000 := by
  unfold vnL
  split
  · simp
  · have h := Lib.nDigits_le20 (m / 26) (by omega)
    rw [← Lib.decDigits_length] at h
    simp only [List.length_cons]
    omega
set_option maxRecDepth 100000 in
set_option maxHeartbeats 32000000 in
/-- Variables have the names that VarName tells. -/
theorem varW_any (hC : WrC w mm) : VarW w B b1 b2 (.func (.func 75) #[] #[]) plain vnL := by
  intro i s a m c st ov W hi0 hi1 h hb
  obtain ⟨m0, rfl⟩ : ∃ m0 : Nat, i = m0 := ⟨i.toNat, by omega⟩
  have hm : m0 < 100000 := by omega
  rw [show ((m0 : Int)).toNat = m0 by omega]
  have hlen := vnL_len m0 hm
  have hA := below_a1 (Nat.le_refl W.heap.size) (.cells #[.int .i64 1, .int .i64 (m0 : Int), .string s, .slice a m c] 31)
  have hbx : Box (W.alloc (.cells #[.int .i64 1, .int .i64 (m0 : Int), .string s, .slice a m c] 31)) W.heap.size #[.int .i64 1, .int .i64 (m0 : Int), .string s, .slice a m c] 31 := Box.at rfl
  have hsz : (W.alloc (.cells #[.int .i64 1, .int .i64 (m0 : Int), .string s, .slice a m c] 31)).heap.size = W.heap.size + 1 := by simp
  have HWW := Lib.hid (Nat.le_refl W.heap.size)
  have H0 := Lib.hid (And.intro (h.up hA) (And.intro (WrTo.up (B := B) hA) hbx))
  have HPU := Lib.hid (fun (w2 : World) (ov2 : Value) (h2 : WrSt w B b1 b2 (.func (.func 75) #[] #[]) plain st ov2 w2) => put_any h2 (vnS m0) (by show 0 < (vnL m0).toArray.size; simp; exact hlen.1) (by show _ + (vnL m0).toArray.size ≤ _; simp; omega))
  have HVN := Lib.hid (fun (w2 : World) (h2 : Below w.heap.size w w2) => varName_any m0 hm w2 (fun W' hB => hC.tab W' (h2.trans (hB.mono h2.size))))
  have hent : ∀ args w, (callFunc 75 args).run Tryz.prog w = .ok (.enter 75 args) w := enters_of Tryz.func75 (by kernel_rfl) rfl
  have c3 := H0.out.1.box.cell 3
  have lB := H0.out.1.box.lt
  have q0 := hbx.cell 0
  have q1 := hbx.cell 1
  have lq := hbx.lt
  simp only [List.getElem?_toArray, List.getElem?_cons_succ, List.getElem?_cons_zero] at c3 q0 q1
  clear h hC hi0 hi1 hA hbx hsz
  generalize hWA : W.alloc (.cells #[.int .i64 1, .int .i64 (m0 : Int), .string s, .slice a m c] 31) = W2 at *
  refine (callsIn_wide (n := 9)).1 ?_
  generalize hF : Fence.wide = F
  have hd : F.depth = none := by subst hF; rfl
  have hf : ∀ f, F.fn f := fun f => by subst hF; trivial
  have hro : F.round = none := by subst hF; rfl
  refine callsIn_of_wp Tryz.func125 rfl (hf _) ?_ hro
  simp only [Tryz.ntmps125, List.size_toArray, List.length_cons, List.length_nil, Nat.reduceAdd, Nat.reduceSub, Array.replicate_succ, Array.replicate_zero, List.push_toArray, List.append_toArray, List.nil_append, List.cons_append]
  gi_wp2_with fail
  refine wpIn_region_mono_tail 8 [.det (.pointer (some ⟨B, 0, none⟩)), .det (.pointer (some ⟨B, 0, none⟩)), .det (.pointer (some ⟨B, 0, none⟩)), .det (.pointer (some ⟨B, 3, none⟩)), .det (.func (.func 75) #[] #[]), .det (.pointer (some ⟨W.heap.size, 1, none⟩)), .det (.int .i64 (m0 : Int)), .det (.string (vnS m0))] hf hd (fun k f args w R h => callsIn_of_calls hF h) (by kernel_rfl) (by kernel_rfl) ?_ ?_
  · intro y hy
    simp only [List.mem_cons, List.not_mem_nil, or_false] at hy
    rcases hy with rfl | rfl | rfl | rfl | rfl | rfl | rfl | rfl <;> first | trivial
  simp only [List.take_succ_cons, List.take_zero, List.drop_succ_cons, List.drop_zero]
  iterate 7 (
    refine wpM_step (fun K hK => ?_)
    go_simp
    apply And.intro
    · intro w' hC _
      have q1 := hC.old.1
      have hbs := hC.old.2.2
      clear hC
      go_simp
      exact Ext.refl _
    refine nextM_det (hK _ _ ?_)
    clear hK K)
  refine wpM_step (fun K hK => ?_)
  go_simp
  apply And.intro
  · intro w' hC _
    have hC2 : Below W2.heap.size W2 w' := hC
    go_simp
    refine ⟨Ext.refl _, (HVN.out w' (H0.out.1.below.trans (hC2.mono H0.out.1.below.size))).mono ?_⟩
    rintro e w1 ⟨rfl, hB1⟩
    exact ⟨rfl, hB1⟩
  refine nextM_det (hK _ _ ?_)
  clear hK K
  refine wpM_nil ?_
  intro W3 hC3 _
  have hC2 : Below W2.heap.size W2 W3 := hC3
  have H3 := Lib.hid (And.intro (H0.out.1.up hC2) (H0.out.2.1.trans (WrTo.up (B := B) hC2)))
  clear hC3 hC2 c3 lB q0 q1 lq
  gi_wp2_with fail
  refine CallsIn.mono (callsIn_of_calls hF (HPU.out _ _ H3.out.1)) ?_
  rintro e w4 ⟨rfl, ov4, h4, t4⟩
  have H4 := Lib.hid (And.intro h4 (H3.out.2.trans t4))
  clear h4 t4
  gi_wp2_with fail
  first | go_end0 | go_ret
  exact ⟨rfl, ov4, H4.out.1, H4.out.2⟩
end
end Go.Proofs.YthfciekhmbfmfaaGreatDoor

/- read.Text: the text of a term. -/
namespace Go.Proofs.YthfciekhmbfmfaaGreatDoor
open Go.RowKit Go Go.Maps

attribute [local go_sem] Oper.semAt_some monoUpon Yld.says
/-- A writer that has written nothing. -/
def NewW (w0 : World) (fv : Value) (u : Value) (W : World) : Prop := ∃ (wb : World) (B b1 b2 : Nat), u = .pointer (some ⟨B, 0, none⟩) ∧ Below w0.heap.size w0 wb ∧ WrSt wb B b1 b2 fv false ⟨[], false⟩ (.slice none 0 0) W
set_option maxRecDepth 100000 in
set_option maxHeartbeats 8000000 in
theorem newWriter_any (F : FuncId) (C : Array Value) (w : World) : Calls Tryz.prog 74 #[.func (.func F) #[] C] w fun e W' => Below w.heap.size w W' ∧ ∃ B b1 b2, e = .returned (.pointer (some ⟨B, 0, none⟩)) ∧ WrSt w B b1 b2 (.func (.func F) #[] C) false ⟨[], false⟩ (.slice none 0 0) W' := by
  have HO := Lib.hid (newOperators_any w)
  go_enter Tryz.func74, Tryz.ntmps74
  go_wp2_with fail
  refine (HO.out).mono ?_
  rintro e w1 ⟨b1, b2, rfl, hops, hB1⟩
  have H1 := Lib.hid (And.intro hops hB1)
  clear hops hB1
  go_wp2_with fail
  go_ret
  have hA := below_a1 (Nat.le_refl w1.heap.size) (.cells #[.slice none 0 0, .map (some b1), .map (some b2), .func (.func F) #[] C, .bool false, .bool false] 115)
  have hbel := H1.out.2.trans (hA.mono H1.out.2.size)
  obtain ⟨o1, o2, o3, ⟨m1, o4⟩, m2, o5⟩ := H1.out.1
  exact ⟨hbel, w1.heap.size, b1, b2, rfl, Box.at rfl, World.ownsRow_nil _ _ _ _, ⟨o1, o2, o3, ⟨m1, o4.block (hA.block _ o4.lt)⟩, m2, o5.block (hA.block _ o5.lt)⟩, hbel, H1.out.2.size⟩
/-- The text of a term, or why there is none. -/
def textW (plain : Bool) (vn : Nat → List UInt8) (T : Tr) : Value := if isB T then resF (wrL plain vn 1200 T ⟨[], false⟩).out else .tuple #[.string ⟨#[]⟩, .int .i64 3]
section
variable {w : World} {B b1 b2 : Nat} {fv ov : Value} {plain : Bool} {vn : Nat → List UInt8} {st : WS} {W : World} {mm : Int} {n : Nat}
theorem isB_bounds {T : Tr} (h : isB T = true) : T.size ≤ 4000 ∧ T.fine = true := by
  rw [isB_fine] at h
  simp only [Bool.and_eq_true, decide_eq_true_eq] at h
  exact ⟨h.1.1, h.2⟩
set_option maxRecDepth 100000 in
set_option maxHeartbeats 8000000 in
theorem whole_any (hV : VarW w B b1 b2 fv plain vn) (hC : WrC w mm) (hv : ∀ k, k < 100000 → (vn k).length ≤ 1000) (T : Tr) (v : Value) (htv : IsT w.heap.size w T v) (hdp : T.deep ≤ 999999999) (ov : Value) (h : WrSt w B b1 b2 fv plain ⟨[], false⟩ ov W) :
    Calls Tryz.prog 76 #[.pointer (some ⟨B, 0, none⟩), v] W fun e W' => e = .returned (textW plain vn T) ∧ Below w.heap.size w W' := by
  have hTA := termW_all hV hC hv (T.size + 1)
  cases hT : T with
  | node k i s l =>
  rw [← hT]
  have htv2 := htv
  rw [hT] at htv2
  obtain ⟨a, c, rfl, _, _, _, _, _, _⟩ := htv2.open
  have hA := below_a1 (Nat.le_refl W.heap.size) (.cells #[.int .i64 k, .int .i64 i, .string s, .slice a l.length c] 31)
  have hbx : Box (W.alloc (.cells #[.int .i64 k, .int .i64 i, .string s, .slice a l.length c] 31)) W.heap.size #[.int .i64 k, .int .i64 i, .string s, .slice a l.length c] 31 := Box.at rfl
  have hBne : W.heap.size ≠ B := by have := h.box.lt; omega
  have hbW := h.below.trans (hA.mono h.below.size)
  have HCH := Lib.hid (check_any T _ _ (htv.up hbW hbW.size) hdp)
  have H0 := Lib.hid (And.intro (h.up hA) hbx)
  have q0 := hbx.cell 0
  have q1 := hbx.cell 1
  have q2 := hbx.cell 2
  have q3 := hbx.cell 3
  have lq := hbx.lt
  simp only [List.getElem?_toArray, List.getElem?_cons_succ, List.getElem?_cons_zero] at q0 q1 q2 q3
  cases hb : isB T with
  | false =>
    have HP : Hid (textW plain vn T = .tuple #[.string ⟨#[]⟩, .int .i64 3]) := by rw [Hid, textW, hb]; rfl
    have HBB := Lib.hid hb
    clear h hA hbx hbW hV hC htv htv2 hTA hb hT
    go_enter Tryz.func76, Tryz.ntmps76
    go_wp2_with fail
    refine (HCH.out).mono ?_
    rintro e w1 ⟨rfl, hB1⟩
    rw [HBB.out, show errI false = 3 from rfl]
    have H1 := Lib.hid (H0.out.1.below.trans (hB1.mono H0.out.1.below.size))
    clear hB1 q0 q1 q2 q3 lq
    go_wp2_with fail
    go_ret2
    exact ⟨by rw [HP.out]; rfl, H1.out⟩
  | true =>
    have hfs := isB_bounds hb
    have hlen := wrN_len (plain := plain) hv (T.size + 1) 1200 T ⟨[], false⟩ hfs.2
    simp only [List.length_nil] at hlen
    have HP : Hid (textW plain vn T = resF (wrN plain vn (T.size + 1) 1200 T ⟨[], false⟩).out) := by rw [Hid, textW, hb]; rfl
    have HBB := Lib.hid hb
    have HTM := Lib.hid (fun (w2 : World) (ov2 : Value) (h2 : WrSt w B b1 b2 fv plain ⟨[], false⟩ ov2 w2) => hTA T _ 1200 _ ov2 w2 (Nat.le_succ _) hfs.2 htv h2 (by simp only [List.length_nil]; omega))
    have HRE := Lib.hid (fun (w2 : World) (ov2 : Value) (h2 : WrSt w B b1 b2 fv plain (wrN plain vn (T.size + 1) 1200 T ⟨[], false⟩) ov2 w2) => result_any h2 (by omega))
    clear h hA hbx hbW hV hC htv htv2 hTA hb hT hfs hlen
    obtain ⟨st2, hst2⟩ : ∃ st2, wrN plain vn (T.size + 1) 1200 T ⟨[], false⟩ = st2 := ⟨_, rfl⟩
    rw [hst2] at HTM HRE HP
    clear hst2
    go_enter Tryz.func76, Tryz.ntmps76
    go_wp2_with fail
    refine (HCH.out).mono ?_
    rintro e w1 ⟨rfl, hB1⟩
    rw [HBB.out, show errI true = 0 from rfl]
    have hbx1 := H0.out.2.keep hB1
    have H1 := Lib.hid (H0.out.1.up hB1)
    clear hB1 q0 q1 q2 q3 lq
    have q0 := hbx1.cell 0
    have q1 := hbx1.cell 1
    have q2 := hbx1.cell 2
    have q3 := hbx1.cell 3
    have lq := hbx1.lt
    simp only [List.getElem?_toArray, List.getElem?_cons_succ, List.getElem?_cons_zero] at q0 q1 q2 q3
    clear hbx1
    go_wp2_with fail
    refine (HTM.out _ _ H1.out).mono ?_
    rintro e w2 ⟨rfl, ov2, h2, t2⟩
    have H2 := Lib.hid h2
    clear h2 t2 q0 q1 q2 q3 lq
    go_wp2_with fail
    refine (HRE.out _ _ H2.out).mono ?_
    rintro e w3 ⟨rfl, rfl⟩
    by_cases hg : st2.out.length > 20000
    · have HR : Hid (resF st2.out = .tuple #[.string ⟨#[]⟩, .int .i64 2]) := by rw [Hid, resF, if_pos hg]
      rw [HR.out] at HP ⊢
      clear hg
      go_wp2_with fail
      go_ret2
      exact ⟨by rw [HP.out]; rfl, H2.out.below⟩
    · have HR : Hid (resF st2.out = .tuple #[.string ⟨st2.out.toArray⟩, .int .i64 0]) := by rw [Hid, resF, if_neg hg]
      rw [HR.out] at HP ⊢
      clear hg
      go_wp2_with fail
      go_ret2
      exact ⟨by rw [HP.out]; rfl, H2.out.below⟩
end
theorem WrC.up {w W : World} {mm : Int} (h : WrC w mm) (hB : Below w.heap.size w W) : WrC W mm :=
  ⟨h.mxAt hB, Nat.lt_of_lt_of_le h.ml hB.size, fun W' hW => h.tab W' (hB.trans (hW.mono hB.size))⟩
theorem textW_form (plain : Bool) (vn : Nat → List UInt8) (T : Tr) : ∃ s n, textW plain vn T = .tuple #[.string s, .int .i64 n] := by
  unfold textW resF
  split
  · split
    · exact ⟨_, _, rfl⟩
    · exact ⟨_, _, rfl⟩
  · exact ⟨_, _, rfl⟩
theorem NewW.steady (w0 : World) (fv : Value) : (Yld.any (NewW w0 fv)).stable := fun v w w' hE h => by
  obtain ⟨wb, B, b1, b2, h1, h2, h3⟩ := h
  exact ⟨wb, B, b1, b2, h1, h2, h3.up hE⟩
set_option maxRecDepth 100000 in
set_option maxHeartbeats 8000000 in
theorem readText_any (T : Tr) (v : Value) (w : World) (mm : Int) (hC : WrC w mm) (htv : IsT w.heap.size w T v) (hdp : T.deep ≤ 999999999) :
    Calls Tryz.prog 28 #[v] w fun e W' => e = .returned (textW false vnL T) ∧ Below w.heap.size w W' := by
  cases hT : T with
  | node k i s l =>
  rw [← hT]
  have htv2 := htv
  rw [hT] at htv2
  obtain ⟨a, c, rfl, _, _, _, _, _, _⟩ := htv2.open
  have hA := below_a1 (Nat.le_refl w.heap.size) (.cells #[.int .i64 k, .int .i64 i, .string s, .slice a l.length c] 31)
  have hbx : Box (w.alloc (.cells #[.int .i64 k, .int .i64 i, .string s, .slice a l.length c] 31)) w.heap.size #[.int .i64 k, .int .i64 i, .string s, .slice a l.length c] 31 := Box.at rfl
  have H0 := Lib.hid (And.intro hA (And.intro hC htv))
  have q0 := hbx.cell 0
  have q1 := hbx.cell 1
  have q2 := hbx.cell 2
  have q3 := hbx.cell 3
  have lq := hbx.lt
  simp only [List.getElem?_toArray, List.getElem?_cons_succ, List.getElem?_cons_zero] at q0 q1 q2 q3
  have hbx0 := hbx
  clear hA hbx hC htv htv2
  generalize hWA : w.alloc (.cells #[.int .i64 k, .int .i64 i, .string s, .slice a l.length c] 31) = W2 at *
  have HX := Lib.hid hbx0
  have HN := Lib.hid (fun (W : World) (hB : Below w.heap.size w W) => newWriter_any 75 #[] W)
  obtain ⟨rs, rn, hr⟩ := textW_form false vnL T
  have HWH : Hid (∀ (W : World) (u : Value), NewW w (.func (.func 75) #[] #[]) u W → Calls Tryz.prog 76 #[u, .agg #[.int .i64 k, .int .i64 i, .string s, .slice a l.length c]] W fun e W' => e = .returned (textW false vnL T) ∧ Below w.heap.size w W') := by
    rintro W u ⟨wb, B, b1, b2, rfl, hbw, hWr⟩
    refine (whole_any (varW_any (H0.out.2.1.up hbw)) (H0.out.2.1.up hbw) (fun m hm => (vnL_len m hm).2) T _ (H0.out.2.2.up hbw hbw.size) hdp _ hWr).mono ?_
    rintro e W' ⟨rfl, hB⟩
    exact ⟨rfl, hbw.trans (hB.mono hbw.size)⟩
  have HRR := Lib.hid hr
  rw [hr] at HWH
  clear hr hbx0
  go_enter Tryz.func28, Tryz.ntmps28
  go_wp2_with fail
  go_region_with (first | (go_at_call 74; refine (HN.out _ (by first | exact H0.out.1 | exact H0.out.1.drew)).mono ?_; rintro e w3 ⟨hB3, B, b1, b2, rfl, hWr⟩; have hWN : NewW w (.func (.func 75) #[] #[]) (.pointer (some ⟨B, 0, none⟩)) w3 := ⟨_, B, b1, b2, rfl, (by first | exact H0.out.1 | exact H0.out.1.drew), hWr⟩; have z := (show Box w3 w.heap.size _ _ from (hB3.block w.heap.size (by have := HX.out.lt; exact this)).trans HX.out); have k0 := z.cell 0; have k1 := z.cell 1; have k2 := z.cell 2; have k3 := z.cell 3; have lk := z.lt; simp only [List.getElem?_toArray, List.getElem?_cons_succ, List.getElem?_cons_zero] at k0 k1 k2 k3) | (go_at_call 76; refine (HWH.out _ _ (by first | exact hWN | exact NewW.steady _ _ _ _ _ (dn_below _ _) hWN)).mono ?_; rintro e w4 ⟨rfl, hB4⟩))
  all_goals
    go_wp2_with fail
    go_ret2
    exact ⟨by rw [HRR.out]; rfl, by first | exact hB4 | exact hB4.drew⟩
end Go.Proofs.YthfciekhmbfmfaaGreatDoor
