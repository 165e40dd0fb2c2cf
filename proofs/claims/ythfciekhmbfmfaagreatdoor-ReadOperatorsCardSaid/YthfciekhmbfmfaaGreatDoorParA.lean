/- The parser's small steps: atEnd, tooMuch, peek, isSignOf. -/
import Derived.Test.YthfciekhmbfmfaaGreatDoorRSame
import Derived.Test.YthfciekhmbfmfaaGreatDoorMonoX
import Derived.Deep.AppendLies
namespace Go.Proofs.YthfciekhmbfmfaaGreatDoor
open Go.RowKit Go Go.Maps

attribute [local go_sem] Oper.semAt_some PanM.monoUpon Yld.says

def tokO : Option Tok → Value
  | none => .nilIface
  | some t => tokV t
/-- The bytes of a string, as a value. -/
abbrev sV (s : List UInt8) : Value := .string ⟨s.toArray⟩
theorem sV_ne {a b : List UInt8} (h : ¬ a = b) : ((⟨a.toArray⟩ : ByteArray).toList == (⟨b.toArray⟩ : ByteArray).toList) = false := bytes_ne (fun e => h (by cases e; rfl))
section
variable {w : World} {B b1 b2 V tot : Nat} {xs : List Lx} {pv nv : Value} {st : PS} {W : World}
theorem atEnd_any (h : PaSt w B b1 b2 V tot xs pv st nv W) : Calls Tryz.prog 66 #[.pointer (some ⟨B, 0, none⟩)] W fun e W' => e = .returned (.bool (decide (st.i = xs.length))) ∧ Below W.heap.size W W' := by
  obtain ⟨a, c, rfl⟩ := h.form
  have c0 := h.box.cell 0
  have c1 := h.box.cell 1
  have l0 := h.box.lt
  simp only [List.getElem?_toArray, List.getElem?_cons_succ, List.getElem?_cons_zero] at c0 c1
  clear h
  by_cases hq : st.i = xs.length
  · rw [hq] at c1
    have HD : Hid (decide (st.i = xs.length) = true) := decide_eq_true hq
    clear hq
    go_enter Tryz.func66, Tryz.ntmps66
    go_wp2_with fail
    go_quiet (fail)
    go_wp2_with fail
    go_ret
    exact ⟨retB HD.out, dn_below _ _⟩
  · have h2 : ((st.i : Int) == (xs.length : Int)) = false := by simpa using fun e : (st.i : Int) = xs.length => hq (by omega)
    have HD : Hid (decide (st.i = xs.length) = false) := decide_eq_false hq
    clear hq
    go_enter Tryz.func66, Tryz.ntmps66
    go_wp2_with fail
    go_quiet (fail)
    go_wp2_with fail
    go_ret
    exact ⟨retB HD.out, dn_below _ _⟩
theorem tooMuch_any (h : PaSt w B b1 b2 V tot xs pv st nv W) (hx : LxOk tot xs) : Calls Tryz.prog 67 #[.pointer (some ⟨B, 0, none⟩)] W fun e W' => e = thrown ((plc tot xs st.i : Nat) : Int) 21 ∧ Below W.heap.size W W' := by
  have HA := Lib.hid (fun W' (hB : Below W.heap.size W W') => atEnd_any (h.up hB))
  have HT := Lib.hid (fun (a : Int) w => throw_any a 21 w)
  by_cases hq : st.i = xs.length
  · have HP : Hid (plc tot xs st.i = tot) := by rw [Hid, plc, hq, List.getElem?_eq_none (Nat.le_refl _)]
    have HD : Hid (decide (st.i = xs.length) = true) := decide_eq_true hq
    have HS := Lib.hid h
    clear h hq
    go_enter Tryz.func67, Tryz.ntmps67
    go_wp2_with fail
    refine (HA.out _ (Below.refl _ _)).mono ?_
    rintro e w1 ⟨rfl, B1⟩
    rw [HD.out]
    have h1 := HS.out.up B1
    have c2 := h1.box.cell 2
    have l0 := h1.box.lt
    simp only [List.getElem?_toArray, List.getElem?_cons_succ, List.getElem?_cons_zero] at c2
    have HB := Lib.hid B1
    clear h1 B1
    go_wp2_with fail
    refine (HT.out _ _).mono ?_
    rintro e w2 ⟨rfl, rfl⟩
    refine And.intro rfl ?_
    rw [HP.out]
    exact ⟨rfl, HB.out⟩
  · have hlt : st.i < xs.length := by have := h.hi; omega
    have HP : Hid (plc tot xs st.i = xs[st.i].a) := by rw [Hid, plc, List.getElem?_eq_getElem hlt]
    have HD : Hid (decide (st.i = xs.length) = false) := decide_eq_false hq
    have HL := Lib.hid (show xs.length ≤ 8000 from hx.len)
    have HS := Lib.hid h
    clear h hq
    go_enter Tryz.func67, Tryz.ntmps67
    go_wp2_with fail
    refine (HA.out _ (Below.refl _ _)).mono ?_
    rintro e w1 ⟨rfl, B1⟩
    rw [HD.out]
    have h1 := HS.out.up B1
    obtain ⟨g, c, rfl, hg, p0, p1, p2⟩ := h1.piece hlt
    have c0 := h1.box.cell 0
    have c1 := h1.box.cell 1
    have l0 := h1.box.lt
    simp only [List.getElem?_toArray, List.getElem?_cons_succ, List.getElem?_cons_zero] at c0 c1
    have HB := Lib.hid B1
    have hl8 := HL.out
    clear h1 B1
    go_wp2_with fail
    refine PanM.wp_region_mono [.det (.pointer (some ⟨B, 0, none⟩)), .det (.pointer (some ⟨B, 0, none⟩)), .det (.pointer (some ⟨B, 0, none⟩)), .det (.slice (some ⟨g, 0, none⟩) xs.length c), .det (.pointer (some ⟨B, 0, none⟩)), .det (.pointer (some ⟨B, 0, none⟩)), .det (.pointer (some ⟨B, 1, none⟩)), .det (.int .i64 (st.i : Int)), .det (.pointer (some ⟨g, st.i * 3, none⟩)), .det (.pointer (some ⟨g, st.i * 3 + 1, none⟩)), .det (.int .i64 (xs[st.i].a : Int)), .any (fun _ _ => False)] (fun ch w2 => ch = [{ v := .iface 125 (.agg #[.int .i64 (xs[st.i].a : Int), .int .i64 21]), recovered := false }] ∧ Ext w1 w2) (by kernel_rfl) (by kernel_rfl) ?_ ?_ ?_
    rotate_left 2
    · iterate 11 (
        refine PanM.wpM_step (fun K hK => ?_)
        go_simp
        apply And.intro
        · intro w' hC _
          have q1 := hC.old.1
          have hbs := hC.old.2.2
          clear hC
          go_simp
          first | exact ⟨Ext.refl _, rfl⟩ | exact Ext.refl _
        refine nextM_det (hK _ _ ?_)
        clear hK K)
      refine PanM.wpM_step (fun K hK => ?_)
      go_simp
      apply And.intro
      · intro w' hC _
        go_simp
        refine ⟨Ext.refl _, (HT.out _ _).mono ?_⟩
        rintro e w2 ⟨rfl, rfl⟩
        exact ⟨_, rfl, rfl, hC⟩
      refine nextM_any (fun v => hK _ _ ?_)
      clear hK K
      refine PanM.wpM_nil (fun w' hC hE => ?_)
      exact (hE 11 v rfl).elim
    · intro y hy
      simp only [List.mem_cons, List.not_mem_nil, or_false] at hy
      rcases hy with rfl | rfl | rfl | rfl | rfl | rfl | rfl | rfl | rfl | rfl | rfl | rfl <;> first | trivial | exact (fun _ _ _ _ h => h)
    · rintro ch a w2 hD ⟨rfl, hE⟩
      exact ⟨hD, by rw [HP.out]; rfl, HB.out.trans (Below.mono hE HB.out.size)⟩
theorem tokAt_some {i : Nat} (h : i < xs.length) : tokAt xs i = some xs[i].t := by rw [tokAt, List.getElem?_eq_getElem h]; rfl
theorem tokAt_none {i : Nat} (h : xs.length ≤ i) : tokAt xs i = none := by rw [tokAt, List.getElem?_eq_none h]; rfl
theorem peek_any (h : PaSt w B b1 b2 V tot xs pv st nv W) (hx : LxOk tot xs) : Calls Tryz.prog 114 #[.pointer (some ⟨B, 0, none⟩)] W fun e W' => e = .returned (tokO (tokAt xs st.i)) ∧ Below W.heap.size W W' := by
  have HA := Lib.hid (fun W' (hB : Below W.heap.size W W') => atEnd_any (h.up hB))
  by_cases hq : st.i = xs.length
  · have HP : Hid (tokAt xs st.i = none) := tokAt_none (by omega)
    have HD : Hid (decide (st.i = xs.length) = true) := decide_eq_true hq
    clear h hq
    go_enter Tryz.func114, Tryz.ntmps114
    go_wp2_with fail
    refine (HA.out _ (Below.refl _ _)).mono ?_
    rintro e w1 ⟨rfl, B1⟩
    rw [HD.out]
    go_wp2_with fail
    go_ret
    exact ⟨by rw [HP.out]; rfl, B1⟩
  · have hlt : st.i < xs.length := by have := h.hi; omega
    have HP : Hid (tokAt xs st.i = some xs[st.i].t) := tokAt_some hlt
    have HD : Hid (decide (st.i = xs.length) = false) := decide_eq_false hq
    have HL := Lib.hid (show xs.length ≤ 8000 from hx.len)
    have HS := Lib.hid h
    clear h hq
    go_enter Tryz.func114, Tryz.ntmps114
    go_wp2_with fail
    refine (HA.out _ (Below.refl _ _)).mono ?_
    rintro e w1 ⟨rfl, B1⟩
    rw [HD.out]
    have h1 := HS.out.up B1
    obtain ⟨g, c, rfl, hg, p0, p1, p2⟩ := h1.piece hlt
    have c0 := h1.box.cell 0
    have c1 := h1.box.cell 1
    have l0 := h1.box.lt
    simp only [List.getElem?_toArray, List.getElem?_cons_succ, List.getElem?_cons_zero] at c0 c1
    have HB := Lib.hid B1
    have hl8 := HL.out
    obtain ⟨T, u, hTu⟩ := tokV_iface xs[st.i].t
    rw [hTu] at p0
    have HTU := Lib.hid hTu
    clear h1 B1 hTu
    go_wp2_with fail
    go_quiet (fail)
    go_wp2_with fail
    go_ret
    exact ⟨by rw [HP.out, tokO, HTU.out]; rfl, HB.out.trans ((dn_below _ _).mono HB.out.size)⟩
end
/-- A token asserted to be of a kind: what it says, and whether it is. -/
def kTy : TK → TypeId
  | .name => 134
  | .quoted => 135
  | .var => 136
  | .int => 137
  | .str => 138
  | .sign => 139
  | .fin => 140
def payV (k : TK) (s : List UInt8) (n : Nat) : Value := if k = .int then .int .i64 (n : Int) else sV s
def taV (k : TK) : Option Tok → Value
  | some t => if t.k = k then payV k t.s t.n else payV k [] 0
  | none => payV k [] 0
def taB (k : TK) : Option Tok → Bool
  | some t => decide (t.k = k)
  | none => false
theorem ta_any (k : TK) (t : Option Tok) (w : World) : (Instr.typeAssert (tokO t) 76 (kTy k) true).run Tryz.prog w = .ok (.tuple #[taV k t, .bool (taB k t)]) w := by
  cases t with
  | none => cases k <;> kernel_rfl
  | some t =>
    obtain ⟨k', s, n⟩ := t
    cases k <;> cases k' <;> kernel_rfl
set_option maxRecDepth 100000 in
theorem isSignOf_any (t : Option Tok) (s : List UInt8) (w : World) : Calls Tryz.prog 221 #[tokO t, sV s] w fun e w' => e = .returned (.bool (isSg t s)) ∧ w' = w := by
  cases t with
  | none =>
    have hta := ta_any .sign none
    simp only [tokO, kTy, taV, taB, payV, if_neg (show ¬ TK.sign = TK.int by decide)] at hta
    show Calls _ _ #[.nilIface, sV s] _ _
    go_enter Tryz.func221, Tryz.ntmps221
    go_wp2_with fail
    go_ret
    exact ⟨rfl, rfl⟩
  | some t =>
    obtain ⟨k, x, n⟩ := t
    show Calls _ _ #[tokV _, sV s] _ _
    cases k
    case sign =>
      by_cases hs : x = s
      · subst hs
        have HD : Hid (isSg (some ⟨.sign, x, n⟩) x = true) := by rw [Hid, isSg]; simp
        have hta := ta_any .sign (some ⟨.sign, x, n⟩)
        simp only [tokO, tokV, kTy, taV, taB, payV, if_neg (show ¬ TK.sign = TK.int by decide), if_true, decide_true] at hta
        show Calls _ _ #[.iface 139 (sV x), sV x] _ _
        go_enter Tryz.func221, Tryz.ntmps221
        go_wp2_with fail
        go_ret
        exact ⟨retB HD.out, rfl⟩
      · have HD : Hid (isSg (some ⟨.sign, x, n⟩) s = false) := by rw [Hid, isSg]; simp [hs]
        have hn := sV_ne hs
        have HE : Hid ((x == s) = false) := by rw [Hid]; simpa using hs
        clear hs
        have hta := ta_any .sign (some ⟨.sign, x, n⟩)
        simp only [tokO, tokV, kTy, taV, taB, payV, if_neg (show ¬ TK.sign = TK.int by decide), if_true, decide_true] at hta
        show Calls _ _ #[.iface 139 (sV x), sV s] _ _
        go_enter Tryz.func221, Tryz.ntmps221
        go_wp2_with fail
        go_ret
        exact ⟨retB (HD.out.trans HE.out.symm), rfl⟩
    case name =>
      have hta := ta_any .sign (some ⟨.name, x, n⟩)
      simp only [tokO, tokV, kTy, taV, taB, payV, reduceCtorEq, if_false, decide_false] at hta
      simp only [tokV]
      go_enter Tryz.func221, Tryz.ntmps221
      go_wp2_with fail
      go_ret
      exact ⟨retB (by rfl), rfl⟩
    case quoted =>
      have hta := ta_any .sign (some ⟨.quoted, x, n⟩)
      simp only [tokO, tokV, kTy, taV, taB, payV, reduceCtorEq, if_false, decide_false] at hta
      simp only [tokV]
      go_enter Tryz.func221, Tryz.ntmps221
      go_wp2_with fail
      go_ret
      exact ⟨retB (by rfl), rfl⟩
    case var =>
      have hta := ta_any .sign (some ⟨.var, x, n⟩)
      simp only [tokO, tokV, kTy, taV, taB, payV, reduceCtorEq, if_false, decide_false] at hta
      simp only [tokV]
      go_enter Tryz.func221, Tryz.ntmps221
      go_wp2_with fail
      go_ret
      exact ⟨retB (by rfl), rfl⟩
    case int =>
      have hta := ta_any .sign (some ⟨.int, x, n⟩)
      simp only [tokO, tokV, kTy, taV, taB, payV, reduceCtorEq, if_false, decide_false] at hta
      simp only [tokV]
      go_enter Tryz.func221, Tryz.ntmps221
      go_wp2_with fail
      go_ret
      exact ⟨retB (by rfl), rfl⟩
    case str =>
      have hta := ta_any .sign (some ⟨.str, x, n⟩)
      simp only [tokO, tokV, kTy, taV, taB, payV, reduceCtorEq, if_false, decide_false] at hta
      simp only [tokV]
      go_enter Tryz.func221, Tryz.ntmps221
      go_wp2_with fail
      go_ret
      exact ⟨retB (by rfl), rfl⟩
    case fin =>
      have hta := ta_any .sign (some ⟨.fin, x, n⟩)
      simp only [tokO, tokV, kTy, taV, taB, payV, reduceCtorEq, if_false, decide_false] at hta
      simp only [tokV]
      go_enter Tryz.func221, Tryz.ntmps221
      go_wp2_with fail
      go_ret
      exact ⟨retB (by rfl), rfl⟩
end Go.Proofs.YthfciekhmbfmfaaGreatDoor

/- The parser's small steps: glued, opens, skip, sign, end. -/
namespace Go.Proofs.YthfciekhmbfmfaaGreatDoor
open Go.RowKit Go Go.Maps

/-- What a step of the parser hands back: what was read, and the parser behind it; or it throws. -/
def PaQ {α : Type} (w : World) (B b1 b2 V tot : Nat) (xs : List Lx) (pv nv : Value) (i : Nat) (W : World) (val : α → Value → World → Prop) (r : Except Nat (α × PS)) (e : Ending) (W' : World) : Prop :=
  match r with
  | .error p => e = thrown ((p : Nat) : Int) 21 ∧ Below w.heap.size w W'
  | .ok (x, st') => ∃ v nv', e = .returned v ∧ val x v W' ∧ PaSt w B b1 b2 V tot xs pv st' nv' W' ∧ PaTo B V nv nv' W W' ∧ i ≤ st'.i
def skp (xs : List Lx) (s : List UInt8) (st : PS) : PS := if isSg (tokAt xs st.i) s then ⟨st.i + 1, st.ns⟩ else st
theorem dn2_below (w : World) (n m : Nat) : Below w.heap.size w ((w.drewN n).drewN m) := ⟨rfl, rfl, rfl, Nat.le_refl _, fun _ _ => rfl⟩
theorem isSg_lt {xs : List Lx} {i : Nat} {s : List UInt8} (h : isSg (tokAt xs i) s = true) : i < xs.length := by
  by_cases hi : i < xs.length
  · exact hi
  · rw [tokAt_none (by omega)] at h; cases h
theorem glue_none {xs : List Lx} {i : Nat} (h : ¬ i + 1 < xs.length) : glue xs i = none := by
  unfold glue
  rw [List.getElem?_eq_none (by omega : xs.length ≤ i + 1)]
  split <;> simp_all
theorem glue_some {xs : List Lx} {i : Nat} (h : i + 1 < xs.length) : glue xs i = if xs[i].e = xs[i + 1].a then some xs[i + 1].t else none := by
  unfold glue
  rw [List.getElem?_eq_getElem h, List.getElem?_eq_getElem (by omega : i < xs.length)]
theorem glue_lt {xs : List Lx} {i : Nat} {t : Tok} (h : glue xs i = some t) : i + 1 < xs.length ∧ tokAt xs (i + 1) = some t := by
  by_cases hi : i + 1 < xs.length
  · refine ⟨hi, ?_⟩
    rw [glue_some hi] at h
    split at h
    · rw [tokAt_some hi]; exact h
    · cases h
  · rw [glue_none hi] at h; cases h
theorem isSg_glue {xs : List Lx} {i : Nat} {s : List UInt8} (h : isSg (glue xs i) s = true) : i + 1 < xs.length ∧ isSg (tokAt xs (i + 1)) s = true := by
  cases hg : glue xs i with
  | none => rw [hg] at h; cases h
  | some t =>
    obtain ⟨h1, h2⟩ := glue_lt hg
    exact ⟨h1, by rw [h2, ← hg]; exact h⟩
section
variable {w : World} {B b1 b2 V tot : Nat} {xs : List Lx} {pv nv : Value} {st : PS} {W : World}
set_option maxRecDepth 100000 in
set_option maxHeartbeats 4000000 in
theorem glued_any (h : PaSt w B b1 b2 V tot xs pv st nv W) (hx : LxOk tot xs) : Calls Tryz.prog 209 #[.pointer (some ⟨B, 0, none⟩)] W fun e W' => e = .returned (tokO (glue xs st.i)) ∧ Below W.heap.size W W' := by
  have hl8 := hx.len
  have hix := h.hi
  have c1 := h.box.cell 1
  have l0 := h.box.lt
  obtain ⟨i1, hi1⟩ : ∃ i1, st.i + 1 = i1 := ⟨_, rfl⟩
  have hi2 : ((st.i : Int) + 1) = (i1 : Int) := by omega
  have hwr : IntKind.i64.wrap (i1 : Int) = (i1 : Int) := by rw [IntKind.wrap_i64]; omega
  by_cases hq : st.i + 1 < xs.length
  · obtain ⟨g, c, rfl, hg, p0, p1, p2⟩ := h.piece (i := st.i) (by omega)
    obtain ⟨g', c', he, hg', q0, q1, q2⟩ := h.piece (i := st.i + 1) hq
    cases he
    have c0 := h.box.cell 0
    simp only [List.getElem?_toArray, List.getElem?_cons_succ, List.getElem?_cons_zero] at c0 c1
    have hgs := glue_some hq
    obtain ⟨T, u, hTu⟩ := tokV_iface xs[st.i + 1].t
    rw [hTu] at q0
    have hlt1 : i1 < xs.length := by omega
    have hlt0 : st.i < xs.length := by omega
    rw [show (st.i + 1) * 3 = i1 * 3 by rw [hi1]] at q0
    rw [show (st.i + 1) * 3 + 1 = i1 * 3 + 1 by rw [hi1]] at q1
    clear p0 p1 q2 hg'
    by_cases he : xs[st.i].e = xs[st.i + 1].a
    · rw [if_pos he] at hgs
      rw [he] at p2
      have HP : Hid (tokO (glue xs st.i) = .iface T u) := by rw [Hid, hgs, tokO, hTu]
      generalize xs[st.i + 1].a = A1 at *
      clear h hgs he hTu hx hq hi1
      go_enter Tryz.func209, Tryz.ntmps209
      go_wp2_with fail
      go_quiet (fail)
      go_wp2_with fail
      go_quiet (fail)
      go_wp2_with fail
      go_ret
      exact ⟨by rw [HP.out]; rfl, dn2_below _ _ _⟩
    · rw [if_neg he] at hgs
      have HP : Hid (tokO (glue xs st.i) = .nilIface) := by rw [Hid, hgs]; rfl
      generalize xs[st.i + 1].a = A1 at *
      generalize xs[st.i].e = E1 at *
      have hne : ((E1 : Int) == (A1 : Int)) = false := by simpa using fun e : (E1 : Int) = A1 => he (by omega)
      have hne2 : ((E1 : Int) != (A1 : Int)) = true := by rw [bne, hne]; rfl
      clear h hgs he hTu hx hq hi1
      go_enter Tryz.func209, Tryz.ntmps209
      go_wp2_with fail
      go_quiet (fail)
      go_wp2_with fail
      go_ret
      exact ⟨by rw [HP.out]; rfl, dn_below _ _⟩
  · obtain ⟨a, c, rfl⟩ := h.form
    have c0 := h.box.cell 0
    simp only [List.getElem?_toArray, List.getElem?_cons_succ, List.getElem?_cons_zero] at c0 c1
    have HP : Hid (tokO (glue xs st.i) = .nilIface) := by rw [Hid, glue_none hq]; rfl
    have hlt1 : xs.length ≤ i1 := by omega
    clear h hx hq hi1
    go_enter Tryz.func209, Tryz.ntmps209
    go_wp2_with fail
    go_quiet (fail)
    go_wp2_with fail
    go_ret
    exact ⟨by rw [HP.out]; rfl, dn_below _ _⟩
theorem opens_any (h : PaSt w B b1 b2 V tot xs pv st nv W) (hx : LxOk tot xs) : Calls Tryz.prog 208 #[.pointer (some ⟨B, 0, none⟩)] W fun e W' => e = .returned (.bool (isSg (glue xs st.i) [40])) ∧ Below W.heap.size W W' := by
  have HG := Lib.hid (glued_any h hx)
  have HS := Lib.hid (fun t s w => isSignOf_any t s w)
  clear h
  go_enter Tryz.func208, Tryz.ntmps208
  go_wp2_with fail
  refine (HG.out).mono ?_
  rintro e w1 ⟨rfl, B1⟩
  go_wp2_with fail
  refine (HS.out _ [40] _).mono ?_
  rintro e w2 ⟨rfl, rfl⟩
  go_wp2_with fail
  go_ret
  exact ⟨rfl, B1⟩
/-- What skip hands back. -/
def SkQ (w : World) (B b1 b2 V tot : Nat) (xs : List Lx) (pv nv : Value) (st : PS) (s : List UInt8) (W : World) (e : Ending) (W' : World) : Prop :=
  e = .returned (.bool (isSg (tokAt xs st.i) s)) ∧ PaSt w B b1 b2 V tot xs pv (skp xs s st) nv W' ∧ PaTo B V nv nv W W'
set_option maxRecDepth 100000 in
theorem skip_any (h : PaSt w B b1 b2 V tot xs pv st nv W) (hx : LxOk tot xs) (s : List UInt8) : Calls Tryz.prog 222 #[.pointer (some ⟨B, 0, none⟩), sV s] W (SkQ w B b1 b2 V tot xs pv nv st s W) := by
  have HG := Lib.hid (peek_any h hx)
  have HS := Lib.hid (fun t s w => isSignOf_any t s w)
  have hl8 := hx.len
  have hix := h.hi
  have HH := Lib.hid h
  clear h
  cases hb : isSg (tokAt xs st.i) s with
  | true =>
    have hlt := isSg_lt hb
    have HB := Lib.hid hb
    clear hb
    go_enter Tryz.func222, Tryz.ntmps222
    go_wp2_with fail
    refine (HG.out).mono ?_
    rintro e w1 ⟨rfl, B1⟩
    go_wp2_with fail
    refine (HS.out _ s _).mono ?_
    rintro e w2 ⟨rfl, rfl⟩
    rw [HB.out]
    have h1 := HH.out.up B1
    have c1 := h1.box.cell 1
    have f1 := h1.box.frozen 1
    have l0 := h1.box.lt
    simp only [List.getElem?_toArray, List.getElem?_cons_succ, List.getElem?_cons_zero] at c1
    have h2 := h1.setAt (st.i + 1) (by omega) (by omega)
    obtain ⟨i1, hi1⟩ : ∃ i1, st.i + 1 = i1 := ⟨_, rfl⟩
    have hi2 : ((st.i : Int) + 1) = (i1 : Int) := by omega
    have hwr : IntKind.i64.wrap (i1 : Int) = (i1 : Int) := by rw [IntKind.wrap_i64]; omega
    rw [hi1] at h2
    have HF : Hid (skp xs s st = ⟨i1, st.ns⟩ ∧ PaTo B V nv nv W w2) := ⟨by rw [skp, HB.out, ← hi1]; rfl, PaTo.up B1⟩
    have H2 := Lib.hid h2
    clear h1 h2 hi1 B1
    go_wp2_with fail
    go_ret
    refine ⟨by rw [HB.out]; rfl, by rw [HF.out.1]; exact H2.out.1, HF.out.2.trans H2.out.2⟩
  | false =>
    have HB := Lib.hid hb
    clear hb
    go_enter Tryz.func222, Tryz.ntmps222
    go_wp2_with fail
    refine (HG.out).mono ?_
    rintro e w1 ⟨rfl, B1⟩
    go_wp2_with fail
    refine (HS.out _ s _).mono ?_
    rintro e w2 ⟨rfl, rfl⟩
    rw [HB.out]
    go_wp2_with fail
    go_ret
    refine ⟨by rw [HB.out]; rfl, ?_, PaTo.up B1⟩
    rw [skp, HB.out]
    exact HH.out.up B1
end
end Go.Proofs.YthfciekhmbfmfaaGreatDoor

/- The parser's sign and end; structures; rows of terms that were read. -/
namespace Go.Proofs.YthfciekhmbfmfaaGreatDoor
open Go.RowKit Go Go.Maps

/-- A term that was read: in blocks of terms, all new since lo. -/
def tval (lo : Nat) (t : Tr) (v : Value) (W : World) : Prop := IsP (TN lo W) W t v
def lval (lo : Nat) (l : List Tr) (v : Value) (W : World) : Prop := ∃ a c, v = .slice a l.length c ∧ l.length ≤ c ∧ c ≤ maxLen ∧ IsPL (TN lo W) W l a
theorem tval.up {lo lo' : Nat} {t : Tr} {v : Value} {A B : World} (h : tval lo t v A) (hK : TmK A B) (hl : lo' ≤ lo) : tval lo' t v B := TN.up h hK hl
theorem lval.up {lo lo' : Nat} {l : List Tr} {v : Value} {A B : World} (h : lval lo l v A) (hK : TmK A B) (hl : lo' ≤ lo) : lval lo' l v B := by
  obtain ⟨a, c, h1, h2, h3, h4⟩ := h
  exact ⟨a, c, h1, h2, h3, TNL.up h4 hK hl⟩
theorem IsP.formP {p : Nat → Prop} {W : World} {T : Tr} {v : Value} (h : IsP p W T v) : ∃ k n s a m c, v = .agg #[.int .i64 k, .int .i64 n, .string s, .slice a m c] := by
  cases T with
  | node k n s l =>
    obtain ⟨a, c, rfl, _⟩ := h.open
    exact ⟨_, _, _, _, _, _, rfl⟩
/-- Blocks of terms but that of a row. -/
def TB (lo : Nat) (v : Value) (W : World) (b : Nat) : Prop := TN lo W b ∧ some b ≠ v.ownBlock
/-- A row of terms that were read. -/
structure PRow (lo : Nat) (W : World) (l : List Tr) (v : Value) (xs : List Value) : Prop where
  own : W.ownsRow lo 31 4 v l.length xs
  laid : ∀ i (hi : i < l.length), ∃ v0 v1 v2 v3, xs[i * 4]? = some v0 ∧ xs[i * 4 + 1]? = some v1 ∧ xs[i * 4 + 2]? = some v2 ∧ xs[i * 4 + 3]? = some v3 ∧ IsP (TB lo v W) W l[i] (.agg #[v0, v1, v2, v3])
theorem own_typed {W : World} {lo : Nat} {t : TypeId} {k n : Nat} {v : Value} {xs : List Value} (h : W.ownsRow lo t k v n xs) {b : Nat} (hb : v.ownBlock = some b) : lo ≤ b ∧ ∃ c fr, W.heap[b]? = some (Obj.cells c t fr) := by
  rcases h.2 with ⟨rfl, _⟩ | ⟨g, cap, cur, rfl, hl, hg, _⟩
  · cases hb
  · cases hb; exact ⟨hl, _, _, hg⟩
theorem own_block {A B : World} {lo : Nat} {t : TypeId} {k n : Nat} {v : Value} {xs : List Value} (h : A.ownsRow lo t k v n xs) (hb : ∀ b, v.ownBlock = some b → B.heap[b]? = A.heap[b]?) : B.ownsRow lo t k v n xs := by
  refine ⟨h.1, h.2.imp id ?_⟩
  rintro ⟨g, cap, cur, rfl, hl, hg, h1⟩
  exact ⟨g, cap, cur, rfl, hl, (hb g rfl).trans hg, h1⟩
theorem PRow.up {lo : Nat} {A B : World} {l : List Tr} {v : Value} {xs : List Value} (h : PRow lo A l v xs) (hK : TmK A B) : PRow lo B l v xs := by
  have hb : ∀ b, TN lo A b → TN lo B b ∧ B.heap[b]? = A.heap[b]? := fun b ⟨h1, c, fr, h2⟩ => ⟨⟨h1, c, fr, hK b c fr h2⟩, by rw [hK b c fr h2, h2]⟩
  refine ⟨own_block h.own fun b hb => ?_, fun i hi => ?_⟩
  · obtain ⟨_, c, fr, h2⟩ := own_typed h.own hb
    rw [hK b c fr h2, h2]
  · obtain ⟨v0, v1, v2, v3, c0, c1, c2, c3, ht⟩ := h.laid i hi
    exact ⟨v0, v1, v2, v3, c0, c1, c2, c3, IsP.map (fun b g => ⟨⟨(hb b g.1).1, g.2⟩, (hb b g.1).2⟩) _ _ ht⟩
/-- A row of one term, laid just now. -/
theorem PRow.one {lo : Nat} {W : World} {t : Tr} {a0 a1 a2 a3 : Value} (ht : tval lo t (.agg #[a0, a1, a2, a3]) W) (hlo : lo ≤ W.heap.size) : PRow lo (W.alloc (.cells #[a0, a1, a2, a3] 31)) [t] (.slice (some ⟨W.heap.size, 0, none⟩) 1 1) [a0, a1, a2, a3] := by
  refine ⟨⟨rfl, .inr ⟨W.heap.size, 1, #[a0, a1, a2, a3], rfl, hlo, heap_alloc_new W _, Nat.le_refl _, by unfold maxLen; omega, rfl, rfl⟩⟩, fun i hi => ?_⟩
  obtain rfl : i = 0 := by simpa using hi
  refine ⟨a0, a1, a2, a3, rfl, rfl, rfl, rfl, IsP.map (fun b hb => ?_) _ _ ht⟩
  obtain ⟨h1, c, fr, h2⟩ := hb
  have hlt := (Array.getElem?_eq_some_iff.1 h2).1
  have hk := Below.heap_alloc W (.cells #[a0, a1, a2, a3] 31) b hlt
  exact ⟨⟨⟨h1, c, fr, hk.trans h2⟩, fun e => by have e2 : b = W.heap.size := by simpa [Value.ownBlock] using e
                                                omega⟩, hk⟩
/-- A term is appended. -/
theorem PRow.push {lo g cap : Nat} {W w3 : World} {l : List Tr} {v : Value} {xs : List Value} {t : Tr} {o : Obj} {a0 a1 a2 a3 : Value} (h : PRow lo W l v xs) (ht : IsP (TB lo v W) W t (.agg #[a0, a1, a2, a3]))
    (hown : w3.ownsRow lo 31 4 (.slice (some ⟨g, 0, none⟩) (l.length + 1) cap) (l.length + 1) (xs ++ [a0, a1, a2, a3])) (hgrow : (W.alloc o).grownBy w3 v.ownBlock) (hat : v.ownBlock = some g ∨ W.heap.size ≤ g) :
    PRow lo w3 (l ++ [t]) (.slice (some ⟨g, 0, none⟩) (l.length + 1) cap) (xs ++ [a0, a1, a2, a3]) := by
  have hxl : xs.length = l.length * 4 := h.own.1
  have hm : ∀ b, TB lo v W b → TB lo (.slice (some ⟨g, 0, none⟩) (l.length + 1) cap) w3 b ∧ w3.heap[b]? = W.heap[b]? := fun b ⟨⟨h1, c, fr, h2⟩, h3⟩ => by
    have hlt := (Array.getElem?_eq_some_iff.1 h2).1
    have hk : w3.heap[b]? = W.heap[b]? := (hgrow.block b (by simp; omega) h3).trans (Below.heap_alloc W o b hlt)
    refine ⟨⟨⟨h1, c, fr, hk.trans h2⟩, fun e => ?_⟩, hk⟩
    have e2 : b = g := by simpa [Value.ownBlock] using e
    subst e2
    rcases hat with e | e
    · exact h3 e.symm
    · omega
  refine ⟨by rw [List.length_append]; exact hown, fun i hi => ?_⟩
  by_cases hil : i < l.length
  · obtain ⟨v0, v1, v2, v3, c0, c1, c2, c3, hT⟩ := h.laid i hil
    refine ⟨v0, v1, v2, v3, ?_, ?_, ?_, ?_, by rw [List.getElem_append_left hil]; exact IsP.map hm _ _ hT⟩
    · rw [List.getElem?_append_left (by omega), c0]
    · rw [List.getElem?_append_left (by omega), c1]
    · rw [List.getElem?_append_left (by omega), c2]
    · rw [List.getElem?_append_left (by omega), c3]
  · obtain rfl : i = l.length := by simp at hi; omega
    refine ⟨a0, a1, a2, a3, ?_, ?_, ?_, ?_, by rw [List.getElem_append_right (Nat.le_refl _)]; simpa using IsP.map hm _ _ ht⟩
    · rw [List.getElem?_append_right (by omega), hxl]; simp
    · rw [List.getElem?_append_right (by omega), hxl, show l.length * 4 + 1 - l.length * 4 = 1 by omega]; rfl
    · rw [List.getElem?_append_right (by omega), hxl, show l.length * 4 + 2 - l.length * 4 = 2 by omega]; rfl
    · rw [List.getElem?_append_right (by omega), hxl, show l.length * 4 + 3 - l.length * 4 = 3 by omega]; rfl
/-- The row reads as the list. -/
theorem PRow.done {lo : Nat} {W : World} {l : List Tr} {v : Value} {xs : List Value} (h : PRow lo W l v xs) : lval lo l v W := by
  have hh := h.own
  rcases h.own.2 with ⟨rfl, h0⟩ | ⟨g, cap, cur, rfl, hb, hg, h1, h2, h3, h4⟩
  · obtain rfl : l = [] := List.length_eq_zero_iff.1 h0
    exact ⟨none, 0, rfl, Nat.le_refl _, by unfold maxLen; omega, IsPL.nil⟩
  · refine ⟨_, cap, rfl, h1, h2, IsPL.of_get ⟨hb, _, _, hg⟩ fun i hi => ?_⟩
    obtain ⟨v0, v1, v2, v3, c0, c1, c2, c3, ht⟩ := h.laid i hi
    have hc : ∀ j u, xs[j]? = some u → W.cell? ⟨g, 0 + j, none⟩ = some u := fun j u hu => by
      have := World.ownsRow.cells hh (g := g) rfl j u hu
      rw [Addr.add_lit] at this
      exact this
    exact ⟨v0, v1, v2, v3, hc _ _ c0, by have := hc _ _ c1; rwa [← Nat.add_assoc] at this, by have := hc _ _ c2; rwa [← Nat.add_assoc] at this, by have := hc _ _ c3; rwa [← Nat.add_assoc] at this, IsP.map (fun b hb => ⟨hb.1, rfl⟩) _ _ ht⟩
/-- A term in blocks that are new since the row was last written. -/
theorem TB.new {lo k : Nat} {A W : World} {l : List Tr} {v : Value} {xs : List Value} (h : PRow lo A l v xs) (hk : A.heap.size ≤ k) (hlo : lo ≤ k) {t : Tr} {u : Value} (ht : tval k t u W) : IsP (TB lo v W) W t u :=
  IsP.map (fun b hb => ⟨⟨⟨Nat.le_trans hlo hb.1, hb.2⟩, fun e => by
    obtain ⟨_, c, fr, h2⟩ := own_typed h.own e.symm
    have := (Array.getElem?_eq_some_iff.1 h2).1
    have := hb.1
    omega⟩, rfl⟩) _ _ ht
section
variable {w : World} {B b1 b2 V tot : Nat} {xs : List Lx} {pv nv : Value} {st : PS} {W : World}
/-- A row of terms was appended to. -/
theorem PaSt.grown (h : PaSt w B b1 b2 V tot xs pv st nv W) {row : Option Nat} {W' : World} (hg : W.grownBy W' row) (hr : ∀ g, row = some g → w.heap.size ≤ g ∧ ∃ c fr, W.heap[g]? = some (Obj.cells c 31 fr)) : PaSt w B b1 b2 V tot xs pv st nv W' := by
  have hne : ∀ b, (∀ c fr, W.heap[b]? ≠ some (Obj.cells c 31 fr)) → some b ≠ row := fun b hb e => by
    obtain ⟨_, c, fr, h2⟩ := hr b e.symm
    exact hb c fr h2
  have hmap : ∀ {b : Nat}, (∃ es clock, W.heap[b]? = some (Obj.map es clock)) → some b ≠ row := fun ⟨es, cl, hm⟩ => hne _ fun c fr e => by rw [hm] at e; cases e
  have hrow : ∀ {α : Type} {t : TypeId} {k : Nat} {f : α → List Value} {l : List α} {v : Value}, OwnR t k f w.heap.size l v W → t ≠ 31 → OwnR t k f w.heap.size l v W' := fun {α t k f l v} ho ht =>
    ⟨ho.own.kept hg (by
      rcases hb : v.ownBlock with _ | b
      · exact .inl rfl
      · refine .inr (hne b fun c fr e => ?_)
        obtain ⟨c', fr', h3⟩ := ho.typed hb
        rw [h3] at e
        cases e
        exact ht rfl)⟩
  obtain ⟨n, hn, hv⟩ := h.vars
  obtain ⟨o1, o2, o3, ⟨m1, o4⟩, m2, o5⟩ := h.ops
  have hB : some B ≠ row := hne B fun c fr e => by
    have := h.box
    rw [show W.heap[B]? = some _ from this] at e
    cases e
  exact ⟨(hg.block B h.box.lt hB).trans h.box, hrow h.row (by decide), ⟨o1, o2, o3, ⟨m1, o4.kept hg (hmap o4.map)⟩, m2, o5.kept hg (hmap o5.map)⟩, ⟨n, hn, hv.kept hg (hmap hv.map)⟩, hrow h.names (by decide), h.ne1, h.ne2, h.below.trans (gr_low hg h.below.size (fun g e => (hr g e).1)), h.hB, h.hV, h.hi, h.hn⟩
theorem PaTo.grown {nv' : Value} {W1 W' : World} (h : PaTo B V nv nv' W W1) {row : Option Nat} (hg : W1.grownBy W' row) (hr : ∀ g, row = some g → W.heap.size ≤ g) : PaTo B V nv nv' W W' :=
  ⟨Nat.le_trans h.size hg.size, fun k hk h1 h2 h3 => (hg.block k (Nat.lt_of_lt_of_le hk h.size) (fun e => by have := hr k e.symm; omega)).trans (h.block k hk h1 h2 h3), h.own⟩
set_option maxRecDepth 100000 in
theorem sign_any (h : PaSt w B b1 b2 V tot xs pv st nv W) (hx : LxOk tot xs) (s : List UInt8) : Calls Tryz.prog 210 #[.pointer (some ⟨B, 0, none⟩), sV s] W (PaQ w B b1 b2 V tot xs pv nv (st.i + 1) W (fun (_ : Unit) v _ => v = .tuple #[]) ((signF tot xs s st).map fun st' => ((), st'))) := by
  have HG := Lib.hid (skip_any h hx s)
  have HT := Lib.hid (fun W1 (h1 : PaSt w B b1 b2 V tot xs pv st nv W1) => tooMuch_any h1 hx)
  have HB := Lib.hid h.below
  clear h
  cases hb : isSg (tokAt xs st.i) s with
  | true =>
    have HR : Hid (signF tot xs s st = .ok ⟨st.i + 1, st.ns⟩ ∧ skp xs s st = ⟨st.i + 1, st.ns⟩) := ⟨by rw [signF, hb]; rfl, by rw [skp, hb]; rfl⟩
    have HBB := Lib.hid hb
    clear hb
    go_enter Tryz.func210, Tryz.ntmps210
    go_wp2_with fail
    refine (HG.out).mono ?_
    rintro e w1 ⟨rfl, h1, h2⟩
    rw [HBB.out]
    rw [HR.out.2] at h1
    go_wp2_with fail
    first | go_end0 | go_ret
    rw [HR.out.1]
    exact ⟨_, nv, rfl, rfl, h1, h2, Nat.le_refl _⟩
  | false =>
    have HR : Hid (signF tot xs s st = .error (plc tot xs st.i) ∧ skp xs s st = st) := ⟨by rw [signF, hb]; rfl, by rw [skp, hb]; rfl⟩
    have HBB := Lib.hid hb
    clear hb
    go_enter Tryz.func210, Tryz.ntmps210
    go_wp2_with fail
    refine (HG.out).mono ?_
    rintro e w1 ⟨rfl, h1, h2⟩
    rw [HBB.out]
    rw [HR.out.2] at h1
    have H1 := Lib.hid h1
    clear h1
    go_wp2_with fail
    refine (HT.out _ H1.out).mono ?_
    rintro e w2 ⟨rfl, h3⟩
    refine And.intro rfl ?_
    rw [HR.out.1]
    exact ⟨rfl, H1.out.below.trans (h3.mono H1.out.below.size)⟩
end
/-- A structure is put together. -/
theorem structure_any (name : List UInt8) (hn : name.length ≤ 255) (l : List Tr) (v : Value) (lo : Nat) (W : World) (hlo : lo ≤ W.heap.size) (h : lval lo l v W) : Calls Tryz.prog 151 #[sV name, v] W fun e W' => ∃ u, e = .returned u ∧ tval lo (fn name l) u W' ∧ Below W.heap.size W W' := by
  obtain ⟨a, c, rfl, h1, h2, h3⟩ := h
  have HH := Lib.hid h3
  clear h3
  go_enter Tryz.func151, Tryz.ntmps151
  go_wp2_with fail
  have bx : Box (W.alloc (.cells #[.int .i64 5, .int .i64 0, sV name, .slice a l.length c] 31)) W.heap.size #[.int .i64 5, .int .i64 0, sV name, .slice a l.length c] 31 := World.alloc_heap_new _ _
  have hB := below_a1 (Nat.le_refl W.heap.size) (.cells #[.int .i64 5, .int .i64 0, sV name, .slice a l.length c] 31)
  have y0 := bx.cell 0
  have y1 := bx.cell 1
  have y2 := bx.cell 2
  have y3 := bx.cell 3
  simp only [List.getElem?_toArray, List.getElem?_cons_succ, List.getElem?_cons_zero] at y0 y1 y2 y3
  generalize W.alloc (.cells #[.int .i64 5, .int .i64 0, sV name, .slice a l.length c] 31) = FW at *
  refine bodyPost_ret (v := .agg #[.int .i64 5, .int .i64 0, sV name, .slice a l.length c]) (by simp [results, Tryz.results151, go_sem, y0, y1, y2, y3]) rfl ⟨_, rfl, ?_, hB⟩
  exact IsP.mk (by unfold okI; omega) (by unfold okI; omega) (by show name.toArray.size ≤ _; simp [maxLen]; omega) h1 h2 (TNL.up HH.out (TmK.of_below hB) (Nat.le_refl _))
end Go.Proofs.YthfciekhmbfmfaaGreatDoor
