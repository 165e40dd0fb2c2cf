import Derived.Test.YtdigiaigbcfccaaGreatDoorExt
import Derived.Test.YtdigiaigbcfccaaGreatDoorRSame
namespace Go.Proofs.YtdigiaigbcfccaaGreatDoor
open Go.RowKit Go

mutual
theorem posT_of : ∀ (T : Tr) (d : Int), (preT d T).all (fun x => x.2.okNode) = true → posT T
  | .node k n s l, d, h => by
    simp only [preT, List.all_cons, Bool.and_eq_true] at h
    refine ⟨fun hk => ?_, posL_of l (d + 1) h.2⟩
    have := h.1
    simp [Tr.okNode, nodeB, hk] at this
    omega
theorem posL_of : ∀ (l : List Tr) (d : Int), (preL d l).all (fun x => x.2.okNode) = true → posL l
  | [], _, _ => trivial
  | t :: ts, d, h => by
    simp only [preL, List.all_append, Bool.and_eq_true] at h
    exact ⟨posT_of t d h.1, posL_of ts d h.2⟩
end
theorem isB_pos {T : Tr} (h : isB T = true) : posT T := by
  simp only [isB, Bool.and_eq_true] at h
  exact posT_of T 1 h.2
theorem isB_size {T : Tr} (h : isB T = true) : T.size ≤ 4000 ∧ T.deep ≤ 600 := by
  simp only [isB, Bool.and_eq_true, decide_eq_true_eq] at h
  exact h.1
theorem free_size {T : Tr} (h : T.free = true) : T.size = 1 ∧ T.kind = 0 := by
  cases T with
  | node k n s l =>
    simp [Tr.free, freeB] at h
    obtain ⟨⟨⟨h1, _⟩, _⟩, h4⟩ := h
    subst h4
    exact ⟨by simp [Tr.size, sizeL], h1⟩
theorem subOk_mem {l : List Tr} (h : subOkB l = true) {t : Tr} (ht : t ∈ l) : t.free = true ∨ isB t = true := by
  simp only [subOkB, Bool.and_eq_true, List.all_eq_true] at h
  simpa using h.2 t ht
theorem subOk_size {l : List Tr} (h : subOkB l = true) {t : Tr} (ht : t ∈ l) : t.size ≤ 4000 := by
  rcases subOk_mem h ht with h1 | h1
  · have := (free_size h1).1; omega
  · exact (isB_size h1).1
theorem putsB_mem {l : List Tr} {k n : Int} (h : putsB l k n = true) (hn : 0 ≤ n) : l.getD n.toNat default ∈ l := by
  simp only [putsB, Bool.and_eq_true, decide_eq_true_eq] at h
  have : n.toNat < l.length := by omega
  simp only [List.getD, List.getElem?_eq_getElem this, Option.getD_some]
  exact List.getElem_mem this
mutual
theorem subT_size {l : List Tr} (h : subOkB l = true) : ∀ T : Tr, posT T → (subT l T).size ≤ T.size * 4000
  | .node k n s ts, hp => by
    unfold posT at hp
    by_cases hb : putsB l k n = true
    · simp only [subT, hb, if_true]
      have hk : k = 1 := by simp [putsB] at hb; exact hb.1.1
      have := subOk_size h (putsB_mem hb (hp.1 hk))
      have := one_le_size (.node k n s ts)
      have : 1 * 4000 ≤ (Tr.node k n s ts).size * 4000 := Nat.mul_le_mul_right _ this
      omega
    · simp only [subT, hb]
      have := subL_size h ts hp.2
      simp only [Bool.false_eq_true, if_false, Tr.size]
      omega
theorem subL_size {l : List Tr} (h : subOkB l = true) : ∀ ts : List Tr, posL ts → sizeL (subL l ts) ≤ sizeL ts * 4000
  | [], _ => by simp [subL, sizeL]
  | t :: ts, hp => by
    have := subT_size h t hp.1
    have := subL_size h ts hp.2
    simp only [subL, sizeL]
    omega
end

def zeroTr : Tr := .node 0 0 emp []
def fitsB (T : Tr) : Bool := decide (T.size ≤ 4000) && decide (T.deep ≤ 600)
def substE (T : Tr) (l : List Tr) : Int := if isB T then (if subOkB l then (if fitsB (subT l T) then 0 else 2) else 1) else 3
def substV (T : Tr) (l : List Tr) : Tr := if isB T && subOkB l && fitsB (subT l T) then subT l T else zeroTr
theorem zero_isP (p : Nat → Prop) (W : World) : IsP p W zeroTr (.agg #[.int .i64 0, .int .i64 0, .string ⟨#[]⟩, .slice none 0 0]) :=
  IsP.mk (l := []) (by unfold okI; omega) (by unfold okI; omega) (by decide) (Nat.le_refl _) (by decide) IsPL.nil

def SubstPost (T : Tr) (l : List Tr) (w : World) (e : Ending) (w' : World) : Prop := ∃ v', e = .returned (.tuple #[v', .int .i64 (substE T l)]) ∧ IsP (New w.heap.size w') w' (substV T l) v' ∧ Below w.heap.size w w'

/-! Four stores into a box of a term. -/
theorem Box.four {W : World} {B : Nat} {c0 c1 c2 c3 : Value} {t : TypeId} (h : Box W B #[c0, c1, c2, c3] t) (a0 a1 a2 a3 : Value) :
    Box ((((W.setCell ⟨B, 0, none⟩ a0).setCell ⟨B, 1, none⟩ a1).setCell ⟨B, 2, none⟩ a2).setCell ⟨B, 3, none⟩ a3) B #[a0, a1, a2, a3] t :=
  (((h.set 0 a0).set 1 a1).set 2 a2).set 3 a3
theorem below_four {n B : Nat} {A W : World} (h : Below n A W) (hn : n ≤ B) (a0 a1 a2 a3 : Value) : Below n A ((((W.setCell ⟨B, 0, none⟩ a0).setCell ⟨B, 1, none⟩ a1).setCell ⟨B, 2, none⟩ a2).setCell ⟨B, 3, none⟩ a3) :=
  (((h.setCell (p := ⟨B, 0, none⟩) hn a0).setCell (p := ⟨B, 1, none⟩) hn a1).setCell (p := ⟨B, 2, none⟩) hn a2).setCell (p := ⟨B, 3, none⟩) hn a3
theorem heap_four {W : World} {B b : Nat} (h : b ≠ B) (a0 a1 a2 a3 : Value) : ((((W.setCell ⟨B, 0, none⟩ a0).setCell ⟨B, 1, none⟩ a1).setCell ⟨B, 2, none⟩ a2).setCell ⟨B, 3, none⟩ a3).heap[b]? = W.heap[b]? := by
  rw [Below.heap_setCell _ _ _ _ h, Below.heap_setCell _ _ _ _ h, Below.heap_setCell _ _ _ _ h, Below.heap_setCell _ _ _ _ h]
theorem IsP.four {lo lo' B : Nat} {W : World} {T : Tr} {v : Value} (h : IsP (New lo W) W T v) (hB : B < lo) (hl : lo' ≤ lo) (a0 a1 a2 a3 : Value) :
    IsP (New lo' ((((W.setCell ⟨B, 0, none⟩ a0).setCell ⟨B, 1, none⟩ a1).setCell ⟨B, 2, none⟩ a2).setCell ⟨B, 3, none⟩ a3)) ((((W.setCell ⟨B, 0, none⟩ a0).setCell ⟨B, 1, none⟩ a1).setCell ⟨B, 2, none⟩ a2).setCell ⟨B, 3, none⟩ a3) T v :=
  IsP.map (fun b hb => ⟨⟨Nat.le_trans hl hb.1, by simpa using hb.2⟩, heap_four (by have := hb.1; omega) a0 a1 a2 a3⟩) T v h

set_option maxRecDepth 100000 in
set_option maxHeartbeats 2000000 in
theorem subst_any (T : Tr) (l : List Tr) (v : Value) (a : Option Addr) (c : Nat) (w : World) (hT : IsT w.heap.size w T v) (hdp : T.deep ≤ 999999999) (hm : l.length ≤ 1000000) (h4 : l.length ≤ c) (h5 : c ≤ maxLen) (hl : IsL w.heap.size w l a) (hdl : ∀ t, t ∈ l → t.deep ≤ 999999999) :
    Calls Tryz.prog 23 #[v, .slice a l.length c] w (SubstPost T l w) := by
  cases hTc : T with
  | node k n s ts =>
  subst hTc
  have hT' := hT
  obtain ⟨a', c', rfl, _⟩ := hT'.open
  clear hT'
  have HT := Lib.hid hT
  have HL := Lib.hid hl
  clear hT hl
  have HD := Lib.hid hdl
  clear hdl
  go_enter Tryz.func23, Tryz.ntmps23
  go_wp2_with fail
  have hblk : Box (((w.alloc (.cells #[.int .i64 k, .int .i64 n, .string s, .slice a' ts.length c'] 24)).alloc (.cells #[.int .i64 0, .int .i64 0, .string ⟨#[]⟩, .slice none 0 0] 24)).alloc (.cells #[.int .i64 k, .int .i64 n, .string s, .slice a' ts.length c'] 24)) (w.heap.size + 1 + 1) #[.int .i64 k, .int .i64 n, .string s, .slice a' ts.length c'] 24 := Box.at (by simp)
  have hb0 : Box (((w.alloc (.cells #[.int .i64 k, .int .i64 n, .string s, .slice a' ts.length c'] 24)).alloc (.cells #[.int .i64 0, .int .i64 0, .string ⟨#[]⟩, .slice none 0 0] 24)).alloc (.cells #[.int .i64 k, .int .i64 n, .string s, .slice a' ts.length c'] 24)) w.heap.size #[.int .i64 k, .int .i64 n, .string s, .slice a' ts.length c'] 24 := ((Box.at rfl).alloc _).alloc _
  have hb1 : Box (((w.alloc (.cells #[.int .i64 k, .int .i64 n, .string s, .slice a' ts.length c'] 24)).alloc (.cells #[.int .i64 0, .int .i64 0, .string ⟨#[]⟩, .slice none 0 0] 24)).alloc (.cells #[.int .i64 k, .int .i64 n, .string s, .slice a' ts.length c'] 24)) (w.heap.size + 1) #[.int .i64 0, .int .i64 0, .string ⟨#[]⟩, .slice none 0 0] 24 := (Box.at (by simp)).alloc _
  have hB0 := below_a3 (Nat.le_refl w.heap.size) (.cells #[.int .i64 k, .int .i64 n, .string s, .slice a' ts.length c'] 24) (.cells #[.int .i64 0, .int .i64 0, .string ⟨#[]⟩, .slice none 0 0] 24) (.cells #[.int .i64 k, .int .i64 n, .string s, .slice a' ts.length c'] 24)
  refine (checkEach_any [.node k n s ts] (some ⟨w.heap.size + 1 + 1, 0, none⟩) 1 _ (by unfold maxLen; simp) ?_ (by simpa using hdp)).mono ?_
  · exact IsL.cons (by simp) (hblk.cell 0) (hblk.cell 1) (hblk.cell 2) (hblk.cell 3) (HT.out.up hB0 hB0.size) IsL.nil
  rintro e w1 ⟨rfl, hB1⟩
  have p0 := Box.keep hB1 hb0
  have p1 := Box.keep hB1 hb1
  have hB2 := hB0.trans (hB1.mono hB0.size)
  have l0 := p0.lt
  have l1 := p1.lt
  clear hB1 hblk hb0 hb1 hB0
  generalize hEQ : [Tr.node k n s ts].all isB = bT
  have hbT : Hid (bT = isB (.node k n s ts)) := by rw [Hid, ← hEQ]; simp
  clear hEQ
  have u0 := p1.cell 0
  have u1 := p1.cell 1
  have u2 := p1.cell 2
  have u3 := p1.cell 3
  have g0 := p1.frozen 0
  have g1 := p1.frozen 1
  have g2 := p1.frozen 2
  have g3 := p1.frozen 3
  simp only [List.getElem?_toArray, List.getElem?_cons_succ, List.getElem?_cons_zero] at u0 u1 u2 u3
  cases bT with
  | false =>
    have hE : Hid (substE (.node k n s ts) l = 3 ∧ substV (.node k n s ts) l = zeroTr) := by simp [Hid, substE, substV, ← hbT.out]
    go_wp2_with fail
    have z := p1.four (.int .i64 0) (.int .i64 0) (.string ⟨#[]⟩) (.slice none 0 0)
    have zB := below_four hB2 (by simp) (.int .i64 0) (.int .i64 0) (.string ⟨#[]⟩) (.slice none 0 0) (B := w.heap.size + 1)
    have y0 := z.cell 0
    have y1 := z.cell 1
    have y2 := z.cell 2
    have y3 := z.cell 3
    clear z u0 u1 u2 u3 g0 g1 g2 g3
    generalize (((w1.setCell ⟨w.heap.size + 1, 0, none⟩ (.int .i64 0)).setCell ⟨w.heap.size + 1, 1, none⟩ (.int .i64 0)).setCell ⟨w.heap.size + 1, 2, none⟩ (.string ⟨#[]⟩)).setCell ⟨w.heap.size + 1, 3, none⟩ (.slice none 0 0) = FW at *
    simp at y0 y1 y2 y3
    exact bodyPost_ret (v := .tuple #[.agg #[.int .i64 0, .int .i64 0, .string ⟨#[]⟩, .slice none 0 0], .int .i64 3]) (by simp [results, Tryz.results23, go_sem, errI, y0, y1, y2, y3]) rfl ⟨_, by rw [hE.out.1], by rw [hE.out.2]; exact zero_isP _ _, zB⟩
  | true =>
    have hTb : isB (.node k n s ts) = true := hbT.out.symm
    have HTb := Lib.hid hTb
    clear hTb hbT
    go_wp2_with fail
    refine (newSub_any l a c _ hm h4 h5 (HL.out.up hB2 hB2.size) HD.out).mono ?_
    rintro e w2 ⟨hB3, hcase⟩
    have n0 := Box.keep hB3 p0
    have n1 := Box.keep hB3 p1
    have hB4 := hB2.trans (hB3.mono hB2.size)
    have l2 := n0.lt
    have l3 := n1.lt
    have u0 := n1.cell 0
    have u1 := n1.cell 1
    have u2 := n1.cell 2
    have u3 := n1.cell 3
    have g0 := n1.frozen 0
    have g1 := n1.frozen 1
    have g2 := n1.frozen 2
    have g3 := n1.frozen 3
    have q0 := n0.cell 0
    have q1 := n0.cell 1
    have q2 := n0.cell 2
    have q3 := n0.cell 3
    simp only [List.getElem?_toArray, List.getElem?_cons_succ, List.getElem?_cons_zero] at u0 u1 u2 u3 q0 q1 q2 q3
    clear hB3 p0 p1
    rcases hcase with ⟨hS, v, rfl, a2, c2, eb, cs, rfl, h6, h7, hl2, heb, hbx, hex⟩ | ⟨hS, rfl⟩
    · have HS := Lib.hid hS
      clear hS
      have HX := Lib.hid (And.intro hl2 (And.intro hbx hex))
      clear hl2 hbx hex
      have hsm : (subT l (.node k n s ts)).size ≤ 1000000000000 := by
        have h1 := subT_size HS.out (.node k n s ts) (isB_pos HTb.out)
        have h2 := (isB_size HTb.out).1
        omega
      have Hsm := Lib.hid hsm
      clear hsm
      have b0 := n0.alloc (.cells #[.slice a2 l.length c2, .slice (some ⟨eb, 0, none⟩) l.length l.length] 88)
      have b1 := n1.alloc (.cells #[.slice a2 l.length c2, .slice (some ⟨eb, 0, none⟩) l.length l.length] 88)
      have bs : Box (w2.alloc (.cells #[.slice a2 l.length c2, .slice (some ⟨eb, 0, none⟩) l.length l.length] 88)) w2.heap.size #[.slice a2 l.length c2, .slice (some ⟨eb, 0, none⟩) l.length l.length] 88 := Box.at rfl
      have hB5 := hB4.alloc hB4.size (.cells #[.slice a2 l.length c2, .slice (some ⟨eb, 0, none⟩) l.length l.length] 88)
      have hB6 := below_a1 (Nat.le_refl w2.heap.size) (.cells #[.slice a2 l.length c2, .slice (some ⟨eb, 0, none⟩) l.length l.length] 88)
      go_wp2_with fail
      refine (extentOf_any l hm a2 c2 eb cs HX.out.2.2 w2 HX.out.1 heb HX.out.2.1 (.node k n s ts) _ _ hB6 (HT.out.up hB5 hB5.size) Hsm.out (isB_pos HTb.out)).mono ?_
      rintro e w3 ⟨rfl, hB7⟩
      have c0 := Box.keep hB7 b0
      have c1 := Box.keep hB7 b1
      have cS := Box.keep hB7 bs
      have hB8 := hB5.trans (hB7.mono hB5.size)
      have hB9 := hB6.trans (hB7.mono hB6.size)
      clear hB7 b0 b1 bs hB5 hB6 n0 n1
      go_wp2_with fail
      refine (fits_any _ _ _).mono ?_
      rintro e w4 ⟨rfl, hB10⟩
      have d0 := Box.keep hB10 c0
      have d1 := Box.keep hB10 c1
      have dS := Box.keep hB10 cS
      have hB11 := hB8.trans (hB10.mono hB8.size)
      have hB12 := hB9.trans (hB10.mono hB9.size)
      clear hB10 c0 c1 cS hB8 hB9 u0 u1 u2 u3 g0 g1 g2 g3 q0 q1 q2 q3
      have l4 := d0.lt
      have l5 := d1.lt
      have l6 := dS.lt
      have u0 := d1.cell 0
      have u1 := d1.cell 1
      have u2 := d1.cell 2
      have u3 := d1.cell 3
      have g0 := d1.frozen 0
      have g1 := d1.frozen 1
      have g2 := d1.frozen 2
      have g3 := d1.frozen 3
      have q0 := d0.cell 0
      have q1 := d0.cell 1
      have q2 := d0.cell 2
      have q3 := d0.cell 3
      have r0 := dS.cell 0
      have r1 := dS.cell 1
      simp only [List.getElem?_toArray, List.getElem?_cons_succ, List.getElem?_cons_zero] at u0 u1 u2 u3 q0 q1 q2 q3 r0 r1
      have hfe : Hid ((decide (((subT l (.node k n s ts)).size : Int) ≤ 4000) && decide (((subT l (.node k n s ts)).deep : Int) ≤ 600)) = fitsB (subT l (.node k n s ts))) := by
        unfold Hid fitsB
        congr 1
        · simp; omega
        · simp; omega
      rw [hfe.out]
      cases hfb : fitsB (subT l (.node k n s ts)) with
      | false =>
        have hE : Hid (substE (.node k n s ts) l = 2 ∧ substV (.node k n s ts) l = zeroTr) := by simp [Hid, substE, substV, HTb.out, HS.out, hfb]
        clear hfb
        go_wp2_with fail
        have z := d1.four (.int .i64 0) (.int .i64 0) (.string ⟨#[]⟩) (.slice none 0 0)
        have zB := below_four hB11 (by simp) (.int .i64 0) (.int .i64 0) (.string ⟨#[]⟩) (.slice none 0 0) (B := w.heap.size + 1)
        have y0 := z.cell 0
        have y1 := z.cell 1
        have y2 := z.cell 2
        have y3 := z.cell 3
        clear z u0 u1 u2 u3 g0 g1 g2 g3 q0 q1 q2 q3 r0 r1 d0 d1 dS
        generalize (((w4.setCell ⟨w.heap.size + 1, 0, none⟩ (.int .i64 0)).setCell ⟨w.heap.size + 1, 1, none⟩ (.int .i64 0)).setCell ⟨w.heap.size + 1, 2, none⟩ (.string ⟨#[]⟩)).setCell ⟨w.heap.size + 1, 3, none⟩ (.slice none 0 0) = FW at *
        simp at y0 y1 y2 y3
        exact bodyPost_ret (v := .tuple #[.agg #[.int .i64 0, .int .i64 0, .string ⟨#[]⟩, .slice none 0 0], .int .i64 2]) (by simp [results, Tryz.results23, go_sem, y0, y1, y2, y3]) rfl ⟨_, by rw [hE.out.1], by rw [hE.out.2]; exact zero_isP _ _, zB⟩
      | true =>
        have hE : Hid (substE (.node k n s ts) l = 0 ∧ substV (.node k n s ts) l = subT l (.node k n s ts)) := by simp [Hid, substE, substV, HTb.out, HS.out, hfb]
        clear hfb
        have hts1 : Hid ((Tr.node k n s ts).size ≤ 1000000) := by have := (isB_size HTb.out).1; unfold Hid; omega
        go_wp2_with fail
        refine (apply_any l hm (fun t ht => by have := subOk_size HS.out ht; omega) a2 c2 (some ⟨eb, 0, none⟩) l.length l.length w2 HX.out.1 (.node k n s ts) _ _ hB12 (HT.out.up hB11 hB11.size) hts1.out (isB_pos HTb.out)).mono ?_
        rintro e w5 ⟨v', rfl, hP, hB13⟩
        have e1 := Box.keep hB13 d1
        have hB14 := hB11.trans (hB13.mono hB11.size)
        have l7 := e1.lt
        have u0 := e1.cell 0
        have u1 := e1.cell 1
        have u2 := e1.cell 2
        have u3 := e1.cell 3
        have g0 := e1.frozen 0
        have g1 := e1.frozen 1
        have g2 := e1.frozen 2
        have g3 := e1.frozen 3
        simp only [List.getElem?_toArray, List.getElem?_cons_succ, List.getElem?_cons_zero] at u0 u1 u2 u3
        cases hF : subT l (.node k n s ts) with
        | node fk fn fs fl =>
        rw [hF] at hP
        obtain ⟨fa, fc, rfl, _⟩ := hP.open
        have HP := Lib.hid hP
        have HF := Lib.hid hF
        clear hP hF hB13
        go_wp2_with fail
        have z := e1.four (.int .i64 fk) (.int .i64 fn) (.string fs) (.slice fa fl.length fc)
        have zB := below_four hB14 (by simp) (.int .i64 fk) (.int .i64 fn) (.string fs) (.slice fa fl.length fc) (B := w.heap.size + 1)
        have zP := IsP.four (lo' := w.heap.size) (B := w.heap.size + 1) HP.out (by omega) (by omega) (.int .i64 fk) (.int .i64 fn) (.string fs) (.slice fa fl.length fc)
        have y0 := z.cell 0
        have y1 := z.cell 1
        have y2 := z.cell 2
        have y3 := z.cell 3
        clear z u0 u1 u2 u3 g0 g1 g2 g3 HP
        generalize (((w5.setCell ⟨w.heap.size + 1, 0, none⟩ (.int .i64 fk)).setCell ⟨w.heap.size + 1, 1, none⟩ (.int .i64 fn)).setCell ⟨w.heap.size + 1, 2, none⟩ (.string fs)).setCell ⟨w.heap.size + 1, 3, none⟩ (.slice fa fl.length fc) = FW at *
        simp at y0 y1 y2 y3
        exact bodyPost_ret (v := .tuple #[.agg #[.int .i64 fk, .int .i64 fn, .string fs, .slice fa fl.length fc], .int .i64 0]) (by simp [results, Tryz.results23, go_sem, y0, y1, y2, y3]) rfl ⟨_, by rw [hE.out.1], by rw [hE.out.2, HF.out]; exact zP, zB⟩
    · have hE : Hid (substE (.node k n s ts) l = 1 ∧ substV (.node k n s ts) l = zeroTr) := by simp [Hid, substE, substV, HTb.out, hS]
      clear hS
      go_wp2_with fail
      have z := (n1.four (.int .i64 0) (.int .i64 0) (.string ⟨#[]⟩) (.slice none 0 0)).alloc (.cells #[.slice none 0 0, .slice none 0 0] 88)
      have zB := (below_four hB4 (by simp) (.int .i64 0) (.int .i64 0) (.string ⟨#[]⟩) (.slice none 0 0) (B := w.heap.size + 1)).alloc (by simp; omega) (.cells #[.slice none 0 0, .slice none 0 0] 88)
      have y0 := z.cell 0
      have y1 := z.cell 1
      have y2 := z.cell 2
      have y3 := z.cell 3
      clear z u0 u1 u2 u3 g0 g1 g2 g3 q0 q1 q2 q3 n0 n1
      generalize World.alloc ((((w2.setCell ⟨w.heap.size + 1, 0, none⟩ (.int .i64 0)).setCell ⟨w.heap.size + 1, 1, none⟩ (.int .i64 0)).setCell ⟨w.heap.size + 1, 2, none⟩ (.string ⟨#[]⟩)).setCell ⟨w.heap.size + 1, 3, none⟩ (.slice none 0 0)) (.cells #[.slice none 0 0, .slice none 0 0] 88) = FW at *
      simp at y0 y1 y2 y3
      exact bodyPost_ret (v := .tuple #[.agg #[.int .i64 0, .int .i64 0, .string ⟨#[]⟩, .slice none 0 0], .int .i64 1]) (by simp [results, Tryz.results23, go_sem, y0, y1, y2, y3]) rfl ⟨_, by rw [hE.out.1], by rw [hE.out.2]; exact zero_isP _ _, zB⟩
end Go.Proofs.YtdigiaigbcfccaaGreatDoor
