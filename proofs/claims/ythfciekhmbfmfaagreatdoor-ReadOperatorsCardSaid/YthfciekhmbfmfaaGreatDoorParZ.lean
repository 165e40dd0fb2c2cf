/- A term that is read has no more nodes than lexemes. -/
import Derived.Test.YthfciekhmbfmfaaGreatDoorOpsF
import Derived.Test.YthfciekhmbfmfaaGreatDoorVisit
import Derived.Test.YthfciekhmbfmfaaGreatDoorCheck
import Derived.Test.YthfciekhmbfmfaaGreatDoorAtt
namespace Go.Proofs.YthfciekhmbfmfaaGreatDoor
open Go.RowKit Go

mutual
theorem deep_le_size : ∀ T : Tr, T.deep ≤ T.size
  | .node _ _ _ l => by
    have := deepL_le_size l
    simp only [Tr.deep, Tr.size]
    omega
theorem deepL_le_size : ∀ l : List Tr, deepL l ≤ sizeL l
  | [] => Nat.le_refl _
  | t :: ts => by
    have h1 := deep_le_size t
    have h2 := deepL_le_size ts
    simp only [deepL, sizeL]
    omega
end
theorem sizeL_snoc (l : List Tr) (t : Tr) : sizeL (l ++ [t]) = sizeL l + t.size := by
  rw [sizeL_append]
  simp [sizeL]
theorem consT_size (l : List Tr) (t : Tr) : (l.foldr (fun x y => fn [46] [x, y]) t).size = sizeL l + l.length + t.size := by
  induction l with
  | nil => simp [sizeL]
  | cons x l ih =>
    rw [List.foldr_cons]
    show (Tr.node 5 0 (nm [46]) [x, _]).size = _
    simp only [Tr.size, sizeL, List.length_cons]
    rw [ih]
    omega
def SzOk (rec : Int → PS → PR Tr) : Prop := ∀ most st t st', rec most st = .ok (t, st') → t.size + st.i ≤ st'.i
section
variable {tot : Nat} {xs : List Lx} {rec : Int → PS → PR Tr}
theorem partsN_size (h : SzOk rec) : ∀ (n : Nat) (acc l : List Tr) (st st' : PS), partsN xs rec n acc st = .ok (l, st') → sizeL l + l.length + st.i ≤ st'.i + sizeL acc + acc.length
  | 0, acc, l, st, st', e => by cases e; omega
  | n + 1, acc, l, st, st', e => by
    rw [partsN] at e
    split at e
    · cases hr : rec 999 ⟨st.i + 1, st.ns⟩ with
      | error p => rw [hr] at e; cases e
      | ok x =>
        obtain ⟨t, st1⟩ := x
        rw [hr] at e
        have h1 := h _ _ _ _ hr
        have h2 := partsN_size h n _ _ _ _ e
        rw [sizeL_snoc, List.length_append] at h2
        simp only [List.length_cons, List.length_nil] at h2
        have h3 : t.size + (st.i + 1) ≤ st1.i := h1
        omega
    · cases e; omega
theorem partsF_size (h : SzOk rec) {l : List Tr} {st st' : PS} (e : partsF xs rec st = .ok (l, st')) : sizeL l + l.length + st.i ≤ st'.i + 1 := by
  rw [partsF] at e
  cases hr : rec 999 st with
  | error p => rw [hr] at e; cases e
  | ok x =>
    obtain ⟨t, st1⟩ := x
    rw [hr] at e
    have h1 := h _ _ _ _ hr
    have h2 := partsN_size h _ _ _ _ _ e
    simp only [sizeL, List.length_cons, List.length_nil] at h2
    omega
theorem signF_i {s : List UInt8} {st st' : PS} (e : signF tot xs s st = .ok st') : st'.i = st.i + 1 := by
  rw [signF] at e
  split at e
  · cases e; rfl
  · cases e
theorem fn_size (name : List UInt8) (l : List Tr) : (fn name l).size = 1 + sizeL l := rfl
theorem plainF_size (h : SzOk rec) {name : List UInt8} {t : Tr} {st st' : PS} (e : plainF tot xs rec name st = .ok (t, st')) : t.size + st.i ≤ st'.i := by
  rw [plainF] at e
  split at e
  · cases hr : partsF xs rec ⟨st.i + 2, st.ns⟩ with
    | error p => rw [hr] at e; cases e
    | ok x =>
      obtain ⟨l, st1⟩ := x
      rw [hr] at e
      cases hs : signF tot xs [41] st1 with
      | error p => simp only [hs] at e; cases e
      | ok st2 =>
        simp only [hs] at e
        cases e
        have h1 := partsF_size h hr
        have h2 := signF_i hs
        have h3 : sizeL l + l.length + (st.i + 2) ≤ st1.i + 1 := h1
        rw [fn_size]
        omega
  · cases e
    show 1 + 0 + st.i ≤ st.i + 1
    omega
theorem listF_size (h : SzOk rec) {t : Tr} {st st' : PS} (e : listF tot xs rec st = .ok (t, st')) : t.size + st.i ≤ st'.i + 1 := by
  rw [listF] at e
  split at e
  · cases e
    show 1 + 0 + st.i ≤ st.i + 1 + 1
    omega
  · cases hr : partsF xs rec st with
    | error p => rw [hr] at e; cases e
    | ok x =>
      obtain ⟨l, st1⟩ := x
      simp only [hr] at e
      have h1 := partsF_size h hr
      split at e
      · cases hr2 : rec 999 ⟨st1.i + 1, st1.ns⟩ with
        | error p => simp only [hr2] at e; cases e
        | ok y =>
          obtain ⟨u, st2⟩ := y
          simp only [hr2] at e
          have h2 : u.size + (st1.i + 1) ≤ st2.i := h _ _ _ _ hr2
          cases hs : signF tot xs [93] st2 with
          | error p => simp only [hs] at e; cases e
          | ok st3 =>
            simp only [hs] at e
            cases e
            have h3 := signF_i hs
            rw [consT_size]
            omega
      · cases hs : signF tot xs [93] st1 with
        | error p => simp only [hs] at e; cases e
        | ok st3 =>
          simp only [hs] at e
          cases e
          have h3 := signF_i hs
          rw [consT_size]
          show sizeL l + l.length + (1 + 0) + st.i ≤ st'.i + 1
          omega
theorem vecF_size (h : SzOk rec) {t : Tr} {st st' : PS} (e : vecF tot xs rec st = .ok (t, st')) : t.size + st.i ≤ st'.i + 1 := by
  rw [vecF] at e
  split at e
  · cases e
    show 1 + 0 + st.i ≤ st.i + 1 + 1
    omega
  · cases hr : partsF xs rec st with
    | error p => rw [hr] at e; cases e
    | ok x =>
      obtain ⟨l, st1⟩ := x
      simp only [hr] at e
      have h1 := partsF_size h hr
      cases hs : signF tot xs [125] st1 with
      | error p => simp only [hs] at e; cases e
      | ok st3 =>
        simp only [hs] at e
        cases e
        have h3 := signF_i hs
        show 1 + sizeL l + st.i ≤ st'.i + 1
        omega
theorem brackF_size (h : SzOk rec) {s : List UInt8} {t : Tr} {st st' : PS} (e : brackF tot xs rec s st = .ok (t, st')) : t.size + st.i ≤ st'.i := by
  rw [brackF] at e
  split at e
  · cases hr : rec 1200 ⟨st.i + 1, st.ns⟩ with
    | error p => rw [hr] at e; cases e
    | ok x =>
      obtain ⟨u, st1⟩ := x
      rw [hr] at e
      have h1 : u.size + (st.i + 1) ≤ st1.i := h _ _ _ _ hr
      cases hs : signF tot xs [41] st1 with
      | error p => simp only [hs] at e; cases e
      | ok st3 =>
        simp only [hs] at e
        cases e
        have h3 := signF_i hs
        omega
  · split at e
    · have h1 : t.size + (st.i + 1) ≤ st'.i + 1 := listF_size h e
      omega
    · split at e
      · have h1 : t.size + (st.i + 1) ≤ st'.i + 1 := vecF_size h e
        omega
      · cases e
theorem namedF_size (h : SzOk rec) {name : List UInt8} {most : Int} {t : Tr} {p : Int} {st st' : PS} (e : namedF tot xs rec name most st = .ok ((t, p), st')) : t.size + st.i ≤ st'.i := by
  have hpl : ∀ {t : Tr} {p : Int} {st' : PS}, (match plainF tot xs rec name st with | .error e => .error e | .ok (t, st') => .ok ((t, (0 : Int)), st') : PR (Tr × Int)) = .ok ((t, p), st') → t.size + st.i ≤ st'.i := fun {t p st'} e => by
    cases hr : plainF tot xs rec name st with
    | error q => rw [hr] at e; cases e
    | ok x =>
      obtain ⟨u, st1⟩ := x
      rw [hr] at e
      cases e
      exact plainF_size h hr
  unfold namedF at e
  split at e
  · exact hpl e
  · split at e
    · cases e
      show 1 + 0 + st.i ≤ st.i + 2
      omega
    · split at e
      · cases hr : rec (preV (nm name)).2.2 ⟨st.i + 1, st.ns⟩ with
        | error q => rw [hr] at e; cases e
        | ok x =>
          obtain ⟨u, st1⟩ := x
          rw [hr] at e
          cases e
          have h1 : u.size + (st.i + 1) ≤ st'.i := h _ _ _ _ hr
          show 1 + (u.size + 0) + st.i ≤ st'.i
          omega
      · split at e
        · cases e
        · exact hpl e
theorem firstF_size (h : SzOk rec) {most : Int} {t : Tr} {p : Int} {st st' : PS} (e : firstF tot xs rec most st = .ok ((t, p), st')) : t.size + st.i ≤ st'.i := by
  unfold firstF at e
  split at e
  · cases e
  · split at e
    · exact namedF_size h e
    · rename_i u _ _ _
      cases hr : plainF tot xs rec u.s st with
      | error q => rw [hr] at e; cases e
      | ok x =>
        obtain ⟨v, st1⟩ := x
        rw [hr] at e
        cases e
        exact plainF_size h hr
    · rename_i u _ _ _
      cases hr : brackF tot xs rec u.s st with
      | error q => rw [hr] at e; cases e
      | ok x =>
        obtain ⟨v, st1⟩ := x
        rw [hr] at e
        cases e
        exact brackF_size h hr
    · cases e
      show 1 + 0 + st.i ≤ st.i + 1
      omega
    · cases e
      show 1 + 0 + st.i ≤ st.i + 1
      omega
    · cases e
      show 1 + 0 + st.i ≤ st.i + 1
      omega
    · cases e
theorem loopF_size (h : SzOk rec) (most : Int) : ∀ (n : Nat) (t u : Tr) (prio : Int) (st st' : PS), loopF xs rec most n t prio st = .ok (u, st') → u.size + st.i ≤ st'.i + t.size
  | 0, t, u, prio, st, st', e => by cases e; omega
  | n + 1, t, u, prio, st, st', e => by
    rw [loopF] at e
    split at e
    · cases e; omega
    · cases hr : rec (infF xs st.i).2.2.2 ⟨st.i + 1, st.ns⟩ with
      | error q => rw [hr] at e; cases e
      | ok x =>
        obtain ⟨v, st1⟩ := x
        rw [hr] at e
        have h1 : v.size + (st.i + 1) ≤ st1.i := h _ _ _ _ hr
        have h2 := loopF_size h most n _ _ _ _ _ e
        have h3 : (fn (infF xs st.i).1 [t, v]).size = 1 + (t.size + (v.size + 0)) := rfl
        omega
end
theorem termN_size (tot : Nat) (xs : List Lx) : ∀ n, SzOk (termN tot xs n)
  | 0 => fun most st t st' e => by cases e
  | n + 1 => fun most st t st' e => by
    rw [termN] at e
    cases hr : firstF tot xs (termN tot xs n) most st with
    | error q => rw [hr] at e; cases e
    | ok x =>
      obtain ⟨⟨u, p⟩, st1⟩ := x
      rw [hr] at e
      have h1 := firstF_size (termN_size tot xs n) hr
      have h2 := loopF_size (termN_size tot xs n) most _ _ _ _ _ _ e
      omega
end Go.Proofs.YthfciekhmbfmfaaGreatDoor

/- What Term runs: the closure that reads a term. -/
namespace Go.Proofs.YthfciekhmbfmfaaGreatDoor
open Go.RowKit Go Go.Maps

/-- The term that a text is, and the names of its variables; or where and why there is none. -/
def parR (s : ByteArray) : Except (Int × Int) (Tr × List (List UInt8)) :=
  match lexR s with
  | .error x => .error x
  | .ok xs =>
    match termL s.size xs 1200 ⟨0, []⟩ with
    | .error p => .error ((p : Int), 21)
    | .ok (t, st') => if st'.i = xs.length then (if isB t then .ok (t, st'.ns) else .error (0, 2)) else .error (((plc s.size xs st'.i : Nat) : Int), 21)
def errO {α : Type} (r : Except (Int × Int) α) : Option (Int × Int) := match r with | .error x => some x | .ok _ => none
/-- A reading. -/
def rdV (lo : Nat) (s : ByteArray) (v : Value) (W : World) : Prop := ∃ t ns a0 a1 a2 a3 am a4 nv, parR s = .ok (t, ns) ∧ v = .agg #[.int .i64 a0, .int .i64 a1, .string a2, .slice a3 am a4, nv] ∧ tval lo t (.agg #[.int .i64 a0, .int .i64 a1, .string a2, .slice a3 am a4]) W ∧ OwnR 9 1 strV lo ns nv W
theorem OwnR.lower {α : Type} {t : TypeId} {k : Nat} {f : α → List Value} {lo lo' : Nat} {l : List α} {v : Value} {W : World} (h : OwnR t k f lo l v W) (hl : lo' ≤ lo) : OwnR t k f lo' l v W := by
  refine ⟨h.own.1, h.own.2.imp id ?_⟩
  rintro ⟨g, cap, cur, e, h1, h2⟩
  exact ⟨g, cap, cur, e, Nat.le_trans hl h1, h2⟩
set_option maxRecDepth 100000 in
set_option maxHeartbeats 8000000 in
theorem termC_any (T : Nat) (s : ByteArray) (W : World) (hT : W.cell? ⟨T, 0, none⟩ = some (.string s)) (hTl : T < W.heap.size) (hs : s.size ≤ 1000000) (mm : Int) (hmx : W.cell? ⟨1, 0, none⟩ = some (.int .i64 mm)) (hml : 1 < W.heap.size) (lo : Nat) (hlo : lo ≤ W.heap.size) :
    Calls Tryz.prog 63 #[.pointer (some ⟨T, 0, none⟩)] W (RunQ W (rdV lo s) (errO (parR s))) := by
  have hA : Below W.heap.size W (W.alloc (.cells #[.int .i64 0, .int .i64 0, .string ⟨#[]⟩, .slice none 0 0, .slice none 0 0] 86)) := below_a1 (Nat.le_refl _) _
  have hR0 : Box (W.alloc (.cells #[.int .i64 0, .int .i64 0, .string ⟨#[]⟩, .slice none 0 0, .slice none 0 0] 86)) W.heap.size #[.int .i64 0, .int .i64 0, .string ⟨#[]⟩, .slice none 0 0, .slice none 0 0] 86 := World.alloc_heap_new _ _
  have hsz0 : (W.alloc (.cells #[.int .i64 0, .int .i64 0, .string ⟨#[]⟩, .slice none 0 0, .slice none 0 0] 86)).heap.size = W.heap.size + 1 := by simp
  have HN := Lib.hid (newParser_any s (W.alloc (.cells #[.int .i64 0, .int .i64 0, .string ⟨#[]⟩, .slice none 0 0, .slice none 0 0] 86)) hs mm (by rw [hA.cell (p := ⟨1, 0, none⟩) hml]; exact hmx))
  have H0 := Lib.hid (And.intro hA (And.intro hR0 hsz0))
  clear hmx hA hR0 hsz0
  go_enter Tryz.func63, Tryz.ntmps63
  go_wp2_with fail
  generalize W.alloc (.cells #[.int .i64 0, .int .i64 0, .string ⟨#[]⟩, .slice none 0 0, .slice none 0 0] 86) = W0 at *
  refine (HN.out).mono ?_
  rintro e w1 ⟨hB1, hQ1⟩
  cases hl : lexR s with
  | error x =>
    rw [hl] at hQ1
    obtain rfl : e = thrown x.1 x.2 := hQ1
    refine And.intro rfl ?_
    have hp : parR s = .error x := by rw [parR, hl]
    refine ⟨H0.out.1.trans (hB1.mono H0.out.1.size), ?_⟩
    rw [hp]
    rfl
  | ok xs =>
    rw [hl] at hQ1
    obtain ⟨B, b1, b2, pv, rfl, hpre⟩ := hQ1
    have hok := (lexR_ok hl).2
    have hBW : Below W.heap.size W w1 := H0.out.1.trans (hB1.mono H0.out.1.size)
    have hR1 := H0.out.2.1.keep hB1
    have hBne : W.heap.size ≠ B := by have := hpre.hB; have := H0.out.2.2; omega
    have HRD := Lib.hid (reading_any hpre hok)
    have HL := Lib.hid (And.intro hl hok)
    have H1 := Lib.hid (And.intro hBW (And.intro hR1 hpre.hB))
    have hw1 : W.heap.size + 1 ≤ w1.heap.size := by have := hR1.lt; omega
    clear hl hok hB1 hBW hR1 hpre hT
    go_wp2_with fail
    refine (HRD.out).mono ?_
    rintro e w2 hQ2
    rw [RdQ] at hQ2
    cases ht : termL s.size xs 1200 ⟨0, []⟩ with
    | error p =>
      rw [ht] at hQ2
      obtain ⟨rfl, hb⟩ := hQ2
      refine And.intro rfl ?_
      have hp : parR s = .error ((p : Int), 21) := by rw [parR, HL.out.1]; simp only [ht]
      refine ⟨H0.out.1.trans (hb.mono H0.out.1.size), ?_⟩
      rw [hp]
      rfl
    | ok x =>
      obtain ⟨t, st2⟩ := x
      rw [ht] at hQ2
      obtain ⟨a0, a1, a2, a3, am, a4, nv2, Vn, rfl, htv, hst, hnm, ⟨hsz2, hkp⟩, hi2⟩ := hQ2
      obtain ⟨na, nc, rfl⟩ := hnm.slice
      have hR2 : Box w2 W.heap.size _ _ := (hkp W.heap.size (by omega) hBne).trans H1.out.2.1
      have hBW2 : Below W.heap.size W w2 := by
        have h1 := hst.below
        exact H0.out.1.trans (h1.mono H0.out.1.size)
      have hszt : t.size ≤ 8000 := by
        have h1 : t.size + 0 ≤ st2.i := termN_size _ _ _ _ _ _ _ ht
        have h2 := hst.hi
        have h3 := HL.out.2.len
        omega
      have hA2 : Below w2.heap.size w2 (w2.alloc (.cells #[.int .i64 a0, .int .i64 a1, .string a2, .slice a3 am a4, .slice na st2.ns.length nc] 86)) := below_a1 (Nat.le_refl _) _
      have hRb : Box (w2.alloc (.cells #[.int .i64 a0, .int .i64 a1, .string a2, .slice a3 am a4, .slice na st2.ns.length nc] 86)) w2.heap.size #[.int .i64 a0, .int .i64 a1, .string a2, .slice a3 am a4, .slice na st2.ns.length nc] 86 := World.alloc_heap_new _ _
      have HE := Lib.hid (atEnd_any (hst.up hA2))
      have H2 := Lib.hid (And.intro (hst.up hA2) (And.intro (hBW2.trans (hA2.mono hBW2.size)) (And.intro (hR2.keep hA2) (And.intro hRb (And.intro (htv.up (TmK.of_below hA2) (Nat.le_refl _)) (hnm.up hA2))))))
      have HTS := Lib.hid (And.intro ht hszt)
      have hsz3 : (w2.alloc (.cells #[.int .i64 a0, .int .i64 a1, .string a2, .slice a3 am a4, .slice na st2.ns.length nc] 86)).heap.size = w2.heap.size + 1 := by simp
      have HSZ := Lib.hid hsz3
      clear hst hnm hkp hsz2 htv hR2 hBW2 hA2 hRb ht hszt hsz3
      go_wp2_with fail
      generalize w2.alloc (.cells #[.int .i64 a0, .int .i64 a1, .string a2, .slice a3 am a4, .slice na st2.ns.length nc] 86) = W3 at *
      refine (HE.out).mono ?_
      rintro e w4 ⟨rfl, hB4⟩
      have hst4 := H2.out.1.up hB4
      have hBW4 := H2.out.2.1.trans (hB4.mono H2.out.2.1.size)
      by_cases hend : st2.i = xs.length
      · have hd : Hid (decide (st2.i = xs.length) = true) := decide_eq_true hend
        rw [hd.out]
        have hR4 := H2.out.2.2.1.keep hB4
        have hRb4 := H2.out.2.2.2.1.keep hB4
        have htv4 := H2.out.2.2.2.2.1.up (TmK.of_below hB4) (Nat.le_refl _)
        have hnm4 := H2.out.2.2.2.2.2.up hB4
        have q0 := hRb4.cell 0
        have q1 := hRb4.cell 1
        have q2 := hRb4.cell 2
        have q3 := hRb4.cell 3
        have q4 := hRb4.cell 4
        have l4 := hRb4.lt
        simp only [List.getElem?_toArray, List.getElem?_cons_succ, List.getElem?_cons_zero] at q0 q1 q2 q3 q4
        have hA5 : Below w4.heap.size w4 (w4.alloc (.cells #[.int .i64 a0, .int .i64 a1, .string a2, .slice a3 am a4, .slice na st2.ns.length nc] 86)) := below_a1 (Nat.le_refl _) _
        have hbk : Box (w4.alloc (.cells #[.int .i64 a0, .int .i64 a1, .string a2, .slice a3 am a4, .slice na st2.ns.length nc] 86)) w4.heap.size #[.int .i64 a0, .int .i64 a1, .string a2, .slice a3 am a4, .slice na st2.ns.length nc] 86 := World.alloc_heap_new _ _
        have htv5 := htv4.up (TmK.of_below hA5) (Nat.le_refl _)
        have HLM := Lib.hid (limit_any [t] w4.heap.size 0 1 (w4.alloc (.cells #[.int .i64 a0, .int .i64 a1, .string a2, .slice a3 am a4, .slice na st2.ns.length nc] 86)) (fun i hi => by
          obtain rfl : i = 0 := by simpa using hi
          exact ⟨a0, a1, a2, a3, am, a4, na, st2.ns.length, nc, hbk.cell 0, hbk.cell 1, hbk.cell 2, hbk.cell 3, hbk.cell 4, TN.toT htv5, by have h1 := deep_le_size t; have h2 := HTS.out.2; show t.deep ≤ _; omega⟩) hbk.lt (by simp))
        have H5 := Lib.hid (And.intro (hBW4.trans (hA5.mono hBW4.size)) (And.intro (hR4.keep hA5) (And.intro (hRb4.keep hA5) (And.intro htv5 (hnm4.up hA5)))))
        clear hst4 hBW4 hR4 hRb4 htv4 hnm4 hA5 hbk htv5 hB4
        go_wp2_with fail
        generalize w4.alloc (.cells #[.int .i64 a0, .int .i64 a1, .string a2, .slice a3 am a4, .slice na st2.ns.length nc] 86) = W5 at *
        refine (HLM.out).mono ?_
        rintro e w6 ⟨hB6, hQ6⟩
        have hBW6 := H5.out.1.trans (hB6.mono H5.out.1.size)
        cases hb : isB t with
        | false =>
          rw [show [t].all isB = false by simp [hb]] at hQ6
          obtain rfl : e = thrown 0 2 := hQ6
          refine And.intro rfl ?_
          have hp : parR s = .error (0, 2) := by rw [parR, HL.out.1]; simp only [HTS.out.1, hend, if_true, hb]; rfl
          refine ⟨hBW6, ?_⟩
          rw [hp]
          rfl
        | true =>
          rw [show [t].all isB = true by simp [hb]] at hQ6
          obtain rfl : e = .returned (.tuple #[]) := hQ6
          have hp : Hid (parR s = .ok (t, st2.ns)) := by rw [Hid, parR, HL.out.1]; simp only [HTS.out.1, hend, if_true, hb]
          have hR6 := H5.out.2.1.keep hB6
          have hRb6 := H5.out.2.2.1.keep hB6
          have htv6 := H5.out.2.2.2.1.up (TmK.of_below hB6) (Nat.le_refl _)
          have hnm6 := H5.out.2.2.2.2.up hB6
          clear q0 q1 q2 q3 q4
          have q0 := hRb6.cell 0
          have q1 := hRb6.cell 1
          have q2 := hRb6.cell 2
          have q3 := hRb6.cell 3
          have q4 := hRb6.cell 4
          have p0 := hR6.cell 0
          have p1 := hR6.cell 1
          have p2 := hR6.cell 2
          have p3 := hR6.cell 3
          have p4 := hR6.cell 4
          have z0 := hR6.frozen 0
          have z1 := hR6.frozen 1
          have z2 := hR6.frozen 2
          have z3 := hR6.frozen 3
          have z4 := hR6.frozen 4
          have l6 := hRb6.lt
          have l7 := hR6.lt
          simp only [List.getElem?_toArray, List.getElem?_cons_succ, List.getElem?_cons_zero] at q0 q1 q2 q3 q4 p0 p1 p2 p3 p4
          have H6 := Lib.hid (And.intro hBW6 (And.intro hR6 (And.intro htv6 hnm6)))
          clear hb hB6 hBW6 hR6 hRb6 htv6 hnm6
          go_wp2_with fail
          have hk : ∀ k, k ≠ W.heap.size → (((((w6.setCell ⟨W.heap.size, 0, none⟩ (.int .i64 a0)).setCell ⟨W.heap.size, 1, none⟩ (.int .i64 a1)).setCell ⟨W.heap.size, 2, none⟩ (.string a2)).setCell ⟨W.heap.size, 3, none⟩ (.slice a3 am a4)).setCell ⟨W.heap.size, 4, none⟩ (.slice na st2.ns.length nc)).heap[k]? = w6.heap[k]? := fun k h => by
            rw [Below.heap_setCell _ _ _ _ h, Below.heap_setCell _ _ _ _ h, Below.heap_setCell _ _ _ _ h, Below.heap_setCell _ _ _ _ h, Below.heap_setCell _ _ _ _ h]
          have hbF := ((((H6.out.2.1.set 0 (.int .i64 a0)).set 1 (.int .i64 a1)).set 2 (.string a2)).set 3 (.slice a3 am a4)).set 4 (.slice na st2.ns.length nc)
          have hbel := (show Below W.heap.size W (((((w6.setCell ⟨W.heap.size, 0, none⟩ (.int .i64 a0)).setCell ⟨W.heap.size, 1, none⟩ (.int .i64 a1)).setCell ⟨W.heap.size, 2, none⟩ (.string a2)).setCell ⟨W.heap.size, 3, none⟩ (.slice a3 am a4)).setCell ⟨W.heap.size, 4, none⟩ (.slice na st2.ns.length nc)) from (((((H6.out.1.setCell (p := ⟨W.heap.size, 0, none⟩) (Nat.le_refl _) (.int .i64 a0)).setCell (p := ⟨W.heap.size, 1, none⟩) (Nat.le_refl _) (.int .i64 a1)).setCell (p := ⟨W.heap.size, 2, none⟩) (Nat.le_refl _) (.string a2)).setCell (p := ⟨W.heap.size, 3, none⟩) (Nat.le_refl _) (.slice a3 am a4)).setCell (p := ⟨W.heap.size, 4, none⟩) (Nat.le_refl _) (.slice na st2.ns.length nc)))
          generalize ((((w6.setCell ⟨W.heap.size, 0, none⟩ (.int .i64 a0)).setCell ⟨W.heap.size, 1, none⟩ (.int .i64 a1)).setCell ⟨W.heap.size, 2, none⟩ (.string a2)).setCell ⟨W.heap.size, 3, none⟩ (.slice a3 am a4)).setCell ⟨W.heap.size, 4, none⟩ (.slice na st2.ns.length nc) = FW at *
          have y0 := hbF.cell 0
          have y1 := hbF.cell 1
          have y2 := hbF.cell 2
          have y3 := hbF.cell 3
          have y4 := hbF.cell 4
          simp only [List.setIfInBounds_toArray, List.set_cons_zero, List.set_cons_succ, List.getElem?_toArray, List.getElem?_cons_succ, List.getElem?_cons_zero] at y0 y1 y2 y3 y4
          refine bodyPost_ret (v := .agg #[.int .i64 a0, .int .i64 a1, .string a2, .slice a3 am a4, .slice na st2.ns.length nc]) (by simp [results, Tryz.results63, go_sem, y0, y1, y2, y3, y4]) rfl ⟨hbel, ?_⟩
          rw [hp.out]
          have ht6 := (H6.out.2.2.1.far (W' := FW) (fun b hb _ => hk b (by omega))).up (TmK.refl _) (show lo ≤ w1.heap.size by omega)
          have hn6 := H6.out.2.2.2
          exact ⟨_, rfl, t, st2.ns, a0, a1, a2, a3, am, a4, _, hp.out, rfl, ht6, (hn6.block (fun b hb => hk b (fun e => by
            obtain ⟨h1, _⟩ := own_typed hn6.own hb
            omega))).lower (by omega)⟩
      · have hd : Hid (decide (st2.i = xs.length) = false) := decide_eq_false hend
        rw [hd.out]
        have HTM := Lib.hid (tooMuch_any hst4 HL.out.2)
        have HB4 := Lib.hid hBW4
        have hp : Hid (parR s = .error (((plc s.size xs st2.i : Nat) : Int), 21)) := by rw [Hid, parR, HL.out.1]; simp only [HTS.out.1, if_neg hend]
        clear hst4 hBW4 hB4
        go_wp2_with fail
        refine (HTM.out).mono ?_
        rintro e w5 ⟨rfl, hb⟩
        refine And.intro rfl ?_
        refine ⟨HB4.out.trans (hb.mono HB4.out.size), ?_⟩
        rw [hp.out]
        rfl
end Go.Proofs.YthfciekhmbfmfaaGreatDoor

/- What texts with two operators between three atoms are read as: all of them, reckoned. -/
namespace Go.Proofs.YthfciekhmbfmfaaGreatDoor
open Go.RowKit Go Go.Maps

mutual
/-- Are two trees the same? -/
def trB : Tr → Tr → Bool
  | .node k n s l, .node k' n' s' l' => decide (k = k') && (decide (n = n') && (decide (s.data.toList = s'.data.toList) && trBL l l'))
def trBL : List Tr → List Tr → Bool
  | [], [] => true
  | t :: ts, u :: us => trB t u && trBL ts us
  | _, _ => false
end
mutual
theorem trB_eq : ∀ T U : Tr, trB T U = true → T = U
  | .node k n s l, .node k' n' s' l', h => by
    simp only [trB, Bool.and_eq_true, decide_eq_true_eq] at h
    obtain ⟨h1, h2, h3, h4⟩ := h
    subst h1 h2
    rw [trBL_eq l l' h4, bytes_eq h3]
theorem trBL_eq : ∀ l l' : List Tr, trBL l l' = true → l = l'
  | [], [], _ => rfl
  | t :: ts, u :: us, h => by
    simp only [trBL, Bool.and_eq_true] at h
    rw [trB_eq t u h.1, trBL_eq ts us h.2]
  | [], _ :: _, h => by simp [trBL] at h
  | _ :: _, [], h => by simp [trBL] at h
end
/-- The text is read as the tree. -/
def rdB (s : List UInt8) (T : Tr) : Bool := match parR (nm s) with | .ok (t, _) => trB t T | .error _ => false
theorem rdB_ok {s : List UInt8} {T : Tr} (h : rdB s T = true) : ∃ ns, parR (nm s) = .ok (T, ns) := by
  unfold rdB at h
  cases hp : parR (nm s) with
  | error x => rw [hp] at h; cases h
  | ok x =>
    obtain ⟨t, ns⟩ := x
    rw [hp] at h
    exact ⟨ns, by rw [trB_eq t T h]⟩
/-- The text has this error. -/
def erB (s : List UInt8) (a e : Int) : Bool := match parR (nm s) with | .ok _ => false | .error x => decide (x.1 = a) && decide (x.2 = e)
theorem erB_ok {s : List UInt8} {a e : Int} (h : erB s a e = true) : parR (nm s) = .error (a, e) := by
  unfold erB at h
  cases hp : parR (nm s) with
  | ok x => rw [hp] at h; cases h
  | error x =>
    rw [hp] at h
    simp only [Bool.and_eq_true, decide_eq_true_eq] at h
    obtain ⟨x1, x2⟩ := x
    rw [← h.1, ← h.2]
def tAt (s : List UInt8) : Tr := .node 3 0 (nm s) []
def tIn (n : Int) : Tr := .node 2 n (nm []) []
def tVr (n : Int) : Tr := .node 1 n (nm []) []
def tFn (s : List UInt8) (l : List Tr) : Tr := .node 5 0 (nm s) l
/-- The operators' names, as the law has them. -/
def opNm : List (List UInt8) := [[58, 45], [124], [44], [64], [61], [61, 61], [92, 61, 61], [61, 58, 61], [61, 92, 61], [60], [61, 60], [62], [62, 61], [58, 61], [43], [45], [42], [47], [109, 111, 100]]
def opTx (a b : List UInt8) : List UInt8 := [120, 32] ++ a ++ [32, 121, 32] ++ b ++ [32, 122]
def opLf (a b : List UInt8) : Tr := tFn b [tFn a [tAt [120], tAt [121]], tAt [122]]
def opRt (a b : List UInt8) : Tr := tFn a [tAt [120], tFn b [tAt [121], tAt [122]]]
def opTry (a b : List UInt8) : Bool :=
  infB (nm a) && infB (nm b) &&
  (if (infV (nm a)).1 < (infV (nm b)).1 ∨ ((infV (nm a)).1 = (infV (nm b)).1 ∧ (infV (nm b)).2.1 = (infV (nm b)).1) then rdB (opTx a b) (opLf a b)
   else if (infV (nm a)).1 > (infV (nm b)).1 ∨ (infV (nm a)).2.2 = (infV (nm a)).1 then rdB (opTx a b) (opRt a b)
   else erB (opTx a b) ((a.length : Int) + 5) 21)
theorem op_all : ∀ i k : Fin 19, opTry (opNm.getD i.1 []) (opNm.getD k.1 []) = true := by decide +kernel
end Go.Proofs.YthfciekhmbfmfaaGreatDoor
