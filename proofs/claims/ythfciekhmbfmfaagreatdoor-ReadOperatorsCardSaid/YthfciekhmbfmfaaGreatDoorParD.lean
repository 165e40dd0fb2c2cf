/- The parser's parts: arguments, items, elements. -/
import Derived.OwnWalk
import Derived.Test.YthfciekhmbfmfaaGreatDoorParA
namespace Go.Proofs.YthfciekhmbfmfaaGreatDoor
open Go.RowKit Go Go.Maps

theorem infoTm : (Tryz.prog.info? 31).map (fun i => (i.zero, i.size, i.bytes)) = some (some (.agg #[.int .i64 0, .int .i64 0, .string ⟨#[]⟩, .slice none 0 0]), 4, 56) := by kernel_rfl
/-- The parser's term keeps to what is told of it, as far as so much is left. -/
def TermOk (w : World) (B b1 b2 V tot : Nat) (xs : List Lx) (pv : Value) (n : Nat) : Prop := ∀ (most : Int) (st : PS) (nv : Value) (W : World), 0 ≤ most → most ≤ 10000 → PaSt w B b1 b2 V tot xs pv st nv W → xs.length < n + st.i →
  Calls Tryz.prog 110 #[.pointer (some ⟨B, 0, none⟩), .int .i64 most] W (PaQ w B b1 b2 V tot xs pv nv (st.i + 1) W (tval W.heap.size) (termN tot xs n most st))
def partV (lo : Nat) (l : List Tr) (v : Value) (W : World) : Prop := lval lo l v W ∧ l.length ≤ 8000
theorem cells_one (a0 a1 a2 : Value) (k n : Int) (s : ByteArray) (a : Option Addr) (m c : Nat) : ∀ u ∈ [Value.int .i64 k, .int .i64 n, .string s, .slice a m c], u.oneCell' = true := fun u hu => by
  simp only [List.mem_cons, List.not_mem_nil, or_false] at hu
  rcases hu with rfl | rfl | rfl | rfl <;> rfl
section
variable {w : World} {B b1 b2 V tot : Nat} {xs : List Lx} {pv nv : Value} {st : PS} {W : World} {n : Nat}
set_option maxRecDepth 100000 in
set_option maxHeartbeats 4000000 in
theorem parts_any (hT : TermOk w B b1 b2 V tot xs pv n) (h : PaSt w B b1 b2 V tot xs pv st nv W) (hx : LxOk tot xs) (hn : xs.length < n + st.i) :
    Calls Tryz.prog 211 #[.pointer (some ⟨B, 0, none⟩)] W (PaQ w B b1 b2 V tot xs pv nv (st.i + 1) W (partV W.heap.size) (partsF xs (termN tot xs n) st)) := by
  obtain ⟨i0, hi, hz0, hz1, hz2⟩ := info_parts infoTm
  have HT := Lib.hid hT
  have HX := Lib.hid hx
  have HN := Lib.hid hn
  have HH := Lib.hid h
  have hl8 := hx.len
  clear hT h
  go_enter Tryz.func211, Tryz.ntmps211
  go_wp2_with fail
  refine (HT.out 999 st nv W (by omega) (by omega) HH.out HN.out).mono ?_
  rintro e w1 hQ1
  cases hr : termN tot xs n 999 st with
  | error p =>
    rw [hr] at hQ1
    obtain ⟨rfl, hb⟩ := hQ1
    refine And.intro rfl ?_
    rw [partsF, hr]
    exact ⟨rfl, hb⟩
  | ok x =>
    obtain ⟨t, st1⟩ := x
    rw [hr] at hQ1
    obtain ⟨v, nv1, rfl, ht, h1, hT1, hi1⟩ := hQ1
    obtain ⟨a0, a1, a2, a3, am, a4, rfl⟩ := IsP.formP ht
    have hs1 := hT1.size
    have hR0 := PRow.one ht hs1
    have hP0 := h1.up (below_a1 (Nat.le_refl _) (.cells #[.int .i64 a0, .int .i64 a1, .string a2, .slice a3 am a4] 31))
    have hT0 := hT1.trans (PaTo.up (B := B) (V := V) (nv := nv1) (below_a1 (Nat.le_refl _) (.cells #[.int .i64 a0, .int .i64 a1, .string a2, .slice a3 am a4] 31)))
    have H0 := Lib.hid (And.intro hR0 (And.intro hP0 hT0))
    have HR : Hid (partsF xs (termN tot xs n) st = partsN xs (termN tot xs n) (xs.length + 1 - st1.i) [t] st1) := by rw [Hid, partsF, hr]
    clear ht h1 hT1 hR0 hP0 hT0 hr
    go_wp2_with fail
    have hi1x := H0.out.2.1.hi
    go_loopw [3] (fun ov wr => ∃ (acc : List Tr) (ys : List Value) (st' : PS) (nv' : Value) (k g c : Nat), ov = .slice (some ⟨g, 0, none⟩) acc.length c ∧ PaSt w B b1 b2 V tot xs pv st' nv' wr ∧ PaTo B V nv nv' W wr ∧ PRow W.heap.size wr acc ov ys ∧ acc.length ≤ st'.i ∧ st.i + 1 ≤ st'.i ∧ xs.length < k + st'.i ∧ Hid (partsF xs (termN tot xs n) st = partsN xs (termN tot xs n) k acc st')) (fun _ wr => xs.length + 1 - (intOf ((wr.cell? ⟨B, 1, none⟩).getD (.int .i64 0))).toNat)
    case atStart => exact ⟨[t], _, st1, nv1, _, _, _, rfl, H0.out.2.1, H0.out.2.2, H0.out.1, by simp; omega, hi1, by omega, HR⟩
    case round =>
      obtain ⟨acc, ys, st', nv', k, g, c, rfl, h2, hT2, hR2, hal, hsi, hk, HR2⟩ := hrel
      have hix := h2.hi
      have c1 := h2.box.cell 1
      simp only [List.getElem?_toArray, List.getElem?_cons_succ, List.getElem?_cons_zero] at c1
      have HS := Lib.hid (skip_any h2 HX.out [44])
      have H2 := Lib.hid (And.intro h2 (And.intro hT2 hR2))
      clear h2 hT2 hR2
      cases hb : isSg (tokAt xs st'.i) [44] with
      | false =>
        have HE : Hid (partsF xs (termN tot xs n) st = .ok (acc, st') ∧ skp xs [44] st' = st') := by
          obtain ⟨k', rfl⟩ : ∃ k', k = k' + 1 := ⟨k - 1, by omega⟩
          refine ⟨by rw [HR2.out, partsN, hb]; rfl, by rw [skp, hb]; rfl⟩
        have HBB := Lib.hid hb
        clear hb
        go_wp2_with fail
        refine (HS.out).mono ?_
        rintro e w2 ⟨rfl, h3, hT3⟩
        rw [HBB.out]
        rw [HE.out.2] at h3
        have H3 := Lib.hid (And.intro h3 hT3)
        clear h3 hT3
        go_wp2_with fail
        go_ret
        rw [HE.out.1]
        exact ⟨_, nv', rfl, ⟨(H2.out.2.2.up (PaTo.tk H2.out.1 H3.out.2)).done, by omega⟩, H3.out.1, H2.out.2.1.trans H3.out.2, hsi⟩
      | true =>
        have hlt := isSg_lt hb
        obtain ⟨k', rfl⟩ : ∃ k', k = k' + 1 := ⟨k - 1, by omega⟩
        have HSK : Hid (skp xs [44] st' = ⟨st'.i + 1, st'.ns⟩) := by rw [Hid, skp, hb]; rfl
        have HBB := Lib.hid hb
        clear hb
        go_wp2_with fail
        refine (HS.out).mono ?_
        rintro e w2 ⟨rfl, h3, hT3⟩
        rw [HBB.out]
        rw [HSK.out] at h3
        have HC := Lib.hid (HT.out 999 ⟨st'.i + 1, st'.ns⟩ nv' w2 (by omega) (by omega) h3 (by show xs.length < n + (st'.i + 1); have := HN.out; omega))
        have H3 := Lib.hid (And.intro h3 hT3)
        clear h3 hT3
        go_wp2_with fail
        refine (HC.out).mono ?_
        rintro e w3 hQ3
        cases hr3 : termN tot xs n 999 ⟨st'.i + 1, st'.ns⟩ with
        | error p =>
          rw [hr3] at hQ3
          obtain ⟨rfl, hb⟩ := hQ3
          refine And.intro rfl ?_
          rw [HR2.out, partsN, HBB.out]
          simp only [if_true, hr3]
          exact ⟨rfl, hb⟩
        | ok x =>
          obtain ⟨t3, st3⟩ := x
          rw [hr3] at hQ3
          obtain ⟨v3, nv3, rfl, ht3, h4, hT4, hi4⟩ := hQ3
          have HR3 : Hid (partsF xs (termN tot xs n) st = partsN xs (termN tot xs n) k' (acc ++ [t3]) st3) := by rw [Hid, HR2.out, partsN, HBB.out]; simp only [if_true, hr3]
          obtain ⟨e0, e1, e2, e3, em, e4, rfl⟩ := IsP.formP ht3
          have hTr3 := PaTo.tk H2.out.1 H3.out.2
          have hTr4 := PaTo.tk H3.out.1 hT4
          have hR4 := (H2.out.2.2.up hTr3).up hTr4
          have hown := hR4.own
          have htb : IsP (TB W.heap.size (.slice (some ⟨g, 0, none⟩) acc.length c) w3) w3 t3 (.agg #[.int .i64 e0, .int .i64 e1, .string e2, .slice e3 em e4]) := TB.new (H2.out.2.2.up hTr3) (Nat.le_refl _) (by have := H2.out.2.1.size; have := H3.out.2.size; omega) ht3
          have hgl := own_typed hown (b := g) rfl
          have h4x := h4.hi
          have hTW : PaTo B V nv nv3 W w3 := (H2.out.2.1.trans H3.out.2).trans hT4
          have hw3 := hTW.size
          have hwW := HH.out.below.size
          have H4 := Lib.hid (And.intro h4 (And.intro hTW (And.intro hR4 (And.intro htb hgl))))
          have hi4' : st'.i + 1 + 1 ≤ st3.i := hi4
          clear h4 hT4 hR4 htb hgl hTW ht3 hr3 hTr3 hTr4 hi4
          go_wp2_with (at_builtin; go_loud (refine wpList_append_lies _ rfl _ _ 29 rfl W.heap.size 31 i0 _ 4 56 Tryz.underlying29 hi hz0 hz1 hz2 rfl (by decide) _ acc.length ys rfl (World.ownsRow.alloc hown _) ⟨w3.heap.size, 0, none⟩ 1 1 [.int .i64 e0, .int .i64 e1, .string e2, .slice e3 em e4] rfl rfl (World.news_of_block (cs := #[.int .i64 e0, .int .i64 e1, .string e2, .slice e3 em e4]) (heap_alloc_new w3 _)) (cells_one .nilIface .nilIface .nilIface _ _ _ _ _ _) (by decide) (by unfold maxLen; omega) (by omega) (by simp; omega) (w3.heap.size + 1) (by simp) ?_))
          intro g4 c4 w4 hown4 hgrow hat hlt4
          have hR5 := H4.out.2.2.1.push H4.out.2.2.2.1 hown4 hgrow (hat.imp id (fun e => by omega))
          have hgg : ∀ j, (Value.slice (some ⟨g, 0, none⟩) acc.length c).ownBlock = some j → w.heap.size ≤ j ∧ ∃ cc fr, (w3.alloc (.cells #[.int .i64 e0, .int .i64 e1, .string e2, .slice e3 em e4] 31)).heap[j]? = some (Obj.cells cc 31 fr) := fun j hj => by
            obtain ⟨g1, cc, fr, g2⟩ := own_typed hown hj
            exact ⟨by omega, cc, fr, (Below.heap_alloc w3 _ j (Array.getElem?_eq_some_iff.1 g2).1).trans g2⟩
          have hP5 := (H4.out.1.up (below_a1 (Nat.le_refl _) (.cells #[.int .i64 e0, .int .i64 e1, .string e2, .slice e3 em e4] 31))).grown hgrow hgg
          have hT5 := (H4.out.2.1.trans (PaTo.up (B := B) (V := V) (nv := nv3) (below_a1 (Nat.le_refl _) (.cells #[.int .i64 e0, .int .i64 e1, .string e2, .slice e3 em e4] 31)))).grown hgrow (fun j hj => (own_typed hown hj).1)
          have H5 := Lib.hid (And.intro hR5 (And.intro hP5 hT5))
          have d1 := hP5.box.cell 1
          simp only [List.getElem?_toArray, List.getElem?_cons_succ, List.getElem?_cons_zero] at d1
          clear hR5 hP5 hT5 hgg hown4 hgrow hat hown
          go_wp2_with fail
          go_roundw
          case rel => exact ⟨acc ++ [t3], _, st3, nv3, k', g4, c4, by simp, H5.out.2.1, H5.out.2.2, H5.out.1, by simp; omega, by omega, by omega, HR3⟩
          case measure => simp only [c1, d1, Option.getD_some, intOf, Int.toNat_natCast]; omega
end
end Go.Proofs.YthfciekhmbfmfaaGreatDoor

/- The parser's plain: an atom, or a structure with its arguments. -/
namespace Go.Proofs.YthfciekhmbfmfaaGreatDoor
open Go.RowKit Go Go.Maps

/-- A struct of four cells is written. -/
def set4 (W : World) (R : Nat) (a0 a1 a2 a3 : Value) : World := (((W.setCell ⟨R, 0, none⟩ a0).setCell ⟨R, 1, none⟩ a1).setCell ⟨R, 2, none⟩ a2).setCell ⟨R, 3, none⟩ a3
theorem set4_block (W : World) (R : Nat) (a0 a1 a2 a3 : Value) (b : Nat) (h : b ≠ R) : (set4 W R a0 a1 a2 a3).heap[b]? = W.heap[b]? := by
  unfold set4
  rw [Below.heap_setCell _ _ _ _ h, Below.heap_setCell _ _ _ _ h, Below.heap_setCell _ _ _ _ h, Below.heap_setCell _ _ _ _ h]
theorem set4_grown (W : World) (R : Nat) (a0 a1 a2 a3 : Value) : W.grownBy (set4 W R a0 a1 a2 a3) (some R) :=
  ⟨rfl, rfl, rfl, by simp [set4], fun k _ hk => set4_block _ _ _ _ _ _ _ (fun e => hk (by rw [e]))⟩
theorem Box.set4 {W : World} {R : Nat} {b0 b1 b2 b3 : Value} {t : TypeId} (h : Box W R #[b0, b1, b2, b3] t) (a0 a1 a2 a3 : Value) : Box (set4 W R a0 a1 a2 a3) R #[a0, a1, a2, a3] t := (((h.set 0 a0).set 1 a1).set 2 a2).set 3 a3
theorem tval.set4 {lo R : Nat} {t : Tr} {v : Value} {W : World} (h : tval lo t v W) (hR : R < lo) (a0 a1 a2 a3 : Value) : tval lo t v (set4 W R a0 a1 a2 a3) :=
  IsP.map (fun b hb => by
    have h1 := set4_block W R a0 a1 a2 a3 b (by have := hb.1; omega)
    obtain ⟨h2, c, fr, h3⟩ := hb
    exact ⟨⟨h2, c, fr, h1.trans h3⟩, h1⟩) _ _ h
theorem tval.leaf {lo : Nat} {W : World} {k n : Int} {s : ByteArray} (hk : okI k) (hn : okI n) (hs : s.size ≤ 1000) {a : Option Addr} {c : Nat} (hc : c ≤ maxLen) : tval lo (.node k n s []) (.agg #[.int .i64 k, .int .i64 n, .string s, .slice a 0 c]) W :=
  IsP.mk (l := []) hk hn (by unfold maxLen; omega) (Nat.zero_le _) hc IsPL.nil
section
variable {w : World} {B b1 b2 V tot : Nat} {xs : List Lx} {pv nv : Value} {st : PS} {W : World} {n : Nat}
/-- A box of a term of the function's own is written. -/
theorem PaSt.put (h : PaSt w B b1 b2 V tot xs pv st nv W) {R : Nat} {cs : Array Value} (hR : Box W R cs 31) (hw : w.heap.size ≤ R) (a0 a1 a2 a3 : Value) : PaSt w B b1 b2 V tot xs pv st nv (set4 W R a0 a1 a2 a3) :=
  h.grown (set4_grown _ _ _ _ _ _) (fun g e => by cases e; exact ⟨hw, _, _, hR⟩)
theorem PaTo.put {nv' : Value} {W1 : World} (h : PaTo B V nv nv' W W1) {R : Nat} (hw : W.heap.size ≤ R) (a0 a1 a2 a3 : Value) : PaTo B V nv nv' W (set4 W1 R a0 a1 a2 a3) :=
  h.grown (set4_grown _ _ _ _ _ _) (fun g e => by cases e; exact hw)
theorem PaSt.ne (h : PaSt w B b1 b2 V tot xs pv st nv W) : ¬ W.heap.size = B ∧ ¬ B = W.heap.size := by
  have := h.box.lt
  exact ⟨by omega, by omega⟩
set_option maxRecDepth 100000 in
set_option maxHeartbeats 4000000 in
theorem plain_any (hT : TermOk w B b1 b2 V tot xs pv n) (h : PaSt w B b1 b2 V tot xs pv st nv W) (hx : LxOk tot xs) (hn : xs.length < n + (st.i + 1)) (hlt : st.i < xs.length) (name : List UInt8) (hnm : name.length ≤ 255) :
    Calls Tryz.prog 191 #[.pointer (some ⟨B, 0, none⟩), sV name] W (PaQ w B b1 b2 V tot xs pv nv (st.i + 1) W (tval W.heap.size) (plainF tot xs (termN tot xs n) name st)) := by
  have HT := Lib.hid hT
  have HX := Lib.hid hx
  have HN := Lib.hid hn
  have hl8 := hx.len
  obtain ⟨hne1, hne2⟩ := h.ne
  have hR0 : Box (W.alloc (.cells #[.int .i64 0, .int .i64 0, .string ⟨#[]⟩, .slice none 0 0] 31)) W.heap.size #[.int .i64 0, .int .i64 0, .string ⟨#[]⟩, .slice none 0 0] 31 := World.alloc_heap_new _ _
  have hA := below_a1 (Nat.le_refl W.heap.size) (.cells #[.int .i64 0, .int .i64 0, .string ⟨#[]⟩, .slice none 0 0] 31)
  have h0 := h.up hA
  have hT0 := PaTo.up (B := B) (V := V) (nv := nv) hA
  have hwW := h.below.size
  have HO := Lib.hid (opens_any h0 hx)
  obtain ⟨i1, hi1⟩ : ∃ i1, st.i + 1 = i1 := ⟨_, rfl⟩
  have hi2 : ((st.i : Int) + 1) = (i1 : Int) := by omega
  have hwr : IntKind.i64.wrap (i1 : Int) = (i1 : Int) := by rw [IntKind.wrap_i64]; omega
  have HI := Lib.hid hi1
  have H0 := Lib.hid (And.intro h0 (And.intro hT0 hR0))
  have HA := Lib.hid hA
  cases hb : isSg (glue xs st.i) [40] with
  | false =>
    have HP : Hid (plainF tot xs (termN tot xs n) name st = .ok (atm name, ⟨i1, st.ns⟩)) := by rw [Hid, plainF, hb, ← hi1]; rfl
    have HBB := Lib.hid hb
    clear hT h hb h0 hT0 hR0 hA hi1
    go_enter Tryz.func191, Tryz.ntmps191
    go_wp2_with fail
    refine (HO.out).mono ?_
    rintro e w1 ⟨rfl, B1⟩
    rw [HBB.out]
    have h1 := H0.out.1.up B1
    have hR1 := H0.out.2.2.keep B1
    have hS := h1.setAt i1 (by have := HI.out; omega) (by have := HI.out; omega)
    have hT1 := (H0.out.2.1.trans (PaTo.up (B := B) (V := V) (nv := nv) B1)).trans hS.2
    have hR2 := hR1.other (fun e => hne1 e) 1 (.int .i64 (i1 : Int))
    have c1 := h1.box.cell 1
    have f1 := h1.box.frozen 1
    have l0 := h1.box.lt
    have q0 := hR1.cell 0
    have q1 := hR1.cell 1
    have q2 := hR1.cell 2
    have q3 := hR1.cell 3
    have f4 := hR1.frozen 0
    have f5 := hR1.frozen 1
    have f6 := hR1.frozen 2
    have f7 := hR1.frozen 3
    have l1 := hR1.lt
    simp only [List.getElem?_toArray, List.getElem?_cons_succ, List.getElem?_cons_zero] at c1 q0 q1 q2 q3
    have H1 := Lib.hid (And.intro hS.1 (And.intro hT1 hR2))
    clear h1 hR1 hS hT1 hR2 B1
    go_wp2_with fail
    have hf1 := H1.out.1.put H1.out.2.2 (by omega) (.int .i64 3) (.int .i64 0) (sV name) (.slice none 0 0)
    have hf2 := H1.out.2.1.put (Nat.le_refl _) (.int .i64 3) (.int .i64 0) (sV name) (.slice none 0 0)
    have hf3 := H1.out.2.2.set4 (.int .i64 3) (.int .i64 0) (sV name) (.slice none 0 0)
    unfold set4 at hf1 hf2 hf3
    generalize ((((w1.setCell ⟨B, 1, none⟩ (.int .i64 (i1 : Int))).setCell ⟨W.heap.size, 0, none⟩ (.int .i64 3)).setCell ⟨W.heap.size, 1, none⟩ (.int .i64 0)).setCell ⟨W.heap.size, 2, none⟩ (sV name)).setCell ⟨W.heap.size, 3, none⟩ (.slice none 0 0) = FW at *
    have y0 := hf3.cell 0
    have y1 := hf3.cell 1
    have y2 := hf3.cell 2
    have y3 := hf3.cell 3
    simp only [List.getElem?_toArray, List.getElem?_cons_succ, List.getElem?_cons_zero] at y0 y1 y2 y3
    refine bodyPost_ret (v := .agg #[.int .i64 3, .int .i64 0, sV name, .slice none 0 0]) (by simp [results, Tryz.results191, go_sem, y0, y1, y2, y3]) rfl ?_
    rw [HP.out]
    exact ⟨_, nv, rfl, tval.leaf (by unfold okI; omega) (by unfold okI; omega) (by show name.toArray.size ≤ _; simp; omega) (by unfold maxLen; omega), hf1, hf2, by rw [HI.out]; exact Nat.le_refl _⟩
  | true =>
    obtain ⟨hg1, hg2⟩ := isSg_glue hb
    obtain ⟨i2, hi3⟩ : ∃ i2, i1 + 1 = i2 := ⟨_, rfl⟩
    have HS1 : Hid (signF tot xs [40] ⟨i1, st.ns⟩ = .ok ⟨i2, st.ns⟩) := by rw [Hid, signF, ← hi3, ← hi1, hg2]; rfl
    have HP : Hid (plainF tot xs (termN tot xs n) name st = match partsF xs (termN tot xs n) ⟨i2, st.ns⟩ with | .error e => .error e | .ok (l, st') => match signF tot xs [41] st' with | .error e => .error e | .ok st2 => .ok (fn name l, st2)) := by rw [Hid, plainF, hb, ← hi3, ← hi1]; rfl
    have HJ := Lib.hid (And.intro hi3 hg1)
    have HBB := Lib.hid hb
    have HNM := Lib.hid hnm
    clear hT h hb h0 hT0 hR0 hA hi1 hi3 hg1 hg2 hnm
    go_enter Tryz.func191, Tryz.ntmps191
    go_wp2_with fail
    refine (HO.out).mono ?_
    rintro e w1 ⟨rfl, B1⟩
    rw [HBB.out]
    have h1 := H0.out.1.up B1
    have hR1 := H0.out.2.2.keep B1
    have hS := h1.setAt i1 (by have := HI.out; omega) (by have := HI.out; omega)
    have hT1 := (H0.out.2.1.trans (PaTo.up (B := B) (V := V) (nv := nv) B1)).trans hS.2
    have hR2 := hR1.other (fun e => hne1 e) 1 (.int .i64 (i1 : Int))
    have c1 := h1.box.cell 1
    have f1 := h1.box.frozen 1
    have l0 := h1.box.lt
    simp only [List.getElem?_toArray, List.getElem?_cons_succ, List.getElem?_cons_zero] at c1
    have H1 := Lib.hid (And.intro hS.1 (And.intro hT1 hR2))
    clear h1 hR1 hS hT1 hR2 B1
    go_wp2_with fail
    refine (sign_any H1.out.1 HX.out [40]).mono ?_
    rintro e w2 hQ2
    rw [HS1.out] at hQ2
    obtain ⟨v2, nv2, rfl, rfl, h2, hT2, -⟩ := hQ2
    have hR3 := PaTo.box H1.out.1 hT2 H1.out.2.2 (by decide) (by decide)
    have H2 := Lib.hid (And.intro h2 (And.intro (H1.out.2.1.trans hT2) hR3))
    clear h2 hT2 hR3 c1 f1 l0
    go_wp2_with fail
    have hn2 : xs.length < n + (⟨i2, st.ns⟩ : PS).i := by have h3 := HN.out; have h4 := HI.out; have h5 := HJ.out.1; show xs.length < n + i2; omega
    refine (parts_any HT.out H2.out.1 HX.out hn2).mono ?_
    rintro e w3 hQ3
    cases hr : partsF xs (termN tot xs n) ⟨i2, st.ns⟩ with
    | error p =>
      rw [hr] at hQ3
      obtain ⟨rfl, hb⟩ := hQ3
      refine And.intro rfl ?_
      rw [HP.out, hr]
      exact ⟨rfl, hb⟩
    | ok x =>
      obtain ⟨l, st3⟩ := x
      rw [hr] at hQ3
      obtain ⟨v3, nv3, rfl, ⟨hl, hl8k⟩, h3, hT3, hi4⟩ := hQ3
      obtain ⟨la, lc, rfl, hlc, hlm, -⟩ := id hl
      have hR4 := PaTo.box H2.out.1 hT3 H2.out.2.2 (by decide) (by decide)
      have H3 := Lib.hid (And.intro h3 (And.intro (H2.out.2.1.trans hT3) (And.intro hR4 hl)))
      have HR := Lib.hid hr
      have hi4' : i2 + 1 ≤ st3.i := hi4
      have hw23 := hT3.size
      have hw2s : W.heap.size + 1 ≤ w2.heap.size := by have := H2.out.2.2.lt; omega
      clear h3 hT3 hR4 hl hr hi4
      go_wp2_with fail
      refine (sign_any H3.out.1 HX.out [41]).mono ?_
      rintro e w4 hQ4
      cases hs4 : signF tot xs [41] st3 with
      | error p =>
        rw [hs4] at hQ4
        obtain ⟨rfl, hb⟩ := hQ4
        refine And.intro rfl ?_
        rw [HP.out, HR.out]
        simp only [hs4]
        exact ⟨rfl, hb⟩
      | ok st4 =>
        rw [hs4] at hQ4
        obtain ⟨v4, nv4, rfl, rfl, h4, hT4, hi5⟩ := hQ4
        have hR5 := PaTo.box H3.out.1 hT4 H3.out.2.2.1 (by decide) (by decide)
        have hl4 := H3.out.2.2.2.up (PaTo.tk H3.out.1 hT4) (Nat.le_refl _)
        have hw4 : w2.heap.size ≤ w4.heap.size := Nat.le_trans hw23 hT4.size
        have H4 := Lib.hid (And.intro h4 (And.intro (H3.out.2.1.trans hT4) (And.intro hR5 hl4)))
        have HS4 := Lib.hid hs4
        clear h4 hT4 hR5 hl4 hs4
        go_wp2_with fail
        refine (structure_any name HNM.out l _ w2.heap.size w4 hw4 H4.out.2.2.2).mono ?_
        rintro e w5 ⟨u, rfl, hu, hB5⟩
        obtain ⟨a0, a1, a2, a3, am, a4, rfl⟩ := IsP.formP hu
        have h5 := H4.out.1.up hB5
        have hT5 := H4.out.2.1.trans (PaTo.up (B := B) (V := V) (nv := nv4) hB5)
        have hR6 := H4.out.2.2.1.keep hB5
        have q0 := hR6.cell 0
        have q1 := hR6.cell 1
        have q2 := hR6.cell 2
        have q3 := hR6.cell 3
        have f4 := hR6.frozen 0
        have f5 := hR6.frozen 1
        have f6 := hR6.frozen 2
        have f7 := hR6.frozen 3
        have l1 := hR6.lt
        simp only [List.getElem?_toArray, List.getElem?_cons_succ, List.getElem?_cons_zero] at q0 q1 q2 q3
        have H5 := Lib.hid (And.intro h5 (And.intro hT5 (And.intro hR6 hu)))
        clear h5 hT5 hR6 hu hB5
        go_wp2_with fail
        have hf1 := H5.out.1.put H5.out.2.2.1 (by omega) (.int .i64 a0) (.int .i64 a1) (.string a2) (.slice a3 am a4)
        have hf2 := H5.out.2.1.put (Nat.le_refl _) (.int .i64 a0) (.int .i64 a1) (.string a2) (.slice a3 am a4)
        have hf3 := H5.out.2.2.1.set4 (.int .i64 a0) (.int .i64 a1) (.string a2) (.slice a3 am a4)
        have hf4 := H5.out.2.2.2.set4 (show W.heap.size < w2.heap.size by omega) (.int .i64 a0) (.int .i64 a1) (.string a2) (.slice a3 am a4)
        unfold set4 at hf1 hf2 hf3 hf4
        generalize (((w5.setCell ⟨W.heap.size, 0, none⟩ (.int .i64 a0)).setCell ⟨W.heap.size, 1, none⟩ (.int .i64 a1)).setCell ⟨W.heap.size, 2, none⟩ (.string a2)).setCell ⟨W.heap.size, 3, none⟩ (.slice a3 am a4) = FW at *
        have y0 := hf3.cell 0
        have y1 := hf3.cell 1
        have y2 := hf3.cell 2
        have y3 := hf3.cell 3
        simp only [List.getElem?_toArray, List.getElem?_cons_succ, List.getElem?_cons_zero] at y0 y1 y2 y3
        refine bodyPost_ret (v := .agg #[.int .i64 a0, .int .i64 a1, .string a2, .slice a3 am a4]) (by simp [results, Tryz.results191, go_sem, y0, y1, y2, y3]) rfl ?_
        rw [HP.out, HR.out]
        simp only [HS4.out]
        have h8 := HI.out
        have h9 := HJ.out.1
        have h10 : st3.i + 1 ≤ st4.i := hi5
        exact ⟨_, nv4, rfl, hf4.up (TmK.refl _) (by omega), hf1, hf2, by omega⟩
end
end Go.Proofs.YthfciekhmbfmfaaGreatDoor

/- The parser's vector. -/
namespace Go.Proofs.YthfciekhmbfmfaaGreatDoor
open Go.RowKit Go Go.Maps

theorem tval.far {lo : Nat} {t : Tr} {v : Value} {W W' : World} (h : tval lo t v W) (hB : ∀ b, lo ≤ b → b < W.heap.size → W'.heap[b]? = W.heap[b]?) : tval lo t v W' :=
  IsP.map (fun b hb => by
    have h1 := hB b hb.1 hb.lt
    obtain ⟨h2, c, fr, h3⟩ := hb
    exact ⟨⟨h2, c, fr, h1.trans h3⟩, h1⟩) _ _ h
theorem lval.far {lo : Nat} {l : List Tr} {v : Value} {W W' : World} (h : lval lo l v W) (hB : ∀ b, lo ≤ b → b < W.heap.size → W'.heap[b]? = W.heap[b]?) : lval lo l v W' := by
  obtain ⟨a, c, h1, h2, h3, h4⟩ := h
  exact ⟨a, c, h1, h2, h3, IsPL.map (fun b hb => by
    have h1 := hB b hb.1 hb.lt
    obtain ⟨h2, c, fr, h3⟩ := hb
    exact ⟨⟨h2, c, fr, h1.trans h3⟩, h1⟩) _ _ h4⟩
section
variable {w : World} {B b1 b2 V tot : Nat} {xs : List Lx} {pv nv : Value} {st : PS} {W : World} {n : Nat}
theorem PaSt.put1 (h : PaSt w B b1 b2 V tot xs pv st nv W) {R : Nat} {cs : Array Value} (hR : Box W R cs 31) (hw : w.heap.size ≤ R) (i : Nat) (a : Value) : PaSt w B b1 b2 V tot xs pv st nv (W.setCell ⟨R, i, none⟩ a) :=
  h.grown (gr_set R i W a) (fun g e => by cases e; exact ⟨hw, _, _, hR⟩)
theorem PaTo.put1 {nv' : Value} {W1 : World} (h : PaTo B V nv nv' W W1) {R : Nat} (hw : W.heap.size ≤ R) (i : Nat) (a : Value) : PaTo B V nv nv' W (W1.setCell ⟨R, i, none⟩ a) :=
  h.grown (gr_set R i W1 a) (fun g e => by cases e; exact hw)
set_option maxRecDepth 100000 in
set_option maxHeartbeats 4000000 in
theorem vector_any (hT : TermOk w B b1 b2 V tot xs pv n) (h : PaSt w B b1 b2 V tot xs pv st nv W) (hx : LxOk tot xs) (hn : xs.length < n + st.i) :
    Calls Tryz.prog 213 #[.pointer (some ⟨B, 0, none⟩)] W (PaQ w B b1 b2 V tot xs pv nv (st.i + 1) W (tval W.heap.size) (vecF tot xs (termN tot xs n) st)) := by
  have HT := Lib.hid hT
  have HX := Lib.hid hx
  have HN := Lib.hid hn
  have hl8 := hx.len
  obtain ⟨W0, hW0⟩ : ∃ W0, (W.alloc (.cells #[.int .i64 0, .int .i64 0, .string ⟨#[]⟩, .slice none 0 0] 31)).alloc (.cells #[.int .i64 6, .int .i64 0, .string ⟨#[]⟩, .slice none 0 0] 31) = W0 := ⟨_, rfl⟩
  have hR0 : Box W0 W.heap.size #[.int .i64 0, .int .i64 0, .string ⟨#[]⟩, .slice none 0 0] 31 := by rw [← hW0]; exact (Box.at rfl).alloc _
  have hR1 : Box W0 (W.heap.size + 1) #[.int .i64 6, .int .i64 0, .string ⟨#[]⟩, .slice none 0 0] 31 := by rw [← hW0]; exact Box.at (by simp)
  have hA : Below W.heap.size W W0 := by rw [← hW0]; exact below_a2 (Nat.le_refl _) _ _
  have h0 := h.up hA
  have hT0 := PaTo.up (B := B) (V := V) (nv := nv) hA
  have hwW := h.below.size
  have HO := Lib.hid (skip_any h0 hx [125])
  have H0 := Lib.hid (And.intro h0 (And.intro hT0 (And.intro hR0 hR1)))
  have HW0 := Lib.hid hW0
  clear hW0
  cases hb : isSg (tokAt xs st.i) [125] with
  | true =>
    have HP : Hid (vecF tot xs (termN tot xs n) st = .ok (.node 6 0 (nm []) [], ⟨st.i + 1, st.ns⟩) ∧ skp xs [125] st = ⟨st.i + 1, st.ns⟩) := ⟨by rw [vecF, hb]; rfl, by rw [skp, hb]; rfl⟩
    have HBB := Lib.hid hb
    clear hT h hb h0 hT0 hR0 hR1 hA
    go_enter Tryz.func213, Tryz.ntmps213
    go_wp2_with fail
    rw [HW0.out]
    refine (HO.out).mono ?_
    rintro e w1 ⟨rfl, h1, hT1⟩
    rw [HBB.out]
    rw [HP.out.2] at h1
    have hR2 := PaTo.box H0.out.1 hT1 H0.out.2.2.1 (by decide) (by decide)
    have hR3 := PaTo.box H0.out.1 hT1 H0.out.2.2.2 (by decide) (by decide)
    have H1 := Lib.hid (And.intro h1 (And.intro (H0.out.2.1.trans hT1) hR2))
    have q0 := hR2.cell 0
    have q1 := hR2.cell 1
    have q2 := hR2.cell 2
    have q3 := hR2.cell 3
    have f4 := hR2.frozen 0
    have f5 := hR2.frozen 1
    have f6 := hR2.frozen 2
    have f7 := hR2.frozen 3
    have l1 := hR2.lt
    have p0 := hR3.cell 0
    have p1 := hR3.cell 1
    have p2 := hR3.cell 2
    have p3 := hR3.cell 3
    have l3 := hR3.lt
    simp only [List.getElem?_toArray, List.getElem?_cons_succ, List.getElem?_cons_zero] at q0 q1 q2 q3 p0 p1 p2 p3
    clear h1 hT1 hR2 hR3
    go_wp2_with fail
    have hf1 := H1.out.1.put H1.out.2.2 (by omega) (.int .i64 6) (.int .i64 0) (.string ⟨#[]⟩) (.slice none 0 0)
    have hf2 := H1.out.2.1.put (Nat.le_refl _) (.int .i64 6) (.int .i64 0) (.string ⟨#[]⟩) (.slice none 0 0)
    have hf3 := H1.out.2.2.set4 (.int .i64 6) (.int .i64 0) (.string ⟨#[]⟩) (.slice none 0 0)
    unfold set4 at hf1 hf2 hf3
    generalize (((w1.setCell ⟨W.heap.size, 0, none⟩ (.int .i64 6)).setCell ⟨W.heap.size, 1, none⟩ (.int .i64 0)).setCell ⟨W.heap.size, 2, none⟩ (.string ⟨#[]⟩)).setCell ⟨W.heap.size, 3, none⟩ (.slice none 0 0) = FW at *
    have y0 := hf3.cell 0
    have y1 := hf3.cell 1
    have y2 := hf3.cell 2
    have y3 := hf3.cell 3
    simp only [List.getElem?_toArray, List.getElem?_cons_succ, List.getElem?_cons_zero] at y0 y1 y2 y3
    refine bodyPost_ret (v := .agg #[.int .i64 6, .int .i64 0, .string ⟨#[]⟩, .slice none 0 0]) (by simp [results, Tryz.results213, go_sem, y0, y1, y2, y3]) rfl ?_
    rw [HP.out.1]
    exact ⟨_, nv, rfl, tval.leaf (by unfold okI; omega) (by unfold okI; omega) (by decide) (by unfold maxLen; omega), hf1, hf2, Nat.le_refl _⟩
  | false =>
    have HP : Hid (vecF tot xs (termN tot xs n) st = (match partsF xs (termN tot xs n) st with | .error e => .error e | .ok (l, st1) => match signF tot xs [125] st1 with | .error e => .error e | .ok st2 => .ok (.node 6 0 (nm []) l, st2)) ∧ skp xs [125] st = st) := ⟨by rw [vecF, hb]; rfl, by rw [skp, hb]; rfl⟩
    have HBB := Lib.hid hb
    clear hT h hb h0 hT0 hR0 hR1 hA
    go_enter Tryz.func213, Tryz.ntmps213
    go_wp2_with fail
    rw [HW0.out]
    refine (HO.out).mono ?_
    rintro e w1 ⟨rfl, h1, hT1⟩
    rw [HBB.out]
    rw [HP.out.2] at h1
    have hR2 := PaTo.box H0.out.1 hT1 H0.out.2.2.1 (by decide) (by decide)
    have hR3 := PaTo.box H0.out.1 hT1 H0.out.2.2.2 (by decide) (by decide)
    have H1 := Lib.hid (And.intro h1 (And.intro (H0.out.2.1.trans hT1) (And.intro hR2 hR3)))
    have hw1s : W.heap.size + 2 ≤ w1.heap.size := by have := hR3.lt; omega
    clear h1 hT1 hR2 hR3
    go_wp2_with fail
    refine (parts_any HT.out H1.out.1 HX.out HN.out).mono ?_
    rintro e w3 hQ3
    cases hr : partsF xs (termN tot xs n) st with
    | error p =>
      rw [hr] at hQ3
      obtain ⟨rfl, hb⟩ := hQ3
      refine And.intro rfl ?_
      rw [HP.out.1, hr]
      exact ⟨rfl, hb⟩
    | ok x =>
      obtain ⟨l, st3⟩ := x
      rw [hr] at hQ3
      obtain ⟨v3, nv3, rfl, ⟨hl, hl8k⟩, h3, hT3, hi4⟩ := hQ3
      obtain ⟨la, lc, rfl, hlc, hlm, -⟩ := id hl
      have hR4 := PaTo.box H1.out.1 hT3 H1.out.2.2.1 (by decide) (by decide)
      have hR5 := PaTo.box H1.out.1 hT3 H1.out.2.2.2 (by decide) (by decide)
      have hw13 := hT3.size
      have q3 := hR5.cell 3
      have f7 := hR5.frozen 3
      have l1 := hR5.lt
      simp only [List.getElem?_toArray, List.getElem?_cons_succ, List.getElem?_cons_zero] at q3
      have hs3 := h3.put1 hR5 (by omega) 3 (.slice la l.length lc)
      have hT4 := (H1.out.2.1.trans hT3).put1 (R := W.heap.size + 1) (by omega) 3 (.slice la l.length lc)
      have hl4 := hl.far (W' := w3.setCell ⟨W.heap.size + 1, 3, none⟩ (.slice la l.length lc)) (fun b hb _ => Below.heap_setCell _ _ _ _ (by show b ≠ W.heap.size + 1; omega))
      have hR6 := hR4.other (show W.heap.size ≠ W.heap.size + 1 by omega) 3 (.slice la l.length lc)
      have hR7 := hR5.set 3 (.slice la l.length lc)
      have H3 := Lib.hid (And.intro hs3 (And.intro hT4 (And.intro hR6 (And.intro hR7 hl4))))
      have HR := Lib.hid hr
      have hi4' : st.i + 1 ≤ st3.i := hi4
      clear h3 hT3 hR4 hR5 hl hr hi4 hs3 hT4 hl4 hR6 hR7
      go_wp2_with fail
      refine (sign_any H3.out.1 HX.out [125]).mono ?_
      rintro e w4 hQ4
      cases hs4 : signF tot xs [125] st3 with
      | error p =>
        rw [hs4] at hQ4
        obtain ⟨rfl, hb⟩ := hQ4
        refine And.intro rfl ?_
        rw [HP.out.1, HR.out]
        simp only [hs4]
        exact ⟨rfl, hb⟩
      | ok st4 =>
        rw [hs4] at hQ4
        obtain ⟨v4, nv4, rfl, rfl, h4, hT4, hi5⟩ := hQ4
        have hR5 := PaTo.box H3.out.1 hT4 H3.out.2.2.1 (by decide) (by decide)
        have hR6 := PaTo.box H3.out.1 hT4 H3.out.2.2.2.1 (by decide) (by decide)
        have hl4 := H3.out.2.2.2.2.up (PaTo.tk H3.out.1 hT4) (Nat.le_refl _)
        have q0 := hR5.cell 0
        have q1 := hR5.cell 1
        have q2 := hR5.cell 2
        have q4 := hR5.cell 3
        have f4 := hR5.frozen 0
        have f5 := hR5.frozen 1
        have f6 := hR5.frozen 2
        have f8 := hR5.frozen 3
        have l4 := hR5.lt
        have p0 := hR6.cell 0
        have p1 := hR6.cell 1
        have p2 := hR6.cell 2
        have p3 := hR6.cell 3
        have l5 := hR6.lt
        simp only [List.setIfInBounds_toArray, List.set_cons_zero, List.set_cons_succ, List.getElem?_toArray, List.getElem?_cons_succ, List.getElem?_cons_zero] at q0 q1 q2 q4 p0 p1 p2 p3
        have H4 := Lib.hid (And.intro h4 (And.intro (H3.out.2.1.trans hT4) (And.intro hR5 hl4)))
        have HS4 := Lib.hid hs4
        clear h4 hT4 hR5 hR6 hl4 hs4 q3 f7 l1
        go_wp2_with fail
        have hf1 := H4.out.1.put H4.out.2.2.1 (by omega) (.int .i64 6) (.int .i64 0) (.string ⟨#[]⟩) (.slice la l.length lc)
        have hf2 := H4.out.2.1.put (Nat.le_refl _) (.int .i64 6) (.int .i64 0) (.string ⟨#[]⟩) (.slice la l.length lc)
        have hf3 := H4.out.2.2.1.set4 (.int .i64 6) (.int .i64 0) (.string ⟨#[]⟩) (.slice la l.length lc)
        have hf4 := H4.out.2.2.2.far (W' := set4 w4 W.heap.size (.int .i64 6) (.int .i64 0) (.string ⟨#[]⟩) (.slice la l.length lc)) (fun b hb _ => set4_block _ _ _ _ _ _ _ (by omega))
        unfold set4 at hf1 hf2 hf3 hf4
        generalize (((w4.setCell ⟨W.heap.size, 0, none⟩ (.int .i64 6)).setCell ⟨W.heap.size, 1, none⟩ (.int .i64 0)).setCell ⟨W.heap.size, 2, none⟩ (.string ⟨#[]⟩)).setCell ⟨W.heap.size, 3, none⟩ (.slice la l.length lc) = FW at *
        have y0 := hf3.cell 0
        have y1 := hf3.cell 1
        have y2 := hf3.cell 2
        have y3 := hf3.cell 3
        simp only [List.getElem?_toArray, List.getElem?_cons_succ, List.getElem?_cons_zero] at y0 y1 y2 y3
        refine bodyPost_ret (v := .agg #[.int .i64 6, .int .i64 0, .string ⟨#[]⟩, .slice la l.length lc]) (by simp [results, Tryz.results213, go_sem, y0, y1, y2, y3]) rfl ?_
        rw [HP.out.1, HR.out]
        simp only [HS4.out]
        have h10 : st3.i + 1 ≤ st4.i := hi5
        obtain ⟨la', lc', e, _, _, hpl⟩ := hf4.up (TmK.refl _) (show W.heap.size ≤ w1.heap.size by omega)
        cases e
        exact ⟨_, nv4, rfl, IsP.mk (by unfold okI; omega) (by unfold okI; omega) (by decide) hlc hlm hpl, hf1, hf2, by omega⟩
end
end Go.Proofs.YthfciekhmbfmfaaGreatDoor
