/- The second readings of MakeList and List. -/
import Derived.Test.YtlaeaoecmnaneaaDoorItems
import Derived.Test.YtlaeaoecmnaneaaDoorRefNorm
import Derived.Test.YtlaeaoecmnaneaaDoorRowAt
import Derived.RegionTactic
import Derived.ChangeAlike
import Derived.Test.YtlaeaoecmnaneaaDoorRowF
import Derived.Test.YtlaeaoecmnaneaaDoorSbs
import Derived.Test.YtlaeaoecmnaneaaDoorRefGenT
namespace Go.Proofs.YtlaeaoecmnaneaaDoor
open Go.RowKit Go

attribute [local go_sem] monoUpon Yld.says Oper.semAt_some

/-- A tree and an error are handed back. -/
def TlPost (X : Tr) (x : Int) (w : World) (e : Ending) (w' : World) : Prop := ∃ k n s a m c, e = .returned (.tuple #[.agg #[.int .i64 k, .int .i64 n, .string s, .slice a m c], .int .i64 x]) ∧ IsT w'.heap.size w' X (.agg #[.int .i64 k, .int .i64 n, .string s, .slice a m c]) ∧ Below w.heap.size w w'
theorem TlPost.mk {X : Tr} {x : Int} {w w' : World} {k n : Int} {s : ByteArray} {a : Option Addr} {m c : Nat} {X' : Tr} {x' : Int} (hX : X = X') (hx : x = x') (h : IsT w'.heap.size w' X' (.agg #[.int .i64 k, .int .i64 n, .string s, .slice a m c])) (hB : Below w.heap.size w w') : TlPost X x w (.returned (.tuple #[.agg #[.int .i64 k, .int .i64 n, .string s, .slice a m c], .int .i64 x'])) w' := by
  subst hX hx
  exact ⟨k, n, s, a, m, c, rfl, h, hB⟩
theorem zeroTl (n₀ : Nat) (W : World) : IsT n₀ W zeroTr (.agg #[.int .i64 0, .int .i64 0, .string ⟨#[]⟩, .slice none 0 0]) := IsP.toT (p := fun _ => False) (fun _ h => h.elim) _ _ (zero_isP _ _)

def MlPost (n₀ : Nat) (X : Tr) (w : World) (e : Ending) (w' : World) : Prop := ∃ k n s a m c, e = .returned (.agg #[.int .i64 k, .int .i64 n, .string s, .slice a m c]) ∧ IsP (OA n₀ w.heap.size w') w' X (.agg #[.int .i64 k, .int .i64 n, .string s, .slice a m c]) ∧ Below w.heap.size w w'
def BelowH (a b : World) : Prop := Below a.heap.size a b
theorem BelowH.thenB {a b c : World} (h : BelowH a b) (B : Below b.heap.size b c) : BelowH a c := Below.trans h (B.mono (Below.size h))
def lstV (l : List Tr) (R : Tr) : Tr := if togB l && isB R then (if isB (listT l R) then listT l R else zeroTr) else zeroTr
def lstE (l : List Tr) (R : Tr) : Int := if togB l && isB R then (if isB (listT l R) then 0 else 2) else 3
theorem listT_sz (R : Tr) : ∀ l : List Tr, (listT l R).size = sizeL l + l.length + R.size
  | [] => by simp [listT, sizeL]
  | t :: l => by
    rw [listT_cons]
    simp only [cellT, Tr.size, sizeL, listT_sz R l, List.length_cons]
    omega
theorem listT_dp {N : Nat} {R : Tr} (hR : R.deep ≤ N) : ∀ l : List Tr, (∀ t, t ∈ l → t.deep ≤ N) → (listT l R).deep ≤ N + l.length
  | [], _ => by simpa [listT] using hR
  | t :: l, h => by
    rw [listT_cons]
    have h1 := h t (by simp)
    have h2 := listT_dp hR l (fun x hx => h x (by simp [hx]))
    simp only [cellT, Tr.deep, deepL, List.length_cons]
    omega
structure MlAt (n₀ : Nat) (w : World) (l : List Tr) (R : Tr) (j : Nat) (k n : Int) (s : ByteArray) (a0 : Option Addr) (m c0 : Nat) (wr : World) : Prop where
  b0 : Box wr w.heap.size #[.int .i64 k, .int .i64 n, .string s, .slice a0 m c0] 25
  b1 : Box wr (w.heap.size + 1) #[.int .i64 0, .int .i64 0, .string ⟨#[]⟩, .slice none 0 0] 25
  tree : IsP (OA n₀ (w.heap.size + 2) wr) wr (listT (l.drop j) R) (.agg #[.int .i64 k, .int .i64 n, .string s, .slice a0 m c0])
  below : Below w.heap.size w wr
def TwoV (lo : Nat) (cs : Array Value) (x : Value) (W : World) : Prop := ∃ g, x = .slice (some ⟨g, 0, none⟩) 2 2 ∧ lo ≤ g ∧ Box W g cs 25
theorem TwoV.steady (lo : Nat) (cs : Array Value) : (Yld.any (TwoV lo cs)).stable := fun _ _ _ he ⟨g, h1, h2, h3⟩ => ⟨g, h1, h2, h3.keep he⟩
def CelV (lo : Nat) (cs : Array Value) (x : Value) (W : World) : Prop := ∃ y, x = .agg #[.int .i64 5, .int .i64 0, .string dot, y] ∧ TwoV lo cs y W
theorem CelV.steady (lo : Nat) (cs : Array Value) : (Yld.any (CelV lo cs)).stable := fun _ _ _ he ⟨y, h1, h2⟩ => ⟨y, h1, TwoV.steady lo cs _ _ _ he h2⟩
theorem MlAt.next {n₀ : Nat} {w wr w9 : World} {l : List Tr} {R : Tr} {q : Nat} {k n : Int} {s : ByteArray} {a0 : Option Addr} {m c0 : Nat} (h : MlAt n₀ w l R (q + 1) k n s a0 m c0 wr) (hn : n₀ ≤ w.heap.size) (hq : q < l.length) {t0 t1 t2 t3 : Value} (ht : IsT n₀ wr l[q] (.agg #[t0, t1, t2, t3])) (he : Below wr.heap.size wr w9) {g : Nat} (hg : wr.heap.size ≤ g)
    (hb : Box w9 g #[t0, t1, t2, t3, .int .i64 k, .int .i64 n, .string s, .slice a0 m c0] 25) :
    MlAt n₀ w l R q 5 0 dot (some ⟨g, 0, none⟩) 2 2 ((((w9.setCell ⟨w.heap.size, 0, none⟩ (.int .i64 5)).setCell ⟨w.heap.size, 1, none⟩ (.int .i64 0)).setCell ⟨w.heap.size, 2, none⟩ (.string dot)).setCell ⟨w.heap.size, 3, none⟩ (.slice (some ⟨g, 0, none⟩) 2 2)) := by
  have c0' := h.b0.keep he
  have c1' := h.b1.keep he
  have hl := h.b1.lt
  have hs := he.size
  have hgl := hb.lt
  have hB := h.below.trans (he.mono h.below.size)
  refine ⟨c0'.four _ _ _ _, (((c1'.other (by omega) 0 _).other (by omega) 1 _).other (by omega) 2 _).other (by omega) 3 _, ?_, below_four hB (Nat.le_refl _) _ _ _ _⟩
  have e : l.drop q = l[q] :: l.drop (q + 1) := List.drop_eq_getElem_cons hq
  rw [e, listT_cons]
  have hbx := (((hb.other (B' := w.heap.size) (by omega) 0 (.int .i64 5)).other (B' := w.heap.size) (by omega) 1 (.int .i64 0)).other (B' := w.heap.size) (by omega) 2 (.string dot)).other (B' := w.heap.size) (by omega) 3 (.slice (some ⟨g, 0, none⟩) 2 2)
  have m1 := IsP.map (q := OA n₀ (w.heap.size + 2) ((((w9.setCell ⟨w.heap.size, 0, none⟩ (.int .i64 5)).setCell ⟨w.heap.size, 1, none⟩ (.int .i64 0)).setCell ⟨w.heap.size, 2, none⟩ (.string dot)).setCell ⟨w.heap.size, 3, none⟩ (.slice (some ⟨g, 0, none⟩) 2 2))) (B := ((((w9.setCell ⟨w.heap.size, 0, none⟩ (.int .i64 5)).setCell ⟨w.heap.size, 1, none⟩ (.int .i64 0)).setCell ⟨w.heap.size, 2, none⟩ (.string dot)).setCell ⟨w.heap.size, 3, none⟩ (.slice (some ⟨g, 0, none⟩) 2 2))) (fun b hb => ⟨⟨hb.1, by have := hb.2; simp; omega⟩, (heap_four (by have := hb.1; omega) _ _ _ _).trans (he.block b hb.2)⟩) _ _ h.tree
  have m2 := IsP.map (q := OA n₀ (w.heap.size + 2) ((((w9.setCell ⟨w.heap.size, 0, none⟩ (.int .i64 5)).setCell ⟨w.heap.size, 1, none⟩ (.int .i64 0)).setCell ⟨w.heap.size, 2, none⟩ (.string dot)).setCell ⟨w.heap.size, 3, none⟩ (.slice (some ⟨g, 0, none⟩) 2 2))) (B := ((((w9.setCell ⟨w.heap.size, 0, none⟩ (.int .i64 5)).setCell ⟨w.heap.size, 1, none⟩ (.int .i64 0)).setCell ⟨w.heap.size, 2, none⟩ (.string dot)).setCell ⟨w.heap.size, 3, none⟩ (.slice (some ⟨g, 0, none⟩) 2 2))) (fun b hb => ⟨⟨.inl hb, by simp; omega⟩, (heap_four (by omega) _ _ _ _).trans (he.block b (by omega))⟩) _ _ (IsT.toP _ _ ht)
  refine IsP.mk (l := [l[q], listT (l.drop (q + 1)) R]) (by unfold okI; omega) (by unfold okI; omega) (by decide) (Nat.le_refl 2) (by decide) ?_
  refine IsPL.of_get ⟨.inr (by omega), by simpa using hgl⟩ fun i hi => ?_
  match i, hi with
  | 0, _ => exact ⟨_, _, _, _, hbx.cell 0, hbx.cell 1, hbx.cell 2, hbx.cell 3, m2⟩
  | 1, _ => exact ⟨_, _, _, _, hbx.cell 4, hbx.cell 5, hbx.cell 6, hbx.cell 7, m1⟩

set_option maxRecDepth 100000 in
set_option maxHeartbeats 4000000 in
theorem refMakeList_any (l : List Tr) (R : Tr) (a : Option Addr) (c : Nat) (v : Value) (w : World) (n₀ : Nat) (hn : n₀ ≤ w.heap.size) (hl : IsL n₀ w l a) (hm : l.length ≤ 1000000) (hR : IsT n₀ w R v) :
    Calls Tryd.prog 112 #[.slice a l.length c, v] w (MlPost n₀ (listT l R) w) := by
  refine (callsIn_wide (n := 9)).1 ?_
  generalize hF : Fence.wide = F
  have hd : F.depth = none := by subst hF; rfl
  have hf : ∀ f, F.fn f := fun f => by subst hF; trivial
  have hro : F.round = none := by subst hF; rfl
  obtain ⟨k, n, s, a0, m, c0, rfl⟩ := (IsT.toP _ _ hR).form
  have HL := Lib.hid hl
  have hlm : l.length ≤ 9223372036854775807 := by omega
  have hB0 := below_a2 (Nat.le_refl w.heap.size) (.cells #[.int .i64 k, .int .i64 n, .string s, .slice a0 m c0] 25) (.cells #[.int .i64 0, .int .i64 0, .string ⟨#[]⟩, .slice none 0 0] 25)
  have hS0 : MlAt n₀ w l R l.length k n s a0 m c0 ((w.alloc (.cells #[.int .i64 k, .int .i64 n, .string s, .slice a0 m c0] 25)).alloc (.cells #[.int .i64 0, .int .i64 0, .string ⟨#[]⟩, .slice none 0 0] 25)) :=
    ⟨(Box.at rfl).alloc _, Box.at (by simp), by rw [List.drop_length]; exact IsP.map (fun b hb => ⟨⟨.inl hb, by simp; omega⟩, hB0.block b (by omega)⟩) _ _ (IsT.toP _ _ hR), hB0⟩
  have HS0 := Lib.hid hS0
  clear hS0 hl hR hB0
  refine callsIn_of_wp Tryd.func112 rfl (hf _) ?_ hro
  simp only [Tryd.ntmps112, List.size_toArray, List.length_cons, List.length_nil, Nat.reduceAdd, Nat.reduceSub, Array.replicate_succ, Array.replicate_zero, List.push_toArray, List.append_toArray, List.nil_append, List.cons_append]
  gi_wp2_with fail
  gi_loopw [5] (fun iv wr => ∃ (i : Int) (j : Nat) (k n : Int) (s : ByteArray) (a0 : Option Addr) (m c0 : Nat), j ≤ l.length ∧ i = (j : Int) - 1 ∧ iv = .int .i64 i ∧ MlAt n₀ w l R j k n s a0 m c0 wr) (fun iv _ => (intOf iv + 1).toNat)
  case atStart => exact ⟨_, l.length, _, _, _, _, _, _, Nat.le_refl _, rfl, by go_num, HS0.out⟩
  case round =>
    clear HS0
    obtain ⟨i, j, k1, n1, s1, a1, m1, c1, hj, hi, rfl, hS⟩ := hrel
    have q0 := hS.b0.cell 0
    have q1 := hS.b0.cell 1
    have q2 := hS.b0.cell 2
    have q3 := hS.b0.cell 3
    have l0 := hS.b0.lt
    have l1 := hS.b1.lt
    have hBr := hS.below.mono hn
    have HA0 := hS.below.size
    simp only [List.getElem?_toArray, List.getElem?_cons_succ, List.getElem?_cons_zero] at q0 q1 q2 q3
    by_cases hj0 : 0 < j
    · obtain ⟨q, rfl⟩ : ∃ q, j = q + 1 := ⟨j - 1, by omega⟩
      obtain rfl : i = (q : Int) := by omega
      have hq : q < l.length := by omega
      obtain ⟨b, off, rfl, hbb⟩ := HL.out.addr (by omega)
      obtain ⟨tk, tn, ts, tl, ta, tc, te, d0, d1, d2, d3, ht⟩ := HL.out.node' hbb hBr q hq
      have hbw : b < wr.heap.size := by have := HA0; omega
      have HA := Lib.hid hS
      have HT := Lib.hid (ht.below hBr)
      clear hS ht te hBr hi
      gi_wp2_with fail
      refine wpIn_region_mono_tail 7 [.det (.slice (some ⟨b, off, none⟩) l.length c), .det (.int .i64 q), .det (.pointer (some ⟨b, off + q * 4, none⟩)), .det (.agg #[.int .i64 tk, .int .i64 tn, .string ts, .slice ta tl.length tc]), .det (.agg #[.int .i64 k1, .int .i64 n1, .string s1, .slice a1 m1 c1]), .any (TwoV wr.heap.size #[.int .i64 tk, .int .i64 tn, .string ts, .slice ta tl.length tc, .int .i64 k1, .int .i64 n1, .string s1, .slice a1 m1 c1]), .any (CelV wr.heap.size #[.int .i64 tk, .int .i64 tn, .string ts, .slice ta tl.length tc, .int .i64 k1, .int .i64 n1, .string s1, .slice a1 m1 c1])] hf hd (fun k f args w R h => callsIn_of_calls hF h) (by kernel_rfl) (by kernel_rfl) ?_ ?_
      · intro y hy
        simp only [List.mem_cons, List.not_mem_nil, or_false] at hy
        rcases hy with rfl | rfl | rfl | rfl | rfl | rfl | rfl <;> first | trivial | exact TwoV.steady _ _ | exact CelV.steady _ _
      simp only [List.take_succ_cons, List.take_zero, List.drop_succ_cons, List.drop_zero]
      iterate 5 (
        refine wpM_step (fun K hK => ?_)
        go_simp
        apply And.intro
        · intro w' hC _
          have q1 := hC.old.1
          have hbs := hC.old.2.2
          clear hC
          go_simp
          exact Ext.refl _
        refine nextM_det (hK _ _ ?_)
        clear hK K)
      refine wpM_step (fun K hK => ?_)
      go_simp
      apply And.intro
      · intro w' hC _
        have hsz := Below.size hC
        go_simp
        exact ⟨below_a1 (Nat.le_refl _) _, w'.heap.size, rfl, hsz, Box.at rfl⟩
      refine nextM_any (fun y => hK _ _ ?_)
      clear hK K
      refine wpM_step (fun K hK => ?_)
      go_simp
      apply And.intro
      · intro w' hC hd'
        have hy : TwoV wr.heap.size #[.int .i64 tk, .int .i64 tn, .string ts, .slice ta tl.length tc, .int .i64 k1, .int .i64 n1, .string s1, .slice a1 m1 c1] y w' := hd' ⟨5, .data⟩ (by simp) rfl y rfl
        obtain ⟨g, rfl, hg, hb⟩ := hy
        have HY := Lib.hid (And.intro hg hb)
        clear hg hb hd'
        go_simp
        exact ⟨Ext.refl _, _, rfl, g, rfl, HY.out.1, HY.out.2⟩
      refine nextM_any (fun z => hK _ _ ?_)
      clear hK K
      refine wpM_nil ?_
      intro w9 hC hE
      obtain ⟨y', rfl, g, rfl, hg, hb⟩ : CelV wr.heap.size #[.int .i64 tk, .int .i64 tn, .string ts, .slice ta tl.length tc, .int .i64 k1, .int .i64 n1, .string s1, .slice a1 m1 c1] z w9 := hE 6 z rfl
      clear hE
      have HN := Lib.hid (HA.out.next hn hq HT.out hC hg hb)
      have p1 := HA.out.b0.keep hC
      have g0 := p1.frozen 0
      have g1 := p1.frozen 1
      have g2 := p1.frozen 2
      have g3 := p1.frozen 3
      have r0 := p1.cell 0
      have r1 := p1.cell 1
      have r2 := p1.cell 2
      have r3 := p1.cell 3
      have lp := p1.lt
      simp only [List.getElem?_toArray, List.getElem?_cons_succ, List.getElem?_cons_zero] at r0 r1 r2 r3
      clear p1 hC hg hb q0 q1 q2 q3 d0 d1 d2 d3
      gi_wp2_with fail
      go_roundw
      case rel => exact ⟨(q : Int) - 1, q, _, _, _, _, _, _, by omega, rfl, by go_num, HN.out⟩
      case measure => simp [intOf]
    · obtain rfl : j = 0 := by omega
      obtain rfl : i = -1 := by omega
      have HA := Lib.hid hS
      have u0 := hS.b1.cell 0
      have u1 := hS.b1.cell 1
      have u2 := hS.b1.cell 2
      have u3 := hS.b1.cell 3
      have g0 := hS.b1.frozen 0
      have g1 := hS.b1.frozen 1
      have g2 := hS.b1.frozen 2
      have g3 := hS.b1.frozen 3
      simp only [List.getElem?_toArray, List.getElem?_cons_succ, List.getElem?_cons_zero] at u0 u1 u2 u3
      clear hS hBr hi hj0
      gi_wp2_with fail
      have z := HA.out.b1.four (.int .i64 k1) (.int .i64 n1) (.string s1) (.slice a1 m1 c1)
      have y0 := z.cell 0
      have y1 := z.cell 1
      have y2 := z.cell 2
      have y3 := z.cell 3
      have hF : MlPost n₀ (listT l R) w (.returned (.agg #[.int .i64 k1, .int .i64 n1, .string s1, .slice a1 m1 c1])) ((((wr.setCell ⟨w.heap.size + 1, 0, none⟩ (.int .i64 k1)).setCell ⟨w.heap.size + 1, 1, none⟩ (.int .i64 n1)).setCell ⟨w.heap.size + 1, 2, none⟩ (.string s1)).setCell ⟨w.heap.size + 1, 3, none⟩ (.slice a1 m1 c1)) :=
        ⟨_, _, _, _, _, _, rfl, IsP.map (q := OA n₀ w.heap.size ((((wr.setCell ⟨w.heap.size + 1, 0, none⟩ (.int .i64 k1)).setCell ⟨w.heap.size + 1, 1, none⟩ (.int .i64 n1)).setCell ⟨w.heap.size + 1, 2, none⟩ (.string s1)).setCell ⟨w.heap.size + 1, 3, none⟩ (.slice a1 m1 c1))) (B := ((((wr.setCell ⟨w.heap.size + 1, 0, none⟩ (.int .i64 k1)).setCell ⟨w.heap.size + 1, 1, none⟩ (.int .i64 n1)).setCell ⟨w.heap.size + 1, 2, none⟩ (.string s1)).setCell ⟨w.heap.size + 1, 3, none⟩ (.slice a1 m1 c1))) (fun b hb => ⟨⟨hb.1.imp id (fun h => by omega), by simpa using hb.2⟩, heap_four (by have := hb.1; omega) _ _ _ _⟩) _ _ HA.out.tree, below_four HA.out.below (by omega) _ _ _ _⟩
      have HF := Lib.hid hF
      clear hF z u0 u1 u2 u3 g0 g1 g2 g3 q0 q1 q2 q3
      generalize ((((wr.setCell ⟨w.heap.size + 1, 0, none⟩ (.int .i64 k1)).setCell ⟨w.heap.size + 1, 1, none⟩ (.int .i64 n1)).setCell ⟨w.heap.size + 1, 2, none⟩ (.string s1)).setCell ⟨w.heap.size + 1, 3, none⟩ (.slice a1 m1 c1)) = FW at *
      simp at y0 y1 y2 y3
      exact bodyPost_ret (v := .agg #[.int .i64 k1, .int .i64 n1, .string s1, .slice a1 m1 c1]) (by simp [results, Tryd.results112, go_sem, y0, y1, y2, y3]) rfl HF.out

set_option maxRecDepth 100000 in
set_option maxHeartbeats 4000000 in
theorem refList_any (l : List Tr) (R : Tr) (al : Option Addr) (cl : Nat) (v : Value) (w : World) (hl : IsL w.heap.size w l al) (hR : IsT w.heap.size w R v) (hsl : sizeL l ≤ 1000000) (hdl : ∀ t, t ∈ l → t.deep ≤ 1000000) (hsR : R.size ≤ 1000000) (hdR : R.deep ≤ 1000000) :
    Calls Tryd.prog 54 #[.slice al l.length cl, v] w (TlPost (lstV l R) (lstE l R) w) := by
  have hsR2 : R.size ≤ 1000000000 := by omega
  have hdR2 : R.deep ≤ 1000000000 := by omega
  have hln := length_le_sizeL l
  obtain ⟨k, n, s, a, m, c0, rfl⟩ := (IsT.toP _ _ hR).form
  have bbx : Box ((w.alloc (.cells #[.int .i64 k, .int .i64 n, .string s, .slice a m c0] 25)).alloc (.cells #[.int .i64 0, .int .i64 0, .string ⟨#[]⟩, .slice none 0 0] 25)) w.heap.size #[.int .i64 k, .int .i64 n, .string s, .slice a m c0] 25 := (Box.at rfl).alloc _
  have bbz : Box ((w.alloc (.cells #[.int .i64 k, .int .i64 n, .string s, .slice a m c0] 25)).alloc (.cells #[.int .i64 0, .int .i64 0, .string ⟨#[]⟩, .slice none 0 0] 25)) (w.heap.size + 1) #[.int .i64 0, .int .i64 0, .string ⟨#[]⟩, .slice none 0 0] 25 := Box.at (by simp)
  have hb := below_a2 (Nat.le_refl w.heap.size) (.cells #[.int .i64 k, .int .i64 n, .string s, .slice a m c0] 25) (.cells #[.int .i64 0, .int .i64 0, .string ⟨#[]⟩, .slice none 0 0] 25)
  have hl0 := hl
  have hR0 := hR
  replace hR := hR.up hb hb.size
  replace hl := hl.up hb hb.size
  have HLR := Lib.hid (And.intro hl0 hR0)
  clear hl0 hR0
  go_enter Tryd.func54, Tryd.ntmps54
  go_wp2_with fail
  refine (refCheckAllN_any l al cl _ hl (by omega) (fun t h => by have := hdl t h; omega)).mono ?_
  rintro e W1 ⟨rfl, B⟩
  replace bbx := Box.keep B bbx
  replace bbz := Box.keep B bbz
  replace hR := hR.up B B.size
  replace hl := hl.up B B.size
  replace hb := hb.trans (B.mono hb.size)
  clear B
  cases hr : togB l with
  | false =>
    have hf : (togB l && isB R) = false := by rw [hr]; rfl
    clear hr
    rw [show errI false = 3 from rfl]
    have HV : Hid (lstV l R = zeroTr ∧ lstE l R = 3) := by rw [Hid, lstV, lstE, hf]; exact ⟨rfl, rfl⟩
    clear hf
    have u0 := bbz.cell 0
    have u1 := bbz.cell 1
    have u2 := bbz.cell 2
    have u3 := bbz.cell 3
    have g0 := bbz.frozen 0
    have g1 := bbz.frozen 1
    have g2 := bbz.frozen 2
    have g3 := bbz.frozen 3
    have lz := bbz.lt
    simp only [List.getElem?_toArray, List.getElem?_cons_succ, List.getElem?_cons_zero] at u0 u1 u2 u3
    have z := bbz.four (.int .i64 0) (.int .i64 0) (.string ⟨#[]⟩) (.slice none 0 0)
    have zB := below_four hb (B := w.heap.size + 1) (by omega) (.int .i64 0) (.int .i64 0) (.string ⟨#[]⟩) (.slice none 0 0)
    have zT : IsT ((((W1.setCell ⟨w.heap.size + 1, 0, none⟩ (.int .i64 0)).setCell ⟨w.heap.size + 1, 1, none⟩ (.int .i64 0)).setCell ⟨w.heap.size + 1, 2, none⟩ (.string ⟨#[]⟩)).setCell ⟨w.heap.size + 1, 3, none⟩ (.slice none 0 0)).heap.size ((((W1.setCell ⟨w.heap.size + 1, 0, none⟩ (.int .i64 0)).setCell ⟨w.heap.size + 1, 1, none⟩ (.int .i64 0)).setCell ⟨w.heap.size + 1, 2, none⟩ (.string ⟨#[]⟩)).setCell ⟨w.heap.size + 1, 3, none⟩ (.slice none 0 0)) zeroTr (.agg #[.int .i64 0, .int .i64 0, .string ⟨#[]⟩, .slice none 0 0]) := zeroTl _ _
    have HZ := Lib.hid (And.intro zB zT)
    have y0 := z.cell 0
    have y1 := z.cell 1
    have y2 := z.cell 2
    have y3 := z.cell 3
    clear z zB zT
    go_wp2_with fail
    clear u0 u1 u2 u3 g0 g1 g2 g3
    generalize ((((W1.setCell ⟨w.heap.size + 1, 0, none⟩ (.int .i64 0)).setCell ⟨w.heap.size + 1, 1, none⟩ (.int .i64 0)).setCell ⟨w.heap.size + 1, 2, none⟩ (.string ⟨#[]⟩)).setCell ⟨w.heap.size + 1, 3, none⟩ (.slice none 0 0)) = FW at *
    simp at y0 y1 y2 y3
    exact bodyPost_ret (v := .tuple #[.agg #[.int .i64 0, .int .i64 0, .string ⟨#[]⟩, .slice none 0 0], .int .i64 3]) (by simp [results, Tryd.results54, go_sem, y0, y1, y2, y3]) rfl (TlPost.mk HV.out.1 HV.out.2 HZ.out.2 HZ.out.1)
  | true =>
    rw [show errI true = 0 from rfl]
    have HRL := Lib.hid hr
    clear hr
    have qx0 := bbx.cell 0
    have qx1 := bbx.cell 1
    have qx2 := bbx.cell 2
    have qx3 := bbx.cell 3
    have lx := bbx.lt
    simp only [List.getElem?_toArray, List.getElem?_cons_succ, List.getElem?_cons_zero] at qx0 qx1 qx2 qx3
    go_wp2_with fail
    clear qx0 qx1 qx2 qx3 lx
    refine (refCheck_any R _ _ hR hsR2 hdR2).mono ?_
    rintro e W2 ⟨rfl, B⟩
    replace bbx := Box.keep B bbx
    replace bbz := Box.keep B bbz
    replace hR := hR.up B B.size
    replace hl := hl.up B B.size
    replace hb := hb.trans (B.mono hb.size)
    clear B
    cases hr : isB R with
    | false =>
      have hf : (togB l && isB R) = false := by rw [HRL.out, hr]; rfl
      clear hr
      rw [show errI false = 3 from rfl]
      have HV : Hid (lstV l R = zeroTr ∧ lstE l R = 3) := by rw [Hid, lstV, lstE, hf]; exact ⟨rfl, rfl⟩
      clear hf
      have u0 := bbz.cell 0
      have u1 := bbz.cell 1
      have u2 := bbz.cell 2
      have u3 := bbz.cell 3
      have g0 := bbz.frozen 0
      have g1 := bbz.frozen 1
      have g2 := bbz.frozen 2
      have g3 := bbz.frozen 3
      have lz := bbz.lt
      simp only [List.getElem?_toArray, List.getElem?_cons_succ, List.getElem?_cons_zero] at u0 u1 u2 u3
      have z := bbz.four (.int .i64 0) (.int .i64 0) (.string ⟨#[]⟩) (.slice none 0 0)
      have zB := below_four hb (B := w.heap.size + 1) (by omega) (.int .i64 0) (.int .i64 0) (.string ⟨#[]⟩) (.slice none 0 0)
      have zT : IsT ((((W2.setCell ⟨w.heap.size + 1, 0, none⟩ (.int .i64 0)).setCell ⟨w.heap.size + 1, 1, none⟩ (.int .i64 0)).setCell ⟨w.heap.size + 1, 2, none⟩ (.string ⟨#[]⟩)).setCell ⟨w.heap.size + 1, 3, none⟩ (.slice none 0 0)).heap.size ((((W2.setCell ⟨w.heap.size + 1, 0, none⟩ (.int .i64 0)).setCell ⟨w.heap.size + 1, 1, none⟩ (.int .i64 0)).setCell ⟨w.heap.size + 1, 2, none⟩ (.string ⟨#[]⟩)).setCell ⟨w.heap.size + 1, 3, none⟩ (.slice none 0 0)) zeroTr (.agg #[.int .i64 0, .int .i64 0, .string ⟨#[]⟩, .slice none 0 0]) := zeroTl _ _
      have HZ := Lib.hid (And.intro zB zT)
      have y0 := z.cell 0
      have y1 := z.cell 1
      have y2 := z.cell 2
      have y3 := z.cell 3
      clear z zB zT
      go_wp2_with fail
      clear u0 u1 u2 u3 g0 g1 g2 g3
      generalize ((((W2.setCell ⟨w.heap.size + 1, 0, none⟩ (.int .i64 0)).setCell ⟨w.heap.size + 1, 1, none⟩ (.int .i64 0)).setCell ⟨w.heap.size + 1, 2, none⟩ (.string ⟨#[]⟩)).setCell ⟨w.heap.size + 1, 3, none⟩ (.slice none 0 0)) = FW at *
      simp at y0 y1 y2 y3
      exact bodyPost_ret (v := .tuple #[.agg #[.int .i64 0, .int .i64 0, .string ⟨#[]⟩, .slice none 0 0], .int .i64 3]) (by simp [results, Tryd.results54, go_sem, y0, y1, y2, y3]) rfl (TlPost.mk HV.out.1 HV.out.2 HZ.out.2 HZ.out.1)
    | true =>
      rw [show errI true = 0 from rfl]
      have HRR := Lib.hid hr
      clear hr
      have qx0 := bbx.cell 0
      have qx1 := bbx.cell 1
      have qx2 := bbx.cell 2
      have qx3 := bbx.cell 3
      have lx := bbx.lt
      simp only [List.getElem?_toArray, List.getElem?_cons_succ, List.getElem?_cons_zero] at qx0 qx1 qx2 qx3
      go_wp2_with fail
      clear qx0 qx1 qx2 qx3 lx
      have hlz2 := bbz.lt
      have hmk := refMakeList_any l R al cl _ W2 w.heap.size hb.size (HLR.out.1.below (hb)) (by omega) (HLR.out.2.below hb)
      have HMK := Lib.hid hmk
      clear hmk
      refine (HMK.out).mono ?_
      rintro e W3 ⟨xk, xn, xs, xa, xm, xc, rfl, hq, B⟩
      replace bbx := Box.keep B bbx
      replace bbz := Box.keep B bbz
      replace hR := hR.up B B.size
      replace hl := hl.up B B.size
      replace hb := hb.trans (B.mono hb.size)
      clear B
      clear HMK
      have HQ := Lib.hid hq
      have ht := IsP.toT (fun _ h => h.2) _ _ hq
      clear hq
      have HB3 : Hid (BelowH W3 W3) := Below.refl _ _
      have hw2 := hb.size
      go_wp2_with fail
      have bbt : Box (W3.alloc (.cells #[.int .i64 xk, .int .i64 xn, .string xs, .slice xa xm xc] 25)) W3.heap.size #[.int .i64 xk, .int .i64 xn, .string xs, .slice xa xm xc] 25 := Box.at rfl
      have B := below_a1 (Nat.le_refl W3.heap.size) (.cells #[.int .i64 xk, .int .i64 xn, .string xs, .slice xa xm xc] 25)
      replace bbx := Box.keep B bbx
      replace bbz := Box.keep B bbz
      replace hR := hR.up B B.size
      replace hl := hl.up B B.size
      replace ht := ht.up B B.size
      replace HB3 := Lib.hid (HB3.out.thenB B)
      replace hb := hb.trans (B.mono hb.size)
      clear B
      generalize (W3.alloc (.cells #[.int .i64 xk, .int .i64 xn, .string xs, .slice xa xm xc] 25)) = V4 at *
      have hls := listT_sz R l
      have hld := listT_dp hdR l hdl
      have qt0 := bbt.cell 0
      have qt1 := bbt.cell 1
      have qt2 := bbt.cell 2
      have qt3 := bbt.cell 3
      have lt := bbt.lt
      simp only [List.getElem?_toArray, List.getElem?_cons_succ, List.getElem?_cons_zero] at qt0 qt1 qt2 qt3
      go_wp2_with fail
      clear qt0 qt1 qt2 qt3 lt
      refine (refCheck_any (listT l R) _ _ ht (by omega) (by omega)).mono ?_
      rintro e W5 ⟨rfl, B⟩
      replace bbx := Box.keep B bbx
      replace bbz := Box.keep B bbz
      replace bbt := Box.keep B bbt
      replace hR := hR.up B B.size
      replace hl := hl.up B B.size
      replace ht := ht.up B B.size
      replace HB3 := Lib.hid (HB3.out.thenB B)
      replace hb := hb.trans (B.mono hb.size)
      clear B
      clear hls hld
      cases hr : isB (listT l R) with
      | false =>
        have HV : Hid (lstV l R = zeroTr ∧ lstE l R = 2) := by rw [Hid, lstV, lstE, HRL.out, HRR.out, hr]; exact ⟨rfl, rfl⟩
        clear hr
        rw [show errI false = 3 from rfl]
        have u0 := bbz.cell 0
        have u1 := bbz.cell 1
        have u2 := bbz.cell 2
        have u3 := bbz.cell 3
        have g0 := bbz.frozen 0
        have g1 := bbz.frozen 1
        have g2 := bbz.frozen 2
        have g3 := bbz.frozen 3
        have lz := bbz.lt
        simp only [List.getElem?_toArray, List.getElem?_cons_succ, List.getElem?_cons_zero] at u0 u1 u2 u3
        have z := bbz.four (.int .i64 0) (.int .i64 0) (.string ⟨#[]⟩) (.slice none 0 0)
        have zB := below_four hb (B := w.heap.size + 1) (by omega) (.int .i64 0) (.int .i64 0) (.string ⟨#[]⟩) (.slice none 0 0)
        have zT : IsT ((((W5.setCell ⟨w.heap.size + 1, 0, none⟩ (.int .i64 0)).setCell ⟨w.heap.size + 1, 1, none⟩ (.int .i64 0)).setCell ⟨w.heap.size + 1, 2, none⟩ (.string ⟨#[]⟩)).setCell ⟨w.heap.size + 1, 3, none⟩ (.slice none 0 0)).heap.size ((((W5.setCell ⟨w.heap.size + 1, 0, none⟩ (.int .i64 0)).setCell ⟨w.heap.size + 1, 1, none⟩ (.int .i64 0)).setCell ⟨w.heap.size + 1, 2, none⟩ (.string ⟨#[]⟩)).setCell ⟨w.heap.size + 1, 3, none⟩ (.slice none 0 0)) zeroTr (.agg #[.int .i64 0, .int .i64 0, .string ⟨#[]⟩, .slice none 0 0]) := zeroTl _ _
        have HZ := Lib.hid (And.intro zB zT)
        have y0 := z.cell 0
        have y1 := z.cell 1
        have y2 := z.cell 2
        have y3 := z.cell 3
        clear z zB zT
        go_wp2_with fail
        clear u0 u1 u2 u3 g0 g1 g2 g3
        generalize ((((W5.setCell ⟨w.heap.size + 1, 0, none⟩ (.int .i64 0)).setCell ⟨w.heap.size + 1, 1, none⟩ (.int .i64 0)).setCell ⟨w.heap.size + 1, 2, none⟩ (.string ⟨#[]⟩)).setCell ⟨w.heap.size + 1, 3, none⟩ (.slice none 0 0)) = FW at *
        simp at y0 y1 y2 y3
        exact bodyPost_ret (v := .tuple #[.agg #[.int .i64 0, .int .i64 0, .string ⟨#[]⟩, .slice none 0 0], .int .i64 2]) (by simp [results, Tryd.results54, go_sem, y0, y1, y2, y3]) rfl (TlPost.mk HV.out.1 HV.out.2 HZ.out.2 HZ.out.1)
      | true =>
        have HV : Hid (lstV l R = listT l R ∧ lstE l R = 0) := by rw [Hid, lstV, lstE, HRL.out, HRR.out, hr]; exact ⟨rfl, rfl⟩
        clear hr
        rw [show errI true = 0 from rfl]
        have t0 := bbt.cell 0
        have t1 := bbt.cell 1
        have t2 := bbt.cell 2
        have t3 := bbt.cell 3
        have lt := bbt.lt
        simp only [List.getElem?_toArray, List.getElem?_cons_succ, List.getElem?_cons_zero] at t0 t1 t2 t3
        have u0 := bbz.cell 0
        have u1 := bbz.cell 1
        have u2 := bbz.cell 2
        have u3 := bbz.cell 3
        have g0 := bbz.frozen 0
        have g1 := bbz.frozen 1
        have g2 := bbz.frozen 2
        have g3 := bbz.frozen 3
        have lz := bbz.lt
        simp only [List.getElem?_toArray, List.getElem?_cons_succ, List.getElem?_cons_zero] at u0 u1 u2 u3
        have z := bbz.four (.int .i64 xk) (.int .i64 xn) (.string xs) (.slice xa xm xc)
        have zB := below_four hb (B := w.heap.size + 1) (by omega) (.int .i64 xk) (.int .i64 xn) (.string xs) (.slice xa xm xc)
        have zT : IsT ((((W5.setCell ⟨w.heap.size + 1, 0, none⟩ (.int .i64 xk)).setCell ⟨w.heap.size + 1, 1, none⟩ (.int .i64 xn)).setCell ⟨w.heap.size + 1, 2, none⟩ (.string xs)).setCell ⟨w.heap.size + 1, 3, none⟩ (.slice xa xm xc)).heap.size ((((W5.setCell ⟨w.heap.size + 1, 0, none⟩ (.int .i64 xk)).setCell ⟨w.heap.size + 1, 1, none⟩ (.int .i64 xn)).setCell ⟨w.heap.size + 1, 2, none⟩ (.string xs)).setCell ⟨w.heap.size + 1, 3, none⟩ (.slice xa xm xc)) (listT l R) (.agg #[.int .i64 xk, .int .i64 xn, .string xs, .slice xa xm xc]) := IsP.toT (fun _ h => h) _ _ (IsP.map (q := fun b => b < ((((W5.setCell ⟨w.heap.size + 1, 0, none⟩ (.int .i64 xk)).setCell ⟨w.heap.size + 1, 1, none⟩ (.int .i64 xn)).setCell ⟨w.heap.size + 1, 2, none⟩ (.string xs)).setCell ⟨w.heap.size + 1, 3, none⟩ (.slice xa xm xc)).heap.size) (B := ((((W5.setCell ⟨w.heap.size + 1, 0, none⟩ (.int .i64 xk)).setCell ⟨w.heap.size + 1, 1, none⟩ (.int .i64 xn)).setCell ⟨w.heap.size + 1, 2, none⟩ (.string xs)).setCell ⟨w.heap.size + 1, 3, none⟩ (.slice xa xm xc))) (fun b hq => ⟨by have := hq.2; have := Below.size HB3.out; simp; omega, (heap_four (by rcases hq.1 with h | h <;> omega) _ _ _ _).trans (Below.block HB3.out b hq.2)⟩) _ _ HQ.out)
        have HZ := Lib.hid (And.intro zB zT)
        have y0 := z.cell 0
        have y1 := z.cell 1
        have y2 := z.cell 2
        have y3 := z.cell 3
        clear z zB zT
        go_wp2_with fail
        clear u0 u1 u2 u3 g0 g1 g2 g3
        generalize ((((W5.setCell ⟨w.heap.size + 1, 0, none⟩ (.int .i64 xk)).setCell ⟨w.heap.size + 1, 1, none⟩ (.int .i64 xn)).setCell ⟨w.heap.size + 1, 2, none⟩ (.string xs)).setCell ⟨w.heap.size + 1, 3, none⟩ (.slice xa xm xc)) = FW at *
        simp at y0 y1 y2 y3
        exact bodyPost_ret (v := .tuple #[.agg #[.int .i64 xk, .int .i64 xn, .string xs, .slice xa xm xc], .int .i64 0]) (by simp [results, Tryd.results54, go_sem, y0, y1, y2, y3]) rfl (TlPost.mk HV.out.1 HV.out.2 HZ.out.2 HZ.out.1)
end Go.Proofs.YtlaeaoecmnaneaaDoor

/- List of whatever trees. -/
namespace Go.Proofs.YtlaeaoecmnaneaaDoor
open Go.RowKit Go

attribute [local go_sem] Oper.semAt_some

set_option maxRecDepth 100000 in
set_option maxHeartbeats 4000000 in
theorem List_none (l : List Tr) (R : Tr) (a : Option Addr) (c : Nat) (v : Value) (w : World) (hl : IsL w.heap.size w l a) (hm : l.length ≤ maxLen) (hdl : ∀ t, t ∈ l → t.deep ≤ 999999999) (hR : IsT w.heap.size w R v) (hdR : R.deep ≤ 999999999) (hf : (togB l && isB R) = false) :
    Calls Tryd.prog 53 #[.slice a l.length c, v] w (TlPost zeroTr 3 w) := by
  cases hTc : R with
  | node k n s ts =>
  subst hTc
  have hR' := hR
  obtain ⟨a', c', rfl, _⟩ := hR'.open
  clear hR'
  have HX := Lib.hid (And.intro hR (And.intro hl hf))
  clear hR hl hf
  refine (callsIn_wide (n := 9)).1 ?_
  generalize hF : Fence.wide = F
  have hd : F.depth = none := by subst hF; rfl
  have hf : ∀ f, F.fn f := fun f => by subst hF; trivial
  have hro : F.round = none := by subst hF; rfl
  refine callsIn_of_wp_marks Tryd.func53 rfl (hf _) ?_ hro
  simp only [Tryd.ntmps53, List.size_toArray, List.length_cons, List.length_nil, Nat.reduceAdd, Nat.reduceSub, Array.replicate_succ, Array.replicate_zero, List.push_toArray, List.append_toArray, List.nil_append, List.cons_append]
  gi_wp2_with fail
  have hb0 : Box ((w.alloc (.cells #[.int .i64 k, .int .i64 n, .string s, .slice a' ts.length c'] 25)).alloc (.cells #[.int .i64 0, .int .i64 0, .string ⟨#[]⟩, .slice none 0 0] 25)) w.heap.size #[.int .i64 k, .int .i64 n, .string s, .slice a' ts.length c'] 25 := (Box.at rfl).alloc _
  have hb1 : Box ((w.alloc (.cells #[.int .i64 k, .int .i64 n, .string s, .slice a' ts.length c'] 25)).alloc (.cells #[.int .i64 0, .int .i64 0, .string ⟨#[]⟩, .slice none 0 0] 25)) (w.heap.size + 1) #[.int .i64 0, .int .i64 0, .string ⟨#[]⟩, .slice none 0 0] 25 := Box.at (by simp)
  have hB0 := below_a2 (Nat.le_refl w.heap.size) (.cells #[.int .i64 k, .int .i64 n, .string s, .slice a' ts.length c'] 25) (.cells #[.int .i64 0, .int .i64 0, .string ⟨#[]⟩, .slice none 0 0] 25)
  refine CallsIn.mono (callsIn_of_calls hF (checkAll_any l a c _ hm (HX.out.2.1.up hB0 hB0.size) hdl)) ?_
  rintro e w1 ⟨rfl, B⟩
  replace hb0 := hb0.keep B
  replace hb1 := hb1.keep B
  replace hB0 := hB0.trans (B.mono hB0.size)
  have l0 := hb0.lt
  have l1 := hb1.lt
  clear B
  cases hr : togB l with
  | false =>
    rw [show errI false = 3 from rfl]
    have u0 := hb1.cell 0
    have u1 := hb1.cell 1
    have u2 := hb1.cell 2
    have u3 := hb1.cell 3
    have g0 := hb1.frozen 0
    have g1 := hb1.frozen 1
    have g2 := hb1.frozen 2
    have g3 := hb1.frozen 3
    simp only [List.getElem?_toArray, List.getElem?_cons_succ, List.getElem?_cons_zero] at u0 u1 u2 u3
    gi_wp2_with fail
    have z := hb1.four (.int .i64 0) (.int .i64 0) (.string ⟨#[]⟩) (.slice none 0 0)
    have zB := below_four hB0 (by omega) (.int .i64 0) (.int .i64 0) (.string ⟨#[]⟩) (.slice none 0 0) (B := w.heap.size + 1)
    have y0 := z.cell 0
    have y1 := z.cell 1
    have y2 := z.cell 2
    have y3 := z.cell 3
    clear z u0 u1 u2 u3 g0 g1 g2 g3
    generalize (((w1.setCell ⟨w.heap.size + 1, 0, none⟩ (.int .i64 0)).setCell ⟨w.heap.size + 1, 1, none⟩ (.int .i64 0)).setCell ⟨w.heap.size + 1, 2, none⟩ (.string ⟨#[]⟩)).setCell ⟨w.heap.size + 1, 3, none⟩ (.slice none 0 0) = FW at *
    simp at y0 y1 y2 y3
    exact ⟨.tuple #[.agg #[.int .i64 0, .int .i64 0, .string ⟨#[]⟩, .slice none 0 0], .int .i64 3], by simp [results, Tryd.results53, go_sem, y0, y1, y2, y3], TlPost.mk rfl rfl (zeroTl _ _) zB⟩
  | true =>
    rw [show errI true = 0 from rfl]
    have q0 := hb0.cell 0
    have q1 := hb0.cell 1
    have q2 := hb0.cell 2
    have q3 := hb0.cell 3
    simp only [List.getElem?_toArray, List.getElem?_cons_succ, List.getElem?_cons_zero] at q0 q1 q2 q3
    gi_wp2_with fail
    have hblk : Box (w1.alloc (.cells #[.int .i64 k, .int .i64 n, .string s, .slice a' ts.length c'] 25)) w1.heap.size #[.int .i64 k, .int .i64 n, .string s, .slice a' ts.length c'] 25 := Box.at rfl
    have hB1 := below_a1 (Nat.le_refl w1.heap.size) (.cells #[.int .i64 k, .int .i64 n, .string s, .slice a' ts.length c'] 25)
    have hB2 := hB0.trans (hB1.mono hB0.size)
    refine CallsIn.mono (callsIn_of_calls hF (checkEach_any [.node k n s ts] (some ⟨w1.heap.size, 0, none⟩) 1 _ (by unfold maxLen; simp) (IsL.cons (by simp) (hblk.cell 0) (hblk.cell 1) (hblk.cell 2) (hblk.cell 3) (HX.out.1.up hB2 hB2.size) IsL.nil) (by simpa using hdR))) ?_
    rintro e w2 ⟨rfl, B⟩
    rw [show [Tr.node k n s ts].all isB = false by have := HX.out.2.2; rw [hr] at this; simpa using this, show errI false = 3 from rfl]
    replace hb1 := (hb1.keep hB1).keep B
    replace hB0 := hB2.trans (B.mono hB2.size)
    clear hblk hB1 hB2 q0 q1 q2 q3 l0 l1 hb0 B
    have l1 := hb1.lt
    have u0 := hb1.cell 0
    have u1 := hb1.cell 1
    have u2 := hb1.cell 2
    have u3 := hb1.cell 3
    have g0 := hb1.frozen 0
    have g1 := hb1.frozen 1
    have g2 := hb1.frozen 2
    have g3 := hb1.frozen 3
    simp only [List.getElem?_toArray, List.getElem?_cons_succ, List.getElem?_cons_zero] at u0 u1 u2 u3
    gi_wp2_with fail
    have z := hb1.four (.int .i64 0) (.int .i64 0) (.string ⟨#[]⟩) (.slice none 0 0)
    have zB := below_four hB0 (by omega) (.int .i64 0) (.int .i64 0) (.string ⟨#[]⟩) (.slice none 0 0) (B := w.heap.size + 1)
    have y0 := z.cell 0
    have y1 := z.cell 1
    have y2 := z.cell 2
    have y3 := z.cell 3
    clear z u0 u1 u2 u3 g0 g1 g2 g3
    generalize (((w2.setCell ⟨w.heap.size + 1, 0, none⟩ (.int .i64 0)).setCell ⟨w.heap.size + 1, 1, none⟩ (.int .i64 0)).setCell ⟨w.heap.size + 1, 2, none⟩ (.string ⟨#[]⟩)).setCell ⟨w.heap.size + 1, 3, none⟩ (.slice none 0 0) = FW at *
    simp at y0 y1 y2 y3
    exact ⟨.tuple #[.agg #[.int .i64 0, .int .i64 0, .string ⟨#[]⟩, .slice none 0 0], .int .i64 3], by simp [results, Tryd.results53, go_sem, y0, y1, y2, y3], TlPost.mk rfl rfl (zeroTl _ _) zB⟩
theorem List_any (l : List Tr) (R : Tr) (a : Option Addr) (c : Nat) (v : Value) (w : World) (hl : IsL w.heap.size w l a) (hm : l.length ≤ maxLen) (hdl : ∀ t, t ∈ l → t.deep ≤ 999999999) (hR : IsT w.heap.size w R v) (hdR : R.deep ≤ 999999999) :
    Calls Tryd.prog 53 #[.slice a l.length c, v] w (TlPost (lstV l R) (lstE l R) w) := by
  cases hf : togB l && isB R with
  | false =>
    have := List_none l R a c v w hl hm hdl hR hdR hf
    rwa [show lstV l R = zeroTr by rw [lstV, hf]; rfl, show lstE l R = 3 by rw [lstE, hf]; rfl]
  | true =>
    have hf' := hf
    rw [Bool.and_eq_true] at hf'
    refine (List_okZ l R a c v w hl hm hR hf'.1 hf'.2).mono ?_
    rintro e w' ⟨hB, k, n, s, a', m, c', rfl, h1, h2⟩
    cases hb : isB (listT l R) with
    | true =>
      have e1 : lstV l R = listT l R := by rw [lstV, hf, if_pos rfl, if_pos hb]
      have e2 : lstE l R = limE (listT l R) := by rw [lstE, hf, if_pos rfl, limE]
      exact TlPost.mk e1 e2 (h1 hb) hB
    | false =>
      have e1 : lstV l R = zeroTr := by rw [lstV, hf, if_pos rfl, if_neg (by rw [hb]; simp)]
      have e2 : lstE l R = limE (listT l R) := by rw [lstE, hf, if_pos rfl, limE]
      exact TlPost.mk e1 e2 (by rw [h2 hb]; exact zeroTl _ _) hB
end Go.Proofs.YtlaeaoecmnaneaaDoor

/- The second reading of Items. -/
namespace Go.Proofs.YtlaeaoecmnaneaaDoor
open Go.RowKit Go

theorem FndX.last {n₀ : Nat} {wr w3 : World} {fs : List Tr} {X : Tr} {k n : Int} {s : ByteArray} {l : List Tr} {a : Option Addr} {c : Nat} {xs : List Value} (hx : xs.length = fs.length * 4) (hf : FndX n₀ wr xs fs) (hXe : X = .node k n s l) (hX : IsT n₀ wr X (.agg #[.int .i64 k, .int .i64 n, .string s, .slice a l.length c])) (hB : Below n₀ wr w3) :
    FndX n₀ w3 (xs ++ [.int .i64 k, .int .i64 n, .string s, .slice a l.length c]) (fs ++ [X]) := by
  intro i hi
  simp only [List.length_append, List.length_singleton] at hi
  by_cases e : i < fs.length
  · obtain ⟨k', n', s', l', a', c', e', c0, c1, c2, c3, ht'⟩ := hf i e
    have eg : (fs ++ [X])[i]'(by simpa using hi) = fs[i] := List.getElem_append_left e
    refine ⟨k', n', s', l', a', c', by rw [eg]; exact e', ?_, ?_, ?_, ?_, by rw [eg]; exact ht'.below hB⟩
    · rw [List.getElem?_append_left (by omega), c0]
    · rw [List.getElem?_append_left (by omega), c1]
    · rw [List.getElem?_append_left (by omega), c2]
    · rw [List.getElem?_append_left (by omega), c3]
  · obtain rfl : i = fs.length := by omega
    have eg : (fs ++ [X])[fs.length]'(by simp) = X := by simp
    refine ⟨k, n, s, l, a, c, by rw [eg]; exact hXe, ?_, ?_, ?_, ?_, by rw [eg]; exact hX.below hB⟩
    · rw [List.getElem?_append_right (by omega), hx]; simp
    · rw [List.getElem?_append_right (by omega), hx, show fs.length * 4 + 1 - fs.length * 4 = 1 by omega]; rfl
    · rw [List.getElem?_append_right (by omega), hx, show fs.length * 4 + 2 - fs.length * 4 = 2 by omega]; rfl
    · rw [List.getElem?_append_right (by omega), hx, show fs.length * 4 + 3 - fs.length * 4 = 3 by omega]; rfl
/-- What the second reading of Items hands back. -/
def RiPost (T : Tr) (w : World) (e : Ending) (w' : World) : Prop :=
  Below w.heap.size w w' ∧ (isB T = false → e = .returned (.tuple #[.slice none 0 0, .agg #[.int .i64 0, .int .i64 0, .string ⟨#[]⟩, .slice none 0 0], .int .i64 3])) ∧
  (isB T = true → ∃ l r a c v, T = listT l r ∧ r.cell = false ∧ e = .returned (.tuple #[.slice a l.length c, v, .int .i64 0]) ∧ IsS w'.heap.size w' l (.slice a l.length c) ∧ IsT w'.heap.size w' r v)
structure RiAt (T : Tr) (w : World) (l : List Tr) (xs : List Value) (k n : Int) (s : ByteArray) (ts : List Tr) (a : Option Addr) (c : Nat) (ov : Value) (wr : World) : Prop where
  eq : T = listT l (.node k n s ts)
  good : (Tr.node k n s ts).good = true
  own : wr.ownsRow (w.heap.size + 2) 25 4 ov l.length xs
  fnd : FndX w.heap.size wr xs l
  box : Box wr w.heap.size #[.int .i64 k, .int .i64 n, .string s, .slice a ts.length c] 25
  out : Box wr (w.heap.size + 1) #[.int .i64 0, .int .i64 0, .string ⟨#[]⟩, .slice none 0 0] 25
  tree : IsT w.heap.size w (.node k n s ts) (.agg #[.int .i64 k, .int .i64 n, .string s, .slice a ts.length c])
  below : Below w.heap.size w wr
  size : (Tr.node k n s ts).size + l.length ≤ T.size
theorem RiAt.up {T : Tr} {w wr W : World} {l : List Tr} {xs : List Value} {k n : Int} {s : ByteArray} {ts : List Tr} {a : Option Addr} {c : Nat} {ov : Value} (h : RiAt T w l xs k n s ts a c ov wr) (B : Below wr.heap.size wr W) : RiAt T w l xs k n s ts a c ov W :=
  ⟨h.eq, h.good, h.own.kept (grown_b none B) (by rcases ov.ownBlock with _ | _ <;> simp), h.fnd.keep (B.mono h.below.size), h.box.keep B, h.out.keep B, h.tree, h.below.trans (B.mono h.below.size), h.size⟩
def RiInv (T : Tr) (w : World) (ov : Value) (wr : World) : Prop :=
  ∃ (l : List Tr) (xs : List Value) (k n : Int) (s : ByteArray) (ts : List Tr) (a : Option Addr) (c : Nat), RiAt T w l xs k n s ts a c ov wr
theorem own_less {W : World} {p q : Nat} {v : Value} {k : Nat} {xs : List Value} (h : W.ownsRow p 25 4 v k xs) (hq : q ≤ p) : W.ownsRow q 25 4 v k xs :=
  ⟨h.1, h.2.imp id fun ⟨g, cap, cur, e, hb, r⟩ => ⟨g, cap, cur, e, Nat.le_trans hq hb, r⟩⟩

set_option maxRecDepth 100000 in
set_option maxHeartbeats 4000000 in
theorem refItems_any (T : Tr) (v : Value) (w : World) (hT : IsT w.heap.size w T v) (hsz : T.size ≤ 1000000) (hdp : T.deep ≤ 1000000) :
    Calls Tryd.prog 56 #[v] w (RiPost T w) := by
  cases hTc : T with
  | node k n s ts =>
  subst hTc
  have hT' := hT
  obtain ⟨a', c', rfl, _⟩ := hT'.open
  clear hT'
  have hb0 : Box ((w.alloc (.cells #[.int .i64 k, .int .i64 n, .string s, .slice a' ts.length c'] 25)).alloc (.cells #[.int .i64 0, .int .i64 0, .string ⟨#[]⟩, .slice none 0 0] 25)) w.heap.size #[.int .i64 k, .int .i64 n, .string s, .slice a' ts.length c'] 25 := (Box.at rfl).alloc _
  have hb1 : Box ((w.alloc (.cells #[.int .i64 k, .int .i64 n, .string s, .slice a' ts.length c'] 25)).alloc (.cells #[.int .i64 0, .int .i64 0, .string ⟨#[]⟩, .slice none 0 0] 25)) (w.heap.size + 1) #[.int .i64 0, .int .i64 0, .string ⟨#[]⟩, .slice none 0 0] 25 := Box.at (by simp)
  have hB0 := below_a2 (Nat.le_refl w.heap.size) (.cells #[.int .i64 k, .int .i64 n, .string s, .slice a' ts.length c'] 25) (.cells #[.int .i64 0, .int .i64 0, .string ⟨#[]⟩, .slice none 0 0] 25)
  have hcheck := refCheck_any (.node k n s ts) _ _ (hT.up hB0 hB0.size) (by omega) (by omega)
  have HT := Lib.hid hT
  have HCK := Lib.hid hcheck
  have hz0 := hb0.cell 0
  have hz1 := hb0.cell 1
  have hz2 := hb0.cell 2
  have hz3 := hb0.cell 3
  simp only [List.getElem?_toArray, List.getElem?_cons_succ, List.getElem?_cons_zero] at hz0 hz1 hz2 hz3
  clear hT hcheck
  go_enter Tryd.func56, Tryd.ntmps56
  go_wp2_with fail
  clear hz0 hz1 hz2 hz3
  refine HCK.out.mono ?_
  rintro e w1 ⟨rfl, hB1⟩
  have p0 := Box.keep hB1 hb0
  have p1 := Box.keep hB1 hb1
  have hB2 := hB0.trans (hB1.mono hB0.size)
  have l0 := p0.lt
  have l1 := p1.lt
  have hs1 : w.heap.size + 2 ≤ w1.heap.size := by have := hB1.size; simp at this; omega
  clear hB1 hb0 hb1 hB0 HCK
  generalize hEQ : isB (.node k n s ts) = bT
  have hbT : Hid (bT = isB (.node k n s ts)) := by rw [Hid, ← hEQ]
  clear hEQ
  cases bT with
  | false =>
    rw [show errI false = 3 from rfl]
    have u0 := p1.cell 0
    have u1 := p1.cell 1
    have u2 := p1.cell 2
    have u3 := p1.cell 3
    have g0 := p1.frozen 0
    have g1 := p1.frozen 1
    have g2 := p1.frozen 2
    have g3 := p1.frozen 3
    simp only [List.getElem?_toArray, List.getElem?_cons_succ, List.getElem?_cons_zero] at u0 u1 u2 u3
    clear p0
    go_wp2_with fail
    have z := p1.four (.int .i64 0) (.int .i64 0) (.string ⟨#[]⟩) (.slice none 0 0)
    have zB := below_four hB2 (by simp) (.int .i64 0) (.int .i64 0) (.string ⟨#[]⟩) (.slice none 0 0) (B := w.heap.size + 1)
    have y0 := z.cell 0
    have y1 := z.cell 1
    have y2 := z.cell 2
    have y3 := z.cell 3
    clear z u0 u1 u2 u3 g0 g1 g2 g3
    generalize (((w1.setCell ⟨w.heap.size + 1, 0, none⟩ (.int .i64 0)).setCell ⟨w.heap.size + 1, 1, none⟩ (.int .i64 0)).setCell ⟨w.heap.size + 1, 2, none⟩ (.string ⟨#[]⟩)).setCell ⟨w.heap.size + 1, 3, none⟩ (.slice none 0 0) = FW at *
    simp at y0 y1 y2 y3
    exact bodyPost_ret (v := .tuple #[.slice none 0 0, .agg #[.int .i64 0, .int .i64 0, .string ⟨#[]⟩, .slice none 0 0], .int .i64 3]) (by simp [results, Tryd.results56, go_sem, y0, y1, y2, y3]) rfl ⟨zB, fun _ => rfl, fun h => by rw [← hbT.out] at h; cases h⟩
  | true =>
    rw [show errI true = 0 from rfl]
    have hTb : isB (.node k n s ts) = true := hbT.out.symm
    have hI0 : RiAt (.node k n s ts) w [] [] k n s ts a' c' (.slice none 0 0) w1 := ⟨rfl, (isB_is hTb).1, World.ownsRow_nil _ _ _ _, fun i hi => by simp at hi, p0, p1, HT.out, hB2, by simp⟩
    have HI0 := Lib.hid hI0
    have HTb := Lib.hid hTb
    clear hI0 hTb hbT p0 p1 hB2
    obtain ⟨i0, hi, hz0, hz1, hz2⟩ := info_parts infoTerm
    go_wp2_with fail
    go_loopw [5] (fun ov wr => RiInv (.node k n s ts) w ov wr) (fun ov _ => (Tr.node k n s ts).size - lenV ov)
    case atStart => exact ⟨[], [], k, n, s, ts, a', c', HI0.out⟩
    case round =>
      obtain ⟨l, xs, k', n', s', ts', a2, c2, hA⟩ := hrel
      have HA := Lib.hid hA
      have q0 := hA.box.cell 0
      have q1 := hA.box.cell 1
      have q2 := hA.box.cell 2
      have q3 := hA.box.cell 3
      have hlt := hA.box.lt
      simp only [List.getElem?_toArray, List.getElem?_cons_succ, List.getElem?_cons_zero] at q0 q1 q2 q3
      obtain ⟨a3, c3, he, _, _, _, h4, h5, hL⟩ := hA.tree.open
      cases he
      have hm : ts'.length ≤ maxLen := Nat.le_trans h4 h5
      have hl' := row_lenV hA.own
      have HL := Lib.hid hL
      clear hA hL
      go_wp2_with fail
      refine (refCell_any k' n' s' ts'.length a2 c2 wr hm).mono ?_
      rintro e W1 ⟨rfl, B⟩
      have HB := Lib.hid (HA.out.up B)
      have hs12 := B.size
      clear B q0 q1 q2 q3
      cases hc : cellB k' s' ts'.length with
      | false =>
        have q0 := HB.out.box.cell 0
        have q1 := HB.out.box.cell 1
        have q2 := HB.out.box.cell 2
        have q3 := HB.out.box.cell 3
        have hlt1 := HB.out.box.lt
        have hout := HB.out.out
        have u0 := hout.cell 0
        have u1 := hout.cell 1
        have u2 := hout.cell 2
        have u3 := hout.cell 3
        have g0 := hout.frozen 0
        have g1 := hout.frozen 1
        have g2 := hout.frozen 2
        have g3 := hout.frozen 3
        have hlt2 := hout.lt
        simp only [List.getElem?_toArray, List.getElem?_cons_succ, List.getElem?_cons_zero] at q0 q1 q2 q3 u0 u1 u2 u3
        have HC := Lib.hid hc
        have HO := Lib.hid hout
        clear hc hout
        go_wp2_with fail
        go_region
        have z := HO.out.four (.int .i64 k') (.int .i64 n') (.string s') (.slice a2 ts'.length c2)
        have zB := below_four HB.out.below (by omega) (.int .i64 k') (.int .i64 n') (.string s') (.slice a2 ts'.length c2) (B := w.heap.size + 1)
        have zB1 := below_four (Below.refl w.heap.size W1) (by omega) (.int .i64 k') (.int .i64 n') (.string s') (.slice a2 ts'.length c2) (B := w.heap.size + 1)
        have zR : RowF w.heap.size ((((W1.setCell ⟨w.heap.size + 1, 0, none⟩ (.int .i64 k')).setCell ⟨w.heap.size + 1, 1, none⟩ (.int .i64 n')).setCell ⟨w.heap.size + 1, 2, none⟩ (.string s')).setCell ⟨w.heap.size + 1, 3, none⟩ (.slice a2 ts'.length c2)) u5 l := ⟨_, own_less (HB.out.own.kept (grown_four (w.heap.size + 1) W1 (.int .i64 k') (.int .i64 n') (.string s') (.slice a2 ts'.length c2)) (.inr (fun e => by have := (HB.out.own.lt _ e).1; omega))) (by omega), HB.out.fnd.keep zB1⟩
        have zD : Below ((((W1.setCell ⟨w.heap.size + 1, 0, none⟩ (.int .i64 k')).setCell ⟨w.heap.size + 1, 1, none⟩ (.int .i64 n')).setCell ⟨w.heap.size + 1, 2, none⟩ (.string s')).setCell ⟨w.heap.size + 1, 3, none⟩ (.slice a2 ts'.length c2)).heap.size ((((W1.setCell ⟨w.heap.size + 1, 0, none⟩ (.int .i64 k')).setCell ⟨w.heap.size + 1, 1, none⟩ (.int .i64 n')).setCell ⟨w.heap.size + 1, 2, none⟩ (.string s')).setCell ⟨w.heap.size + 1, 3, none⟩ (.slice a2 ts'.length c2)) (((((W1.setCell ⟨w.heap.size + 1, 0, none⟩ (.int .i64 k')).setCell ⟨w.heap.size + 1, 1, none⟩ (.int .i64 n')).setCell ⟨w.heap.size + 1, 2, none⟩ (.string s')).setCell ⟨w.heap.size + 1, 3, none⟩ (.slice a2 ts'.length c2)).drew) := (Below.refl _ _).drew
        have zS := (zR.keep zB.size zD).isS (Nat.le_trans zB.size zD.size)
        have zT := HB.out.tree.up (zB.trans (zD.mono zB.size)) (Nat.le_trans zB.size zD.size)
        have zF := zB.trans (zD.mono zB.size)
        obtain ⟨ra, rc, hre⟩ := zR.form
        have HZ := Lib.hid (And.intro zS (And.intro zT zF))
        have y0 : ((((W1.setCell ⟨w.heap.size + 1, 0, none⟩ (.int .i64 k')).setCell ⟨w.heap.size + 1, 1, none⟩ (.int .i64 n')).setCell ⟨w.heap.size + 1, 2, none⟩ (.string s')).setCell ⟨w.heap.size + 1, 3, none⟩ (.slice a2 ts'.length c2)).drew.cell? ⟨w.heap.size + 1, 0, none⟩ = _ := z.cell 0
        have y1 : ((((W1.setCell ⟨w.heap.size + 1, 0, none⟩ (.int .i64 k')).setCell ⟨w.heap.size + 1, 1, none⟩ (.int .i64 n')).setCell ⟨w.heap.size + 1, 2, none⟩ (.string s')).setCell ⟨w.heap.size + 1, 3, none⟩ (.slice a2 ts'.length c2)).drew.cell? ⟨w.heap.size + 1, 1, none⟩ = _ := z.cell 1
        have y2 : ((((W1.setCell ⟨w.heap.size + 1, 0, none⟩ (.int .i64 k')).setCell ⟨w.heap.size + 1, 1, none⟩ (.int .i64 n')).setCell ⟨w.heap.size + 1, 2, none⟩ (.string s')).setCell ⟨w.heap.size + 1, 3, none⟩ (.slice a2 ts'.length c2)).drew.cell? ⟨w.heap.size + 1, 2, none⟩ = _ := z.cell 2
        have y3 : ((((W1.setCell ⟨w.heap.size + 1, 0, none⟩ (.int .i64 k')).setCell ⟨w.heap.size + 1, 1, none⟩ (.int .i64 n')).setCell ⟨w.heap.size + 1, 2, none⟩ (.string s')).setCell ⟨w.heap.size + 1, 3, none⟩ (.slice a2 ts'.length c2)).drew.cell? ⟨w.heap.size + 1, 3, none⟩ = _ := z.cell 3
        clear z zB zB1 zR zD zS zT zF u0 u1 u2 u3 g0 g1 g2 g3 q0 q1 q2 q3
        go_wp2_with fail
        generalize ((((W1.setCell ⟨w.heap.size + 1, 0, none⟩ (.int .i64 k')).setCell ⟨w.heap.size + 1, 1, none⟩ (.int .i64 n')).setCell ⟨w.heap.size + 1, 2, none⟩ (.string s')).setCell ⟨w.heap.size + 1, 3, none⟩ (.slice a2 ts'.length c2)).drew = FW at *
        simp at y0 y1 y2 y3
        subst hre
        exact bodyPost_ret (v := .tuple #[.slice ra l.length rc, .agg #[.int .i64 k', .int .i64 n', .string s', .slice a2 ts'.length c2], .int .i64 0]) (by simp [results, Tryd.results56, go_sem, y0, y1, y2, y3]) rfl
          ⟨HZ.out.2.2, fun h => (by rw [HTb.out] at h; cases h), fun _ => ⟨l, _, ra, rc, _, HB.out.eq, HC.out, rfl, HZ.out.1, HZ.out.2.1⟩⟩
      | true =>
        obtain ⟨x, y, rfl, hxy, hgx, hgy⟩ := good_cell HA.out.good hc
        obtain ⟨b, off, rfl, hb⟩ := HL.out.addr (by simp)
        obtain ⟨tk, tn, tss, tl, ta, tc, te, d0, d1, d2, d3, ht⟩ := HL.out.node' hb HB.out.below 0 (by simp)
        have q3 := HB.out.box.cell 3
        have hlt1 := HB.out.box.lt
        have hbl : b < W1.heap.size := by omega
        simp only [List.getElem?_toArray, List.getElem?_cons_succ, List.getElem?_cons_zero] at q3
        have hsx : (cellT x y).size = 1 + (x.size + (y.size + 0)) := rfl
        have HS := Lib.hid hxy
        have HX := Lib.hid (And.intro te ht)
        have hB1u : ∀ j, u5.ownBlock = some j → j < W1.heap.size := fun j hj => (HB.out.own.lt j hj).2
        have hown := HB.out.own
        have hll : l.length ≤ 1000000 := by have := HB.out.size; omega
        have hw1 := HB.out.below.size
        clear te hxy hc ht
        simp only [List.length_cons, List.length_nil, Nat.zero_add] at q3
        simp only [Nat.zero_mul, Nat.add_zero] at d0 d1 d2 d3
        go_wp2_with (at_builtin; refine wpList_append_where rfl _ _ 22 rfl (w.heap.size + 2) 25 i0 _ 4 56 Tryd.underlying22 hi hz0 hz1 hz2 rfl (by decide) _ _ _ rfl (World.ownsRow.alloc hown _) ⟨W1.heap.size, 0, none⟩ 1 1 [.int .i64 tk, .int .i64 tn, .string tss, .slice ta tl.length tc] rfl rfl (cells_of_box (Box.at rfl)) (fun u hu => by simp only [List.mem_cons, List.not_mem_nil, or_false] at hu; rcases hu with rfl | rfl | rfl | rfl <;> rfl) (by unfold maxLen; omega) (by omega) (by simp; omega) ?_)
        intro v2 w3 hown3 hgrow hwh
        have hnb : ∀ j, u5.ownBlock = some j → w.heap.size + 2 ≤ j ∧ j < W1.heap.size := fun j hj => hown.lt j hj
        have h3s := hgrow.size
        simp only [World.size_alloc] at h3s
        have hBw : Below w.heap.size w w3 := (HB.out.below.alloc HB.out.below.size _).trans (grown_below' hgrow (by simp; omega) (fun g hg => by have := (hnb g hg).1; omega))
        have hB13 : Below w.heap.size W1 w3 := ((Below.refl _ _).alloc (by omega) _).trans (grown_below' hgrow (by simp; omega) (fun g hg => by have := (hnb g hg).1; omega))
        have hbx3 : Box w3 w.heap.size #[.int .i64 k', .int .i64 n', .string s', .slice (some ⟨b, off, none⟩) [x, y].length c2] 25 := (hgrow.block _ (HB.out.box.alloc _).lt (fun e => by have := (hnb _ e.symm).1; omega)).trans (HB.out.box.alloc _)
        have hou3 : Box w3 (w.heap.size + 1) #[.int .i64 0, .int .i64 0, .string ⟨#[]⟩, .slice none 0 0] 25 := (hgrow.block _ (HB.out.out.alloc _).lt (fun e => by have := (hnb _ e.symm).1; omega)).trans (HB.out.out.alloc _)
        obtain ⟨yk, yn, ys', yl, ya, yc, ye, d0, d1, d2, d3, hty⟩ := HL.out.node' hb hBw 1 (by simp)
        simp only [List.getElem_cons_succ, List.getElem_cons_zero] at ye hty
        subst ye
        have hv2 : ∀ j, v2.ownBlock = some j → w.heap.size + 2 ≤ j := fun j hj => (hown3.lt j hj).1
        have hI : RiAt (.node k n s ts) w (l ++ [x]) (xs ++ [.int .i64 tk, .int .i64 tn, .string tss, .slice ta tl.length tc]) yk yn ys' yl ya yc v2 ((((w3.setCell ⟨w.heap.size, 0, none⟩ (.int .i64 yk)).setCell ⟨w.heap.size, 1, none⟩ (.int .i64 yn)).setCell ⟨w.heap.size, 2, none⟩ (.string ys')).setCell ⟨w.heap.size, 3, none⟩ (.slice ya yl.length yc)) := by
          refine ⟨?_, hgy, ?_, ?_, hbx3.four _ _ _ _, ?_, hty, below_four hBw (Nat.le_refl _) _ _ _ _, ?_⟩
          · rw [listT_snoc, ← HS.out]; exact HB.out.eq
          · rw [len_snoc]
            exact hown3.kept (grown_four w.heap.size w3 _ _ _ _) (.inr (fun e => by have := hv2 _ e; omega))
          · exact FndX.last HB.out.own.1 HB.out.fnd HX.out.1 ((HX.out.2).below HB.out.below) (below_four hB13 (Nat.le_refl _) _ _ _ _)
          · exact (((hou3.other (by omega) 0 _).other (by omega) 1 _).other (by omega) 2 _).other (by omega) 3 _
          · have := HB.out.size
            have := congrArg Tr.size HS.out
            simp only [List.length_append, List.length_cons, List.length_nil]
            omega
        have HI := Lib.hid hI
        have q0 := hbx3.cell 0
        have q1 := hbx3.cell 1
        have q2 := hbx3.cell 2
        have q3 := hbx3.cell 3
        have g0 := hbx3.frozen 0
        have g1 := hbx3.frozen 1
        have g2 := hbx3.frozen 2
        have g3 := hbx3.frozen 3
        have hlt3 := hbx3.lt
        have hbl3 : b < w3.heap.size := by omega
        have hsl : l.length + 1 ≤ (Tr.node k n s ts).size := by have := HB.out.size; have := congrArg Tr.size HS.out; omega
        have hlv2 := row_lenV hown3
        simp only [List.getElem?_toArray, List.getElem?_cons_succ, List.getElem?_cons_zero, List.length_cons, List.length_nil, Nat.zero_add] at q0 q1 q2 q3
        simp only [Nat.one_mul] at d0 d1 d2 d3
        clear hI hown hown3 hgrow hwh hty hbx3 hou3 hBw hB13 hnb hv2
        go_wp2_with fail
        exact ⟨⟨_, _, _, _, _, _, _, _, HI.out⟩, by rw [hl', hlv2]; omega⟩
end Go.Proofs.YtlaeaoecmnaneaaDoor

/- The second reading of General. -/
namespace Go.Proofs.YtlaeaoecmnaneaaDoor
open Go.RowKit Go

/-- A tree and an error are handed back. -/
def TePost (X : Tr) (x : Int) (w : World) (e : Ending) (w' : World) : Prop := ∃ k n s a m c, e = .returned (.tuple #[.agg #[.int .i64 k, .int .i64 n, .string s, .slice a m c], .int .i64 x]) ∧ IsT w'.heap.size w' X (.agg #[.int .i64 k, .int .i64 n, .string s, .slice a m c]) ∧ Below w.heap.size w w'
theorem TePost.mk {X : Tr} {x : Int} {w w' : World} {k n : Int} {s : ByteArray} {a : Option Addr} {m c : Nat} {X' : Tr} {x' : Int} (hX : X = X') (hx : x = x') (h : IsT w'.heap.size w' X' (.agg #[.int .i64 k, .int .i64 n, .string s, .slice a m c])) (hB : Below w.heap.size w w') : TePost X x w (.returned (.tuple #[.agg #[.int .i64 k, .int .i64 n, .string s, .slice a m c], .int .i64 x'])) w' := by
  subst hX hx
  exact ⟨k, n, s, a, m, c, rfl, h, hB⟩
theorem zeroTe (n₀ : Nat) (W : World) : IsT n₀ W zeroTr (.agg #[.int .i64 0, .int .i64 0, .string ⟨#[]⟩, .slice none 0 0]) := IsP.toT (p := fun _ => False) (fun _ h => h.elim) _ _ (zero_isP _ _)
set_option maxRecDepth 100000 in
set_option maxHeartbeats 4000000 in
theorem refGeneral_any (X Y : Tr) (v u : Value) (w : World) (hx : IsT w.heap.size w X v) (hy : IsT w.heap.size w Y u) (hsx : X.size ≤ 1000000) (hdx : X.deep ≤ 1000000) (hsy : Y.size ≤ 1000000) (hdy : Y.deep ≤ 1000000) :
    Calls Tryd.prog 52 #[v, u] w (TePost (genR X Y) (errI (isB X && isB Y)) w) := by
  have hsx2 : X.size ≤ 1000000000 := by omega
  have hdx2 : X.deep ≤ 1000000000 := by omega
  have hsy2 : Y.size ≤ 1000000000 := by omega
  have hdy2 : Y.deep ≤ 1000000000 := by omega
  obtain ⟨k, n, s, a, m, c, rfl⟩ := (IsT.toP _ _ hx).form
  obtain ⟨k', n', s', a', m', c', rfl⟩ := (IsT.toP _ _ hy).form
  have bbx : Box (((w.alloc (.cells #[.int .i64 k, .int .i64 n, .string s, .slice a m c] 25)).alloc (.cells #[.int .i64 k', .int .i64 n', .string s', .slice a' m' c'] 25)).alloc (.cells #[.int .i64 0, .int .i64 0, .string ⟨#[]⟩, .slice none 0 0] 25)) w.heap.size #[.int .i64 k, .int .i64 n, .string s, .slice a m c] 25 := ((Box.at rfl).alloc _).alloc _
  have bby : Box (((w.alloc (.cells #[.int .i64 k, .int .i64 n, .string s, .slice a m c] 25)).alloc (.cells #[.int .i64 k', .int .i64 n', .string s', .slice a' m' c'] 25)).alloc (.cells #[.int .i64 0, .int .i64 0, .string ⟨#[]⟩, .slice none 0 0] 25)) (w.heap.size + 1) #[.int .i64 k', .int .i64 n', .string s', .slice a' m' c'] 25 := (Box.at (by simp)).alloc _
  have bbz : Box (((w.alloc (.cells #[.int .i64 k, .int .i64 n, .string s, .slice a m c] 25)).alloc (.cells #[.int .i64 k', .int .i64 n', .string s', .slice a' m' c'] 25)).alloc (.cells #[.int .i64 0, .int .i64 0, .string ⟨#[]⟩, .slice none 0 0] 25)) (w.heap.size + 1 + 1) #[.int .i64 0, .int .i64 0, .string ⟨#[]⟩, .slice none 0 0] 25 := Box.at (by simp)
  have hb := below_a3 (Nat.le_refl w.heap.size) (.cells #[.int .i64 k, .int .i64 n, .string s, .slice a m c] 25) (.cells #[.int .i64 k', .int .i64 n', .string s', .slice a' m' c'] 25) (.cells #[.int .i64 0, .int .i64 0, .string ⟨#[]⟩, .slice none 0 0] 25)
  replace hx := hx.up hb hb.size
  replace hy := hy.up hb hb.size
  go_enter Tryd.func52, Tryd.ntmps52
  go_wp2_with fail
  have qx0 := bbx.cell 0
  have qx1 := bbx.cell 1
  have qx2 := bbx.cell 2
  have qx3 := bbx.cell 3
  have lx := bbx.lt
  simp only [List.getElem?_toArray, List.getElem?_cons_succ, List.getElem?_cons_zero] at qx0 qx1 qx2 qx3
  go_wp2_with fail
  clear qx0 qx1 qx2 qx3 lx
  refine (refCheck_any X _ _ hx hsx2 hdx2).mono ?_
  rintro e W1 ⟨rfl, B⟩
  replace bbx := Box.keep B bbx
  replace bby := Box.keep B bby
  replace bbz := Box.keep B bbz
  replace hx := hx.up B B.size
  replace hy := hy.up B B.size
  replace hb := hb.trans (B.mono hb.size)
  clear B
  cases hr : isB X with
  | false =>
    have hf : (isB X && isB Y) = false := by rw [hr]; rfl
    clear hr
    rw [show errI false = 3 from rfl]
    have HV : Hid (genR X Y = zeroTr ∧ errI (isB X && isB Y) = 3) := by rw [Hid, genR, hf]; exact ⟨rfl, rfl⟩
    clear hf
    have u0 := bbz.cell 0
    have u1 := bbz.cell 1
    have u2 := bbz.cell 2
    have u3 := bbz.cell 3
    have g0 := bbz.frozen 0
    have g1 := bbz.frozen 1
    have g2 := bbz.frozen 2
    have g3 := bbz.frozen 3
    have lz := bbz.lt
    simp only [List.getElem?_toArray, List.getElem?_cons_succ, List.getElem?_cons_zero] at u0 u1 u2 u3
    have z := bbz.four (.int .i64 0) (.int .i64 0) (.string ⟨#[]⟩) (.slice none 0 0)
    have zB := below_four hb (B := w.heap.size + 1 + 1) (by omega) (.int .i64 0) (.int .i64 0) (.string ⟨#[]⟩) (.slice none 0 0)
    have zT : IsT ((((W1.setCell ⟨w.heap.size + 1 + 1, 0, none⟩ (.int .i64 0)).setCell ⟨w.heap.size + 1 + 1, 1, none⟩ (.int .i64 0)).setCell ⟨w.heap.size + 1 + 1, 2, none⟩ (.string ⟨#[]⟩)).setCell ⟨w.heap.size + 1 + 1, 3, none⟩ (.slice none 0 0)).heap.size ((((W1.setCell ⟨w.heap.size + 1 + 1, 0, none⟩ (.int .i64 0)).setCell ⟨w.heap.size + 1 + 1, 1, none⟩ (.int .i64 0)).setCell ⟨w.heap.size + 1 + 1, 2, none⟩ (.string ⟨#[]⟩)).setCell ⟨w.heap.size + 1 + 1, 3, none⟩ (.slice none 0 0)) zeroTr (.agg #[.int .i64 0, .int .i64 0, .string ⟨#[]⟩, .slice none 0 0]) := zeroTe _ _
    have HZ := Lib.hid (And.intro zB zT)
    have y0 := z.cell 0
    have y1 := z.cell 1
    have y2 := z.cell 2
    have y3 := z.cell 3
    clear z zB zT
    go_wp2_with fail
    clear u0 u1 u2 u3 g0 g1 g2 g3
    generalize ((((W1.setCell ⟨w.heap.size + 1 + 1, 0, none⟩ (.int .i64 0)).setCell ⟨w.heap.size + 1 + 1, 1, none⟩ (.int .i64 0)).setCell ⟨w.heap.size + 1 + 1, 2, none⟩ (.string ⟨#[]⟩)).setCell ⟨w.heap.size + 1 + 1, 3, none⟩ (.slice none 0 0)) = FW at *
    simp at y0 y1 y2 y3
    exact bodyPost_ret (v := .tuple #[.agg #[.int .i64 0, .int .i64 0, .string ⟨#[]⟩, .slice none 0 0], .int .i64 3]) (by simp [results, Tryd.results52, go_sem, y0, y1, y2, y3]) rfl (TePost.mk HV.out.1 HV.out.2 HZ.out.2 HZ.out.1)
  | true =>
    rw [show errI true = 0 from rfl]
    have HRX := Lib.hid hr
    clear hr
    have qy0 := bby.cell 0
    have qy1 := bby.cell 1
    have qy2 := bby.cell 2
    have qy3 := bby.cell 3
    have ly := bby.lt
    simp only [List.getElem?_toArray, List.getElem?_cons_succ, List.getElem?_cons_zero] at qy0 qy1 qy2 qy3
    go_wp2_with fail
    clear qy0 qy1 qy2 qy3 ly
    refine (refCheck_any Y _ _ hy hsy2 hdy2).mono ?_
    rintro e W2 ⟨rfl, B⟩
    replace bbx := Box.keep B bbx
    replace bby := Box.keep B bby
    replace bbz := Box.keep B bbz
    replace hx := hx.up B B.size
    replace hy := hy.up B B.size
    replace hb := hb.trans (B.mono hb.size)
    clear B
    cases hr : isB Y with
    | false =>
      have hf : (isB X && isB Y) = false := by rw [HRX.out, hr]; rfl
      clear hr
      rw [show errI false = 3 from rfl]
      have HV : Hid (genR X Y = zeroTr ∧ errI (isB X && isB Y) = 3) := by rw [Hid, genR, hf]; exact ⟨rfl, rfl⟩
      clear hf
      have u0 := bbz.cell 0
      have u1 := bbz.cell 1
      have u2 := bbz.cell 2
      have u3 := bbz.cell 3
      have g0 := bbz.frozen 0
      have g1 := bbz.frozen 1
      have g2 := bbz.frozen 2
      have g3 := bbz.frozen 3
      have lz := bbz.lt
      simp only [List.getElem?_toArray, List.getElem?_cons_succ, List.getElem?_cons_zero] at u0 u1 u2 u3
      have z := bbz.four (.int .i64 0) (.int .i64 0) (.string ⟨#[]⟩) (.slice none 0 0)
      have zB := below_four hb (B := w.heap.size + 1 + 1) (by omega) (.int .i64 0) (.int .i64 0) (.string ⟨#[]⟩) (.slice none 0 0)
      have zT : IsT ((((W2.setCell ⟨w.heap.size + 1 + 1, 0, none⟩ (.int .i64 0)).setCell ⟨w.heap.size + 1 + 1, 1, none⟩ (.int .i64 0)).setCell ⟨w.heap.size + 1 + 1, 2, none⟩ (.string ⟨#[]⟩)).setCell ⟨w.heap.size + 1 + 1, 3, none⟩ (.slice none 0 0)).heap.size ((((W2.setCell ⟨w.heap.size + 1 + 1, 0, none⟩ (.int .i64 0)).setCell ⟨w.heap.size + 1 + 1, 1, none⟩ (.int .i64 0)).setCell ⟨w.heap.size + 1 + 1, 2, none⟩ (.string ⟨#[]⟩)).setCell ⟨w.heap.size + 1 + 1, 3, none⟩ (.slice none 0 0)) zeroTr (.agg #[.int .i64 0, .int .i64 0, .string ⟨#[]⟩, .slice none 0 0]) := zeroTe _ _
      have HZ := Lib.hid (And.intro zB zT)
      have y0 := z.cell 0
      have y1 := z.cell 1
      have y2 := z.cell 2
      have y3 := z.cell 3
      clear z zB zT
      go_wp2_with fail
      clear u0 u1 u2 u3 g0 g1 g2 g3
      generalize ((((W2.setCell ⟨w.heap.size + 1 + 1, 0, none⟩ (.int .i64 0)).setCell ⟨w.heap.size + 1 + 1, 1, none⟩ (.int .i64 0)).setCell ⟨w.heap.size + 1 + 1, 2, none⟩ (.string ⟨#[]⟩)).setCell ⟨w.heap.size + 1 + 1, 3, none⟩ (.slice none 0 0)) = FW at *
      simp at y0 y1 y2 y3
      exact bodyPost_ret (v := .tuple #[.agg #[.int .i64 0, .int .i64 0, .string ⟨#[]⟩, .slice none 0 0], .int .i64 3]) (by simp [results, Tryd.results52, go_sem, y0, y1, y2, y3]) rfl (TePost.mk HV.out.1 HV.out.2 HZ.out.2 HZ.out.1)
    | true =>
      rw [show errI true = 0 from rfl]
      have HRY := Lib.hid hr
      clear hr
      have HV : Hid (genR X Y = (genT X Y []).1 ∧ errI (isB X && isB Y) = 0) := by rw [Hid, genR, HRX.out, HRY.out]; exact ⟨rfl, rfl⟩
      have hp : Prs W2.heap.size W2.heap.size (W2.alloc (.cells #[.slice none 0 0, .slice none 0 0] 135)) (.slice none 0 0) (.slice none 0 0) [] [] := ⟨Box.at rfl, RowF.nil _ _, RowF.nil _ _, fun b e => (by cases e), Nat.le_refl _⟩
      have hbp := below_a1 (Nat.le_refl W2.heap.size) (.cells #[.slice none 0 0, .slice none 0 0] 135)
      have hgc := refGeneral1_any W2.heap.size W2.heap.size X Y _ _ _ _ [] [] _ (hx.below hbp) (hy.below hbp) hp rfl hbp.size (by simp; omega)
      have HGC := Lib.hid hgc
      clear hgc hp
      have qx0 := bbx.cell 0
      have qx1 := bbx.cell 1
      have qx2 := bbx.cell 2
      have qx3 := bbx.cell 3
      have qy0 := bby.cell 0
      have qy1 := bby.cell 1
      have qy2 := bby.cell 2
      have qy3 := bby.cell 3
      have lx := bbx.lt
      have ly := bby.lt
      simp only [List.getElem?_toArray, List.getElem?_cons_succ, List.getElem?_cons_zero] at qx0 qx1 qx2 qx3 qy0 qy1 qy2 qy3
      go_wp2_with fail
      clear qx0 qx1 qx2 qx3 qy0 qy1 qy2 qy3 lx ly
      refine HGC.out.mono ?_
      rintro e W3 ⟨xk, xx, xs, xa, xm, xc, ua, ub, la, lb, rfl, -, -, -, hP, hK, -, -, hsz⟩
      have hs1 := hbp.size
      have B : Below W2.heap.size W2 W3 := ⟨hK.os.trans hbp.os, hK.tape.trans hbp.tape, hK.output.trans hbp.output, Nat.le_trans hs1 hK.size, fun b hb => (hK.block b (by omega) (by omega) (fun e => by cases e) (fun e => by cases e)).trans (hbp.block b hb)⟩
      have hlz := bbz.lt
      replace bbx := Box.keep B bbx
      replace bby := Box.keep B bby
      replace bbz := Box.keep B bbz
      replace hx := hx.up B B.size
      replace hy := hy.up B B.size
      replace hb := hb.trans (B.mono hb.size)
      clear B
      clear hK hbp
      have u0 := bbz.cell 0
      have u1 := bbz.cell 1
      have u2 := bbz.cell 2
      have u3 := bbz.cell 3
      have g0 := bbz.frozen 0
      have g1 := bbz.frozen 1
      have g2 := bbz.frozen 2
      have g3 := bbz.frozen 3
      have lz := bbz.lt
      simp only [List.getElem?_toArray, List.getElem?_cons_succ, List.getElem?_cons_zero] at u0 u1 u2 u3
      have z := bbz.four (.int .i64 xk) (.int .i64 xx) (.string xs) (.slice xa xm xc)
      have zB := below_four hb (B := w.heap.size + 1 + 1) (by omega) (.int .i64 xk) (.int .i64 xx) (.string xs) (.slice xa xm xc)
      have zT : IsT ((((W3.setCell ⟨w.heap.size + 1 + 1, 0, none⟩ (.int .i64 xk)).setCell ⟨w.heap.size + 1 + 1, 1, none⟩ (.int .i64 xx)).setCell ⟨w.heap.size + 1 + 1, 2, none⟩ (.string xs)).setCell ⟨w.heap.size + 1 + 1, 3, none⟩ (.slice xa xm xc)).heap.size ((((W3.setCell ⟨w.heap.size + 1 + 1, 0, none⟩ (.int .i64 xk)).setCell ⟨w.heap.size + 1 + 1, 1, none⟩ (.int .i64 xx)).setCell ⟨w.heap.size + 1 + 1, 2, none⟩ (.string xs)).setCell ⟨w.heap.size + 1 + 1, 3, none⟩ (.slice xa xm xc)) (genT X Y []).1 (.agg #[.int .i64 xk, .int .i64 xx, .string xs, .slice xa xm xc]) := IsP.toT (fun _ h => h) _ _ (IsP.map (q := fun b => b < ((((W3.setCell ⟨w.heap.size + 1 + 1, 0, none⟩ (.int .i64 xk)).setCell ⟨w.heap.size + 1 + 1, 1, none⟩ (.int .i64 xx)).setCell ⟨w.heap.size + 1 + 1, 2, none⟩ (.string xs)).setCell ⟨w.heap.size + 1 + 1, 3, none⟩ (.slice xa xm xc)).heap.size) (B := ((((W3.setCell ⟨w.heap.size + 1 + 1, 0, none⟩ (.int .i64 xk)).setCell ⟨w.heap.size + 1 + 1, 1, none⟩ (.int .i64 xx)).setCell ⟨w.heap.size + 1 + 1, 2, none⟩ (.string xs)).setCell ⟨w.heap.size + 1 + 1, 3, none⟩ (.slice xa xm xc))) (fun b hb => ⟨by have := hb.2.1; simp; omega, heap_four (by have := hb.1; omega) _ _ _ _⟩) _ _ hP)
      have HZ := Lib.hid (And.intro zB zT)
      have y0 := z.cell 0
      have y1 := z.cell 1
      have y2 := z.cell 2
      have y3 := z.cell 3
      clear z zB zT
      clear hP
      go_wp2_with fail
      clear u0 u1 u2 u3 g0 g1 g2 g3
      generalize ((((W3.setCell ⟨w.heap.size + 1 + 1, 0, none⟩ (.int .i64 xk)).setCell ⟨w.heap.size + 1 + 1, 1, none⟩ (.int .i64 xx)).setCell ⟨w.heap.size + 1 + 1, 2, none⟩ (.string xs)).setCell ⟨w.heap.size + 1 + 1, 3, none⟩ (.slice xa xm xc)) = FW at *
      simp at y0 y1 y2 y3
      exact bodyPost_ret (v := .tuple #[.agg #[.int .i64 xk, .int .i64 xx, .string xs, .slice xa xm xc], .int .i64 0]) (by simp [results, Tryd.results52, go_sem, y0, y1, y2, y3]) rfl (TePost.mk HV.out.1 HV.out.2 HZ.out.2 HZ.out.1)
end Go.Proofs.YtlaeaoecmnaneaaDoor
