/- What the law of lists calls, and the law. -/
import Derived.Test.YtckoecmdaefoiaaDoorListM
import Derived.Test.YtckoecmdaefoiaaDoorSane
import Derived.Deep.Upon
namespace Go.Proofs.YtckoecmdaefoiaaDoor
open Go.RowKit Go

theorem listT_size (r : Tr) : ∀ l : List Tr, (listT l r).size = sizeL l + l.length + r.size
  | [] => by simp [listT, sizeL]
  | t :: l => by
    rw [listT_cons]
    simp only [cellT, Tr.size, sizeL, listT_size r l, List.length_cons]
    omega
theorem listT_good (r : Tr) : ∀ l : List Tr, (listT l r).good = true → goodL l = true ∧ r.good = true
  | [], h => ⟨rfl, h⟩
  | t :: l, h => by
    rw [listT_cons] at h
    simp only [cellT, Tr.good, goodL, Bool.and_eq_true] at h
    have := listT_good r l h.2.2.1
    exact ⟨by simp [goodL, h.2.1, this.1], this.2⟩
theorem listT_deeps (r : Tr) : ∀ l : List Tr, (∀ t, t ∈ l → t.deep ≤ (listT l r).deep) ∧ r.deep ≤ (listT l r).deep
  | [] => ⟨fun t h => (by cases h), Nat.le_refl _⟩
  | t :: l => by
    have := listT_deeps r l
    rw [listT_cons]
    simp only [cellT, Tr.deep, deepL]
    refine ⟨fun x hx => ?_, by omega⟩
    rcases List.mem_cons.1 hx with rfl | h
    · omega
    · have := this.1 x h; omega
/-- The items of a term are terms, and its tail. -/
theorem listT_parts {l : List Tr} {r : Tr} (h : isB (listT l r) = true) : togB l = true ∧ isB r = true := by
  rw [isB_good] at h
  simp only [Bool.and_eq_true, decide_eq_true_eq] at h
  obtain ⟨⟨h1, h2⟩, h3⟩ := h
  rw [listT_size] at h1
  obtain ⟨h4, h5⟩ := listT_good r l h3
  have h6 := listT_deeps r l
  refine ⟨?_, ?_⟩
  · simp only [togB, Bool.and_eq_true, decide_eq_true_eq]
    refine ⟨List.all_eq_true.2 fun t ht => ?_, by omega⟩
    rw [isB_good]
    simp only [Bool.and_eq_true, decide_eq_true_eq]
    rw [goodL_all] at h4
    have := size_mem ht
    have := h6.1 t ht
    exact ⟨⟨by omega, by omega⟩, List.all_eq_true.1 h4 t ht⟩
  · rw [isB_good]
    simp only [Bool.and_eq_true, decide_eq_true_eq]
    exact ⟨⟨by omega, by omega⟩, h5⟩

theorem cell_of {n₀ : Nat} {W : World} {R : Tr} {k n : Int} {s : ByteArray} {a : Option Addr} {m c : Nat} (h : IsT n₀ W R (.agg #[.int .i64 k, .int .i64 n, .string s, .slice a m c])) : R.cell = cellB k s m ∧ m ≤ maxLen := by
  cases R with
  | node k' n' s' l' =>
  obtain ⟨a', c', e, _, _, _, h1, h2, _⟩ := h.open
  simp only [Value.agg.injEq, Array.mk.injEq, List.cons.injEq, Value.int.injEq, Value.string.injEq, Value.slice.injEq, and_true, true_and] at e
  obtain ⟨rfl, rfl, rfl, rfl, rfl, rfl⟩ := e
  exact ⟨rfl, Nat.le_trans h1 h2⟩
/-- The cells of a list of trees, one by one. -/
theorem IsL.news {n₀ : Nat} {W : World} : ∀ (l : List Tr) (b off : Nat), IsL n₀ W l (some ⟨b, off, none⟩) → ∃ news : List Value, news.length = l.length * 4 ∧ (∀ j u, news[j]? = some u → W.cell? ⟨b, off + j, none⟩ = some u) ∧ (∀ u, u ∈ news → u.oneCell' = true) ∧
      ∀ i (hi : i < l.length), ∃ v0 v1 v2 v3, news[i * 4]? = some v0 ∧ news[i * 4 + 1]? = some v1 ∧ news[i * 4 + 2]? = some v2 ∧ news[i * 4 + 3]? = some v3 ∧ IsT n₀ W l[i] (.agg #[v0, v1, v2, v3])
  | [], _, _, _ => ⟨[], rfl, fun j u h => (by simp at h), fun u h => (by cases h), fun i hi => (by simp at hi)⟩
  | t :: ts, b, off, h => by
    unfold IsL at h
    obtain ⟨b', off', v0, v1, v2, v3, e, _, c0, c1, c2, c3, ht, hl⟩ := h
    cases e
    obtain ⟨news, h1, h2, h3, h4⟩ := IsL.news ts b (off + 4) hl
    obtain ⟨k, n, s, a, m, c, e⟩ := (IsT.toP _ _ ht).form
    simp only [Value.agg.injEq, Array.mk.injEq, List.cons.injEq, and_true] at e
    obtain ⟨rfl, rfl, rfl, rfl⟩ := e
    refine ⟨.int .i64 k :: .int .i64 n :: .string s :: .slice a m c :: news, by simp [h1]; omega, fun j u hj => ?_, fun u hu => ?_, fun i hi => ?_⟩
    · match j, hj with
      | 0, hj => simp at hj; subst hj; exact c0
      | 1, hj => simp at hj; subst hj; exact c1
      | 2, hj => simp at hj; subst hj; exact c2
      | 3, hj => simp at hj; subst hj; exact c3
      | j + 4, hj =>
        have := h2 j u (by simpa using hj)
        rwa [show off + 4 + j = off + (j + 4) by omega] at this
    · simp only [List.mem_cons] at hu
      rcases hu with rfl | rfl | rfl | rfl | hu
      · rfl
      · rfl
      · rfl
      · rfl
      · exact h3 u hu
    · cases i with
      | zero => exact ⟨_, _, _, _, rfl, rfl, rfl, rfl, ht⟩
      | succ i =>
        obtain ⟨w0, w1, w2, w3, e0, e1, e2, e3, ht'⟩ := h4 i (by simpa using hi)
        refine ⟨w0, w1, w2, w3, ?_, ?_, ?_, ?_, ht'⟩
        · rw [show (i + 1) * 4 = i * 4 + 4 by omega]; simpa using e0
        · rw [show (i + 1) * 4 + 1 = i * 4 + 1 + 4 by omega]; simpa using e1
        · rw [show (i + 1) * 4 + 2 = i * 4 + 2 + 4 by omega]; simpa using e2
        · rw [show (i + 1) * 4 + 3 = i * 4 + 3 + 4 by omega]; simpa using e3
theorem own_new {W : World} {lo : Nat} (xs : List Value) (k : Nat) (hx : xs.length = k * 4) (hk : k ≤ maxLen) (h : lo ≤ W.heap.size) : (W.alloc (.cells xs.toArray 25)).ownsRow lo 25 4 (.slice (some ⟨W.heap.size, 0, none⟩) k k) k xs :=
  ⟨hx, .inr ⟨W.heap.size, k, xs.toArray, rfl, h, World.alloc_heap_new W _, Nat.le_refl _, hk, by simpa using hx, by rw [List.take_of_length_le (by simp; omega)]⟩⟩
theorem row_isL {W : World} {lo : Nat} {v : Value} {l : List Tr} {xs : List Value} (hown : W.ownsRow lo 25 4 v l.length xs) (hne : 0 < l.length)
    (h : ∀ i (hi : i < l.length), ∃ v0 v1 v2 v3, xs[i * 4]? = some v0 ∧ xs[i * 4 + 1]? = some v1 ∧ xs[i * 4 + 2]? = some v2 ∧ xs[i * 4 + 3]? = some v3 ∧ IsT W.heap.size W l[i] (.agg #[v0, v1, v2, v3])) :
    ∃ g cap, v = .slice (some ⟨g, 0, none⟩) l.length cap ∧ l.length ≤ cap ∧ cap ≤ maxLen ∧ IsL W.heap.size W l (some ⟨g, 0, none⟩) := by
  have hh := hown
  rcases hown.2 with ⟨rfl, h0⟩ | ⟨g, cap, cur, rfl, hb, hg, h1, h2, h3, h4⟩
  · omega
  · refine ⟨g, cap, rfl, h1, h2, IsL.of_get (Array.getElem?_eq_some_iff.1 hg).1 fun i hi => ?_⟩
    obtain ⟨v0, v1, v2, v3, c0, c1, c2, c3, ht⟩ := h i hi
    have hc : ∀ j u, xs[j]? = some u → W.cell? ⟨g, 0 + j, none⟩ = some u := fun j u hu => by
      have := World.ownsRow.cells hh (g := g) rfl j u hu
      rw [Addr.add_lit] at this
      exact this
    exact ⟨v0, v1, v2, v3, hc _ _ c0, by have := hc _ _ c1; rwa [← Nat.add_assoc] at this, by have := hc _ _ c2; rwa [← Nat.add_assoc] at this, by have := hc _ _ c3; rwa [← Nat.add_assoc] at this, ht⟩
/-- Two trees, and a list behind them, in a row of their own: they read as a list. -/
theorem row_two {W V : World} {lo : Nat} {v : Value} {R X : Tr} {l : List Tr} {r0 r1 r2 r3 x0 x1 x2 x3 : Value} {news : List Value} (hown : V.ownsRow lo 25 4 v (2 + l.length) ([r0, r1, r2, r3, x0, x1, x2, x3] ++ news)) (hB : Below W.heap.size W V)
    (hR : IsT W.heap.size W R (.agg #[r0, r1, r2, r3])) (hX : IsT W.heap.size W X (.agg #[x0, x1, x2, x3]))
    (h : ∀ i (hi : i < l.length), ∃ v0 v1 v2 v3, news[i * 4]? = some v0 ∧ news[i * 4 + 1]? = some v1 ∧ news[i * 4 + 2]? = some v2 ∧ news[i * 4 + 3]? = some v3 ∧ IsT W.heap.size W l[i] (.agg #[v0, v1, v2, v3])) :
    ∃ g cap, v = .slice (some ⟨g, 0, none⟩) (R :: X :: l).length cap ∧ (R :: X :: l).length ≤ cap ∧ cap ≤ maxLen ∧ IsL V.heap.size V (R :: X :: l) (some ⟨g, 0, none⟩) := by
  refine row_isL (lo := lo) (l := R :: X :: l) (xs := [r0, r1, r2, r3, x0, x1, x2, x3] ++ news) (by rw [show (R :: X :: l).length = 2 + l.length by simp only [List.length_cons]; omega]; exact hown) (by simp) fun i hi => ?_
  match i, hi with
  | 0, _ => exact ⟨r0, r1, r2, r3, rfl, rfl, rfl, rfl, hR.up hB hB.size⟩
  | 1, _ => exact ⟨x0, x1, x2, x3, rfl, rfl, rfl, rfl, hX.up hB hB.size⟩
  | i + 2, hi =>
    obtain ⟨w0, w1, w2, w3, e0, e1, e2, e3, ht'⟩ := h i (by simpa using hi)
    refine ⟨w0, w1, w2, w3, ?_, ?_, ?_, ?_, ht'.up hB hB.size⟩
    · rw [show (i + 2) * 4 = i * 4 + 8 by omega]; simpa using e0
    · rw [show (i + 2) * 4 + 1 = i * 4 + 1 + 8 by omega]; simpa using e1
    · rw [show (i + 2) * 4 + 2 = i * 4 + 2 + 8 by omega]; simpa using e2
    · rw [show (i + 2) * 4 + 3 = i * 4 + 3 + 8 by omega]; simpa using e3

section

variable {P : Program} {w : World}
/-- Nothing is appended: value and world are as they were. -/
theorem wpList_append_none {ops : Array Oper} {rest : List Oper} {o : Oper} {a : Act} {Q : Exit → Act → World → Prop} (hgd : o.guard = none) (s x : Operand) (t : TypeId)
    (ho : o.op = .call { callee := .builtin .append, args := #[s, x], argTypes := #[t, t] })
    (e : TypeId) (i : TypeInfo) (ht : P.underlying t = some (.slice e)) (hi : P.info? e = some i) (base : Option Addr) (len cap : Nat) (hle : len ≤ cap) (hs : a.eval s = .slice base len cap)
    (v : Value) (hx : a.eval x = v) (hsrc : Src P i.size t v 0 [] w) (h : wpList P ops Q rest (a.put o.dst (.slice base len cap)) w) : wpList P ops Q (o :: rest) a w :=
  wpList_plain hgd fun K hK => by
    have hr := run_append_nothing w t t o.type e i ht hi base len cap hle v hsrc
    unfold Oper.wp execOp
    simp only [ho, resolve, invoke, builtin, Sem.run_bind, Sem.run_pure, Result.andThen_ok, List.map_toArray, List.map_cons, List.map_nil, hs, hx, hr]
    exact hK _ _ h
end

set_option maxRecDepth 100000 in
set_option maxHeartbeats 8000000 in
theorem termItems_any (l : List Tr) (R X : Tr) (a : Option Addr) (c : Nat) (vr vx : Value) (w : World) (hl : IsL w.heap.size w l a) (h4 : l.length ≤ c) (h5 : c ≤ maxLen) (hre : c * 56 ≤ 140737488351232) (hr : IsT w.heap.size w R vr) (hx : IsT w.heap.size w X vx) (htab : Lib.TabBelow Tryd.prog w.heap.size w "internal/strconv.uint64pow10" .u64 Lib.pow10Tab) :
    Calls Tryd.prog 14 #[.slice a l.length c, vr, vx] w fun e w' => e = .returned (.bool true) ∧ Below w.heap.size w w' := by
  have hlm : l.length ≤ 9223372036854775807 := by unfold maxLen at h5; omega
  obtain ⟨kr, nr, sr, ar, mr, cr, rfl⟩ := (IsT.toP _ _ hr).form
  obtain ⟨kx, nx, sx, ax, mx, cx, rfl⟩ := (IsT.toP _ _ hx).form
  have H0 := Lib.hid (And.intro hl hr)
  have bbr : Box ((w.alloc (.cells #[.int .i64 kr, .int .i64 nr, .string sr, .slice ar mr cr] 25)).alloc (.cells #[.int .i64 kx, .int .i64 nx, .string sx, .slice ax mx cx] 25)) w.heap.size #[.int .i64 kr, .int .i64 nr, .string sr, .slice ar mr cr] 25 := (Box.at rfl).alloc _
  have bbx : Box ((w.alloc (.cells #[.int .i64 kr, .int .i64 nr, .string sr, .slice ar mr cr] 25)).alloc (.cells #[.int .i64 kx, .int .i64 nx, .string sx, .slice ax mx cx] 25)) (w.heap.size + 1) #[.int .i64 kx, .int .i64 nx, .string sx, .slice ax mx cx] 25 := Box.at (by simp)
  have hb := below_a2 (Nat.le_refl w.heap.size) (.cells #[.int .i64 kr, .int .i64 nr, .string sr, .slice ar mr cr] 25) (.cells #[.int .i64 kx, .int .i64 nx, .string sx, .slice ax mx cx] 25)
  replace hr := hr.up hb hb.size
  replace hx := hx.up hb hb.size
  replace hl := hl.up hb hb.size
  go_enter Tryd.func14, Tryd.ntmps14
  go_wp2_with fail
  refine (sane_any _ (fun w'' h => htab w'' (hb.trans (h.mono hb.size)))).mono ?_
  rintro e W1 ⟨rfl, B⟩
  replace bbr := Box.keep B bbr
  replace bbx := Box.keep B bbx
  replace hr := hr.up B B.size
  replace hx := hx.up B B.size
  replace hl := hl.up B B.size
  replace hb := hb.trans (B.mono hb.size)
  clear B
  clear htab
  obtain ⟨i0, hi, hz0, hz1, hz2⟩ := info_parts infoTerm
  rcases Nat.eq_zero_or_pos l.length with h0 | h0
  ·
    have hsrc : Src Tryd.prog i0.size 22 (.slice a l.length c) 0 [] (W1.alloc (.cells #[.int .i64 kr, .int .i64 nr, .string sr, .slice ar mr cr, .int .i64 kx, .int .i64 nx, .string sx, .slice ax mx cx] 25)) := by
      rw [h0]
      rcases a with _ | ad
      · exact Src.ofNil _ Tryd.underlying22 c
      · exact Src.ofSlice _ Tryd.underlying22 ad 0 c [] (by simp) (fun j u h => by simp at h) (fun u hu => by cases hu)
    have hown := own_new (W := W1) (lo := W1.heap.size) [.int .i64 kr, .int .i64 nr, .string sr, .slice ar mr cr, .int .i64 kx, .int .i64 nx, .string sx, .slice ax mx cx] 2 rfl (by unfold maxLen; omega) (Nat.le_refl _)
    have B := below_a1 (Nat.le_refl W1.heap.size) (.cells #[.int .i64 kr, .int .i64 nr, .string sr, .slice ar mr cr, .int .i64 kx, .int .i64 nx, .string sx, .slice ax mx cx] 25)
    obtain ⟨g, cap, hv, e1, e2, hL2⟩ := row_two (l := l) (news := []) (by rw [h0]; exact hown) B hr hx (fun i hi => by omega)
    simp only [Value.slice.injEq, Option.some.injEq, Addr.mk.injEq] at hv
    obtain ⟨⟨rfl, -, -⟩, -, rfl⟩ := hv
    have qr0 := bbr.cell 0
    have qr1 := bbr.cell 1
    have qr2 := bbr.cell 2
    have qr3 := bbr.cell 3
    have qx0 := bbx.cell 0
    have qx1 := bbx.cell 1
    have qx2 := bbx.cell 2
    have qx3 := bbx.cell 3
    have lr := bbr.lt
    have lx := bbx.lt
    simp only [List.getElem?_toArray, List.getElem?_cons_succ, List.getElem?_cons_zero] at qr0 qr1 qr2 qr3 qx0 qx1 qx2 qx3
    have HL2 := Lib.hid (And.intro h0 (And.intro hL2 B))
    clear h0 hown hL2 B e1 e2
    go_wp2_with (at_builtin; refine wpList_append_none rfl _ _ 22 rfl 25 i0 Tryd.underlying22 hi _ 2 2 (Nat.le_refl _) rfl _ rfl hsrc ?_)
    go_wp2_with fail
    clear hsrc qr0 qr1 qr2 qr3 qx0 qx1 qx2 qx3 lr lx
    obtain ⟨h0, hL2, B⟩ := HL2.out
    have hq2 := right_any (R :: X :: l) _ 2 _ (by simp [h0]; unfold maxLen; omega) hL2
    rw [show (R :: X :: l).length = 2 by simp [h0]] at hq2
    clear hL2 HL2 h0
    replace bbr := Box.keep B bbr
    replace bbx := Box.keep B bbx
    replace hr := hr.up B B.size
    replace hx := hx.up B B.size
    replace hl := hl.up B B.size
    replace hb := hb.trans (B.mono hb.size)
    clear B
    have HQ2 := Lib.hid hq2
    clear hq2
    refine HQ2.out.mono ?_
    clear HQ2
    generalize (W1.alloc (.cells #[.int .i64 kr, .int .i64 nr, .string sr, .slice ar mr cr, .int .i64 kx, .int .i64 nx, .string sx, .slice ax mx cx] 25)) = V2 at *
    rintro e W2 ⟨rfl, B⟩
    replace bbr := Box.keep B bbr
    replace bbx := Box.keep B bbx
    replace hr := hr.up B B.size
    replace hx := hx.up B B.size
    replace hl := hl.up B B.size
    replace hb := hb.trans (B.mono hb.size)
    clear B
    cases hq : rightB (R :: X :: l) with
    | false =>
      clear hq
      go_wp2_with fail
      go_ret
      exact ⟨rfl, hb⟩
    | true =>
      have HRB := Lib.hid (rightB_mem hq (t := R) (by simp)).1
      have HXB := Lib.hid (rightB_mem hq (t := X) (by simp)).1
      have HTL : Hid (togB l = true) := by
        have hs := hq
        rw [rightB, Bool.and_eq_true] at hs
        have h1 := (small_size hs.1).1
        simp only [sizeL] at h1
        simp only [Hid, togB, Bool.and_eq_true, decide_eq_true_eq]
        exact ⟨List.all_eq_true.2 fun t ht => (rightB_mem hq (by simp [ht])).1, by omega⟩
      clear hq
      have qx0 := bbx.cell 0
      have qx1 := bbx.cell 1
      have qx2 := bbx.cell 2
      have qx3 := bbx.cell 3
      have lx := bbx.lt
      simp only [List.getElem?_toArray, List.getElem?_cons_succ, List.getElem?_cons_zero] at qx0 qx1 qx2 qx3
      go_wp2_with fail
      clear qx0 qx1 qx2 qx3 lx
      refine (Items_any X _ _ hx (by have := (isB_size HXB.out).2; omega)).mono ?_
      rintro e W3 ⟨B, _, hI⟩
      obtain ⟨li, ri, ai, ci, vi, hXe, hrc, rfl, hi1, hi2, hli, hri⟩ := hI HXB.out
      obtain ⟨ki, ni, si, aj, mi, cj, rfl⟩ := hri.form
      replace hli := hli.toL (n₀ := W3.heap.size) (fun _ h => h.2)
      replace hri := New.toT hri
      clear hI
      replace bbr := Box.keep B bbr
      replace bbx := Box.keep B bbx
      replace hr := hr.up B B.size
      replace hx := hx.up B B.size
      replace hl := hl.up B B.size
      replace hb := hb.trans (B.mono hb.size)
      clear B
      have HXE := Lib.hid hXe
      have HTG := Lib.hid (listT_parts (l := li) (r := ri) (by rw [← hXe]; exact HXB.out))
      clear hXe hrc
      have hli' : li.length ≤ 9223372036854775807 := by unfold maxLen at hi2; omega
      have hbi := bbx.lt
      go_wp2_with fail
      have bbi : Box (W3.alloc (.cells #[.int .i64 ki, .int .i64 ni, .string si, .slice aj mi cj] 25)) W3.heap.size #[.int .i64 ki, .int .i64 ni, .string si, .slice aj mi cj] 25 := Box.at rfl
      have B := below_a1 (Nat.le_refl W3.heap.size) (.cells #[.int .i64 ki, .int .i64 ni, .string si, .slice aj mi cj] 25)
      replace bbr := Box.keep B bbr
      replace bbx := Box.keep B bbx
      replace hr := hr.up B B.size
      replace hx := hx.up B B.size
      replace hl := hl.up B B.size
      replace hli := hli.up B B.size
      replace hri := hri.up B B.size
      replace hb := hb.trans (B.mono hb.size)
      clear B
      generalize (W3.alloc (.cells #[.int .i64 ki, .int .i64 ni, .string si, .slice aj mi cj] 25)) = V4 at *
      refine (List_ok li ri ai ci _ _ hli (by omega) hri HTG.out.1 HTG.out.2).mono ?_
      rintro e W5 ⟨B, kb, nb, sb', ab, mb, cb, rfl, hbk⟩
      replace hbk := hbk (by rw [← HXE.out]; exact HXB.out)
      rw [← HXE.out] at hbk
      rw [← HXE.out, show limE X = 0 by rw [limE, if_pos HXB.out]]
      replace bbr := Box.keep B bbr
      replace bbx := Box.keep B bbx
      replace bbi := Box.keep B bbi
      replace hr := hr.up B B.size
      replace hx := hx.up B B.size
      replace hl := hl.up B B.size
      replace hli := hli.up B B.size
      replace hri := hri.up B B.size
      replace hb := hb.trans (B.mono hb.size)
      clear B
      clear hli hri
      clear hi1 hi2 hli' HXE HTG
      have qx0 := bbx.cell 0
      have qx1 := bbx.cell 1
      have qx2 := bbx.cell 2
      have qx3 := bbx.cell 3
      have lx := bbx.lt
      simp only [List.getElem?_toArray, List.getElem?_cons_succ, List.getElem?_cons_zero] at qx0 qx1 qx2 qx3
      go_wp2_with fail
      clear qx0 qx1 qx2 qx3 lx
      have bbb : Box (W5.alloc (.cells #[.int .i64 kb, .int .i64 nb, .string sb', .slice ab mb cb] 25)) W5.heap.size #[.int .i64 kb, .int .i64 nb, .string sb', .slice ab mb cb] 25 := Box.at rfl
      have B := below_a1 (Nat.le_refl W5.heap.size) (.cells #[.int .i64 kb, .int .i64 nb, .string sb', .slice ab mb cb] 25)
      replace bbr := Box.keep B bbr
      replace bbx := Box.keep B bbx
      replace bbi := Box.keep B bbi
      replace hr := hr.up B B.size
      replace hx := hx.up B B.size
      replace hl := hl.up B B.size
      replace hbk := hbk.up B B.size
      replace hb := hb.trans (B.mono hb.size)
      clear B
      generalize (W5.alloc (.cells #[.int .i64 kb, .int .i64 nb, .string sb', .slice ab mb cb] 25)) = V6 at *
      refine (sane_same X _ _ _ hbk hx).mono ?_
      rintro e W7 ⟨rfl, B⟩
      replace bbr := Box.keep B bbr
      replace bbx := Box.keep B bbx
      replace bbi := Box.keep B bbi
      replace bbb := Box.keep B bbb
      replace hr := hr.up B B.size
      replace hx := hx.up B B.size
      replace hl := hl.up B B.size
      replace hbk := hbk.up B B.size
      replace hb := hb.trans (B.mono hb.size)
      clear B
      clear bbb hbk
      have qr0 := bbr.cell 0
      have qr1 := bbr.cell 1
      have qr2 := bbr.cell 2
      have qr3 := bbr.cell 3
      have lr := bbr.lt
      simp only [List.getElem?_toArray, List.getElem?_cons_succ, List.getElem?_cons_zero] at qr0 qr1 qr2 qr3
      go_wp2_with fail
      clear qr0 qr1 qr2 qr3 lr
      refine (List_ok l R _ c _ _ hl (Nat.le_trans h4 h5) hr HTL.out HRB.out).mono ?_
      rintro e W8 ⟨B, kz, nz, sz, az, mz, cz, rfl, hz⟩
      replace bbr := Box.keep B bbr
      replace bbx := Box.keep B bbx
      replace bbi := Box.keep B bbi
      replace hr := hr.up B B.size
      replace hx := hx.up B B.size
      replace hl := hl.up B B.size
      replace hb := hb.trans (B.mono hb.size)
      clear B
      cases hzb : isB (listT l R) with
      | false =>
        rw [show limE (listT l R) = 2 by rw [limE, hzb]; rfl]
        clear hz hzb
        go_wp2_with fail
        go_ret
        exact ⟨rfl, hb.trans (below_a1 hb.size _)⟩
      | true =>
        rw [show limE (listT l R) = 0 by rw [limE, if_pos hzb]]
        replace hz := hz hzb
        have HZB := Lib.hid hzb
        clear hzb
        have hib := bbi.lt
        go_wp2_with fail
        have bbz : Box (W8.alloc (.cells #[.int .i64 kz, .int .i64 nz, .string sz, .slice az mz cz] 25)) W8.heap.size #[.int .i64 kz, .int .i64 nz, .string sz, .slice az mz cz] 25 := Box.at rfl
        have B := below_a1 (Nat.le_refl W8.heap.size) (.cells #[.int .i64 kz, .int .i64 nz, .string sz, .slice az mz cz] 25)
        replace bbr := Box.keep B bbr
        replace bbx := Box.keep B bbx
        replace bbi := Box.keep B bbi
        replace hr := hr.up B B.size
        replace hx := hx.up B B.size
        replace hl := hl.up B B.size
        replace hz := hz.up B B.size
        replace hb := hb.trans (B.mono hb.size)
        clear B
        generalize (W8.alloc (.cells #[.int .i64 kz, .int .i64 nz, .string sz, .slice az mz cz] 25)) = V9 at *
        have hib2 : W3.heap.size < V9.heap.size := bbi.lt
        clear hib
        refine (Items_any (listT l R) _ _ hz (by have := (isB_size HZB.out).2; omega)).mono ?_
        rintro e W10 ⟨B, _, hI⟩
        obtain ⟨l2, r2, a2, d2, v2, hXe, hrc, rfl, hi1, hi2, hl2, hr2⟩ := hI HZB.out
        obtain ⟨k2, n2, s2, a3, m2, c3, rfl⟩ := hr2.form
        clear hI
        clear bbz hz
        replace bbr := Box.keep B bbr
        replace bbx := Box.keep B bbx
        replace bbi := Box.keep B bbi
        replace hr := hr.up B B.size
        replace hx := hx.up B B.size
        replace hl := hl.up B B.size
        replace hb := hb.trans (B.mono hb.size)
        clear B
        have hl2' : l2.length ≤ 9223372036854775807 := by unfold maxLen at hi2; omega
        have HP2 := Lib.hid (And.intro hXe (And.intro hrc (And.intro hl2 hr2)))
        clear hXe hrc hl2 hr2
        have p0 := bbi.frozen 0
        have p1 := bbi.frozen 1
        have p2 := bbi.frozen 2
        have p3 := bbi.frozen 3
        have qi0 := bbi.cell 0
        have qi1 := bbi.cell 1
        have qi2 := bbi.cell 2
        have qi3 := bbi.cell 3
        have qr0 := bbr.cell 0
        have qr1 := bbr.cell 1
        have qr2 := bbr.cell 2
        have qr3 := bbr.cell 3
        have qx0 := bbx.cell 0
        have qx1 := bbx.cell 1
        have qx2 := bbx.cell 2
        have qx3 := bbx.cell 3
        have li := bbi.lt
        have lr := bbr.lt
        have lx := bbx.lt
        simp only [List.getElem?_toArray, List.getElem?_cons_succ, List.getElem?_cons_zero] at qi0 qi1 qi2 qi3 qr0 qr1 qr2 qr3 qx0 qx1 qx2 qx3
        go_wp2_with fail
        clear qi0 qi1 qi2 qi3 qr0 qr1 qr2 qr3 qx0 qx1 qx2 qx3 li lr lx p0 p1 p2 p3
        obtain ⟨hXe, hrc, hl2, hr2⟩ := HP2.out
        have zi := bbi.four (.int .i64 k2) (.int .i64 n2) (.string s2) (.slice a3 m2 c3)
        have zr := (((bbr.other (B' := W3.heap.size) (by omega) 0 (.int .i64 k2)).other (B' := W3.heap.size) (by omega) 1 (.int .i64 n2)).other (B' := W3.heap.size) (by omega) 2 (.string s2)).other (B' := W3.heap.size) (by omega) 3 (.slice a3 m2 c3)
        have zb := below_four hb (B := W3.heap.size) (by omega) (.int .i64 k2) (.int .i64 n2) (.string s2) (.slice a3 m2 c3)
        have zm : ∀ b, New V9.heap.size W10 b → b < ((((W10.setCell ⟨W3.heap.size, 0, none⟩ (.int .i64 k2)).setCell ⟨W3.heap.size, 1, none⟩ (.int .i64 n2)).setCell ⟨W3.heap.size, 2, none⟩ (.string s2)).setCell ⟨W3.heap.size, 3, none⟩ (.slice a3 m2 c3)).heap.size ∧ ((((W10.setCell ⟨W3.heap.size, 0, none⟩ (.int .i64 k2)).setCell ⟨W3.heap.size, 1, none⟩ (.int .i64 n2)).setCell ⟨W3.heap.size, 2, none⟩ (.string s2)).setCell ⟨W3.heap.size, 3, none⟩ (.slice a3 m2 c3)).heap[b]? = W10.heap[b]? := fun b ⟨g1, g2⟩ => ⟨by simpa using g2, heap_four (by omega) _ _ _ _⟩
        have zl := IsPL.toL (n₀ := ((((W10.setCell ⟨W3.heap.size, 0, none⟩ (.int .i64 k2)).setCell ⟨W3.heap.size, 1, none⟩ (.int .i64 n2)).setCell ⟨W3.heap.size, 2, none⟩ (.string s2)).setCell ⟨W3.heap.size, 3, none⟩ (.slice a3 m2 c3)).heap.size) (fun _ h => h) _ _ (IsPL.map (q := fun b => b < ((((W10.setCell ⟨W3.heap.size, 0, none⟩ (.int .i64 k2)).setCell ⟨W3.heap.size, 1, none⟩ (.int .i64 n2)).setCell ⟨W3.heap.size, 2, none⟩ (.string s2)).setCell ⟨W3.heap.size, 3, none⟩ (.slice a3 m2 c3)).heap.size) zm _ _ hl2)
        have zt := IsP.toT (n₀ := ((((W10.setCell ⟨W3.heap.size, 0, none⟩ (.int .i64 k2)).setCell ⟨W3.heap.size, 1, none⟩ (.int .i64 n2)).setCell ⟨W3.heap.size, 2, none⟩ (.string s2)).setCell ⟨W3.heap.size, 3, none⟩ (.slice a3 m2 c3)).heap.size) (fun _ h => h) _ _ (IsP.map (q := fun b => b < ((((W10.setCell ⟨W3.heap.size, 0, none⟩ (.int .i64 k2)).setCell ⟨W3.heap.size, 1, none⟩ (.int .i64 n2)).setCell ⟨W3.heap.size, 2, none⟩ (.string s2)).setCell ⟨W3.heap.size, 3, none⟩ (.slice a3 m2 c3)).heap.size) zm _ _ hr2)
        clear HP2 bbi bbr bbx hb hl hr hx hl2 hr2 zm hib2
        generalize ((((W10.setCell ⟨W3.heap.size, 0, none⟩ (.int .i64 k2)).setCell ⟨W3.heap.size, 1, none⟩ (.int .i64 n2)).setCell ⟨W3.heap.size, 2, none⟩ (.string s2)).setCell ⟨W3.heap.size, 3, none⟩ (.slice a3 m2 c3)) = V9 at *
        have hb := zb
        have bbi := zi
        have bbr := zr
        have hl2 := zl
        have ht2 := zt
        have hl := H0.out.1.up hb hb.size
        have hr := H0.out.2.up hb hb.size
        clear zb zi zr zl zt H0
        obtain ⟨hcr, hmr⟩ := cell_of hr
        refine (refCell_any kr nr sr mr ar cr _ hmr).mono ?_
        rintro e W11 ⟨rfl, B⟩
        replace bbi := Box.keep B bbi
        replace bbr := Box.keep B bbr
        replace hl := hl.up B B.size
        replace hr := hr.up B B.size
        replace hl2 := hl2.up B B.size
        replace ht2 := ht2.up B B.size
        replace hb := hb.trans (B.mono hb.size)
        clear B
        cases hcb : cellB kr sr mr with
        | false =>
          rw [hcb] at hcr
          obtain ⟨e1, e2⟩ := listT_inj l l2 hcr hrc hXe
          subst e1 e2
          clear hXe hrc hcr hcb
          have HA := Lib.hid (And.intro hi1 hi2)
          clear hi1 hi2
          go_wp2_with fail
          refine (refSameAll l l _ _ _ ⟨a2, d2, rfl, HA.out.1, HA.out.2, hl2⟩ ⟨_, c, rfl, h4, h5, hl⟩).mono ?_
          rintro e W12 ⟨rfl, B⟩
          rw [show eqLT l l = true by simp [eqLT]]
          replace bbi := Box.keep B bbi
          replace bbr := Box.keep B bbr
          replace hl := hl.up B B.size
          replace hr := hr.up B B.size
          replace hl2 := hl2.up B B.size
          replace ht2 := ht2.up B B.size
          replace hb := hb.trans (B.mono hb.size)
          clear B
          clear hl hl2
          have qi0 := bbi.cell 0
          have qi1 := bbi.cell 1
          have qi2 := bbi.cell 2
          have qi3 := bbi.cell 3
          have qr0 := bbr.cell 0
          have qr1 := bbr.cell 1
          have qr2 := bbr.cell 2
          have qr3 := bbr.cell 3
          have li := bbi.lt
          have lr := bbr.lt
          simp only [List.getElem?_toArray, List.getElem?_cons_succ, List.getElem?_cons_zero] at qi0 qi1 qi2 qi3 qr0 qr1 qr2 qr3
          go_wp2_with fail
          clear qi0 qi1 qi2 qi3 qr0 qr1 qr2 qr3 li lr
          refine (sane_same R _ _ _ ht2 hr).mono ?_
          rintro e W13 ⟨rfl, B⟩
          replace bbi := Box.keep B bbi
          replace bbr := Box.keep B bbr
          replace hr := hr.up B B.size
          replace ht2 := ht2.up B B.size
          replace hb := hb.trans (B.mono hb.size)
          clear B
          go_wp2_with fail
          go_ret
          exact ⟨rfl, hb⟩
        | true =>
          clear hcb
          go_wp2_with fail
          go_ret
          exact ⟨rfl, hb⟩
  ·
    obtain ⟨b, off, rfl, hbl⟩ := hl.addr h0
    obtain ⟨news, hn1, hn2, hn3, hn4⟩ := IsL.news l b off hl
    have hown := own_new (W := W1) (lo := W1.heap.size) [.int .i64 kr, .int .i64 nr, .string sr, .slice ar mr cr, .int .i64 kx, .int .i64 nx, .string sx, .slice ax mx cx] 2 rfl (by unfold maxLen; omega) (Nat.le_refl _)
    have qr0 := bbr.cell 0
    have qr1 := bbr.cell 1
    have qr2 := bbr.cell 2
    have qr3 := bbr.cell 3
    have qx0 := bbx.cell 0
    have qx1 := bbx.cell 1
    have qx2 := bbx.cell 2
    have qx3 := bbx.cell 3
    have lr := bbr.lt
    have lx := bbx.lt
    simp only [List.getElem?_toArray, List.getElem?_cons_succ, List.getElem?_cons_zero] at qr0 qr1 qr2 qr3 qx0 qx1 qx2 qx3
    have hn5 : ∀ j u, news[j]? = some u → (W1.alloc (.cells #[.int .i64 kr, .int .i64 nr, .string sr, .slice ar mr cr, .int .i64 kx, .int .i64 nx, .string sx, .slice ax mx cx] 25)).cell? ((⟨b, off, none⟩ : Addr).add j) = some u := fun j u h => by
      rw [Addr.add_lit]
      exact ((below_a1 (Nat.le_refl W1.heap.size) _).cell (p := ⟨b, off + j, none⟩) hbl).trans (hn2 j u h)
    have hn6 : 2 + l.length ≤ maxLen := by unfold maxLen at h5 ⊢; omega
    have hn7 : (2 + l.length) * 56 ≤ 140737488355328 := by omega
    have hn8 : W1.heap.size ≤ (W1.alloc (.cells #[.int .i64 kr, .int .i64 nr, .string sr, .slice ar mr cr, .int .i64 kx, .int .i64 nx, .string sx, .slice ax mx cx] 25)).heap.size := by simp
    go_wp2_with (at_builtin; refine wpList_append_where rfl _ _ 22 rfl W1.heap.size 25 i0 _ 4 56 Tryd.underlying22 hi hz0 hz1 hz2 rfl (by decide) _ _ _ rfl hown ⟨b, off, none⟩ l.length c news rfl hn1 hn5 hn3 hn6 hn7 hn8 ?_)
    intro v2 V2 hown2 hgrow hwh
    have B : Below W1.heap.size W1 V2 := (below_a1 (Nat.le_refl _) _).trans (grown_below' hgrow (by simp) (fun g hg => by cases hg; exact Nat.le_refl _))
    obtain ⟨g, cap, rfl, e1, e2, hL2⟩ := row_two hown2 B hr hx hn4
    replace bbr := Box.keep B bbr
    replace bbx := Box.keep B bbx
    replace hr := hr.up B B.size
    replace hx := hx.up B B.size
    replace hl := hl.up B B.size
    replace hb := hb.trans (B.mono hb.size)
    clear B
    clear hown hown2 hgrow hwh hn1 hn2 hn3 hn4 hn5 hn6 hn7 hn8 qr0 qr1 qr2 qr3 qx0 qx1 qx2 qx3 lr lx
    have HL2 := Lib.hid hL2
    clear hL2
    go_wp2_with fail
    refine (right_any (R :: X :: l) _ cap _ (Nat.le_trans e1 e2) HL2.out).mono ?_
    rintro e W2 ⟨rfl, B⟩
    replace bbr := Box.keep B bbr
    replace bbx := Box.keep B bbx
    replace hr := hr.up B B.size
    replace hx := hx.up B B.size
    replace hl := hl.up B B.size
    replace hb := hb.trans (B.mono hb.size)
    clear B
    clear HL2 e1 e2
    cases hq : rightB (R :: X :: l) with
    | false =>
      clear hq
      go_wp2_with fail
      go_ret
      exact ⟨rfl, hb⟩
    | true =>
      have HRB := Lib.hid (rightB_mem hq (t := R) (by simp)).1
      have HXB := Lib.hid (rightB_mem hq (t := X) (by simp)).1
      have HTL : Hid (togB l = true) := by
        have hs := hq
        rw [rightB, Bool.and_eq_true] at hs
        have h1 := (small_size hs.1).1
        simp only [sizeL] at h1
        simp only [Hid, togB, Bool.and_eq_true, decide_eq_true_eq]
        exact ⟨List.all_eq_true.2 fun t ht => (rightB_mem hq (by simp [ht])).1, by omega⟩
      clear hq
      have qx0 := bbx.cell 0
      have qx1 := bbx.cell 1
      have qx2 := bbx.cell 2
      have qx3 := bbx.cell 3
      have lx := bbx.lt
      simp only [List.getElem?_toArray, List.getElem?_cons_succ, List.getElem?_cons_zero] at qx0 qx1 qx2 qx3
      go_wp2_with fail
      clear qx0 qx1 qx2 qx3 lx
      refine (Items_any X _ _ hx (by have := (isB_size HXB.out).2; omega)).mono ?_
      rintro e W3 ⟨B, _, hI⟩
      obtain ⟨li, ri, ai, ci, vi, hXe, hrc, rfl, hi1, hi2, hli, hri⟩ := hI HXB.out
      obtain ⟨ki, ni, si, aj, mi, cj, rfl⟩ := hri.form
      replace hli := hli.toL (n₀ := W3.heap.size) (fun _ h => h.2)
      replace hri := New.toT hri
      clear hI
      replace bbr := Box.keep B bbr
      replace bbx := Box.keep B bbx
      replace hr := hr.up B B.size
      replace hx := hx.up B B.size
      replace hl := hl.up B B.size
      replace hb := hb.trans (B.mono hb.size)
      clear B
      have HXE := Lib.hid hXe
      have HTG := Lib.hid (listT_parts (l := li) (r := ri) (by rw [← hXe]; exact HXB.out))
      clear hXe hrc
      have hli' : li.length ≤ 9223372036854775807 := by unfold maxLen at hi2; omega
      have hbi := bbx.lt
      go_wp2_with fail
      have bbi : Box (W3.alloc (.cells #[.int .i64 ki, .int .i64 ni, .string si, .slice aj mi cj] 25)) W3.heap.size #[.int .i64 ki, .int .i64 ni, .string si, .slice aj mi cj] 25 := Box.at rfl
      have B := below_a1 (Nat.le_refl W3.heap.size) (.cells #[.int .i64 ki, .int .i64 ni, .string si, .slice aj mi cj] 25)
      replace bbr := Box.keep B bbr
      replace bbx := Box.keep B bbx
      replace hr := hr.up B B.size
      replace hx := hx.up B B.size
      replace hl := hl.up B B.size
      replace hli := hli.up B B.size
      replace hri := hri.up B B.size
      replace hb := hb.trans (B.mono hb.size)
      clear B
      generalize (W3.alloc (.cells #[.int .i64 ki, .int .i64 ni, .string si, .slice aj mi cj] 25)) = V4 at *
      refine (List_ok li ri ai ci _ _ hli (by omega) hri HTG.out.1 HTG.out.2).mono ?_
      rintro e W5 ⟨B, kb, nb, sb', ab, mb, cb, rfl, hbk⟩
      replace hbk := hbk (by rw [← HXE.out]; exact HXB.out)
      rw [← HXE.out] at hbk
      rw [← HXE.out, show limE X = 0 by rw [limE, if_pos HXB.out]]
      replace bbr := Box.keep B bbr
      replace bbx := Box.keep B bbx
      replace bbi := Box.keep B bbi
      replace hr := hr.up B B.size
      replace hx := hx.up B B.size
      replace hl := hl.up B B.size
      replace hli := hli.up B B.size
      replace hri := hri.up B B.size
      replace hb := hb.trans (B.mono hb.size)
      clear B
      clear hli hri
      clear hi1 hi2 hli' HXE HTG
      have qx0 := bbx.cell 0
      have qx1 := bbx.cell 1
      have qx2 := bbx.cell 2
      have qx3 := bbx.cell 3
      have lx := bbx.lt
      simp only [List.getElem?_toArray, List.getElem?_cons_succ, List.getElem?_cons_zero] at qx0 qx1 qx2 qx3
      go_wp2_with fail
      clear qx0 qx1 qx2 qx3 lx
      have bbb : Box (W5.alloc (.cells #[.int .i64 kb, .int .i64 nb, .string sb', .slice ab mb cb] 25)) W5.heap.size #[.int .i64 kb, .int .i64 nb, .string sb', .slice ab mb cb] 25 := Box.at rfl
      have B := below_a1 (Nat.le_refl W5.heap.size) (.cells #[.int .i64 kb, .int .i64 nb, .string sb', .slice ab mb cb] 25)
      replace bbr := Box.keep B bbr
      replace bbx := Box.keep B bbx
      replace bbi := Box.keep B bbi
      replace hr := hr.up B B.size
      replace hx := hx.up B B.size
      replace hl := hl.up B B.size
      replace hbk := hbk.up B B.size
      replace hb := hb.trans (B.mono hb.size)
      clear B
      generalize (W5.alloc (.cells #[.int .i64 kb, .int .i64 nb, .string sb', .slice ab mb cb] 25)) = V6 at *
      refine (sane_same X _ _ _ hbk hx).mono ?_
      rintro e W7 ⟨rfl, B⟩
      replace bbr := Box.keep B bbr
      replace bbx := Box.keep B bbx
      replace bbi := Box.keep B bbi
      replace bbb := Box.keep B bbb
      replace hr := hr.up B B.size
      replace hx := hx.up B B.size
      replace hl := hl.up B B.size
      replace hbk := hbk.up B B.size
      replace hb := hb.trans (B.mono hb.size)
      clear B
      clear bbb hbk
      have qr0 := bbr.cell 0
      have qr1 := bbr.cell 1
      have qr2 := bbr.cell 2
      have qr3 := bbr.cell 3
      have lr := bbr.lt
      simp only [List.getElem?_toArray, List.getElem?_cons_succ, List.getElem?_cons_zero] at qr0 qr1 qr2 qr3
      go_wp2_with fail
      clear qr0 qr1 qr2 qr3 lr
      refine (List_ok l R _ c _ _ hl (Nat.le_trans h4 h5) hr HTL.out HRB.out).mono ?_
      rintro e W8 ⟨B, kz, nz, sz, az, mz, cz, rfl, hz⟩
      replace bbr := Box.keep B bbr
      replace bbx := Box.keep B bbx
      replace bbi := Box.keep B bbi
      replace hr := hr.up B B.size
      replace hx := hx.up B B.size
      replace hl := hl.up B B.size
      replace hb := hb.trans (B.mono hb.size)
      clear B
      cases hzb : isB (listT l R) with
      | false =>
        rw [show limE (listT l R) = 2 by rw [limE, hzb]; rfl]
        clear hz hzb
        go_wp2_with fail
        go_ret
        exact ⟨rfl, hb.trans (below_a1 hb.size _)⟩
      | true =>
        rw [show limE (listT l R) = 0 by rw [limE, if_pos hzb]]
        replace hz := hz hzb
        have HZB := Lib.hid hzb
        clear hzb
        have hib := bbi.lt
        go_wp2_with fail
        have bbz : Box (W8.alloc (.cells #[.int .i64 kz, .int .i64 nz, .string sz, .slice az mz cz] 25)) W8.heap.size #[.int .i64 kz, .int .i64 nz, .string sz, .slice az mz cz] 25 := Box.at rfl
        have B := below_a1 (Nat.le_refl W8.heap.size) (.cells #[.int .i64 kz, .int .i64 nz, .string sz, .slice az mz cz] 25)
        replace bbr := Box.keep B bbr
        replace bbx := Box.keep B bbx
        replace bbi := Box.keep B bbi
        replace hr := hr.up B B.size
        replace hx := hx.up B B.size
        replace hl := hl.up B B.size
        replace hz := hz.up B B.size
        replace hb := hb.trans (B.mono hb.size)
        clear B
        generalize (W8.alloc (.cells #[.int .i64 kz, .int .i64 nz, .string sz, .slice az mz cz] 25)) = V9 at *
        have hib2 : W3.heap.size < V9.heap.size := bbi.lt
        clear hib
        refine (Items_any (listT l R) _ _ hz (by have := (isB_size HZB.out).2; omega)).mono ?_
        rintro e W10 ⟨B, _, hI⟩
        obtain ⟨l2, r2, a2, d2, v2, hXe, hrc, rfl, hi1, hi2, hl2, hr2⟩ := hI HZB.out
        obtain ⟨k2, n2, s2, a3, m2, c3, rfl⟩ := hr2.form
        clear hI
        clear bbz hz
        replace bbr := Box.keep B bbr
        replace bbx := Box.keep B bbx
        replace bbi := Box.keep B bbi
        replace hr := hr.up B B.size
        replace hx := hx.up B B.size
        replace hl := hl.up B B.size
        replace hb := hb.trans (B.mono hb.size)
        clear B
        have hl2' : l2.length ≤ 9223372036854775807 := by unfold maxLen at hi2; omega
        have HP2 := Lib.hid (And.intro hXe (And.intro hrc (And.intro hl2 hr2)))
        clear hXe hrc hl2 hr2
        have p0 := bbi.frozen 0
        have p1 := bbi.frozen 1
        have p2 := bbi.frozen 2
        have p3 := bbi.frozen 3
        have qi0 := bbi.cell 0
        have qi1 := bbi.cell 1
        have qi2 := bbi.cell 2
        have qi3 := bbi.cell 3
        have qr0 := bbr.cell 0
        have qr1 := bbr.cell 1
        have qr2 := bbr.cell 2
        have qr3 := bbr.cell 3
        have qx0 := bbx.cell 0
        have qx1 := bbx.cell 1
        have qx2 := bbx.cell 2
        have qx3 := bbx.cell 3
        have li := bbi.lt
        have lr := bbr.lt
        have lx := bbx.lt
        simp only [List.getElem?_toArray, List.getElem?_cons_succ, List.getElem?_cons_zero] at qi0 qi1 qi2 qi3 qr0 qr1 qr2 qr3 qx0 qx1 qx2 qx3
        go_wp2_with fail
        clear qi0 qi1 qi2 qi3 qr0 qr1 qr2 qr3 qx0 qx1 qx2 qx3 li lr lx p0 p1 p2 p3
        obtain ⟨hXe, hrc, hl2, hr2⟩ := HP2.out
        have zi := bbi.four (.int .i64 k2) (.int .i64 n2) (.string s2) (.slice a3 m2 c3)
        have zr := (((bbr.other (B' := W3.heap.size) (by omega) 0 (.int .i64 k2)).other (B' := W3.heap.size) (by omega) 1 (.int .i64 n2)).other (B' := W3.heap.size) (by omega) 2 (.string s2)).other (B' := W3.heap.size) (by omega) 3 (.slice a3 m2 c3)
        have zb := below_four hb (B := W3.heap.size) (by omega) (.int .i64 k2) (.int .i64 n2) (.string s2) (.slice a3 m2 c3)
        have zm : ∀ b, New V9.heap.size W10 b → b < ((((W10.setCell ⟨W3.heap.size, 0, none⟩ (.int .i64 k2)).setCell ⟨W3.heap.size, 1, none⟩ (.int .i64 n2)).setCell ⟨W3.heap.size, 2, none⟩ (.string s2)).setCell ⟨W3.heap.size, 3, none⟩ (.slice a3 m2 c3)).heap.size ∧ ((((W10.setCell ⟨W3.heap.size, 0, none⟩ (.int .i64 k2)).setCell ⟨W3.heap.size, 1, none⟩ (.int .i64 n2)).setCell ⟨W3.heap.size, 2, none⟩ (.string s2)).setCell ⟨W3.heap.size, 3, none⟩ (.slice a3 m2 c3)).heap[b]? = W10.heap[b]? := fun b ⟨g1, g2⟩ => ⟨by simpa using g2, heap_four (by omega) _ _ _ _⟩
        have zl := IsPL.toL (n₀ := ((((W10.setCell ⟨W3.heap.size, 0, none⟩ (.int .i64 k2)).setCell ⟨W3.heap.size, 1, none⟩ (.int .i64 n2)).setCell ⟨W3.heap.size, 2, none⟩ (.string s2)).setCell ⟨W3.heap.size, 3, none⟩ (.slice a3 m2 c3)).heap.size) (fun _ h => h) _ _ (IsPL.map (q := fun b => b < ((((W10.setCell ⟨W3.heap.size, 0, none⟩ (.int .i64 k2)).setCell ⟨W3.heap.size, 1, none⟩ (.int .i64 n2)).setCell ⟨W3.heap.size, 2, none⟩ (.string s2)).setCell ⟨W3.heap.size, 3, none⟩ (.slice a3 m2 c3)).heap.size) zm _ _ hl2)
        have zt := IsP.toT (n₀ := ((((W10.setCell ⟨W3.heap.size, 0, none⟩ (.int .i64 k2)).setCell ⟨W3.heap.size, 1, none⟩ (.int .i64 n2)).setCell ⟨W3.heap.size, 2, none⟩ (.string s2)).setCell ⟨W3.heap.size, 3, none⟩ (.slice a3 m2 c3)).heap.size) (fun _ h => h) _ _ (IsP.map (q := fun b => b < ((((W10.setCell ⟨W3.heap.size, 0, none⟩ (.int .i64 k2)).setCell ⟨W3.heap.size, 1, none⟩ (.int .i64 n2)).setCell ⟨W3.heap.size, 2, none⟩ (.string s2)).setCell ⟨W3.heap.size, 3, none⟩ (.slice a3 m2 c3)).heap.size) zm _ _ hr2)
        clear HP2 bbi bbr bbx hb hl hr hx hl2 hr2 zm hib2
        generalize ((((W10.setCell ⟨W3.heap.size, 0, none⟩ (.int .i64 k2)).setCell ⟨W3.heap.size, 1, none⟩ (.int .i64 n2)).setCell ⟨W3.heap.size, 2, none⟩ (.string s2)).setCell ⟨W3.heap.size, 3, none⟩ (.slice a3 m2 c3)) = V9 at *
        have hb := zb
        have bbi := zi
        have bbr := zr
        have hl2 := zl
        have ht2 := zt
        have hl := H0.out.1.up hb hb.size
        have hr := H0.out.2.up hb hb.size
        clear zb zi zr zl zt H0
        obtain ⟨hcr, hmr⟩ := cell_of hr
        refine (refCell_any kr nr sr mr ar cr _ hmr).mono ?_
        rintro e W11 ⟨rfl, B⟩
        replace bbi := Box.keep B bbi
        replace bbr := Box.keep B bbr
        replace hl := hl.up B B.size
        replace hr := hr.up B B.size
        replace hl2 := hl2.up B B.size
        replace ht2 := ht2.up B B.size
        replace hb := hb.trans (B.mono hb.size)
        clear B
        cases hcb : cellB kr sr mr with
        | false =>
          rw [hcb] at hcr
          obtain ⟨e1, e2⟩ := listT_inj l l2 hcr hrc hXe
          subst e1 e2
          clear hXe hrc hcr hcb
          have HA := Lib.hid (And.intro hi1 hi2)
          clear hi1 hi2
          go_wp2_with fail
          refine (refSameAll l l _ _ _ ⟨a2, d2, rfl, HA.out.1, HA.out.2, hl2⟩ ⟨_, c, rfl, h4, h5, hl⟩).mono ?_
          rintro e W12 ⟨rfl, B⟩
          rw [show eqLT l l = true by simp [eqLT]]
          replace bbi := Box.keep B bbi
          replace bbr := Box.keep B bbr
          replace hl := hl.up B B.size
          replace hr := hr.up B B.size
          replace hl2 := hl2.up B B.size
          replace ht2 := ht2.up B B.size
          replace hb := hb.trans (B.mono hb.size)
          clear B
          clear hl hl2
          have qi0 := bbi.cell 0
          have qi1 := bbi.cell 1
          have qi2 := bbi.cell 2
          have qi3 := bbi.cell 3
          have qr0 := bbr.cell 0
          have qr1 := bbr.cell 1
          have qr2 := bbr.cell 2
          have qr3 := bbr.cell 3
          have li := bbi.lt
          have lr := bbr.lt
          simp only [List.getElem?_toArray, List.getElem?_cons_succ, List.getElem?_cons_zero] at qi0 qi1 qi2 qi3 qr0 qr1 qr2 qr3
          go_wp2_with fail
          clear qi0 qi1 qi2 qi3 qr0 qr1 qr2 qr3 li lr
          refine (sane_same R _ _ _ ht2 hr).mono ?_
          rintro e W13 ⟨rfl, B⟩
          replace bbi := Box.keep B bbi
          replace bbr := Box.keep B bbr
          replace hr := hr.up B B.size
          replace ht2 := ht2.up B B.size
          replace hb := hb.trans (B.mono hb.size)
          clear B
          go_wp2_with fail
          go_ret
          exact ⟨rfl, hb⟩
        | true =>
          clear hcb
          go_wp2_with fail
          go_ret
          exact ⟨rfl, hb⟩
end Go.Proofs.YtckoecmdaefoiaaDoor
