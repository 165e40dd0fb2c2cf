/- What stands in the place of a variable; whether a term is a variable; Compose. -/
import Derived.Test.YtckoecmdaefoiaaDoorNorm
import Derived.Test.YtckoecmdaefoiaaDoorRowAt
namespace Go.Proofs.YtckoecmdaefoiaaDoor
open Go.RowKit Go

attribute [local go_sem] monoUpon Yld.says

set_option maxHeartbeats 1000000 in
theorem isVar_any (k n : Int) (s : ByteArray) (len : Nat) (a : Option Addr) (c : Nat) (i : Int) (w : World) :
    Calls Tryd.prog 100 #[.agg #[.int .i64 k, .int .i64 n, .string s, .slice a len c], .int .i64 i] w fun e w' => e = .returned (.bool (decide (k = 1) && decide (n = i))) ∧ Below w.heap.size w w' := by
  go_enter Tryd.func100, Tryd.ntmps100
  go_wp2_with fail
  all_goals
    go_ret
    refine ⟨retB ?_, below_box1 _ _⟩
    rw [Bool.eq_iff_iff]
    simp [*]

set_option maxRecDepth 100000 in
set_option maxHeartbeats 2000000 in
theorem image_any (l : List Tr) (hm : l.length ≤ 1000000) (a : Option Addr) (c : Nat) (ea : Option Addr) (en ec : Nat) (i : Nat) (hi : i ≤ 1000000) (w : World) (hl : IsL w.heap.size w l a) :
    Calls Tryd.prog 99 #[.agg #[.slice a l.length c, .slice ea en ec], .int .i64 i] w fun e w' => ∃ v', e = .returned v' ∧ IsT w'.heap.size w' (sgS l i) v' ∧ Below w.heap.size w w' := by
  have hb0 : Box (((w.alloc (.cells #[.slice a l.length c, .slice ea en ec] 114)).alloc (.cells #[.int .i64 0, .int .i64 0, .string ⟨#[]⟩, .slice none 0 0] 25)).alloc (.cells #[.int .i64 1, .int .i64 i, .string ⟨#[]⟩, .slice none 0 0] 25)) w.heap.size #[.slice a l.length c, .slice ea en ec] 114 := ((Box.at rfl).alloc _).alloc _
  have hb1 : Box (((w.alloc (.cells #[.slice a l.length c, .slice ea en ec] 114)).alloc (.cells #[.int .i64 0, .int .i64 0, .string ⟨#[]⟩, .slice none 0 0] 25)).alloc (.cells #[.int .i64 1, .int .i64 i, .string ⟨#[]⟩, .slice none 0 0] 25)) (w.heap.size + 1) #[.int .i64 0, .int .i64 0, .string ⟨#[]⟩, .slice none 0 0] 25 := (Box.at (by simp)).alloc _
  have hb2 : Box (((w.alloc (.cells #[.slice a l.length c, .slice ea en ec] 114)).alloc (.cells #[.int .i64 0, .int .i64 0, .string ⟨#[]⟩, .slice none 0 0] 25)).alloc (.cells #[.int .i64 1, .int .i64 i, .string ⟨#[]⟩, .slice none 0 0] 25)) (w.heap.size + 1 + 1) #[.int .i64 1, .int .i64 i, .string ⟨#[]⟩, .slice none 0 0] 25 := Box.at (by simp)
  have hB0 := below_a3 (Nat.le_refl w.heap.size) (.cells #[.slice a l.length c, .slice ea en ec] 114) (.cells #[.int .i64 0, .int .i64 0, .string ⟨#[]⟩, .slice none 0 0] 25) (.cells #[.int .i64 1, .int .i64 i, .string ⟨#[]⟩, .slice none 0 0] 25)
  go_enter Tryd.func99, Tryd.ntmps99
  go_wp2_with fail
  refine (puts_any l a c _ ⟨_, _, _, rfl⟩ 1 i ⟨#[]⟩ 0 none 0 _ hm (hl.up hB0 hB0.size) (fun _ => by omega)).mono ?_
  rintro e w1 ⟨rfl, hB1⟩
  have p0 := Box.keep hB1 hb0
  have p1 := Box.keep hB1 hb1
  have p2 := Box.keep hB1 hb2
  have hB2 := hB0.trans (hB1.mono hB0.size)
  have hs1 := hB1.size
  simp only [World.size_alloc] at hs1
  clear hB1 hb0 hb1 hb2 hB0
  have q0 := p0.cell 0
  have q1 := p0.cell 1
  have u0 := p1.cell 0
  have u1 := p1.cell 1
  have u2 := p1.cell 2
  have u3 := p1.cell 3
  have g0 := p1.frozen 0
  have g1 := p1.frozen 1
  have g2 := p1.frozen 2
  have g3 := p1.frozen 3
  have v0 := p2.cell 0
  have v1 := p2.cell 1
  have v2 := p2.cell 2
  have v3 := p2.cell 3
  have l0 := p0.lt
  have l1 := p1.lt
  have l2 := p2.lt
  simp only [List.getElem?_toArray, List.getElem?_cons_succ, List.getElem?_cons_zero] at q0 q1 u0 u1 u2 u3 v0 v1 v2 v3
  cases hpb : putsB l 1 i with
  | true =>
    have hj : i < l.length := by simp [putsB] at hpb; omega
    have hS : Hid (sgS l i = l[i]) := by rw [Hid, sgS, if_pos hpb]; simp [hj]
    obtain ⟨b, off, rfl, hb⟩ := hl.addr (by omega)
    obtain ⟨tk, tn, tss, tl, ta, tc, te, c0, c1, c2, c3, ht⟩ := hl.node' hb hB2 i hj
    have Te := Lib.hid te
    have HT := Lib.hid ht
    have hbw : b < w1.heap.size := by omega
    clear hpb te ht
    go_wp2_with fail
    have z := p1.four (.int .i64 tk) (.int .i64 tn) (.string tss) (.slice ta tl.length tc)
    have zB := below_four hB2 (B := w.heap.size + 1) (by omega) (.int .i64 tk) (.int .i64 tn) (.string tss) (.slice ta tl.length tc)
    have y0 := z.cell 0
    have y1 := z.cell 1
    have y2 := z.cell 2
    have y3 := z.cell 3
    have hTT := hS.out ▸ HT.out.up zB zB.size
    clear z
    generalize ((((w1.setCell ⟨w.heap.size + 1, 0, none⟩ (.int .i64 tk)).setCell ⟨w.heap.size + 1, 1, none⟩ (.int .i64 tn)).setCell ⟨w.heap.size + 1, 2, none⟩ (.string tss)).setCell ⟨w.heap.size + 1, 3, none⟩ (.slice ta tl.length tc)) = FW at *
    simp at y0 y1 y2 y3
    exact bodyPost_ret (v := .agg #[.int .i64 tk, .int .i64 tn, .string tss, .slice ta tl.length tc]) (by simp [results, Tryd.results99, go_sem, y0, y1, y2, y3]) rfl ⟨_, rfl, hTT, zB⟩
  | false =>
    have hS : Hid (sgS l i = tV i) := by rw [Hid, sgS, if_neg (by simp [hpb])]
    clear hpb
    go_wp2_with fail
    have z := p1.four (.int .i64 1) (.int .i64 i) (.string ⟨#[]⟩) (.slice none 0 0)
    have zB := below_four hB2 (B := w.heap.size + 1) (by omega) (.int .i64 1) (.int .i64 i) (.string ⟨#[]⟩) (.slice none 0 0)
    have y0 := z.cell 0
    have y1 := z.cell 1
    have y2 := z.cell 2
    have y3 := z.cell 3
    have hTT : ∀ n₀ W, IsT n₀ W (sgS l i) (.agg #[.int .i64 1, .int .i64 i, .string ⟨#[]⟩, .slice none 0 0]) := fun n₀ W => by rw [hS.out]; exact IsT.mk (l := []) (by unfold okI; omega) (by unfold okI; omega) (by decide) (Nat.le_refl _) (by decide) IsL.nil
    replace hTT := hTT ((((w1.setCell ⟨w.heap.size + 1, 0, none⟩ (.int .i64 1)).setCell ⟨w.heap.size + 1, 1, none⟩ (.int .i64 i)).setCell ⟨w.heap.size + 1, 2, none⟩ (.string ⟨#[]⟩)).setCell ⟨w.heap.size + 1, 3, none⟩ (.slice none 0 0)).heap.size ((((w1.setCell ⟨w.heap.size + 1, 0, none⟩ (.int .i64 1)).setCell ⟨w.heap.size + 1, 1, none⟩ (.int .i64 i)).setCell ⟨w.heap.size + 1, 2, none⟩ (.string ⟨#[]⟩)).setCell ⟨w.heap.size + 1, 3, none⟩ (.slice none 0 0))
    clear z
    generalize ((((w1.setCell ⟨w.heap.size + 1, 0, none⟩ (.int .i64 1)).setCell ⟨w.heap.size + 1, 1, none⟩ (.int .i64 i)).setCell ⟨w.heap.size + 1, 2, none⟩ (.string ⟨#[]⟩)).setCell ⟨w.heap.size + 1, 3, none⟩ (.slice none 0 0)) = FW at *
    simp at y0 y1 y2 y3
    exact bodyPost_ret (v := .agg #[.int .i64 1, .int .i64 i, .string ⟨#[]⟩, .slice none 0 0]) (by simp [results, Tryd.results99, go_sem, y0, y1, y2, y3]) rfl ⟨_, rfl, hTT, zB⟩

/-- A box of a tree of Kind 0 is no part of a good tree. -/
def zeroBox (W : World) (B : Nat) : Prop := Box W B #[.int .i64 0, .int .i64 0, .string ⟨#[]⟩, .slice none 0 0] 25
mutual
theorem IsP.notBox {p : Nat → Prop} {W : World} {B : Nat} (hB : zeroBox W B) : ∀ (T : Tr) (v : Value), T.good = true → IsP p W T v → IsP (fun b => p b ∧ b ≠ B) W T v
  | .node k n s l, v, hg, h => by
    simp only [Tr.good, Bool.and_eq_true] at hg
    obtain ⟨a, c, rfl, h1, h2, h3, h4, h5, h6⟩ := h.open
    exact IsP.mk h1 h2 h3 h4 h5 (IsPL.notBox hB l a hg.2 h6)
theorem IsPL.notBox {p : Nat → Prop} {W : World} {B : Nat} (hB : zeroBox W B) : ∀ (l : List Tr) (a : Option Addr), goodL l = true → IsPL p W l a → IsPL (fun b => p b ∧ b ≠ B) W l a
  | [], _, _, _ => IsPL.nil
  | t :: ts, a, hg, h => by
    simp only [goodL, Bool.and_eq_true] at hg
    unfold IsPL at h ⊢
    obtain ⟨b, off, v0, v1, v2, v3, rfl, hb, c0, c1, c2, c3, ht, hl⟩ := h
    refine ⟨b, off, v0, v1, v2, v3, rfl, ⟨hb, fun e => ?_⟩, c0, c1, c2, c3, IsP.notBox hB t _ hg.1 ht, IsPL.notBox hB ts _ hg.2 hl⟩
    subst e
    have h0 := (hB.cell off).symm.trans c0
    have h3 := (hB.cell (off + 3)).symm.trans c3
    have hoff : off = 0 := by
      rcases Nat.eq_zero_or_pos off with h | h
      · exact h
      · rw [Array.getElem?_eq_none (by simp; omega)] at h3; cases h3
    subst hoff
    simp at h0
    subst h0
    cases t with
    | node k n s l =>
    obtain ⟨a, c, e, _⟩ := ht.open
    simp only [Value.agg.injEq, Array.mk.injEq, List.cons.injEq, Value.int.injEq, true_and] at e
    exact good_kind hg.1 e.1.symm
end
def IsTim (T : Tr) (u : Value) (W : World) : Prop := IsT W.heap.size W T u
theorem IsTim.steady (T : Tr) : (Yld.any (IsTim T)).stable := fun _ _ _ he h => IsT.up h he (Below.size he)
def IsZero (lo : Nat) (u : Value) (W : World) : Prop := ∃ B, u = .pointer (some ⟨B, 0, none⟩) ∧ lo ≤ B ∧ zeroBox W B
theorem IsZero.steady (lo : Nat) : (Yld.any (IsZero lo)).stable := fun _ _ _ he ⟨B, h1, h2, h3⟩ => ⟨B, h1, h2, Box.keep he h3⟩


/-- What Compose hands back. -/
def compL (a b : List Tr) : List Tr := if compE a b = 0 then compT a b else []
def ComposePost (a b : List Tr) (w : World) (e : Ending) (w' : World) : Prop := ∃ ad c, e = .returned (.tuple #[.slice ad (compL a b).length c, .int .i64 (compE a b)]) ∧ (compL a b).length ≤ c ∧ c ≤ maxLen ∧ IsL w'.heap.size w' (compL a b) ad ∧ Below w.heap.size w w'
theorem ComposePost.bad {a b : List Tr} {w w' : World} {x : Int} (hx : compE a b = x) (h0 : x ≠ 0) (hB : Below w.heap.size w w') : ComposePost a b w (.returned (.tuple #[.slice none 0 0, .int .i64 x])) w' := by
  subst hx
  exact ⟨none, 0, by rw [compL, if_neg h0]; rfl, by rw [compL, if_neg h0]; exact Nat.le_refl _, by unfold maxLen; omega, by rw [compL, if_neg h0]; exact IsL.nil, hB⟩
theorem ComposePost.good {a b : List Tr} {w w' : World} {P N : Nat} (hx : compE a b = 0) (hl : (compL a b).length = N) (hm : N ≤ maxLen) (hL : IsL w'.heap.size w' (compL a b) (some ⟨P, 0, none⟩)) (hB : Below w.heap.size w w') : ComposePost a b w (.returned (.tuple #[.slice (some ⟨P, 0, none⟩) N N, .int .i64 0])) w' := by
  subst hl
  exact ⟨_, _, by rw [hx], Nat.le_refl _, hm, hL, hB⟩
theorem compE_bad1 {a b : List Tr} (h : subOkB a = false) : compE a b = 1 := by rw [compE, h]; rfl
theorem compE_bad2 {a b : List Tr} (h : subOkB b = false) : compE a b = 1 := by rw [compE, h, Bool.and_false]; rfl
theorem compE_bad3 {a b : List Tr} (ha : subOkB a = true) (hb : subOkB b = true) (h : compFit a b = false) : compE a b = 2 := by rw [compE, ha, hb, h]; rfl
theorem compE_ok {a b : List Tr} (ha : subOkB a = true) (hb : subOkB b = true) (h : compFit a b = true) : compE a b = 0 := by rw [compE, ha, hb, h]; rfl
theorem fit_take {a b : List Tr} {j : Nat} (h : j < a.length) : compFit (a.take (j + 1)) b = (compFit (a.take j) b && fitsB (subT b a[j])) := by
  rw [compFit, List.take_succ_eq_append_getElem h, List.all_append]; simp [compFit]
theorem fit_false {a b : List Tr} {j : Nat} (h : j < a.length) (hf : fitsB (subT b a[j]) = false) : compFit a b = false := by
  rw [compFit, List.all_eq_false]
  exact ⟨a[j], List.getElem_mem h, by simp [hf]⟩
theorem subOk_pos {l : List Tr} (h : subOkB l = true) {t : Tr} (ht : t ∈ l) : posT t := by
  rcases subOk_mem h ht with hf | hf
  · cases t with
    | node k n s ts =>
    simp only [Tr.free, freeB, Bool.and_eq_true, decide_eq_true_eq] at hf
    obtain ⟨⟨⟨rfl, rfl⟩, _⟩, h0⟩ := hf
    obtain rfl := List.length_eq_zero_iff.1 h0
    unfold posT
    exact ⟨fun h => by omega, by unfold posL; trivial⟩
  · exact isB_pos hf


/-- Between the rounds of Compose: the elements that are made lie in the block P; the others are zero. -/
def zeroAt (cs : Array Value) (i : Nat) : Prop := cs[i * 4]? = some (.int .i64 0) ∧ cs[i * 4 + 1]? = some (.int .i64 0) ∧ cs[i * 4 + 2]? = some (.string ⟨#[]⟩) ∧ cs[i * 4 + 3]? = some (.slice none 0 0)
def CompInv (la lb : List Tr) (w : World) (P N j : Nat) (wr : World) : Prop := ∃ cs : Array Value, Box wr P cs 25 ∧ cs.size = N * 4 ∧ Laid wr (P + 1) cs ((List.range j).map (cmpE la lb)) ∧ (∀ i, j ≤ i → i < N → zeroAt cs i) ∧ Below w.heap.size w wr
theorem CompInv.up {la lb : List Tr} {w wr W : World} {P N j : Nat} (h : CompInv la lb w P N j wr) (B : Below wr.heap.size wr W) : CompInv la lb w P N j W := by
  obtain ⟨cs, h1, h2, h3, h4, h5⟩ := h
  exact ⟨cs, Box.keep B h1, h2, h3.keep B.size (fun b _ hb => B.block b hb), h4, h5.trans (B.mono h5.size)⟩
theorem Laid.snocAt {W : World} {lo : Nat} {cs : Array Value} {l : List Tr} {t : Tr} {a0 a1 a2 a3 : Value} (h : Laid W lo cs l) (h0 : cs[l.length * 4]? = some a0) (h1 : cs[l.length * 4 + 1]? = some a1) (h2 : cs[l.length * 4 + 2]? = some a2) (h3 : cs[l.length * 4 + 3]? = some a3) (ht : IsP (New lo W) W t (.agg #[a0, a1, a2, a3])) : Laid W lo cs (l ++ [t]) := fun i hi => by
  simp only [List.length_append, List.length_cons, List.length_nil] at hi
  by_cases hlt : i < l.length
  · rw [List.getElem_append_left hlt]; exact h i hlt
  · obtain rfl : i = l.length := by omega
    rw [List.getElem_append_right (Nat.le_refl _)]
    simp only [Nat.sub_self, List.getElem_cons_zero]
    exact ⟨a0, a1, a2, a3, h0, h1, h2, h3, ht⟩
theorem CompInv.zero {la lb : List Tr} {w W : World} {P N j : Nat} (h : CompInv la lb w P N j W) (hj : j < N) (hv : isVarB (subT lb (sgS la j)) j = true) : CompInv la lb w P N (j + 1) W := by
  obtain ⟨cs, h1, h2, h3, h4, h5⟩ := h
  obtain ⟨z0, z1, z2, z3⟩ := h4 j (Nat.le_refl _) hj
  refine ⟨cs, h1, h2, ?_, fun i hi hn => h4 i (by omega) hn, h5⟩
  rw [List.range_succ, List.map_append, List.map_cons, List.map_nil, show cmpE la lb j = zeroTr by rw [cmpE, if_pos hv]]
  exact Laid.snocAt h3 (by simpa using z0) (by simpa using z1) (by simpa using z2) (by simpa using z3) (zero_isP _ _)
theorem CompInv.put {la lb : List Tr} {w W : World} {P N j : Nat} {a0 a1 a2 a3 : Value} (h : CompInv la lb w P N j W) (hj : j < N) (hv : isVarB (subT lb (sgS la j)) j = false) (hw : w.heap.size ≤ P) (ht : IsP (New (P + 1) W) W (subT lb (sgS la j)) (.agg #[a0, a1, a2, a3])) :
    CompInv la lb w P N (j + 1) ((((W.setCell ⟨P, j * 4, none⟩ a0).setCell ⟨P, j * 4 + 1, none⟩ a1).setCell ⟨P, j * 4 + 2, none⟩ a2).setCell ⟨P, j * 4 + 3, none⟩ a3) := by
  obtain ⟨cs, h1, h2, h3, h4, h5⟩ := h
  have hlen : ((List.range j).map (cmpE la lb)).length = j := by simp
  refine ⟨_, (((h1.set (j * 4) a0).set (j * 4 + 1) a1).set (j * 4 + 2) a2).set (j * 4 + 3) a3, by simp [h2], ?_, fun i hi hn => ?_, (((h5.setCell (p := ⟨P, j * 4, none⟩) hw a0).setCell (p := ⟨P, j * 4 + 1, none⟩) hw a1).setCell (p := ⟨P, j * 4 + 2, none⟩) hw a2).setCell (p := ⟨P, j * 4 + 3, none⟩) hw a3⟩
  · have hL := Laid.snoc h3 (by rw [hlen, h2]; omega) ht
    rw [hlen] at hL
    rw [List.range_succ, List.map_append, List.map_cons, List.map_nil, show cmpE la lb j = subT lb (sgS la j) by rw [cmpE, if_neg (by simp [hv])]]
    refine hL.keep (by simp) (fun b hb1 _ => ?_)
    rw [Below.heap_setCell _ _ _ _ (by simp; omega), Below.heap_setCell _ _ _ _ (by simp; omega), Below.heap_setCell _ _ _ _ (by simp; omega), Below.heap_setCell _ _ _ _ (by simp; omega)]
  · obtain ⟨z0, z1, z2, z3⟩ := h4 i (by omega) hn
    refine ⟨?_, ?_, ?_, ?_⟩
    · rw [Array.getElem?_setIfInBounds_ne (by omega), Array.getElem?_setIfInBounds_ne (by omega), Array.getElem?_setIfInBounds_ne (by omega), Array.getElem?_setIfInBounds_ne (by omega), z0]
    · rw [Array.getElem?_setIfInBounds_ne (by omega), Array.getElem?_setIfInBounds_ne (by omega), Array.getElem?_setIfInBounds_ne (by omega), Array.getElem?_setIfInBounds_ne (by omega), z1]
    · rw [Array.getElem?_setIfInBounds_ne (by omega), Array.getElem?_setIfInBounds_ne (by omega), Array.getElem?_setIfInBounds_ne (by omega), Array.getElem?_setIfInBounds_ne (by omega), z2]
    · rw [Array.getElem?_setIfInBounds_ne (by omega), Array.getElem?_setIfInBounds_ne (by omega), Array.getElem?_setIfInBounds_ne (by omega), Array.getElem?_setIfInBounds_ne (by omega), z3]
theorem CompInv.start (la lb : List Tr) (W : World) (N : Nat) : CompInv la lb W W.heap.size N 0 (W.alloc (.cells (madeCells #[.int .i64 0, .int .i64 0, .string ⟨#[]⟩, .slice none 0 0] (N * 4)) 25)) :=
  ⟨_, Box.at rfl, size_madeCells _ _, fun i hi => by simp at hi, fun i _ hi => made_terms N i hi, below_a1 (Nat.le_refl _) _⟩
theorem IsP.kinds {p : Nat → Prop} {W : World} {T : Tr} {k n : Int} {s : ByteArray} {a : Option Addr} {m c : Nat} (h : IsP p W T (.agg #[.int .i64 k, .int .i64 n, .string s, .slice a m c])) (i : Int) : isVarB T i = (decide (k = 1) && decide (n = i)) := by
  cases T with
  | node k' n' s' l =>
  obtain ⟨a', c', e, _⟩ := h.open
  simp only [Value.agg.injEq, Array.mk.injEq, List.cons.injEq, Value.int.injEq, true_and] at e
  obtain ⟨rfl, rfl, _⟩ := e
  rfl


set_option maxRecDepth 100000 in
set_option maxHeartbeats 8000000 in
theorem compose_any (la lb : List Tr) (aa ab : Option Addr) (ca cb : Nat) (w : World) (h4a : la.length ≤ ca) (h5a : ca ≤ maxLen) (h4b : lb.length ≤ cb) (h5b : cb ≤ maxLen) (hma : la.length ≤ 1000000) (hmb : lb.length ≤ 1000000) (hla : IsL w.heap.size w la aa) (hlb : IsL w.heap.size w lb ab) (hda : ∀ t, t ∈ la → t.deep ≤ 999999999) (hdb : ∀ t, t ∈ lb → t.deep ≤ 999999999) :
    Calls Tryd.prog 42 #[.slice aa la.length ca, .slice ab lb.length cb] w (ComposePost la lb w) := by
  refine (callsIn_wide (n := 9)).1 ?_
  generalize hF : Fence.wide = F
  have hd : F.depth = none := by subst hF; rfl
  have hf : ∀ f, F.fn f := fun f => by subst hF; trivial
  have hro : F.round = none := by subst hF; rfl
  have HLA := Lib.hid hla
  have HLB := Lib.hid hlb
  have HDB := Lib.hid hdb
  have HDA := Lib.hid hda
  clear hla hlb hda hdb
  refine callsIn_of_wp Tryd.func42 rfl (hf _) ?_ hro
  simp only [Tryd.ntmps42, List.size_toArray, List.length_cons, List.length_nil, Nat.reduceAdd, Nat.reduceSub, Array.replicate_succ, Array.replicate_zero, List.push_toArray, List.append_toArray, List.nil_append, List.cons_append]
  gi_wp2_with fail
  refine CallsIn.mono (callsIn_of_calls hF (newSub_any la aa ca w hma h4a h5a HLA.out HDA.out)) ?_
  rintro e w1 ⟨B1, h | ⟨hbad, rfl⟩⟩
  rotate_left
  · have HE := Lib.hid (compE_bad1 (b := lb) hbad)
    clear hbad
    gi_wp2_with fail
    go_ret2
    exact ComposePost.bad HE.out (by decide) (B1.trans (below_a1 B1.size _))
  obtain ⟨hoka, v1, rfl, a1, c1, e1, cs1, rfl, hs1, hs2, hs3, hs4, hs5, hs6⟩ := h
  have HOKA := Lib.hid hoka
  have bx1 : Box (w1.alloc (.cells #[.slice a1 la.length c1, .slice (some ⟨e1, 0, none⟩) la.length la.length] 114)) w1.heap.size #[.slice a1 la.length c1, .slice (some ⟨e1, 0, none⟩) la.length la.length] 114 := Box.at rfl
  have hB1 := B1.trans (below_a1 B1.size (.cells #[.slice a1 la.length c1, .slice (some ⟨e1, 0, none⟩) la.length la.length] 114))
  have hl1 := hs3.up (below_a1 (Nat.le_refl _) (.cells #[.slice a1 la.length c1, .slice (some ⟨e1, 0, none⟩) la.length la.length] 114)) (size_a1 (Nat.le_refl w1.heap.size) _)
  clear hoka hs1 hs2 hs3 hs5 hs6 B1
  gi_wp2_with fail
  generalize (w1.alloc (.cells #[.slice a1 la.length c1, .slice (some ⟨e1, 0, none⟩) la.length la.length] 114)) = W1 at *
  refine CallsIn.mono (callsIn_of_calls hF (newSub_any lb ab cb W1 hmb h4b h5b (HLB.out.up hB1 hB1.size) HDB.out)) ?_
  rintro e w2 ⟨B2, h | ⟨hbad, rfl⟩⟩
  rotate_left
  · have HE := Lib.hid (compE_bad2 (a := la) hbad)
    clear hbad
    gi_wp2_with fail
    go_ret2
    exact ComposePost.bad HE.out (by decide) ((hB1.trans (B2.mono hB1.size)).trans (below_a1 (hB1.trans (B2.mono hB1.size)).size _))
  obtain ⟨hokb, v2, rfl, a2, c2, e2, cs2, rfl, ht1, ht2, ht3, ht4, ht5, ht6⟩ := h
  have HOKB := Lib.hid hokb
  have hBa := below_a1 (Nat.le_refl w2.heap.size) (.cells #[.slice a2 lb.length c2, .slice (some ⟨e2, 0, none⟩) lb.length lb.length] 114)
  have bx2 : Box (w2.alloc (.cells #[.slice a2 lb.length c2, .slice (some ⟨e2, 0, none⟩) lb.length lb.length] 114)) w2.heap.size #[.slice a2 lb.length c2, .slice (some ⟨e2, 0, none⟩) lb.length lb.length] 114 := Box.at rfl
  replace bx1 := (Box.keep B2 bx1).alloc (.cells #[.slice a2 lb.length c2, .slice (some ⟨e2, 0, none⟩) lb.length lb.length] 114)
  have hB2 := (hB1.trans (B2.mono hB1.size)).trans (hBa.mono (hB1.trans (B2.mono hB1.size)).size)
  have hl1' := (hl1.up B2 B2.size).up hBa hBa.size
  have hl2 := ht3.up hBa hBa.size
  have hx2 := Box.keep hBa ht5
  have he2 : e2 < (w2.alloc (.cells #[.slice a2 lb.length c2, .slice (some ⟨e2, 0, none⟩) lb.length lb.length] 114)).heap.size := hx2.lt
  have HB2 := Lib.hid hB2
  have HL1 := Lib.hid hl1'
  have HL2 := Lib.hid hl2
  have HX2 := Lib.hid (And.intro hx2 (And.intro he2 ht6))
  clear hokb ht1 ht2 ht3 ht5 ht6 B2 hBa hB1 hB2 hl1 hl1' hl2 hx2 he2 ht4 hs4
  gi_wp2_with fail
  have BX := Lib.hid (And.intro bx1 bx2)
  have lx1 := bx1.lt
  have lx2 := bx2.lt
  clear bx1 bx2
  generalize (w2.alloc (.cells #[.slice a2 lb.length c2, .slice (some ⟨e2, 0, none⟩) lb.length lb.length] 114)) = WS at *
  generalize w2.heap.size = P2 at *
  generalize w1.heap.size = P1 at *
  have hpa : Hid (∀ t, t ∈ la → posT t ∧ (subT lb t).size ≤ 1000000000000) := fun t ht => by
    have h1 := subOk_pos HOKA.out ht
    have h2 := subT_size HOKB.out t h1
    have h3 := subOk_size HOKA.out ht
    exact ⟨h1, by omega⟩
  gi_loopw [30] (fun i wr => ∃ j : Nat, j ≤ la.length ∧ i = .int .i64 j ∧ compFit (la.take j) lb = true ∧ Below WS.heap.size WS wr) (fun i _ => la.length - (intOf i).toNat)
  case atStart => exact ⟨0, Nat.zero_le _, rfl, rfl, Below.refl _ _⟩
  case round =>
    obtain ⟨j, hj, rfl, hfit, hBj⟩ := hrel
    have HFIT := Lib.hid hfit
    clear hfit
    have hB0 := HB2.out.trans (hBj.mono HB2.out.size)
    by_cases hlt : j < la.length
    · obtain ⟨b, off, rfl, hb⟩ := HLA.out.addr (by omega)
      obtain ⟨tk, tn, ts, tl, ta, tc, te, c0, c1', c2', c3, ht⟩ := HLA.out.node' hb hB0 j hlt
      have hbw : b < wr.heap.size := by have := hB0.size; omega
      have Te := Lib.hid te
      have x2 := (Box.keep (hBj) BX.out.2).alloc (.cells #[.int .i64 tk, .int .i64 tn, .string ts, .slice ta tl.length tc] 25)
      have hszj := hBj.size
      have hBx := hBj.trans (below_a1 hBj.size (.cells #[.int .i64 tk, .int .i64 tn, .string ts, .slice ta tl.length tc] 25))
      have htx := ht.up (hB0.trans (below_a1 hB0.size (.cells #[.int .i64 tk, .int .i64 tn, .string ts, .slice ta tl.length tc] 25))) (by have := hB0.size; simp; omega)
      have q0 := x2.cell 0
      have q1 := x2.cell 1
      simp only [List.getElem?_toArray, List.getElem?_cons_succ, List.getElem?_cons_zero] at q0 q1
      have HJ := Lib.hid (And.intro hBj (And.intro hBx htx))
      clear te ht hBj hBx htx x2 hB0
      gi_wp2_with fail
      refine CallsIn.mono (callsIn_of_calls hF (extentOf_any lb hmb a2 c2 e2 cs2 HX2.out.2.2 WS HL2.out HX2.out.2.1 HX2.out.1 la[j] _ _ HJ.out.2.1 HJ.out.2.2 (hpa.out _ (List.getElem_mem hlt)).2 (hpa.out _ (List.getElem_mem hlt)).1)) ?_
      rintro e w3 ⟨rfl, B⟩
      have hB3 := HJ.out.2.1.trans (B.mono HJ.out.2.1.size)
      clear B
      gi_wp2_with fail
      refine CallsIn.mono (callsIn_of_calls hF (fits_any _ _ _)) ?_
      rintro e w4 ⟨rfl, B⟩
      have hB4 := hB3.trans (B.mono hB3.size)
      have hfb : (decide (((subT lb la[j]).size : Int) ≤ 4000) && decide (((subT lb la[j]).deep : Int) ≤ 600)) = fitsB (subT lb la[j]) := by
        rw [fitsB]
        congr 1 <;> (rw [decide_eq_decide]; omega)
      rw [hfb]
      clear hfb B
      cases hf : fitsB (subT lb la[j]) with
      | false =>
        have HE := Lib.hid (compE_bad3 HOKA.out HOKB.out (fit_false hlt hf))
        clear hf
        gi_wp2_with fail
        go_ret2
        exact ComposePost.bad HE.out (by decide) (HB2.out.trans (hB4.mono HB2.out.size))
      | true =>
        have HF2 : Hid (compFit (la.take (j + 1)) lb = true) := by rw [Hid, fit_take hlt, HFIT.out, hf]; rfl
        clear hf
        gi_wp2_with fail
        go_roundw
        case rel => exact ⟨j + 1, hlt, by go_num, HF2.out, hB4⟩
        case measure => simp [intOf]; omega
    · have hfit : compFit la lb = true := by
        have := HFIT.out
        rwa [List.take_of_length_le (by omega)] at this
      have HE := Lib.hid hfit
      have HB3 := Lib.hid hB0
      have BX3 := Lib.hid (And.intro (Box.keep hBj BX.out.1) (Box.keep hBj BX.out.2))
      have HL3 := Lib.hid (And.intro (HL1.out.up hBj hBj.size) (And.intro (HL2.out.up hBj hBj.size) (Box.keep hBj HX2.out.1)))
      have hszj := hBj.size
      clear hfit hB0 hBj HFIT
      obtain ⟨N, hN⟩ : ∃ N, max la.length lb.length = N := ⟨_, rfl⟩
      have hNm : N ≤ 1000000 := by omega
      have hmx : max (la.length : Int) (lb.length : Int) = (N : Int) := by omega
      have HN := Lib.hid hN
      have hmk := mk_terms N hNm wr
      have hlm : la.length ≤ 9223372036854775807 := by omega
      have hlm2 : lb.length ≤ 9223372036854775807 := by omega
      clear hN
      obtain ⟨wo, rfl⟩ : ∃ wo : World, wo = wr := ⟨_, rfl⟩
      gi_wp2_with fail
      clear hmk hmx
      have hI0 := CompInv.start la lb wo N
      gi_loopw [48] (fun i wr => ∃ j : Nat, j ≤ N ∧ i = .int .i64 j ∧ CompInv la lb wo wo.heap.size N j wr) (fun i _ => N - (intOf i).toNat)
      case atStart => exact ⟨0, Nat.zero_le _, rfl, hI0⟩
      case round =>
        clear hI0
        obtain ⟨i, hi, rfl, hI⟩ := hrel
        have HI := Lib.hid hI
        have hBi : Below wo.heap.size wo wr := by
          obtain ⟨_, _, _, _, _, h⟩ := hI
          exact h
        clear hI
        by_cases hlt : i < N
        · have hBx := Box.keep hBi BX3.out.1
          have hBy := Box.keep hBi BX3.out.2
          have q0 := hBx.cell 0
          have q1 := hBx.cell 1
          have r0 := hBy.cell 0
          have r1 := hBy.cell 1
          have lq := hBx.lt
          have lr := hBy.lt
          simp only [List.getElem?_toArray, List.getElem?_cons_succ, List.getElem?_cons_zero] at q0 q1 r0 r1
          have HLQ := Lib.hid (And.intro (HL3.out.1.up hBi hBi.size) (And.intro (HL3.out.2.1.up hBi hBi.size) hBi))
          have hPw : wo.heap.size < wr.heap.size := by
            obtain ⟨_, h, _⟩ := HI.out
            exact h.lt
          have hgood := Lib.hid (comp_good HOKA.out HOKB.out (i := (i : Int)) (by omega) (by have := subOk_len HOKA.out; have := subOk_len HOKB.out; have := HN.out; omega))
          have hsgp : Hid (posT (sgS la i) ∧ (sgS la i).size ≤ 1000000) := by
            have := sgS_isB HOKA.out (n := (i : Int)) (by omega) (by have := subOk_len HOKA.out; have := subOk_len HOKB.out; have := HN.out; omega)
            exact ⟨isB_pos this, by have := (isB_size this).1; omega⟩
          have hszb : Hid (∀ t, t ∈ lb → t.size ≤ 1000000) := fun t ht => by have := subOk_size HOKB.out ht; omega
          clear hBx hBy hBi
          gi_wp2_with fail
          refine wpIn_region_mono_tail 6 [.det (.agg #[.slice a2 lb.length c2, .slice (some ⟨e2, 0, none⟩) lb.length lb.length]), .det (.agg #[.slice a1 la.length c1, .slice (some ⟨e1, 0, none⟩) la.length la.length]), .det (.int .i64 i), .any (IsTim (sgS la i)), .any (IsNewT wr.heap.size (subT lb (sgS la i))), .any (IsZero wr.heap.size)] hf hd (fun k f args w R h => callsIn_of_calls hF h) (by kernel_rfl) (by kernel_rfl) ?_ ?_
          · intro y hy
            simp only [List.mem_cons, List.not_mem_nil, or_false] at hy
            rcases hy with rfl | rfl | rfl | rfl | rfl | rfl <;> first | trivial | exact IsTim.steady _ | exact IsNewT.steadyR _ _ | exact IsZero.steady _
          simp only [List.take_succ_cons, List.take_zero, List.drop_succ_cons, List.drop_zero]
          iterate 3 (
            refine wpM_step (fun K hK => ?_)
            go_simp
            apply And.intro
            · intro w' hC _
              have q1 := hC.old.1
              have hbs := hC.old.2.2
              clear hC
              go_simp
              exact Ext.refl _
            refine nextM_det (hK _ _ ?_)
            clear hK K)
          refine wpM_step (fun K hK => ?_)
          go_simp
          apply And.intro
          · intro w' hC _
            go_simp
            refine ⟨Ext.refl _, (image_any la hma a1 c1 (some ⟨e1, 0, none⟩) la.length la.length i (by omega) w' (HLQ.out.1.up hC (Below.size hC))).mono ?_⟩
            rintro e w2' ⟨u, rfl, hu, hb⟩
            exact ⟨u, rfl, hb, hu⟩
          refine nextM_any (fun u => hK _ _ ?_)
          clear hK K
          refine wpM_step (fun K hK => ?_)
          go_simp
          apply And.intro
          · intro w' hC hd'
            have hu : IsTim (sgS la i) u w' := hd' ⟨3, .data⟩ (by simp) rfl u rfl
            go_simp
            refine ⟨Ext.refl _, (apply_any lb hmb hszb.out a2 c2 (some ⟨e2, 0, none⟩) lb.length lb.length wr HLQ.out.2.1 (sgS la i) u w' hC hu hsgp.out.2 hsgp.out.1).mono ?_⟩
            rintro e w2' ⟨v', rfl, hP, hb⟩
            exact ⟨v', rfl, hb, Nat.le_trans (Below.size hC) hb.size, New.below hP (Below.refl _ _) (Below.size hC)⟩
          refine nextM_any (fun y => hK _ _ ?_)
          clear hK K
          refine wpM_step (fun K hK => ?_)
          go_simp
          apply And.intro
          · intro w' hC _
            go_simp
            exact ⟨below_a1 (Nat.le_refl _) _, w'.heap.size, rfl, Below.size hC, Box.at rfl⟩
          refine nextM_any (fun z => hK _ _ ?_)
          clear hK K
          refine wpM_nil ?_
          intro w9 hC hE
          have hy : IsNewT wr.heap.size (subT lb (sgS la i)) y w9 := hE 4 y rfl
          obtain ⟨Bz, rfl, hz1, hz2⟩ : IsZero wr.heap.size z w9 := hE 5 z rfl
          clear hE
          have hy2 := IsP.notBox hz2 _ _ hgood.out hy.2
          obtain ⟨yk, yn, ys, ya, ym, yc, rfl⟩ := hy2.form
          have hkk := Lib.hid (hy2.kinds i)
          have hbC : Below wr.heap.size wr w9 := hC
          have hz3 : Box w9 Bz #[.int .i64 0, .int .i64 0, .string ⟨#[]⟩, .slice none 0 0] 25 := hz2
          have g0 := hz3.frozen 0
          have g1 := hz3.frozen 1
          have g2 := hz3.frozen 2
          have g3 := hz3.frozen 3
          have c0 := hz3.cell 0
          have c1' := hz3.cell 1
          have c2' := hz3.cell 2
          have c3 := hz3.cell 3
          have lz := hz3.lt
          simp only [List.getElem?_toArray, List.getElem?_cons_succ, List.getElem?_cons_zero] at c0 c1' c2' c3
          have z4 := hz3.four (.int .i64 yk) (.int .i64 yn) (.string ys) (.slice ya ym yc)
          have hI9 := HI.out.up (below_four hbC hz1 (.int .i64 yk) (.int .i64 yn) (.string ys) (.slice ya ym yc))
          have hyF := IsP.map (q := New (wo.heap.size + 1) ((((w9.setCell ⟨Bz, 0, none⟩ (.int .i64 yk)).setCell ⟨Bz, 1, none⟩ (.int .i64 yn)).setCell ⟨Bz, 2, none⟩ (.string ys)).setCell ⟨Bz, 3, none⟩ (.slice ya ym yc))) (B := ((((w9.setCell ⟨Bz, 0, none⟩ (.int .i64 yk)).setCell ⟨Bz, 1, none⟩ (.int .i64 yn)).setCell ⟨Bz, 2, none⟩ (.string ys)).setCell ⟨Bz, 3, none⟩ (.slice ya ym yc))) (fun b hb => ⟨⟨by have := hb.1.1; omega, by simpa using hb.1.2⟩, heap_four hb.2 _ _ _ _⟩) _ _ hy2
          have HZ := Lib.hid (And.intro z4 (And.intro hI9 hyF))
          clear z4 hI9 hyF hy hy2 hz2 hz3 hC hbC
          gi_wp2_with fail
          clear g0 g1 g2 g3 c0 c1' c2' c3
          refine CallsIn.mono (callsIn_of_calls hF (isVar_any yk yn ys ym ya yc i _)) ?_
          rintro e w5 ⟨rfl, B⟩
          rw [← hkk.out]
          have hI5 := HZ.out.2.1.up B
          have hy5 := New.below HZ.out.2.2 B (Nat.le_refl _)
          have z5 := Box.keep B HZ.out.1
          cases hv : isVarB (subT lb (sgS la i)) i with
          | true =>
            have HQ := Lib.hid (hI5.zero hlt hv)
            clear hv hI5 hy5 z5 B
            gi_wp2_with fail
            go_roundw
            case rel => exact ⟨i + 1, hlt, by go_num, HQ.out⟩
            case measure => simp [intOf]; omega
          | false =>
            have HQ := Lib.hid (hI5.put hlt hv (Nat.le_refl _) hy5)
            obtain ⟨cs, o1, o2, _, o4, _⟩ := hI5
            obtain ⟨v0, v1, v2, v3⟩ := o4 i (Nat.le_refl _) hlt
            have x0 := (o1.cell (i * 4)).trans v0
            have x1 := (o1.cell (i * 4 + 1)).trans v1
            have x2 := (o1.cell (i * 4 + 2)).trans v2
            have x3 := (o1.cell (i * 4 + 3)).trans v3
            have f0 := o1.frozen (i * 4)
            have f1 := o1.frozen (i * 4 + 1)
            have f2 := o1.frozen (i * 4 + 2)
            have f3 := o1.frozen (i * 4 + 3)
            have lo1 := o1.lt
            have lz5 := z5.lt
            have y0 := z5.cell 0
            have y1 := z5.cell 1
            have y2 := z5.cell 2
            have y3 := z5.cell 3
            simp only [List.getElem?_toArray, List.getElem?_cons_succ, List.getElem?_cons_zero] at y0 y1 y2 y3
            clear hv hy5 z5 o1 o2 o4 v0 v1 v2 v3 B
            gi_wp2_with fail
            go_roundw
            case rel => exact ⟨i + 1, hlt, by go_num, HQ.out⟩
            case measure => simp [intOf]; omega
        · have hiN : i = N := by omega
          obtain ⟨cs, h1, h2, h3, _, h5⟩ := HI.out
          have hfin := Laid.done h3 h1
          have hc : (List.range i).map (cmpE la lb) = compL la lb := by rw [compL, if_pos (compE_ok HOKA.out HOKB.out HE.out), compT, HN.out, hiN]
          have hlen : (compL la lb).length = N := by rw [← hc]; simp [hiN]
          rw [hc] at hfin
          have HF := Lib.hid (And.intro hlen (And.intro (hfin.toL (n₀ := wr.heap.size) (fun _ h => h.2)) (HB3.out.trans (h5.mono HB3.out.size))))
          clear hc hlen hfin h1 h2 h3 h5 hiN hBi
          gi_wp2_with fail
          go_ret2
          exact ComposePost.good (compE_ok HOKA.out HOKB.out HE.out) HF.out.1 (by unfold maxLen; omega) HF.out.2.1 HF.out.2.2

end Go.Proofs.YtckoecmdaefoiaaDoor
