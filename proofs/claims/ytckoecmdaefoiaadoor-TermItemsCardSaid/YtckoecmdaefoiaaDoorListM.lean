/- List of terms makes the list, or says that it is beyond the limits. -/
import Derived.Test.YtckoecmdaefoiaaDoorList
import Derived.Test.YtckoecmdaefoiaaDoorSaneM
namespace Go.Proofs.YtckoecmdaefoiaaDoor
open Go.RowKit Go

attribute [local go_sem] Oper.semAt_some monoUpon Yld.says

theorem listT_deep {R : Tr} (hR : R.deep ≤ 600) : ∀ l : List Tr, (∀ t, t ∈ l → t.deep ≤ 600) → (listT l R).deep ≤ 600 + l.length
  | [], _ => by simpa [listT] using hR
  | t :: l, h => by
    have h1 := listT_deep hR l (fun x hx => h x (List.mem_cons_of_mem _ hx))
    have h2 := h t (by simp)
    rw [listT_cons]
    simp only [cellT, Tr.deep, deepL, List.length_cons]
    omega
/-- Blocks of a tree under construction, but the box. -/
def Sol (lo ob : Nat) (W : World) (b : Nat) : Prop := (lo ≤ b ∧ b < W.heap.size ∧ b ≠ ob) ∧ ∃ o, W.heap[b]? = some o ∧ o.isCells = true
/-- Between the rounds of List. -/
def ListInv (w : World) (lo ob : Nat) (R : Tr) {n₀ : Nat} {W₀ : World} (pre : List (Bk n₀ W₀)) (W : World) : Prop :=
  ∃ k n s a m c, Box W ob #[.int .i64 k, .int .i64 n, .string s, .slice a m c] 25 ∧ IsP (Sol lo ob W) W (listT (pre.map Bk.tr).reverse R) (.agg #[.int .i64 k, .int .i64 n, .string s, .slice a m c]) ∧ Box W (w.heap.size + 1) #[.int .i64 0, .int .i64 0, .string ⟨#[]⟩, .slice none 0 0] 25 ∧ Below w.heap.size w W
theorem Box.turned {X Y : World} {B : Nat} {cs : Array Value} {t : TypeId} {row : Option Nat} (h : Box X B cs t) (hg : X.grownBy Y row) (hr : ∀ r, row = some r → ∃ o : Obj, X.heap[r]? = some o ∧ o.isCells = false) : Box Y B cs t :=
  Box.own B t (fun _ : Unit => cs) () X Y row h hg hr
theorem Sol.turned {X Y : World} {lo ob : Nat} {T : Tr} {v : Value} {row : Option Nat} (h : IsP (Sol lo ob X) X T v) (hg : X.grownBy Y row) (hr : ∀ r, row = some r → ∃ o : Obj, X.heap[r]? = some o ∧ o.isCells = false) : IsP (Sol lo ob Y) Y T v :=
  IsP.map (fun b ⟨⟨h1, h2, h3⟩, o, ho, hc⟩ => by
    have e : Y.heap[b]? = X.heap[b]? := hg.block b h2 (fun e => by
      obtain ⟨o', ho', hc'⟩ := hr b e.symm
      rw [ho] at ho'
      cases ho'
      rw [hc] at hc'
      cases hc')
    exact ⟨⟨⟨h1, Nat.lt_of_lt_of_le h2 hg.size, h3⟩, o, e.trans ho, hc⟩, e⟩) _ _ h
theorem ListInv.own {w : World} {lo ob : Nat} {R : Tr} {n₀ : Nat} {W₀ : World} {B : Nat} (hB : w.heap.size ≤ B) : OwnFrom B (ListInv w lo ob R (n₀ := n₀) (W₀ := W₀)) := fun _ X Y row ⟨k, n, t, a, m, c, h1, h2, h3, h4⟩ hg hr =>
  ⟨k, n, t, a, m, c, h1.turned hg (fun r e => (hr r e).2), Sol.turned h2 hg (fun r e => (hr r e).2), h3.turned hg (fun r e => (hr r e).2), ownFrom_below (β := Unit) (Nat.le_refl _) hB () X Y row h4 hg hr⟩

/-- A tree of new blocks. -/
theorem IsNewT.steady (lo : Nat) (T : Tr) : (Yld.any (IsNewT lo T)).stable := fun _ _ _ he h => ⟨Nat.le_trans h.1 (Below.size he), New.below h.2 he (Nat.le_refl _)⟩
/-- A row of two trees: a new one, and what was known. -/
def IsTwo (lo : Nat) (T : Tr) (u : Array Value) (x : Value) (W : World) : Prop := ∃ g v0 v1 v2 v3 u0 u1 u2 u3, u = #[u0, u1, u2, u3] ∧ x = .slice (some ⟨g, 0, none⟩) 2 2 ∧ lo ≤ g ∧ Box W g #[v0, v1, v2, v3, u0, u1, u2, u3] 25 ∧ IsNewT lo T (.agg #[v0, v1, v2, v3]) W
theorem IsTwo.steady (lo : Nat) (T : Tr) (u : Array Value) : (Yld.any (IsTwo lo T u)).stable := fun _ _ _ he ⟨g, v0, v1, v2, v3, u0, u1, u2, u3, h0, h1, h2, h3, h4⟩ => ⟨g, v0, v1, v2, v3, u0, u1, u2, u3, h0, h1, h2, h3.keep he, IsNewT.steady lo T _ _ _ he h4⟩
def IsCellV (lo : Nat) (T : Tr) (u : Array Value) (x : Value) (W : World) : Prop := ∃ y, x = .agg #[.int .i64 5, .int .i64 0, .string dot, y] ∧ IsTwo lo T u y W
theorem IsCellV.steady (lo : Nat) (T : Tr) (u : Array Value) : (Yld.any (IsCellV lo T u)).stable := fun _ _ _ he ⟨y, h1, h2⟩ => ⟨y, h1, IsTwo.steady lo T u _ _ _ he h2⟩

/-- What List hands back, its items and its tail being terms. -/
def ListPost (l : List Tr) (R : Tr) (w : World) (e : Ending) (w' : World) : Prop :=
  Below w.heap.size w w' ∧ ∃ k n s a m c, e = .returned (.tuple #[.agg #[.int .i64 k, .int .i64 n, .string s, .slice a m c], .int .i64 (limE (listT l R))]) ∧ (isB (listT l R) = true → IsT w'.heap.size w' (listT l R) (.agg #[.int .i64 k, .int .i64 n, .string s, .slice a m c]))

set_option maxRecDepth 100000 in
set_option maxHeartbeats 4000000 in
theorem List_ok (l : List Tr) (R : Tr) (a : Option Addr) (c : Nat) (v : Value) (w : World) (hl : IsL w.heap.size w l a) (hm : l.length ≤ maxLen) (hR : IsT w.heap.size w R v) (ht : togB l = true) (hb : isB R = true) :
    Calls Tryd.prog 53 #[.slice a l.length c, v] w (ListPost l R w) := by
  refine (callsIn_wide (n := 9)).1 ?_
  generalize hF : Fence.wide = F
  have hd : F.depth = none := by subst hF; rfl
  have hf : ∀ f, F.fn f := fun f => by subst hF; trivial
  have hro : F.round = none := by subst hF; rfl
  cases hTc : R with
  | node k n s ts =>
  subst hTc
  have hR' := hR
  obtain ⟨a', c', rfl, _⟩ := hR'.open
  clear hR'
  have htg := ht
  simp only [togB, Bool.and_eq_true, decide_eq_true_eq] at htg
  have hbl : ∀ t, t ∈ l → isB t = true := fun t h => List.all_eq_true.1 htg.1 t h
  have hll := length_le_sizeL l
  have hld : ∀ t, t ∈ l → t.deep ≤ 999999999 := fun t h => by have := (isB_size (hbl t h)).2; omega
  have HX := Lib.hid (And.intro hR (And.intro hl (And.intro hb (And.intro ht hbl))))
  clear hR hl hb hbl ht
  refine callsIn_of_wp_marks Tryd.func53 rfl (hf _) ?_ hro
  simp only [Tryd.ntmps53, List.size_toArray, List.length_cons, List.length_nil, Nat.reduceAdd, Nat.reduceSub, Array.replicate_succ, Array.replicate_zero, List.push_toArray, List.append_toArray, List.nil_append, List.cons_append]
  gi_wp2_with fail
  have hb0 : Box ((w.alloc (.cells #[.int .i64 k, .int .i64 n, .string s, .slice a' ts.length c'] 25)).alloc (.cells #[.int .i64 0, .int .i64 0, .string ⟨#[]⟩, .slice none 0 0] 25)) w.heap.size #[.int .i64 k, .int .i64 n, .string s, .slice a' ts.length c'] 25 := (Box.at rfl).alloc _
  have hb1 : Box ((w.alloc (.cells #[.int .i64 k, .int .i64 n, .string s, .slice a' ts.length c'] 25)).alloc (.cells #[.int .i64 0, .int .i64 0, .string ⟨#[]⟩, .slice none 0 0] 25)) (w.heap.size + 1) #[.int .i64 0, .int .i64 0, .string ⟨#[]⟩, .slice none 0 0] 25 := Box.at (by simp)
  have hB0 := below_a2 (Nat.le_refl w.heap.size) (.cells #[.int .i64 k, .int .i64 n, .string s, .slice a' ts.length c'] 25) (.cells #[.int .i64 0, .int .i64 0, .string ⟨#[]⟩, .slice none 0 0] 25)
  refine CallsIn.mono (callsIn_of_calls hF (checkAll_any l a c _ hm (HX.out.2.1.up hB0 hB0.size) hld)) ?_
  rintro e w1 ⟨rfl, B⟩
  rw [HX.out.2.2.2.1, show errI true = 0 from rfl]
  replace hb0 := hb0.keep B
  replace hb1 := hb1.keep B
  replace hB0 := hB0.trans (B.mono hB0.size)
  have q0 := hb0.cell 0
  have q1 := hb0.cell 1
  have q2 := hb0.cell 2
  have q3 := hb0.cell 3
  have l0 := hb0.lt
  have l1 := hb1.lt
  simp only [List.getElem?_toArray, List.getElem?_cons_succ, List.getElem?_cons_zero] at q0 q1 q2 q3
  clear B
  gi_wp2_with fail
  have hblk : Box (w1.alloc (.cells #[.int .i64 k, .int .i64 n, .string s, .slice a' ts.length c'] 25)) w1.heap.size #[.int .i64 k, .int .i64 n, .string s, .slice a' ts.length c'] 25 := Box.at rfl
  have hB1 := below_a1 (Nat.le_refl w1.heap.size) (.cells #[.int .i64 k, .int .i64 n, .string s, .slice a' ts.length c'] 25)
  have hB2 := hB0.trans (hB1.mono hB0.size)
  refine CallsIn.mono (callsIn_of_calls hF (checkEach_any [.node k n s ts] (some ⟨w1.heap.size, 0, none⟩) 1 _ (by unfold maxLen; simp) (IsL.cons (by simp) (hblk.cell 0) (hblk.cell 1) (hblk.cell 2) (hblk.cell 3) (HX.out.1.up hB2 hB2.size) IsL.nil) (by have := (isB_size HX.out.2.2.1).2; simp; omega))) ?_
  rintro e w2 ⟨rfl, B⟩
  rw [show [Tr.node k n s ts].all isB = true by simp [HX.out.2.2.1], show errI true = 0 from rfl]
  replace hb0 := (hb0.keep hB1).keep B
  replace hb1 := (hb1.keep hB1).keep B
  replace hB0 := hB2.trans (B.mono hB2.size)
  have hw2s : w.heap.size + 2 ≤ w2.heap.size := by have := hb1.lt; omega
  clear hblk hB1 hB2 q0 q1 q2 q3 l0 l1
  have q0 := hb0.cell 0
  have q1 := hb0.cell 1
  have q2 := hb0.cell 2
  have q3 := hb0.cell 3
  have l0 := hb0.lt
  have l1 := hb1.lt
  simp only [List.getElem?_toArray, List.getElem?_cons_succ, List.getElem?_cons_zero] at q0 q1 q2 q3
  clear B
  gi_wp2_with fail
  refine CallsIn.mono (callsIn_of_calls hF (copyTerm_any (.node k n s ts) _ _ (HX.out.1.up hB0 hB0.size) (by have := (isB_size HX.out.2.2.1).1; omega))) ?_
  rintro e w3 ⟨x, rfl, hP, B⟩
  obtain ⟨xk, xn, xs, xa, xm, xc, rfl⟩ := hP.form
  replace hb0 := hb0.keep B
  replace hb1 := hb1.keep B
  have hlo := hB0.size
  replace hB0 := hB0.trans (B.mono hB0.size)
  have hs3 := B.size
  have HW2 := Lib.hid hw2s
  have HP := Lib.hid hP
  clear B hP q0 q1 q2 q3 l0 l1
  have l0 := hb0.lt
  have l1 := hb1.lt
  gi_wp2_with fail
  refine CallsIn.mono (callsIn_of_calls hF (back_any a l.length c _)) ?_
  rintro e w' ⟨rfl, rfl⟩
  gi_wp2_with fail
  have hB4 : Below w.heap.size w ((w3.alloc (.cells #[.int .i64 xk, .int .i64 xn, .string xs, .slice xa xm xc] 25)).alloc (.cells #[.slice a l.length c] 22)) := hB0.trans (below_a2 hB0.size _ _)
  have hI0 : ListInv w w2.heap.size w3.heap.size (.node k n s ts) (n₀ := w.heap.size) (W₀ := w) [] ((w3.alloc (.cells #[.int .i64 xk, .int .i64 xn, .string xs, .slice xa xm xc] 25)).alloc (.cells #[.slice a l.length c] 22)) := by
    refine ⟨xk, xn, xs, xa, xm, xc, (Box.at rfl).alloc _, ?_, (hb1.alloc _).alloc _, hB4⟩
    refine IsP.map (fun b hb => ?_) _ _ (IsP.solid _ _ HP.out)
    obtain ⟨⟨h1, h2⟩, o, ho, hc⟩ := hb
    have e : ((w3.alloc (.cells #[.int .i64 xk, .int .i64 xn, .string xs, .slice xa xm xc] 25)).alloc (.cells #[.slice a l.length c] 22)).heap[b]? = w3.heap[b]? := (Below.heap_alloc _ _ b (by simp; omega)).trans (Below.heap_alloc w3 _ b h2)
    exact ⟨⟨⟨by omega, by simp; omega, by omega⟩, o, e.trans ho, hc⟩, e⟩
  have HB4 := Lib.hid hB4
  have HI0 := Lib.hid hI0
  clear hI0 hB4
  refine range_back hd hf hro (by omega) (w3.heap.size + 1) w.heap.size l a c w rfl (Box.at (by simp)) HB4.out HB4.out.size HX.out.2.1 (fun t h => by have := (isB_size (HX.out.2.2.2.2 t h)).1; omega) hm rfl (ListInv w w2.heap.size w3.heap.size (.node k n s ts)) (ListInv.own (by simp; omega)) HI0.out ?_
  apply Exists.intro
  apply And.intro
  · rintro r pre ⟨⟨d, T', v'⟩, hT', hTx⟩ W K hI hK
    cases T' with
    | node k' n' s' ts' =>
    obtain ⟨a2, c2, rfl, _⟩ := hT'.open
    simp only [Bk.encs]
    gi_wp2_with fail
    have hblk := World.alloc_heap_new W (.cells #[.int .i64 k', .int .i64 n', .string s', .slice a2 ts'.length c2] 25)
    have hKB : KB w.heap.size (w3.heap.size + 1) W (W.alloc (.cells #[.int .i64 k', .int .i64 n', .string s', .slice a2 ts'.length c2] 25)) :=
      ⟨below_a1 (by obtain ⟨_, _, _, _, _, _, _, _, _, h⟩ := hI; exact h.size) _, fun c t fr h => (Below.heap_alloc W _ _ (Array.getElem?_eq_some_iff.1 h).1).trans h⟩
    have hI' := (ListInv.own (B := w.heap.size) (Nat.le_refl _)).alloc (.cells #[.int .i64 k', .int .i64 n', .string s', .slice a2 ts'.length c2] 25) hI
    have hKF := (KeepsOthers.alloc W (.cells #[.int .i64 k', .int .i64 n', .string s', .slice a2 ts'.length c2] 25)).from
    replace hK := fun Bx W' => hK Bx W'
    dsimp only [Value.cells] at hK
    generalize W.alloc (.cells #[.int .i64 k', .int .i64 n', .string s', .slice a2 ts'.length c2] 25) = W' at *
    generalize W.heap.size = Bx at *
    replace hK := hK Bx W' (hKF _) hKB hI' hblk
    generalize Value.agg #[.int .i64 k', .int .i64 n', .string s', .slice a2 ts'.length c2] = v' at *
    exact hK
  refine ⟨?_, ?_⟩
  · rintro r pre ⟨⟨d, T', v'⟩, hT', hTx⟩ Bx W ⟨ok, on, os, oa, om, oc, h1, h2, h3, h4⟩ hx hpre
    cases T' with
    | node k' n' s' ts' =>
    obtain ⟨a2, c2, rfl, _⟩ := hT'.open
    dsimp only [Value.cells] at hx
    have hxB : Box W Bx #[.int .i64 k', .int .i64 n', .string s', .slice a2 ts'.length c2] 25 := hx
    have x0 := hxB.cell 0
    have x1 := hxB.cell 1
    have x2 := hxB.cell 2
    have x3 := hxB.cell 3
    have o0 := h1.cell 0
    have o1 := h1.cell 1
    have o2 := h1.cell 2
    have o3 := h1.cell 3
    have lx := hxB.lt
    have lo' := h1.lt
    simp only [List.getElem?_toArray, List.getElem?_cons_succ, List.getElem?_cons_zero] at x0 x1 x2 x3 o0 o1 o2 o3
    have HH := Lib.hid (And.intro h1 (And.intro h2 (And.intro h3 h4)))
    have HTx := Lib.hid (And.intro hT' hTx)
    clear h1 h2 h3 h4 hx hxB
    gi_wp2_with fail
    refine wpIn_region_mono_tail 5 [.det (.agg #[.int .i64 k', .int .i64 n', .string s', .slice a2 ts'.length c2]), .any (IsNewT W.heap.size (.node k' n' s' ts')), .det (.agg #[.int .i64 ok, .int .i64 on, .string os, .slice oa om oc]), .any (IsTwo W.heap.size (.node k' n' s' ts') #[.int .i64 ok, .int .i64 on, .string os, .slice oa om oc]), .any (IsCellV W.heap.size (.node k' n' s' ts') #[.int .i64 ok, .int .i64 on, .string os, .slice oa om oc])] hf hd (fun k f args w R h => CallsIn.inRound r (callsIn_of_calls hF h)) (by kernel_rfl) (by kernel_rfl) ?_ ?_
    · intro y hy
      simp only [List.mem_cons, List.not_mem_nil, or_false] at hy
      rcases hy with rfl | rfl | rfl | rfl | rfl <;> first | trivial | exact IsNewT.steady _ _ | exact IsTwo.steady _ _ _ | exact IsCellV.steady _ _ _
    simp only [List.take_succ_cons, List.take_zero, List.drop_succ_cons, List.drop_zero]
    refine wpM_step (fun K hK => ?_)
    go_simp
    apply And.intro
    · intro w' hC _
      have q1 := hC.old.1
      have hbs := hC.old.2.2
      clear hC
      go_simp
      exact Ext.refl _
    refine nextM_det (hK _ _ ?_)
    clear hK K
    refine wpM_step (fun K hK => ?_)
    go_simp
    apply And.intro
    · intro w' hC _
      go_simp
      refine ⟨Ext.refl _, (copyTerm_any (.node k' n' s' ts') _ w' (HTx.out.1.up (HH.out.2.2.2.trans (Below.mono hC HH.out.2.2.2.size)) (Nat.le_trans HH.out.2.2.2.size (Below.size hC))) HTx.out.2).mono ?_⟩
      rintro e w2' ⟨u, rfl, hu, hb⟩
      exact ⟨u, rfl, hb, Nat.le_trans (Below.size hC) hb.size, New.below hu (Below.refl _ _) (Below.size hC)⟩
    refine nextM_any (fun u => hK _ _ ?_)
    clear hK K
    refine wpM_step (fun K hK => ?_)
    go_simp
    apply And.intro
    · intro w' hC _
      have q1 := hC.old.1
      have hbs := hC.old.2.2
      clear hC
      go_simp
      exact Ext.refl _
    refine nextM_det (hK _ _ ?_)
    clear hK K
    refine wpM_step (fun K hK => ?_)
    go_simp
    apply And.intro
    · intro w' hC hd'
      have hu : IsNewT W.heap.size (.node k' n' s' ts') u w' := hd' ⟨1, .data⟩ (by simp) rfl u rfl
      obtain ⟨uk, un, us, ua, um, uc, rfl⟩ := hu.2.form
      go_simp
      exact ⟨below_a1 (Nat.le_refl _) _, w'.heap.size, _, _, _, _, _, _, _, _, rfl, rfl, Below.size hC, Box.at rfl, IsNewT.steady _ _ _ _ _ (below_a1 (Nat.le_refl _) _) hu⟩
    refine nextM_any (fun y => hK _ _ ?_)
    clear hK K
    refine wpM_step (fun K hK => ?_)
    go_simp
    apply And.intro
    · intro w' hC hd'
      have hy : IsTwo W.heap.size (.node k' n' s' ts') #[.int .i64 ok, .int .i64 on, .string os, .slice oa om oc] y w' := hd' ⟨3, .data⟩ (by simp) rfl y rfl
      obtain ⟨ya, ym, yc, rfl⟩ : ∃ ya ym yc, y = .slice ya ym yc := by
        obtain ⟨g, v0, v1, v2, v3, u0, u1, u2, u3, _, h, _⟩ := hy
        exact ⟨_, _, _, h⟩
      have HY := Lib.hid hy
      clear hy
      go_simp
      exact ⟨Ext.refl _, _, rfl, HY.out⟩
    refine nextM_any (fun z => hK _ _ ?_)
    clear hK K
    refine wpM_nil ?_
    intro w9 hC hE
    obtain ⟨y', rfl, g, v0, v1, v2, v3, u0, u1, u2, u3, e0, rfl, e2, e3, e4⟩ : IsCellV W.heap.size (.node k' n' s' ts') #[.int .i64 ok, .int .i64 on, .string os, .slice oa om oc] z w9 := hE 4 z rfl
    clear hE
    obtain ⟨h1, h2, h3, h4⟩ := HH.out
    have p1 := h1.keep hC
    have g0 := p1.frozen 0
    have g1 := p1.frozen 1
    have g2 := p1.frozen 2
    have g3 := p1.frozen 3
    have c0 := p1.cell 0
    have c1 := p1.cell 1
    have c2' := p1.cell 2
    have c3 := p1.cell 3
    have lp := p1.lt
    simp only [List.getElem?_toArray, List.getElem?_cons_succ, List.getElem?_cons_zero] at c0 c1 c2' c3
    have HC := Lib.hid hC
    simp only [Array.mk.injEq, List.cons.injEq, and_true] at e0
    obtain ⟨rfl, rfl, rfl, rfl⟩ := e0
    have hbC : Below w.heap.size W w9 := Below.mono hC h4.size
    have hszC := Below.size hC
    have hKB : KB w.heap.size (w3.heap.size + 1) W ((((w9.setCell ⟨w3.heap.size, 0, none⟩ (.int .i64 5)).setCell ⟨w3.heap.size, 1, none⟩ (.int .i64 0)).setCell ⟨w3.heap.size, 2, none⟩ (.string dot)).setCell ⟨w3.heap.size, 3, none⟩ (.slice (some ⟨g, 0, none⟩) 2 2)) := ⟨below_four hbC (by omega) _ _ _ _, fun c t fr h => by
      rw [heap_four (by omega)]
      exact (Below.block hC _ (Array.getElem?_eq_some_iff.1 h).1).trans h⟩
    have hKF : KeepsOthers W ((((w9.setCell ⟨w3.heap.size, 0, none⟩ (.int .i64 5)).setCell ⟨w3.heap.size, 1, none⟩ (.int .i64 0)).setCell ⟨w3.heap.size, 2, none⟩ (.string dot)).setCell ⟨w3.heap.size, 3, none⟩ (.slice (some ⟨g, 0, none⟩) 2 2)) := ((((KeepsOthers.of_below hC).trans (KeepsOthers.setCell _ _ _)).trans (KeepsOthers.setCell _ _ _)).trans (KeepsOthers.setCell _ _ _)).trans (KeepsOthers.setCell _ _ _)
    have hlW := h1.lt
    have hlo9 : w2.heap.size ≤ W.heap.size := by omega
    have hnew : ∀ b, (New W.heap.size w9 b ∧ ∃ o, w9.heap[b]? = some o ∧ o.isCells = true) → Sol w2.heap.size w3.heap.size ((((w9.setCell ⟨w3.heap.size, 0, none⟩ (.int .i64 5)).setCell ⟨w3.heap.size, 1, none⟩ (.int .i64 0)).setCell ⟨w3.heap.size, 2, none⟩ (.string dot)).setCell ⟨w3.heap.size, 3, none⟩ (.slice (some ⟨g, 0, none⟩) 2 2)) b ∧ ((((w9.setCell ⟨w3.heap.size, 0, none⟩ (.int .i64 5)).setCell ⟨w3.heap.size, 1, none⟩ (.int .i64 0)).setCell ⟨w3.heap.size, 2, none⟩ (.string dot)).setCell ⟨w3.heap.size, 3, none⟩ (.slice (some ⟨g, 0, none⟩) 2 2)).heap[b]? = w9.heap[b]? := fun b ⟨⟨b1, b2⟩, o, ho, hc⟩ => by
      have e : ((((w9.setCell ⟨w3.heap.size, 0, none⟩ (.int .i64 5)).setCell ⟨w3.heap.size, 1, none⟩ (.int .i64 0)).setCell ⟨w3.heap.size, 2, none⟩ (.string dot)).setCell ⟨w3.heap.size, 3, none⟩ (.slice (some ⟨g, 0, none⟩) 2 2)).heap[b]? = w9.heap[b]? := heap_four (by omega) _ _ _ _
      exact ⟨⟨⟨by omega, by simp; omega, by omega⟩, o, e.trans ho, hc⟩, e⟩
    have hold : ∀ b, Sol w2.heap.size w3.heap.size W b → Sol w2.heap.size w3.heap.size ((((w9.setCell ⟨w3.heap.size, 0, none⟩ (.int .i64 5)).setCell ⟨w3.heap.size, 1, none⟩ (.int .i64 0)).setCell ⟨w3.heap.size, 2, none⟩ (.string dot)).setCell ⟨w3.heap.size, 3, none⟩ (.slice (some ⟨g, 0, none⟩) 2 2)) b ∧ ((((w9.setCell ⟨w3.heap.size, 0, none⟩ (.int .i64 5)).setCell ⟨w3.heap.size, 1, none⟩ (.int .i64 0)).setCell ⟨w3.heap.size, 2, none⟩ (.string dot)).setCell ⟨w3.heap.size, 3, none⟩ (.slice (some ⟨g, 0, none⟩) 2 2)).heap[b]? = W.heap[b]? := fun b ⟨⟨b1, b2, b3⟩, o, ho, hc⟩ => by
      have e : ((((w9.setCell ⟨w3.heap.size, 0, none⟩ (.int .i64 5)).setCell ⟨w3.heap.size, 1, none⟩ (.int .i64 0)).setCell ⟨w3.heap.size, 2, none⟩ (.string dot)).setCell ⟨w3.heap.size, 3, none⟩ (.slice (some ⟨g, 0, none⟩) 2 2)).heap[b]? = W.heap[b]? := (heap_four b3 _ _ _ _).trans (Below.block hC b b2)
      exact ⟨⟨⟨b1, by simp; omega, b3⟩, o, e.trans ho, hc⟩, e⟩
    have hT1 := IsP.map hnew _ _ (IsP.solid _ _ e4.2)
    have hT2 := IsP.map hold _ _ h2
    have hgs := e3.lt
    have hgx : Sol w2.heap.size w3.heap.size ((((w9.setCell ⟨w3.heap.size, 0, none⟩ (.int .i64 5)).setCell ⟨w3.heap.size, 1, none⟩ (.int .i64 0)).setCell ⟨w3.heap.size, 2, none⟩ (.string dot)).setCell ⟨w3.heap.size, 3, none⟩ (.slice (some ⟨g, 0, none⟩) 2 2)) g := (hnew g ⟨⟨e2, hgs⟩, _, e3, rfl⟩).1
    have e3' : Box ((((w9.setCell ⟨w3.heap.size, 0, none⟩ (.int .i64 5)).setCell ⟨w3.heap.size, 1, none⟩ (.int .i64 0)).setCell ⟨w3.heap.size, 2, none⟩ (.string dot)).setCell ⟨w3.heap.size, 3, none⟩ (.slice (some ⟨g, 0, none⟩) 2 2)) g #[v0, v1, v2, v3, .int .i64 ok, .int .i64 on, .string os, .slice oa om oc] 25 := (heap_four (by omega) _ _ _ _).trans e3
    have hTn : IsP (Sol w2.heap.size w3.heap.size ((((w9.setCell ⟨w3.heap.size, 0, none⟩ (.int .i64 5)).setCell ⟨w3.heap.size, 1, none⟩ (.int .i64 0)).setCell ⟨w3.heap.size, 2, none⟩ (.string dot)).setCell ⟨w3.heap.size, 3, none⟩ (.slice (some ⟨g, 0, none⟩) 2 2))) ((((w9.setCell ⟨w3.heap.size, 0, none⟩ (.int .i64 5)).setCell ⟨w3.heap.size, 1, none⟩ (.int .i64 0)).setCell ⟨w3.heap.size, 2, none⟩ (.string dot)).setCell ⟨w3.heap.size, 3, none⟩ (.slice (some ⟨g, 0, none⟩) 2 2)) (listT ((pre ++ [(⟨(d, .node k' n' s' ts', _), hT', hTx⟩ : Bk w.heap.size w)]).map Bk.tr).reverse (.node k n s ts)) (.agg #[.int .i64 5, .int .i64 0, .string dot, .slice (some ⟨g, 0, none⟩) 2 2]) := by
      rw [List.map_append, List.reverse_append]
      refine IsP.mk (l := [.node k' n' s' ts', _]) (by unfold okI; omega) (by unfold okI; omega) (by decide) (Nat.le_refl _) (by unfold maxLen; simp) ?_
      unfold IsPL
      refine ⟨g, 0, v0, v1, v2, v3, rfl, hgx, e3'.cell 0, e3'.cell 1, e3'.cell 2, e3'.cell 3, hT1, ?_⟩
      unfold IsPL
      exact ⟨g, 4, _, _, _, _, rfl, hgx, e3'.cell 4, e3'.cell 5, e3'.cell 6, e3'.cell 7, hT2, IsPL.nil⟩
    have hI := ListInv.own (B := w.heap.size) (w := w) (lo := w2.heap.size) (ob := w3.heap.size) (R := .node k n s ts) (n₀ := w.heap.size) (W₀ := w) (Nat.le_refl _)
    have hI9 : ListInv w w2.heap.size w3.heap.size (.node k n s ts) (pre ++ [(⟨(d, .node k' n' s' ts', _), hT', hTx⟩ : Bk w.heap.size w)]) ((((w9.setCell ⟨w3.heap.size, 0, none⟩ (.int .i64 5)).setCell ⟨w3.heap.size, 1, none⟩ (.int .i64 0)).setCell ⟨w3.heap.size, 2, none⟩ (.string dot)).setCell ⟨w3.heap.size, 3, none⟩ (.slice (some ⟨g, 0, none⟩) 2 2)) :=
      ⟨5, 0, dot, some ⟨g, 0, none⟩, 2, 2, p1.four _ _ _ _, hTn, (((((h3.keep hC).other (by omega) 0 _).other (by omega) 1 _).other (by omega) 2 _).other (by omega) 3 _), below_four (h4.trans hbC) (by omega) _ _ _ _⟩
    have HF := Lib.hid (And.intro hKF (And.intro hKB hI9))
    clear hKF hKB hI9 hI hTn e3' hgx hT1 hT2 hold hnew e3 e4 h2 h3 hC
    gi_wp2_with fail
    exact ⟨HF.out.1.from _, HF.out.2.1, HF.out.2.2⟩
  · rintro D xs' W hDle hxs ⟨ok, on, os, oa, om, oc, h1, h2, h3, h4⟩ hK
    rw [hxs, List.reverse_reverse] at h2
    clear hxs
    have hq := IsP.toT (n₀ := W.heap.size) (fun _ h => h.1.2.1) _ _ h2
    have HQ := Lib.hid hq
    have hdp : (listT l (.node k n s ts)).deep ≤ 999999999 := by
      have := listT_deep (isB_size HX.out.2.2.1).2 l (fun t h => (isB_size (HX.out.2.2.2.2 t h)).2)
      omega
    obtain ⟨zk, zn, zs, za, zm, zc, hz⟩ : ∃ zk zn zs za zm zc, limV (listT l (.node k n s ts)) (.agg #[.int .i64 ok, .int .i64 on, .string os, .slice oa om oc]) = .agg #[.int .i64 zk, .int .i64 zn, .string zs, .slice za zm zc] := by
      unfold limV
      split
      · exact ⟨_, _, _, _, _, _, rfl⟩
      · exact ⟨_, _, _, _, _, _, rfl⟩
    have HZ := Lib.hid hz
    have q0 := h1.cell 0
    have q1 := h1.cell 1
    have q2 := h1.cell 2
    have q3 := h1.cell 3
    have l8 := h1.lt
    simp only [List.getElem?_toArray, List.getElem?_cons_succ, List.getElem?_cons_zero] at q0 q1 q2 q3
    have H2 := Lib.hid h2
    clear h2 hq hz h1
    gi_wp2_with fail
    refine CallsIn.mono (callsIn_of_calls hF (limited_any _ _ _ HQ.out hdp)) ?_
    rintro e W1 ⟨rfl, B⟩
    rw [HZ.out]
    have h5 := h3.keep B
    have hB6 := h4.trans (B.mono h4.size)
    have hKD : W1.heap[D]? = some (.deferred (some [])) := (B.block D (Array.getElem?_eq_some_iff.1 hK).1).trans hK
    have hQ1 := HQ.out.up B B.size
    have u0 := h5.cell 0
    have u1 := h5.cell 1
    have u2 := h5.cell 2
    have u3 := h5.cell 3
    have g0 := h5.frozen 0
    have g1 := h5.frozen 1
    have g2 := h5.frozen 2
    have g3 := h5.frozen 3
    have l5 := h5.lt
    simp only [List.getElem?_toArray, List.getElem?_cons_succ, List.getElem?_cons_zero] at u0 u1 u2 u3
    have HQ1 := Lib.hid hQ1
    have HB6 := Lib.hid hB6
    have HBS := Lib.hid B
    have HK := Lib.hid hK
    clear B h3 h4 hK hQ1 hB6 q0 q1 q2 q3
    gi_wp2_with fail
    have h2w := HW2.out
    have hKF := ((((KeepsOthers.setCell W1 ⟨w.heap.size + 1, 0, none⟩ (.int .i64 zk)).trans (KeepsOthers.setCell _ ⟨w.heap.size + 1, 1, none⟩ (.int .i64 zn))).trans (KeepsOthers.setCell _ ⟨w.heap.size + 1, 2, none⟩ (.string zs))).trans (KeepsOthers.setCell _ ⟨w.heap.size + 1, 3, none⟩ (.slice za zm zc))).same D _ hKD rfl
    refine ⟨by simp, .inl ⟨_, _, rfl, run_takeDeferred hKF, ?_⟩⟩
    have hDn := h5.ne_deferred hKD
    have z := Box.put (h5.four (.int .i64 zk) (.int .i64 zn) (.string zs) (.slice za zm zc)) hDn (.deferred none)
    have zB := (below_four HB6.out (by omega) (.int .i64 zk) (.int .i64 zn) (.string zs) (.slice za zm zc) (B := w.heap.size + 1)).trans (belowK_b (w := w) (Nat.le_refl _) _ D _ (.deferred none) (by simp at hDle; omega) hKF rfl rfl)
    have zH : ∀ b, Sol w2.heap.size w3.heap.size W b → b < (World.putObj ((((W1.setCell ⟨w.heap.size + 1, 0, none⟩ (.int .i64 zk)).setCell ⟨w.heap.size + 1, 1, none⟩ (.int .i64 zn)).setCell ⟨w.heap.size + 1, 2, none⟩ (.string zs)).setCell ⟨w.heap.size + 1, 3, none⟩ (.slice za zm zc)) D (.deferred none)).heap.size ∧ (World.putObj ((((W1.setCell ⟨w.heap.size + 1, 0, none⟩ (.int .i64 zk)).setCell ⟨w.heap.size + 1, 1, none⟩ (.int .i64 zn)).setCell ⟨w.heap.size + 1, 2, none⟩ (.string zs)).setCell ⟨w.heap.size + 1, 3, none⟩ (.slice za zm zc)) D (.deferred none)).heap[b]? = W.heap[b]? := fun b ⟨⟨b1, b2, b3⟩, o, ho, hc⟩ => by
      have hbD : b ≠ D := fun e => by subst e; rw [HK.out] at ho; cases ho; cases hc
      refine ⟨by have := HBS.out.size; simp; omega, ?_⟩
      rw [World.putObj_heap_other hbD, heap_four (by omega)]
      exact HBS.out.block b b2
    have zT := IsP.toT (n₀ := (World.putObj ((((W1.setCell ⟨w.heap.size + 1, 0, none⟩ (.int .i64 zk)).setCell ⟨w.heap.size + 1, 1, none⟩ (.int .i64 zn)).setCell ⟨w.heap.size + 1, 2, none⟩ (.string zs)).setCell ⟨w.heap.size + 1, 3, none⟩ (.slice za zm zc)) D (.deferred none)).heap.size) (fun _ h => h) _ _ (IsP.map (q := fun b => b < (World.putObj ((((W1.setCell ⟨w.heap.size + 1, 0, none⟩ (.int .i64 zk)).setCell ⟨w.heap.size + 1, 1, none⟩ (.int .i64 zn)).setCell ⟨w.heap.size + 1, 2, none⟩ (.string zs)).setCell ⟨w.heap.size + 1, 3, none⟩ (.slice za zm zc)) D (.deferred none)).heap.size) zH _ _ H2.out)
    have y0 := z.cell 0
    have y1 := z.cell 1
    have y2 := z.cell 2
    have y3 := z.cell 3
    clear zH z hKF
    generalize World.putObj _ D (.deferred none) = FW at *
    refine ⟨.tuple #[.agg #[.int .i64 zk, .int .i64 zn, .string zs, .slice za zm zc], .int .i64 (limE (listT l (.node k n s ts)))], ?_, zB, zk, zn, zs, za, zm, zc, rfl, fun hy => ?_⟩
    · simp at y0 y1 y2 y3
      simp [results, Tryd.results53, go_sem, y0, y1, y2, y3]
    · have := HZ.out
      rw [limV, if_pos hy] at this
      rw [← this]
      exact zT
end Go.Proofs.YtckoecmdaefoiaaDoor
