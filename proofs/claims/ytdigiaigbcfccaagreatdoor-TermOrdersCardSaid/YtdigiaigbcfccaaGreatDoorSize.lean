import Derived.RangeFuncBox
import Derived.Test.YtdigiaigbcfccaaGreatDoorVisit
import Derived.Test.YtdigiaigbcfccaaGreatDoorMono
namespace Go.Proofs.YtdigiaigbcfccaaGreatDoor
open Go.RowKit Go Go.Shelf

attribute [local go_sem] Oper.semAt_some
attribute [local go_sem] monoUpon Yld.says

/-- The greatest of the first numbers; 0, if there is none. -/
def topD (l : List (Int × Tr)) : Int := l.foldl (fun m x => max m x.1) 0
theorem topD_snoc (l : List (Int × Tr)) (x : Int × Tr) : topD (l ++ [x]) = max (topD l) x.1 := by simp [topD]

theorem foldl_max (l : List (Int × Tr)) : ∀ m : Int, l.foldl (fun m x => max m x.1) m = max m (l.foldl (fun m x => max m x.1) m) := by
  induction l with
  | nil => intro m; simp
  | cons x xs ih => intro m; simp only [List.foldl_cons]; rw [ih (max m x.1)]; omega
mutual
theorem foldl_preT : ∀ (T : Tr) (d m : Int), 0 ≤ d → (preT d T).foldl (fun m x => max m x.1) m = max m (d + T.deep - 1)
  | .node k n s l, d, m, hd => by
    simp only [preT, List.foldl_cons, Tr.deep]
    rw [foldl_preL l (d + 1) (max m d) (by omega)]
    cases l with
    | nil => simp [deepL]
    | cons t ts =>
      have : 1 ≤ t.deep := by cases t; simp [Tr.deep]
      simp only [deepL, List.cons_ne_nil, if_false]
      omega
theorem foldl_preL : ∀ (l : List Tr) (d m : Int), 0 ≤ d → (preL d l).foldl (fun m x => max m x.1) m = if l = [] then m else max m (d + deepL l - 1)
  | [], d, m, hd => by simp [preL]
  | t :: ts, d, m, hd => by
    simp only [preL, List.foldl_append, deepL, List.cons_ne_nil, if_false]
    rw [foldl_preT t d m hd, foldl_preL ts d _ hd]
    cases ts with
    | nil => simp [deepL]
    | cons u us => simp only [List.cons_ne_nil, if_false]; omega
end
theorem topD_preT (T : Tr) : topD (preT 1 T) = T.deep := by
  unfold topD
  rw [foldl_preT T 1 0 (by omega)]
  have : 1 ≤ T.deep := by cases T; simp [Tr.deep]
  omega

theorem KT.setBox {n₀ B : Nat} {A W : World} {t : TypeId} {v : Value} (h : KT n₀ A W) (hb : Boxed W B t v) (ht : t ≠ 24) (hn : n₀ ≤ B) (u : Value) : KT n₀ A (W.setCell ⟨B, 0, none⟩ u) :=
  ⟨h.below.setCell (p := ⟨B, 0, none⟩) hn u, fun k c fr hk => by
    have h1 := h.terms k c fr hk
    by_cases e : k = B
    · subst e
      have h2 : W.heap[k]? = some (.cells #[v] t (0, 0)) := hb
      rw [h1] at h2
      cases h2
      exact absurd rfl ht
    · exact (Below.heap_setCell W ⟨B, 0, none⟩ u k e).trans h1⟩

theorem callsIn_of_calls {F : Fence} (hF : Fence.wide = F) {n : Nat} {P : Program} {f : FuncId} {args : Array Value} {w : World} {R : Ending → World → Prop} (h : Calls P f args w R) : CallsIn F n P f args w R := by
  subst hF; exact callsIn_wide.2 h

theorem boxed_at {W : World} {B : Nat} {t : TypeId} {v : Value} (h : W.heap.size = B) : Boxed (W.alloc (.cells #[v] t)) B t v := by subst h; exact Boxed.new _ _ _
theorem block_at {W : World} {B : Nat} {o : Obj} (h : W.heap.size = B) : (W.alloc o).heap[B]? = some o := by subst h; exact World.alloc_heap_new _ _

/-- A range over nodes(t). -/
theorem range_nodes {F : Fence} {n : Nat} (hd : F.depth = none) (hf : ∀ f, F.fn f) (hro : F.round = none) (h1 : 1 ≤ n) {g : Operand} {ps : Array Tmp} {assign body : Code} {Q : Exit → Act → World → Prop} {a : Act} {w : World}
    (Bt n₀ : Nat) (T : Tr) (v : Value) (W₀ : World) (hg : a.eval g = .func (.func 68) #[] #[.pointer (some ⟨Bt, 0, none⟩)]) (hBt : w.heap[Bt]? = some (.cells v.cells 24 (0, 0))) (hBW : Below n₀ W₀ w) (hn₀ : n₀ ≤ w.heap.size)
    (hT : IsT n₀ W₀ T v) (hdeep : T.deep ≤ 999999999) (hps : ps.size = 2)
    (I : List (Nd n₀ W₀) → World → Prop) (Ix : Code → List (Nd n₀ W₀) → World → Prop) (hI : OwnFrom w.heap.size I) (hIx : ∀ c, OwnFrom w.heap.size (Ix c)) (h0 : I [] w)
    (h : ∃ a₁ : Nd n₀ W₀ → Act, (∀ (l : Nat) (x : Nd n₀ W₀) (W : World) (K : Act → World → Prop), K (a₁ x) W →
        assign.wpIn (F.inRound l) (n - 1 - 1) Tryz.prog (Exit.then K (fun _ _ _ => False)) { tmps := (ps.zip x.encs).foldl (fun t (p, v) => t.setIfInBounds p v) a.tmps, defers := [] } W) ∧
      (∀ (l : Nat) (pre : List (Nd n₀ W₀)) (x : Nd n₀ W₀) (W : World), I pre W → pre.length < T.size → body.wpIn (F.inRound l) (n - 1 - 1) Tryz.prog (ownPostG w.heap.size (KT n₀) I Ix (pre ++ [x]) W) (a₁ x) W) ∧
      (∀ (D : Nat) (xs : List (Nd n₀ W₀)) (W : World), w.heap.size ≤ D → xs.map Nd.fg = preT 1 T → I xs W → W.heap[D]? = some (.deferred (some [])) → Q .normal { a with defers := { target := .collected D, args := #[] } :: a.defers } W) ∧
      (∀ (D : Nat) (c : Code) (pre : List (Nd n₀ W₀)) (W : World), w.heap.size ≤ D → pre.map Nd.fg <+: preT 1 T → Ix c pre W → W.heap[D]? = some (.deferred (some [])) → c.wpIn F n Tryz.prog Q { a with defers := { target := .collected D, args := #[] } :: a.defers } W)) :
    (Code.rangeFunc g ps assign body).wpIn F n Tryz.prog Q a w := by
  obtain ⟨a₁, hA, hB, hD, hS⟩ := h
  exact wpIn_rangeFunc_ownG hro h1 (gf := 68) (lb := #[.pointer (some ⟨Bt, 0, none⟩)]) hg (hf _) (enters_of Tryz.func68 (by kernel_rfl) rfl)
    (nodes_stops F hd (n - 1) hf hro Bt n₀ T v W₀ w hBt hBW hn₀ hT hdeep) KT.trans (KT.bookkeeping hn₀) (Below.refl _ _) (fun x => by rw [hps]; rfl) I Ix hI hIx h0 a₁ hA hB hD hS

set_option maxRecDepth 100000 in
set_option maxHeartbeats 1000000 in
theorem size_any (T : Tr) (v : Value) (w : World) (hT : IsT w.heap.size w T v) (hs : T.size ≤ 1000000000) (hdp : T.deep ≤ 999999999) :
    Calls Tryz.prog 21 #[v] w fun e W' => e = .returned (.tuple #[.int .i64 T.size, .int .i64 T.deep]) ∧ Below w.heap.size w W' := by
  refine (callsIn_wide (n := 9)).1 ?_
  generalize hF : Fence.wide = F
  have hd : F.depth = none := by subst hF; rfl
  have hf : ∀ f, F.fn f := fun f => by subst hF; trivial
  have hro : F.round = none := by subst hF; rfl
  cases hTc : T with
  | node k nn s ts =>
  subst hTc
  have hT' := hT
  obtain ⟨a, c, rfl, _⟩ := hT'.open
  refine callsIn_of_wp_marks Tryz.func21 rfl (hf _) ?_ hro
  simp only [Tryz.ntmps21, List.size_toArray, List.length_cons, List.length_nil, Nat.reduceAdd, Nat.reduceSub, Array.replicate_succ, Array.replicate_zero, List.push_toArray, List.append_toArray, List.nil_append, List.cons_append]
  gi_wp2_with fail
  refine (CallsIn.mono (callsIn_of_calls hF (nodes_any _ k nn s a ts.length c rfl _)) ?_)
  rintro e w' ⟨rfl, rfl⟩
  gi_wp2_with fail
  have hsz := topD_preT (.node k nn s ts)
  have hln := preT_length 1 (.node k nn s ts)
  have Hsz := Lib.hid hsz
  have Hln := Lib.hid hln
  clear hsz hln
  refine range_nodes hd hf hro (by omega) (w.heap.size + 1 + 1 + 1) w.heap.size (.node k nn s ts) (.agg #[.int .i64 k, .int .i64 nn, .string s, .slice a ts.length c]) w rfl (block_at (by simp)) (below_a4 (Nat.le_refl _) _ _ _ _) (by simp; omega) hT hdp rfl
    (fun ys W => Boxed W (w.heap.size + 1) 3 (.int .i64 ys.length) ∧ Boxed W (w.heap.size + 1 + 1) 3 (.int .i64 (topD (ys.map Nd.fg))) ∧ Below w.heap.size w W)
    (fun _ _ _ => False)
    (((boxed_own _ _ _).from _).and (((boxed_own _ _ _).from _).and (ownFrom_below (Nat.le_refl _) (by simp; omega))))
    (fun _ _ _ _ _ hs _ _ => hs)
    ⟨((boxed_at (by simp)).alloc _).alloc _, (boxed_at (by simp)).alloc _, below_a4 (Nat.le_refl _) _ _ _ _⟩ ?_
  apply Exists.intro
  apply And.intro
  · intro l x W K hK
    simp only [Nd.encs]
    gi_wp2_with fail
    exact hK
  refine ⟨?_, ?_, ?_⟩
  · rintro l pre x W ⟨b1, b2, hB⟩ hpre
    have hm : topD ((pre ++ [x]).map Nd.fg) = max (topD (pre.map Nd.fg)) x.1.1 := by rw [List.map_append]; exact topD_snoc _ _
    have Hm := Lib.hid hm
    clear hm
    have hl1 : pre.length < 1000000000 := by omega
    have c1 := b1.cell
    have c2 := b2.cell
    have f1 := b1.frozen
    have f2 := b2.frozen
    gi_wp2_with fail
    all_goals
      refine ⟨((KeepsOthers.setCell _ _ _).trans (KeepsOthers.setCell _ _ _)).from _, ((KT.refl _ _).setBox b1 (by decide) (by omega) _).setBox (b2.other (by omega) _) (by decide) (by omega) _, ?_, ?_,
        (hB.setCell (p := ⟨w.heap.size + 1, 0, none⟩) (by simp) _).setCell (p := ⟨w.heap.size + 1 + 1, 0, none⟩) (by simp; omega) _⟩
      · have e : (((pre ++ [x]).length : Nat) : Int) = pre.length + 1 := by simp
        rw [e]
        exact (b1.set _).other (by omega) _
      · rw [Hm.out]
        first
          | (rw [show max (topD (pre.map Nd.fg)) x.1.1 = x.1.1 from by omega]; exact (b2.other (by omega) _).set _)
          | (rw [show max (topD (pre.map Nd.fg)) x.1.1 = topD (pre.map Nd.fg) from by omega]; exact (b2.other (by omega) _).set _)
  · rintro D xs W hDle hxs ⟨b1, b2, hB⟩ hK
    have e1 : ((xs.length : Nat) : Int) = ((Tr.node k nn s ts).size : Nat) := by
      have := congrArg List.length hxs
      rw [Hln.out, List.length_map] at this
      omega
    have e2 : topD (xs.map Nd.fg) = ((Tr.node k nn s ts).deep : Nat) := by rw [hxs, Hsz.out]
    rw [e1] at b1
    rw [e2] at b2
    clear e1 e2 hxs
    have c1 := b1.cell
    have c2 := b2.cell
    have l1 := b1.lt
    have l2 := b2.lt
    subst hF
    gi_wp2_with fail
    refine wpIn_wide.2 ?_
    apply wp_region_mono [.det _, .det _, .det _, .det _] (by kernel_rfl) (by kernel_rfl)
    rotate_left
    · iterate 4 (
        refine wpM_step (fun K hK => ?_)
        go_simp
        apply And.intro
        · intro w' hC _
          have q1 := hC.old.1
          have hbs := hC.old.2.2
          clear hC
          go_simp
          exact ⟨Ext.refl _, rfl⟩
        refine nextM_det (hK _ _ ?_)
        clear hK K)
      refine wpM_nil ?_
      intro w1 hC1 _
      have hK1 := (Below.block hC1 D (Array.getElem?_eq_some_iff.1 hK).1).trans hK
      gi_wp2_with fail
      refine ⟨by simp, .inl ⟨_, _, rfl, run_takeDeferred hK1, ?_⟩⟩
      exact ⟨_, results_tmp2 rfl _ _ _, rfl, (hB.trans (Below.mono hC1 hB.size)).trans (belowK_b (w := w) (Nat.le_refl _) w1 D _ _ (by simp at hDle; omega) hK1 rfl rfl)⟩
    · intro y hy
      simp only [List.mem_cons, List.not_mem_nil, or_false] at hy
      rcases hy with rfl | rfl | rfl | rfl <;> trivial
  · rintro D c pre W _ _ h _
    exact h.elim
end Go.Proofs.YtdigiaigbcfccaaGreatDoor
