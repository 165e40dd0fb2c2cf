import Derived.Test.YthfciekhmbfmfaaGreatDoorVisit
namespace Go.Proofs.YthfciekhmbfmfaaGreatDoor
open Go.RowKit Go Go.Shelf

attribute [local go_sem] Oper.semAt_some

def Tr.okNode : Tr → Bool
  | .node k n s l => nodeB k n s l.length
def nodesB (T : Tr) : Bool := (preT 1 T).all (fun x => x.2.okNode)
/-- The tree is a term. -/
def isB (T : Tr) : Bool := decide (T.size ≤ 4000) && decide (T.deep ≤ 600) && nodesB T

theorem prefix_size {T : Tr} {q : List (Int × Tr)} (h : q <+: preT 1 T) : q.length ≤ T.size := by
  have := h.length_le; rwa [preT_length] at this
theorem foldl_le (l : List (Int × Tr)) : ∀ m : Int, m ≤ l.foldl (fun m x => max m x.1) m := by
  induction l with
  | nil => intro m; simp
  | cons x xs ih => intro m; have := ih (max m x.1); simp only [List.foldl_cons]; omega
theorem prefix_top {T : Tr} {q : List (Int × Tr)} (h : q <+: preT 1 T) : topD q ≤ T.deep := by
  obtain ⟨r, hr⟩ := h
  rw [← topD_preT T, ← hr]
  unfold topD
  rw [List.foldl_append]
  exact foldl_le _ _
theorem len_snoc {α : Type} (l : List α) (x : α) : (l ++ [x]).length = l.length + 1 := by simp
theorem isB_of {T : Tr} {q : List (Int × Tr)} {x : Int × Tr} (h : (q ++ [x]) <+: preT 1 T) (hbad : 4000 < ((q ++ [x]).length : Int) ∨ 600 < topD (q ++ [x]) ∨ x.2.okNode = false) : isB T = false := by
  have h1 := prefix_size h
  have h2 := prefix_top h
  rcases hbad with hb | hb | hb
  · have : ¬ T.size ≤ 4000 := by omega
    simp [isB, this]
  · have : ¬ T.deep ≤ 600 := by omega
    simp [isB, this]
  · have : nodesB T = false := by
      unfold nodesB
      rw [List.all_eq_false]
      exact ⟨x, h.subset (by simp), by simp [hb]⟩
    simp [isB, this]

def measN (T : Tr) : Int := if isB T then (T.size : Int) else 0
def measD (T : Tr) : Int := if isB T then (T.deep : Int) else 0

/-- A range over nodes(t) whose second variable lies in a box of its own in each round. -/
theorem range_nodesH {F : Fence} {n : Nat} (hd : F.depth = none) (hf : ∀ f, F.fn f) (hro : F.round = none) (h1 : 1 ≤ n) {g : Operand} {ps : Array Tmp} {assign body : Code} {Q : Exit → Act → World → Prop} {a : Act} {w : World}
    (Bt n₀ : Nat) (T : Tr) (v : Value) (W₀ : World) (hg : a.eval g = .func (.func 169) #[] #[.pointer (some ⟨Bt, 0, none⟩)]) (hBt : w.heap[Bt]? = some (.cells v.cells 31 (0, 0))) (hBW : Below n₀ W₀ w) (hn₀ : n₀ ≤ w.heap.size)
    (hT : IsT n₀ W₀ T v) (hdeep : T.deep ≤ 999999999) (hps : ps.size = 2)
    (I : List (Nd n₀ W₀) → World → Prop) (Ix : Code → List (Nd n₀ W₀) → World → Prop) (hI : OwnFrom w.heap.size I) (hIx : ∀ c, OwnFrom w.heap.size (Ix c)) (h0 : I [] w)
    (h : ∃ a₂ : Int → Value → Nat → Act, (∀ (l : Nat) (pre : List (Nd n₀ W₀)) (x : Nd n₀ W₀) (W : World) (K : Act → World → Prop), I pre W →
        (∀ Bx W', KeepsFrom w.heap.size W W' → KT n₀ W W' → I pre W' → W'.heap[Bx]? = some (.cells x.1.2.2.cells 31 (0, 0)) → K (a₂ x.1.1 x.1.2.2 Bx) W') →
        assign.wpIn (F.inRound l) (n - 1 - 1) Tryz.prog (Exit.then K (fun _ _ _ => False)) { tmps := (ps.zip x.encs).foldl (fun t (p, v) => t.setIfInBounds p v) a.tmps, defers := [] } W) ∧
      (∀ (l : Nat) (pre : List (Nd n₀ W₀)) (x : Nd n₀ W₀) (Bx : Nat) (W : World), I pre W → W.heap[Bx]? = some (.cells x.1.2.2.cells 31 (0, 0)) → pre.length < T.size → body.wpIn (F.inRound l) (n - 1 - 1) Tryz.prog (ownPostG w.heap.size (KT n₀) I Ix (pre ++ [x]) W) (a₂ x.1.1 x.1.2.2 Bx) W) ∧
      (∀ (D : Nat) (xs : List (Nd n₀ W₀)) (W : World), w.heap.size ≤ D → xs.map Nd.fg = preT 1 T → I xs W → W.heap[D]? = some (.deferred (some [])) → Q .normal { a with defers := { target := .collected D, args := #[] } :: a.defers } W) ∧
      (∀ (D : Nat) (c : Code) (pre : List (Nd n₀ W₀)) (W : World), w.heap.size ≤ D → pre.map Nd.fg <+: preT 1 T → Ix c pre W → W.heap[D]? = some (.deferred (some [])) → c.wpIn F n Tryz.prog Q { a with defers := { target := .collected D, args := #[] } :: a.defers } W)) :
    (Code.rangeFunc g ps assign body).wpIn F n Tryz.prog Q a w := by
  obtain ⟨a₂, hA, hB, hD, hS⟩ := h
  exact wpIn_rangeFunc_ownH hro h1 (gf := 169) (lb := #[.pointer (some ⟨Bt, 0, none⟩)]) hg (hf _) (enters_of Tryz.func169 (by kernel_rfl) rfl)
    (nodes_stops F hd (n - 1) hf hro Bt n₀ T v W₀ w hBt hBW hn₀ hT hdeep) KT.trans (KT.bookkeeping hn₀) (Below.refl _ _) (fun x => by rw [hps]; rfl) I Ix hI hIx h0
    (fun x a' W => ∃ Bx, W.heap[Bx]? = some (.cells x.1.2.2.cells 31 (0, 0)) ∧ a' = a₂ x.1.1 x.1.2.2 Bx)
    (fun x a' _ X Y row hs hg hrow => by
      obtain ⟨Bx, h2, h3⟩ := hs
      refine ⟨Bx, (hg.block Bx (Array.getElem?_eq_some_iff.1 h2).1 (fun e => ?_)).trans h2, h3⟩
      obtain ⟨_, o, ho, hc⟩ := hrow Bx e.symm
      rw [h2] at ho
      cases ho
      cases hc)
    (fun l pre x W K hi hK => hA l pre x W K hi fun Bx W' h2 h3 h4 h5 => hK _ _ h2 h3 h4 ⟨Bx, h5, rfl⟩)
    (fun l pre x a' W _ _ hi ⟨Bx, h2, h3⟩ hN => by subst h3; exact hB l pre x Bx W hi h2 hN) hD hS

theorem KT.of_below {n₀ : Nat} {A B : World} (h : Below A.heap.size A B) (hn : n₀ ≤ A.heap.size) : KT n₀ A B :=
  ⟨h.mono hn, fun k _ _ hk => (h.block k (Array.getElem?_eq_some_iff.1 hk).1).trans hk⟩
theorem KeepsOthers.of_below {A B : World} (h : Below A.heap.size A B) : KeepsOthers A B := ⟨h.size, fun k _ hk _ => (h.block k (Array.getElem?_eq_some_iff.1 hk).1).trans hk⟩

/-- A box of an extent, or of anything else that is no term. -/
def Box (W : World) (B : Nat) (cs : Array Value) (t : TypeId) : Prop := W.heap[B]? = some (.cells cs t (0, 0))
theorem Box.own {β : Type} (B : Nat) (t : TypeId) (f : β → Array Value) : Own (fun s W => Box W B (f s) t) := fun s X Y row hs hg hrow => by
  refine (hg.block B (Array.getElem?_eq_some_iff.1 hs).1 (fun e => ?_)).trans hs
  obtain ⟨o, ho, hc⟩ := hrow B e.symm
  rw [show X.heap[B]? = _ from hs] at ho
  cases ho
  cases hc
theorem Box.lt {W : World} {B : Nat} {cs : Array Value} {t : TypeId} (h : Box W B cs t) : B < W.heap.size := (Array.getElem?_eq_some_iff.1 h).1
theorem Box.cell {W : World} {B : Nat} {cs : Array Value} {t : TypeId} (h : Box W B cs t) (i : Nat) : W.cell? ⟨B, i, none⟩ = cs[i]? := box_cell h i
theorem Box.frozen {W : World} {B : Nat} {cs : Array Value} {t : TypeId} (h : Box W B cs t) (i : Nat) : W.frozen? ⟨B, i, none⟩ = false := by simp [World.frozen?, show W.heap[B]? = _ from h]
theorem Box.alloc {W : World} {B : Nat} {cs : Array Value} {t : TypeId} (h : Box W B cs t) (o : Obj) : Box (W.alloc o) B cs t := (Below.heap_alloc W o B h.lt).trans h
theorem Box.keep {W W' : World} {B : Nat} {cs : Array Value} {t : TypeId} (hb : Below W.heap.size W W') (h : Box W B cs t) : Box W' B cs t := (hb.block B h.lt).trans h
theorem Box.put {W : World} {B D : Nat} {cs : Array Value} {t : TypeId} (h : Box W B cs t) (hne : D ≠ B) (o : Obj) : Box (W.putObj D o) B cs t := (World.putObj_heap_other (Ne.symm hne)).trans h
theorem Box.ne_deferred {W : World} {B D : Nat} {cs : Array Value} {t : TypeId} {o : Option (List Deferred)} (h : Box W B cs t) (hK : W.heap[D]? = some (.deferred o)) : D ≠ B := fun e => by
  subst e
  rw [show W.heap[D]? = _ from h] at hK
  cases hK
theorem Box.at {W : World} {B : Nat} {cs : Array Value} {t : TypeId} (h : W.heap.size = B) : Box (W.alloc (.cells cs t)) B cs t := by subst h; exact World.alloc_heap_new _ _
theorem Box.set {W : World} {B : Nat} {cs : Array Value} {t : TypeId} (h : Box W B cs t) (i : Nat) (v : Value) : Box (W.setCell ⟨B, i, none⟩ v) B (cs.setIfInBounds i v) t := by
  obtain ⟨hlt, hk⟩ := Array.getElem?_eq_some_iff.1 h
  show (W.heap.modify B _)[B]? = _
  rw [Array.getElem?_eq_getElem (by rw [Array.size_modify]; exact hlt), Array.getElem_modify_self, hk]
  rfl
theorem Box.other {W : World} {B B' : Nat} {cs : Array Value} {t : TypeId} (h : Box W B cs t) (hne : B ≠ B') (i : Nat) (v : Value) : Box (W.setCell ⟨B', i, none⟩ v) B cs t := (Below.heap_setCell W ⟨B', i, none⟩ v B hne).trans h
theorem KT.setBx {n₀ B : Nat} {A W : World} {t : TypeId} {cs : Array Value} (h : KT n₀ A W) (hb : Box W B cs t) (ht : t ≠ 31) (hn : n₀ ≤ B) (i : Nat) (u : Value) : KT n₀ A (W.setCell ⟨B, i, none⟩ u) :=
  ⟨h.below.setCell (p := ⟨B, i, none⟩) hn u, fun k c fr hk => by
    have h1 := h.terms k c fr hk
    by_cases e : k = B
    · subst e
      have h2 : W.heap[k]? = some (.cells cs t (0, 0)) := hb
      rw [h1] at h2
      cases h2
      exact absurd rfl ht
    · exact (Below.heap_setCell W ⟨B, i, none⟩ u k e).trans h1⟩

set_option maxRecDepth 100000 in
set_option maxHeartbeats 2000000 in
theorem measure_any (T : Tr) (v : Value) (w : World) (hT : IsT w.heap.size w T v) (hdp : T.deep ≤ 999999999) :
    Calls Tryz.prog 168 #[v] w fun e W' => e = .returned (.tuple #[.agg #[.int .i64 (measN T), .int .i64 (measD T)], .bool (isB T)]) ∧ Below w.heap.size w W' := by
  refine (callsIn_wide (n := 9)).1 ?_
  generalize hF : Fence.wide = F
  have hd : F.depth = none := by subst hF; rfl
  have hf : ∀ f, F.fn f := fun f => by subst hF; trivial
  have hro : F.round = none := by subst hF; rfl
  cases hTc : T with
  | node k nn s ts =>
  subst hTc
  have hT' := hT
  obtain ⟨a, c, rfl, _⟩ := hT'.open
  refine callsIn_of_wp_marks Tryz.func168 rfl (hf _) ?_ hro
  simp only [Tryz.ntmps168, List.size_toArray, List.length_cons, List.length_nil, Nat.reduceAdd, Nat.reduceSub, Array.replicate_succ, Array.replicate_zero, List.push_toArray, List.append_toArray, List.nil_append, List.cons_append]
  gi_wp2_with fail
  refine (CallsIn.mono (callsIn_of_calls hF (nodes_any _ k nn s a ts.length c rfl _)) ?_)
  rintro e w' ⟨rfl, rfl⟩
  gi_wp2_with fail
  have hsz := topD_preT (.node k nn s ts)
  have hln := preT_length 1 (.node k nn s ts)
  have Hsz := Lib.hid hsz
  have Hln := Lib.hid hln
  clear hsz hln
  refine range_nodesH hd hf hro (by omega) (w.heap.size + 1 + 1 + 1 + 1) w.heap.size (.node k nn s ts) (.agg #[.int .i64 k, .int .i64 nn, .string s, .slice a ts.length c]) w rfl (block_at (by simp)) ((below_a4 (Nat.le_refl _) _ _ _ _).alloc (by simp; omega) _) (by simp; omega) hT hdp rfl
    (fun ys W => Box W (w.heap.size + 1 + 1 + 1) #[.int .i64 ys.length, .int .i64 (topD (ys.map Nd.fg))] 186 ∧ (ys.length ≤ 4000 ∧ topD (ys.map Nd.fg) ≤ 600 ∧ (ys.map Nd.fg).all (fun x => x.2.okNode) = true) ∧ Box W (w.heap.size + 1) #[.int .i64 0, .int .i64 0] 186 ∧ Box W (w.heap.size + 1 + 1) #[.bool false] 4 ∧ Below w.heap.size w W)
    (fun c ys W => c = .ret ∧ (∃ zs x, ys = zs ++ [x] ∧ (4000 < (ys.length : Int) ∨ 600 < topD (ys.map Nd.fg) ∨ (Nd.fg x).2.okNode = false)) ∧ Box W (w.heap.size + 1) #[.int .i64 0, .int .i64 0] 186 ∧ Box W (w.heap.size + 1 + 1) #[.bool false] 4 ∧ Below w.heap.size w W)
    (((Box.own _ _ _).from _).and (OwnFrom.and (fun _ _ _ _ h _ _ => h) (((Box.own _ _ (fun _ => _)).from _).and (((Box.own _ _ (fun _ => _)).from _).and (ownFrom_below (Nat.le_refl _) (by simp; omega))))))
    (fun c => OwnFrom.and (fun _ _ _ _ h _ _ => h) (OwnFrom.and (fun _ _ _ _ h _ _ => h) (((Box.own _ _ (fun _ => _)).from _).and (((Box.own _ _ (fun _ => _)).from _).and (ownFrom_below (Nat.le_refl _) (by simp; omega))))))
    ⟨(Box.at (by simp)).alloc _, ⟨by simp, by simp [topD], by simp⟩, (((Box.at (by simp)).alloc _).alloc _).alloc _, ((Box.at (by simp)).alloc _).alloc _, (below_a4 (Nat.le_refl _) _ _ _ _).alloc (by simp; omega) _⟩ ?_
  apply Exists.intro
  apply And.intro
  · rintro l pre ⟨⟨d, T', v'⟩, hT', hd'⟩ W K hI hK
    cases T' with
    | node k' n' s' ts' =>
    obtain ⟨a', c', rfl, _⟩ := hT'.open
    simp only [Nd.encs]
    gi_wp2_with fail
    have hblk := World.alloc_heap_new W (.cells #[.int .i64 k', .int .i64 n', .string s', .slice a' ts'.length c'] 31)
    obtain ⟨b1, b2, b3, b4, hB⟩ := hI
    have hKT := (KT.refl w.heap.size W).alloc hB.size (.cells #[.int .i64 k', .int .i64 n', .string s', .slice a' ts'.length c'] 31)
    have hI' := And.intro (b1.alloc (.cells #[.int .i64 k', .int .i64 n', .string s', .slice a' ts'.length c'] 31)) (And.intro b2 (And.intro (b3.alloc (.cells #[.int .i64 k', .int .i64 n', .string s', .slice a' ts'.length c'] 31)) (And.intro (b4.alloc (.cells #[.int .i64 k', .int .i64 n', .string s', .slice a' ts'.length c'] 31)) (hB.alloc hB.size (.cells #[.int .i64 k', .int .i64 n', .string s', .slice a' ts'.length c'] 31)))))
    have hKF := (KeepsOthers.alloc W (.cells #[.int .i64 k', .int .i64 n', .string s', .slice a' ts'.length c'] 31)).from
    replace hK := fun Bx W' => hK Bx W'
    dsimp only [Value.cells] at hK
    generalize W.alloc (.cells #[.int .i64 k', .int .i64 n', .string s', .slice a' ts'.length c'] 31) = W' at *
    generalize W.heap.size = Bx at *
    replace hK := hK Bx W' (hKF _) hKT hI' hblk
    generalize Value.agg #[.int .i64 k', .int .i64 n', .string s', .slice a' ts'.length c'] = v' at *
    exact hK
  refine ⟨?_, ?_, ?_⟩
  · rintro l pre ⟨⟨d, T', v'⟩, hT', hd'⟩ Bx W ⟨b1, ⟨g1, g2, g3⟩, b3, b4, hB⟩ hx hpre
    cases T' with
    | node k' n' s' ts' =>
    obtain ⟨a', c', rfl, _, _, hs', hlc', hcm', _⟩ := hT'.open
    dsimp only [Value.cells] at hx
    have hxB : Box W Bx #[.int .i64 k', .int .i64 n', .string s', .slice a' ts'.length c'] 31 := hx
    have x0 := hxB.cell 0
    have x1 := hxB.cell 1
    have x2 := hxB.cell 2
    have x3 := hxB.cell 3
    have s0 := b1.cell 0
    have s1 := b1.cell 1
    have f0 := b1.frozen 0
    have f1 := b1.frozen 1
    simp only [List.getElem?_toArray, List.getElem?_cons_succ, List.getElem?_cons_zero] at x0 x1 x2 x3 s0 s1
    have hne : Bx ≠ w.heap.size + 1 + 1 + 1 := fun e => by
      rw [e] at hx
      have := Eq.trans hx.symm b1
      simp at this
    have hl1 : pre.length < 1000000000 := by omega
    have hm : topD (List.map Nd.fg (pre ++ [⟨(d, .node k' n' s' ts', _), hT', hd'⟩])) = max (topD (List.map Nd.fg pre)) d := by rw [List.map_append]; exact topD_snoc _ _
    have Hm := Lib.hid hm
    have G3 := Lib.hid g3
    clear hx hm g3
    by_cases hmax : topD (List.map Nd.fg pre) < d
    · gi_wp2_with fail
      refine (CallsIn.inRound l (callsIn_of_calls hF (fits_any _ _ _))).mono ?_
      rintro e w1 ⟨rfl, hB1⟩
      have hsz1 := hB1.size
      simp only [World.size_setCell] at hsz1
      obtain ⟨q1, q2⟩ := bcell hB1
      simp only [World.size_setCell] at q1 q2
      have n1 := Box.keep hB1 ((b1.set 0 (.int .i64 (pre.length + 1))).set 1 (.int .i64 d))
      have n3 := Box.keep hB1 ((b3.other (B' := w.heap.size + 1 + 1 + 1) (by omega) 0 (.int .i64 (pre.length + 1))).other (B' := w.heap.size + 1 + 1 + 1) (by omega) 1 (.int .i64 d))
      have n4 := Box.keep hB1 ((b4.other (B' := w.heap.size + 1 + 1 + 1) (by omega) 0 (.int .i64 (pre.length + 1))).other (B' := w.heap.size + 1 + 1 + 1) (by omega) 1 (.int .i64 d))
      have nB := ((hB.setCell (p := ⟨w.heap.size + 1 + 1 + 1, 0, none⟩) (by simp; omega) (.int .i64 (pre.length + 1))).setCell (p := ⟨w.heap.size + 1 + 1 + 1, 1, none⟩) (by simp; omega) (.int .i64 d)).trans (hB1.mono (by simp only [World.size_setCell]; exact hB.size))
      have nK := (((KT.refl w.heap.size W).setBx b1 (by decide) (by omega) 0 (.int .i64 (pre.length + 1))).setBx (b1.set 0 _) (by decide) (by omega) 1 (.int .i64 d)).trans (KT.of_below hB1 (by simp only [World.size_setCell]; exact hB.size))
      have nF := ((KeepsOthers.setCell W ⟨w.heap.size + 1 + 1 + 1, 0, none⟩ (.int .i64 (pre.length + 1))).trans (KeepsOthers.setCell _ ⟨w.heap.size + 1 + 1 + 1, 1, none⟩ (.int .i64 d))).trans (KeepsOthers.of_below hB1)
      have y0 := (q1 Bx 0 hxB.lt).trans (((hxB.other (B' := w.heap.size + 1 + 1 + 1) hne 0 (.int .i64 (pre.length + 1))).other (B' := w.heap.size + 1 + 1 + 1) hne 1 (.int .i64 d)).cell 0)
      have y1 := (q1 Bx 1 hxB.lt).trans (((hxB.other (B' := w.heap.size + 1 + 1 + 1) hne 0 (.int .i64 (pre.length + 1))).other (B' := w.heap.size + 1 + 1 + 1) hne 1 (.int .i64 d)).cell 1)
      have y2 := (q1 Bx 2 hxB.lt).trans (((hxB.other (B' := w.heap.size + 1 + 1 + 1) hne 0 (.int .i64 (pre.length + 1))).other (B' := w.heap.size + 1 + 1 + 1) hne 1 (.int .i64 d)).cell 2)
      have y3 := (q1 Bx 3 hxB.lt).trans (((hxB.other (B' := w.heap.size + 1 + 1 + 1) hne 0 (.int .i64 (pre.length + 1))).other (B' := w.heap.size + 1 + 1 + 1) hne 1 (.int .i64 d)).cell 3)
      simp only [List.getElem?_toArray, List.getElem?_cons_succ, List.getElem?_cons_zero] at y0 y1 y2 y3
      simp only [Array.setIfInBounds, List.size_toArray, List.length_cons, List.length_nil, Nat.reduceAdd, Nat.reduceLT, dite_true, List.set_toArray, List.set_cons_zero, List.set_cons_succ, Array.set] at n1
      clear hB1 q1 q2 b1 b3 b4 hB s0 s1 f0 f1 x0 x1 x2 x3
      by_cases hfit : (pre.length : Int) + 1 ≤ 4000 ∧ d ≤ 600
      · have hfb : (decide ((pre.length : Int) + 1 ≤ 4000) && decide (d ≤ 600)) = true := by rw [Bool.and_eq_true]; exact ⟨decide_eq_true hfit.1, decide_eq_true hfit.2⟩
        rw [hfb]
        clear hfb
        obtain ⟨hfit1, hfit2⟩ := hfit
        gi_wp2_with fail
        refine (CallsIn.inRound l (callsIn_of_calls hF (isNode_any k' n' s' ts'.length a' c' _ (Nat.le_trans hlc' hcm') hs'))).mono ?_
        rintro e w2 ⟨rfl, hB2⟩
        have p1 := Box.keep hB2 n1
        have p3 := Box.keep hB2 n3
        have p4 := Box.keep hB2 n4
        have pB := nB.trans (hB2.mono nB.size)
        have pK := nK.trans (KT.of_below hB2 nB.size)
        have pF := nF.trans (KeepsOthers.of_below hB2)
        clear hB2 n1 n3 n4 nB nK nF y0 y1 y2 y3
        cases hnb : nodeB k' n' s' ts'.length with
        | true =>
          have Hnb := Lib.hid hnb
          clear hnb
          gi_wp2_with fail
          refine ⟨pF.from _, pK, ?_, ⟨by rw [len_snoc]; omega, by rw [Hm.out]; omega, ?_⟩, p3, p4, pB⟩
          · rw [Hm.out, show max (topD (List.map Nd.fg pre)) d = d from by omega, len_snoc]
            exact p1
          · rw [List.map_append, List.all_append, G3.out]
            show (true && (nodeB k' n' s' ts'.length && true)) = true
            rw [Hnb.out]; rfl
        | false =>
          have Hnb := Lib.hid hnb
          clear hnb
          have u0 := p3.cell 0
          have u1 := p3.cell 1
          have u2 := p4.cell 0
          have r0 := p3.frozen 0
          have r1 := p3.frozen 1
          have r2 := p4.frozen 0
          simp only [List.getElem?_toArray, List.getElem?_cons_succ, List.getElem?_cons_zero] at u0 u1 u2
          gi_wp2_with fail
          refine ⟨(pF.trans (((KeepsOthers.setCell _ ⟨w.heap.size + 1, 0, none⟩ _).trans (KeepsOthers.setCell _ ⟨w.heap.size + 1, 1, none⟩ _)).trans (KeepsOthers.setCell _ ⟨w.heap.size + 1 + 1, 0, none⟩ _))).from _, rfl, ⟨pre, _, rfl, .inr (.inr Hnb.out)⟩,
            ((p3.set 0 (.int .i64 0)).set 1 (.int .i64 0)).other (B' := w.heap.size + 1 + 1) (by omega) 0 _, ((p4.other (B' := w.heap.size + 1) (by omega) 0 _).other (B' := w.heap.size + 1) (by omega) 1 _).set 0 (.bool false),
            ((pB.setCell (p := ⟨w.heap.size + 1, 0, none⟩) (by simp) _).setCell (p := ⟨w.heap.size + 1, 1, none⟩) (by simp) _).setCell (p := ⟨w.heap.size + 1 + 1, 0, none⟩) (by simp; omega) _⟩
      · have hfb : (decide ((pre.length : Int) + 1 ≤ 4000) && decide (d ≤ 600)) = false := by
          rw [Bool.eq_false_iff]; intro e; simp at e; exact hfit ⟨by omega, e.2⟩
        rw [hfb]
        clear hfb
        have hbad : Hid (4000 < ((pre.length : Int) + 1) ∨ 600 < d) := by unfold Hid; omega
        clear hfit
        have u0 := n3.cell 0
        have u1 := n3.cell 1
        have u2 := n4.cell 0
        have r0 := n3.frozen 0
        have r1 := n3.frozen 1
        have r2 := n4.frozen 0
        simp only [List.getElem?_toArray, List.getElem?_cons_succ, List.getElem?_cons_zero] at u0 u1 u2
        gi_wp2_with fail
        refine ⟨(nF.trans (((KeepsOthers.setCell _ ⟨w.heap.size + 1, 0, none⟩ _).trans (KeepsOthers.setCell _ ⟨w.heap.size + 1, 1, none⟩ _)).trans (KeepsOthers.setCell _ ⟨w.heap.size + 1 + 1, 0, none⟩ _))).from _, rfl, ⟨pre, _, rfl, (by rw [len_snoc, Hm.out, show max (topD (List.map Nd.fg pre)) d = d from by omega]; exact hbad.out.elim (fun h => .inl (by omega)) (fun h => .inr (.inl h)))⟩,
          ((n3.set 0 (.int .i64 0)).set 1 (.int .i64 0)).other (B' := w.heap.size + 1 + 1) (by omega) 0 _, ((n4.other (B' := w.heap.size + 1) (by omega) 0 _).other (B' := w.heap.size + 1) (by omega) 1 _).set 0 (.bool false),
          ((nB.setCell (p := ⟨w.heap.size + 1, 0, none⟩) (by simp) _).setCell (p := ⟨w.heap.size + 1, 1, none⟩) (by simp) _).setCell (p := ⟨w.heap.size + 1 + 1, 0, none⟩) (by simp; omega) _⟩
    · gi_wp2_with fail
      refine (CallsIn.inRound l (callsIn_of_calls hF (fits_any _ _ _))).mono ?_
      rintro e w1 ⟨rfl, hB1⟩
      have hsz1 := hB1.size
      simp only [World.size_setCell] at hsz1
      obtain ⟨q1, q2⟩ := bcell hB1
      simp only [World.size_setCell] at q1 q2
      have n1 := Box.keep hB1 ((b1.set 0 (.int .i64 (pre.length + 1))).set 1 (.int .i64 (topD (List.map Nd.fg pre))))
      have n3 := Box.keep hB1 ((b3.other (B' := w.heap.size + 1 + 1 + 1) (by omega) 0 (.int .i64 (pre.length + 1))).other (B' := w.heap.size + 1 + 1 + 1) (by omega) 1 (.int .i64 (topD (List.map Nd.fg pre))))
      have n4 := Box.keep hB1 ((b4.other (B' := w.heap.size + 1 + 1 + 1) (by omega) 0 (.int .i64 (pre.length + 1))).other (B' := w.heap.size + 1 + 1 + 1) (by omega) 1 (.int .i64 (topD (List.map Nd.fg pre))))
      have nB := ((hB.setCell (p := ⟨w.heap.size + 1 + 1 + 1, 0, none⟩) (by simp; omega) (.int .i64 (pre.length + 1))).setCell (p := ⟨w.heap.size + 1 + 1 + 1, 1, none⟩) (by simp; omega) (.int .i64 (topD (List.map Nd.fg pre)))).trans (hB1.mono (by simp only [World.size_setCell]; exact hB.size))
      have nK := (((KT.refl w.heap.size W).setBx b1 (by decide) (by omega) 0 (.int .i64 (pre.length + 1))).setBx (b1.set 0 _) (by decide) (by omega) 1 (.int .i64 (topD (List.map Nd.fg pre)))).trans (KT.of_below hB1 (by simp only [World.size_setCell]; exact hB.size))
      have nF := ((KeepsOthers.setCell W ⟨w.heap.size + 1 + 1 + 1, 0, none⟩ (.int .i64 (pre.length + 1))).trans (KeepsOthers.setCell _ ⟨w.heap.size + 1 + 1 + 1, 1, none⟩ (.int .i64 (topD (List.map Nd.fg pre))))).trans (KeepsOthers.of_below hB1)
      have y0 := (q1 Bx 0 hxB.lt).trans (((hxB.other (B' := w.heap.size + 1 + 1 + 1) hne 0 (.int .i64 (pre.length + 1))).other (B' := w.heap.size + 1 + 1 + 1) hne 1 (.int .i64 (topD (List.map Nd.fg pre)))).cell 0)
      have y1 := (q1 Bx 1 hxB.lt).trans (((hxB.other (B' := w.heap.size + 1 + 1 + 1) hne 0 (.int .i64 (pre.length + 1))).other (B' := w.heap.size + 1 + 1 + 1) hne 1 (.int .i64 (topD (List.map Nd.fg pre)))).cell 1)
      have y2 := (q1 Bx 2 hxB.lt).trans (((hxB.other (B' := w.heap.size + 1 + 1 + 1) hne 0 (.int .i64 (pre.length + 1))).other (B' := w.heap.size + 1 + 1 + 1) hne 1 (.int .i64 (topD (List.map Nd.fg pre)))).cell 2)
      have y3 := (q1 Bx 3 hxB.lt).trans (((hxB.other (B' := w.heap.size + 1 + 1 + 1) hne 0 (.int .i64 (pre.length + 1))).other (B' := w.heap.size + 1 + 1 + 1) hne 1 (.int .i64 (topD (List.map Nd.fg pre)))).cell 3)
      simp only [List.getElem?_toArray, List.getElem?_cons_succ, List.getElem?_cons_zero] at y0 y1 y2 y3
      simp only [Array.setIfInBounds, List.size_toArray, List.length_cons, List.length_nil, Nat.reduceAdd, Nat.reduceLT, dite_true, List.set_toArray, List.set_cons_zero, List.set_cons_succ, Array.set] at n1
      clear hB1 q1 q2 b1 b3 b4 hB s0 s1 f0 f1 x0 x1 x2 x3
      by_cases hfit : (pre.length : Int) + 1 ≤ 4000 ∧ (topD (List.map Nd.fg pre)) ≤ 600
      · have hfb : (decide ((pre.length : Int) + 1 ≤ 4000) && decide ((topD (List.map Nd.fg pre)) ≤ 600)) = true := by rw [Bool.and_eq_true]; exact ⟨decide_eq_true hfit.1, decide_eq_true hfit.2⟩
        rw [hfb]
        clear hfb
        obtain ⟨hfit1, hfit2⟩ := hfit
        gi_wp2_with fail
        refine (CallsIn.inRound l (callsIn_of_calls hF (isNode_any k' n' s' ts'.length a' c' _ (Nat.le_trans hlc' hcm') hs'))).mono ?_
        rintro e w2 ⟨rfl, hB2⟩
        have p1 := Box.keep hB2 n1
        have p3 := Box.keep hB2 n3
        have p4 := Box.keep hB2 n4
        have pB := nB.trans (hB2.mono nB.size)
        have pK := nK.trans (KT.of_below hB2 nB.size)
        have pF := nF.trans (KeepsOthers.of_below hB2)
        clear hB2 n1 n3 n4 nB nK nF y0 y1 y2 y3
        cases hnb : nodeB k' n' s' ts'.length with
        | true =>
          have Hnb := Lib.hid hnb
          clear hnb
          gi_wp2_with fail
          refine ⟨pF.from _, pK, ?_, ⟨by rw [len_snoc]; omega, by rw [Hm.out]; omega, ?_⟩, p3, p4, pB⟩
          · rw [Hm.out, show max (topD (List.map Nd.fg pre)) d = (topD (List.map Nd.fg pre)) from by omega, len_snoc]
            exact p1
          · rw [List.map_append, List.all_append, G3.out]
            show (true && (nodeB k' n' s' ts'.length && true)) = true
            rw [Hnb.out]; rfl
        | false =>
          have Hnb := Lib.hid hnb
          clear hnb
          have u0 := p3.cell 0
          have u1 := p3.cell 1
          have u2 := p4.cell 0
          have r0 := p3.frozen 0
          have r1 := p3.frozen 1
          have r2 := p4.frozen 0
          simp only [List.getElem?_toArray, List.getElem?_cons_succ, List.getElem?_cons_zero] at u0 u1 u2
          gi_wp2_with fail
          refine ⟨(pF.trans (((KeepsOthers.setCell _ ⟨w.heap.size + 1, 0, none⟩ _).trans (KeepsOthers.setCell _ ⟨w.heap.size + 1, 1, none⟩ _)).trans (KeepsOthers.setCell _ ⟨w.heap.size + 1 + 1, 0, none⟩ _))).from _, rfl, ⟨pre, _, rfl, .inr (.inr Hnb.out)⟩,
            ((p3.set 0 (.int .i64 0)).set 1 (.int .i64 0)).other (B' := w.heap.size + 1 + 1) (by omega) 0 _, ((p4.other (B' := w.heap.size + 1) (by omega) 0 _).other (B' := w.heap.size + 1) (by omega) 1 _).set 0 (.bool false),
            ((pB.setCell (p := ⟨w.heap.size + 1, 0, none⟩) (by simp) _).setCell (p := ⟨w.heap.size + 1, 1, none⟩) (by simp) _).setCell (p := ⟨w.heap.size + 1 + 1, 0, none⟩) (by simp; omega) _⟩
      · have hfb : (decide ((pre.length : Int) + 1 ≤ 4000) && decide ((topD (List.map Nd.fg pre)) ≤ 600)) = false := by
          rw [Bool.eq_false_iff]; intro e; simp at e; exact hfit ⟨by omega, e.2⟩
        rw [hfb]
        clear hfb
        have hbad : Hid (4000 < ((pre.length : Int) + 1) ∨ 600 < (topD (List.map Nd.fg pre))) := by unfold Hid; omega
        clear hfit
        have u0 := n3.cell 0
        have u1 := n3.cell 1
        have u2 := n4.cell 0
        have r0 := n3.frozen 0
        have r1 := n3.frozen 1
        have r2 := n4.frozen 0
        simp only [List.getElem?_toArray, List.getElem?_cons_succ, List.getElem?_cons_zero] at u0 u1 u2
        gi_wp2_with fail
        refine ⟨(nF.trans (((KeepsOthers.setCell _ ⟨w.heap.size + 1, 0, none⟩ _).trans (KeepsOthers.setCell _ ⟨w.heap.size + 1, 1, none⟩ _)).trans (KeepsOthers.setCell _ ⟨w.heap.size + 1 + 1, 0, none⟩ _))).from _, rfl, ⟨pre, _, rfl, (by rw [len_snoc, Hm.out, show max (topD (List.map Nd.fg pre)) d = (topD (List.map Nd.fg pre)) from by omega]; exact hbad.out.elim (fun h => .inl (by omega)) (fun h => .inr (.inl h)))⟩,
          ((n3.set 0 (.int .i64 0)).set 1 (.int .i64 0)).other (B' := w.heap.size + 1 + 1) (by omega) 0 _, ((n4.other (B' := w.heap.size + 1) (by omega) 0 _).other (B' := w.heap.size + 1) (by omega) 1 _).set 0 (.bool false),
          ((nB.setCell (p := ⟨w.heap.size + 1, 0, none⟩) (by simp) _).setCell (p := ⟨w.heap.size + 1, 1, none⟩) (by simp) _).setCell (p := ⟨w.heap.size + 1 + 1, 0, none⟩) (by simp; omega) _⟩
  · rintro D xs W hDle hxs ⟨b1, ⟨g1, g2, g3⟩, b3, b4, hB⟩ hK
    have e1 : ((xs.length : Nat) : Int) = ((Tr.node k nn s ts).size : Nat) := by
      have := congrArg List.length hxs
      rw [Hln.out, List.length_map] at this
      omega
    have e2 : topD (xs.map Nd.fg) = ((Tr.node k nn s ts).deep : Nat) := by rw [hxs, Hsz.out]
    have hIs : isB (.node k nn s ts) = true := by
      have h1 : (Tr.node k nn s ts).size ≤ 4000 := by omega
      have h2 : (Tr.node k nn s ts).deep ≤ 600 := by omega
      rw [hxs] at g3
      simp [isB, h1, h2, nodesB, g3]
    have HIs := Lib.hid hIs
    rw [e1, e2] at b1
    clear e1 e2 hxs g1 g2 g3 hIs
    have s0 := b1.cell 0
    have s1 := b1.cell 1
    have u0 := b3.cell 0
    have u1 := b3.cell 1
    have u2 := b4.cell 0
    have r0 := b3.frozen 0
    have r1 := b3.frozen 1
    have r2 := b4.frozen 0
    simp only [List.getElem?_toArray, List.getElem?_cons_succ, List.getElem?_cons_zero] at s0 s1 u0 u1 u2
    gi_wp2_with fail
    refine ⟨by simp, .inl ⟨_, _, rfl, run_takeDeferred ((((KeepsOthers.setCell _ ⟨w.heap.size + 1, 0, none⟩ _).trans (KeepsOthers.setCell _ ⟨w.heap.size + 1, 1, none⟩ _)).trans (KeepsOthers.setCell _ ⟨w.heap.size + 1 + 1, 0, none⟩ _)).same D _ hK rfl), ?_⟩⟩
    have nK := And.intro (b3.ne_deferred hK) (b4.ne_deferred hK)
    have z3 := Box.put (((b3.set 0 (.int .i64 (Tr.node k nn s ts).size)).set 1 (.int .i64 (Tr.node k nn s ts).deep)).other (B' := w.heap.size + 1 + 1) (by omega) 0 (.bool true)) nK.1 (.deferred none)
    have z4 := Box.put (((b4.other (B' := w.heap.size + 1) (by omega) 0 (.int .i64 (Tr.node k nn s ts).size)).other (B' := w.heap.size + 1) (by omega) 1 (.int .i64 (Tr.node k nn s ts).deep)).set 0 (.bool true)) nK.2 (.deferred none)
    have zB := (((hB.setCell (p := ⟨w.heap.size + 1, 0, none⟩) (by simp) (.int .i64 (Tr.node k nn s ts).size)).setCell (p := ⟨w.heap.size + 1, 1, none⟩) (by simp) (.int .i64 (Tr.node k nn s ts).deep)).setCell (p := ⟨w.heap.size + 1 + 1, 0, none⟩) (by simp; omega) (.bool true)).trans
      (belowK_b (w := w) (Nat.le_refl _) _ D _ (.deferred none) (by simp at hDle; omega) ((((KeepsOthers.setCell _ ⟨w.heap.size + 1, 0, none⟩ _).trans (KeepsOthers.setCell _ ⟨w.heap.size + 1, 1, none⟩ _)).trans (KeepsOthers.setCell _ ⟨w.heap.size + 1 + 1, 0, none⟩ _)).same D _ hK rfl) rfl rfl)
    have y0 := z3.cell 0
    have y1 := z3.cell 1
    have y2 := z4.cell 0
    generalize World.putObj _ D (.deferred none) = FW at *
    refine ⟨.tuple #[.agg #[.int .i64 (Tr.node k nn s ts).size, .int .i64 (Tr.node k nn s ts).deep], .bool true], ?_, ?_, zB⟩
    · simp at y0 y1 y2
      simp [results, Tryz.results168, go_sem, y0, y1, y2]
    · rw [measN, measD, HIs.out]; rfl
  · rintro D c pre W hDle hpre ⟨rfl, ⟨zs, x, rfl, hbad⟩, b3, b4, hB⟩ hK
    have hIs : isB (.node k nn s ts) = false := by
      rw [List.map_append] at hpre hbad
      exact isB_of hpre (by simpa using hbad)
    have HIs := Lib.hid hIs
    clear hIs hpre hbad
    gi_wp2_with fail
    refine ⟨by simp, .inl ⟨_, _, rfl, run_takeDeferred hK, ?_⟩⟩
    have nK := And.intro (b3.ne_deferred hK) (b4.ne_deferred hK)
    have z3 := Box.put b3 nK.1 (.deferred none)
    have z4 := Box.put b4 nK.2 (.deferred none)
    have zB := hB.trans (belowK_b (w := w) (Nat.le_refl _) _ D _ (.deferred none) (by simp at hDle; omega) hK rfl rfl)
    have y0 := z3.cell 0
    have y1 := z3.cell 1
    have y2 := z4.cell 0
    generalize World.putObj _ D (.deferred none) = FW at *
    refine ⟨.tuple #[.agg #[.int .i64 0, .int .i64 0], .bool false], ?_, ?_, zB⟩
    · simp at y0 y1 y2
      simp [results, Tryz.results168, go_sem, y0, y1, y2]
    · rw [measN, measD, HIs.out]; rfl
end Go.Proofs.YthfciekhmbfmfaaGreatDoor
