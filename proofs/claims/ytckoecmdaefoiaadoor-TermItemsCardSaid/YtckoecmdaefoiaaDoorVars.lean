import Derived.Test.YtckoecmdaefoiaaDoorMaps
namespace Go.Proofs.YtckoecmdaefoiaaDoor
open Go.RowKit Go Go.Shelf

attribute [local go_sem] Oper.semAt_some

def addV (S : List Int) (x : Int × Tr) : List Int := if x.2.kind = 1 ∧ ¬ x.2.num ∈ S then S ++ [x.2.num] else S
def varsP (S : List Int) (xs : List (Int × Tr)) : List Int := xs.foldl addV S
/-- The variables of the trees, each where it is first met. -/
def varsL (S : List Int) (l : List Tr) : List Int := l.foldl (fun S t => varsP S (preT 1 t)) S
theorem varsP_snoc (S : List Int) (xs : List (Int × Tr)) (x : Int × Tr) : varsP S (xs ++ [x]) = addV (varsP S xs) x := by simp [varsP]
theorem addV_length (S : List Int) (x : Int × Tr) : (addV S x).length ≤ S.length + 1 := by unfold addV; split <;> simp
theorem varsP_length (S : List Int) : ∀ xs : List (Int × Tr), (varsP S xs).length ≤ S.length + xs.length := by
  intro xs
  induction xs generalizing S with
  | nil => simp [varsP]
  | cons x xs ih => have := ih (addV S x); have := addV_length S x; simp only [varsP, List.foldl_cons, List.length_cons] at *; omega
theorem varsL_take (S : List Int) {l : List Tr} {j : Nat} (h : j < l.length) : varsL S (l.take (j + 1)) = varsP (varsL S (l.take j)) (preT 1 l[j]) := by
  rw [varsL, List.take_succ_eq_append_getElem h, List.foldl_append]; rfl

/-- What the function holds between two nodes. -/
def VS (w : World) (Bo Bs Bm : Nat) (marks : List Nat) (S : List Int) (W : World) : Prop :=
  ∃ (v : Value) (n : Nat), Box W Bo #[v] 35 ∧ Box W Bs #[.map (some Bm)] 81 ∧ Nums w.heap.size W v S ∧ Seen W Bm n S ∧ n ≤ S.length ∧ (∀ D, D ∈ marks → W.heap[D]? = some (.deferred (some []))) ∧ Below w.heap.size w W
theorem VS.own {β : Type} {w : World} {Bo Bs Bm B : Nat} {marks : List Nat} (S : β → List Int) (hm : Bm < B) (hD : ∀ D, D ∈ marks → D < B) (hw : w.heap.size ≤ B) : OwnFrom B (fun s W => VS w Bo Bs Bm marks (S s) W) := by
  rintro s X Y row ⟨v, n, h1, h2, h3, h4, h5, h6, h7⟩ hg hr
  have hr2 : ∀ r, row = some r → ∃ o : Obj, X.heap[r]? = some o ∧ o.isCells = false := fun r e => (hr r e).2
  refine ⟨v, n, Box.own _ _ (fun _ => _) () X Y row h1 hg hr2, Box.own _ _ (fun _ => _) () X Y row h2 hg hr2, ?_, h4.kept hg (fun e => by have := (hr _ e.symm).1; omega), h5, fun D hDm => (hg.block D (Array.getElem?_eq_some_iff.1 (h6 D hDm)).1 (fun e => by have := (hr _ e.symm).1; have := hD D hDm; omega)).trans (h6 D hDm), ?_⟩
  · refine h3.at fun g hgb => ?_
    obtain ⟨_, cur, hc⟩ := h3.cells g hgb
    refine hg.block g hc.lt fun e => ?_
    obtain ⟨o, ho, hn⟩ := hr2 g e.symm
    rw [Box, ho] at hc
    cases hc
    cases hn
  · exact h7.trans (grown_below' hg h7.size fun g e => by have := (hr g e).1; omega)

theorem Seen.not_box {W : World} {b n B : Nat} {S : List Int} {cs : Array Value} {t : TypeId} (h : Seen W b n S) (hB : Box W B cs t) : B ≠ b := fun e => by
  subst e
  obtain ⟨D, ⟨es, clock, hm, _⟩, _⟩ := h
  rw [show W.heap[B]? = some _ from hB] at hm
  cases hm

/-- The marks of loops over iterators that are over. -/
def mark (D : Nat) : Deferred := { target := .collected D, args := #[] }
theorem leaves_marks {F : Fence} {n : Nat} {P : Program} {fn : Func} {tmps : Array Value} {R : Ending → World → Prop} {B : Nat} {Pf : World → Prop}
    (hP : ∀ (W : World) (l : Nat), Pf W → B ≤ l → W.heap[l]? = some (.deferred (some [])) → Pf (W.putObj l (.deferred none))) (hend : ∀ W, Pf W → LeavesInM F n P fn tmps R [] .returning W) :
    ∀ (marks : List Nat) (W : World), marks.Nodup → (∀ D, D ∈ marks → B ≤ D ∧ W.heap[D]? = some (.deferred (some []))) → Pf W → LeavesInM F n P fn tmps R (marks.map mark) .returning W
  | [], W, _, _, hW => hend W hW
  | D :: ds, W, hn, hD, hW => by
    obtain ⟨hB, hd⟩ := hD D (by simp)
    refine ⟨by simp, .inl ⟨D, _, rfl, run_takeDeferred hd, ?_⟩⟩
    rw [List.nodup_cons] at hn
    refine leaves_marks hP hend ds _ hn.2 (fun E hE => ?_) (hP W D hW hB hd)
    obtain ⟨h1, h2⟩ := hD E (by simp [hE])
    exact ⟨h1, (World.putObj_heap_other (fun e => by subst e; exact hn.1 hE)).trans h2⟩

def VarsPost (l : List Tr) (w : World) (e : Ending) (w' : World) : Prop := Below w.heap.size w w' ∧ match togB l with
  | true => ∃ v, e = .returned (.tuple #[v, .int .i64 0]) ∧ Nums w.heap.size w' v (varsL [] l)
  | false => e = .returned (.tuple #[.slice none 0 0, .int .i64 3])

set_option maxRecDepth 100000 in
set_option maxHeartbeats 2000000 in
theorem Vars_any (l : List Tr) (a : Option Addr) (c : Nat) (w : World) (hm : l.length ≤ maxLen) (hl : IsL w.heap.size w l a) (hdp : ∀ t, t ∈ l → t.deep ≤ 999999999) :
    Calls Tryd.prog 66 #[.slice a l.length c] w (VarsPost l w) := by
  unfold maxLen at hm
  refine (callsIn_wide (n := 9)).1 ?_
  generalize hF : Fence.wide = F
  have hd : F.depth = none := by subst hF; rfl
  have hf : ∀ f, F.fn f := fun f => by subst hF; trivial
  have hro : F.round = none := by subst hF; rfl
  have HL := Lib.hid hl
  refine callsIn_of_wp_marks Tryd.func66 rfl (hf _) ?_ hro
  simp only [Tryd.ntmps66, List.size_toArray, List.length_cons, List.length_nil, Nat.reduceAdd, Nat.reduceSub, Array.replicate_succ, Array.replicate_zero, List.push_toArray, List.append_toArray, List.nil_append, List.cons_append]
  gi_wp2_with fail
  refine CallsIn.mono (callsIn_of_calls hF (checkAll_any l a c w (by unfold maxLen; omega) hl hdp)) ?_
  rintro e w1 ⟨rfl, hB1⟩
  have HD := Lib.hid hdp
  clear hdp hl
  generalize hbT' : togB l = bT
  have hbT := Lib.hid hbT'
  clear hbT'
  cases bT with
  | false =>
    gi_wp2_with fail
    refine ⟨.tuple #[.slice none 0 0, .int .i64 3], by simp [results, Tryd.results66, go_sem]; rfl, hB1, ?_⟩
    rw [hbT.out]
  | true =>
    have hmm := @run_makeMap Tryd.prog
    gi_wp2_with fail
    have hs0 : VS w w1.heap.size (w1.heap.size + 1 + 1) (w1.heap.size + 1) [] [] (((w1.alloc (.cells #[.slice none 0 0] 35)).alloc (.map #[] 0)).alloc (.cells #[.map (some (w1.heap.size + 1))] 81)) := by
      refine ⟨_, 0, ((Box.at rfl).alloc _).alloc _, Box.at (by simp), World.ownsRow_nil _ _ _ _, ?_, Nat.le_refl _, fun D h => by simp at h, hB1.trans (below_a3 hB1.size _ _ _)⟩
      have h := Seen.made (w1.alloc (.cells #[.slice none 0 0] 35))
      rw [World.size_alloc] at h
      exact h.kept (World.grownBy_alloc _ _ none) (by simp)
    have hsz0 : (((w1.alloc (.cells #[.slice none 0 0] 35)).alloc (.map #[] 0)).alloc (.cells #[.map (some (w1.heap.size + 1))] 81)).heap.size = w1.heap.size + 3 := by simp
    refine wpIn_loop (fun a' wr => ∃ (u : Nat → Value) (j : Nat) (marks : List Nat), a' = { tmps := #[.slice a l.length c, undef, .slice none 0 0, .int .i64 0, .int .i64 (errI true), .pointer (some ⟨w1.heap.size, 0, none⟩), .pointer (some ⟨w1.heap.size + 1 + 1, 0, none⟩), undef, u 8, undef, undef, .slice a l.length c, .int .i64 (errI true), .int .i64 (errI true), .bool (errI true != 0), undef, .map (some (w1.heap.size + 1)), .slice a l.length c, .int .i64 l.length, .int .i64 (j : Nat), u 20, u 21, u 22, u 23, u 24, undef, undef, undef, undef, undef, undef, undef, undef, undef, undef, undef, undef, undef, undef, undef, undef, undef, undef, undef, undef, u 45, undef], defers := marks.map mark } ∧
      j ≤ l.length ∧ marks.Nodup ∧ (∀ D, D ∈ marks → w1.heap.size + 3 ≤ D ∧ D < wr.heap.size) ∧ VS w w1.heap.size (w1.heap.size + 1 + 1) (w1.heap.size + 1) marks (varsL [] (l.take j)) wr ∧ w1.heap.size + 3 ≤ wr.heap.size ∧ (varsL [] (l.take j)).length ≤ sizeL (l.take j))
      (fun a' _ => l.length - (intOf (a'.tmps.getD 19 undef)).toNat) ⟨fun _ => undef, 0, [], rfl, Nat.zero_le _, List.nodup_nil, fun D h => by simp at h, hs0, by omega, by simp [varsL]⟩ ?_
    rintro a' wr ⟨u, j, marks, rfl, hj, hnd, hmk, hvs, hsz, hlen⟩
    by_cases hlt : j < l.length
    · obtain ⟨b, off, rfl, hb⟩ := HL.out.addr (by omega)
      obtain ⟨v0, n0, v1, v2, v3, v4, v5, v6, v7⟩ := hvs
      obtain ⟨tk, tn, ts, tl, ta, tc, te, c0, c1, c2, c3, ht⟩ := HL.out.node' hb v7 j hlt
      have hbw : b < wr.heap.size := by have := v7.size; omega
      have hVS := Lib.hid (show VS w w1.heap.size (w1.heap.size + 1 + 1) (w1.heap.size + 1) marks (varsL [] (l.take j)) wr from ⟨v0, n0, v1, v2, v3, v4, v5, v6, v7⟩)
      have hdj := HD.out _ (List.getElem_mem hlt)
      have Te := Lib.hid te
      rw [te] at ht hdj
      have hB5 := v7.trans (below_a2 v7.size (.cells #[.int .i64 tk, .int .i64 tn, .string ts, .slice ta tl.length tc] 25) (.cells #[.int .i64 tk, .int .i64 tn, .string ts, .slice ta tl.length tc] 25))
      have hwr := v7.size
      have hszl : sizeL (l.take j) + (Tr.node tk tn ts tl).size ≤ 4000 := by
        have h1 := size_take j hlt
        rw [te] at h1
        have h2 := hbT.out
        simp [togB] at h2
        omega
      clear v1 v2 v3 v4 v5 v6 v7 te
      gi_wp2_with fail
      refine CallsIn.mono (callsIn_of_calls hF (nodes_any _ tk tn ts ta tl.length tc rfl _)) ?_
      rintro e w' ⟨rfl, rfl⟩
      gi_wp2_with fail
      have hs5 : ((wr.alloc (.cells #[.int .i64 tk, .int .i64 tn, .string ts, .slice ta tl.length tc] 25)).alloc (.cells #[.int .i64 tk, .int .i64 tn, .string ts, .slice ta tl.length tc] 25)).heap.size = wr.heap.size + 2 := by simp
      have hown := VS.own (w := w) (Bo := w1.heap.size) (Bs := w1.heap.size + 1 + 1) (Bm := w1.heap.size + 1) (B := wr.heap.size + 2) (marks := marks) (fun pre : List (Nd w.heap.size w) => varsP (varsL [] (l.take j)) (pre.map Nd.fg)) (by omega) (fun D hD => by have := (hmk D hD).2; omega) (by omega)
      have hown0 := VS.own (w := w) (Bo := w1.heap.size) (Bs := w1.heap.size + 1 + 1) (Bm := w1.heap.size + 1) (B := wr.heap.size) (marks := marks) (fun _ : Unit => varsL [] (l.take j)) (by omega) (fun D hD => (hmk D hD).2) (by omega)
      have hin := hown0.alloc (s := ()) (.cells #[.int .i64 tk, .int .i64 tn, .string ts, .slice ta tl.length tc] 25) (hown0.alloc (s := ()) (.cells #[.int .i64 tk, .int .i64 tn, .string ts, .slice ta tl.length tc] 25) hVS.out)
      refine range_nodesH hd hf hro (by omega) (wr.heap.size + 1) w.heap.size (.node tk tn ts tl) (.agg #[.int .i64 tk, .int .i64 tn, .string ts, .slice ta tl.length tc]) w rfl (block_at (by simp)) hB5 hB5.size ht hdj rfl
        (fun pre W => VS w w1.heap.size (w1.heap.size + 1 + 1) (w1.heap.size + 1) marks (varsP (varsL [] (l.take j)) (pre.map Nd.fg)) W ∧ wr.heap.size + 2 ≤ W.heap.size) (fun _ _ _ => False)
        (by rw [hs5]; exact hown.and (fun s W W' row h hg _ => Nat.le_trans h hg.size)) (fun _ _ _ _ _ hs _ _ => hs) ⟨hin, by omega⟩ ?_
      rw [hs5]
      clear hin
      apply Exists.intro
      apply And.intro
      · rintro l2 pre ⟨⟨d, T', v'⟩, hT', hd'⟩ Wb K hI hK
        cases T' with
        | node k' n' s' ts' =>
        obtain ⟨a', c', rfl, _⟩ := hT'.open
        simp only [Nd.encs]
        gi_wp2_with fail
        have hblk := World.alloc_heap_new Wb (.cells #[.int .i64 k', .int .i64 n', .string s', .slice a' ts'.length c'] 25)
        have hsW : w.heap.size ≤ Wb.heap.size := by have := hI.2; omega
        have hKT := (KT.refl w.heap.size Wb).alloc hsW (.cells #[.int .i64 k', .int .i64 n', .string s', .slice a' ts'.length c'] 25)
        have hI' := And.intro (hown.alloc (s := pre) (.cells #[.int .i64 k', .int .i64 n', .string s', .slice a' ts'.length c'] 25) hI.1) (show wr.heap.size + 2 ≤ (Wb.alloc (.cells #[.int .i64 k', .int .i64 n', .string s', .slice a' ts'.length c'] 25)).heap.size by have := hI.2; simp; omega)
        have hKF := (KeepsOthers.alloc Wb (.cells #[.int .i64 k', .int .i64 n', .string s', .slice a' ts'.length c'] 25)).from
        replace hK := fun Bx W' => hK Bx W'
        dsimp only [Value.cells] at hK
        generalize Wb.alloc (.cells #[.int .i64 k', .int .i64 n', .string s', .slice a' ts'.length c'] 25) = W' at *
        generalize Wb.heap.size = Bx at *
        replace hK := hK Bx W' (hKF _) hKT hI' hblk
        generalize Value.agg #[.int .i64 k', .int .i64 n', .string s', .slice a' ts'.length c'] = v' at *
        exact hK
      refine ⟨?_, ?_, fun D c pre W _ _ h _ => h.elim⟩
      · rintro l2 pre ⟨⟨d, T', v'⟩, hT', hd'⟩ Bx Wb ⟨hvs, hsb⟩ hx hpre
        cases T' with
        | node k' n' s' ts' =>
        obtain ⟨a', c', rfl, hok1, hok, _⟩ := hT'.open
        dsimp only [Value.cells] at hx
        have hxB : Box Wb Bx #[.int .i64 k', .int .i64 n', .string s', .slice a' ts'.length c'] 25 := hx
        have hm : varsP (varsL [] (l.take j)) (List.map Nd.fg (pre ++ [(⟨(d, .node k' n' s' ts', _), hT', hd'⟩ : Nd w.heap.size w)])) = addV (varsP (varsL [] (l.take j)) (List.map Nd.fg pre)) (d, .node k' n' s' ts') := by rw [List.map_append]; exact varsP_snoc _ _ _
        have hln := varsP_length (varsL [] (l.take j)) (List.map Nd.fg pre)
        rw [List.length_map] at hln
        have Hm := Lib.hid hm
        clear hm hx
        obtain ⟨v0, n0, v1, v2, v3, v4, v5, v6, v7⟩ := hvs
        have hVS' := Lib.hid (show VS w w1.heap.size (w1.heap.size + 1 + 1) (w1.heap.size + 1) marks (varsP (varsL [] (l.take j)) (List.map Nd.fg pre)) Wb from ⟨v0, n0, v1, v2, v3, v4, v5, v6, v7⟩)
        have x0 := hxB.cell 0
        have x1 := hxB.cell 1
        have c5 := v1.cell 0
        have f5 := v1.frozen 0
        have c6 := v2.cell 0
        simp only [List.getElem?_toArray, List.getElem?_cons_succ, List.getElem?_cons_zero] at x0 x1 c5 c6
        have hrun := v4.look hok
        generalize hS : varsP (varsL [] (l.take j)) (List.map Nd.fg pre) = S at *
        have fin0 : addV S (d, .node k' n' s' ts') = S → ∀ a0 : Act, ownPostG (wr.heap.size + 2) (KT w.heap.size) (fun (pre : List (Nd w.heap.size w)) W => VS w w1.heap.size (w1.heap.size + 1 + 1) (w1.heap.size + 1) marks (varsP (varsL [] (l.take j)) (pre.map Nd.fg)) W ∧ wr.heap.size + 2 ≤ W.heap.size) (fun _ _ _ => False) (pre ++ [⟨(d, .node k' n' s' ts', .agg #[.int .i64 k', .int .i64 n', .string s', .slice a' ts'.length c']), hT', hd'⟩]) Wb .normal a0 Wb := fun h a0 => ⟨KeepsFrom.refl _ _, KT.refl _ _, by rw [Hm.out, h]; exact hVS'.out, hsb⟩
        by_cases hk : k' = 1
        · by_cases hmem : n' ∈ S
          · have Hmem := Lib.hid hmem
            have hdec : decide (n' ∈ S) = true := by simpa using hmem
            rw [hdec] at hrun
            subst hk
            have Hf := Lib.hid (fin0 (by simp [addV, Hmem.out, Tr.num]))
            clear fin0 hmem v1 v2 v3 v4 v5 v6 hxB
            gi_wp2_with fail
            exact Hf.out _
          · have hdec : decide (n' ∈ S) = false := by simpa using hmem
            rw [hdec] at hrun
            subst hk
            have hadd : Hid (addV S (d, .node 1 n' s' ts') = S ++ [n']) := by simp [Hid, addV, hmem, Tr.num, Tr.kind]
            clear fin0
            obtain ⟨i0, hi, hz0, hz1, hz2⟩ := info_parts infoInt
            have hSl : S.length ≤ 8000 := by omega
            obtain ⟨w2, hrun2, hseen2, hg2⟩ := v4.put (n := n0) (by unfold maxLen; omega) hok
            have hneX := v4.not_box hxB
            have q1 : Box w2 w1.heap.size #[v0] 35 := (hg2.block _ v1.lt (by simp)).trans v1
            have qx : Box w2 Bx #[.int .i64 1, .int .i64 n', .string s', .slice a' ts'.length c'] 25 := (hg2.block _ hxB.lt (by simpa using hneX)).trans hxB
            have N2 : Nums w.heap.size w2 v0 S := v3.at fun g hg => by
              obtain ⟨_, cur, hc⟩ := v3.cells g hg
              exact hg2.block g hc.lt (by simpa using v4.not_box hc)
            have y1 := qx.cell 1
            have d5 := q1.cell 0
            have g5 := q1.frozen 0
            simp only [List.getElem?_toArray, List.getElem?_cons_succ, List.getElem?_cons_zero] at y1 d5
            have hl1 := v1.lt
            have hl2 := q1.lt
            have hlx := qx.lt
            have hsw2 := hg2.size
            have V := Lib.hid (And.intro v1 (And.intro v2 (And.intro v3 (And.intro v4 (And.intro v5 (And.intro v6 v7))))))
            have HX := Lib.hid (And.intro hseen2 (And.intro hg2 (And.intro q1 (And.intro N2 hxB))))
            clear v1 v2 v3 v4 v5 v6 v7 hseen2 hg2 q1 qx hneX hxB
            gi_wp2_with (gi_at_builtin; refine wpListIn_append_where _ rfl _ _ 35 rfl w.heap.size 3 i0 (.int .i64 0) 1 8 Tryd.underlying35 hi hz0 hz1 hz2 rfl (by decide) _ _ _ rfl (World.ownsRow.alloc N2 _) ⟨w2.heap.size, 0, none⟩ 1 1 [.int .i64 n'] rfl rfl (cell_one_new _ _ _) (fun x hx => by simp at hx; subst hx; rfl) (by unfold maxLen; omega) (by omega) (by simp; omega) ?_)
            intro v' w4 hown hgrow hwh
            obtain ⟨v1, v2, v3, v4, v5, v6, v7⟩ := V.out
            obtain ⟨hseen2, hg2, q1, N2', hxB⟩ := HX.out
            obtain ⟨g, cap, hv'⟩ := ownsRow_succ hown
            have hne1 := N2'.not_box q1 (by decide)
            have q4 : Box w4 w1.heap.size #[v0] 35 := (hgrow.block _ (q1.alloc _).lt hne1).trans (q1.alloc _)
            have e5 := q4.cell 0
            have h5 := q4.frozen 0
            simp only [List.getElem?_toArray, List.getElem?_cons_zero] at e5
            have hN4 : Nums w.heap.size w4 v' (S ++ [n']) := by simpa [Nums, ints] using hown
            have hkeep : ∀ k, k < Wb.heap.size → k ≠ w1.heap.size + 1 → some k ≠ v0.ownBlock → k ≠ w1.heap.size → (w4.setCell ⟨w1.heap.size, 0, none⟩ v').heap[k]? = Wb.heap[k]? := fun k hk hm hn hB =>
              (Below.heap_setCell w4 ⟨w1.heap.size, 0, none⟩ v' k hB).trans ((hgrow.block k (by simp; omega) hn).trans ((Below.heap_alloc w2 _ k (by omega)).trans (hg2.block k hk (by simpa using hm))))
            have hKF : KeepsFrom (wr.heap.size + 2) Wb (w4.setCell ⟨w1.heap.size, 0, none⟩ v') := ((((KeepsFrom.of_grownBy hg2 (fun j e => by cases e; omega)).trans ((KeepsOthers.alloc w2 _).from _)).trans ((KeepsOthers.of_grownBy hgrow fun j o ej hj => row_cells (World.ownsRow.alloc N2' _) j o ej hj).from _)).trans ((KeepsOthers.setCell w4 ⟨w1.heap.size, 0, none⟩ v').from _))
            have hb0 : w.heap.size ≤ w1.heap.size := hB1.size
            have hKB : Below w.heap.size Wb (w4.setCell ⟨w1.heap.size, 0, none⟩ v') := (((grown_below' hg2 (by omega) (fun g e => by cases e; omega)).trans (below_a1 (by omega) _)).trans (grown_below' hgrow (by simp; omega) (fun g e => (N2'.cells g e).1))).setCell (p := ⟨w1.heap.size, 0, none⟩) hb0 v'
            have hKT : KT w.heap.size Wb (w4.setCell ⟨w1.heap.size, 0, none⟩ v') := by
              refine ⟨hKB, fun k cs fr hk => (hkeep k (Array.getElem?_eq_some_iff.1 hk).1 (fun e => ?_) (fun e => ?_) (fun e => ?_)).trans hk⟩
              · subst e
                obtain ⟨D, ⟨es, clock, hm, _⟩, _⟩ := v4
                rw [hk] at hm
                cases hm
              · obtain ⟨_, cur, hc⟩ := v3.cells k e.symm
                rw [Box, hk] at hc
                cases hc
              · subst e
                rw [show Wb.heap[_]? = some _ from v1] at hk
                cases hk
            have hgt : ∀ D, D ∈ marks → w1.heap.size + 3 ≤ D := fun D hD => (hmk D hD).1
            have hVSn : VS w w1.heap.size (w1.heap.size + 1 + 1) (w1.heap.size + 1) marks (S ++ [n']) (w4.setCell ⟨w1.heap.size, 0, none⟩ v') := by
              refine ⟨v', n0 + 1, by simpa using q4.set 0 v', (hkeep _ v2.lt (by omega) (v3.not_box v2 (by decide)) (by omega)).trans v2, hN4.at fun k hk => ?_, ?_, by simp; omega, fun D hD => (hkeep D (Array.getElem?_eq_some_iff.1 (v6 D hD)).1 (by have := hgt D hD; omega) (fun e => ?_) (by have := hgt D hD; omega)).trans (v6 D hD), v7.trans hKB⟩
              · obtain ⟨_, cur, hc⟩ := hN4.cells k hk
                exact Below.heap_setCell w4 ⟨w1.heap.size, 0, none⟩ v' k (fun e => by
                  subst e
                  rw [Box, show w4.heap[_]? = some _ from q4] at hc
                  cases hc)
              · refine ((hseen2.kept (World.grownBy_alloc w2 _ none) (by simp)).kept hgrow (fun e => ?_)).kept (grown_set w1.heap.size 0 w4 v') (by simp)
                obtain ⟨_, cur, hc⟩ := N2'.cells _ e.symm
                exact hseen2.not_box hc rfl
              · obtain ⟨_, cur, hc⟩ := v3.cells D e.symm
                rw [Box, v6 D hD] at hc
                cases hc
            have hs4 : wr.heap.size + 2 ≤ w4.heap.size := by have := hgrow.size; simp at this; omega
            have HF := Lib.hid (And.intro hKF (And.intro hKT hVSn))
            clear hKF hKT hVSn hKB hkeep v1 v2 v3 v4 v5 v6 v7 hseen2 hg2 q1 N2' hxB hown hgrow hwh hN4 N2
            subst hv'
            gi_wp2_with fail
            refine ⟨HF.out.1, HF.out.2.1, ?_, by simpa using hs4⟩
            rw [Hm.out, hadd.out]
            exact HF.out.2.2
        · have hk' : (k' == 1) = false := by simpa using hk
          have Hf := Lib.hid (fin0 (by simp [addV, hk, Tr.kind]))
          have Hk := Lib.hid hk
          clear hk fin0 v1 v2 v3 v4 v5 v6 hxB hrun
          gi_wp2_with fail
          exact Hf.out _
      · rintro D xs W hDle hxs ⟨hvs, hsb⟩ hK
        gi_wp2_with fail
        have hDl : D < W.heap.size := (Array.getElem?_eq_some_iff.1 hK).1
        have e1 : varsL [] (l.take (j + 1)) = varsP (varsL [] (l.take j)) (List.map Nd.fg xs) := by rw [varsL_take [] hlt, Te.out, hxs]
        have e2 := varsP_length (varsL [] (l.take j)) (List.map Nd.fg xs)
        have e3 : (List.map Nd.fg xs).length = (Tr.node tk tn ts tl).size := by rw [hxs, preT_length]
        have e4 : sizeL (l.take (j + 1)) = sizeL (l.take j) + (Tr.node tk tn ts tl).size := by rw [List.take_succ_eq_append_getElem hlt, sizeL_append, Te.out]; simp [sizeL]
        refine ⟨⟨fun i => match i with | 8 => .pointer (some ⟨wr.heap.size, 0, none⟩) | 20 => .bool true | 21 => .pointer (some ⟨b, off + j * 4, none⟩) | 22 => .agg #[.int .i64 tk, .int .i64 tn, .string ts, .slice ta tl.length tc] | 23 => .agg #[.int .i64 tk, .int .i64 tn, .string ts, .slice ta tl.length tc] | 24 => .func (.func 120) #[] #[.pointer (some ⟨wr.heap.size + 1, 0, none⟩)] | 45 => .int .i64 ((j : Int) + 1) | _ => undef, j + 1, D :: marks, ?_, hlt, ?_, ?_, ?_, by omega, by rw [e1]; omega⟩, ?_⟩
        · rw [show (((j + 1 : Nat)) : Int) = (j : Int) + 1 from by omega]
          rfl
        · rw [List.nodup_cons]
          exact ⟨fun h => by have := (hmk D h).2; omega, hnd⟩
        · intro E hE
          rcases List.mem_cons.1 hE with rfl | hE
          · omega
          · have := hmk E hE; omega
        · rw [e1]
          obtain ⟨v0, n0, v1, v2, v3, v4, v5, v6, v7⟩ := hvs
          refine ⟨v0, n0, v1, v2, v3, v4, v5, fun E hE => ?_, v7⟩
          rcases List.mem_cons.1 hE with rfl | hE
          · exact hK
          · exact v6 E hE
        · simp [intOf]
          omega
    · obtain ⟨v0, n0, v1, v2, v3, v4, v5, v6, v7⟩ := hvs
      have hjl : j = l.length := by omega
      subst hjl
      rw [List.take_length] at v3
      have c5 := v1.cell 0
      simp only [List.getElem?_toArray, List.getElem?_cons_zero] at c5
      have hlo := v1.lt
      have V := Lib.hid (And.intro v3 (And.intro v6 v7))
      clear v1 v2 v3 v4 v5 v6 v7
      gi_wp2_with fail
      refine leaves_marks (B := w1.heap.size + 3) (Pf := fun W => Nums w.heap.size W v0 (varsL [] l) ∧ Below w.heap.size w W) ?_ ?_ marks wr hnd (fun D hD => ⟨(hmk D hD).1, V.out.2.1 D hD⟩) ⟨V.out.1, V.out.2.2⟩
      · rintro W D ⟨h1, h2⟩ hB hd
        exact ⟨h1.put hd rfl _, h2.trans (belowK_b (w := w) (Nat.le_refl _) W D _ (.deferred none) (by have := hB1.size; omega) hd rfl rfl)⟩
      · rintro W ⟨h1, h2⟩
        refine ⟨.tuple #[v0, .int .i64 0], by simp [results, Tryd.results66, go_sem], h2, ?_⟩
        rw [hbT.out]
        exact ⟨_, rfl, h1⟩
end Go.Proofs.YtckoecmdaefoiaaDoor
