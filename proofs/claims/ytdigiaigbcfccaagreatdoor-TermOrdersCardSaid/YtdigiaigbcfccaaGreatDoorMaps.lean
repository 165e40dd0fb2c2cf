import Derived.Maps.Ext
import Derived.Maps.Own
import Derived.Maps.Views
import Derived.Test.YtdigiaigbcfccaaGreatDoorPaths
import Derived.Laws.EntriesVeiled
namespace Go.Proofs.YtdigiaigbcfccaaGreatDoor
open Go.RowKit Go Go.Maps

theorem zeroB (w : World) : (zeroValue 4).run Tryz.prog w = .ok (.bool false) w := by kernel_rfl
theorem zeroI (w : World) : (zeroValue 3).run Tryz.prog w = .ok (.int .i64 0) w := by kernel_rfl
theorem keyI : Keyed Tryz.prog 3 := int_keyed Tryz.underlying3
theorem wfI {x : Int} (h : okI x) : (Lit.int .i64 x).wf = true := by
  obtain ⟨h1, h2⟩ := h
  simp only [Lit.wf, Bool.and_eq_true, decide_eq_true_eq]
  exact ⟨h1, h2⟩
set_option maxRecDepth 100000 in
theorem plainElem_bool_inv {v : Value} {z : DataW Unit × List MemPlace} (h : plainElem Tryz.prog 4 v = some z) : ∃ c, v = .bool c ∧ z = (.lit (.bool c), []) := by
  unfold plainElem at h
  rw [Tryz.underlying4] at h
  cases v <;> simp at h
  subst h
  exact ⟨_, rfl, rfl⟩

/-- Block b is a map that says true of the numbers of S alone. -/
def Seen (W : World) (b n : Nat) (S : List Int) : Prop := ∃ D : DataW Unit, W.ownsMap Tryz.prog 3 (plainElem Tryz.prog 4) b n D ∧ ∀ x, okI x → D.atKey (.int .i64 x) (.lit (.bool false)) = .lit (.bool (decide (x ∈ S)))
theorem Seen.made (w : World) : Seen (w.alloc (.map #[] 0)) w.heap.size 0 [] := ⟨_, World.ownsMap_made w _ _ _, fun x _ => by simp [DataW.atKey]⟩
theorem Seen.lt {W : World} {b n : Nat} {S : List Int} (h : Seen W b n S) : b < W.heap.size := by obtain ⟨D, h, _⟩ := h; exact h.lt
theorem Seen.kept {W W' : World} {b n : Nat} {S : List Int} {row : Option Nat} (h : Seen W b n S) (hg : W.grownBy W' row) (hne : some b ≠ row) : Seen W' b n S := by
  obtain ⟨D, h, hf⟩ := h; exact ⟨D, h.kept hg hne, hf⟩
theorem Seen.look {W : World} {b n : Nat} {S : List Int} (h : Seen W b n S) {x : Int} (hx : okI x) : (Instr.lookup 68 (.map (some b)) (.int .i64 x) false).run Tryz.prog W = .ok (.bool (decide (x ∈ S))) W := by
  obtain ⟨D, h, hf⟩ := h
  obtain ⟨v, ps, hr, hv⟩ := h.lookup keyI Tryz.underlying68 (zeroB W) (plainElem_bool Tryz.underlying4 false) (keyOf_int_mk Tryz.underlying3 (wfI hx))
  obtain ⟨c, rfl, hc⟩ := plainElem_bool_inv hv
  rw [hf x hx] at hc
  cases hc
  exact hr
theorem Seen.put {W : World} {b n : Nat} {S : List Int} (h : Seen W b n S) (hn : n < maxLen) {x : Int} (hx : okI x) : ∃ w', (Instr.mapUpdate 68 (.map (some b)) (.int .i64 x) (.bool true)).run Tryz.prog W = .ok () w' ∧ Seen w' b (n + 1) (S ++ [x]) ∧ W.grownBy w' (some b) := by
  obtain ⟨D, h, hf⟩ := h
  obtain ⟨w', hr, h2, hg⟩ := h.update keyI Tryz.underlying68 hn (keyOf_int_mk Tryz.underlying3 (wfI hx)) (plainElem_bool Tryz.underlying4 true)
  refine ⟨w', hr, ⟨_, h2, fun y hy => ?_⟩, hg⟩
  have hD : IsMap D := by obtain ⟨es, clock, _, _, _, e⟩ := h; exact ⟨_, e⟩
  by_cases e : y = x
  · subst e
    rw [atKey_put_same hD (by simp [WideAt.IsKeyLit])]
    simp
  · rw [atKey_put_other (fun h => by cases h; exact e rfl), hf y hy]
    simp [e]
end Go.Proofs.YtdigiaigbcfccaaGreatDoor

namespace Go.Proofs.YtdigiaigbcfccaaGreatDoor
open Go.RowKit Go Go.Shelf

attribute [local go_sem] Oper.semAt_some

def addV (S : List Int) (x : Int × Tr) : List Int := if x.2.kind = 1 ∧ ¬ x.2.num ∈ S then S ++ [x.2.num] else S
def varsP (S : List Int) (xs : List (Int × Tr)) : List Int := xs.foldl addV S
/-- The variables of the trees, each where it is first met. -/
def varsL (S : List Int) (l : List Tr) : List Int := l.foldl (fun S t => varsP S (preT 1 t)) S
theorem varsP_snoc (S : List Int) (xs : List (Int × Tr)) (x : Int × Tr) : varsP S (xs ++ [x]) = addV (varsP S xs) x := by simp [varsP]
theorem addV_length (S : List Int) (x : Int × Tr) : (addV S x).length ≤ S.length + 1 := by unfold addV; split <;> simp
theorem varsP_length (S : List Int) : ∀ xs : List (Int × Tr), (varsP S xs).length ≤ S.length + xs.length := by
  intro xs
  induction xs generalizing S with
  | nil => simp [varsP]
  | cons x xs ih => have := ih (addV S x); have := addV_length S x; simp only [varsP, List.foldl_cons, List.length_cons] at *; omega
theorem varsL_take (S : List Int) {l : List Tr} {j : Nat} (h : j < l.length) : varsL S (l.take (j + 1)) = varsP (varsL S (l.take j)) (preT 1 l[j]) := by
  rw [varsL, List.take_succ_eq_append_getElem h, List.foldl_append]; rfl

/-- What the function holds between two nodes. -/
def VS (w : World) (Bo Bs Bm : Nat) (marks : List Nat) (S : List Int) (W : World) : Prop :=
  ∃ (v : Value) (n : Nat), Box W Bo #[v] 30 ∧ Box W Bs #[.map (some Bm)] 68 ∧ Nums w.heap.size W v S ∧ Seen W Bm n S ∧ n ≤ S.length ∧ (∀ D, D ∈ marks → W.heap[D]? = some (.deferred (some []))) ∧ Below w.heap.size w W
theorem VS.own {β : Type} {w : World} {Bo Bs Bm B : Nat} {marks : List Nat} (S : β → List Int) (hm : Bm < B) (hD : ∀ D, D ∈ marks → D < B) (hw : w.heap.size ≤ B) : OwnFrom B (fun s W => VS w Bo Bs Bm marks (S s) W) := by
  rintro s X Y row ⟨v, n, h1, h2, h3, h4, h5, h6, h7⟩ hg hr
  have hr2 : ∀ r, row = some r → ∃ o : Obj, X.heap[r]? = some o ∧ o.isCells = false := fun r e => (hr r e).2
  refine ⟨v, n, Box.own _ _ (fun _ => _) () X Y row h1 hg hr2, Box.own _ _ (fun _ => _) () X Y row h2 hg hr2, ?_, h4.kept hg (fun e => by have := (hr _ e.symm).1; omega), h5, fun D hDm => (hg.block D (Array.getElem?_eq_some_iff.1 (h6 D hDm)).1 (fun e => by have := (hr _ e.symm).1; have := hD D hDm; omega)).trans (h6 D hDm), ?_⟩
  · refine h3.at fun g hgb => ?_
    obtain ⟨_, cur, hc⟩ := h3.cells g hgb
    refine hg.block g hc.lt fun e => ?_
    obtain ⟨o, ho, hn⟩ := hr2 g e.symm
    rw [Box, ho] at hc
    cases hc
    cases hn
  · exact h7.trans (grown_below' hg h7.size fun g e => by have := (hr g e).1; omega)

theorem Seen.not_box {W : World} {b n B : Nat} {S : List Int} {cs : Array Value} {t : TypeId} (h : Seen W b n S) (hB : Box W B cs t) : B ≠ b := fun e => by
  subst e
  obtain ⟨D, ⟨es, clock, hm, _⟩, _⟩ := h
  rw [show W.heap[B]? = some _ from hB] at hm
  cases hm

/-- The marks of loops over iterators that are over. -/
def mark (D : Nat) : Deferred := { target := .collected D, args := #[] }
theorem leaves_marks {F : Fence} {n : Nat} {P : Program} {fn : Func} {tmps : Array Value} {R : Ending → World → Prop} {B : Nat} {Pf : World → Prop}
    (hP : ∀ (W : World) (l : Nat), Pf W → B ≤ l → W.heap[l]? = some (.deferred (some [])) → Pf (W.putObj l (.deferred none))) (hend : ∀ W, Pf W → LeavesInM F n P fn tmps R [] .returning W) :
    ∀ (marks : List Nat) (W : World), marks.Nodup → (∀ D, D ∈ marks → B ≤ D ∧ W.heap[D]? = some (.deferred (some []))) → Pf W → LeavesInM F n P fn tmps R (marks.map mark) .returning W
  | [], W, _, _, hW => hend W hW
  | D :: ds, W, hn, hD, hW => by
    obtain ⟨hB, hd⟩ := hD D (by simp)
    refine ⟨by simp, .inl ⟨D, _, rfl, run_takeDeferred hd, ?_⟩⟩
    rw [List.nodup_cons] at hn
    refine leaves_marks hP hend ds _ hn.2 (fun E hE => ?_) (hP W D hW hB hd)
    obtain ⟨h1, h2⟩ := hD E (by simp [hE])
    exact ⟨h1, (World.putObj_heap_other (fun e => by subst e; exact hn.1 hE)).trans h2⟩

def VarsPost (l : List Tr) (w : World) (e : Ending) (w' : World) : Prop := Below w.heap.size w w' ∧ match togB l with
  | true => ∃ v, e = .returned (.tuple #[v, .int .i64 0]) ∧ Nums w.heap.size w' v (varsL [] l)
  | false => e = .returned (.tuple #[.slice none 0 0, .int .i64 3])

set_option maxRecDepth 100000 in
set_option maxHeartbeats 2000000 in
theorem Vars_any (l : List Tr) (a : Option Addr) (c : Nat) (w : World) (hm : l.length ≤ maxLen) (hl : IsL w.heap.size w l a) (hdp : ∀ t, t ∈ l → t.deep ≤ 999999999) :
    Calls Tryz.prog 8 #[.slice a l.length c] w (VarsPost l w) := by
  unfold maxLen at hm
  refine (callsIn_wide (n := 9)).1 ?_
  generalize hF : Fence.wide = F
  have hd : F.depth = none := by subst hF; rfl
  have hf : ∀ f, F.fn f := fun f => by subst hF; trivial
  have hro : F.round = none := by subst hF; rfl
  have HL := Lib.hid hl
  refine callsIn_of_wp_marks Tryz.func8 rfl (hf _) ?_ hro
  simp only [Tryz.ntmps8, List.size_toArray, List.length_cons, List.length_nil, Nat.reduceAdd, Nat.reduceSub, Array.replicate_succ, Array.replicate_zero, List.push_toArray, List.append_toArray, List.nil_append, List.cons_append]
  gi_wp2_with fail
  refine CallsIn.mono (callsIn_of_calls hF (checkAll_any l a c w (by unfold maxLen; omega) hl hdp)) ?_
  rintro e w1 ⟨rfl, hB1⟩
  have HD := Lib.hid hdp
  clear hdp hl
  generalize hbT' : togB l = bT
  have hbT := Lib.hid hbT'
  clear hbT'
  cases bT with
  | false =>
    gi_wp2_with fail
    refine ⟨.tuple #[.slice none 0 0, .int .i64 3], by simp [results, Tryz.results8, go_sem]; rfl, hB1, ?_⟩
    rw [hbT.out]
  | true =>
    have hmm := @run_makeMap Tryz.prog
    gi_wp2_with fail
    have hs0 : VS w w1.heap.size (w1.heap.size + 1 + 1) (w1.heap.size + 1) [] [] (((w1.alloc (.cells #[.slice none 0 0] 30)).alloc (.map #[] 0)).alloc (.cells #[.map (some (w1.heap.size + 1))] 68)) := by
      refine ⟨_, 0, ((Box.at rfl).alloc _).alloc _, Box.at (by simp), World.ownsRow_nil _ _ _ _, ?_, Nat.le_refl _, fun D h => by simp at h, hB1.trans (below_a3 hB1.size _ _ _)⟩
      have h := Seen.made (w1.alloc (.cells #[.slice none 0 0] 30))
      rw [World.size_alloc] at h
      exact h.kept (World.grownBy_alloc _ _ none) (by simp)
    have hsz0 : (((w1.alloc (.cells #[.slice none 0 0] 30)).alloc (.map #[] 0)).alloc (.cells #[.map (some (w1.heap.size + 1))] 68)).heap.size = w1.heap.size + 3 := by simp
    refine wpIn_loop (fun a' wr => ∃ (u : Nat → Value) (j : Nat) (marks : List Nat), a' = { tmps := #[.slice a l.length c, undef, .slice none 0 0, .int .i64 0, .int .i64 (errI true), .pointer (some ⟨w1.heap.size, 0, none⟩), .pointer (some ⟨w1.heap.size + 1 + 1, 0, none⟩), undef, u 8, undef, undef, .slice a l.length c, .int .i64 (errI true), .int .i64 (errI true), .bool (errI true != 0), undef, .map (some (w1.heap.size + 1)), .slice a l.length c, .int .i64 l.length, .int .i64 (j : Nat), u 20, u 21, u 22, u 23, u 24, undef, undef, undef, undef, undef, undef, undef, undef, undef, undef, undef, undef, undef, undef, undef, undef, undef, undef, undef, undef, u 45, undef], defers := marks.map mark } ∧
      j ≤ l.length ∧ marks.Nodup ∧ (∀ D, D ∈ marks → w1.heap.size + 3 ≤ D ∧ D < wr.heap.size) ∧ VS w w1.heap.size (w1.heap.size + 1 + 1) (w1.heap.size + 1) marks (varsL [] (l.take j)) wr ∧ w1.heap.size + 3 ≤ wr.heap.size ∧ (varsL [] (l.take j)).length ≤ sizeL (l.take j))
      (fun a' _ => l.length - (intOf (a'.tmps.getD 19 undef)).toNat) ⟨fun _ => undef, 0, [], rfl, Nat.zero_le _, List.nodup_nil, fun D h => by simp at h, hs0, by omega, by simp [varsL]⟩ ?_
    rintro a' wr ⟨u, j, marks, rfl, hj, hnd, hmk, hvs, hsz, hlen⟩
    by_cases hlt : j < l.length
    · obtain ⟨b, off, rfl, hb⟩ := HL.out.addr (by omega)
      obtain ⟨v0, n0, v1, v2, v3, v4, v5, v6, v7⟩ := hvs
      obtain ⟨tk, tn, ts, tl, ta, tc, te, c0, c1, c2, c3, ht⟩ := HL.out.node' hb v7 j hlt
      have hbw : b < wr.heap.size := by have := v7.size; omega
      have hVS := Lib.hid (show VS w w1.heap.size (w1.heap.size + 1 + 1) (w1.heap.size + 1) marks (varsL [] (l.take j)) wr from ⟨v0, n0, v1, v2, v3, v4, v5, v6, v7⟩)
      have hdj := HD.out _ (List.getElem_mem hlt)
      have Te := Lib.hid te
      rw [te] at ht hdj
      have hB5 := v7.trans (below_a2 v7.size (.cells #[.int .i64 tk, .int .i64 tn, .string ts, .slice ta tl.length tc] 24) (.cells #[.int .i64 tk, .int .i64 tn, .string ts, .slice ta tl.length tc] 24))
      have hwr := v7.size
      have hszl : sizeL (l.take j) + (Tr.node tk tn ts tl).size ≤ 4000 := by
        have h1 := size_take j hlt
        rw [te] at h1
        have h2 := hbT.out
        simp [togB] at h2
        omega
      clear v1 v2 v3 v4 v5 v6 v7 te
      gi_wp2_with fail
      refine CallsIn.mono (callsIn_of_calls hF (nodes_any _ tk tn ts ta tl.length tc rfl _)) ?_
      rintro e w' ⟨rfl, rfl⟩
      gi_wp2_with fail
      have hs5 : ((wr.alloc (.cells #[.int .i64 tk, .int .i64 tn, .string ts, .slice ta tl.length tc] 24)).alloc (.cells #[.int .i64 tk, .int .i64 tn, .string ts, .slice ta tl.length tc] 24)).heap.size = wr.heap.size + 2 := by simp
      have hown := VS.own (w := w) (Bo := w1.heap.size) (Bs := w1.heap.size + 1 + 1) (Bm := w1.heap.size + 1) (B := wr.heap.size + 2) (marks := marks) (fun pre : List (Nd w.heap.size w) => varsP (varsL [] (l.take j)) (pre.map Nd.fg)) (by omega) (fun D hD => by have := (hmk D hD).2; omega) (by omega)
      have hown0 := VS.own (w := w) (Bo := w1.heap.size) (Bs := w1.heap.size + 1 + 1) (Bm := w1.heap.size + 1) (B := wr.heap.size) (marks := marks) (fun _ : Unit => varsL [] (l.take j)) (by omega) (fun D hD => (hmk D hD).2) (by omega)
      have hin := hown0.alloc (s := ()) (.cells #[.int .i64 tk, .int .i64 tn, .string ts, .slice ta tl.length tc] 24) (hown0.alloc (s := ()) (.cells #[.int .i64 tk, .int .i64 tn, .string ts, .slice ta tl.length tc] 24) hVS.out)
      refine range_nodesH hd hf hro (by omega) (wr.heap.size + 1) w.heap.size (.node tk tn ts tl) (.agg #[.int .i64 tk, .int .i64 tn, .string ts, .slice ta tl.length tc]) w rfl (block_at (by simp)) hB5 hB5.size ht hdj rfl
        (fun pre W => VS w w1.heap.size (w1.heap.size + 1 + 1) (w1.heap.size + 1) marks (varsP (varsL [] (l.take j)) (pre.map Nd.fg)) W ∧ wr.heap.size + 2 ≤ W.heap.size) (fun _ _ _ => False)
        (by rw [hs5]; exact hown.and (fun s W W' row h hg _ => Nat.le_trans h hg.size)) (fun _ _ _ _ _ hs _ _ => hs) ⟨hin, by omega⟩ ?_
      rw [hs5]
      clear hin
      apply Exists.intro
      apply And.intro
      · rintro l2 pre ⟨⟨d, T', v'⟩, hT', hd'⟩ Wb K hI hK
        cases T' with
        | node k' n' s' ts' =>
        obtain ⟨a', c', rfl, _⟩ := hT'.open
        simp only [Nd.encs]
        gi_wp2_with fail
        have hblk := World.alloc_heap_new Wb (.cells #[.int .i64 k', .int .i64 n', .string s', .slice a' ts'.length c'] 24)
        have hsW : w.heap.size ≤ Wb.heap.size := by have := hI.2; omega
        have hKT := (KT.refl w.heap.size Wb).alloc hsW (.cells #[.int .i64 k', .int .i64 n', .string s', .slice a' ts'.length c'] 24)
        have hI' := And.intro (hown.alloc (s := pre) (.cells #[.int .i64 k', .int .i64 n', .string s', .slice a' ts'.length c'] 24) hI.1) (show wr.heap.size + 2 ≤ (Wb.alloc (.cells #[.int .i64 k', .int .i64 n', .string s', .slice a' ts'.length c'] 24)).heap.size by have := hI.2; simp; omega)
        have hKF := (KeepsOthers.alloc Wb (.cells #[.int .i64 k', .int .i64 n', .string s', .slice a' ts'.length c'] 24)).from
        replace hK := fun Bx W' => hK Bx W'
        dsimp only [Value.cells] at hK
        generalize Wb.alloc (.cells #[.int .i64 k', .int .i64 n', .string s', .slice a' ts'.length c'] 24) = W' at *
        generalize Wb.heap.size = Bx at *
        replace hK := hK Bx W' (hKF _) hKT hI' hblk
        generalize Value.agg #[.int .i64 k', .int .i64 n', .string s', .slice a' ts'.length c'] = v' at *
        exact hK
      refine ⟨?_, ?_, fun D c pre W _ _ h _ => h.elim⟩
      · rintro l2 pre ⟨⟨d, T', v'⟩, hT', hd'⟩ Bx Wb ⟨hvs, hsb⟩ hx hpre
        cases T' with
        | node k' n' s' ts' =>
        obtain ⟨a', c', rfl, hok1, hok, _⟩ := hT'.open
        dsimp only [Value.cells] at hx
        have hxB : Box Wb Bx #[.int .i64 k', .int .i64 n', .string s', .slice a' ts'.length c'] 24 := hx
        have hm : varsP (varsL [] (l.take j)) (List.map Nd.fg (pre ++ [(⟨(d, .node k' n' s' ts', _), hT', hd'⟩ : Nd w.heap.size w)])) = addV (varsP (varsL [] (l.take j)) (List.map Nd.fg pre)) (d, .node k' n' s' ts') := by rw [List.map_append]; exact varsP_snoc _ _ _
        have hln := varsP_length (varsL [] (l.take j)) (List.map Nd.fg pre)
        rw [List.length_map] at hln
        have Hm := Lib.hid hm
        clear hm hx
        obtain ⟨v0, n0, v1, v2, v3, v4, v5, v6, v7⟩ := hvs
        have hVS' := Lib.hid (show VS w w1.heap.size (w1.heap.size + 1 + 1) (w1.heap.size + 1) marks (varsP (varsL [] (l.take j)) (List.map Nd.fg pre)) Wb from ⟨v0, n0, v1, v2, v3, v4, v5, v6, v7⟩)
        have x0 := hxB.cell 0
        have x1 := hxB.cell 1
        have c5 := v1.cell 0
        have f5 := v1.frozen 0
        have c6 := v2.cell 0
        simp only [List.getElem?_toArray, List.getElem?_cons_succ, List.getElem?_cons_zero] at x0 x1 c5 c6
        have hrun := v4.look hok
        generalize hS : varsP (varsL [] (l.take j)) (List.map Nd.fg pre) = S at *
        have fin0 : addV S (d, .node k' n' s' ts') = S → ∀ a0 : Act, ownPostG (wr.heap.size + 2) (KT w.heap.size) (fun (pre : List (Nd w.heap.size w)) W => VS w w1.heap.size (w1.heap.size + 1 + 1) (w1.heap.size + 1) marks (varsP (varsL [] (l.take j)) (pre.map Nd.fg)) W ∧ wr.heap.size + 2 ≤ W.heap.size) (fun _ _ _ => False) (pre ++ [⟨(d, .node k' n' s' ts', .agg #[.int .i64 k', .int .i64 n', .string s', .slice a' ts'.length c']), hT', hd'⟩]) Wb .normal a0 Wb := fun h a0 => ⟨KeepsFrom.refl _ _, KT.refl _ _, by rw [Hm.out, h]; exact hVS'.out, hsb⟩
        by_cases hk : k' = 1
        · by_cases hmem : n' ∈ S
          · have Hmem := Lib.hid hmem
            have hdec : decide (n' ∈ S) = true := by simpa using hmem
            rw [hdec] at hrun
            subst hk
            have Hf := Lib.hid (fin0 (by simp [addV, Hmem.out, Tr.num]))
            clear fin0 hmem v1 v2 v3 v4 v5 v6 hxB
            gi_wp2_with fail
            exact Hf.out _
          · have hdec : decide (n' ∈ S) = false := by simpa using hmem
            rw [hdec] at hrun
            subst hk
            have hadd : Hid (addV S (d, .node 1 n' s' ts') = S ++ [n']) := by simp [Hid, addV, hmem, Tr.num, Tr.kind]
            clear fin0
            obtain ⟨i0, hi, hz0, hz1, hz2⟩ := info_parts infoInt
            have hSl : S.length ≤ 8000 := by omega
            obtain ⟨w2, hrun2, hseen2, hg2⟩ := v4.put (n := n0) (by unfold maxLen; omega) hok
            have hneX := v4.not_box hxB
            have q1 : Box w2 w1.heap.size #[v0] 30 := (hg2.block _ v1.lt (by simp)).trans v1
            have qx : Box w2 Bx #[.int .i64 1, .int .i64 n', .string s', .slice a' ts'.length c'] 24 := (hg2.block _ hxB.lt (by simpa using hneX)).trans hxB
            have N2 : Nums w.heap.size w2 v0 S := v3.at fun g hg => by
              obtain ⟨_, cur, hc⟩ := v3.cells g hg
              exact hg2.block g hc.lt (by simpa using v4.not_box hc)
            have y1 := qx.cell 1
            have d5 := q1.cell 0
            have g5 := q1.frozen 0
            simp only [List.getElem?_toArray, List.getElem?_cons_succ, List.getElem?_cons_zero] at y1 d5
            have hl1 := v1.lt
            have hl2 := q1.lt
            have hlx := qx.lt
            have hsw2 := hg2.size
            have V := Lib.hid (And.intro v1 (And.intro v2 (And.intro v3 (And.intro v4 (And.intro v5 (And.intro v6 v7))))))
            have HX := Lib.hid (And.intro hseen2 (And.intro hg2 (And.intro q1 (And.intro N2 hxB))))
            clear v1 v2 v3 v4 v5 v6 v7 hseen2 hg2 q1 qx hneX hxB
            gi_wp2_with (gi_at_builtin; refine wpListIn_append_where _ rfl _ _ 30 rfl w.heap.size 3 i0 (.int .i64 0) 1 8 Tryz.underlying30 hi hz0 hz1 hz2 rfl (by decide) _ _ _ rfl (World.ownsRow.alloc N2 _) ⟨w2.heap.size, 0, none⟩ 1 1 [.int .i64 n'] rfl rfl (cell_one_new _ _ _) (fun x hx => by simp at hx; subst hx; rfl) (by unfold maxLen; omega) (by omega) (by simp; omega) ?_)
            intro v' w4 hown hgrow hwh
            obtain ⟨v1, v2, v3, v4, v5, v6, v7⟩ := V.out
            obtain ⟨hseen2, hg2, q1, N2', hxB⟩ := HX.out
            obtain ⟨g, cap, hv'⟩ := ownsRow_succ hown
            have hne1 := N2'.not_box q1 (by decide)
            have q4 : Box w4 w1.heap.size #[v0] 30 := (hgrow.block _ (q1.alloc _).lt hne1).trans (q1.alloc _)
            have e5 := q4.cell 0
            have h5 := q4.frozen 0
            simp only [List.getElem?_toArray, List.getElem?_cons_zero] at e5
            have hN4 : Nums w.heap.size w4 v' (S ++ [n']) := by simpa [Nums, ints] using hown
            have hkeep : ∀ k, k < Wb.heap.size → k ≠ w1.heap.size + 1 → some k ≠ v0.ownBlock → k ≠ w1.heap.size → (w4.setCell ⟨w1.heap.size, 0, none⟩ v').heap[k]? = Wb.heap[k]? := fun k hk hm hn hB =>
              (Below.heap_setCell w4 ⟨w1.heap.size, 0, none⟩ v' k hB).trans ((hgrow.block k (by simp; omega) hn).trans ((Below.heap_alloc w2 _ k (by omega)).trans (hg2.block k hk (by simpa using hm))))
            have hKF : KeepsFrom (wr.heap.size + 2) Wb (w4.setCell ⟨w1.heap.size, 0, none⟩ v') := ((((KeepsFrom.of_grownBy hg2 (fun j e => by cases e; omega)).trans ((KeepsOthers.alloc w2 _).from _)).trans ((KeepsOthers.of_grownBy hgrow fun j o ej hj => row_cells (World.ownsRow.alloc N2' _) j o ej hj).from _)).trans ((KeepsOthers.setCell w4 ⟨w1.heap.size, 0, none⟩ v').from _))
            have hb0 : w.heap.size ≤ w1.heap.size := hB1.size
            have hKB : Below w.heap.size Wb (w4.setCell ⟨w1.heap.size, 0, none⟩ v') := (((grown_below' hg2 (by omega) (fun g e => by cases e; omega)).trans (below_a1 (by omega) _)).trans (grown_below' hgrow (by simp; omega) (fun g e => (N2'.cells g e).1))).setCell (p := ⟨w1.heap.size, 0, none⟩) hb0 v'
            have hKT : KT w.heap.size Wb (w4.setCell ⟨w1.heap.size, 0, none⟩ v') := by
              refine ⟨hKB, fun k cs fr hk => (hkeep k (Array.getElem?_eq_some_iff.1 hk).1 (fun e => ?_) (fun e => ?_) (fun e => ?_)).trans hk⟩
              · subst e
                obtain ⟨D, ⟨es, clock, hm, _⟩, _⟩ := v4
                rw [hk] at hm
                cases hm
              · obtain ⟨_, cur, hc⟩ := v3.cells k e.symm
                rw [Box, hk] at hc
                cases hc
              · subst e
                rw [show Wb.heap[_]? = some _ from v1] at hk
                cases hk
            have hgt : ∀ D, D ∈ marks → w1.heap.size + 3 ≤ D := fun D hD => (hmk D hD).1
            have hVSn : VS w w1.heap.size (w1.heap.size + 1 + 1) (w1.heap.size + 1) marks (S ++ [n']) (w4.setCell ⟨w1.heap.size, 0, none⟩ v') := by
              refine ⟨v', n0 + 1, by simpa using q4.set 0 v', (hkeep _ v2.lt (by omega) (v3.not_box v2 (by decide)) (by omega)).trans v2, hN4.at fun k hk => ?_, ?_, by simp; omega, fun D hD => (hkeep D (Array.getElem?_eq_some_iff.1 (v6 D hD)).1 (by have := hgt D hD; omega) (fun e => ?_) (by have := hgt D hD; omega)).trans (v6 D hD), v7.trans hKB⟩
              · obtain ⟨_, cur, hc⟩ := hN4.cells k hk
                exact Below.heap_setCell w4 ⟨w1.heap.size, 0, none⟩ v' k (fun e => by
                  subst e
                  rw [Box, show w4.heap[_]? = some _ from q4] at hc
                  cases hc)
              · refine ((hseen2.kept (World.grownBy_alloc w2 _ none) (by simp)).kept hgrow (fun e => ?_)).kept (grown_set w1.heap.size 0 w4 v') (by simp)
                obtain ⟨_, cur, hc⟩ := N2'.cells _ e.symm
                exact hseen2.not_box hc rfl
              · obtain ⟨_, cur, hc⟩ := v3.cells D e.symm
                rw [Box, v6 D hD] at hc
                cases hc
            have hs4 : wr.heap.size + 2 ≤ w4.heap.size := by have := hgrow.size; simp at this; omega
            have HF := Lib.hid (And.intro hKF (And.intro hKT hVSn))
            clear hKF hKT hVSn hKB hkeep v1 v2 v3 v4 v5 v6 v7 hseen2 hg2 q1 N2' hxB hown hgrow hwh hN4 N2
            subst hv'
            gi_wp2_with fail
            refine ⟨HF.out.1, HF.out.2.1, ?_, by simpa using hs4⟩
            rw [Hm.out, hadd.out]
            exact HF.out.2.2
        · have hk' : (k' == 1) = false := by simpa using hk
          have Hf := Lib.hid (fin0 (by simp [addV, hk, Tr.kind]))
          have Hk := Lib.hid hk
          clear hk fin0 v1 v2 v3 v4 v5 v6 hxB hrun
          gi_wp2_with fail
          exact Hf.out _
      · rintro D xs W hDle hxs ⟨hvs, hsb⟩ hK
        gi_wp2_with fail
        have hDl : D < W.heap.size := (Array.getElem?_eq_some_iff.1 hK).1
        have e1 : varsL [] (l.take (j + 1)) = varsP (varsL [] (l.take j)) (List.map Nd.fg xs) := by rw [varsL_take [] hlt, Te.out, hxs]
        have e2 := varsP_length (varsL [] (l.take j)) (List.map Nd.fg xs)
        have e3 : (List.map Nd.fg xs).length = (Tr.node tk tn ts tl).size := by rw [hxs, preT_length]
        have e4 : sizeL (l.take (j + 1)) = sizeL (l.take j) + (Tr.node tk tn ts tl).size := by rw [List.take_succ_eq_append_getElem hlt, sizeL_append, Te.out]; simp [sizeL]
        refine ⟨⟨fun i => match i with | 8 => .pointer (some ⟨wr.heap.size, 0, none⟩) | 20 => .bool true | 21 => .pointer (some ⟨b, off + j * 4, none⟩) | 22 => .agg #[.int .i64 tk, .int .i64 tn, .string ts, .slice ta tl.length tc] | 23 => .agg #[.int .i64 tk, .int .i64 tn, .string ts, .slice ta tl.length tc] | 24 => .func (.func 68) #[] #[.pointer (some ⟨wr.heap.size + 1, 0, none⟩)] | 45 => .int .i64 ((j : Int) + 1) | _ => undef, j + 1, D :: marks, ?_, hlt, ?_, ?_, ?_, by omega, by rw [e1]; omega⟩, ?_⟩
        · rw [show (((j + 1 : Nat)) : Int) = (j : Int) + 1 from by omega]
          rfl
        · rw [List.nodup_cons]
          exact ⟨fun h => by have := (hmk D h).2; omega, hnd⟩
        · intro E hE
          rcases List.mem_cons.1 hE with rfl | hE
          · omega
          · have := hmk E hE; omega
        · rw [e1]
          obtain ⟨v0, n0, v1, v2, v3, v4, v5, v6, v7⟩ := hvs
          refine ⟨v0, n0, v1, v2, v3, v4, v5, fun E hE => ?_, v7⟩
          rcases List.mem_cons.1 hE with rfl | hE
          · exact hK
          · exact v6 E hE
        · simp [intOf]
          omega
    · obtain ⟨v0, n0, v1, v2, v3, v4, v5, v6, v7⟩ := hvs
      have hjl : j = l.length := by omega
      subst hjl
      rw [List.take_length] at v3
      have c5 := v1.cell 0
      simp only [List.getElem?_toArray, List.getElem?_cons_zero] at c5
      have hlo := v1.lt
      have V := Lib.hid (And.intro v3 (And.intro v6 v7))
      clear v1 v2 v3 v4 v5 v6 v7
      gi_wp2_with fail
      refine leaves_marks (B := w1.heap.size + 3) (Pf := fun W => Nums w.heap.size W v0 (varsL [] l) ∧ Below w.heap.size w W) ?_ ?_ marks wr hnd (fun D hD => ⟨(hmk D hD).1, V.out.2.1 D hD⟩) ⟨V.out.1, V.out.2.2⟩
      · rintro W D ⟨h1, h2⟩ hB hd
        exact ⟨h1.put hd rfl _, h2.trans (belowK_b (w := w) (Nat.le_refl _) W D _ (.deferred none) (by have := hB1.size; omega) hd rfl rfl)⟩
      · rintro W ⟨h1, h2⟩
        refine ⟨.tuple #[v0, .int .i64 0], by simp [results, Tryz.results8, go_sem], h2, ?_⟩
        rw [hbT.out]
        exact ⟨_, rfl, h1⟩
end Go.Proofs.YtdigiaigbcfccaaGreatDoor

namespace Go.Proofs.YtdigiaigbcfccaaGreatDoor
open Go.RowKit Go

mutual
/-- The tree with its variables numbered otherwise. -/
def renT (f : Int → Int) : Tr → Tr
  | .node k n s l => .node k (if k = 1 then f n else n) s (renL f l)
def renL (f : Int → Int) : List Tr → List Tr
  | [] => []
  | t :: ts => renT f t :: renL f ts
end
theorem renL_map (f : Int → Int) : ∀ l : List Tr, renL f l = l.map (renT f)
  | [] => rfl
  | t :: ts => by simp [renL, renL_map f ts]

set_option maxRecDepth 100000 in
set_option maxHeartbeats 1000000 in
theorem rename1_any (g : Nat) (first captured : Array Value) (Bn : Nat) (T T' : Tr) (v : Value) (W : World) (hT : IsT W.heap.size W T v) (hn : Box W Bn #[.func (.func g) first captured] 102)
    (hcall : ∀ v' W', Below W.heap.size W W' → IsT W'.heap.size W' T v' → Calls Tryz.prog 59 #[v', .func (.func g) first captured] W' (fun e W2 => ∃ u, e = .returned u ∧ IsP (New W'.heap.size W2) W2 T' u ∧ Below W'.heap.size W' W2)) :
    Calls Tryz.prog 84 #[v, .pointer (some ⟨Bn, 0, none⟩)] W fun e W' => ∃ u, e = .returned u ∧ IsP (New W.heap.size W') W' T' u ∧ Below W.heap.size W W' := by
  cases T with
  | node k n s l =>
  cases T' with
  | node k' n' s' l' =>
  have hT' := hT
  obtain ⟨a, c, rfl, _⟩ := hT'.open
  have cn := hn.cell 0
  simp only [List.getElem?_toArray, List.getElem?_cons_zero] at cn
  have hnl := hn.lt
  have H := Lib.hid hT
  have HC := Lib.hid hcall
  clear hT hT' hcall
  go_enter Tryz.func84, Tryz.ntmps84
  go_wp2_with fail
  have hb2 : Box ((W.alloc (.cells #[.int .i64 k, .int .i64 n, .string s, .slice a l.length c] 24)).alloc (.cells #[.int .i64 0, .int .i64 0, .string ⟨#[]⟩, .slice none 0 0] 24)) (W.heap.size + 1) #[.int .i64 0, .int .i64 0, .string ⟨#[]⟩, .slice none 0 0] 24 := Box.at (by simp)
  have hB0 := below_a2 (Nat.le_refl W.heap.size) (.cells #[.int .i64 k, .int .i64 n, .string s, .slice a l.length c] 24) (.cells #[.int .i64 0, .int .i64 0, .string ⟨#[]⟩, .slice none 0 0] 24)
  refine (HC.out _ _ hB0 (H.out.up hB0 hB0.size)).mono ?_
  rintro e w1 ⟨u, rfl, hP, hB1⟩
  obtain ⟨a', c', rfl, h1, h2, h3, h4, h5, hl⟩ := hP.open
  have hb2' := Box.keep hB1 hb2
  have hB2 := hB0.trans (hB1.mono hB0.size)
  have hsz1 := hB1.size
  simp only [World.size_alloc] at hsz1
  have HP := Lib.hid (And.intro h1 (And.intro h2 (And.intro h3 (And.intro h4 (And.intro h5 hl)))))
  clear hP hb2 hB0 hB1 h1 h2 h3 h4 h5 hl hn
  have g0 := hb2'.frozen 0
  have g1 := hb2'.frozen 1
  have g2 := hb2'.frozen 2
  have g3 := hb2'.frozen 3
  have u0 := hb2'.cell 0
  have u1 := hb2'.cell 1
  have u2 := hb2'.cell 2
  have u3 := hb2'.cell 3
  simp only [List.getElem?_toArray, List.getElem?_cons_succ, List.getElem?_cons_zero] at u0 u1 u2 u3
  go_wp2_with fail
  have z := (((hb2'.set 0 (.int .i64 k')).set 1 (.int .i64 n')).set 2 (.string s')).set 3 (.slice a' l'.length c')
  have zB := (((hB2.setCell (p := ⟨W.heap.size + 1, 0, none⟩) (by simp) (.int .i64 k')).setCell (p := ⟨W.heap.size + 1, 1, none⟩) (by simp) (.int .i64 n')).setCell (p := ⟨W.heap.size + 1, 2, none⟩) (by simp) (.string s')).setCell (p := ⟨W.heap.size + 1, 3, none⟩) (by simp) (.slice a' l'.length c')
  have y0 := z.cell 0
  have y1 := z.cell 1
  have y2 := z.cell 2
  have y3 := z.cell 3
  have zP := IsPL.map (q := New W.heap.size ((((w1.setCell ⟨W.heap.size + 1, 0, none⟩ (.int .i64 k')).setCell ⟨W.heap.size + 1, 1, none⟩ (.int .i64 n')).setCell ⟨W.heap.size + 1, 2, none⟩ (.string s')).setCell ⟨W.heap.size + 1, 3, none⟩ (.slice a' l'.length c'))) (B := ((((w1.setCell ⟨W.heap.size + 1, 0, none⟩ (.int .i64 k')).setCell ⟨W.heap.size + 1, 1, none⟩ (.int .i64 n')).setCell ⟨W.heap.size + 1, 2, none⟩ (.string s')).setCell ⟨W.heap.size + 1, 3, none⟩ (.slice a' l'.length c')))
    (fun b hb => by
      obtain ⟨hb1, hb2⟩ := hb
      simp only [World.size_alloc] at hb1
      refine ⟨⟨by omega, by simpa using hb2⟩, ?_⟩
      rw [Below.heap_setCell _ _ _ _ (by simp; omega), Below.heap_setCell _ _ _ _ (by simp; omega), Below.heap_setCell _ _ _ _ (by simp; omega), Below.heap_setCell _ _ _ _ (by simp; omega)]) l' a' HP.out.2.2.2.2.2
  clear z u0 u1 u2 u3 g0 g1 g2 g3 hb2'
  generalize ((((w1.setCell ⟨W.heap.size + 1, 0, none⟩ (.int .i64 k')).setCell ⟨W.heap.size + 1, 1, none⟩ (.int .i64 n')).setCell ⟨W.heap.size + 1, 2, none⟩ (.string s')).setCell ⟨W.heap.size + 1, 3, none⟩ (.slice a' l'.length c')) = FW at *
  simp at y0 y1 y2 y3
  exact bodyPost_ret (v := .agg #[.int .i64 k', .int .i64 n', .string s', .slice a' l'.length c']) (by simp [results, Tryz.results84, go_sem, y0, y1, y2, y3]) rfl ⟨_, rfl, IsP.mk HP.out.1 HP.out.2.1 HP.out.2.2.1 HP.out.2.2.2.1 HP.out.2.2.2.2.1 zP, zB⟩

set_option maxRecDepth 100000 in
set_option maxHeartbeats 1000000 in
theorem normal2_any (g : Nat) (first captured : Array Value) (Bn : Nat) (T T' : Tr) (v : Value) (W : World) (hT : IsT W.heap.size W T v) (hn : Box W Bn #[.func (.func g) first captured] 102)
    (hcall : ∀ v' W', Below W.heap.size W W' → IsT W'.heap.size W' T v' → Calls Tryz.prog 59 #[v', .func (.func g) first captured] W' (fun e W2 => ∃ u, e = .returned u ∧ IsP (New W'.heap.size W2) W2 T' u ∧ Below W'.heap.size W' W2)) :
    Calls Tryz.prog 58 #[v, .pointer (some ⟨Bn, 0, none⟩)] W fun e W' => ∃ u, e = .returned u ∧ IsP (New W.heap.size W') W' T' u ∧ Below W.heap.size W W' := by
  cases T with
  | node k n s l =>
  cases T' with
  | node k' n' s' l' =>
  have hT' := hT
  obtain ⟨a, c, rfl, _⟩ := hT'.open
  have cn := hn.cell 0
  simp only [List.getElem?_toArray, List.getElem?_cons_zero] at cn
  have hnl := hn.lt
  have H := Lib.hid hT
  have HC := Lib.hid hcall
  clear hT hT' hcall
  go_enter Tryz.func58, Tryz.ntmps58
  go_wp2_with fail
  have hb2 : Box ((W.alloc (.cells #[.int .i64 k, .int .i64 n, .string s, .slice a l.length c] 24)).alloc (.cells #[.int .i64 0, .int .i64 0, .string ⟨#[]⟩, .slice none 0 0] 24)) (W.heap.size + 1) #[.int .i64 0, .int .i64 0, .string ⟨#[]⟩, .slice none 0 0] 24 := Box.at (by simp)
  have hB0 := below_a2 (Nat.le_refl W.heap.size) (.cells #[.int .i64 k, .int .i64 n, .string s, .slice a l.length c] 24) (.cells #[.int .i64 0, .int .i64 0, .string ⟨#[]⟩, .slice none 0 0] 24)
  refine (HC.out _ _ hB0 (H.out.up hB0 hB0.size)).mono ?_
  rintro e w1 ⟨u, rfl, hP, hB1⟩
  obtain ⟨a', c', rfl, h1, h2, h3, h4, h5, hl⟩ := hP.open
  have hb2' := Box.keep hB1 hb2
  have hB2 := hB0.trans (hB1.mono hB0.size)
  have hsz1 := hB1.size
  simp only [World.size_alloc] at hsz1
  have HP := Lib.hid (And.intro h1 (And.intro h2 (And.intro h3 (And.intro h4 (And.intro h5 hl)))))
  clear hP hb2 hB0 hB1 h1 h2 h3 h4 h5 hl hn
  have g0 := hb2'.frozen 0
  have g1 := hb2'.frozen 1
  have g2 := hb2'.frozen 2
  have g3 := hb2'.frozen 3
  have u0 := hb2'.cell 0
  have u1 := hb2'.cell 1
  have u2 := hb2'.cell 2
  have u3 := hb2'.cell 3
  simp only [List.getElem?_toArray, List.getElem?_cons_succ, List.getElem?_cons_zero] at u0 u1 u2 u3
  go_wp2_with fail
  have z := (((hb2'.set 0 (.int .i64 k')).set 1 (.int .i64 n')).set 2 (.string s')).set 3 (.slice a' l'.length c')
  have zB := (((hB2.setCell (p := ⟨W.heap.size + 1, 0, none⟩) (by simp) (.int .i64 k')).setCell (p := ⟨W.heap.size + 1, 1, none⟩) (by simp) (.int .i64 n')).setCell (p := ⟨W.heap.size + 1, 2, none⟩) (by simp) (.string s')).setCell (p := ⟨W.heap.size + 1, 3, none⟩) (by simp) (.slice a' l'.length c')
  have y0 := z.cell 0
  have y1 := z.cell 1
  have y2 := z.cell 2
  have y3 := z.cell 3
  have zP := IsPL.map (q := New W.heap.size ((((w1.setCell ⟨W.heap.size + 1, 0, none⟩ (.int .i64 k')).setCell ⟨W.heap.size + 1, 1, none⟩ (.int .i64 n')).setCell ⟨W.heap.size + 1, 2, none⟩ (.string s')).setCell ⟨W.heap.size + 1, 3, none⟩ (.slice a' l'.length c'))) (B := ((((w1.setCell ⟨W.heap.size + 1, 0, none⟩ (.int .i64 k')).setCell ⟨W.heap.size + 1, 1, none⟩ (.int .i64 n')).setCell ⟨W.heap.size + 1, 2, none⟩ (.string s')).setCell ⟨W.heap.size + 1, 3, none⟩ (.slice a' l'.length c')))
    (fun b hb => by
      obtain ⟨hb1, hb2⟩ := hb
      simp only [World.size_alloc] at hb1
      refine ⟨⟨by omega, by simpa using hb2⟩, ?_⟩
      rw [Below.heap_setCell _ _ _ _ (by simp; omega), Below.heap_setCell _ _ _ _ (by simp; omega), Below.heap_setCell _ _ _ _ (by simp; omega), Below.heap_setCell _ _ _ _ (by simp; omega)]) l' a' HP.out.2.2.2.2.2
  clear z u0 u1 u2 u3 g0 g1 g2 g3 hb2'
  generalize ((((w1.setCell ⟨W.heap.size + 1, 0, none⟩ (.int .i64 k')).setCell ⟨W.heap.size + 1, 1, none⟩ (.int .i64 n')).setCell ⟨W.heap.size + 1, 2, none⟩ (.string s')).setCell ⟨W.heap.size + 1, 3, none⟩ (.slice a' l'.length c')) = FW at *
  simp at y0 y1 y2 y3
  exact bodyPost_ret (v := .agg #[.int .i64 k', .int .i64 n', .string s', .slice a' l'.length c']) (by simp [results, Tryz.results58, go_sem, y0, y1, y2, y3]) rfl ⟨_, rfl, IsP.mk HP.out.1 HP.out.2.1 HP.out.2.2.1 HP.out.2.2.2.1 HP.out.2.2.2.2.1 zP, zB⟩

theorem enters_rename1 : ∀ args w, (callFunc 84 args).run Tryz.prog w = .ok (.enter 84 args) w := enters_of Tryz.func84 (by kernel_rfl) rfl

set_option maxRecDepth 100000 in
set_option maxHeartbeats 2000000 in
/-- number: a function that hands back f x and leaves what there was. -/
theorem rename_any (g : Nat) (first captured : Array Value) (he : ∀ args w, (callFunc g args).run Tryz.prog w = .ok (.enter g args) w) (f : Int → Int) (hf : ∀ x, okI (f x)) (wz : World)
    (hM : ∀ (x : Int) (W : World), okI x → Below wz.heap.size wz W → Calls Tryz.prog g (first.push (.int .i64 x) ++ captured) W fun e W' => e = .returned (.int .i64 (f x)) ∧ Below W.heap.size W W') (T : Tr) :
    ∀ (v : Value) (w : World), Below wz.heap.size wz w → IsT w.heap.size w T v → T.size ≤ 1000000 → Calls Tryz.prog 59 #[v, .func (.func g) first captured] w fun e w' => ∃ v', e = .returned v' ∧ IsP (New w.heap.size w') w' (renT f T) v' ∧ Below w.heap.size w w' := by
  induction T using Tr.ind with
  | h k n s l ih =>
  intro v w hBw hT hsz
  obtain ⟨a, c, rfl, h1, h2, h3, h4, h5, hl⟩ := hT.open
  simp only [Tr.size] at hsz
  have hlen := length_le_sizeL l
  have HI := Lib.hid ih
  have H := Lib.hid (And.intro h1 (And.intro h2 h3))
  have HL := Lib.hid hl
  have HM := Lib.hid hM
  clear ih hT h1 h3 hl hM
  have hbt : Box (((w.alloc (.cells #[.int .i64 k, .int .i64 n, .string s, .slice a l.length c] 24)).alloc (.cells #[.func (.func g) first captured] 102)).alloc (.cells #[.int .i64 0, .int .i64 0, .string ⟨#[]⟩, .slice none 0 0] 24)) w.heap.size #[.int .i64 k, .int .i64 n, .string s, .slice a l.length c] 24 := ((Box.at rfl).alloc _).alloc _
  have hbn : Box (((w.alloc (.cells #[.int .i64 k, .int .i64 n, .string s, .slice a l.length c] 24)).alloc (.cells #[.func (.func g) first captured] 102)).alloc (.cells #[.int .i64 0, .int .i64 0, .string ⟨#[]⟩, .slice none 0 0] 24)) (w.heap.size + 1) #[.func (.func g) first captured] 102 := (Box.at (by simp)).alloc _
  have hbr : Box (((w.alloc (.cells #[.int .i64 k, .int .i64 n, .string s, .slice a l.length c] 24)).alloc (.cells #[.func (.func g) first captured] 102)).alloc (.cells #[.int .i64 0, .int .i64 0, .string ⟨#[]⟩, .slice none 0 0] 24)) (w.heap.size + 1 + 1) #[.int .i64 0, .int .i64 0, .string ⟨#[]⟩, .slice none 0 0] 24 := Box.at (by simp)
  have hB0 := below_a3 (Nat.le_refl w.heap.size) (.cells #[.int .i64 k, .int .i64 n, .string s, .slice a l.length c] 24) (.cells #[.func (.func g) first captured] 102) (.cells #[.int .i64 0, .int .i64 0, .string ⟨#[]⟩, .slice none 0 0] 24)
  by_cases hk : k = 1
  · subst hk
    have hR : Hid (renT f (.node 1 n s l) = .node 1 (f n) s (l.map (renT f))) := by rw [Hid, renT, renL_map]; simp
    have HNN : okI (f n) := hf n
    go_enter Tryz.func59, Tryz.ntmps59
    go_wp2_with fail
    refine (HM.out n _ h2 (hBw.trans (hB0.mono hBw.size))).mono ?_
    rintro e w0 ⟨rfl, hBc⟩
    replace hbt := Box.keep hBc hbt
    replace hbn := Box.keep hBc hbn
    replace hbr := Box.keep hBc hbr
    replace hB0 := hB0.trans (hBc.mono hB0.size)
    have hs0 := hBc.size
    simp only [World.size_alloc] at hs0
    clear hBc
    have t0 := hbt.cell 0
    have t1 := hbt.cell 1
    have t2 := hbt.cell 2
    have t3 := hbt.cell 3
    have ft := hbt.frozen 1
    simp only [List.getElem?_toArray, List.getElem?_cons_succ, List.getElem?_cons_zero] at t0 t1 t2 t3
    replace hbn := hbn.other (B' := w.heap.size) (by omega) 1 (.int .i64 (f n))
    replace hbr := hbr.other (B' := w.heap.size) (by omega) 1 (.int .i64 (f n))
    replace hbt : Box (w0.setCell ⟨w.heap.size, 1, none⟩ (.int .i64 (f n))) w.heap.size #[.int .i64 1, .int .i64 (f n), .string s, .slice a l.length c] 24 := by simpa using hbt.set 1 (.int .i64 (f n))
    replace hB0 := hB0.setCell (p := ⟨w.heap.size, 1, none⟩) (Nat.le_refl _) (.int .i64 (f n))
    have hsW : w.heap.size + 3 ≤ (w0.setCell ⟨w.heap.size, 1, none⟩ (.int .i64 (f n))).heap.size := by simp; omega
    go_wp2_with fail
    refine (copyEach_any 84 #[] #[.pointer (some ⟨w.heap.size + 1, 0, none⟩)] enters_rename1 l a c _ (by omega) (HL.out.up hB0 hB0.size) (renT f) (fun t ht v W' hW hv => by
      have h := rename1_any g first captured (w.heap.size + 1) t (renT f t) v W' hv (Box.keep hW hbn) (fun v' W2 hW2 hv' => HI.out t ht v' W2 (hBw.trans ((hB0.mono (Nat.le_refl _)).mono hBw.size) |>.trans (hW.mono (Nat.le_trans hBw.size hB0.size)) |>.trans (hW2.mono (Nat.le_trans (Nat.le_trans hBw.size hB0.size) hW.size))) hv' (by have := size_mem ht; omega))
      simpa using h)).mono ?_
    rintro e w1 ⟨a', c', rfl, h6, h7, hP, hB1⟩
    have hb1' := Box.keep hB1 hbt
    have hb2' := Box.keep hB1 hbr
    have hB2 := hB0.trans (hB1.mono hB0.size)
    have hsz1 := hB1.size
    have HP := Lib.hid hP
    clear hP hbt hbr hbn hB0 hB1
    have r0 := hb1'.cell 0
    have r1 := hb1'.cell 1
    have r2 := hb1'.cell 2
    have r3 := hb1'.cell 3
    have f3 := hb1'.frozen 3
    have u0 := hb2'.cell 0
    have u1 := hb2'.cell 1
    have u2 := hb2'.cell 2
    have u3 := hb2'.cell 3
    have g0 := hb2'.frozen 0
    have g1 := hb2'.frozen 1
    have g2 := hb2'.frozen 2
    have g3 := hb2'.frozen 3
    simp only [List.getElem?_toArray, List.getElem?_cons_succ, List.getElem?_cons_zero] at r0 r1 r2 r3 u0 u1 u2 u3
    go_wp2_with fail
    have z := ((((hb2'.other (B' := w.heap.size) (by omega) 3 (.slice a' l.length c')).set 0 (.int .i64 1)).set 1 (.int .i64 (f n))).set 2 (.string s)).set 3 (.slice a' l.length c')
    have zB := ((((hB2.setCell (p := ⟨w.heap.size, 3, none⟩) (Nat.le_refl _) (.slice a' l.length c')).setCell (p := ⟨w.heap.size + 1 + 1, 0, none⟩) (by simp; omega) (.int .i64 1)).setCell (p := ⟨w.heap.size + 1 + 1, 1, none⟩) (by simp; omega) (.int .i64 (f n))).setCell (p := ⟨w.heap.size + 1 + 1, 2, none⟩) (by simp; omega) (.string s)).setCell (p := ⟨w.heap.size + 1 + 1, 3, none⟩) (by simp; omega) (.slice a' l.length c')
    have y0 := z.cell 0
    have y1 := z.cell 1
    have y2 := z.cell 2
    have y3 := z.cell 3
    have zP := IsPL.map (q := New w.heap.size (((((w1.setCell ⟨w.heap.size, 3, none⟩ (.slice a' l.length c')).setCell ⟨w.heap.size + 1 + 1, 0, none⟩ (.int .i64 1)).setCell ⟨w.heap.size + 1 + 1, 1, none⟩ (.int .i64 (f n))).setCell ⟨w.heap.size + 1 + 1, 2, none⟩ (.string s)).setCell ⟨w.heap.size + 1 + 1, 3, none⟩ (.slice a' l.length c'))) (B := ((((w1.setCell ⟨w.heap.size, 3, none⟩ (.slice a' l.length c')).setCell ⟨w.heap.size + 1 + 1, 0, none⟩ (.int .i64 1)).setCell ⟨w.heap.size + 1 + 1, 1, none⟩ (.int .i64 (f n))).setCell ⟨w.heap.size + 1 + 1, 2, none⟩ (.string s)).setCell ⟨w.heap.size + 1 + 1, 3, none⟩ (.slice a' l.length c'))
      (fun b hb => by
        obtain ⟨hb1, hb2⟩ := hb
        refine ⟨⟨by omega, by simpa using hb2⟩, ?_⟩
        rw [Below.heap_setCell _ _ _ _ (by simp; omega), Below.heap_setCell _ _ _ _ (by simp; omega), Below.heap_setCell _ _ _ _ (by simp; omega), Below.heap_setCell _ _ _ _ (by simp; omega), Below.heap_setCell _ _ _ _ (by simp; omega)]) (l.map (renT f)) a' HP.out
    clear z HP r0 r1 r2 r3 f3 u0 u1 u2 u3 g0 g1 g2 g3 hb1' hb2'
    generalize ((((w1.setCell ⟨w.heap.size, 3, none⟩ (.slice a' l.length c')).setCell ⟨w.heap.size + 1 + 1, 0, none⟩ (.int .i64 1)).setCell ⟨w.heap.size + 1 + 1, 1, none⟩ (.int .i64 (f n))).setCell ⟨w.heap.size + 1 + 1, 2, none⟩ (.string s)).setCell ⟨w.heap.size + 1 + 1, 3, none⟩ (.slice a' l.length c') = FW at *
    simp at y0 y1 y2 y3
    refine bodyPost_ret (v := .agg #[.int .i64 1, .int .i64 (f n), .string s, .slice a' l.length c']) (by simp [results, Tryz.results59, go_sem, y0, y1, y2, y3]) rfl ⟨_, rfl, ?_, zB⟩
    have hl2 : l.length = (l.map (renT f)).length := by simp
    rw [hR.out, hl2]
    exact IsP.mk H.out.1 HNN H.out.2.2 (by simpa using h6) h7 zP
  · have hR : Hid (renT f (.node k n s l) = .node k n s (l.map (renT f))) := by rw [Hid, renT, renL_map]; simp [hk]
    have hk' : (k == 1) = false := by simpa using hk
    have HNN : okI n := h2
    have hsW : w.heap.size + 3 ≤ (((w.alloc (.cells #[.int .i64 k, .int .i64 n, .string s, .slice a l.length c] 24)).alloc (.cells #[.func (.func g) first captured] 102)).alloc (.cells #[.int .i64 0, .int .i64 0, .string ⟨#[]⟩, .slice none 0 0] 24)).heap.size := by simp
    have HK := Lib.hid hk
    clear hk
    go_enter Tryz.func59, Tryz.ntmps59
    go_wp2_with fail
    refine (copyEach_any 84 #[] #[.pointer (some ⟨w.heap.size + 1, 0, none⟩)] enters_rename1 l a c _ (by omega) (HL.out.up hB0 hB0.size) (renT f) (fun t ht v W' hW hv => by
      have h := rename1_any g first captured (w.heap.size + 1) t (renT f t) v W' hv (Box.keep hW hbn) (fun v' W2 hW2 hv' => HI.out t ht v' W2 (hBw.trans ((hB0.mono (Nat.le_refl _)).mono hBw.size) |>.trans (hW.mono (Nat.le_trans hBw.size hB0.size)) |>.trans (hW2.mono (Nat.le_trans (Nat.le_trans hBw.size hB0.size) hW.size))) hv' (by have := size_mem ht; omega))
      simpa using h)).mono ?_
    rintro e w1 ⟨a', c', rfl, h6, h7, hP, hB1⟩
    have hb1' := Box.keep hB1 hbt
    have hb2' := Box.keep hB1 hbr
    have hB2 := hB0.trans (hB1.mono hB0.size)
    have hsz1 := hB1.size
    have HP := Lib.hid hP
    clear hP hbt hbr hbn hB0 hB1
    have r0 := hb1'.cell 0
    have r1 := hb1'.cell 1
    have r2 := hb1'.cell 2
    have r3 := hb1'.cell 3
    have f3 := hb1'.frozen 3
    have u0 := hb2'.cell 0
    have u1 := hb2'.cell 1
    have u2 := hb2'.cell 2
    have u3 := hb2'.cell 3
    have g0 := hb2'.frozen 0
    have g1 := hb2'.frozen 1
    have g2 := hb2'.frozen 2
    have g3 := hb2'.frozen 3
    simp only [List.getElem?_toArray, List.getElem?_cons_succ, List.getElem?_cons_zero] at r0 r1 r2 r3 u0 u1 u2 u3
    go_wp2_with fail
    have z := ((((hb2'.other (B' := w.heap.size) (by omega) 3 (.slice a' l.length c')).set 0 (.int .i64 k)).set 1 (.int .i64 n)).set 2 (.string s)).set 3 (.slice a' l.length c')
    have zB := ((((hB2.setCell (p := ⟨w.heap.size, 3, none⟩) (Nat.le_refl _) (.slice a' l.length c')).setCell (p := ⟨w.heap.size + 1 + 1, 0, none⟩) (by simp; omega) (.int .i64 k)).setCell (p := ⟨w.heap.size + 1 + 1, 1, none⟩) (by simp; omega) (.int .i64 n)).setCell (p := ⟨w.heap.size + 1 + 1, 2, none⟩) (by simp; omega) (.string s)).setCell (p := ⟨w.heap.size + 1 + 1, 3, none⟩) (by simp; omega) (.slice a' l.length c')
    have y0 := z.cell 0
    have y1 := z.cell 1
    have y2 := z.cell 2
    have y3 := z.cell 3
    have zP := IsPL.map (q := New w.heap.size (((((w1.setCell ⟨w.heap.size, 3, none⟩ (.slice a' l.length c')).setCell ⟨w.heap.size + 1 + 1, 0, none⟩ (.int .i64 k)).setCell ⟨w.heap.size + 1 + 1, 1, none⟩ (.int .i64 n)).setCell ⟨w.heap.size + 1 + 1, 2, none⟩ (.string s)).setCell ⟨w.heap.size + 1 + 1, 3, none⟩ (.slice a' l.length c'))) (B := ((((w1.setCell ⟨w.heap.size, 3, none⟩ (.slice a' l.length c')).setCell ⟨w.heap.size + 1 + 1, 0, none⟩ (.int .i64 k)).setCell ⟨w.heap.size + 1 + 1, 1, none⟩ (.int .i64 n)).setCell ⟨w.heap.size + 1 + 1, 2, none⟩ (.string s)).setCell ⟨w.heap.size + 1 + 1, 3, none⟩ (.slice a' l.length c'))
      (fun b hb => by
        obtain ⟨hb1, hb2⟩ := hb
        refine ⟨⟨by omega, by simpa using hb2⟩, ?_⟩
        rw [Below.heap_setCell _ _ _ _ (by simp; omega), Below.heap_setCell _ _ _ _ (by simp; omega), Below.heap_setCell _ _ _ _ (by simp; omega), Below.heap_setCell _ _ _ _ (by simp; omega), Below.heap_setCell _ _ _ _ (by simp; omega)]) (l.map (renT f)) a' HP.out
    clear z HP r0 r1 r2 r3 f3 u0 u1 u2 u3 g0 g1 g2 g3 hb1' hb2'
    generalize ((((w1.setCell ⟨w.heap.size, 3, none⟩ (.slice a' l.length c')).setCell ⟨w.heap.size + 1 + 1, 0, none⟩ (.int .i64 k)).setCell ⟨w.heap.size + 1 + 1, 1, none⟩ (.int .i64 n)).setCell ⟨w.heap.size + 1 + 1, 2, none⟩ (.string s)).setCell ⟨w.heap.size + 1 + 1, 3, none⟩ (.slice a' l.length c') = FW at *
    simp at y0 y1 y2 y3
    refine bodyPost_ret (v := .agg #[.int .i64 k, .int .i64 n, .string s, .slice a' l.length c']) (by simp [results, Tryz.results59, go_sem, y0, y1, y2, y3]) rfl ⟨_, rfl, ?_, zB⟩
    have hl2 : l.length = (l.map (renT f)).length := by simp
    rw [hR.out, hl2]
    exact IsP.mk H.out.1 HNN H.out.2.2 (by simpa using h6) h7 zP
end Go.Proofs.YtdigiaigbcfccaaGreatDoor

namespace Go.Proofs.YtdigiaigbcfccaaGreatDoor
open Go.RowKit Go Go.Maps

/-- Block b is a map that says f of all numbers. -/
def NumM (W : World) (b n : Nat) (f : Int → Int) : Prop := ∃ D : DataW Unit, W.ownsMap Tryz.prog 3 (plainElem Tryz.prog 3) b n D ∧ ∀ x, okI x → D.atKey (.int .i64 x) (.lit (.int .i64 0)) = .lit (.int .i64 (f x))
theorem NumM.made (w : World) : NumM (w.alloc (.map #[] 0)) w.heap.size 0 (fun _ => 0) := ⟨_, World.ownsMap_made w _ _ _, fun x _ => by simp [DataW.atKey]⟩
theorem NumM.lt {W : World} {b n : Nat} {f : Int → Int} (h : NumM W b n f) : b < W.heap.size := by obtain ⟨D, h, _⟩ := h; exact h.lt
theorem NumM.kept {W W' : World} {b n : Nat} {f : Int → Int} {row : Option Nat} (h : NumM W b n f) (hg : W.grownBy W' row) (hne : some b ≠ row) : NumM W' b n f := by
  obtain ⟨D, h, hf⟩ := h; exact ⟨D, h.kept hg hne, hf⟩
theorem NumM.look {W : World} {b n : Nat} {f : Int → Int} (h : NumM W b n f) {x : Int} (hx : okI x) : (Instr.lookup 101 (.map (some b)) (.int .i64 x) false).run Tryz.prog W = .ok (.int .i64 (f x)) W := by
  obtain ⟨D, h, hf⟩ := h
  obtain ⟨c, hr, hc, _⟩ := h.lookup_int keyI Tryz.underlying101 Tryz.underlying3 (zeroI W) (keyOf_int_mk Tryz.underlying3 (wfI hx))
  rw [hf x hx] at hc
  cases hc
  exact hr
/-- f, but i at x. -/
def numU (f : Int → Int) (x i : Int) : Int → Int := fun y => if y = x then i else f y
theorem NumM.put {W : World} {b n : Nat} {f : Int → Int} (h : NumM W b n f) (hn : n < maxLen) {x i : Int} (hx : okI x) (hi : okI i) : ∃ w', (Instr.mapUpdate 101 (.map (some b)) (.int .i64 x) (.int .i64 i)).run Tryz.prog W = .ok () w' ∧ NumM w' b (n + 1) (numU f x i) ∧ W.grownBy w' (some b) := by
  obtain ⟨D, h, hf⟩ := h
  obtain ⟨w', hr, h2, hg⟩ := h.update keyI Tryz.underlying101 hn (keyOf_int_mk Tryz.underlying3 (wfI hx)) (plainElem_int Tryz.underlying3 (wfI hi))
  refine ⟨w', hr, ⟨_, h2, fun y hy => ?_⟩, hg⟩
  have hD : IsMap D := by obtain ⟨es, clock, _, _, _, e⟩ := h; exact ⟨_, e⟩
  by_cases e : y = x
  · subst e
    rw [atKey_put_same hD (by simp [WideAt.IsKeyLit])]
    simp [numU]
  · rw [atKey_put_other (fun h => by cases h; exact e rfl), hf y hy]
    simp [numU, e]
theorem NumM.not_box {W : World} {b n B : Nat} {f : Int → Int} {cs : Array Value} {t : TypeId} (h : NumM W b n f) (hB : Box W B cs t) : B ≠ b := fun e => by
  subst e
  obtain ⟨D, ⟨es, clock, hm, _⟩, _⟩ := h
  rw [show W.heap[B]? = some _ from hB] at hm
  cases hm

/-- Each number of the list to its index. -/
def numAt (f : Int → Int) (i : Int) : List Int → Int → Int
  | [] => f
  | x :: xs => numAt (numU f x i) (i + 1) xs
def numV (vs : List Int) : Int → Int := numAt (fun _ => 0) 0 vs
theorem numAt_snoc : ∀ (xs : List Int) (f : Int → Int) (i x : Int), numAt f i (xs ++ [x]) = numU (numAt f i xs) x (i + xs.length)
  | [], f, i, x => by simp [numAt]
  | y :: ys, f, i, x => by
    simp only [List.cons_append, numAt, List.length_cons]
    rw [numAt_snoc ys]
    congr 1
    omega
theorem numV_take {vs : List Int} {j : Nat} (h : j < vs.length) : numV (vs.take (j + 1)) = numU (numV (vs.take j)) (vs.getD j 0) j := by
  rw [numV, List.take_succ_eq_append_getElem h, numAt_snoc, List.length_take, Nat.min_eq_left (Nat.le_of_lt h), numV]
  simp [List.getD, List.getElem?_eq_getElem h]
theorem numAt_le (M : Int) : ∀ (xs : List Int) (f : Int → Int) (i : Int), 0 ≤ i → i + xs.length ≤ M → (∀ x, 0 ≤ f x ∧ f x ≤ M) → ∀ x, 0 ≤ numAt f i xs x ∧ numAt f i xs x ≤ M
  | [], f, i, _, _, h, x => h x
  | y :: ys, f, i, h0, h1, h, x => by
    simp only [List.length_cons] at h1
    refine numAt_le M ys _ _ (by omega) (by omega) (fun z => ?_) x
    unfold numU
    split
    · omega
    · exact h z
theorem varsL_length (l : List Tr) : (varsL [] l).length ≤ sizeL l := by
  suffices h : ∀ (l : List Tr) (S : List Int), (varsL S l).length ≤ S.length + sizeL l by simpa using h l []
  intro l
  induction l with
  | nil => intro S; simp [varsL, sizeL]
  | cons t ts ih =>
    intro S
    have h1 := ih (varsP S (preT 1 t))
    have h2 := varsP_length S (preT 1 t)
    rw [preT_length] at h2
    simp only [varsL, List.foldl_cons, sizeL] at h1 ⊢
    omega
theorem addV_ok {S : List Int} {x : Int × Tr} (h : ∀ y, y ∈ S → okI y) (hx : okI x.2.num) : ∀ y, y ∈ addV S x → okI y := by
  unfold addV
  split
  · intro y hy
    rcases List.mem_append.1 hy with hy | hy
    · exact h y hy
    · simp at hy; rw [hy]; exact hx
  · exact h
mutual
/-- All numbers of the tree are integers. -/
def Tr.ok : Tr → Prop
  | .node _ n _ l => okI n ∧ okL l
def okL : List Tr → Prop
  | [] => True
  | t :: ts => t.ok ∧ okL ts
end
mutual
theorem IsT.ok {n₀ : Nat} {W : World} : ∀ (T : Tr) (v : Value), IsT n₀ W T v → T.ok
  | .node _ _ _ l, v, h => by
    obtain ⟨a, c, _, _, h2, _, _, _, hl⟩ := h.open
    exact ⟨h2, IsL.ok l a hl⟩
theorem IsL.ok {n₀ : Nat} {W : World} : ∀ (l : List Tr) (a : Option Addr), IsL n₀ W l a → okL l
  | [], _, _ => trivial
  | t :: ts, a, h => by
    unfold IsL at h
    obtain ⟨b, off, v0, v1, v2, v3, _, _, _, _, _, _, ht, hl⟩ := h
    exact ⟨IsT.ok t _ ht, IsL.ok ts _ hl⟩
end
mutual
theorem varsP_ok (d : Int) : ∀ (T : Tr) (S : List Int), T.ok → (∀ y, y ∈ S → okI y) → ∀ y, y ∈ varsP S (preT d T) → okI y
  | .node k n s l, S, h, hS => by
    simp only [preT, varsP, List.foldl_cons]
    exact varsPL_ok (d + 1) l _ h.2 (addV_ok hS h.1)
theorem varsPL_ok (d : Int) : ∀ (l : List Tr) (S : List Int), okL l → (∀ y, y ∈ S → okI y) → ∀ y, y ∈ varsP S (preL d l) → okI y
  | [], S, _, hS => hS
  | t :: ts, S, h, hS => by
    simp only [preL, varsP, List.foldl_append]
    exact varsPL_ok d ts _ h.2 (varsP_ok d t S h.1 hS)
end
theorem varsL_ok : ∀ (l : List Tr) (S : List Int), okL l → (∀ y, y ∈ S → okI y) → ∀ y, y ∈ varsL S l → okI y
  | [], S, _, hS => hS
  | t :: ts, S, h, hS => by
    simp only [varsL, List.foldl_cons]
    exact varsL_ok ts _ h.2 (varsP_ok 1 t S h.1 hS)

set_option maxRecDepth 100000 in
set_option maxHeartbeats 1000000 in
theorem normal1_any (Bs Bm n : Nat) (f : Int → Int) (W : World) (x : Int) (hx : okI x) (hs : Box W Bs #[.map (some Bm)] 101) (hm : NumM W Bm n f) :
    Calls Tryz.prog 57 #[.int .i64 x, .pointer (some ⟨Bs, 0, none⟩)] W fun e W' => e = .returned (.int .i64 (f x)) ∧ Below W.heap.size W W' := by
  have c := hs.cell 0
  simp only [List.getElem?_toArray, List.getElem?_cons_zero] at c
  have hl := hs.lt
  have hr := hm.look hx
  go_enter Tryz.func57, Tryz.ntmps57
  go_wp2_with fail
  go_ret
  exact ⟨rfl, Below.refl _ _⟩
theorem enters_normal1 : ∀ args w, (callFunc 57 args).run Tryz.prog w = .ok (.enter 57 args) w := enters_of Tryz.func57 (by kernel_rfl) rfl
theorem enters_normal2 : ∀ args w, (callFunc 58 args).run Tryz.prog w = .ok (.enter 58 args) w := enters_of Tryz.func58 (by kernel_rfl) rfl

/-- What Normal makes. -/
def normT (l : List Tr) : List Tr := l.map (renT (numV (varsL [] l)))
def NormalPost (l : List Tr) (w : World) (e : Ending) (w' : World) : Prop := Below w.heap.size w w' ∧ match togB l with
  | true => ∃ v u, e = .returned (.tuple #[v, u, .int .i64 0]) ∧ IsPS (New w.heap.size w') w' (normT l) v ∧ Nums w.heap.size w' u (varsL [] l)
  | false => e = .returned (.tuple #[.slice none 0 0, .slice none 0 0, .int .i64 3])

set_option maxRecDepth 100000 in
set_option maxHeartbeats 2000000 in
theorem Normal_any (l : List Tr) (a : Option Addr) (c : Nat) (w : World) (hm : l.length ≤ maxLen) (hl : IsL w.heap.size w l a) (hdp : ∀ t, t ∈ l → t.deep ≤ 999999999) :
    Calls Tryz.prog 28 #[.slice a l.length c] w (NormalPost l w) := by
  have HL := Lib.hid hl
  go_enter Tryz.func28, Tryz.ntmps28
  go_wp2_with fail
  refine (Vars_any l a c w hm hl hdp).mono ?_
  rintro e w1 ⟨hB1, hpost⟩
  have hok := varsL_ok l [] (IsL.ok l a hl) (fun y hy => by simp at hy)
  clear hl hdp
  cases hbT' : togB l with
  | false =>
    rw [hbT'] at hpost
    obtain rfl := hpost
    have hbT := Lib.hid hbT'
    clear hbT'
    go_wp2_with fail
    go_ret3
    refine ⟨hB1, ?_⟩
    rw [hbT.out]
    rfl
  | true =>
    rw [hbT'] at hpost
    obtain ⟨u, rfl, hN⟩ := hpost
    have hszs : sizeL l ≤ 4000 ∧ ∀ t, t ∈ l → t.size ≤ 4000 := by
      simp [togB] at hbT'
      exact ⟨hbT'.2, fun t ht => (isB_size (hbT'.1 t ht)).1⟩
    have hvl := varsL_length l
    have hbT := Lib.hid hbT'
    clear hbT'
    generalize hvs' : varsL [] l = vs at *
    have Hvs := Lib.hid hvs'
    clear hvs'
    have hmm := @run_makeMap Tryz.prog
    obtain ⟨ua, un, uc, hu, hun⟩ : ∃ (ua : Option Addr) (un uc : Nat), u = .slice ua un uc ∧ un = vs.length := by
      rcases hN.open with ⟨rfl, rfl⟩ | ⟨g, cap, cur, rfl, _⟩
      · exact ⟨none, 0, 0, rfl, rfl⟩
      · exact ⟨_, _, cap, rfl, rfl⟩
    subst hu hun
    have HN := Lib.hid hN
    have Hok := Lib.hid hok
    clear hN hok
    go_wp2_with fail
    have hm0 : NumM ((w1.alloc (.map #[] 0)).alloc (.cells #[.map (some w1.heap.size)] 101)) w1.heap.size 0 (numV []) := (NumM.made w1).kept (World.grownBy_alloc _ _ none) (by simp)
    have hs0 : Box ((w1.alloc (.map #[] 0)).alloc (.cells #[.map (some w1.heap.size)] 101)) (w1.heap.size + 1) #[.map (some w1.heap.size)] 101 := Box.at (by simp)
    go_loopw [22] (fun i wr => ∃ (j n : Nat), j ≤ vs.length ∧ i = .int .i64 j ∧ n ≤ j ∧ NumM wr w1.heap.size n (numV (vs.take j)) ∧ Box wr (w1.heap.size + 1) #[.map (some w1.heap.size)] 101 ∧ Below w1.heap.size w1 wr) (fun i _ => vs.length - (intOf i).toNat)
    case atStart => exact ⟨0, 0, Nat.zero_le _, rfl, Nat.le_refl _, by simpa using hm0, hs0, below_a2 (Nat.le_refl _) _ _⟩
    case round =>
      obtain ⟨j, n, hj, rfl, hn, hmj, hsj, hBj⟩ := hrel
      by_cases hlt : j < vs.length
      · rcases HN.out.open with ⟨_, h0⟩ | ⟨g, cap, cur, hue, hg1, hg2, hg3, hg4, hg5, hg6⟩
        · rw [h0] at hlt; simp at hlt
        have hx := take_get hg6 hlt
        have hxok : okI (vs.getD j 0) := Hok.out _ (by rw [List.getD, List.getElem?_eq_getElem hlt]; exact List.getElem_mem hlt)
        simp only [Value.slice.injEq, true_and] at hue
        obtain ⟨rfl, rfl⟩ := hue
        have hgl := hg2.lt
        have hcg : wr.cell? ⟨g, j, none⟩ = some (.int .i64 (vs.getD j 0)) := (hBj.cell (p := ⟨g, j, none⟩) hgl).trans ((hg2.cell j).trans hx)
        have hgw : g < wr.heap.size := by have := hBj.size; omega
        have cs := hsj.cell 0
        simp only [List.getElem?_toArray, List.getElem?_cons_zero] at cs
        have hsl := hsj.lt
        obtain ⟨w2, hrun, hm2, hg⟩ := hmj.put (i := j) (by unfold maxLen; omega) hxok (by unfold okI; omega)
        have hs2 : Box w2 (w1.heap.size + 1) #[.map (some w1.heap.size)] 101 := (hg.block _ hsj.lt (by simp)).trans hsj
        have hB2 : Below w1.heap.size w1 w2 := hBj.trans (grown_below' hg hBj.size (fun g e => by cases e; exact Nat.le_refl _))
        rw [← numV_take hlt] at hm2
        have HF := Lib.hid (And.intro hm2 (And.intro hs2 hB2))
        clear hm2 hs2 hB2 hg hmj hsj hBj hg1 hg2 hg3 hg4 hg5 hg6 hx
        generalize vs.getD j 0 = x at *
        go_wp2_with fail
        go_roundw
        case rel => exact ⟨j + 1, n + 1, hlt, by go_num, by omega, HF.out.1, HF.out.2.1, HF.out.2.2⟩
        case measure => simp [intOf]; omega
      · rw [List.take_of_length_le (by omega)] at hmj
        have hsl := hsj.lt
        have HF := Lib.hid (And.intro hmj (And.intro hsj hBj))
        clear hmj hsj hBj
        go_wp2_with fail
        have hB4 : Below w.heap.size w wr := hB1.trans (HF.out.2.2.mono hB1.size)
        have hB5 := hB4.trans (below_a1 hB4.size (.cells #[.func (.func 57) #[] #[.pointer (some ⟨w1.heap.size + 1, 0, none⟩)]] 102))
        have hm5 : NumM (wr.alloc (.cells #[.func (.func 57) #[] #[.pointer (some ⟨w1.heap.size + 1, 0, none⟩)]] 102)) w1.heap.size n (numV vs) := HF.out.1.kept (World.grownBy_alloc _ _ none) (by simp)
        have hs5 := HF.out.2.1.alloc (.cells #[.func (.func 57) #[] #[.pointer (some ⟨w1.heap.size + 1, 0, none⟩)]] 102)
        have hll := length_le_sizeL l
        have hfok : ∀ x, okI (numV vs x) := fun x => by
          have := numAt_le 4000 vs (fun _ => 0) 0 (Int.le_refl _) (by omega) (fun _ => by omega) x
          unfold okI numV
          omega
        refine (copyEach_any 58 #[] #[.pointer (some ⟨wr.heap.size, 0, none⟩)] enters_normal2 l a c _ (by omega) (HL.out.up hB5 hB5.size) (renT (numV vs)) (fun t ht v W' hW hv => by
          have h := normal2_any 57 #[] #[.pointer (some ⟨w1.heap.size + 1, 0, none⟩)] wr.heap.size t (renT (numV vs) t) v W' hv (Box.keep hW (Box.at rfl)) (fun v' W2 hW2 hv' =>
            rename_any 57 #[] #[.pointer (some ⟨w1.heap.size + 1, 0, none⟩)] enters_normal1 (numV vs) hfok _ (fun x W3 hx hW3 => by
              have h1 := normal1_any (w1.heap.size + 1) w1.heap.size n (numV vs) W3 x hx (Box.keep hW3 hs5) (hm5.kept (grown_b none hW3) (by simp))
              simpa using h1) t v' W2 (hW.trans (hW2.mono hW.size)) hv' (by have := hszs.2 t ht; omega))
          simpa using h)).mono ?_
        rintro e w2 ⟨a', c', rfl, h6, h7, hP, hB⟩
        have hBf := hB5.trans (hB.mono hB5.size)
        have hNf : Nums w.heap.size w2 (.slice ua vs.length uc) vs := HN.out.at fun g hg => by
          obtain ⟨_, cur, hc⟩ := HN.out.cells g hg
          have h1 := HF.out.2.2.block g hc.lt
          have hl1 := hc.lt
          have hl2 := HF.out.2.2.size
          exact (hB.block g (by simp; omega)).trans ((Below.heap_alloc wr _ g (by omega)).trans h1)
        have HZ := Lib.hid (And.intro hP (And.intro hBf (And.intro hNf (And.intro h6 h7))))
        have hs2 := hB5.size
        clear hP hBf hNf hm5 hs5 hB5 hB4
        go_wp2_with fail
        go_ret3
        obtain ⟨hP, hBf, hNf, h6, h7⟩ := HZ.out
        refine ⟨hBf, ?_⟩
        rw [hbT.out, Hvs.out]
        refine ⟨_, _, rfl, ⟨a', c', by rw [normT, List.length_map]; rfl, by rw [normT, List.length_map]; exact h6, h7, ?_⟩, hNf⟩
        rw [normT, Hvs.out]
        exact IsPL.map (fun b hb => ⟨⟨Nat.le_trans hs2 hb.1, hb.2⟩, rfl⟩) _ _ hP
end Go.Proofs.YtdigiaigbcfccaaGreatDoor
