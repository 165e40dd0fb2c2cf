/- The keys of a map of symbols, sorted. -/
import Derived.Test.YtdigiaigbcfccaaGreatDoorKeys
import Derived.Test.YtdigiaigbcfccaaGreatDoorSortShelf
import Derived.Shelf.SlSortCmp.NoneTotal
import Derived.Test.YtdigiaigbcfccaaGreatDoorMaps
namespace Go.Proofs.YtdigiaigbcfccaaGreatDoor
open Go.RowKit Go Go.Maps Go.Shelf

attribute [local go_sem] Oper.semAt_some

theorem symLt_ltOf : ltOf symO = symLt := rfl
theorem enters_order : ∀ args w, (callFunc 44 args).run Tryz.prog w = .ok (.enter 44 args) w := enters_of Tryz.func44 (by kernel_rfl) rfl
theorem symLays (blk off size : Nat) (w : World) : CmpLays Tryz.prog 44 #[] symE 2 symO blk off size w := fun m os dk _ x y =>
  (orderSym_any x y (sortWorldK symE 2 w blk off m dk os)).mono fun e w' ⟨he, o1, o2, o3, hw⟩ => ⟨he, 1, #[o1, o2, o3], by
    rw [hw, Sort.alloc_eq_grow, Sort.alloc_eq_grow, Sort.alloc_eq_grow, Sort.grow_grow, Sort.grow_grow]; rfl⟩
def SortPost (v : Value) (base : Nat) (xs : List Sym) (w : World) (e : Ending) (w' : World) : Prop := e = .returned (.tuple #[]) ∧ ∃ ys, ys.Perm xs ∧ Asc ys ∧ w'.ownsRow base 42 2 v ys.length (symsE ys) ∧ w.grownBy w' v.ownBlock
theorem sort_any (base : Nat) (v : Value) (xs : List Sym) (w : World) (h : w.ownsRow base 42 2 v xs.length (symsE xs)) (hl : xs.length ≤ 1000000000) :
    Calls Tryz.prog 73 #[v, .func (.func 44) #[] #[]] w (SortPost v base xs w) := by
  rcases h.2 with ⟨rfl, h0⟩ | ⟨g, cap, cur, rfl, _⟩
  · obtain rfl : xs = [] := List.length_eq_zero_iff.1 h0
    refine (AnyF.slices_SortFunc_none Tryz.sortSym none 0 (.func (.func 44) #[] #[]) w).mono ?_
    rintro e w' ⟨rfl, rfl⟩
    exact ⟨rfl, [], List.Perm.refl _, List.Pairwise.nil, h, World.grownBy.refl _ _⟩
  · have hlt := (h.lt g rfl).2
    have hsz : xs.toArray.size < 4611686018427387904 := by simp; omega
    have hT : ∀ x y, ltOf symO x y = false → ltOf symO y x = false → x = y := fun x y h1 h2 => by
      rw [symLt_ltOf] at h1 h2
      simp only [symLt, decide_eq_false_iff_not] at h1 h2
      have := symO_anti x y
      exact (symO_zero x y).1 (by omega)
    have hc := AnyQ.slices_SortFunc Tryz.sortSym 2 Tryz.isAgg42 Tryz.sizeOf42 symE (fun _ => rfl) (fun x v hv => by simp [symE] at hv; rcases hv with rfl | rfl <;> rfl) symO symLt_swo 44 #[] g 0 cap xs.toArray w enters_order (symLays g 0 xs.toArray.size w) (holds_of_own h) hlt hsz
    change Calls Tryz.prog 73 #[.slice (some ⟨g, 0, none⟩) xs.length cap, .func (.func 44) #[] #[]] w _ at hc
    refine hc.mono ?_
    rintro e w' ⟨rfl, d', n, os, hp, hs, rfl⟩
    have hperm : d'.toList.Perm xs := by
      have := hp.2.2
      have h1 : d'.extract 0 xs.toArray.size = d' := by rw [← hp.1]; simp
      have h2 : xs.toArray.extract 0 xs.toArray.size = xs.toArray := by simp
      rw [h1, h2] at this
      simpa using this
    have hlen := hperm.length_eq
    have ho := sorted_own (n := n) (os := os) h (ys := d'.toList) (by simpa using hlen)
    refine ⟨rfl, d'.toList, hperm, ?_, ?_, ?_⟩
    · refine List.pairwise_iff_getElem.2 fun i j hi hj hij => ?_
      have := hs i j (Nat.zero_le _) hij (by simp at hj hlen ⊢; omega)
      rw [symLt_ltOf] at this
      simp only [symLt, decide_eq_false_iff_not] at this
      rw [getElem!_pos d' j (by simpa using hj), getElem!_pos d' i (by simpa using hi)] at this
      have ha := symO_anti d'[i] d'[j]
      simp only [Array.getElem_toList]
      omega
    · have := ho.1
      rw [show d'.toList.length = xs.length from hlen] at this ⊢
      exact this
    · exact ho.2
set_option maxHeartbeats 1000000 in
theorem collect_any (Bm b nn : Nat) (S : List Sym) (w : World) (hBm : Box w Bm #[.map (some b)] 75) (hs : SeenY w b nn S) (hS : S.length ≤ 1000000000) :
    Calls Tryz.prog 72 #[keysV Bm] w (SeqPost S w) := by
  have hc := appendSeq_any Bm b nn S w hBm hs hS
  clear hBm hs
  unfold keysV
  go_enter Tryz.func72, Tryz.ntmps72
  go_wp2_with fail
  refine hc.mono ?_
  rintro e w' ⟨v, xs, rfl, h1, h2, h3⟩
  have HH := Lib.hid (And.intro h1 (And.intro h2 h3))
  clear h1 h2 h3
  go_wp2_with fail
  go_ret
  exact ⟨v, xs, rfl, HH.out⟩
set_option maxHeartbeats 1000000 in
theorem sortedFunc_any (Bm b nn : Nat) (S : List Sym) (w : World) (hBm : Box w Bm #[.map (some b)] 75) (hs : SeenY w b nn S) (hS : S.length ≤ 1000000000) :
    Calls Tryz.prog 42 #[keysV Bm, .func (.func 44) #[] #[]] w (SymsPost S w) := by
  have hc := collect_any Bm b nn S w hBm hs hS
  clear hBm hs
  generalize keysV Bm = kv at hc ⊢
  go_enter Tryz.func42, Tryz.ntmps42
  go_wp2_with fail
  refine hc.mono ?_
  rintro e w' ⟨v, xs, rfl, h1, h2, h3⟩
  have hlen := h1.le
  have hc2 := sort_any w.heap.size v xs w' h2 (by omega)
  have HH := Lib.hid (And.intro h1 (And.intro h2 h3))
  clear h1 h2 h3 hlen
  go_wp2_with fail
  refine hc2.mono ?_
  rintro e w2 ⟨rfl, ys, h4, h5, h6, h7⟩
  have HK := Lib.hid (And.intro h4 (And.intro h5 (And.intro h6 h7)))
  clear h4 h5 h6 h7 hc2
  go_wp2_with fail
  go_ret
  obtain ⟨h1, h2, h3⟩ := HH.out
  obtain ⟨h4, h5, h6, h7⟩ := HK.out
  exact ⟨v, ys, rfl, h1.perm h4, h5, h6, h3.trans (grown_below' h7 h3.size fun g hg => (h2.lt g hg).1)⟩
end Go.Proofs.YtdigiaigbcfccaaGreatDoor

/- term.Symbols. -/
namespace Go.Proofs.YtdigiaigbcfccaaGreatDoor
open Go.RowKit Go Go.Maps Go.Shelf

attribute [local go_sem] Oper.semAt_some

/-- The symbol of a node, if it is an atom or a structure. -/
def isY (T : Tr) : Bool := T.kind == 3 || T.kind == 5
def symT : Tr → Sym
  | .node _ _ s l => (s, l.length)
def addY (S : List Sym) (x : Int × Tr) : List Sym := if isY x.2 then S ++ [symT x.2] else S
def symsP (S : List Sym) (xs : List (Int × Tr)) : List Sym := xs.foldl addY S
theorem symsP_snoc (S : List Sym) (xs : List (Int × Tr)) (x : Int × Tr) : symsP S (xs ++ [x]) = addY (symsP S xs) x := by simp [symsP]
theorem addY_length (S : List Sym) (x : Int × Tr) : (addY S x).length ≤ S.length + 1 := by unfold addY; split <;> simp
theorem symsP_length (S : List Sym) : ∀ xs : List (Int × Tr), (symsP S xs).length ≤ S.length + xs.length := by
  intro xs
  induction xs generalizing S with
  | nil => simp [symsP]
  | cons x xs ih => have := ih (addY S x); have := addY_length S x; simp only [symsP, List.foldl_cons, List.length_cons] at *; omega

theorem row_base {b c : Nat} {W : World} {e : TypeId} {sz n : Nat} {v : Value} {xs : List Value} (h : W.ownsRow b e sz v n xs) (hc : c ≤ b) : W.ownsRow c e sz v n xs :=
  ⟨h.1, h.2.imp id fun ⟨g, cap, cur, h1, h2, h3⟩ => ⟨g, cap, cur, h1, Nat.le_trans hc h2, h3⟩⟩
/-- What the function holds between two nodes. -/
def YS (w : World) (Bs Bm : Nat) (S : List Sym) (W : World) : Prop :=
  ∃ n : Nat, Box W Bs #[.map (some Bm)] 75 ∧ SeenY W Bm n S ∧ n ≤ S.length ∧ Below w.heap.size w W
theorem YS.own {β : Type} {w : World} {Bs Bm B : Nat} (S : β → List Sym) (hm : Bm < B) (hw : w.heap.size ≤ B) : OwnFrom B (fun s W => YS w Bs Bm (S s) W) := by
  rintro s X Y row ⟨n, h2, h4, h5, h7⟩ hg hr
  have hr2 : ∀ r, row = some r → ∃ o : Obj, X.heap[r]? = some o ∧ o.isCells = false := fun r e => (hr r e).2
  refine ⟨n, Box.own _ _ (fun _ => _) () X Y row h2 hg hr2, h4.kept hg (fun e => by have := (hr _ e.symm).1; omega), h5, ?_⟩
  exact h7.trans (grown_below' hg h7.size fun g e => by have := (hr g e).1; omega)
theorem SeenY.not_box {W : World} {b n B : Nat} {S : List Sym} {cs : Array Value} {t : TypeId} (h : SeenY W b n S) (hB : Box W B cs t) : B ≠ b := fun e => by
  subst e
  obtain ⟨D, ⟨es, clock, hm, _⟩, _⟩ := h
  rw [show W.heap[B]? = some _ from hB] at hm
  cases hm
def SymbolsPost (T : Tr) (w : World) (e : Ending) (w' : World) : Prop := Below w.heap.size w w' ∧ match isB T with
  | true => ∃ v xs, e = .returned (.tuple #[v, .int .i64 0]) ∧ KeyP (symsP [] (preT 1 T)) xs ∧ Asc xs ∧ w'.ownsRow w.heap.size 42 2 v xs.length (symsE xs)
  | false => e = .returned (.tuple #[.slice none 0 0, .int .i64 3])

set_option maxRecDepth 100000 in
set_option maxHeartbeats 2000000 in
theorem Symbols_any (T : Tr) (v : Value) (w : World) (hT : IsT w.heap.size w T v) (hdeep : T.deep ≤ 999999999) :
    Calls Tryz.prog 15 #[v] w (SymbolsPost T w) := by
  refine (callsIn_wide (n := 9)).1 ?_
  generalize hF : Fence.wide = F
  have hd : F.depth = none := by subst hF; rfl
  have hf : ∀ f, F.fn f := fun f => by subst hF; trivial
  have hro : F.round = none := by subst hF; rfl
  cases hTc : T with
  | node k nn s ts =>
  subst hTc
  have hT' := hT
  obtain ⟨a, c, rfl, _⟩ := hT'.open
  clear hT'
  have H := Lib.hid hT
  clear hT
  have b0 : Box ((w.alloc (.cells #[.int .i64 k, .int .i64 nn, .string s, .slice a ts.length c] 24)).alloc (.cells #[.int .i64 k, .int .i64 nn, .string s, .slice a ts.length c] 24)) w.heap.size #[.int .i64 k, .int .i64 nn, .string s, .slice a ts.length c] 24 := (Box.at rfl).alloc _
  have b1 : Box ((w.alloc (.cells #[.int .i64 k, .int .i64 nn, .string s, .slice a ts.length c] 24)).alloc (.cells #[.int .i64 k, .int .i64 nn, .string s, .slice a ts.length c] 24)) (w.heap.size + 1) #[.int .i64 k, .int .i64 nn, .string s, .slice a ts.length c] 24 := Box.at (by simp)
  have hB0 := below_a2 (Nat.le_refl w.heap.size) (.cells #[.int .i64 k, .int .i64 nn, .string s, .slice a ts.length c] 24) (.cells #[.int .i64 k, .int .i64 nn, .string s, .slice a ts.length c] 24)
  refine callsIn_of_wp_marks Tryz.func15 rfl (hf _) ?_ hro
  simp only [Tryz.ntmps15, List.size_toArray, List.length_cons, List.length_nil, Nat.reduceAdd, Nat.reduceSub, Array.replicate_succ, Array.replicate_zero, List.push_toArray, List.append_toArray, List.nil_append, List.cons_append]
  gi_wp2_with fail
  refine CallsIn.mono (callsIn_of_calls hF (checkEach_any [.node k nn s ts] (some ⟨w.heap.size + 1, 0, none⟩) 1 _ (by unfold maxLen; simp) ?_ (by intro t ht; simp at ht; rcases ht with rfl; assumption))) ?_
  · exact IsL.cons (by simp) (b1.cell 0) (b1.cell 1) (b1.cell 2) (b1.cell 3) (H.out.up hB0 (by simp; omega)) IsL.nil
  rintro e w1 ⟨rfl, hB1⟩
  have p0 := Box.keep hB1 b0
  have hB2 := hB0.trans (hB1.mono hB0.size)
  have l0 := p0.lt
  have q0 := p0.cell 0
  have q1 := p0.cell 1
  have q2 := p0.cell 2
  have q3 := p0.cell 3
  simp only [List.getElem?_toArray, List.getElem?_cons_succ, List.getElem?_cons_zero] at q0 q1 q2 q3
  generalize hEQ : [Tr.node k nn s ts].all isB = bT
  have hbT : Hid (isB (.node k nn s ts) = bT) := by rw [Hid, ← hEQ]; simp
  clear hB1 b0 b1 hB0 hEQ
  cases bT with
  | false =>
    gi_wp2_with fail
    refine ⟨.tuple #[.slice none 0 0, .int .i64 3], by simp [results, Tryz.results15, go_sem]; rfl, hB2, ?_⟩
    rw [hbT.out]
  | true =>
    have hz := isB_size hbT.out
    have hmm := @run_makeMap Tryz.prog
    gi_wp2_with fail
    refine CallsIn.mono (callsIn_of_calls hF (nodes_any _ k nn s a ts.length c rfl _)) ?_
    rintro e w' ⟨rfl, rfl⟩
    gi_wp2_with fail
    have hs5 : (((w1.alloc (.map #[] 0)).alloc (.cells #[.map (some w1.heap.size)] 75)).alloc (.cells #[.int .i64 k, .int .i64 nn, .string s, .slice a ts.length c] 24)).heap.size = w1.heap.size + 3 := by simp
    have hwr := hB2.size
    have hB5 := hB2.trans (below_a3 hB2.size (.map #[] 0) (.cells #[.map (some w1.heap.size)] 75) (.cells #[.int .i64 k, .int .i64 nn, .string s, .slice a ts.length c] 24))
    have hin : YS w (w1.heap.size + 1) w1.heap.size [] (((w1.alloc (.map #[] 0)).alloc (.cells #[.map (some w1.heap.size)] 75)).alloc (.cells #[.int .i64 k, .int .i64 nn, .string s, .slice a ts.length c] 24)) := by
      refine ⟨0, (Box.at (by simp)).alloc _, ?_, Nat.le_refl _, hB5⟩
      exact ((SeenY.made w1).kept (World.grownBy_alloc _ _ none) (by simp)).kept (World.grownBy_alloc _ _ none) (by simp)
    have hown := YS.own (w := w) (Bs := w1.heap.size + 1) (Bm := w1.heap.size) (B := w1.heap.size + 3) (fun pre : List (Nd w.heap.size w) => symsP [] (pre.map Nd.fg)) (by omega) (by omega)
    refine range_nodesH hd hf hro (by omega) (w1.heap.size + 1 + 1) w.heap.size (.node k nn s ts) (.agg #[.int .i64 k, .int .i64 nn, .string s, .slice a ts.length c]) w rfl (block_at (by simp)) hB5 hB5.size H.out hdeep rfl
      (fun pre W => YS w (w1.heap.size + 1) w1.heap.size (symsP [] (pre.map Nd.fg)) W ∧ w1.heap.size + 3 ≤ W.heap.size) (fun _ _ _ => False)
      (by rw [hs5]; exact hown.and (fun s W W' row h hg _ => Nat.le_trans h hg.size)) (fun _ _ _ _ _ hs _ _ => hs) ⟨hin, by omega⟩ ?_
    rw [hs5]
    clear hin
    apply Exists.intro
    apply And.intro
    · rintro l2 pre ⟨⟨d, T', v'⟩, hT', hd'⟩ Wb K hI hK
      cases T' with
      | node k' n' s' ts' =>
      obtain ⟨a', c', rfl, _⟩ := hT'.open
      simp only [Nd.encs]
      gi_wp2_with fail
      have hblk := World.alloc_heap_new Wb (.cells #[.int .i64 k', .int .i64 n', .string s', .slice a' ts'.length c'] 24)
      have hsW : w.heap.size ≤ Wb.heap.size := by have := hI.2; omega
      have hKT := (KT.refl w.heap.size Wb).alloc hsW (.cells #[.int .i64 k', .int .i64 n', .string s', .slice a' ts'.length c'] 24)
      have hI' := And.intro (hown.alloc (s := pre) (.cells #[.int .i64 k', .int .i64 n', .string s', .slice a' ts'.length c'] 24) hI.1) (show w1.heap.size + 3 ≤ (Wb.alloc (.cells #[.int .i64 k', .int .i64 n', .string s', .slice a' ts'.length c'] 24)).heap.size by have := hI.2; simp; omega)
      have hKF := (KeepsOthers.alloc Wb (.cells #[.int .i64 k', .int .i64 n', .string s', .slice a' ts'.length c'] 24)).from
      replace hK := fun Bx W' => hK Bx W'
      dsimp only [Value.cells] at hK
      generalize Wb.alloc (.cells #[.int .i64 k', .int .i64 n', .string s', .slice a' ts'.length c'] 24) = W' at *
      generalize Wb.heap.size = Bx at *
      replace hK := hK Bx W' (hKF _) hKT hI' hblk
      generalize Value.agg #[.int .i64 k', .int .i64 n', .string s', .slice a' ts'.length c'] = v' at *
      exact hK
    refine ⟨?_, ?_, fun D c pre W _ _ h _ => h.elim⟩
    · rintro l2 pre ⟨⟨d, T', v'⟩, hT', hd'⟩ Bx Wb ⟨hvs, hsb⟩ hx hpre
      cases T' with
      | node k' n' s' ts' =>
      obtain ⟨a', c', rfl, hok1, hok, hsl, hlc, hcm, _⟩ := hT'.open
      dsimp only [Value.cells] at hx
      have hxB : Box Wb Bx #[.int .i64 k', .int .i64 n', .string s', .slice a' ts'.length c'] 24 := hx
      have hm : symsP [] (List.map Nd.fg (pre ++ [(⟨(d, .node k' n' s' ts', _), hT', hd'⟩ : Nd w.heap.size w)])) = addY (symsP [] (List.map Nd.fg pre)) (d, .node k' n' s' ts') := by rw [List.map_append]; exact symsP_snoc _ _ _
      have hln := symsP_length [] (List.map Nd.fg pre)
      rw [List.length_map] at hln
      have Hm := Lib.hid hm
      clear hm hx
      obtain ⟨n0, v2, v4, v5, v7⟩ := hvs
      have x0 := hxB.cell 0
      have x2 := hxB.cell 2
      have x3 := hxB.cell 3
      have c6 := v2.cell 0
      simp only [List.getElem?_toArray, List.getElem?_cons_succ, List.getElem?_cons_zero] at x0 x2 x3 c6
      have hl6 := v2.lt
      have hlx := hxB.lt
      generalize hS : symsP [] (List.map Nd.fg pre) = S at *
      have hszk := hz.1
      have hokS : okS (s', (ts'.length : Int)) := ⟨hsl, by unfold okI; unfold maxLen at hcm; simp; omega⟩
      obtain ⟨w2, hrun2, hseen2, hg2⟩ := v4.put (n := n0) (by unfold maxLen; simp at hln; omega) hokS
      have hrun2' : (Instr.mapUpdate 75 (.map (some w1.heap.size)) (.agg #[.string s', .int .i64 ts'.length]) (.bool true)).run Tryz.prog Wb = .ok () w2 := hrun2
      have hb0 : w.heap.size ≤ w1.heap.size := hB2.size
      have hKF : KeepsFrom (w1.heap.size + 3) Wb w2 := KeepsFrom.of_grownBy hg2 (fun j e => by cases e; omega)
      have hKB : Below w.heap.size Wb w2 := grown_below' hg2 (by omega) (fun g e => by cases e; omega)
      have hKT : KT w.heap.size Wb w2 := ⟨hKB, fun b cs fr hb => (hg2.block b (Array.getElem?_eq_some_iff.1 hb).1 (fun e => by
        cases e
        obtain ⟨D, ⟨es, clock, hm, _⟩, _⟩ := v4
        rw [hb] at hm
        cases hm)).trans hb⟩
      have hYS : YS w (w1.heap.size + 1) w1.heap.size (S ++ [(s', (ts'.length : Int))]) w2 := ⟨n0 + 1, (hg2.block _ v2.lt (by simp)).trans v2, hseen2, by simp; omega, v7.trans hKB⟩
      have fin1 : isY (.node k' n' s' ts') = true → ∀ a0 : Act, ownPostG (w1.heap.size + 3) (KT w.heap.size) (fun (pre : List (Nd w.heap.size w)) W => YS w (w1.heap.size + 1) w1.heap.size (symsP [] (pre.map Nd.fg)) W ∧ w1.heap.size + 3 ≤ W.heap.size) (fun _ _ _ => False) (pre ++ [⟨(d, .node k' n' s' ts', .agg #[.int .i64 k', .int .i64 n', .string s', .slice a' ts'.length c']), hT', hd'⟩]) Wb .normal a0 w2 := fun h a0 => ⟨hKF, hKT, by rw [Hm.out, addY, if_pos h]; exact hYS, by have := hg2.size; omega⟩
      have fin0 : isY (.node k' n' s' ts') = false → ∀ a0 : Act, ownPostG (w1.heap.size + 3) (KT w.heap.size) (fun (pre : List (Nd w.heap.size w)) W => YS w (w1.heap.size + 1) w1.heap.size (symsP [] (pre.map Nd.fg)) W ∧ w1.heap.size + 3 ≤ W.heap.size) (fun _ _ _ => False) (pre ++ [⟨(d, .node k' n' s' ts', .agg #[.int .i64 k', .int .i64 n', .string s', .slice a' ts'.length c']), hT', hd'⟩]) Wb .normal a0 Wb := fun h a0 => ⟨KeepsFrom.refl _ _, KT.refl _ _, by rw [Hm.out, addY, if_neg (by simpa using h)]; exact ⟨n0, v2, v4, v5, v7⟩, hsb⟩
      clear hrun2 hseen2 hg2 hKF hKB hKT hYS v2 v4 v5 v7
      by_cases h3 : k' = 3
      · subst h3
        have Hf := Lib.hid (fin1 rfl)
        clear fin0 fin1 hxB
        gi_wp2_with fail
        exact Hf.out _
      · by_cases h5 : k' = 5
        · subst h5
          have Hf := Lib.hid (fin1 rfl)
          clear fin0 fin1 hxB h3
          gi_wp2_with fail
          exact Hf.out _
        · have e3 : (k' == 3) = false := by simpa using h3
          have e5 : (k' == 5) = false := by simpa using h5
          have Hf := Lib.hid (fin0 (by simp [isY, Tr.kind, h3, h5]))
          clear fin0 fin1 hxB h3 h5 hrun2'
          gi_wp2_with fail
          exact Hf.out _
    · rintro D xs W hDle hxs ⟨hvs, hsb⟩ hK
      obtain ⟨n0, v2, v4, v5, v7⟩ := hvs
      have hln := symsP_length [] (List.map Nd.fg xs)
      rw [hxs] at hln v4 v5
      have hsz4 := hz.1
      rw [preT_length] at hln
      have c6 := v2.cell 0
      simp only [List.getElem?_toArray, List.getElem?_cons_zero] at c6
      have hl6 := v2.lt
      have hsf := sortedFunc_any W.heap.size w1.heap.size n0 (symsP [] (preT 1 (.node k nn s ts))) (W.alloc (.cells #[.map (some w1.heap.size)] 75)) (Box.at rfl) (v4.kept (World.grownBy_alloc _ _ none) (by simp)) (by simp at hln; omega)
      have V := Lib.hid (And.intro v2 (And.intro v4 v7))
      clear v2 v4 v5 v7 hln
      gi_wp2_with fail
      refine CallsIn.mono (callsIn_of_calls hF (keys_any w1.heap.size W)) ?_
      rintro e w' ⟨rfl, rfl⟩
      unfold keysV at hsf
      gi_wp2_with fail
      refine CallsIn.mono (callsIn_of_calls hF hsf) ?_
      rintro e w2 ⟨v, ys, rfl, h1, h2, h3, h4⟩
      have hD2 : w2.heap[D]? = some (.deferred (some [])) := by
        have hDl := (Array.getElem?_eq_some_iff.1 hK).1
        exact (h4.block D (by simp; omega)).trans ((Below.heap_alloc W _ D hDl).trans hK)
      have HS := Lib.hid (And.intro h1 (And.intro h2 (And.intro h3 h4)))
      clear h1 h2 h3 h4 hsf
      gi_wp2_with fail
      obtain ⟨h1, h2, h3, h4⟩ := HS.out
      refine ⟨by simp, .inl ⟨_, _, rfl, run_takeDeferred hD2, ?_⟩⟩
      have hfin : Below w.heap.size w w2 := V.out.2.2.trans ((below_a1 V.out.2.2.size _).trans (h4.mono (by have := V.out.2.2.size; simp; omega)))
      refine ⟨.tuple #[v, .int .i64 0], by simp [results, Tryz.results15, go_sem], hfin.trans (belowK_b (w := w) (Nat.le_refl _) w2 D _ (.deferred none) (by omega) hD2 rfl rfl), ?_⟩
      rw [hbT.out]
      refine ⟨v, ys, rfl, h1, h2, ?_⟩
      exact row_base (ownsRow_putObj h3 (.deferred none) hD2 rfl) (by have := V.out.2.2.size; simp; omega)
end Go.Proofs.YtdigiaigbcfccaaGreatDoor
