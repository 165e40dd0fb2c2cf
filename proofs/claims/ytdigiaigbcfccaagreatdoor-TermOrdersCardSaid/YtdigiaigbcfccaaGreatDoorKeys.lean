/- The keys of a map of symbols, by the iterator of maps.Keys. -/
import Derived.Test.YtdigiaigbcfccaaGreatDoorSymO
import Derived.Test.YtdigiaigbcfccaaGreatDoorPlace
import Derived.Test.YtdigiaigbcfccaaGreatDoorPaths
import Derived.Shelf.SlSortCmp.WholeK
namespace Go.Proofs.YtdigiaigbcfccaaGreatDoor
open Go.RowKit Go Go.Maps Go.Shelf

attribute [local go_sem] Oper.semAt_some

theorem nodup_le {α : Type} : ∀ {l S : List α}, l.Nodup → (∀ x, x ∈ l → x ∈ S) → l.length ≤ S.length
  | [], S, _, _ => Nat.zero_le _
  | x :: l, S, h, hs => by
    obtain ⟨S1, S2, rfl⟩ := List.append_of_mem (hs x (by simp))
    obtain ⟨h1, h2⟩ := List.nodup_cons.1 h
    have := nodup_le (S := S1 ++ S2) h2 (fun y hy => by
      have h3 := hs y (by simp [hy])
      simp only [List.mem_append, List.mem_cons] at h3 ⊢
      rcases h3 with h3 | rfl | h3
      · exact .inl h3
      · exact absurd hy h1
      · exact .inr h3)
    simp only [List.length_append, List.length_cons] at this ⊢
    omega
/-- What has been met of the keys of a map. -/
structure CollY (D : DataW Unit) (left : Lit → Bool) (ss : List Sym) : Prop where
  nodup : ss.Nodup
  ok : ∀ x, x ∈ ss → okS x
  met : ∀ x, okS x → (x ∈ ss ↔ Maps.has D (symK x) = true ∧ left (symK x) = false)
theorem CollY.start (D : DataW Unit) : CollY D (Maps.has D) [] := ⟨List.nodup_nil, fun _ h => (by cases h), fun x _ => by cases Maps.has D (symK x) <;> simp⟩
theorem sameK {x y : Sym} (hx : okS x) (hy : okS y) : (symK x).sameKey (symK y) = true ↔ x = y := by
  constructor
  · intro h
    refine symK_inj hx hy ?_
    simpa [symK, Lit.sameKey] using h
  · rintro rfl
    simp [symK, Lit.sameKey]
theorem CollY.step {D : DataW Unit} {left : Lit → Bool} {ss : List Sym} (h : CollY D left ss) {x : Sym} (hx : okS x) {y : DataW Unit} (hlk : left (symK x) = true) (hat : ∀ zd, D.atKey (symK x) zd = y) : CollY D (fun z => left z && !z.sameKey (symK x)) (ss ++ [x]) := by
  have hhas : Maps.has D (symK x) = true := has_true_of_atKey hat
  have hnew : x ∉ ss := fun hm => by have := ((h.met x hx).1 hm).2; rw [hlk] at this; cases this
  refine ⟨List.nodup_append.2 ⟨h.nodup, by simp, fun a ha b hb => by simp at hb; subst hb; exact fun e => hnew (e ▸ ha)⟩, fun z hz => ?_, fun z hz => ?_⟩
  · rcases List.mem_append.1 hz with hz | hz
    · exact h.ok z hz
    · simp at hz; subst hz; exact hx
  · by_cases e : z = x
    · subst e
      simp [hhas, (sameK hx hx).2 rfl]
    · have hs : (symK z).sameKey (symK x) = false := by
        rw [Bool.eq_false_iff]
        exact fun q => e ((sameK hz hx).1 q)
      simp [h.met z hz, e, hs]
/-- The keys, each once. -/
def KeyP (S xs : List Sym) : Prop := xs.Nodup ∧ (∀ x, x ∈ xs → okS x) ∧ ∀ x, okS x → (x ∈ xs ↔ x ∈ S)
theorem ranges_keep {n₀ B : Nat} {W W' : World} {b r n : Nat} {D : DataW Unit} {left : Lit → Bool} {cnt : Nat} (h : W.ranges Tryz.prog 42 (plainElem Tryz.prog 4) b r n D left cnt) (hb : b < n₀) (hr : B ≤ r) (h1 : Below n₀ W W') (h2 : KeepsFrom B W W') : W'.ranges Tryz.prog 42 (plainElem Tryz.prog 4) b r n D left cnt := by
  obtain ⟨es, clock, since, seen, c0, h3, F, h4, h5, h6, rest⟩ := h
  exact ⟨es, clock, since, seen, c0, (h1.block b hb).trans h3, F, h4, h5, h2.same r _ hr h6 rfl, rest⟩
theorem enters_keys1 : ∀ args w, (callFunc 74 args).run Tryz.prog w = .ok (.enter 74 args) w := enters_of Tryz.func74 (by kernel_rfl) rfl
/-- maps.Keys: the map in a box; the function captures the box. -/
theorem keys_any (b : Nat) (w : World) :
    Calls Tryz.prog 43 #[.map (some b)] w fun e w' => e = .returned (.func (.func 74) #[] #[.pointer (some ⟨w.heap.size, 0, none⟩)]) ∧ w' = w.alloc (.cells #[.map (some b)] 75) := by
  go_enter Tryz.func43, Tryz.ntmps43
  go_wp2_with fail
  go_ret
  exact ⟨rfl, rfl⟩
theorem bool_inv {v : Value} {y : DataW Unit × List MemPlace} (h : plainElem Tryz.prog 4 v = some y) : ∃ c, v = .bool c := by
  obtain ⟨c, e, _⟩ := plainElem_bool_inv h
  exact ⟨c, e⟩

set_option maxRecDepth 100000 in
set_option maxHeartbeats 2000000 in
theorem keys_priv {F : Fence} (hd : F.depth = none) (hf : ∀ f, F.fn f) (hro : F.round = none) (n : Nat) (h1 : 1 ≤ n) (Bm b nn n₀ : Nat) (S : List Sym) (w : World) (hBm : Box w Bm #[.map (some b)] 75) (_hBn : Bm < n₀) (hbn : b < n₀) (hn₀ : n₀ ≤ w.heap.size) (hs : SeenY w b nn S) :
    SeqPriv F n Tryz.prog 74 #[.pointer (some ⟨Bm, 0, none⟩)] (fun x : Sym => #[symV x]) (fun _ x _ => okS x) n₀ (KeyP S) (fun _ => True) S.length w := by
  intro l J Jx W hW hJ hJx hY hJ0
  obtain ⟨D, hown, hhas⟩ := hs
  have hownW : W.ownsMap Tryz.prog 42 (plainElem Tryz.prog 4) b nn D := hown.kept (grown_b none hW) (by simp)
  have hBW : Box W Bm #[.map (some b)] 75 := Box.keep hW hBm
  have c0 := hBW.cell 0
  have lB := hBW.lt
  have hnW : n₀ ≤ W.heap.size := Nat.le_trans hn₀ hW.size
  simp only [List.getElem?_toArray, List.getElem?_cons_zero] at c0
  have HY := Lib.hid hY
  have HJ := Lib.hid (And.intro hJ hJx)
  have HH := Lib.hid (And.intro hhas hJ0)
  clear hY hJ hJx hhas hJ0 hBm hown
  refine callsIn_of_wp Tryz.func74 rfl (hf _) ?_ hro
  simp only [Tryz.ntmps74, List.size_toArray, List.length_cons, List.length_nil, Nat.reduceAdd, Nat.reduceSub, Array.replicate_succ, Array.replicate_zero, List.push_toArray, List.append_toArray, List.nil_append, List.cons_append]
  gi_wp2_with (gi_at_range; refine wpListIn_range_own _ rfl _ 75 rfl 42 4 keySym Tryz.underlying75 _ b nn _ rfl hownW ?_; intro w0 hrg0 hg0 hs0)
  have hgw0 : Below W.heap.size W w0 := grown_below' hg0 (by omega) (fun g hg => by cases hg)
  have hJ00 := HJ.out.1 (fun _ => False) (fun _ => False) [] W w0 none HH.out.2 hg0 (fun r e => by cases e) (fun _ h => h.elim)
  have hinv : Hid (∃ (left : Lit → Bool) (cnt : Nat) (ss : List Sym), w0.ranges Tryz.prog 42 (plainElem Tryz.prog 4) b W.heap.size nn D left cnt ∧ CollY D left ss ∧ J (fun _ => False) ss w0 ∧ Below n₀ W w0 ∧ W.heap.size < w0.heap.size) :=
    ⟨_, _, [], hrg0, CollY.start D, hJ00, hgw0.mono hnW, by omega⟩
  have HW := Lib.hid hs0
  clear hrg0 hg0 hgw0 hJ00 hs0
  gi_loopw [3] (fun _ wr => Hid (∃ (left : Lit → Bool) (cnt : Nat) (ss : List Sym), wr.ranges Tryz.prog 42 (plainElem Tryz.prog 4) b W.heap.size nn D left cnt ∧ CollY D left ss ∧ J (fun _ => False) ss wr ∧ Below n₀ W wr ∧ W.heap.size < wr.heap.size)) (fun _ wr => wr.rangeLeft b W.heap.size)
  case atStart => exact hinv
  case round =>
    obtain ⟨left, cnt, ss, hrg, hC, hJs, hBW, hlt⟩ := hrel.out
    have hm := hrg.left_eq
    have HC := Lib.hid (And.intro hC (And.intro hJs (And.intro hBW hm)))
    clear hC hJs hm hinv hrel
    gi_wp2_with (gi_at_next; refine wpListIn_next_ranges _ rfl _ rfl 42 keySym (plainElem Tryz.prog 4) symV Value.bool (fun _ _ h => (symKey_inv h).elim fun x hx => ⟨x, hx.2⟩) (fun _ _ h => bool_inv h) b W.heap.size nn _ _ _ rfl hrg ?_ ?_
                 rotate_left
                 intro x cc kl y w1 cnt1 hkey hlk hv hat hrg1 hlt1 hg1 hs1 hen
                 clear hv
                 obtain ⟨hok, hks⟩ : okS x ∧ kl = symK x := by
                   obtain ⟨x', h1, h2⟩ := symKey_inv hkey
                   obtain rfl := symV_inj h2
                   exact ⟨h1, Option.some.inj (hkey.symm.trans (symKey h1))⟩
                 subst hks
                 have hC' := HC.out.1.step hok hlk hat
                 have hlen : ss.length < S.length := by
                   have := nodup_le hC'.nodup (fun z hz => (HH.out.1 z (hC'.ok z hz)).1 ((hC'.met z (hC'.ok z hz)).1 hz).1)
                   simp at this
                   omega
                 have hri : ∃ o : Obj, wr.heap[W.heap.size]? = some o ∧ o.isCells = false := by
                   obtain ⟨es, clock, since, seen, c0, _, _, _, _, h6, _⟩ := hrg
                   exact ⟨_, h6, rfl⟩
                 have hJ1 := HJ.out.1 (fun _ => False) (fun _ => False) ss wr w1 _ HC.out.2.1 hg1 (fun r e => by cases e; exact .inr ⟨Nat.le_refl _, hri⟩) (fun _ h => h.elim)
                 have hy0 := HY.out (fun _ => False) ss x (w1.alloc (.cells (symE x).toArray 42)) (HJ.out.1.lay _ hJ1) hok hlen
                 have hrg2 := hrg1.alloc (.cells (symE x).toArray 42)
                 have hB1 : Below n₀ wr w1 := grown_below' hg1 (by omega) (fun g hg => by cases hg; omega)
                 have HV := Lib.hid (And.intro hC' (And.intro hlt1 (And.intro hrg2 (And.intro hB1 hJ1))))
                 clear hC' hlt1 hrg1 hrg2 hB1 hJ1 hlen hri hlk hat hg1 hkey
                 obtain ⟨s, i⟩ := x
                 simp only [symV, symE] at hen hy0 HV ⊢
                 have hy1 := yield_any hd (n - 1) hy0
                 clear hy0
                 obtain ⟨fn, tmps, assign, body, hy, hR⟩ := hy1
                 rotate_left
                 intro hz hl0
                 have HZ := Lib.hid hl0
                 clear hl0 hz)
    · obtain ⟨hC, hJs, hBW1, hm⟩ := HC.out
      refine bodyPost_end (results_none rfl _ _ _) rfl ?_
      refine ⟨⟨_, rfl⟩, .inl ⟨_, ss, ⟨hC.nodup, hC.ok, fun x hx => ?_⟩, hJs⟩⟩
      rw [hC.met x hx, HZ.out]
      simp [HH.out.1 x hx]
    · refine hR.mono ?_
      clear hR hy
      rintro e W3 ⟨hkf, (⟨rfl, hJ3, hkt3⟩ | ⟨rfl, hX3⟩)⟩
      · have HJ3 := Lib.hid (And.intro hJ3 (And.intro hkt3.1.below hkf))
        clear hJ3 hkt3 hkf
        gi_wp2_with fail
        obtain ⟨hC', hlt1, hrg2, hB1, hJ1⟩ := HV.out
        obtain ⟨hJ3, hkb, hkf⟩ := HJ3.out
        have hrg3 := ranges_keep hrg2 hbn (Nat.le_refl _) hkb hkf
        have hsz := hkf.size
        simp only [World.size_alloc] at hsz
        refine ⟨⟨_, cnt1, _, hrg3, hC', hJ3, (hBW.trans hB1).trans ((below_a1 (by omega) _).trans hkb), by omega⟩, ?_⟩
        rw [hrg3.left_eq, HC.out.2.2.2]
        exact hlt1
      · have HJ3 := Lib.hid hX3
        clear hX3 hkf
        gi_wp2_with fail
        refine bodyPost_ret (results_none rfl _ _ _) rfl ?_
        exact ⟨⟨_, rfl⟩, .inr ⟨_, _, trivial, HJ3.out⟩⟩
end Go.Proofs.YtdigiaigbcfccaaGreatDoor

/- The keys of a map of symbols, collected and sorted. -/
namespace Go.Proofs.YtdigiaigbcfccaaGreatDoor
open Go.RowKit Go Go.Maps Go.Shelf

attribute [local go_sem] Oper.semAt_some

theorem infoSym : (Tryz.prog.info? 42).map (fun i => (i.zero, i.size, i.bytes)) = some (some (.agg #[.string ⟨#[]⟩, .int .i64 0]), 2, 24) := by kernel_rfl
def symsE (xs : List Sym) : List Value := xs.flatMap symE
/-- A row of symbols in a box. -/
def SO (w : World) (Bo : Nat) (p : Nat → Prop) (xs : List Sym) (W : World) : Prop :=
  ∃ v : Value, Box W Bo #[v] 37 ∧ ¬ p Bo ∧ W.ownsRow w.heap.size 42 2 v xs.length (symsE xs) ∧ (∀ b, v.ownBlock = some b → ¬ p b) ∧ Below w.heap.size w W ∧ ∀ b, p b → w.heap.size ≤ b
theorem SO.shut (w : World) (Bo : Nat) {B : Nat} (hB : w.heap.size ≤ B) : Shut B (SO w Bo) := by
  rintro p p' s W W' row ⟨v, h1, h2, h3, h4, h6, h7⟩ hg hr hp
  have hr' : ∀ r, row = some r → p r ∨ ∃ o : Obj, W.heap[r]? = some o ∧ o.isCells = false := fun r e => (hr r e).imp id (·.2)
  have hrow := row_shut h3 h4 hg hr' hp
  refine ⟨v, (hg.block Bo h1.lt fun e => ?_).trans h1, fun h => ?_, hrow.1, hrow.2, h6.trans (grown_below' hg h6.size fun g e => ?_), fun b hb => ?_⟩
  · rcases hr' Bo e.symm with h | ⟨o, ho, hc⟩
    · exact h2 h
    · rw [show W.heap[Bo]? = _ from h1] at ho
      cases ho
      cases hc
  · rcases hp Bo h with h' | h'
    · exact h2 h'
    · have := h1.lt; omega
  · rcases hr g e with h | h
    · exact h7 g h
    · omega
  · rcases hp b hb with h | h
    · exact h7 b h
    · have := h6.size; omega
def SeqPost (S : List Sym) (w : World) (e : Ending) (w' : World) : Prop := ∃ v xs, e = .returned v ∧ KeyP S xs ∧ w'.ownsRow w.heap.size 42 2 v xs.length (symsE xs) ∧ Below w.heap.size w w'

set_option maxRecDepth 100000 in
set_option maxHeartbeats 2000000 in
theorem appendSeq_any (Bm b nn : Nat) (S : List Sym) (w : World) (hBm : Box w Bm #[.map (some b)] 75) (hs : SeenY w b nn S) (hS : S.length ≤ 1000000000) :
    Calls Tryz.prog 90 #[.slice none 0 0, .func (.func 74) #[] #[.pointer (some ⟨Bm, 0, none⟩)]] w (SeqPost S w) := by
  refine (callsIn_wide (n := 9)).1 ?_
  generalize hF : Fence.wide = F
  have hd : F.depth = none := by subst hF; rfl
  have hf : ∀ f, F.fn f := fun f => by subst hF; trivial
  have hro : F.round = none := by subst hF; rfl
  have hbm := hBm.lt
  have hbl := hs.lt
  have HH := Lib.hid (And.intro hBm hs)
  clear hBm hs
  refine callsIn_of_wp_marks Tryz.func90 rfl (hf _) ?_ hro
  simp only [Tryz.ntmps90, List.size_toArray, List.length_cons, List.length_nil, Nat.reduceAdd, Nat.reduceSub, Array.replicate_succ, Array.replicate_zero, List.push_toArray, List.append_toArray, List.nil_append, List.cons_append]
  gi_wp2_with fail
  have hB1 := below_a1 (Nat.le_refl w.heap.size) (.cells #[.slice none 0 0] 37)
  have hsz1 : (w.alloc (.cells #[.slice none 0 0] 37)).heap.size = w.heap.size + 1 := by simp
  have hseq := keys_priv (F := F) hd hf hro (9 - 1) (by omega) Bm b nn w.heap.size S w HH.out.1 hbm hbl (Nat.le_refl _) HH.out.2
  refine wpIn_rangeFunc_priv hro (by omega) rfl (hf _) enters_keys1 hseq hB1 (by omega) (fun x => rfl) (fun _ _ _ _ _ _ h _ _ _ => h)
    (SO w w.heap.size) (fun _ _ _ _ => False) (SO.shut w w.heap.size (by omega)) (fun _ _ _ _ _ _ _ h _ _ _ => h)
    ⟨_, Box.at rfl, fun h => h, World.ownsRow_nil _ _ _ _, fun _ _ h => h, hB1, fun _ h => h.elim⟩
    (fun x a' W => ∃ Bx : Nat, a' = { tmps := #[Value.slice none 0 0, Value.func (Fn.func 74) #[] #[Value.pointer (some { block := Bm, off := 0 })], Value.pointer (some { block := w.heap.size, off := 0 }), undef, Value.slice none 0 0, .pointer (some ⟨Bx, 0, none⟩), Value.func (Fn.func 74) #[] #[Value.pointer (some { block := Bm, off := 0 })], symV x, undef, undef, undef, undef, undef], defers := [] } ∧ Box W Bx (symE x).toArray 42)
    ?_ ?_ ?_ ?_ (fun D c p pre W _ _ _ h _ => h.elim)
  · rintro x a' W l o o' ⟨Bx, rfl, hb⟩ hl ho
    refine ⟨Bx, rfl, (World.putObj_heap_other (fun e => ?_)).trans hb⟩
    subst e
    rw [show W.heap[_]? = some _ from hb] at hl
    cases hl
    cases ho
  · rintro l p pre ⟨s, i⟩ W K hi hv hsW hpb hK
    have HK := Lib.hid hK
    clear hK
    simp only [symV]
    gi_wp2_with fail
    refine HK.out _ _ ((KeepsOthers.of_below (below_a1 (Nat.le_refl _) _)).from _) ⟨⟨below_a1 (by omega) _, fun b cs fr hb => ?_⟩, fun b _ hb => Below.heap_alloc W _ b hb⟩ ((SO.shut w w.heap.size (B := w.heap.size) (Nat.le_refl _)).lay _ hi) hv ⟨W.heap.size, rfl, Box.at rfl⟩
    exact (Below.heap_alloc W _ b (Array.getElem?_eq_some_iff.1 hb).1).trans hb
  · rintro l p pre ⟨s, i⟩ a' W ⟨v, h1, h2, h3, h4, h6, h7⟩ hv ⟨Bx, rfl, hbx⟩ hsW hpb hlen
    have hBo : Box W w.heap.size #[v] 37 := h1
    have c0 := h1.cell 0
    have q0 := hbx.cell 0
    have q1 := hbx.cell 1
    have hlo := h1.lt
    have hlx := hbx.lt
    simp only [symE, List.getElem?_toArray, List.getElem?_cons_succ, List.getElem?_cons_zero] at c0 q0 q1
    have hsv : symV (s, i) = .agg #[.string s, .int .i64 i] := rfl
    rw [hsv]
    have hh := Lib.hid (And.intro h1 (And.intro h2 (And.intro h3 (And.intro h4 (And.intro h6 h7)))))
    clear h1 h2 h3 h4 h6 h7 hbx hv hsv hseq hB1
    have HS1 := Lib.hid hsz1
    clear hsz1
    obtain ⟨i0, hi, hz0, hz1, hz2⟩ := info_parts infoSym
    have hC := below_a1 (Nat.le_refl W.heap.size) (.cells #[.string s, .int .i64 i] 42)
    have g3 : (W.alloc (.cells #[.string s, .int .i64 i] 42)).ownsRow w.heap.size 42 2 v pre.length (symsE pre) := hh.out.2.2.1.kept (grown_b none hC) (by rcases v.ownBlock with _ | _ <;> simp)
    have hnews : ∀ j u, [Value.string s, .int .i64 i][j]? = some u → (W.alloc (.cells #[.string s, .int .i64 i] 42)).cell? ((⟨W.heap.size, 0, none⟩ : Addr).add j) = some u := fun j u hu => by
      have hb : Box (W.alloc (.cells #[.string s, .int .i64 i] 42)) W.heap.size #[.string s, .int .i64 i] 42 := Box.at rfl
      rw [Addr.add_lit]
      have := hb.cell (0 + j)
      rw [this]
      simpa using hu
    have HN := Lib.hid (And.intro g3 (And.intro hnews hC))
    clear g3 hnews hC
    gi_wp2_with (gi_at_builtin; refine wpListIn_append_where _ rfl _ _ 37 rfl w.heap.size 42 i0 (.agg #[.string ⟨#[]⟩, .int .i64 0]) 2 24 Tryz.underlying37 hi hz0 hz1 hz2 rfl (by decide) v pre.length (symsE pre) rfl HN.out.1 ⟨W.heap.size, 0, none⟩ 1 1 [.string s, .int .i64 i] rfl rfl HN.out.2.1 (fun y hy => by simp at hy; rcases hy with rfl | rfl <;> rfl) (by unfold maxLen; omega) (by omega) (by simp; omega) ?_)
    intro v2 w4 hown hgrow hwh
    obtain ⟨g3, hnews, hC⟩ := HN.out
    obtain ⟨h1, h2, h3, h4, h6, h7⟩ := hh.out
    obtain ⟨g, cap, hv2⟩ := ownsRow_succ hown
    have hsC := hC.size
    have hneB := row_not_box h3 h1 (by decide)
    have q1' := Box.keep hC h1
    have q2 : Box w4 w.heap.size #[v] 37 := (hgrow.block _ q1'.lt hneB).trans q1'
    have c2 := q2.cell 0
    have f2 := q2.frozen 0
    simp only [List.getElem?_toArray, List.getElem?_cons_zero] at c2
    have hkeep : ∀ k, k < W.heap.size → some k ≠ v.ownBlock → k ≠ w.heap.size → (w4.setCell ⟨w.heap.size, 0, none⟩ v2).heap[k]? = W.heap[k]? := fun k hk hn hB => (Below.heap_setCell w4 ⟨w.heap.size, 0, none⟩ v2 k hB).trans ((hgrow.block k (by omega) hn).trans (Below.block hC k hk))
    have hKO : KeepsOthers W (w4.setCell ⟨w.heap.size, 0, none⟩ v2) := ((KeepsOthers.of_below hC).trans (KeepsOthers.of_grownBy hgrow fun j o ej hj => row_cells g3 j o ej hj)).trans (KeepsOthers.setCell _ _ _)
    have hbase : ∀ j, v.ownBlock = some j → w.heap.size ≤ j := fun j hj => (h3.lt j hj).1
    have hKB : Below w.heap.size W (w4.setCell ⟨w.heap.size, 0, none⟩ v2) := ((Below.mono hC h6.size).trans (grown_below' hgrow (by have := h6.size; omega) hbase)).setCell (p := ⟨w.heap.size, 0, none⟩) (Nat.le_refl _) v2
    have hKP : KP w.heap.size p W (w4.setCell ⟨w.heap.size, 0, none⟩ v2) := by
      refine ⟨⟨hKB, fun k cs fr hk => (hkeep k (Array.getElem?_eq_some_iff.1 hk).1 ?_ ?_).trans hk⟩, fun k hk hkW => hkeep k hkW (fun e => h4 k e.symm hk) (fun e => h2 (e ▸ hk))⟩
      · intro e
        rcases h3.2 with ⟨rfl, _⟩ | ⟨g', _, _, rfl, _, hgb, _⟩
        · cases e
        · cases e
          rw [hk] at hgb
          cases hgb
      · intro e
        subst e
        rw [show W.heap[_]? = _ from h1] at hk
        cases hk
    have hSO : SO w w.heap.size p (pre ++ [(s, i)]) (w4.setCell ⟨w.heap.size, 0, none⟩ v2) := by
      have hnb2 := row_not_box hown q2 (by decide)
      refine ⟨v2, by simpa using q2.set 0 v2, h2, ?_, fun k hk hp => ?_, h6.trans hKB, h7⟩
      · rw [len_snoc, show symsE (pre ++ [(s, i)]) = symsE pre ++ [.string s, .int .i64 i] by simp [symsE, symE]]
        exact hown.kept (grown_set w.heap.size 0 w4 v2) (.inr hnb2.symm)
      · rcases hwh k hk with h | h
        · exact h4 k h hp
        · have := (hpb k hp).2; omega
    have HF := Lib.hid (And.intro hKO (And.intro hKP hSO))
    clear hKO hKP hSO hKB hkeep h1 h2 h3 h4 h6 h7 hown hgrow hwh q1' g3 hC hbase hnews
    subst hv2
    gi_wp2_with fail
    exact ⟨HF.out.1.from _, HF.out.2.1, HF.out.2.2⟩
  · rintro D p xs W hDle hpD hxs ⟨v, h1, h2, h3, h4, h6, h7⟩ hK
    have c0 := h1.cell 0
    simp only [List.getElem?_toArray, List.getElem?_cons_zero] at c0
    have hlo := h1.lt
    gi_wp2_with fail
    refine ⟨by simp, .inl ⟨_, _, rfl, run_takeDeferred hK, ?_⟩⟩
    refine ⟨v, by simp [results, Tryz.results90, go_sem], v, xs, rfl, hxs, ownsRow_putObj h3 (.deferred none) hK rfl, h6.trans (belowK_b (w := w) (Nat.le_refl _) W D _ (.deferred none) (by omega) hK rfl rfl)⟩
end Go.Proofs.YtdigiaigbcfccaaGreatDoor

/- Sorting a row of symbols. -/
namespace Go.Proofs.YtdigiaigbcfccaaGreatDoor
open Go.RowKit Go Go.Maps Go.Shelf

instance : Inhabited Sym := ⟨(⟨#[]⟩, 0)⟩
theorem symsE_get : ∀ (xs : List Sym) (t : Nat), t < xs.length * 2 → (symsE xs)[t]? = some ((symE xs[t / 2]!)[t % 2]!)
  | [], t, h => by simp at h
  | x :: xs, 0, _ => by simp [symsE, symE]
  | x :: xs, 1, _ => by simp [symsE, symE]
  | x :: xs, t + 2, h => by
    have := symsE_get xs t (by simp at h; omega)
    have e1 : (t + 2) / 2 = t / 2 + 1 := by omega
    have e2 : (t + 2) % 2 = t % 2 := by omega
    rw [e1, e2]
    simp only [symsE, List.flatMap_cons] at this ⊢
    rw [show symE x ++ xs.flatMap symE = .string x.1 :: .int .i64 x.2 :: xs.flatMap symE from rfl]
    simpa using this
theorem symsE_len : ∀ xs : List Sym, (symsE xs).length = xs.length * 2
  | [] => rfl
  | x :: xs => by
    have := symsE_len xs
    simp only [symsE, List.flatMap_cons, List.length_append, List.length_cons] at this ⊢
    rw [this]
    simp [symE]
    omega
theorem flat_syms (d : Array Sym) : (Sort.flatK symE 2 d).toList = symsE d.toList := by
  refine List.ext_getElem? fun t => ?_
  by_cases h : t < d.size * 2
  · rw [symsE_get d.toList t (by simpa using h)]
    have h1 := Sort.get_flatK symE 2 d t h
    rw [Array.getElem?_toList, Array.getElem?_eq_getElem (by simpa using h)]
    rw [getElem!_pos _ t (by simpa using h)] at h1
    rw [h1, show d.toList[t / 2]! = d[t / 2]! by simp [Array.getElem!_eq_getD, Array.getD_eq_getD_getElem?]]
  · rw [List.getElem?_eq_none (by simp; omega), List.getElem?_eq_none (by rw [symsE_len]; simp; omega)]
theorem putCells_take (F cur : Array Value) (h : F.size ≤ cur.size) : (Sort.putCells id 0 F cur).size = cur.size ∧ (Sort.putCells id 0 F cur).toList.take F.size = F.toList := by
  have hs : (Sort.putCells id 0 F cur).size = cur.size := by simp [Sort.putCells]
  refine ⟨hs, List.ext_getElem? fun t => ?_⟩
  by_cases ht : t < F.size
  · rw [List.getElem?_take, if_pos ht, Array.getElem?_toList, Array.getElem?_toList]
    simp only [Sort.putCells, Array.getElem?_mapIdx]
    rw [Array.getElem?_eq_getElem (by omega), Array.getElem?_eq_getElem ht]
    simp [ht]
  · rw [List.getElem?_eq_none (by simp; omega), List.getElem?_eq_none (by simp; omega)]
theorem holds_of_own {base : Nat} {w : World} {xs : List Sym} {g cap : Nat} (h : w.ownsRow base 42 2 (.slice (some ⟨g, 0, none⟩) xs.length cap) xs.length (symsE xs)) : Sort.HoldsK symE 2 w g 0 xs.toArray := by
  intro t ht
  have ht' : t < xs.length * 2 := by simpa using ht
  have hc := World.ownsRow.cells h (g := g) rfl t _ (symsE_get xs t ht')
  rw [Addr.add_lit] at hc
  rw [Sort.get_flatK symE 2 _ t (by simpa using ht')]
  refine ⟨by simpa using hc, ?_⟩
  rcases h.2 with ⟨h1, _⟩ | ⟨g', cap', cur, h1, _, hg, _⟩
  · cases h1
  · cases h1
    simp [World.frozen?, hg]
theorem sorted_own {base : Nat} {w : World} {xs ys : List Sym} {g cap n : Nat} {os : Array Obj} (h : w.ownsRow base 42 2 (.slice (some ⟨g, 0, none⟩) xs.length cap) xs.length (symsE xs)) (hl : ys.length = xs.length) :
    (sortWorldK symE 2 w g 0 n ys.toArray os).ownsRow base 42 2 (.slice (some ⟨g, 0, none⟩) xs.length cap) ys.length (symsE ys) ∧ w.grownBy (sortWorldK symE 2 w g 0 n ys.toArray os) (some g) := by
  have hlt := (h.lt g rfl).2
  have hF : (Sort.flatK symE 2 ys.toArray).size = xs.length * 2 := by simp [hl]
  have hheap : ∀ k, k < w.heap.size → (sortWorldK symE 2 w g 0 n ys.toArray os).heap[k]? = (w.heap.modify g (Sort.onCells (Sort.putCells id 0 (Sort.flatK symE 2 ys.toArray))))[k]? := fun k hk => by
    unfold sortWorldK
    rw [Sort.heap_grow_old _ _ (by simpa [Sort.putRowK] using hk)]
    rfl
  refine ⟨⟨by rw [symsE_len], .inr ?_⟩, ?_⟩
  · rcases h.2 with ⟨h1, _⟩ | ⟨g', cap', cur, h1, h2, hg, h3, h4, h5, h6⟩
    · cases h1
    · cases h1
      have hp := putCells_take (Sort.flatK symE 2 ys.toArray) cur (by rw [hF, h5]; exact Nat.mul_le_mul_right 2 h3)
      refine ⟨g, cap, _, by rw [hl], h2, ?_, by omega, h4, hp.1.trans h5, ?_⟩
      · rw [hheap g hlt, Array.getElem?_modify, if_pos rfl, hg]
        rfl
      · have := hp.2
        rw [hF, flat_syms] at this
        rw [hl]
        exact this
  · refine ⟨rfl, rfl, rfl, ?_, fun k hk hne => ?_⟩
    · unfold sortWorldK
      simp [Sort.putRowK]
    · rw [hheap k hk, Array.getElem?_modify, if_neg (fun e => hne (by rw [e]))]
/-- In ascending order. -/
def Asc (ys : List Sym) : Prop := ys.Pairwise fun x y => symO x y ≤ 0
theorem KeyP.perm {S xs ys : List Sym} (h : KeyP S xs) (hp : ys.Perm xs) : KeyP S ys :=
  ⟨hp.nodup_iff.2 h.1, fun x hx => h.2.1 x (hp.mem_iff.1 hx), fun x hx => hp.mem_iff.trans (h.2.2 x hx)⟩
theorem KeyP.le {S xs : List Sym} (h : KeyP S xs) : xs.length ≤ S.length := nodup_le h.1 fun x hx => (h.2.2 x (h.2.1 x hx)).1 hx
/-- The iterator over the keys of the map in box Bm. -/
def keysV (Bm : Nat) : Value := .func (.func 74) #[] #[.pointer (some ⟨Bm, 0, none⟩)]
/-- The symbols of S, in order, each once. -/
def SymsPost (S : List Sym) (w : World) (e : Ending) (w' : World) : Prop := ∃ v xs, e = .returned v ∧ KeyP S xs ∧ Asc xs ∧ w'.ownsRow w.heap.size 42 2 v xs.length (symsE xs) ∧ Below w.heap.size w w'
end Go.Proofs.YtdigiaigbcfccaaGreatDoor
