/- Trees whose variables are numbered by a row: the second reading. -/
import Derived.Test.YtlaeaoecmnaneaaDoorRefVars
import Derived.Test.YtlaeaoecmnaneaaDoorRowG
import Derived.Test.YtlaeaoecmnaneaaDoorMatchG
namespace Go.Proofs.YtlaeaoecmnaneaaDoor
open Go.RowKit Go

attribute [local go_sem] Oper.semAt_some uponP Yld.says

/-- The phases of a region that calls and then appends: the row is turned by the append alone. -/
def NC (wr : World) (row : Option Nat) : Nat → World → Prop
  | 0, w => Below wr.heap.size wr w
  | 1, w => Below wr.heap.size wr w
  | _, w => wr.grownBy w row
theorem NC.start (w : World) (row : Option Nat) : NC w row 0 { w with drawn := w.drawn + 1 } := ⟨rfl, rfl, rfl, Nat.le_refl _, fun _ _ => rfl⟩
theorem NC.grown {wr w : World} {row : Option Nat} {b : Nat} (h : NC wr row b w) : wr.grownBy w row := by
  match b with
  | 0 => exact grown_b row h
  | 1 => exact grown_b row h
  | _ + 2 => exact h
theorem NC.alloc {wr w : World} {row : Option Nat} {b : Nat} (h : NC wr row b w) (o : Obj) : NC wr row b (w.alloc o) := by
  match b with
  | 0 => exact Below.alloc h h.size o
  | 1 => exact Below.alloc h h.size o
  | _ + 2 => exact grown_step h (World.grownBy_alloc w o _)
theorem num_hys (v0 v1 v2 v3 v4 v5 v6 v7 v11 : Value) (lo base : Nat) (T : Tr) (bm : Nat) (row : Option Nat) (jj : Nat) (xs : List Value) (hb : bm < lo) (hr : ∀ k, row = some k → k < lo) (i b : Nat) (h : i = 10 → b = 2) :
    (([.det v0, .det v1, .det v2, .det v3, .det v4, .det v5, .det v6, .det v7, .any (IsNewT lo T), .any (IsNewS lo T), .any (IsRowT base lo row jj xs T), .det v11] : List Yld).getD i (.any fun _ _ => True)).stableP (GR bm row b) := by
  match i with
  | 0 => trivial
  | 1 => trivial
  | 2 => trivial
  | 3 => trivial
  | 4 => trivial
  | 5 => trivial
  | 6 => trivial
  | 7 => trivial
  | 8 => exact IsNewT.stable lo T bm row hb hr b
  | 9 => exact IsNewS.stable lo T bm row hb hr b
  | 10 => obtain rfl := h rfl; exact IsRowT.stable base lo row row jj xs T bm
  | 11 => trivial
  | _ + 12 => exact fun _ _ _ _ _ => trivial
/-- The append of the region, in the phase behind the call. -/
theorem row_append2 (W6 w' : World) (bm base : Nat) (ov : Value) (j : Nat) (xs : List Value) (T : Tr) (x : Value) (hC : NC W6 ov.ownBlock 1 w') (hown : W6.ownsRow base 25 4 ov j xs) (hx : IsNewS W6.heap.size T x w') (hj : j < 1000000000) (hbase : base ≤ W6.heap.size) :
    ∃ v2 w2, (Builtin.append_ #[22, 22] 22 #[ov, x]).run Tryd.prog w' = .ok v2 w2 ∧ GR bm ov.ownBlock 1 w' w2 ∧ NC W6 ov.ownBlock 2 w2 ∧ IsRowT base W6.heap.size ov.ownBlock j xs T v2 w2 := by
  obtain ⟨g, v0, v1, v2, v3, rfl, hg, hbox, hs, hP⟩ := hx
  obtain ⟨i0, hi, hz0, hz1, hz2⟩ := info_parts infoTerm
  have hC' : Below W6.heap.size W6 w' := hC
  have hown' : w'.ownsRow base 25 4 ov j xs := hown.kept (grown_b none hC') (by rcases ov.ownBlock with _ | _ <;> simp)
  have h1 : ∀ u ∈ [v0, v1, v2, v3], u.oneCell' = true := by
    obtain ⟨k, n, s, a, m, c, e⟩ := hP.form
    simp only [Value.agg.injEq, Array.mk.injEq, List.cons.injEq, and_true] at e
    obtain ⟨rfl, rfl, rfl, rfl⟩ := e
    intro u hu
    simp only [List.mem_cons, List.not_mem_nil, or_false] at hu
    rcases hu with rfl | rfl | rfl | rfl <;> rfl
  have hsz := hC'.size
  obtain ⟨v', w2, hr, h2, h3, _⟩ := run_append_own (P := Tryd.prog) w' base 22 22 25 i0 _ 4 56 Tryd.underlying22 hi hz0 hz1 hz2 rfl (by decide) ov j xs hown' ⟨g, 0, none⟩ 1 1 [v0, v1, v2, v3] rfl (cells_of_box hbox) h1 (by unfold maxLen; omega) (by omega) (by omega)
  have h4 := append_where 22 22 25 i0 _ 4 56 Tryd.underlying22 hi hz0 hz1 hz2 rfl (by decide) base ov j xs hown' ⟨g, 0, none⟩ 1 1 [v0, v1, v2, v3] rfl (cells_of_box hbox) h1 (by unfold maxLen; omega) (by omega) v' w2 hr
  have hlt : ∀ k, ov.ownBlock = some k → k < W6.heap.size := fun k hk => (hown.lt k hk).2
  refine ⟨v', w2, hr, h3, grown_step (grown_b _ hC') h3, v0, v1, v2, v3, h2, ?_, fun k hk => ?_⟩
  · refine IsP.map (fun k hk => ⟨⟨hk.1, Nat.lt_of_lt_of_le hk.2 h3.size, fun e => ?_⟩, h3.block k hk.2 (fun e => by have := hlt k e.symm; have := hk.1; omega)⟩) _ _ hP
    rcases h4 k e.symm with h | h
    · have := hlt k h; have := hk.1; omega
    · have := hk.2; omega
  · rcases h4 k hk with h | h
    · exact .inl h
    · exact .inr (by omega)
/-- The row behind the append. -/
theorem RowG.took {n₀ lo : Nat} {w wr w3 : World} {l : List Tr} {ov rv : Value} {xs : List Value} {t : Tr} {j : Nat} (h : RowG none n₀ lo w l ov xs wr) (hj : j = l.length) (hr : IsRowT lo wr.heap.size ov.ownBlock j xs t rv w3) (hg : wr.grownBy w3 ov.ownBlock) : ∃ ys, RowG none n₀ lo w (l ++ [t]) rv ys w3 := by
  subst hj
  obtain ⟨v0, v1, v2, v3, hown, hP, hwh⟩ := hr
  have hs := hg.size
  have hm : ∀ b, OB n₀ lo ov wr b → OB n₀ lo rv w3 b ∧ w3.heap[b]? = wr.heap[b]? := fun b ⟨h1, h2, h3⟩ => by
    refine ⟨⟨h1, by omega, fun e => ?_⟩, hg.block b h2 h3⟩
    rcases hwh b e.symm with h | h
    · exact h3 h.symm
    · omega
  have hb := h.hw
  have hl := h.hlo
  have hsz := h.grown.size
  refine ⟨xs ++ [v0, v1, v2, v3], by rw [len_snoc]; exact hown, by have := h.len; simp only [List.length_append, List.length_cons, List.length_nil]; omega, LaidR.snoc (LaidR.map h.laid hm) h.len (IsP.map (fun b hb => ⟨⟨.inr (by have := hb.1; omega), hb.2.1, hb.2.2⟩, rfl⟩) _ _ hP), ⟨hg.os.trans h.grown.os, hg.tape.trans h.grown.tape, hg.output.trans h.grown.output, by omega, fun k hk hr => ?_⟩, h.hn, h.hrow, hb, by omega⟩
  refine (hg.block k (by omega) (fun e => ?_)).trans (h.grown.block k hk hr)
  have := (h.block e.symm).1
  omega

def NumPost (ns : List Int) (T : Tr) (w : World) (e : Ending) (w' : World) : Prop := ∃ k x s a m c, e = .returned (.agg #[.int .i64 k, .int .i64 x, .string s, .slice a m c]) ∧ IsP (New w.heap.size w') w' (renT (idxR ns) T) (.agg #[.int .i64 k, .int .i64 x, .string s, .slice a m c]) ∧ Below w.heap.size w w'
structure NuAt (w : World) (ns : List Int) (lv : Value) (k x y : Int) (s : ByteArray) (l : List Tr) (a : Option Addr) (c j : Nat) (ov : Value) (xs : List Value) (wr : World) : Prop where
  b0 : Box wr w.heap.size #[.int .i64 k, .int .i64 x, .string s, .slice a l.length c] 25
  b1 : Box wr (w.heap.size + 1) #[.int .i64 0, .int .i64 0, .string ⟨#[]⟩, .slice none 0 0] 25
  b2 : Box wr (w.heap.size + 1 + 1) #[.int .i64 k, .int .i64 y, .string s, ov] 25
  row : RowG none 0 (w.heap.size + 3) w ((l.take j).map (renT (idxR ns))) ov xs wr
  nums : Nums 0 wr lv ns
  old : ∀ b, lv.ownBlock = some b → b < w.heap.size
theorem none_below2 {w W : World} (h : w.grownBy W none) : Below w.heap.size w W := grown_below' h (Nat.le_refl _) (fun g e => by cases e)
theorem idxR_ok {ns : List Int} (h : ns.length ≤ 1000000) (x : Int) : okI (idxR ns x) := by
  unfold okI idxR
  split
  · rename_i hx
    have := List.idxOf_lt_length_of_mem hx
    omega
  · omega
theorem NuAt.next {w wr w3 : World} {ns : List Int} {lv ov rv : Value} {k x y : Int} {s : ByteArray} {l : List Tr} {a : Option Addr} {c j : Nat} {xs : List Value} (h : NuAt w ns lv k x y s l a c j ov xs wr) (hj : j < l.length)
    (hr : IsRowT (w.heap.size + 3) wr.heap.size ov.ownBlock j xs (renT (idxR ns) l[j]) rv w3) (hg : wr.grownBy w3 ov.ownBlock) : ∃ ys, NuAt w ns lv k x y s l a c (j + 1) rv ys (w3.setCell ⟨w.heap.size + 1 + 1, 3, none⟩ rv) := by
  have hlen : j = ((l.take j).map (renT (idxR ns))).length := by simp; omega
  obtain ⟨ys, hRn⟩ := h.row.took hlen hr hg
  rw [← List.map_singleton, ← List.map_append, ← List.take_succ_eq_append_getElem hj] at hRn
  have hne : ∀ B, B < w.heap.size + 3 → some B ≠ ov.ownBlock := fun B hB e => by have := (h.row.block e.symm).1; omega
  have n0 := (hg.block _ h.b0.lt (hne _ (by omega))).trans h.b0
  have n1 := (hg.block _ h.b1.lt (hne _ (by omega))).trans h.b1
  have n2 : Box w3 (w.heap.size + 1 + 1) #[.int .i64 k, .int .i64 y, .string s, ov] 25 := (hg.block _ h.b2.lt (hne _ (by omega))).trans h.b2
  refine ⟨ys, Box.other n0 (by omega) 3 _, Box.other n1 (by omega) 3 _, by simpa using n2.set 3 rv, hRn.set (by omega) (by omega) 3 rv, ?_, h.old⟩
  exact h.nums.at fun g e => by
    have := h.old g e
    rw [Below.heap_setCell _ _ _ _ (by simp; omega)]
    exact hg.block g (h.nums.lt g e).2 (hne g (by omega))
theorem below_set {w W : World} {n B : Nat} (h : Below n w W) (hB : n ≤ B) (i : Nat) (v : Value) : Below n w (W.setCell ⟨B, i, none⟩ v) := h.setCell (p := ⟨B, i, none⟩) hB v

set_option maxRecDepth 100000 in
set_option maxHeartbeats 8000000 in
theorem numbered_any (ns : List Int) (hns : ns.length ≤ 1000000) (T : Tr) : ∀ (v lv : Value) (w : World), IsT w.heap.size w T v → Nums 0 w lv ns → T.size ≤ 1000000 →
    Calls Tryd.prog 130 #[v, lv] w (NumPost ns T w) := by
  induction T using Tr.ind with
  | h k x s l ih =>
  intro v lv w hT hN hsz
  obtain ⟨a, c, rfl, h1, h2, h3, h4, h5, hl⟩ := hT.open
  have hlm : l.length ≤ 9223372036854775807 := by unfold maxLen at h5; omega
  simp only [Tr.size] at hsz
  have hln := length_le_sizeL l
  have HI := Lib.hid ih
  have HL := Lib.hid hl
  have HOK := Lib.hid (And.intro h1 (And.intro h2 h3))
  have hold : ∀ b, lv.ownBlock = some b → b < w.heap.size := fun b e => (hN.lt b e).2
  clear ih hl hT h1 h3
  refine (callsIn_wide (n := 9)).1 ?_
  generalize hF : Fence.wide = F
  have hd : F.depth = none := by subst hF; rfl
  have hf : ∀ f, F.fn f := fun f => by subst hF; trivial
  have hro : F.round = none := by subst hF; rfl
  by_cases hk : k = 1
  · subst hk
    have HRN : Hid (renT (idxR ns) (.node 1 x s l) = .node 1 (idxR ns x) s (l.map (renT (idxR ns)))) := by rw [Hid, renT, renL_map]; simp
    have HY : Hid (okI (idxR ns x)) := idxR_ok hns x
    have b0 : Box (((w.alloc (.cells #[.int .i64 1, .int .i64 x, .string s, .slice a l.length c] 25)).alloc (.cells #[.int .i64 0, .int .i64 0, .string ⟨#[]⟩, .slice none 0 0] 25)).alloc (.cells #[.int .i64 1, .int .i64 x, .string s, .slice none 0 0] 25)) w.heap.size #[.int .i64 1, .int .i64 x, .string s, .slice a l.length c] 25 := ((Box.at rfl).alloc _).alloc _
    have b1 : Box (((w.alloc (.cells #[.int .i64 1, .int .i64 x, .string s, .slice a l.length c] 25)).alloc (.cells #[.int .i64 0, .int .i64 0, .string ⟨#[]⟩, .slice none 0 0] 25)).alloc (.cells #[.int .i64 1, .int .i64 x, .string s, .slice none 0 0] 25)) (w.heap.size + 1) #[.int .i64 0, .int .i64 0, .string ⟨#[]⟩, .slice none 0 0] 25 := (Box.at (by simp)).alloc _
    have b2 : Box (((w.alloc (.cells #[.int .i64 1, .int .i64 x, .string s, .slice a l.length c] 25)).alloc (.cells #[.int .i64 0, .int .i64 0, .string ⟨#[]⟩, .slice none 0 0] 25)).alloc (.cells #[.int .i64 1, .int .i64 x, .string s, .slice none 0 0] 25)) (w.heap.size + 1 + 1) #[.int .i64 1, .int .i64 x, .string s, .slice none 0 0] 25 := Box.at (by simp)
    have hB0 : Below w.heap.size w (((w.alloc (.cells #[.int .i64 1, .int .i64 x, .string s, .slice a l.length c] 25)).alloc (.cells #[.int .i64 0, .int .i64 0, .string ⟨#[]⟩, .slice none 0 0] 25)).alloc (.cells #[.int .i64 1, .int .i64 x, .string s, .slice none 0 0] 25)) := below_a3 (Nat.le_refl _) _ _ _
    have hN0 := hN.keep hB0
    have hix := refIndex_any 0 ns lv x (((w.alloc (.cells #[.int .i64 1, .int .i64 x, .string s, .slice a l.length c] 25)).alloc (.cells #[.int .i64 0, .int .i64 0, .string ⟨#[]⟩, .slice none 0 0] 25)).alloc (.cells #[.int .i64 1, .int .i64 x, .string s, .slice none 0 0] 25)) hN0 hns
    have HIX := Lib.hid hix
    have HN0 := Lib.hid (And.intro hN0 hB0)
    clear hix hN hN0 hB0
    refine callsIn_of_wp Tryd.func130 rfl (hf _) ?_ hro
    simp only [Tryd.ntmps130, List.size_toArray, List.length_cons, List.length_nil, Nat.reduceAdd, Nat.reduceSub, Array.replicate_succ, Array.replicate_zero, List.push_toArray, List.append_toArray, List.nil_append, List.cons_append]
    gi_wp2_with fail
    refine CallsIn.mono (callsIn_of_calls hF HIX.out) ?_
    rintro e W1 ⟨rfl, B⟩
    replace b0 := Box.keep B b0
    replace b1 := Box.keep B b1
    replace b2 := Box.keep B b2
    have HN1 := Lib.hid (And.intro (HN0.out.1.keep B) (HN0.out.2.trans (B.mono HN0.out.2.size)))
    have hs1 : w.heap.size + 3 ≤ W1.heap.size := by have := B.size; simp at this; omega
    clear B HN0 HIX
    have p1 := b2.cell 1
    have f1 := b2.frozen 1
    have l2 := b2.lt
    simp only [List.getElem?_toArray, List.getElem?_cons_succ, List.getElem?_cons_zero] at p1
    have hS0 : NuAt w ns lv 1 x (idxR ns x) s l a c 0 (.slice none 0 0) [] (W1.setCell ⟨w.heap.size + 1 + 1, 1, none⟩ (.int .i64 (idxR ns x))) := ⟨b0.other (by omega) 1 _, b1.other (by omega) 1 _, by simpa using b2.set 1 (.int .i64 (idxR ns x)), RowG.nil (grown_b none (below_set HN1.out.2 (by omega) 1 _)) (Nat.zero_le _) (fun p e => by cases e) (by omega) (by simpa using hs1), HN1.out.1.at (fun g e => Below.heap_setCell _ _ _ _ (by have := hold g e; simp; omega)), hold⟩
    have HS0 := Lib.hid hS0
    clear hS0 hold b0 b1 b2 HN1
    gi_wp2_with fail
    gi_loopw [6] (fun i wr => ∃ (j : Nat) (ov : Value) (xs : List Value), j ≤ l.length ∧ i = .int .i64 j ∧ NuAt w ns lv 1 x (idxR ns x) s l a c j ov xs wr) (fun i _ => l.length - (intOf i).toNat)
    case atStart => exact ⟨0, _, _, Nat.zero_le _, rfl, HS0.out⟩
    case round =>
      clear HS0
      obtain ⟨j, ov, xs, hj, rfl, hS⟩ := hrel
      have HA := Lib.hid hS
      have c3 := hS.b0.cell 3
      have lb0 := hS.b0.lt
      simp only [List.getElem?_toArray, List.getElem?_cons_succ, List.getElem?_cons_zero] at c3
      have hBr := none_below2 hS.row.grown
      clear hS
      by_cases hlt : j < l.length
      · obtain ⟨b, off, rfl, hbb⟩ := HL.out.addr (by omega)
        obtain ⟨tk, tn, ts, tl, ta, tc, te, d0, d1, d2, d3, ht⟩ := HL.out.node' hbb hBr j hlt
        have hbw : b < wr.heap.size := by have := hBr.size; omega
        have hwr : w.heap.size + 3 ≤ wr.heap.size := HA.out.row.hlo
        have hT1 : j < 1000000000 := by omega
        obtain ⟨R, hR⟩ : ∃ R, renT (idxR ns) l[j] = R := ⟨_, rfl⟩
        have hcall : ∀ w', Below wr.heap.size wr w' → Calls Tryd.prog 130 #[.agg #[.int .i64 tk, .int .i64 tn, .string ts, .slice ta tl.length tc], lv] w' (fun e w2 => ∃ v', e = .returned v' ∧ GR w.heap.size ov.ownBlock 0 w' w2 ∧ NC wr ov.ownBlock 1 w2 ∧ IsNewT wr.heap.size R v' w2) := fun w' hb => (HI.out l[j] (List.getElem_mem hlt) _ lv w' ((ht.up hBr hBr.size).up hb hb.size) (HA.out.nums.keep hb) (by have := size_mem (List.getElem_mem hlt); omega)).mono (by
          rintro e w2 ⟨yk, yx, ys, ya, ym, yc, rfl, hP, B⟩
          rw [hR] at hP
          have hs1 := hb.size
          have hs2 := B.size
          exact ⟨_, rfl, grown_b _ B, hb.trans (B.mono hs1), by omega, IsP.map (fun g hg => ⟨⟨by have := hg.1; omega, hg.2⟩, rfl⟩) _ _ hP⟩)
        have hne : ∀ B, B < w.heap.size + 3 → some B ≠ ov.ownBlock := fun B hB e => by have := (HA.out.row.block e.symm).1; omega
        have hcells : ∀ ph w', NC wr ov.ownBlock ph w' → w'.cell? ⟨w.heap.size + 1 + 1, 3, none⟩ = some ov ∧ w'.cell? ⟨w.heap.size, 3, none⟩ = some (.slice (some ⟨b, off, none⟩) l.length c) ∧ w'.cell? ⟨b, off + j * 4, none⟩ = some (.int .i64 tk) ∧ w'.cell? ⟨b, off + j * 4 + 1, none⟩ = some (.int .i64 tn) ∧ w'.cell? ⟨b, off + j * 4 + 2, none⟩ = some (.string ts) ∧ w'.cell? ⟨b, off + j * 4 + 3, none⟩ = some (.slice ta tl.length tc) := fun ph w' hC => by
          have hg := hC.grown
          have b0 : Box w' w.heap.size _ _ := (hg.block _ HA.out.b0.lt (hne _ (by omega))).trans HA.out.b0
          have b2 : Box w' (w.heap.size + 1 + 1) _ _ := (hg.block _ HA.out.b2.lt (hne _ (by omega))).trans HA.out.b2
          exact ⟨b2.cell 3, b0.cell 3, hg.cell d0 (hne b (by omega)), hg.cell d1 (hne b (by omega)), hg.cell d2 (hne b (by omega)), hg.cell d3 (hne b (by omega))⟩
        have HC := Lib.hid hcells
        have HCALL := Lib.hid hcall
        have HR := Lib.hid hR
        have HROW : Hid (∀ k, ov.ownBlock = some k → k < wr.heap.size) := fun k hk => (HA.out.row.block hk).2
        clear hcells hcall hR te ht hBr hne
        gi_wp2_with fail
        refine wpIn_region_phases 12 8 10 [.det (.pointer (some ⟨w.heap.size + 1 + 1, 3, none⟩)), .det ov, .det (.pointer (some ⟨w.heap.size, 3, none⟩)), .det (.slice (some ⟨b, off, none⟩) l.length c), .det (.int .i64 j), .det (.pointer (some ⟨b, off + j * 4, none⟩)), .det (.agg #[.int .i64 tk, .int .i64 tn, .string ts, .slice ta tl.length tc]), .det lv, .any (IsNewT wr.heap.size R), .any (IsNewS wr.heap.size R), .any (IsRowT (w.heap.size + 3) wr.heap.size ov.ownBlock j xs R), .det (.pointer (some ⟨w.heap.size + 1 + 1, 3, none⟩))]
          (GR w.heap.size ov.ownBlock) (NC wr ov.ownBlock) hf hd (fun k f args w R h => callsIn_of_calls hF h) (by kernel_rfl) (by kernel_rfl) (by omega) (by omega) (by kernel_rfl) (num_hys _ _ _ _ _ _ _ _ _ _ _ _ _ _ _ _ (by omega) HROW.out) (NC.start _ _) ?_
        simp only [List.take_succ_cons, List.take_zero, List.drop_succ_cons, List.drop_zero]
        clear d0 d1 d2 d3 c3 lb0
        iterate 8 (
          refine wpR_step (fun K hK => ?_)
          go_simp
          apply And.intro
          · rw [yieldsR, if_neg (by decide), if_neg (by decide)]
            intro ph w' hC _
            obtain ⟨q1, q2, q3, q4, q5, q6⟩ := HC.out ph w' hC
            have Hq := Lib.hid hC
            clear hC
            go_simp
            exact ⟨GR.refl _ _ _ _, Hq.out⟩
          refine nextM_det (hK _ _ ?_)
          clear hK K)
        refine wpR_step (fun K hK => ?_)
        go_simp
        apply And.intro
        · rw [yieldsR, if_pos rfl]
          intro w' hC _
          have Hq := Lib.hid hC
          clear hC
          go_simp
          exact HCALL.out w' Hq.out
        refine nextM_any (fun tv => hK _ _ ?_)
        clear hK K
        refine wpR_step (fun K hK => ?_)
        go_simp
        apply And.intro
        · rw [yieldsR, if_neg (by decide), if_neg (by decide)]
          intro ph w' hC hd'
          have hu : IsNewT wr.heap.size R tv w' := hd' ⟨8, .data⟩ (by simp) rfl tv rfl
          obtain ⟨rk, rn, rs, ra, rm, rc, e⟩ := hu.2.form
          subst e
          have Hq := Lib.hid (And.intro hC hu)
          clear hC hd' hu
          go_simp
          exact ⟨GR.alloc _ _ _ _ _, Hq.out.1.alloc _, w'.heap.size, _, _, _, _, rfl, Hq.out.2.1, Box.at rfl, IsNewT.stable _ _ w.heap.size ov.ownBlock (by omega) HROW.out ph _ _ _ (GR.alloc _ _ _ _ _) Hq.out.2⟩
        refine nextM_any (fun xv => hK _ _ ?_)
        clear hK K
        refine wpR_step (fun K hK => ?_)
        go_simp
        apply And.intro
        · rw [yieldsR, if_neg (by decide), if_pos rfl]
          intro w' hC hd'
          have hx : IsNewS wr.heap.size R xv w' := hd' ⟨9, .data⟩ (by simp) rfl xv rfl
          have hown := HA.out.row.own
          rw [show ((l.take j).map (renT (idxR ns))).length = j by simp; omega] at hown
          obtain ⟨v2, w2, hr, h1, h2, h3⟩ := row_append2 wr w' w.heap.size (w.heap.size + 3) ov j xs R xv hC hown hx hT1 hwr
          exact uponP_append _ (.tmp 25) (.tmp 33) 22 rfl rfl rfl hr ⟨h1, h2, h3⟩
        refine nextM_any (fun rv => hK _ _ ?_)
        clear hK K
        refine wpR_step (fun K hK => ?_)
        go_simp
        apply And.intro
        · rw [yieldsR, if_neg (by decide), if_neg (by decide)]
          intro ph w' hC _
          have Hq := Lib.hid hC
          clear hC
          go_simp
          exact ⟨GR.refl _ _ _ _, Hq.out⟩
        refine nextM_det (hK _ _ ?_)
        clear hK K
        refine wpR_nil ?_
        intro w3 hC hE
        have hv : IsRowT (w.heap.size + 3) wr.heap.size ov.ownBlock j xs R rv w3 := hE 10 rv rfl
        clear hE
        rw [← HR.out] at hv
        have hC' : wr.grownBy w3 ov.ownBlock := hC
        obtain ⟨ys, hN2⟩ := HA.out.next hlt hv hC'
        have b2 : Box w3 (w.heap.size + 1 + 1) #[.int .i64 1, .int .i64 (idxR ns x), .string s, ov] 25 := (hC'.block _ HA.out.b2.lt (fun e => by have := (HA.out.row.block e.symm).1; omega)).trans HA.out.b2
        have r3 := b2.cell 3
        have r4 := b2.frozen 3
        have r5 := b2.lt
        simp only [List.getElem?_toArray, List.getElem?_cons_succ, List.getElem?_cons_zero] at r3
        obtain ⟨_, _, _, _, hown, _, _⟩ := hv
        obtain ⟨rg, rcap, hrv⟩ := ownsRow_succ hown
        have HN2 := Lib.hid hN2
        clear hown hN2 hC hC' b2
        subst hrv
        gi_wp2_with fail
        go_roundw
        case rel => exact ⟨j + 1, _, _, hlt, by go_num, HN2.out⟩
        case measure => simp [intOf]; omega
      · have hjl : j = l.length := by omega
        have hA := HA.out
        have et : l.take j = l := List.take_of_length_le (by omega)
        have hrow := hA.row
        rw [et] at hrow
        obtain ⟨oa, oc, hov, ho1, ho2, ho3⟩ := hrow.done
        rw [List.length_map] at hov ho1
        subst hov
        have q0 := hA.b2.cell 0
        have q1 := hA.b2.cell 1
        have q2 := hA.b2.cell 2
        have q3 := hA.b2.cell 3
        have u0 := hA.b1.cell 0
        have u1 := hA.b1.cell 1
        have u2 := hA.b1.cell 2
        have u3 := hA.b1.cell 3
        have g0 := hA.b1.frozen 0
        have g1 := hA.b1.frozen 1
        have g2 := hA.b1.frozen 2
        have g3 := hA.b1.frozen 3
        have l0 := hA.b2.lt
        have l1 := hA.b1.lt
        simp only [List.getElem?_toArray, List.getElem?_cons_succ, List.getElem?_cons_zero] at q0 q1 q2 q3 u0 u1 u2 u3
        have HX := Lib.hid (And.intro ho1 (And.intro ho2 ho3))
        clear hA hrow ho1 ho2 ho3 et hBr
        gi_wp2_with fail
        have z := HA.out.b1.four (.int .i64 1) (.int .i64 (idxR ns x)) (.string s) (.slice oa l.length oc)
        have zB := below_four (none_below2 HA.out.row.grown) (B := w.heap.size + 1) (by omega) (.int .i64 1) (.int .i64 (idxR ns x)) (.string s) (.slice oa l.length oc)
        have y0 := z.cell 0
        have y1 := z.cell 1
        have y2 := z.cell 2
        have y3 := z.cell 3
        have zP := IsPL.map (q := New w.heap.size ((((wr.setCell ⟨w.heap.size + 1, 0, none⟩ (.int .i64 1)).setCell ⟨w.heap.size + 1, 1, none⟩ (.int .i64 (idxR ns x))).setCell ⟨w.heap.size + 1, 2, none⟩ (.string s)).setCell ⟨w.heap.size + 1, 3, none⟩ (.slice oa l.length oc))) (B := ((((wr.setCell ⟨w.heap.size + 1, 0, none⟩ (.int .i64 1)).setCell ⟨w.heap.size + 1, 1, none⟩ (.int .i64 (idxR ns x))).setCell ⟨w.heap.size + 1, 2, none⟩ (.string s)).setCell ⟨w.heap.size + 1, 3, none⟩ (.slice oa l.length oc))) (fun b hb => ⟨⟨by rcases hb.1 with h | h <;> omega, by simpa using hb.2⟩, heap_four (by rcases hb.1 with h | h <;> omega) _ _ _ _⟩) _ _ HX.out.2.2
        clear z q0 q1 q2 q3 u0 u1 u2 u3 g0 g1 g2 g3
        generalize ((((wr.setCell ⟨w.heap.size + 1, 0, none⟩ (.int .i64 1)).setCell ⟨w.heap.size + 1, 1, none⟩ (.int .i64 (idxR ns x))).setCell ⟨w.heap.size + 1, 2, none⟩ (.string s)).setCell ⟨w.heap.size + 1, 3, none⟩ (.slice oa l.length oc)) = FW at *
        simp at y0 y1 y2 y3
        refine bodyPost_ret (v := .agg #[.int .i64 1, .int .i64 (idxR ns x), .string s, .slice oa l.length oc]) (by simp [results, Tryd.results130, go_sem, y0, y1, y2, y3]) rfl ⟨_, _, _, _, _, _, rfl, ?_, zB⟩
        rw [HRN.out, show l.length = (l.map (renT (idxR ns))).length by simp]
        exact IsP.mk HOK.out.1 HY.out HOK.out.2.2 (by simpa using HX.out.1) HX.out.2.1 zP
  · have hk' : (k == 1) = false := by simpa using hk
    have HRN : Hid (renT (idxR ns) (.node k x s l) = .node k x s (l.map (renT (idxR ns)))) := by rw [Hid, renT, renL_map]; simp [hk]
    have HY : Hid (okI x) := h2
    have hS0 : NuAt w ns lv k x x s l a c 0 (.slice none 0 0) [] (((w.alloc (.cells #[.int .i64 k, .int .i64 x, .string s, .slice a l.length c] 25)).alloc (.cells #[.int .i64 0, .int .i64 0, .string ⟨#[]⟩, .slice none 0 0] 25)).alloc (.cells #[.int .i64 k, .int .i64 x, .string s, .slice none 0 0] 25)) := ⟨((Box.at rfl).alloc _).alloc _, (Box.at (by simp)).alloc _, Box.at (by simp), RowG.nil (grown_b none (below_a3 (Nat.le_refl _) _ _ _)) (Nat.zero_le _) (fun p e => by cases e) (by omega) (by simp), hN.keep (below_a3 (Nat.le_refl _) _ _ _), hold⟩
    have HS0 := Lib.hid hS0
    clear hS0 hold hN hk
    refine callsIn_of_wp Tryd.func130 rfl (hf _) ?_ hro
    simp only [Tryd.ntmps130, List.size_toArray, List.length_cons, List.length_nil, Nat.reduceAdd, Nat.reduceSub, Array.replicate_succ, Array.replicate_zero, List.push_toArray, List.append_toArray, List.nil_append, List.cons_append]
    gi_wp2_with fail
    gi_loopw [6] (fun i wr => ∃ (j : Nat) (ov : Value) (xs : List Value), j ≤ l.length ∧ i = .int .i64 j ∧ NuAt w ns lv k x x s l a c j ov xs wr) (fun i _ => l.length - (intOf i).toNat)
    case atStart => exact ⟨0, _, _, Nat.zero_le _, rfl, HS0.out⟩
    case round =>
      clear HS0
      obtain ⟨j, ov, xs, hj, rfl, hS⟩ := hrel
      have HA := Lib.hid hS
      have c3 := hS.b0.cell 3
      have lb0 := hS.b0.lt
      simp only [List.getElem?_toArray, List.getElem?_cons_succ, List.getElem?_cons_zero] at c3
      have hBr := none_below2 hS.row.grown
      clear hS
      by_cases hlt : j < l.length
      · obtain ⟨b, off, rfl, hbb⟩ := HL.out.addr (by omega)
        obtain ⟨tk, tn, ts, tl, ta, tc, te, d0, d1, d2, d3, ht⟩ := HL.out.node' hbb hBr j hlt
        have hbw : b < wr.heap.size := by have := hBr.size; omega
        have hwr : w.heap.size + 3 ≤ wr.heap.size := HA.out.row.hlo
        have hT1 : j < 1000000000 := by omega
        obtain ⟨R, hR⟩ : ∃ R, renT (idxR ns) l[j] = R := ⟨_, rfl⟩
        have hcall : ∀ w', Below wr.heap.size wr w' → Calls Tryd.prog 130 #[.agg #[.int .i64 tk, .int .i64 tn, .string ts, .slice ta tl.length tc], lv] w' (fun e w2 => ∃ v', e = .returned v' ∧ GR w.heap.size ov.ownBlock 0 w' w2 ∧ NC wr ov.ownBlock 1 w2 ∧ IsNewT wr.heap.size R v' w2) := fun w' hb => (HI.out l[j] (List.getElem_mem hlt) _ lv w' ((ht.up hBr hBr.size).up hb hb.size) (HA.out.nums.keep hb) (by have := size_mem (List.getElem_mem hlt); omega)).mono (by
          rintro e w2 ⟨yk, yx, ys, ya, ym, yc, rfl, hP, B⟩
          rw [hR] at hP
          have hs1 := hb.size
          have hs2 := B.size
          exact ⟨_, rfl, grown_b _ B, hb.trans (B.mono hs1), by omega, IsP.map (fun g hg => ⟨⟨by have := hg.1; omega, hg.2⟩, rfl⟩) _ _ hP⟩)
        have hne : ∀ B, B < w.heap.size + 3 → some B ≠ ov.ownBlock := fun B hB e => by have := (HA.out.row.block e.symm).1; omega
        have hcells : ∀ ph w', NC wr ov.ownBlock ph w' → w'.cell? ⟨w.heap.size + 1 + 1, 3, none⟩ = some ov ∧ w'.cell? ⟨w.heap.size, 3, none⟩ = some (.slice (some ⟨b, off, none⟩) l.length c) ∧ w'.cell? ⟨b, off + j * 4, none⟩ = some (.int .i64 tk) ∧ w'.cell? ⟨b, off + j * 4 + 1, none⟩ = some (.int .i64 tn) ∧ w'.cell? ⟨b, off + j * 4 + 2, none⟩ = some (.string ts) ∧ w'.cell? ⟨b, off + j * 4 + 3, none⟩ = some (.slice ta tl.length tc) := fun ph w' hC => by
          have hg := hC.grown
          have b0 : Box w' w.heap.size _ _ := (hg.block _ HA.out.b0.lt (hne _ (by omega))).trans HA.out.b0
          have b2 : Box w' (w.heap.size + 1 + 1) _ _ := (hg.block _ HA.out.b2.lt (hne _ (by omega))).trans HA.out.b2
          exact ⟨b2.cell 3, b0.cell 3, hg.cell d0 (hne b (by omega)), hg.cell d1 (hne b (by omega)), hg.cell d2 (hne b (by omega)), hg.cell d3 (hne b (by omega))⟩
        have HC := Lib.hid hcells
        have HCALL := Lib.hid hcall
        have HR := Lib.hid hR
        have HROW : Hid (∀ k, ov.ownBlock = some k → k < wr.heap.size) := fun k hk => (HA.out.row.block hk).2
        clear hcells hcall hR te ht hBr hne
        gi_wp2_with fail
        refine wpIn_region_phases 12 8 10 [.det (.pointer (some ⟨w.heap.size + 1 + 1, 3, none⟩)), .det ov, .det (.pointer (some ⟨w.heap.size, 3, none⟩)), .det (.slice (some ⟨b, off, none⟩) l.length c), .det (.int .i64 j), .det (.pointer (some ⟨b, off + j * 4, none⟩)), .det (.agg #[.int .i64 tk, .int .i64 tn, .string ts, .slice ta tl.length tc]), .det lv, .any (IsNewT wr.heap.size R), .any (IsNewS wr.heap.size R), .any (IsRowT (w.heap.size + 3) wr.heap.size ov.ownBlock j xs R), .det (.pointer (some ⟨w.heap.size + 1 + 1, 3, none⟩))]
          (GR w.heap.size ov.ownBlock) (NC wr ov.ownBlock) hf hd (fun k f args w R h => callsIn_of_calls hF h) (by kernel_rfl) (by kernel_rfl) (by omega) (by omega) (by kernel_rfl) (num_hys _ _ _ _ _ _ _ _ _ _ _ _ _ _ _ _ (by omega) HROW.out) (NC.start _ _) ?_
        simp only [List.take_succ_cons, List.take_zero, List.drop_succ_cons, List.drop_zero]
        clear d0 d1 d2 d3 c3 lb0
        iterate 8 (
          refine wpR_step (fun K hK => ?_)
          go_simp
          apply And.intro
          · rw [yieldsR, if_neg (by decide), if_neg (by decide)]
            intro ph w' hC _
            obtain ⟨q1, q2, q3, q4, q5, q6⟩ := HC.out ph w' hC
            have Hq := Lib.hid hC
            clear hC
            go_simp
            exact ⟨GR.refl _ _ _ _, Hq.out⟩
          refine nextM_det (hK _ _ ?_)
          clear hK K)
        refine wpR_step (fun K hK => ?_)
        go_simp
        apply And.intro
        · rw [yieldsR, if_pos rfl]
          intro w' hC _
          have Hq := Lib.hid hC
          clear hC
          go_simp
          exact HCALL.out w' Hq.out
        refine nextM_any (fun tv => hK _ _ ?_)
        clear hK K
        refine wpR_step (fun K hK => ?_)
        go_simp
        apply And.intro
        · rw [yieldsR, if_neg (by decide), if_neg (by decide)]
          intro ph w' hC hd'
          have hu : IsNewT wr.heap.size R tv w' := hd' ⟨8, .data⟩ (by simp) rfl tv rfl
          obtain ⟨rk, rn, rs, ra, rm, rc, e⟩ := hu.2.form
          subst e
          have Hq := Lib.hid (And.intro hC hu)
          clear hC hd' hu
          go_simp
          exact ⟨GR.alloc _ _ _ _ _, Hq.out.1.alloc _, w'.heap.size, _, _, _, _, rfl, Hq.out.2.1, Box.at rfl, IsNewT.stable _ _ w.heap.size ov.ownBlock (by omega) HROW.out ph _ _ _ (GR.alloc _ _ _ _ _) Hq.out.2⟩
        refine nextM_any (fun xv => hK _ _ ?_)
        clear hK K
        refine wpR_step (fun K hK => ?_)
        go_simp
        apply And.intro
        · rw [yieldsR, if_neg (by decide), if_pos rfl]
          intro w' hC hd'
          have hx : IsNewS wr.heap.size R xv w' := hd' ⟨9, .data⟩ (by simp) rfl xv rfl
          have hown := HA.out.row.own
          rw [show ((l.take j).map (renT (idxR ns))).length = j by simp; omega] at hown
          obtain ⟨v2, w2, hr, h1, h2, h3⟩ := row_append2 wr w' w.heap.size (w.heap.size + 3) ov j xs R xv hC hown hx hT1 hwr
          exact uponP_append _ (.tmp 25) (.tmp 33) 22 rfl rfl rfl hr ⟨h1, h2, h3⟩
        refine nextM_any (fun rv => hK _ _ ?_)
        clear hK K
        refine wpR_step (fun K hK => ?_)
        go_simp
        apply And.intro
        · rw [yieldsR, if_neg (by decide), if_neg (by decide)]
          intro ph w' hC _
          have Hq := Lib.hid hC
          clear hC
          go_simp
          exact ⟨GR.refl _ _ _ _, Hq.out⟩
        refine nextM_det (hK _ _ ?_)
        clear hK K
        refine wpR_nil ?_
        intro w3 hC hE
        have hv : IsRowT (w.heap.size + 3) wr.heap.size ov.ownBlock j xs R rv w3 := hE 10 rv rfl
        clear hE
        rw [← HR.out] at hv
        have hC' : wr.grownBy w3 ov.ownBlock := hC
        obtain ⟨ys, hN2⟩ := HA.out.next hlt hv hC'
        have b2 : Box w3 (w.heap.size + 1 + 1) #[.int .i64 k, .int .i64 x, .string s, ov] 25 := (hC'.block _ HA.out.b2.lt (fun e => by have := (HA.out.row.block e.symm).1; omega)).trans HA.out.b2
        have r3 := b2.cell 3
        have r4 := b2.frozen 3
        have r5 := b2.lt
        simp only [List.getElem?_toArray, List.getElem?_cons_succ, List.getElem?_cons_zero] at r3
        obtain ⟨_, _, _, _, hown, _, _⟩ := hv
        obtain ⟨rg, rcap, hrv⟩ := ownsRow_succ hown
        have HN2 := Lib.hid hN2
        clear hown hN2 hC hC' b2
        subst hrv
        gi_wp2_with fail
        go_roundw
        case rel => exact ⟨j + 1, _, _, hlt, by go_num, HN2.out⟩
        case measure => simp [intOf]; omega
      · have hjl : j = l.length := by omega
        have hA := HA.out
        have et : l.take j = l := List.take_of_length_le (by omega)
        have hrow := hA.row
        rw [et] at hrow
        obtain ⟨oa, oc, hov, ho1, ho2, ho3⟩ := hrow.done
        rw [List.length_map] at hov ho1
        subst hov
        have q0 := hA.b2.cell 0
        have q1 := hA.b2.cell 1
        have q2 := hA.b2.cell 2
        have q3 := hA.b2.cell 3
        have u0 := hA.b1.cell 0
        have u1 := hA.b1.cell 1
        have u2 := hA.b1.cell 2
        have u3 := hA.b1.cell 3
        have g0 := hA.b1.frozen 0
        have g1 := hA.b1.frozen 1
        have g2 := hA.b1.frozen 2
        have g3 := hA.b1.frozen 3
        have l0 := hA.b2.lt
        have l1 := hA.b1.lt
        simp only [List.getElem?_toArray, List.getElem?_cons_succ, List.getElem?_cons_zero] at q0 q1 q2 q3 u0 u1 u2 u3
        have HX := Lib.hid (And.intro ho1 (And.intro ho2 ho3))
        clear hA hrow ho1 ho2 ho3 et hBr
        gi_wp2_with fail
        have z := HA.out.b1.four (.int .i64 k) (.int .i64 x) (.string s) (.slice oa l.length oc)
        have zB := below_four (none_below2 HA.out.row.grown) (B := w.heap.size + 1) (by omega) (.int .i64 k) (.int .i64 x) (.string s) (.slice oa l.length oc)
        have y0 := z.cell 0
        have y1 := z.cell 1
        have y2 := z.cell 2
        have y3 := z.cell 3
        have zP := IsPL.map (q := New w.heap.size ((((wr.setCell ⟨w.heap.size + 1, 0, none⟩ (.int .i64 k)).setCell ⟨w.heap.size + 1, 1, none⟩ (.int .i64 x)).setCell ⟨w.heap.size + 1, 2, none⟩ (.string s)).setCell ⟨w.heap.size + 1, 3, none⟩ (.slice oa l.length oc))) (B := ((((wr.setCell ⟨w.heap.size + 1, 0, none⟩ (.int .i64 k)).setCell ⟨w.heap.size + 1, 1, none⟩ (.int .i64 x)).setCell ⟨w.heap.size + 1, 2, none⟩ (.string s)).setCell ⟨w.heap.size + 1, 3, none⟩ (.slice oa l.length oc))) (fun b hb => ⟨⟨by rcases hb.1 with h | h <;> omega, by simpa using hb.2⟩, heap_four (by rcases hb.1 with h | h <;> omega) _ _ _ _⟩) _ _ HX.out.2.2
        clear z q0 q1 q2 q3 u0 u1 u2 u3 g0 g1 g2 g3
        generalize ((((wr.setCell ⟨w.heap.size + 1, 0, none⟩ (.int .i64 k)).setCell ⟨w.heap.size + 1, 1, none⟩ (.int .i64 x)).setCell ⟨w.heap.size + 1, 2, none⟩ (.string s)).setCell ⟨w.heap.size + 1, 3, none⟩ (.slice oa l.length oc)) = FW at *
        simp at y0 y1 y2 y3
        refine bodyPost_ret (v := .agg #[.int .i64 k, .int .i64 x, .string s, .slice oa l.length oc]) (by simp [results, Tryd.results130, go_sem, y0, y1, y2, y3]) rfl ⟨_, _, _, _, _, _, rfl, ?_, zB⟩
        rw [HRN.out, show l.length = (l.map (renT (idxR ns))).length by simp]
        exact IsP.mk HOK.out.1 HY.out HOK.out.2.2 (by simpa using HX.out.1) HX.out.2.1 zP
end Go.Proofs.YtlaeaoecmnaneaaDoor
