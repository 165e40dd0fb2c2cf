/- What lies between two arguments of the second reading of general, where the tops are the same. -/
import Derived.Test.YtlaeaoecmnaneaaDoorGenS
namespace Go.Proofs.YtlaeaoecmnaneaaDoor
open Go.RowKit Go

/-- The blocks of made trees: since a number, and no row's. -/
def NewM (lo : Nat) (ua ub ov : Value) (W : World) (b : Nat) : Prop := lo ≤ b ∧ b < W.heap.size ∧ some b ≠ ua.ownBlock ∧ some b ≠ ub.ownBlock ∧ some b ≠ ov.ownBlock
/-- All blocks but the pairs' and one row's stay. -/
structure K4 (w w' : World) (P : Nat) (va vb ov : Value) : Prop where
  os : w'.os = w.os
  tape : w'.tape = w.tape
  output : w'.output = w.output
  size : w.heap.size ≤ w'.heap.size
  block : ∀ k, k < w.heap.size → k ≠ P → some k ≠ va.ownBlock → some k ≠ vb.ownBlock → some k ≠ ov.ownBlock → w'.heap[k]? = w.heap[k]?
theorem K4.of_K3 {w w' : World} {P : Nat} {va vb ov : Value} (h : K3 w w' P va vb) : K4 w w' P va vb ov := ⟨h.os, h.tape, h.output, h.size, fun k hk h1 h2 h3 _ => h.block k hk h1 h2 h3⟩
theorem K4.grow {w w' w2 : World} {P : Nat} {va vb ov : Value} (h : K4 w w' P va vb ov) (hg : w'.grownBy w2 ov.ownBlock) : K4 w w2 P va vb ov :=
  ⟨hg.os.trans h.os, hg.tape.trans h.tape, hg.output.trans h.output, Nat.le_trans h.size hg.size, fun k hk h1 h2 h3 h4 => (hg.block k (Nat.lt_of_lt_of_le hk h.size) h4).trans (h.block k hk h1 h2 h3 h4)⟩
/-- The pairs behind the call. -/
structure Gst (n₀ P : Nat) (wr : World) (ua ub : Value) (ks : List (List UInt8)) (ua' ub' : Value) (la' lb' : List Tr) (W : World) : Prop where
  prs : Prs n₀ P W ua' ub' la' lb'
  len : la'.length = lb'.length
  zip : List.zipWith key2 la' lb' = ks
  fa : FrL wr.heap.size ua ua'
  fb : FrL wr.heap.size ub ub'
  gr : wr.heap.size < W.heap.size
/-- The row that is appended to: where it lies. -/
structure Rov (n₀ P : Nat) (wr : World) (ua ub ov : Value) : Prop where
  hn : n₀ ≤ wr.heap.size
  lt : ∀ b, ov.ownBlock = some b → n₀ ≤ b ∧ b < wr.heap.size ∧ b ≠ P ∧ ua.ownBlock ≠ some b ∧ ub.ownBlock ≠ some b
theorem Rov.ne {n₀ P : Nat} {wr : World} {ua ub ov ua' : Value} (h : Rov n₀ P wr ua ub ov) (fa : FrL wr.heap.size ua ua') {b : Nat} (hb : some b = ua'.ownBlock) : some b ≠ ov.ownBlock := fun e => by
  have h1 := h.lt b e.symm
  rcases fa b hb.symm with h2 | h2
  · exact h1.2.2.2.1 h2
  · omega
theorem Rov.ne2 {n₀ P : Nat} {wr : World} {ua ub ov ub' : Value} (h : Rov n₀ P wr ua ub ov) (fb : FrL wr.heap.size ub ub') {b : Nat} (hb : some b = ub'.ownBlock) : some b ≠ ov.ownBlock := fun e => by
  have h1 := h.lt b e.symm
  rcases fb b hb.symm with h2 | h2
  · exact h1.2.2.2.2 h2
  · omega
theorem Gst.grow {n₀ P : Nat} {wr : World} {ua ub ov : Value} {ks : List (List UInt8)} {ua' ub' : Value} {la' lb' : List Tr} {W W' : World} (hr : Rov n₀ P wr ua ub ov) (h : Gst n₀ P wr ua ub ks ua' ub' la' lb' W) (hg : W.grownBy W' ov.ownBlock) : Gst n₀ P wr ua ub ks ua' ub' la' lb' W' := by
  have hgr := h.gr
  have hs := hg.size
  refine ⟨h.prs.atB (fun b hb hc => hg.block b hb ?_) (grown_below' hg (by have := hr.hn; omega) (fun g e => (hr.lt g e).1)), h.len, h.zip, h.fa, h.fb, by omega⟩
  rcases hc with hc | hc | hc
  · intro e
    exact (hr.lt b e.symm).2.2.1 hc
  · exact hr.ne h.fa hc
  · exact hr.ne2 h.fb hc
def G13 (n₀ P : Nat) (wr : World) (ua ub : Value) (R : Tr × List (List UInt8)) (u : Value) (W : World) : Prop := ∃ ua' ub' la' lb', Gst n₀ P wr ua ub R.2 ua' ub' la' lb' W ∧ IsP (NewN wr.heap.size ua' ub' W) W R.1 u
def G14 (n₀ P : Nat) (wr : World) (ua ub : Value) (R : Tr × List (List UInt8)) (x : Value) (W : World) : Prop := ∃ g v0 v1 v2 v3, x = .slice (some ⟨g, 0, none⟩) 1 1 ∧ wr.heap.size ≤ g ∧ Box W g #[v0, v1, v2, v3] 25 ∧ G13 n₀ P wr ua ub R (.agg #[v0, v1, v2, v3]) W
def G15 (n₀ P : Nat) (wr : World) (ua ub ov : Value) (lo j : Nat) (xs : List Value) (R : Tr × List (List UInt8)) (rv : Value) (W : World) : Prop := ∃ ua' ub' la' lb' v0 v1 v2 v3, Gst n₀ P wr ua ub R.2 ua' ub' la' lb' W ∧ W.ownsRow lo 25 4 rv (j + 1) (xs ++ [v0, v1, v2, v3]) ∧
  IsP (NewM wr.heap.size ua' ub' rv W) W R.1 (.agg #[v0, v1, v2, v3]) ∧ FrL wr.heap.size ov rv ∧ ∀ b, rv.ownBlock = some b → ua'.ownBlock ≠ some b ∧ ub'.ownBlock ≠ some b
def Q3 (n : Nat) (ov : Value) : Nat → World → World → Prop
  | 0, w, _ => w.heap.size = n
  | 1, w, w' => w.grownBy w' ov.ownBlock
  | _, w, w' => Ext w w'
def D3 (wr : World) (P : Nat) (ua ub ov : Value) : Nat → World → Prop
  | 0, w => w.heap.size = wr.heap.size ∧ Below wr.heap.size wr w
  | 1, w => wr.heap.size < w.heap.size ∧ K3 wr w P ua ub
  | _, w => wr.heap.size < w.heap.size ∧ K4 wr w P ua ub ov
theorem D3.start (wr : World) (P : Nat) (ua ub ov : Value) : D3 wr P ua ub ov 0 { wr with drawn := wr.drawn + 1 } := ⟨rfl, rfl, rfl, rfl, Nat.le_refl _, fun _ _ => rfl⟩
theorem Q3.refl {wr w : World} {P : Nat} {ua ub ov : Value} {b : Nat} (h : D3 wr P ua ub ov b w) : Q3 wr.heap.size ov b w w := by
  match b with
  | 0 => exact h.1
  | 1 => exact grown_refl _ w
  | _ + 2 => exact Ext.refl w
theorem D3.block {wr w : World} {P : Nat} {ua ub ov : Value} {b : Nat} (h : D3 wr P ua ub ov b w) {k : Nat} (hk : k < wr.heap.size) (h1 : k ≠ P) (h2 : some k ≠ ua.ownBlock) (h3 : some k ≠ ub.ownBlock) (h4 : some k ≠ ov.ownBlock) : w.heap[k]? = wr.heap[k]? := by
  match b with
  | 0 => exact h.2.block k hk
  | 1 => exact h.2.block k hk h1 h2 h3
  | _ + 2 => exact h.2.block k hk h1 h2 h3 h4
theorem D3.al {wr w : World} {P : Nat} {ua ub ov : Value} {b : Nat} (h : D3 wr P ua ub ov b w) (hg : wr.heap.size < w.heap.size) (o : Obj) : Q3 wr.heap.size ov b w (w.alloc o) ∧ D3 wr P ua ub ov b (w.alloc o) := by
  match b with
  | 0 => have := h.1; omega
  | 1 =>
    have ho := below_a1 (Nat.le_refl w.heap.size) o
    exact ⟨World.grownBy_alloc w o _, by simp; omega, ⟨h.2.os, h.2.tape, h.2.output, by have := h.2.size; simp; omega, fun k hk h1 h2 h3 => (ho.block k (Nat.lt_of_lt_of_le hk h.2.size)).trans (h.2.block k hk h1 h2 h3)⟩⟩
  | _ + 2 => exact ⟨below_a1 (Nat.le_refl _) o, by simp; omega, h.2.grow (World.grownBy_alloc w o _)⟩
theorem G13.grow {n₀ P : Nat} {wr : World} {ua ub ov : Value} {R : Tr × List (List UInt8)} {u : Value} {W W' : World} (hr : Rov n₀ P wr ua ub ov) (h : G13 n₀ P wr ua ub R u W) (hg : W.grownBy W' ov.ownBlock) : G13 n₀ P wr ua ub R u W' := by
  obtain ⟨ua', ub', la', lb', h1, h2⟩ := h
  have hs := hg.size
  exact ⟨ua', ub', la', lb', h1.grow hr hg, IsP.map (fun b hb => ⟨⟨hb.1, by have := hb.2.1; omega, hb.2.2⟩, hg.block b hb.2.1 (fun e => by have := (hr.lt b e.symm).2.1; have := hb.1; omega)⟩) _ _ h2⟩
theorem G13.stable {n₀ P : Nat} {wr : World} {ua ub ov : Value} {R : Tr × List (List UInt8)} (hr : Rov n₀ P wr ua ub ov) (b : Nat) : (Yld.any (G13 n₀ P wr ua ub R)).stableP (Q3 wr.heap.size ov b) := fun u w w' he h => by
  match b with
  | 0 =>
    obtain ⟨_, _, _, _, h1, _⟩ := h
    have := h1.gr
    have he' : w.heap.size = wr.heap.size := he
    omega
  | 1 => exact h.grow hr he
  | _ + 2 => exact h.grow hr (grown_b _ he)
theorem G14.stable {n₀ P : Nat} {wr : World} {ua ub ov : Value} {R : Tr × List (List UInt8)} (hr : Rov n₀ P wr ua ub ov) (b : Nat) : (Yld.any (G14 n₀ P wr ua ub R)).stableP (Q3 wr.heap.size ov b) := fun x w w' he ⟨g, v0, v1, v2, v3, h1, h2, h3, h4⟩ => by
  refine ⟨g, v0, v1, v2, v3, h1, h2, ?_, G13.stable hr b _ _ _ he h4⟩
  match b with
  | 0 =>
    obtain ⟨_, _, _, _, h5, _⟩ := h4
    have := h5.gr
    have he' : w.heap.size = wr.heap.size := he
    omega
  | 1 => exact (World.grownBy.block he g h3.lt (fun e => by have := (hr.lt g e.symm).2.1; omega)).trans h3
  | _ + 2 => exact Box.keep he h3
theorem G15.stable {n₀ P : Nat} {wr : World} {ua ub ov : Value} {lo j : Nat} {xs : List Value} {R : Tr × List (List UInt8)} (hr : Rov n₀ P wr ua ub ov) : (Yld.any (G15 n₀ P wr ua ub ov lo j xs R)).stableP (Q3 wr.heap.size ov 2) := fun rv w w' he ⟨ua', ub', la', lb', v0, v1, v2, v3, h1, h2, h3, h4, h5⟩ => by
  have he' : Ext w w' := he
  exact ⟨ua', ub', la', lb', v0, v1, v2, v3, h1.grow hr (grown_b _ he'), h2.kept (grown_b none he') (by rcases rv.ownBlock with _ | _ <;> simp), IsP.map (fun k hk => ⟨⟨hk.1, Nat.lt_of_lt_of_le hk.2.1 (Below.size he'), hk.2.2⟩, Below.block he' k hk.2.1⟩) _ _ h3, h4, h5⟩
theorem g_hys {n₀ P : Nat} {wr : World} {ua ub ov : Value} {lo j : Nat} {xs : List Value} {R : Tr × List (List UInt8)} (hr : Rov n₀ P wr ua ub ov) (v0 v1 v2 v3 v4 v5 v6 v7 v8 v9 v10 v11 v12 v16 : Value) (i b : Nat) (h : i = 15 → b = 2) :
    (([.det v0, .det v1, .det v2, .det v3, .det v4, .det v5, .det v6, .det v7, .det v8, .det v9, .det v10, .det v11, .det v12, .any (G13 n₀ P wr ua ub R), .any (G14 n₀ P wr ua ub R), .any (G15 n₀ P wr ua ub ov lo j xs R), .det v16] : List Yld).getD i (.any fun _ _ => True)).stableP (Q3 wr.heap.size ov b) := by
  match i with
  | 0 => trivial
  | 1 => trivial
  | 2 => trivial
  | 3 => trivial
  | 4 => trivial
  | 5 => trivial
  | 6 => trivial
  | 7 => trivial
  | 8 => trivial
  | 9 => trivial
  | 10 => trivial
  | 11 => trivial
  | 12 => trivial
  | 13 => exact G13.stable hr b
  | 14 => exact G14.stable hr b
  | 15 => obtain rfl := h rfl; exact G15.stable hr
  | 16 => trivial
  | _ + 17 => exact fun _ _ _ _ _ => trivial
/-- The append. -/
theorem G15.app {n₀ P : Nat} {wr w : World} {ua ub ov : Value} {lo j : Nat} {xs : List Value} {R : Tr × List (List UInt8)} {x : Value} (hr : Rov n₀ P wr ua ub ov) (hC : D3 wr P ua ub ov 1 w) (hown : wr.ownsRow lo 25 4 ov j xs) (hx : G14 n₀ P wr ua ub R x w) (hj : j < 1000000000) (hlo : lo ≤ wr.heap.size) :
    ∃ v2 w2, (Builtin.append_ #[22, 22] 22 #[ov, x]).run Tryd.prog w = .ok v2 w2 ∧ Q3 wr.heap.size ov 1 w w2 ∧ D3 wr P ua ub ov 2 w2 ∧ G15 n₀ P wr ua ub ov lo j xs R v2 w2 := by
  obtain ⟨g, v0, v1, v2, v3, rfl, hg, hbox, h13⟩ := hx
  obtain ⟨i0, hi, hz0, hz1, hz2⟩ := info_parts infoTerm
  have hown' : w.ownsRow lo 25 4 ov j xs := by
    obtain ⟨h1, h2⟩ := hown
    refine ⟨h1, ?_⟩
    rcases h2 with h2 | ⟨g', cap, cur, rfl, hb, hgg, hrest⟩
    · exact .inl h2
    · have hl := hr.lt g' rfl
      exact .inr ⟨g', cap, cur, rfl, hb, (hC.2.block g' hl.2.1 hl.2.2.1 (fun e => hl.2.2.2.1 e.symm) (fun e => hl.2.2.2.2 e.symm)).trans hgg, hrest⟩
  have h1 : ∀ u ∈ [v0, v1, v2, v3], u.oneCell' = true := by
    obtain ⟨_, _, _, _, _, hP⟩ := h13
    obtain ⟨k, n, s, a, m, c, e⟩ := hP.form
    simp only [Value.agg.injEq, Array.mk.injEq, List.cons.injEq, and_true] at e
    obtain ⟨rfl, rfl, rfl, rfl⟩ := e
    exact one_cells _ _ _ _ _ _
  have hsz := hC.1
  obtain ⟨v', w2, hrun, h2, h3, _⟩ := run_append_own (P := Tryd.prog) w lo 22 22 25 i0 _ 4 56 Tryd.underlying22 hi hz0 hz1 hz2 rfl (by decide) ov j xs hown' ⟨g, 0, none⟩ 1 1 [v0, v1, v2, v3] rfl (cells_of_box hbox) h1 (by unfold maxLen; omega) (by omega) (by omega)
  have h4 := append_where 22 22 25 i0 _ 4 56 Tryd.underlying22 hi hz0 hz1 hz2 rfl (by decide) lo ov j xs hown' ⟨g, 0, none⟩ 1 1 [v0, v1, v2, v3] rfl (cells_of_box hbox) h1 (by unfold maxLen; omega) (by omega) v' w2 hrun
  obtain ⟨ua', ub', la', lb', hst, hP⟩ := h13.grow hr h3
  obtain ⟨ua2, ub2, la2, lb2, hst0, hP0⟩ := h13
  have h3s := h3.size
  have hst2 := hst0.grow hr h3
  refine ⟨v', w2, hrun, h3, ⟨by omega, (K4.of_K3 hC.2).grow h3⟩, ua2, ub2, la2, lb2, v0, v1, v2, v3, hst2, h2, ?_, fun b e => ?_, fun b e => ⟨fun e2 => ?_, fun e2 => ?_⟩⟩
  · refine IsP.map (fun k hk => ⟨⟨hk.1, Nat.lt_of_lt_of_le hk.2.1 h3s, hk.2.2.1, hk.2.2.2, fun e => ?_⟩, h3.block k hk.2.1 (fun e => by have := (hr.lt k e.symm).2.1; have := hk.1; omega)⟩) _ _ hP0
    rcases h4 k e.symm with h | h
    · have := (hr.lt k h).2.1; have := hk.1; omega
    · have := hk.2.1; omega
  · rcases h4 b e with h | h
    · exact .inl h
    · exact .inr (by omega)
  · rcases h4 b e with h | h
    · exact hr.ne hst0.fa e2.symm h.symm
    · have := (hst0.prs.ra.lt b e2).2; omega
  · rcases h4 b e with h | h
    · exact hr.ne2 hst0.fb e2.symm h.symm
    · have := (hst0.prs.rb.lt b e2).2; omega
/-- Between two arguments. -/
structure GtAt (n₀ P : Nat) (w : World) (va vb : Value) (pc tc : Array Value) (k n : Int) (s : ByteArray) (l l' : List Tr) (ks : List (List UInt8)) (j : Nat) (ov : Value) (xs : List Value) (ua ub : Value) (la lb : List Tr) (wr : World) : Prop where
  gs : GsAt n₀ P w va vb pc tc ua ub la lb wr
  len : la.length = lb.length
  zip : List.zipWith key2 la lb = (genL (l.take j) (l'.take j) ks).2
  b3 : Box wr (w.heap.size + 1 + 1 + 1) #[.int .i64 k, .int .i64 n, .string s, ov] 25
  own : wr.ownsRow (w.heap.size + 4) 25 4 ov j xs
  num : (genL (l.take j) (l'.take j) ks).1.length = j
  laid : LaidR (NewM (w.heap.size + 4) ua ub ov wr) wr xs (genL (l.take j) (l'.take j) ks).1
  apart : ∀ b, ov.ownBlock = some b → ua.ownBlock ≠ some b ∧ ub.ownBlock ≠ some b
  fa4 : FrL (w.heap.size + 4) va ua
  fb4 : FrL (w.heap.size + 4) vb ub
theorem GtAt.rov {n₀ P : Nat} {w : World} {va vb : Value} {pc tc : Array Value} {k n : Int} {s : ByteArray} {l l' : List Tr} {ks : List (List UInt8)} {j : Nat} {ov : Value} {xs : List Value} {ua ub : Value} {la lb : List Tr} {wr : World} (h : GtAt n₀ P w va vb pc tc k n s l l' ks j ov xs ua ub la lb wr) : Rov n₀ P wr ua ub ov := by
  have hn := h.gs.hn
  have hP := h.gs.hPw
  refine ⟨Nat.le_trans hn h.gs.k3.size, fun b e => ?_⟩
  have h1 := h.own.lt b e
  exact ⟨by omega, h1.2, by omega, (h.apart b e).1, (h.apart b e).2⟩
/-- A block between the call's start and its made trees: none of the rows'. -/
theorem GtAt.far {n₀ P : Nat} {w : World} {va vb : Value} {pc tc : Array Value} {k n : Int} {s : ByteArray} {l l' : List Tr} {ks : List (List UInt8)} {j : Nat} {ov : Value} {xs : List Value} {ua ub : Value} {la lb : List Tr} {wr : World} (h : GtAt n₀ P w va vb pc tc k n s l l' ks j ov xs ua ub la lb wr) {b : Nat} (h1 : w.heap.size ≤ b) (h2 : b < w.heap.size + 4) : b ≠ P ∧ some b ≠ ua.ownBlock ∧ some b ≠ ub.ownBlock ∧ some b ≠ ov.ownBlock := by
  have hP := h.gs.hPw
  refine ⟨by omega, fun e => ?_, fun e => ?_, fun e => ?_⟩
  · rcases h.fa4 b e.symm with h3 | h3
    · have := (h.gs.oa b h3).2; omega
    · omega
  · rcases h.fb4 b e.symm with h3 | h3
    · have := (h.gs.ob b h3).2; omega
    · omega
  · have := (h.own.lt b e.symm).1; omega
/-- A block of what came in: none of the rows'. -/
theorem GtAt.old {n₀ P : Nat} {w : World} {va vb : Value} {pc tc : Array Value} {k n : Int} {s : ByteArray} {l l' : List Tr} {ks : List (List UInt8)} {j : Nat} {ov : Value} {xs : List Value} {ua ub : Value} {la lb : List Tr} {wr : World} (h : GtAt n₀ P w va vb pc tc k n s l l' ks j ov xs ua ub la lb wr) {b : Nat} (h1 : b < n₀) : b ≠ P ∧ some b ≠ ua.ownBlock ∧ some b ≠ ub.ownBlock ∧ some b ≠ ov.ownBlock := by
  have hP := h.gs.prs.hP
  have hn := h.gs.hn
  refine ⟨by omega, fun e => ?_, fun e => ?_, fun e => ?_⟩
  · have := (h.gs.prs.ra.lt b e.symm).1; omega
  · have := (h.gs.prs.rb.lt b e.symm).1; omega
  · have := (h.own.lt b e.symm).1; omega
theorem GtAt.next {n₀ P : Nat} {w : World} {va vb : Value} {pc tc : Array Value} {k n : Int} {s : ByteArray} {l l' : List Tr} {ks : List (List UInt8)} {j : Nat} {ov : Value} {xs : List Value} {ua ub : Value} {la lb : List Tr} {wr w3 : World} {rv : Value} (h : GtAt n₀ P w va vb pc tc k n s l l' ks j ov xs ua ub la lb wr) (hlt : j < l.length) (hlt' : j < l'.length)
    (hC : D3 wr P ua ub ov 2 w3) (h15 : G15 n₀ P wr ua ub ov (w.heap.size + 4) j xs (genT l[j] l'[j] (genL (l.take j) (l'.take j) ks).2) rv w3) : ∃ ys ua' ub' la' lb', GtAt n₀ P w va vb pc tc k n s l l' ks (j + 1) rv ys ua' ub' la' lb' (w3.setCell ⟨w.heap.size + 1 + 1 + 1, 3, none⟩ rv) := by
  obtain ⟨ua', ub', la', lb', v0, v1, v2, v3, hst, hown, hP, hfr, hap⟩ := h15
  have hK := hC.2
  have hb3l := h.b3.lt
  have e1 := genL_take l l' ks j hlt hlt'
  have fa4' : FrL (w.heap.size + 4) va ua' := fun b e => by
    rcases hst.fa b e with h1 | h1
    · exact h.fa4 b h1
    · exact .inr (by omega)
  have fb4' : FrL (w.heap.size + 4) vb ub' := fun b e => by
    rcases hst.fb b e with h1 | h1
    · exact h.fb4 b h1
    · exact .inr (by omega)
  have hn := h.gs.hn
  have hPw := h.gs.hPw
  have hset : ∀ b, b ≠ w.heap.size + 1 + 1 + 1 → (w3.setCell ⟨w.heap.size + 1 + 1 + 1, 3, none⟩ rv).heap[b]? = w3.heap[b]? := fun b hb => Below.heap_setCell _ _ _ _ hb
  have hfar' : ∀ b, (b = P ∨ some b = ua'.ownBlock ∨ some b = ub'.ownBlock) → b ≠ w.heap.size + 1 + 1 + 1 := fun b hb e => by
    subst e
    rcases hb with hb | hb | hb
    · omega
    · rcases fa4' _ hb.symm with h1 | h1
      · have := (h.gs.oa _ h1).2; omega
      · omega
    · rcases fb4' _ hb.symm with h1 | h1
      · have := (h.gs.ob _ h1).2; omega
      · omega
  have hB3 : Below n₀ w3 (w3.setCell ⟨w.heap.size + 1 + 1 + 1, 3, none⟩ rv) := (Below.refl _ _).setCell (p := ⟨w.heap.size + 1 + 1 + 1, 3, none⟩) (by simp; omega) _
  have hbx : ∀ {b : Nat} {cs : Array Value}, w.heap.size ≤ b → b < w.heap.size + 4 → Box wr b cs 25 → Box w3 b cs 25 := fun {b cs} h1 h2 hb => by
    have hf := h.far h1 h2
    exact (hK.block b hb.lt hf.1 hf.2.1 hf.2.2.1 hf.2.2.2).trans hb
  have c0 := hbx (Nat.le_refl _) (by omega) h.gs.b0
  have c1 := hbx (by omega) (by omega) h.gs.b1
  have c2 := hbx (by omega) (by omega) h.gs.b2
  have c3 := hbx (by omega) (by omega) h.b3
  have hks : K3 w (w3.setCell ⟨w.heap.size + 1 + 1 + 1, 3, none⟩ rv) P va vb := ⟨hK.os.trans h.gs.k3.os, hK.tape.trans h.gs.k3.tape, hK.output.trans h.gs.k3.output, by have := hK.size; have := h.gs.k3.size; simp; omega, fun b hb k1 k2 k3 => by
    refine (hset b (by omega)).trans ((hK.block b (by have := h.gs.k3.size; omega) k1 (fun e => ?_) (fun e => ?_) (fun e => ?_)).trans (h.gs.k3.block b hb k1 k2 k3))
    · rcases h.fa4 b e.symm with h1 | h1
      · exact k2 h1.symm
      · omega
    · rcases h.fb4 b e.symm with h1 | h1
      · exact k3 h1.symm
      · omega
    · have := (h.own.lt b e.symm).1; omega⟩
  have hrl : ∀ b, rv.ownBlock = some b → w.heap.size + 4 ≤ b := fun b e => (hown.lt b e).1
  refine ⟨xs ++ [v0, v1, v2, v3], ua', ub', la', lb', ⟨c0.other (by omega) 3 _, c1.other (by omega) 3 _, c2.other (by omega) 3 _, hst.prs.atB (fun b _ hb => hset b (hfar' b hb)) hB3, hks, fun b e => (fa4' b e).imp id (fun h => by omega), fun b e => (fb4' b e).imp id (fun h => by omega), hn, hPw, h.gs.oa, h.gs.ob⟩, hst.len, by rw [e1]; exact hst.zip, by simpa using c3.set 3 rv, hown.kept (grown_set (w.heap.size + 1 + 1 + 1) 3 w3 rv) ?_, by rw [e1, List.length_append, h.num]; rfl, ?_, hap, fa4', fb4'⟩
  · rcases hr : rv.ownBlock with _ | b
    · exact .inl rfl
    · exact .inr (fun e => by cases e; have := hrl _ hr; omega)
  · rw [e1]
    refine LaidR.snoc (h.laid.map fun b hb => ⟨⟨hb.1, by have := hK.size; have := hb.2.1; simp; omega, fun e => ?_, fun e => ?_, fun e => ?_⟩, (hset b (by have := hb.1; omega)).trans (hK.block b hb.2.1 (by have := hb.1; omega) hb.2.2.1 hb.2.2.2.1 hb.2.2.2.2)⟩) (by rw [h.num]; exact h.own.1) (IsP.map (fun b hb => ⟨⟨by have := hb.1; omega, by have := hb.2.1; simp; omega, hb.2.2⟩, hset b (by have := hb.1; omega)⟩) _ _ hP)
    · rcases hst.fa b e.symm with h1 | h1
      · exact hb.2.2.1 h1.symm
      · have := hb.2.1; omega
    · rcases hst.fb b e.symm with h1 | h1
      · exact hb.2.2.2.1 h1.symm
      · have := hb.2.1; omega
    · rcases hfr b e.symm with h1 | h1
      · exact hb.2.2.2.2 h1.symm
      · have := hb.2.1; omega
end Go.Proofs.YtlaeaoecmnaneaaDoor
