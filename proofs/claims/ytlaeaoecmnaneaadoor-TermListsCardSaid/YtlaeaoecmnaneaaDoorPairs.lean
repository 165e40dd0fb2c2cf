/- Pairs of parts of two terms: what the second reading of General keeps. -/
import Derived.Deep.AppendLies
import Derived.Test.YtlaeaoecmnaneaaDoorPhasesL
import Derived.Test.YtlaeaoecmnaneaaDoorRowF
import Derived.Test.YtlaeaoecmnaneaaDoorRefNum
import Derived.Test.YtlaeaoecmnaneaaDoorInst
namespace Go.Proofs.YtlaeaoecmnaneaaDoor
open Go.RowKit Go

theorem RowF.atB {n₀ : Nat} {W W' : World} {v : Value} {fs : List Tr} (h : RowF n₀ W v fs) (hk : ∀ g, v.ownBlock = some g → W'.heap[g]? = W.heap[g]?) (hB : Below n₀ W W') : RowF n₀ W' v fs := by
  obtain ⟨xs, ⟨h1, h2⟩, h3⟩ := h
  refine ⟨xs, ⟨h1, ?_⟩, h3.keep hB⟩
  rcases h2 with h2 | ⟨g, cap, cur, rfl, hb, hg, hr⟩
  · exact .inl h2
  · exact .inr ⟨g, cap, cur, rfl, hb, (hk g rfl).trans hg, hr⟩
theorem RowF.addr2 {n₀ : Nat} {W : World} {ga : Option Addr} {L gc : Nat} {fs : List Tr} (h : RowF n₀ W (.slice ga L gc) fs) (hl : 0 < fs.length) : ∃ g, ga = some ⟨g, 0, none⟩ := by
  obtain ⟨xs, h1, _⟩ := h
  obtain ⟨m, hm⟩ : ∃ m, fs.length = m + 1 := ⟨fs.length - 1, by omega⟩
  rw [hm] at h1
  obtain ⟨g, cap, e⟩ := ownsRow_succ h1
  simp only [Value.slice.injEq] at e
  exact ⟨g, e.1⟩
/-- What may come anew behind a number of blocks. -/
def FrL (lo : Nat) (v v' : Value) : Prop := ∀ b, v'.ownBlock = some b → v.ownBlock = some b ∨ lo ≤ b
/-- The pairs: two rows of their own, and the block with both. -/
structure Prs (n₀ P : Nat) (W : World) (va vb : Value) (la lb : List Tr) : Prop where
  box : Box W P #[va, vb] 135
  ra : RowF n₀ W va la
  rb : RowF n₀ W vb lb
  apart : ∀ b, va.ownBlock = some b → vb.ownBlock ≠ some b
  hP : n₀ ≤ P
theorem Prs.ne {n₀ P : Nat} {W : World} {va vb : Value} {la lb : List Tr} (h : Prs n₀ P W va vb la lb) : some P ≠ va.ownBlock ∧ some P ≠ vb.ownBlock := by
  obtain ⟨xs, h1, _⟩ := h.ra
  obtain ⟨ys, h2, _⟩ := h.rb
  exact ⟨row_not_box h1 h.box (by decide), row_not_box h2 h.box (by decide)⟩
theorem Prs.atB {n₀ P : Nat} {W W' : World} {va vb : Value} {la lb : List Tr} (h : Prs n₀ P W va vb la lb) (hk : ∀ b, b < W.heap.size → (b = P ∨ some b = va.ownBlock ∨ some b = vb.ownBlock) → W'.heap[b]? = W.heap[b]?) (hB : Below n₀ W W') : Prs n₀ P W' va vb la lb :=
  ⟨(hk P h.box.lt (.inl rfl)).trans h.box, h.ra.atB (fun g e => hk g (h.ra.lt g e).2 (.inr (.inl e.symm))) hB, h.rb.atB (fun g e => hk g (h.rb.lt g e).2 (.inr (.inr e.symm))) hB, h.apart, h.hP⟩
/-- All blocks but the pairs' stay. -/
structure K3 (w w' : World) (P : Nat) (va vb : Value) : Prop where
  os : w'.os = w.os
  tape : w'.tape = w.tape
  output : w'.output = w.output
  size : w.heap.size ≤ w'.heap.size
  block : ∀ k, k < w.heap.size → k ≠ P → some k ≠ va.ownBlock → some k ≠ vb.ownBlock → w'.heap[k]? = w.heap[k]?
theorem K3.of_below {w w' : World} {P : Nat} {va vb : Value} (h : Below w.heap.size w w') : K3 w w' P va vb := ⟨h.os, h.tape, h.output, h.size, fun k hk _ _ _ => h.block k hk⟩
theorem K3.trans {a b c : World} {P : Nat} {va vb ua ub : Value} (h : K3 a b P va vb) (k : K3 b c P ua ub) (fa : FrL a.heap.size va ua) (fb : FrL a.heap.size vb ub) : K3 a c P va vb := by
  refine ⟨k.os.trans h.os, k.tape.trans h.tape, k.output.trans h.output, Nat.le_trans h.size k.size, fun i hi h1 h2 h3 => (k.block i (Nat.lt_of_lt_of_le hi h.size) h1 (fun e => ?_) (fun e => ?_)).trans (h.block i hi h1 h2 h3)⟩
  · rcases fa i e.symm with h4 | h4
    · exact h2 h4.symm
    · omega
  · rcases fb i e.symm with h4 | h4
    · exact h3 h4.symm
    · omega
/-- Within general: the nodes' boxes, and the pairs so far. -/
structure GsAt (n₀ P : Nat) (w : World) (va vb : Value) (pc tc : Array Value) (ua ub : Value) (la lb : List Tr) (wr : World) : Prop where
  b0 : Box wr w.heap.size pc 25
  b1 : Box wr (w.heap.size + 1) tc 25
  b2 : Box wr (w.heap.size + 1 + 1) #[.int .i64 0, .int .i64 0, .string ⟨#[]⟩, .slice none 0 0] 25
  prs : Prs n₀ P wr ua ub la lb
  k3 : K3 w wr P va vb
  fa : FrL (w.heap.size + 3) va ua
  fb : FrL (w.heap.size + 3) vb ub
  hn : n₀ ≤ w.heap.size
  hPw : P < w.heap.size
  oa : ∀ b, va.ownBlock = some b → n₀ ≤ b ∧ b < w.heap.size
  ob : ∀ b, vb.ownBlock = some b → n₀ ≤ b ∧ b < w.heap.size
theorem GsAt.below {n₀ P : Nat} {w : World} {va vb : Value} {pc tc : Array Value} {ua ub : Value} {la lb : List Tr} {wr : World} (h : GsAt n₀ P w va vb pc tc ua ub la lb wr) : Below n₀ w wr := by
  refine ⟨h.k3.os, h.k3.tape, h.k3.output, h.k3.size, fun b hb => h.k3.block b (Nat.lt_of_lt_of_le hb h.hn) (fun e => ?_) (fun e => ?_) (fun e => ?_)⟩
  · have := h.prs.hP; omega
  · have := (h.oa b e.symm).1; omega
  · have := (h.ob b e.symm).1; omega
/-- A block that is neither old nor the pairs'. -/
theorem GsAt.far {n₀ P : Nat} {w : World} {va vb : Value} {pc tc : Array Value} {ua ub : Value} {la lb : List Tr} {wr : World} (h : GsAt n₀ P w va vb pc tc ua ub la lb wr) {b : Nat} (h1 : w.heap.size ≤ b) (h2 : b < w.heap.size + 3) : b ≠ P ∧ some b ≠ ua.ownBlock ∧ some b ≠ ub.ownBlock := by
  have := h.hPw
  refine ⟨by omega, fun e => ?_, fun e => ?_⟩
  · rcases h.fa b e.symm with h3 | h3
    · have := (h.oa b h3).2; omega
    · omega
  · rcases h.fb b e.symm with h3 | h3
    · have := (h.ob b h3).2; omega
    · omega
theorem GsAt.move {n₀ P : Nat} {w : World} {va vb : Value} {pc tc : Array Value} {ua ub ua' ub' : Value} {la lb la' lb' : List Tr} {wr W : World} (h : GsAt n₀ P w va vb pc tc ua ub la lb wr) (k : K3 wr W P ua ub) (hp : Prs n₀ P W ua' ub' la' lb') (fa : FrL wr.heap.size ua ua') (fb : FrL wr.heap.size ub ub') :
    GsAt n₀ P w va vb pc tc ua' ub' la' lb' W := by
  have hl := h.b2.lt
  have g0 := h.far (b := w.heap.size) (Nat.le_refl _) (by omega)
  have g1 := h.far (b := w.heap.size + 1) (by omega) (by omega)
  have g2 := h.far (b := w.heap.size + 1 + 1) (by omega) (by omega)
  refine ⟨(k.block _ (by omega) g0.1 g0.2.1 g0.2.2).trans h.b0, (k.block _ (by omega) g1.1 g1.2.1 g1.2.2).trans h.b1, (k.block _ hl g2.1 g2.2.1 g2.2.2).trans h.b2, hp, h.k3.trans k (fun b e => (h.fa b e).imp id (fun h => by omega)) (fun b e => (h.fb b e).imp id (fun h => by omega)), fun b e => ?_, fun b e => ?_, h.hn, h.hPw, h.oa, h.ob⟩
  · rcases fa b e with h3 | h3
    · exact h.fa b h3
    · exact .inr (by omega)
  · rcases fb b e with h3 | h3
    · exact h.fb b h3
    · exact .inr (by omega)
theorem GsAt.keep {n₀ P : Nat} {w : World} {va vb : Value} {pc tc : Array Value} {ua ub : Value} {la lb : List Tr} {wr W : World} (h : GsAt n₀ P w va vb pc tc ua ub la lb wr) (B : Below wr.heap.size wr W) : GsAt n₀ P w va vb pc tc ua ub la lb W :=
  h.move (.of_below B) (h.prs.atB (fun b hb _ => B.block b hb) (B.mono (Nat.le_trans h.hn h.k3.size))) (fun _ e => .inl e) (fun _ e => .inl e)
theorem GsAt.start {n₀ P : Nat} {w : World} {va vb : Value} {la lb : List Tr} (pc tc : Array Value) (hp : Prs n₀ P w va vb la lb) (hn : n₀ ≤ w.heap.size) : GsAt n₀ P w va vb pc tc va vb la lb (((w.alloc (.cells pc 25)).alloc (.cells tc 25)).alloc (.cells #[.int .i64 0, .int .i64 0, .string ⟨#[]⟩, .slice none 0 0] 25)) := by
  have hB := below_a3 (Nat.le_refl w.heap.size) (.cells pc 25) (.cells tc 25) (.cells #[.int .i64 0, .int .i64 0, .string ⟨#[]⟩, .slice none 0 0] 25)
  exact ⟨((Box.at rfl).alloc _).alloc _, (Box.at (by simp)).alloc _, Box.at (by simp), hp.atB (fun b hb _ => hB.block b hb) (hB.mono hn), .of_below hB, fun _ e => .inl e, fun _ e => .inl e, hn, hp.box.lt, fun b e => hp.ra.lt b e, fun b e => hp.rb.lt b e⟩
/-- Blocks since a number, but the pairs' rows. -/
def NewN (lo : Nat) (va vb : Value) (W : World) (b : Nat) : Prop := lo ≤ b ∧ b < W.heap.size ∧ some b ≠ va.ownBlock ∧ some b ≠ vb.ownBlock
/-- What general hands back. -/
def GgPost (n₀ P : Nat) (T U : Tr) (va vb : Value) (la lb : List Tr) (w : World) (e : Ending) (w' : World) : Prop := ∃ k x s a m c ua ub la' lb', e = .returned (.agg #[.int .i64 k, .int .i64 x, .string s, .slice a m c]) ∧ Prs n₀ P w' ua ub la' lb' ∧ la'.length = lb'.length ∧ List.zipWith key2 la' lb' = (genT T U (List.zipWith key2 la lb)).2 ∧
  IsP (NewN w.heap.size ua ub w') w' (genT T U (List.zipWith key2 la lb)).1 (.agg #[.int .i64 k, .int .i64 x, .string s, .slice a m c]) ∧ K3 w w' P va vb ∧ FrL w.heap.size va ua ∧ FrL w.heap.size vb ub ∧ w.heap.size < w'.heap.size

/-- Where an append of one element puts the row. -/
def appG (v : Value) (H : Nat) : Nat := match v with
  | .slice (some a) n c => if n + 1 ≤ c then a.block else H
  | _ => H
theorem append_at (w : World) (base : Nat) (v : Value) (n : Nat) (xs : List Value) (hown : w.ownsRow base 25 4 v n xs) (ad : Addr) (news : List Value) (hl : news.length = 4) (hnews : ∀ j u, news[j]? = some u → w.cell? (ad.add j) = some u) (h1 : ∀ u ∈ news, u.oneCell' = true) (hn : n ≤ 1000000000) (hbase : base ≤ w.heap.size) :
    ∃ cap w', (Builtin.append_ #[22, 22] 22 #[v, .slice (some ad) 1 1]).run Tryd.prog w = .ok (.slice (some ⟨appG v w.heap.size, 0, none⟩) (n + 1) cap) w' ∧
      w'.ownsRow base 25 4 (.slice (some ⟨appG v w.heap.size, 0, none⟩) (n + 1) cap) (n + 1) (xs ++ news) ∧ w.grownBy w' v.ownBlock := by
  obtain ⟨i0, hi, hz0, hz1, hz2⟩ := info_parts infoTerm
  obtain ⟨g, cap, w', hr, h2, h3, h4, _⟩ := run_append_lies (P := Tryd.prog) w 22 22 base 25 i0 _ 4 56 Tryd.underlying22 hi hz0 hz1 hz2 rfl (by decide) v n xs hown ad 1 1 news hl hnews h1 (by decide) (by unfold maxLen; omega) (by omega) hbase w.heap.size rfl
  have hg : g = appG v w.heap.size := by
    rcases hown.2 with ⟨rfl, _⟩ | ⟨g1, gc, cur, rfl, hb, hgg, hnc, hcm, hcs, htake⟩
    · rcases h4 with h4 | h4
      · simp [Value.ownBlock] at h4
      · simpa [appG] using h4
    · by_cases hroom : n + 1 ≤ gc
      · have hfit : n * i0.size + news.length ≤ cur.size := by rw [hl, hcs, hz1]; omega
        rw [run_append_room (P := Tryd.prog) w 22 22 25 i0 Tryd.underlying22 hi g1 n gc cur hgg ad 1 1 news (by rw [hl, hz1]) hnews h1 hroom hfit] at hr
        cases hr
        simp [appG, hroom]
      · rcases h4 with h4 | h4
        · exfalso
          rw [run_append_grow (P := Tryd.prog) w 22 22 25 i0 _ Tryd.underlying22 hi hz0 ⟨g1, 0, none⟩ n gc xs (by rw [hz1]; exact hown.1) (hown.cells (g := g1) rfl) ad 1 1 news (by rw [hl, hz1]) hnews (by omega) (by omega) (growslice_fits (by omega) (by rw [hz2]; omega))] at hr
          have hlt := (hown.lt g1 rfl).2
          cases hr
          simp [Value.ownBlock] at h4
          omega
        · simp [appG, hroom, h4]
  subst hg
  exact ⟨cap, w', hr, h2, h3⟩
end Go.Proofs.YtlaeaoecmnaneaaDoor
