import Derived.Test.YtdigiaigbcfccaaGreatDoorText
import Derived.Test.YtdigiaigbcfccaaGreatDoorMono
import Derived.Test.YtdigiaigbcfccaaGreatDoorMatch
import Derived.Test.YtdigiaigbcfccaaGreatDoorPaths
import Derived.Test.YtdigiaigbcfccaaGreatDoorCopy
namespace Go.Proofs.YtdigiaigbcfccaaGreatDoor
open Go.RowKit Go

mutual
/-- The least general tree of two, and the texts that have been met. -/
def genT : Tr → Tr → List (List UInt8) → Tr × List (List UInt8)
  | .node k n s l, u, ks =>
    if k = 1 ∨ topT (.node k n s l) u = false then (.node 1 (numK ks (textT (.node k n s l) ++ textT u)) emp [], addK ks (textT (.node k n s l) ++ textT u))
    else (.node k n s (genL l u.subs ks).1, (genL l u.subs ks).2)
def genL : List Tr → List Tr → List (List UInt8) → List Tr × List (List UInt8)
  | [], _, ks => ([], ks)
  | _ :: _, [], ks => ([], ks)
  | a :: u, b :: v, ks => ((genT a b ks).1 :: (genL u v (genT a b ks).2).1, (genL u v (genT a b ks).2).2)
end
theorem genL_take : ∀ (l l' : List Tr) (ks : List (List UInt8)) (j : Nat) (h : j < l.length) (h' : j < l'.length), genL (l.take (j + 1)) (l'.take (j + 1)) ks =
    ((genL (l.take j) (l'.take j) ks).1 ++ [(genT l[j] l'[j] (genL (l.take j) (l'.take j) ks).2).1], (genT l[j] l'[j] (genL (l.take j) (l'.take j) ks).2).2)
  | a :: u, b :: v, ks, 0, _, _ => by simp [genL]
  | a :: u, b :: v, ks, j + 1, h, h' => by
    have := genL_take u v (genT a b ks).2 j (by simpa using h) (by simpa using h')
    simp only [List.take_succ_cons, genL, List.getElem_cons_succ, this, List.cons_append]
theorem genL_length : ∀ (l l' : List Tr) (ks : List (List UInt8)), l.length = l'.length → (genL l l' ks).1.length = l.length
  | [], _, _, _ => rfl
  | _ :: _, [], _, h => by simp at h
  | a :: u, b :: v, ks, h => by simp [genL, genL_length u v _ (by simpa using h)]
theorem addK_length (ks : List (List UInt8)) (key : List UInt8) : (addK ks key).length ≤ ks.length + 1 := by unfold addK; split <;> simp
mutual
theorem genT_keys : ∀ (t u : Tr) (ks : List (List UInt8)), (genT t u ks).2.length ≤ ks.length + t.size
  | .node k n s l, u, ks => by
    rw [genT]
    split
    · have := addK_length ks (textT (.node k n s l) ++ textT u); simp only [Tr.size]; omega
    · have := genL_keys l u.subs ks; simp only [Tr.size]; omega
theorem genL_keys : ∀ (l l' : List Tr) (ks : List (List UInt8)), (genL l l' ks).2.length ≤ ks.length + sizeL l
  | [], _, ks => by simp [genL, sizeL]
  | _ :: _, [], ks => by simp [genL]
  | a :: u, b :: v, ks => by
    have h1 := genT_keys a b ks
    have h2 := genL_keys u v (genT a b ks).2
    simp only [genL, sizeL]
    omega
end
theorem numK_ok {ks : List (List UInt8)} (h : ks.length ≤ 1000000000) (key : List UInt8) : okI (numK ks key) := by
  unfold numK okI
  split
  · rename_i hm
    have := List.idxOf_lt_length_of_mem hm
    omega
  · omega
theorem text_sub {k n : Int} {s : ByteArray} {l : List Tr} {j : Nat} (h : j < l.length) : (textT l[j]).length ≤ (textT (.node k n s l)).length := by
  have h1 := textL_take_le h
  simp only [textT, List.length_append]
  omega
theorem top_subs {k n k' n' : Int} {s s' : ByteArray} {l l' : List Tr} (h : topT (.node k n s l) (.node k' n' s' l') = true) : l.length = l'.length := by
  have h2 : k = k' ∧ n = n' ∧ s = s' ∧ l.length = l'.length := by simpa [topT, topB] using h
  exact h2.2.2.2

theorem Dict.cell {W W' : World} {b : Nat} {ks : List (List UInt8)} {p : Addr} {v : Value} (h : Dict W b ks) (hg : W.grownBy W' (some b)) (hc : W.cell? p = some v) : W'.cell? p = some v := by
  have hne : p.block ≠ b := fun e => by
    obtain ⟨D, ⟨es, clock, hm, _⟩, _⟩ := h
    rw [World.cell?, e, hm] at hc
    cases hc
  exact hg.cell hc (by simpa using hne)
mutual
/-- Trees stay where a map alone is turned. -/
theorem IsT.map_turned {n₀ n₁ : Nat} {W W' : World} {b : Nat} {ks : List (List UInt8)} (h : Dict W b ks) (hg : W.grownBy W' (some b)) (hn : n₀ ≤ n₁) : ∀ (T : Tr) (v : Value), IsT n₀ W T v → IsT n₁ W' T v
  | .node _ _ _ l, _, h1 => by
    unfold IsT at h1 ⊢
    obtain ⟨a, c, e, h2, h3, h4, h5, h6, h7⟩ := h1
    exact ⟨a, c, e, h2, h3, h4, h5, h6, IsL.map_turned h hg hn l a h7⟩
theorem IsL.map_turned {n₀ n₁ : Nat} {W W' : World} {b : Nat} {ks : List (List UInt8)} (h : Dict W b ks) (hg : W.grownBy W' (some b)) (hn : n₀ ≤ n₁) : ∀ (l : List Tr) (a : Option Addr), IsL n₀ W l a → IsL n₁ W' l a
  | [], _, _ => by unfold IsL; trivial
  | t :: ts, _, h1 => by
    unfold IsL at h1 ⊢
    obtain ⟨b', off, v0, v1, v2, v3, e, hb, c0, c1, c2, c3, ht, hl⟩ := h1
    exact ⟨b', off, v0, v1, v2, v3, e, by omega, h.cell hg c0, h.cell hg c1, h.cell hg c2, h.cell hg c3, IsT.map_turned h hg hn t _ ht, IsL.map_turned h hg hn ts _ hl⟩
end

/-- What the method general leaves. -/
def GenPost (T U : Tr) (ks : List (List UInt8)) (bm : Nat) (w : World) (e : Ending) (w' : World) : Prop :=
  ∃ v', e = .returned v' ∧ IsP (New w.heap.size w') w' (genT T U ks).1 v' ∧ Dict w' bm (genT T U ks).2 ∧ w.grownBy w' (some bm)
end Go.Proofs.YtdigiaigbcfccaaGreatDoor

/- What the loop of the method general keeps: a row of trees of the call's own, and the phases of its drawn region. -/
namespace Go.Proofs.YtdigiaigbcfccaaGreatDoor
open Go.RowKit Go

/-- The blocks that are new since a number, and not the row's own. -/
def NewBut (lo : Nat) (v : Value) (W : World) (b : Nat) : Prop := lo ≤ b ∧ b < W.heap.size ∧ some b ≠ v.ownBlock

/-- The cells of a row hold these trees. -/
def LaidR (p : Nat → Prop) (W : World) (xs : List Value) (l : List Tr) : Prop := ∀ i (hi : i < l.length), ∃ v0 v1 v2 v3, xs[i * 4]? = some v0 ∧ xs[i * 4 + 1]? = some v1 ∧ xs[i * 4 + 2]? = some v2 ∧ xs[i * 4 + 3]? = some v3 ∧ IsP p W l[i] (.agg #[v0, v1, v2, v3])
theorem LaidR.nil {p : Nat → Prop} {W : World} {xs : List Value} : LaidR p W xs [] := fun i hi => by simp at hi
theorem LaidR.map {p q : Nat → Prop} {A B : World} {xs : List Value} {l : List Tr} (h : LaidR p A xs l) (hb : ∀ b, p b → q b ∧ B.heap[b]? = A.heap[b]?) : LaidR q B xs l := fun i hi => by
  obtain ⟨v0, v1, v2, v3, c0, c1, c2, c3, ht⟩ := h i hi
  exact ⟨v0, v1, v2, v3, c0, c1, c2, c3, IsP.map hb _ _ ht⟩
theorem LaidR.snoc {p : Nat → Prop} {W : World} {xs : List Value} {l : List Tr} {t : Tr} {a0 a1 a2 a3 : Value} (h : LaidR p W xs l) (hl : xs.length = l.length * 4) (ht : IsP p W t (.agg #[a0, a1, a2, a3])) : LaidR p W (xs ++ [a0, a1, a2, a3]) (l ++ [t]) := fun i hi => by
  simp only [List.length_append, List.length_cons, List.length_nil] at hi
  by_cases hlt : i < l.length
  · obtain ⟨v0, v1, v2, v3, c0, c1, c2, c3, hT⟩ := h i hlt
    refine ⟨v0, v1, v2, v3, ?_, ?_, ?_, ?_, by rw [List.getElem_append_left hlt]; exact hT⟩ <;> (rw [List.getElem?_append_left (by omega)]; assumption)
  · have e : i = l.length := by omega
    subst e
    refine ⟨a0, a1, a2, a3, ?_, ?_, ?_, ?_, by rw [List.getElem_append_right (Nat.le_refl _)]; simpa using ht⟩ <;> (rw [List.getElem?_append_right (by omega)]; simp [hl, Nat.add_sub_cancel_left])
theorem LaidR.done {lo : Nat} {W : World} {xs : List Value} {l : List Tr} {v : Value} (h : LaidR (NewBut lo v W) W xs l) (hown : W.ownsRow lo 24 4 v l.length xs) :
    ∃ a c, v = .slice a l.length c ∧ l.length ≤ c ∧ c ≤ maxLen ∧ IsPL (New lo W) W l a := by
  have hh := hown
  rcases hown.2 with ⟨rfl, h0⟩ | ⟨g, cap, cur, rfl, hb, hg, h1, h2, h3, h4⟩
  · obtain rfl : l = [] := List.length_eq_zero_iff.1 h0
    exact ⟨none, 0, rfl, Nat.le_refl _, by unfold maxLen; omega, IsPL.nil⟩
  · refine ⟨_, cap, rfl, h1, h2, IsPL.of_get ⟨hb, (Array.getElem?_eq_some_iff.1 hg).1⟩ fun i hi => ?_⟩
    obtain ⟨v0, v1, v2, v3, c0, c1, c2, c3, ht⟩ := h i hi
    have hc : ∀ j u, xs[j]? = some u → W.cell? ⟨g, 0 + j, none⟩ = some u := fun j u hu => by
      have := World.ownsRow.cells hh (g := g) rfl j u hu
      rw [Addr.add_lit] at this
      exact this
    exact ⟨v0, v1, v2, v3, hc _ _ c0, by have := hc _ _ c1; rwa [← Nat.add_assoc] at this, by have := hc _ _ c2; rwa [← Nat.add_assoc] at this, by have := hc _ _ c3; rwa [← Nat.add_assoc] at this, IsP.map (fun b hb => ⟨⟨hb.1, hb.2.1⟩, rfl⟩) _ _ ht⟩

/-- All blocks but two stay. -/
structure KeptBut (w w' : World) (bm : Nat) (row : Option Nat) : Prop where
  os : w'.os = w.os
  tape : w'.tape = w.tape
  output : w'.output = w.output
  size : w.heap.size ≤ w'.heap.size
  block : ∀ k, k < w.heap.size → k ≠ bm → some k ≠ row → w'.heap[k]? = w.heap[k]?

/-- The phases: nothing is turned; the map is turned; the row, too. -/
def GC (wr : World) (bm : Nat) (ks : List (List UInt8)) (row : Option Nat) : Nat → World → Prop
  | 0, w => Below wr.heap.size wr w
  | 1, w => wr.grownBy w (some bm) ∧ Dict w bm ks
  | _, w => KeptBut wr w bm row ∧ Dict w bm ks
def GR (bm : Nat) (row : Option Nat) : Nat → World → World → Prop
  | 0, w, w' => w.grownBy w' (some bm)
  | 1, w, w' => w.grownBy w' row
  | _, w, w' => Ext w w'
theorem grown_refl (row : Option Nat) (w : World) : w.grownBy w row := ⟨rfl, rfl, rfl, Nat.le_refl _, fun _ _ _ => rfl⟩
theorem GR.refl (bm : Nat) (row : Option Nat) (b : Nat) (w : World) : GR bm row b w w := by
  match b with
  | 0 => exact grown_refl _ w
  | 1 => exact grown_refl _ w
  | _ + 2 => exact Ext.refl w
theorem GR.alloc (bm : Nat) (row : Option Nat) (b : Nat) (w : World) (o : Obj) : GR bm row b w (w.alloc o) := by
  match b with
  | 0 => exact World.grownBy_alloc w o _
  | 1 => exact World.grownBy_alloc w o _
  | _ + 2 => exact below_a1 (Nat.le_refl _) o
theorem KeptBut.of_grown {w w' : World} {bm : Nat} {row : Option Nat} (h : w.grownBy w' (some bm)) : KeptBut w w' bm row := ⟨h.os, h.tape, h.output, h.size, fun k hk h1 _ => h.block k hk (by simpa using h1)⟩
theorem KeptBut.of_below {w w' : World} {bm : Nat} {row : Option Nat} (h : Below w.heap.size w w') : KeptBut w w' bm row := ⟨h.os, h.tape, h.output, h.size, fun k hk _ _ => h.block k hk⟩
theorem KeptBut.grow {w w' w2 : World} {bm : Nat} {row : Option Nat} (h : KeptBut w w' bm row) (hg : w'.grownBy w2 row) : KeptBut w w2 bm row :=
  ⟨hg.os.trans h.os, hg.tape.trans h.tape, hg.output.trans h.output, Nat.le_trans h.size hg.size, fun k hk h1 h2 => (hg.block k (Nat.lt_of_lt_of_le hk h.size) h2).trans (h.block k hk h1 h2)⟩
theorem GC.kept {wr w : World} {bm : Nat} {ks : List (List UInt8)} {row : Option Nat} {b : Nat} (h : GC wr bm ks row b w) : KeptBut wr w bm row := by
  match b with
  | 0 => exact .of_below h
  | 1 => exact .of_grown h.1
  | _ + 2 => exact h.1
theorem GC.alloc {wr w : World} {bm : Nat} {ks : List (List UInt8)} {row : Option Nat} {b : Nat} (h : GC wr bm ks row b w) (o : Obj) : GC wr bm ks row b (w.alloc o) := by
  match b with
  | 0 => exact Below.alloc h h.size o
  | 1 => exact ⟨grown_trans h.1 (World.grownBy_alloc w o _), h.2.kept (World.grownBy_alloc w o none) (by simp)⟩
  | _ + 2 => exact ⟨h.1.grow (World.grownBy_alloc w o _), h.2.kept (World.grownBy_alloc w o none) (by simp)⟩
theorem GC.turned {wr w w' : World} {bm : Nat} {ks : List (List UInt8)} {row : Option Nat} (h : Below wr.heap.size wr w) (hg : w.grownBy w' (some bm)) (hd : Dict w' bm ks) : GC wr bm ks row 1 w' := ⟨grown_trans (grown_b (some bm) h) hg, hd⟩
theorem KeptBut.box {w w' : World} {bm : Nat} {row : Option Nat} (h : KeptBut w w' bm row) {B : Nat} {cs : Array Value} {t : TypeId} (hB : Box w B cs t) (h1 : B ≠ bm) (h2 : some B ≠ row) : Box w' B cs t := (h.block B hB.lt h1 h2).trans hB
theorem KeptBut.cell {w w' : World} {bm : Nat} {row : Option Nat} (h : KeptBut w w' bm row) {p : Addr} {v : Value} (hc : w.cell? p = some v) (h1 : p.block ≠ bm) (h2 : some p.block ≠ row) : w'.cell? p = some v :=
  (World.cell?_of_block (h.block p.block (World.block_lt_of_cell? w p hc) h1 h2)).trans hc
theorem Dict.not_cell {W : World} {b : Nat} {ks : List (List UInt8)} (h : Dict W b ks) {p : Addr} {v : Value} (hc : W.cell? p = some v) : p.block ≠ b := fun e => by
  obtain ⟨D, ⟨es, clock, hm, _⟩, _⟩ := h
  rw [World.cell?, e, hm] at hc
  cases hc

/-- A tree in blocks that are new since a number. -/
def IsNewT (lo : Nat) (T : Tr) (u : Value) (W : World) : Prop := lo ≤ W.heap.size ∧ IsP (New lo W) W T u
theorem IsNewT.stable (lo : Nat) (T : Tr) (bm : Nat) (row : Option Nat) (hb : bm < lo) (hr : ∀ k, row = some k → k < lo) (b : Nat) : (Yld.any (IsNewT lo T)).stableP (GR bm row b) := fun u w w' he h => by
  have hk : w.heap.size ≤ w'.heap.size ∧ ∀ k, lo ≤ k → k < w.heap.size → w'.heap[k]? = w.heap[k]? := by
    match b with
    | 0 => exact ⟨he.size, fun k h1 h2 => World.grownBy.block he k h2 (by simp; omega)⟩
    | 1 => exact ⟨he.size, fun k h1 h2 => World.grownBy.block he k h2 (fun e => by have := hr k e.symm; omega)⟩
    | _ + 2 => exact ⟨Below.size he, fun k _ h2 => Below.block he k h2⟩
  exact ⟨Nat.le_trans h.1 hk.1, IsP.map (fun k hk' => ⟨⟨hk'.1, Nat.lt_of_lt_of_le hk'.2 hk.1⟩, hk.2 k hk'.1 hk'.2⟩) _ _ h.2⟩
/-- A slice of one such tree. -/
def IsNewS (lo : Nat) (T : Tr) (x : Value) (W : World) : Prop := ∃ g v0 v1 v2 v3, x = .slice (some ⟨g, 0, none⟩) 1 1 ∧ lo ≤ g ∧ Box W g #[v0, v1, v2, v3] 24 ∧ IsNewT lo T (.agg #[v0, v1, v2, v3]) W
theorem IsNewS.stable (lo : Nat) (T : Tr) (bm : Nat) (row : Option Nat) (hb : bm < lo) (hr : ∀ k, row = some k → k < lo) (b : Nat) : (Yld.any (IsNewS lo T)).stableP (GR bm row b) := fun x w w' he ⟨g, v0, v1, v2, v3, h1, h2, h3, h4⟩ => by
  refine ⟨g, v0, v1, v2, v3, h1, h2, ?_, IsNewT.stable lo T bm row hb hr b _ _ _ he h4⟩
  match b with
  | 0 => exact (World.grownBy.block he g h3.lt (by simp; omega)).trans h3
  | 1 => exact (World.grownBy.block he g h3.lt (fun e => by have := hr g e.symm; omega)).trans h3
  | _ + 2 => exact Box.keep he h3
/-- What the append yields: the row, longer by one tree. -/
def IsRowT (base lo : Nat) (row : Option Nat) (j : Nat) (xs : List Value) (T : Tr) (v : Value) (W : World) : Prop := ∃ v0 v1 v2 v3, W.ownsRow base 24 4 v (j + 1) (xs ++ [v0, v1, v2, v3]) ∧ IsP (NewBut lo v W) W T (.agg #[v0, v1, v2, v3]) ∧ ∀ k, v.ownBlock = some k → row = some k ∨ lo ≤ k
theorem IsRowT.stable (base lo : Nat) (row row' : Option Nat) (j : Nat) (xs : List Value) (T : Tr) (bm : Nat) : (Yld.any (IsRowT base lo row j xs T)).stableP (GR bm row' 2) := fun v w w' he ⟨v0, v1, v2, v3, h1, h2, h3⟩ => by
  have he' : Ext w w' := he
  exact ⟨v0, v1, v2, v3, h1.kept (grown_b none he') (by rcases v.ownBlock with _ | _ <;> simp), IsP.map (fun k hk => ⟨⟨hk.1, Nat.lt_of_lt_of_le hk.2.1 (Below.size he'), hk.2.2⟩, Below.block he' k hk.2.1⟩) _ _ h2, h3⟩

theorem cells_of_box {W : World} {g : Nat} {cs : Array Value} {t : TypeId} (hb : Box W g cs t) : ∀ j u, cs.toList[j]? = some u → W.cell? ((⟨g, 0, none⟩ : Addr).add j) = some u := fun j u h => by
  have hadd : (⟨g, 0, none⟩ : Addr).add j = ⟨g, j, none⟩ := by unfold Addr.add; split <;> simp_all
  rw [hadd, hb.cell]
  simpa using h
theorem IsP.form {p : Nat → Prop} {W : World} {T : Tr} {v : Value} (h : IsP p W T v) : ∃ k n s a m c, v = .agg #[.int .i64 k, .int .i64 n, .string s, .slice a m c] := by
  cases T with
  | node k n s l => obtain ⟨a, c, rfl, _⟩ := h.open; exact ⟨_, _, _, _, _, _, rfl⟩
theorem GC.start (w : World) (bm : Nat) (ks : List (List UInt8)) (row : Option Nat) : GC w bm ks row 0 { w with drawn := w.drawn + 1 } := ⟨rfl, rfl, rfl, Nat.le_refl _, fun _ _ => rfl⟩
theorem gen_hys (v0 v1 v2 v3 v4 v5 v6 v7 v8 v12 : Value) (lo base : Nat) (T : Tr) (bm : Nat) (row : Option Nat) (jj : Nat) (xs : List Value) (hb : bm < lo) (hr : ∀ k, row = some k → k < lo) (i b : Nat) (h : i = 11 → b = 2) :
    (([.det v0, .det v1, .det v2, .det v3, .det v4, .det v5, .det v6, .det v7, .det v8, .any (IsNewT lo T), .any (IsNewS lo T), .any (IsRowT base lo row jj xs T), .det v12] : List Yld).getD i (.any fun _ _ => True)).stableP (GR bm row b) := by
  match i with
  | 0 => trivial
  | 1 => trivial
  | 2 => trivial
  | 3 => trivial
  | 4 => trivial
  | 5 => trivial
  | 6 => trivial
  | 7 => trivial
  | 8 => trivial
  | 9 => exact IsNewT.stable lo T bm row hb hr b
  | 10 => exact IsNewS.stable lo T bm row hb hr b
  | 11 => obtain rfl := h rfl; exact IsRowT.stable base lo row row jj xs T bm
  | 12 => trivial
  | _ + 13 => exact fun _ _ _ _ _ => trivial
/-- The append of the region, in the phase behind the call. -/
theorem row_append (W6 w' : World) (bm base : Nat) (ks : List (List UInt8)) (ov : Value) (j : Nat) (xs : List Value) (T : Tr) (x : Value) (hC : GC W6 bm ks ov.ownBlock 1 w') (hown : W6.ownsRow base 24 4 ov j xs) (hbm : ov.ownBlock ≠ some bm) (hx : IsNewS W6.heap.size T x w') (hj : j < 1000000000) (hbase : base ≤ W6.heap.size) :
    ∃ v2 w2, (Builtin.append_ #[22, 22] 22 #[ov, x]).run Tryz.prog w' = .ok v2 w2 ∧ GR bm ov.ownBlock 1 w' w2 ∧ GC W6 bm ks ov.ownBlock 2 w2 ∧ IsRowT base W6.heap.size ov.ownBlock j xs T v2 w2 := by
  obtain ⟨g, v0, v1, v2, v3, rfl, hg, hbox, hs, hP⟩ := hx
  obtain ⟨i0, hi, hz0, hz1, hz2⟩ := info_parts infoTerm
  have hown' : w'.ownsRow base 24 4 ov j xs := hown.kept hC.1 (by
    rcases h : ov.ownBlock with _ | k
    · exact .inl rfl
    · exact .inr (fun e => hbm (h.trans e)))
  have h1 : ∀ u ∈ [v0, v1, v2, v3], u.oneCell' = true := by
    obtain ⟨k, n, s, a, m, c, e⟩ := hP.form
    simp only [Value.agg.injEq, Array.mk.injEq, List.cons.injEq, and_true] at e
    obtain ⟨rfl, rfl, rfl, rfl⟩ := e
    intro u hu
    simp only [List.mem_cons, List.not_mem_nil, or_false] at hu
    rcases hu with rfl | rfl | rfl | rfl <;> rfl
  obtain ⟨v', w2, hr, h2, h3, _⟩ := run_append_own (P := Tryz.prog) w' base 22 22 24 i0 _ 4 56 Tryz.underlying22 hi hz0 hz1 hz2 rfl (by decide) ov j xs hown' ⟨g, 0, none⟩ 1 1 [v0, v1, v2, v3] rfl (cells_of_box hbox) h1 (by unfold maxLen; omega) (by omega) (by omega)
  have h4 := append_where 22 22 24 i0 _ 4 56 Tryz.underlying22 hi hz0 hz1 hz2 rfl (by decide) base ov j xs hown' ⟨g, 0, none⟩ 1 1 [v0, v1, v2, v3] rfl (cells_of_box hbox) h1 (by unfold maxLen; omega) (by omega) v' w2 hr
  have hlt : ∀ k, ov.ownBlock = some k → k < W6.heap.size := fun k hk => (hown.lt k hk).2
  refine ⟨v', w2, hr, h3, ⟨(GC.kept hC).grow h3, hC.2.kept h3 (fun e => hbm e.symm)⟩, v0, v1, v2, v3, h2, ?_, fun k hk => ?_⟩
  · refine IsP.map (fun k hk => ⟨⟨hk.1, Nat.lt_of_lt_of_le hk.2 h3.size, fun e => ?_⟩, h3.block k hk.2 (fun e => by have := hlt k e.symm; have := hk.1; omega)⟩) _ _ hP
    rcases h4 k e.symm with h | h
    · have := hlt k h; have := hk.1; omega
    · have := hk.2; omega
  · rcases h4 k hk with h | h
    · exact .inl h
    · exact .inr (by omega)

theorem tab_turned {P : Program} {W W' : World} {b n : Nat} {ks : List (List UInt8)} {name : String} {k : IntKind} {zs : List Int} (hd : Dict W b ks) (hg : W.grownBy W' (some b)) (h : Lib.TabBelow P n W name k zs) : Lib.TabBelow P W'.heap.size W' name k zs := Lib.tabBelow_of_tabIs (by
  have h1 := h.here
  unfold Lib.TabIs World.var? at *
  cases hn : P.globalNamed name with
  | none => simp [hn] at h1
  | some g =>
    simp only [hn, Option.bind_some] at h1 ⊢
    have hlt : g < W.heap.size := by
      rcases Nat.lt_or_ge g W.heap.size with h' | h'
      · exact h'
      · rw [Array.getElem?_eq_none h'] at h1; simp at h1
    have hne : g ≠ b := fun e => by
      obtain ⟨D, ⟨es, clock, hm, _⟩, _⟩ := hd
      rw [e, hm] at h1
      simp at h1
    rw [hg.block g hlt (by simpa using hne)]
    exact h1)

theorem uponP_append {P : Program} {q : Value → World → Prop} {a : Act} {w w' : World} {v xv v' : Value} (o : Oper) (s x : Operand) (t : TypeId) (ho : o.op = .call { callee := .builtin .append, args := #[s, x], argTypes := #[t, t] }) (hs : a.eval s = v) (hx : a.eval x = xv)
    (hr : (Builtin.append_ #[t, t] o.type #[v, xv]).run P w = .ok v' w') (h : q v' w') : uponP P q ((execOp a.eval o).run P w) := by
  unfold execOp
  simp only [ho, resolve, invoke, builtin, Sem.run_bind, Sem.run_pure, Result.andThen_ok, List.map_toArray, List.map_cons, List.map_nil, hs, hx, hr]
  exact h

/-- Between the rounds of general: B, the parameters' boxes and the result's; Bo, the box of what is made. -/
def GenInv (B Bo bm : Nat) (k n : Int) (s : ByteArray) (cs cs' : Array Value) (l l' : List Tr) (ks : List (List UInt8)) (w : World) (j : Nat) (wr : World) : Prop :=
  ∃ ov xs, Box wr B cs 24 ∧ Box wr (B + 1) cs' 24 ∧ Box wr (B + 1 + 1) #[.int .i64 0, .int .i64 0, .string ⟨#[]⟩, .slice none 0 0] 24 ∧ Box wr Bo #[.int .i64 k, .int .i64 n, .string s, ov] 24 ∧
    wr.ownsRow (Bo + 1) 24 4 ov j xs ∧ LaidR (NewBut (Bo + 1) ov wr) wr xs (genL (l.take j) (l'.take j) ks).1 ∧ Dict wr bm (genL (l.take j) (l'.take j) ks).2 ∧ w.grownBy wr (some bm)
end Go.Proofs.YtdigiaigbcfccaaGreatDoor

namespace Go.Proofs.YtdigiaigbcfccaaGreatDoor
open Go.RowKit Go

attribute [local go_sem] Oper.semAt_some uponP Yld.says

set_option maxRecDepth 100000 in
set_option maxHeartbeats 2000000 in
theorem general_any (bm : Nat) (T : Tr) : ∀ (U : Tr) (tv uv : Value) (ks : List (List UInt8)) (w : World), IsT w.heap.size w T tv → IsT w.heap.size w U uv → Dict w bm ks → ks.length + T.size < 1000000000 → (textT T).length + (textT U).length ≤ 1000000000 →
    Lib.TabBelow Tryz.prog w.heap.size w "internal/strconv.uint64pow10" .u64 Lib.pow10Tab → Calls Tryz.prog 56 #[.map (some bm), tv, uv] w (GenPost T U ks bm w) := by
  induction T using Tr.ind with
  | h k n s l ih =>
  intro U tv uv ks w hT hU hd0 hks hlen htab
  refine (callsIn_wide (n := 9)).1 ?_
  generalize hF : Fence.wide = F
  have hd : F.depth = none := by subst hF; rfl
  have hf : ∀ f, F.fn f := fun f => by subst hF; trivial
  have hro : F.round = none := by subst hF; rfl
  cases U with
  | node k' n' s' l' =>
  have hT' := hT
  have hU' := hU
  obtain ⟨a, c, rfl, hok1, hok2, hok3, hlc, hcm, hl⟩ := hT'.open
  obtain ⟨a', c', rfl, _, _, _, hlc', hcm', hl'⟩ := hU'.open
  clear hT' hU'
  have HT := Lib.hid hT
  have HU := Lib.hid hU
  have HD := Lib.hid hd0
  have HI := Lib.hid ih
  have HLL := Lib.hid (And.intro hl hl')
  have hsz : ks.length < 1000000000 := by omega
  clear hT hU hd0 ih hl hl'
  have hBv := below_a3 (Nat.le_refl w.heap.size) (.cells #[.int .i64 k, .int .i64 n, .string s, .slice a l.length c] 24) (.cells #[.int .i64 k', .int .i64 n', .string s', .slice a' l'.length c'] 24) (.cells #[.int .i64 0, .int .i64 0, .string ⟨#[]⟩, .slice none 0 0] 24)
  have b0 : Box (((w.alloc (.cells #[.int .i64 k, .int .i64 n, .string s, .slice a l.length c] 24)).alloc (.cells #[.int .i64 k', .int .i64 n', .string s', .slice a' l'.length c'] 24)).alloc (.cells #[.int .i64 0, .int .i64 0, .string ⟨#[]⟩, .slice none 0 0] 24)) w.heap.size #[.int .i64 k, .int .i64 n, .string s, .slice a l.length c] 24 := ((Box.at rfl).alloc _).alloc _
  have b1 : Box (((w.alloc (.cells #[.int .i64 k, .int .i64 n, .string s, .slice a l.length c] 24)).alloc (.cells #[.int .i64 k', .int .i64 n', .string s', .slice a' l'.length c'] 24)).alloc (.cells #[.int .i64 0, .int .i64 0, .string ⟨#[]⟩, .slice none 0 0] 24)) (w.heap.size + 1) #[.int .i64 k', .int .i64 n', .string s', .slice a' l'.length c'] 24 := (Box.at (by simp)).alloc _
  have b2 : Box (((w.alloc (.cells #[.int .i64 k, .int .i64 n, .string s, .slice a l.length c] 24)).alloc (.cells #[.int .i64 k', .int .i64 n', .string s', .slice a' l'.length c'] 24)).alloc (.cells #[.int .i64 0, .int .i64 0, .string ⟨#[]⟩, .slice none 0 0] 24)) (w.heap.size + 1 + 1) #[.int .i64 0, .int .i64 0, .string ⟨#[]⟩, .slice none 0 0] 24 := Box.at (by simp)
  have hdv := HD.out.kept (grown_b none hBv) (by simp)
  refine callsIn_of_wp Tryz.func56 rfl (hf _) ?_ hro
  simp only [Tryz.ntmps56, List.size_toArray, List.length_cons, List.length_nil, Nat.reduceAdd, Nat.reduceSub, Array.replicate_succ, Array.replicate_zero, List.push_toArray, List.append_toArray, List.nil_append, List.cons_append]
  by_cases hk : k = 1
  · have hcase : k = 1 ∨ topT (.node k n s l) (.node k' n' s' l') = false := .inl hk
    subst hk
    have hgen : Hid (genT (.node 1 n s l) (.node k' n' s' l') ks = (.node 1 (numK ks (textT (.node 1 n s l) ++ textT (.node k' n' s' l'))) emp [], addK ks (textT (.node 1 n s l) ++ textT (.node k' n' s' l')))) := by rw [Hid, genT, if_pos hcase]
    clear hcase
    gi_wp2_with fail
    refine CallsIn.mono (callsIn_of_calls hF (variable_any (.node 1 n s l) (.node k' n' s' l') _ _ ks bm _ (HT.out.up hBv hBv.size) (HU.out.up hBv hBv.size) hdv hsz hlen (fun w'' h => (htab.on hBv) w'' (h.mono hBv.size)))) ?_
    rintro e w5 ⟨rfl, hd5, hg5⟩
    have b5 : Box w5 (w.heap.size + 1 + 1) #[.int .i64 0, .int .i64 0, .string ⟨#[]⟩, .slice none 0 0] 24 := (hg5.block _ b2.lt (by simpa using hdv.not_box b2)).trans b2
    have hneb : w.heap.size + 1 + 1 ≠ bm := hdv.not_box b2
    have hgw := grown_trans (grown_b (some bm) hBv) hg5
    have hnok := numK_ok (ks := ks) (by omega) (textT (.node 1 n s l) ++ textT (.node k' n' s' l'))
    generalize numK ks (textT (.node 1 n s l) ++ textT (.node k' n' s' l')) = num at *
    generalize addK ks (textT (.node 1 n s l) ++ textT (.node k' n' s' l')) = ks5 at *
    clear hdv hg5 b2 hBv
    have g0 := b5.frozen 0
    have g1 := b5.frozen 1
    have g2 := b5.frozen 2
    have g3 := b5.frozen 3
    have r0 := b5.cell 0
    have r1 := b5.cell 1
    have r2 := b5.cell 2
    have r3 := b5.cell 3
    have lr := b5.lt
    simp only [List.getElem?_toArray, List.getElem?_cons_succ, List.getElem?_cons_zero] at r0 r1 r2 r3
    gi_wp2_with fail
    have z := (((b5.set 0 (.int .i64 1)).set 1 (.int .i64 num)).set 2 (.string ⟨#[]⟩)).set 3 (.slice none 0 0)
    have y0 := z.cell 0
    have y1 := z.cell 1
    have y2 := z.cell 2
    have y3 := z.cell 3
    have zB := ((((Below.refl w.heap.size w5).setCell (p := ⟨w.heap.size + 1 + 1, 0, none⟩) (by simp; omega) (.int .i64 1)).setCell (p := ⟨w.heap.size + 1 + 1, 1, none⟩) (by simp; omega) (.int .i64 num)).setCell (p := ⟨w.heap.size + 1 + 1, 2, none⟩) (by simp; omega) (.string ⟨#[]⟩)).setCell (p := ⟨w.heap.size + 1 + 1, 3, none⟩) (by simp; omega) (.slice none 0 0)
    have zG := grown_below2 hgw zB
    have zD := (((hd5.set (w.heap.size + 1 + 1) 0 (.int .i64 1) (Ne.symm hneb)).set (w.heap.size + 1 + 1) 1 (.int .i64 num) (Ne.symm hneb)).set (w.heap.size + 1 + 1) 2 (.string ⟨#[]⟩) (Ne.symm hneb)).set (w.heap.size + 1 + 1) 3 (.slice none 0 0) (Ne.symm hneb)
    clear z zB
    generalize ((((w5.setCell ⟨w.heap.size + 1 + 1, 0, none⟩ (.int .i64 1)).setCell ⟨w.heap.size + 1 + 1, 1, none⟩ (.int .i64 num)).setCell ⟨w.heap.size + 1 + 1, 2, none⟩ (.string ⟨#[]⟩)).setCell ⟨w.heap.size + 1 + 1, 3, none⟩ (.slice none 0 0)) = FW at *
    simp at y0 y1 y2 y3
    refine bodyPost_ret (v := .agg #[.int .i64 1, .int .i64 num, .string ⟨#[]⟩, .slice none 0 0]) (by simp [results, Tryz.results56, go_sem, y0, y1, y2, y3]) rfl ⟨_, rfl, ?_, ?_, zG⟩
    · rw [hgen.out]
      exact IsP.mk (l := []) (by unfold okI; omega) hnok (by decide) (Nat.le_refl _) (by decide) IsPL.nil
    · rw [hgen.out]
      exact zD
  · have hk' : (k == 1) = false := by simpa using hk
    have t0 := b0.cell 0
    simp only [List.getElem?_toArray, List.getElem?_cons_zero] at t0
    have HK := Lib.hid hk
    clear hk
    gi_wp2_with fail
    refine CallsIn.mono (callsIn_of_calls hF (sameTop_any k n s l.length k' n' s' l'.length a a' c c' _)) ?_
    rintro e w1 ⟨rfl, hB1⟩
    replace b0 := Box.keep hB1 b0
    replace b1 := Box.keep hB1 b1
    replace b2 := Box.keep hB1 b2
    replace hdv := hdv.kept (grown_b none hB1) (by simp)
    replace hBv := hBv.trans (hB1.mono hBv.size)
    have hs1 : w.heap.size + 3 ≤ w1.heap.size := by have := hB1.size; simp at this; omega
    clear hB1 t0
    have t0 := b0.cell 0
    have t1 := b0.cell 1
    have t2 := b0.cell 2
    have t3 := b0.cell 3
    have u0 := b1.cell 0
    have u1 := b1.cell 1
    have u2 := b1.cell 2
    have u3 := b1.cell 3
    have l0 := b0.lt
    have l1 := b1.lt
    simp only [List.getElem?_toArray, List.getElem?_cons_succ, List.getElem?_cons_zero] at t0 t1 t2 t3 u0 u1 u2 u3
    cases htop : topB k n s l.length k' n' s' l'.length with
    | false =>
    have hcase : k = 1 ∨ topT (.node k n s l) (.node k' n' s' l') = false := .inr htop
    have hgen : Hid (genT (.node k n s l) (.node k' n' s' l') ks = (.node 1 (numK ks (textT (.node k n s l) ++ textT (.node k' n' s' l'))) emp [], addK ks (textT (.node k n s l) ++ textT (.node k' n' s' l')))) := by rw [Hid, genT, if_pos hcase]
    clear htop hcase
    gi_wp2_with fail
    refine CallsIn.mono (callsIn_of_calls hF (variable_any (.node k n s l) (.node k' n' s' l') _ _ ks bm w1 (HT.out.up hBv hBv.size) (HU.out.up hBv hBv.size) hdv hsz hlen (fun w'' h => (htab.on hBv) w'' (h.mono hBv.size)))) ?_
    clear t0 t1 t2 t3 u0 u1 u2 u3 b0 b1
    rintro e w5 ⟨rfl, hd5, hg5⟩
    have b5 : Box w5 (w.heap.size + 1 + 1) #[.int .i64 0, .int .i64 0, .string ⟨#[]⟩, .slice none 0 0] 24 := (hg5.block _ b2.lt (by simpa using hdv.not_box b2)).trans b2
    have hneb : w.heap.size + 1 + 1 ≠ bm := hdv.not_box b2
    have hgw := grown_trans (grown_b (some bm) hBv) hg5
    have hnok := numK_ok (ks := ks) (by omega) (textT (.node k n s l) ++ textT (.node k' n' s' l'))
    generalize numK ks (textT (.node k n s l) ++ textT (.node k' n' s' l')) = num at *
    generalize addK ks (textT (.node k n s l) ++ textT (.node k' n' s' l')) = ks5 at *
    clear hdv hg5 b2 hBv
    have g0 := b5.frozen 0
    have g1 := b5.frozen 1
    have g2 := b5.frozen 2
    have g3 := b5.frozen 3
    have r0 := b5.cell 0
    have r1 := b5.cell 1
    have r2 := b5.cell 2
    have r3 := b5.cell 3
    have lr := b5.lt
    simp only [List.getElem?_toArray, List.getElem?_cons_succ, List.getElem?_cons_zero] at r0 r1 r2 r3
    gi_wp2_with fail
    have z := (((b5.set 0 (.int .i64 1)).set 1 (.int .i64 num)).set 2 (.string ⟨#[]⟩)).set 3 (.slice none 0 0)
    have y0 := z.cell 0
    have y1 := z.cell 1
    have y2 := z.cell 2
    have y3 := z.cell 3
    have zB := ((((Below.refl w.heap.size w5).setCell (p := ⟨w.heap.size + 1 + 1, 0, none⟩) (by simp; omega) (.int .i64 1)).setCell (p := ⟨w.heap.size + 1 + 1, 1, none⟩) (by simp; omega) (.int .i64 num)).setCell (p := ⟨w.heap.size + 1 + 1, 2, none⟩) (by simp; omega) (.string ⟨#[]⟩)).setCell (p := ⟨w.heap.size + 1 + 1, 3, none⟩) (by simp; omega) (.slice none 0 0)
    have zG := grown_below2 hgw zB
    have zD := (((hd5.set (w.heap.size + 1 + 1) 0 (.int .i64 1) (Ne.symm hneb)).set (w.heap.size + 1 + 1) 1 (.int .i64 num) (Ne.symm hneb)).set (w.heap.size + 1 + 1) 2 (.string ⟨#[]⟩) (Ne.symm hneb)).set (w.heap.size + 1 + 1) 3 (.slice none 0 0) (Ne.symm hneb)
    clear z zB
    generalize ((((w5.setCell ⟨w.heap.size + 1 + 1, 0, none⟩ (.int .i64 1)).setCell ⟨w.heap.size + 1 + 1, 1, none⟩ (.int .i64 num)).setCell ⟨w.heap.size + 1 + 1, 2, none⟩ (.string ⟨#[]⟩)).setCell ⟨w.heap.size + 1 + 1, 3, none⟩ (.slice none 0 0)) = FW at *
    simp at y0 y1 y2 y3
    refine bodyPost_ret (v := .agg #[.int .i64 1, .int .i64 num, .string ⟨#[]⟩, .slice none 0 0]) (by simp [results, Tryz.results56, go_sem, y0, y1, y2, y3]) rfl ⟨_, rfl, ?_, ?_, zG⟩
    · rw [hgen.out]
      exact IsP.mk (l := []) (by unfold okI; omega) hnok (by decide) (Nat.le_refl _) (by decide) IsPL.nil
    · rw [hgen.out]
      exact zD
    | true =>
    have hll := top_subs (show topT (.node k n s l) (.node k' n' s' l') = true from htop)
    have HG : Hid (genT (.node k n s l) (.node k' n' s' l') ks = (.node k n s (genL l l' ks).1, (genL l l' ks).2)) := by
      rw [Hid, genT, if_neg (by simp [HK.out]; exact htop)]; rfl
    clear htop
    have Hll := Lib.hid hll
    clear hll
    gi_wp2_with fail
    gi_loopw [33] (fun i wr => ∃ j : Nat, j ≤ l.length ∧ i = .int .i64 j ∧ GenInv w.heap.size w1.heap.size bm k n s #[.int .i64 k, .int .i64 n, .string s, .slice a l.length c] #[.int .i64 k', .int .i64 n', .string s', .slice a' l'.length c'] l l' ks w j wr) (fun i _ => l.length - (intOf i).toNat)
    case atStart =>
      have hl0 : genL (l.take 0) (l'.take 0) ks = ([], ks) := by simp [genL]
      refine ⟨0, Nat.zero_le _, rfl, .slice none 0 0, [], b0.alloc _, b1.alloc _, b2.alloc _, Box.at rfl, World.ownsRow_nil _ _ _ _, ?_, ?_, ?_⟩
      · rw [hl0]; exact LaidR.nil
      · rw [hl0]; exact hdv.kept (World.grownBy_alloc _ _ none) (by simp)
      · exact grown_b _ (hBv.trans (below_a1 hBv.size _))
    case round =>
      obtain ⟨j, hj, rfl, hinv⟩ := hrel
      by_cases hlt : j < l.length
      · obtain ⟨ov, xs, i0, i1, i2, i3, i4, i5, i6, i7⟩ := hinv
        have hlt' : j < l'.length := by rw [← Hll.out]; exact hlt
        obtain ⟨b, off, rfl, hbb⟩ := HLL.out.1.addr (by omega)
        obtain ⟨b', off', rfl, hbb'⟩ := HLL.out.2.addr (by omega)
        obtain ⟨tk, tn, ts, tl, ta, tc, te, c0, c1, c2, c3, ht⟩ := HLL.out.1.node j hlt
        obtain ⟨uk, un, us, ul, ua, uc, ue, e0, e1, e2, e3, hu⟩ := HLL.out.2.node j hlt'
        have hbm : b ≠ bm := HD.out.not_cell c0
        have hbm' : b' ≠ bm := HD.out.not_cell e0
        have d0 := i7.cell c0 (by simpa using hbm)
        have d1 := i7.cell c1 (by simpa using hbm)
        have d2 := i7.cell c2 (by simpa using hbm)
        have d3 := i7.cell c3 (by simpa using hbm)
        have f0 := i7.cell e0 (by simpa using hbm')
        have f1 := i7.cell e1 (by simpa using hbm')
        have f2 := i7.cell e2 (by simpa using hbm')
        have f3 := i7.cell e3 (by simpa using hbm')
        have hwr : w.heap.size ≤ wr.heap.size := i7.size
        have hbw : b < wr.heap.size := by omega
        have hbw' : b' < wr.heap.size := by omega
        have hbo := i3.lt
        have HJ := Lib.hid (And.intro i0 (And.intro i1 (And.intro i2 (And.intro i3 (And.intro i4 (And.intro i5 (And.intro i6 i7)))))))
        have HTE := Lib.hid (And.intro te ue)
        have HHT := Lib.hid (And.intro ht hu)
        clear i0 i1 i2 i3 i4 i5 i6 i7 te ue ht hu c0 c1 c2 c3 e0 e1 e2 e3
        gi_wp2_with fail
        have x0 : Box (wr.alloc (.cells #[.int .i64 tk, .int .i64 tn, .string ts, .slice ta tl.length tc] 24)) wr.heap.size #[.int .i64 tk, .int .i64 tn, .string ts, .slice ta tl.length tc] 24 := Box.at rfl
        obtain ⟨i0, i1, i2, i3, i4, i5, i6, i7⟩ := HJ.out
        have hB6 := below_a1 (Nat.le_refl wr.heap.size) (.cells #[.int .i64 tk, .int .i64 tn, .string ts, .slice ta tl.length tc] 24)
        have p1 := Box.keep hB6 i1
        have p3 := Box.keep hB6 i3
        have p0 := Box.keep hB6 i0
        have p2 := Box.keep hB6 i2
        have p4 := i4.kept (grown_b none hB6) (by rcases ov.ownBlock with _ | _ <;> simp)
        have p6 := i6.kept (grown_b none hB6) (by simp)
        have p7 := grown_trans i7 (grown_b (some bm) hB6)
        have z0 := hB6.cell (p := ⟨b', off' + j * 4, none⟩) hbw' |>.trans f0
        have z1 := hB6.cell (p := ⟨b', off' + j * 4 + 1, none⟩) hbw' |>.trans f1
        have z2 := hB6.cell (p := ⟨b', off' + j * 4 + 2, none⟩) hbw' |>.trans f2
        have z3 := hB6.cell (p := ⟨b', off' + j * 4 + 3, none⟩) hbw' |>.trans f3
        have hrow : ∀ k, ov.ownBlock = some k → w1.heap.size + 1 ≤ k ∧ k < wr.heap.size := fun k hk => i4.lt k hk
        have hs6 : wr.heap.size < (wr.alloc (.cells #[.int .i64 tk, .int .i64 tn, .string ts, .slice ta tl.length tc] 24)).heap.size := by simp
        have p5 := i5.map (B := wr.alloc (.cells #[.int .i64 tk, .int .i64 tn, .string ts, .slice ta tl.length tc] 24)) (q := NewBut (w1.heap.size + 1) ov (wr.alloc (.cells #[.int .i64 tk, .int .i64 tn, .string ts, .slice ta tl.length tc] 24))) (fun g hg => ⟨⟨hg.1, Nat.lt_trans hg.2.1 hs6, hg.2.2⟩, hB6.block g hg.2.1⟩)
        clear i0 i1 i2 i3 i4 i5 i6 i7 hB6 d0 d1 d2 d3 f0 f1 f2 f3 HJ
        generalize (wr.alloc (.cells #[.int .i64 tk, .int .i64 tn, .string ts, .slice ta tl.length tc] 24)) = W6 at *
        have hbmw : bm < w.heap.size := HD.out.lt
        have hbB := Nat.lt_of_lt_of_le hbmw (Nat.le_trans hwr (Nat.le_of_lt hs6))
        have hgl := genL_take l l' ks j hlt hlt'
        have hkeys := genL_keys (l.take j) (l'.take j) ks
        have hzt := sizeL_take j hlt
        have hzl := sizeL_take_le (l := l) (j + 1)
        have hlz := length_le_sizeL l
        have htx := text_sub (k := k) (n := n) (s := s) hlt
        have htx' := text_sub (k := k') (n := n') (s := s') hlt'
        simp only [Tr.size] at hks
        have hcall : ∀ w', Below W6.heap.size W6 w' → Calls Tryz.prog 56 #[.map (some bm), .agg #[.int .i64 tk, .int .i64 tn, .string ts, .slice ta tl.length tc], .agg #[.int .i64 uk, .int .i64 un, .string us, .slice ua ul.length uc]] w' (GenPost l[j] l'[j] (genL (l.take j) (l'.take j) ks).2 bm w') := fun w' hb =>
          HI.out l[j] (List.getElem_mem hlt) l'[j] _ _ _ w' (IsT.map_turned HD.out (grown_trans p7 (grown_b (some bm) hb)) (grown_trans p7 (grown_b (some bm) hb)).size _ _ HHT.out.1) (IsT.map_turned HD.out (grown_trans p7 (grown_b (some bm) hb)) (grown_trans p7 (grown_b (some bm) hb)).size _ _ HHT.out.2)
            (p6.kept (grown_b none hb) (by simp)) (by omega) (by omega) (tab_turned HD.out (grown_trans p7 (grown_b (some bm) hb)) htab)
        have hT1 := (show j < 1000000000 by omega)
        have hgn : (genL (l.take j) (l'.take j) ks).1.length = j := by rw [genL_length _ _ _ (by simp only [List.length_take]; omega), List.length_take]; omega
        generalize genL (l.take j) (l'.take j) ks = G0 at *
        generalize hR : genT l[j] l'[j] G0.2 = R at *
        have hcall' : ∀ w', Below W6.heap.size W6 w' → Calls Tryz.prog 56 #[.map (some bm), .agg #[.int .i64 tk, .int .i64 tn, .string ts, .slice ta tl.length tc], .agg #[.int .i64 uk, .int .i64 un, .string us, .slice ua ul.length uc]] w' (fun e w2 => ∃ v', e = .returned v' ∧ GR bm ov.ownBlock 0 w' w2 ∧ GC W6 bm R.2 ov.ownBlock 1 w2 ∧ IsNewT W6.heap.size R.1 v' w2) := fun w' hb => (hcall w' hb).mono (by
          rintro e w2 ⟨v', rfl, hP, hD, hg⟩
          rw [hR] at hP hD
          exact ⟨v', rfl, hg, GC.turned hb hg hD, Nat.le_trans hb.size hg.size, IsP.map (fun g hg' => ⟨⟨Nat.le_trans hb.size hg'.1, hg'.2⟩, rfl⟩) _ _ hP⟩)
        have hcells : ∀ ph w', GC W6 bm R.2 ov.ownBlock ph w' → w'.cell? ⟨w1.heap.size, 3, none⟩ = some ov ∧ w'.cell? ⟨wr.heap.size, 0, none⟩ = some (.int .i64 tk) ∧ w'.cell? ⟨wr.heap.size, 1, none⟩ = some (.int .i64 tn) ∧ w'.cell? ⟨wr.heap.size, 2, none⟩ = some (.string ts) ∧ w'.cell? ⟨wr.heap.size, 3, none⟩ = some (.slice ta tl.length tc) ∧
            w'.cell? ⟨w.heap.size + 1, 3, none⟩ = some (.slice (some ⟨b', off', none⟩) l'.length c') ∧ w'.cell? ⟨b', off' + j * 4, none⟩ = some (.int .i64 uk) ∧ w'.cell? ⟨b', off' + j * 4 + 1, none⟩ = some (.int .i64 un) ∧ w'.cell? ⟨b', off' + j * 4 + 2, none⟩ = some (.string us) ∧ w'.cell? ⟨b', off' + j * 4 + 3, none⟩ = some (.slice ua ul.length uc) := fun ph w' hC => by
          have hk := hC.kept
          have n1 : ∀ q, q < w1.heap.size + 1 → some q ≠ ov.ownBlock := fun q hq e => by have := (hrow q e.symm).1; omega
          have b1 := hk.box p3 (by omega) (n1 _ (by omega))
          have b2 := hk.box x0 (by omega) (fun e => by have := (hrow _ e.symm).2; omega)
          have b3 := hk.box p1 (by omega) (n1 _ (by omega))
          exact ⟨b1.cell 3, b2.cell 0, b2.cell 1, b2.cell 2, b2.cell 3, b3.cell 3, hk.cell z0 hbm' (n1 b' (by omega)), hk.cell z1 hbm' (n1 b' (by omega)), hk.cell z2 hbm' (n1 b' (by omega)), hk.cell z3 hbm' (n1 b' (by omega))⟩
        have HC := Lib.hid hcells
        have HCALL := Lib.hid hcall'
        have HP := Lib.hid (And.intro p0 (And.intro p1 (And.intro p2 (And.intro p3 (And.intro p4 (And.intro p5 (And.intro p6 p7)))))))
        have HGL := Lib.hid (And.intro hgl hgn)
        have HROW := Lib.hid hrow
        clear hcells hcall hcall' p0 p1 p2 p3 p4 p5 p6 p7 x0 z0 z1 z2 z3 hgl hgn hrow hkeys hzt hzl hlz htx htx' hR HHT hks hlen
        refine wpIn_region_phases 13 9 11 [.det (.pointer (some ⟨w1.heap.size, 3, none⟩)), .det ov, .det (.map (some bm)), .det (.agg #[.int .i64 tk, .int .i64 tn, .string ts, .slice ta tl.length tc]), .det (.pointer (some ⟨w.heap.size + 1, 3, none⟩)), .det (.slice (some ⟨b', off', none⟩) l'.length c'), .det (.int .i64 j), .det (.pointer (some ⟨b', off' + j * 4, none⟩)), .det (.agg #[.int .i64 uk, .int .i64 un, .string us, .slice ua ul.length uc]), .any (IsNewT W6.heap.size R.1), .any (IsNewS W6.heap.size R.1), .any (IsRowT (w1.heap.size + 1) W6.heap.size ov.ownBlock j xs R.1), .det (.pointer (some ⟨w1.heap.size, 3, none⟩))]
          (GR bm ov.ownBlock) (GC W6 bm R.2 ov.ownBlock) hf hd (fun k f args w R h => callsIn_of_calls hF h) (by kernel_rfl) (by kernel_rfl) (by omega) (by omega) (by kernel_rfl) (gen_hys _ _ _ _ _ _ _ _ _ _ _ _ _ _ _ _ _ hbB (fun k hk => by have := (HROW.out k hk).2; omega)) (GC.start _ _ _ _) ?_
        simp only [List.take_succ_cons, List.take_zero, List.drop_succ_cons, List.drop_zero]
        iterate 9 (
          refine wpR_step (fun K hK => ?_)
          go_simp
          apply And.intro
          · rw [yieldsR, if_neg (by decide), if_neg (by decide)]
            intro ph w' hC _
            obtain ⟨q1, q2, q3, q4, q5, q6, q7, q8, q9, q10⟩ := HC.out ph w' hC
            have Hq := Lib.hid hC
            clear hC
            go_simp
            exact ⟨GR.refl _ _ _ _, Hq.out⟩
          refine nextM_det (hK _ _ ?_)
          clear hK K)
        refine wpR_step (fun K hK => ?_)
        go_simp
        apply And.intro
        · rw [yieldsR, if_pos rfl]
          intro w' hC _
          have Hq := Lib.hid hC
          clear hC
          go_simp
          exact HCALL.out w' Hq.out
        refine nextM_any (fun tv => hK _ _ ?_)
        clear hK K
        refine wpR_step (fun K hK => ?_)
        go_simp
        apply And.intro
        · rw [yieldsR, if_neg (by decide), if_neg (by decide)]
          intro ph w' hC hd'
          have hu : IsNewT W6.heap.size R.1 tv w' := hd' ⟨9, .data⟩ (by simp) rfl tv rfl
          obtain ⟨rk, rn, rs, ra, rm, rc, e⟩ := hu.2.form
          subst e
          have Hq := Lib.hid (And.intro hC hu)
          clear hC hd' hu
          go_simp
          exact ⟨GR.alloc _ _ _ _ _, Hq.out.1.alloc _, w'.heap.size, _, _, _, _, rfl, Hq.out.2.1, Box.at rfl, IsNewT.stable _ _ bm ov.ownBlock hbB (fun k hk => by have := (HROW.out k hk).2; omega) ph _ _ _ (GR.alloc _ _ _ _ _) Hq.out.2⟩
        refine nextM_any (fun xv => hK _ _ ?_)
        clear hK K
        refine wpR_step (fun K hK => ?_)
        go_simp
        apply And.intro
        · rw [yieldsR, if_neg (by decide), if_pos rfl]
          intro w' hC hd'
          have hx : IsNewS W6.heap.size R.1 xv w' := hd' ⟨10, .data⟩ (by simp) rfl xv rfl
          obtain ⟨v2, w2, hr, h1, h2, h3⟩ := row_append W6 w' bm (w1.heap.size + 1) R.2 ov j xs R.1 xv hC HP.out.2.2.2.2.1 (fun e => by have := (HROW.out _ e).1; omega) hx hT1 (by omega)
          exact uponP_append _ (.tmp 39) (.tmp 48) 22 rfl rfl rfl hr ⟨h1, h2, h3⟩
        refine nextM_any (fun rv => hK _ _ ?_)
        clear hK K
        refine wpR_step (fun K hK => ?_)
        go_simp
        apply And.intro
        · rw [yieldsR, if_neg (by decide), if_neg (by decide)]
          intro ph w' hC _
          have Hq := Lib.hid hC
          clear hC
          go_simp
          exact ⟨GR.refl _ _ _ _, Hq.out⟩
        refine nextM_det (hK _ _ ?_)
        clear hK K
        refine wpR_nil ?_
        intro w3 hC hE
        have hv : IsRowT (w1.heap.size + 1) W6.heap.size ov.ownBlock j xs R.1 rv w3 := hE 11 rv rfl
        clear hE
        obtain ⟨i0, i1, i2, i3, i4, i5, i6, i7⟩ := HP.out
        have hk := hC.kept
        have n1 : ∀ q, q < w1.heap.size + 1 → some q ≠ ov.ownBlock := fun q hq e => by have := (HROW.out q e.symm).1; omega
        have b0 := hk.box i0 (by omega) (n1 _ (by omega))
        have b1 := hk.box i1 (by omega) (n1 _ (by omega))
        have b2 := hk.box i2 (by omega) (n1 _ (by omega))
        have b3 := hk.box i3 (by omega) (n1 _ (by omega))
        have r3 := b3.cell 3
        have r4 := b3.frozen 3
        have r5 := b3.lt
        simp only [List.getElem?_toArray, List.getElem?_cons_succ, List.getElem?_cons_zero] at r3
        obtain ⟨v0, v1, v2, v3, hown, hPn, hwhere⟩ := hv
        have hne3 : ∀ q, rv.ownBlock = some q → w1.heap.size + 1 ≤ q := fun q hq => (hown.lt q hq).1
        have hb3 : ∀ q, q ≠ w1.heap.size → (w3.setCell ⟨w1.heap.size, 3, none⟩ rv).heap[q]? = w3.heap[q]? := fun q hq => Below.heap_setCell w3 ⟨w1.heap.size, 3, none⟩ rv q hq
        have hs3 : (w3.setCell ⟨w1.heap.size, 3, none⟩ rv).heap.size = w3.heap.size := by simp
        have hk36 := hk.size
        have HF : Hid (GenInv w.heap.size w1.heap.size bm k n s #[.int .i64 k, .int .i64 n, .string s, .slice (some ⟨b, off, none⟩) l.length c] #[.int .i64 k', .int .i64 n', .string s', .slice (some ⟨b', off', none⟩) l'.length c'] l l' ks w (j + 1) (w3.setCell ⟨w1.heap.size, 3, none⟩ rv)) := by
          refine ⟨rv, xs ++ [v0, v1, v2, v3], b0.other (by omega) _ _, b1.other (by omega) _ _, b2.other (by omega) _ _, by simpa using b3.set 3 rv, hown.kept (grown_set w1.heap.size 3 w3 rv) ?_, ?_, ?_, ?_⟩
          · rcases h : rv.ownBlock with _ | q
            · exact .inl rfl
            · exact .inr (fun e => by cases e; have := hne3 _ h; omega)
          · rw [HGL.out.1]
            refine LaidR.snoc (i5.map fun q hq => ⟨⟨hq.1, by rw [hs3]; have := hq.2.1; omega, fun e => ?_⟩, (hb3 q (by have := hq.1; omega)).trans (hk.block q hq.2.1 (by have := hq.1; omega) hq.2.2)⟩) (by rw [HGL.out.2]; exact i4.1) (IsP.map (fun q hq => ⟨⟨by have := hq.1; omega, by rw [hs3]; exact hq.2.1, hq.2.2⟩, hb3 q (by have := hq.1; omega)⟩) _ _ hPn)
            rcases hwhere q e.symm with h | h
            · exact hq.2.2 h.symm
            · have := hq.2.1; omega
          · rw [HGL.out.1]
            exact hC.2.set _ _ _ (by omega)
          · exact ⟨(grown_set w1.heap.size 3 w3 rv).os.trans (hk.os.trans i7.os), (grown_set w1.heap.size 3 w3 rv).tape.trans (hk.tape.trans i7.tape), (grown_set w1.heap.size 3 w3 rv).output.trans (hk.output.trans i7.output), by rw [hs3]; have := i7.size; omega,
              fun q hq hne => (hb3 q (by omega)).trans ((hk.block q (by have := i7.size; omega) (by simpa using hne) (n1 _ (by omega))).trans (i7.block q hq hne))⟩
        obtain ⟨rg, rcap, hrv⟩ := ownsRow_succ hown
        subst hrv
        clear hown hPn hwhere hb3 hs3 hk36
        clear i0 i1 i2 i3 i4 i5 i6 i7 hk n1 b0 b1 b2 b3 hC hne3
        gi_wp2_with fail
        go_roundw
        case rel => exact ⟨j + 1, hlt, by go_num, HF.out⟩
        case measure => simp [intOf]; omega
      · obtain ⟨ov, xs, i0, i1, i2, i3, i4, i5, i6, i7⟩ := hinv
        have hjl : j = l.length := by omega
        rw [List.take_of_length_le (show l.length ≤ j by omega), List.take_of_length_le (show l'.length ≤ j by rw [← Hll.out]; omega)] at i5 i6
        have hgn := genL_length l l' ks Hll.out
        rw [hjl, ← hgn] at i4
        obtain ⟨oa, oc, e, h6, h7, hP⟩ := LaidR.done i5 i4
        subst e
        generalize genL l l' ks = G0 at *
        have r0 := i3.cell 0
        have r1 := i3.cell 1
        have r2 := i3.cell 2
        have r3 := i3.cell 3
        have u0 := i2.cell 0
        have u1 := i2.cell 1
        have u2 := i2.cell 2
        have u3 := i2.cell 3
        have g0 := i2.frozen 0
        have g1 := i2.frozen 1
        have g2 := i2.frozen 2
        have g3 := i2.frozen 3
        have l2 := i2.lt
        have l3 := i3.lt
        simp only [List.getElem?_toArray, List.getElem?_cons_succ, List.getElem?_cons_zero] at r0 r1 r2 r3 u0 u1 u2 u3
        have hbmw : bm < w.heap.size := HD.out.lt
        have HJ := Lib.hid (And.intro i2 (And.intro i6 (And.intro i7 (And.intro h6 (And.intro h7 hP)))))
        clear i0 i1 i2 i3 i4 i5 i6 i7 h6 h7 hP hgn hjl
        gi_wp2_with fail
        obtain ⟨i2, i6, i7, h6, h7, hP⟩ := HJ.out
        have z := (((i2.set 0 (.int .i64 k)).set 1 (.int .i64 n)).set 2 (.string s)).set 3 (.slice oa G0.1.length oc)
        have y0 := z.cell 0
        have y1 := z.cell 1
        have y2 := z.cell 2
        have y3 := z.cell 3
        have zB := ((((Below.refl w.heap.size wr).setCell (p := ⟨w.heap.size + 1 + 1, 0, none⟩) (by simp; omega) (.int .i64 k)).setCell (p := ⟨w.heap.size + 1 + 1, 1, none⟩) (by simp; omega) (.int .i64 n)).setCell (p := ⟨w.heap.size + 1 + 1, 2, none⟩) (by simp; omega) (.string s)).setCell (p := ⟨w.heap.size + 1 + 1, 3, none⟩) (by simp; omega) (.slice oa G0.1.length oc)
        have zG := grown_below2 i7 zB
        have zD := (((i6.set (w.heap.size + 1 + 1) 0 (.int .i64 k) (by omega)).set (w.heap.size + 1 + 1) 1 (.int .i64 n) (by omega)).set (w.heap.size + 1 + 1) 2 (.string s) (by omega)).set (w.heap.size + 1 + 1) 3 (.slice oa G0.1.length oc) (by omega)
        have zP := IsPL.map (q := New w.heap.size ((((wr.setCell ⟨w.heap.size + 1 + 1, 0, none⟩ (.int .i64 k)).setCell ⟨w.heap.size + 1 + 1, 1, none⟩ (.int .i64 n)).setCell ⟨w.heap.size + 1 + 1, 2, none⟩ (.string s)).setCell ⟨w.heap.size + 1 + 1, 3, none⟩ (.slice oa G0.1.length oc))) (B := ((((wr.setCell ⟨w.heap.size + 1 + 1, 0, none⟩ (.int .i64 k)).setCell ⟨w.heap.size + 1 + 1, 1, none⟩ (.int .i64 n)).setCell ⟨w.heap.size + 1 + 1, 2, none⟩ (.string s)).setCell ⟨w.heap.size + 1 + 1, 3, none⟩ (.slice oa G0.1.length oc)))
          (fun b hb => by
            obtain ⟨hb1, hb2⟩ := hb
            refine ⟨⟨by omega, by simpa using hb2⟩, ?_⟩
            rw [Below.heap_setCell _ _ _ _ (by simp; omega), Below.heap_setCell _ _ _ _ (by simp; omega), Below.heap_setCell _ _ _ _ (by simp; omega), Below.heap_setCell _ _ _ _ (by simp; omega)]) G0.1 oa hP
        clear z zB i2 i6 i7 hP
        generalize ((((wr.setCell ⟨w.heap.size + 1 + 1, 0, none⟩ (.int .i64 k)).setCell ⟨w.heap.size + 1 + 1, 1, none⟩ (.int .i64 n)).setCell ⟨w.heap.size + 1 + 1, 2, none⟩ (.string s)).setCell ⟨w.heap.size + 1 + 1, 3, none⟩ (.slice oa G0.1.length oc)) = FW at *
        simp at y0 y1 y2 y3
        refine bodyPost_ret (v := .agg #[.int .i64 k, .int .i64 n, .string s, .slice oa G0.1.length oc]) (by simp [results, Tryz.results56, go_sem, y0, y1, y2, y3]) rfl ⟨_, rfl, ?_, ?_, zG⟩
        · rw [HG.out]
          exact IsP.mk hok1 hok2 hok3 h6 h7 zP
        · rw [HG.out]
          exact zD
end Go.Proofs.YtdigiaigbcfccaaGreatDoor
