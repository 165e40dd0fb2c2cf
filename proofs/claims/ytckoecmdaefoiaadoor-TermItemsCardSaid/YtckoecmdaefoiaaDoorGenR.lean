/- What the loop of the method general keeps: a row of trees of the call's own, and the phases of its drawn region. -/
import Derived.Test.YtckoecmdaefoiaaDoorGen
import Derived.Test.YtckoecmdaefoiaaDoorPhases
import Derived.Test.YtckoecmdaefoiaaDoorPaths
namespace Go.Proofs.YtckoecmdaefoiaaDoor
open Go.RowKit Go

/-- The blocks that are new since a number, and not the row's own. -/
def NewBut (lo : Nat) (v : Value) (W : World) (b : Nat) : Prop := lo ≤ b ∧ b < W.heap.size ∧ some b ≠ v.ownBlock

/-- The cells of a row hold these trees. -/
def LaidR (p : Nat → Prop) (W : World) (xs : List Value) (l : List Tr) : Prop := ∀ i (hi : i < l.length), ∃ v0 v1 v2 v3, xs[i * 4]? = some v0 ∧ xs[i * 4 + 1]? = some v1 ∧ xs[i * 4 + 2]? = some v2 ∧ xs[i * 4 + 3]? = some v3 ∧ IsP p W l[i] (.agg #[v0, v1, v2, v3])
theorem LaidR.nil {p : Nat → Prop} {W : World} {xs : List Value} : LaidR p W xs [] := fun i hi => by simp at hi
theorem LaidR.map {p q : Nat → Prop} {A B : World} {xs : List Value} {l : List Tr} (h : LaidR p A xs l) (hb : ∀ b, p b → q b ∧ B.heap[b]? = A.heap[b]?) : LaidR q B xs l := fun i hi => by
  obtain ⟨v0, v1, v2, v3, c0, c1, c2, c3, ht⟩ := h i hi
  exact ⟨v0, v1, v2, v3, c0, c1, c2, c3, IsP.map hb _ _ ht⟩
theorem LaidR.snoc {p : Nat → Prop} {W : World} {xs : List Value} {l : List Tr} {t : Tr} {a0 a1 a2 a3 : Value} (h : LaidR p W xs l) (hl : xs.length = l.length * 4) (ht : IsP p W t (.agg #[a0, a1, a2, a3])) : LaidR p W (xs ++ [a0, a1, a2, a3]) (l ++ [t]) := fun i hi => by
  simp only [List.length_append, List.length_cons, List.length_nil] at hi
  by_cases hlt : i < l.length
  · obtain ⟨v0, v1, v2, v3, c0, c1, c2, c3, hT⟩ := h i hlt
    refine ⟨v0, v1, v2, v3, ?_, ?_, ?_, ?_, by rw [List.getElem_append_left hlt]; exact hT⟩ <;> (rw [List.getElem?_append_left (by omega)]; assumption)
  · have e : i = l.length := by omega
    subst e
    refine ⟨a0, a1, a2, a3, ?_, ?_, ?_, ?_, by rw [List.getElem_append_right (Nat.le_refl _)]; simpa using ht⟩ <;> (rw [List.getElem?_append_right (by omega)]; simp [hl, Nat.add_sub_cancel_left])
theorem LaidR.done {lo : Nat} {W : World} {xs : List Value} {l : List Tr} {v : Value} (h : LaidR (NewBut lo v W) W xs l) (hown : W.ownsRow lo 25 4 v l.length xs) :
    ∃ a c, v = .slice a l.length c ∧ l.length ≤ c ∧ c ≤ maxLen ∧ IsPL (New lo W) W l a := by
  have hh := hown
  rcases hown.2 with ⟨rfl, h0⟩ | ⟨g, cap, cur, rfl, hb, hg, h1, h2, h3, h4⟩
  · obtain rfl : l = [] := List.length_eq_zero_iff.1 h0
    exact ⟨none, 0, rfl, Nat.le_refl _, by unfold maxLen; omega, IsPL.nil⟩
  · refine ⟨_, cap, rfl, h1, h2, IsPL.of_get ⟨hb, (Array.getElem?_eq_some_iff.1 hg).1⟩ fun i hi => ?_⟩
    obtain ⟨v0, v1, v2, v3, c0, c1, c2, c3, ht⟩ := h i hi
    have hc : ∀ j u, xs[j]? = some u → W.cell? ⟨g, 0 + j, none⟩ = some u := fun j u hu => by
      have := World.ownsRow.cells hh (g := g) rfl j u hu
      rw [Addr.add_lit] at this
      exact this
    exact ⟨v0, v1, v2, v3, hc _ _ c0, by have := hc _ _ c1; rwa [← Nat.add_assoc] at this, by have := hc _ _ c2; rwa [← Nat.add_assoc] at this, by have := hc _ _ c3; rwa [← Nat.add_assoc] at this, IsP.map (fun b hb => ⟨⟨hb.1, hb.2.1⟩, rfl⟩) _ _ ht⟩

/-- All blocks but two stay. -/
structure KeptBut (w w' : World) (bm : Nat) (row : Option Nat) : Prop where
  os : w'.os = w.os
  tape : w'.tape = w.tape
  output : w'.output = w.output
  size : w.heap.size ≤ w'.heap.size
  block : ∀ k, k < w.heap.size → k ≠ bm → some k ≠ row → w'.heap[k]? = w.heap[k]?

/-- The phases: nothing is turned; the map is turned; the row, too. -/
def GC (wr : World) (bm : Nat) (ks : List (List UInt8)) (row : Option Nat) : Nat → World → Prop
  | 0, w => Below wr.heap.size wr w
  | 1, w => wr.grownBy w (some bm) ∧ Dict w bm ks
  | _, w => KeptBut wr w bm row ∧ Dict w bm ks
def GR (bm : Nat) (row : Option Nat) : Nat → World → World → Prop
  | 0, w, w' => w.grownBy w' (some bm)
  | 1, w, w' => w.grownBy w' row
  | _, w, w' => Ext w w'
theorem grown_refl (row : Option Nat) (w : World) : w.grownBy w row := ⟨rfl, rfl, rfl, Nat.le_refl _, fun _ _ _ => rfl⟩
theorem GR.refl (bm : Nat) (row : Option Nat) (b : Nat) (w : World) : GR bm row b w w := by
  match b with
  | 0 => exact grown_refl _ w
  | 1 => exact grown_refl _ w
  | _ + 2 => exact Ext.refl w
theorem GR.alloc (bm : Nat) (row : Option Nat) (b : Nat) (w : World) (o : Obj) : GR bm row b w (w.alloc o) := by
  match b with
  | 0 => exact World.grownBy_alloc w o _
  | 1 => exact World.grownBy_alloc w o _
  | _ + 2 => exact below_a1 (Nat.le_refl _) o
theorem KeptBut.of_grown {w w' : World} {bm : Nat} {row : Option Nat} (h : w.grownBy w' (some bm)) : KeptBut w w' bm row := ⟨h.os, h.tape, h.output, h.size, fun k hk h1 _ => h.block k hk (by simpa using h1)⟩
theorem KeptBut.of_below {w w' : World} {bm : Nat} {row : Option Nat} (h : Below w.heap.size w w') : KeptBut w w' bm row := ⟨h.os, h.tape, h.output, h.size, fun k hk _ _ => h.block k hk⟩
theorem KeptBut.grow {w w' w2 : World} {bm : Nat} {row : Option Nat} (h : KeptBut w w' bm row) (hg : w'.grownBy w2 row) : KeptBut w w2 bm row :=
  ⟨hg.os.trans h.os, hg.tape.trans h.tape, hg.output.trans h.output, Nat.le_trans h.size hg.size, fun k hk h1 h2 => (hg.block k (Nat.lt_of_lt_of_le hk h.size) h2).trans (h.block k hk h1 h2)⟩
theorem GC.kept {wr w : World} {bm : Nat} {ks : List (List UInt8)} {row : Option Nat} {b : Nat} (h : GC wr bm ks row b w) : KeptBut wr w bm row := by
  match b with
  | 0 => exact .of_below h
  | 1 => exact .of_grown h.1
  | _ + 2 => exact h.1
theorem GC.alloc {wr w : World} {bm : Nat} {ks : List (List UInt8)} {row : Option Nat} {b : Nat} (h : GC wr bm ks row b w) (o : Obj) : GC wr bm ks row b (w.alloc o) := by
  match b with
  | 0 => exact Below.alloc h h.size o
  | 1 => exact ⟨grown_trans h.1 (World.grownBy_alloc w o _), h.2.kept (World.grownBy_alloc w o none) (by simp)⟩
  | _ + 2 => exact ⟨h.1.grow (World.grownBy_alloc w o _), h.2.kept (World.grownBy_alloc w o none) (by simp)⟩
theorem GC.turned {wr w w' : World} {bm : Nat} {ks : List (List UInt8)} {row : Option Nat} (h : Below wr.heap.size wr w) (hg : w.grownBy w' (some bm)) (hd : Dict w' bm ks) : GC wr bm ks row 1 w' := ⟨grown_trans (grown_b (some bm) h) hg, hd⟩
theorem KeptBut.box {w w' : World} {bm : Nat} {row : Option Nat} (h : KeptBut w w' bm row) {B : Nat} {cs : Array Value} {t : TypeId} (hB : Box w B cs t) (h1 : B ≠ bm) (h2 : some B ≠ row) : Box w' B cs t := (h.block B hB.lt h1 h2).trans hB
theorem KeptBut.cell {w w' : World} {bm : Nat} {row : Option Nat} (h : KeptBut w w' bm row) {p : Addr} {v : Value} (hc : w.cell? p = some v) (h1 : p.block ≠ bm) (h2 : some p.block ≠ row) : w'.cell? p = some v :=
  (World.cell?_of_block (h.block p.block (World.block_lt_of_cell? w p hc) h1 h2)).trans hc
theorem Dict.not_cell {W : World} {b : Nat} {ks : List (List UInt8)} (h : Dict W b ks) {p : Addr} {v : Value} (hc : W.cell? p = some v) : p.block ≠ b := fun e => by
  obtain ⟨D, ⟨es, clock, hm, _⟩, _⟩ := h
  rw [World.cell?, e, hm] at hc
  cases hc

/-- A tree in blocks that are new since a number. -/
def IsNewT (lo : Nat) (T : Tr) (u : Value) (W : World) : Prop := lo ≤ W.heap.size ∧ IsP (New lo W) W T u
theorem IsNewT.stable (lo : Nat) (T : Tr) (bm : Nat) (row : Option Nat) (hb : bm < lo) (hr : ∀ k, row = some k → k < lo) (b : Nat) : (Yld.any (IsNewT lo T)).stableP (GR bm row b) := fun u w w' he h => by
  have hk : w.heap.size ≤ w'.heap.size ∧ ∀ k, lo ≤ k → k < w.heap.size → w'.heap[k]? = w.heap[k]? := by
    match b with
    | 0 => exact ⟨he.size, fun k h1 h2 => World.grownBy.block he k h2 (by simp; omega)⟩
    | 1 => exact ⟨he.size, fun k h1 h2 => World.grownBy.block he k h2 (fun e => by have := hr k e.symm; omega)⟩
    | _ + 2 => exact ⟨Below.size he, fun k _ h2 => Below.block he k h2⟩
  exact ⟨Nat.le_trans h.1 hk.1, IsP.map (fun k hk' => ⟨⟨hk'.1, Nat.lt_of_lt_of_le hk'.2 hk.1⟩, hk.2 k hk'.1 hk'.2⟩) _ _ h.2⟩
/-- A slice of one such tree. -/
def IsNewS (lo : Nat) (T : Tr) (x : Value) (W : World) : Prop := ∃ g v0 v1 v2 v3, x = .slice (some ⟨g, 0, none⟩) 1 1 ∧ lo ≤ g ∧ Box W g #[v0, v1, v2, v3] 25 ∧ IsNewT lo T (.agg #[v0, v1, v2, v3]) W
theorem IsNewS.stable (lo : Nat) (T : Tr) (bm : Nat) (row : Option Nat) (hb : bm < lo) (hr : ∀ k, row = some k → k < lo) (b : Nat) : (Yld.any (IsNewS lo T)).stableP (GR bm row b) := fun x w w' he ⟨g, v0, v1, v2, v3, h1, h2, h3, h4⟩ => by
  refine ⟨g, v0, v1, v2, v3, h1, h2, ?_, IsNewT.stable lo T bm row hb hr b _ _ _ he h4⟩
  match b with
  | 0 => exact (World.grownBy.block he g h3.lt (by simp; omega)).trans h3
  | 1 => exact (World.grownBy.block he g h3.lt (fun e => by have := hr g e.symm; omega)).trans h3
  | _ + 2 => exact Box.keep he h3
/-- What the append yields: the row, longer by one tree. -/
def IsRowT (base lo : Nat) (row : Option Nat) (j : Nat) (xs : List Value) (T : Tr) (v : Value) (W : World) : Prop := ∃ v0 v1 v2 v3, W.ownsRow base 25 4 v (j + 1) (xs ++ [v0, v1, v2, v3]) ∧ IsP (NewBut lo v W) W T (.agg #[v0, v1, v2, v3]) ∧ ∀ k, v.ownBlock = some k → row = some k ∨ lo ≤ k
theorem IsRowT.stable (base lo : Nat) (row row' : Option Nat) (j : Nat) (xs : List Value) (T : Tr) (bm : Nat) : (Yld.any (IsRowT base lo row j xs T)).stableP (GR bm row' 2) := fun v w w' he ⟨v0, v1, v2, v3, h1, h2, h3⟩ => by
  have he' : Ext w w' := he
  exact ⟨v0, v1, v2, v3, h1.kept (grown_b none he') (by rcases v.ownBlock with _ | _ <;> simp), IsP.map (fun k hk => ⟨⟨hk.1, Nat.lt_of_lt_of_le hk.2.1 (Below.size he'), hk.2.2⟩, Below.block he' k hk.2.1⟩) _ _ h2, h3⟩

theorem cells_of_box {W : World} {g : Nat} {cs : Array Value} {t : TypeId} (hb : Box W g cs t) : ∀ j u, cs.toList[j]? = some u → W.cell? ((⟨g, 0, none⟩ : Addr).add j) = some u := fun j u h => by
  have hadd : (⟨g, 0, none⟩ : Addr).add j = ⟨g, j, none⟩ := by unfold Addr.add; split <;> simp_all
  rw [hadd, hb.cell]
  simpa using h
theorem IsP.form {p : Nat → Prop} {W : World} {T : Tr} {v : Value} (h : IsP p W T v) : ∃ k n s a m c, v = .agg #[.int .i64 k, .int .i64 n, .string s, .slice a m c] := by
  cases T with
  | node k n s l => obtain ⟨a, c, rfl, _⟩ := h.open; exact ⟨_, _, _, _, _, _, rfl⟩
theorem GC.start (w : World) (bm : Nat) (ks : List (List UInt8)) (row : Option Nat) : GC w bm ks row 0 { w with drawn := w.drawn + 1 } := ⟨rfl, rfl, rfl, Nat.le_refl _, fun _ _ => rfl⟩
theorem gen_hys (v0 v1 v2 v3 v4 v5 v6 v7 v8 v12 : Value) (lo base : Nat) (T : Tr) (bm : Nat) (row : Option Nat) (jj : Nat) (xs : List Value) (hb : bm < lo) (hr : ∀ k, row = some k → k < lo) (i b : Nat) (h : i = 11 → b = 2) :
    (([.det v0, .det v1, .det v2, .det v3, .det v4, .det v5, .det v6, .det v7, .det v8, .any (IsNewT lo T), .any (IsNewS lo T), .any (IsRowT base lo row jj xs T), .det v12] : List Yld).getD i (.any fun _ _ => True)).stableP (GR bm row b) := by
  match i with
  | 0 => trivial
  | 1 => trivial
  | 2 => trivial
  | 3 => trivial
  | 4 => trivial
  | 5 => trivial
  | 6 => trivial
  | 7 => trivial
  | 8 => trivial
  | 9 => exact IsNewT.stable lo T bm row hb hr b
  | 10 => exact IsNewS.stable lo T bm row hb hr b
  | 11 => obtain rfl := h rfl; exact IsRowT.stable base lo row row jj xs T bm
  | 12 => trivial
  | _ + 13 => exact fun _ _ _ _ _ => trivial
/-- The append of the region, in the phase behind the call. -/
theorem row_append (W6 w' : World) (bm base : Nat) (ks : List (List UInt8)) (ov : Value) (j : Nat) (xs : List Value) (T : Tr) (x : Value) (hC : GC W6 bm ks ov.ownBlock 1 w') (hown : W6.ownsRow base 25 4 ov j xs) (hbm : ov.ownBlock ≠ some bm) (hx : IsNewS W6.heap.size T x w') (hj : j < 1000000000) (hbase : base ≤ W6.heap.size) :
    ∃ v2 w2, (Builtin.append_ #[22, 22] 22 #[ov, x]).run Tryd.prog w' = .ok v2 w2 ∧ GR bm ov.ownBlock 1 w' w2 ∧ GC W6 bm ks ov.ownBlock 2 w2 ∧ IsRowT base W6.heap.size ov.ownBlock j xs T v2 w2 := by
  obtain ⟨g, v0, v1, v2, v3, rfl, hg, hbox, hs, hP⟩ := hx
  obtain ⟨i0, hi, hz0, hz1, hz2⟩ := info_parts infoTerm
  have hown' : w'.ownsRow base 25 4 ov j xs := hown.kept hC.1 (by
    rcases h : ov.ownBlock with _ | k
    · exact .inl rfl
    · exact .inr (fun e => hbm (h.trans e)))
  have h1 : ∀ u ∈ [v0, v1, v2, v3], u.oneCell' = true := by
    obtain ⟨k, n, s, a, m, c, e⟩ := hP.form
    simp only [Value.agg.injEq, Array.mk.injEq, List.cons.injEq, and_true] at e
    obtain ⟨rfl, rfl, rfl, rfl⟩ := e
    intro u hu
    simp only [List.mem_cons, List.not_mem_nil, or_false] at hu
    rcases hu with rfl | rfl | rfl | rfl <;> rfl
  obtain ⟨v', w2, hr, h2, h3, _⟩ := run_append_own (P := Tryd.prog) w' base 22 22 25 i0 _ 4 56 Tryd.underlying22 hi hz0 hz1 hz2 rfl (by decide) ov j xs hown' ⟨g, 0, none⟩ 1 1 [v0, v1, v2, v3] rfl (cells_of_box hbox) h1 (by unfold maxLen; omega) (by omega) (by omega)
  have h4 := append_where 22 22 25 i0 _ 4 56 Tryd.underlying22 hi hz0 hz1 hz2 rfl (by decide) base ov j xs hown' ⟨g, 0, none⟩ 1 1 [v0, v1, v2, v3] rfl (cells_of_box hbox) h1 (by unfold maxLen; omega) (by omega) v' w2 hr
  have hlt : ∀ k, ov.ownBlock = some k → k < W6.heap.size := fun k hk => (hown.lt k hk).2
  refine ⟨v', w2, hr, h3, ⟨(GC.kept hC).grow h3, hC.2.kept h3 (fun e => hbm e.symm)⟩, v0, v1, v2, v3, h2, ?_, fun k hk => ?_⟩
  · refine IsP.map (fun k hk => ⟨⟨hk.1, Nat.lt_of_lt_of_le hk.2 h3.size, fun e => ?_⟩, h3.block k hk.2 (fun e => by have := hlt k e.symm; have := hk.1; omega)⟩) _ _ hP
    rcases h4 k e.symm with h | h
    · have := hlt k h; have := hk.1; omega
    · have := hk.2; omega
  · rcases h4 k hk with h | h
    · exact .inl h
    · exact .inr (by omega)

theorem tab_turned {P : Program} {W W' : World} {b n : Nat} {ks : List (List UInt8)} {name : String} {k : IntKind} {zs : List Int} (hd : Dict W b ks) (hg : W.grownBy W' (some b)) (h : Lib.TabBelow P n W name k zs) : Lib.TabBelow P W'.heap.size W' name k zs := Lib.tabBelow_of_tabIs (by
  have h1 := h.here
  unfold Lib.TabIs World.var? at *
  cases hn : P.globalNamed name with
  | none => simp [hn] at h1
  | some g =>
    simp only [hn, Option.bind_some] at h1 ⊢
    have hlt : g < W.heap.size := by
      rcases Nat.lt_or_ge g W.heap.size with h' | h'
      · exact h'
      · rw [Array.getElem?_eq_none h'] at h1; simp at h1
    have hne : g ≠ b := fun e => by
      obtain ⟨D, ⟨es, clock, hm, _⟩, _⟩ := hd
      rw [e, hm] at h1
      simp at h1
    rw [hg.block g hlt (by simpa using hne)]
    exact h1)

theorem uponP_append {P : Program} {q : Value → World → Prop} {a : Act} {w w' : World} {v xv v' : Value} (o : Oper) (s x : Operand) (t : TypeId) (ho : o.op = .call { callee := .builtin .append, args := #[s, x], argTypes := #[t, t] }) (hs : a.eval s = v) (hx : a.eval x = xv)
    (hr : (Builtin.append_ #[t, t] o.type #[v, xv]).run P w = .ok v' w') (h : q v' w') : uponP P q ((execOp a.eval o).run P w) := by
  unfold execOp
  simp only [ho, resolve, invoke, builtin, Sem.run_bind, Sem.run_pure, Result.andThen_ok, List.map_toArray, List.map_cons, List.map_nil, hs, hx, hr]
  exact h

/-- Between the rounds of general: B, the parameters' boxes and the result's; Bo, the box of what is made. -/
def GenInv (B Bo bm : Nat) (k n : Int) (s : ByteArray) (cs cs' : Array Value) (l l' : List Tr) (ks : List (List UInt8)) (w : World) (j : Nat) (wr : World) : Prop :=
  ∃ ov xs, Box wr B cs 25 ∧ Box wr (B + 1) cs' 25 ∧ Box wr (B + 1 + 1) #[.int .i64 0, .int .i64 0, .string ⟨#[]⟩, .slice none 0 0] 25 ∧ Box wr Bo #[.int .i64 k, .int .i64 n, .string s, ov] 25 ∧
    wr.ownsRow (Bo + 1) 25 4 ov j xs ∧ LaidR (NewBut (Bo + 1) ov wr) wr xs (genL (l.take j) (l'.take j) ks).1 ∧ Dict wr bm (genL (l.take j) (l'.take j) ks).2 ∧ w.grownBy wr (some bm)
end Go.Proofs.YtckoecmdaefoiaaDoor
