/- What is true of the lexemes of a text: lengths, numbers, places. -/
import Derived.Test.YthfciekhmbfmfaaGreatDoorRSame
import Derived.Test.YthfciekhmbfmfaaGreatDoorCut
import Derived.Test.YthfciekhmbfmfaaGreatDoorParT
namespace Go.Proofs.YthfciekhmbfmfaaGreatDoor
open Go.RowKit Go

theorem numN_le : ∀ (l : List UInt8) (n m : Nat), numN n l = some m → n ≤ 2147483647 → m ≤ 2147483647
  | [], n, m, h, hn => by cases h; exact hn
  | c :: r, n, m, h, hn => by
    rw [numN] at h
    split at h
    · rename_i h2
      exact numN_le r _ m h h2.2
    · cases h
theorem tok_ok {l : List UInt8} {t : Tok} {m : Nat} (h : tokF l = some (t, m)) : t.s.length ≤ 255 ∧ t.n ≤ 2147483647 := by
  cases l with
  | nil => cases h
  | cons c r =>
    rw [tokF] at h
    repeat' split at h
    all_goals first | (cases h; done) | skip
    · rename_i h2; cases h; exact ⟨Nat.le_trans h2 (show (32 : Nat) ≤ 255 by decide), Nat.zero_le _⟩
    · rename_i h2; cases h; exact ⟨Nat.le_trans h2 (show (32 : Nat) ≤ 255 by decide), Nat.zero_le _⟩
    · rename_i n h2; cases h; exact ⟨Nat.zero_le _, numN_le _ _ _ h2 (Nat.zero_le _)⟩
    · cases h; exact ⟨Nat.le_of_ble_eq_true rfl, Nat.zero_le _⟩
    · rename_i h2 h3; cases h; exact ⟨Nat.le_trans (by first | exact h2 | exact h3 | assumption) (show (32 : Nat) ≤ 255 by decide), Nat.zero_le _⟩
    · cases h; exact ⟨Nat.le_of_ble_eq_true rfl, Nat.zero_le _⟩
    · rename_i h2; cases h; exact ⟨Nat.le_trans h2.2 (show (32 : Nat) ≤ 255 by decide), Nat.zero_le _⟩
    · rename_i h2; cases h; exact ⟨h2, Nat.zero_le _⟩
theorem lexN_ok (tot : Nat) (ht : tot ≤ 20000) : ∀ (n : Nat) (l : List UInt8) (xs : List Lx), lexN tot n l = .ok xs → l.length ≤ tot → ∀ x ∈ xs, x.t.s.length ≤ 255 ∧ x.t.n ≤ 2147483647 ∧ x.a ≤ 20000 ∧ x.e ≤ 20000
  | 0, l, xs, h, _ => by cases h; simp
  | n + 1, l, xs, h, hl => by
    have hsk := skipL_le _ l (Nat.le_refl _)
    rw [lexN] at h
    generalize skipL l = D at *
    obtain ⟨k, b⟩ := D
    cases b with
    | false => cases h
    | true =>
      cases k with
      | nil => cases h; simp
      | cons c r =>
        simp only [List.length_cons] at hsk
        cases hk : tokF (c :: r) with
        | none => simp only [hk] at h; cases h
        | some x =>
          obtain ⟨t, j⟩ := x
          simp only [hk] at h
          have hj := tok_len hk
          cases hr : lexN tot n ((c :: r).drop j) with
          | error e => rw [hr] at h; cases h
          | ok ys =>
            rw [hr] at h
            cases h
            intro x hx
            rcases List.mem_cons.1 hx with rfl | hx
            · have := tok_ok hk
              simp only [List.length_cons]
              exact ⟨this.1, this.2, by omega, by omega⟩
            · exact lexN_ok tot ht n _ ys hr (by simp only [List.length_drop, List.length_cons]; omega) x hx
theorem lexL_ok {l : List UInt8} {xs : List Lx} (h : lexL l = .ok xs) (h2 : l.length ≤ 20000) (h3 : xs.length ≤ 8000) : LxOk l.length xs :=
  ⟨h3, h2, lexN_ok _ h2 _ _ _ h (Nat.le_refl _)⟩
end Go.Proofs.YthfciekhmbfmfaaGreatDoor

/- A term is read with variables of its own. -/
namespace Go.Proofs.YthfciekhmbfmfaaGreatDoor
open Go.RowKit Go Go.Maps

/-- The parser between two terms: whatever variables it has. -/
structure PaPre (w : World) (B b1 b2 tot : Nat) (xs : List Lx) (pv : Value) (i : Nat) (v5 v6 : Value) (W : World) : Prop where
  box : Box W B #[pv, .int .i64 (i : Int), .int .i64 (tot : Int), .map (some b1), .map (some b2), v5, v6] 149
  row : OwnR 78 3 pcV w.heap.size xs pv W
  ops : OpsTwo w.heap.size W b1 b2
  below : Below w.heap.size w W
  hB : w.heap.size ≤ B
  hi : i ≤ xs.length
section
variable {w : World} {B b1 b2 V tot : Nat} {xs : List Lx} {pv nv : Value} {st : PS} {W : World} {n : Nat}
theorem PaSt.pre (h : PaSt w B b1 b2 V tot xs pv st nv W) : PaPre w B b1 b2 tot xs pv st.i (.map (some V)) nv W := ⟨h.box, h.row, h.ops, h.below, h.hB, h.hi⟩
/-- New variables. -/
theorem PaPre.fresh {i : Nat} {v5 v6 : Value} (h : PaPre w B b1 b2 tot xs pv i v5 v6 W) (o : Obj) :
    ∀ W', W' = (((W.setCell ⟨B, 5, none⟩ (.map (some (W.heap.size + 1)))).setCell ⟨B, 6, none⟩ (.slice none 0 0)).alloc o).alloc (.map #[] 0) →
    PaSt w B b1 b2 (W.heap.size + 1) tot xs pv ⟨i, []⟩ (.slice none 0 0) W' ∧ (∀ k, k < W.heap.size → k ≠ B → W'.heap[k]? = W.heap[k]?) ∧ W'.heap[W.heap.size]? = some o ∧ W'.heap.size = W.heap.size + 2 := by
  rintro W' rfl
  have hBl := h.box.lt
  have hs0 : ((W.setCell ⟨B, 5, none⟩ (.map (some (W.heap.size + 1)))).setCell ⟨B, 6, none⟩ (.slice none 0 0)).heap.size = W.heap.size := by simp
  have hb0 := (h.box.set 5 (.map (some (W.heap.size + 1)))).set 6 (.slice none 0 0)
  have hk0 : ∀ k, k ≠ B → ((W.setCell ⟨B, 5, none⟩ (.map (some (W.heap.size + 1)))).setCell ⟨B, 6, none⟩ (.slice none 0 0)).heap[k]? = W.heap[k]? := fun k hk => (Below.heap_setCell _ _ _ _ hk).trans (Below.heap_setCell _ _ _ _ hk)
  have hw1 := h.below.trans (gr_low (gr_set B 5 W (.map (some (W.heap.size + 1)))) h.below.size (fun g e => by cases e; exact h.hB))
  have hw2 := hw1.trans (gr_low (gr_set B 6 (W.setCell ⟨B, 5, none⟩ (.map (some (W.heap.size + 1)))) (.slice none 0 0)) hw1.size (fun g e => by cases e; exact h.hB))
  generalize (W.setCell ⟨B, 5, none⟩ (.map (some (W.heap.size + 1)))).setCell ⟨B, 6, none⟩ (.slice none 0 0) = X at *
  have hm := VarsAt.made (X.alloc o)
  have hs1 : (X.alloc o).heap.size = W.heap.size + 1 := by simp [hs0]
  rw [hs1] at hm
  have hA := below_a2 (Nat.le_refl X.heap.size) o (.map #[] 0)
  obtain ⟨o1, o2, o3, ⟨m1, o4⟩, m2, o5⟩ := h.ops
  have hnb : ∀ {b : Nat}, (∃ es clock, W.heap[b]? = some (Obj.map es clock)) → b ≠ B := fun {b} ⟨es, cl, hm⟩ e => by
    subst e
    have h2 := h.box
    rw [show W.heap[b]? = some _ from h2] at hm
    cases hm
  have hF : ∀ k, k < W.heap.size → k ≠ B → ((X.alloc o).alloc (.map #[] 0)).heap[k]? = W.heap[k]? := fun k h1 h2 => (hA.block k (by omega)).trans (hk0 k h2)
  have h4 := o4.lt
  have h5 := o5.lt
  have hww := h.below.size
  refine ⟨⟨(hA.block B (by omega)).trans hb0, ?_, ⟨o1, o2, o3, ⟨m1, o4.block (hF _ h4 (hnb o4.map))⟩, m2, o5.block (hF _ h5 (hnb o5.map))⟩, ⟨0, Nat.zero_le _, hm⟩, OwnR.nil _ _, by omega, by omega, hw2.trans (hA.mono hw2.size), h.hB, by omega, h.hi, Nat.zero_le _⟩, hF, ?_, by simp [hs0]⟩
  · exact h.row.block fun b hb => by
      obtain ⟨c, fr, h1⟩ := h.row.typed hb
      refine hF b (Array.getElem?_eq_some_iff.1 h1).1 (fun e => ?_)
      subst e
      have h2 := h.box
      rw [show W.heap[b]? = some _ from h2] at h1
      cases h1
  · rw [Below.heap_alloc _ _ _ (by simp [hs0])]
    have := heap_alloc_new X o
    rw [hs0] at this
    exact this
theorem OwnR.slice {α : Type} {t : TypeId} {k : Nat} {f : α → List Value} {lo : Nat} {l : List α} {v : Value} {W : World} (h : OwnR t k f lo l v W) : ∃ a c, v = .slice a l.length c := by
  rcases h.own.2 with ⟨e1, e2⟩ | ⟨g, cap, cur, e1, _⟩
  · exact ⟨none, 0, by rw [e1, e2]⟩
  · exact ⟨_, _, e1⟩
/-- A box of another type is written, and memory made. -/
theorem PaPre.far {i R : Nat} {v5 v6 : Value} {cs : Array Value} {t : TypeId} {W' : World} (h : PaPre w B b1 b2 tot xs pv i v5 v6 W) (hR : Box W R cs t) (h1 : t ≠ 149) (h2 : t ≠ 78) (hk : ∀ k, k < W.heap.size → k ≠ R → W'.heap[k]? = W.heap[k]?) (hw : Below w.heap.size w W') : PaPre w B b1 b2 tot xs pv i v5 v6 W' := by
  have hBR : B ≠ R := fun e => by
    subst e
    have h3 : W.heap[B]? = some _ := h.box
    rw [show W.heap[B]? = some _ from hR] at h3
    have h4 := Option.some.inj h3
    injection h4 with _ h5 _
    exact h1 h5
  obtain ⟨o1, o2, o3, ⟨m1, o4⟩, m2, o5⟩ := h.ops
  have hnb : ∀ {b : Nat}, (∃ es clock, W.heap[b]? = some (Obj.map es clock)) → b ≠ R := fun {b} ⟨es, cl, hm⟩ e => by
    subst e
    rw [show W.heap[b]? = some _ from hR] at hm
    cases hm
  refine ⟨(hk B h.box.lt hBR).trans h.box, h.row.block fun b hb => ?_, ⟨o1, o2, o3, ⟨m1, o4.block (hk _ o4.lt (hnb o4.map))⟩, m2, o5.block (hk _ o5.lt (hnb o5.map))⟩, hw, h.hB, h.hi⟩
  obtain ⟨c, fr, h3⟩ := h.row.typed hb
  refine hk b (Array.getElem?_eq_some_iff.1 h3).1 (fun e => ?_)
  subst e
  rw [show W.heap[b]? = some _ from hR] at h3
  cases h3
  exact h2 rfl
theorem PaSt.far {R : Nat} {cs : Array Value} {t : TypeId} {W' : World} (h : PaSt w B b1 b2 V tot xs pv st nv W) (hR : Box W R cs t) (h1 : t ≠ 149) (h2 : t ≠ 78) (h3 : t ≠ 9) (hk : ∀ k, k < W.heap.size → k ≠ R → W'.heap[k]? = W.heap[k]?) (hw : Below w.heap.size w W') : PaSt w B b1 b2 V tot xs pv st nv W' := by
  have hp := h.pre.far hR h1 h2 hk hw
  obtain ⟨n, hn, hv⟩ := h.vars
  refine ⟨hp.box, hp.row, hp.ops, ⟨n, hn, hv.block (hk _ hv.lt (fun e => ?_))⟩, h.names.block fun b hb => ?_, h.ne1, h.ne2, hw, h.hB, h.hV, h.hi, h.hn⟩
  · obtain ⟨es, cl, hm⟩ := hv.map
    rw [e, show W.heap[R]? = some _ from hR] at hm
    cases hm
  · obtain ⟨c, fr, h4⟩ := h.names.typed hb
    refine hk b (Array.getElem?_eq_some_iff.1 h4).1 (fun e => ?_)
    subst e
    rw [show W.heap[b]? = some _ from hR] at h4
    cases h4
    exact h3 rfl
/-- What reading hands back. -/
def RdQ (w : World) (B b1 b2 tot : Nat) (xs : List Lx) (pv : Value) (i : Nat) (W : World) (e : Ending) (W' : World) : Prop :=
  match termL tot xs 1200 ⟨i, []⟩ with
  | .error p => e = thrown ((p : Nat) : Int) 21 ∧ Below w.heap.size w W'
  | .ok (t, st') => ∃ a0 a1 a2 a3 am a4 nv' Vn, e = .returned (.agg #[.int .i64 a0, .int .i64 a1, .string a2, .slice a3 am a4, nv']) ∧ tval W.heap.size t (.agg #[.int .i64 a0, .int .i64 a1, .string a2, .slice a3 am a4]) W' ∧ PaSt w B b1 b2 Vn tot xs pv st' nv' W' ∧
      OwnR 9 1 strV W.heap.size st'.ns nv' W' ∧ (W.heap.size ≤ W'.heap.size ∧ ∀ k, k < W.heap.size → k ≠ B → W'.heap[k]? = W.heap[k]?) ∧ i + 1 ≤ st'.i
set_option maxRecDepth 100000 in
set_option maxHeartbeats 8000000 in
theorem reading_any {i : Nat} {v5 v6 : Value} (h : PaPre w B b1 b2 tot xs pv i v5 v6 W) (hx : LxOk tot xs) : Calls Tryz.prog 65 #[.pointer (some ⟨B, 0, none⟩)] W (RdQ w B b1 b2 tot xs pv i W) := by
  have c5 := h.box.cell 5
  have c6 := h.box.cell 6
  have f5 := h.box.frozen 5
  have f6 := h.box.frozen 6
  have l0 := h.box.lt
  have hne1 : ¬ W.heap.size = B := by omega
  have hne2 : ¬ W.heap.size + 1 = B := by omega
  simp only [List.getElem?_toArray, List.getElem?_cons_succ, List.getElem?_cons_zero] at c5 c6
  have HF := Lib.hid (h.fresh (.cells #[.int .i64 0, .int .i64 0, .string ⟨#[]⟩, .slice none 0 0, .slice none 0 0] 86) _ rfl)
  have HH := Lib.hid h
  have hix := h.hi
  have hmm := @run_makeMap Tryz.prog
  have hwW := h.below.size
  clear h
  go_enter Tryz.func65, Tryz.ntmps65
  go_wp2_with fail
  generalize (((W.setCell ⟨B, 5, none⟩ (.map (some (W.heap.size + 1)))).setCell ⟨B, 6, none⟩ (.slice none 0 0)).alloc (.cells #[.int .i64 0, .int .i64 0, .string ⟨#[]⟩, .slice none 0 0, .slice none 0 0] 86)).alloc (.map #[] 0) = W1 at *
  have HC := Lib.hid (term_ok (w := w) (B := B) (b1 := b1) (b2 := b2) (V := W.heap.size + 1) (pv := pv) hx (xs.length + 1 - i) 1200 ⟨i, []⟩ (.slice none 0 0) W1 (by omega) (by omega) HF.out.1 (by show xs.length < xs.length + 1 - i + i; omega))
  clear c5 c6 f5 f6 l0 hmm
  refine (HC.out).mono ?_
  rintro e w2 hQ2
  cases hr : termN tot xs (xs.length + 1 - i) 1200 ⟨i, []⟩ with
  | error p =>
    rw [hr] at hQ2
    obtain ⟨rfl, hb⟩ := hQ2
    refine And.intro rfl ?_
    have hr2 : termL tot xs 1200 ⟨i, []⟩ = .error p := hr
    rw [RdQ, hr2]
    exact ⟨rfl, hb⟩
  | ok x =>
    obtain ⟨t, st2⟩ := x
    rw [hr] at hQ2
    obtain ⟨v2, nv2, rfl, ht, h2, hT2, hi3⟩ := hQ2
    obtain ⟨a0, a1, a2, a3, am, a4, rfl⟩ := IsP.formP ht
    obtain ⟨na, nc, rfl⟩ := h2.names.slice
    have hi3' : i + 1 ≤ st2.i := hi3
    have hR0 : Box W1 W.heap.size #[.int .i64 0, .int .i64 0, .string ⟨#[]⟩, .slice none 0 0, .slice none 0 0] 86 := HF.out.2.2.1
    have hR2 := PaTo.box HF.out.1 hT2 hR0 (by decide) (by decide)
    have hr2 : Hid (termL tot xs 1200 ⟨i, []⟩ = .ok (t, st2)) := hr
    have hA := below_a1 (Nat.le_refl w2.heap.size) (.cells #[.int .i64 a0, .int .i64 a1, .string a2, .slice a3 am a4] 31)
    have h3 := h2.up hA
    have hR3 := hR2.keep hA
    have hszc : w2.heap.size + 1 = (w2.alloc (.cells #[.int .i64 a0, .int .i64 a1, .string a2, .slice a3 am a4] 31)).heap.size := by simp
    have hRt : Box (w2.alloc (.cells #[.int .i64 a0, .int .i64 a1, .string a2, .slice a3 am a4] 31)) w2.heap.size #[.int .i64 a0, .int .i64 a1, .string a2, .slice a3 am a4] 31 := World.alloc_heap_new _ _
    have e6 := h3.box.cell 6
    have e0 := h3.box.lt
    have hRl := hR2.lt
    have H3 := Lib.hid (And.intro h3 (And.intro (hT2.trans (PaTo.up hA)) (And.intro hR3 (And.intro hRt (ht.up (TmK.of_below hA) (show W.heap.size ≤ W1.heap.size by have := HF.out.2.2.2; omega))))))
    have q0 := hR3.cell 0
    have q1 := hR3.cell 1
    have q2 := hR3.cell 2
    have q3 := hR3.cell 3
    have q4 := hR3.cell 4
    have z0 := hR3.frozen 0
    have z1 := hR3.frozen 1
    have z2 := hR3.frozen 2
    have z3 := hR3.frozen 3
    have z4 := hR3.frozen 4
    have p0 := hRt.cell 0
    have p1 := hRt.cell 1
    have p2 := hRt.cell 2
    have p3 := hRt.cell 3
    have l1 := hR3.lt
    simp only [List.getElem?_toArray, List.getElem?_cons_succ, List.getElem?_cons_zero] at e6 q0 q1 q2 q3 q4 p0 p1 p2 p3
    have r0 := hR2.cell 0
    have s0 := hR2.frozen 0
    have r1 := hR2.cell 1
    have s1 := hR2.frozen 1
    have r2 := hR2.cell 2
    have s2 := hR2.frozen 2
    have r3 := hR2.cell 3
    have s3 := hR2.frozen 3
    have r4 := hR2.cell 4
    have s4 := hR2.frozen 4
    simp only [List.getElem?_toArray, List.getElem?_cons_succ, List.getElem?_cons_zero] at r0 r1 r2 r3 r4
    have H2 := Lib.hid (And.intro h2 (And.intro hT2 (And.intro hR2 ht)))
    clear h2 h3 hT2 hR0 hR2 hR3 hRt ht hr hA hi3
    go_wp2_with fail
    go_region
    go_wp2_with fail
    have hks : ∀ k, k < w2.heap.size → k ≠ W.heap.size → (((((((w2.setCell ⟨W.heap.size, 0, none⟩ (.int .i64 a0)).setCell ⟨W.heap.size, 1, none⟩ (.int .i64 a1)).setCell ⟨W.heap.size, 2, none⟩ (.string a2)).setCell ⟨W.heap.size, 3, none⟩ (.slice a3 am a4)).setCell ⟨W.heap.size, 4, none⟩ (.slice na st2.ns.length nc)).alloc (.cells #[.int .i64 a0, .int .i64 a1, .string a2, .slice a3 am a4] 31)).drew).heap[k]? = w2.heap[k]? := fun k h1 h2 => by
      rw [show (((((((w2.setCell ⟨W.heap.size, 0, none⟩ (.int .i64 a0)).setCell ⟨W.heap.size, 1, none⟩ (.int .i64 a1)).setCell ⟨W.heap.size, 2, none⟩ (.string a2)).setCell ⟨W.heap.size, 3, none⟩ (.slice a3 am a4)).setCell ⟨W.heap.size, 4, none⟩ (.slice na st2.ns.length nc)).alloc (.cells #[.int .i64 a0, .int .i64 a1, .string a2, .slice a3 am a4] 31)).drew).heap = ((((((w2.setCell ⟨W.heap.size, 0, none⟩ (.int .i64 a0)).setCell ⟨W.heap.size, 1, none⟩ (.int .i64 a1)).setCell ⟨W.heap.size, 2, none⟩ (.string a2)).setCell ⟨W.heap.size, 3, none⟩ (.slice a3 am a4)).setCell ⟨W.heap.size, 4, none⟩ (.slice na st2.ns.length nc)).alloc (.cells #[.int .i64 a0, .int .i64 a1, .string a2, .slice a3 am a4] 31)).heap from rfl, Below.heap_alloc _ _ k (by simp; omega)]
      rw [Below.heap_setCell _ _ _ _ h2, Below.heap_setCell _ _ _ _ h2, Below.heap_setCell _ _ _ _ h2, Below.heap_setCell _ _ _ _ h2, Below.heap_setCell _ _ _ _ h2]
    have hbF : Box (((((((w2.setCell ⟨W.heap.size, 0, none⟩ (.int .i64 a0)).setCell ⟨W.heap.size, 1, none⟩ (.int .i64 a1)).setCell ⟨W.heap.size, 2, none⟩ (.string a2)).setCell ⟨W.heap.size, 3, none⟩ (.slice a3 am a4)).setCell ⟨W.heap.size, 4, none⟩ (.slice na st2.ns.length nc)).alloc (.cells #[.int .i64 a0, .int .i64 a1, .string a2, .slice a3 am a4] 31)).drew) W.heap.size #[.int .i64 a0, .int .i64 a1, .string a2, .slice a3 am a4, .slice na st2.ns.length nc] 86 :=
      (Box.alloc (((((H2.out.2.2.1.set 0 (.int .i64 a0)).set 1 (.int .i64 a1)).set 2 (.string a2)).set 3 (.slice a3 am a4)).set 4 (.slice na st2.ns.length nc)) _ : _)
    have hszF : w2.heap.size ≤ (((((((w2.setCell ⟨W.heap.size, 0, none⟩ (.int .i64 a0)).setCell ⟨W.heap.size, 1, none⟩ (.int .i64 a1)).setCell ⟨W.heap.size, 2, none⟩ (.string a2)).setCell ⟨W.heap.size, 3, none⟩ (.slice a3 am a4)).setCell ⟨W.heap.size, 4, none⟩ (.slice na st2.ns.length nc)).alloc (.cells #[.int .i64 a0, .int .i64 a1, .string a2, .slice a3 am a4] 31)).drew).heap.size := by
      rw [show (((((((w2.setCell ⟨W.heap.size, 0, none⟩ (.int .i64 a0)).setCell ⟨W.heap.size, 1, none⟩ (.int .i64 a1)).setCell ⟨W.heap.size, 2, none⟩ (.string a2)).setCell ⟨W.heap.size, 3, none⟩ (.slice a3 am a4)).setCell ⟨W.heap.size, 4, none⟩ (.slice na st2.ns.length nc)).alloc (.cells #[.int .i64 a0, .int .i64 a1, .string a2, .slice a3 am a4] 31)).drew).heap = ((((((w2.setCell ⟨W.heap.size, 0, none⟩ (.int .i64 a0)).setCell ⟨W.heap.size, 1, none⟩ (.int .i64 a1)).setCell ⟨W.heap.size, 2, none⟩ (.string a2)).setCell ⟨W.heap.size, 3, none⟩ (.slice a3 am a4)).setCell ⟨W.heap.size, 4, none⟩ (.slice na st2.ns.length nc)).alloc (.cells #[.int .i64 a0, .int .i64 a1, .string a2, .slice a3 am a4] 31)).heap from rfl]; simp
    have hwF := (show Below w.heap.size w (((((w2.setCell ⟨W.heap.size, 0, none⟩ (.int .i64 a0)).setCell ⟨W.heap.size, 1, none⟩ (.int .i64 a1)).setCell ⟨W.heap.size, 2, none⟩ (.string a2)).setCell ⟨W.heap.size, 3, none⟩ (.slice a3 am a4)).setCell ⟨W.heap.size, 4, none⟩ (.slice na st2.ns.length nc)) from (((((H2.out.1.below.setCell (p := ⟨W.heap.size, 0, none⟩) hwW (.int .i64 a0)).setCell (p := ⟨W.heap.size, 1, none⟩) hwW (.int .i64 a1)).setCell (p := ⟨W.heap.size, 2, none⟩) hwW (.string a2)).setCell (p := ⟨W.heap.size, 3, none⟩) hwW (.slice a3 am a4)).setCell (p := ⟨W.heap.size, 4, none⟩) hwW (.slice na st2.ns.length nc)))
    replace hwF := (hwF.alloc hwF.size (.cells #[.int .i64 a0, .int .i64 a1, .string a2, .slice a3 am a4] 31)).drew
    generalize ((((((w2.setCell ⟨W.heap.size, 0, none⟩ (.int .i64 a0)).setCell ⟨W.heap.size, 1, none⟩ (.int .i64 a1)).setCell ⟨W.heap.size, 2, none⟩ (.string a2)).setCell ⟨W.heap.size, 3, none⟩ (.slice a3 am a4)).setCell ⟨W.heap.size, 4, none⟩ (.slice na st2.ns.length nc)).alloc (.cells #[.int .i64 a0, .int .i64 a1, .string a2, .slice a3 am a4] 31)).drew = FW at *
    have y0 := hbF.cell 0
    have y1 := hbF.cell 1
    have y2 := hbF.cell 2
    have y3 := hbF.cell 3
    have y4 := hbF.cell 4
    simp only [List.getElem?_toArray, List.getElem?_cons_succ, List.getElem?_cons_zero] at y0 y1 y2 y3 y4
    refine bodyPost_ret (v := .agg #[.int .i64 a0, .int .i64 a1, .string a2, .slice a3 am a4, .slice na st2.ns.length nc]) (by simp [results, Tryz.results65, go_sem, y0, y1, y2, y3, y4]) rfl ?_
    rw [RdQ, hr2.out]
    have hW1 := HF.out.2.2.2
    refine ⟨a0, a1, a2, a3, am, a4, _, _, rfl, (H2.out.2.2.2.far (W' := FW) (fun b hb h3 => hks b h3 (by omega))).up (TmK.refl _) (by omega), H2.out.1.far H2.out.2.2.1 (by decide) (by decide) (by decide) hks hwF, ?_, ⟨by have := H2.out.2.1.size; omega, fun k h1 h2 => ?_⟩, hi3'⟩
    · have hnm := H2.out.1.names
      refine ⟨?_⟩
      have h5 : FW.ownsRow w.heap.size 9 1 _ _ _ := (hnm.block fun b hb => hks b (by obtain ⟨c, fr, h3⟩ := hnm.typed hb; exact (Array.getElem?_eq_some_iff.1 h3).1) (fun e => by
        subst e
        obtain ⟨c, fr, h3⟩ := hnm.typed hb
        rw [show w2.heap[W.heap.size]? = some _ from H2.out.2.2.1] at h3
        cases h3)).own
      refine ⟨h5.1, h5.2.imp id ?_⟩
      rintro ⟨g, cap, cur, e, hl, hg, h6⟩
      refine ⟨g, cap, cur, e, ?_, hg, h6⟩
      rcases H2.out.2.1.own g (by rw [e]; rfl) with h7 | h7
      · cases h7
      · omega
    · exact (hks k (by have := H2.out.2.1.size; omega) (by omega)).trans ((H2.out.2.1.block k (by omega) h2 (by omega) (by simp [Value.ownBlock])).trans (HF.out.2.1 k h1 h2))
end
end Go.Proofs.YthfciekhmbfmfaaGreatDoor

/- A parser at the beginning of a text. -/
namespace Go.Proofs.YthfciekhmbfmfaaGreatDoor
open Go.RowKit Go Go.Maps

/-- The lexemes of a text, or where and why there are none. -/
def lexR (s : ByteArray) : Except (Int × Int) (List Lx) :=
  if s.size > 20000 then .error (0, 2)
  else match lexL s.data.toList with
    | .error p => .error ((p : Int), 20)
    | .ok xs => if xs.length > 8000 then .error (0, 2) else .ok xs
theorem lexR_ok {s : ByteArray} {xs : List Lx} (h : lexR s = .ok xs) : lexL s.data.toList = .ok xs ∧ LxOk s.size xs := by
  unfold lexR at h
  split at h
  · cases h
  · rename_i h1
    cases hl : lexL s.data.toList with
    | error p => rw [hl] at h; cases h
    | ok ys =>
      rw [hl] at h
      simp only at h
      split at h
      · cases h
      · rename_i h2
        cases h
        have h3 := lexL_ok hl (by simp; omega) (by omega)
        exact ⟨rfl, by simpa using h3⟩
/-- What cut hands back, once more. -/
theorem cutR_any (s : ByteArray) (w : World) (hs : s.size ≤ 1000000) (mm : Int) (hmx : w.cell? ⟨1, 0, none⟩ = some (.int .i64 mm)) :
    Calls Tryz.prog 58 #[.string s] w fun e w' => Below w.heap.size w w' ∧ match lexR s with | .error x => e = thrown x.1 x.2 | .ok xs => ∃ pv, e = .returned pv ∧ OwnR 78 3 pcV w.heap.size xs pv w' := by
  refine (cut_any s w hs mm hmx).mono ?_
  rintro e w' ⟨h1, h2⟩
  refine ⟨h1, ?_⟩
  unfold lexR
  split at h2
  · rename_i h3
    rw [if_pos h3]
    exact h2
  · rename_i h3
    rw [if_neg h3]
    cases hl : lexL s.data.toList with
    | error p => rw [hl] at h2; exact h2
    | ok xs =>
      rw [hl] at h2
      simp only at h2 ⊢
      split at h2
      · rename_i h4
        rw [if_pos h4]
        exact h2
      · rename_i h4
        rw [if_neg h4]
        exact h2
/-- What newParser hands back. -/
def NpQ (s : ByteArray) (w : World) (e : Ending) (w' : World) : Prop :=
  Below w.heap.size w w' ∧ match lexR s with
    | .error x => e = thrown x.1 x.2
    | .ok xs => ∃ B b1 b2 pv, e = .returned (.pointer (some ⟨B, 0, none⟩)) ∧ PaPre w B b1 b2 s.size xs pv 0 (.map none) (.slice none 0 0) w'
set_option maxRecDepth 100000 in
set_option maxHeartbeats 8000000 in
theorem newParser_any (s : ByteArray) (w : World) (hs : s.size ≤ 1000000) (mm : Int) (hmx : w.cell? ⟨1, 0, none⟩ = some (.int .i64 mm)) :
    Calls Tryz.prog 64 #[.string s] w (NpQ s w) := by
  have HC := Lib.hid (cutR_any s w hs mm hmx)
  clear hmx
  go_enter Tryz.func64, Tryz.ntmps64
  go_wp2_with fail
  refine (HC.out).mono ?_
  rintro e w1 ⟨hB1, hQ⟩
  cases hl : lexR s with
  | error x =>
    rw [hl] at hQ
    obtain rfl : e = thrown x.1 x.2 := hQ
    refine And.intro rfl ?_
    rw [NpQ, hl]
    exact ⟨hB1, rfl⟩
  | ok xs =>
    rw [hl] at hQ
    obtain ⟨pv, rfl, hrow⟩ := hQ
    obtain ⟨pa, pc, rfl⟩ := hrow.slice
    have HR := Lib.hid (And.intro hB1 hrow)
    have HL := Lib.hid hl
    clear hB1 hrow hl
    go_wp2_with fail
    refine (newOperators_any _).mono ?_
    rintro e w2 ⟨b1, b2, rfl, ⟨o1, o2, o3, o4, o5⟩, hB2⟩
    have hr2 := HR.out.2.up hB2
    have hs1 := HR.out.1.size
    have hBw := HR.out.1.trans (hB2.mono hs1)
    have hA : Below w2.heap.size w2 (w2.alloc (.cells #[.slice pa xs.length pc, .int .i64 0, .int .i64 (s.size : Int), .map (some b1), .map (some b2), .map none, .slice none 0 0] 149)) := below_a1 (Nat.le_refl _) _
    have hpre : PaPre w w2.heap.size b1 b2 s.size xs (.slice pa xs.length pc) 0 (.map none) (.slice none 0 0) (w2.alloc (.cells #[.slice pa xs.length pc, .int .i64 0, .int .i64 (s.size : Int), .map (some b1), .map (some b2), .map none, .slice none 0 0] 149)) := by
      obtain ⟨m1, h4⟩ := o4
      obtain ⟨m2, h5⟩ := o5
      exact ⟨World.alloc_heap_new _ _, hr2.up hA, ⟨by omega, by omega, o3, ⟨m1, h4.block (hA.block _ h4.lt)⟩, m2, h5.block (hA.block _ h5.lt)⟩, hBw.trans (hA.mono hBw.size), hBw.size, Nat.zero_le _⟩
    have HP := Lib.hid (And.intro hpre (hBw.trans (hA.mono hBw.size)))
    clear hr2 hBw hA hpre o1 o2 o3 o4 o5 hB2
    go_wp2_with fail
    go_ret
    rw [NpQ, HL.out]
    exact ⟨HP.out.2, _, b1, b2, _, rfl, HP.out.1⟩
end Go.Proofs.YthfciekhmbfmfaaGreatDoor
