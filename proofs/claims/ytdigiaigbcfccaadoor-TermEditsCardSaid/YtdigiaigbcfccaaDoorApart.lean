/- Trees that lie apart: each list in a block of its own, the elements' blocks in ranges one behind the other; what is written at a place turns the tree there alone. -/
import Derived.Test.YtdigiaigbcfccaaDoorNodeA
import Derived.Test.YtdigiaigbcfccaaDoorWithR
import Derived.Test.YtdigiaigbcfccaaDoorRefPut
import Derived.Test.YtdigiaigbcfccaaDoorItems
namespace Go.Proofs.YtdigiaigbcfccaaDoor
open Go.RowKit Go

/-- A block that can be written. -/
def Soft (W : World) (b : Nat) : Prop := ∀ o, W.frozen? ⟨b, o, none⟩ = false
theorem Soft.keep {A B : World} {b : Nat} (h : Soft A b) (hb : B.heap[b]? = A.heap[b]?) : Soft B b := fun o => (World.frozen?_of_block (a := ⟨b, o, none⟩) hb).trans (h o)
theorem Box.soft {W : World} {B : Nat} {cs : Array Value} {t : TypeId} (h : Box W B cs t) : Soft W B := fun o => h.frozen o
mutual
/-- The value v is the tree, in blocks from lo to below hi, that lie apart. -/
def IsA (lo hi : Nat) (W : World) : Tr → Value → Prop
  | .node k n s l, v => ∃ (a : Option Addr) (c : Nat), v = .agg #[.int .i64 k, .int .i64 n, .string s, .slice a l.length c] ∧ okI k ∧ okI n ∧ s.size ≤ maxLen ∧ l.length ≤ c ∧ c ≤ maxLen ∧ (l = [] ∨ ∃ b, a = some ⟨b, 0, none⟩ ∧ lo ≤ b ∧ b < hi ∧ Soft W b ∧ IsAL (b + 1) hi W l b 0)
/-- From the offset off of the block b on lie the trees of the list. -/
def IsAL (lo hi : Nat) (W : World) : List Tr → Nat → Nat → Prop
  | [], _, _ => lo ≤ hi
  | t :: ts, b, off => ∃ (v0 v1 v2 v3 : Value) (mid : Nat), lo ≤ mid ∧ Four W b off v0 v1 v2 v3 ∧ IsA lo mid W t (.agg #[v0, v1, v2, v3]) ∧ IsAL mid hi W ts b (off + 4)
end
theorem IsA.open {lo hi : Nat} {W : World} {k n : Int} {s : ByteArray} {l : List Tr} {v : Value} (h : IsA lo hi W (.node k n s l) v) :
    ∃ (a : Option Addr) (c : Nat), v = .agg #[.int .i64 k, .int .i64 n, .string s, .slice a l.length c] ∧ okI k ∧ okI n ∧ s.size ≤ maxLen ∧ l.length ≤ c ∧ c ≤ maxLen ∧ (l = [] ∨ ∃ b, a = some ⟨b, 0, none⟩ ∧ lo ≤ b ∧ b < hi ∧ Soft W b ∧ IsAL (b + 1) hi W l b 0) := by
  unfold IsA at h; exact h
theorem IsA.mk {lo hi : Nat} {W : World} {k n : Int} {s : ByteArray} {l : List Tr} {a : Option Addr} {c : Nat} (h1 : okI k) (h2 : okI n) (h3 : s.size ≤ maxLen) (h4 : l.length ≤ c) (h5 : c ≤ maxLen) (h6 : l = [] ∨ ∃ b, a = some ⟨b, 0, none⟩ ∧ lo ≤ b ∧ b < hi ∧ Soft W b ∧ IsAL (b + 1) hi W l b 0) :
    IsA lo hi W (.node k n s l) (.agg #[.int .i64 k, .int .i64 n, .string s, .slice a l.length c]) := by
  unfold IsA; exact ⟨a, c, rfl, h1, h2, h3, h4, h5, h6⟩
theorem IsAL.le {hi : Nat} {W : World} : ∀ {l : List Tr} {lo b off : Nat}, IsAL lo hi W l b off → lo ≤ hi
  | [], _, _, _, h => by unfold IsAL at h; exact h
  | _ :: _, _, _, _, h => by
    unfold IsAL at h
    obtain ⟨_, _, _, _, mid, h1, _, _, h4⟩ := h
    exact Nat.le_trans h1 h4.le
mutual
theorem IsA.keep {A B : World} : ∀ (T : Tr) {lo hi lo' hi' : Nat} {v : Value}, lo' ≤ lo → hi ≤ hi' → (∀ b, lo ≤ b → b < hi → B.heap[b]? = A.heap[b]?) → IsA lo hi A T v → IsA lo' hi' B T v
  | .node k n s l, lo, hi, lo', hi', v, hl, hh, hb, h => by
    obtain ⟨a, c, rfl, h1, h2, h3, h4, h5, h6⟩ := h.open
    refine IsA.mk h1 h2 h3 h4 h5 (h6.imp id ?_)
    rintro ⟨b, e, g1, g2, gs, g3⟩
    exact ⟨b, e, by omega, by omega, gs.keep (hb b g1 g2), IsAL.keep l (Nat.le_refl _) hh (fun x h1 h2 => hb x (by omega) h2) (hb b g1 g2) g3⟩
theorem IsAL.keep {A B : World} : ∀ (l : List Tr) {lo hi lo' hi' b off : Nat}, lo' ≤ lo → hi ≤ hi' → (∀ b, lo ≤ b → b < hi → B.heap[b]? = A.heap[b]?) → B.heap[b]? = A.heap[b]? → IsAL lo hi A l b off → IsAL lo' hi' B l b off
  | [], lo, hi, lo', hi', b, off, hl, hh, _, _, h => by unfold IsAL at h ⊢; omega
  | t :: ts, lo, hi, lo', hi', b, off, hl, hh, hb, hbb, h => by
    unfold IsAL at h ⊢
    obtain ⟨v0, v1, v2, v3, mid, h1, ⟨c0, c1, c2, c3⟩, h3, h4⟩ := h
    have hle := h4.le
    exact ⟨v0, v1, v2, v3, mid, by omega, ⟨(World.cell?_of_block (a := ⟨b, off, none⟩) hbb).trans c0, (World.cell?_of_block (a := ⟨b, off + 1, none⟩) hbb).trans c1, (World.cell?_of_block (a := ⟨b, off + 2, none⟩) hbb).trans c2, (World.cell?_of_block (a := ⟨b, off + 3, none⟩) hbb).trans c3⟩,
      IsA.keep t hl (Nat.le_refl _) (fun x h5 h6 => hb x h5 (by omega)) h3, IsAL.keep ts (Nat.le_refl _) hh (fun x h5 h6 => hb x (by omega) h6) hbb h4⟩
end
mutual
theorem IsA.toP {A B : World} {q : Nat → Prop} : ∀ (T : Tr) {lo hi : Nat} {v : Value}, (∀ b, lo ≤ b → b < hi → q b ∧ B.heap[b]? = A.heap[b]?) → IsA lo hi A T v → IsP q B T v
  | .node k n s l, lo, hi, v, hb, h => by
    obtain ⟨a, c, rfl, h1, h2, h3, h4, h5, h6⟩ := h.open
    refine IsP.mk h1 h2 h3 h4 h5 ?_
    rcases h6 with rfl | ⟨b, rfl, g1, g2, -, g3⟩
    · exact IsPL.nil
    · exact IsAL.toP l (fun x h1 h2 => hb x (by omega) h2) (hb b g1 g2).1 (fun x _ _ => World.cell?_of_block (a := ⟨b, x, none⟩) (hb b g1 g2).2) g3
theorem IsAL.toP {A B : World} {q : Nat → Prop} : ∀ (l : List Tr) {lo hi b off : Nat}, (∀ b, lo ≤ b → b < hi → q b ∧ B.heap[b]? = A.heap[b]?) → q b → (∀ x, off ≤ x → x < off + l.length * 4 → B.cell? ⟨b, x, none⟩ = A.cell? ⟨b, x, none⟩) → IsAL lo hi A l b off → IsPL q B l (some ⟨b, off, none⟩)
  | [], lo, hi, b, off, _, _, _, _ => IsPL.nil
  | t :: ts, lo, hi, b, off, hb, hq, hc, h => by
    unfold IsAL at h
    unfold IsPL
    obtain ⟨v0, v1, v2, v3, mid, h1, ⟨c0, c1, c2, c3⟩, h3, h4⟩ := h
    have hle := h4.le
    simp only [List.length_cons] at hc
    exact ⟨b, off, v0, v1, v2, v3, rfl, hq, (hc off (by omega) (by omega)).trans c0, (hc (off + 1) (by omega) (by omega)).trans c1, (hc (off + 2) (by omega) (by omega)).trans c2, (hc (off + 3) (by omega) (by omega)).trans c3,
      IsA.toP t (fun x h5 h6 => hb x h5 (by omega)) h3, IsAL.toP ts (fun x h5 h6 => hb x (by omega) h6) hq (fun x h5 h6 => hc x (by omega) (by omega)) h4⟩
end

/-- The step of a place that is there. -/
theorem nodT_cons {i : Int} {p : List Int} {k n : Int} {s : ByteArray} {l : List Tr} (hs : (nodT (i :: p) (.node k n s l)).isSome = true) : ∃ hlt : i.toNat < l.length, (nodT p l[i.toNat]).isSome = true := by
  rw [nodT] at hs
  have hk : ∃ t, kidT (.node k n s l) i = some t := by
    cases h : kidT (.node k n s l) i with
    | none => rw [h] at hs; cases hs
    | some t => exact ⟨t, rfl⟩
  obtain ⟨t, ht⟩ := hk
  rw [ht] at hs
  have h0 : 0 ≤ i := by
    by_cases h : 0 ≤ i
    · exact h
    · rw [kidT_neg (by omega)] at ht; cases ht
  have hlt : i.toNat < l.length := by
    by_cases h : i.toNat < l.length
    · exact h
    · rw [kidT_over (t := .node k n s l) (by simp only [kidsT]; omega)] at ht; cases ht
  rw [kidT_some (t := .node k n s l) h0 hlt] at ht
  simp only [kidsT, Option.some.injEq] at ht
  subst ht
  exact ⟨hlt, hs⟩
/-- What a write of four cells at a place leaves as it was. -/
structure Wrote (A B : World) (b o : Nat) (u0 u1 u2 u3 : Value) : Prop where
  block : ∀ x, x ≠ b → B.heap[x]? = A.heap[x]?
  cell : ∀ x, x < o ∨ o + 4 ≤ x → B.cell? ⟨b, x, none⟩ = A.cell? ⟨b, x, none⟩
  four : Four B b o u0 u1 u2 u3
theorem Wrote.of {W : World} {B o : Nat} {v0 v1 v2 v3 : Value} (h : Four W B o v0 v1 v2 v3) (u0 u1 u2 u3 : Value) : Wrote W ((((W.setCell ⟨B, o, none⟩ u0).setCell ⟨B, o + 1, none⟩ u1).setCell ⟨B, o + 2, none⟩ u2).setCell ⟨B, o + 3, none⟩ u3) B o u0 u1 u2 u3 := by
  obtain ⟨h0, h1, h2, h3⟩ := h
  have hne : ∀ {i j : Nat}, i ≠ j → (⟨B, i, none⟩ : Addr) ≠ ⟨B, j, none⟩ := fun h e => h (congrArg Addr.off e)
  have a1 : ∀ u, (W.setCell ⟨B, o, none⟩ u).cell? ⟨B, o + 1, none⟩ = some v1 := fun u => (World.cell?_setCell_other _ _ _ _ (hne (by omega))).trans h1
  have a2 : ∀ u u', ((W.setCell ⟨B, o, none⟩ u).setCell ⟨B, o + 1, none⟩ u').cell? ⟨B, o + 2, none⟩ = some v2 := fun u u' => (World.cell?_setCell_other _ _ _ _ (hne (by omega))).trans ((World.cell?_setCell_other _ _ _ _ (hne (by omega))).trans h2)
  have a3 : ∀ u u' u'', (((W.setCell ⟨B, o, none⟩ u).setCell ⟨B, o + 1, none⟩ u').setCell ⟨B, o + 2, none⟩ u'').cell? ⟨B, o + 3, none⟩ = some v3 := fun u u' u'' => (World.cell?_setCell_other _ _ _ _ (hne (by omega))).trans ((World.cell?_setCell_other _ _ _ _ (hne (by omega))).trans ((World.cell?_setCell_other _ _ _ _ (hne (by omega))).trans h3))
  refine ⟨fun x hx => ?_, fun x hx => ?_, ?_, ?_, ?_, ?_⟩
  · rw [Below.heap_setCell _ _ _ _ (by simpa using hx), Below.heap_setCell _ _ _ _ (by simpa using hx), Below.heap_setCell _ _ _ _ (by simpa using hx), Below.heap_setCell _ _ _ _ (by simpa using hx)]
  · rw [World.cell?_setCell_other _ _ _ _ (hne (by omega)), World.cell?_setCell_other _ _ _ _ (hne (by omega)), World.cell?_setCell_other _ _ _ _ (hne (by omega)), World.cell?_setCell_other _ _ _ _ (hne (by omega))]
  · rw [World.cell?_setCell_other _ _ _ _ (hne (by omega)), World.cell?_setCell_other _ _ _ _ (hne (by omega)), World.cell?_setCell_other _ _ _ _ (hne (by omega))]
    exact World.cell?_setCell_same _ _ _ h0
  · rw [World.cell?_setCell_other _ _ _ _ (hne (by omega)), World.cell?_setCell_other _ _ _ _ (hne (by omega))]
    exact World.cell?_setCell_same _ _ _ (a1 _)
  · rw [World.cell?_setCell_other _ _ _ _ (hne (by omega))]
    exact World.cell?_setCell_same _ _ _ (a2 _ _)
  · exact World.cell?_setCell_same _ _ _ (a3 _ _ _)
theorem below_wrote {n : Nat} {A W : World} {B o : Nat} (h : Below n A W) (hn : n ≤ B) (u0 u1 u2 u3 : Value) : Below n A ((((W.setCell ⟨B, o, none⟩ u0).setCell ⟨B, o + 1, none⟩ u1).setCell ⟨B, o + 2, none⟩ u2).setCell ⟨B, o + 3, none⟩ u3) :=
  (((h.setCell (p := ⟨B, o, none⟩) hn u0).setCell (p := ⟨B, o + 1, none⟩) hn u1).setCell (p := ⟨B, o + 2, none⟩) hn u2).setCell (p := ⟨B, o + 3, none⟩) hn u3
/-- Where the write lies: at the tree's own cells, or within its range. -/
def Where (p : List Int) (B o lo hi B' o' : Nat) : Prop := (p = [] ∧ B' = B ∧ o' = o) ∨ (p ≠ [] ∧ lo ≤ B' ∧ B' < hi)
/-- What is known once a place has been written. -/
def PutAt (q : Nat → Prop) (A W : World) (X : Tr) (B' o' : Nat) (p : List Int) : Prop := ∀ (T : Tr) (B o lo hi : Nat) (v0 v1 v2 v3 : Value), Four A B o v0 v1 v2 v3 → IsA lo hi A T (.agg #[v0, v1, v2, v3]) → (B < lo ∨ hi ≤ B) → Leads A B o p B' o' → (nodT p T).isSome = true → (∀ b, lo ≤ b → b < hi → q b) →
  Where p B o lo hi B' o' ∧ ∃ w0 w1 w2 w3, Four W B o w0 w1 w2 w3 ∧ IsP q W (withT p T X) (.agg #[w0, w1, w2, w3])
theorem put_list {q : Nat → Prop} {A W : World} {X : Tr} {B' o' : Nat} {u0 u1 u2 u3 : Value} {p : List Int} (hw : Wrote A W B' o' u0 u1 u2 u3) (IH : PutAt q A W X B' o' p) :
    ∀ (l : List Tr) (i b off lo hi : Nat) (hi' : i < l.length), IsAL lo hi A l b off → b < lo → Leads A b (off + i * 4) p B' o' → (nodT p l[i]).isSome = true → (∀ x, lo ≤ x → x < hi → q x) → q b →
      Where p b (off + i * 4) lo hi B' o' ∧ IsPL q W (l.set i (withT p l[i] X)) (some ⟨b, off, none⟩)
  | [], i, _, _, _, _, h, _, _, _, _, _, _ => by simp at h
  | t :: ts, 0, b, off, lo, hi, _, h, hb, hL, hs, hq, hqb => by
    unfold IsAL at h
    obtain ⟨v0, v1, v2, v3, mid, h1, h2, h3, h4⟩ := h
    have hle := h4.le
    simp only [Nat.zero_mul, Nat.add_zero] at hL ⊢
    obtain ⟨hwh, w0, w1, w2, w3, ⟨d0, d1, d2, d3⟩, hP⟩ := IH t b off lo mid v0 v1 v2 v3 h2 h3 (.inl hb) hL hs (fun x g1 g2 => hq x g1 (by omega))
    refine ⟨hwh.imp id (fun g => ⟨g.1, g.2.1, by omega⟩), ?_⟩
    simp only [List.set_cons_zero, List.getElem_cons_zero]
    unfold IsPL
    refine ⟨b, off, w0, w1, w2, w3, rfl, hqb, d0, d1, d2, d3, hP, IsAL.toP ts (fun x g1 g2 => ⟨hq x (by omega) g2, hw.block x ?_⟩) hqb (fun x g1 g2 => ?_) h4⟩
    · rcases hwh with ⟨_, e, _⟩ | ⟨_, g3, g4⟩ <;> omega
    · rcases hwh with ⟨_, e, e2⟩ | ⟨_, g3, g4⟩
      · subst e; exact hw.cell x (by omega)
      · exact World.cell?_of_block (a := ⟨b, x, none⟩) (hw.block b (by omega))
  | t :: ts, i + 1, b, off, lo, hi, hi', h, hb, hL, hs, hq, hqb => by
    unfold IsAL at h
    obtain ⟨v0, v1, v2, v3, mid, h1, ⟨c0, c1, c2, c3⟩, h3, h4⟩ := h
    have hle := h4.le
    have e1 : off + (i + 1) * 4 = off + 4 + i * 4 := by omega
    rw [e1] at hL ⊢
    simp only [List.getElem_cons_succ] at hs
    obtain ⟨hwh, hP⟩ := put_list hw IH ts i b (off + 4) mid hi (by simpa using hi') h4 (by omega) hL hs (fun x g1 g2 => hq x (by omega) g2) hqb
    refine ⟨hwh.imp id (fun g => ⟨g.1, by omega, g.2.2⟩), ?_⟩
    simp only [List.set_cons_succ, List.getElem_cons_succ]
    unfold IsPL
    have hc : ∀ x, x < off + 4 → W.cell? ⟨b, x, none⟩ = A.cell? ⟨b, x, none⟩ := fun x hx => by
      rcases hwh with ⟨_, e, e2⟩ | ⟨_, g3, g4⟩
      · subst e; exact hw.cell x (by omega)
      · exact World.cell?_of_block (a := ⟨b, x, none⟩) (hw.block b (by omega))
    refine ⟨b, off, v0, v1, v2, v3, rfl, hqb, (hc _ (by omega)).trans c0, (hc _ (by omega)).trans c1, (hc _ (by omega)).trans c2, (hc _ (by omega)).trans c3, IsA.toP t (fun x g1 g2 => ⟨hq x g1 (by omega), hw.block x ?_⟩) h3, hP⟩
    rcases hwh with ⟨_, e, _⟩ | ⟨_, g3, g4⟩ <;> omega
theorem put_at {q : Nat → Prop} {A W : World} {X : Tr} {B' o' : Nat} {u0 u1 u2 u3 : Value} (hw : Wrote A W B' o' u0 u1 u2 u3) (hX : IsP q W X (.agg #[u0, u1, u2, u3])) : ∀ p : List Int, PutAt q A W X B' o' p
  | [], T, B, o, lo, hi, v0, v1, v2, v3, _, _, _, hL, _, _ => by
    obtain ⟨rfl, rfl⟩ := hL
    exact ⟨.inl ⟨rfl, rfl, rfl⟩, u0, u1, u2, u3, hw.four, by rw [withT]; exact hX⟩
  | i :: p, .node k n s l, B, o, lo, hi, v0, v1, v2, v3, h4, hA, hB, hL, hs, hq => by
    obtain ⟨a, c, e, g1, g2, g3, g4, g5, g6⟩ := hA.open
    simp only [Value.agg.injEq, Array.mk.injEq, List.cons.injEq, and_true] at e
    obtain ⟨rfl, rfl, rfl, rfl⟩ := e
    obtain ⟨hlt, hs⟩ := nodT_cons hs
    rcases g6 with rfl | ⟨b, rfl, g7, g8, -, g9⟩
    · simp at hlt
    obtain ⟨b2, off2, m2, c2, hc, hL2⟩ := hL
    rw [h4.2.2.2] at hc
    simp only [Option.some.injEq, Value.slice.injEq, Addr.mk.injEq, and_true] at hc
    obtain ⟨⟨rfl, rfl⟩, -, -⟩ := hc
    obtain ⟨hwh, hP⟩ := put_list hw (put_at hw hX p) l i.toNat b 0 (b + 1) hi hlt g9 (by omega) hL2 hs (fun x h1 h2 => hq x (by omega) h2) (hq b g7 g8)
    have hloc : lo ≤ B' ∧ B' < hi := by rcases hwh with ⟨_, e, _⟩ | ⟨_, g3, g4⟩ <;> omega
    have hk : ∀ x, W.cell? ⟨B, x, none⟩ = A.cell? ⟨B, x, none⟩ := fun x => World.cell?_of_block (a := ⟨B, x, none⟩) (hw.block B (by omega))
    refine ⟨.inr ⟨by simp, hloc⟩, _, _, _, _, ⟨(hk _).trans h4.1, (hk _).trans h4.2.1, (hk _).trans h4.2.2.1, (hk _).trans h4.2.2.2⟩, ?_⟩
    have e2 : l.getD i.toNat zeroTr = l[i.toNat] := by rw [List.getD, List.getElem?_eq_getElem hlt]; rfl
    have e3 : (l.set i.toNat (withT p l[i.toNat] X)).length = l.length := List.length_set
    rw [withT, e2, ← e3]
    exact IsP.mk g1 g2 g3 (by rw [e3]; exact g4) g5 hP

/-- What a place leads to can be written. -/
def SoftAt (A : World) (B' o' : Nat) (p : List Int) : Prop := ∀ (T : Tr) (B o lo hi : Nat) (v0 v1 v2 v3 : Value), Four A B o v0 v1 v2 v3 → IsA lo hi A T (.agg #[v0, v1, v2, v3]) → Soft A B → Leads A B o p B' o' → (nodT p T).isSome = true → Soft A B'
theorem soft_list {A : World} {B' o' : Nat} {p : List Int} (IH : SoftAt A B' o' p) :
    ∀ (l : List Tr) (i b off lo hi : Nat) (hi' : i < l.length), IsAL lo hi A l b off → Soft A b → Leads A b (off + i * 4) p B' o' → (nodT p l[i]).isSome = true → Soft A B'
  | [], i, _, _, _, _, h, _, _, _, _ => by simp at h
  | t :: ts, 0, b, off, lo, hi, _, h, hb, hL, hs => by
    unfold IsAL at h
    obtain ⟨v0, v1, v2, v3, mid, h1, h2, h3, h4⟩ := h
    simp only [Nat.zero_mul, Nat.add_zero] at hL
    exact IH t b off lo mid v0 v1 v2 v3 h2 h3 hb hL hs
  | t :: ts, i + 1, b, off, lo, hi, hi', h, hb, hL, hs => by
    unfold IsAL at h
    obtain ⟨v0, v1, v2, v3, mid, h1, _, h3, h4⟩ := h
    have e1 : off + (i + 1) * 4 = off + 4 + i * 4 := by omega
    rw [e1] at hL
    simp only [List.getElem_cons_succ] at hs
    exact soft_list IH ts i b (off + 4) mid hi (by simpa using hi') h4 hb hL hs
theorem soft_at {A : World} {B' o' : Nat} : ∀ p : List Int, SoftAt A B' o' p
  | [], T, B, o, lo, hi, v0, v1, v2, v3, _, _, hB, hL, _ => by
    obtain ⟨rfl, rfl⟩ := hL
    exact hB
  | i :: p, .node k n s l, B, o, lo, hi, v0, v1, v2, v3, h4, hA, hB, hL, hs => by
    obtain ⟨a, c, e, g1, g2, g3, g4, g5, g6⟩ := hA.open
    simp only [Value.agg.injEq, Array.mk.injEq, List.cons.injEq, and_true] at e
    obtain ⟨rfl, rfl, rfl, rfl⟩ := e
    obtain ⟨hlt, hs⟩ := nodT_cons hs
    rcases g6 with rfl | ⟨b, rfl, g7, g8, gs, g9⟩
    · simp at hlt
    obtain ⟨b2, off2, m2, c2, hc, hL2⟩ := hL
    rw [h4.2.2.2] at hc
    simp only [Option.some.injEq, Value.slice.injEq, Addr.mk.injEq, and_true] at hc
    obtain ⟨⟨rfl, rfl⟩, -, -⟩ := hc
    exact soft_list (soft_at p) l i.toNat b 0 (b + 1) hi hlt g9 gs hL2 hs

/-- The cells of a row of trees that lie apart, as far as they have been laid. -/
def LaidA (W : World) (cs : Array Value) : List Tr → Nat → Nat → Nat → Prop
  | [], _, lo, hi => lo ≤ hi
  | t :: ts, off, lo, hi => ∃ (v0 v1 v2 v3 : Value) (mid : Nat), lo ≤ mid ∧ cs[off]? = some v0 ∧ cs[off + 1]? = some v1 ∧ cs[off + 2]? = some v2 ∧ cs[off + 3]? = some v3 ∧ IsA lo mid W t (.agg #[v0, v1, v2, v3]) ∧ LaidA W cs ts (off + 4) mid hi
theorem LaidA.le {W : World} {cs : Array Value} : ∀ {l : List Tr} {off lo hi : Nat}, LaidA W cs l off lo hi → lo ≤ hi
  | [], _, _, _, h => h
  | _ :: _, _, _, _, ⟨_, _, _, _, _, h1, _, _, _, _, _, h⟩ => Nat.le_trans h1 h.le
theorem LaidA.keep {A B : World} {cs cs' : Array Value} : ∀ {l : List Tr} {off lo hi hi' : Nat}, LaidA A cs l off lo hi → hi ≤ hi' → (∀ b, lo ≤ b → b < hi → B.heap[b]? = A.heap[b]?) → (∀ x, x < off + l.length * 4 → cs'[x]? = cs[x]?) → LaidA B cs' l off lo hi'
  | [], _, _, _, _, h, hh, _, _ => Nat.le_trans h hh
  | t :: ts, off, lo, hi, hi', ⟨v0, v1, v2, v3, mid, h1, c0, c1, c2, c3, h2, h3⟩, hh, hb, hc => by
    have hle := h3.le
    simp only [List.length_cons] at hc
    exact ⟨v0, v1, v2, v3, mid, h1, (hc _ (by omega)).trans c0, (hc _ (by omega)).trans c1, (hc _ (by omega)).trans c2, (hc _ (by omega)).trans c3, IsA.keep t (Nat.le_refl _) (Nat.le_refl _) (fun x g1 g2 => hb x g1 (by omega)) h2,
      LaidA.keep h3 hh (fun x g1 g2 => hb x (by omega) g2) (fun x hx => hc x (by omega))⟩
theorem LaidA.snoc {W : World} {cs : Array Value} {t : Tr} {a0 a1 a2 a3 : Value} : ∀ {l : List Tr} {off lo hi hi' : Nat}, LaidA W cs l off lo hi → cs[off + l.length * 4]? = some a0 → cs[off + l.length * 4 + 1]? = some a1 → cs[off + l.length * 4 + 2]? = some a2 → cs[off + l.length * 4 + 3]? = some a3 →
    hi ≤ hi' → IsA hi hi' W t (.agg #[a0, a1, a2, a3]) → LaidA W cs (l ++ [t]) off lo hi'
  | [], off, lo, hi, hi', h, c0, c1, c2, c3, hh, ht => by
    simp only [List.length_nil, Nat.zero_mul, Nat.add_zero] at c0 c1 c2 c3
    have hlo : lo ≤ hi := h
    exact ⟨a0, a1, a2, a3, hi', by omega, c0, c1, c2, c3, IsA.keep t hlo (Nat.le_refl _) (fun _ _ _ => rfl) ht, Nat.le_refl _⟩
  | u :: us, off, lo, hi, hi', ⟨v0, v1, v2, v3, mid, h1, d0, d1, d2, d3, h2, h3⟩, c0, c1, c2, c3, hh, ht => by
    simp only [List.length_cons] at c0 c1 c2 c3
    have e : off + (us.length + 1) * 4 = off + 4 + us.length * 4 := by omega
    rw [e] at c0 c1 c2 c3
    exact ⟨v0, v1, v2, v3, mid, h1, d0, d1, d2, d3, h2, LaidA.snoc h3 c0 c1 c2 c3 hh ht⟩
theorem LaidA.done {W : World} {cs : Array Value} {B : Nat} (hB : Box W B cs 25) : ∀ {l : List Tr} {off lo hi : Nat}, LaidA W cs l off lo hi → IsAL lo hi W l B off
  | [], _, _, _, h => by unfold IsAL; exact h
  | t :: ts, off, lo, hi, ⟨v0, v1, v2, v3, mid, h1, d0, d1, d2, d3, h2, h3⟩ => by
    unfold IsAL
    exact ⟨v0, v1, v2, v3, mid, h1, ⟨(hB.cell _).trans d0, (hB.cell _).trans d1, (hB.cell _).trans d2, (hB.cell _).trans d3⟩, h2, LaidA.done hB h3⟩

set_option maxRecDepth 100000 in
set_option maxHeartbeats 1000000 in
theorem copyEachA_any (l : List Tr) (a : Option Addr) (c : Nat) (w : World) (hm : l.length ≤ 1000000) (hl : IsL w.heap.size w l a)
    (hM : ∀ t, t ∈ l → ∀ (v : Value) (W : World), Below w.heap.size w W → IsT W.heap.size W t v →
      Calls Tryd.prog 87 #[v] W fun e W' => ∃ v', e = .returned v' ∧ IsA W.heap.size W'.heap.size W' t v' ∧ Below W.heap.size W W') :
    Calls Tryd.prog 103 #[.slice a l.length c, .func (.func 87) #[] #[]] w
      fun e w' => ∃ a' c', e = .returned (.slice a' l.length c') ∧ l.length ≤ c' ∧ c' ≤ maxLen ∧ (l = [] ∨ ∃ b, a' = some ⟨b, 0, none⟩ ∧ w.heap.size ≤ b ∧ b < w'.heap.size ∧ Soft w' b ∧ IsAL (b + 1) w'.heap.size w' l b 0) ∧ Below w.heap.size w w' := by
  have HM := Lib.hid hM
  clear hM
  have he := enters_copy
  by_cases h0 : 0 < l.length
  · obtain ⟨b, off, rfl, hb⟩ := hl.addr h0
    have hmk := mk_terms l.length hm w
    have hne : (((l.length : Nat) : Int) == 0) = false := beq_eq_false_iff_ne.2 (by omega)
    go_enter Tryd.func103, Tryd.ntmps103
    go_wp2_with fail
    clear hmk
    go_loopw [16] (fun i wr => ∃ (k : Nat) (cs : Array Value), k ≤ l.length ∧ i = .int .i64 k ∧ Box wr w.heap.size cs 25 ∧ cs.size = l.length * 4 ∧ LaidA wr cs (l.take k) 0 (w.heap.size + 1) wr.heap.size ∧ Below w.heap.size w wr) (fun i _ => l.length - (intOf i).toNat)
    case atStart => exact ⟨0, _, Nat.zero_le _, rfl, Box.at rfl, size_madeCells _ _, by simp [LaidA], below_a1 (Nat.le_refl _) _⟩
    case round =>
      obtain ⟨k, cs, hk, rfl, hbox, hsz, hlaid, hB⟩ := hrel
      have Hlaid := Lib.hid hlaid
      have Hsz := Lib.hid hsz
      clear hlaid hsz
      by_cases hlt : k < l.length
      · obtain ⟨tk, tn, ts, tl, ta, tc, te, c0, c1, c2, c3, ht⟩ := (hl.below hB).node k hlt
        have Te := Lib.hid te
        clear te
        have hbw : b < wr.heap.size := by have := hB.size; omega
        have hk0 : k * 4 < cs.size := by rw [Hsz.out]; omega
        have hk1 : k * 4 + 1 < cs.size := by rw [Hsz.out]; omega
        have hk2 : k * 4 + 2 < cs.size := by rw [Hsz.out]; omega
        have hk3 : k * 4 + 3 < cs.size := by rw [Hsz.out]; omega
        go_wp2_with fail
        refine (HM.out _ (List.getElem_mem hlt) _ _ (hB.trans (below_a1 hB.size _)) (ht.up (below_a1 hB.size _) (size_a1 hB.size _))).mono ?_
        rintro e w1 ⟨v', rfl, hP, hB1⟩
        have hB2 := hB.trans ((below_a1 hB.size (.cells #[.int .i64 tk, .int .i64 tn, .string ts, .slice ta tl.length tc] 25)).trans (hB1.mono (size_a1 hB.size _)))
        have hbox1 := Box.keep hB1 (hbox.alloc _)
        have hs1 := hB1.size
        simp only [World.size_alloc] at hs1 hP
        have hP1 : IsA wr.heap.size w1.heap.size w1 l[k] v' := IsA.keep _ (by omega) (Nat.le_refl _) (fun _ _ _ => rfl) hP
        have hlaid1 : LaidA w1 cs (l.take k) 0 (w.heap.size + 1) wr.heap.size := Hlaid.out.keep (Nat.le_refl _) (fun x _ h2 => (hB1.block x (by simp; omega)).trans (Below.heap_alloc _ _ _ h2)) (fun _ _ => rfl)
        have Hlaid1 := Lib.hid hlaid1
        clear hP hlaid1 Hlaid hbox
        cases hF : l[k] with
        | node fk fn fs fl =>
        rw [hF] at hP1
        have hP2 := hP1
        obtain ⟨fa, fc, rfl, _⟩ := hP2.open
        have HF := Lib.hid hF
        clear hF hP2
        have r0 := (hbox1.cell (k * 4)).trans (Array.getElem?_eq_getElem hk0)
        have r1 := (hbox1.cell (k * 4 + 1)).trans (Array.getElem?_eq_getElem hk1)
        have r2 := (hbox1.cell (k * 4 + 2)).trans (Array.getElem?_eq_getElem hk2)
        have r3 := (hbox1.cell (k * 4 + 3)).trans (Array.getElem?_eq_getElem hk3)
        have f0 := hbox1.frozen (k * 4)
        have f1 := hbox1.frozen (k * 4 + 1)
        have f2 := hbox1.frozen (k * 4 + 2)
        have f3 := hbox1.frozen (k * 4 + 3)
        have HP1 := Lib.hid hP1
        clear hP1
        go_wp2_with fail
        clear r0 r1 r2 r3 f0 f1 f2 f3
        go_roundw
        case rel =>
          have hlen : (l.take k).length = k := by simp; omega
          refine ⟨k + 1, _, hlt, by go_num, (((hbox1.set (k * 4) _).set (k * 4 + 1) _).set (k * 4 + 2) _).set (k * 4 + 3) _, by simp [Hsz.out], ?_, (((hB2.setCell (p := ⟨w.heap.size, k * 4, none⟩) (Nat.le_refl _) _).setCell (p := ⟨w.heap.size, k * 4 + 1, none⟩) (Nat.le_refl _) _).setCell (p := ⟨w.heap.size, k * 4 + 2, none⟩) (Nat.le_refl _) _).setCell (p := ⟨w.heap.size, k * 4 + 3, none⟩) (Nat.le_refl _) _⟩
          rw [List.take_succ_eq_append_getElem hlt, HF.out]
          have hblk : ∀ x, w.heap.size + 1 ≤ x → ((((w1.setCell ⟨w.heap.size, k * 4, none⟩ (.int .i64 fk)).setCell ⟨w.heap.size, k * 4 + 1, none⟩ (.int .i64 fn)).setCell ⟨w.heap.size, k * 4 + 2, none⟩ (.string fs)).setCell ⟨w.heap.size, k * 4 + 3, none⟩ (.slice fa fl.length fc)).heap[x]? = w1.heap[x]? := fun x hx => by
            rw [Below.heap_setCell _ _ _ _ (by simp; omega), Below.heap_setCell _ _ _ _ (by simp; omega), Below.heap_setCell _ _ _ _ (by simp; omega), Below.heap_setCell _ _ _ _ (by simp; omega)]
          have hws := hB.size
          refine LaidA.snoc (Hlaid1.out.keep (Nat.le_refl _) (fun x h1 _ => hblk x h1) (fun x hx => ?_)) ?_ ?_ ?_ ?_ (by simp; omega) (IsA.keep _ (Nat.le_refl _) (by simp) (fun x h1 _ => hblk x (by have := hbox1.lt; have := Hlaid1.out.le; omega)) HP1.out)
          · rw [hlen] at hx
            rw [Array.getElem?_setIfInBounds_ne (by omega), Array.getElem?_setIfInBounds_ne (by omega), Array.getElem?_setIfInBounds_ne (by omega), Array.getElem?_setIfInBounds_ne (by omega)]
          · rw [hlen, Nat.zero_add, Array.getElem?_setIfInBounds_ne (by omega), Array.getElem?_setIfInBounds_ne (by omega), Array.getElem?_setIfInBounds_ne (by omega), Array.getElem?_setIfInBounds_self_of_lt (by omega)]
          · rw [hlen, Nat.zero_add, Array.getElem?_setIfInBounds_ne (by omega), Array.getElem?_setIfInBounds_ne (by omega), Array.getElem?_setIfInBounds_self_of_lt (by simp; omega)]
          · rw [hlen, Nat.zero_add, Array.getElem?_setIfInBounds_ne (by omega), Array.getElem?_setIfInBounds_self_of_lt (by simp; omega)]
          · rw [hlen, Nat.zero_add, Array.getElem?_setIfInBounds_self_of_lt (by simp; omega)]
        case measure => simp [intOf]; omega
      · have e : l.take k = l := List.take_of_length_le (by omega)
        have hlaid := Hlaid.out
        rw [e] at hlaid
        have hfin := LaidA.done hbox hlaid
        have Hfin := Lib.hid hfin
        have hlow := hbox.lt
        clear hfin hlaid e
        go_wp2_with fail
        go_ret
        exact ⟨_, _, rfl, Nat.le_refl _, by unfold maxLen; omega, .inr ⟨_, rfl, Nat.le_refl _, hlow, hbox.soft, Hfin.out⟩, hB⟩
  · have e1 : l = [] := List.length_eq_zero_iff.1 (by omega)
    subst e1
    clear h0 HM
    simp only [List.length_nil]
    go_enter Tryd.func103, Tryd.ntmps103
    go_wp2_with fail
    go_ret
    exact ⟨none, 0, rfl, Nat.le_refl _, by unfold maxLen; omega, by simp, Below.refl _ _⟩

set_option maxRecDepth 100000 in
set_option maxHeartbeats 1000000 in
theorem copyTermA_any (T : Tr) : ∀ (v : Value) (w : World), IsT w.heap.size w T v → T.size ≤ 1000000 →
    Calls Tryd.prog 87 #[v] w fun e w' => ∃ v', e = .returned v' ∧ IsA w.heap.size w'.heap.size w' T v' ∧ Below w.heap.size w w' := by
  induction T using Tr.ind with
  | h k n s l ih =>
    intro v w hT hsz
    obtain ⟨a, c, rfl, h1, h2, h3, h4, h5, hl⟩ := hT.open
    simp only [Tr.size] at hsz
    have hlen := length_le_sizeL l
    have HI := Lib.hid ih
    have H := Lib.hid (And.intro h1 (And.intro h2 h3))
    clear ih hT h1 h2 h3
    go_enter Tryd.func87, Tryd.ntmps87
    go_wp2_with fail
    have hb1 : Box ((w.alloc (.cells #[.int .i64 k, .int .i64 n, .string s, .slice a l.length c] 25)).alloc (.cells #[.int .i64 0, .int .i64 0, .string ⟨#[]⟩, .slice none 0 0] 25)) w.heap.size #[.int .i64 k, .int .i64 n, .string s, .slice a l.length c] 25 := (Box.at rfl).alloc _
    have hb2 : Box ((w.alloc (.cells #[.int .i64 k, .int .i64 n, .string s, .slice a l.length c] 25)).alloc (.cells #[.int .i64 0, .int .i64 0, .string ⟨#[]⟩, .slice none 0 0] 25)) (w.heap.size + 1) #[.int .i64 0, .int .i64 0, .string ⟨#[]⟩, .slice none 0 0] 25 := Box.at (by simp)
    have hB0 := below_a2 (Nat.le_refl w.heap.size) (.cells #[.int .i64 k, .int .i64 n, .string s, .slice a l.length c] 25) (.cells #[.int .i64 0, .int .i64 0, .string ⟨#[]⟩, .slice none 0 0] 25)
    refine (copyEachA_any l a c _ (by omega) (hl.up hB0 hB0.size) (fun t ht v W hW hv => HI.out t ht v W hv (by have := size_mem ht; omega))).mono ?_
    rintro e w1 ⟨a', c', rfl, h6, h7, hP, hB1⟩
    have hb1' := Box.keep hB1 hb1
    have hb2' := Box.keep hB1 hb2
    have hB2 := hB0.trans (hB1.mono hB0.size)
    have hsz1 := hB1.size
    simp only [World.size_alloc] at hsz1
    have HP := Lib.hid hP
    clear hP hb1 hb2 hB0 hB1
    have r0 := hb1'.cell 0
    have r1 := hb1'.cell 1
    have r2 := hb1'.cell 2
    have r3 := hb1'.cell 3
    have f3 := hb1'.frozen 3
    have u0 := hb2'.cell 0
    have u1 := hb2'.cell 1
    have u2 := hb2'.cell 2
    have u3 := hb2'.cell 3
    have g0 := hb2'.frozen 0
    have g1 := hb2'.frozen 1
    have g2 := hb2'.frozen 2
    have g3 := hb2'.frozen 3
    simp only [List.getElem?_toArray, List.getElem?_cons_succ, List.getElem?_cons_zero] at r0 r1 r2 r3 u0 u1 u2 u3
    go_wp2_with fail
    have z := ((((hb2'.other (B' := w.heap.size) (by omega) 3 (.slice a' l.length c')).set 0 (.int .i64 k)).set 1 (.int .i64 n)).set 2 (.string s)).set 3 (.slice a' l.length c')
    have zB := ((((hB2.setCell (p := ⟨w.heap.size, 3, none⟩) (Nat.le_refl _) (.slice a' l.length c')).setCell (p := ⟨w.heap.size + 1, 0, none⟩) (by simp) (.int .i64 k)).setCell (p := ⟨w.heap.size + 1, 1, none⟩) (by simp) (.int .i64 n)).setCell (p := ⟨w.heap.size + 1, 2, none⟩) (by simp) (.string s)).setCell (p := ⟨w.heap.size + 1, 3, none⟩) (by simp) (.slice a' l.length c')
    have y0 := z.cell 0
    have y1 := z.cell 1
    have y2 := z.cell 2
    have y3 := z.cell 3
    have hblk : ∀ x, w.heap.size + 2 ≤ x → (((((w1.setCell ⟨w.heap.size, 3, none⟩ (.slice a' l.length c')).setCell ⟨w.heap.size + 1, 0, none⟩ (.int .i64 k)).setCell ⟨w.heap.size + 1, 1, none⟩ (.int .i64 n)).setCell ⟨w.heap.size + 1, 2, none⟩ (.string s)).setCell ⟨w.heap.size + 1, 3, none⟩ (.slice a' l.length c')).heap[x]? = w1.heap[x]? := fun x hx => by
      rw [Below.heap_setCell _ _ _ _ (by simp; omega), Below.heap_setCell _ _ _ _ (by simp; omega), Below.heap_setCell _ _ _ _ (by simp; omega), Below.heap_setCell _ _ _ _ (by simp; omega), Below.heap_setCell _ _ _ _ (by simp; omega)]
    have hsF : (((((w1.setCell ⟨w.heap.size, 3, none⟩ (.slice a' l.length c')).setCell ⟨w.heap.size + 1, 0, none⟩ (.int .i64 k)).setCell ⟨w.heap.size + 1, 1, none⟩ (.int .i64 n)).setCell ⟨w.heap.size + 1, 2, none⟩ (.string s)).setCell ⟨w.heap.size + 1, 3, none⟩ (.slice a' l.length c')).heap.size = w1.heap.size := by simp
    clear z r0 r1 r2 r3 f3 u0 u1 u2 u3 g0 g1 g2 g3 hb1' hb2'
    generalize ((((w1.setCell ⟨w.heap.size, 3, none⟩ (.slice a' l.length c')).setCell ⟨w.heap.size + 1, 0, none⟩ (.int .i64 k)).setCell ⟨w.heap.size + 1, 1, none⟩ (.int .i64 n)).setCell ⟨w.heap.size + 1, 2, none⟩ (.string s)).setCell ⟨w.heap.size + 1, 3, none⟩ (.slice a' l.length c') = FW at *
    simp at y0 y1 y2 y3
    refine bodyPost_ret (v := .agg #[.int .i64 k, .int .i64 n, .string s, .slice a' l.length c']) (by simp [results, Tryd.results87, go_sem, y0, y1, y2, y3]) rfl ⟨_, rfl, IsA.mk H.out.1 H.out.2.1 H.out.2.2 h6 h7 (HP.out.imp id ?_), zB⟩
    rintro ⟨b, rfl, q1, q2, qs, q3⟩
    simp only [World.size_alloc] at q1
    exact ⟨b, rfl, by omega, by omega, qs.keep (hblk b (by omega)), IsAL.keep l (Nat.le_refl _) (by omega) (fun x g1 _ => hblk x (by omega)) (hblk b (by omega)) q3⟩
end Go.Proofs.YtdigiaigbcfccaaDoor

/- Put. -/
namespace Go.Proofs.YtdigiaigbcfccaaDoor
open Go.RowKit Go

theorem IsA.form {lo hi : Nat} {W : World} {T : Tr} {v : Value} (h : IsA lo hi W T v) : ∃ k n s a m c, v = .agg #[.int .i64 k, .int .i64 n, .string s, .slice a m c] := by
  cases T with
  | node k n s l => obtain ⟨a, c, rfl, _⟩ := h.open; exact ⟨_, _, _, _, _, _, rfl⟩
/-- A tree and an error are handed back; the tree lies in what is new. -/
def TqPost (X : Tr) (x : Int) (w : World) (e : Ending) (w' : World) : Prop := ∃ k n s a m c, e = .returned (.tuple #[.agg #[.int .i64 k, .int .i64 n, .string s, .slice a m c], .int .i64 x]) ∧ IsP (New w.heap.size w') w' X (.agg #[.int .i64 k, .int .i64 n, .string s, .slice a m c]) ∧ Below w.heap.size w w'
theorem TqPost.mk {X : Tr} {x : Int} {w w' : World} {k n : Int} {s : ByteArray} {a : Option Addr} {m c : Nat} {X' : Tr} {x' : Int} (hX : X = X') (hx : x = x') (h : IsP (New w.heap.size w') w' X' (.agg #[.int .i64 k, .int .i64 n, .string s, .slice a m c])) (hB : Below w.heap.size w w') : TqPost X x w (.returned (.tuple #[.agg #[.int .i64 k, .int .i64 n, .string s, .slice a m c], .int .i64 x'])) w' := by
  subst hX hx
  exact ⟨k, n, s, a, m, c, rfl, h, hB⟩
set_option maxRecDepth 100000 in
set_option maxHeartbeats 4000000 in
theorem Put_any (X Y : Tr) (p : List Int) (v u up : Value) (w : World) (hx : IsT w.heap.size w X v) (hy : IsT w.heap.size w Y u) (hp : RdN w.heap.size w p up) (hsx : X.size ≤ 1000000) (hdx : X.deep ≤ 1000000) (hsy : Y.size ≤ 1000000) (hdy : Y.deep ≤ 1000000) :
    Calls Tryd.prog 32 #[v, up, u] w (TqPost (putV p X Y) (putE p X Y) w) := by
  obtain ⟨kx, nx, sx, ax, mx, cx, rfl⟩ := (IsT.toP _ _ hx).form
  obtain ⟨ky, ny, sy, ay, my, cy, rfl⟩ := (IsT.toP _ _ hy).form
  have bbx : Box ((((w.alloc (.cells #[.int .i64 kx, .int .i64 nx, .string sx, .slice ax mx cx] 25)).alloc (.cells #[.int .i64 ky, .int .i64 ny, .string sy, .slice ay my cy] 25)).alloc (.cells #[.int .i64 0, .int .i64 0, .string ⟨#[]⟩, .slice none 0 0] 25)).alloc (.cells #[.int .i64 kx, .int .i64 nx, .string sx, .slice ax mx cx, .int .i64 ky, .int .i64 ny, .string sy, .slice ay my cy] 25)) w.heap.size #[.int .i64 kx, .int .i64 nx, .string sx, .slice ax mx cx] 25 := (((Box.at rfl).alloc _).alloc _).alloc _
  have bby : Box ((((w.alloc (.cells #[.int .i64 kx, .int .i64 nx, .string sx, .slice ax mx cx] 25)).alloc (.cells #[.int .i64 ky, .int .i64 ny, .string sy, .slice ay my cy] 25)).alloc (.cells #[.int .i64 0, .int .i64 0, .string ⟨#[]⟩, .slice none 0 0] 25)).alloc (.cells #[.int .i64 kx, .int .i64 nx, .string sx, .slice ax mx cx, .int .i64 ky, .int .i64 ny, .string sy, .slice ay my cy] 25)) (w.heap.size + 1) #[.int .i64 ky, .int .i64 ny, .string sy, .slice ay my cy] 25 := ((Box.at (by simp)).alloc _).alloc _
  have bbz : Box ((((w.alloc (.cells #[.int .i64 kx, .int .i64 nx, .string sx, .slice ax mx cx] 25)).alloc (.cells #[.int .i64 ky, .int .i64 ny, .string sy, .slice ay my cy] 25)).alloc (.cells #[.int .i64 0, .int .i64 0, .string ⟨#[]⟩, .slice none 0 0] 25)).alloc (.cells #[.int .i64 kx, .int .i64 nx, .string sx, .slice ax mx cx, .int .i64 ky, .int .i64 ny, .string sy, .slice ay my cy] 25)) (w.heap.size + 1 + 1) #[.int .i64 0, .int .i64 0, .string ⟨#[]⟩, .slice none 0 0] 25 := (Box.at (by simp)).alloc _
  have bbs : Box ((((w.alloc (.cells #[.int .i64 kx, .int .i64 nx, .string sx, .slice ax mx cx] 25)).alloc (.cells #[.int .i64 ky, .int .i64 ny, .string sy, .slice ay my cy] 25)).alloc (.cells #[.int .i64 0, .int .i64 0, .string ⟨#[]⟩, .slice none 0 0] 25)).alloc (.cells #[.int .i64 kx, .int .i64 nx, .string sx, .slice ax mx cx, .int .i64 ky, .int .i64 ny, .string sy, .slice ay my cy] 25)) (w.heap.size + 1 + 1 + 1) #[.int .i64 kx, .int .i64 nx, .string sx, .slice ax mx cx, .int .i64 ky, .int .i64 ny, .string sy, .slice ay my cy] 25 := Box.at (by simp)
  have hb := below_a4 (Nat.le_refl w.heap.size) (.cells #[.int .i64 kx, .int .i64 nx, .string sx, .slice ax mx cx] 25) (.cells #[.int .i64 ky, .int .i64 ny, .string sy, .slice ay my cy] 25) (.cells #[.int .i64 0, .int .i64 0, .string ⟨#[]⟩, .slice none 0 0] 25) (.cells #[.int .i64 kx, .int .i64 nx, .string sx, .slice ax mx cx, .int .i64 ky, .int .i64 ny, .string sy, .slice ay my cy] 25)
  replace hx := hx.up hb hb.size
  replace hy := hy.up hb hb.size
  replace hp := hp.up hb hb.size
  have hck := checkEach_any [X, Y] (some ⟨w.heap.size + 1 + 1 + 1, 0, none⟩) 2 ((((w.alloc (.cells #[.int .i64 kx, .int .i64 nx, .string sx, .slice ax mx cx] 25)).alloc (.cells #[.int .i64 ky, .int .i64 ny, .string sy, .slice ay my cy] 25)).alloc (.cells #[.int .i64 0, .int .i64 0, .string ⟨#[]⟩, .slice none 0 0] 25)).alloc (.cells #[.int .i64 kx, .int .i64 nx, .string sx, .slice ax mx cx, .int .i64 ky, .int .i64 ny, .string sy, .slice ay my cy] 25)) (by unfold maxLen; simp) (IsL.cons (by simp) (bbs.cell 0) (bbs.cell 1) (bbs.cell 2) (bbs.cell 3) hx (IsL.cons (by simp) (bbs.cell 4) (bbs.cell 5) (bbs.cell 6) (bbs.cell 7) hy IsL.nil)) (by intro t ht; simp at ht; rcases ht with rfl | rfl <;> omega)
  rw [show [X, Y].all isB = (isB X && isB Y) by simp] at hck
  have HCK := Lib.hid hck
  clear hck bbs
  go_enter Tryd.func32, Tryd.ntmps32
  go_wp2_with fail
  refine (HCK.out).mono ?_
  rintro e W1 ⟨rfl, B⟩
  replace bbx := Box.keep B bbx
  replace bby := Box.keep B bby
  replace bbz := Box.keep B bbz
  replace hx := hx.up B B.size
  replace hy := hy.up B B.size
  replace hp := hp.up B B.size
  replace hb := hb.trans (B.mono hb.size)
  clear B
  clear HCK
  cases hf : (isB X && isB Y) with
  | false =>
    have HV : Hid (putV p X Y = zeroTr ∧ putE p X Y = 3) := put_no hf
    clear hf
    rw [show errI false = 3 from rfl]
    have u0 := bbz.cell 0
    have u1 := bbz.cell 1
    have u2 := bbz.cell 2
    have u3 := bbz.cell 3
    have g0 := bbz.frozen 0
    have g1 := bbz.frozen 1
    have g2 := bbz.frozen 2
    have g3 := bbz.frozen 3
    have lz := bbz.lt
    simp only [List.getElem?_toArray, List.getElem?_cons_succ, List.getElem?_cons_zero] at u0 u1 u2 u3
    have z := bbz.four (.int .i64 0) (.int .i64 0) (.string ⟨#[]⟩) (.slice none 0 0)
    have zB := below_four hb (B := w.heap.size + 1 + 1) (by omega) (.int .i64 0) (.int .i64 0) (.string ⟨#[]⟩) (.slice none 0 0)
    have zT : IsP (New w.heap.size ((((W1.setCell ⟨w.heap.size + 1 + 1, 0, none⟩ (.int .i64 0)).setCell ⟨w.heap.size + 1 + 1, 1, none⟩ (.int .i64 0)).setCell ⟨w.heap.size + 1 + 1, 2, none⟩ (.string ⟨#[]⟩)).setCell ⟨w.heap.size + 1 + 1, 3, none⟩ (.slice none 0 0))) ((((W1.setCell ⟨w.heap.size + 1 + 1, 0, none⟩ (.int .i64 0)).setCell ⟨w.heap.size + 1 + 1, 1, none⟩ (.int .i64 0)).setCell ⟨w.heap.size + 1 + 1, 2, none⟩ (.string ⟨#[]⟩)).setCell ⟨w.heap.size + 1 + 1, 3, none⟩ (.slice none 0 0)) zeroTr (.agg #[.int .i64 0, .int .i64 0, .string ⟨#[]⟩, .slice none 0 0]) := zero_isP _ _
    have HZ := Lib.hid (And.intro zB zT)
    have y0 := z.cell 0
    have y1 := z.cell 1
    have y2 := z.cell 2
    have y3 := z.cell 3
    clear z zB zT
    go_wp2_with fail
    clear u0 u1 u2 u3 g0 g1 g2 g3
    generalize ((((W1.setCell ⟨w.heap.size + 1 + 1, 0, none⟩ (.int .i64 0)).setCell ⟨w.heap.size + 1 + 1, 1, none⟩ (.int .i64 0)).setCell ⟨w.heap.size + 1 + 1, 2, none⟩ (.string ⟨#[]⟩)).setCell ⟨w.heap.size + 1 + 1, 3, none⟩ (.slice none 0 0)) = FW at *
    simp at y0 y1 y2 y3
    exact bodyPost_ret (v := .tuple #[.agg #[.int .i64 0, .int .i64 0, .string ⟨#[]⟩, .slice none 0 0], .int .i64 3]) (by simp [results, Tryd.results32, go_sem, y0, y1, y2, y3]) rfl (TqPost.mk HV.out.1 HV.out.2 HZ.out.2 HZ.out.1)
  | true =>
    rw [show errI true = 0 from rfl]
    have HXY := Lib.hid hf
    clear hf
    have HB1 : Hid (BelowP W1 W1) := Below.refl _ _
    have hlz0 := bbz.lt
    have hlw0 := hb.size
    have hcp := copyTermA_any X _ _ hx hsx
    have HCP := Lib.hid hcp
    clear hcp hx
    have qx0 := bbx.cell 0
    have qx1 := bbx.cell 1
    have qx2 := bbx.cell 2
    have qx3 := bbx.cell 3
    have lx := bbx.lt
    simp only [List.getElem?_toArray, List.getElem?_cons_succ, List.getElem?_cons_zero] at qx0 qx1 qx2 qx3
    go_wp2_with fail
    clear qx0 qx1 qx2 qx3 lx
    refine (HCP.out).mono ?_
    rintro e W2 ⟨ov, rfl, hA, B⟩
    replace bbx := Box.keep B bbx
    replace bby := Box.keep B bby
    replace bbz := Box.keep B bbz
    replace hy := hy.up B B.size
    replace hp := hp.up B B.size
    replace HB1 := Lib.hid (HB1.out.thenP B)
    replace hb := hb.trans (B.mono hb.size)
    clear B
    clear HCP
    obtain ⟨ok, on, os, oa, om, oc, rfl⟩ := hA.form
    have HLE : Hid (W1.heap.size ≤ W2.heap.size) := Below.size HB1.out
    have hA2 : IsA W1.heap.size W2.heap.size (W2.alloc (.cells #[.int .i64 ok, .int .i64 on, .string os, .slice oa om oc] 25)) X (.agg #[.int .i64 ok, .int .i64 on, .string os, .slice oa om oc]) := IsA.keep X (Nat.le_refl _) (Nat.le_refl _) (fun b _ h => Below.heap_alloc _ _ _ h) hA
    have HA := Lib.hid hA2
    clear hA hA2
    go_wp2_with fail
    have bbo : Box (W2.alloc (.cells #[.int .i64 ok, .int .i64 on, .string os, .slice oa om oc] 25)) W2.heap.size #[.int .i64 ok, .int .i64 on, .string os, .slice oa om oc] 25 := Box.at rfl
    have B := below_a1 (Nat.le_refl W2.heap.size) (.cells #[.int .i64 ok, .int .i64 on, .string os, .slice oa om oc] 25)
    replace bbx := Box.keep B bbx
    replace bby := Box.keep B bby
    replace bbz := Box.keep B bbz
    replace hy := hy.up B B.size
    replace hp := hp.up B B.size
    replace HB1 := Lib.hid (HB1.out.thenP B)
    replace hb := hb.trans (B.mono hb.size)
    clear B
    generalize (W2.alloc (.cells #[.int .i64 ok, .int .i64 on, .string os, .slice oa om oc] 25)) = V3 at *
    have hlo := bbo.lt
    have hso : IsT V3.heap.size V3 X (.agg #[.int .i64 ok, .int .i64 on, .string os, .slice oa om oc]) := IsP.toT (fun _ h => h) _ _ (IsA.toP X (q := fun b => b < V3.heap.size) (fun b _ h => ⟨by omega, rfl⟩) HA.out)
    have HB3 : Hid (BelowP V3 V3) := Below.refl _ _
    have hnd := nodeAt_any V3.heap.size X p W2.heap.size 0 _ _ _ _ _ _ (Nat.le_refl _) bbo.lt ⟨bbo.cell 0, bbo.cell 1, bbo.cell 2, bbo.cell 3⟩ hso hp
    have HND := Lib.hid hnd
    clear hnd hso
    refine (HND.out).mono ?_
    rintro e W4 ⟨B, hmm⟩
    replace bbx := Box.keep B bbx
    replace bby := Box.keep B bby
    replace bbz := Box.keep B bbz
    replace bbo := Box.keep B bbo
    replace hy := hy.up B B.size
    replace hp := hp.up B B.size
    replace HB1 := Lib.hid (HB1.out.thenP B)
    replace HB3 := Lib.hid (HB3.out.thenP B)
    replace hb := hb.trans (B.mono hb.size)
    clear B
    clear HND
    cases hn : nodT p X with
    | none =>
      have HV : Hid (putV p X Y = zeroTr ∧ putE p X Y = 10) := put_none HXY.out hn
      rw [hn] at hmm
      dsimp only at hmm
      subst hmm
      clear hn
      have u0 := bbz.cell 0
      have u1 := bbz.cell 1
      have u2 := bbz.cell 2
      have u3 := bbz.cell 3
      have g0 := bbz.frozen 0
      have g1 := bbz.frozen 1
      have g2 := bbz.frozen 2
      have g3 := bbz.frozen 3
      have lz := bbz.lt
      simp only [List.getElem?_toArray, List.getElem?_cons_succ, List.getElem?_cons_zero] at u0 u1 u2 u3
      have z := bbz.four (.int .i64 0) (.int .i64 0) (.string ⟨#[]⟩) (.slice none 0 0)
      have zB := below_four hb (B := w.heap.size + 1 + 1) (by omega) (.int .i64 0) (.int .i64 0) (.string ⟨#[]⟩) (.slice none 0 0)
      have zT : IsP (New w.heap.size ((((W4.setCell ⟨w.heap.size + 1 + 1, 0, none⟩ (.int .i64 0)).setCell ⟨w.heap.size + 1 + 1, 1, none⟩ (.int .i64 0)).setCell ⟨w.heap.size + 1 + 1, 2, none⟩ (.string ⟨#[]⟩)).setCell ⟨w.heap.size + 1 + 1, 3, none⟩ (.slice none 0 0))) ((((W4.setCell ⟨w.heap.size + 1 + 1, 0, none⟩ (.int .i64 0)).setCell ⟨w.heap.size + 1 + 1, 1, none⟩ (.int .i64 0)).setCell ⟨w.heap.size + 1 + 1, 2, none⟩ (.string ⟨#[]⟩)).setCell ⟨w.heap.size + 1 + 1, 3, none⟩ (.slice none 0 0)) zeroTr (.agg #[.int .i64 0, .int .i64 0, .string ⟨#[]⟩, .slice none 0 0]) := zero_isP _ _
      have HZ := Lib.hid (And.intro zB zT)
      have y0 := z.cell 0
      have y1 := z.cell 1
      have y2 := z.cell 2
      have y3 := z.cell 3
      clear z zB zT
      go_wp2_with fail
      clear u0 u1 u2 u3 g0 g1 g2 g3
      generalize ((((W4.setCell ⟨w.heap.size + 1 + 1, 0, none⟩ (.int .i64 0)).setCell ⟨w.heap.size + 1 + 1, 1, none⟩ (.int .i64 0)).setCell ⟨w.heap.size + 1 + 1, 2, none⟩ (.string ⟨#[]⟩)).setCell ⟨w.heap.size + 1 + 1, 3, none⟩ (.slice none 0 0)) = FW at *
      simp at y0 y1 y2 y3
      exact bodyPost_ret (v := .tuple #[.agg #[.int .i64 0, .int .i64 0, .string ⟨#[]⟩, .slice none 0 0], .int .i64 10]) (by simp [results, Tryd.results32, go_sem, y0, y1, y2, y3]) rfl (TqPost.mk HV.out.1 HV.out.2 HZ.out.2 HZ.out.1)
    | some N =>
      have HN : Hid ((nodT p X).isSome = true) := by rw [Hid, hn]; rfl
      rw [hn] at hmm
      dsimp only at hmm
      clear hn
      obtain ⟨B1, o1, jk, jn, js, ja, jm, jc, rfl, hB1, h4, -, hL⟩ := hmm
      have H4 := Lib.hid (And.intro h4 hL)
      clear h4 hL
      have HB4 : Hid (BelowP W4 W4) := Below.refl _ _
      have hl14 : B1 < W4.heap.size := Nat.lt_of_lt_of_le hB1 (Below.size HB3.out)
      have hs34 := Below.size HB3.out
      have hcp := copyTerm_any Y _ _ hy hsy
      have HCP := Lib.hid hcp
      clear hcp hy
      have qy0 := bby.cell 0
      have qy1 := bby.cell 1
      have qy2 := bby.cell 2
      have qy3 := bby.cell 3
      have ly := bby.lt
      simp only [List.getElem?_toArray, List.getElem?_cons_succ, List.getElem?_cons_zero] at qy0 qy1 qy2 qy3
      go_wp2_with fail
      clear qy0 qy1 qy2 qy3 ly
      refine (HCP.out).mono ?_
      rintro e W5 ⟨yv, rfl, hP, B⟩
      replace bbx := Box.keep B bbx
      replace bby := Box.keep B bby
      replace bbz := Box.keep B bbz
      replace bbo := Box.keep B bbo
      replace hp := hp.up B B.size
      replace HB1 := Lib.hid (HB1.out.thenP B)
      replace HB3 := Lib.hid (HB3.out.thenP B)
      replace HB4 := Lib.hid (HB4.out.thenP B)
      replace hb := hb.trans (B.mono hb.size)
      clear B
      clear HCP
      obtain ⟨yk, yn, ys, ya, ym, yc, rfl⟩ := hP.form
      have h5 := H4.out.1.keep HB4.out hl14
      have hL5 := H4.out.2.keep HB4.out
      have hA5 : IsA W1.heap.size W2.heap.size W5 X (.agg #[.int .i64 ok, .int .i64 on, .string os, .slice oa om oc]) := IsA.keep X (Nat.le_refl _) (Nat.le_refl _) (fun b _ h => Below.block HB3.out b (by omega)) HA.out
      have hsf := soft_at p X W2.heap.size 0 _ _ _ _ _ _ ⟨bbo.cell 0, bbo.cell 1, bbo.cell 2, bbo.cell 3⟩ hA5 bbo.soft hL5 HN.out
      have hw := Wrote.of h5 (.int .i64 yk) (.int .i64 yn) (.string ys) (.slice ya ym yc)
      have hs15 := Below.size HB1.out
      have hs45 := Below.size HB4.out
      have hs35 := Below.size HB3.out
      have hsF : ((((W5.setCell ⟨B1, o1, none⟩ (.int .i64 yk)).setCell ⟨B1, o1 + 1, none⟩ (.int .i64 yn)).setCell ⟨B1, o1 + 2, none⟩ (.string ys)).setCell ⟨B1, o1 + 3, none⟩ (.slice ya ym yc)).heap.size = W5.heap.size := by simp
      have hlt12 := HLE.out
      have hpu := put_at (q := New W1.heap.size ((((W5.setCell ⟨B1, o1, none⟩ (.int .i64 yk)).setCell ⟨B1, o1 + 1, none⟩ (.int .i64 yn)).setCell ⟨B1, o1 + 2, none⟩ (.string ys)).setCell ⟨B1, o1 + 3, none⟩ (.slice ya ym yc))) hw (IsP.map (fun b hb => ⟨⟨by have := hb.1; omega, by rw [hsF]; exact hb.2⟩, hw.block b (by have := hb.1; omega)⟩) _ _ hP) p X W2.heap.size 0 _ _ _ _ _ _ ⟨bbo.cell 0, bbo.cell 1, bbo.cell 2, bbo.cell 3⟩ hA5 (.inr (Nat.le_refl _)) hL5 HN.out (fun b g1 g2 => ⟨g1, by rw [hsF]; omega⟩)
      obtain ⟨hwh, w0, w1, w2, w3, h6, hPF⟩ := hpu
      obtain ⟨rk, rn, rs, ra, rm, rc, e6⟩ := hPF.form
      simp only [Value.agg.injEq, Array.mk.injEq, List.cons.injEq, and_true] at e6
      obtain ⟨rfl, rfl, rfl, rfl⟩ := e6
      have hB1w : W1.heap.size ≤ B1 := by rcases hwh with ⟨_, e, _⟩ | ⟨_, e, _⟩ <;> omega
      have hbF : Below w.heap.size w ((((W5.setCell ⟨B1, o1, none⟩ (.int .i64 yk)).setCell ⟨B1, o1 + 1, none⟩ (.int .i64 yn)).setCell ⟨B1, o1 + 2, none⟩ (.string ys)).setCell ⟨B1, o1 + 3, none⟩ (.slice ya ym yc)) := below_wrote hb (by omega) (.int .i64 yk) (.int .i64 yn) (.string ys) (.slice ya ym yc)
      have bbz2 : Box ((((W5.setCell ⟨B1, o1, none⟩ (.int .i64 yk)).setCell ⟨B1, o1 + 1, none⟩ (.int .i64 yn)).setCell ⟨B1, o1 + 2, none⟩ (.string ys)).setCell ⟨B1, o1 + 3, none⟩ (.slice ya ym yc)) (w.heap.size + 1 + 1) #[.int .i64 0, .int .i64 0, .string ⟨#[]⟩, .slice none 0 0] 25 := (hw.block _ (by omega)).trans bbz
      obtain ⟨j0, j1, j2, j3⟩ := h5
      obtain ⟨r0, r1, r2, r3⟩ := h6
      have s0 := hsf (o1)
      have s1 := hsf (o1 + 1)
      have s2 := hsf (o1 + 2)
      have s3 := hsf (o1 + 3)
      have HPF := Lib.hid (And.intro hPF hbF)
      have HZ2 := Lib.hid bbz2
      have hlB1 : B1 < W5.heap.size := by omega
      have hws := withT_small Y p X
      have hlim := limited_any (withT p X Y) _ _ (New.toT HPF.out.1) (by omega)
      have HLIM := Lib.hid hlim
      clear hPF hbF bbz2 hsf hw hwh hws hlim hP hA5 hL5 HA H4 bbx bbz bbo hp
      go_wp2_with fail
      refine HLIM.out.mono ?_
      rintro e W6 ⟨he, B⟩
      have bbz := Box.keep B HZ2.out
      have hb := HPF.out.2.trans (B.mono HPF.out.2.size)
      have hq := New.below HPF.out.1 B (Nat.le_refl _)
      have hlz6 := bbz.lt
      clear B HPF HZ2 HLIM
      cases hr : isB (withT p X Y) with
      | false =>
        obtain rfl : e = .returned (.tuple #[.agg #[.int .i64 0, .int .i64 0, .string ⟨#[]⟩, .slice none 0 0], .int .i64 2]) := by rw [he, limV, limE, hr]; rfl
        have HV : Hid (putV p X Y = zeroTr ∧ putE p X Y = 2) := put_big HXY.out HN.out hr
        clear hr he hq
        have u0 := bbz.cell 0
        have u1 := bbz.cell 1
        have u2 := bbz.cell 2
        have u3 := bbz.cell 3
        have g0 := bbz.frozen 0
        have g1 := bbz.frozen 1
        have g2 := bbz.frozen 2
        have g3 := bbz.frozen 3
        have lz := bbz.lt
        simp only [List.getElem?_toArray, List.getElem?_cons_succ, List.getElem?_cons_zero] at u0 u1 u2 u3
        have z := bbz.four (.int .i64 0) (.int .i64 0) (.string ⟨#[]⟩) (.slice none 0 0)
        have zB := below_four hb (B := w.heap.size + 1 + 1) (by omega) (.int .i64 0) (.int .i64 0) (.string ⟨#[]⟩) (.slice none 0 0)
        have zT : IsP (New w.heap.size ((((W6.setCell ⟨w.heap.size + 1 + 1, 0, none⟩ (.int .i64 0)).setCell ⟨w.heap.size + 1 + 1, 1, none⟩ (.int .i64 0)).setCell ⟨w.heap.size + 1 + 1, 2, none⟩ (.string ⟨#[]⟩)).setCell ⟨w.heap.size + 1 + 1, 3, none⟩ (.slice none 0 0))) ((((W6.setCell ⟨w.heap.size + 1 + 1, 0, none⟩ (.int .i64 0)).setCell ⟨w.heap.size + 1 + 1, 1, none⟩ (.int .i64 0)).setCell ⟨w.heap.size + 1 + 1, 2, none⟩ (.string ⟨#[]⟩)).setCell ⟨w.heap.size + 1 + 1, 3, none⟩ (.slice none 0 0)) zeroTr (.agg #[.int .i64 0, .int .i64 0, .string ⟨#[]⟩, .slice none 0 0]) := zero_isP _ _
        have HZ := Lib.hid (And.intro zB zT)
        have y0 := z.cell 0
        have y1 := z.cell 1
        have y2 := z.cell 2
        have y3 := z.cell 3
        clear z zB zT
        go_wp2_with fail
        clear u0 u1 u2 u3 g0 g1 g2 g3
        generalize ((((W6.setCell ⟨w.heap.size + 1 + 1, 0, none⟩ (.int .i64 0)).setCell ⟨w.heap.size + 1 + 1, 1, none⟩ (.int .i64 0)).setCell ⟨w.heap.size + 1 + 1, 2, none⟩ (.string ⟨#[]⟩)).setCell ⟨w.heap.size + 1 + 1, 3, none⟩ (.slice none 0 0)) = FW at *
        simp at y0 y1 y2 y3
        exact bodyPost_ret (v := .tuple #[.agg #[.int .i64 0, .int .i64 0, .string ⟨#[]⟩, .slice none 0 0], .int .i64 2]) (by simp [results, Tryd.results32, go_sem, y0, y1, y2, y3]) rfl (TqPost.mk HV.out.1 HV.out.2 HZ.out.2 HZ.out.1)
      | true =>
        obtain rfl : e = .returned (.tuple #[.agg #[.int .i64 rk, .int .i64 rn, .string rs, .slice ra rm rc], .int .i64 0]) := by rw [he, limV, limE, hr]; rfl
        have HV : Hid (putV p X Y = withT p X Y ∧ putE p X Y = 0) := put_ok HXY.out HN.out hr
        clear hr he
        have u0 := bbz.cell 0
        have u1 := bbz.cell 1
        have u2 := bbz.cell 2
        have u3 := bbz.cell 3
        have g0 := bbz.frozen 0
        have g1 := bbz.frozen 1
        have g2 := bbz.frozen 2
        have g3 := bbz.frozen 3
        have lz := bbz.lt
        simp only [List.getElem?_toArray, List.getElem?_cons_succ, List.getElem?_cons_zero] at u0 u1 u2 u3
        have z := bbz.four (.int .i64 rk) (.int .i64 rn) (.string rs) (.slice ra rm rc)
        have zB := below_four hb (B := w.heap.size + 1 + 1) (by omega) (.int .i64 rk) (.int .i64 rn) (.string rs) (.slice ra rm rc)
        have zT : IsP (New w.heap.size ((((W6.setCell ⟨w.heap.size + 1 + 1, 0, none⟩ (.int .i64 rk)).setCell ⟨w.heap.size + 1 + 1, 1, none⟩ (.int .i64 rn)).setCell ⟨w.heap.size + 1 + 1, 2, none⟩ (.string rs)).setCell ⟨w.heap.size + 1 + 1, 3, none⟩ (.slice ra rm rc))) ((((W6.setCell ⟨w.heap.size + 1 + 1, 0, none⟩ (.int .i64 rk)).setCell ⟨w.heap.size + 1 + 1, 1, none⟩ (.int .i64 rn)).setCell ⟨w.heap.size + 1 + 1, 2, none⟩ (.string rs)).setCell ⟨w.heap.size + 1 + 1, 3, none⟩ (.slice ra rm rc)) (withT p X Y) (.agg #[.int .i64 rk, .int .i64 rn, .string rs, .slice ra rm rc]) := hq.four (lo' := w.heap.size) (by omega) (by omega) (.int .i64 rk) (.int .i64 rn) (.string rs) (.slice ra rm rc)
        have HZ := Lib.hid (And.intro zB zT)
        have y0 := z.cell 0
        have y1 := z.cell 1
        have y2 := z.cell 2
        have y3 := z.cell 3
        clear z zB zT
        clear hq
        go_wp2_with fail
        clear u0 u1 u2 u3 g0 g1 g2 g3
        generalize ((((W6.setCell ⟨w.heap.size + 1 + 1, 0, none⟩ (.int .i64 rk)).setCell ⟨w.heap.size + 1 + 1, 1, none⟩ (.int .i64 rn)).setCell ⟨w.heap.size + 1 + 1, 2, none⟩ (.string rs)).setCell ⟨w.heap.size + 1 + 1, 3, none⟩ (.slice ra rm rc)) = FW at *
        simp at y0 y1 y2 y3
        exact bodyPost_ret (v := .tuple #[.agg #[.int .i64 rk, .int .i64 rn, .string rs, .slice ra rm rc], .int .i64 0]) (by simp [results, Tryd.results32, go_sem, y0, y1, y2, y3]) rfl (TqPost.mk HV.out.1 HV.out.2 HZ.out.2 HZ.out.1)
end Go.Proofs.YtdigiaigbcfccaaDoor
