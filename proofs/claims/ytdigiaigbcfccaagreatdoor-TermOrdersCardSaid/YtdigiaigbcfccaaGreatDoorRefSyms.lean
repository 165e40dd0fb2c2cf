/- The second reading of Symbols. -/
import Derived.Test.YtdigiaigbcfccaaGreatDoorRefSym
import Derived.Test.YtdigiaigbcfccaaGreatDoorRefVars
import Derived.Test.YtdigiaigbcfccaaGreatDoorSbs
import Derived.Test.YtdigiaigbcfccaaGreatDoorShift
namespace Go.Proofs.YtdigiaigbcfccaaGreatDoor
open Go.RowKit Go

mutual
/-- The symbols of a tree, put among those that are there. -/
def syT : Tr → List Sym → List Sym
  | .node k _ s ts, S => syL ts (if k = 3 ∨ k = 5 then insY S (s, ts.length) else S)
def syL : List Tr → List Sym → List Sym
  | [], S => S
  | t :: ts, S => syL ts (syT t S)
end
theorem syL_take : ∀ (ts : List Tr) (S : List Sym) (j : Nat) (h : j < ts.length), syL (ts.take (j + 1)) S = syT ts[j] (syL (ts.take j) S)
  | [], _, _, h => by simp at h
  | t :: ts, S, 0, _ => by simp [syL]
  | t :: ts, S, j + 1, h => by
    simp only [List.take_succ_cons, syL, List.getElem_cons_succ]
    exact syL_take ts _ j (by simpa using h)
mutual
theorem syT_len : ∀ (T : Tr) (S : List Sym), (syT T S).length ≤ S.length + T.size
  | .node k x s ts, S => by
    rw [syT, Tr.size]
    split
    · have h1 := syL_len ts (insY S (s, ts.length))
      have h2 := insG_len (s, ts.length) S false
      unfold insY at h1 ⊢
      omega
    · have := syL_len ts S
      omega
theorem syL_len : ∀ (ts : List Tr) (S : List Sym), (syL ts S).length ≤ S.length + sizeL ts
  | [], S => by simp [syL]
  | t :: ts, S => by
    rw [syL]
    have h1 := syL_len ts (syT t S)
    have h2 := syT_len t S
    simp only [sizeL]
    omega
end
def SyPost (base : Nat) (ns : List Sym) (w : World) (e : Ending) (w' : World) : Prop := ∃ v', e = .returned v' ∧ w'.ownsRow base 42 2 v' ns.length (symsE ns) ∧ Below w.heap.size w w'
/-- Between two trees of the row: the node's box lies, and the symbols so far. -/
structure SyAt (base : Nat) (w : World) (ck : Array Value) (ov : Value) (ns : List Sym) (wr : World) : Prop where
  box : Box wr w.heap.size ck 24
  own : wr.ownsRow base 42 2 ov ns.length (symsE ns)
  below : Below w.heap.size w wr
theorem SyAt.step {base : Nat} {w : World} {ck : Array Value} {ov v' : Value} {ns ns' : List Sym} {wr W : World} (h : SyAt base w ck ov ns wr) (hn : W.ownsRow base 42 2 v' ns'.length (symsE ns')) (hb : Below wr.heap.size wr W) : SyAt base w ck v' ns' W :=
  ⟨h.box.keep hb, hn, h.below.trans (hb.mono h.below.size)⟩

set_option maxRecDepth 100000 in
set_option maxHeartbeats 4000000 in
theorem refSymbols1_any (base n₀ : Nat) (T : Tr) : ∀ (S : List Sym) (v o : Value) (w : World), IsT n₀ w T v → w.ownsRow base 42 2 o S.length (symsE S) → base ≤ w.heap.size → n₀ ≤ w.heap.size → S.length + T.size ≤ 1000000 →
    Calls Tryz.prog 45 #[v, o] w (SyPost base (syT T S) w) := by
  induction T using Tr.ind with
  | h k x s ts ih =>
    intro S v o w hT hv hbs hn₀ hsz
    obtain ⟨a, c, rfl, -, -, -, h4, h5, hts⟩ := hT.open
    simp only [Tr.size] at hsz
    have hln := length_le_sizeL ts
    have hlm : ts.length ≤ 9223372036854775807 := by omega
    have HTS := Lib.hid hts
    have HI := Lib.hid ih
    clear ih hts hT
    have hA0 : SyAt base w #[.int .i64 k, .int .i64 x, .string s, .slice a ts.length c] o S (w.alloc (.cells #[.int .i64 k, .int .i64 x, .string s, .slice a ts.length c] 24)) := ⟨Box.at rfl, hv.kept (World.grownBy_alloc w _ none) (by rcases o.ownBlock with _ | _ <;> simp), below_a1 (Nat.le_refl _) _⟩
    clear hv
    by_cases hk : k = 3
    · subst hk
      have hq := by
        have := hA0
        exact this.box
      have q0 := hq.cell 0
      have q2 := hq.cell 2
      have q3 := hq.cell 3
      have l0 := hq.lt
      simp only [List.getElem?_toArray, List.getElem?_cons_succ, List.getElem?_cons_zero] at q0 q2 q3
      have hin := insert_any base S s ts.length o (w.alloc (.cells #[.int .i64 3, .int .i64 x, .string s, .slice a ts.length c] 24)) hA0.own (by omega)
      have HIN := Lib.hid hin
      have HS0 := Lib.hid hA0
      have hvr : Hid (syT (.node 3 x s ts) S = syL ts (insY S (s, ts.length))) := by rw [Hid, syT, if_pos (by simp)]
      clear hin hA0 hq
      go_enter Tryz.func45, Tryz.ntmps45
      go_wp2_with fail
      refine HIN.out.mono ?_
      rintro e W1 ⟨v1, rfl, h1, h2⟩
      have HS1 := Lib.hid (HS0.out.step (row_base h1 (by simp; omega)) h2)
      clear h1 h2 q0 q2 q3 l0
      go_wp2_with fail
      go_loopw [1, 5] (fun sv iv wr => ∃ (j : Nat) (ov : Value), j ≤ ts.length ∧ ov = sv ∧ iv = .int .i64 j ∧ SyAt base w #[.int .i64 3, .int .i64 x, .string s, .slice a ts.length c] ov (syL (ts.take j) (insY S (s, ts.length))) wr) (fun _ iv _ => ts.length - (intOf iv).toNat)
      case atStart => exact ⟨0, _, Nat.zero_le _, rfl, rfl, HS1.out⟩
      case round =>
        obtain ⟨j, ov, hj, rfl, rfl, hS⟩ := hrel
        have HS := Lib.hid hS
        have q3 := hS.box.cell 3
        have l0 := hS.box.lt
        simp only [List.getElem?_toArray, List.getElem?_cons_succ, List.getElem?_cons_zero] at q3
        have hBr := hS.below.mono hn₀
        clear hS
        by_cases hlt : j < ts.length
        · obtain ⟨b, off, rfl, hbb⟩ := HTS.out.addr (by omega)
          obtain ⟨tk, tn, tss, tl, ta, tc, te, d0, d1, d2, d3, ht⟩ := HTS.out.node' hbb hBr j hlt
          have hbw : b < wr.heap.size := by omega
          have hlv := syL_len (ts.take j) (insY S (s, ts.length))
          have hs1l := insG_len (s, ts.length) S false
          have hs2l : (insY S (s, ts.length)).length = (insG (s, ts.length) S false).length := rfl
          have hcall := HI.out ts[j] (List.getElem_mem hlt) (syL (ts.take j) (insY S (s, ts.length))) _ ov wr (ht.below hBr) HS.out.own (by have := HS.out.below.size; omega) (by have := HS.out.below.size; omega) (by have h1 := sizeL_take_add hlt; omega)
          have HC := Lib.hid hcall
          clear te ht hcall hBr hlv hs1l hs2l
          go_wp2_with fail
          refine HC.out.mono ?_
          rintro e W5 ⟨v5, rfl, hn5, hb5⟩
          have HN := Lib.hid (HS.out.step hn5 hb5)
          clear HC d0 d1 d2 d3 q3 l0 hn5 hb5
          have HN2 : Hid (SyAt base w #[.int .i64 3, .int .i64 x, .string s, .slice (some ⟨b, off, none⟩) ts.length c] v5 (syL (ts.take (j + 1)) (insY S (s, ts.length))) W5) := by rw [Hid, syL_take ts _ j hlt]; exact HN.out
          go_wp2_with fail
          go_roundw
          case rel => exact ⟨j + 1, _, hlt, rfl, by go_num, HN2.out⟩
          case measure => simp [intOf]; omega
        · have et : ts.take j = ts := List.take_of_length_le (by omega)
          have hres : SyPost base (syT (.node 3 x s ts) S) w (.returned ov) wr := ⟨_, rfl, by have := HS.out.own; rw [et] at this; rw [hvr.out]; exact this, HS.out.below⟩
          have HR := Lib.hid hres
          clear hres hBr et
          go_wp2_with fail
          go_ret
          exact HR.out
    · by_cases hk5 : k = 5
      · subst hk5
        have hq := by
          have := hA0
          exact this.box
        have q0 := hq.cell 0
        have q2 := hq.cell 2
        have q3 := hq.cell 3
        have l0 := hq.lt
        simp only [List.getElem?_toArray, List.getElem?_cons_succ, List.getElem?_cons_zero] at q0 q2 q3
        have hin := insert_any base S s ts.length o (w.alloc (.cells #[.int .i64 5, .int .i64 x, .string s, .slice a ts.length c] 24)) hA0.own (by omega)
        have HIN := Lib.hid hin
        have HS0 := Lib.hid hA0
        have hvr : Hid (syT (.node 5 x s ts) S = syL ts (insY S (s, ts.length))) := by rw [Hid, syT, if_pos (by simp)]
        clear hin hA0 hq
        go_enter Tryz.func45, Tryz.ntmps45
        go_wp2_with fail
        refine HIN.out.mono ?_
        rintro e W1 ⟨v1, rfl, h1, h2⟩
        have HS1 := Lib.hid (HS0.out.step (row_base h1 (by simp; omega)) h2)
        clear h1 h2 q0 q2 q3 l0
        go_wp2_with fail
        go_loopw [1, 5] (fun sv iv wr => ∃ (j : Nat) (ov : Value), j ≤ ts.length ∧ ov = sv ∧ iv = .int .i64 j ∧ SyAt base w #[.int .i64 5, .int .i64 x, .string s, .slice a ts.length c] ov (syL (ts.take j) (insY S (s, ts.length))) wr) (fun _ iv _ => ts.length - (intOf iv).toNat)
        case atStart => exact ⟨0, _, Nat.zero_le _, rfl, rfl, HS1.out⟩
        case round =>
          obtain ⟨j, ov, hj, rfl, rfl, hS⟩ := hrel
          have HS := Lib.hid hS
          have q3 := hS.box.cell 3
          have l0 := hS.box.lt
          simp only [List.getElem?_toArray, List.getElem?_cons_succ, List.getElem?_cons_zero] at q3
          have hBr := hS.below.mono hn₀
          clear hS
          by_cases hlt : j < ts.length
          · obtain ⟨b, off, rfl, hbb⟩ := HTS.out.addr (by omega)
            obtain ⟨tk, tn, tss, tl, ta, tc, te, d0, d1, d2, d3, ht⟩ := HTS.out.node' hbb hBr j hlt
            have hbw : b < wr.heap.size := by omega
            have hlv := syL_len (ts.take j) (insY S (s, ts.length))
            have hs1l := insG_len (s, ts.length) S false
            have hs2l : (insY S (s, ts.length)).length = (insG (s, ts.length) S false).length := rfl
            have hcall := HI.out ts[j] (List.getElem_mem hlt) (syL (ts.take j) (insY S (s, ts.length))) _ ov wr (ht.below hBr) HS.out.own (by have := HS.out.below.size; omega) (by have := HS.out.below.size; omega) (by have h1 := sizeL_take_add hlt; omega)
            have HC := Lib.hid hcall
            clear te ht hcall hBr hlv hs1l hs2l
            go_wp2_with fail
            refine HC.out.mono ?_
            rintro e W5 ⟨v5, rfl, hn5, hb5⟩
            have HN := Lib.hid (HS.out.step hn5 hb5)
            clear HC d0 d1 d2 d3 q3 l0 hn5 hb5
            have HN2 : Hid (SyAt base w #[.int .i64 5, .int .i64 x, .string s, .slice (some ⟨b, off, none⟩) ts.length c] v5 (syL (ts.take (j + 1)) (insY S (s, ts.length))) W5) := by rw [Hid, syL_take ts _ j hlt]; exact HN.out
            go_wp2_with fail
            go_roundw
            case rel => exact ⟨j + 1, _, hlt, rfl, by go_num, HN2.out⟩
            case measure => simp [intOf]; omega
          · have et : ts.take j = ts := List.take_of_length_le (by omega)
            have hres : SyPost base (syT (.node 5 x s ts) S) w (.returned ov) wr := ⟨_, rfl, by have := HS.out.own; rw [et] at this; rw [hvr.out]; exact this, HS.out.below⟩
            have HR := Lib.hid hres
            clear hres hBr et
            go_wp2_with fail
            go_ret
            exact HR.out
      · have hvr : Hid (syT (.node k x s ts) S = syL ts S) := by rw [Hid, syT, if_neg (by simp [hk, hk5])]
        have hk' : (k == 3) = false := by simpa using hk
        have hk5' : (k == 5) = false := by simpa using hk5
        have q0 := hA0.box.cell 0
        have q2 := hA0.box.cell 2
        have q3 := hA0.box.cell 3
        have l0 := hA0.box.lt
        simp only [List.getElem?_toArray, List.getElem?_cons_succ, List.getElem?_cons_zero] at q0 q2 q3
        have HS0 := Lib.hid hA0
        clear hA0 hk hk5
        go_enter Tryz.func45, Tryz.ntmps45
        go_wp2_with fail
        clear q0 q2 q3 l0
        go_loopw [1, 5] (fun sv iv wr => ∃ (j : Nat) (ov : Value), j ≤ ts.length ∧ ov = sv ∧ iv = .int .i64 j ∧ SyAt base w #[.int .i64 k, .int .i64 x, .string s, .slice a ts.length c] ov (syL (ts.take j) S) wr) (fun _ iv _ => ts.length - (intOf iv).toNat)
        case atStart => exact ⟨0, _, Nat.zero_le _, rfl, rfl, HS0.out⟩
        case round =>
          obtain ⟨j, ov, hj, rfl, rfl, hS⟩ := hrel
          have HS := Lib.hid hS
          have q3 := hS.box.cell 3
          have l0 := hS.box.lt
          simp only [List.getElem?_toArray, List.getElem?_cons_succ, List.getElem?_cons_zero] at q3
          have hBr := hS.below.mono hn₀
          clear hS
          by_cases hlt : j < ts.length
          · obtain ⟨b, off, rfl, hbb⟩ := HTS.out.addr (by omega)
            obtain ⟨tk, tn, tss, tl, ta, tc, te, d0, d1, d2, d3, ht⟩ := HTS.out.node' hbb hBr j hlt
            have hbw : b < wr.heap.size := by omega
            have hlv := syL_len (ts.take j) S
            have hs1l := insG_len (s, ts.length) S false
            have hs2l : (insY S (s, ts.length)).length = (insG (s, ts.length) S false).length := rfl
            have hcall := HI.out ts[j] (List.getElem_mem hlt) (syL (ts.take j) S) _ ov wr (ht.below hBr) HS.out.own (by have := HS.out.below.size; omega) (by have := HS.out.below.size; omega) (by have h1 := sizeL_take_add hlt; omega)
            have HC := Lib.hid hcall
            clear te ht hcall hBr hlv hs1l hs2l
            go_wp2_with fail
            refine HC.out.mono ?_
            rintro e W5 ⟨v5, rfl, hn5, hb5⟩
            have HN := Lib.hid (HS.out.step hn5 hb5)
            clear HC d0 d1 d2 d3 q3 l0 hn5 hb5
            have HN2 : Hid (SyAt base w #[.int .i64 k, .int .i64 x, .string s, .slice (some ⟨b, off, none⟩) ts.length c] v5 (syL (ts.take (j + 1)) S) W5) := by rw [Hid, syL_take ts _ j hlt]; exact HN.out
            go_wp2_with fail
            go_roundw
            case rel => exact ⟨j + 1, _, hlt, rfl, by go_num, HN2.out⟩
            case measure => simp [intOf]; omega
          · have et : ts.take j = ts := List.take_of_length_le (by omega)
            have hres : SyPost base (syT (.node k x s ts) S) w (.returned ov) wr := ⟨_, rfl, by have := HS.out.own; rw [et] at this; rw [hvr.out]; exact this, HS.out.below⟩
            have HR := Lib.hid hres
            clear hres hBr et
            go_wp2_with fail
            go_ret
            exact HR.out
end Go.Proofs.YtdigiaigbcfccaaGreatDoor

/- Both readings of the symbols of a tree are the same list. -/
namespace Go.Proofs.YtdigiaigbcfccaaGreatDoor
open Go.RowKit Go

theorem sasc_eq : ∀ l m : List Sym, SAsc l → SAsc m → (∀ x, x ∈ l ↔ x ∈ m) → l = m
  | [], m, _, _, h => by
    refine (List.eq_nil_iff_forall_not_mem.2 fun x hx => ?_).symm
    have := (h x).2 hx
    cases this
  | a :: l, [], _, _, h => by
    have := (h a).1 (by simp)
    cases this
  | a :: l, b :: m, hl, hm, h => by
    obtain ⟨h1, h2⟩ := List.pairwise_cons.1 hl
    obtain ⟨h3, h4⟩ := List.pairwise_cons.1 hm
    have hirr : ∀ x : Sym, ¬ symO x x < 0 := fun x => by rw [(symO_zero x x).2 rfl]; decide
    have hab : a = b := by
      rcases List.mem_cons.1 ((h a).1 (by simp)) with e | e
      · exact e
      · rcases List.mem_cons.1 ((h b).2 (by simp)) with e' | e'
        · exact e'.symm
        · exact absurd (symO_lt_trans (h3 a e) (h1 b e')) (hirr b)
    subst hab
    refine congrArg (a :: ·) (sasc_eq l m h2 h4 fun x => ⟨fun hx => ?_, fun hx => ?_⟩)
    · rcases List.mem_cons.1 ((h x).1 (by simp [hx])) with e | e
      · subst e; exact absurd (h1 x hx) (hirr x)
      · exact e
    · rcases List.mem_cons.1 ((h x).2 (by simp [hx])) with e | e
      · subst e; exact absurd (h3 x hx) (hirr x)
      · exact e
theorem asc_strict : ∀ l : List Sym, Asc l → l.Nodup → SAsc l
  | [], _, _ => List.Pairwise.nil
  | a :: l, h, hn => by
    obtain ⟨h1, h2⟩ := List.pairwise_cons.1 h
    obtain ⟨h3, h4⟩ := List.nodup_cons.1 hn
    refine List.pairwise_cons.2 ⟨fun y hy => ?_, asc_strict l h2 h4⟩
    have h5 := h1 y hy
    have h6 : symO a y ≠ 0 := fun e => h3 ((symO_zero a y).1 e ▸ hy)
    omega
theorem symsP_mem (x : Sym) : ∀ (xs : List (Int × Tr)) (S : List Sym), x ∈ symsP S xs ↔ x ∈ S ∨ ∃ y ∈ xs, isY y.2 = true ∧ symT y.2 = x
  | [], S => by simp [symsP]
  | z :: xs, S => by
    have ih := symsP_mem x xs (addY S z)
    have e : symsP S (z :: xs) = symsP (addY S z) xs := rfl
    rw [e, ih]
    unfold addY
    by_cases hz : isY z.2 = true
    · rw [if_pos hz]
      simp only [List.mem_append, List.mem_cons, List.not_mem_nil, or_false, exists_eq_or_imp, hz, true_and, or_assoc]
      rw [show (x = symT z.2) = (symT z.2 = x) from propext eq_comm]
    · rw [if_neg hz]
      simp [hz]
mutual
theorem syT_spec (x : Sym) : ∀ (T : Tr) (d : Int) (S : List Sym), SAsc S → SAsc (syT T S) ∧ (x ∈ syT T S ↔ x ∈ S ∨ ∃ y ∈ preT d T, isY y.2 = true ∧ symT y.2 = x)
  | .node k n s l, d, S, h => by
    have hin := insG_spec (s, (l.length : Int)) S h
    have hy : isY (.node k n s l) = decide (k = 3 ∨ k = 5) := by
      simp only [isY, Tr.kind, Bool.decide_or]
      rfl
    rw [syT, preT]
    by_cases hk : k = 3 ∨ k = 5
    · rw [if_pos hk]
      have := syL_spec x l (d + 1) (insY S (s, l.length)) hin.1
      refine ⟨this.1, this.2.trans ?_⟩
      have h3 := hin.2 x
      unfold insY
      rw [h3]
      simp only [List.mem_cons, exists_eq_or_imp, hy, hk, decide_true, true_and, symT]
      constructor
      · rintro ((h | h) | h)
        · exact .inr (.inl h.symm)
        · exact .inl h
        · exact .inr (.inr h)
      · rintro (h | h | h)
        · exact .inl (.inr h)
        · exact .inl (.inl h.symm)
        · exact .inr h
    · rw [if_neg hk]
      have := syL_spec x l (d + 1) S h
      refine ⟨this.1, this.2.trans ?_⟩
      simp [hy, hk]
theorem syL_spec (x : Sym) : ∀ (l : List Tr) (d : Int) (S : List Sym), SAsc S → SAsc (syL l S) ∧ (x ∈ syL l S ↔ x ∈ S ∨ ∃ y ∈ preL d l, isY y.2 = true ∧ symT y.2 = x)
  | [], d, S, h => by simp [syL, preL, h]
  | t :: ts, d, S, h => by
    have h1 := syT_spec x t d S h
    have h2 := syL_spec x ts d (syT t S) h1.1
    rw [syL, preL]
    refine ⟨h2.1, h2.2.trans ?_⟩
    rw [h1.2]
    simp only [List.mem_append, or_and_right, exists_or, or_assoc]
end
theorem ok_node {k n : Int} {s : ByteArray} {l : List Tr} (h : nodeB k n s l.length = true) (hy : isY (.node k n s l) = true) : okS (s, (l.length : Int)) := by
  simp only [isY, Tr.kind, Bool.or_eq_true, beq_iff_eq] at hy
  unfold nodeB at h
  rcases hy with rfl | rfl
  · simp [nameB] at h
    obtain ⟨⟨_, ⟨_, h1⟩, _⟩, rfl⟩ := h
    exact ⟨show s.size ≤ maxLen by unfold maxLen; omega, by unfold okI; simp⟩
  · simp [nameB] at h
    obtain ⟨⟨⟨_, ⟨_, h1⟩, _⟩, _⟩, h2⟩ := h
    exact ⟨show s.size ≤ maxLen by unfold maxLen; omega, by unfold okI; simp; omega⟩
/-- What Symbols collects and sorts is what the second reading puts in order. -/
theorem syms_same {T : Tr} (hT : isB T = true) {xs : List Sym} (hk : KeyP (symsP [] (preT 1 T)) xs) (ha : Asc xs) : xs = syT T [] := by
  refine sasc_eq _ _ (asc_strict _ ha hk.1) (syT_spec (⟨#[]⟩, 0) T 1 [] List.Pairwise.nil).1 fun x => ?_
  rw [(syT_spec x T 1 [] List.Pairwise.nil).2, ← symsP_mem]
  have hok : x ∈ symsP [] (preT 1 T) → okS x := fun hx => by
    rcases (symsP_mem x _ _).1 hx with h | ⟨y, hy, h1, rfl⟩
    · cases h
    · rw [isB, Bool.and_eq_true] at hT
      have h2 := List.all_eq_true.1 hT.2 y hy
      obtain ⟨d, T'⟩ := y
      cases T' with
      | node k n s l => exact ok_node h2 h1
  exact ⟨fun hx => (hk.2.2 x (hk.2.1 x hx)).1 hx, fun hx => (hk.2.2 x (hok hx)).2 hx⟩
end Go.Proofs.YtdigiaigbcfccaaGreatDoor
